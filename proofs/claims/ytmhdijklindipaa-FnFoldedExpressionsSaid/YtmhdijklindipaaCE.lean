import Derived.Test.YtmhdijklindipaaCD
import Derived.Test.YtmhdijklindipaaLawA
import Derived.WalkKit
import Derived.WalkSpells
import Derived.WalkLawsBesides
import Derived.Lib.Hide
namespace Go.Proofs.Ytmhdijklindipaa
open Go.RowKit
set_option linter.unusedVariables false

set_option maxHeartbeats 4000000 in
theorem cdCode_any (L B : Nat) (A : Option Addr) (c : Nat) (es : List In) (w : World) (hl : es.length ≤ 1048576) (hes : RS In.enc 5 w L B A es) (hB : B ≤ w.heap.size) :
    Calls Try.prog 136 #[.slice A es.length c] w fun e w' => e = .returned (.bool (okCode es)) ∧ Below w.heap.size w w' := by
  have hE := Lib.hid hes
  have hBB := Lib.hid hB
  have hBel0 := Below.refl w.heap.size w
  clear hes hB
  by_cases h24 : es.length ≤ 40
  · have hG : Hid (okCode es = es.all goodIn) := by simp [Hid, okCode, h24]
    go_enter Try.func136, Try.ntmps136
    go_wp2
    go_loopw [10] (fun i wr => ∃ k : Nat, k ≤ es.length ∧ i = .int .i64 k ∧ (es.take k).all goodIn = true ∧ Below w.heap.size w wr) (fun i _ => es.length - (intOf i).toNat)
    case atStart => exact ⟨0, Nat.zero_le _, rfl, rfl, hBel0⟩
    case round =>
      obtain ⟨k, hk, rfl, hok, hbel⟩ := hrel
      have hOK := Lib.hid hok
      clear hok
      by_cases hlt : k < es.length
      · obtain ⟨b, o, rfl, ⟨_, hbB⟩, hc⟩ := In.cells (hE.out.below hbel hBB.out) (by omega)
        obtain ⟨c1, c2, c3, c4, c5⟩ := hc k hlt
        clear hc
        have hT := Lib.hid (all_snoc hlt)
        generalize es[k] = nd at *
        obtain ⟨op, d, a, bb, m⟩ := nd
        have hBelB := Lib.hid hbel
        go_wp2_with (fail)
        refine (cdGood_any _ _ _ _ _ _).mono ?_
        rintro e w2 ⟨rfl, hb2⟩
        have hbel2 : Below w.heap.size w w2 := hBelB.out.trans (((Below.refl _ _).alloc hBelB.out.size _).trans (hb2.mono (by simp; have := hBelB.out.size; omega)))
        clear hb2 hbel c1 c2 c3 c4 c5
        cases hn : goodIn ⟨op, d, a, bb, m⟩
        · have hF : Hid (okCode es = false) := by
            rw [Hid, hG.out]; exact all_of_take (k := k + 1) (by rw [hT.out, hn]; simp)
          go_wp2
          go_ret
          exact ⟨ret_bool hF.out.symm, hbel2⟩
        · have hN := Lib.hid hn
          go_wp2
          go_roundw
          case rel => exact ⟨k + 1, by omega, by go_num, by rw [hT.out, hOK.out, hN.out]; rfl, hbel2⟩
          case measure => simp [intOf]; omega
      · obtain rfl : k = es.length := by omega
        have hF : Hid (okCode es = true) := by have := hOK.out; rw [List.take_length] at this; rw [Hid, hG.out, this]
        go_wp2
        go_ret
        exact ⟨ret_bool hF.out.symm, hbel⟩
  · have hG : Hid (okCode es = false) := by simp [Hid, okCode, h24]
    have h24' : (40 : Int) < (es.length : Int) := by omega
    clear h24
    go_enter Try.func136, Try.ntmps136
    go_wp2
    go_ret
    exact ⟨ret_bool hG.out.symm, hBel0⟩

set_option maxHeartbeats 4000000 in
theorem IsCode_any (L B : Nat) (A : Option Addr) (c : Nat) (es : List In) (w : World) (hl : es.length ≤ 1048576) (hes : RS In.enc 5 w L B A es) (hB : B ≤ w.heap.size) :
    Calls Try.prog 42 #[.slice A es.length c] w fun e w' => e = .returned (.bool (okCode es)) ∧ Below w.heap.size w w' := by
  have hE := Lib.hid hes
  have hBB := Lib.hid hB
  have hBel0 := Below.refl w.heap.size w
  clear hes hB
  by_cases h24 : es.length ≤ 40
  · have hG : Hid (okCode es = es.all goodIn) := by simp [Hid, okCode, h24]
    go_enter Try.func42, Try.ntmps42
    go_wp2
    go_loopw [10] (fun i wr => ∃ k : Nat, k ≤ es.length ∧ i = .int .i64 k ∧ (es.take k).all goodIn = true ∧ Below w.heap.size w wr) (fun i _ => es.length - (intOf i).toNat)
    case atStart => exact ⟨0, Nat.zero_le _, rfl, rfl, hBel0⟩
    case round =>
      obtain ⟨k, hk, rfl, hok, hbel⟩ := hrel
      have hOK := Lib.hid hok
      clear hok
      by_cases hlt : k < es.length
      · obtain ⟨b, o, rfl, ⟨_, hbB⟩, hc⟩ := In.cells (hE.out.below hbel hBB.out) (by omega)
        obtain ⟨c1, c2, c3, c4, c5⟩ := hc k hlt
        clear hc
        have hT := Lib.hid (all_snoc hlt)
        generalize es[k] = nd at *
        obtain ⟨op, d, a, bb, m⟩ := nd
        have hBelB := Lib.hid hbel
        go_wp2_with (fail)
        refine (IsInstr_any _ _ _ _ _ _).mono ?_
        rintro e w2 ⟨rfl, hb2⟩
        have hbel2 : Below w.heap.size w w2 := hBelB.out.trans (((Below.refl _ _).alloc hBelB.out.size _).trans (hb2.mono (by simp; have := hBelB.out.size; omega)))
        clear hb2 hbel c1 c2 c3 c4 c5
        cases hn : goodIn ⟨op, d, a, bb, m⟩
        · have hF : Hid (okCode es = false) := by
            rw [Hid, hG.out]; exact all_of_take (k := k + 1) (by rw [hT.out, hn]; simp)
          go_wp2
          go_ret
          exact ⟨ret_bool hF.out.symm, hbel2⟩
        · have hN := Lib.hid hn
          go_wp2
          go_roundw
          case rel => exact ⟨k + 1, by omega, by go_num, by rw [hT.out, hOK.out, hN.out]; rfl, hbel2⟩
          case measure => simp [intOf]; omega
      · obtain rfl : k = es.length := by omega
        have hF : Hid (okCode es = true) := by have := hOK.out; rw [List.take_length] at this; rw [Hid, hG.out, this]
        go_wp2
        go_ret
        exact ⟨ret_bool hF.out.symm, hbel⟩
  · have hG : Hid (okCode es = false) := by simp [Hid, okCode, h24]
    have h24' : (40 : Int) < (es.length : Int) := by omega
    clear h24
    go_enter Try.func42, Try.ntmps42
    go_wp2
    go_ret
    exact ⟨ret_bool hG.out.symm, hBel0⟩

/-- The cost of an op that is one. -/
theorem cdCost_any (s : ByteArray) (w : World) (hok : (fm s).ok = true) :
    Calls Try.prog 158 #[.string s] w fun e w' => e = .returned (.int .i64 (fm s).c) ∧ w = w' := by
  have H0 : ∀ k : Fm, (fm s = k) → Hid ((fm s).c = k.c) := fun _ h => by rw [h]; exact rfl
  rcases cop_cases s with h|h|h|h|h|h|h|h|h|h|h|h|h|h|h|h|h|h|h|h|h
  · have H := H0 _ (fm_set h); clear H0 hok
    go_enter Try.func158, Try.ntmps158
    go_wp2
    go_ret
    exact ⟨ret_int H.out.symm, rfl⟩
  · have H := H0 _ (fm_mov h); clear H0 hok
    go_enter Try.func158, Try.ntmps158
    go_wp2
    go_ret
    exact ⟨ret_int H.out.symm, rfl⟩
  · have H := H0 _ (fm_not h); clear H0 hok
    go_enter Try.func158, Try.ntmps158
    go_wp2
    go_ret
    exact ⟨ret_int H.out.symm, rfl⟩
  · have H := H0 _ (fm_neg h); clear H0 hok
    go_enter Try.func158, Try.ntmps158
    go_wp2
    go_ret
    exact ⟨ret_int H.out.symm, rfl⟩
  · have H := H0 _ (fm_add h); clear H0 hok
    go_enter Try.func158, Try.ntmps158
    go_wp2
    go_ret
    exact ⟨ret_int H.out.symm, rfl⟩
  · have H := H0 _ (fm_sub h); clear H0 hok
    go_enter Try.func158, Try.ntmps158
    go_wp2
    go_ret
    exact ⟨ret_int H.out.symm, rfl⟩
  · have H := H0 _ (fm_and h); clear H0 hok
    go_enter Try.func158, Try.ntmps158
    go_wp2
    go_ret
    exact ⟨ret_int H.out.symm, rfl⟩
  · have H := H0 _ (fm_or h); clear H0 hok
    go_enter Try.func158, Try.ntmps158
    go_wp2
    go_ret
    exact ⟨ret_int H.out.symm, rfl⟩
  · have H := H0 _ (fm_xor h); clear H0 hok
    go_enter Try.func158, Try.ntmps158
    go_wp2
    go_ret
    exact ⟨ret_int H.out.symm, rfl⟩
  · have H := H0 _ (fm_less h); clear H0 hok
    go_enter Try.func158, Try.ntmps158
    go_wp2
    go_ret
    exact ⟨ret_int H.out.symm, rfl⟩
  · have H := H0 _ (fm_eq h); clear H0 hok
    go_enter Try.func158, Try.ntmps158
    go_wp2
    go_ret
    exact ⟨ret_int H.out.symm, rfl⟩
  · have H := H0 _ (fm_shl h); clear H0 hok
    go_enter Try.func158, Try.ntmps158
    go_wp2
    go_ret
    exact ⟨ret_int H.out.symm, rfl⟩
  · have H := H0 _ (fm_shr h); clear H0 hok
    go_enter Try.func158, Try.ntmps158
    go_wp2
    go_ret
    exact ⟨ret_int H.out.symm, rfl⟩
  · have H := H0 _ (fm_mul h); clear H0 hok
    go_enter Try.func158, Try.ntmps158
    go_wp2
    go_ret
    exact ⟨ret_int H.out.symm, rfl⟩
  · have H := H0 _ (fm_addi h); clear H0 hok
    go_enter Try.func158, Try.ntmps158
    go_wp2
    go_ret
    exact ⟨ret_int H.out.symm, rfl⟩
  · have H := H0 _ (fm_andi h); clear H0 hok
    go_enter Try.func158, Try.ntmps158
    go_wp2
    go_ret
    exact ⟨ret_int H.out.symm, rfl⟩
  · have H := H0 _ (fm_xori h); clear H0 hok
    go_enter Try.func158, Try.ntmps158
    go_wp2
    go_ret
    exact ⟨ret_int H.out.symm, rfl⟩
  · have H := H0 _ (fm_shli h); clear H0 hok
    go_enter Try.func158, Try.ntmps158
    go_wp2
    go_ret
    exact ⟨ret_int H.out.symm, rfl⟩
  · have H := H0 _ (fm_shri h); clear H0 hok
    go_enter Try.func158, Try.ntmps158
    go_wp2
    go_ret
    exact ⟨ret_int H.out.symm, rfl⟩
  · have H := H0 _ (fm_lea h); clear H0 hok
    go_enter Try.func158, Try.ntmps158
    go_wp2
    go_ret
    exact ⟨ret_int H.out.symm, rfl⟩
  · rw [fm_no h] at hok; cases hok

theorem costOf_any (op : ByteArray) (d a b m : Int) (w : World) :
    Calls Try.prog 153 #[.agg #[.string op, .int .i64 d, .int .i64 a, .int .i64 b, .int .i64 m]] w fun e w' => e = .returned (.int .i64 (fm op).c) ∧ Below w.heap.size w w' := by
  have hB1 := fun o => (Below.refl w.heap.size w).alloc (Nat.le_refl _) o
  go_enter Try.func153, Try.ntmps153
  go_wp2_with (fail)
  refine (formOf_any _ _).mono ?_
  rintro e w2 ⟨rfl, hb⟩
  have hbb := Lib.hid ((hB1 _).trans (hb.mono (by simp)))
  have hfin := fun o => hbb.out.alloc hbb.out.size o
  simp only [fmV]
  go_wp2
  go_ret
  exact ⟨rfl, hfin _⟩
end Go.Proofs.Ytmhdijklindipaa
