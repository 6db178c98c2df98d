/- Texts of this proof, one behind the other: CE, CF, LawB, CO, CP, CQ. -/
import Derived.Test.YtdleiondfhmjdaaCD
import Derived.Test.YtdleiondfhmjdaaZ5
import Derived.WalkKit
import Derived.WalkSpells
import Derived.WalkLawsBesides
import Derived.Lib.Hide
import Derived.Test.YtdleiondfhmjdaaKMInstr
import Derived.Laws.CopyOwn
import Derived.Deep.RegionHeld3
namespace Go.Proofs.Ytdleiondfhmjdaa
open Go.RowKit
set_option linter.unusedVariables false

set_option maxHeartbeats 4000000 in
theorem cdCode_any (L B : Nat) (A : Option Addr) (c : Nat) (es : List In) (w : World) (hl : es.length ≤ 1048576) (hes : RS In.enc 5 w L B A es) (hB : B ≤ w.heap.size) :
    Calls Try.prog 58 #[.slice A es.length c] w fun e w' => e = .returned (.bool (okCode es)) ∧ Below w.heap.size w w' := by
  have hE := Lib.hid hes
  have hBB := Lib.hid hB
  have hBel0 := Below.refl w.heap.size w
  clear hes hB
  by_cases h24 : es.length ≤ 40
  · have hG : Hid (okCode es = es.all goodIn) := by simp [Hid, okCode, h24]
    go_enter Try.func58, Try.ntmps58
    go_wp2
    go_loopw [10] (fun i wr => ∃ k : Nat, k ≤ es.length ∧ i = .int .i64 k ∧ (es.take k).all goodIn = true ∧ Below w.heap.size w wr) (fun i _ => es.length - (intOf i).toNat)
    case atStart => exact ⟨0, Nat.zero_le _, rfl, rfl, hBel0⟩
    case round =>
      obtain ⟨k, hk, rfl, hok, hbel⟩ := hrel
      have hOK := Lib.hid hok
      clear hok
      by_cases hlt : k < es.length
      · obtain ⟨b, o, rfl, ⟨_, hbB⟩, hc⟩ := In.cells (hE.out.below hbel hBB.out) (by omega)
        obtain ⟨c1, c2, c3, c4, c5⟩ := hc k hlt
        clear hc
        have hT := Lib.hid (all_snoc hlt)
        generalize es[k] = nd at *
        obtain ⟨op, d, a, bb, m⟩ := nd
        have hBelB := Lib.hid hbel
        go_wp2_with (fail)
        refine (cdGood_any _ _ _ _ _ _).mono ?_
        rintro e w2 ⟨rfl, hb2⟩
        have hbel2 : Below w.heap.size w w2 := hBelB.out.trans (((Below.refl _ _).alloc hBelB.out.size _).trans (hb2.mono (by simp; have := hBelB.out.size; omega)))
        clear hb2 hbel c1 c2 c3 c4 c5
        cases hn : goodIn ⟨op, d, a, bb, m⟩
        · have hF : Hid (okCode es = false) := by
            rw [Hid, hG.out]; exact all_of_take (k := k + 1) (by rw [hT.out, hn]; simp)
          go_wp2
          go_ret
          exact ⟨ret_bool hF.out.symm, hbel2⟩
        · have hN := Lib.hid hn
          go_wp2
          go_roundw
          case rel => exact ⟨k + 1, by omega, by go_num, by rw [hT.out, hOK.out, hN.out]; rfl, hbel2⟩
          case measure => simp [intOf]; omega
      · obtain rfl : k = es.length := by omega
        have hF : Hid (okCode es = true) := by have := hOK.out; rw [List.take_length] at this; rw [Hid, hG.out, this]
        go_wp2
        go_ret
        exact ⟨ret_bool hF.out.symm, hbel⟩
  · have hG : Hid (okCode es = false) := by simp [Hid, okCode, h24]
    have h24' : (40 : Int) < (es.length : Int) := by omega
    clear h24
    go_enter Try.func58, Try.ntmps58
    go_wp2
    go_ret
    exact ⟨ret_bool hG.out.symm, hBel0⟩

set_option maxHeartbeats 4000000 in
theorem IsCode_any (L B : Nat) (A : Option Addr) (c : Nat) (es : List In) (w : World) (hl : es.length ≤ 1048576) (hes : RS In.enc 5 w L B A es) (hB : B ≤ w.heap.size) :
    Calls Try.prog 63 #[.slice A es.length c] w fun e w' => e = .returned (.bool (okCode es)) ∧ Below w.heap.size w w' := by
  have hE := Lib.hid hes
  have hBB := Lib.hid hB
  have hBel0 := Below.refl w.heap.size w
  clear hes hB
  by_cases h24 : es.length ≤ 40
  · have hG : Hid (okCode es = es.all goodIn) := by simp [Hid, okCode, h24]
    go_enter Try.func63, Try.ntmps63
    go_wp2
    go_loopw [10] (fun i wr => ∃ k : Nat, k ≤ es.length ∧ i = .int .i64 k ∧ (es.take k).all goodIn = true ∧ Below w.heap.size w wr) (fun i _ => es.length - (intOf i).toNat)
    case atStart => exact ⟨0, Nat.zero_le _, rfl, rfl, hBel0⟩
    case round =>
      obtain ⟨k, hk, rfl, hok, hbel⟩ := hrel
      have hOK := Lib.hid hok
      clear hok
      by_cases hlt : k < es.length
      · obtain ⟨b, o, rfl, ⟨_, hbB⟩, hc⟩ := In.cells (hE.out.below hbel hBB.out) (by omega)
        obtain ⟨c1, c2, c3, c4, c5⟩ := hc k hlt
        clear hc
        have hT := Lib.hid (all_snoc hlt)
        generalize es[k] = nd at *
        obtain ⟨op, d, a, bb, m⟩ := nd
        have hBelB := Lib.hid hbel
        go_wp2_with (fail)
        refine (IsInstr_any _ _ _ _ _ _).mono ?_
        rintro e w2 ⟨rfl, hb2⟩
        have hbel2 : Below w.heap.size w w2 := hBelB.out.trans (((Below.refl _ _).alloc hBelB.out.size _).trans (hb2.mono (by simp; have := hBelB.out.size; omega)))
        clear hb2 hbel c1 c2 c3 c4 c5
        cases hn : goodIn ⟨op, d, a, bb, m⟩
        · have hF : Hid (okCode es = false) := by
            rw [Hid, hG.out]; exact all_of_take (k := k + 1) (by rw [hT.out, hn]; simp)
          go_wp2
          go_ret
          exact ⟨ret_bool hF.out.symm, hbel2⟩
        · have hN := Lib.hid hn
          go_wp2
          go_roundw
          case rel => exact ⟨k + 1, by omega, by go_num, by rw [hT.out, hOK.out, hN.out]; rfl, hbel2⟩
          case measure => simp [intOf]; omega
      · obtain rfl : k = es.length := by omega
        have hF : Hid (okCode es = true) := by have := hOK.out; rw [List.take_length] at this; rw [Hid, hG.out, this]
        go_wp2
        go_ret
        exact ⟨ret_bool hF.out.symm, hbel⟩
  · have hG : Hid (okCode es = false) := by simp [Hid, okCode, h24]
    have h24' : (40 : Int) < (es.length : Int) := by omega
    clear h24
    go_enter Try.func63, Try.ntmps63
    go_wp2
    go_ret
    exact ⟨ret_bool hG.out.symm, hBel0⟩

/-- The cost of an op that is one. -/
theorem cdCost_any (s : ByteArray) (w : World) (hok : (fm s).ok = true) :
    Calls Try.prog 112 #[.string s] w fun e w' => e = .returned (.int .i64 (fm s).c) ∧ w = w' := by
  have H0 : ∀ k : Fm, (fm s = k) → Hid ((fm s).c = k.c) := fun _ h => by rw [h]; exact rfl
  rcases cop_cases s with h|h|h|h|h|h|h|h|h|h|h|h|h|h|h|h|h|h|h|h|h
  · have H := H0 _ (fm_set h); clear H0 hok
    go_enter Try.func112, Try.ntmps112
    go_wp2
    go_ret
    exact ⟨ret_int H.out.symm, rfl⟩
  · have H := H0 _ (fm_mov h); clear H0 hok
    go_enter Try.func112, Try.ntmps112
    go_wp2
    go_ret
    exact ⟨ret_int H.out.symm, rfl⟩
  · have H := H0 _ (fm_not h); clear H0 hok
    go_enter Try.func112, Try.ntmps112
    go_wp2
    go_ret
    exact ⟨ret_int H.out.symm, rfl⟩
  · have H := H0 _ (fm_neg h); clear H0 hok
    go_enter Try.func112, Try.ntmps112
    go_wp2
    go_ret
    exact ⟨ret_int H.out.symm, rfl⟩
  · have H := H0 _ (fm_add h); clear H0 hok
    go_enter Try.func112, Try.ntmps112
    go_wp2
    go_ret
    exact ⟨ret_int H.out.symm, rfl⟩
  · have H := H0 _ (fm_sub h); clear H0 hok
    go_enter Try.func112, Try.ntmps112
    go_wp2
    go_ret
    exact ⟨ret_int H.out.symm, rfl⟩
  · have H := H0 _ (fm_and h); clear H0 hok
    go_enter Try.func112, Try.ntmps112
    go_wp2
    go_ret
    exact ⟨ret_int H.out.symm, rfl⟩
  · have H := H0 _ (fm_or h); clear H0 hok
    go_enter Try.func112, Try.ntmps112
    go_wp2
    go_ret
    exact ⟨ret_int H.out.symm, rfl⟩
  · have H := H0 _ (fm_xor h); clear H0 hok
    go_enter Try.func112, Try.ntmps112
    go_wp2
    go_ret
    exact ⟨ret_int H.out.symm, rfl⟩
  · have H := H0 _ (fm_less h); clear H0 hok
    go_enter Try.func112, Try.ntmps112
    go_wp2
    go_ret
    exact ⟨ret_int H.out.symm, rfl⟩
  · have H := H0 _ (fm_eq h); clear H0 hok
    go_enter Try.func112, Try.ntmps112
    go_wp2
    go_ret
    exact ⟨ret_int H.out.symm, rfl⟩
  · have H := H0 _ (fm_shl h); clear H0 hok
    go_enter Try.func112, Try.ntmps112
    go_wp2
    go_ret
    exact ⟨ret_int H.out.symm, rfl⟩
  · have H := H0 _ (fm_shr h); clear H0 hok
    go_enter Try.func112, Try.ntmps112
    go_wp2
    go_ret
    exact ⟨ret_int H.out.symm, rfl⟩
  · have H := H0 _ (fm_mul h); clear H0 hok
    go_enter Try.func112, Try.ntmps112
    go_wp2
    go_ret
    exact ⟨ret_int H.out.symm, rfl⟩
  · have H := H0 _ (fm_addi h); clear H0 hok
    go_enter Try.func112, Try.ntmps112
    go_wp2
    go_ret
    exact ⟨ret_int H.out.symm, rfl⟩
  · have H := H0 _ (fm_andi h); clear H0 hok
    go_enter Try.func112, Try.ntmps112
    go_wp2
    go_ret
    exact ⟨ret_int H.out.symm, rfl⟩
  · have H := H0 _ (fm_xori h); clear H0 hok
    go_enter Try.func112, Try.ntmps112
    go_wp2
    go_ret
    exact ⟨ret_int H.out.symm, rfl⟩
  · have H := H0 _ (fm_shli h); clear H0 hok
    go_enter Try.func112, Try.ntmps112
    go_wp2
    go_ret
    exact ⟨ret_int H.out.symm, rfl⟩
  · have H := H0 _ (fm_shri h); clear H0 hok
    go_enter Try.func112, Try.ntmps112
    go_wp2
    go_ret
    exact ⟨ret_int H.out.symm, rfl⟩
  · have H := H0 _ (fm_lea h); clear H0 hok
    go_enter Try.func112, Try.ntmps112
    go_wp2
    go_ret
    exact ⟨ret_int H.out.symm, rfl⟩
  · rw [fm_no h] at hok; cases hok

end Go.Proofs.Ytdleiondfhmjdaa

namespace Go.Proofs.Ytdleiondfhmjdaa
open Go.RowKit
set_option linter.unusedVariables false

def costR (x : In) : Int := if goodIn x = true then (fm x.op).c else 0
def sumR (es : List In) : Int := if okCode es = true then sumC es else 0
theorem good_ok {x : In} (h : goodIn x = true) : (fm x.op).ok = true := (good_parts h).2.2.2.1

theorem iIsInstr_any (x : In) (w : World) :
    Calls Try.prog 101 #[.agg #[.string x.op, .int .i64 x.d, .int .i64 x.a, .int .i64 x.b, .int .i64 x.m]] w (ResIsInstr (goodIn x) w) := IsInstr_any _ _ _ _ _ _
theorem iIsCode_any (L B : Nat) (A : Option Addr) (c : Nat) (es : List In) (w : World) (hl : es.length ≤ 1048576) (hes : RS In.enc 5 w L B A es) (hB : B ≤ w.heap.size) :
    Calls Try.prog 63 #[.slice A es.length c] w (ResIsCode (okCode es) w) := IsCode_any L B A c es w hl hes hB
end Go.Proofs.Ytdleiondfhmjdaa

namespace Go.Proofs.Ytdleiondfhmjdaa
open Go.RowKit
set_option linter.unusedVariables false

def ResReadsOf (R0 : List (Int)) (R1 : Bool) (w : World) (e : Ending) (w' : World) : Prop := ∃ (A0 : Option Addr) (c0 : Nat), e = .returned (.tuple #[.slice A0 R0.length c0, .bool R1]) ∧ OW w' w.heap.size w'.heap.size (.slice A0 R0.length c0) R0 ∧ Below w.heap.size w w'
def ResStepInstr (R0 : List (Int)) (R1 : Bool) (w : World) (e : Ending) (w' : World) : Prop := ∃ (A0 : Option Addr) (c0 : Nat), e = .returned (.tuple #[.slice A0 R0.length c0, .bool R1]) ∧ OW w' w.heap.size w'.heap.size (.slice A0 R0.length c0) R0 ∧ Below w.heap.size w w'
def ResRunCode (R0 : List (Int)) (R1 : Bool) (w : World) (e : Ending) (w' : World) : Prop := ∃ (A0 : Option Addr) (c0 : Nat), e = .returned (.tuple #[.slice A0 R0.length c0, .bool R1]) ∧ OW w' w.heap.size w'.heap.size (.slice A0 R0.length c0) R0 ∧ Below w.heap.size w w'
def ResResultOf (R0 : Int) (R1 : Bool) (w : World) (e : Ending) (w' : World) : Prop := e = .returned (.tuple #[.int .i64 R0, .bool R1]) ∧ Below w.heap.size w w'
end Go.Proofs.Ytdleiondfhmjdaa

namespace Go.Proofs.Ytdleiondfhmjdaa
open Go.RowKit
set_option linter.unusedVariables false
set_option maxRecDepth 100000

set_option maxHeartbeats 4000000 in
theorem cdRun_any (L B : Nat) (A : Option Addr) (c : Nat) (es : List In) (b o c' : Nat) (rs : List Int) (L' B' : Nat) (w : World) (hok : okCode es = true) (hes : RS In.enc 5 w L B A es) (hB : B ≤ w.heap.size) (h6 : words6 rs) (hI : IS w L' B' (some ⟨b, o, none⟩) rs) (hB' : B' ≤ w.heap.size) :
    Calls Try.prog 128 #[.slice A es.length c, .slice (some ⟨b, o, none⟩) 6 c'] w (Own6 w (runL es rs)) := by
  have hl := okCode_len hok
  have hall := Lib.hid (okCode_all hok)
  have hE := Lib.hid hes
  have hBB := Lib.hid hB
  have hH6 := Lib.hid h6
  have hL := Lib.hid ((l1Own_any L' B' (some ⟨b, o, none⟩) c' rs w (by rw [h6.1]; omega) hI hB').mono fun _ _ => own6_of h6.1)
  rw [show rs.length = 6 from h6.1] at hL
  clear hes hB hok h6 hI
  go_enter Try.func128, Try.ntmps128
  go_wp2_with (fail)
  refine hL.out.mono ?_
  rintro e w1 ⟨g1, c1, rfl, hg1, ho1, hb1⟩
  have hO1 := Lib.hid ho1
  have hbel1 := Lib.hid hb1
  clear ho1 hb1
  go_wp2
  go_loopw [5, 12] (fun q i wr => ∃ k : Nat, k ≤ es.length ∧ i = .int .i64 k ∧ (∃ g c1, q = .slice (some ⟨g, 0, none⟩) 6 c1 ∧ w.heap.size ≤ g ∧ OW wr g (g + 1) (.slice (some ⟨g, 0, none⟩) 6 c1) (runL (es.take k) rs)) ∧ Below w.heap.size w wr) (fun _ i _ => es.length - (intOf i).toNat)
  case atStart => exact ⟨0, Nat.zero_le _, rfl, ⟨g1, c1, rfl, hg1, hO1.out⟩, hbel1.out⟩
  case round =>
    obtain ⟨k, hk, rfl, ⟨g, c2, rfl, hg, how⟩, hbel⟩ := hrel
    have hO := Lib.hid how
    have hglt : g < wr.heap.size := (how.1.lt g rfl).2
    clear how
    by_cases hlt : k < es.length
    · obtain ⟨b, o, rfl, ⟨_, hbB⟩, hc⟩ := In.cells (hE.out.below hbel hBB.out) (by omega)
      obtain ⟨d1, d2, d3, d4, d5⟩ := hc k hlt
      clear hc
      have hx := Lib.hid (hall.out _ (List.getElem_mem hlt))
      have hS := Lib.hid (runL_snoc (rs := rs) hlt)
      have hW := Lib.hid (runL_words_take hall.out hH6.out k)
      generalize es[k] = nd at *
      obtain ⟨op, d, a, bb, m⟩ := nd
      have hbs := hbel.size
      have hbel2 := fun o => Lib.hid (hbel.alloc hbel.size o)
      have hO2 := fun o => Lib.hid (hO.out.below ((Below.refl wr.heap.size wr).alloc (Nat.le_refl _) o) hglt)
      clear hbel
      go_wp2_with (fail)
      refine (cdStep_any ⟨op, d, a, bb, m⟩ g 0 c2 _ g (g + 1) _ hx.out hW.out (hO2 _).out.rs (by simp; omega)).mono ?_
      rintro e w3 ⟨g3, c3, rfl, hg3, ho3, hb3⟩
      have hO3 := Lib.hid ho3
      have hbel3 := Lib.hid ((hbel2 _).out.trans (hb3.mono (by simp; omega)))
      simp at hg3
      clear ho3 hb3 d1 d2 d3 d4 d5
      go_wp2
      go_roundw
      case rel => exact ⟨k + 1, by omega, by go_num, ⟨g3, c3, rfl, by omega, by rw [hS.out]; exact hO3.out⟩, hbel3.out⟩
      case measure => simp [intOf]; omega
    · obtain rfl : k = es.length := by omega
      go_wp2
      go_ret
      exact ⟨g, c2, rfl, hg, by have := hO.out; rwa [List.take_length] at this, hbel⟩

def stepR (x : In) (rs : List Int) : List Int := if (goodIn x && regsOk rs) = true then stepL x rs else []
def runR (es : List In) (rs : List Int) : List Int := if (okCode es && regsOk rs) = true then runL es rs else []
theorem regs_words {rs : List Int} (h : regsOk rs = true) : words6 rs := by
  simp only [regsOk, Bool.and_eq_true, beq_iff_eq] at h
  exact h
theorem stepR_len (x : In) (rs : List Int) : (stepR x rs).length ≤ 1048576 := by
  unfold stepR; split
  · rename_i h; simp only [Bool.and_eq_true] at h
    have := (stepL_words h.1 (regs_words h.2)).1; omega
  · simp
theorem runR_len (es : List In) (rs : List Int) : (runR es rs).length ≤ 1048576 := by
  unfold runR; split
  · rename_i h; simp only [Bool.and_eq_true] at h
    have := (runL_words (okCode_all h.1) (regs_words h.2)).1; omega
  · simp
/-- The two results of a call that may leave a list. -/
theorem res_no {F : List Int → Bool → World → Ending → World → Prop} {w w' : World} {R : List Int} (hF : ∀ R ok w e w', (∃ A c, e = .returned (.tuple #[.slice A R.length c, .bool ok]) ∧ OW w' w.heap.size w'.heap.size (.slice A R.length c) R ∧ Below w.heap.size w w') → F R ok w e w') (hR : R = []) (hb : Below w.heap.size w w') :
    F R false w (.returned (.tuple #[.slice none 0 0, .bool false])) w' := by
  subst hR; exact hF _ _ _ _ _ ⟨none, 0, rfl, OW.nil _ _ _, hb⟩
theorem own6_res {w w' : World} {g c : Nat} {R : List Int} (h6 : R.length = 6) (hg : w.heap.size ≤ g) (ho : OW w' g (g + 1) (.slice (some ⟨g, 0, none⟩) 6 c) R) (hb : Below w.heap.size w w') :
    ∃ A c1, Ending.returned (.tuple #[.slice (some ⟨g, 0, none⟩) 6 c, .bool true]) = .returned (.tuple #[.slice A R.length c1, .bool true]) ∧ OW w' w.heap.size w'.heap.size (.slice A R.length c1) R ∧ Below w.heap.size w w' :=
  ⟨_, c, by rw [h6], by rw [h6]; exact (ho.lower hg).more (ho.1.lt g rfl).2, hb⟩

end Go.Proofs.Ytdleiondfhmjdaa

namespace Go.Proofs.Ytdleiondfhmjdaa
open Go.RowKit
set_option linter.unusedVariables false
set_option maxRecDepth 100000

/-- The machine as a value. -/
def macV (rs : List Int) : Value := .agg (intCells rs)
theorem six_list {rs : List Int} (h : rs.length = 6) : ∃ a b c d e f, rs = [a, b, c, d, e, f] := by
  match rs, h with
  | [a, b, c, d, e, f], _ => exact ⟨a, b, c, d, e, f, rfl⟩
theorem IB.six {w : World} {g : Nat} {t : TypeId} {rs : List Int} (h : IB w g t rs) (h6 : rs.length = 6) : Six w g 0 rs := fun i hi => by
  rw [Nat.zero_add, h.cell i (by omega), List.getD_eq_getElem?_getD, List.getElem?_eq_getElem (by omega)]; rfl

theorem six_cells {w : World} {g : Nat} {t : TypeId} {a b c d e f : Value} (h : w.heap[g]? = some (.cells #[a, b, c, d, e, f] t (0, 0))) :
    (w.cell? ⟨g, 0, none⟩ = some a ∧ w.cell? ⟨g, 1, none⟩ = some b ∧ w.cell? ⟨g, 2, none⟩ = some c ∧ w.cell? ⟨g, 3, none⟩ = some d ∧ w.cell? ⟨g, 4, none⟩ = some e ∧ w.cell? ⟨g, 5, none⟩ = some f) ∧
    (w.frozen? ⟨g, 0, none⟩ = false ∧ w.frozen? ⟨g, 1, none⟩ = false ∧ w.frozen? ⟨g, 2, none⟩ = false ∧ w.frozen? ⟨g, 3, none⟩ = false ∧ w.frozen? ⟨g, 4, none⟩ = false ∧ w.frozen? ⟨g, 5, none⟩ = false) := by
  have hc := fun i => cell_of_row w g i #[a, b, c, d, e, f] t (0, 0) h
  have hf : ∀ i, w.frozen? ⟨g, i, none⟩ = false := fun i => by simp [World.frozen?, h]
  exact ⟨⟨hc 0, hc 1, hc 2, hc 3, hc 4, hc 5⟩, hf 0, hf 1, hf 2, hf 3, hf 4, hf 5⟩
set_option maxHeartbeats 1000000 in
theorem machineOf_any (b o c : Nat) (r0 r1 r2 r3 r4 r5 : Int) (w : World) (L B : Nat) (hI : IS w L B (some ⟨b, o, none⟩) [r0, r1, r2, r3, r4, r5]) (hB : B ≤ w.heap.size) :
    Calls Try.prog 65 #[.slice (some ⟨b, o, none⟩) 6 c] w fun e w' => e = .returned (.agg #[.int .i64 r0, .int .i64 r1, .int .i64 r2, .int .i64 r3, .int .i64 r4, .int .i64 r5]) ∧ Below w.heap.size w w' := by
  obtain ⟨o0, ho0⟩ : ∃ o0 : Obj, o0 = .cells #[.int .i64 0, .int .i64 0, .int .i64 0, .int .i64 0, .int .i64 0, .int .i64 0] 74 := ⟨_, rfl⟩
  have hnew : Hid (((w.alloc o0).alloc o0).heap[w.heap.size + 1]? = some (.cells (([0, 0, 0, 0, 0, 0] : List Int).map (Value.int .i64)).toArray 74 (0, 0))) := by
    have := heap_alloc_new (w.alloc o0) o0
    rw [show (w.alloc o0).heap.size = w.heap.size + 1 by simp] at this
    rw [Hid, this, ho0]; rfl
  have hold : Hid (((w.alloc o0).alloc o0).heap[w.heap.size]? = some (.cells #[.int .i64 0, .int .i64 0, .int .i64 0, .int .i64 0, .int .i64 0, .int .i64 0] 74 (0, 0))) := by
    have := Below.heap_alloc (w.alloc o0) o0 w.heap.size (by simp)
    rw [Hid, this, heap_alloc_new, ho0]
  have hb0 := Lib.hid (((Below.refl w.heap.size w).alloc (Nat.le_refl _) o0).alloc (by simp) o0)
  have hE2 := Lib.hid ((hI.below hb0.out hB).news (by simp))
  subst ho0
  have hsz : (Try.prog.info? 3).map (·.size) = some 1 := by kernel_rfl
  have hSZ := Lib.hid hsz
  clear hI hsz
  go_enter Try.func65, Try.ntmps65
  go_wp2_with (with_reducible refine wpList_copy_splice rfl (.tmp 4) (.tmp 5) 23 23 rfl 3 Try.underlying23 hSZ.out (some ⟨w.heap.size + 1, 0, none⟩) (some ⟨b, o, none⟩) 6 6 6 c rfl rfl (w.heap.size + 1) 0 (([0, 0, 0, 0, 0, 0] : List Int).map (Value.int .i64)) 74 hnew.out (([r0, r1, r2, r3, r4, r5] : List Int).map (Value.int .i64)) rfl (fun _ => ⟨rfl, hE2.out⟩) (by simp) (oneI _) (w.heap.size + 1) _ (Below.refl _ _) (by omega) ?_; intro w1 hw1 hbel1; obtain ⟨⟨d0, d1, d2, d3, d4, d5⟩, _⟩ := six_cells (show w1.heap[w.heap.size + 1]? = some (.cells #[.int .i64 r0, .int .i64 r1, .int .i64 r2, .int .i64 r3, .int .i64 r4, .int .i64 r5] 74 (0, 0)) from (by have := hw1.out; simpa [Go.splice] using this)); obtain ⟨⟨e0, e1, e2, e3, e4, e5⟩, f0, f1, f2, f3, f4, f5⟩ := six_cells ((hbel1.block w.heap.size (by omega)).trans hold.out))
  have hz0 : CB 74 w1 w.heap.size [.int .i64 0, .int .i64 0, .int .i64 0, .int .i64 0, .int .i64 0, .int .i64 0] := (hbel1.block w.heap.size (by omega)).trans hold.out
  have hz1 := CB.sets [.int .i64 r0, .int .i64 r1, .int .i64 r2, .int .i64 r3, .int .i64 r4, .int .i64 r5] 0 hz0
  have hb2 := Lib.hid (below_setCells (B := w.heap.size) [.int .i64 r0, .int .i64 r1, .int .i64 r2, .int .i64 r3, .int .i64 r4, .int .i64 r5] w.heap.size 0 (hb0.out.trans (hbel1.mono (by omega))) (Nat.le_refl _))
  obtain ⟨⟨g0, g1, g2, g3, g4, g5⟩, _⟩ := six_cells (show (setCells w1 w.heap.size 0 [.int .i64 r0, .int .i64 r1, .int .i64 r2, .int .i64 r3, .int .i64 r4, .int .i64 r5]).heap[w.heap.size]? = some (.cells #[.int .i64 r0, .int .i64 r1, .int .i64 r2, .int .i64 r3, .int .i64 r4, .int .i64 r5] 74 (0, 0)) from hz1)
  simp only [setCells, Nat.zero_add, Nat.reduceAdd] at g0 g1 g2 g3 g4 g5
  exact bodyPost_ret (v := .agg #[.int .i64 r0, .int .i64 r1, .int .i64 r2, .int .i64 r3, .int .i64 r4, .int .i64 r5]) (by simp [results, Try.results65, go_sem, g0, g1, g2, g3, g4, g5]) rfl ⟨rfl, hb2.out⟩
end Go.Proofs.Ytdleiondfhmjdaa

namespace Go.Proofs.Ytdleiondfhmjdaa
open Go.RowKit
set_option linter.unusedVariables false
set_option maxRecDepth 100000

def StepM (w : World) (g : Nat) (rs : List Int) (e : Ending) (w' : World) : Prop :=
  e = .returned (.tuple #[]) ∧ IB w' g 74 rs ∧ Chg g (g + 1) w w'
set_option maxHeartbeats 4000000 in
theorem stepM_any (x : In) (g : Nat) (rs : List Int) (w : World) (hx : goodIn x = true) (h6 : words6 rs) (hI : IB w g 74 rs) :
    Calls Try.prog 105 #[.pointer (some ⟨g, 0, none⟩), .agg #[.string x.op, .int .i64 x.d, .int .i64 x.a, .int .i64 x.b, .int .i64 x.m]] w (StepM w g (stepL x rs)) := by
  have hG := Lib.hid hx
  have hW := Lib.hid h6
  obtain ⟨hd, _⟩ := good_parts hx
  obtain ⟨op, d, a, b', m⟩ := x
  obtain ⟨nd, rfl⟩ := Int.eq_ofNat_of_zero_le hd.1
  have hb0 := Lib.hid ((Below.refl w.heap.size w).alloc (Nat.le_refl _) (.cells #[.string op, .int .i64 nd, .int .i64 a, .int .i64 b', .int .i64 m] 70))
  have hS : Hid (stepL ⟨op, nd, a, b', m⟩ rs = rs.set nd (vOf op m (rs.getD a.toNat 0) (rs.getD b'.toNat 0))) := rfl
  obtain ⟨y, hy⟩ : ∃ y, vOf op m (rs.getD a.toNat 0) (rs.getD b'.toNat 0) = y := ⟨_, rfl⟩
  have hV := Lib.hid (fun w' (h1 : g < w'.heap.size) (h2 : Six w' g 0 rs) => (show Calls Try.prog 146 #[.pointer (some ⟨g, 0, none⟩), .agg #[.string op, .int .i64 nd, .int .i64 a, .int .i64 b', .int .i64 m]] w' (fun e w'' => e = .returned (.int .i64 y) ∧ Below w'.heap.size w' w'') from by have := valueOf_any ⟨op, nd, a, b', m⟩ g rs w' hG.out hW.out h1 h2; simp only at this; rw [hy] at this; exact this))
  rw [hy] at hS
  clear hy
  have hgl := hI.lt
  have hM := Lib.hid (hI.below hb0.out hgl)
  have hlen := Lib.hid h6.1
  have hd' : nd < 6 := by simp only at hd; omega
  clear hI hx h6 hd
  go_enter Try.func105, Try.ntmps105
  go_wp2_with (fail)
  obtain ⟨w1, hw1⟩ : ∃ w1 : World, w1 = w.alloc (.cells #[.string op, .int .i64 nd, .int .i64 a, .int .i64 b', .int .i64 m] 70) := ⟨_, rfl⟩
  rw [← hw1] at hM hb0 ⊢
  obtain ⟨xa, xb, xc, xd, xe⟩ := In.old (x := ⟨op, nd, a, b', m⟩) (w2 := w1) (t := 70) rfl (by rw [hw1]; exact Below.refl _ _)
  have hz : w.heap.size < w1.heap.size := by rw [hw1]; simp
  have hz' : w1.heap.size = w.heap.size + 1 := by rw [hw1]; simp
  have hZ := Lib.hid hz'
  have hgz : g < w1.heap.size := by omega
  have hne : g ≠ w.heap.size := by omega
  clear hw1 hz'
  have i0 : (0 : Int) ≤ (nd : Int) := by omega
  have i1 : (nd : Int) < 6 := by omega
  have hS1 := Lib.hid (hM.out.six hlen.out)
  have hb1 := Lib.hid hgz
  go_region_with (go_at_call 146; refine (hV.out _ (by exact hb1.out) (by exact Six.heap rfl hS1.out)).mono ?_; rintro e w2 ⟨rfl, hb2⟩; have hb3 := Lib.hid ((Below.refl w1.heap.size w1).drew.trans hb2); have hM2 := Lib.hid (hM.out.below hb3.out hgz); have c1 := hM2.out.cell nd (by rw [hlen.out]; omega); have f1 := hM2.out.frozen nd; have xb2 := (hb3.out.cell (p := ⟨w.heap.size, 1, none⟩) hz).trans xb)
  all_goals
    have hfin := Lib.hid (hM2.out.set nd y)
    have hchg : Hid (Chg g (g + 1) w (w2.setCell ⟨g, nd, none⟩ (.int .i64 y))) := (Chg.ofBelow (hb0.out.trans (hb3.out.mono (by omega)))).setCell (p := ⟨g, nd, none⟩) (by simp) _
    go_wp2
    go_end0
    exact ⟨rfl, by rw [hS.out]; exact hfin.out, hchg.out⟩

theorem words_any (g : Nat) (rs : List Int) (w : World) (h6 : rs.length = 6) (hI : IB w g 74 rs) :
    Calls Try.prog 104 #[.pointer (some ⟨g, 0, none⟩)] w (Own6 w rs) := by
  have hC := Lib.hid ((CloneI_any g 0 6 rs g (g + 1) w (by omega) hI.toIS hI.lt).mono fun _ _ => own6_of h6)
  rw [h6] at hC
  clear hI
  go_enter Try.func104, Try.ntmps104
  go_wp2_with (fail)
  refine hC.out.mono ?_
  rintro e w1 ⟨g1, c1, rfl, hg1, ho1, hb1⟩
  have hO1 := Lib.hid ho1
  go_wp2
  go_ret
  exact ⟨g1, c1, rfl, hg1, hO1.out, hb1⟩
end Go.Proofs.Ytdleiondfhmjdaa
