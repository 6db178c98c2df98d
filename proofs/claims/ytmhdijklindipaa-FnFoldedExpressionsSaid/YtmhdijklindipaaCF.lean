import Derived.Test.YtmhdijklindipaaCE
import Derived.WalkKit
import Derived.WalkSpells
import Derived.WalkLawsBesides
import Derived.Lib.Hide
namespace Go.Proofs.Ytmhdijklindipaa
open Go.RowKit
set_option linter.unusedVariables false

def costR (x : In) : Int := if goodIn x = true then (fm x.op).c else 0
def sumR (es : List In) : Int := if okCode es = true then sumC es else 0
theorem good_ok {x : In} (h : goodIn x = true) : (fm x.op).ok = true := (good_parts h).2.2.2.1

theorem sCostOfInstr_any (x : In) (w : World) :
    Calls Try.prog 47 #[.agg #[.string x.op, .int .i64 x.d, .int .i64 x.a, .int .i64 x.b, .int .i64 x.m]] w (ResCostOfInstr (costR x) (goodIn x) w) := by
  obtain ⟨op, d, a, b, m⟩ := x
  have hB1 := fun o => (Below.refl w.heap.size w).alloc (Nat.le_refl _) o
  go_enter Try.func47, Try.ntmps47
  go_wp2_with (fail)
  refine (cdGood_any _ _ _ _ _ _).mono ?_
  rintro e w2 ⟨rfl, hb⟩
  obtain ⟨xa, xb, xc, xd, xe⟩ := In.old (x := ⟨op, d, a, b, m⟩) rfl hb
  have hbb := Lib.hid ((hB1 _).trans (hb.mono (by simp)))
  clear hb
  cases hg : goodIn ⟨op, d, a, b, m⟩
  · have hR : Hid (costR ⟨op, d, a, b, m⟩ = 0) := by simp [Hid, costR, hg]
    go_wp2
    go_ret2
    exact ⟨by rw [hR.out, hg]; rfl, hbb.out⟩
  · have hR : Hid (costR ⟨op, d, a, b, m⟩ = (fm op).c) := by simp [Hid, costR, hg]
    have hok : (fm op).ok = true := good_ok hg
    have hG := Lib.hid hg
    go_wp2_with (fail)
    refine (cdCost_any _ _ hok).mono ?_
    rintro e w3 ⟨rfl, rfl⟩
    go_wp2
    go_ret2
    exact ⟨by rw [hR.out, hG.out]; rfl, hbb.out⟩
theorem iCostOfInstr_any (x : In) (w : World) :
    Calls Try.prog 46 #[.agg #[.string x.op, .int .i64 x.d, .int .i64 x.a, .int .i64 x.b, .int .i64 x.m]] w (ResCostOfInstr (costR x) (goodIn x) w) := by
  obtain ⟨op, d, a, b, m⟩ := x
  have hB1 := fun o => (Below.refl w.heap.size w).alloc (Nat.le_refl _) o
  go_enter Try.func46, Try.ntmps46
  go_wp2_with (fail)
  refine (IsInstr_any _ _ _ _ _ _).mono ?_
  rintro e w2 ⟨rfl, hb⟩
  obtain ⟨xa, xb, xc, xd, xe⟩ := In.old (x := ⟨op, d, a, b, m⟩) rfl hb
  have hbb := Lib.hid ((hB1 _).trans (hb.mono (by simp)))
  clear hb
  cases hg : goodIn ⟨op, d, a, b, m⟩
  · have hR : Hid (costR ⟨op, d, a, b, m⟩ = 0) := by simp [Hid, costR, hg]
    go_wp2
    go_ret2
    exact ⟨by rw [hR.out, hg]; rfl, hbb.out⟩
  · have hR : Hid (costR ⟨op, d, a, b, m⟩ = (fm op).c) := by simp [Hid, costR, hg]
    have hG := Lib.hid hg
    go_wp2_with (fail)
    refine (costOf_any _ _ _ _ _ _).mono ?_
    rintro e w3 ⟨rfl, hb3⟩
    have hb3' := Lib.hid (hbb.out.trans (hb3.mono hbb.out.size))
    clear hb3
    go_wp2
    go_ret2
    exact ⟨by rw [hR.out, hG.out]; rfl, hb3'.out⟩

set_option maxHeartbeats 1000000 in
theorem iCodeCost_any (L B : Nat) (A : Option Addr) (c : Nat) (es : List In) (w : World) (hl : es.length ≤ 1048576) (hes : RS In.enc 5 w L B A es) (hB : B ≤ w.heap.size) :
    Calls Try.prog 41 #[.slice A es.length c] w (ResCodeCost (sumR es) (okCode es) w) := by
  have H := Lib.hid (IsCode_any L B A c es w hl hes hB)
  have hE := Lib.hid hes
  have hBB := Lib.hid hB
  clear hes hB
  go_enter Try.func41, Try.ntmps41
  go_wp2_with (fail)
  refine H.out.mono ?_
  rintro e w2 ⟨rfl, hb⟩
  have hbb := Lib.hid hb
  have hbr := hb
  clear hb
  cases hg : okCode es
  · have hR : Hid (sumR es = 0) := by simp [Hid, sumR, hg]
    go_wp2
    go_ret2
    exact ⟨by rw [hR.out, hg]; rfl, hbb.out⟩
  · have hR : Hid (sumR es = sumC es) := by simp [Hid, sumR, hg]
    have hG := Lib.hid hg
    have hl := okCode_len hg
    clear hg hbr
    go_wp2
    go_loopw [4, 12] (fun q i wr => ∃ k : Nat, k ≤ es.length ∧ i = .int .i64 k ∧ q = .int .i64 (sumC (es.take k)) ∧ Below w.heap.size w wr) (fun _ i _ => es.length - (intOf i).toNat)
    case atStart => exact ⟨0, Nat.zero_le _, rfl, rfl, hbb.out⟩
    case round =>
      obtain ⟨k, hk, rfl, rfl, hbel⟩ := hrel
      by_cases hlt : k < es.length
      · obtain ⟨b, o, rfl, ⟨_, hbB⟩, hc⟩ := In.cells (hE.out.below hbel hBB.out) (by omega)
        obtain ⟨c1, c2, c3, c4, c5⟩ := hc k hlt
        clear hc
        have hT := Lib.hid (sumC_snoc hlt)
        have hbd := sumC_bd (es := es) (k := k) hk
        have hbd2 := fm_c es[k].op
        generalize es[k] = nd at *
        obtain ⟨op, d, a, bb, m⟩ := nd
        have hfin := fun o => Lib.hid (hbel.alloc hbel.size o)
        have hsz := hbel.size
        clear hbel
        go_wp2_with (fail)
        refine (costOf_any _ _ _ _ _ _).mono ?_
        rintro e w3 ⟨rfl, hb3⟩
        have hb4 := Lib.hid ((hfin _).out.trans (hb3.mono (by simp; omega)))
        clear hb3 c1 c2 c3 c4 c5
        try simp only at hbd2
        go_wp2
        go_roundw
        case rel => exact ⟨k + 1, by omega, by go_num, by rw [hT.out], hb4.out⟩
        case measure => simp [intOf]; omega
      · obtain rfl : k = es.length := by omega
        go_wp2
        go_ret2
        exact ⟨by rw [hR.out, hG.out, List.take_length]; rfl, hbel⟩
theorem iIsInstr_any (x : In) (w : World) :
    Calls Try.prog 50 #[.agg #[.string x.op, .int .i64 x.d, .int .i64 x.a, .int .i64 x.b, .int .i64 x.m]] w (ResIsInstr (goodIn x) w) := IsInstr_any _ _ _ _ _ _
theorem iIsCode_any (L B : Nat) (A : Option Addr) (c : Nat) (es : List In) (w : World) (hl : es.length ≤ 1048576) (hes : RS In.enc 5 w L B A es) (hB : B ≤ w.heap.size) :
    Calls Try.prog 42 #[.slice A es.length c] w (ResIsCode (okCode es) w) := IsCode_any L B A c es w hl hes hB
end Go.Proofs.Ytmhdijklindipaa
