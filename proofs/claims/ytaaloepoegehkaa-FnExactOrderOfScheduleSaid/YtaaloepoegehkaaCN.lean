import Derived.Test.YtaaloepoegehkaaCL
import Derived.WalkKit
import Derived.WalkSpells
import Derived.WalkLawsBesides
import Derived.Deep.RegionHeld3
import Derived.Lib.Hide
namespace Go.Proofs.Ytaaloepoegehkaa
open Go.RowKit
set_option linter.unusedVariables false
set_option maxRecDepth 100000

/-- A new slice of six ints. -/
def Own6 (w : World) (rs : List Int) (e : Ending) (w' : World) : Prop :=
  ∃ g c, e = .returned (.slice (some ⟨g, 0, none⟩) 6 c) ∧ w.heap.size ≤ g ∧ OW w' g (g + 1) (.slice (some ⟨g, 0, none⟩) 6 c) rs ∧ Below w.heap.size w w'
theorem OW.narrow {w : World} {lo hi g n c : Nat} {xs : List Int} (h : OW w lo hi (.slice (some ⟨g, 0, none⟩) n c) xs) : OW w g (g + 1) (.slice (some ⟨g, 0, none⟩) n c) xs := by
  refine ⟨⟨h.1.1, ?_⟩, fun k hk => by cases hk; exact Nat.lt_succ_self _⟩
  rcases h.1.2 with ⟨h0, _⟩ | ⟨g', cap, cur, e, hg, hr⟩
  · cases h0
  · injection e with e1 e2 e3; injection e1 with e1; injection e1 with e1 _ _
    subst e1; subst e2; subst e3; exact .inr ⟨_, _, cur, rfl, Nat.le_refl _, hr⟩
theorem OW.lenEq {w : World} {lo hi g n c : Nat} {xs : List Int} (h : OW w lo hi (.slice (some ⟨g, 0, none⟩) n c) xs) : n = xs.length := by
  rcases h.1.2 with ⟨h0, _⟩ | ⟨g', cap, cur, e, _⟩
  · cases h0
  · injection e with _ e2 _
theorem own6_of {w w' : World} {rs : List Int} {e : Ending} (h6 : rs.length = 6) (h : FreshI w rs e w') : Own6 w rs e w' := by
  obtain ⟨A, c, he, ho, hb⟩ := h
  rcases ho.1.2 with ⟨_, h0⟩ | ⟨g, cap, cur, hv, hg, _⟩
  · omega
  · injection hv with h1 h2 h3; subst h1; subst h3
    rw [h6] at he ho
    exact ⟨g, c, he, hg, ho.narrow, hb⟩
theorem OW.at6 {w : World} {lo hi g n c : Nat} {xs : List Int} (h : OW w lo hi (.slice (some ⟨g, 0, none⟩) n c) xs) (i : Nat) (hi' : i < xs.length) : w.cell? ⟨g, i, none⟩ = some (.int .i64 (xs.getD i 0)) := by
  have := h.1.cells (g := g) rfl i (.int .i64 (xs.getD i 0)) (by rw [List.getElem?_map, List.getElem?_eq_getElem hi', List.getD_eq_getElem?_getD, List.getElem?_eq_getElem hi']; rfl)
  rwa [addr_add] at this
theorem OW.frozen6 {w : World} {lo hi g n c : Nat} {xs : List Int} (h : OW w lo hi (.slice (some ⟨g, 0, none⟩) n c) xs) (i : Nat) : w.frozen? ⟨g, i, none⟩ = false := by
  have e := h.lenEq; subst e; exact h.1.frozenAt i
theorem OW.set6 {w : World} {lo hi g n c : Nat} {xs : List Int} (h : OW w lo hi (.slice (some ⟨g, 0, none⟩) n c) xs) (i : Nat) (y : Int) : OW (w.setCell ⟨g, i, none⟩ (.int .i64 y)) lo hi (.slice (some ⟨g, 0, none⟩) n c) (xs.set i y) := by
  have e := h.lenEq; subst e
  have h1 := (h.1.stored i (.int .i64 y)).1
  refine ⟨?_, h.2⟩
  rw [List.map_set, List.length_set]; exact h1
theorem Own6.six {w : World} {lo hi g n c : Nat} {xs : List Int} (h : OW w lo hi (.slice (some ⟨g, 0, none⟩) n c) xs) (h6 : xs.length = 6) : Six w g 0 xs := fun i hi => by rw [Nat.zero_add]; exact h.at6 i (by omega)

set_option maxHeartbeats 4000000 in
theorem cdStep_any (x : In) (b o c : Nat) (rs : List Int) (L B : Nat) (w : World) (hx : goodIn x = true) (h6 : words6 rs) (hI : IS w L B (some ⟨b, o, none⟩) rs) (hB : B ≤ w.heap.size) :
    Calls Try.prog 135 #[.agg #[.string x.op, .int .i64 x.d, .int .i64 x.a, .int .i64 x.b, .int .i64 x.m], .slice (some ⟨b, o, none⟩) 6 c] w (Own6 w (stepL x rs)) := by
  have hG := Lib.hid hx
  have hW := Lib.hid h6
  obtain ⟨hd, _⟩ := good_parts hx
  obtain ⟨op, d, a, b', m⟩ := x
  obtain ⟨nd, rfl⟩ := Int.eq_ofNat_of_zero_le hd.1
  have hb0 := Lib.hid ((Below.refl w.heap.size w).alloc (Nat.le_refl _) (.cells #[.string op, .int .i64 nd, .int .i64 a, .int .i64 b', .int .i64 m] 88))
  have hS : Hid (stepL ⟨op, nd, a, b', m⟩ rs = rs.set nd (vOf op m (rs.getD a.toNat 0) (rs.getD b'.toNat 0))) := rfl
  obtain ⟨y, hy⟩ : ∃ y, vOf op m (rs.getD a.toNat 0) (rs.getD b'.toNat 0) = y := ⟨_, rfl⟩
  have hV := Lib.hid (fun w' (h1 : b < w'.heap.size) (h2 : Six w' b o rs) => (show Calls Try.prog 191 #[.agg #[.string op, .int .i64 nd, .int .i64 a, .int .i64 b', .int .i64 m], .slice (some ⟨b, o, none⟩) 6 c] w' (fun e w'' => e = .returned (.int .i64 y) ∧ Below w'.heap.size w' w'') from by have := cdValue_any ⟨op, nd, a, b', m⟩ b o c rs w' hG.out hW.out h1 h2; simp only at this; rw [hy] at this; exact this))
  rw [hy] at hS
  clear hy
  have hE := Lib.hid hI
  obtain ⟨b1, o1, e1, hbb, hsix⟩ := hI.six h6.1
  injection e1 with e1; injection e1 with e1 e2 _; subst e1; subst e2
  have hSix := Lib.hid hsix
  have hL := Lib.hid (fun w' (hx : IS w' L B (some ⟨b, o, none⟩) rs) (hB : B ≤ w'.heap.size) => (l1Own_any L B (some ⟨b, o, none⟩) c rs w' (by rw [h6.1]; omega) hx hB).mono fun _ _ => own6_of h6.1)
  have hlen := Lib.hid h6.1
  rw [show rs.length = 6 from h6.1] at hL
  have hd' : nd < 6 := by simp only at hd; omega
  clear hI hx h6 hsix hd
  go_enter Try.func135, Try.ntmps135
  go_wp2_with (fail)
  refine (hL.out _ (hE.out.below hb0.out hB) (by simp; omega)).mono ?_
  rintro e w1 ⟨g, c1, rfl, hg, ho, hb⟩
  have hO := Lib.hid ho
  have hB1 := Lib.hid (hb0.out.trans (hb.mono (by simp)))
  obtain ⟨xa, xb, xc, xd, xe⟩ := In.old (x := ⟨op, nd, a, b', m⟩) rfl hb
  have hz : w.heap.size < w1.heap.size := by have := hb.size; simp at this; omega
  have hgz : g < w1.heap.size := (ho.1.lt g rfl).2
  simp at hg
  have i0 : (0 : Int) ≤ (nd : Int) := by omega
  have i1 : (nd : Int) < 6 := by omega
  have hS1 := Lib.hid (hSix.out.below hB1.out (by omega))
  have hb1 := Lib.hid (show b < w1.heap.size by omega)
  have hlO := Lib.hid ho.lenEq
  clear ho hb
  go_wp2_with (fail)
  go_region_with (go_at_call 191; refine (hV.out _ (by exact hb1.out) (by exact Six.heap rfl hS1.out)).mono ?_; rintro e w2 ⟨rfl, hb2⟩; have hb3 := Lib.hid ((Below.refl w1.heap.size w1).drew.trans hb2); have hO2 := Lib.hid (hO.out.below hb3.out hgz); have c1 := hO2.out.at6 nd (by rw [hlen.out]; omega); have f1 := hO2.out.frozen6 nd; have xb2 := (hb3.out.cell (p := ⟨w.heap.size, 1, none⟩) hz).trans xb)
  all_goals
    have hfin := Lib.hid (hO2.out.set6 nd y)
    have hbel := Lib.hid ((hB1.out.trans (hb3.out.mono (by omega))).setCell (p := ⟨g, nd, none⟩) (show w.heap.size ≤ g by omega) (.int .i64 y))
    go_wp2
    go_ret
    exact ⟨g, _, rfl, by omega, by rw [hS.out]; exact hfin.out, hbel.out⟩
end Go.Proofs.Ytaaloepoegehkaa
