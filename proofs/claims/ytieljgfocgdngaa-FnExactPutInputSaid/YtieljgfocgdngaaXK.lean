import Derived.Test.YtieljgfocgdngaaXH
import Derived.Test.YtieljgfocgdngaaXA
import Derived.Test.YtieljgfocgdngaaIB
import Derived.Test.YtieljgfocgdngaaV3
import Derived.Test.YtieljgfocgdngaaKNode
import Derived.WalkKit
import Derived.WalkSpells
import Derived.WalkLawsBesides
import Derived.Deep.RegionHeld3
import Derived.Lib.Hide
/- The program's walk that moves nodes, on a builder in any state; slices.Clone of nodes. -/
namespace Go.Proofs.Ytieljgfocgdngaa
open Go.RowKit
set_option linter.unusedVariables false
set_option maxRecDepth 100000

theorem nd_ones (es : List Nd) : ∀ u ∈ es.flatMap Nd.enc, u.oneCell' = true := by
  intro u hu
  obtain ⟨x, _, hx⟩ := List.mem_flatMap.1 hu
  exact four_one x u hx
set_option maxHeartbeats 1000000 in
/-- slices.Clone of nodes that lie in memory. -/
theorem CloneN_any (b o c : Nat) (xs : List Nd) (L B : Nat) (w : World) (hl : xs.length ≤ 1048576) (hx : RS Nd.enc 4 w L B (some ⟨b, o, none⟩) xs) (hB : B ≤ w.heap.size) :
    Calls Try.prog 71 #[.slice (some ⟨b, o, none⟩) xs.length c] w (FreshNode w xs) := by
  obtain ⟨i0, hi, hz0, hz1, hz2⟩ := info_parts Try.infoNode
  have hb0 := Lib.hid ((Below.refl w.heap.size w).alloc (Nat.le_refl _) (.cells #[] 62))
  have hnews := Lib.hid ((hx.below hb0.out hB).news Nd.hk)
  have hown := Lib.hid (World.ownsRow_made (base := w.heap.size) (e := 62) (size := 4) w #[] 0 (Nat.le_refl _) (by unfold maxLen; omega) (by simp))
  clear hx
  have heq := Lib.run_eql_slice_nil (P := Try.prog) w 24 62 (some ⟨b, o, none⟩) xs.length c 0 0 Try.underlying24
  simp only [Option.isNone_some] at heq
  go_enter Try.func71, Try.ntmps71
  go_wp2_with (at_builtin; refine wpList_append_src rfl _ _ 24 rfl w.heap.size 62 i0 _ 4 40 Try.underlying24 hi hz0 hz1 hz2 rfl (by decide) _ 0 [] rfl hown.out (some ⟨b, o, none⟩) xs.length c (xs.flatMap Nd.enc) rfl (kflat_len Nd.hk xs) hnews.out (nd_ones xs) (by unfold maxLen; omega) (by omega) (by simp) ?_; intro v' w1 hown' hgrow _)
  simp only [Nat.zero_add, List.nil_append] at hown'
  have ho : Hid (OK Nd.enc 4 62 w1 w.heap.size w1.heap.size v' xs) := ⟨hown', fun j hj => (hown'.lt j hj).2⟩
  have hb : Hid (Below w.heap.size w w1) := hb0.out.grown hgrow (by simp) (fun k hk => by cases hk; exact Nat.le_refl _)
  obtain ⟨A', c', rfl, _⟩ := OK.form Nd.hk ho.out
  clear hown' hgrow
  go_wp2
  go_ret
  exact ⟨_, _, rfl, ho.out, hb.out⟩

set_option maxHeartbeats 4000000 in
theorem move_gen (q g L C m k cc : Nat) (s : List Nd × Bool) (v : Value) (ps : List Int) (n : Nd) (w : World) (hn : isNode n k = true) (hk : k < m) (hm : ps.length = m) (hqg : q ≠ g) (hgL : g < L) (hL : L ≤ w.heap.size) (hCq : C ≤ q) (hCg : C ≤ g) (hCL : C ≤ L)
    (hs : GS 84 [.slice (some ⟨g, 0, none⟩) m cc] q L s.1 s.2 v w) (hi : IB w g 3 ps) :
    Calls Try.prog 73 #[.pointer (some ⟨q, 0, none⟩), .int .i64 k, .agg #[.string n.op, .int .i64 n.a, .int .i64 n.b, .int .i64 n.v]] w fun e w' => e = .returned (.tuple #[]) ∧ ∃ v', GS 84 [.slice (some ⟨g, 0, none⟩) m cc] q L (bp s (moved n ps)).1.1 (bp s (moved n ps)).1.2 v' w' ∧ IB w' g 3 (ps.set k (bp s (moved n ps)).2) ∧ Below C w w' := by
  have hal := Lib.hid ((Below.refl w.heap.size w).alloc (Nat.le_refl _) (.cells #[.string n.op, .int .i64 n.a, .int .i64 n.b, .int .i64 n.v] 62))
  have hq0 := hs.lt
  have k1 : (0 : Int) ≤ (k : Int) := by omega
  have k2 : (k : Int) < (m : Int) := by omega
  have hc2 := (hal.out.cell (p := ⟨q, 2, none⟩) hq0).trans hs.c2
  have X0 : Hid (XN (w.alloc (.cells #[.string n.op, .int .i64 n.a, .int .i64 n.b, .int .i64 n.v] 62)) w.heap.size n) := xn_new _ n
  have hWO := Lib.hid fun (W : World) (hW : Below w.heap.size w W) => withOperands_any q g m k cc n ps W hm hn hk (by have := hW.size; omega) ((hW.cell (p := ⟨q, 2, none⟩) hq0).trans hs.c2) (hi.below hW hi.lt)
  have hPut := Lib.hid fun (W : World) (hz : w.heap.size ≤ W.heap.size) (h' : GS 84 [.slice (some ⟨g, 0, none⟩) m cc] q L s.1 s.2 v W) => put_gen 84 [.slice (some ⟨g, 0, none⟩) m cc] q L s v (moved n ps) W (by omega) h'
  have hGn := Lib.hid fun (W : World) (hW : Below w.heap.size w W) => hs.next hW
  have hIn := Lib.hid fun (W : World) (hW : Below w.heap.size w W) => hi.below hW hi.lt
  have hvw : v.ownBlock ≠ some w.heap.size := fun e => by have := (hs.own _ e).2; omega
  have hvg : v.ownBlock ≠ some g := fun e => by have := (hs.own _ e).1; omega
  have hvC := Lib.hid fun j (hj : v.ownBlock = some j) => Nat.le_trans hCL (hs.own j hj).1
  have hwq : w.heap.size ≠ q := by omega
  have hwg : g ≠ w.heap.size := by have := hi.lt; omega
  have hil := hi.lt
  clear hi hs
  generalize bp s (moved n ps) = r at *
  obtain ⟨⟨s1, s2⟩, r⟩ := r
  dsimp only at hPut ⊢
  go_enter Try.func73, Try.ntmps73
  go_wp2_with (fail)
  generalize w.alloc (.cells #[.string n.op, .int .i64 n.a, .int .i64 n.b, .int .i64 n.v] 62) = w0 at *
  obtain ⟨m0, m1, m2, m3⟩ := X0.out.cells
  go_region_held3 (fun w' => w'.cell? ⟨q, 2, none⟩ = some (.slice (some ⟨g, 0, none⟩) m cc) ∧ w'.cell? ⟨w.heap.size, 0, none⟩ = some (.string n.op) ∧ w'.cell? ⟨w.heap.size, 1, none⟩ = some (.int .i64 n.a) ∧ w'.cell? ⟨w.heap.size, 2, none⟩ = some (.int .i64 n.b) ∧ w'.cell? ⟨w.heap.size, 3, none⟩ = some (.int .i64 n.v))
    (first | exact K5 | exact K4 | exact K3 | assumption | go_keep)
    (first
      | (go_at_call 103; refine (hWO.out _ (by first | exact hal.out | exact hal.out.drew)).mono ?_; rintro e w3 ⟨rfl, hb3⟩; have hbw : Below w.heap.size w w3 := (by first | exact hal.out.trans (hb3.mono hal.out.size) | exact hal.out.drew.trans (hb3.mono hal.out.size)); have hx3 : XN w3 w.heap.size n := (by first | exact X0.out.next hb3 | exact XN.next (w := w0.drew) X0.out hb3); have g3 := hGn.out w3 hbw; have i3 := hIn.out w3 hbw; have hz3 := hbw.size; have K3 := And.intro g3.c2 hx3.cells)
      | (go_at_call 102; refine (hPut.out _ (by first | exact hz3) g3).mono ?_; rintro e w4 ⟨rfl, v4, g4, f4', o4⟩; have f4 : Fr q v.ownBlock w3 w4 := (by first | exact f4' | exact (Fr.refl q _ w3).drew.trans f4' (fun j hj => .inl hj)); have i4 : IB w4 g 3 ps := (f4.block g (by omega) (Ne.symm hqg) hvg).trans i3; have x4 := xn_fr hx3 f4 hwq hvw; have hv4 : v4.ownBlock ≠ some g := (fun e => by rcases o4 _ e with e' | e'; exact hvg e'; have e2 : w3.heap.size ≤ g := e'; omega); have s1' := i4.cell k (by omega); have s2' := i4.frozen k; have K4 := And.intro g4.c2 x4.cells; have g5 := g4.other (p := ⟨g, k, none⟩) (Ne.symm hqg) hv4 (.int .i64 r); have K5 := And.intro g5.c2 (x4.other (q := g) k (.int .i64 r) hwg).cells; have i5 := i4.set k r))
  all_goals
    have H1 := Lib.hid g5
    have H2 := Lib.hid i5
    have H3 : Hid (Below C w w4) := (hbw.mono (show C ≤ w.heap.size by omega)).trans (f4.below (by omega) hCq (fun j hj => hvC.out j hj))
    clear hbw hb3 hx3 g3 i3 K3 g4 f4' f4 o4 i4 x4 s1' s2' K4 g5 K5 i5 hv4
    go_wp2
    first | (refine bodyPost_end (results_none rfl _ _ _) rfl ?_) | (refine bodyPost_ret (results_none rfl _ _ _) rfl ?_)
    exact ⟨rfl, v4, H1.out, H2.out, H3.out.setCell hCg _⟩
end Go.Proofs.Ytieljgfocgdngaa
