import Derived.Test.YtieljgfocgdngaaRD
import Derived.Test.YtieljgfocgdngaaXE
import Derived.Test.YtieljgfocgdngaaXI
import Derived.Test.YtieljgfocgdngaaLI
import Derived.WalkKit
import Derived.WalkSpells
import Derived.WalkLawsBesides
import Derived.Deep.RegionLaw
import Derived.Deep.AppendLies
import Derived.Lib.Hide
/- The model's tree that is made in the order of its walk: one node put. -/
namespace Go.Proofs.Ytieljgfocgdngaa
open Go.RowKit
set_option linter.unusedVariables false
set_option maxRecDepth 100000

/-- The state of a tree that is made. -/
def HS (q L : Nat) (xs : List Nd) (v : Value) (w : World) : Prop :=
  w.heap[q]? = some (.cells #[v] 148 (0, 0)) ∧ w.ownsRow L 62 4 v xs.length (xs.flatMap Nd.enc) ∧ v.ownBlock ≠ some q
theorem HS.lt {q L : Nat} {xs : List Nd} {v : Value} {w : World} (h : HS q L xs v w) : q < w.heap.size := by
  rcases Nat.lt_or_ge q w.heap.size with hlt | hge
  · exact hlt
  · have := h.1; rw [Array.getElem?_eq_none hge] at this; cases this
theorem HS.own {q L : Nat} {xs : List Nd} {v : Value} {w : World} (h : HS q L xs v w) : ∀ j, v.ownBlock = some j → L ≤ j ∧ j < w.heap.size := fun j hj => h.2.1.lt j hj
theorem HS.keep {q L : Nat} {xs : List Nd} {v : Value} {w w' : World} (h : HS q L xs v w) (hq : w'.heap[q]? = w.heap[q]?) (hr : ∀ j, v.ownBlock = some j → w'.heap[j]? = w.heap[j]?) : HS q L xs v w' := by
  refine ⟨hq.trans h.1, ⟨h.2.1.1, ?_⟩, h.2.2⟩
  rcases h.2.1.2 with hn | ⟨g, cap, cur, rfl, hg, hh, hrest⟩
  · exact .inl hn
  · exact .inr ⟨g, cap, cur, rfl, hg, (hr g rfl).trans hh, hrest⟩
theorem HS.next {q L : Nat} {xs : List Nd} {v : Value} {w w' : World} (h : HS q L xs v w) (hb : Below w.heap.size w w') : HS q L xs v w' :=
  h.keep (hb.block q h.lt) (fun j hj => hb.block j (h.own j hj).2)
theorem HS.other {q L : Nat} {xs : List Nd} {v : Value} {w : World} (h : HS q L xs v w) {p : Addr} (h1 : p.block ≠ q) (h2 : v.ownBlock ≠ some p.block) (u : Value) : HS q L xs v (w.setCell p u) :=
  h.keep (Below.heap_setCell w p u q (Ne.symm h1)) (fun j hj => Below.heap_setCell w p u j (fun e => h2 (by rw [hj, e])))
theorem HS.form {q L : Nat} {xs : List Nd} {v : Value} {w : World} (h : HS q L xs v w) : ∃ A c, v = .slice A xs.length c := by
  rcases h.2.1.2 with ⟨rfl, h0⟩ | ⟨g, cap, cur, rfl, _⟩
  · rw [h0]; exact ⟨_, _, rfl⟩
  · exact ⟨_, _, rfl⟩
theorem HS.ok {q L : Nat} {xs : List Nd} {v : Value} {w : World} (h : HS q L xs v w) : OK Nd.enc 4 62 w L w.heap.size v xs := ⟨h.2.1, fun j hj => (h.own j hj).2⟩
theorem HS.c0 {q L : Nat} {xs : List Nd} {v : Value} {w : World} (h : HS q L xs v w) : w.cell? ⟨q, 0, none⟩ = some v := by
  have := h.1; simp [World.cell?, this]
theorem HS.fz {q L : Nat} {xs : List Nd} {v : Value} {w : World} (h : HS q L xs v w) (i : Nat) : w.frozen? ⟨q, i, none⟩ = false := by
  have := h.1; simp [World.frozen?, this]
theorem HS.nil (L : Nat) (w : World) : HS w.heap.size L [] (.slice none 0 0) (w.alloc (.cells #[.slice none 0 0] 148)) :=
  ⟨heap_alloc_new w _, World.ownsRow_nil _ _ _ _, fun e => by simp [Value.ownBlock] at e⟩
/-- What a call leaves of the tree's state. -/
def HP (q L : Nat) (v : Value) (w : World) (xs : List Nd) (w' : World) : Prop :=
  ∃ v', HS q L xs v' w' ∧ Fr q v.ownBlock w w' ∧ ∀ j, v'.ownBlock = some j → v.ownBlock = some j ∨ w.heap.size ≤ j
theorem HP.trans {q L : Nat} {v v1 : Value} {w w1 w2 : World} {xs : List Nd} (h1 : Fr q v.ownBlock w w1) (h2 : ∀ j, v1.ownBlock = some j → v.ownBlock = some j ∨ w.heap.size ≤ j) (h : HP q L v1 w1 xs w2) : HP q L v w xs w2 := by
  obtain ⟨v2, g, f, o⟩ := h
  refine ⟨v2, g, h1.trans f h2, fun j hj => ?_⟩
  rcases o j hj with e | e
  · exact h2 j e
  · exact .inr (Nat.le_trans h1.size e)
def pnode (n : Nd) (ps : List Int) : Nd := ⟨n.op, ps.getD 0 0, ps.getD 1 0, n.v⟩


set_option maxHeartbeats 4000000 in
theorem ruPut0 (q L Lp Bp : Nat) (xs : List Nd) (v : Value) (n : Nd) (PA : Option Addr) (pc : Nat)  (w : World) (hx : xs.length < 100000) (hL : L ≤ w.heap.size) (hBp : Bp ≤ w.heap.size) (hs : HS q L xs v w) (hp : IS w Lp Bp PA []) :
    Calls Try.prog 145 #[.pointer (some ⟨q, 0, none⟩), .agg #[.string n.op, .int .i64 n.a, .int .i64 n.b, .int .i64 n.v], .slice PA 0 pc] w fun e w' => e = .returned (.int .i64 xs.length) ∧ HP q L v w (xs ++ [pnode n []]) w' := by
  obtain ⟨i0, hi0, hi1, hi2, hi3⟩ := info_parts Try.infoNode
  have hJ0 := Lib.hid hi0
  have hJ1 := Lib.hid hi1
  have hJ2 := Lib.hid hi2
  have hJ3 := Lib.hid hi3
  clear hi0 hi1 hi2 hi3
  obtain ⟨AV, cv, rfl⟩ := hs.form
  have hq0 : q < w.heap.size := hs.lt
  obtain ⟨op, na, nb, nv⟩ := n
  obtain ⟨wa, hwa⟩ : ∃ wa, wa = w.alloc (.cells #[.string op, .int .i64 na, .int .i64 nb, .int .i64 nv] 62) := ⟨_, rfl⟩
  have ba : Below w.heap.size w wa := by rw [hwa]; exact (Below.refl _ _).alloc (Nat.le_refl _) _
  have xa : XN wa w.heap.size ⟨op, na, nb, nv⟩ := by rw [hwa]; exact xn_new _ ⟨op, na, nb, nv⟩
  have za : wa.heap.size = w.heap.size + 1 := by rw [hwa]; simp
  have hqa : q < wa.heap.size := by omega
  obtain ⟨w1, hw1⟩ : ∃ w1, w1 = wa.alloc (.cells #[.string op, .int .i64 0, .int .i64 0, .int .i64 nv] 62) := ⟨_, rfl⟩
  have bb : Below wa.heap.size wa w1 := by rw [hw1]; exact (Below.refl _ _).alloc (Nat.le_refl _) _
  have x1 : Hid (XN w1 (w.heap.size + 1) ⟨op, 0, 0, nv⟩) := by unfold Hid; rw [hw1, ← za]; exact xn_new wa ⟨op, 0, 0, nv⟩
  have z1 : Hid (w1.heap.size = w.heap.size + 2) := by unfold Hid; rw [hw1]; simp [za]
  have b1 := Lib.hid (ba.trans (bb.mono ba.size))
  have e1 : Hid (w1 = (w.alloc (.cells #[.string op, .int .i64 na, .int .i64 nb, .int .i64 nv] 62)).alloc (.cells #[.string op, .int .i64 0, .int .i64 0, .int .i64 nv] 62)) := by unfold Hid; rw [hw1, hwa]
  have s1 := Lib.hid (hs.next b1.out)
  obtain ⟨a0, a1, a2, a3⟩ := xa.cells
  rw [hwa] at a0 a1 a2 a3
  have x24 : (xs.length : Int) < 100000 := by omega
  have hpn : pnode ⟨op, na, nb, nv⟩ [] = ⟨op, 0, 0, nv⟩ := rfl
  rw [hpn]
  clear hpn hs ba xa za bb hwa hw1 hqa
  go_enter Try.func145, Try.ntmps145
  go_wp2_with (fail)
  rw [← e1.out]
  have X1 := x1.out
  have B1 := Lib.hid b1.out
  have k0 : w1.cell? ⟨q, 0, none⟩ = some (.slice AV xs.length cv) := s1.out.c0
  have S1 := Lib.hid s1.out
  obtain ⟨m0, m1, m2, m3⟩ := X1.cells
  have Z1 : w1.heap.size = w.heap.size + 2 := z1.out
  have O2 := fun o => Lib.hid (show ((w1.alloc o).drew).ownsRow L 62 4 (.slice AV xs.length cv) xs.length (xs.flatMap Nd.enc) from (S1.out.next (((Below.refl w1.heap.size w1).alloc (Nat.le_refl _) o).drew)).2.1)
  have hf : w1.frozen? ⟨q, 0, none⟩ = false := S1.out.fz 0
  have HF1 := Lib.hid hf
  have hq1' : Hid (q < w1.heap.size) := S1.out.lt
  have hL1 : L ≤ w1.heap.size := by omega
  have k0' := fun o => (((Below.refl w1.heap.size w1).alloc (Nat.le_refl _) o).cell (p := ⟨q, 0, none⟩) hq1'.out).trans k0
  clear X1
  go_region_law (first | (refine step_append_lies _ rfl _ _ 24 rfl L 62 i0 _ 4 40 Try.underlying24 hJ0.out hJ1.out hJ2.out hJ3.out rfl (by decide) _ _ _ (by rfl) (O2 _).out ⟨w.heap.size + 2, 0, none⟩ 1 1 (Nd.enc ⟨op, 0, 0, nv⟩) (by rfl) rfl (four_new ⟨op, 0, 0, nv⟩ Z1) (four_one _) (by omega) (by unfold maxLen; omega) (by omega) (by simp; omega) (w1.heap.size + 1) (by simp) ?_; intro gg cap w2 hown1 hgr1 hat1 _; obtain ⟨j0, j1, j2, j3, j4⟩ := put_facts2 hq1'.out S1.out.2.2 k0 HF1.out hgr1))
  all_goals
    have h1' := Lib.hid hown1
    have J3 := Lib.hid j3
    have J4 := Lib.hid j4
    have HA := Lib.hid hat1
    clear hown1 hgr1 j4 hat1 j3
    go_wp2
    go_ret
    have hgq : gg ≠ q := by
      intro e; subst e
      rcases HA.out with e | e
      · exact S1.out.2.2 e
      · have := hq1'.out; omega
    refine ⟨rfl, .slice (some ⟨gg, 0, none⟩) (xs.length + 1) cap, ⟨?_, ?_, ?_⟩, ((Fr.ofBelow B1.out).trans J4.out (fun j hj => .inl hj)).set 0 _, ?_⟩
    · have h7 := J3.out.trans S1.out.1
      simp [World.setCell, Array.getElem?_modify, h7]
    · have h8 := h1'.out
      rw [nflat_snoc, List.length_append]
      refine ⟨h8.1, ?_⟩
      rcases h8.2 with hn | ⟨g, cp, cur, e, hg, hh, hrest⟩
      · exact .inl hn
      · refine .inr ⟨g, cp, cur, e, hg, ?_, hrest⟩
        have e' := e
        simp only [Value.slice.injEq, Option.some.injEq, Addr.mk.injEq] at e'
        exact (Below.heap_setCell w2 ⟨q, 0, none⟩ _ g (by rw [← e'.1.1]; exact hgq)).trans hh
    · intro e; exact hgq (by simpa [Value.ownBlock] using e)
    · intro j hj
      have hj' : gg = j := by simpa [Value.ownBlock] using hj
      subst hj'
      rcases HA.out with e | e
      · exact .inl e
      · exact .inr (by omega)

set_option maxHeartbeats 4000000 in
theorem ruPut1 (q L Lp Bp : Nat) (xs : List Nd) (v : Value) (n : Nd) (PA : Option Addr) (pc : Nat) (a : Int) (w : World) (hx : xs.length < 100000) (hL : L ≤ w.heap.size) (hBp : Bp ≤ w.heap.size) (hs : HS q L xs v w) (hp : IS w Lp Bp PA [a]) :
    Calls Try.prog 145 #[.pointer (some ⟨q, 0, none⟩), .agg #[.string n.op, .int .i64 n.a, .int .i64 n.b, .int .i64 n.v], .slice PA 1 pc] w fun e w' => e = .returned (.int .i64 xs.length) ∧ HP q L v w (xs ++ [pnode n [a]]) w' := by
  obtain ⟨i0, hi0, hi1, hi2, hi3⟩ := info_parts Try.infoNode
  have hJ0 := Lib.hid hi0
  have hJ1 := Lib.hid hi1
  have hJ2 := Lib.hid hi2
  have hJ3 := Lib.hid hi3
  clear hi0 hi1 hi2 hi3
  obtain ⟨AV, cv, rfl⟩ := hs.form
  have hq0 : q < w.heap.size := hs.lt
  obtain ⟨op, na, nb, nv⟩ := n
  obtain ⟨wa, hwa⟩ : ∃ wa, wa = w.alloc (.cells #[.string op, .int .i64 na, .int .i64 nb, .int .i64 nv] 62) := ⟨_, rfl⟩
  have ba : Below w.heap.size w wa := by rw [hwa]; exact (Below.refl _ _).alloc (Nat.le_refl _) _
  have xa : XN wa w.heap.size ⟨op, na, nb, nv⟩ := by rw [hwa]; exact xn_new _ ⟨op, na, nb, nv⟩
  have za : wa.heap.size = w.heap.size + 1 := by rw [hwa]; simp
  have hqa : q < wa.heap.size := by omega
  obtain ⟨pb, po, rfl, ⟨_, hpB⟩, hpc⟩ := (hp.below ba hBp) (by simp)
  have p0' := hpc 0 (by simp)
  simp only [Nat.add_zero, List.getElem_cons_zero] at p0'
  have hpl : pb < wa.heap.size := by omega
  have p0 := fun u => (((Below.refl wa.heap.size wa).alloc (Nat.le_refl _) u).cell (p := ⟨pb, po, none⟩) hpl).trans p0'
  rw [hwa] at p0
  clear p0' hpc
  obtain ⟨w1, hw1⟩ : ∃ w1, w1 = wa.alloc (.cells #[.string op, .int .i64 a, .int .i64 0, .int .i64 nv] 62) := ⟨_, rfl⟩
  have bb : Below wa.heap.size wa w1 := by rw [hw1]; exact (Below.refl _ _).alloc (Nat.le_refl _) _
  have x1 : Hid (XN w1 (w.heap.size + 1) ⟨op, a, 0, nv⟩) := by unfold Hid; rw [hw1, ← za]; exact xn_new wa ⟨op, a, 0, nv⟩
  have z1 : Hid (w1.heap.size = w.heap.size + 2) := by unfold Hid; rw [hw1]; simp [za]
  have b1 := Lib.hid (ba.trans (bb.mono ba.size))
  have e1 : Hid (w1 = (w.alloc (.cells #[.string op, .int .i64 na, .int .i64 nb, .int .i64 nv] 62)).alloc (.cells #[.string op, .int .i64 a, .int .i64 0, .int .i64 nv] 62)) := by unfold Hid; rw [hw1, hwa]
  have s1 := Lib.hid (hs.next b1.out)
  obtain ⟨a0, a1, a2, a3⟩ := xa.cells
  rw [hwa] at a0 a1 a2 a3
  have x24 : (xs.length : Int) < 100000 := by omega
  have hpn : pnode ⟨op, na, nb, nv⟩ [a] = ⟨op, a, 0, nv⟩ := rfl
  rw [hpn]
  clear hpn hs ba xa za bb hwa hw1 hqa
  go_enter Try.func145, Try.ntmps145
  go_wp2_with (fail)
  rw [← e1.out]
  have X1 := x1.out
  have B1 := Lib.hid b1.out
  have k0 : w1.cell? ⟨q, 0, none⟩ = some (.slice AV xs.length cv) := s1.out.c0
  have S1 := Lib.hid s1.out
  obtain ⟨m0, m1, m2, m3⟩ := X1.cells
  have Z1 : w1.heap.size = w.heap.size + 2 := z1.out
  have O2 := fun o => Lib.hid (show ((w1.alloc o).drew).ownsRow L 62 4 (.slice AV xs.length cv) xs.length (xs.flatMap Nd.enc) from (S1.out.next (((Below.refl w1.heap.size w1).alloc (Nat.le_refl _) o).drew)).2.1)
  have hf : w1.frozen? ⟨q, 0, none⟩ = false := S1.out.fz 0
  have HF1 := Lib.hid hf
  have hq1' : Hid (q < w1.heap.size) := S1.out.lt
  have hL1 : L ≤ w1.heap.size := by omega
  have k0' := fun o => (((Below.refl w1.heap.size w1).alloc (Nat.le_refl _) o).cell (p := ⟨q, 0, none⟩) hq1'.out).trans k0
  clear X1
  go_region_law (first | (refine step_append_lies _ rfl _ _ 24 rfl L 62 i0 _ 4 40 Try.underlying24 hJ0.out hJ1.out hJ2.out hJ3.out rfl (by decide) _ _ _ (by rfl) (O2 _).out ⟨w.heap.size + 2, 0, none⟩ 1 1 (Nd.enc ⟨op, a, 0, nv⟩) (by rfl) rfl (four_new ⟨op, a, 0, nv⟩ Z1) (four_one _) (by omega) (by unfold maxLen; omega) (by omega) (by simp; omega) (w1.heap.size + 1) (by simp) ?_; intro gg cap w2 hown1 hgr1 hat1 _; obtain ⟨j0, j1, j2, j3, j4⟩ := put_facts2 hq1'.out S1.out.2.2 k0 HF1.out hgr1))
  all_goals
    have h1' := Lib.hid hown1
    have J3 := Lib.hid j3
    have J4 := Lib.hid j4
    have HA := Lib.hid hat1
    clear hown1 hgr1 j4 hat1 j3
    go_wp2
    go_ret
    have hgq : gg ≠ q := by
      intro e; subst e
      rcases HA.out with e | e
      · exact S1.out.2.2 e
      · have := hq1'.out; omega
    refine ⟨rfl, .slice (some ⟨gg, 0, none⟩) (xs.length + 1) cap, ⟨?_, ?_, ?_⟩, ((Fr.ofBelow B1.out).trans J4.out (fun j hj => .inl hj)).set 0 _, ?_⟩
    · have h7 := J3.out.trans S1.out.1
      simp [World.setCell, Array.getElem?_modify, h7]
    · have h8 := h1'.out
      rw [nflat_snoc, List.length_append]
      refine ⟨h8.1, ?_⟩
      rcases h8.2 with hn | ⟨g, cp, cur, e, hg, hh, hrest⟩
      · exact .inl hn
      · refine .inr ⟨g, cp, cur, e, hg, ?_, hrest⟩
        have e' := e
        simp only [Value.slice.injEq, Option.some.injEq, Addr.mk.injEq] at e'
        exact (Below.heap_setCell w2 ⟨q, 0, none⟩ _ g (by rw [← e'.1.1]; exact hgq)).trans hh
    · intro e; exact hgq (by simpa [Value.ownBlock] using e)
    · intro j hj
      have hj' : gg = j := by simpa [Value.ownBlock] using hj
      subst hj'
      rcases HA.out with e | e
      · exact .inl e
      · exact .inr (by omega)

set_option maxHeartbeats 4000000 in
theorem ruPut2 (q L Lp Bp : Nat) (xs : List Nd) (v : Value) (n : Nd) (PA : Option Addr) (pc : Nat) (a b : Int) (w : World) (hx : xs.length < 100000) (hL : L ≤ w.heap.size) (hBp : Bp ≤ w.heap.size) (hs : HS q L xs v w) (hp : IS w Lp Bp PA [a, b]) :
    Calls Try.prog 145 #[.pointer (some ⟨q, 0, none⟩), .agg #[.string n.op, .int .i64 n.a, .int .i64 n.b, .int .i64 n.v], .slice PA 2 pc] w fun e w' => e = .returned (.int .i64 xs.length) ∧ HP q L v w (xs ++ [pnode n [a, b]]) w' := by
  obtain ⟨i0, hi0, hi1, hi2, hi3⟩ := info_parts Try.infoNode
  have hJ0 := Lib.hid hi0
  have hJ1 := Lib.hid hi1
  have hJ2 := Lib.hid hi2
  have hJ3 := Lib.hid hi3
  clear hi0 hi1 hi2 hi3
  obtain ⟨AV, cv, rfl⟩ := hs.form
  have hq0 : q < w.heap.size := hs.lt
  obtain ⟨op, na, nb, nv⟩ := n
  obtain ⟨wa, hwa⟩ : ∃ wa, wa = w.alloc (.cells #[.string op, .int .i64 na, .int .i64 nb, .int .i64 nv] 62) := ⟨_, rfl⟩
  have ba : Below w.heap.size w wa := by rw [hwa]; exact (Below.refl _ _).alloc (Nat.le_refl _) _
  have xa : XN wa w.heap.size ⟨op, na, nb, nv⟩ := by rw [hwa]; exact xn_new _ ⟨op, na, nb, nv⟩
  have za : wa.heap.size = w.heap.size + 1 := by rw [hwa]; simp
  have hqa : q < wa.heap.size := by omega
  obtain ⟨pb, po, rfl, ⟨_, hpB⟩, hpc⟩ := (hp.below ba hBp) (by simp)
  have p0' := hpc 0 (by simp)
  simp only [Nat.add_zero, List.getElem_cons_zero] at p0'
  have p1' := hpc 1 (by simp)
  simp only [List.getElem_cons_succ, List.getElem_cons_zero] at p1'
  have hpl : pb < wa.heap.size := by omega
  have p0 := fun u => (((Below.refl wa.heap.size wa).alloc (Nat.le_refl _) u).cell (p := ⟨pb, po, none⟩) hpl).trans p0'
  have p1 := fun u => (((Below.refl wa.heap.size wa).alloc (Nat.le_refl _) u).cell (p := ⟨pb, po + 1, none⟩) hpl).trans p1'
  rw [hwa] at p0 p1
  clear p0' p1' hpc
  obtain ⟨w1, hw1⟩ : ∃ w1, w1 = wa.alloc (.cells #[.string op, .int .i64 a, .int .i64 b, .int .i64 nv] 62) := ⟨_, rfl⟩
  have bb : Below wa.heap.size wa w1 := by rw [hw1]; exact (Below.refl _ _).alloc (Nat.le_refl _) _
  have x1 : Hid (XN w1 (w.heap.size + 1) ⟨op, a, b, nv⟩) := by unfold Hid; rw [hw1, ← za]; exact xn_new wa ⟨op, a, b, nv⟩
  have z1 : Hid (w1.heap.size = w.heap.size + 2) := by unfold Hid; rw [hw1]; simp [za]
  have b1 := Lib.hid (ba.trans (bb.mono ba.size))
  have e1 : Hid (w1 = (w.alloc (.cells #[.string op, .int .i64 na, .int .i64 nb, .int .i64 nv] 62)).alloc (.cells #[.string op, .int .i64 a, .int .i64 b, .int .i64 nv] 62)) := by unfold Hid; rw [hw1, hwa]
  have s1 := Lib.hid (hs.next b1.out)
  obtain ⟨a0, a1, a2, a3⟩ := xa.cells
  rw [hwa] at a0 a1 a2 a3
  have x24 : (xs.length : Int) < 100000 := by omega
  have hpn : pnode ⟨op, na, nb, nv⟩ [a, b] = ⟨op, a, b, nv⟩ := rfl
  rw [hpn]
  clear hpn hs ba xa za bb hwa hw1 hqa
  go_enter Try.func145, Try.ntmps145
  go_wp2_with (fail)
  rw [← e1.out]
  have X1 := x1.out
  have B1 := Lib.hid b1.out
  have k0 : w1.cell? ⟨q, 0, none⟩ = some (.slice AV xs.length cv) := s1.out.c0
  have S1 := Lib.hid s1.out
  obtain ⟨m0, m1, m2, m3⟩ := X1.cells
  have Z1 : w1.heap.size = w.heap.size + 2 := z1.out
  have O2 := fun o => Lib.hid (show ((w1.alloc o).drew).ownsRow L 62 4 (.slice AV xs.length cv) xs.length (xs.flatMap Nd.enc) from (S1.out.next (((Below.refl w1.heap.size w1).alloc (Nat.le_refl _) o).drew)).2.1)
  have hf : w1.frozen? ⟨q, 0, none⟩ = false := S1.out.fz 0
  have HF1 := Lib.hid hf
  have hq1' : Hid (q < w1.heap.size) := S1.out.lt
  have hL1 : L ≤ w1.heap.size := by omega
  have k0' := fun o => (((Below.refl w1.heap.size w1).alloc (Nat.le_refl _) o).cell (p := ⟨q, 0, none⟩) hq1'.out).trans k0
  clear X1
  go_region_law (first | (refine step_append_lies _ rfl _ _ 24 rfl L 62 i0 _ 4 40 Try.underlying24 hJ0.out hJ1.out hJ2.out hJ3.out rfl (by decide) _ _ _ (by rfl) (O2 _).out ⟨w.heap.size + 2, 0, none⟩ 1 1 (Nd.enc ⟨op, a, b, nv⟩) (by rfl) rfl (four_new ⟨op, a, b, nv⟩ Z1) (four_one _) (by omega) (by unfold maxLen; omega) (by omega) (by simp; omega) (w1.heap.size + 1) (by simp) ?_; intro gg cap w2 hown1 hgr1 hat1 _; obtain ⟨j0, j1, j2, j3, j4⟩ := put_facts2 hq1'.out S1.out.2.2 k0 HF1.out hgr1))
  all_goals
    have h1' := Lib.hid hown1
    have J3 := Lib.hid j3
    have J4 := Lib.hid j4
    have HA := Lib.hid hat1
    clear hown1 hgr1 j4 hat1 j3
    go_wp2
    go_ret
    have hgq : gg ≠ q := by
      intro e; subst e
      rcases HA.out with e | e
      · exact S1.out.2.2 e
      · have := hq1'.out; omega
    refine ⟨rfl, .slice (some ⟨gg, 0, none⟩) (xs.length + 1) cap, ⟨?_, ?_, ?_⟩, ((Fr.ofBelow B1.out).trans J4.out (fun j hj => .inl hj)).set 0 _, ?_⟩
    · have h7 := J3.out.trans S1.out.1
      simp [World.setCell, Array.getElem?_modify, h7]
    · have h8 := h1'.out
      rw [nflat_snoc, List.length_append]
      refine ⟨h8.1, ?_⟩
      rcases h8.2 with hn | ⟨g, cp, cur, e, hg, hh, hrest⟩
      · exact .inl hn
      · refine .inr ⟨g, cp, cur, e, hg, ?_, hrest⟩
        have e' := e
        simp only [Value.slice.injEq, Option.some.injEq, Addr.mk.injEq] at e'
        exact (Below.heap_setCell w2 ⟨q, 0, none⟩ _ g (by rw [← e'.1.1]; exact hgq)).trans hh
    · intro e; exact hgq (by simpa [Value.ownBlock] using e)
    · intro j hj
      have hj' : gg = j := by simpa [Value.ownBlock] using hj
      subst hj'
      rcases HA.out with e | e
      · exact .inl e
      · exact .inr (by omega)

end Go.Proofs.Ytieljgfocgdngaa
