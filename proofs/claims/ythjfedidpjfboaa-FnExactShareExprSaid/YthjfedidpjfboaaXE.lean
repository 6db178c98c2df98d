import Derived.Test.YthjfedidpjfboaaWI
import Derived.WalkKit
import Derived.WalkSpells
import Derived.WalkLawsBesides
import Derived.Deep.AppendLies
import Derived.Lib.Hide
/- A builder inside a bigger box: its state, and what one world changes of another. -/
namespace Go.Proofs.Ythjfedidpjfboaa
open Go.RowKit
set_option linter.unusedVariables false
set_option maxRecDepth 100000

/-- What one world changes of another: the block q and the row r alone. -/
structure Fr (q : Nat) (r : Option Nat) (w w' : World) : Prop where
  os : w'.os = w.os
  tape : w'.tape = w.tape
  output : w'.output = w.output
  size : w.heap.size ≤ w'.heap.size
  block : ∀ j, j < w.heap.size → j ≠ q → r ≠ some j → w'.heap[j]? = w.heap[j]?
theorem Fr.below {q B : Nat} {r : Option Nat} {w w' : World} (h : Fr q r w w') (hB : B ≤ w.heap.size) (hq : B ≤ q) (hr : ∀ j, r = some j → B ≤ j) : Below B w w' :=
  ⟨h.os, h.tape, h.output, h.size, fun j hj => h.block j (by omega) (by omega) (fun e => by have := hr j e; omega)⟩
theorem Fr.ofBelow {q : Nat} {r : Option Nat} {w w' : World} (h : Below w.heap.size w w') : Fr q r w w' := ⟨h.os, h.tape, h.output, h.size, fun j hj _ _ => h.block j hj⟩
theorem Fr.refl (q : Nat) (r : Option Nat) (w : World) : Fr q r w w := ⟨rfl, rfl, rfl, Nat.le_refl _, fun _ _ _ _ => rfl⟩
theorem Fr.trans {q : Nat} {r r' : Option Nat} {a b c : World} (h : Fr q r a b) (k : Fr q r' b c) (hr : ∀ j, r' = some j → r = some j ∨ a.heap.size ≤ j) : Fr q r a c :=
  ⟨k.os.trans h.os, k.tape.trans h.tape, k.output.trans h.output, Nat.le_trans h.size k.size, fun j hj h1 h2 =>
    (k.block j (Nat.lt_of_lt_of_le hj h.size) h1 (fun e => by rcases hr j e with e' | e'; exact h2 e'; omega)).trans (h.block j hj h1 h2)⟩
theorem Fr.set {q : Nat} {r : Option Nat} {a w : World} (h : Fr q r a w) (i : Nat) (u : Value) : Fr q r a (w.setCell ⟨q, i, none⟩ u) :=
  ⟨h.os, h.tape, h.output, by simpa [World.setCell] using h.size, fun j hj h1 h2 => (Below.heap_setCell w ⟨q, i, none⟩ u j (by simpa using h1)).trans (h.block j hj h1 h2)⟩
theorem Fr.far {q : Nat} {r : Option Nat} {a w : World} (h : Fr q r a w) {p : Addr} (hp : a.heap.size ≤ p.block) (u : Value) : Fr q r a (w.setCell p u) :=
  ⟨h.os, h.tape, h.output, by simpa [World.setCell] using h.size, fun j hj h1 h2 => (Below.heap_setCell w p u j (by omega)).trans (h.block j hj h1 h2)⟩
theorem Fr.drew {q : Nat} {r : Option Nat} {a w : World} (h : Fr q r a w) : Fr q r a w.drew := ⟨h.os, h.tape, h.output, h.size, h.block⟩
theorem Fr.ofGrown {q : Nat} {r : Option Nat} {w w' : World} (h : w.grownBy w' r) : Fr q r w w' := ⟨h.os, h.tape, h.output, h.size, fun j hj _ h2 => h.block j hj (fun e => h2 e.symm)⟩

/-- The state of a builder: its nodes lie in v, its flag is told, the rest of its box stays. -/
def GS (t : TypeId) (rest : List Value) (q L : Nat) (xs : List Nd) (fl : Bool) (v : Value) (w : World) : Prop :=
  w.heap[q]? = some (.cells (v :: .bool fl :: rest).toArray t (0, 0)) ∧ w.ownsRow L 79 4 v xs.length (xs.flatMap Nd.enc) ∧ v.ownBlock ≠ some q
theorem GS.lt {t : TypeId} {rest : List Value} {q L : Nat} {xs : List Nd} {fl : Bool} {v : Value} {w : World} (h : GS t rest q L xs fl v w) : q < w.heap.size := by
  rcases Nat.lt_or_ge q w.heap.size with hlt | hge
  · exact hlt
  · have := h.1; rw [Array.getElem?_eq_none hge] at this; cases this
theorem GS.own {t : TypeId} {rest : List Value} {q L : Nat} {xs : List Nd} {fl : Bool} {v : Value} {w : World} (h : GS t rest q L xs fl v w) : ∀ j, v.ownBlock = some j → L ≤ j ∧ j < w.heap.size := fun j hj => h.2.1.lt j hj
theorem GS.keep {t : TypeId} {rest : List Value} {q L : Nat} {xs : List Nd} {fl : Bool} {v : Value} {w w' : World} (h : GS t rest q L xs fl v w) (hq : w'.heap[q]? = w.heap[q]?) (hr : ∀ j, v.ownBlock = some j → w'.heap[j]? = w.heap[j]?) : GS t rest q L xs fl v w' := by
  refine ⟨hq.trans h.1, ⟨h.2.1.1, ?_⟩, h.2.2⟩
  rcases h.2.1.2 with hn | ⟨g, cap, cur, rfl, hg, hh, hrest⟩
  · exact .inl hn
  · exact .inr ⟨g, cap, cur, rfl, hg, (hr g rfl).trans hh, hrest⟩
theorem GS.next {t : TypeId} {rest : List Value} {q L : Nat} {xs : List Nd} {fl : Bool} {v : Value} {w w' : World} (h : GS t rest q L xs fl v w) (hb : Below w.heap.size w w') : GS t rest q L xs fl v w' :=
  h.keep (hb.block q h.lt) (fun j hj => hb.block j (h.own j hj).2)
theorem GS.other {t : TypeId} {rest : List Value} {q L : Nat} {xs : List Nd} {fl : Bool} {v : Value} {w : World} (h : GS t rest q L xs fl v w) {p : Addr} (h1 : p.block ≠ q) (h2 : v.ownBlock ≠ some p.block) (u : Value) : GS t rest q L xs fl v (w.setCell p u) :=
  h.keep (Below.heap_setCell w p u q (Ne.symm h1)) (fun j hj => Below.heap_setCell w p u j (fun e => h2 (by rw [hj, e])))
theorem GS.form {t : TypeId} {rest : List Value} {q L : Nat} {xs : List Nd} {fl : Bool} {v : Value} {w : World} (h : GS t rest q L xs fl v w) : ∃ A c, v = .slice A xs.length c := by
  rcases h.2.1.2 with ⟨rfl, h0⟩ | ⟨g, cap, cur, rfl, _⟩
  · rw [h0]; exact ⟨_, _, rfl⟩
  · exact ⟨_, _, rfl⟩
theorem GS.ok {t : TypeId} {rest : List Value} {q L : Nat} {xs : List Nd} {fl : Bool} {v : Value} {w : World} (h : GS t rest q L xs fl v w) : OK Nd.enc 4 79 w L w.heap.size v xs := ⟨h.2.1, fun j hj => (h.own j hj).2⟩
theorem GS.c0 {t : TypeId} {rest : List Value} {q L : Nat} {xs : List Nd} {fl : Bool} {v : Value} {w : World} (h : GS t rest q L xs fl v w) : w.cell? ⟨q, 0, none⟩ = some v := by
  have := h.1; simp [World.cell?, this]
theorem GS.c1 {t : TypeId} {rest : List Value} {q L : Nat} {xs : List Nd} {fl : Bool} {v : Value} {w : World} (h : GS t rest q L xs fl v w) : w.cell? ⟨q, 1, none⟩ = some (.bool fl) := by
  have := h.1; simp [World.cell?, this]
theorem GS.c2 {t : TypeId} {rest : List Value} {q L : Nat} {xs : List Nd} {fl : Bool} {v u : Value} {w : World} (h : GS t (u :: rest) q L xs fl v w) : w.cell? ⟨q, 2, none⟩ = some u := by
  have := h.1; simp [World.cell?, this]
theorem GS.fz {t : TypeId} {rest : List Value} {q L : Nat} {xs : List Nd} {fl : Bool} {v : Value} {w : World} (h : GS t rest q L xs fl v w) (i : Nat) : w.frozen? ⟨q, i, none⟩ = false := by
  have := h.1; simp [World.frozen?, this]
theorem GS.flag {t : TypeId} {rest : List Value} {q L : Nat} {xs : List Nd} {fl : Bool} {v : Value} {w : World} (h : GS t rest q L xs fl v w) (x : Bool) : GS t rest q L xs x v (w.setCell ⟨q, 1, none⟩ (.bool x)) := by
  refine ⟨?_, ?_, h.2.2⟩
  · have := h.1; simp [World.setCell, Array.getElem?_modify, this]
  · refine ⟨h.2.1.1, ?_⟩
    rcases h.2.1.2 with hn | ⟨g, cap, cur, rfl, hg, hh, hrest⟩
    · exact .inl hn
    · exact .inr ⟨g, cap, cur, rfl, hg, (Below.heap_setCell w ⟨q, 1, none⟩ _ g (fun e => h.2.2 (by have e' : g = q := e; rw [e']; rfl))).trans hh, hrest⟩
theorem GS.nil (t : TypeId) (rest : List Value) (fl : Bool) (L : Nat) (w : World) : GS t rest w.heap.size L [] fl (.slice none 0 0) (w.alloc (.cells (Value.slice none 0 0 :: .bool fl :: rest).toArray t)) :=
  ⟨heap_alloc_new w _, World.ownsRow_nil _ _ _ _, fun e => by simp [Value.ownBlock] at e⟩

/-- What a call leaves of a builder's state. -/
def GP (t : TypeId) (rest : List Value) (q L : Nat) (v : Value) (w : World) (s : List Nd × Bool) (w' : World) : Prop :=
  ∃ v', GS t rest q L s.1 s.2 v' w' ∧ Fr q v.ownBlock w w' ∧ ∀ j, v'.ownBlock = some j → v.ownBlock = some j ∨ w.heap.size ≤ j
theorem GP.refl {t : TypeId} {rest : List Value} {q L : Nat} {xs : List Nd} {fl : Bool} {v : Value} {w : World} (h : GS t rest q L xs fl v w) : GP t rest q L v w (xs, fl) w := ⟨v, h, Fr.refl _ _ _, fun j hj => .inl hj⟩
theorem GP.trans {t : TypeId} {rest : List Value} {q L : Nat} {v v1 : Value} {w w1 w2 : World} {s : List Nd × Bool} (h1 : Fr q v.ownBlock w w1) (h2 : ∀ j, v1.ownBlock = some j → v.ownBlock = some j ∨ w.heap.size ≤ j) (h : GP t rest q L v1 w1 s w2) : GP t rest q L v w s w2 := by
  obtain ⟨v2, g, f, o⟩ := h
  refine ⟨v2, g, h1.trans f h2, fun j hj => ?_⟩
  rcases o j hj with e | e
  · exact h2 j e
  · exact .inr (Nat.le_trans h1.size e)

/-! ### One node put -/
def bp (s : List Nd × Bool) (y : Nd) : (List Nd × Bool) × Int := if 24 ≤ s.1.length then ((s.1, true), 0) else if s.2 = true then (s, 0) else ((s.1 ++ [y], false), (s.1.length : Int))

theorem put_facts2 {q : Nat} {w1 w2 : World} {o : Obj} {AV : Option Addr} {cv n : Nat} {row : Option Nat} (hq : q < w1.heap.size) (hr : row ≠ some q) (k0 : w1.cell? ⟨q, 0, none⟩ = some (.slice AV n cv)) (hf : w1.frozen? ⟨q, 0, none⟩ = false) (hg : ((w1.alloc o).drew).grownBy w2 row) :
    w2.cell? ⟨q, 0, none⟩ = some (.slice AV n cv) ∧ w2.frozen? ⟨q, 0, none⟩ = false ∧ (∀ x, (w2.setCell ⟨q, 0, none⟩ x).cell? ⟨q, 0, none⟩ = some x) ∧ w2.heap[q]? = w1.heap[q]? ∧ Fr q row w1 w2 := by
  have hz : w1.heap.size ≤ (w1.alloc o).drew.heap.size := ((Below.refl w1.heap.size w1).alloc (Nat.le_refl _) o).drew.size
  have hb : w2.heap[q]? = w1.heap[q]? := (hg.block q (Nat.lt_of_lt_of_le hq hz) (Ne.symm hr)).trans (((Below.refl w1.heap.size w1).alloc (Nat.le_refl _) o).drew.block q hq)
  have hc : w2.cell? ⟨q, 0, none⟩ = some (.slice AV n cv) := (World.cell?_of_block hb).trans k0
  refine ⟨hc, (World.frozen?_of_block hb).trans hf, ?_, hb, ?_⟩
  · intro x
    exact World.cell?_setCell_same' w2 _ x (by rw [hc]; rfl)
  · exact Fr.trans (r' := row) (Fr.ofBelow (((Below.refl w1.heap.size w1).alloc (Nat.le_refl _) o).drew)) (Fr.ofGrown hg) (fun j hj => .inl hj)

set_option maxHeartbeats 4000000 in
theorem put_new (t : TypeId) (rest : List Value) (q L : Nat) (xs : List Nd) (v : Value) (y : Nd) (w : World) (hx : xs.length < 24) (hL : L ≤ w.heap.size) (hs : GS t rest q L xs false v w) :
    Calls Try.prog 202 #[.pointer (some ⟨q, 0, none⟩), .agg #[.string y.op, .int .i64 y.a, .int .i64 y.b, .int .i64 y.v]] w fun e w' => e = .returned (.int .i64 xs.length) ∧ GP t rest q L v w (xs ++ [y], false) w' := by
  obtain ⟨i0, hi0, hi1, hi2, hi3⟩ := info_parts Try.infoNode
  have hJ0 := Lib.hid hi0
  have hJ1 := Lib.hid hi1
  have hJ2 := Lib.hid hi2
  have hJ3 := Lib.hid hi3
  clear hi0 hi1 hi2 hi3
  obtain ⟨AV, cv, rfl⟩ := hs.form
  have hq0 : q < w.heap.size := hs.lt
  have hal := fun o => (Below.refl w.heap.size w).alloc (Nat.le_refl _) o
  have g0 := fun o => ((hal o).cell (p := ⟨q, 0, none⟩) hq0).trans hs.c0
  have g1 := fun o => ((hal o).cell (p := ⟨q, 1, none⟩) hq0).trans hs.c1
  have x24 : (xs.length : Int) < 24 := by omega
  have hf := hs.fz 0
  have HS := Lib.hid hs
  clear hs
  go_enter Try.func202, Try.ntmps202
  go_wp2_with (fail)
  obtain ⟨w1, hw1⟩ : ∃ w1, w1 = w.alloc (.cells #[.string y.op, .int .i64 y.a, .int .i64 y.b, .int .i64 y.v] 79) := ⟨_, rfl⟩
  have X1 : XN w1 w.heap.size y := by rw [hw1]; exact xn_new _ y
  have B1 : Hid (Below w.heap.size w w1) := by unfold Hid; rw [hw1]; exact hal _
  have k0 : w1.cell? ⟨q, 0, none⟩ = some (.slice AV xs.length cv) := by rw [hw1]; exact g0 _
  have S1 : Hid (GS t rest q L xs false (.slice AV xs.length cv) w1) := HS.out.next B1.out
  have Z1 : w1.heap.size = w.heap.size + 1 := by rw [hw1]; simp
  obtain ⟨m0, m1, m2, m3⟩ := X1.cells
  have O2 := fun o => Lib.hid (show ((w1.alloc o).drew).ownsRow L 79 4 (.slice AV xs.length cv) xs.length (xs.flatMap Nd.enc) from (S1.out.next (((Below.refl w1.heap.size w1).alloc (Nat.le_refl _) o).drew)).2.1)
  have HF1 : Hid (w1.frozen? ⟨q, 0, none⟩ = false) := S1.out.fz 0
  have hq1 : Hid (q < w1.heap.size) := S1.out.lt
  rw [← hw1]
  have HW1 := Lib.hid hw1
  have hL1 : L ≤ w1.heap.size := by omega
  clear hw1 hal g0 g1 X1
  go_region_law (first | (refine step_append_lies _ rfl _ _ 24 rfl L 79 i0 _ 4 40 Try.underlying24 hJ0.out hJ1.out hJ2.out hJ3.out rfl (by decide) _ _ _ (by rfl) (O2 _).out ⟨w.heap.size + 1, 0, none⟩ 1 1 (Nd.enc y) (by rfl) rfl (four_new y Z1) (four_one _) (by omega) (by unfold maxLen; omega) (by omega) (by simp; omega) (w1.heap.size + 1) (by simp) ?_; intro gg cap w2 hown1 hgr1 hat1 _; obtain ⟨j0, j1, j2, j3, j4⟩ := put_facts2 hq1.out HS.out.2.2 k0 HF1.out hgr1))
  all_goals
    have h1' := Lib.hid hown1
    have J3 := Lib.hid j3
    have J4 := Lib.hid j4
    have HA := Lib.hid hat1
    clear hown1 hgr1 j4 hat1 j3
    go_wp2
    go_ret
    have hgq : gg ≠ q := by
      intro e; subst e
      rcases HA.out with e | e
      · exact HS.out.2.2 e
      · have := hq1.out; omega
    refine ⟨rfl, .slice (some ⟨gg, 0, none⟩) (xs.length + 1) cap, ⟨?_, ?_, ?_⟩, ((Fr.ofBelow B1.out).trans J4.out (fun j hj => .inl hj)).set 0 _, ?_⟩
    · have h7 := J3.out.trans S1.out.1
      simp [World.setCell, Array.getElem?_modify, h7]
    · have h8 := h1'.out
      rw [nflat_snoc, List.length_append]
      refine ⟨h8.1, ?_⟩
      rcases h8.2 with hn | ⟨g, cp, cur, e, hg, hh, hrest⟩
      · exact .inl hn
      · refine .inr ⟨g, cp, cur, e, hg, ?_, hrest⟩
        have e' := e
        simp only [Value.slice.injEq, Option.some.injEq, Addr.mk.injEq] at e'
        exact (Below.heap_setCell w2 ⟨q, 0, none⟩ _ g (by rw [← e'.1.1]; exact hgq)).trans hh
    · intro e; exact hgq (by simpa [Value.ownBlock] using e)
    · intro j hj
      have hj' : gg = j := by simpa [Value.ownBlock] using hj
      subst hj'
      rcases HA.out with e | e
      · exact .inl e
      · exact .inr (by omega)

set_option maxHeartbeats 4000000 in
theorem put_full (t : TypeId) (rest : List Value) (q L : Nat) (xs : List Nd) (fl : Bool) (v : Value) (y : Nd) (w : World) (hx : 24 ≤ xs.length) (hs : GS t rest q L xs fl v w) :
    Calls Try.prog 202 #[.pointer (some ⟨q, 0, none⟩), .agg #[.string y.op, .int .i64 y.a, .int .i64 y.b, .int .i64 y.v]] w fun e w' => e = .returned (.int .i64 0) ∧ GP t rest q L v w (xs, true) w' := by
  obtain ⟨AV, cv, rfl⟩ := hs.form
  obtain ⟨w1, hw1⟩ : ∃ w1, w1 = w.alloc (.cells #[.string y.op, .int .i64 y.a, .int .i64 y.b, .int .i64 y.v] 79) := ⟨_, rfl⟩
  have B1 : Hid (Below w.heap.size w w1) := by unfold Hid; rw [hw1]; exact (Below.refl w.heap.size w).alloc (Nat.le_refl _) _
  have S1 : Hid (GS t rest q L xs fl (.slice AV xs.length cv) w1) := hs.next B1.out
  have S2 := Lib.hid (S1.out.flag true)
  have k0 := S1.out.c0
  have k1 := S1.out.c1
  have kf := S1.out.fz 1
  have ks := S2.out.c1
  have x24 : (24 : Int) ≤ (xs.length : Int) := by omega
  have HW1 := Lib.hid hw1
  rw [hw1] at k0 k1 kf ks
  clear hs hw1
  go_enter Try.func202, Try.ntmps202
  go_wp2
  go_ret
  rw [← HW1.out]
  exact ⟨rfl, _, S2.out, (Fr.ofBelow B1.out).set 1 _, fun j hj => .inl hj⟩

set_option maxHeartbeats 4000000 in
theorem put_failed (t : TypeId) (rest : List Value) (q L : Nat) (xs : List Nd) (v : Value) (y : Nd) (w : World) (hx : xs.length < 24) (hs : GS t rest q L xs true v w) :
    Calls Try.prog 202 #[.pointer (some ⟨q, 0, none⟩), .agg #[.string y.op, .int .i64 y.a, .int .i64 y.b, .int .i64 y.v]] w fun e w' => e = .returned (.int .i64 0) ∧ GP t rest q L v w (xs, true) w' := by
  obtain ⟨AV, cv, rfl⟩ := hs.form
  obtain ⟨w1, hw1⟩ : ∃ w1, w1 = w.alloc (.cells #[.string y.op, .int .i64 y.a, .int .i64 y.b, .int .i64 y.v] 79) := ⟨_, rfl⟩
  have B1 : Hid (Below w.heap.size w w1) := by unfold Hid; rw [hw1]; exact (Below.refl w.heap.size w).alloc (Nat.le_refl _) _
  have S1 : Hid (GS t rest q L xs true (.slice AV xs.length cv) w1) := hs.next B1.out
  have k0 := S1.out.c0
  have k1 := S1.out.c1
  have x24 : (xs.length : Int) < 24 := by omega
  have HW1 := Lib.hid hw1
  rw [hw1] at k0 k1
  clear hs hw1
  go_enter Try.func202, Try.ntmps202
  go_wp2
  go_ret
  rw [← HW1.out]
  exact ⟨rfl, _, S1.out, Fr.ofBelow B1.out, fun j hj => .inl hj⟩

theorem put_gen (t : TypeId) (rest : List Value) (q L : Nat) (s : List Nd × Bool) (v : Value) (y : Nd) (w : World) (hL : L ≤ w.heap.size) (hs : GS t rest q L s.1 s.2 v w) :
    Calls Try.prog 202 #[.pointer (some ⟨q, 0, none⟩), .agg #[.string y.op, .int .i64 y.a, .int .i64 y.b, .int .i64 y.v]] w fun e w' => e = .returned (.int .i64 (bp s y).2) ∧ GP t rest q L v w (bp s y).1 w' := by
  obtain ⟨xs, fl⟩ := s
  by_cases h : 24 ≤ xs.length
  · rw [show bp (xs, fl) y = ((xs, true), 0) by unfold bp; rw [if_pos h]]
    exact put_full t rest q L xs fl v y w h hs
  · cases fl
    · rw [show bp (xs, false) y = ((xs ++ [y], false), (xs.length : Int)) by unfold bp; rw [if_neg h, if_neg (by simp)]]
      exact put_new t rest q L xs v y w (by omega) hL hs
    · rw [show bp (xs, true) y = ((xs, true), 0) by unfold bp; rw [if_neg h, if_pos rfl]]
      exact put_failed t rest q L xs v y w (by omega) hs
end Go.Proofs.Ythjfedidpjfboaa
