import Derived.Test.YtaaloepoegehkaaRB
import Derived.Test.YtaaloepoegehkaaKMNode
import Derived.Test.YtaaloepoegehkaaKMInstr
import Derived.Test.YtaaloepoegehkaaCK
import Derived.WalkKit
import Derived.WalkSpells
import Derived.WalkLawsBesides
import Derived.Deep.RegionHeld3
import Derived.Lib.Hide
/- Desks: a box of two slices; the exact laws over one desk by value. -/
namespace Go.Proofs.Ytaaloepoegehkaa
open Go.RowKit
set_option linter.unusedVariables false
set_option maxRecDepth 100000

def DX (t : TypeId) (w : World) (g : Nat) (v1 v2 : Value) : Prop := w.heap[g]? = some (.cells #[v1, v2] t (0, 0))
theorem DX.lt {t : TypeId} {w : World} {g : Nat} {v1 v2 : Value} (h : DX t w g v1 v2) : g < w.heap.size := by
  rcases Nat.lt_or_ge g w.heap.size with hlt | hge
  · exact hlt
  · unfold DX at h; rw [Array.getElem?_eq_none hge] at h; cases h
theorem DX.next {t : TypeId} {w w' : World} {g : Nat} {v1 v2 : Value} (h : DX t w g v1 v2) (hb : Below w.heap.size w w') : DX t w' g v1 v2 := (hb.block g h.lt).trans h
theorem DX.cells {t : TypeId} {w : World} {g : Nat} {v1 v2 : Value} (h : DX t w g v1 v2) : w.cell? ⟨g, 0, none⟩ = some v1 ∧ w.cell? ⟨g, 1, none⟩ = some v2 := by
  unfold DX at h; simp [World.cell?, h]
theorem DX.fz {t : TypeId} {w : World} {g : Nat} {v1 v2 : Value} (h : DX t w g v1 v2) (i : Nat) : w.frozen? ⟨g, i, none⟩ = false := by
  unfold DX at h; simp [World.frozen?, h]
theorem DX.set0 {t : TypeId} {w : World} {g : Nat} {v1 v2 : Value} (h : DX t w g v1 v2) (x : Value) : DX t (w.setCell ⟨g, 0, none⟩ x) g x v2 := by
  unfold DX at h ⊢; simp [World.setCell, Array.getElem?_modify, h]
theorem DX.set1 {t : TypeId} {w : World} {g : Nat} {v1 v2 : Value} (h : DX t w g v1 v2) (x : Value) : DX t (w.setCell ⟨g, 1, none⟩ x) g v1 x := by
  unfold DX at h ⊢; simp [World.setCell, Array.getElem?_modify, h]
theorem DX.other {t : TypeId} {w : World} {g q : Nat} {v1 v2 : Value} (h : DX t w g v1 v2) (j : Nat) (x : Value) (hne : q ≠ g) : DX t (w.setCell ⟨q, j, none⟩ x) g v1 v2 :=
  (Below.heap_setCell w ⟨q, j, none⟩ x g (by simpa using fun e => hne e.symm)).trans h
theorem dx_new (t : TypeId) (w : World) (v1 v2 : Value) : DX t (w.alloc (.cells #[v1, v2] t)) w.heap.size v1 v2 := heap_alloc_new w _
theorem OK.farD {α : Type} {enc : α → List Value} {k : Nat} {t : TypeId} {w : World} {lo hi : Nat} {v : Value} {xs : List α} (h : OK enc k t w lo hi v xs) {p : Addr} (hp : p.block < lo ∨ hi ≤ p.block) (u : Value) : OK enc k t (w.setCell p u) lo hi v xs := by
  refine ⟨⟨h.1.1, ?_⟩, h.2⟩
  rcases h.1.2 with hn | ⟨g, cap, cur, rfl, hg, hh, hr⟩
  · exact .inl hn
  · have hB : g < hi := h.2 g rfl
    exact .inr ⟨g, cap, cur, rfl, hg, (Below.heap_setCell w p u g (by omega)).trans hh, hr⟩
/-- A function whose result is a desk in a cell. -/
theorem desk_ret {fn : Func} {Q : Ending → World → Prop} {tmps : Array Value} {w : World} {g : Nat} {v1 v2 : Value} {s : Tmp} (hr : fn.results = #[.cell s 48]) (hs : tmps.getD s undef = .pointer (some ⟨g, 0, none⟩))
    (h : DX 48 w g v1 v2) (hq : Q (.returned (.agg #[v1, v2])) w) : bodyPost Try.prog fn Q .ret ⟨tmps, []⟩ w := by
  obtain ⟨q0, q1⟩ := h.cells
  refine bodyPost_ret (v := .agg #[v1, v2]) ?_ rfl hq
  have hs' : tmps[s]?.getD undef = .pointer (some ⟨g, 0, none⟩) := by simpa using hs
  simp [results, hr, hs', go_sem, q0, q1]

def FreshDesk (w : World) (fr : List Nd) (to : List In) (e : Ending) (w' : World) : Prop :=
  ∃ A1 c1 A2 c2, e = .returned (.agg #[.slice A1 fr.length c1, .slice A2 to.length c2]) ∧ OK Nd.enc 4 108 w' w.heap.size w'.heap.size (.slice A1 fr.length c1) fr ∧ OK In.enc 5 88 w' w.heap.size w'.heap.size (.slice A2 to.length c2) to ∧ Below w.heap.size w w'

set_option maxHeartbeats 4000000 in
theorem toDesk_k (L B : Nat) (A1 A2 : Option Addr) (c1 c2 : Nat) (fr : List Nd) (to : List In) (w : World) (hl1 : fr.length ≤ 1048576) (hl2 : to.length ≤ 1048576) (h1 : RS Nd.enc 4 w L B A1 fr) (h2 : RS In.enc 5 w L B A2 to) (hB : B ≤ w.heap.size) :
    Calls Try.prog 45 #[.agg #[.slice A1 fr.length c1, .slice A2 to.length c2]] w (FreshDesk w fr to) := by
  have hT1 := Lib.hid fun (W : World) (hW : Below w.heap.size w W) => toNodeS_k L B A1 c1 fr W hl1 (h1.below hW hB) (Nat.le_trans hB hW.size)
  have hT2 := Lib.hid fun (W : World) (hW : Below w.heap.size w W) => toInstrS_any L B A2 c2 to W hl2 (h2.below hW hB) (Nat.le_trans hB hW.size)
  clear h1 h2
  obtain ⟨W1, hW1⟩ : ∃ W1, W1 = w.alloc (.cells #[.slice A1 fr.length c1, .slice A2 to.length c2] 55) := ⟨_, rfl⟩
  have b1 : Below w.heap.size w W1 := by rw [hW1]; exact (Below.refl _ _).alloc (Nat.le_refl _) _
  have x1 : DX 55 W1 w.heap.size (.slice A1 fr.length c1) (.slice A2 to.length c2) := by rw [hW1]; exact dx_new _ _ _ _
  have z1 : W1.heap.size = w.heap.size + 1 := by rw [hW1]; simp
  obtain ⟨W2, hW2⟩ : ∃ W2, W2 = W1.alloc (.cells #[.slice none 0 0, .slice none 0 0] 48) := ⟨_, rfl⟩
  have b2 : Below W1.heap.size W1 W2 := by rw [hW2]; exact (Below.refl _ _).alloc (Nat.le_refl _) _
  have r2 : DX 48 W2 (w.heap.size + 1) (.slice none 0 0) (.slice none 0 0) := by rw [hW2, ← z1]; exact dx_new _ _ _ _
  have z2 : W2.heap.size = w.heap.size + 2 := by rw [hW2]; simp [z1]
  obtain ⟨W3, hW3⟩ : ∃ W3, W3 = W2.alloc (.cells #[.slice none 0 0, .slice none 0 0] 48) := ⟨_, rfl⟩
  have b3 : Below W2.heap.size W2 W3 := by rw [hW3]; exact (Below.refl _ _).alloc (Nat.le_refl _) _
  have o3 : Hid (DX 48 W3 (w.heap.size + 2) (.slice none 0 0) (.slice none 0 0)) := by unfold Hid; rw [hW3, ← z2]; exact dx_new _ _ _ _
  have r3 := Lib.hid (r2.next b3)
  have x3 := Lib.hid ((x1.next b2).next b3)
  have B3 := Lib.hid ((b1.trans (b2.mono b1.size)).trans (b3.mono (by omega)))
  have z3 : W3.heap.size = w.heap.size + 3 := by rw [hW3]; simp [z2]
  have e3 : Hid (W3 = ((w.alloc (.cells #[.slice A1 fr.length c1, .slice A2 to.length c2] 55)).alloc (.cells #[.slice none 0 0, .slice none 0 0] 48)).alloc (.cells #[.slice none 0 0, .slice none 0 0] 48)) := by unfold Hid; rw [hW3, hW2, hW1]
  clear hW1 hW2 hW3 b1 x1 z1 b2 r2 z2 b3
  obtain ⟨k0, k1⟩ := x3.out.cells
  rw [e3.out] at k0 k1
  go_enter Try.func45, Try.ntmps45
  go_wp2_with (fail)
  rw [← e3.out]
  refine (hT1.out W3 B3.out).mono ?_
  rintro e w4 ⟨A1', c1', rfl, ho1, hb4⟩
  have z4 := hb4.size
  have x4 := Lib.hid (x3.out.next hb4)
  have r4 := Lib.hid (r3.out.next hb4)
  have o4 := Lib.hid (o3.out.next hb4)
  have B4 := Lib.hid (B3.out.trans (hb4.mono (by omega)))
  have O4 := Lib.hid ho1
  clear hb4 ho1 k0 k1
  obtain ⟨W5, hW5⟩ : ∃ W5, W5 = w4.setCell ⟨w.heap.size + 2, 0, none⟩ (.slice A1' fr.length c1') := ⟨_, rfl⟩
  have x5 : Hid (DX 55 W5 w.heap.size (.slice A1 fr.length c1) (.slice A2 to.length c2)) := by unfold Hid; rw [hW5]; exact x4.out.other (q := w.heap.size + 2) 0 _ (by omega)
  have r5 : Hid (DX 48 W5 (w.heap.size + 1) (.slice none 0 0) (.slice none 0 0)) := by unfold Hid; rw [hW5]; exact r4.out.other (q := w.heap.size + 2) 0 _ (by omega)
  have o5 : Hid (DX 48 W5 (w.heap.size + 2) (.slice A1' fr.length c1') (.slice none 0 0)) := by unfold Hid; rw [hW5]; exact o4.out.set0 _
  have B5 : Hid (Below w.heap.size w W5) := by unfold Hid; rw [hW5]; exact B4.out.setCell (p := ⟨w.heap.size + 2, 0, none⟩) (by simp) _
  have z5 : W5.heap.size = w4.heap.size := by rw [hW5]; simp [World.setCell]
  have O5 : Hid (OK Nd.enc 4 108 W5 W3.heap.size w4.heap.size (.slice A1' fr.length c1') fr) := by unfold Hid; rw [hW5]; exact O4.out.farD (p := ⟨w.heap.size + 2, 0, none⟩) (.inl (by simp; omega)) _
  have q0 := o4.out.fz 0
  obtain ⟨l0, l1⟩ := o4.out.cells
  obtain ⟨k0, k1⟩ := x5.out.cells
  rw [hW5] at k0 k1
  have HW5 := Lib.hid hW5
  clear hW5
  go_wp2_with (fail)
  rw [← HW5.out]
  refine (hT2.out W5 B5.out).mono ?_
  rintro e w6 ⟨A2', c2', rfl, ho2, hb6⟩
  have z6 := hb6.size
  have x6 := Lib.hid (x5.out.next hb6)
  have r6 := Lib.hid (r5.out.next hb6)
  have o6 := Lib.hid (o5.out.next hb6)
  have B6 := Lib.hid (B5.out.trans (hb6.mono (by omega)))
  have O6 := Lib.hid (O5.out.below hb6 (by omega))
  have P6 := Lib.hid ho2
  clear hb6 ho2 k0 k1 l0 l1 q0
  have q1 := o6.out.fz 1
  obtain ⟨l0, l1⟩ := o6.out.cells
  have o7 := Lib.hid (o6.out.set1 (.slice A2' to.length c2'))
  have x7 := Lib.hid (x6.out.other (q := w.heap.size + 2) 1 (.slice A2' to.length c2') (by omega))
  have r7 := Lib.hid (r6.out.other (q := w.heap.size + 2) 1 (.slice A2' to.length c2') (by omega))
  obtain ⟨k0, k1⟩ := x7.out.cells
  obtain ⟨j0, j1⟩ := o7.out.cells
  obtain ⟨h0, h1⟩ := r7.out.cells
  have f0 := r7.out.fz 0
  have f1 := r7.out.fz 1
  have R := Lib.hid ((r7.out.set0 (.slice A1' fr.length c1')).set1 (.slice A2' to.length c2'))
  have RO1 := Lib.hid (((O6.out.farD (p := ⟨w.heap.size + 2, 1, none⟩) (.inl (by simp; omega)) (.slice A2' to.length c2')).farD (p := ⟨w.heap.size + 1, 0, none⟩) (.inl (by simp; omega)) (.slice A1' fr.length c1')).farD (p := ⟨w.heap.size + 1, 1, none⟩) (.inl (by simp; omega)) (.slice A2' to.length c2'))
  have RO2 := Lib.hid (((P6.out.farD (p := ⟨w.heap.size + 2, 1, none⟩) (.inl (by simp; omega)) (.slice A2' to.length c2')).farD (p := ⟨w.heap.size + 1, 0, none⟩) (.inl (by simp; omega)) (.slice A1' fr.length c1')).farD (p := ⟨w.heap.size + 1, 1, none⟩) (.inl (by simp; omega)) (.slice A2' to.length c2'))
  have RB := Lib.hid (((B6.out.setCell (p := ⟨w.heap.size + 2, 1, none⟩) (by simp) (.slice A2' to.length c2')).setCell (p := ⟨w.heap.size + 1, 0, none⟩) (by simp) (.slice A1' fr.length c1')).setCell (p := ⟨w.heap.size + 1, 1, none⟩) (by simp) (.slice A2' to.length c2'))
  go_wp2
  refine desk_ret rfl rfl R.out ⟨A1', c1', A2', c2', rfl, (RO1.out.lower (by omega)).more (by simp [World.setCell]; omega), (RO2.out.lower (by omega)).more (by simp [World.setCell]), RB.out⟩

def SzDesk (w : World) (n m : Nat) (e : Ending) (w' : World) : Prop := ∃ r : Int, e = .returned (.int .i64 r) ∧ (0 ≤ r → n ≤ 1048576 ∧ m ≤ 1048576) ∧ Below w.heap.size w w'
set_option maxHeartbeats 2000000 in
theorem szDesk_k (L B : Nat) (A1 A2 : Option Addr) (c1 c2 : Nat) (fr : List Nd) (to : List In) (w : World) (hl1 : fr.length ≤ 9223372036854775807) (hl2 : to.length ≤ 9223372036854775807) (hs1 : ∀ n ∈ fr, n.op.size ≤ 9223372036854775807) (hs2 : ∀ n ∈ to, n.op.size ≤ 9223372036854775807)  (h1 : RS Nd.enc 4 w L B A1 fr) (h2 : RS In.enc 5 w L B A2 to) (hB : B ≤ w.heap.size) :
    Calls Try.prog 43 #[.agg #[.slice A1 fr.length c1, .slice A2 to.length c2], .int .i64 1048576] w (SzDesk w fr.length to.length) := by
  have hT1 := Lib.hid fun (W : World) (hW : Below w.heap.size w W) => szNodeS_k L B A1 c1 fr 1048576 W hl1 (h1.below hW hB) (Nat.le_trans hB hW.size) hs1 (by omega) (by omega)
  have hT2 := Lib.hid fun (W : World) (l : Int) (hW : Below w.heap.size w W) (h0 : 0 ≤ l) (h1' : l ≤ 1048576) => szInstrS_any L B A2 c2 to l W hl2 (h2.below hW hB) (Nat.le_trans hB hW.size) hs2 h0 h1'
  clear h1 h2 hs1 hs2
  obtain ⟨W1, hW1⟩ : ∃ W1, W1 = w.alloc (.cells #[.slice A1 fr.length c1, .slice A2 to.length c2] 55) := ⟨_, rfl⟩
  have b1 : Hid (Below w.heap.size w W1) := by unfold Hid; rw [hW1]; exact (Below.refl _ _).alloc (Nat.le_refl _) _
  have x1 : Hid (DX 55 W1 w.heap.size (.slice A1 fr.length c1) (.slice A2 to.length c2)) := by unfold Hid; rw [hW1]; exact dx_new _ _ _ _
  have e1 := Lib.hid hW1
  obtain ⟨k0, k1⟩ := x1.out.cells
  rw [hW1] at k0 k1
  clear hW1
  go_enter Try.func43, Try.ntmps43
  go_wp2_with (fail)
  rw [← e1.out]
  refine (hT1.out W1 b1.out).mono ?_
  rintro e w2 ⟨r1, rfl, ha, hb, hc, hbel⟩
  have b2 := Lib.hid (b1.out.trans (hbel.mono b1.out.size))
  have x2 := Lib.hid (x1.out.next hbel)
  clear hbel k0 k1
  obtain ⟨k0, k1⟩ := x2.out.cells
  by_cases hr1 : 0 ≤ r1
  rotate_left
  · go_wp2
    go_ret
    exact ⟨-1, rfl, fun h => absurd h (by omega), b2.out⟩
  have hn := Lib.hid (hb hr1)
  clear hb
  go_wp2_with (fail)
  refine (hT2.out w2 r1 b2.out hr1 ha).mono ?_
  rintro e w3 ⟨r2, rfl, ha2, hb2, hc2, hbel⟩
  have b3 := Lib.hid (b2.out.trans (hbel.mono b2.out.size))
  have x3 := Lib.hid (x2.out.next hbel)
  clear hbel k0 k1
  obtain ⟨k0, k1⟩ := x3.out.cells
  by_cases hr2 : 0 ≤ r2
  rotate_left
  · go_wp2
    go_ret
    exact ⟨-1, rfl, fun h => absurd h (by omega), b3.out⟩
  have hm := Lib.hid (hb2 hr2)
  clear hb2
  go_wp2
  go_ret
  exact ⟨_, rfl, fun _ => ⟨by have := hn.out; omega, by have := hm.out; omega⟩, b3.out⟩

set_option maxHeartbeats 2000000 in
theorem eqDesk_k (L B L' B' : Nat) (A1 A2 A1' A2' : Option Addr) (c1 c2 c1' c2' : Nat) (fr : List Nd) (to : List In) (w : World) (hl1 : fr.length ≤ 1048576) (hl2 : to.length ≤ 1048576) (h1 : RS Nd.enc 4 w L B A1 fr) (h2 : RS In.enc 5 w L B A2 to) (hB : B ≤ w.heap.size) (h1' : RS Nd.enc 4 w L' B' A1' fr) (h2' : RS In.enc 5 w L' B' A2' to) (hB' : B' ≤ w.heap.size) :
    Calls Try.prog 40 #[.agg #[.slice A1 fr.length c1, .slice A2 to.length c2], .agg #[.slice A1' fr.length c1', .slice A2' to.length c2']] w fun e w' => e = .returned (.bool true) ∧ Below w.heap.size w w' := by
  have hT1 := Lib.hid fun (W : World) (hW : Below w.heap.size w W) => eqNodeS_k L B L' B' A1 A1' fr.length fr.length c1 c1' fr fr W rfl rfl hl1 (h1.below hW hB) (h1'.below hW hB') (Nat.le_trans hB hW.size) (Nat.le_trans hB' hW.size) rfl
  have hT2 := Lib.hid fun (W : World) (hW : Below w.heap.size w W) => eqInstrS_any L B L' B' A2 A2' to.length to.length c2 c2' to to W rfl rfl hl2 (h2.below hW hB) (h2'.below hW hB') (Nat.le_trans hB hW.size) (Nat.le_trans hB' hW.size) rfl
  clear h1 h2 h1' h2'
  obtain ⟨W1, hW1⟩ : ∃ W1, W1 = w.alloc (.cells #[.slice A1 fr.length c1, .slice A2 to.length c2] 48) := ⟨_, rfl⟩
  have b1 : Below w.heap.size w W1 := by rw [hW1]; exact (Below.refl _ _).alloc (Nat.le_refl _) _
  have x1 : DX 48 W1 w.heap.size (.slice A1 fr.length c1) (.slice A2 to.length c2) := by rw [hW1]; exact dx_new _ _ _ _
  have z1 : W1.heap.size = w.heap.size + 1 := by rw [hW1]; simp
  obtain ⟨W2, hW2⟩ : ∃ W2, W2 = W1.alloc (.cells #[.slice A1' fr.length c1', .slice A2' to.length c2'] 48) := ⟨_, rfl⟩
  have b2 : Below W1.heap.size W1 W2 := by rw [hW2]; exact (Below.refl _ _).alloc (Nat.le_refl _) _
  have y2 : Hid (DX 48 W2 (w.heap.size + 1) (.slice A1' fr.length c1') (.slice A2' to.length c2')) := by unfold Hid; rw [hW2, ← z1]; exact dx_new _ _ _ _
  have x2 := Lib.hid (x1.next b2)
  have B2 := Lib.hid (b1.trans (b2.mono b1.size))
  have e2 : Hid (W2 = (w.alloc (.cells #[.slice A1 fr.length c1, .slice A2 to.length c2] 48)).alloc (.cells #[.slice A1' fr.length c1', .slice A2' to.length c2'] 48)) := by unfold Hid; rw [hW2, hW1]
  clear hW1 hW2 b1 x1 z1 b2
  obtain ⟨k0, k1⟩ := x2.out.cells
  obtain ⟨l0, l1⟩ := y2.out.cells
  rw [e2.out] at k0 k1 l0 l1
  go_enter Try.func40, Try.ntmps40
  go_wp2_with (fail)
  rw [← e2.out]
  refine (hT1.out W2 B2.out).mono ?_
  rintro e w3 ⟨rfl, hb⟩
  have B3 := Lib.hid (B2.out.trans (hb.mono B2.out.size))
  have x3 := Lib.hid (x2.out.next hb)
  have y3 := Lib.hid (y2.out.next hb)
  clear hb k0 k1 l0 l1
  obtain ⟨k0, k1⟩ := x3.out.cells
  obtain ⟨l0, l1⟩ := y3.out.cells
  go_wp2_with (fail)
  refine (hT2.out w3 B3.out).mono ?_
  rintro e w4 ⟨rfl, hb⟩
  have B4 := Lib.hid (B3.out.trans (hb.mono B3.out.size))
  have x4 := Lib.hid (x3.out.next hb)
  have y4 := Lib.hid (y3.out.next hb)
  clear hb k0 k1 l0 l1
  obtain ⟨k0, k1⟩ := x4.out.cells
  obtain ⟨l0, l1⟩ := y4.out.cells
  go_wp2
  go_ret
  exact ⟨rfl, B4.out⟩

def ResIsDesk (R0 : Bool) (w : World) (e : Ending) (w' : World) : Prop := e = .returned (.bool R0) ∧ Below w.heap.size w w'
set_option maxHeartbeats 4000000 in
theorem lawIsDesk (A1 A2 : Option Addr) (c1 c2 : Nat) (fr : List Nd) (to : List In) (w : World) (hl1 : fr.length ≤ 9223372036854775807) (hl2 : to.length ≤ 9223372036854775807) (hs1 : ∀ n ∈ fr, n.op.size ≤ 9223372036854775807) (hs2 : ∀ n ∈ to, n.op.size ≤ 9223372036854775807)  (h1 : RS Nd.enc 4 w 0 w.heap.size A1 fr) (h2 : RS In.enc 5 w 0 w.heap.size A2 to) (R0 : Bool)
    (hS : ∀ (L B : Nat) (A1 A2 : Option Addr) (c1 c2 : Nat) (w : World), fr.length ≤ 1048576 → to.length ≤ 1048576 → RS Nd.enc 4 w L B A1 fr → RS In.enc 5 w L B A2 to → B ≤ w.heap.size → Calls Try.prog 44 #[.agg #[.slice A1 fr.length c1, .slice A2 to.length c2]] w (ResIsDesk R0 w))
    (hI : ∀ (L B : Nat) (A1 A2 : Option Addr) (c1 c2 : Nat) (w : World), fr.length ≤ 1048576 → to.length ≤ 1048576 → RS Nd.enc 4 w L B A1 fr → RS In.enc 5 w L B A2 to → B ≤ w.heap.size → fr.length ≤ c1 → to.length ≤ c2 → Calls Try.prog 46 #[.agg #[.slice A1 fr.length c1, .slice A2 to.length c2]] w (ResIsDesk R0 w)) :
    Calls Try.prog 9 #[.agg #[.slice A1 fr.length c1, .slice A2 to.length c2]] w fun e w' => e = .returned (.bool true) ∧ Below w.heap.size w w' := by
  have S := Lib.hid hS
  have I := Lib.hid hI
  have E1 := Lib.hid fun (W : World) (hW : Below w.heap.size w W) => h1.below hW (Nat.le_refl _)
  have E2 := Lib.hid fun (W : World) (hW : Below w.heap.size w W) => h2.below hW (Nat.le_refl _)
  have SZ := Lib.hid fun (W : World) (hW : Below w.heap.size w W) => szDesk_k 0 w.heap.size A1 A2 c1 c2 fr to W hl1 hl2 hs1 hs2 (h1.below hW (Nat.le_refl _)) (h2.below hW (Nat.le_refl _)) hW.size
  clear hS hI h1 h2 hs1 hs2
  obtain ⟨W1, hW1⟩ : ∃ W1, W1 = w.alloc (.cells #[.slice A1 fr.length c1, .slice A2 to.length c2] 55) := ⟨_, rfl⟩
  have b1 : Hid (Below w.heap.size w W1) := by unfold Hid; rw [hW1]; exact (Below.refl _ _).alloc (Nat.le_refl _) _
  have x1 : Hid (DX 55 W1 w.heap.size (.slice A1 fr.length c1) (.slice A2 to.length c2)) := by unfold Hid; rw [hW1]; exact dx_new _ _ _ _
  have e0' := Lib.hid hW1
  obtain ⟨k0, k1⟩ := x1.out.cells
  rw [hW1] at k0 k1
  clear hW1
  have e0 : (R0 != R0) = false := by simp
  go_enter Try.func9, Try.ntmps9
  go_wp2_with (fail)
  rw [← e0'.out]
  refine (SZ.out W1 b1.out).mono ?_
  rintro e w2 ⟨r, rfl, hr, hb⟩
  have b2 := Lib.hid (b1.out.trans (hb.mono b1.out.size))
  have x2 := Lib.hid (x1.out.next hb)
  clear hb k0 k1
  obtain ⟨k0, k1⟩ := x2.out.cells
  by_cases hr0 : 0 ≤ r
  rotate_left
  · go_wp2
    go_ret
    exact ⟨rfl, b2.out⟩
  obtain ⟨n1, n2⟩ := hr hr0
  clear hr
  have TR := Lib.hid fun (W : World) (hW : Below w.heap.size w W) => toDesk_k 0 w.heap.size A1 A2 c1 c2 fr to W n1 n2 (E1.out W hW) (E2.out W hW) hW.size
  go_wp2_with (fail)
  refine (TR.out w2 b2.out).mono ?_
  rintro e w3 ⟨A1', c1', A2', c2', rfl, ho1, ho2, hb⟩
  have S3 := Lib.hid (S.out w2.heap.size w3.heap.size A1' A2' c1' c2' w3 n1 n2 (Nd.rs ho1) (In.rs ho2) (Nat.le_refl _))
  have b3 := Lib.hid (b2.out.trans (hb.mono b2.out.size))
  have x3 := Lib.hid (x2.out.next hb)
  clear hb k0 k1 ho1 ho2
  go_wp2_with (fail)
  refine S3.out.mono ?_
  rintro e w4 ⟨rfl, hb⟩
  have b4 := Lib.hid (b3.out.trans (hb.mono b3.out.size))
  have x4 := Lib.hid (x3.out.next hb)
  clear hb
  obtain ⟨k0, k1⟩ := x4.out.cells
  go_wp2_with (fail)
  refine (TR.out w4 b4.out).mono ?_
  rintro e w5 ⟨P1, d1, P2, d2, rfl, ho1, ho2, hb⟩
  have O1 := Lib.hid ho1
  have O2 := Lib.hid ho2
  have b5 := Lib.hid (b4.out.trans (hb.mono b4.out.size))
  have x5 := Lib.hid (x4.out.next hb)
  have z5 := hb.size
  clear hb k0 k1 ho1 ho2
  obtain ⟨W6, hW6⟩ : ∃ W6, W6 = w5.alloc (.cells #[.slice P1 fr.length d1, .slice P2 to.length d2] 48) := ⟨_, rfl⟩
  have a6 : Below w5.heap.size w5 W6 := by rw [hW6]; exact (Below.refl _ _).alloc (Nat.le_refl _) _
  have y6 : Hid (DX 48 W6 w5.heap.size (.slice P1 fr.length d1) (.slice P2 to.length d2)) := by unfold Hid; rw [hW6]; exact dx_new _ _ _ _
  have x6 := Lib.hid (x5.out.next a6)
  have b6 := Lib.hid (b5.out.trans (a6.mono b5.out.size))
  have z6 := a6.size
  have G1 := Lib.hid (O1.out.below a6 (Nat.le_refl _))
  have G2 := Lib.hid (O2.out.below a6 (Nat.le_refl _))
  have I6 := Lib.hid (I.out w4.heap.size w5.heap.size P1 P2 d1 d2 W6 n1 n2 (Nd.rs G1.out) (In.rs G2.out) z6 (OK.cap O1.out) (OK.cap O2.out))
  obtain ⟨k0, k1⟩ := y6.out.cells
  rw [hW6] at k0 k1
  have e6 := Lib.hid hW6
  clear a6 hW6
  go_wp2_with (fail)
  rw [← e6.out]
  refine I6.out.mono ?_
  rintro e w7 ⟨rfl, hb⟩
  have b7 := Lib.hid (b6.out.trans (hb.mono b6.out.size))
  have x7 := Lib.hid (x6.out.next hb)
  have y7 := Lib.hid (y6.out.next hb)
  have F1 := Lib.hid (G1.out.below hb z6)
  have F2 := Lib.hid (G2.out.below hb z6)
  have z7 := hb.size
  clear hb k0 k1
  obtain ⟨k0, k1⟩ := y7.out.cells
  obtain ⟨l0, l1⟩ := x7.out.cells
  have hEq := Lib.hid fun (W : World) (Q1 Q2 : Option Addr) (f1 f2 : Nat) (hW : Below w7.heap.size w7 W) (g1 : OK Nd.enc 4 108 W w7.heap.size W.heap.size (.slice Q1 fr.length f1) fr) (g2 : OK In.enc 5 88 W w7.heap.size W.heap.size (.slice Q2 to.length f2) to) =>
    eqDesk_k w4.heap.size w5.heap.size w7.heap.size W.heap.size P1 P2 Q1 Q2 d1 d2 f1 f2 fr to W n1 n2 (Nd.rs (F1.out.below hW (by omega))) (In.rs (F2.out.below hW (by omega))) (by have := hW.size; omega) (Nd.rs g1) (In.rs g2) (Nat.le_refl _)
  go_wp2_with (fail)
  go_region_held3 (fun w' => w'.cell? ⟨w5.heap.size, 0, none⟩ = some (.slice P1 fr.length d1) ∧ w'.cell? ⟨w5.heap.size, 1, none⟩ = some (.slice P2 to.length d2) ∧ w'.cell? ⟨w.heap.size, 0, none⟩ = some (.slice A1 fr.length c1) ∧ w'.cell? ⟨w.heap.size, 1, none⟩ = some (.slice A2 to.length c2))
    (first | exact K9 | exact K8 | assumption | go_keep)
    (first
      | (go_at_call 45; refine (TR.out _ (by first | exact b7.out | exact b7.out.drew)).mono ?_; rintro e w8 ⟨Q1, f1, Q2, f2, rfl, q1, q2, hb8'⟩; have hb8 : Below w7.heap.size w7 w8 := (by first | exact hb8' | exact (Below.refl w7.heap.size w7).drew.trans hb8'); have q1' : OK Nd.enc 4 108 w8 w7.heap.size w8.heap.size (.slice Q1 fr.length f1) fr := q1; have q2' : OK In.enc 5 88 w8 w7.heap.size w8.heap.size (.slice Q2 to.length f2) to := q2; have y8 := DX.next y7.out hb8; have x8 := DX.next x7.out hb8; have K8 := And.intro y8.cells.1 (And.intro y8.cells.2 x8.cells))
      | (go_at_call 40; refine (hEq.out w8 Q1 Q2 f1 f2 hb8 q1' q2').mono ?_; rintro e w9 ⟨rfl, hb9⟩; have y9 := DX.next y8 hb9; have x9 := DX.next x8 hb9; have K9 := And.intro y9.cells.1 (And.intro y9.cells.2 x9.cells)))
  all_goals
    have B9 := Lib.hid ((b7.out.trans (hb8.mono b7.out.size)).trans (hb9.mono (Nat.le_trans b7.out.size hb8.size)))
    clear hb8 hb8' hb9 q1 q2 q1' q2' y8 x8 y9 x9 K8 K9
    go_wp2
    go_ret
    exact ⟨rfl, B9.out⟩

end Go.Proofs.Ytaaloepoegehkaa
