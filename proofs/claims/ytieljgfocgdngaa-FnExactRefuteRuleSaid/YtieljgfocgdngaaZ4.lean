/- Texts of this proof, one behind the other: RC, YB, YC, IB, RJ, YE. -/
import Derived.Test.YtieljgfocgdngaaZ5
import Derived.Test.YtieljgfocgdngaaZ6
import Derived.WalkKit
import Derived.WalkSpells
import Derived.WalkLawsBesides
import Derived.Deep.RegionHeld3
import Derived.Lib.Hide
import Derived.Test.YtieljgfocgdngaaB2
import Derived.Test.YtieljgfocgdngaaCA
import Derived.Test.YtieljgfocgdngaaTM
import Derived.Test.YtieljgfocgdngaaK2
import Derived.Outline
import Derived.Test.YtieljgfocgdngaaTP
/- The exact laws over one rule by value. -/
namespace Go.Proofs.Ytieljgfocgdngaa
open Go.RowKit
set_option linter.unusedVariables false
set_option maxRecDepth 100000

def SzRule (w : World) (n m : Nat) (s : ByteArray) (e : Ending) (w' : World) : Prop := ∃ r : Int, e = .returned (.int .i64 r) ∧ (0 ≤ r → n ≤ 1048576 ∧ m ≤ 1048576 ∧ s.size ≤ 1048576) ∧ Below w.heap.size w w'
set_option maxHeartbeats 2000000 in
theorem szRule_k (L B : Nat) (A1 A2 : Option Addr) (c1 c2 : Nat) (fr to : List Nd) (s : ByteArray) (w : World) (hl1 : fr.length ≤ 9223372036854775807) (hl2 : to.length ≤ 9223372036854775807) (hs1 : ∀ n ∈ fr, n.op.size ≤ 9223372036854775807) (hs2 : ∀ n ∈ to, n.op.size ≤ 9223372036854775807) (hs : s.size ≤ 9223372036854775807) (h1 : RS Nd.enc 4 w L B A1 fr) (h2 : RS Nd.enc 4 w L B A2 to) (hB : B ≤ w.heap.size) :
    Calls Try.prog 36 #[.agg #[.slice A1 fr.length c1, .slice A2 to.length c2, .string s], .int .i64 1048576] w (SzRule w fr.length to.length s) := by
  have hT1 := Lib.hid fun (W : World) (hW : Below w.heap.size w W) => szNodeS_k L B A1 c1 fr 1048576 W hl1 (h1.below hW hB) (Nat.le_trans hB hW.size) hs1 (by omega) (by omega)
  have hT2 := Lib.hid fun (W : World) (l : Int) (hW : Below w.heap.size w W) (h0 : 0 ≤ l) (h1' : l ≤ 1048576) => szNodeS_k L B A2 c2 to l W hl2 (h2.below hW hB) (Nat.le_trans hB hW.size) hs2 h0 h1'
  have s0 : (0 : Int) ≤ (s.size : Int) := by omega
  have s1 : (s.size : Int) ≤ 9223372036854775807 := by omega
  clear h1 h2 hs1 hs2
  obtain ⟨W1, hW1⟩ : ∃ W1, W1 = w.alloc (.cells #[.slice A1 fr.length c1, .slice A2 to.length c2, .string s] 41) := ⟨_, rfl⟩
  have b1 : Hid (Below w.heap.size w W1) := by unfold Hid; rw [hW1]; exact (Below.refl _ _).alloc (Nat.le_refl _) _
  have x1 : Hid (RX 41 W1 w.heap.size (.slice A1 fr.length c1) (.slice A2 to.length c2) s) := by unfold Hid; rw [hW1]; exact rx_new _ _ _ _ _
  have e1 := Lib.hid hW1
  obtain ⟨k0, k1, k2⟩ := x1.out.cells
  rw [hW1] at k0 k1 k2
  clear hW1
  go_enter Try.func36, Try.ntmps36
  go_wp2_with (fail)
  rw [← e1.out]
  refine (hT1.out W1 b1.out).mono ?_
  rintro e w2 ⟨r1, rfl, ha, hb, hc, hbel⟩
  have b2 := Lib.hid (b1.out.trans (hbel.mono b1.out.size))
  have x2 := Lib.hid (x1.out.next hbel)
  clear hbel k0 k1 k2
  obtain ⟨k0, k1, k2⟩ := x2.out.cells
  by_cases hr1 : 0 ≤ r1
  rotate_left
  · go_wp2
    go_ret
    exact ⟨-1, rfl, fun h => absurd h (by omega), b2.out⟩
  have hn := Lib.hid (hb hr1)
  clear hb
  go_wp2_with (fail)
  refine (hT2.out w2 r1 b2.out hr1 ha).mono ?_
  rintro e w3 ⟨r2, rfl, ha2, hb2, hc2, hbel⟩
  have b3 := Lib.hid (b2.out.trans (hbel.mono b2.out.size))
  have x3 := Lib.hid (x2.out.next hbel)
  clear hbel k0 k1 k2
  obtain ⟨k0, k1, k2⟩ := x3.out.cells
  by_cases hr2 : 0 ≤ r2
  rotate_left
  · go_wp2
    go_ret
    exact ⟨-1, rfl, fun h => absurd h (by omega), b3.out⟩
  have hm := Lib.hid (hb2 hr2)
  clear hb2
  by_cases hr3 : 0 ≤ r2 - (s.size : Int)
  · go_wp2
    go_ret
    exact ⟨_, rfl, fun _ => ⟨by have := hn.out; omega, by have := hm.out; omega, by omega⟩, b3.out⟩
  · go_wp2
    go_ret
    exact ⟨-1, rfl, fun h => absurd h (by omega), b3.out⟩

set_option maxHeartbeats 2000000 in
theorem eqRule_k (L B L' B' : Nat) (A1 A2 A1' A2' : Option Addr) (c1 c2 c1' c2' : Nat) (fr to : List Nd) (s : ByteArray) (w : World) (hl1 : fr.length ≤ 1048576) (hl2 : to.length ≤ 1048576) (h1 : RS Nd.enc 4 w L B A1 fr) (h2 : RS Nd.enc 4 w L B A2 to) (hB : B ≤ w.heap.size) (h1' : RS Nd.enc 4 w L' B' A1' fr) (h2' : RS Nd.enc 4 w L' B' A2' to) (hB' : B' ≤ w.heap.size) :
    Calls Try.prog 40 #[.agg #[.slice A1 fr.length c1, .slice A2 to.length c2, .string s], .agg #[.slice A1' fr.length c1', .slice A2' to.length c2', .string s]] w fun e w' => e = .returned (.bool true) ∧ Below w.heap.size w w' := by
  have hT1 := Lib.hid fun (W : World) (hW : Below w.heap.size w W) => eqNodeS_k L B L' B' A1 A1' fr.length fr.length c1 c1' fr fr W rfl rfl hl1 (h1.below hW hB) (h1'.below hW hB') (Nat.le_trans hB hW.size) (Nat.le_trans hB' hW.size) rfl
  have hT2 := Lib.hid fun (W : World) (hW : Below w.heap.size w W) => eqNodeS_k L B L' B' A2 A2' to.length to.length c2 c2' to to W rfl rfl hl2 (h2.below hW hB) (h2'.below hW hB') (Nat.le_trans hB hW.size) (Nat.le_trans hB' hW.size) rfl
  clear h1 h2 h1' h2'
  obtain ⟨W1, hW1⟩ : ∃ W1, W1 = w.alloc (.cells #[.slice A1 fr.length c1, .slice A2 to.length c2, .string s] 45) := ⟨_, rfl⟩
  have b1 : Below w.heap.size w W1 := by rw [hW1]; exact (Below.refl _ _).alloc (Nat.le_refl _) _
  have x1 : RX 45 W1 w.heap.size (.slice A1 fr.length c1) (.slice A2 to.length c2) s := by rw [hW1]; exact rx_new _ _ _ _ _
  have z1 : W1.heap.size = w.heap.size + 1 := by rw [hW1]; simp
  obtain ⟨W2, hW2⟩ : ∃ W2, W2 = W1.alloc (.cells #[.slice A1' fr.length c1', .slice A2' to.length c2', .string s] 45) := ⟨_, rfl⟩
  have b2 : Below W1.heap.size W1 W2 := by rw [hW2]; exact (Below.refl _ _).alloc (Nat.le_refl _) _
  have y2 : Hid (RX 45 W2 (w.heap.size + 1) (.slice A1' fr.length c1') (.slice A2' to.length c2') s) := by unfold Hid; rw [hW2, ← z1]; exact rx_new _ _ _ _ _
  have x2 := Lib.hid (x1.next b2)
  have B2 := Lib.hid (b1.trans (b2.mono b1.size))
  have e2 : Hid (W2 = (w.alloc (.cells #[.slice A1 fr.length c1, .slice A2 to.length c2, .string s] 45)).alloc (.cells #[.slice A1' fr.length c1', .slice A2' to.length c2', .string s] 45)) := by unfold Hid; rw [hW2, hW1]
  clear hW1 hW2 b1 x1 z1 b2
  obtain ⟨k0, k1, k2⟩ := x2.out.cells
  obtain ⟨l0, l1, l2⟩ := y2.out.cells
  rw [e2.out] at k0 k1 k2 l0 l1 l2
  go_enter Try.func40, Try.ntmps40
  go_wp2_with (fail)
  rw [← e2.out]
  refine (hT1.out W2 B2.out).mono ?_
  rintro e w3 ⟨rfl, hb⟩
  have B3 := Lib.hid (B2.out.trans (hb.mono B2.out.size))
  have x3 := Lib.hid (x2.out.next hb)
  have y3 := Lib.hid (y2.out.next hb)
  clear hb k0 k1 k2 l0 l1 l2
  obtain ⟨k0, k1, k2⟩ := x3.out.cells
  obtain ⟨l0, l1, l2⟩ := y3.out.cells
  go_wp2_with (fail)
  refine (hT2.out w3 B3.out).mono ?_
  rintro e w4 ⟨rfl, hb⟩
  have B4 := Lib.hid (B3.out.trans (hb.mono B3.out.size))
  have x4 := Lib.hid (x3.out.next hb)
  have y4 := Lib.hid (y3.out.next hb)
  clear hb k0 k1 k2 l0 l1 l2
  obtain ⟨k0, k1, k2⟩ := x4.out.cells
  obtain ⟨l0, l1, l2⟩ := y4.out.cells
  go_wp2
  go_ret
  exact ⟨rfl, B4.out⟩

def ResIsRule (R0 : Bool) (w : World) (e : Ending) (w' : World) : Prop := e = .returned (.bool R0) ∧ Below w.heap.size w w'
set_option maxHeartbeats 4000000 in
theorem lawIsRule (A1 A2 : Option Addr) (c1 c2 : Nat) (fr to : List Nd) (s : ByteArray) (w : World) (hl1 : fr.length ≤ 9223372036854775807) (hl2 : to.length ≤ 9223372036854775807) (hs1 : ∀ n ∈ fr, n.op.size ≤ 9223372036854775807) (hs2 : ∀ n ∈ to, n.op.size ≤ 9223372036854775807) (hs : s.size ≤ 9223372036854775807) (h1 : RS Nd.enc 4 w 0 w.heap.size A1 fr) (h2 : RS Nd.enc 4 w 0 w.heap.size A2 to) (R0 : Bool)
    (hS : ∀ (L B : Nat) (A1 A2 : Option Addr) (c1 c2 : Nat) (w : World), fr.length ≤ 1048576 → to.length ≤ 1048576 → s.size ≤ 1048576 → RS Nd.enc 4 w L B A1 fr → RS Nd.enc 4 w L B A2 to → B ≤ w.heap.size → Calls Try.prog 37 #[.agg #[.slice A1 fr.length c1, .slice A2 to.length c2, .string s]] w (ResIsRule R0 w))
    (hI : ∀ (L B : Nat) (A1 A2 : Option Addr) (c1 c2 : Nat) (w : World), fr.length ≤ 1048576 → to.length ≤ 1048576 → s.size ≤ 1048576 → RS Nd.enc 4 w L B A1 fr → RS Nd.enc 4 w L B A2 to → B ≤ w.heap.size → fr.length ≤ c1 → to.length ≤ c2 → Calls Try.prog 39 #[.agg #[.slice A1 fr.length c1, .slice A2 to.length c2, .string s]] w (ResIsRule R0 w)) :
    Calls Try.prog 10 #[.agg #[.slice A1 fr.length c1, .slice A2 to.length c2, .string s]] w fun e w' => e = .returned (.bool true) ∧ Below w.heap.size w w' := by
  have S := Lib.hid hS
  have I := Lib.hid hI
  have E1 := Lib.hid fun (W : World) (hW : Below w.heap.size w W) => h1.below hW (Nat.le_refl _)
  have E2 := Lib.hid fun (W : World) (hW : Below w.heap.size w W) => h2.below hW (Nat.le_refl _)
  have SZ := Lib.hid fun (W : World) (hW : Below w.heap.size w W) => szRule_k 0 w.heap.size A1 A2 c1 c2 fr to s W hl1 hl2 hs1 hs2 hs (h1.below hW (Nat.le_refl _)) (h2.below hW (Nat.le_refl _)) hW.size
  clear hS hI h1 h2 hs1 hs2
  obtain ⟨W1, hW1⟩ : ∃ W1, W1 = w.alloc (.cells #[.slice A1 fr.length c1, .slice A2 to.length c2, .string s] 41) := ⟨_, rfl⟩
  have b1 : Hid (Below w.heap.size w W1) := by unfold Hid; rw [hW1]; exact (Below.refl _ _).alloc (Nat.le_refl _) _
  have x1 : Hid (RX 41 W1 w.heap.size (.slice A1 fr.length c1) (.slice A2 to.length c2) s) := by unfold Hid; rw [hW1]; exact rx_new _ _ _ _ _
  have e0' := Lib.hid hW1
  obtain ⟨k0, k1, k2⟩ := x1.out.cells
  rw [hW1] at k0 k1 k2
  clear hW1
  have e0 : (R0 != R0) = false := by simp
  go_enter Try.func10, Try.ntmps10
  go_wp2_with (fail)
  rw [← e0'.out]
  refine (SZ.out W1 b1.out).mono ?_
  rintro e w2 ⟨r, rfl, hr, hb⟩
  have b2 := Lib.hid (b1.out.trans (hb.mono b1.out.size))
  have x2 := Lib.hid (x1.out.next hb)
  clear hb k0 k1 k2
  obtain ⟨k0, k1, k2⟩ := x2.out.cells
  by_cases hr0 : 0 ≤ r
  rotate_left
  · go_wp2
    go_ret
    exact ⟨rfl, b2.out⟩
  obtain ⟨n1, n2, n3⟩ := hr hr0
  clear hr
  have TR := Lib.hid fun (W : World) (hW : Below w.heap.size w W) => toRule_k 0 w.heap.size A1 A2 c1 c2 fr to s W n1 n2 (E1.out W hW) (E2.out W hW) hW.size
  go_wp2_with (fail)
  refine (TR.out w2 b2.out).mono ?_
  rintro e w3 ⟨A1', c1', A2', c2', rfl, ho1, ho2, hb⟩
  have S3 := Lib.hid (S.out w2.heap.size w3.heap.size A1' A2' c1' c2' w3 n1 n2 n3 (Nd.rs ho1) (Nd.rs ho2) (Nat.le_refl _))
  have b3 := Lib.hid (b2.out.trans (hb.mono b2.out.size))
  have x3 := Lib.hid (x2.out.next hb)
  clear hb k0 k1 k2 ho1 ho2
  go_wp2_with (fail)
  refine S3.out.mono ?_
  rintro e w4 ⟨rfl, hb⟩
  have b4 := Lib.hid (b3.out.trans (hb.mono b3.out.size))
  have x4 := Lib.hid (x3.out.next hb)
  clear hb
  obtain ⟨k0, k1, k2⟩ := x4.out.cells
  go_wp2_with (fail)
  refine (TR.out w4 b4.out).mono ?_
  rintro e w5 ⟨P1, d1, P2, d2, rfl, ho1, ho2, hb⟩
  have O1 := Lib.hid ho1
  have O2 := Lib.hid ho2
  have b5 := Lib.hid (b4.out.trans (hb.mono b4.out.size))
  have x5 := Lib.hid (x4.out.next hb)
  have z5 := hb.size
  clear hb k0 k1 k2 ho1 ho2
  obtain ⟨W6, hW6⟩ : ∃ W6, W6 = w5.alloc (.cells #[.slice P1 fr.length d1, .slice P2 to.length d2, .string s] 45) := ⟨_, rfl⟩
  have a6 : Below w5.heap.size w5 W6 := by rw [hW6]; exact (Below.refl _ _).alloc (Nat.le_refl _) _
  have y6 : Hid (RX 45 W6 w5.heap.size (.slice P1 fr.length d1) (.slice P2 to.length d2) s) := by unfold Hid; rw [hW6]; exact rx_new _ _ _ _ _
  have x6 := Lib.hid (x5.out.next a6)
  have b6 := Lib.hid (b5.out.trans (a6.mono b5.out.size))
  have z6 := a6.size
  have G1 := Lib.hid (O1.out.below a6 (Nat.le_refl _))
  have G2 := Lib.hid (O2.out.below a6 (Nat.le_refl _))
  have I6 := Lib.hid (I.out w4.heap.size w5.heap.size P1 P2 d1 d2 W6 n1 n2 n3 (Nd.rs G1.out) (Nd.rs G2.out) z6 (OK.cap O1.out) (OK.cap O2.out))
  obtain ⟨k0, k1, k2⟩ := y6.out.cells
  rw [hW6] at k0 k1 k2
  have e6 := Lib.hid hW6
  clear a6 hW6
  go_wp2_with (fail)
  rw [← e6.out]
  refine I6.out.mono ?_
  rintro e w7 ⟨rfl, hb⟩
  have b7 := Lib.hid (b6.out.trans (hb.mono b6.out.size))
  have x7 := Lib.hid (x6.out.next hb)
  have y7 := Lib.hid (y6.out.next hb)
  have F1 := Lib.hid (G1.out.below hb z6)
  have F2 := Lib.hid (G2.out.below hb z6)
  have z7 := hb.size
  clear hb k0 k1 k2
  obtain ⟨k0, k1, k2⟩ := y7.out.cells
  obtain ⟨l0, l1, l2⟩ := x7.out.cells
  have hEq := Lib.hid fun (W : World) (Q1 Q2 : Option Addr) (f1 f2 : Nat) (hW : Below w7.heap.size w7 W) (g1 : OK Nd.enc 4 62 W w7.heap.size W.heap.size (.slice Q1 fr.length f1) fr) (g2 : OK Nd.enc 4 62 W w7.heap.size W.heap.size (.slice Q2 to.length f2) to) =>
    eqRule_k w4.heap.size w5.heap.size w7.heap.size W.heap.size P1 P2 Q1 Q2 d1 d2 f1 f2 fr to s W n1 n2 (Nd.rs (F1.out.below hW (by omega))) (Nd.rs (F2.out.below hW (by omega))) (by have := hW.size; omega) (Nd.rs g1) (Nd.rs g2) (Nat.le_refl _)
  go_wp2_with (fail)
  go_region_held3 (fun w' => w'.cell? ⟨w5.heap.size, 0, none⟩ = some (.slice P1 fr.length d1) ∧ w'.cell? ⟨w5.heap.size, 1, none⟩ = some (.slice P2 to.length d2) ∧ w'.cell? ⟨w5.heap.size, 2, none⟩ = some (.string s) ∧ w'.cell? ⟨w.heap.size, 0, none⟩ = some (.slice A1 fr.length c1) ∧ w'.cell? ⟨w.heap.size, 1, none⟩ = some (.slice A2 to.length c2) ∧ w'.cell? ⟨w.heap.size, 2, none⟩ = some (.string s))
    (first | exact K9 | exact K8 | assumption | go_keep)
    (first
      | (go_at_call 38; refine (TR.out _ (by first | exact b7.out | exact b7.out.drew)).mono ?_; rintro e w8 ⟨Q1, f1, Q2, f2, rfl, q1, q2, hb8'⟩; have hb8 : Below w7.heap.size w7 w8 := (by first | exact hb8' | exact (Below.refl w7.heap.size w7).drew.trans hb8'); have q1' : OK Nd.enc 4 62 w8 w7.heap.size w8.heap.size (.slice Q1 fr.length f1) fr := q1; have q2' : OK Nd.enc 4 62 w8 w7.heap.size w8.heap.size (.slice Q2 to.length f2) to := q2; have y8 := RX.next y7.out hb8; have x8 := RX.next x7.out hb8; have K8 := And.intro y8.cells.1 (And.intro y8.cells.2.1 (And.intro y8.cells.2.2 x8.cells)))
      | (go_at_call 40; refine (hEq.out w8 Q1 Q2 f1 f2 hb8 q1' q2').mono ?_; rintro e w9 ⟨rfl, hb9⟩; have y9 := RX.next y8 hb9; have x9 := RX.next x8 hb9; have K9 := And.intro y9.cells.1 (And.intro y9.cells.2.1 (And.intro y9.cells.2.2 x9.cells))))
  all_goals
    have B9 := Lib.hid ((b7.out.trans (hb8.mono b7.out.size)).trans (hb9.mono (Nat.le_trans b7.out.size hb8.size)))
    clear hb8 hb8' hb9 q1 q2 q1' q2' y8 x8 y9 x9 K8 K9
    go_wp2
    go_ret
    exact ⟨rfl, B9.out⟩

def ResIsFalling (R0 : Bool) (R1 : Bool) (w : World) (e : Ending) (w' : World) : Prop := e = .returned (.tuple #[.bool R0, .bool R1]) ∧ Below w.heap.size w w'
set_option maxHeartbeats 4000000 in
theorem lawIsFalling (A1 A2 : Option Addr) (c1 c2 : Nat) (fr to : List Nd) (s : ByteArray) (w : World) (hl1 : fr.length ≤ 9223372036854775807) (hl2 : to.length ≤ 9223372036854775807) (hs1 : ∀ n ∈ fr, n.op.size ≤ 9223372036854775807) (hs2 : ∀ n ∈ to, n.op.size ≤ 9223372036854775807) (hs : s.size ≤ 9223372036854775807) (h1 : RS Nd.enc 4 w 0 w.heap.size A1 fr) (h2 : RS Nd.enc 4 w 0 w.heap.size A2 to) (R0 : Bool) (R1 : Bool)
    (hS : ∀ (L B : Nat) (A1 A2 : Option Addr) (c1 c2 : Nat) (w : World), fr.length ≤ 1048576 → to.length ≤ 1048576 → s.size ≤ 1048576 → RS Nd.enc 4 w L B A1 fr → RS Nd.enc 4 w L B A2 to → B ≤ w.heap.size → Calls Try.prog 45 #[.agg #[.slice A1 fr.length c1, .slice A2 to.length c2, .string s]] w (ResIsFalling R0 R1 w))
    (hI : ∀ (L B : Nat) (A1 A2 : Option Addr) (c1 c2 : Nat) (w : World), fr.length ≤ 1048576 → to.length ≤ 1048576 → s.size ≤ 1048576 → RS Nd.enc 4 w L B A1 fr → RS Nd.enc 4 w L B A2 to → B ≤ w.heap.size → fr.length ≤ c1 → to.length ≤ c2 → Calls Try.prog 46 #[.agg #[.slice A1 fr.length c1, .slice A2 to.length c2, .string s]] w (ResIsFalling R0 R1 w)) :
    Calls Try.prog 13 #[.agg #[.slice A1 fr.length c1, .slice A2 to.length c2, .string s]] w fun e w' => e = .returned (.bool true) ∧ Below w.heap.size w w' := by
  have S := Lib.hid hS
  have I := Lib.hid hI
  have E1 := Lib.hid fun (W : World) (hW : Below w.heap.size w W) => h1.below hW (Nat.le_refl _)
  have E2 := Lib.hid fun (W : World) (hW : Below w.heap.size w W) => h2.below hW (Nat.le_refl _)
  have SZ := Lib.hid fun (W : World) (hW : Below w.heap.size w W) => szRule_k 0 w.heap.size A1 A2 c1 c2 fr to s W hl1 hl2 hs1 hs2 hs (h1.below hW (Nat.le_refl _)) (h2.below hW (Nat.le_refl _)) hW.size
  clear hS hI h1 h2 hs1 hs2
  obtain ⟨W1, hW1⟩ : ∃ W1, W1 = w.alloc (.cells #[.slice A1 fr.length c1, .slice A2 to.length c2, .string s] 41) := ⟨_, rfl⟩
  have b1 : Hid (Below w.heap.size w W1) := by unfold Hid; rw [hW1]; exact (Below.refl _ _).alloc (Nat.le_refl _) _
  have x1 : Hid (RX 41 W1 w.heap.size (.slice A1 fr.length c1) (.slice A2 to.length c2) s) := by unfold Hid; rw [hW1]; exact rx_new _ _ _ _ _
  have e0' := Lib.hid hW1
  obtain ⟨k0, k1, k2⟩ := x1.out.cells
  rw [hW1] at k0 k1 k2
  clear hW1
  have e0 : (R0 != R0) = false := by simp
  have e1 : (R1 != R1) = false := by simp
  go_enter Try.func13, Try.ntmps13
  go_wp2_with (fail)
  rw [← e0'.out]
  refine (SZ.out W1 b1.out).mono ?_
  rintro e w2 ⟨r, rfl, hr, hb⟩
  have b2 := Lib.hid (b1.out.trans (hb.mono b1.out.size))
  have x2 := Lib.hid (x1.out.next hb)
  clear hb k0 k1 k2
  obtain ⟨k0, k1, k2⟩ := x2.out.cells
  by_cases hr0 : 0 ≤ r
  rotate_left
  · go_wp2
    go_ret
    exact ⟨rfl, b2.out⟩
  obtain ⟨n1, n2, n3⟩ := hr hr0
  clear hr
  have TR := Lib.hid fun (W : World) (hW : Below w.heap.size w W) => toRule_k 0 w.heap.size A1 A2 c1 c2 fr to s W n1 n2 (E1.out W hW) (E2.out W hW) hW.size
  go_wp2_with (fail)
  refine (TR.out w2 b2.out).mono ?_
  rintro e w3 ⟨A1', c1', A2', c2', rfl, ho1, ho2, hb⟩
  have S3 := Lib.hid (S.out w2.heap.size w3.heap.size A1' A2' c1' c2' w3 n1 n2 n3 (Nd.rs ho1) (Nd.rs ho2) (Nat.le_refl _))
  have b3 := Lib.hid (b2.out.trans (hb.mono b2.out.size))
  have x3 := Lib.hid (x2.out.next hb)
  clear hb k0 k1 k2 ho1 ho2
  go_wp2_with (fail)
  refine S3.out.mono ?_
  rintro e w4 ⟨rfl, hb⟩
  have b4 := Lib.hid (b3.out.trans (hb.mono b3.out.size))
  have x4 := Lib.hid (x3.out.next hb)
  clear hb
  obtain ⟨k0, k1, k2⟩ := x4.out.cells
  go_wp2_with (fail)
  refine (TR.out w4 b4.out).mono ?_
  rintro e w5 ⟨P1, d1, P2, d2, rfl, ho1, ho2, hb⟩
  have O1 := Lib.hid ho1
  have O2 := Lib.hid ho2
  have b5 := Lib.hid (b4.out.trans (hb.mono b4.out.size))
  have x5 := Lib.hid (x4.out.next hb)
  have z5 := hb.size
  clear hb k0 k1 k2 ho1 ho2
  obtain ⟨W6, hW6⟩ : ∃ W6, W6 = w5.alloc (.cells #[.slice P1 fr.length d1, .slice P2 to.length d2, .string s] 45) := ⟨_, rfl⟩
  have a6 : Below w5.heap.size w5 W6 := by rw [hW6]; exact (Below.refl _ _).alloc (Nat.le_refl _) _
  have y6 : Hid (RX 45 W6 w5.heap.size (.slice P1 fr.length d1) (.slice P2 to.length d2) s) := by unfold Hid; rw [hW6]; exact rx_new _ _ _ _ _
  have x6 := Lib.hid (x5.out.next a6)
  have b6 := Lib.hid (b5.out.trans (a6.mono b5.out.size))
  have z6 := a6.size
  have G1 := Lib.hid (O1.out.below a6 (Nat.le_refl _))
  have G2 := Lib.hid (O2.out.below a6 (Nat.le_refl _))
  have I6 := Lib.hid (I.out w4.heap.size w5.heap.size P1 P2 d1 d2 W6 n1 n2 n3 (Nd.rs G1.out) (Nd.rs G2.out) z6 (OK.cap O1.out) (OK.cap O2.out))
  obtain ⟨k0, k1, k2⟩ := y6.out.cells
  rw [hW6] at k0 k1 k2
  have e6 := Lib.hid hW6
  clear a6 hW6
  go_wp2_with (fail)
  rw [← e6.out]
  refine I6.out.mono ?_
  rintro e w7 ⟨rfl, hb⟩
  have b7 := Lib.hid (b6.out.trans (hb.mono b6.out.size))
  have x7 := Lib.hid (x6.out.next hb)
  have y7 := Lib.hid (y6.out.next hb)
  have F1 := Lib.hid (G1.out.below hb z6)
  have F2 := Lib.hid (G2.out.below hb z6)
  have z7 := hb.size
  clear hb k0 k1 k2
  obtain ⟨k0, k1, k2⟩ := y7.out.cells
  obtain ⟨l0, l1, l2⟩ := x7.out.cells
  have hEq := Lib.hid fun (W : World) (Q1 Q2 : Option Addr) (f1 f2 : Nat) (hW : Below w7.heap.size w7 W) (g1 : OK Nd.enc 4 62 W w7.heap.size W.heap.size (.slice Q1 fr.length f1) fr) (g2 : OK Nd.enc 4 62 W w7.heap.size W.heap.size (.slice Q2 to.length f2) to) =>
    eqRule_k w4.heap.size w5.heap.size w7.heap.size W.heap.size P1 P2 Q1 Q2 d1 d2 f1 f2 fr to s W n1 n2 (Nd.rs (F1.out.below hW (by omega))) (Nd.rs (F2.out.below hW (by omega))) (by have := hW.size; omega) (Nd.rs g1) (Nd.rs g2) (Nat.le_refl _)
  go_wp2_with (fail)
  go_region_held3 (fun w' => w'.cell? ⟨w5.heap.size, 0, none⟩ = some (.slice P1 fr.length d1) ∧ w'.cell? ⟨w5.heap.size, 1, none⟩ = some (.slice P2 to.length d2) ∧ w'.cell? ⟨w5.heap.size, 2, none⟩ = some (.string s) ∧ w'.cell? ⟨w.heap.size, 0, none⟩ = some (.slice A1 fr.length c1) ∧ w'.cell? ⟨w.heap.size, 1, none⟩ = some (.slice A2 to.length c2) ∧ w'.cell? ⟨w.heap.size, 2, none⟩ = some (.string s))
    (first | exact K9 | exact K8 | assumption | go_keep)
    (first
      | (go_at_call 38; refine (TR.out _ (by first | exact b7.out | exact b7.out.drew)).mono ?_; rintro e w8 ⟨Q1, f1, Q2, f2, rfl, q1, q2, hb8'⟩; have hb8 : Below w7.heap.size w7 w8 := (by first | exact hb8' | exact (Below.refl w7.heap.size w7).drew.trans hb8'); have q1' : OK Nd.enc 4 62 w8 w7.heap.size w8.heap.size (.slice Q1 fr.length f1) fr := q1; have q2' : OK Nd.enc 4 62 w8 w7.heap.size w8.heap.size (.slice Q2 to.length f2) to := q2; have y8 := RX.next y7.out hb8; have x8 := RX.next x7.out hb8; have K8 := And.intro y8.cells.1 (And.intro y8.cells.2.1 (And.intro y8.cells.2.2 x8.cells)))
      | (go_at_call 40; refine (hEq.out w8 Q1 Q2 f1 f2 hb8 q1' q2').mono ?_; rintro e w9 ⟨rfl, hb9⟩; have y9 := RX.next y8 hb9; have x9 := RX.next x8 hb9; have K9 := And.intro y9.cells.1 (And.intro y9.cells.2.1 (And.intro y9.cells.2.2 x9.cells))))
  all_goals
    have B9 := Lib.hid ((b7.out.trans (hb8.mono b7.out.size)).trans (hb9.mono (Nat.le_trans b7.out.size hb8.size)))
    clear hb8 hb8' hb9 q1 q2 q1' q2' y8 x8 y9 x9 K8 K9
    go_wp2
    go_ret
    exact ⟨rfl, B9.out⟩

def ResProveRule (R0 : Bool) (R1 : Bool) (w : World) (e : Ending) (w' : World) : Prop := e = .returned (.tuple #[.bool R0, .bool R1]) ∧ Below w.heap.size w w'
set_option maxHeartbeats 4000000 in
theorem lawProveRule (A1 A2 : Option Addr) (c1 c2 : Nat) (fr to : List Nd) (s : ByteArray) (w : World) (hl1 : fr.length ≤ 9223372036854775807) (hl2 : to.length ≤ 9223372036854775807) (hs1 : ∀ n ∈ fr, n.op.size ≤ 9223372036854775807) (hs2 : ∀ n ∈ to, n.op.size ≤ 9223372036854775807) (hs : s.size ≤ 9223372036854775807) (h1 : RS Nd.enc 4 w 0 w.heap.size A1 fr) (h2 : RS Nd.enc 4 w 0 w.heap.size A2 to) (R0 : Bool) (R1 : Bool)
    (hS : ∀ (L B : Nat) (A1 A2 : Option Addr) (c1 c2 : Nat) (w : World), fr.length ≤ 1048576 → to.length ≤ 1048576 → s.size ≤ 1048576 → RS Nd.enc 4 w L B A1 fr → RS Nd.enc 4 w L B A2 to → B ≤ w.heap.size → Calls Try.prog 47 #[.agg #[.slice A1 fr.length c1, .slice A2 to.length c2, .string s]] w (ResProveRule R0 R1 w))
    (hI : ∀ (L B : Nat) (A1 A2 : Option Addr) (c1 c2 : Nat) (w : World), fr.length ≤ 1048576 → to.length ≤ 1048576 → s.size ≤ 1048576 → RS Nd.enc 4 w L B A1 fr → RS Nd.enc 4 w L B A2 to → B ≤ w.heap.size → fr.length ≤ c1 → to.length ≤ c2 → Calls Try.prog 48 #[.agg #[.slice A1 fr.length c1, .slice A2 to.length c2, .string s]] w (ResProveRule R0 R1 w)) :
    Calls Try.prog 14 #[.agg #[.slice A1 fr.length c1, .slice A2 to.length c2, .string s]] w fun e w' => e = .returned (.bool true) ∧ Below w.heap.size w w' := by
  have S := Lib.hid hS
  have I := Lib.hid hI
  have E1 := Lib.hid fun (W : World) (hW : Below w.heap.size w W) => h1.below hW (Nat.le_refl _)
  have E2 := Lib.hid fun (W : World) (hW : Below w.heap.size w W) => h2.below hW (Nat.le_refl _)
  have SZ := Lib.hid fun (W : World) (hW : Below w.heap.size w W) => szRule_k 0 w.heap.size A1 A2 c1 c2 fr to s W hl1 hl2 hs1 hs2 hs (h1.below hW (Nat.le_refl _)) (h2.below hW (Nat.le_refl _)) hW.size
  clear hS hI h1 h2 hs1 hs2
  obtain ⟨W1, hW1⟩ : ∃ W1, W1 = w.alloc (.cells #[.slice A1 fr.length c1, .slice A2 to.length c2, .string s] 41) := ⟨_, rfl⟩
  have b1 : Hid (Below w.heap.size w W1) := by unfold Hid; rw [hW1]; exact (Below.refl _ _).alloc (Nat.le_refl _) _
  have x1 : Hid (RX 41 W1 w.heap.size (.slice A1 fr.length c1) (.slice A2 to.length c2) s) := by unfold Hid; rw [hW1]; exact rx_new _ _ _ _ _
  have e0' := Lib.hid hW1
  obtain ⟨k0, k1, k2⟩ := x1.out.cells
  rw [hW1] at k0 k1 k2
  clear hW1
  have e0 : (R0 != R0) = false := by simp
  have e1 : (R1 != R1) = false := by simp
  go_enter Try.func14, Try.ntmps14
  go_wp2_with (fail)
  rw [← e0'.out]
  refine (SZ.out W1 b1.out).mono ?_
  rintro e w2 ⟨r, rfl, hr, hb⟩
  have b2 := Lib.hid (b1.out.trans (hb.mono b1.out.size))
  have x2 := Lib.hid (x1.out.next hb)
  clear hb k0 k1 k2
  obtain ⟨k0, k1, k2⟩ := x2.out.cells
  by_cases hr0 : 0 ≤ r
  rotate_left
  · go_wp2
    go_ret
    exact ⟨rfl, b2.out⟩
  obtain ⟨n1, n2, n3⟩ := hr hr0
  clear hr
  have TR := Lib.hid fun (W : World) (hW : Below w.heap.size w W) => toRule_k 0 w.heap.size A1 A2 c1 c2 fr to s W n1 n2 (E1.out W hW) (E2.out W hW) hW.size
  go_wp2_with (fail)
  refine (TR.out w2 b2.out).mono ?_
  rintro e w3 ⟨A1', c1', A2', c2', rfl, ho1, ho2, hb⟩
  have S3 := Lib.hid (S.out w2.heap.size w3.heap.size A1' A2' c1' c2' w3 n1 n2 n3 (Nd.rs ho1) (Nd.rs ho2) (Nat.le_refl _))
  have b3 := Lib.hid (b2.out.trans (hb.mono b2.out.size))
  have x3 := Lib.hid (x2.out.next hb)
  clear hb k0 k1 k2 ho1 ho2
  go_wp2_with (fail)
  refine S3.out.mono ?_
  rintro e w4 ⟨rfl, hb⟩
  have b4 := Lib.hid (b3.out.trans (hb.mono b3.out.size))
  have x4 := Lib.hid (x3.out.next hb)
  clear hb
  obtain ⟨k0, k1, k2⟩ := x4.out.cells
  go_wp2_with (fail)
  refine (TR.out w4 b4.out).mono ?_
  rintro e w5 ⟨P1, d1, P2, d2, rfl, ho1, ho2, hb⟩
  have O1 := Lib.hid ho1
  have O2 := Lib.hid ho2
  have b5 := Lib.hid (b4.out.trans (hb.mono b4.out.size))
  have x5 := Lib.hid (x4.out.next hb)
  have z5 := hb.size
  clear hb k0 k1 k2 ho1 ho2
  obtain ⟨W6, hW6⟩ : ∃ W6, W6 = w5.alloc (.cells #[.slice P1 fr.length d1, .slice P2 to.length d2, .string s] 45) := ⟨_, rfl⟩
  have a6 : Below w5.heap.size w5 W6 := by rw [hW6]; exact (Below.refl _ _).alloc (Nat.le_refl _) _
  have y6 : Hid (RX 45 W6 w5.heap.size (.slice P1 fr.length d1) (.slice P2 to.length d2) s) := by unfold Hid; rw [hW6]; exact rx_new _ _ _ _ _
  have x6 := Lib.hid (x5.out.next a6)
  have b6 := Lib.hid (b5.out.trans (a6.mono b5.out.size))
  have z6 := a6.size
  have G1 := Lib.hid (O1.out.below a6 (Nat.le_refl _))
  have G2 := Lib.hid (O2.out.below a6 (Nat.le_refl _))
  have I6 := Lib.hid (I.out w4.heap.size w5.heap.size P1 P2 d1 d2 W6 n1 n2 n3 (Nd.rs G1.out) (Nd.rs G2.out) z6 (OK.cap O1.out) (OK.cap O2.out))
  obtain ⟨k0, k1, k2⟩ := y6.out.cells
  rw [hW6] at k0 k1 k2
  have e6 := Lib.hid hW6
  clear a6 hW6
  go_wp2_with (fail)
  rw [← e6.out]
  refine I6.out.mono ?_
  rintro e w7 ⟨rfl, hb⟩
  have b7 := Lib.hid (b6.out.trans (hb.mono b6.out.size))
  have x7 := Lib.hid (x6.out.next hb)
  have y7 := Lib.hid (y6.out.next hb)
  have F1 := Lib.hid (G1.out.below hb z6)
  have F2 := Lib.hid (G2.out.below hb z6)
  have z7 := hb.size
  clear hb k0 k1 k2
  obtain ⟨k0, k1, k2⟩ := y7.out.cells
  obtain ⟨l0, l1, l2⟩ := x7.out.cells
  have hEq := Lib.hid fun (W : World) (Q1 Q2 : Option Addr) (f1 f2 : Nat) (hW : Below w7.heap.size w7 W) (g1 : OK Nd.enc 4 62 W w7.heap.size W.heap.size (.slice Q1 fr.length f1) fr) (g2 : OK Nd.enc 4 62 W w7.heap.size W.heap.size (.slice Q2 to.length f2) to) =>
    eqRule_k w4.heap.size w5.heap.size w7.heap.size W.heap.size P1 P2 Q1 Q2 d1 d2 f1 f2 fr to s W n1 n2 (Nd.rs (F1.out.below hW (by omega))) (Nd.rs (F2.out.below hW (by omega))) (by have := hW.size; omega) (Nd.rs g1) (Nd.rs g2) (Nat.le_refl _)
  go_wp2_with (fail)
  go_region_held3 (fun w' => w'.cell? ⟨w5.heap.size, 0, none⟩ = some (.slice P1 fr.length d1) ∧ w'.cell? ⟨w5.heap.size, 1, none⟩ = some (.slice P2 to.length d2) ∧ w'.cell? ⟨w5.heap.size, 2, none⟩ = some (.string s) ∧ w'.cell? ⟨w.heap.size, 0, none⟩ = some (.slice A1 fr.length c1) ∧ w'.cell? ⟨w.heap.size, 1, none⟩ = some (.slice A2 to.length c2) ∧ w'.cell? ⟨w.heap.size, 2, none⟩ = some (.string s))
    (first | exact K9 | exact K8 | assumption | go_keep)
    (first
      | (go_at_call 38; refine (TR.out _ (by first | exact b7.out | exact b7.out.drew)).mono ?_; rintro e w8 ⟨Q1, f1, Q2, f2, rfl, q1, q2, hb8'⟩; have hb8 : Below w7.heap.size w7 w8 := (by first | exact hb8' | exact (Below.refl w7.heap.size w7).drew.trans hb8'); have q1' : OK Nd.enc 4 62 w8 w7.heap.size w8.heap.size (.slice Q1 fr.length f1) fr := q1; have q2' : OK Nd.enc 4 62 w8 w7.heap.size w8.heap.size (.slice Q2 to.length f2) to := q2; have y8 := RX.next y7.out hb8; have x8 := RX.next x7.out hb8; have K8 := And.intro y8.cells.1 (And.intro y8.cells.2.1 (And.intro y8.cells.2.2 x8.cells)))
      | (go_at_call 40; refine (hEq.out w8 Q1 Q2 f1 f2 hb8 q1' q2').mono ?_; rintro e w9 ⟨rfl, hb9⟩; have y9 := RX.next y8 hb9; have x9 := RX.next x8 hb9; have K9 := And.intro y9.cells.1 (And.intro y9.cells.2.1 (And.intro y9.cells.2.2 x9.cells))))
  all_goals
    have B9 := Lib.hid ((b7.out.trans (hb8.mono b7.out.size)).trans (hb9.mono (Nat.le_trans b7.out.size hb8.size)))
    clear hb8 hb8' hb9 q1 q2 q1' q2' y8 x8 y9 x9 K8 K9
    go_wp2
    go_ret
    exact ⟨rfl, B9.out⟩

def ResRefuteRule (R0 : Int) (R1 : Int) (R2 : Bool) (w : World) (e : Ending) (w' : World) : Prop := e = .returned (.tuple #[.int .i64 R0, .int .i64 R1, .bool R2]) ∧ Below w.heap.size w w'
set_option maxHeartbeats 4000000 in
theorem lawRefuteRule (A1 A2 : Option Addr) (c1 c2 : Nat) (fr to : List Nd) (s : ByteArray) (w : World) (hl1 : fr.length ≤ 9223372036854775807) (hl2 : to.length ≤ 9223372036854775807) (hs1 : ∀ n ∈ fr, n.op.size ≤ 9223372036854775807) (hs2 : ∀ n ∈ to, n.op.size ≤ 9223372036854775807) (hs : s.size ≤ 9223372036854775807) (h1 : RS Nd.enc 4 w 0 w.heap.size A1 fr) (h2 : RS Nd.enc 4 w 0 w.heap.size A2 to) (R0 : Int) (R1 : Int) (R2 : Bool)
    (hS : ∀ (L B : Nat) (A1 A2 : Option Addr) (c1 c2 : Nat) (w : World), fr.length ≤ 1048576 → to.length ≤ 1048576 → s.size ≤ 1048576 → RS Nd.enc 4 w L B A1 fr → RS Nd.enc 4 w L B A2 to → B ≤ w.heap.size → Calls Try.prog 49 #[.agg #[.slice A1 fr.length c1, .slice A2 to.length c2, .string s]] w (ResRefuteRule R0 R1 R2 w))
    (hI : ∀ (L B : Nat) (A1 A2 : Option Addr) (c1 c2 : Nat) (w : World), fr.length ≤ 1048576 → to.length ≤ 1048576 → s.size ≤ 1048576 → RS Nd.enc 4 w L B A1 fr → RS Nd.enc 4 w L B A2 to → B ≤ w.heap.size → fr.length ≤ c1 → to.length ≤ c2 → Calls Try.prog 50 #[.agg #[.slice A1 fr.length c1, .slice A2 to.length c2, .string s]] w (ResRefuteRule R0 R1 R2 w)) :
    Calls Try.prog 15 #[.agg #[.slice A1 fr.length c1, .slice A2 to.length c2, .string s]] w fun e w' => e = .returned (.bool true) ∧ Below w.heap.size w w' := by
  have S := Lib.hid hS
  have I := Lib.hid hI
  have E1 := Lib.hid fun (W : World) (hW : Below w.heap.size w W) => h1.below hW (Nat.le_refl _)
  have E2 := Lib.hid fun (W : World) (hW : Below w.heap.size w W) => h2.below hW (Nat.le_refl _)
  have SZ := Lib.hid fun (W : World) (hW : Below w.heap.size w W) => szRule_k 0 w.heap.size A1 A2 c1 c2 fr to s W hl1 hl2 hs1 hs2 hs (h1.below hW (Nat.le_refl _)) (h2.below hW (Nat.le_refl _)) hW.size
  clear hS hI h1 h2 hs1 hs2
  obtain ⟨W1, hW1⟩ : ∃ W1, W1 = w.alloc (.cells #[.slice A1 fr.length c1, .slice A2 to.length c2, .string s] 41) := ⟨_, rfl⟩
  have b1 : Hid (Below w.heap.size w W1) := by unfold Hid; rw [hW1]; exact (Below.refl _ _).alloc (Nat.le_refl _) _
  have x1 : Hid (RX 41 W1 w.heap.size (.slice A1 fr.length c1) (.slice A2 to.length c2) s) := by unfold Hid; rw [hW1]; exact rx_new _ _ _ _ _
  have e0' := Lib.hid hW1
  obtain ⟨k0, k1, k2⟩ := x1.out.cells
  rw [hW1] at k0 k1 k2
  clear hW1
  have e0 : (R0 != R0) = false := by simp
  have e1 : (R1 != R1) = false := by simp
  have e2 : (R2 != R2) = false := by simp
  go_enter Try.func15, Try.ntmps15
  go_wp2_with (fail)
  rw [← e0'.out]
  refine (SZ.out W1 b1.out).mono ?_
  rintro e w2 ⟨r, rfl, hr, hb⟩
  have b2 := Lib.hid (b1.out.trans (hb.mono b1.out.size))
  have x2 := Lib.hid (x1.out.next hb)
  clear hb k0 k1 k2
  obtain ⟨k0, k1, k2⟩ := x2.out.cells
  by_cases hr0 : 0 ≤ r
  rotate_left
  · go_wp2
    go_ret
    exact ⟨rfl, b2.out⟩
  obtain ⟨n1, n2, n3⟩ := hr hr0
  clear hr
  have TR := Lib.hid fun (W : World) (hW : Below w.heap.size w W) => toRule_k 0 w.heap.size A1 A2 c1 c2 fr to s W n1 n2 (E1.out W hW) (E2.out W hW) hW.size
  go_wp2_with (fail)
  refine (TR.out w2 b2.out).mono ?_
  rintro e w3 ⟨A1', c1', A2', c2', rfl, ho1, ho2, hb⟩
  have S3 := Lib.hid (S.out w2.heap.size w3.heap.size A1' A2' c1' c2' w3 n1 n2 n3 (Nd.rs ho1) (Nd.rs ho2) (Nat.le_refl _))
  have b3 := Lib.hid (b2.out.trans (hb.mono b2.out.size))
  have x3 := Lib.hid (x2.out.next hb)
  clear hb k0 k1 k2 ho1 ho2
  go_wp2_with (fail)
  refine S3.out.mono ?_
  rintro e w4 ⟨rfl, hb⟩
  have b4 := Lib.hid (b3.out.trans (hb.mono b3.out.size))
  have x4 := Lib.hid (x3.out.next hb)
  clear hb
  obtain ⟨k0, k1, k2⟩ := x4.out.cells
  go_wp2_with (fail)
  refine (TR.out w4 b4.out).mono ?_
  rintro e w5 ⟨P1, d1, P2, d2, rfl, ho1, ho2, hb⟩
  have O1 := Lib.hid ho1
  have O2 := Lib.hid ho2
  have b5 := Lib.hid (b4.out.trans (hb.mono b4.out.size))
  have x5 := Lib.hid (x4.out.next hb)
  have z5 := hb.size
  clear hb k0 k1 k2 ho1 ho2
  obtain ⟨W6, hW6⟩ : ∃ W6, W6 = w5.alloc (.cells #[.slice P1 fr.length d1, .slice P2 to.length d2, .string s] 45) := ⟨_, rfl⟩
  have a6 : Below w5.heap.size w5 W6 := by rw [hW6]; exact (Below.refl _ _).alloc (Nat.le_refl _) _
  have y6 : Hid (RX 45 W6 w5.heap.size (.slice P1 fr.length d1) (.slice P2 to.length d2) s) := by unfold Hid; rw [hW6]; exact rx_new _ _ _ _ _
  have x6 := Lib.hid (x5.out.next a6)
  have b6 := Lib.hid (b5.out.trans (a6.mono b5.out.size))
  have z6 := a6.size
  have G1 := Lib.hid (O1.out.below a6 (Nat.le_refl _))
  have G2 := Lib.hid (O2.out.below a6 (Nat.le_refl _))
  have I6 := Lib.hid (I.out w4.heap.size w5.heap.size P1 P2 d1 d2 W6 n1 n2 n3 (Nd.rs G1.out) (Nd.rs G2.out) z6 (OK.cap O1.out) (OK.cap O2.out))
  obtain ⟨k0, k1, k2⟩ := y6.out.cells
  rw [hW6] at k0 k1 k2
  have e6 := Lib.hid hW6
  clear a6 hW6
  go_wp2_with (fail)
  rw [← e6.out]
  refine I6.out.mono ?_
  rintro e w7 ⟨rfl, hb⟩
  have b7 := Lib.hid (b6.out.trans (hb.mono b6.out.size))
  have x7 := Lib.hid (x6.out.next hb)
  have y7 := Lib.hid (y6.out.next hb)
  have F1 := Lib.hid (G1.out.below hb z6)
  have F2 := Lib.hid (G2.out.below hb z6)
  have z7 := hb.size
  clear hb k0 k1 k2
  obtain ⟨k0, k1, k2⟩ := y7.out.cells
  obtain ⟨l0, l1, l2⟩ := x7.out.cells
  have hEq := Lib.hid fun (W : World) (Q1 Q2 : Option Addr) (f1 f2 : Nat) (hW : Below w7.heap.size w7 W) (g1 : OK Nd.enc 4 62 W w7.heap.size W.heap.size (.slice Q1 fr.length f1) fr) (g2 : OK Nd.enc 4 62 W w7.heap.size W.heap.size (.slice Q2 to.length f2) to) =>
    eqRule_k w4.heap.size w5.heap.size w7.heap.size W.heap.size P1 P2 Q1 Q2 d1 d2 f1 f2 fr to s W n1 n2 (Nd.rs (F1.out.below hW (by omega))) (Nd.rs (F2.out.below hW (by omega))) (by have := hW.size; omega) (Nd.rs g1) (Nd.rs g2) (Nat.le_refl _)
  go_wp2_with (fail)
  go_region_held3 (fun w' => w'.cell? ⟨w5.heap.size, 0, none⟩ = some (.slice P1 fr.length d1) ∧ w'.cell? ⟨w5.heap.size, 1, none⟩ = some (.slice P2 to.length d2) ∧ w'.cell? ⟨w5.heap.size, 2, none⟩ = some (.string s) ∧ w'.cell? ⟨w.heap.size, 0, none⟩ = some (.slice A1 fr.length c1) ∧ w'.cell? ⟨w.heap.size, 1, none⟩ = some (.slice A2 to.length c2) ∧ w'.cell? ⟨w.heap.size, 2, none⟩ = some (.string s))
    (first | exact K9 | exact K8 | assumption | go_keep)
    (first
      | (go_at_call 38; refine (TR.out _ (by first | exact b7.out | exact b7.out.drew)).mono ?_; rintro e w8 ⟨Q1, f1, Q2, f2, rfl, q1, q2, hb8'⟩; have hb8 : Below w7.heap.size w7 w8 := (by first | exact hb8' | exact (Below.refl w7.heap.size w7).drew.trans hb8'); have q1' : OK Nd.enc 4 62 w8 w7.heap.size w8.heap.size (.slice Q1 fr.length f1) fr := q1; have q2' : OK Nd.enc 4 62 w8 w7.heap.size w8.heap.size (.slice Q2 to.length f2) to := q2; have y8 := RX.next y7.out hb8; have x8 := RX.next x7.out hb8; have K8 := And.intro y8.cells.1 (And.intro y8.cells.2.1 (And.intro y8.cells.2.2 x8.cells)))
      | (go_at_call 40; refine (hEq.out w8 Q1 Q2 f1 f2 hb8 q1' q2').mono ?_; rintro e w9 ⟨rfl, hb9⟩; have y9 := RX.next y8 hb9; have x9 := RX.next x8 hb9; have K9 := And.intro y9.cells.1 (And.intro y9.cells.2.1 (And.intro y9.cells.2.2 x9.cells))))
  all_goals
    have B9 := Lib.hid ((b7.out.trans (hb8.mono b7.out.size)).trans (hb9.mono (Nat.le_trans b7.out.size hb8.size)))
    clear hb8 hb8' hb9 q1 q2 q1' q2' y8 x8 y9 x9 K8 K9
    go_wp2
    go_ret
    exact ⟨rfl, B9.out⟩

def ResCountRefuting (R0 : Int) (R1 : Bool) (w : World) (e : Ending) (w' : World) : Prop := e = .returned (.tuple #[.int .i64 R0, .bool R1]) ∧ Below w.heap.size w w'
set_option maxHeartbeats 4000000 in
theorem lawCountRefuting (A1 A2 : Option Addr) (c1 c2 : Nat) (fr to : List Nd) (s : ByteArray) (w : World) (hl1 : fr.length ≤ 9223372036854775807) (hl2 : to.length ≤ 9223372036854775807) (hs1 : ∀ n ∈ fr, n.op.size ≤ 9223372036854775807) (hs2 : ∀ n ∈ to, n.op.size ≤ 9223372036854775807) (hs : s.size ≤ 9223372036854775807) (h1 : RS Nd.enc 4 w 0 w.heap.size A1 fr) (h2 : RS Nd.enc 4 w 0 w.heap.size A2 to) (R0 : Int) (R1 : Bool)
    (hS : ∀ (L B : Nat) (A1 A2 : Option Addr) (c1 c2 : Nat) (w : World), fr.length ≤ 1048576 → to.length ≤ 1048576 → s.size ≤ 1048576 → RS Nd.enc 4 w L B A1 fr → RS Nd.enc 4 w L B A2 to → B ≤ w.heap.size → Calls Try.prog 51 #[.agg #[.slice A1 fr.length c1, .slice A2 to.length c2, .string s]] w (ResCountRefuting R0 R1 w))
    (hI : ∀ (L B : Nat) (A1 A2 : Option Addr) (c1 c2 : Nat) (w : World), fr.length ≤ 1048576 → to.length ≤ 1048576 → s.size ≤ 1048576 → RS Nd.enc 4 w L B A1 fr → RS Nd.enc 4 w L B A2 to → B ≤ w.heap.size → fr.length ≤ c1 → to.length ≤ c2 → Calls Try.prog 52 #[.agg #[.slice A1 fr.length c1, .slice A2 to.length c2, .string s]] w (ResCountRefuting R0 R1 w)) :
    Calls Try.prog 16 #[.agg #[.slice A1 fr.length c1, .slice A2 to.length c2, .string s]] w fun e w' => e = .returned (.bool true) ∧ Below w.heap.size w w' := by
  have S := Lib.hid hS
  have I := Lib.hid hI
  have E1 := Lib.hid fun (W : World) (hW : Below w.heap.size w W) => h1.below hW (Nat.le_refl _)
  have E2 := Lib.hid fun (W : World) (hW : Below w.heap.size w W) => h2.below hW (Nat.le_refl _)
  have SZ := Lib.hid fun (W : World) (hW : Below w.heap.size w W) => szRule_k 0 w.heap.size A1 A2 c1 c2 fr to s W hl1 hl2 hs1 hs2 hs (h1.below hW (Nat.le_refl _)) (h2.below hW (Nat.le_refl _)) hW.size
  clear hS hI h1 h2 hs1 hs2
  obtain ⟨W1, hW1⟩ : ∃ W1, W1 = w.alloc (.cells #[.slice A1 fr.length c1, .slice A2 to.length c2, .string s] 41) := ⟨_, rfl⟩
  have b1 : Hid (Below w.heap.size w W1) := by unfold Hid; rw [hW1]; exact (Below.refl _ _).alloc (Nat.le_refl _) _
  have x1 : Hid (RX 41 W1 w.heap.size (.slice A1 fr.length c1) (.slice A2 to.length c2) s) := by unfold Hid; rw [hW1]; exact rx_new _ _ _ _ _
  have e0' := Lib.hid hW1
  obtain ⟨k0, k1, k2⟩ := x1.out.cells
  rw [hW1] at k0 k1 k2
  clear hW1
  have e0 : (R0 != R0) = false := by simp
  have e1 : (R1 != R1) = false := by simp
  go_enter Try.func16, Try.ntmps16
  go_wp2_with (fail)
  rw [← e0'.out]
  refine (SZ.out W1 b1.out).mono ?_
  rintro e w2 ⟨r, rfl, hr, hb⟩
  have b2 := Lib.hid (b1.out.trans (hb.mono b1.out.size))
  have x2 := Lib.hid (x1.out.next hb)
  clear hb k0 k1 k2
  obtain ⟨k0, k1, k2⟩ := x2.out.cells
  by_cases hr0 : 0 ≤ r
  rotate_left
  · go_wp2
    go_ret
    exact ⟨rfl, b2.out⟩
  obtain ⟨n1, n2, n3⟩ := hr hr0
  clear hr
  have TR := Lib.hid fun (W : World) (hW : Below w.heap.size w W) => toRule_k 0 w.heap.size A1 A2 c1 c2 fr to s W n1 n2 (E1.out W hW) (E2.out W hW) hW.size
  go_wp2_with (fail)
  refine (TR.out w2 b2.out).mono ?_
  rintro e w3 ⟨A1', c1', A2', c2', rfl, ho1, ho2, hb⟩
  have S3 := Lib.hid (S.out w2.heap.size w3.heap.size A1' A2' c1' c2' w3 n1 n2 n3 (Nd.rs ho1) (Nd.rs ho2) (Nat.le_refl _))
  have b3 := Lib.hid (b2.out.trans (hb.mono b2.out.size))
  have x3 := Lib.hid (x2.out.next hb)
  clear hb k0 k1 k2 ho1 ho2
  go_wp2_with (fail)
  refine S3.out.mono ?_
  rintro e w4 ⟨rfl, hb⟩
  have b4 := Lib.hid (b3.out.trans (hb.mono b3.out.size))
  have x4 := Lib.hid (x3.out.next hb)
  clear hb
  obtain ⟨k0, k1, k2⟩ := x4.out.cells
  go_wp2_with (fail)
  refine (TR.out w4 b4.out).mono ?_
  rintro e w5 ⟨P1, d1, P2, d2, rfl, ho1, ho2, hb⟩
  have O1 := Lib.hid ho1
  have O2 := Lib.hid ho2
  have b5 := Lib.hid (b4.out.trans (hb.mono b4.out.size))
  have x5 := Lib.hid (x4.out.next hb)
  have z5 := hb.size
  clear hb k0 k1 k2 ho1 ho2
  obtain ⟨W6, hW6⟩ : ∃ W6, W6 = w5.alloc (.cells #[.slice P1 fr.length d1, .slice P2 to.length d2, .string s] 45) := ⟨_, rfl⟩
  have a6 : Below w5.heap.size w5 W6 := by rw [hW6]; exact (Below.refl _ _).alloc (Nat.le_refl _) _
  have y6 : Hid (RX 45 W6 w5.heap.size (.slice P1 fr.length d1) (.slice P2 to.length d2) s) := by unfold Hid; rw [hW6]; exact rx_new _ _ _ _ _
  have x6 := Lib.hid (x5.out.next a6)
  have b6 := Lib.hid (b5.out.trans (a6.mono b5.out.size))
  have z6 := a6.size
  have G1 := Lib.hid (O1.out.below a6 (Nat.le_refl _))
  have G2 := Lib.hid (O2.out.below a6 (Nat.le_refl _))
  have I6 := Lib.hid (I.out w4.heap.size w5.heap.size P1 P2 d1 d2 W6 n1 n2 n3 (Nd.rs G1.out) (Nd.rs G2.out) z6 (OK.cap O1.out) (OK.cap O2.out))
  obtain ⟨k0, k1, k2⟩ := y6.out.cells
  rw [hW6] at k0 k1 k2
  have e6 := Lib.hid hW6
  clear a6 hW6
  go_wp2_with (fail)
  rw [← e6.out]
  refine I6.out.mono ?_
  rintro e w7 ⟨rfl, hb⟩
  have b7 := Lib.hid (b6.out.trans (hb.mono b6.out.size))
  have x7 := Lib.hid (x6.out.next hb)
  have y7 := Lib.hid (y6.out.next hb)
  have F1 := Lib.hid (G1.out.below hb z6)
  have F2 := Lib.hid (G2.out.below hb z6)
  have z7 := hb.size
  clear hb k0 k1 k2
  obtain ⟨k0, k1, k2⟩ := y7.out.cells
  obtain ⟨l0, l1, l2⟩ := x7.out.cells
  have hEq := Lib.hid fun (W : World) (Q1 Q2 : Option Addr) (f1 f2 : Nat) (hW : Below w7.heap.size w7 W) (g1 : OK Nd.enc 4 62 W w7.heap.size W.heap.size (.slice Q1 fr.length f1) fr) (g2 : OK Nd.enc 4 62 W w7.heap.size W.heap.size (.slice Q2 to.length f2) to) =>
    eqRule_k w4.heap.size w5.heap.size w7.heap.size W.heap.size P1 P2 Q1 Q2 d1 d2 f1 f2 fr to s W n1 n2 (Nd.rs (F1.out.below hW (by omega))) (Nd.rs (F2.out.below hW (by omega))) (by have := hW.size; omega) (Nd.rs g1) (Nd.rs g2) (Nat.le_refl _)
  go_wp2_with (fail)
  go_region_held3 (fun w' => w'.cell? ⟨w5.heap.size, 0, none⟩ = some (.slice P1 fr.length d1) ∧ w'.cell? ⟨w5.heap.size, 1, none⟩ = some (.slice P2 to.length d2) ∧ w'.cell? ⟨w5.heap.size, 2, none⟩ = some (.string s) ∧ w'.cell? ⟨w.heap.size, 0, none⟩ = some (.slice A1 fr.length c1) ∧ w'.cell? ⟨w.heap.size, 1, none⟩ = some (.slice A2 to.length c2) ∧ w'.cell? ⟨w.heap.size, 2, none⟩ = some (.string s))
    (first | exact K9 | exact K8 | assumption | go_keep)
    (first
      | (go_at_call 38; refine (TR.out _ (by first | exact b7.out | exact b7.out.drew)).mono ?_; rintro e w8 ⟨Q1, f1, Q2, f2, rfl, q1, q2, hb8'⟩; have hb8 : Below w7.heap.size w7 w8 := (by first | exact hb8' | exact (Below.refl w7.heap.size w7).drew.trans hb8'); have q1' : OK Nd.enc 4 62 w8 w7.heap.size w8.heap.size (.slice Q1 fr.length f1) fr := q1; have q2' : OK Nd.enc 4 62 w8 w7.heap.size w8.heap.size (.slice Q2 to.length f2) to := q2; have y8 := RX.next y7.out hb8; have x8 := RX.next x7.out hb8; have K8 := And.intro y8.cells.1 (And.intro y8.cells.2.1 (And.intro y8.cells.2.2 x8.cells)))
      | (go_at_call 40; refine (hEq.out w8 Q1 Q2 f1 f2 hb8 q1' q2').mono ?_; rintro e w9 ⟨rfl, hb9⟩; have y9 := RX.next y8 hb9; have x9 := RX.next x8 hb9; have K9 := And.intro y9.cells.1 (And.intro y9.cells.2.1 (And.intro y9.cells.2.2 x9.cells))))
  all_goals
    have B9 := Lib.hid ((b7.out.trans (hb8.mono b7.out.size)).trans (hb9.mono (Nat.le_trans b7.out.size hb8.size)))
    clear hb8 hb8' hb9 q1 q2 q1' q2' y8 x8 y9 x9 K8 K9
    go_wp2
    go_ret
    exact ⟨rfl, B9.out⟩
end Go.Proofs.Ytieljgfocgdngaa

/- Sides of rules: which words they tell. -/
namespace Go.Proofs.Ytieljgfocgdngaa
open Go.RowKit
set_option linter.unusedVariables false

def sideList : List (List UInt8) := [[97,110,121], [99,111,110,115,116], [111,100,100], [112,111,119,101,114], [115,109,97,108,108]]
def isSide (s : ByteArray) : Bool := sideList.any fun t => t == s.toList
def isPow (n : Int) : Bool := n == 1 || n == 2 || n == 4 || n == 8 || n == 16 || n == 32
def fitS (s : ByteArray) (n : Int) : Bool :=
  if s.toList = [111,100,100] then n % 2 == 1 else if s.toList = [112,111,119,101,114] then isPow n else if s.toList = [115,109,97,108,108] then inR n 1 5 else true
def fsB (s : ByteArray) (n : Int) : Bool := isW n && isSide s
def fsR (s : ByteArray) (n : Int) : Bool := fsB s n && fitS s n

theorem side_cases (s : ByteArray) : s.toList = [97,110,121] ∨ s.toList = [99,111,110,115,116] ∨ s.toList = [111,100,100] ∨ s.toList = [112,111,119,101,114] ∨ s.toList = [115,109,97,108,108] ∨
    ((s.toList == [97,110,121]) = false ∧ (s.toList == [99,111,110,115,116]) = false ∧ (s.toList == [111,100,100]) = false ∧ (s.toList == [112,111,119,101,114]) = false ∧ (s.toList == [115,109,97,108,108]) = false) := by
  by_cases h1 : s.toList = [97,110,121]; · exact .inl h1
  by_cases h2 : s.toList = [99,111,110,115,116]; · exact .inr (.inl h2)
  by_cases h3 : s.toList = [111,100,100]; · simp [h3]
  by_cases h4 : s.toList = [112,111,119,101,114]; · simp [h4]
  by_cases h5 : s.toList = [115,109,97,108,108]; · simp [h5]
  simp [*]

def sideArr : Array Value := #[.string ⟨#[97,110,121]⟩, .string ⟨#[99,111,110,115,116]⟩, .string ⟨#[111,100,100]⟩, .string ⟨#[112,111,119,101,114]⟩, .string ⟨#[115,109,97,108,108]⟩]
def sideBs : List ByteArray := [⟨#[97,110,121]⟩, ⟨#[99,111,110,115,116]⟩, ⟨#[111,100,100]⟩, ⟨#[112,111,119,101,114]⟩, ⟨#[115,109,97,108,108]⟩]
theorem hasS_side (s : ByteArray) : hasS sideBs s = isSide s := by
  have e : sideBs.map ByteArray.toList = sideList := by decide +kernel
  unfold hasS isSide; rw [← e, List.any_map]; rfl
theorem sideArr_cell (k : Nat) (h : k < sideBs.length) : sideArr[k]? = some (.string sideBs[k]) := by
  match k, h with
  | 0, _ => rfl
  | 1, _ => rfl
  | 2, _ => rfl
  | 3, _ => rfl
  | 4, _ => rfl

theorem ruSide_any (s : ByteArray) (w : World) :
    Calls Try.prog 82 #[.string s] w fun e w' => e = .returned (.bool (isSide s)) ∧ Below w.heap.size w w' := by
  have HS := fun c => l1HasS_any w.heap.size 0 c sideBs s (w.alloc (.cells sideArr 9)) (by decide) (fun k h => by
    rw [Nat.zero_add, cell_of_row _ w.heap.size k sideArr 9 (0,0) (heap_alloc_new _ _)]; exact sideArr_cell k h)
  rw [hasS_side] at HS
  have HH := Lib.hid HS; clear HS
  have hB1 := fun o => (Below.refl w.heap.size w).alloc (Nat.le_refl _) o
  go_enter Try.func82, Try.ntmps82
  go_wp2_with (fail)
  refine (HH.out _).mono ?_
  rintro e w' ⟨rfl, rfl⟩
  go_wp2
  go_ret
  exact ⟨rfl, hB1 _⟩

theorem pow_word : ∀ k : Nat, k < 64 → ((decide (0 < (k : Int)) && (bits .and .i64 (k : Int) ((k : Int) - 1) == 0)) = isPow k) := by decide +kernel

set_option maxHeartbeats 1000000 in
theorem ruFits_any (s : ByteArray) (n : Int) (w : World) (hn : isW n = true) :
    Calls Try.prog 84 #[.string s, .int .i64 n] w fun e w' => e = .returned (.bool (fitS s n)) ∧ w = w' := by
  obtain ⟨h0, h1⟩ := (isW_iff n).mp hn
  clear hn
  obtain ⟨k, rfl⟩ := Int.eq_ofNat_of_zero_le h0
  have hk : k < 64 := by omega
  have hP := Lib.hid (pow_word k hk)
  rcases side_cases s with h|h|h|h|h|⟨g1, g2, g3, g4, g5⟩
  · have H := Lib.hid (show fitS s k = true by simp [fitS, h])
    go_enter Try.func84, Try.ntmps84
    go_wp2
    go_ret
    exact ⟨by rw [H.out]; rfl, rfl⟩
  · have H := Lib.hid (show fitS s k = true by simp [fitS, h])
    go_enter Try.func84, Try.ntmps84
    go_wp2
    go_ret
    exact ⟨by rw [H.out]; rfl, rfl⟩
  · have H := Lib.hid (show fitS s k = ((k : Int) % 2 == 1) by simp [fitS, h])
    go_enter Try.func84, Try.ntmps84
    go_wp2
    all_goals go_ret
    all_goals exact ⟨ret_bool (by rw [H.out]; try first | rfl | (simp; done) | (simp; omega)), rfl⟩
  · have H := Lib.hid (show fitS s k = isPow k by simp [fitS, h])
    go_enter Try.func84, Try.ntmps84
    go_wp2
    all_goals go_ret
    all_goals exact ⟨ret_bool (by rw [H.out, ← hP.out]; simp_all), rfl⟩
  · have H := Lib.hid (show fitS s k = inR k 1 5 by simp [fitS, h])
    go_enter Try.func84, Try.ntmps84
    go_wp2_with (go_at_call 55; refine (l1In_any _ _ _ _).mono ?_; rintro e w' ⟨rfl, rfl⟩)
    go_ret
    exact ⟨ret_bool (by rw [H.out]; rfl), rfl⟩
  · have H := Lib.hid (show fitS s k = true by
      have f : ∀ t : List UInt8, (s.toList == t) = false → ¬ s.toList = t := fun t h => by rwa [beq_eq_false_iff_ne] at h
      unfold fitS; rw [if_neg (f _ g3), if_neg (f _ g4), if_neg (f _ g5)])
    go_enter Try.func84, Try.ntmps84
    go_wp2
    go_ret
    exact ⟨by rw [H.out]; rfl, rfl⟩
end Go.Proofs.Ytieljgfocgdngaa

/- Sides of rules: the program's bits. -/
namespace Go.Proofs.Ytieljgfocgdngaa
open Go.RowKit
set_option linter.unusedVariables false

def pc (k : Nat) : Int := ((k % 2 + k / 2 % 2 + k / 4 % 2 + k / 8 % 2 + k / 16 % 2 + k / 32 % 2 : Nat) : Int)
theorem pc_pow : ∀ k : Nat, k < 64 → (pc k == 1) = isPow k := by decide +kernel

set_option maxHeartbeats 1000000 in
theorem onesCount64_any (k : Nat) (w : World) (hk : k < 64) :
    Calls Try.prog 123 #[.int .u64 k] w fun e w' => e = .returned (.int .i64 (pc k)) ∧ w = w' := by
  have h0 : (0 : Int) ≤ (k : Int) := by omega
  have h1 : (k : Int) < 64 := by omega
  go_enter Try.func123, Try.ntmps123
  go_wp2
  go_ret
  refine ⟨ret_int ?_, rfl⟩
  clear h0 h1
  revert hk
  revert k
  decide +kernel
theorem onesCount_any (k : Nat) (w : World) (hk : k < 64) :
    Calls Try.prog 86 #[.int .u64 k] w fun e w' => e = .returned (.int .i64 (pc k)) ∧ w = w' := by
  have HC := Lib.hid (onesCount64_any k w hk)
  have h0 : (0 : Int) ≤ (k : Int) := by omega
  have h1 : (k : Int) < 64 := by omega
  go_enter Try.func86, Try.ntmps86
  go_wp2_with (fail)
  refine HC.out.mono ?_
  rintro e w' ⟨rfl, rfl⟩
  go_wp2
  go_ret
  exact ⟨rfl, rfl⟩

set_option maxHeartbeats 1000000 in
theorem iFitsSide_any (s : ByteArray) (n : Int) (w : World) :
    Calls Try.prog 42 #[.string s, .int .i64 n] w fun e w' => e = .returned (.tuple #[.bool (fsR s n), .bool (fsB s n)]) ∧ w = w' := by
  have HW := Lib.hid fun W => isWord_any n W
  cases hw : isW n
  · have H1 := Lib.hid (show fsB s n = false by unfold fsB; rw [hw]; rfl)
    have H2 := Lib.hid (show fsR s n = false by unfold fsR; rw [H1.out]; rfl)
    rw [hw] at HW
    clear hw
    go_enter Try.func42, Try.ntmps42
    go_wp2_with (fail)
    refine (HW.out _).mono ?_
    rintro e w' ⟨rfl, rfl⟩
    go_wp2
    go_ret2
    exact ⟨by rw [H1.out, H2.out]; rfl, rfl⟩
  obtain ⟨h0, h1⟩ := (isW_iff n).mp hw
  rw [hw] at HW
  have hS := Lib.hid (show fsB s n = isSide s by unfold fsB; rw [hw]; rfl)
  have hR := Lib.hid (show fsR s n = (isSide s && fitS s n) by unfold fsR; rw [hS.out])
  clear hw
  obtain ⟨k, rfl⟩ := Int.eq_ofNat_of_zero_le h0
  have hk : k < 64 := by omega
  have hP := Lib.hid (pc_pow k hk)
  have hO := Lib.hid fun W => onesCount_any k W hk
  rcases side_cases s with h|h|h|h|h|⟨g1, g2, g3, g4, g5⟩
  · have H1 := Lib.hid (show fsB s k = true by rw [hS.out]; simp [isSide, sideList, h])
    have H2 := Lib.hid (show fsR s k = true by rw [hR.out]; simp [fitS, isSide, sideList, h])
    go_enter Try.func42, Try.ntmps42
    go_wp2_with (fail)
    refine (HW.out _).mono ?_
    rintro e w' ⟨rfl, rfl⟩
    go_wp2
    go_ret2
    exact ⟨by rw [H1.out, H2.out]; rfl, rfl⟩
  · have H1 := Lib.hid (show fsB s k = true by rw [hS.out]; simp [isSide, sideList, h])
    have H2 := Lib.hid (show fsR s k = true by rw [hR.out]; simp [fitS, isSide, sideList, h])
    go_enter Try.func42, Try.ntmps42
    go_wp2_with (fail)
    refine (HW.out _).mono ?_
    rintro e w' ⟨rfl, rfl⟩
    go_wp2
    go_ret2
    exact ⟨by rw [H1.out, H2.out]; rfl, rfl⟩
  · have H1 := Lib.hid (show fsB s k = true by rw [hS.out]; simp [isSide, sideList, h])
    have H2 := Lib.hid (show fsR s k = ((k : Int).tmod 2 == 1) by rw [hR.out, Int.tmod_eq_emod_of_nonneg (by omega)]; simp [fitS, isSide, sideList, h])
    go_enter Try.func42, Try.ntmps42
    go_wp2_with (fail)
    refine (HW.out _).mono ?_
    rintro e w' ⟨rfl, rfl⟩
    go_wp2
    go_ret2
    exact ⟨by rw [H1.out, H2.out]; rfl, rfl⟩
  · have H1 := Lib.hid (show fsB s k = true by rw [hS.out]; simp [isSide, sideList, h])
    have H2 := Lib.hid (show fsR s k = (pc k == 1) by rw [hR.out, hP.out]; simp [fitS, isSide, sideList, h])
    clear hP
    generalize pc k = q at *
    go_enter Try.func42, Try.ntmps42
    go_wp2_with (fail)
    refine (HW.out _).mono ?_
    rintro e w' ⟨rfl, rfl⟩
    go_wp2_with (fail)
    refine (hO.out _).mono ?_
    rintro e w' ⟨rfl, rfl⟩
    go_wp2
    go_ret2
    exact ⟨by rw [H1.out, H2.out]; rfl, rfl⟩
  · have H1 := Lib.hid (show fsB s k = true by rw [hS.out]; simp [isSide, sideList, h])
    have H2 := Lib.hid (show fsR s k = (decide (1 ≤ (k : Int)) && decide ((k : Int) ≤ 5)) by rw [hR.out]; simp [fitS, isSide, sideList, h, inR])
    by_cases hz : 1 ≤ (k : Int)
    · rw [decide_eq_true hz] at H2
      go_enter Try.func42, Try.ntmps42
      go_wp2_with (fail)
      refine (HW.out _).mono ?_
      rintro e w' ⟨rfl, rfl⟩
      go_wp2
      go_ret2
      exact ⟨by rw [H1.out, H2.out]; rfl, rfl⟩
    · rw [decide_eq_false hz] at H2
      go_enter Try.func42, Try.ntmps42
      go_wp2_with (fail)
      refine (HW.out _).mono ?_
      rintro e w' ⟨rfl, rfl⟩
      go_wp2
      go_ret2
      exact ⟨by rw [H1.out, H2.out]; rfl, rfl⟩
  · have f : ∀ t : List UInt8, (s.toList == t) = false → (t == s.toList) = false := fun t h => by
      rw [beq_eq_false_iff_ne] at h ⊢; exact Ne.symm h
    have H1 := Lib.hid (show fsB s k = false by rw [hS.out]; simp only [isSide, sideList, List.any_cons, List.any_nil, f _ g1, f _ g2, f _ g3, f _ g4, f _ g5, Bool.or_false])
    have H2 := Lib.hid (show fsR s k = false by unfold fsR; rw [H1.out]; rfl)
    clear f
    go_enter Try.func42, Try.ntmps42
    go_wp2_with (fail)
    refine (HW.out _).mono ?_
    rintro e w' ⟨rfl, rfl⟩
    go_wp2
    go_ret2
    exact ⟨by rw [H1.out, H2.out]; rfl, rfl⟩

theorem sFitsSide_any (s : ByteArray) (n : Int) (w : World) :
    Calls Try.prog 41 #[.string s, .int .i64 n] w fun e w' => e = .returned (.tuple #[.bool (fsR s n), .bool (fsB s n)]) ∧ Below w.heap.size w w' := by
  have HS := Lib.hid (ruSide_any s w)
  have HW := Lib.hid fun W => exWord_w n W
  cases hs : isSide s
  · have H1 := Lib.hid (show fsB s n = false by unfold fsB; rw [hs, Bool.and_false])
    have H2 := Lib.hid (show fsR s n = false by unfold fsR; rw [H1.out]; rfl)
    rw [hs] at HS
    clear hs
    go_enter Try.func41, Try.ntmps41
    go_wp2_with (fail)
    refine HS.out.mono ?_
    rintro e w1 ⟨rfl, hb⟩
    go_wp2
    go_ret2
    exact ⟨by rw [H1.out, H2.out]; rfl, hb⟩
  rw [hs] at HS
  cases hw : isW n
  · have H1 := Lib.hid (show fsB s n = false by unfold fsB; rw [hw, Bool.false_and])
    have H2 := Lib.hid (show fsR s n = false by unfold fsR; rw [H1.out]; rfl)
    rw [hw] at HW
    clear hs hw
    go_enter Try.func41, Try.ntmps41
    go_wp2_with (fail)
    refine HS.out.mono ?_
    rintro e w1 ⟨rfl, hb⟩
    have hb1 := Lib.hid hb
    clear hb
    go_wp2_with (fail)
    refine (HW.out _).mono ?_
    rintro e w' ⟨rfl, rfl⟩
    go_wp2
    go_ret2
    exact ⟨by rw [H1.out, H2.out]; rfl, hb1.out⟩
  have H1 := Lib.hid (show fsB s n = true by unfold fsB; rw [hs, hw]; rfl)
  have H2 := Lib.hid (show fsR s n = fitS s n by unfold fsR; rw [H1.out, Bool.true_and])
  have HF := Lib.hid fun W => ruFits_any s n W hw
  rw [hw] at HW
  clear hs hw
  generalize fitS s n = q at *
  go_enter Try.func41, Try.ntmps41
  go_wp2_with (fail)
  refine HS.out.mono ?_
  rintro e w1 ⟨rfl, hb⟩
  have hb1 := Lib.hid hb
  clear hb
  go_wp2_with (fail)
  refine (HW.out _).mono ?_
  rintro e w' ⟨rfl, rfl⟩
  go_wp2_with (fail)
  refine (HF.out _).mono ?_
  rintro e w' ⟨rfl, rfl⟩
  go_wp2
  go_ret2
  exact ⟨by rw [H1.out, H2.out]; rfl, hb1.out⟩

theorem lawFitsSide (s : ByteArray) (n : Int) (w : World) (hs : s.size ≤ 9223372036854775807) :
    Calls Try.prog 11 #[.string s, .int .i64 n] w fun e w' => e = .returned (.bool true) ∧ Below w.heap.size w w' := by
  have hB := Below.refl w.heap.size w
  by_cases h : s.size ≤ 1048576
  · go_enter Try.func11, Try.ntmps11
    go_wp2_with (fail)
    refine (sFitsSide_any _ _ _).mono ?_
    rintro e w1 ⟨rfl, h1⟩
    go_wp2_with (fail)
    refine (iFitsSide_any _ _ _).mono ?_
    rintro e w2 ⟨rfl, rfl⟩
    go_wp2_with (fail)
    go_ret
    exact ⟨rfl, h1⟩
  · go_enter Try.func11, Try.ntmps11
    go_wp2_with (fail)
    go_ret
    exact ⟨rfl, hB⟩
end Go.Proofs.Ytieljgfocgdngaa

namespace Go.Proofs.Ytieljgfocgdngaa
open Go.RowKit
set_option linter.unusedVariables false
set_option maxRecDepth 100000

theorem hasInput1_any (s : ByteArray) (a b v k : Int) (bk : Nat) (w : World) (hc : w.cell? ⟨bk, 0, none⟩ = some (.int .i64 k)) (hbk : bk < w.heap.size) :
    Calls Try.prog 109 #[.agg #[.string s, .int .i64 a, .int .i64 b, .int .i64 v], .pointer (some ⟨bk, 0, none⟩)] w fun e w' => e = .returned (.bool (isInp ⟨s, a, b, v⟩ k)) ∧ Below w.heap.size w w' := by
  have hB1 := Lib.hid (fun o => (Below.refl w.heap.size w).alloc (Nat.le_refl _) o)
  go_enter Try.func109, Try.ntmps109
  go_wp2_with (fail)
  refine (isInput_any _ _ _ _ _ _).mono ?_
  rintro e w2 ⟨rfl, hb⟩
  have hb2 := Lib.hid ((hB1.out _).trans (hb.mono (by simp)))
  clear hb
  go_wp2
  go_ret
  exact ⟨rfl, hb2.out⟩
theorem hasIn_of {es : List Nd} {k : Int} {j : Nat} (h : hasIn (es.take j) k = true) : hasIn es k = true := by
  unfold hasIn at *
  rw [List.any_eq_true] at *
  obtain ⟨x, hx, hp⟩ := h
  exact ⟨x, List.mem_of_mem_take hx, hp⟩
def SomeIn (es : List Nd) (k : Int) (w : World) (e : Ending) (w' : World) : Prop := ∃ j : Int, e = .returned (.int .i64 j) ∧ decide (0 ≤ j) = hasIn es k ∧ Below w.heap.size w w'
set_option maxHeartbeats 1000000 in
theorem IndexFuncH_any (L B : Nat) (A : Option Addr) (c : Nat) (es : List Nd) (k : Int) (bk : Nat) (w : World) (hl : es.length ≤ 1048576) (hes : NS w L B A es) (hB : B ≤ w.heap.size) (hc : w.cell? ⟨bk, 0, none⟩ = some (.int .i64 k)) (hbk : bk < w.heap.size) :
    Calls Try.prog 135 #[.slice A es.length c, .func (.func 109) #[] #[.pointer (some ⟨bk, 0, none⟩)]] w (SomeIn es k w) := by
  have hE := Lib.hid hes
  have hBB := Lib.hid hB
  have hC := Lib.hid (And.intro hc hbk)
  have hBel0 := Below.refl w.heap.size w
  clear hes hB hc hbk
  go_enter Try.func135, Try.ntmps135
  go_wp2
  go_loopw [5, 8] (fun _ i wr => ∃ j : Nat, j ≤ es.length ∧ i = .int .i64 j ∧ hasIn (es.take j) k = false ∧ Below w.heap.size w wr) (fun _ i _ => es.length - (intOf i).toNat)
  case atStart => exact ⟨0, Nat.zero_le _, rfl, rfl, hBel0⟩
  case round =>
    obtain ⟨j, hj, rfl, hno, hbel⟩ := hrel
    have hNo := Lib.hid hno
    have hBL := Lib.hid hbel
    clear hno
    by_cases hlt : j < es.length
    · obtain ⟨b, o, rfl, ⟨_, hbB⟩, hcc⟩ := (hE.out.below hbel hBB.out) (by omega)
      obtain ⟨c1, c2, c3, c4⟩ := hcc j hlt
      have hck := Lib.hid ((hbel.cell (p := ⟨bk, 0, none⟩) hC.out.2).trans hC.out.1)
      have hbk2 := Lib.hid (Nat.lt_of_lt_of_le hC.out.2 hbel.size)
      clear hcc hbel
      have hS := Lib.hid (hasIn_snoc hlt k)
      have hOf := Lib.hid (fun h => hasIn_of (es := es) (k := k) (j := j + 1) h)
      generalize es[j] = nd at *
      obtain ⟨s, a, bb, v⟩ := nd
      have hcl := Lib.hid (hasInput1_any s a bb v k bk wr hck.out hbk2.out)
      cases hp : isInp ⟨s, a, bb, v⟩ k
      · rw [hp] at hcl
        have hx : Hid (hasIn (es.take (j + 1)) k = false) := by rw [Hid, hS.out, hNo.out, hp]; rfl
        clear hp
        go_wp2_with (go_at_call 109; (with_reducible refine hcl.out.mono ?_); rintro e w3 ⟨rfl, hb3⟩)
        have hB3 := Lib.hid (hBL.out.trans (hb3.mono hBL.out.size))
        clear hb3
        go_roundw
        case rel => exact ⟨j + 1, by omega, by go_num, hx.out, hB3.out⟩
        case measure => simp [intOf]; omega
      · rw [hp] at hcl
        have hx : Hid (hasIn es k = true) := hOf.out (by rw [hS.out, hp]; simp)
        clear hp
        go_wp2_with (go_at_call 109; (with_reducible refine hcl.out.mono ?_); rintro e w3 ⟨rfl, hb3⟩)
        have hB3 := Lib.hid (hBL.out.trans (hb3.mono hBL.out.size))
        clear hb3
        go_ret
        exact ⟨j, rfl, by rw [hx.out]; simp, hB3.out⟩
    · obtain rfl : j = es.length := by omega
      go_wp2
      go_ret
      exact ⟨-1, rfl, by have := hNo.out; rw [List.take_length] at this; rw [this]; rfl, hbel⟩
theorem ContainsFuncH_any (L B : Nat) (A : Option Addr) (c : Nat) (es : List Nd) (k : Int) (bk : Nat) (w : World) (hl : es.length ≤ 1048576) (hes : NS w L B A es) (hB : B ≤ w.heap.size) (hc : w.cell? ⟨bk, 0, none⟩ = some (.int .i64 k)) (hbk : bk < w.heap.size) :
    Calls Try.prog 108 #[.slice A es.length c, .func (.func 109) #[] #[.pointer (some ⟨bk, 0, none⟩)]] w fun e w' => e = .returned (.bool (hasIn es k)) ∧ Below w.heap.size w w' := by
  have H := Lib.hid (IndexFuncH_any L B A c es k bk w hl hes hB hc hbk)
  clear hes hB hc hbk
  go_enter Try.func108, Try.ntmps108
  go_wp2_with (fail)
  refine H.out.mono ?_
  rintro e w' ⟨j, rfl, hk, hb⟩
  have hK := Lib.hid hk; clear hk
  go_wp2
  go_ret
  exact ⟨ret_bool hK.out, hb⟩
theorem hasInput_any (L B : Nat) (A : Option Addr) (c : Nat) (es : List Nd) (k : Int) (w : World) (hl : es.length ≤ 1048576) (hes : NS w L B A es) (hB : B ≤ w.heap.size) :
    Calls Try.prog 70 #[.slice A es.length c, .int .i64 k] w fun e w' => e = .returned (.bool (hasIn es k)) ∧ Below w.heap.size w w' := by
  have hb1 := Lib.hid ((Below.refl w.heap.size w).alloc (Nat.le_refl _) (.cells #[.int .i64 k] 3))
  have H := Lib.hid (ContainsFuncH_any L B A c es k w.heap.size (w.alloc (.cells #[.int .i64 k] 3)) hl (hes.below hb1.out hB) (Nat.le_trans hB hb1.out.size) (by simp) (by simp))
  clear hes hB
  go_enter Try.func70, Try.ntmps70
  go_wp2_with (fail)
  refine H.out.mono ?_
  rintro e w' ⟨rfl, hb⟩
  have hb2 := Lib.hid (hb1.out.trans (hb.mono hb1.out.size))
  clear hb
  go_wp2
  go_ret
  exact ⟨rfl, hb2.out⟩
end Go.Proofs.Ytieljgfocgdngaa

/- IsRule: the model and the program. -/
namespace Go.Proofs.Ytieljgfocgdngaa
open Go.RowKit
set_option linter.unusedVariables false
set_option maxRecDepth 100000

def isAny (s : ByteArray) : Bool := s.toList == [97, 110, 121]
def holesOk (fr to : List Nd) (s : ByteArray) : Bool := (hasIn fr 0 || !hasIn to 0) && (hasIn fr 1 || (!hasIn to 1 && isAny s))
def rootOp (fr : List Nd) : Bool := !((parts (fr.getD (fr.length - 1) zeroNd)).length == 0)
def ruleOk (fr to : List Nd) (s : ByteArray) : Bool := isSide s && walked fr && walked to && rootOp fr && holesOk fr to s

theorem cnt_pos {es : List Nd} {k : Int} : hasIn es k = true ↔ 0 < cntIn es k := by rw [← cntIn_pos]; simp
theorem cnt_zero {es : List Nd} {k : Int} : hasIn es k = false ↔ cntIn es k = 0 := by
  have h1 := (cntIn_bd es es.length k).1
  rw [List.take_length] at h1
  rw [← cntIn_pos]; simp; omega

set_option maxHeartbeats 4000000 in
theorem ruGood_any (L B : Nat) (A1 A2 : Option Addr) (c1 c2 : Nat) (fr to : List Nd) (s : ByteArray) (w : World) (hl1 : fr.length ≤ 1048576) (hl2 : to.length ≤ 1048576) (h1 : NS w L B A1 fr) (h2 : NS w L B A2 to) (hB : B ≤ w.heap.size) :
    Calls Try.prog 79 #[.agg #[.slice A1 fr.length c1, .slice A2 to.length c2, .string s]] w fun e w' => e = .returned (.bool (ruleOk fr to s)) ∧ Below w.heap.size w w' := by
  obtain ⟨W1, hW1⟩ : ∃ W1, W1 = w.alloc (.cells #[.slice A1 fr.length c1, .slice A2 to.length c2, .string s] 45) := ⟨_, rfl⟩
  have b1 : Hid (Below w.heap.size w W1) := by unfold Hid; rw [hW1]; exact (Below.refl _ _).alloc (Nat.le_refl _) _
  have x1 : Hid (RX 45 W1 w.heap.size (.slice A1 fr.length c1) (.slice A2 to.length c2) s) := by unfold Hid; rw [hW1]; exact rx_new _ _ _ _ _
  have e1 := Lib.hid hW1
  obtain ⟨k0, k1, k2⟩ := x1.out.cells
  rw [hW1] at k0 k1 k2
  have E1 := Lib.hid fun (W : World) (hW : Below w.heap.size w W) => h1.below hW hB
  have E2 := Lib.hid fun (W : World) (hW : Below w.heap.size w W) => h2.below hW hB
  have HS0 := Lib.hid fun W => ruSide_any s W
  have HW1 := Lib.hid fun (W : World) (hW : Below w.heap.size w W) => ruWalked_any L B A1 c1 fr W hl1 (h1.below hW hB) (Nat.le_trans hB hW.size)
  have HW2 := Lib.hid fun (W : World) (hW : Below w.heap.size w W) => ruWalked_any L B A2 c2 to W hl2 (h2.below hW hB) (Nat.le_trans hB hW.size)
  have HH1 := Lib.hid fun (W : World) (hW : Below w.heap.size w W) => ruHoles_any L B A1 c1 fr W hl1 (h1.below hW hB) (Nat.le_trans hB hW.size)
  have HH2 := Lib.hid fun (W : World) (hW : Below w.heap.size w W) => ruHoles_any L B A2 c2 to W hl2 (h2.below hW hB) (Nat.le_trans hB hW.size)
  clear hW1 h1 h2
  cases hs : isSide s
  · have hK : Hid (ruleOk fr to s = false) := by unfold Hid ruleOk; rw [hs]; rfl
    rw [hs] at HS0
    clear hs
    go_enter Try.func79, Try.ntmps79
    go_wp2_with (fail)
    rw [← e1.out]
    refine (HS0.out W1).mono ?_
    rintro e w2 ⟨rfl, hb⟩
    have b2 := Lib.hid (b1.out.trans (hb.mono b1.out.size))
    clear hb
    go_wp2
    go_ret
    exact ⟨ret_bool (by rw [hK.out]), b2.out⟩
  rw [hs] at HS0
  cases hw1 : walked fr
  · have hK : Hid (ruleOk fr to s = false) := by unfold Hid ruleOk; rw [hs, hw1]; rfl
    rw [hw1] at HW1
    clear hs hw1
    go_enter Try.func79, Try.ntmps79
    go_wp2_with (fail)
    rw [← e1.out]
    refine (HS0.out W1).mono ?_
    rintro e w2 ⟨rfl, hb⟩
    have b2 := Lib.hid (b1.out.trans (hb.mono b1.out.size))
    have x2 := x1.out.next hb
    clear hb k0 k1 k2
    obtain ⟨k0, k1, k2⟩ := x2.cells
    go_wp2_with (fail)
    refine (HW1.out w2 b2.out).mono ?_
    rintro e w3 ⟨rfl, hb⟩
    have b3 := Lib.hid (b2.out.trans (hb.mono b2.out.size))
    clear hb
    go_wp2
    go_ret
    exact ⟨ret_bool (by rw [hK.out]), b3.out⟩
  rw [hw1] at HW1
  cases hw2 : walked to
  · have hK : Hid (ruleOk fr to s = false) := by unfold Hid ruleOk; rw [hs, hw1, hw2]; rfl
    rw [hw2] at HW2
    clear hs hw1 hw2
    go_enter Try.func79, Try.ntmps79
    go_wp2_with (fail)
    rw [← e1.out]
    refine (HS0.out W1).mono ?_
    rintro e w2 ⟨rfl, hb⟩
    have b2 := Lib.hid (b1.out.trans (hb.mono b1.out.size))
    have x2 := x1.out.next hb
    clear hb k0 k1 k2
    obtain ⟨k0, k1, k2⟩ := x2.cells
    go_wp2_with (fail)
    refine (HW1.out w2 b2.out).mono ?_
    rintro e w3 ⟨rfl, hb⟩
    have b3 := Lib.hid (b2.out.trans (hb.mono b2.out.size))
    have x3 := x2.next hb
    clear hb k0 k1 k2
    obtain ⟨k0, k1, k2⟩ := x3.cells
    go_wp2_with (fail)
    refine (HW2.out w3 b3.out).mono ?_
    rintro e w4 ⟨rfl, hb⟩
    have b4 := Lib.hid (b3.out.trans (hb.mono b3.out.size))
    clear hb
    go_wp2
    go_ret
    exact ⟨ret_bool (by rw [hK.out]), b4.out⟩
  rw [hw2] at HW2
  have hg := walked_good hw1
  obtain ⟨hf1, hf24, hok⟩ := good_len hg
  obtain ⟨m, hm⟩ : ∃ m, fr.length = m + 1 := ⟨fr.length - 1, by omega⟩
  have hM := Lib.hid hm
  have hmi : (fr.length : Int) - 1 = (m : Int) := by omega
  have hMI := Lib.hid hmi
  have hmf : m < fr.length := by omega
  have hK0 : Hid (ruleOk fr to s = (!((parts fr[m]).length == 0) && holesOk fr to s)) := by
    unfold Hid ruleOk rootOp; rw [hs, hw1, hw2, show fr.length - 1 = m by omega, getD_nd hmf]; rfl
  have hCl := Lib.hid fun (W : World) (hW : Below w.heap.size w W) => (show ∃ b o, A1 = some ⟨b, o, none⟩ ∧ W.cell? ⟨b, o + m * 4, none⟩ = some (.string fr[m].op) ∧ W.cell? ⟨b, o + m * 4 + 1, none⟩ = some (.int .i64 fr[m].a) ∧ W.cell? ⟨b, o + m * 4 + 2, none⟩ = some (.int .i64 fr[m].b) ∧ W.cell? ⟨b, o + m * 4 + 3, none⟩ = some (.int .i64 fr[m].v) by
    obtain ⟨b, o, e, _, hc⟩ := (E1.out W hW) (by omega)
    exact ⟨b, o, e, hc m hmf⟩)
  have hPt := Lib.hid fun (W' : World) => exParts_any fr[m].op fr[m].a fr[m].b fr[m].v W'
  have hpe : parts ⟨fr[m].op, fr[m].a, fr[m].b, fr[m].v⟩ = parts fr[m] := rfl
  rw [hpe] at hPt
  have hpl := parts_le fr[m]
  have m0 : (0 : Int) ≤ (m : Int) := by omega
  have m1 : (m : Int) < (fr.length : Int) := by omega
  clear hs hw1 hw2 hg hok hm hmi hpe
  generalize parts fr[m] = ps at *
  generalize fr[m] = nd at *
  obtain ⟨op, a, bb, x⟩ := nd
  dsimp only at *
  have hAny : isAny s = (s.toList == [97, 110, 121]) := rfl
  go_enter Try.func79, Try.ntmps79
  go_wp2_with (fail)
  rw [← e1.out]
  refine (HS0.out W1).mono ?_
  rintro e w2 ⟨rfl, hb⟩
  have b2 := Lib.hid (b1.out.trans (hb.mono b1.out.size))
  have x2 := Lib.hid (x1.out.next hb)
  clear hb k0 k1 k2
  obtain ⟨k0, k1, k2⟩ := x2.out.cells
  go_wp2_with (fail)
  refine (HW1.out w2 b2.out).mono ?_
  rintro e w3 ⟨rfl, hb⟩
  have b3 := Lib.hid (b2.out.trans (hb.mono b2.out.size))
  have x3 := Lib.hid (x2.out.next hb)
  clear hb k0 k1 k2
  obtain ⟨k0, k1, k2⟩ := x3.out.cells
  go_wp2_with (fail)
  refine (HW2.out w3 b3.out).mono ?_
  rintro e w4 ⟨rfl, hb⟩
  have b4 := Lib.hid (b3.out.trans (hb.mono b3.out.size))
  have x4 := Lib.hid (x3.out.next hb)
  clear hb k0 k1 k2
  obtain ⟨k0, k1, k2⟩ := x4.out.cells
  obtain ⟨b', o', hA, q0, q1, q2, q3⟩ := hCl.out w4 b4.out
  subst hA
  have hmi := hMI.out
  go_wp2_with (fail)
  (with_reducible refine (hPt.out _).mono ?_)
  rintro e w5 ⟨A5, c5, rfl, _, hb⟩
  have b5 := Lib.hid (b4.out.trans (hb.mono b4.out.size))
  have x5 := Lib.hid (x4.out.next hb)
  clear hb k0 k1 k2 q0 q1 q2 q3
  obtain ⟨k0, k1, k2⟩ := x5.out.cells
  by_cases hp0 : ps.length = 0
  · have hK : Hid (ruleOk fr to s = false) := by rw [Hid, hK0.out, hp0]; rfl
    have hp0i : (ps.length : Int) = 0 := by omega
    clear hp0
    go_wp2
    go_ret
    exact ⟨ret_bool (by rw [hK.out]), b5.out⟩
  have hK : Hid (ruleOk fr to s = holesOk fr to s) := by
    have : (ps.length == 0) = false := by simpa using hp0
    rw [Hid, hK0.out, this]; rfl
  have hp0i : (ps.length : Int) ≠ 0 := by omega
  clear hp0
  go_wp2_with (fail)
  refine (HH1.out w5 b5.out).mono ?_
  rintro e w6 ⟨rfl, hb⟩
  have b6 := Lib.hid (b5.out.trans (hb.mono b5.out.size))
  have x6 := Lib.hid (x5.out.next hb)
  clear hb k0 k1 k2
  obtain ⟨k0, k1, k2⟩ := x6.out.cells
  go_wp2_with (fail)
  refine (HH2.out w6 b6.out).mono ?_
  rintro e w7 ⟨rfl, hb⟩
  have b7 := Lib.hid (b6.out.trans (hb.mono b6.out.size))
  have x7 := Lib.hid (x6.out.next hb)
  clear hb k0 k1 k2
  obtain ⟨k0, k1, k2⟩ := x7.out.cells
  have ha := Lib.hid (@cnt_pos fr 0)
  have ha' := Lib.hid (@cnt_zero fr 0)
  have hc := Lib.hid (@cnt_pos to 0)
  have hc' := Lib.hid (@cnt_zero to 0)
  have hbp := Lib.hid (@cnt_pos fr 1)
  have hbp' := Lib.hid (@cnt_zero fr 1)
  have hd := Lib.hid (@cnt_pos to 1)
  have hd' := Lib.hid (@cnt_zero to 1)
  have hHo : Hid (holesOk fr to s = ((hasIn fr 0 || !hasIn to 0) && (hasIn fr 1 || (!hasIn to 1 && isAny s)))) := rfl
  have n0 := (cntIn_bd fr fr.length 0).1
  have n1 := (cntIn_bd fr fr.length 1).1
  have n2 := (cntIn_bd to to.length 0).1
  have n3 := (cntIn_bd to to.length 1).1
  rw [List.take_length] at n0 n1 n2 n3
  generalize cntIn fr 0 = a0 at *
  generalize cntIn fr 1 = a1 at *
  generalize cntIn to 0 = a2 at *
  generalize cntIn to 1 = a3 at *
  generalize hasIn fr 0 = z0 at *
  generalize hasIn fr 1 = z1 at *
  generalize hasIn to 0 = z2 at *
  generalize hasIn to 1 = z3 at *
  have fin : ∀ (r : Bool), holesOk fr to s = r → ruleOk fr to s = r := fun r h => by rw [hK.out, h]
  have FIN := Lib.hid fin
  clear fin
  have tail : True := trivial
  by_cases hP : 0 < a0 ∨ a2 = 0
  · have hP1 : (z0 || !z2) = true := by
      rcases hP with h | h
      · rw [ha.out.2 h]; rfl
      · rw [hc'.out.2 h]; simp
    have hQ : Hid (holesOk fr to s = (z1 || (!z3 && isAny s))) := by rw [Hid, hHo.out, hP1]; rfl
    by_cases h1' : 0 < a1
    · have hr := Lib.hid (FIN.out true (by rw [hQ.out, hbp.out.2 h1']; rfl))
      rcases hP with h | h
      · go_wp2
        go_ret
        exact ⟨ret_bool (by first | (rw [hr.out]; done) | (rw [hr.out]; exact decide_eq_false (by omega))), b7.out⟩
      · by_cases hh : 0 < a0
        · go_wp2
          go_ret
          exact ⟨ret_bool (by first | (rw [hr.out]; done) | (rw [hr.out]; exact decide_eq_false (by omega))), b7.out⟩
        · go_wp2
          go_ret
          exact ⟨ret_bool (by first | (rw [hr.out]; done) | (rw [hr.out]; exact decide_eq_false (by omega))), b7.out⟩
    · have hz1 : z1 = false := hbp'.out.2 (by omega)
      by_cases h3' : a3 = 0
      · have hz3 : z3 = false := hd'.out.2 h3'
        cases hany : (s.toList == [97, 110, 121])
        · have hr := Lib.hid (FIN.out false (by rw [hQ.out, hz1, hz3, hAny, hany]; rfl))
          clear hz1 hz3 hAny
          by_cases hh : 0 < a0
          · go_wp2
            go_ret
            exact ⟨ret_bool (by first | (rw [hr.out]; done) | (rw [hr.out]; exact decide_eq_false (by omega))), b7.out⟩
          · have h2' : a2 = 0 := by omega
            go_wp2
            go_ret
            exact ⟨ret_bool (by first | (rw [hr.out]; done) | (rw [hr.out]; exact decide_eq_false (by omega))), b7.out⟩
        · have hr := Lib.hid (FIN.out true (by rw [hQ.out, hz1, hz3, hAny, hany]; rfl))
          have hs' : s.toList = [97, 110, 121] := by simpa using hany
          clear hz1 hz3 hAny hany
          by_cases hh : 0 < a0
          · go_wp2
            go_ret
            exact ⟨ret_bool (by first | (rw [hr.out]; done) | (rw [hr.out]; exact decide_eq_false (by omega))), b7.out⟩
          · have h2' : a2 = 0 := by omega
            go_wp2
            go_ret
            exact ⟨ret_bool (by first | (rw [hr.out]; done) | (rw [hr.out]; exact decide_eq_false (by omega))), b7.out⟩
      · have hz3 : z3 = true := hd.out.2 (by omega)
        have hr := Lib.hid (FIN.out false (by rw [hQ.out, hz1, hz3]; rfl))
        clear hz1 hz3
        by_cases hh : 0 < a0
        · go_wp2
          go_ret
          exact ⟨ret_bool (by first | (rw [hr.out]; done) | (rw [hr.out]; exact decide_eq_false (by omega))), b7.out⟩
        · have h2' : a2 = 0 := by omega
          go_wp2
          go_ret
          exact ⟨ret_bool (by first | (rw [hr.out]; done) | (rw [hr.out]; exact decide_eq_false (by omega))), b7.out⟩
  · have hn0 : ¬ 0 < a0 := fun h => hP (.inl h)
    have hn2 : ¬ a2 = 0 := fun h => hP (.inr h)
    have hz0 : z0 = false := ha'.out.2 (by omega)
    have hz2 : z2 = true := hc.out.2 (by omega)
    have hr := Lib.hid (FIN.out false (by rw [hHo.out, hz0, hz2]; rfl))
    clear hP hz0 hz2
    go_wp2
    go_ret
    exact ⟨ret_bool (by first | (rw [hr.out]; done) | (rw [hr.out]; exact decide_eq_false (by omega))), b7.out⟩

theorem sIsRule_k (L B : Nat) (A1 A2 : Option Addr) (c1 c2 : Nat) (fr to : List Nd) (s : ByteArray) (w : World) (hl1 : fr.length ≤ 1048576) (hl2 : to.length ≤ 1048576) (hl3 : s.size ≤ 1048576) (h1 : RS Nd.enc 4 w L B A1 fr) (h2 : RS Nd.enc 4 w L B A2 to) (hB : B ≤ w.heap.size) :
    Calls Try.prog 37 #[.agg #[.slice A1 fr.length c1, .slice A2 to.length c2, .string s]] w (ResIsRule (ruleOk fr to s) w) := by
  obtain ⟨W1, hW1⟩ : ∃ W1, W1 = w.alloc (.cells #[.slice A1 fr.length c1, .slice A2 to.length c2, .string s] 45) := ⟨_, rfl⟩
  have b1 : Hid (Below w.heap.size w W1) := by unfold Hid; rw [hW1]; exact (Below.refl _ _).alloc (Nat.le_refl _) _
  have x1 : RX 45 W1 w.heap.size (.slice A1 fr.length c1) (.slice A2 to.length c2) s := by rw [hW1]; exact rx_new _ _ _ _ _
  have H := Lib.hid (ruGood_any L B A1 A2 c1 c2 fr to s W1 hl1 hl2 (h1.below b1.out hB).ns (h2.below b1.out hB).ns (Nat.le_trans hB b1.out.size))
  obtain ⟨k0, k1, k2⟩ := x1.cells
  rw [hW1] at k0 k1 k2
  have e1 := Lib.hid hW1
  clear hW1 h1 h2 x1
  go_enter Try.func37, Try.ntmps37
  go_wp2_with (fail)
  rw [← e1.out]
  refine H.out.mono ?_
  rintro e w2 ⟨rfl, hb⟩
  have b2 := Lib.hid (b1.out.trans (hb.mono b1.out.size))
  clear hb
  go_wp2
  go_ret
  exact ⟨rfl, b2.out⟩
end Go.Proofs.Ytieljgfocgdngaa

/- Which words refuse a rule. No program. -/
namespace Go.Proofs.Ytieljgfocgdngaa
open Go.RowKit
set_option linter.unusedVariables false

theorem firstI_step_no {p : Nat → Bool} {n : Nat} (h : p n = false) : firstI p (n + 1) = firstI p n := by
  rcases firstI_cases p n with ⟨e, ha⟩ | ⟨k, hk, e, hp, ha⟩
  · rw [e]; exact firstI_none fun i hi => by
      by_cases hin : i = n
      · subst hin; exact h
      · exact ha i (by omega)
  · rw [e]; exact firstI_some (by omega) hp ha
theorem firstI_step_new {p : Nat → Bool} {n : Nat} (h : p n = true) (h0 : firstI p n < 0) : firstI p (n + 1) = (n : Int) := by
  rcases firstI_cases p n with ⟨e, ha⟩ | ⟨k, hk, e, hp, ha⟩
  · exact firstI_some (by omega) h ha
  · omega
theorem firstI_step_old {p : Nat → Bool} {n : Nat} (h0 : 0 ≤ firstI p n) : firstI p (n + 1) = firstI p n := by
  rcases firstI_cases p n with ⟨e, ha⟩ | ⟨k, hk, e, hp, ha⟩
  · omega
  · rw [e]; exact firstI_some (by omega) hp ha
theorem count_first (p : Nat → Bool) : ∀ n, countI p n = 0 ↔ firstI p n < 0 := by
  intro n
  rw [firstI_neg]
  induction n with
  | zero => exact ⟨fun _ i hi => by omega, fun _ => rfl⟩
  | succ n ih =>
    cases hp : p n
    · rw [countI_no hp, ih]
      constructor
      · intro h i hi
        by_cases hin : i = n
        · subst hin; exact hp
        · exact h i (by omega)
      · intro h i hi; exact h i (by omega)
    · rw [countI_yes hp]
      have := (countI_bd p n).1
      constructor
      · intro h; omega
      · intro h; have := h n (by omega); rw [hp] at this; cases this

def rneI (s : ByteArray) (xs ys : List Int) (i : Nat) : Bool := neI xs ys i && fitS s ((i % 64 : Nat) : Int)
def refF (s : ByteArray) (xs ys : List Int) (x0 x1 : Int) : Int := if fsR s x1 = true then bits .xor .i64 (xs.getD (64 * x0 + x1).toNat 0) (ys.getD (64 * x0 + x1).toNat 0) else 0
def refT (s : ByteArray) (xs ys : List Int) : List Int := tabTo (refF s xs ys) 4096
theorem refT_len (s : ByteArray) (xs ys : List Int) : (refT s xs ys).length = 4096 := tabTo_len _ _
theorem isW_mod (i : Nat) : isW ((i % 64 : Nat) : Int) = true := (isW_iff _).2 ⟨by omega, by omega⟩
theorem refT_ne {s : ByteArray} {xs ys : List Int} (hs : isSide s = true) (hx : W64 xs) (hy : W64 ys) {i : Nat} (hi : i < 4096) : ((refT s xs ys).getD i 0 != 0) = rneI s xs ys i := by
  unfold refT
  rw [tabTo_get _ hi]
  unfold refF rneI
  have h1 : fsR s ((i % 64 : Nat) : Int) = fitS s ((i % 64 : Nat) : Int) := by unfold fsR fsB; rw [isW_mod, hs]; rfl
  rw [h1, show (64 * ((i / 64 : Nat) : Int) + ((i % 64 : Nat) : Int)).toNat = i by omega]
  cases fitS s ((i % 64 : Nat) : Int)
  · simp
  · rw [if_pos rfl, Bool.and_true]
    exact xorI_ne hx hy i
def refR (fr to : List Nd) (s : ByteArray) : List Int := if ruleOk fr to s = true then refT s (tab fr) (tab to) else []
def rfI (fr to : List Nd) (s : ByteArray) : Int := if ruleOk fr to s = true then firstI (rneI s (tab fr) (tab to)) 4096 else -1
def rcR (fr to : List Nd) (s : ByteArray) : Int := if ruleOk fr to s = true then countI (rneI s (tab fr) (tab to)) 4096 else 0
def prR (fr to : List Nd) (s : ByteArray) : Bool := ruleOk fr to s && decide (rcR fr to s = 0)
def rf0 (fr to : List Nd) (s : ByteArray) : Int := if rfI fr to s < 0 then 0 else rfI fr to s / 64
def rf1 (fr to : List Nd) (s : ByteArray) : Int := if rfI fr to s < 0 then 0 else rfI fr to s % 64
def rfB (fr to : List Nd) (s : ByteArray) : Bool := decide (0 ≤ rfI fr to s)
theorem ruleOk_side {fr to : List Nd} {s : ByteArray} (h : ruleOk fr to s = true) : isSide s = true := by
  unfold ruleOk at h
  simp only [Bool.and_eq_true] at h
  exact h.1.1.1.1
theorem ruleOk_goods {fr to : List Nd} {s : ByteArray} (h : ruleOk fr to s = true) : good fr = true ∧ good to = true := by
  unfold ruleOk at h
  simp only [Bool.and_eq_true] at h
  exact ⟨walked_good h.1.1.1.2, walked_good h.1.1.2⟩
theorem refR_len (fr to : List Nd) (s : ByteArray) : (refR fr to s).length ≤ 4096 := by
  unfold refR; split
  · rw [refT_len]; omega
  · simp
theorem refR_first (fr to : List Nd) (s : ByteArray) : firstI (fun i => (refR fr to s).getD i 0 != 0) (refR fr to s).length = rfI fr to s := by
  unfold refR rfI; split
  · rename_i h
    rw [refT_len]
    exact firstI_ext fun i hi => refT_ne (ruleOk_side h) (tab_W (ruleOk_goods h).1) (tab_W (ruleOk_goods h).2) hi
  · rfl
theorem refR_count (fr to : List Nd) (s : ByteArray) : countI (fun i => (refR fr to s).getD i 0 != 0) (refR fr to s).length = rcR fr to s := by
  unfold refR rcR; split
  · rename_i h
    rw [refT_len]
    exact countI_ext fun i hi => refT_ne (ruleOk_side h) (tab_W (ruleOk_goods h).1) (tab_W (ruleOk_goods h).2) hi
  · rfl
theorem rcR_bd (fr to : List Nd) (s : ByteArray) : 0 ≤ rcR fr to s ∧ rcR fr to s ≤ 4096 := by
  unfold rcR; split
  · exact countI_bd _ _
  · omega
end Go.Proofs.Ytieljgfocgdngaa
