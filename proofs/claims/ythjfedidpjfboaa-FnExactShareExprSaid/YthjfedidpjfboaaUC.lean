import Derived.Test.YthjfedidpjfboaaUB
import Derived.Test.YthjfedidpjfboaaXH
import Derived.WalkKit
import Derived.WalkSpells
import Derived.WalkLawsBesides
import Derived.Deep.RegionHeld3
import Derived.Lib.Hide
/- ShareExpr: the program. -/
namespace Go.Proofs.Ythjfedidpjfboaa
open Go.RowKit
set_option linter.unusedVariables false
set_option maxRecDepth 100000

set_option maxHeartbeats 1000000 in
theorem indexN_any (L B : Nat) (A : Option Addr) (c : Nat) (xs : List Nd) (y : Nd) (w : World) (hl : xs.length ≤ 1048576) (hx : NS w L B A xs) (hB : B ≤ w.heap.size) :
    Calls Try.prog 201 #[.slice A xs.length c, .agg #[.string y.op, .int .i64 y.a, .int .i64 y.b, .int .i64 y.v]] w fun e w' => e = .returned (.int .i64 (nidx xs y)) ∧ Below w.heap.size w w' := by
  have hX := Lib.hid hx
  have hgd := nd_guard
  clear hx
  obtain ⟨op, a, b, x⟩ := y
  dsimp only
  obtain ⟨W1, hW1⟩ : ∃ W1, W1 = w.alloc (.cells #[.string op, .int .i64 a, .int .i64 b, .int .i64 x] 79) := ⟨_, rfl⟩
  have b1 : Hid (Below w.heap.size w W1) := by unfold Hid; rw [hW1]; exact (Below.refl _ _).alloc (Nat.le_refl _) _
  have x1 : Hid (XN W1 w.heap.size ⟨op, a, b, x⟩) := by unfold Hid; rw [hW1]; exact xn_new _ ⟨op, a, b, x⟩
  have e1 := Lib.hid hW1
  have hfi : Hid (nidx xs ⟨op, a, b, x⟩ = firstI (fun k => sameN (xs.getD k zeroNd) ⟨op, a, b, x⟩) xs.length) := rfl
  clear hW1
  go_enter Try.func201, Try.ntmps201
  go_wp2
  rw [← e1.out]
  clear e1
  go_loopw [8] (fun i wr => ∃ k : Nat, k ≤ xs.length ∧ i = .int .i64 k ∧ (∀ j, j < k → sameN (xs.getD j zeroNd) ⟨op, a, b, x⟩ = false) ∧ Below w.heap.size w wr ∧ XN wr w.heap.size ⟨op, a, b, x⟩) (fun i _ => xs.length - (intOf i).toNat)
  case atStart => exact ⟨0, Nat.zero_le _, rfl, fun j hj => by omega, b1.out, x1.out⟩
  case round =>
    obtain ⟨k, hk, rfl, hall, hbel, hxn⟩ := hrel
    have hAll := Lib.hid hall
    have hBe := Lib.hid hbel
    have hXN := Lib.hid hxn
    obtain ⟨m0, m1, m2, m3⟩ := hxn.cells
    clear hall hxn
    by_cases hlt : k < xs.length
    · obtain ⟨b9, o9, rfl, ⟨_, hbB⟩, hc⟩ := (hX.out.below hbel hB) (by omega)
      obtain ⟨c1, c2, c3, c4⟩ := hc k hlt
      have k0 : (0 : Int) ≤ (k : Int) := by omega
      have k1 : (k : Int) < (xs.length : Int) := by omega
      have hg1 := getD_nd hlt
      have hYes := Lib.hid (show sameN xs[k] ⟨op, a, b, x⟩ = true → nidx xs ⟨op, a, b, x⟩ = (k : Int) from fun h => by
        rw [hfi.out]; exact firstI_some hlt (by show sameN (xs.getD k zeroNd) _ = true; rw [hg1]; exact h) hAll.out)
      have hNx := Lib.hid (show sameN xs[k] ⟨op, a, b, x⟩ = false → ∀ j, j < k + 1 → sameN (xs.getD j zeroNd) ⟨op, a, b, x⟩ = false from fun h j hj => by
        by_cases e : j = k
        · subst e; rw [hg1]; exact h
        · exact hAll.out j (by omega))
      clear hc hbel hg1
      generalize xs[k] = z at *
      obtain ⟨op', a', b', x'⟩ := z
      dsimp only at *
      have hEq := fun W => equalIn_nd op op' a b x a' b' x' W
      rw [sameN_comm] at hEq
      cases hs : sameN ⟨op', a', b', x'⟩ ⟨op, a, b, x⟩
      · have hn := Lib.hid (hNx.out hs)
        rw [hs] at hEq
        clear hs hNx hYes
        go_wp2_with (fail)
        go_region
        all_goals go_wp2
        all_goals go_roundw
        case rel => exact ⟨k + 1, by omega, by go_num, hn.out, hBe.out.drew, hXN.out⟩
        case measure => simp [intOf]; omega
      · have hy := Lib.hid (hYes.out hs)
        rw [hs] at hEq
        clear hs hNx hYes
        go_wp2_with (fail)
        go_region
        all_goals go_wp2
        all_goals go_ret
        all_goals exact ⟨by rw [hy.out]; rfl, hBe.out.drew⟩
    · obtain rfl : k = xs.length := by omega
      have hn : Hid (nidx xs ⟨op, a, b, x⟩ = -1) := by rw [Hid, hfi.out]; exact firstI_none hAll.out
      go_wp2
      go_ret
      exact ⟨by rw [hn.out]; rfl, hBe.out⟩

set_option maxHeartbeats 2000000 in
theorem putOnce_any (t : TypeId) (rest : List Value) (q L : Nat) (xs : List Nd) (v : Value) (y : Nd) (w : World) (hx : xs.length < 24) (hL : L ≤ w.heap.size) (hs : GS t rest q L xs false v w) :
    Calls Try.prog 181 #[.pointer (some ⟨q, 0, none⟩), .agg #[.string y.op, .int .i64 y.a, .int .i64 y.b, .int .i64 y.v]] w fun e w' => e = .returned (.int .i64 (po1 xs y).2) ∧ GP t rest q L v w ((po1 xs y).1, false) w' := by
  obtain ⟨AV, cv, rfl⟩ := hs.form
  obtain ⟨W1, hW1⟩ : ∃ W1, W1 = w.alloc (.cells #[.string y.op, .int .i64 y.a, .int .i64 y.b, .int .i64 y.v] 79) := ⟨_, rfl⟩
  have b1 : Hid (Below w.heap.size w W1) := by unfold Hid; rw [hW1]; exact (Below.refl _ _).alloc (Nat.le_refl _) _
  have x1 : Hid (XN W1 w.heap.size y) := by unfold Hid; rw [hW1]; exact xn_new _ y
  have S1 := Lib.hid (hs.next b1.out)
  have hq0 := hs.lt
  have e1 := Lib.hid hW1
  have hIx := Lib.hid fun (W : World) (hW : Below W1.heap.size W1 W) => indexN_any L W.heap.size AV cv xs y W (by omega) ((S1.out.next hW).ok.form Nd.hk |>.elim fun A' h => by
    obtain ⟨c', e, hr⟩ := h
    injection e with e1 e2 e3
    subst e1
    exact hr.ns) (Nat.le_refl _)
  have hPN := Lib.hid fun (W : World) (hW : Below W1.heap.size W1 W) => put_new t rest q L xs (.slice AV xs.length cv) y W hx (by have := hW.size; have := b1.out.size; omega) (S1.out.next hW)
  obtain ⟨m0, m1, m2, m3⟩ := x1.out.cells
  have k0 := S1.out.c0
  clear hW1 hs
  have hYes : Hid (0 ≤ nidx xs y → po1 xs y = (xs, nidx xs y)) := po1_yes
  have hNo : Hid (¬ 0 ≤ nidx xs y → po1 xs y = (xs ++ [y], (xs.length : Int))) := po1_no
  generalize nidx xs y = r at *
  generalize hp : po1 xs y = pr at *
  clear hp
  obtain ⟨pl, pi⟩ := pr
  dsimp only
  obtain ⟨op, a, b, x⟩ := y
  dsimp only at *
  go_enter Try.func181, Try.ntmps181
  go_wp2_with (fail)
  rw [← e1.out]
  clear e1
  go_region_held3 (fun w' => w'.cell? ⟨q, 0, none⟩ = some (.slice AV xs.length cv) ∧ w'.cell? ⟨w.heap.size, 0, none⟩ = some (.string op) ∧ w'.cell? ⟨w.heap.size, 1, none⟩ = some (.int .i64 a) ∧ w'.cell? ⟨w.heap.size, 2, none⟩ = some (.int .i64 b) ∧ w'.cell? ⟨w.heap.size, 3, none⟩ = some (.int .i64 x))
    (first | exact K3 | assumption | go_keep)
    ((go_at_call 201; (first | (with_reducible refine (hIx.out W1.drew (Below.refl _ _).drew).mono ?_) | (with_reducible refine (hIx.out W1 (Below.refl _ _)).mono ?_)); rintro e w3 ⟨rfl, hb3'⟩; have hb3 : Below W1.heap.size W1 w3 := (by first | exact hb3' | exact (Below.refl W1.heap.size W1).drew.trans hb3'); have s3 := GS.next S1.out hb3; have y3 := XN.next x1.out hb3; have K3 := And.intro s3.c0 y3.cells))
  all_goals
    have B3 := Lib.hid (b1.out.trans (hb3.mono b1.out.size))
    have S3 := Lib.hid s3
    have P3 := Lib.hid (hPN.out w3 hb3)
    clear K3 hb3 hb3' s3 m0 m1 m2 m3 k0
    obtain ⟨m0, m1, m2, m3⟩ := y3.cells
    clear y3
    by_cases hr : 0 ≤ r
    · have hE := Lib.hid (hYes.out hr)
      go_wp2
      go_ret
      have h1 := congrArg Prod.fst hE.out
      have h2 := congrArg Prod.snd hE.out
      dsimp only at h1 h2
      subst h1; subst h2
      exact ⟨rfl, _, S3.out, Fr.ofBelow B3.out, fun j hj => .inl hj⟩
    · have hE := Lib.hid (hNo.out (by omega))
      go_wp2_with (fail)
      (with_reducible refine P3.out.mono ?_)
      rintro e w4 ⟨rfl, h4⟩
      have H4 := Lib.hid (GP.trans (Fr.ofBelow B3.out) (fun j hj => .inl hj) h4)
      clear h4
      go_wp2
      go_ret
      have h1 := congrArg Prod.fst hE.out
      have h2 := congrArg Prod.snd hE.out
      dsimp only at h1 h2
      subst h1; subst h2
      exact ⟨rfl, H4.out⟩
end Go.Proofs.Ythjfedidpjfboaa
