/- Texts of this proof, one behind the other: UC, UD, UE, UG, UH, WJ. -/
import Derived.Test.YtmhdijklindipaaZ8
import Derived.Test.YtmhdijklindipaaZ3
import Derived.WalkKit
import Derived.WalkSpells
import Derived.WalkLawsBesides
import Derived.Deep.RegionHeld3
import Derived.Lib.Hide
import Derived.Test.YtmhdijklindipaaZ7
import Derived.Deep.RegionLaw
import Derived.Test.YtmhdijklindipaaZ11
/- ShareExpr: the program. -/
namespace Go.Proofs.Ytmhdijklindipaa
open Go.RowKit
set_option linter.unusedVariables false
set_option maxRecDepth 100000

set_option maxHeartbeats 1000000 in
theorem indexN_any (L B : Nat) (A : Option Addr) (c : Nat) (xs : List Nd) (y : Nd) (w : World) (hl : xs.length ≤ 1048576) (hx : NS w L B A xs) (hB : B ≤ w.heap.size) :
    Calls Try.prog 283 #[.slice A xs.length c, .agg #[.string y.op, .int .i64 y.a, .int .i64 y.b, .int .i64 y.v]] w fun e w' => e = .returned (.int .i64 (nidx xs y)) ∧ Below w.heap.size w w' := by
  have hX := Lib.hid hx
  have hgd := nd_guard
  clear hx
  obtain ⟨op, a, b, x⟩ := y
  dsimp only
  obtain ⟨W1, hW1⟩ : ∃ W1, W1 = w.alloc (.cells #[.string op, .int .i64 a, .int .i64 b, .int .i64 x] 40) := ⟨_, rfl⟩
  have b1 : Hid (Below w.heap.size w W1) := by unfold Hid; rw [hW1]; exact (Below.refl _ _).alloc (Nat.le_refl _) _
  have x1 : Hid (XN W1 w.heap.size ⟨op, a, b, x⟩) := by unfold Hid; rw [hW1]; exact xn_new _ ⟨op, a, b, x⟩
  have e1 := Lib.hid hW1
  have hfi : Hid (nidx xs ⟨op, a, b, x⟩ = firstI (fun k => sameN (xs.getD k zeroNd) ⟨op, a, b, x⟩) xs.length) := rfl
  clear hW1
  go_enter Try.func283, Try.ntmps283
  go_wp2
  rw [← e1.out]
  clear e1
  go_loopw [8] (fun i wr => ∃ k : Nat, k ≤ xs.length ∧ i = .int .i64 k ∧ (∀ j, j < k → sameN (xs.getD j zeroNd) ⟨op, a, b, x⟩ = false) ∧ Below w.heap.size w wr ∧ XN wr w.heap.size ⟨op, a, b, x⟩) (fun i _ => xs.length - (intOf i).toNat)
  case atStart => exact ⟨0, Nat.zero_le _, rfl, fun j hj => by omega, b1.out, x1.out⟩
  case round =>
    obtain ⟨k, hk, rfl, hall, hbel, hxn⟩ := hrel
    have hAll := Lib.hid hall
    have hBe := Lib.hid hbel
    have hXN := Lib.hid hxn
    obtain ⟨m0, m1, m2, m3⟩ := hxn.cells
    clear hall hxn
    by_cases hlt : k < xs.length
    · obtain ⟨b9, o9, rfl, ⟨_, hbB⟩, hc⟩ := (hX.out.below hbel hB) (by omega)
      obtain ⟨c1, c2, c3, c4⟩ := hc k hlt
      have k0 : (0 : Int) ≤ (k : Int) := by omega
      have k1 : (k : Int) < (xs.length : Int) := by omega
      have hg1 := getD_nd hlt
      have hYes := Lib.hid (show sameN xs[k] ⟨op, a, b, x⟩ = true → nidx xs ⟨op, a, b, x⟩ = (k : Int) from fun h => by
        rw [hfi.out]; exact firstI_some hlt (by show sameN (xs.getD k zeroNd) _ = true; rw [hg1]; exact h) hAll.out)
      have hNx := Lib.hid (show sameN xs[k] ⟨op, a, b, x⟩ = false → ∀ j, j < k + 1 → sameN (xs.getD j zeroNd) ⟨op, a, b, x⟩ = false from fun h j hj => by
        by_cases e : j = k
        · subst e; rw [hg1]; exact h
        · exact hAll.out j (by omega))
      clear hc hbel hg1
      generalize xs[k] = z at *
      obtain ⟨op', a', b', x'⟩ := z
      dsimp only at *
      have hEq := fun W => equalIn_nd op op' a b x a' b' x' W
      rw [sameN_comm] at hEq
      cases hs : sameN ⟨op', a', b', x'⟩ ⟨op, a, b, x⟩
      · have hn := Lib.hid (hNx.out hs)
        rw [hs] at hEq
        clear hs hNx hYes
        go_wp2_with (fail)
        go_region
        all_goals go_wp2
        all_goals go_roundw
        case rel => exact ⟨k + 1, by omega, by go_num, hn.out, hBe.out.drew, hXN.out⟩
        case measure => simp [intOf]; omega
      · have hy := Lib.hid (hYes.out hs)
        rw [hs] at hEq
        clear hs hNx hYes
        go_wp2_with (fail)
        go_region
        all_goals go_wp2
        all_goals go_ret
        all_goals exact ⟨by rw [hy.out]; rfl, hBe.out.drew⟩
    · obtain rfl : k = xs.length := by omega
      have hn : Hid (nidx xs ⟨op, a, b, x⟩ = -1) := by rw [Hid, hfi.out]; exact firstI_none hAll.out
      go_wp2
      go_ret
      exact ⟨by rw [hn.out]; rfl, hBe.out⟩

set_option maxHeartbeats 2000000 in
theorem putOnce_any (t : TypeId) (rest : List Value) (q L : Nat) (xs : List Nd) (v : Value) (y : Nd) (w : World) (hx : xs.length < 24) (hL : L ≤ w.heap.size) (hs : GS t rest q L xs false v w) :
    Calls Try.prog 268 #[.pointer (some ⟨q, 0, none⟩), .agg #[.string y.op, .int .i64 y.a, .int .i64 y.b, .int .i64 y.v]] w fun e w' => e = .returned (.int .i64 (po1 xs y).2) ∧ GP t rest q L v w ((po1 xs y).1, false) w' := by
  obtain ⟨AV, cv, rfl⟩ := hs.form
  obtain ⟨W1, hW1⟩ : ∃ W1, W1 = w.alloc (.cells #[.string y.op, .int .i64 y.a, .int .i64 y.b, .int .i64 y.v] 40) := ⟨_, rfl⟩
  have b1 : Hid (Below w.heap.size w W1) := by unfold Hid; rw [hW1]; exact (Below.refl _ _).alloc (Nat.le_refl _) _
  have x1 : Hid (XN W1 w.heap.size y) := by unfold Hid; rw [hW1]; exact xn_new _ y
  have S1 := Lib.hid (hs.next b1.out)
  have hq0 := hs.lt
  have e1 := Lib.hid hW1
  have hIx := Lib.hid fun (W : World) (hW : Below W1.heap.size W1 W) => indexN_any L W.heap.size AV cv xs y W (by omega) ((S1.out.next hW).ok.form Nd.hk |>.elim fun A' h => by
    obtain ⟨c', e, hr⟩ := h
    injection e with e1 e2 e3
    subst e1
    exact hr.ns) (Nat.le_refl _)
  have hPN := Lib.hid fun (W : World) (hW : Below W1.heap.size W1 W) => put_new t rest q L xs (.slice AV xs.length cv) y W hx (by have := hW.size; have := b1.out.size; omega) (S1.out.next hW)
  obtain ⟨m0, m1, m2, m3⟩ := x1.out.cells
  have k0 := S1.out.c0
  clear hW1 hs
  have hYes : Hid (0 ≤ nidx xs y → po1 xs y = (xs, nidx xs y)) := po1_yes
  have hNo : Hid (¬ 0 ≤ nidx xs y → po1 xs y = (xs ++ [y], (xs.length : Int))) := po1_no
  generalize nidx xs y = r at *
  generalize hp : po1 xs y = pr at *
  clear hp
  obtain ⟨pl, pi⟩ := pr
  dsimp only
  obtain ⟨op, a, b, x⟩ := y
  dsimp only at *
  go_enter Try.func268, Try.ntmps268
  go_wp2_with (fail)
  rw [← e1.out]
  clear e1
  go_region_held3 (fun w' => w'.cell? ⟨q, 0, none⟩ = some (.slice AV xs.length cv) ∧ w'.cell? ⟨w.heap.size, 0, none⟩ = some (.string op) ∧ w'.cell? ⟨w.heap.size, 1, none⟩ = some (.int .i64 a) ∧ w'.cell? ⟨w.heap.size, 2, none⟩ = some (.int .i64 b) ∧ w'.cell? ⟨w.heap.size, 3, none⟩ = some (.int .i64 x))
    (first | exact K3 | assumption | go_keep)
    ((go_at_call 283; (first | (with_reducible refine (hIx.out W1.drew (Below.refl _ _).drew).mono ?_) | (with_reducible refine (hIx.out W1 (Below.refl _ _)).mono ?_)); rintro e w3 ⟨rfl, hb3'⟩; have hb3 : Below W1.heap.size W1 w3 := (by first | exact hb3' | exact (Below.refl W1.heap.size W1).drew.trans hb3'); have s3 := GS.next S1.out hb3; have y3 := XN.next x1.out hb3; have K3 := And.intro s3.c0 y3.cells))
  all_goals
    have B3 := Lib.hid (b1.out.trans (hb3.mono b1.out.size))
    have S3 := Lib.hid s3
    have P3 := Lib.hid (hPN.out w3 hb3)
    clear K3 hb3 hb3' s3 m0 m1 m2 m3 k0
    obtain ⟨m0, m1, m2, m3⟩ := y3.cells
    clear y3
    by_cases hr : 0 ≤ r
    · have hE := Lib.hid (hYes.out hr)
      go_wp2
      go_ret
      have h1 := congrArg Prod.fst hE.out
      have h2 := congrArg Prod.snd hE.out
      dsimp only at h1 h2
      subst h1; subst h2
      exact ⟨rfl, _, S3.out, Fr.ofBelow B3.out, fun j hj => .inl hj⟩
    · have hE := Lib.hid (hNo.out (by omega))
      go_wp2_with (fail)
      (with_reducible refine P3.out.mono ?_)
      rintro e w4 ⟨rfl, h4⟩
      have H4 := Lib.hid (GP.trans (Fr.ofBelow B3.out) (fun j hj => .inl hj) h4)
      clear h4
      go_wp2
      go_ret
      have h1 := congrArg Prod.fst hE.out
      have h2 := congrArg Prod.snd hE.out
      dsimp only at h1 h2
      subst h1; subst h2
      exact ⟨rfl, H4.out⟩
end Go.Proofs.Ytmhdijklindipaa

/- ShareExpr: the program's walk. -/
namespace Go.Proofs.Ytmhdijklindipaa
open Go.RowKit
set_option linter.unusedVariables false
set_option maxRecDepth 100000

theorem GS.c3 {t : TypeId} {rest : List Value} {q L : Nat} {xs : List Nd} {fl : Bool} {v u1 u2 : Value} {w : World} (h : GS t (u1 :: u2 :: rest) q L xs fl v w) : w.cell? ⟨q, 3, none⟩ = some u2 := by
  have := h.1; simp [World.cell?, this]
theorem GS.c4 {t : TypeId} {rest : List Value} {q L : Nat} {xs : List Nd} {fl : Bool} {v u1 u2 u3 : Value} {w : World} (h : GS t (u1 :: u2 :: u3 :: rest) q L xs fl v w) : w.cell? ⟨q, 4, none⟩ = some u3 := by
  have := h.1; simp [World.cell?, this]
/-- The state of the walk that shares. -/
def ShSt (E : Value) (n q g h L : Nat) (s : List Nd × List Int) (v : Value) (w : World) : Prop :=
  GS 211 [E, .slice (some ⟨g, 0, none⟩) n n, .slice (some ⟨h, 0, none⟩) n n] q L s.1 false v w ∧ IB w g 3 (plOf s.2) ∧ BB w h (seenOf s.2)
def ShK (q g h : Nat) (j : Nat) : Prop := j = q ∨ j = g ∨ j = h
theorem ShOk (E : Value) (n q g h L : Nat) : StOk (ShK q g h) L (ShSt E n q g h L) where
  lt := fun s v w hs j hj => by rcases hj with rfl | rfl | rfl; exact hs.1.lt; exact hs.2.1.lt; exact hs.2.2.lt
  own := fun s v w hs => hs.1.own
  keep := fun s v w w' hs hk hr => ⟨hs.1.keep (hk q (.inl rfl)) hr, (hk g (.inr (.inl rfl))).trans hs.2.1, (hk h (.inr (.inr rfl))).trans hs.2.2⟩

theorem shareWalk_enters (args : Array Value) (W : World) : Sem.run Try.prog (callFunc 250 args) W = .ok (.enter 250 args) W := by rfl

set_option maxHeartbeats 8000000 in
theorem shareWalk_any (L0 B q g h L C : Nat) (A : Option Addr) (c : Nat) (es : List Nd) (w0 : World) (hl : es.length ≤ 24) (hok : okFrom es 0 = true) (hes : NS w0 L0 B A es) (hBC : B ≤ C) (hC : C ≤ w0.heap.size) (hCq : C ≤ q) (hCg : C ≤ g) (hCh : C ≤ h) (hCL : C ≤ L) (hL : L ≤ w0.heap.size) (hqg : q ≠ g) (hqh : q ≠ h) (hgh : g ≠ h) (hgL : g < L) (hhL : h < L) (hqL : q < L) :
    ∀ (F i : Nat) (s : List Nd × List Int) (v : Value) (W : World), i < F → i < es.length → InvO es.length s → Below C w0 W → ShSt (.slice A es.length c) es.length q g h L s v W →
    Calls Try.prog 250 #[.pointer (some ⟨q, 0, none⟩), .int .i64 i] W fun e w' => e = .returned (.int .i64 (on es F i s).2) ∧ SP (ShK q g h) (ShSt (.slice A es.length c) es.length q g h L) v W (on es F i s).1 w' := by
  intro F
  induction F with
  | zero => intro i s v W hi; omega
  | succ F ih =>
    intro i s v W hi hie hI hb hs
    have hnd := ok_get hok hie
    obtain ⟨b, o, hA, ⟨_, hbB⟩, hcc⟩ := (hes.below hb hBC) (by omega)
    obtain ⟨c1, c2, c3, c4⟩ := hcc i hie
    subst hA
    have k0 : (0 : Int) ≤ (i : Int) := by omega
    have k1 : (i : Int) < (es.length : Int) := by omega
    have hbs := hb.size
    have hbC : b < C := by omega
    have hq3 := hs.1.c3
    have hq4 := hs.1.c4
    have hdl : i < s.2.length := by rw [hI.1]; exact hie
    have hsn := hs.2.2.cell i (by unfold seenOf; rw [List.length_map]; exact hdl)
    rw [seenOf_get hdl] at hsn
    by_cases h0 : 0 ≤ s.2.getD i 0
    · have e : on es (F + 1) i s = (s, s.2.getD i 0) := by rw [on, if_pos h0]
      rw [e]
      rw [decide_eq_true h0] at hsn
      have hpc := hs.2.1.cell i (by unfold plOf; rw [List.length_map]; exact hdl)
      have hpg : (plOf s.2)[i]'(by unfold plOf; rw [List.length_map]; exact hdl) = s.2.getD i 0 := by
        rw [← plOf_get h0 hdl, List.getD_eq_getElem?_getD, List.getElem?_eq_getElem (by unfold plOf; rw [List.length_map]; exact hdl)]; rfl
      rw [hpg] at hpc
      have HS := Lib.hid hs
      clear ih hes hcc hs hpg e c1 c2 c3 c4
      dsimp only
      generalize s.2.getD i 0 = d at *
      go_enter Try.func250, Try.ntmps250
      go_wp2
      go_ret
      exact ⟨rfl, v, HS.out, FrK.refl _ _ _, fun j hj => .inl hj⟩
    · rw [decide_eq_false h0] at hsn
      have hge := getD_nd hie
      have hE : on es (F + 1) i s = (((po1 (woG (on es F) es[i] s).1.1 (woG (on es F) es[i] s).2).1, (woG (on es F) es[i] s).1.2.set i (po1 (woG (on es F) es[i] s).1.1 (woG (on es F) es[i] s).2).2), (po1 (woG (on es F) es[i] s).1.1 (woG (on es F) es[i] s).2).2) := by rw [on, if_neg h0, hge]
      rw [hE]
      obtain ⟨r1, r2⟩ := (on_inv hok (F + 1) i s hi hie hI).2.2.2 (by omega) F rfl
      rw [hge] at r1 r2
      have r24 : (woG (on es F) es[i] s).1.1.length < 24 := by
        have h7 := r1.2
        have h8 := cntD_lt (by rw [r1.1]; exact hie) r2
        have h9 := r1.1
        omega
      have hri := po1_idx (woG (on es F) es[i] s).1.1 (woG (on es F) es[i] s).2
      have hWO := Lib.hid fun (W' : World) (hW : Below W.heap.size W W') => withOperands_abs 250 (on es F) (InvO es.length) (ShK q g h) L C i q (ShSt (.slice (some ⟨b, o, none⟩) es.length c) es.length q g h L) (ShOk _ _ _ _ _ _) es[i] s v w0 W' hnd hC (by rintro j (rfl | rfl | rfl) <;> assumption) hCL (hb.trans (hW.mono (by omega))) ((ShOk _ _ _ _ _ _).next hs hW) hI shareWalk_enters (fun a s' ha hi' => (on_inv hok F a s' (by omega) (by omega) hi').1) (fun a s' v' W1 ha hi' hb1 hs1 => ih a s' v' W1 (by omega) (by omega) hi' hb1 hs1)
      have hnode := Lib.hid fun (W3 : World) (h3 : Below C w0 W3) => (show W3.cell? ⟨b, o + i * 4, none⟩ = W.cell? ⟨b, o + i * 4, none⟩ ∧ W3.cell? ⟨b, o + i * 4 + 1, none⟩ = W.cell? ⟨b, o + i * 4 + 1, none⟩ ∧ W3.cell? ⟨b, o + i * 4 + 2, none⟩ = W.cell? ⟨b, o + i * 4 + 2, none⟩ ∧ W3.cell? ⟨b, o + i * 4 + 3, none⟩ = W.cell? ⟨b, o + i * 4 + 3, none⟩ from
        ⟨(h3.cell (p := ⟨b, _, none⟩) hbC).trans (hb.cell (p := ⟨b, _, none⟩) hbC).symm, (h3.cell (p := ⟨b, _, none⟩) hbC).trans (hb.cell (p := ⟨b, _, none⟩) hbC).symm, (h3.cell (p := ⟨b, _, none⟩) hbC).trans (hb.cell (p := ⟨b, _, none⟩) hbC).symm, (h3.cell (p := ⟨b, _, none⟩) hbC).trans (hb.cell (p := ⟨b, _, none⟩) hbC).symm⟩)
      have hfar := Lib.hid fun (W3 : World) (f3 : FrK (ShK q g h) v.ownBlock W W3) => (hb.trans (f3.below (B := C) (by omega) (by rintro j (rfl | rfl | rfl) <;> assumption) (fun j hj => Nat.le_trans hCL (hs.1.own j hj).1)) : Below C w0 W3)
      have hq2 := hs.1.c2
      have r1l := r1.1
      clear ih hcc hE hes hI r1 hge
      generalize woG (on es F) es[i] s = r at *
      obtain ⟨⟨xs3, ds3⟩, y3⟩ := r
      dsimp only at *
      have hPO := Lib.hid fun (v3 : Value) (W3 : World) (hz : L ≤ W3.heap.size) (h3 : GS 211 [.slice (some ⟨b, o, none⟩) es.length c, .slice (some ⟨g, 0, none⟩) es.length es.length, .slice (some ⟨h, 0, none⟩) es.length es.length] q L xs3 false v3 W3) => putOnce_any 211 _ q L xs3 v3 y3 W3 r24 hz h3
      generalize po1 xs3 y3 = pr at *
      obtain ⟨xs4, x4⟩ := pr
      dsimp only at *
      obtain ⟨op3, a3, b3, v3'⟩ := y3
      dsimp only at *
      generalize es[i] = nd at *
      obtain ⟨op, a, bb, x⟩ := nd
      dsimp only at *
      have hx4 := hri.1
      have hplS := Lib.hid (plOf_set ds3 i hx4)
      have hseS := Lib.hid (seenOf_set ds3 i hx4)
      have hpll : (plOf ds3).length = es.length := by unfold plOf; rw [List.length_map]; exact r1l
      have hsel : (seenOf ds3).length = es.length := by unfold seenOf; rw [List.length_map]; exact r1l
      clear hs hri
      go_enter Try.func250, Try.ntmps250
      go_wp2_with (fail)
      go_region_held3 (fun w' => w'.cell? ⟨q, 2, none⟩ = some (.slice (some ⟨b, o, none⟩) es.length c) ∧ w'.cell? ⟨q, 3, none⟩ = some (.slice (some ⟨g, 0, none⟩) es.length es.length) ∧ w'.cell? ⟨b, o + i * 4, none⟩ = some (.string op) ∧ w'.cell? ⟨b, o + i * 4 + 1, none⟩ = some (.int .i64 a) ∧ w'.cell? ⟨b, o + i * 4 + 2, none⟩ = some (.int .i64 bb) ∧ w'.cell? ⟨b, o + i * 4 + 3, none⟩ = some (.int .i64 x))
        (first | exact K5 | exact K4 | exact K3 | assumption | go_keep)
        (first
          | (go_at_call 253; (first | (with_reducible refine (hWO.out W.drew (Below.refl _ _).drew).mono ?_) | (with_reducible refine (hWO.out W (Below.refl _ _)).mono ?_)); rintro e w3 ⟨rfl, v3, ⟨s31, s32, s33⟩, f3', o3⟩; have f3 : FrK (ShK q g h) v.ownBlock W w3 := (by first | exact f3' | exact (FrK.refl _ _ W).drew.trans f3' (fun j hj => .inl hj)); have o3' : ∀ j, v3.ownBlock = some j → v.ownBlock = some j ∨ W.heap.size ≤ j := o3; have hz3 := f3.size; obtain ⟨n0, n1, n2, n3⟩ := hnode.out w3 (hfar.out w3 f3); have K3 := And.intro s31.c2 (And.intro s31.c3 (And.intro (n0.trans c1) (And.intro (n1.trans c2) (And.intro (n2.trans c3) (n3.trans c4))))))
          | (go_at_call 268; (with_reducible refine (hPO.out v3 _ (by omega) s31).mono ?_); rintro e w4 ⟨rfl, v4, g4, f4', o4⟩; have f4 : Fr q v3.ownBlock w3 w4 := f4'; have hvg : v3.ownBlock ≠ some g := (fun e => by have := (s31.own _ e).1; omega); have hvh : v3.ownBlock ≠ some h := (fun e => by have := (s31.own _ e).1; omega); have i4 : IB w4 g 3 (plOf ds3) := (f4.block g s32.lt (Ne.symm hqg) hvg).trans s32; have j4 : BB w4 h (seenOf ds3) := (f4.block h s33.lt (Ne.symm hqh) hvh).trans s33; have hv4g : v4.ownBlock ≠ some g := (fun e => by have := (g4.own _ e).1; omega); have hv4h : v4.ownBlock ≠ some h := (fun e => by have := (g4.own _ e).1; omega); have f44 := f3.trans (FrK.ofFr (K := ShK q g h) f4 (.inl rfl)) o3'; obtain ⟨l0, l1, l2, l3⟩ := hnode.out w4 (hfar.out w4 f44); have K4 := And.intro g4.c2 (And.intro g4.c3 (And.intro (l0.trans c1) (And.intro (l1.trans c2) (And.intro (l2.trans c3) (l3.trans c4))))); have s1' := i4.cell i (by omega); have s2' := i4.frozen i; have g5 := g4.other (p := ⟨g, i, none⟩) (Ne.symm hqg) hv4g (.int .i64 x4); have i5 := i4.set i x4; have j5 := j4.other (q := g) i (.int .i64 x4) hgh; have f5 := f44.set (p := ⟨g, i, none⟩) (.inr (.inl rfl)) (.int .i64 x4); obtain ⟨r0, r1', r2', r3'⟩ := hnode.out _ (hfar.out _ f5); have K5 := And.intro g5.c2 (And.intro g5.c3 (And.intro (r0.trans c1) (And.intro (r1'.trans c2) (And.intro (r2'.trans c3) (r3'.trans c4)))))))
      all_goals
        have G5 := Lib.hid g5
        have I5 := Lib.hid i5
        have J5 := Lib.hid j5
        have F5 := Lib.hid f5
        have HV := Lib.hid hv4h
        have O4 : Hid (∀ j, v4.ownBlock = some j → v.ownBlock = some j ∨ W.heap.size ≤ j) := fun j hj => by
          rcases o4 j hj with e | e
          · exact o3' j e
          · exact .inr (Nat.le_trans hz3 e)
        clear g5 i5 j5 f5 f44 hv4g hv4h hvg hvh i4 j4 s1' s2' K3 K4 K5 n0 n1 n2 n3 l0 l1 l2 l3 r0 r1' r2' r3' g4 f4' f4 o4 s31 s32 s33 f3 f3' o3 o3' c1 c2 c3 c4 hq2 hq3 hq4 hsn
        generalize w4.setCell ⟨g, i, none⟩ (.int .i64 x4) = W5 at *
        have q4 := G5.out.c4
        have t1 := J5.out.cell i (by rw [hsel]; exact hie)
        have t2 := J5.out.frozen i
        have g6 := G5.out.other (p := ⟨h, i, none⟩) (Ne.symm hqh) HV.out (.bool true)
        have i6 : IB (W5.setCell ⟨h, i, none⟩ (.bool true)) g 3 ((plOf ds3).set i x4) := (Below.heap_setCell W5 ⟨h, i, none⟩ (.bool true) g (by simpa using hgh)).trans I5.out
        have j6 := J5.out.set i true
        have G6 := Lib.hid g6
        have I6 := Lib.hid i6
        have J6 := Lib.hid j6
        have q3' := g6.c3
        have u1 := i6.cell i (by rw [List.length_set, hpll]; exact hie)
        rw [List.getElem_set_self] at u1
        clear g6 i6 j6
        go_wp2
        go_ret
        refine ⟨rfl, v4, ⟨G6.out, ?_, ?_⟩, F5.out.set (p := ⟨h, i, none⟩) (.inr (.inr rfl)) _, O4.out⟩
        · rw [← hplS.out]; exact I6.out
        · rw [← hseS.out]; exact J6.out
end Go.Proofs.Ytmhdijklindipaa

/- ShareExpr: the program. -/
namespace Go.Proofs.Ytmhdijklindipaa
open Go.RowKit
set_option linter.unusedVariables false
set_option maxRecDepth 100000

theorem pl_start (n : Nat) : plOf (List.replicate n (-1)) = zeros n := by unfold plOf zeros; rw [List.map_replicate]; rfl
theorem seen_start (n : Nat) : seenOf (List.replicate n (-1)) = List.replicate n false := by unfold seenOf; rw [List.map_replicate]; rfl

set_option maxHeartbeats 2000000 in
theorem share_tail (L B q g h : Nat) (A : Option Addr) (c m : Nat) (es : List Nd) (w W3 : World) (hl24 : es.length ≤ 24) (hm : es.length = m + 1) (hg : good es = true) (hes : NS w L B A es) (hB : B ≤ w.heap.size) (hb : Below w.heap.size w W3) (hq : w.heap.size ≤ q) (hgw : w.heap.size ≤ g) (hhw : w.heap.size ≤ h) (hqg : q ≠ g) (hqh : q ≠ h) (hgh : g ≠ h) (hgl : g < W3.heap.size) (hhl : h < W3.heap.size)
    (hx : W3.heap[q]? = some (.cells #[.slice none 0 0, .bool false, .slice A es.length c, .slice (some ⟨g, 0, none⟩) es.length es.length, .slice (some ⟨h, 0, none⟩) es.length es.length] 211 (0, 0))) (hi : IB W3 g 3 (zeros es.length)) (hj : BB W3 h (List.replicate es.length false)) :
    Calls Try.prog 250 #[.pointer (some ⟨q, 0, none⟩), .int .i64 m] W3 fun e w' => (∃ r : Int, e = .returned (.int .i64 r)) ∧ Below w.heap.size w w' ∧ ∃ v', GS 211 [.slice A es.length c, .slice (some ⟨g, 0, none⟩) es.length es.length, .slice (some ⟨h, 0, none⟩) es.length es.length] q W3.heap.size (shareR es) false v' w' := by
  obtain ⟨hl1, _, hok⟩ := good_len hg
  have hql : q < W3.heap.size := by
    rcases Nat.lt_or_ge q W3.heap.size with h9 | h9
    · exact h9
    · rw [Array.getElem?_eq_none h9] at hx; cases hx
  have hS : ShSt (.slice A es.length c) es.length q g h W3.heap.size ([], List.replicate es.length (-1)) (.slice none 0 0) W3 := by
    refine ⟨⟨hx, World.ownsRow_nil _ _ _ _, fun e => by simp [Value.ownBlock] at e⟩, ?_, ?_⟩
    · rw [pl_start]; exact hi
    · rw [seen_start]; exact hj
  have hW := shareWalk_any L B q g h W3.heap.size w.heap.size A c es W3 hl24 hok (hes.below hb hB) hB hb.size hq hgw hhw (by omega) (Nat.le_refl _) hqg hqh hgh hgl hhl hql es.length m ([], List.replicate es.length (-1)) (.slice none 0 0) W3 (by omega) (by omega) (inv_start _) (Below.mono (Below.refl W3.heap.size W3) hb.size) hS
  refine hW.mono ?_
  rintro e w' ⟨rfl, v', ⟨s1, s2, s3⟩, f, o⟩
  refine ⟨⟨_, rfl⟩, hb.trans (f.below hb.size (by rintro j (rfl | rfl | rfl) <;> assumption) (fun j hj => by simp [Value.ownBlock] at hj)), v', ?_⟩
  have : shareR es = (on es es.length m ([], List.replicate es.length (-1))).1.1 := by unfold shareR shareL; rw [if_pos hg, show es.length - 1 = m by omega]
  rw [this]; exact s1

theorem three_alloc (w : World) (o1 o2 o3 : Obj) : ((((w.alloc o1).alloc o2).alloc o3).drew.heap[w.heap.size]? = some o1 ∧ (((w.alloc o1).alloc o2).alloc o3).drew.heap[w.heap.size + 1]? = some o2 ∧ (((w.alloc o1).alloc o2).alloc o3).drew.heap[w.heap.size + 1 + 1]? = some o3) ∧ Below w.heap.size w (((w.alloc o1).alloc o2).alloc o3).drew ∧ (((w.alloc o1).alloc o2).alloc o3).drew.heap.size = w.heap.size + 3 := by
  have z1 : (w.alloc o1).heap.size = w.heap.size + 1 := by simp
  have z2 : ((w.alloc o1).alloc o2).heap.size = w.heap.size + 1 + 1 := by simp
  have b1 := (Below.refl w.heap.size w).alloc (Nat.le_refl _) o1
  have b2 := (Below.refl (w.alloc o1).heap.size (w.alloc o1)).alloc (Nat.le_refl _) o2
  have b3 := (Below.refl ((w.alloc o1).alloc o2).heap.size ((w.alloc o1).alloc o2)).alloc (Nat.le_refl _) o3
  refine ⟨⟨?_, ?_, ?_⟩, ?_, by simp⟩
  · exact (b3.block _ (by omega)).trans ((b2.block _ (by omega)).trans (heap_alloc_new w o1))
  · have h := heap_alloc_new (w.alloc o1) o2
    rw [z1] at h
    exact (b3.block _ (by omega)).trans h
  · have h := heap_alloc_new ((w.alloc o1).alloc o2) o3
    rw [z2] at h
    exact h
  · exact ((b1.trans (b2.mono (by omega))).trans (b3.mono (by omega))).drew

set_option maxHeartbeats 4000000 in
theorem shareExpr_any (L B : Nat) (A : Option Addr) (c m : Nat) (es : List Nd) (w : World) (hm : es.length = m + 1) (hg : good es = true) (hes : NS w L B A es) (hB : B ≤ w.heap.size) :
    Calls Try.prog 204 #[.slice A es.length c, .int .i64 (m : Int)] w (ResShareExpr (shareR es) true w) := by
  obtain ⟨hl1, hl24, hok⟩ := good_len hg
  have hl : es.length ≤ 1048576 := by omega
  have hE := Lib.hid hes
  have hG := Lib.hid hg
  have hM := Lib.hid hm
  have hb2 := Lib.hid (Below.refl w.heap.size w)
  clear hg hes hok hm
  have hmi := run_make_ints es.length hl
  have hmb := run_make_bools es.length hl
  go_enter Try.func204, Try.ntmps204
  go_wp2_with (fail)
  go_region
  all_goals go_wp2_with (fail)
  all_goals
    have zb := hb2.out.size
    first
    | (have T := three_alloc w (.cells #[.slice none 0 0, .bool false, .slice A es.length c, .slice (some ⟨w.heap.size + 1, 0, none⟩) es.length es.length, .slice (some ⟨w.heap.size + 1 + 1, 0, none⟩) es.length es.length] 211) (.cells (intCells (zeros es.length)) 3) (.cells (boolCells (List.replicate es.length false)) 4)
       have hi9 := (show IB _ (w.heap.size + 1) 3 (zeros es.length) from T.1.2.1)
       have hj9 := (show BB _ (w.heap.size + 1 + 1) (List.replicate es.length false) from T.1.2.2)
       (with_reducible refine (share_tail L B w.heap.size (w.heap.size + 1) (w.heap.size + 1 + 1) A c m es w _ hl24 hM.out hG.out hE.out hB (hb2.out.trans (T.2.1.mono zb)) (by omega) (by omega) (by omega) (by omega) (by omega) (by omega) (by rw [T.2.2]; omega) (by rw [T.2.2]; omega) T.1.1 hi9 hj9).mono ?_))
    | (have T := three_alloc w (.cells #[.slice none 0 0, .bool false, .slice A es.length c, .slice (some ⟨w.heap.size + 1 + 1, 0, none⟩) es.length es.length, .slice (some ⟨w.heap.size + 1, 0, none⟩) es.length es.length] 211) (.cells (boolCells (List.replicate es.length false)) 4) (.cells (intCells (zeros es.length)) 3)
       have hi9 := (show IB _ (w.heap.size + 1 + 1) 3 (zeros es.length) from T.1.2.2)
       have hj9 := (show BB _ (w.heap.size + 1) (List.replicate es.length false) from T.1.2.1)
       (with_reducible refine (share_tail L B w.heap.size (w.heap.size + 1 + 1) (w.heap.size + 1) A c m es w _ hl24 hM.out hG.out hE.out hB (hb2.out.trans (T.2.1.mono zb)) (by omega) (by omega) (by omega) (by omega) (by omega) (by omega) (by rw [T.2.2]; omega) (by rw [T.2.2]; omega) T.1.1 hi9 hj9).mono ?_))
    | (have T := three_alloc w (.cells (intCells (zeros es.length)) 3) (.cells #[.slice none 0 0, .bool false, .slice A es.length c, .slice (some ⟨w.heap.size, 0, none⟩) es.length es.length, .slice (some ⟨w.heap.size + 1 + 1, 0, none⟩) es.length es.length] 211) (.cells (boolCells (List.replicate es.length false)) 4)
       have hi9 := (show IB _ w.heap.size 3 (zeros es.length) from T.1.1)
       have hj9 := (show BB _ (w.heap.size + 1 + 1) (List.replicate es.length false) from T.1.2.2)
       (with_reducible refine (share_tail L B (w.heap.size + 1) w.heap.size (w.heap.size + 1 + 1) A c m es w _ hl24 hM.out hG.out hE.out hB (hb2.out.trans (T.2.1.mono zb)) (by omega) (by omega) (by omega) (by omega) (by omega) (by omega) (by rw [T.2.2]; omega) (by rw [T.2.2]; omega) T.1.2.1 hi9 hj9).mono ?_))
    | (have T := three_alloc w (.cells (boolCells (List.replicate es.length false)) 4) (.cells #[.slice none 0 0, .bool false, .slice A es.length c, .slice (some ⟨w.heap.size + 1 + 1, 0, none⟩) es.length es.length, .slice (some ⟨w.heap.size, 0, none⟩) es.length es.length] 211) (.cells (intCells (zeros es.length)) 3)
       have hi9 := (show IB _ (w.heap.size + 1 + 1) 3 (zeros es.length) from T.1.2.2)
       have hj9 := (show BB _ w.heap.size (List.replicate es.length false) from T.1.1)
       (with_reducible refine (share_tail L B (w.heap.size + 1) (w.heap.size + 1 + 1) w.heap.size A c m es w _ hl24 hM.out hG.out hE.out hB (hb2.out.trans (T.2.1.mono zb)) (by omega) (by omega) (by omega) (by omega) (by omega) (by omega) (by rw [T.2.2]; omega) (by rw [T.2.2]; omega) T.1.2.1 hi9 hj9).mono ?_))
    | (have T := three_alloc w (.cells (intCells (zeros es.length)) 3) (.cells (boolCells (List.replicate es.length false)) 4) (.cells #[.slice none 0 0, .bool false, .slice A es.length c, .slice (some ⟨w.heap.size, 0, none⟩) es.length es.length, .slice (some ⟨w.heap.size + 1, 0, none⟩) es.length es.length] 211)
       have hi9 := (show IB _ w.heap.size 3 (zeros es.length) from T.1.1)
       have hj9 := (show BB _ (w.heap.size + 1) (List.replicate es.length false) from T.1.2.1)
       (with_reducible refine (share_tail L B (w.heap.size + 1 + 1) w.heap.size (w.heap.size + 1) A c m es w _ hl24 hM.out hG.out hE.out hB (hb2.out.trans (T.2.1.mono zb)) (by omega) (by omega) (by omega) (by omega) (by omega) (by omega) (by rw [T.2.2]; omega) (by rw [T.2.2]; omega) T.1.2.2 hi9 hj9).mono ?_))
    | (have T := three_alloc w (.cells (boolCells (List.replicate es.length false)) 4) (.cells (intCells (zeros es.length)) 3) (.cells #[.slice none 0 0, .bool false, .slice A es.length c, .slice (some ⟨w.heap.size + 1, 0, none⟩) es.length es.length, .slice (some ⟨w.heap.size, 0, none⟩) es.length es.length] 211)
       have hi9 := (show IB _ (w.heap.size + 1) 3 (zeros es.length) from T.1.2.1)
       have hj9 := (show BB _ w.heap.size (List.replicate es.length false) from T.1.1)
       (with_reducible refine (share_tail L B (w.heap.size + 1 + 1) (w.heap.size + 1) w.heap.size A c m es w _ hl24 hM.out hG.out hE.out hB (hb2.out.trans (T.2.1.mono zb)) (by omega) (by omega) (by omega) (by omega) (by omega) (by omega) (by rw [T.2.2]; omega) (by rw [T.2.2]; omega) T.1.2.2 hi9 hj9).mono ?_))
  all_goals
    rintro e w4 ⟨⟨r, rfl⟩, hb4, v', g4⟩
    have G4 := Lib.hid g4
    have B4 := Lib.hid hb4
    clear g4 hb4
    have hBu := Lib.hid (built_any _ _ _ _ _ _ _ G4.out)
    go_wp2_with (fail)
    refine hBu.out.mono ?_
    rintro e w5 ⟨rfl, rfl⟩
    obtain ⟨A5, c5, rfl⟩ := G4.out.form
    go_wp2_with (fail)
    go_ret2
    refine ⟨A5, c5, rfl, G4.out.ok.lower ?_, B4.out⟩
    simp; omega

set_option maxHeartbeats 4000000 in
theorem iShareExpr_any (L B : Nat) (A : Option Addr) (c : Nat) (es : List Nd) (w : World) (hl : es.length ≤ 1048576) (hes : NS w L B A es) (hB : B ≤ w.heap.size) :
    Calls Try.prog 87 #[.slice A es.length c] w (ResShareExpr (shareR es) (good es) w) := by
  have H := Lib.hid (IsExpr_any L B A c es w hl hes hB)
  cases hg : good es
  · have hR : Hid (shareR es = []) := by simp [Hid, shareR, hg]
    rw [hg] at H
    clear hg hes
    go_enter Try.func87, Try.ntmps87
    go_wp2_with (fail)
    refine H.out.mono ?_
    rintro e w2 ⟨rfl, hb⟩
    have hbb := Lib.hid hb
    clear hb
    go_wp2_with (fail)
    go_ret2
    rw [hR.out]
    exact ⟨none, 0, rfl, OK.nil _ _ _ _, hbb.out⟩
  · obtain ⟨hl1, hl24, hok⟩ := good_len hg
    have hE := Lib.hid hes
    have hG := Lib.hid hg
    rw [hg] at H
    clear hes hok
    obtain ⟨m, hm⟩ : ∃ m, es.length = m + 1 := ⟨es.length - 1, by omega⟩
    have hM := Lib.hid hm
    have hmi : (es.length : Int) - 1 = (m : Int) := by omega
    have hMI := Lib.hid hmi
    clear hm hmi
    have hSh := Lib.hid fun (W : World) (hW : NS W L B A es) (hBW : B ≤ W.heap.size) => shareExpr_any L B A c m es W hM.out hG.out hW hBW
    clear hg
    go_enter Try.func87, Try.ntmps87
    go_wp2_with (fail)
    refine H.out.mono ?_
    rintro e w2 ⟨rfl, hb⟩
    have hb2 := Lib.hid hb
    have hE2 := Lib.hid (hE.out.below hb hB)
    have hz2 := Nat.le_trans hB hb.size
    clear hb
    go_wp2_with (fail)
    rw [hMI.out]
    refine (hSh.out _ hE2.out hz2).mono ?_
    rintro e w5 ⟨A5, c5, rfl, ho5, hb5⟩
    have hO5 := Lib.hid (ho5.lower hb2.out.size)
    have hB5 := Lib.hid (hb2.out.trans (hb5.mono hb2.out.size))
    clear ho5 hb5
    go_wp2_with (fail)
    go_ret2
    exact ⟨A5, c5, rfl, hO5.out, hB5.out⟩
theorem iShareExpr_k (L B : Nat) (A : Option Addr) (c : Nat) (es : List Nd) (w : World) (hl : es.length ≤ 1048576) (hes : RS Nd.enc 4 w L B A es) (hB : B ≤ w.heap.size) (hc : es.length ≤ c) :
    Calls Try.prog 87 #[.slice A es.length c] w (ResShareExpr (shareR es) (good es) w) := iShareExpr_any L B A c es w hl hes.ns hB
end Go.Proofs.Ytmhdijklindipaa

/- ShareExpr: the model's walk. -/
namespace Go.Proofs.Ytmhdijklindipaa
open Go.RowKit
set_option linter.unusedVariables false
set_option maxRecDepth 100000

def OnSt (q d L : Nat) (s : List Nd × List Int) (v : Value) (w : World) : Prop := GS 174 [] q L s.1 true v w ∧ IB w d 3 s.2
def OnK (q d : Nat) (j : Nat) : Prop := j = q ∨ j = d
theorem OnOk (q d L : Nat) : StOk (OnK q d) L (OnSt q d L) where
  lt := fun s v w hs j hj => by rcases hj with rfl | rfl; exact hs.1.lt; exact hs.2.lt
  own := fun s v w hs => hs.1.own
  keep := fun s v w w' hs hk hr => ⟨hs.1.keep (hk q (.inl rfl)) hr, (hk d (.inr rfl)).trans hs.2⟩
theorem sp_step {K : Nat → Prop} {g : Nat} {v v3 : Value} {W w3 : World} {n : Nd} (hx : XN W g n) (hgq : ¬ K g) (hvg : v.ownBlock ≠ some g) (f3 : FrK K v.ownBlock W w3) (o3 : ∀ j, v3.ownBlock = some j → v.ownBlock = some j ∨ W.heap.size ≤ j) : XN w3 g n ∧ v3.ownBlock ≠ some g := by
  refine ⟨xn_frK hx f3 hgq hvg, fun e => ?_⟩
  rcases o3 _ e with e' | e'
  · exact hvg e'
  · have := hx.lt; omega
/-- Behind the node's put: its index is stored. -/
theorem on_stored {q d L i : Nat} {s3 : List Nd × List Int} {xs4 : List Nd} {x4 : Int} {v v3 : Value} {W w5 w6 : World} (hqd : q ≠ d) (hdL : d < L) (hs : OnSt q d L s3 v3 w5) (hf : FrK (OnK q d) v.ownBlock W w5) (ho : ∀ j, v3.ownBlock = some j → v.ownBlock = some j ∨ W.heap.size ≤ j) (h6 : GP 174 [] q L v3 w5 (xs4, true) w6) :
    IB w6 d 3 s3.2 ∧ SP (OnK q d) (OnSt q d L) v W (xs4, s3.2.set i x4) (w6.setCell ⟨d, i, none⟩ (.int .i64 x4)) := by
  obtain ⟨v6, g6, f6, o6⟩ := h6
  have hv3 : v3.ownBlock ≠ some d := fun e => by have := (hs.1.own _ e).1; omega
  have hv6 : v6.ownBlock ≠ some d := fun e => by have := (g6.own _ e).1; omega
  have i6 : IB w6 d 3 s3.2 := (f6.block d hs.2.lt (Ne.symm hqd) hv3).trans hs.2
  refine ⟨i6, v6, ⟨g6.other (p := ⟨d, i, none⟩) (Ne.symm hqd) hv6 _, i6.set i x4⟩, (hf.trans (FrK.ofFr f6 (.inl rfl)) ho).set (p := ⟨d, i, none⟩) (.inr rfl) _, fun j hj => ?_⟩
  rcases o6 j hj with e | e
  · exact ho j e
  · exact .inr (Nat.le_trans hf.size e)

set_option maxHeartbeats 2000000 in
theorem once_any (L0 B q d L C : Nat) (A : Option Addr) (c : Nat) (es : List Nd) (w0 : World) (hl : es.length ≤ 24) (hok : okFrom es 0 = true) (hes : NS w0 L0 B A es) (hBC : B ≤ C) (hC : C ≤ w0.heap.size) (hCq : C ≤ q) (hCd : C ≤ d) (hCL : C ≤ L) (hL : L ≤ w0.heap.size) (hqd : q ≠ d) (hdL : d < L) :
    ∀ (F i : Nat) (s : List Nd × List Int) (v : Value) (W : World), i < F → i < es.length → InvO es.length s → Below C w0 W → OnSt q d L s v W →
    Calls Try.prog 251 #[.pointer (some ⟨q, 0, none⟩), .slice A es.length c, .int .i64 i, .slice (some ⟨d, 0, none⟩) es.length es.length] W fun e w' => e = .returned (.int .i64 (on es F i s).2) ∧ SP (OnK q d) (OnSt q d L) v W (on es F i s).1 w' := by
  intro F
  induction F with
  | zero => intro i s v W hi; omega
  | succ F ih =>
    intro i s v W hi hie hI hb hs
    have hnd := ok_get hok hie
    obtain ⟨b, o, hA, ⟨_, hbB⟩, hcc⟩ := (hes.below hb hBC) (by omega)
    obtain ⟨c1, c2, c3, c4⟩ := hcc i hie
    subst hA
    have k0 : (0 : Int) ≤ (i : Int) := by omega
    have k1 : (i : Int) < (es.length : Int) := by omega
    have hbs := hb.size
    have hG := Lib.hid hs
    have hbW : b < W.heap.size := by omega
    have hbC : b < C := by omega
    have hdl : i < s.2.length := by rw [hI.1]; exact hie
    have hdc := hs.2.cell i hdl
    have hdg : s.2[i] = s.2.getD i 0 := by rw [List.getD_eq_getElem?_getD, List.getElem?_eq_getElem hdl]; rfl
    rw [hdg] at hdc
    by_cases h0 : 0 ≤ s.2.getD i 0
    · have e : on es (F + 1) i s = (s, s.2.getD i 0) := by rw [on, if_pos h0]
      rw [e]
      clear ih hes hcc hs hdg e c1 c2 c3 c4
      dsimp only
      generalize s.2.getD i 0 = x at *
      go_enter Try.func251, Try.ntmps251
      go_wp2
      go_ret
      exact ⟨rfl, v, hG.out, FrK.refl _ _ _, fun j hj => .inl hj⟩
    have hge := getD_nd hie
    have hE : on es (F + 1) i s = (((po1 (woG (on es F) es[i] s).1.1 (woG (on es F) es[i] s).2).1, (woG (on es F) es[i] s).1.2.set i (po1 (woG (on es F) es[i] s).1.1 (woG (on es F) es[i] s).2).2), (po1 (woG (on es F) es[i] s).1.1 (woG (on es F) es[i] s).2).2) := by rw [on, if_neg h0, hge]
    obtain ⟨r1, r2⟩ := (on_inv hok (F + 1) i s hi hie hI).2.2.2 (by omega) F rfl
    rw [hge] at r1 r2
    have r24 : (woG (on es F) es[i] s).1.1.length ≤ 24 := by
      have h7 := r1.2
      have h8 := cntD_lt (by rw [r1.1]; exact hie) r2
      have h9 := r1.1
      omega
    have rlen := r1.1
    have HInv := Lib.hid fun a s' (ha : a < i) (hi' : InvO es.length s') => (on_inv hok F a s' (by omega) (by omega) hi').1
    rw [hE]
    clear hE hcc r1 r2 hge
    generalize es[i] = nd at *
    generalize s.2.getD i 0 = dd at *
    have hneg : dd < 0 := by omega
    obtain ⟨op, a, bb, x⟩ := nd
    dsimp only at c1 c2 c3 c4 ⊢
    have c1' := fun u => (((Below.refl W.heap.size W).alloc (Nat.le_refl _) u).cell (p := ⟨b, o + i * 4, none⟩) hbW).trans c1
    have c2' := fun u => (((Below.refl W.heap.size W).alloc (Nat.le_refl _) u).cell (p := ⟨b, o + i * 4 + 1, none⟩) hbW).trans c2
    have c3' := fun u => (((Below.refl W.heap.size W).alloc (Nat.le_refl _) u).cell (p := ⟨b, o + i * 4 + 2, none⟩) hbW).trans c3
    have c4' := fun u => (((Below.refl W.heap.size W).alloc (Nat.le_refl _) u).cell (p := ⟨b, o + i * 4 + 3, none⟩) hbW).trans c4
    have hcell := Lib.hid fun (W' : World) (h : Below C w0 W') => (show W'.cell? ⟨b, o + i * 4, none⟩ = some (.string op) ∧ W'.cell? ⟨b, o + i * 4 + 1, none⟩ = some (.int .i64 a) ∧ W'.cell? ⟨b, o + i * 4 + 2, none⟩ = some (.int .i64 bb) ∧ W'.cell? ⟨b, o + i * 4 + 3, none⟩ = some (.int .i64 x) from
      ⟨(h.cell (p := ⟨b, _, none⟩) hbC).trans ((hb.cell (p := ⟨b, _, none⟩) hbC).symm.trans c1), (h.cell (p := ⟨b, _, none⟩) hbC).trans ((hb.cell (p := ⟨b, _, none⟩) hbC).symm.trans c2), (h.cell (p := ⟨b, _, none⟩) hbC).trans ((hb.cell (p := ⟨b, _, none⟩) hbC).symm.trans c3), (h.cell (p := ⟨b, _, none⟩) hbC).trans ((hb.cell (p := ⟨b, _, none⟩) hbC).symm.trans c4)⟩)
    obtain ⟨W1, hW1⟩ : ∃ W1, W1 = (W.alloc (.cells #[.string op, .int .i64 0, .int .i64 0, .int .i64 x] 40)).drew := ⟨_, rfl⟩
    have b1 : Hid (Below W.heap.size W W1) := by unfold Hid; rw [hW1]; exact ((Below.refl _ _).alloc (Nat.le_refl _) _).drew
    have x1 : Hid (XN W1 W.heap.size ⟨op, 0, 0, x⟩) := by unfold Hid; rw [hW1]; exact xn_new W ⟨op, 0, 0, x⟩
    have e1 := Lib.hid hW1
    have O := Lib.hid (OnOk q d L)
    have g1 := Lib.hid (O.out.next hs b1.out)
    have B1 := Lib.hid (hb.trans (b1.out.mono (by omega)))
    have hgq : ¬ OnK q d W.heap.size := fun h => by have := O.out.lt s v W hs _ h; omega
    have hvg : v.ownBlock ≠ some W.heap.size := fun e => by have := (hs.1.own _ e).2; omega
    have hKC : ∀ j, OnK q d j → C ≤ j := by rintro j (rfl | rfl) <;> assumption
    have hvC := Lib.hid fun j (hj : v.ownBlock = some j) => Nat.le_trans hCL (hs.1.own j hj).1
    clear hW1 hs
    have HP := Lib.hid fun W' => exParts_any op a bb x W'
    have hPut := Lib.hid fun (ys : List Nd) (v' : Value) (y : Nd) (W' : World) (hy : ys.length < 100000) (hz : w0.heap.size ≤ W'.heap.size) (h' : GS 174 [] q L ys true v' W') => sput_share 174 [] q L ys v' y W' hy (by omega) h'
    rcases ar_cases_nd hnd with ⟨h1, h2, h3, h4, h5⟩ | ⟨h1, h2, h3, h4, h5, h6⟩ | ⟨h1, h2, h3, h4, h5, h6, h7⟩
    · dsimp only at h1 h2 h3 h4 h5
      subst h4; subst h5
      have hmv : woG (on es F) ⟨op, 0, 0, x⟩ s = (s, ⟨op, 0, 0, x⟩) := by unfold woG; simp [h1]
      have hp : parts ⟨op, 0, 0, x⟩ = [] := by simp [parts, h2, h3]
      rw [hmv] at r24 rlen ⊢; rw [hp] at HP
      dsimp only at r24 rlen ⊢
      clear ih hes hmv hp h1 h2 h3 hnd
      go_enter Try.func251, Try.ntmps251
      go_wp2_with (fail)
      go_region
      go_wp2_with (fail)
      rw [← e1.out]
      (with_reducible refine (HP.out _).mono ?_)
      rintro e w2 ⟨A2, cc2, rfl, _, hb2⟩
      have B2 := Lib.hid (B1.out.trans (hb2.mono (by have := B1.out.size; omega)))
      have x2 := Lib.hid (x1.out.next hb2)
      have g2 := Lib.hid (O.out.next g1.out hb2)
      have bb2 := Lib.hid (b1.out.trans (hb2.mono b1.out.size))
      clear hb2 c1' c2' c3' c4' c1 c2 c3 c4 hdc
      obtain ⟨m0, m1, m2, m3⟩ := hcell.out w2 B2.out
      go_wp2_with (fail)
      (with_reducible refine (HP.out _).mono ?_)
      rintro e w3 ⟨A3, cc3, rfl, _, hb3⟩
      have x3 := Lib.hid (x2.out.next hb3)
      have g3 := Lib.hid (O.out.next g2.out hb3)
      have bb3 := Lib.hid (bb2.out.trans (hb3.mono bb2.out.size))
      have z3 : w0.heap.size ≤ w3.heap.size := by have := bb3.out.size; omega
      clear hb3 m0 m1 m2 m3
      obtain ⟨m0, m1, m2, m3⟩ := x3.out.cells
      have hPt := Lib.hid (hPut.out s.1 v ⟨op, 0, 0, x⟩ w3 (by omega) z3 g3.out.1)
      have hSt := Lib.hid fun w6 (h6 : GP 174 [] q L v w3 ((po1 s.1 ⟨op, 0, 0, x⟩).1, true) w6) => on_stored (i := i) (x4 := (po1 s.1 ⟨op, 0, 0, x⟩).2) hqd hdL g3.out (FrK.ofBelow bb3.out) (fun j hj => .inl hj) h6
      generalize hpr : po1 s.1 ⟨op, 0, 0, x⟩ = pr at *
      obtain ⟨xs4, x4⟩ := pr
      have hPr := Lib.hid hpr
      clear hpr
      dsimp only at hPt hSt ⊢
      go_wp2_with (fail)
      (with_reducible refine hPt.out.mono ?_)
      rintro e w6 ⟨rfl, h6⟩
      obtain ⟨i6, hsp⟩ := hSt.out w6 h6
      have HSP := Lib.hid hsp
      have u0 := i6.cell i (by omega)
      have u1 := i6.frozen i
      have u2 := (i6.set i x4).cell i (by rw [List.length_set]; omega)
      rw [List.getElem_set_self] at u2
      clear h6 hsp i6 m0 m1 m2 m3
      go_wp2
      go_ret
      rw [hPr.out]
      exact ⟨rfl, HSP.out⟩
    · dsimp only at h1 h2 h3 h4 h5 h6
      obtain ⟨pa, rfl⟩ := Int.eq_ofNat_of_zero_le h4
      subst h6
      have hmv : woG (on es F) ⟨op, (pa : Int), 0, x⟩ s = ((on es F pa s).1, ⟨op, (on es F pa s).2, 0, x⟩) := by unfold woG; simp [h1]
      have hp : parts ⟨op, (pa : Int), 0, x⟩ = [(pa : Int)] := by simp [parts, h2]
      rw [hmv] at r24 rlen ⊢; rw [hp] at HP
      dsimp only at r24 rlen ⊢
      have HA := Lib.hid fun (W' : World) (h' : Below C w0 W') (g' : OnSt q d L s v W') => ih pa s v W' (by omega) (by omega) hI h' g'
      clear ih hes hmv hp h1 h2 h3 hnd
      generalize on es F pa s = ra at *
      obtain ⟨sa, va⟩ := ra
      dsimp only at HA r24 rlen ⊢
      go_enter Try.func251, Try.ntmps251
      go_wp2_with (fail)
      go_region
      go_wp2_with (fail)
      rw [← e1.out]
      (with_reducible refine (HP.out _).mono ?_)
      rintro e w2 ⟨A2, cc2, rfl, _, hb2⟩
      have B2 := Lib.hid (B1.out.trans (hb2.mono (by have := B1.out.size; omega)))
      have x2 := Lib.hid (x1.out.next hb2)
      have g2 := Lib.hid (O.out.next g1.out hb2)
      have bb2 := Lib.hid (b1.out.trans (hb2.mono b1.out.size))
      clear hb2 c1' c2' c3' c4' c1 c2 c3 c4 hdc
      obtain ⟨m0, m1, m2, m3⟩ := hcell.out w2 B2.out
      go_wp2_with (fail)
      (with_reducible refine (HA.out w2 B2.out g2.out).mono ?_)
      rintro e w3 ⟨rfl, v3, g3, f3, o3⟩
      obtain ⟨x3, hv3⟩ := sp_step x2.out hgq hvg f3 o3
      have f1' := x3.fz 1
      have x4 := Lib.hid (x3.setA va)
      have g4 := Lib.hid (O.out.other (p := ⟨W.heap.size, 1, none⟩) g3 hgq hv3 (.int .i64 va))
      have F3 := Lib.hid ((FrK.ofBelow (K := OnK q d) (r := v.ownBlock) bb2.out).trans f3 (fun j hj => .inl hj))
      have F4 := Lib.hid (F3.out.far (p := ⟨W.heap.size, 1, none⟩) (Nat.le_refl _) (.int .i64 va))
      have O3 : Hid (∀ j, v3.ownBlock = some j → v.ownBlock = some j ∨ W.heap.size ≤ j) := fun j hj => by
        rcases o3 j hj with e | e
        · exact .inl e
        · exact .inr (Nat.le_trans bb2.out.size e)
      have B4 : Hid (Below C w0 (w3.setCell ⟨W.heap.size, 1, none⟩ (.int .i64 va))) := by
        unfold Hid
        exact hb.trans (F4.out.below (B := C) (by omega) hKC (fun j hj => hvC.out j hj))
      obtain ⟨W4, hW4⟩ : ∃ W4, W4 = w3.setCell ⟨W.heap.size, 1, none⟩ (.int .i64 va) := ⟨_, rfl⟩
      have p1 := x3.cells.2.1
      have q1 := hcell.out _ B4.out
      rw [← hW4] at x4 g4 F4 B4
      have e4 := Lib.hid hW4
      clear m0 m1 m2 m3 x3 g3 f3 o3 hW4
      obtain ⟨m0, m1, m2, m3⟩ := q1
      go_wp2_with (fail)
      rw [← e4.out]
      (with_reducible refine (HP.out _).mono ?_)
      rintro e w5 ⟨A5, cc5, rfl, _, hb5⟩
      have x5 := Lib.hid (x4.out.next hb5)
      have g5 := Lib.hid (O.out.next g4.out hb5)
      have F5 := Lib.hid (F4.out.trans (r' := none) (FrK.ofBelow hb5) (fun j hj => by cases hj))
      have B5 := Lib.hid (B4.out.trans (hb5.mono (by have := B4.out.size; omega)))
      have z5 : w0.heap.size ≤ w5.heap.size := by have := F5.out.size; omega
      clear hb5 m0 m1 m2 m3 p1 f1'
      obtain ⟨m0, m1, m2, m3⟩ := x5.out.cells
      have hPt := Lib.hid (hPut.out sa.1 v3 ⟨op, va, 0, x⟩ w5 (by omega) z5 g5.out.1)
      have hSt := Lib.hid fun w6 (h6 : GP 174 [] q L v3 w5 ((po1 sa.1 ⟨op, va, 0, x⟩).1, true) w6) => on_stored (i := i) (x4 := (po1 sa.1 ⟨op, va, 0, x⟩).2) hqd hdL g5.out F5.out O3.out h6
      generalize hpr : po1 sa.1 ⟨op, va, 0, x⟩ = pr at *
      obtain ⟨xs4, x4⟩ := pr
      have hPr := Lib.hid hpr
      clear hpr
      dsimp only at hPt hSt ⊢
      go_wp2_with (fail)
      (with_reducible refine hPt.out.mono ?_)
      rintro e w6 ⟨rfl, h6⟩
      obtain ⟨i6, hsp⟩ := hSt.out w6 h6
      have HSP := Lib.hid hsp
      have u0 := i6.cell i (by omega)
      have u1 := i6.frozen i
      have u2 := (i6.set i x4).cell i (by rw [List.length_set]; omega)
      rw [List.getElem_set_self] at u2
      clear h6 hsp i6 m0 m1 m2 m3
      go_wp2
      go_ret
      rw [hPr.out]
      exact ⟨rfl, HSP.out⟩
    · dsimp only at h1 h2 h3 h4 h5 h6 h7
      obtain ⟨pa, rfl⟩ := Int.eq_ofNat_of_zero_le h4
      obtain ⟨pb, rfl⟩ := Int.eq_ofNat_of_zero_le h6
      have hmv : woG (on es F) ⟨op, (pa : Int), (pb : Int), x⟩ s = ((on es F pb (on es F pa s).1).1, ⟨op, (on es F pa s).2, (on es F pb (on es F pa s).1).2, x⟩) := by unfold woG; simp [h1]
      have hp : parts ⟨op, (pa : Int), (pb : Int), x⟩ = [(pa : Int), (pb : Int)] := by simp [parts, h2, h3]
      rw [hmv] at r24 rlen ⊢; rw [hp] at HP
      dsimp only at r24 rlen ⊢
      have HA := Lib.hid fun (W' : World) (h' : Below C w0 W') (g' : OnSt q d L s v W') => ih pa s v W' (by omega) (by omega) hI h' g'
      have hIa := HInv.out pa s (by omega) hI
      have HB := Lib.hid fun (s' : List Nd × List Int) (v' : Value) (W' : World) (hi' : InvO es.length s') (h' : Below C w0 W') (g' : OnSt q d L s' v' W') => ih pb s' v' W' (by omega) (by omega) hi' h' g'
      clear ih hes hmv hp h1 h2 h3 hnd
      generalize on es F pa s = ra at *
      obtain ⟨sa, va⟩ := ra
      dsimp only at HA r24 rlen hIa ⊢
      have HB1 := Lib.hid fun (v' : Value) (W' : World) => HB.out sa v' W' hIa
      clear HB
      generalize on es F pb sa = rb at *
      obtain ⟨sb, vb⟩ := rb
      dsimp only at HB1 r24 rlen ⊢
      go_enter Try.func251, Try.ntmps251
      go_wp2_with (fail)
      go_region
      go_wp2_with (fail)
      rw [← e1.out]
      (with_reducible refine (HP.out _).mono ?_)
      rintro e w2 ⟨A2, cc2, rfl, _, hb2⟩
      have B2 := Lib.hid (B1.out.trans (hb2.mono (by have := B1.out.size; omega)))
      have x2 := Lib.hid (x1.out.next hb2)
      have g2 := Lib.hid (O.out.next g1.out hb2)
      have bb2 := Lib.hid (b1.out.trans (hb2.mono b1.out.size))
      clear hb2 c1' c2' c3' c4' c1 c2 c3 c4 hdc
      obtain ⟨m0, m1, m2, m3⟩ := hcell.out w2 B2.out
      go_wp2_with (fail)
      (with_reducible refine (HA.out w2 B2.out g2.out).mono ?_)
      rintro e w3 ⟨rfl, v3, g3, f3, o3⟩
      obtain ⟨x3, hv3⟩ := sp_step x2.out hgq hvg f3 o3
      have f1' := x3.fz 1
      have x4 := Lib.hid (x3.setA va)
      have g4 := Lib.hid (O.out.other (p := ⟨W.heap.size, 1, none⟩) g3 hgq hv3 (.int .i64 va))
      have F3 := Lib.hid ((FrK.ofBelow (K := OnK q d) (r := v.ownBlock) bb2.out).trans f3 (fun j hj => .inl hj))
      have F4 := Lib.hid (F3.out.far (p := ⟨W.heap.size, 1, none⟩) (Nat.le_refl _) (.int .i64 va))
      have O3 : Hid (∀ j, v3.ownBlock = some j → v.ownBlock = some j ∨ W.heap.size ≤ j) := fun j hj => by
        rcases o3 j hj with e | e
        · exact .inl e
        · exact .inr (Nat.le_trans bb2.out.size e)
      have B4 : Hid (Below C w0 (w3.setCell ⟨W.heap.size, 1, none⟩ (.int .i64 va))) := by
        unfold Hid
        exact hb.trans (F4.out.below (B := C) (by omega) hKC (fun j hj => hvC.out j hj))
      obtain ⟨W4, hW4⟩ : ∃ W4, W4 = w3.setCell ⟨W.heap.size, 1, none⟩ (.int .i64 va) := ⟨_, rfl⟩
      have p1 := x3.cells.2.1
      have q1 := hcell.out _ B4.out
      rw [← hW4] at x4 g4 F4 B4
      have e4 := Lib.hid hW4
      clear m0 m1 m2 m3 x3 g3 f3 o3 hW4
      obtain ⟨m0, m1, m2, m3⟩ := q1
      go_wp2_with (fail)
      rw [← e4.out]
      (with_reducible refine (HP.out _).mono ?_)
      rintro e w5 ⟨A5, cc5, rfl, _, hb5⟩
      have x5 := Lib.hid (x4.out.next hb5)
      have g5 := Lib.hid (O.out.next g4.out hb5)
      have F5 := Lib.hid (F4.out.trans (r' := none) (FrK.ofBelow hb5) (fun j hj => by cases hj))
      have B5 := Lib.hid (B4.out.trans (hb5.mono (by have := B4.out.size; omega)))
      have z5 : w0.heap.size ≤ w5.heap.size := by have := F5.out.size; omega
      clear hb5 m0 m1 m2 m3 p1 f1'
      obtain ⟨m0, m1, m2, m3⟩ := hcell.out w5 B5.out
      go_wp2_with (fail)
      (with_reducible refine (HB1.out v3 w5 B5.out g5.out).mono ?_)
      rintro e w6' ⟨rfl, v6, g6, f6, o6⟩
      obtain ⟨x6, hv6⟩ := sp_step x5.out hgq hv3 f6 o6
      have f2' := x6.fz 2
      have x7 := Lib.hid (x6.setB vb)
      have g7 := Lib.hid (O.out.other (p := ⟨W.heap.size, 2, none⟩) g6 hgq hv6 (.int .i64 vb))
      have F7 := Lib.hid ((F5.out.trans f6 O3.out).far (p := ⟨W.heap.size, 2, none⟩) (Nat.le_refl _) (.int .i64 vb))
      have O6 : Hid (∀ j, v6.ownBlock = some j → v.ownBlock = some j ∨ W.heap.size ≤ j) := fun j hj => by
        rcases o6 j hj with e | e
        · exact O3.out j e
        · exact .inr (Nat.le_trans F5.out.size e)
      have z7 : w0.heap.size ≤ (w6'.setCell ⟨W.heap.size, 2, none⟩ (.int .i64 vb)).heap.size := by have := F7.out.size; omega
      have p2 := x6.cells.2.2.1
      obtain ⟨n0, n1, n2, n3⟩ := x7.out.cells
      obtain ⟨W7, hW7⟩ : ∃ W7, W7 = w6'.setCell ⟨W.heap.size, 2, none⟩ (.int .i64 vb) := ⟨_, rfl⟩
      rw [← hW7] at x7 g7 F7 z7
      have e7 := Lib.hid hW7
      clear m0 m1 m2 m3 x6 g6 f6 o6 hW7
      have hPt := Lib.hid (hPut.out sb.1 v6 ⟨op, va, vb, x⟩ W7 (by omega) z7 g7.out.1)
      have hSt := Lib.hid fun w6 (h6 : GP 174 [] q L v6 W7 ((po1 sb.1 ⟨op, va, vb, x⟩).1, true) w6) => on_stored (i := i) (x4 := (po1 sb.1 ⟨op, va, vb, x⟩).2) hqd hdL g7.out F7.out O6.out h6
      generalize hpr : po1 sb.1 ⟨op, va, vb, x⟩ = pr at *
      obtain ⟨xs4, x4'⟩ := pr
      have hPr := Lib.hid hpr
      clear hpr
      dsimp only at hPt hSt ⊢
      go_wp2_with (fail)
      rw [← e7.out]
      (with_reducible refine hPt.out.mono ?_)
      rintro e w6 ⟨rfl, h6⟩
      obtain ⟨i6, hsp⟩ := hSt.out w6 h6
      have HSP := Lib.hid hsp
      have u0 := i6.cell i (by omega)
      have u1 := i6.frozen i
      have u2 := (i6.set i x4').cell i (by rw [List.length_set]; omega)
      rw [List.getElem_set_self] at u2
      clear h6 hsp i6 n0 n1 n2 n3 p2 f2'
      go_wp2
      go_ret
      rw [hPr.out]
      exact ⟨rfl, HSP.out⟩
end Go.Proofs.Ytmhdijklindipaa

/- ShareExpr: the model. -/
namespace Go.Proofs.Ytmhdijklindipaa
open Go.RowKit
set_option linter.unusedVariables false
set_option maxRecDepth 100000

def negFill (k n : Nat) : List Int := List.replicate k (-1) ++ zeros (n - k)
theorem neg_fill_zero (n : Nat) : negFill 0 n = zeros n := by simp [negFill]
theorem neg_fill_end (n : Nat) : negFill n n = List.replicate n (-1) := by simp [negFill, zeros]
theorem neg_fill_len {k n : Nat} (h : k ≤ n) : (negFill k n).length = n := by simp [negFill, zeros]; omega
theorem neg_fill_set {k n : Nat} (h : k < n) : (negFill k n).set k (-1) = negFill (k + 1) n := by
  unfold negFill zeros
  rw [List.set_append_right _ _ (by simp)]
  obtain ⟨m, hm⟩ : ∃ m, n - k = m + 1 := ⟨n - k - 1, by omega⟩
  have h2 : n - (k + 1) = m := by omega
  rw [hm, h2, List.replicate_succ' (n := k), List.append_assoc]
  simp [List.replicate_succ]

set_option maxHeartbeats 2000000 in
theorem once_tail (L B q d : Nat) (A : Option Addr) (c m : Nat) (es : List Nd) (w W3 : World) (hl24 : es.length ≤ 24) (hm : es.length = m + 1) (hg : good es = true) (hes : NS w L B A es) (hB : B ≤ w.heap.size) (hb : Below w.heap.size w W3) (hq : w.heap.size ≤ q) (hd : w.heap.size ≤ d) (hqd : q ≠ d) (hdl : d < W3.heap.size)
    (hx : W3.heap[q]? = some (.cells #[.slice none 0 0, .bool true] 174 (0, 0))) (hi : IB W3 d 3 (List.replicate es.length (-1))) :
    Calls Try.prog 251 #[.pointer (some ⟨q, 0, none⟩), .slice A es.length c, .int .i64 m, .slice (some ⟨d, 0, none⟩) es.length es.length] W3 fun e w' => (∃ r : Int, e = .returned (.int .i64 r)) ∧ Below w.heap.size w w' ∧ ∃ v', GS 174 [] q W3.heap.size (shareR es) true v' w' := by
  obtain ⟨hl1, _, hok⟩ := good_len hg
  have hS : OnSt q d W3.heap.size ([], List.replicate es.length (-1)) (.slice none 0 0) W3 :=
    ⟨⟨hx, World.ownsRow_nil _ _ _ _, fun e => by simp [Value.ownBlock] at e⟩, hi⟩
  have hW := once_any L B q d W3.heap.size w.heap.size A c es W3 hl24 hok (hes.below hb hB) hB hb.size hq hd hb.size (Nat.le_refl _) hqd hdl es.length m ([], List.replicate es.length (-1)) (.slice none 0 0) W3 (by omega) (by omega) (inv_start _) (Below.mono (Below.refl W3.heap.size W3) hb.size) hS
  refine hW.mono ?_
  rintro e w' ⟨rfl, v', ⟨s1, s2⟩, f, o⟩
  refine ⟨⟨_, rfl⟩, hb.trans (f.below hb.size (by rintro j (rfl | rfl) <;> assumption) (fun j hj => by simp [Value.ownBlock] at hj)), v', ?_⟩
  have : shareR es = (on es es.length m ([], List.replicate es.length (-1))).1.1 := by unfold shareR shareL; rw [if_pos hg, show es.length - 1 = m by omega]
  rw [this]; exact s1

set_option maxHeartbeats 4000000 in
theorem exShare_any (L B : Nat) (A : Option Addr) (c : Nat) (es : List Nd) (w : World) (hg : good es = true) (hes : NS w L B A es) (hB : B ≤ w.heap.size) :
    Calls Try.prog 205 #[.slice A es.length c] w fun e w' => ∃ (A' : Option Addr) (c' : Nat), e = .returned (.slice A' (shareR es).length c') ∧ OK Nd.enc 4 40 w' w.heap.size w'.heap.size (.slice A' (shareR es).length c') (shareR es) ∧ Below w.heap.size w w' := by
  obtain ⟨hl1, hl24, hok⟩ := good_len hg
  have hE := Lib.hid hes
  have hG := Lib.hid hg
  clear hg hes hok
  obtain ⟨m, hm⟩ : ∃ m, es.length = m + 1 := ⟨es.length - 1, by omega⟩
  have hM := Lib.hid hm
  have hmi : (es.length : Int) - 1 = (m : Int) := by omega
  have hMI := Lib.hid hmi
  clear hm hmi
  have hmk := run_make_ints es.length (by omega)
  obtain ⟨W1, hW1⟩ : ∃ W1, W1 = w.alloc (.cells #[.slice none 0 0, .bool true] 174) := ⟨_, rfl⟩
  obtain ⟨W2, hW2⟩ : ∃ W2, W2 = W1.alloc (.cells (intCells (zeros es.length)) 3) := ⟨_, rfl⟩
  have z1 : W1.heap.size = w.heap.size + 1 := by rw [hW1]; simp
  have z2 : W2.heap.size = w.heap.size + 2 := by rw [hW2]; simp [z1]
  have b1 : Below w.heap.size w W1 := by rw [hW1]; exact (Below.refl _ _).alloc (Nat.le_refl _) _
  have a2 : Below W1.heap.size W1 W2 := by rw [hW2]; exact (Below.refl _ _).alloc (Nat.le_refl _) _
  have i2 : Hid (IB W2 (w.heap.size + 1) 3 (negFill 0 es.length)) := by
    unfold Hid; rw [neg_fill_zero, ← z1, hW2]; exact heap_alloc_new W1 _
  have x1 : W1.heap[w.heap.size]? = some (.cells #[.slice none 0 0, .bool true] 174 (0, 0)) := by rw [hW1]; exact heap_alloc_new w _
  have x2 := Lib.hid ((a2.block _ (by omega)).trans x1)
  have B2 := Lib.hid (b1.trans (a2.mono b1.size))
  have e2 := Lib.hid hW2
  have e1 := Lib.hid hW1
  clear x1 b1 a2 hW1 hW2
  go_enter Try.func205, Try.ntmps205
  go_wp2
  rw [← e1.out, ← e2.out]
  go_loopw [5, 13] (fun _ i wr => ∃ k : Nat, k ≤ es.length ∧ i = .int .i64 k ∧ IB wr (w.heap.size + 1) 3 (negFill k es.length) ∧ wr.heap[w.heap.size]? = some (.cells #[.slice none 0 0, .bool true] 174 (0, 0)) ∧ w.heap.size + 2 ≤ wr.heap.size ∧ Below w.heap.size w wr) (fun _ i _ => es.length - (intOf i).toNat)
  case atStart => exact ⟨0, Nat.zero_le _, rfl, i2.out, x2.out, by omega, B2.out⟩
  case round =>
    obtain ⟨j, hj, rfl, hi, hx, hz, hb⟩ := hrel
    have I := Lib.hid hi
    have X := Lib.hid hx
    have Bb := Lib.hid hb
    clear hi hx hb
    by_cases hlt : j < es.length
    · have k0 : (0 : Int) ≤ (j : Int) := by omega
      have k1 : (j : Int) < (es.length : Int) := by omega
      have s1 := I.out.cell j (by rw [neg_fill_len hj]; exact hlt)
      have s2 := I.out.frozen j
      go_wp2
      go_roundw
      case rel =>
        refine ⟨j + 1, by omega, by go_num, ?_, ?_, ?_, ?_⟩
        · rw [← neg_fill_set hlt]; exact I.out.set j _
        · exact (Below.heap_setCell wr ⟨w.heap.size + 1, j, none⟩ _ w.heap.size (by simp)).trans X.out
        · simp [World.setCell]; omega
        · exact Bb.out.setCell (p := ⟨w.heap.size + 1, j, none⟩) (by simp) _
      case measure => simp [intOf]; omega
    · obtain rfl : j = es.length := by omega
      have hT := Lib.hid (once_tail L B w.heap.size (w.heap.size + 1) A c m es w wr hl24 hM.out hG.out hE.out hB Bb.out (Nat.le_refl _) (by omega) (by omega) (by omega) X.out (by rw [← neg_fill_end]; exact I.out))
      go_wp2_with (fail)
      rw [hMI.out]
      refine hT.out.mono ?_
      rintro e w4 ⟨⟨r, rfl⟩, hb4, v', g4⟩
      have G4 := Lib.hid g4
      have B4 := Lib.hid hb4
      clear g4 hb4
      obtain ⟨A5, c5, rfl⟩ := G4.out.form
      have q0 := G4.out.c0
      go_wp2
      go_ret
      exact ⟨A5, c5, rfl, G4.out.ok.lower (by omega), B4.out⟩

set_option maxHeartbeats 2000000 in
theorem sShareExpr_any (L B : Nat) (A : Option Addr) (c : Nat) (es : List Nd) (w : World) (hl : es.length ≤ 1048576) (hes : NS w L B A es) (hB : B ≤ w.heap.size) :
    Calls Try.prog 88 #[.slice A es.length c] w (ResShareExpr (shareR es) (good es) w) := by
  have H := Lib.hid (exGood_any L B A c es w hl hes hB)
  cases hg : good es
  · have hR : Hid (shareR es = []) := by simp [Hid, shareR, hg]
    rw [hg] at H
    clear hg hes
    go_enter Try.func88, Try.ntmps88
    go_wp2_with (fail)
    refine H.out.mono ?_
    rintro e w2 ⟨rfl, hb⟩
    have hbb := Lib.hid hb
    clear hb
    go_wp2_with (fail)
    go_ret2
    rw [hR.out]
    exact ⟨none, 0, rfl, OK.nil _ _ _ _, hbb.out⟩
  · have hE := Lib.hid hes
    have hG := Lib.hid hg
    rw [hg] at H
    clear hg hes
    go_enter Try.func88, Try.ntmps88
    go_wp2_with (fail)
    refine H.out.mono ?_
    rintro e w2 ⟨rfl, hb⟩
    have hb2 := Lib.hid hb
    clear hb
    go_wp2_with (fail)
    refine (exShare_any L B A c es w2 hG.out (hE.out.below hb2.out hB) (Nat.le_trans hB hb2.out.size)).mono ?_
    rintro e w3 ⟨A3, c3, rfl, ho, hb⟩
    have hO := Lib.hid ho
    have hb3 := Lib.hid (hb2.out.trans (hb.mono hb2.out.size))
    have z2 := hb2.out.size
    clear ho hb
    go_wp2_with (fail)
    go_ret2
    exact ⟨A3, c3, rfl, hO.out.lower z2, hb3.out⟩
theorem sShareExpr_k (L B : Nat) (A : Option Addr) (c : Nat) (es : List Nd) (w : World) (hl : es.length ≤ 1048576) (hes : RS Nd.enc 4 w L B A es) (hB : B ≤ w.heap.size) :
    Calls Try.prog 88 #[.slice A es.length c] w (ResShareExpr (shareR es) (good es) w) := sShareExpr_any L B A c es w hl hes.ns hB
end Go.Proofs.Ytmhdijklindipaa

/- SubExpr: the program. -/
namespace Go.Proofs.Ytmhdijklindipaa
open Go.RowKit
set_option linter.unusedVariables false
set_option maxRecDepth 100000

set_option maxHeartbeats 2000000 in
theorem iSubExpr_any (L B : Nat) (A : Option Addr) (c : Nat) (es : List Nd) (i : Int) (w : World) (hl : es.length ≤ 1048576) (hes : NS w L B A es) (hB : B ≤ w.heap.size) (hcap : es.length ≤ c) :
    Calls Try.prog 93 #[.slice A es.length c, .int .i64 i] w (ResSubExpr (subR es i) (subOk es i) w) := by
  have H := Lib.hid (IsExpr_any L B A c es w hl hes hB)
  have hE := Lib.hid hes
  have hBB := Lib.hid hB
  clear hes hB
  cases hg : good es
  · have hR : Hid (subR es i = []) := by simp [Hid, subR, subOk, hg]
    have hK : Hid (subOk es i = false) := by simp [Hid, subOk, hg]
    rw [hg] at H
    clear hg
    go_enter Try.func93, Try.ntmps93
    go_wp2_with (fail)
    refine H.out.mono ?_
    rintro e w2 ⟨rfl, hb⟩
    have hbb := Lib.hid hb
    clear hb
    go_wp2_with (fail)
    go_ret2
    rw [hR.out, hK.out]
    exact ⟨none, 0, rfl, OK.nil _ _ _ _, hbb.out⟩
  · obtain ⟨hl1, hl24, hok⟩ := good_len hg
    have hG := Lib.hid hg
    have hOk := Lib.hid hok
    rw [hg] at H
    clear hg hok
    by_cases h0 : i < 0
    · have hK : Hid (subOk es i = false) := by
        unfold Hid subOk; cases hr : inR i 0 ((es.length : Int) - 1)
        · simp
        · have := (inR_iff _ _ _).1 hr; omega
      have hR : Hid (subR es i = []) := by unfold Hid subR; rw [hK.out]; rfl
      go_enter Try.func93, Try.ntmps93
      go_wp2_with (fail)
      refine H.out.mono ?_
      rintro e w2 ⟨rfl, hb⟩
      have hbb := Lib.hid hb
      clear hb
      go_wp2_with (fail)
      go_ret2
      rw [hR.out, hK.out]
      exact ⟨none, 0, rfl, OK.nil _ _ _ _, hbb.out⟩
    · obtain ⟨q, rfl⟩ := Int.eq_ofNat_of_zero_le (by omega : 0 ≤ i)
      have q0 : (0 : Int) ≤ (q : Int) := by omega
      by_cases h1 : q < es.length
      · have hr : inR (q : Int) 0 ((es.length : Int) - 1) = true := (inR_iff _ _ _).2 ⟨by omega, by omega⟩
        have hK : Hid (subOk es (q : Int) = true) := by simp [Hid, subOk, hr, hG.out]
        have hR : Hid (subR es (q : Int) = keepL es q) := by simp [Hid, subR, hK.out]
        have q1 : (q : Int) < (es.length : Int) := by omega
        clear hr
        go_enter Try.func93, Try.ntmps93
        go_wp2_with (fail)
        refine H.out.mono ?_
        rintro e w2 ⟨rfl, hb⟩
        have hb2 := Lib.hid hb
        have hX := Lib.hid (subExpr_any L B A c q es w2 hl24 hcap h1 (hE.out.below hb hBB.out) (Nat.le_trans hBB.out hb.size) hOk.out)
        clear hb
        go_wp2_with (fail)
        refine hX.out.mono ?_
        rintro e w4 ⟨A', c', rfl, ho, hb4⟩
        have ho4 := Lib.hid ho
        have hb5 := Lib.hid (hb2.out.trans (hb4.mono hb2.out.size))
        have hz := hb2.out.size
        clear ho hb4
        go_wp2_with (fail)
        go_ret2
        rw [hR.out, hK.out]
        exact ⟨A', c', rfl, ho4.out.lower hz, hb5.out⟩
      · have hK : Hid (subOk es (q : Int) = false) := by
          unfold Hid subOk; cases hr : inR (q : Int) 0 ((es.length : Int) - 1)
          · simp
          · have := (inR_iff _ _ _).1 hr; omega
        have hR : Hid (subR es (q : Int) = []) := by unfold Hid subR; rw [hK.out]; rfl
        have q1 : (es.length : Int) ≤ (q : Int) := by omega
        go_enter Try.func93, Try.ntmps93
        go_wp2_with (fail)
        refine H.out.mono ?_
        rintro e w2 ⟨rfl, hb⟩
        have hbb := Lib.hid hb
        clear hb
        go_wp2_with (fail)
        go_ret2
        rw [hR.out, hK.out]
        exact ⟨none, 0, rfl, OK.nil _ _ _ _, hbb.out⟩
theorem subR_len (es : List Nd) (i : Int) : (subR es i).length ≤ 1048576 := by
  unfold subR
  split
  · rename_i h
    unfold subOk at h
    simp only [Bool.and_eq_true] at h
    have hg := (good_len h.1).2.1
    have h4 := (inR_iff _ _ _).1 h.2
    have := ke_len es (need es i.toNat) (i.toNat + 1) (i.toNat + 1)
    unfold keepL; omega
  · simp
theorem sSubExpr_k (L B : Nat) (A : Option Addr) (c : Nat) (es : List Nd) (i : Int) (w : World) (hl : es.length ≤ 1048576) (hes : RS Nd.enc 4 w L B A es) (hB : B ≤ w.heap.size) :
    Calls Try.prog 94 #[.slice A es.length c, .int .i64 i] w (ResSubExpr (subR es i) (subOk es i) w) := sSubExpr_any L B A c es i w hl hes.ns hB
theorem iSubExpr_k (L B : Nat) (A : Option Addr) (c : Nat) (es : List Nd) (i : Int) (w : World) (hl : es.length ≤ 1048576) (hes : RS Nd.enc 4 w L B A es) (hB : B ≤ w.heap.size) (hc : es.length ≤ c) :
    Calls Try.prog 93 #[.slice A es.length c, .int .i64 i] w (ResSubExpr (subR es i) (subOk es i) w) := iSubExpr_any L B A c es i w hl hes.ns hB hc
end Go.Proofs.Ytmhdijklindipaa
