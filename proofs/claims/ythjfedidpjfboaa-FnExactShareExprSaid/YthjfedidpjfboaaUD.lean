import Derived.Test.YthjfedidpjfboaaUC
import Derived.Test.YthjfedidpjfboaaLawP
import Derived.WalkKit
import Derived.WalkSpells
import Derived.WalkLawsBesides
import Derived.Deep.RegionHeld3
import Derived.Lib.Hide
/- ShareExpr: the program's walk. -/
namespace Go.Proofs.Ythjfedidpjfboaa
open Go.RowKit
set_option linter.unusedVariables false
set_option maxRecDepth 100000

theorem GS.c3 {t : TypeId} {rest : List Value} {q L : Nat} {xs : List Nd} {fl : Bool} {v u1 u2 : Value} {w : World} (h : GS t (u1 :: u2 :: rest) q L xs fl v w) : w.cell? ⟨q, 3, none⟩ = some u2 := by
  have := h.1; simp [World.cell?, this]
theorem GS.c4 {t : TypeId} {rest : List Value} {q L : Nat} {xs : List Nd} {fl : Bool} {v u1 u2 u3 : Value} {w : World} (h : GS t (u1 :: u2 :: u3 :: rest) q L xs fl v w) : w.cell? ⟨q, 4, none⟩ = some u3 := by
  have := h.1; simp [World.cell?, this]
/-- The state of the walk that shares. -/
def ShSt (E : Value) (n q g h L : Nat) (s : List Nd × List Int) (v : Value) (w : World) : Prop :=
  GS 153 [E, .slice (some ⟨g, 0, none⟩) n n, .slice (some ⟨h, 0, none⟩) n n] q L s.1 false v w ∧ IB w g 3 (plOf s.2) ∧ BB w h (seenOf s.2)
def ShK (q g h : Nat) (j : Nat) : Prop := j = q ∨ j = g ∨ j = h
theorem ShOk (E : Value) (n q g h L : Nat) : StOk (ShK q g h) L (ShSt E n q g h L) where
  lt := fun s v w hs j hj => by rcases hj with rfl | rfl | rfl; exact hs.1.lt; exact hs.2.1.lt; exact hs.2.2.lt
  own := fun s v w hs => hs.1.own
  keep := fun s v w w' hs hk hr => ⟨hs.1.keep (hk q (.inl rfl)) hr, (hk g (.inr (.inl rfl))).trans hs.2.1, (hk h (.inr (.inr rfl))).trans hs.2.2⟩

theorem shareWalk_enters (args : Array Value) (W : World) : Sem.run Try.prog (callFunc 144 args) W = .ok (.enter 144 args) W := by rfl

set_option maxHeartbeats 8000000 in
theorem shareWalk_any (L0 B q g h L C : Nat) (A : Option Addr) (c : Nat) (es : List Nd) (w0 : World) (hl : es.length ≤ 24) (hok : okFrom es 0 = true) (hes : NS w0 L0 B A es) (hBC : B ≤ C) (hC : C ≤ w0.heap.size) (hCq : C ≤ q) (hCg : C ≤ g) (hCh : C ≤ h) (hCL : C ≤ L) (hL : L ≤ w0.heap.size) (hqg : q ≠ g) (hqh : q ≠ h) (hgh : g ≠ h) (hgL : g < L) (hhL : h < L) (hqL : q < L) :
    ∀ (F i : Nat) (s : List Nd × List Int) (v : Value) (W : World), i < F → i < es.length → InvO es.length s → Below C w0 W → ShSt (.slice A es.length c) es.length q g h L s v W →
    Calls Try.prog 144 #[.pointer (some ⟨q, 0, none⟩), .int .i64 i] W fun e w' => e = .returned (.int .i64 (on es F i s).2) ∧ SP (ShK q g h) (ShSt (.slice A es.length c) es.length q g h L) v W (on es F i s).1 w' := by
  intro F
  induction F with
  | zero => intro i s v W hi; omega
  | succ F ih =>
    intro i s v W hi hie hI hb hs
    have hnd := ok_get hok hie
    obtain ⟨b, o, hA, ⟨_, hbB⟩, hcc⟩ := (hes.below hb hBC) (by omega)
    obtain ⟨c1, c2, c3, c4⟩ := hcc i hie
    subst hA
    have k0 : (0 : Int) ≤ (i : Int) := by omega
    have k1 : (i : Int) < (es.length : Int) := by omega
    have hbs := hb.size
    have hbC : b < C := by omega
    have hq3 := hs.1.c3
    have hq4 := hs.1.c4
    have hdl : i < s.2.length := by rw [hI.1]; exact hie
    have hsn := hs.2.2.cell i (by unfold seenOf; rw [List.length_map]; exact hdl)
    rw [seenOf_get hdl] at hsn
    by_cases h0 : 0 ≤ s.2.getD i 0
    · have e : on es (F + 1) i s = (s, s.2.getD i 0) := by rw [on, if_pos h0]
      rw [e]
      rw [decide_eq_true h0] at hsn
      have hpc := hs.2.1.cell i (by unfold plOf; rw [List.length_map]; exact hdl)
      have hpg : (plOf s.2)[i]'(by unfold plOf; rw [List.length_map]; exact hdl) = s.2.getD i 0 := by
        rw [← plOf_get h0 hdl, List.getD_eq_getElem?_getD, List.getElem?_eq_getElem (by unfold plOf; rw [List.length_map]; exact hdl)]; rfl
      rw [hpg] at hpc
      have HS := Lib.hid hs
      clear ih hes hcc hs hpg e c1 c2 c3 c4
      dsimp only
      generalize s.2.getD i 0 = d at *
      go_enter Try.func144, Try.ntmps144
      go_wp2
      go_ret
      exact ⟨rfl, v, HS.out, FrK.refl _ _ _, fun j hj => .inl hj⟩
    · rw [decide_eq_false h0] at hsn
      have hge := getD_nd hie
      have hE : on es (F + 1) i s = (((po1 (woG (on es F) es[i] s).1.1 (woG (on es F) es[i] s).2).1, (woG (on es F) es[i] s).1.2.set i (po1 (woG (on es F) es[i] s).1.1 (woG (on es F) es[i] s).2).2), (po1 (woG (on es F) es[i] s).1.1 (woG (on es F) es[i] s).2).2) := by rw [on, if_neg h0, hge]
      rw [hE]
      obtain ⟨r1, r2⟩ := (on_inv hok (F + 1) i s hi hie hI).2.2.2 (by omega) F rfl
      rw [hge] at r1 r2
      have r24 : (woG (on es F) es[i] s).1.1.length < 24 := by
        have h7 := r1.2
        have h8 := cntD_lt (by rw [r1.1]; exact hie) r2
        have h9 := r1.1
        omega
      have hri := po1_idx (woG (on es F) es[i] s).1.1 (woG (on es F) es[i] s).2
      have hWO := Lib.hid fun (W' : World) (hW : Below W.heap.size W W') => withOperands_abs 144 (on es F) (InvO es.length) (ShK q g h) L C i q (ShSt (.slice (some ⟨b, o, none⟩) es.length c) es.length q g h L) (ShOk _ _ _ _ _ _) es[i] s v w0 W' hnd hC (by rintro j (rfl | rfl | rfl) <;> assumption) hCL (hb.trans (hW.mono (by omega))) ((ShOk _ _ _ _ _ _).next hs hW) hI shareWalk_enters (fun a s' ha hi' => (on_inv hok F a s' (by omega) (by omega) hi').1) (fun a s' v' W1 ha hi' hb1 hs1 => ih a s' v' W1 (by omega) (by omega) hi' hb1 hs1)
      have hnode := Lib.hid fun (W3 : World) (h3 : Below C w0 W3) => (show W3.cell? ⟨b, o + i * 4, none⟩ = W.cell? ⟨b, o + i * 4, none⟩ ∧ W3.cell? ⟨b, o + i * 4 + 1, none⟩ = W.cell? ⟨b, o + i * 4 + 1, none⟩ ∧ W3.cell? ⟨b, o + i * 4 + 2, none⟩ = W.cell? ⟨b, o + i * 4 + 2, none⟩ ∧ W3.cell? ⟨b, o + i * 4 + 3, none⟩ = W.cell? ⟨b, o + i * 4 + 3, none⟩ from
        ⟨(h3.cell (p := ⟨b, _, none⟩) hbC).trans (hb.cell (p := ⟨b, _, none⟩) hbC).symm, (h3.cell (p := ⟨b, _, none⟩) hbC).trans (hb.cell (p := ⟨b, _, none⟩) hbC).symm, (h3.cell (p := ⟨b, _, none⟩) hbC).trans (hb.cell (p := ⟨b, _, none⟩) hbC).symm, (h3.cell (p := ⟨b, _, none⟩) hbC).trans (hb.cell (p := ⟨b, _, none⟩) hbC).symm⟩)
      have hfar := Lib.hid fun (W3 : World) (f3 : FrK (ShK q g h) v.ownBlock W W3) => (hb.trans (f3.below (B := C) (by omega) (by rintro j (rfl | rfl | rfl) <;> assumption) (fun j hj => Nat.le_trans hCL (hs.1.own j hj).1)) : Below C w0 W3)
      have hq2 := hs.1.c2
      have r1l := r1.1
      clear ih hcc hE hes hI r1 hge
      generalize woG (on es F) es[i] s = r at *
      obtain ⟨⟨xs3, ds3⟩, y3⟩ := r
      dsimp only at *
      have hPO := Lib.hid fun (v3 : Value) (W3 : World) (hz : L ≤ W3.heap.size) (h3 : GS 153 [.slice (some ⟨b, o, none⟩) es.length c, .slice (some ⟨g, 0, none⟩) es.length es.length, .slice (some ⟨h, 0, none⟩) es.length es.length] q L xs3 false v3 W3) => putOnce_any 153 _ q L xs3 v3 y3 W3 r24 hz h3
      generalize po1 xs3 y3 = pr at *
      obtain ⟨xs4, x4⟩ := pr
      dsimp only at *
      obtain ⟨op3, a3, b3, v3'⟩ := y3
      dsimp only at *
      generalize es[i] = nd at *
      obtain ⟨op, a, bb, x⟩ := nd
      dsimp only at *
      have hx4 := hri.1
      have hplS := Lib.hid (plOf_set ds3 i hx4)
      have hseS := Lib.hid (seenOf_set ds3 i hx4)
      have hpll : (plOf ds3).length = es.length := by unfold plOf; rw [List.length_map]; exact r1l
      have hsel : (seenOf ds3).length = es.length := by unfold seenOf; rw [List.length_map]; exact r1l
      clear hs hri
      go_enter Try.func144, Try.ntmps144
      go_wp2_with (fail)
      go_region_held3 (fun w' => w'.cell? ⟨q, 2, none⟩ = some (.slice (some ⟨b, o, none⟩) es.length c) ∧ w'.cell? ⟨q, 3, none⟩ = some (.slice (some ⟨g, 0, none⟩) es.length es.length) ∧ w'.cell? ⟨b, o + i * 4, none⟩ = some (.string op) ∧ w'.cell? ⟨b, o + i * 4 + 1, none⟩ = some (.int .i64 a) ∧ w'.cell? ⟨b, o + i * 4 + 2, none⟩ = some (.int .i64 bb) ∧ w'.cell? ⟨b, o + i * 4 + 3, none⟩ = some (.int .i64 x))
        (first | exact K5 | exact K4 | exact K3 | assumption | go_keep)
        (first
          | (go_at_call 182; (first | (with_reducible refine (hWO.out W.drew (Below.refl _ _).drew).mono ?_) | (with_reducible refine (hWO.out W (Below.refl _ _)).mono ?_)); rintro e w3 ⟨rfl, v3, ⟨s31, s32, s33⟩, f3', o3⟩; have f3 : FrK (ShK q g h) v.ownBlock W w3 := (by first | exact f3' | exact (FrK.refl _ _ W).drew.trans f3' (fun j hj => .inl hj)); have o3' : ∀ j, v3.ownBlock = some j → v.ownBlock = some j ∨ W.heap.size ≤ j := o3; have hz3 := f3.size; obtain ⟨n0, n1, n2, n3⟩ := hnode.out w3 (hfar.out w3 f3); have K3 := And.intro s31.c2 (And.intro s31.c3 (And.intro (n0.trans c1) (And.intro (n1.trans c2) (And.intro (n2.trans c3) (n3.trans c4))))))
          | (go_at_call 181; (with_reducible refine (hPO.out v3 _ (by omega) s31).mono ?_); rintro e w4 ⟨rfl, v4, g4, f4', o4⟩; have f4 : Fr q v3.ownBlock w3 w4 := f4'; have hvg : v3.ownBlock ≠ some g := (fun e => by have := (s31.own _ e).1; omega); have hvh : v3.ownBlock ≠ some h := (fun e => by have := (s31.own _ e).1; omega); have i4 : IB w4 g 3 (plOf ds3) := (f4.block g s32.lt (Ne.symm hqg) hvg).trans s32; have j4 : BB w4 h (seenOf ds3) := (f4.block h s33.lt (Ne.symm hqh) hvh).trans s33; have hv4g : v4.ownBlock ≠ some g := (fun e => by have := (g4.own _ e).1; omega); have hv4h : v4.ownBlock ≠ some h := (fun e => by have := (g4.own _ e).1; omega); have f44 := f3.trans (FrK.ofFr (K := ShK q g h) f4 (.inl rfl)) o3'; obtain ⟨l0, l1, l2, l3⟩ := hnode.out w4 (hfar.out w4 f44); have K4 := And.intro g4.c2 (And.intro g4.c3 (And.intro (l0.trans c1) (And.intro (l1.trans c2) (And.intro (l2.trans c3) (l3.trans c4))))); have s1' := i4.cell i (by omega); have s2' := i4.frozen i; have g5 := g4.other (p := ⟨g, i, none⟩) (Ne.symm hqg) hv4g (.int .i64 x4); have i5 := i4.set i x4; have j5 := j4.other (q := g) i (.int .i64 x4) hgh; have f5 := f44.set (p := ⟨g, i, none⟩) (.inr (.inl rfl)) (.int .i64 x4); obtain ⟨r0, r1', r2', r3'⟩ := hnode.out _ (hfar.out _ f5); have K5 := And.intro g5.c2 (And.intro g5.c3 (And.intro (r0.trans c1) (And.intro (r1'.trans c2) (And.intro (r2'.trans c3) (r3'.trans c4)))))))
      all_goals
        have G5 := Lib.hid g5
        have I5 := Lib.hid i5
        have J5 := Lib.hid j5
        have F5 := Lib.hid f5
        have HV := Lib.hid hv4h
        have O4 : Hid (∀ j, v4.ownBlock = some j → v.ownBlock = some j ∨ W.heap.size ≤ j) := fun j hj => by
          rcases o4 j hj with e | e
          · exact o3' j e
          · exact .inr (Nat.le_trans hz3 e)
        clear g5 i5 j5 f5 f44 hv4g hv4h hvg hvh i4 j4 s1' s2' K3 K4 K5 n0 n1 n2 n3 l0 l1 l2 l3 r0 r1' r2' r3' g4 f4' f4 o4 s31 s32 s33 f3 f3' o3 o3' c1 c2 c3 c4 hq2 hq3 hq4 hsn
        generalize w4.setCell ⟨g, i, none⟩ (.int .i64 x4) = W5 at *
        have q4 := G5.out.c4
        have t1 := J5.out.cell i (by rw [hsel]; exact hie)
        have t2 := J5.out.frozen i
        have g6 := G5.out.other (p := ⟨h, i, none⟩) (Ne.symm hqh) HV.out (.bool true)
        have i6 : IB (W5.setCell ⟨h, i, none⟩ (.bool true)) g 3 ((plOf ds3).set i x4) := (Below.heap_setCell W5 ⟨h, i, none⟩ (.bool true) g (by simpa using hgh)).trans I5.out
        have j6 := J5.out.set i true
        have G6 := Lib.hid g6
        have I6 := Lib.hid i6
        have J6 := Lib.hid j6
        have q3' := g6.c3
        have u1 := i6.cell i (by rw [List.length_set, hpll]; exact hie)
        rw [List.getElem_set_self] at u1
        clear g6 i6 j6
        go_wp2
        go_ret
        refine ⟨rfl, v4, ⟨G6.out, ?_, ?_⟩, F5.out.set (p := ⟨h, i, none⟩) (.inr (.inr rfl)) _, O4.out⟩
        · rw [← hplS.out]; exact I6.out
        · rw [← hseS.out]; exact J6.out
end Go.Proofs.Ythjfedidpjfboaa
