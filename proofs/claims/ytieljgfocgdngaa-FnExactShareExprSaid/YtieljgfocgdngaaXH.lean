import Derived.Test.YtieljgfocgdngaaXG
import Derived.Test.YtieljgfocgdngaaLawP
import Derived.WalkKit
import Derived.WalkSpells
import Derived.WalkLawsBesides
import Derived.Deep.RegionHeld3
import Derived.Lib.Hide
/- ExpandExpr: the program. -/
namespace Go.Proofs.Ytieljgfocgdngaa
open Go.RowKit
set_option linter.unusedVariables false
set_option maxRecDepth 100000

theorem expWalk_enters (args : Array Value) (W : World) : Sem.run Try.prog (callFunc 63 args) W = .ok (.enter 63 args) W := by rfl

set_option maxHeartbeats 4000000 in
theorem expWalk_any (L0 B q L C : Nat) (A : Option Addr) (c : Nat) (es : List Nd) (w0 : World) (hl : es.length ≤ 24) (hok : okFrom es 0 = true) (hes : NS w0 L0 B A es) (hBC : B ≤ C) (hC : C ≤ w0.heap.size) (hCq : C ≤ q) (hCL : C ≤ L) (hL : L ≤ w0.heap.size) :
    ∀ (F i : Nat) (s : List Nd × Bool) (v : Value) (W : World), i < F → i < es.length → Below C w0 W → GS 72 [.slice A es.length c] q L s.1 s.2 v W →
    Calls Try.prog 63 #[.pointer (some ⟨q, 0, none⟩), .int .i64 i] W fun e w' => e = .returned (.int .i64 (ew es F i s).2) ∧ GP 72 [.slice A es.length c] q L v W (ew es F i s).1 w' := by
  intro F
  induction F with
  | zero => intro i s v W hi; omega
  | succ F ih =>
    intro i s v W hi hie hb hs
    obtain ⟨xs, fl⟩ := s
    dsimp only at hs
    cases fl with
    | true =>
      rw [ew_failed]
      have c1 := hs.c1
      have G := Lib.hid (GP.refl hs)
      clear hs ih hb hes
      go_enter Try.func63, Try.ntmps63
      go_wp2
      go_ret
      exact ⟨rfl, G.out⟩
    | false =>
      have hE : ew es (F + 1) i (xs, false) = bp (woN (ew es F) es[i] (xs, false)).1 (woN (ew es F) es[i] (xs, false)).2 := by rw [ew, if_neg (by simp), getD_nd hie]
      rw [hE]
      have hnd := ok_get hok hie
      obtain ⟨b, o, hA, ⟨_, hbB⟩, hcc⟩ := (hes.below hb hBC) (by omega)
      obtain ⟨c1, c2, c3, c4⟩ := hcc i hie
      subst hA
      have hbs := hb.size
      have hWO := Lib.hid fun (W' : World) (hW : Below W.heap.size W W') => withOperands_gen 63 (ew es F) 72 [.slice (some ⟨b, o, none⟩) es.length c] q L C i es[i] (xs, false) v w0 W' hnd hC hCq hCL (hb.trans (hW.mono (by omega))) (hs.next hW) expWalk_enters (fun a s v W1 ha hb1 hs1 => ih a s v W1 (by omega) (by omega) hb1 hs1)
      have hPut := Lib.hid fun (s' : List Nd × Bool) (v' : Value) (y : Nd) (W' : World) (hz : W.heap.size ≤ W'.heap.size) (h' : GS 72 [.slice (some ⟨b, o, none⟩) es.length c] q L s'.1 s'.2 v' W') => put_gen 72 [.slice (some ⟨b, o, none⟩) es.length c] q L s' v' y W' (by omega) h'
      have q1 := hs.c1
      have q2 := hs.c2
      have k0 : (0 : Int) ≤ (i : Int) := by omega
      have k1 : (i : Int) < (es.length : Int) := by omega
      have hfar := Lib.hid fun (W3 : World) (f3 : Fr q v.ownBlock W W3) => (hb.trans (f3.below (B := C) (by omega) hCq (fun j hj => Nat.le_trans hCL (hs.own j hj).1)) : Below C w0 W3)
      have hnode := Lib.hid fun (W3 : World) (h3 : Below C w0 W3) => show W3.cell? ⟨b, o + i * 4, none⟩ = W.cell? ⟨b, o + i * 4, none⟩ ∧ W3.cell? ⟨b, o + i * 4 + 1, none⟩ = W.cell? ⟨b, o + i * 4 + 1, none⟩ ∧ W3.cell? ⟨b, o + i * 4 + 2, none⟩ = W.cell? ⟨b, o + i * 4 + 2, none⟩ ∧ W3.cell? ⟨b, o + i * 4 + 3, none⟩ = W.cell? ⟨b, o + i * 4 + 3, none⟩ from
        ⟨(h3.cell (p := ⟨b, _, none⟩) (by show b < C; omega)).trans (hb.cell (p := ⟨b, _, none⟩) (by show b < C; omega)).symm, (h3.cell (p := ⟨b, _, none⟩) (by show b < C; omega)).trans (hb.cell (p := ⟨b, _, none⟩) (by show b < C; omega)).symm, (h3.cell (p := ⟨b, _, none⟩) (by show b < C; omega)).trans (hb.cell (p := ⟨b, _, none⟩) (by show b < C; omega)).symm, (h3.cell (p := ⟨b, _, none⟩) (by show b < C; omega)).trans (hb.cell (p := ⟨b, _, none⟩) (by show b < C; omega)).symm⟩
      have hGt := Lib.hid fun (v3 : Value) (W3 W4 : World) (s4 : List Nd × Bool) (f3 : Fr q v.ownBlock W W3) (o3 : ∀ j, v3.ownBlock = some j → v.ownBlock = some j ∨ W.heap.size ≤ j) (g4 : GP 72 [.slice (some ⟨b, o, none⟩) es.length c] q L v3 W3 s4 W4) => GP.trans f3 o3 g4
      clear ih hcc hs hes hE
      generalize woN (ew es F) es[i] (xs, false) = r at *
      generalize es[i] = nd at *
      obtain ⟨s3, op3, a3, b3, x3⟩ := r
      obtain ⟨op, a, bb, x⟩ := nd
      dsimp only at hWO hnode c1 c2 c3 c4 ⊢
      go_enter Try.func63, Try.ntmps63
      go_wp2_with (fail)
      go_region_held3 (fun w' => w'.cell? ⟨q, 2, none⟩ = some (.slice (some ⟨b, o, none⟩) es.length c) ∧ w'.cell? ⟨b, o + i * 4, none⟩ = some (.string op) ∧ w'.cell? ⟨b, o + i * 4 + 1, none⟩ = some (.int .i64 a) ∧ w'.cell? ⟨b, o + i * 4 + 2, none⟩ = some (.int .i64 bb) ∧ w'.cell? ⟨b, o + i * 4 + 3, none⟩ = some (.int .i64 x))
        (first | assumption | exact ⟨keepQ, keep0, keep1, keep2, keep3⟩ | exact ⟨lastQ, last0, last1, last2, last3⟩ | go_keep)
        (first
          | (go_at_call 103; refine (hWO.out _ (by first | exact Below.refl _ _ | exact (Below.refl _ _).drew)).mono ?_; rintro e w3 ⟨rfl, v3, g3, f3', o3'⟩; have f3 : Fr q v.ownBlock W w3 := (by first | exact f3' | exact (Fr.refl q _ W).drew.trans f3' (fun j hj => .inl hj)); have o3 : ∀ j, v3.ownBlock = some j → v.ownBlock = some j ∨ W.heap.size ≤ j := o3'; have hz3 := f3.size; have keepQ := g3.c2; obtain ⟨n0, n1, n2, n3⟩ := hnode.out w3 (hfar.out w3 f3); have keep0 := n0.trans c1; have keep1 := n1.trans c2; have keep2 := n2.trans c3; have keep3 := n3.trans c4)
          | (go_at_call 102; refine (hPut.out s3 v3 ⟨op3, a3, b3, x3⟩ _ hz3 g3).mono ?_; rintro e w4 ⟨rfl, g4⟩; obtain ⟨v4, h4, f4, o4⟩ := hGt.out v3 w3 w4 _ f3 o3 g4; have lastQ := h4.c2; obtain ⟨n0', n1', n2', n3'⟩ := hnode.out w4 (hfar.out w4 f4); have last0 := n0'.trans c1; have last1 := n1'.trans c2; have last2 := n2'.trans c3; have last3 := n3'.trans c4))
      all_goals
        have H := Lib.hid g4
        have H4 := Lib.hid h4
        have F4 := Lib.hid f4
        have O4 := Lib.hid o4
        clear g4 h4 f4 o4 g3 f3 f3' o3 o3' keepQ keep0 keep1 keep2 keep3 lastQ last0 last1 last2 last3 n0 n1 n2 n3 n0' n1' n2' n3'
        go_wp2
        go_ret
        exact ⟨rfl, v4, H4.out, F4.out, O4.out⟩

set_option maxHeartbeats 4000000 in
theorem built_any (t : TypeId) (rest : List Value) (q L : Nat) (xs : List Nd) (v : Value) (w : World) (hs : GS t rest q L xs false v w) :
    Calls Try.prog 64 #[.pointer (some ⟨q, 0, none⟩)] w fun e w' => e = .returned (.tuple #[v, .bool true]) ∧ w' = w := by
  have c0 := hs.c0
  have c1 := hs.c1
  clear hs
  go_enter Try.func64, Try.ntmps64
  go_wp2
  go_ret2
  exact ⟨rfl, rfl⟩
theorem built_failed (t : TypeId) (rest : List Value) (q L : Nat) (xs : List Nd) (v : Value) (w : World) (hs : GS t rest q L xs true v w) :
    Calls Try.prog 64 #[.pointer (some ⟨q, 0, none⟩)] w fun e w' => e = .returned (.tuple #[.slice none 0 0, .bool false]) ∧ w' = w := by
  have c1 := hs.c1
  clear hs
  go_enter Try.func64, Try.ntmps64
  go_wp2
  go_ret2
  exact ⟨rfl, rfl⟩

set_option maxHeartbeats 4000000 in
theorem iExpandExpr_any (L B : Nat) (A : Option Addr) (c : Nat) (es : List Nd) (w : World) (hl : es.length ≤ 1048576) (hes : NS w L B A es) (hB : B ≤ w.heap.size) :
    Calls Try.prog 25 #[.slice A es.length c] w (ResExpandExpr (expandR es) (expandOk es) w) := by
  have H := Lib.hid (IsExpr_any L B A c es w hl hes hB)
  cases hg : good es
  · have hK : Hid (expandOk es = false) := by simp [Hid, expandOk, hg]
    have hR : Hid (expandR es = []) := by simp [Hid, expandR, hK.out]
    rw [hg] at H
    clear hg hes
    go_enter Try.func25, Try.ntmps25
    go_wp2_with (fail)
    refine H.out.mono ?_
    rintro e w2 ⟨rfl, hb⟩
    have hbb := Lib.hid hb
    clear hb
    go_wp2_with (fail)
    go_ret2
    rw [hR.out, hK.out]
    exact ⟨none, 0, rfl, OK.nil _ _ _ _, hbb.out⟩
  · obtain ⟨hl1, hl24, hok⟩ := good_len hg
    have hX := Lib.hid (expand_ew hg)
    have hE := Lib.hid hes
    have hOk := Lib.hid hok
    rw [hg] at H
    clear hg hes hok
    obtain ⟨m, hm⟩ : ∃ m, es.length = m + 1 := ⟨es.length - 1, by omega⟩
    have hM := Lib.hid hm
    have hm0 : (0 : Int) ≤ (es.length : Int) - 1 := by omega
    have hmi : (es.length : Int) - 1 = (m : Int) := by omega
    have hMI := Lib.hid hmi
    clear hm hmi
    go_enter Try.func25, Try.ntmps25
    go_wp2_with (fail)
    refine H.out.mono ?_
    rintro e w2 ⟨rfl, hb⟩
    have hb2 := Lib.hid hb
    obtain ⟨W3, hW3⟩ : ∃ W3, W3 = w2.alloc (.cells #[.slice none 0 0, .bool false, .slice A es.length c] 72) := ⟨_, rfl⟩
    have b3 : Below w2.heap.size w2 W3 := by rw [hW3]; exact (Below.refl _ _).alloc (Nat.le_refl _) _
    have G3 : Hid (GS 72 [.slice A es.length c] w2.heap.size (w2.heap.size + 1) [] false (.slice none 0 0) W3) := by
      unfold Hid; rw [hW3]; exact GS.nil _ _ _ _ _
    have z3 : W3.heap.size = w2.heap.size + 1 := by rw [hW3]; simp
    have zb := hb.size
    have B3 := Lib.hid (hb.trans (b3.mono zb))
    have hW := Lib.hid (expWalk_any L B w2.heap.size (w2.heap.size + 1) w.heap.size A c es W3 hl24 hOk.out (hE.out.below B3.out hB) hB (by omega) zb (by omega) (by omega) es.length (es.length - 1) ([], false) (.slice none 0 0) W3 (by omega) (by omega) (Below.refl _ _) G3.out)
    have hmm : es.length - 1 = m := by have := hM.out; omega
    rw [hmm] at hW hX
    have E3 := Lib.hid hW3
    clear hb hW3 b3
    go_wp2_with (fail)
    rw [hMI.out]
    rw [← E3.out]
    refine hW.out.mono ?_
    rintro e w4 ⟨rfl, v4, g4, f4, o4⟩
    have bb4 := Lib.hid (B3.out.trans (f4.below (B := w.heap.size) (by omega) zb (fun j hj => by simp [Value.ownBlock] at hj)))
    have O4 := Lib.hid o4
    have z4 := f4.size
    rcases hX.out with ⟨hk, r, hx⟩ | ⟨hk, hr, zs, r, hx⟩
    · rw [hx] at g4
      have G4 := Lib.hid g4
      have hK := Lib.hid hk
      clear g4 hk hx f4 o4
      have hBu := Lib.hid (built_any _ _ _ _ _ _ _ G4.out)
      go_wp2_with (fail)
      refine hBu.out.mono ?_
      rintro e w5 ⟨rfl, rfl⟩
      obtain ⟨A5, c5, rfl⟩ := G4.out.form
      go_wp2_with (fail)
      go_ret2
      rw [hK.out]
      exact ⟨A5, c5, rfl, G4.out.ok.lower (by omega), bb4.out⟩
    · rw [hx] at g4
      have G4 := Lib.hid g4
      have hK := Lib.hid hk
      have hR := Lib.hid hr
      clear g4 hk hr hx f4 o4
      have hBu := Lib.hid (built_failed _ _ _ _ _ _ _ G4.out)
      go_wp2_with (fail)
      refine hBu.out.mono ?_
      rintro e w5 ⟨rfl, rfl⟩
      go_wp2_with (fail)
      go_ret2
      rw [hK.out, hR.out]
      exact ⟨none, 0, rfl, OK.nil _ _ _ _, bb4.out⟩
theorem iExpandExpr_k (L B : Nat) (A : Option Addr) (c : Nat) (es : List Nd) (w : World) (hl : es.length ≤ 1048576) (hes : RS Nd.enc 4 w L B A es) (hB : B ≤ w.heap.size) (hc : es.length ≤ c) :
    Calls Try.prog 25 #[.slice A es.length c] w (ResExpandExpr (expandR es) (expandOk es) w) := iExpandExpr_any L B A c es w hl hes.ns hB
end Go.Proofs.Ytieljgfocgdngaa
