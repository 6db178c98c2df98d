/- Texts of this proof, one behind the other: SE, SF, SG, SI, OC. -/
import Derived.Test.YthjfedidpjfboaaSC
import Derived.Test.YthjfedidpjfboaaBO
import Derived.WalkKit
import Derived.WalkSpells
import Derived.WalkLawsBesides
import Derived.RangeFuncNested
import Derived.Lib.Hide
import Derived.Test.YthjfedidpjfboaaLawVA
import Derived.Deep.RegionHeld3
import Derived.Deep.RegionLaw
import Derived.Test.YthjfedidpjfboaaCG
import Derived.Test.YthjfedidpjfboaaKMInstr
import Derived.ProofKit
import Derived.OpenShut
import Derived.ShutString
import Derived.ChangeOld
import Derived.Below
import Derived.Deep.Slices
import Derived.Deep.Fields
/- (*swapper).swap of the program. -/
namespace Go.Proofs.Ythjfedidpjfboaa
open Go.RowKit
set_option linter.unusedVariables false
set_option maxRecDepth 100000

theorem grownBy_setCell1 (W : World) (b : Nat) (v : Value) : W.grownBy (W.setCell ⟨b, 1, none⟩ v) (some b) :=
  ⟨rfl, rfl, rfl, (KeepsWalks.setCell W _ v).size, fun k _ hk => Below.heap_setCell _ _ _ k (fun e => hk (by rw [e]))⟩
theorem own_ne_cb {w : World} {base size m b : Nat} {e t : TypeId} {v : Value} {cur xs : List Value} (h : w.ownsRow base e size v m xs) (hb : CB t w b cur) (hne : e ≠ t) : v.ownBlock ≠ some b := by
  intro hv
  rcases h.2 with ⟨rfl, _⟩ | ⟨g, cap, cur', rfl, _, hh, _⟩
  · simp [Value.ownBlock] at hv
  · have e1 : g = b := by simpa [Value.ownBlock] using hv
    subst e1
    unfold CB at hb
    rw [hh] at hb
    injection hb with hb
    injection hb with _ h9
    exact hne h9
theorem row_ne2 {w : World} {L1 L2 k1 k2 n1 n2 : Nat} {t1 t2 : TypeId} {v1 v2 : Value} {x1 x2 : List Value} (h1 : w.ownsRow L1 t1 k1 v1 n1 x1) (h2 : w.ownsRow L2 t2 k2 v2 n2 x2) (ht : t1 ≠ t2) : ∀ j, v1.ownBlock = some j → v2.ownBlock ≠ some j := by
  intro j e1 e2
  rcases h1.2 with ⟨rfl, _⟩ | ⟨g, cap, cur, rfl, _, hh, _⟩
  · simp [Value.ownBlock] at e1
  · rcases h2.2 with ⟨rfl, _⟩ | ⟨g', cap', cur', rfl, _, hh', _⟩
    · simp [Value.ownBlock] at e2
    · have a1 : g = j := by simpa [Value.ownBlock] using e1
      have a2 : g' = j := by simpa [Value.ownBlock] using e2
      subst a1; subst a2
      rw [hh] at hh'; injection hh' with hh'; injection hh' with _ h9
      exact ht h9
/-- Code that is read: an argument's (below n0), or one of the call's own. -/
def CodeAt (w : World) (n0 : Nat) (o : Bool) (V : Value) (es : List In) : Prop := ∃ A c, V = .slice A es.length c ∧ ((o = false ∧ RS In.enc 5 w 0 n0 A es) ∨ OK In.enc 5 90 w n0 w.heap.size V es)
theorem CodeAt.form {w : World} {n0 : Nat} {o : Bool} {V : Value} {es : List In} (h : CodeAt w n0 o V es) (hn : n0 ≤ w.heap.size) : ∃ A c, V = .slice A es.length c ∧ RS In.enc 5 w 0 w.heap.size A es := by
  obtain ⟨A, c, rfl, ⟨ho, h⟩ | h⟩ := h
  · exact ⟨A, c, rfl, h.more (Nat.le_refl _) hn⟩
  · obtain ⟨A', c', e, hr⟩ := h.form In.hk
    injection e with e1 e2 e3
    subst e1
    exact ⟨A, c, rfl, hr.more (Nat.zero_le _) (Nat.le_refl _)⟩
theorem CodeAt.own {w : World} {n0 : Nat} {V : Value} {es : List In} (h : CodeAt w n0 true V es) : ∃ A c, V = .slice A es.length c ∧ OK In.enc 5 90 w n0 w.heap.size V es := by
  obtain ⟨A, c, rfl, ⟨ho, h⟩ | h⟩ := h
  · cases ho
  · exact ⟨A, c, rfl, h⟩
theorem CodeAt.below {w w' : World} {n0 : Nat} {o : Bool} {V : Value} {es : List In} (h : CodeAt w n0 o V es) (hn : n0 ≤ w.heap.size) (hb : Below w.heap.size w w') : CodeAt w' n0 o V es := by
  obtain ⟨A, c, rfl, ⟨ho, h⟩ | h⟩ := h
  · exact ⟨A, c, rfl, .inl ⟨ho, h.below hb hn⟩⟩
  · exact ⟨A, c, rfl, .inr ((h.below hb (Nat.le_refl _)).more hb.size)⟩
/-- One block turns, or grows, that is not the code's own. -/
theorem CodeAt.grown {w w' : World} {n0 : Nat} {o : Bool} {V : Value} {es : List In} {row : Option Nat} (h : CodeAt w n0 o V es) (hn : n0 ≤ w.heap.size) (hg : w.grownBy w' row) (h0 : ∀ j, row = some j → n0 ≤ j) (hne : ∀ (L : Nat) (n : Nat) (xs : List Value), w.ownsRow L 90 5 V n xs → V.ownBlock = none ∨ V.ownBlock ≠ row) : CodeAt w' n0 o V es := by
  obtain ⟨A, c, rfl, ⟨ho, h⟩ | h⟩ := h
  · exact ⟨A, c, rfl, .inl ⟨ho, h.keep fun p _ hp => World.cell?_of_block (w := w) (hg.block _ (by omega) (fun e => by have := h0 _ e.symm; omega))⟩⟩
  · exact ⟨A, c, rfl, .inr (OK.more ⟨h.1.kept hg (hne _ _ _ h.1), h.2⟩ hg.size)⟩

/-- A swapper in its box: the code, and the path of the call's own. -/
structure SwSt (w0 : World) (g : Nat) (o : Bool) (V P : Value) (es : List In) (p : List Int) (w : World) : Prop where
  hg : w0.heap.size ≤ g
  bx : CB 94 w g [V, P]
  code : CodeAt w w0.heap.size o V es
  path : OW w (g + 1) w.heap.size P p
  be : Below w0.heap.size w0 w
theorem SwSt.below {w0 w w' : World} {g : Nat} {o : Bool} {V P : Value} {es : List In} {p : List Int} (h : SwSt w0 g o V P es p w) (hb : Below w.heap.size w w') : SwSt w0 g o V P es p w' :=
  ⟨h.hg, h.bx.below hb h.bx.lt, h.code.below h.be.size hb, (h.path.below hb (Nat.le_refl _)).more hb.size, h.be.trans (hb.mono h.be.size)⟩
theorem SwSt.setCode {w0 w : World} {g : Nat} {o o' : Bool} {V P V' : Value} {es es' : List In} {p : List Int} (h : SwSt w0 g o V P es p w) (hc : CodeAt w w0.heap.size o' V' es') : SwSt w0 g o' V' P es' p (w.setCell ⟨g, 0, none⟩ V') := by
  have hg := h.hg
  have gr := grownBy_setCell' w g V'
  have hz : (w.setCell ⟨g, 0, none⟩ V').heap.size = w.heap.size := World.size_setCell _ _ _
  have hx := h.bx.set 0 V'
  refine ⟨hg, by simpa using hx, ?_, ?_, h.be.setCell (p := ⟨g, 0, none⟩) hg V'⟩
  · have := hc.grown h.be.size gr (fun j e => by cases e; exact hg) (fun L n xs ho => .inr (own_ne_cb ho h.bx (by decide)))
    exact this
  · have := h.path.chg ((Chg.refl g (g + 1) w).setCell (p := ⟨g, 0, none⟩) ⟨Nat.le_refl _, Nat.lt_succ_self _⟩ V') (.inr (Nat.le_refl _))
    rw [hz]; exact this
theorem SwSt.push {w0 w w' : World} {g : Nat} {o : Bool} {V P P' : Value} {es : List In} {p : List Int} {i : Int} (h : SwSt w0 g o V P es p w) (hown : w'.ownsRow (g + 1) 3 1 P' (p.length + 1) (p.map (Value.int .i64) ++ [.int .i64 i])) (hgr : w.grownBy w' P.ownBlock) : SwSt w0 g o V P' es (p ++ [i]) (w'.setCell ⟨g, 1, none⟩ P') := by
  have hg := h.hg
  have hlo := h.path.lo
  have hne : P.ownBlock ≠ some g := own_ne_cb h.path.1 h.bx (by decide)
  have hb1 : CB 94 w' g [V, P] := (hgr.block g h.bx.lt (fun e => hne e.symm)).trans h.bx
  have hc1 : CodeAt w' w0.heap.size o V es := h.code.grown h.be.size hgr (fun j e => by have := (hlo j e).1; omega) (fun L n xs ho => by
    rcases hV : V.ownBlock with _ | j
    · exact .inl rfl
    · exact .inr (fun e => row_ne2 ho h.path.1 (by decide) j hV e.symm))
  have hz : (w'.setCell ⟨g, 1, none⟩ P').heap.size = w'.heap.size := World.size_setCell _ _ _
  have hbe := h.be.grown hgr h.be.size (fun j e => by have := (hlo j e).1; omega)
  have hx := hb1.set 1 P'
  refine ⟨hg, by simpa using hx, ?_, ?_, hbe.setCell (p := ⟨g, 1, none⟩) hg P'⟩
  · exact hc1.grown hbe.size (grownBy_setCell1 w' g P') (fun j e => by cases e; exact hg) (fun L n xs ho => .inr (own_ne_cb ho hb1 (by decide)))
  · have := (OW.push hown).chg ((Chg.refl g (g + 1) w').setCell (p := ⟨g, 1, none⟩) ⟨Nat.le_refl _, Nat.lt_succ_self _⟩ P') (.inr (Nat.le_refl _))
    rw [hz]; exact this

def SwRet (w0 : World) (g : Nat) (o : Option Mv) (e : Ending) (w' : World) : Prop := e = .returned (.bool o.isSome) ∧ Below w0.heap.size w0 w' ∧ ∀ s, o = some s → ∃ V' P', SwSt w0 g true V' P' s.1 s.2 w'
theorem mvS_no {st : Mv} {i : Int} (h : swOk st.1 i = false) : mvS st i = none := by unfold mvS; rw [if_neg]; rintro ⟨h1, _⟩; rw [h] at h1; cases h1
theorem mvS_full {st : Mv} {i : Int} (h : st.2.length = 100) : mvS st i = none := by unfold mvS; rw [if_neg]; rintro ⟨_, h1⟩; exact h1 h
theorem mvS_yes {st : Mv} {i : Int} (h : swOk st.1 i = true) (h2 : st.2.length ≠ 100) : mvS st i = some (swapR st.1 i, st.2 ++ [i]) := by unfold mvS; rw [if_pos ⟨h, h2⟩]

set_option maxHeartbeats 4000000 in
theorem swap_any (w0 : World) (g : Nat) (o : Bool) (V P : Value) (es : List In) (p : List Int) (i : Int) (w : World) (hl : es.length ≤ 1048576) (hp : p.length ≤ 100) (h : SwSt w0 g o V P es p w) :
    Calls Try.prog 85 #[.pointer (some ⟨g, 0, none⟩), .int .i64 i] w (SwRet w0 g (mvS (es, p) i)) := by
  obtain ⟨i0, hi, hz0, hz1, hz2⟩ := info_parts Try.infoInt
  have hI := Lib.hid hi
  have hZ0 := Lib.hid hz0
  have hZ1 := Lib.hid hz1
  have hZ2 := Lib.hid hz2
  clear hi hz0 hz1 hz2
  obtain ⟨A, c, rfl, hrs⟩ := h.code.form h.be.size
  obtain ⟨PA, pc, rfl, _⟩ := h.path.form
  have hSw := Lib.hid (iSwap_any 0 w.heap.size A c es i w hl hrs (Nat.le_refl _))
  have hSt := Lib.hid h
  have u0 := h.bx.cell 0
  simp only [List.getElem?_cons_zero] at u0
  clear h hrs
  go_enter Try.func85, Try.ntmps85
  go_wp2_with (fail)
  refine hSw.out.mono ?_
  rintro e w1 ⟨A1, c1, rfl, ho1, hb1⟩
  have h1 := hSt.out.below hb1
  have hBe := Lib.hid h1.be
  have hS1 := Lib.hid h1
  have hC1 : Hid (CodeAt w1 w0.heap.size true (.slice A1 (swapR es i).length c1) (swapR es i)) := ⟨A1, c1, rfl, .inr (ho1.lower hSt.out.be.size)⟩
  have v1 := h1.bx.cell 1
  have v0 := h1.bx.cell 0
  have f0 := h1.bx.frozen 0
  have f1 := h1.bx.frozen 1
  simp only [List.getElem?_cons_zero, List.getElem?_cons_succ] at v1 v0
  clear u0 hSw ho1 hb1 h1 hSt
  cases hs : swOk es i
  · have hN := Lib.hid (mvS_no (st := (es, p)) hs)
    clear hs
    go_wp2
    go_ret
    exact ⟨by rw [hN.out]; rfl, hBe.out, fun s e => by rw [hN.out] at e; cases e⟩
  by_cases h100 : p.length = 100
  · have hN := Lib.hid (mvS_full (st := (es, p)) (i := i) h100)
    have hq : ((p.length : Int) == 100) = true := by simp; omega
    clear hs h100
    go_wp2
    go_ret
    exact ⟨by rw [hN.out]; rfl, hBe.out, fun s e => by rw [hN.out] at e; cases e⟩
  have hN := Lib.hid (mvS_yes (st := (es, p)) hs h100)
  have hq : ((p.length : Int) == 100) = false := by simp; omega
  have hS2 := Lib.hid (hS1.out.setCode hC1.out)
  have hpl : p.length < 100 := by omega
  clear hs h100 v1 v0 f0 f1
  have v1 := hS1.out.bx.cell 1
  have v0 := hS1.out.bx.cell 0
  have f0 := hS1.out.bx.frozen 0
  have w1' := hS2.out.bx.cell 1
  have g1 := hS2.out.bx.frozen 1
  simp only [List.getElem?_cons_zero, List.getElem?_cons_succ] at v1 v0 w1'
  have A3 := (Below.refl (w1.setCell ⟨g, 0, none⟩ (.slice A1 (swapR es i).length c1)).heap.size _).alloc (Nat.le_refl _) (.cells #[.int .i64 i] 3)
  have hS3 := Lib.hid (hS2.out.below A3)
  have hO3 := Lib.hid hS3.out.path.1
  have hBx3 := Lib.hid hS3.out.bx
  have hzz : Hid (g + 1 ≤ ((w1.setCell ⟨g, 0, none⟩ (.slice A1 (swapR es i).length c1)).alloc (.cells #[.int .i64 i] 3)).heap.size) := hS3.out.bx.lt
  clear A3
  go_wp2_with (at_builtin; go_loud (refine wpList_append_own _ rfl _ _ 32 rfl (g + 1) 3 i0 (.int .i64 0) 1 8 Try.underlying32 hI.out hZ0.out hZ1.out hZ2.out rfl (by decide) _ p.length _ rfl hO3.out ⟨w1.heap.size, 0, none⟩ 1 1 [.int .i64 i] rfl rfl (new1 (World.size_setCell _ _ _)) (one1 _) (by unfold maxLen; omega) (by omega) hzz.out ?_); intro v' w4 hown4 hgr4 _; have hb4 : CB 94 w4 g [.slice A1 (swapR es i).length c1, .slice PA p.length pc] := (hgr4.block g hBx3.out.lt (fun e => own_ne_cb hO3.out hBx3.out (by decide) e.symm)).trans hBx3.out; have f4 := hb4.frozen 1; have x4 := hb4.cell 1; simp only [List.getElem?_cons_zero, List.getElem?_cons_succ] at x4; obtain ⟨ga, ca, rfl⟩ := ownsRow_succ hown4)
  have hFin := Lib.hid (hS3.out.push hown4 hgr4)
  clear hown4 hgr4 hb4
  go_ret
  refine ⟨by rw [hN.out]; rfl, hFin.out.be, fun s e => ?_⟩
  rw [hN.out] at e
  injection e with e
  subst e
  exact ⟨_, _, hFin.out⟩
end Go.Proofs.Ythjfedidpjfboaa

/- isBlock, FollowPath of the program. -/
namespace Go.Proofs.Ythjfedidpjfboaa
open Go.RowKit
set_option linter.unusedVariables false
set_option maxRecDepth 100000

theorem isBlock_any (L B : Nat) (A : Option Addr) (c : Nat) (es : List In) (w : World) (hl : es.length ≤ 1048576) (hes : RS In.enc 5 w L B A es) (hB : B ≤ w.heap.size) :
    Calls Try.prog 83 #[.slice A es.length c] w fun e w' => e = .returned (.bool (blkOk es)) ∧ Below w.heap.size w w' := by
  have H := Lib.hid (IsCode_any L B A c es w hl hes hB)
  have hk : Hid (blkOk es = (decide (es.length ≤ 20) && okCode es)) := rfl
  have b0 := Lib.hid (Below.refl w.heap.size w)
  clear hes
  generalize blkOk es = r at *
  generalize okCode es = q at *
  by_cases h20 : es.length ≤ 20
  · have h1 : (es.length : Int) ≤ 20 := by omega
    have h2 : decide (es.length ≤ 20) = true := decide_eq_true h20
    rw [h2] at hk
    clear h2
    go_enter Try.func83, Try.ntmps83
    go_wp2_with (fail)
    refine H.out.mono ?_
    rintro e w1 ⟨rfl, hb⟩
    have hbh := Lib.hid hb
    clear hb
    go_wp2
    go_ret
    exact ⟨by rw [hk.out]; rfl, hbh.out⟩
  · have h1 : ¬ (es.length : Int) ≤ 20 := by omega
    have h2 : decide (es.length ≤ 20) = false := decide_eq_false h20
    rw [h2] at hk
    clear h2
    go_enter Try.func83, Try.ntmps83
    go_wp2
    go_ret
    exact ⟨by rw [hk.out]; rfl, b0.out⟩
set_option maxHeartbeats 1000000 in
theorem CloneC_all (L B : Nat) (A : Option Addr) (c : Nat) (xs : List In) (w : World) (hl : xs.length ≤ 1048576) (hx : RS In.enc 5 w L B A xs) (hB : B ≤ w.heap.size) :
    Calls Try.prog 84 #[.slice A xs.length c] w (FreshInstr w xs) := by
  have b0 := Lib.hid (Below.refl w.heap.size w)
  rcases A with _ | ad
  · have h0 : xs = [] := by
      rcases xs with _ | ⟨x, xs⟩
      · rfl
      · obtain ⟨b, o, e, _⟩ := hx (by simp)
        cases e
    subst h0
    have heq := Lib.run_eql_slice_nil (P := Try.prog) w 34 90 none 0 c 0 0 Try.underlying34
    simp only [Option.isNone_none] at heq
    go_enter Try.func84, Try.ntmps84
    go_wp2
    go_ret
    exact ⟨none, 0, rfl, OK.nil _ _ _ _, b0.out⟩
  obtain ⟨i0, hi, hz0, hz1, hz2⟩ := info_parts Try.infoInstr
  have hb0 := Lib.hid ((Below.refl w.heap.size w).alloc (Nat.le_refl _) (.cells #[] 90))
  have hnews := Lib.hid (show ∀ j u, (xs.flatMap In.enc)[j]? = some u → (w.alloc (.cells #[] 90)).cell? (ad.add j) = some u from fun j u hu => by
    have h0 : 0 < xs.length := by
      rcases xs with _ | ⟨x, xs⟩
      · simp at hu
      · simp
    obtain ⟨a, e, h⟩ := (hx.below hb0.out hB).news In.hk h0
    injection e with e; subst e
    exact h j u hu)
  have hown := Lib.hid (World.ownsRow_made (base := w.heap.size) (e := 90) (size := 5) w #[] 0 (Nat.le_refl _) (by unfold maxLen; omega) (by simp))
  clear hx
  have heq := Lib.run_eql_slice_nil (P := Try.prog) w 34 90 (some ad) xs.length c 0 0 Try.underlying34
  simp only [Option.isNone_some] at heq
  go_enter Try.func84, Try.ntmps84
  go_wp2_with (at_builtin; refine wpList_append_src rfl _ _ 34 rfl w.heap.size 90 i0 _ 5 48 Try.underlying34 hi hz0 hz1 hz2 rfl (by decide) _ 0 [] rfl hown.out (some ad) xs.length c (xs.flatMap In.enc) rfl (kflat_len In.hk xs) (fun _ => ⟨ad, rfl, hnews.out⟩) (five_ones xs) (by unfold maxLen; omega) (by omega) (by simp) ?_; intro v' w1 hown' hgrow _)
  simp only [Nat.zero_add, List.nil_append] at hown'
  have ho : Hid (OK In.enc 5 90 w1 w.heap.size w1.heap.size v' xs) := OK.ofRow hown' rfl
  have hb : Hid (Below w.heap.size w w1) := hb0.out.grown hgrow (by simp) (fun k hk => by cases hk; exact Nat.le_refl _)
  obtain ⟨A', c', rfl, _⟩ := OK.form In.hk ho.out
  clear hown' hgrow
  go_wp2
  go_ret
  exact ⟨_, _, rfl, ho.out, hb.out⟩

set_option maxHeartbeats 4000000 in
theorem iFollowPath_any (L B : Nat) (A : Option Addr) (c : Nat) (es : List In) (L' B' : Nat) (A' : Option Addr) (c' : Nat) (path : List Int) (w : World) (hl : es.length ≤ 1048576) (hes : RS In.enc 5 w L B A es) (hB : B ≤ w.heap.size) (hn : path.length ≤ 1048576) (hns : IS w L' B' A' path) (hB' : B' ≤ w.heap.size) :
    Calls Try.prog 29 #[.slice A es.length c, .slice A' path.length c'] w (ResFollowPath (folC es path) (folB es path) w) := by
  have H := Lib.hid (isBlock_any L B A c es w hl hes hB)
  cases hb : blkOk es
  · have hN := Lib.hid (fol_none (folR_no path hb))
    rw [hb] at H
    clear hb hes hns
    go_enter Try.func29, Try.ntmps29
    go_wp2_with (fail)
    refine H.out.mono ?_
    rintro e w1 ⟨rfl, hb1⟩
    have hbh := Lib.hid hb1
    clear hb1
    go_wp2
    go_ret2
    rw [hN.out.1, hN.out.2]
    exact ⟨none, 0, rfl, OK.nil _ _ _ _, hbh.out⟩
  have hFR := Lib.hid (folR_yes path hb)
  have hok := (blkOk_parts hb).2
  have hSt := Lib.hid (MvInv.start hok)
  have hSucc := Lib.hid fun (k : Nat) (h : k < path.length) => folS_succ (es, []) h
  have hNo := Lib.hid fun (k : Nat) (h : folS (es, []) (path.take k) = none) => folS_no h
  have hInv := Lib.hid fun (k : Nat) (s : Mv) (h : folS (es, []) (path.take k) = some s) => (MvInv.fol _ hSt.out h).1
  have hL20 := okCode_len hok
  have hCl := Lib.hid fun (W : World) (hW : Below w.heap.size w W) => CloneC_all L B A c es W hl (hes.below hW hB) (Nat.le_trans hB hW.size)
  have hPa := Lib.hid fun (W : World) (hW : Below w.heap.size w W) => hns.below hW hB'
  have hBB' := Lib.hid hB'
  rw [hb] at H
  clear hb hes hns hok
  go_enter Try.func29, Try.ntmps29
  go_wp2_with (fail)
  refine H.out.mono ?_
  rintro e w1 ⟨rfl, hb1⟩
  have hbh := Lib.hid hb1
  clear hb1
  go_wp2_with (fail)
  refine (hCl.out _ hbh.out).mono ?_
  rintro e w2 ⟨A2, c2, rfl, ho2, hb2⟩
  have hB2 := hbh.out.trans (hb2.mono hbh.out.size)
  have A3 := (Below.refl w2.heap.size w2).alloc (Nat.le_refl _) (.cells #[.slice A2 es.length c2, .slice none 0 0] 94)
  have S0 : Hid (SwSt w w2.heap.size true (.slice A2 es.length c2) (.slice none 0 0) es [] (w2.alloc (.cells #[.slice A2 es.length c2, .slice none 0 0] 94))) :=
    ⟨hB2.size, heap_alloc_new w2 _, ⟨A2, c2, rfl, .inr (((ho2.lower hbh.out.size).below A3 (Nat.le_refl _)).more A3.size)⟩, OW.nil _ _ _, hB2.alloc hB2.size _⟩
  have hB2h := Lib.hid hB2
  clear A3 ho2 hb2 hB2
  go_wp2
  obtain ⟨W3, hW3⟩ : ∃ W3, W3 = w2.alloc (.cells #[.slice A2 es.length c2, .slice none 0 0] 94) := ⟨_, rfl⟩
  rw [← hW3] at S0 ⊢
  obtain ⟨g, hg⟩ : ∃ g, g = w2.heap.size := ⟨_, rfl⟩
  rw [← hg] at S0 ⊢
  clear hW3 hg
  go_loopw [17] (fun i wr => ∃ (k : Nat) (s : Mv) (V P : Value), k ≤ path.length ∧ i = .int .i64 k ∧ folS (es, []) (path.take k) = some s ∧ SwSt w g true V P s.1 s.2 wr) (fun i _ => path.length - (intOf i).toNat)
  case atStart => exact ⟨0, (es, []), _, _, Nat.zero_le _, rfl, rfl, S0.out⟩
  case round =>
    obtain ⟨k, s, V, P, hk, rfl, hs, hst⟩ := hrel
    have hI := hInv.out k s hs
    obtain ⟨cs, p⟩ := s
    have hSS := Lib.hid hst
    have hS := Lib.hid hs
    have hlc := hI.len
    have hlp := hI.most
    dsimp only at hlc hlp
    clear hI hs
    by_cases hlt : k < path.length
    · obtain ⟨pb, po, rfl, ⟨_, hpb⟩, hcc⟩ := (hPa.out _ hst.be) (by omega)
      have y1 := hcc k hlt
      have hsu := Lib.hid (hSucc.out k hlt)
      clear hcc hst
      generalize path[k] = pk at *
      have hSw := Lib.hid (swap_any w g true V P cs p pk wr (by omega) hlp hSS.out)
      go_wp2_with (fail)
      refine hSw.out.mono ?_
      rintro e w4 ⟨rfl, hb4, hnx⟩
      have hN4 := Lib.hid hnx
      have hB4 := Lib.hid hb4
      have hsu2 : Hid (folS (es, []) (path.take (k + 1)) = mvS (cs, p) pk) := by rw [Hid, hsu.out, hS.out]; rfl
      clear hnx hb4 hsu hSw
      cases hm : mvS (cs, p) pk with
      | none =>
        rw [hm] at hsu2
        have hF := Lib.hid (fol_none (hFR.out.trans (hNo.out _ hsu2.out)))
        clear hm hN4 hsu2
        dsimp only [Option.isSome_none]
        go_wp2
        go_ret2
        rw [hF.out.1, hF.out.2]
        exact ⟨none, 0, rfl, OK.nil _ _ _ _, hB4.out⟩
      | some s2 =>
        rw [hm] at hsu2
        obtain ⟨V2, P2, h2⟩ := hN4.out s2 hm
        have H2 := Lib.hid h2
        clear h2 hm hN4
        dsimp only [Option.isSome_some]
        go_wp2
        go_roundw
        case rel => exact ⟨k + 1, s2, V2, P2, by omega, by go_num, hsu2.out, H2.out⟩
        case measure => simp [intOf]; omega
    · obtain rfl : k = path.length := by omega
      have hF := Lib.hid (fol_some (hFR.out.trans (by rw [← hS.out, List.take_length])))
      obtain ⟨A5, c5, rfl, hO5⟩ := hst.code.own
      have u0 := hst.bx.cell 0
      simp only [List.getElem?_cons_zero] at u0
      have hO5h := Lib.hid hO5
      dsimp only at u0 hO5h hF
      clear hst hO5
      go_wp2
      go_ret2
      rw [hF.out.1, hF.out.2]
      exact ⟨A5, c5, by rw [show cs.length = es.length from hlc]; rfl, hO5h.out, hSS.out.be⟩
end Go.Proofs.Ythjfedidpjfboaa

/- vaSwap, FollowPath of the model. -/
namespace Go.Proofs.Ythjfedidpjfboaa
open Go.RowKit
set_option linter.unusedVariables false
set_option maxRecDepth 100000

def ResSw (R0 : List In) (R1 : Bool) (w : World) (e : Ending) (w' : World) : Prop := ∃ (A0 : Option Addr) (c0 : Nat), e = .returned (.tuple #[.slice A0 R0.length c0, .bool R1]) ∧ OK In.enc 5 90 w' w.heap.size w'.heap.size (.slice A0 R0.length c0) R0 ∧ Below w.heap.size w w'
set_option maxHeartbeats 8000000 in
theorem vaSwap_any (L B : Nat) (A : Option Addr) (c : Nat) (es : List In) (n : Nat) (w : World) (hk : okCode es = true) (hn : n + 1 < es.length) (hes : RS In.enc 5 w L B A es) (hB : B ≤ w.heap.size) :
    Calls Try.prog 81 #[.slice A es.length c, .int .i64 (n : Int)] w (ResSw (swapR es n) (swOk es n) w) := by
  have hl : es.length ≤ 1048576 := by have := okCode_len hk; omega
  have hE := Lib.hid hes
  have hBB := Lib.hid hB
  have hG := Lib.hid hk
  have hall := Lib.hid (okCode_all hk)
  have hlen := Lib.hid (okCode_len hk)
  have hr' : Hid (inR (n : Int) 0 ((es.length : Int) - 2) = true) := by rw [Hid, inR_iff]; omega
  have hn' : n < es.length := by omega
  obtain ⟨b, o, rfl, ⟨_, hbB⟩, hc⟩ := In.cells hes (by omega)
  obtain ⟨c1, c2, c3, c4, c5⟩ := hc n hn'
  obtain ⟨d1, d2, d3, d4, d5⟩ := hc (n + 1) hn
  have hg0 : es.getD n zeroIn = es[n] := by rw [List.getD_eq_getElem?_getD, List.getElem?_eq_getElem hn']; rfl
  have hg1 : es.getD (n + 1) zeroIn = es[n + 1] := by rw [List.getD_eq_getElem?_getD, List.getElem?_eq_getElem hn]; rfl
  have hK0 : Hid (swOk es n = freeB es[n] es[n + 1]) := by rw [Hid, swOk, hG.out, hr'.out, Int.toNat_natCast, hg0, hg1]; rfl
  have hR0 : Hid (swOk es n = true → swapR es n = (es.set n es[n + 1]).set (n + 1) es[n]) := by intro h; rw [swapR, if_pos h, Int.toNat_natCast, hg0, hg1]
  have hA := Lib.hid (fun W => cdFree_any es[n] es[n + 1] W)
  clear hg0 hg1 hc hes hB hk
  have i1 : (n : Int) < es.length := by omega
  have i2 : (n : Int) + 1 < es.length := by omega
  have hw1 : IntKind.i64.wrap ((n : Int) + 1) = (n : Int) + 1 := IntWalk.i64_in _ (by omega)
  have hw2 : ((n : Int) + 1).toNat = n + 1 := by omega
  have i0' : (0 : Int) ≤ (n : Int) + 1 := by omega
  generalize hx : es[n] = x at *
  generalize hy : es[n + 1] = y at *
  obtain ⟨op, d, a, b1, m⟩ := x
  obtain ⟨op', d', a', b1', m'⟩ := y
  have hxx := Lib.hid hx
  have hyy := Lib.hid hy
  clear hx hy
  simp only at c1 c2 c3 c4 c5 d1 d2 d3 d4 d5 hA
  generalize hf : freeB ⟨op, d, a, b1, m⟩ ⟨op', d', a', b1', m'⟩ = F at *
  clear hf
  go_enter Try.func81, Try.ntmps81
  go_wp2_with (fail)
  go_region_law (go_simp; go_at_call 146; (with_reducible refine (hA.out _).mono ?_); rintro e w3 ⟨rfl, hb3⟩)
  all_goals
    have hb3' := Lib.hid ((Below.refl w.heap.size w).drew.trans hb3)
    have hbb3 := hb3'
    have hz3 := hb3'.out.size
    have hz2' : w.heap.size ≤ w.heap.size := Nat.le_refl _
    have hE3 := Lib.hid (hE.out.below hbb3.out hBB.out)
    clear hb3 c1 c2 c3 c4 c5 d1 d2 d3 d4 d5
    cases F
    · have hK : Hid (swOk es n = false) := hK0.out
      have hR := Lib.hid (swapR_no hK.out)
      go_wp2
      go_ret2
      rw [hR.out, hK.out]; exact ⟨none, 0, rfl, OK.nil _ _ _ _, hbb3.out⟩
    have hK : Hid (swOk es n = true) := hK0.out
    have hR := Lib.hid (hR0.out hK.out)
    obtain ⟨i0, hi, hz0, hz1, hz2x⟩ := info_parts Try.infoInstr
    have hz3' : Hid (w.heap.size ≤ w3.heap.size) := Nat.le_trans hz2' hz3
    have hBz : Hid (B ≤ w3.heap.size) := Nat.le_trans hBB.out hz3'.out
    have hb3w : Hid (b < w3.heap.size) := Nat.lt_of_lt_of_le hbB hBz.out
    have hb0 := Lib.hid ((Below.refl w3.heap.size w3).alloc (Nat.le_refl _) (.cells #[] 90))
    have hnews := Lib.hid ((hE3.out.below hb0.out (by have := hBB.out; omega)).news In.hk)
    have hown := Lib.hid (World.ownsRow_made (base := w3.heap.size) (e := 90) (size := 5) w3 #[] 0 (Nat.le_refl _) (by unfold maxLen; omega) (by simp))
    go_wp2_with (at_builtin; refine wpList_append_src rfl _ _ 34 rfl w3.heap.size 90 i0 _ 5 48 Try.underlying34 hi hz0 hz1 hz2x rfl (by decide) _ 0 [] rfl hown.out (some ⟨b, o, none⟩) es.length c (es.flatMap In.enc) rfl (kflat_len In.hk es) hnews.out (five_ones es) (by unfold maxLen; omega) (by omega) (by simp) ?_; intro v' w4 hown' hgrow _; simp only [Nat.zero_add, List.nil_append] at hown'; have ho4 := OK.ofRow hown' rfl; have hb4 : Below w3.heap.size w3 w4 := (hb0.out.grown hgrow (by simp) (fun k hk => (by cases hk; exact Nat.le_refl _))); have hz4 := hb4.size; have hbb4 := Lib.hid (hbb3.out.trans (hb4.mono hz3'.out)); obtain ⟨⟨c1, c2, c3, c4, c5⟩, ⟨d1, d2, d3, d4, d5⟩⟩ := code_two (hE3.out.below hb4 hBz.out) hn hxx.out hyy.out; simp only at c1 c2 c3 c4 c5 d1 d2 d3 d4 d5; obtain ⟨g, cap, rest, rfl, hgl, hgh, hlc, hcm, hcb, hcl⟩ := OK.some' ho4 (Nat.lt_of_le_of_lt (Nat.zero_le _) hn); have hCB := Lib.hid hcb; have hgl' := Lib.hid hgl; have hcl' := Lib.hid hcl; have hcm' := Lib.hid hcm; have hlc' := Lib.hid hlc; obtain ⟨z0, z1, z2, z3, z4, p1, p2, p3, p4, p5⟩ := In.cellsB hcb n hn'; obtain ⟨y0, y1, y2, y3, y4, q1, q2, q3, q4, q5⟩ := In.cellsB hcb (n + 1) hn; have f1 := hcb.frozen (n * 5); have f2 := hcb.frozen (n * 5 + 1); have f3 := hcb.frozen (n * 5 + 2); have f4 := hcb.frozen (n * 5 + 3); have f5 := hcb.frozen (n * 5 + 4); have g1 := hcb.frozen ((n + 1) * 5); have g2 := hcb.frozen ((n + 1) * 5 + 1); have g3 := hcb.frozen ((n + 1) * 5 + 2); have g4 := hcb.frozen ((n + 1) * 5 + 3); have g5 := hcb.frozen ((n + 1) * 5 + 4); have hne : ¬ b = g := (fun e => by rw [e] at hb3w; exact absurd (Nat.lt_of_lt_of_le hb3w.out hgl) (Nat.lt_irrefl _)); have hne' : ¬ g = b := fun h => hne h.symm; clear hcb ho4 hown' hgrow hcl hcm hgl hgh hb4 hi hz0 hz1 hz2x)
    have hgw : w.heap.size ≤ g := Nat.le_trans hz3'.out hgl'.out
    have h1 := hCB.out.store In.hk n hn' ⟨op', d', a', b1', m'⟩
    have h2 := h1.store In.hk (n + 1) (by rw [List.length_set]; exact hn) ⟨op, d, a, b1, m⟩
    have hle : ((es.set n (⟨op', d', a', b1', m'⟩ : In)).set (n + 1) ⟨op, d, a, b1, m⟩).length = es.length := by rw [List.length_set, List.length_set]
    have h3 := OK.close (lo := w.heap.size) In.hk h2 hgw (CB.lt h2) (by rw [hle]; exact hlc) hcm'.out (by have hcl := hcl'.out; rw [List.length_append, kflat_len In.hk, hle]; rw [List.length_append, kflat_len In.hk] at hcl; exact hcl)
    have hfin := Lib.hid h3
    have hle' := Lib.hid hle
    have hbf := Lib.hid (below_setCells (In.enc ⟨op, d, a, b1, m⟩) g ((n + 1) * 5) (below_setCells (In.enc ⟨op', d', a', b1', m'⟩) g (n * 5) hbb4.out hgw) hgw)
    clear h1 h2 h3 hle
    simp only [setCells, In.enc, Nat.add_assoc, Nat.reduceAdd] at hfin hbf
    clear c1 c2 c3 c4 c5 d1 d2 d3 d4 d5 p1 p2 p3 p4 p5 q1 q2 q3 q4 q5 f1 f2 f3 f4 f5 g1 g2 g3 g4 g5 hCB
    generalize (World.setCell _ _ _) = W at hfin hbf ⊢
    generalize ((es.set n (⟨op', d', a', b1', m'⟩ : In)).set (n + 1) ⟨op, d, a, b1, m⟩) = Z at *
    go_ret2
    rw [hR.out, hK.out]
    refine ⟨some ⟨g, 0, none⟩, cap, by rw [hle'.out]; rfl, ?_, ?_⟩
    · exact hfin.out
    · first | exact hbf.out | exact hbf.out.drew

theorem vaGood_any (L B : Nat) (A : Option Addr) (c : Nat) (es : List In) (w : World) (hl : es.length ≤ 1048576) (hes : RS In.enc 5 w L B A es) (hB : B ≤ w.heap.size) :
    Calls Try.prog 79 #[.slice A es.length c] w fun e w' => e = .returned (.bool (blkOk es)) ∧ Below w.heap.size w w' := by
  have H := Lib.hid (cdCode_any L B A c es w hl hes hB)
  have hk : Hid (blkOk es = (decide (es.length ≤ 20) && okCode es)) := rfl
  have b0 := Lib.hid (Below.refl w.heap.size w)
  clear hes
  generalize blkOk es = r at *
  generalize okCode es = q at *
  by_cases h20 : es.length ≤ 20
  · have h1 : (es.length : Int) ≤ 20 := by omega
    have h2 : decide (es.length ≤ 20) = true := decide_eq_true h20
    rw [h2] at hk
    clear h2
    go_enter Try.func79, Try.ntmps79
    go_wp2_with (fail)
    refine H.out.mono ?_
    rintro e w1 ⟨rfl, hb⟩
    have hbh := Lib.hid hb
    clear hb
    go_wp2
    go_ret
    exact ⟨by rw [hk.out]; rfl, hbh.out⟩
  · have h1 : ¬ (es.length : Int) ≤ 20 := by omega
    have h2 : decide (es.length ≤ 20) = false := decide_eq_false h20
    rw [h2] at hk
    clear h2
    go_enter Try.func79, Try.ntmps79
    go_wp2
    go_ret
    exact ⟨by rw [hk.out]; rfl, b0.out⟩
end Go.Proofs.Ythjfedidpjfboaa

/- FollowPath of the model. -/
namespace Go.Proofs.Ythjfedidpjfboaa
open Go.RowKit
set_option linter.unusedVariables false
set_option maxRecDepth 100000

theorem allIn_at {xs : List Int} {lo hi : Int} (h : allIn xs lo hi = true) {k : Nat} (hk : k < xs.length) : inR xs[k] lo hi = true := by
  unfold allIn at h; rw [List.all_eq_true] at h; exact h _ (List.getElem_mem hk)
theorem fol_len {a : List In} {path : List Int} {k : Nat} {s : Mv} (h : MvInv a (a, [])) (hk : k ≤ path.length) (hs : folS (a, []) (path.take k) = some s) : s.2.length = k := by
  have := (MvInv.fol _ h hs).2.1
  rw [this]; simp; omega
set_option maxHeartbeats 4000000 in
theorem sFollowPath_any (L B : Nat) (A : Option Addr) (c : Nat) (es : List In) (L' B' : Nat) (A' : Option Addr) (c' : Nat) (path : List Int) (w : World) (hl : es.length ≤ 1048576) (hes : RS In.enc 5 w L B A es) (hB : B ≤ w.heap.size) (hn : path.length ≤ 1048576) (hns : IS w L' B' A' path) (hB' : B' ≤ w.heap.size) :
    Calls Try.prog 26 #[.slice A es.length c, .slice A' path.length c'] w (ResFollowPath (folC es path) (folB es path) w) := by
  have H := Lib.hid (vaGood_any L B A c es w hl hes hB)
  cases hb : blkOk es
  · have hN := Lib.hid (fol_none (folR_no path hb))
    rw [hb] at H
    clear hb hes hns
    go_enter Try.func26, Try.ntmps26
    go_wp2_with (fail)
    refine H.out.mono ?_
    rintro e w1 ⟨rfl, hb1⟩
    have hbh := Lib.hid hb1
    clear hb1
    go_wp2
    go_ret2
    rw [hN.out.1, hN.out.2]
    exact ⟨none, 0, rfl, OK.nil _ _ _ _, hbh.out⟩
  by_cases h100 : 100 < path.length
  · have hN := Lib.hid (fol_none (folR_long (es := es) h100))
    have hq : (100 : Int) < (path.length : Int) := by omega
    rw [hb] at H
    clear hb hes hns h100
    go_enter Try.func26, Try.ntmps26
    go_wp2_with (fail)
    refine H.out.mono ?_
    rintro e w1 ⟨rfl, hb1⟩
    have hbh := Lib.hid hb1
    clear hb1
    go_wp2
    go_ret2
    rw [hN.out.1, hN.out.2]
    exact ⟨none, 0, rfl, OK.nil _ _ _ _, hbh.out⟩
  have hq : ¬ (100 : Int) < (path.length : Int) := by omega
  have hAl := Lib.hid fun (W : World) (hW : Below w.heap.size w W) => l1All_any L' B' A' c' path 0 ((es.length : Int) - 2) W hn (hns.below hW hB')
  have hL20 := (blkOk_parts hb).1
  have hwr : IntKind.i64.wrap ((es.length : Int) - 2) = (es.length : Int) - 2 := IntWalk.i64_in _ (by omega)
  cases ha : allIn path 0 ((es.length : Int) - 2)
  · have hN := Lib.hid (fol_none (folR_far (es := es) ha))
    rw [hb] at H
    rw [ha] at hAl
    clear hb hes hns h100 ha
    go_enter Try.func26, Try.ntmps26
    go_wp2_with (fail)
    refine H.out.mono ?_
    rintro e w1 ⟨rfl, hb1⟩
    have hbh := Lib.hid hb1
    clear hb1
    go_wp2_with (fail)
    refine (hAl.out _ hbh.out).mono ?_
    rintro e w2 ⟨rfl, rfl⟩
    go_wp2
    go_ret2
    rw [hN.out.1, hN.out.2]
    exact ⟨none, 0, rfl, OK.nil _ _ _ _, hbh.out⟩
  have hFR := Lib.hid (folR_yes path hb)
  have hok := (blkOk_parts hb).2
  have hSt := Lib.hid (MvInv.start hok)
  have hSucc := Lib.hid fun (k : Nat) (h : k < path.length) => folS_succ (es, []) h
  have hNo := Lib.hid fun (k : Nat) (h : folS (es, []) (path.take k) = none) => folS_no h
  have hInv := Lib.hid fun (k : Nat) (s : Mv) (h : folS (es, []) (path.take k) = some s) => (MvInv.fol _ hSt.out h).1
  have hFl := Lib.hid fun (k : Nat) (s : Mv) (hk : k ≤ path.length) (h : folS (es, []) (path.take k) = some s) => fol_len hSt.out hk h
  have hAt := Lib.hid fun (k : Nat) (hk : k < path.length) => allIn_at ha hk
  have hPa := Lib.hid fun (W : World) (hW : Below w.heap.size w W) => hns.below hW hB'
  have hBB' := Lib.hid hB'
  have hE := Lib.hid hes
  have hBB := Lib.hid hB
  have h100' : path.length ≤ 100 := by omega
  rw [hb] at H
  rw [ha] at hAl
  clear hb hes hns hok h100 ha hB hB'
  obtain ⟨i0, hi, hz0, hz1, hz2⟩ := info_parts Try.infoInstr
  have hJ0 := Lib.hid hi
  have hJ1 := Lib.hid hz0
  have hJ2 := Lib.hid hz1
  have hJ3 := Lib.hid hz2
  clear hi hz0 hz1 hz2
  go_enter Try.func26, Try.ntmps26
  go_wp2_with (fail)
  refine H.out.mono ?_
  rintro e w1 ⟨rfl, hb1⟩
  have hbh := Lib.hid hb1
  clear hb1
  go_wp2_with (fail)
  refine (hAl.out _ hbh.out).mono ?_
  rintro e w2 ⟨rfl, rfl⟩
  have hE1 := Lib.hid (hE.out.below hbh.out hBB.out)
  have hb0 := Lib.hid ((Below.refl w1.heap.size w1).alloc (Nat.le_refl _) (.cells #[] 90))
  have hz1 := hbh.out.size
  have hnews := Lib.hid ((hE1.out.below hb0.out (Nat.le_trans hBB.out hz1)).news In.hk)
  have hown := Lib.hid (World.ownsRow_made (base := w1.heap.size) (e := 90) (size := 5) w1 #[] 0 (Nat.le_refl _) (by unfold maxLen; omega) (by simp))
  go_wp2_with (at_builtin; refine wpList_append_src rfl _ _ 34 rfl w1.heap.size 90 i0 _ 5 48 Try.underlying34 hJ0.out hJ1.out hJ2.out hJ3.out rfl (by decide) _ 0 [] rfl hown.out A es.length c (es.flatMap In.enc) rfl (kflat_len In.hk es) hnews.out (five_ones es) (by unfold maxLen; omega) (by omega) (by simp) ?_; intro v' w4 hown' hgrow _; simp only [Nat.zero_add, List.nil_append] at hown'; have ho4 := Lib.hid (OK.ofRow hown' rfl); have hb4 := Lib.hid (hbh.out.trans ((hb0.out.grown hgrow (by simp) (fun k hk => (by cases hk; exact Nat.le_refl _))).mono hz1)); clear hown' hgrow)
  have hO0 := Lib.hid (ho4.out.lower hz1)
  clear hown hnews ho4
  go_loopw [6, 32] (fun v i wr => ∃ (k : Nat) (s : Mv), k ≤ path.length ∧ i = .int .i64 k ∧ folS (es, []) (path.take k) = some s ∧ OK In.enc 5 90 wr w.heap.size wr.heap.size v s.1 ∧ Below w.heap.size w wr) (fun _ i _ => path.length - (intOf i).toNat)
  case atStart => exact ⟨0, (es, []), Nat.zero_le _, rfl, rfl, hO0.out, hb4.out⟩
  case round =>
    obtain ⟨k, s, hk, rfl, hs, hok, hbel⟩ := hrel
    have hI := hInv.out k s hs
    have hsl := hFl.out k s hk hs
    obtain ⟨cs, p⟩ := s
    have hS := Lib.hid hs
    have hlc := Lib.hid hI.len
    have hokc := Lib.hid hI.ok
    have hsl' := Lib.hid hsl
    obtain ⟨VA, vc, rfl, hrs⟩ := hok.form In.hk
    have hO := Lib.hid hok
    have hR := Lib.hid hrs
    have hBL := Lib.hid hbel
    dsimp only at hlc hokc hsl' hO hR
    clear hI hs hsl hok hrs
    by_cases hlt : k < path.length
    · obtain ⟨pb, po, rfl, ⟨_, hpb⟩, hcc⟩ := (hPa.out _ hbel) (by omega)
      have y1 := hcc k hlt
      have hsu := hSucc.out k hlt
      have hat := hAt.out k hlt
      clear hcc hbel
      generalize path[k] = pk at *
      obtain ⟨n, rfl, hn1⟩ := inR_nat hat
      have hsu2 : Hid (folS (es, []) (path.take (k + 1)) = mvS (cs, p) n) := by rw [Hid, hsu, hS.out]; rfl
      have hSw := Lib.hid (vaSwap_any w.heap.size wr.heap.size VA vc cs n wr hokc.out (by have := hlc.out; omega) hR.out (Nat.le_refl _))
      clear hsu hat hn1
      go_wp2_with (fail)
      refine hSw.out.mono ?_
      rintro e w5 ⟨A5, c5, rfl, ho5, hb5⟩
      have hO5 := Lib.hid (ho5.lower hBL.out.size)
      have hB5 := Lib.hid (hBL.out.trans (hb5.mono hBL.out.size))
      clear ho5 hb5 hSw
      cases hsw : swOk cs n
      · rw [mvS_no (st := (cs, p)) hsw] at hsu2
        have hF := Lib.hid (fol_none (hFR.out.trans (hNo.out _ hsu2.out)))
        clear hsw
        go_wp2
        go_ret2
        rw [hF.out.1, hF.out.2]
        exact ⟨none, 0, rfl, OK.nil _ _ _ _, hB5.out⟩
      · rw [mvS_yes (st := (cs, p)) hsw (by have := hsl'.out; dsimp only; omega)] at hsu2
        clear hsw
        go_wp2
        go_roundw
        case rel => exact ⟨k + 1, (swapR cs n, p ++ [(n : Int)]), by omega, by go_num, hsu2.out, hO5.out, hB5.out⟩
        case measure => simp [intOf]; omega
    · obtain rfl : k = path.length := by omega
      have hF := Lib.hid (fol_some (hFR.out.trans (by rw [← hS.out, List.take_length])))
      dsimp only at hF
      go_wp2
      go_ret2
      rw [hF.out.1, hF.out.2]
      exact ⟨VA, vc, rfl, hO.out, hBL.out⟩
end Go.Proofs.Ythjfedidpjfboaa

/- Arguments of the types []laws.Instr, laws.Instr and []int opened. -/
namespace Go.Proofs.Ythjfedidpjfboaa
open Go.ChangeShapes Go.WideShapes Go.ChangeAt Go.RowKit Go.Deep
open Go.ChangeMaps (open_string shut_string)
set_option linter.unusedVariables false

theorem cellsIn : Try.prog.cellsOf 86 = 5 := by kernel_rfl
theorem cellsStr : Try.prog.cellsOf 9 = 1 := by kernel_rfl
theorem cellsInt : Try.prog.cellsOf 3 = 1 := by kernel_rfl

set_option maxRecDepth 100000 in
theorem in_of_trod {H : Type} {enc : TypeId × Value → H} {w : World} {base : Nat} {spare : Nat → Bool} {held : Bool} {n : Nat} {cs : List Value} {x : DataW H × List MemPlace}
    (h : DataW.trod enc Try.prog w base spare held n 86 cs = some x) : ∃ nd : In, cs = nd.enc ∧ nd.op.size ≤ maxLen := by
  obtain ⟨xs, m, _, _, hlen, hxl, hf⟩ := DataW.trod_struct Try.underlying86 h
  rw [cellsIn] at hlen
  match cs, hlen with
  | [c0, c1, c2, c3, c4], _ =>
    match xs, hxl with
    | [y0, y1, y2, y3, y4], _ =>
      have h0 := hf 0 _ rfl
      change DataW.trod enc Try.prog w base spare held m 9 (([c0, c1, c2, c3, c4].drop 0).take (Try.prog.cellsOf 9)) = _ at h0
      rw [cellsStr] at h0
      have h1 := hf 1 _ rfl
      change DataW.trod enc Try.prog w base spare held m 3 (([c0, c1, c2, c3, c4].drop 1).take (Try.prog.cellsOf 3)) = _ at h1
      rw [cellsInt] at h1
      have h2 := hf 2 _ rfl
      change DataW.trod enc Try.prog w base spare held m 3 (([c0, c1, c2, c3, c4].drop 2).take (Try.prog.cellsOf 3)) = _ at h2
      rw [cellsInt] at h2
      have h3 := hf 3 _ rfl
      change DataW.trod enc Try.prog w base spare held m 3 (([c0, c1, c2, c3, c4].drop 3).take (Try.prog.cellsOf 3)) = _ at h3
      rw [cellsInt] at h3
      have h4 := hf 4 _ rfl
      change DataW.trod enc Try.prog w base spare held m 3 (([c0, c1, c2, c3, c4].drop 4).take (Try.prog.cellsOf 3)) = _ at h4
      rw [cellsInt] at h4
      obtain ⟨s, e0, _, hs⟩ := DataW.trod_string Try.underlying9 h0
      obtain ⟨d, e1, _, _⟩ := DataW.trod_int Try.underlying3 h1
      obtain ⟨a, e2, _, _⟩ := DataW.trod_int Try.underlying3 h2
      obtain ⟨b, e3, _, _⟩ := DataW.trod_int Try.underlying3 h3
      obtain ⟨m, e4, _, _⟩ := DataW.trod_int Try.underlying3 h4
      have e0 : c0 = .string s := by simpa using e0
      have e1 : c1 = .int .i64 d := by simpa using e1
      have e2 : c2 = .int .i64 a := by simpa using e2
      have e3 : c3 = .int .i64 b := by simpa using e3
      have e4 : c4 = .int .i64 m := by simpa using e4
      exact ⟨⟨s, d, a, b, m⟩, by rw [e0, e1, e2, e3, e4]; rfl, hs⟩

theorem cell_lt_heap {w : World} {a : Addr} {v : Value} (h : w.cell? a = some v) : a.block < w.heap.size := by
  rcases Nat.lt_or_ge a.block w.heap.size with hlt | hge
  · exact hlt
  · unfold World.cell? at h; rw [Array.getElem?_eq_none hge] at h; simp at h

set_option maxRecDepth 100000 in
theorem x_of_trod {H : Type} {enc : TypeId × Value → H} {w : World} {r : Reach} {b0 : Nat} {spare : Nat → Bool} {held : Bool} {v : Value} {d : DataW H} {p : List MemPlace}
    (hv : Value.okWide Try.prog w r b0 86 v) (h : DataW.Trod enc Try.prog w 0 spare held 86 v d p) :
    ∃ x : In, v = .agg #[.string x.op, .int .i64 x.d, .int .i64 x.a, .int .i64 x.b, .int .i64 x.m] ∧ x.op.size ≤ 9223372036854775807 := by
  obtain ⟨cs, rfl, hsz⟩ := okWide_struct Try.underlying86 hv
  obtain ⟨fuel, hf⟩ := h
  obtain ⟨x, hx, hs⟩ := in_of_trod hf
  refine ⟨x, ?_, by unfold maxLen at hs; omega⟩
  obtain ⟨l⟩ := cs
  have hx' : l = x.enc := by simpa [Value.cells] using hx
  subst hx'; rfl

set_option maxRecDepth 100000 in
theorem ins_of_trod {H : Type} {enc : TypeId × Value → H} {w : World} {spare : Nat → Bool} {held : Bool} {A : Option Addr} {len cap : Nat} {d : DataW H} {p : List MemPlace}
    (h : DataW.Trod enc Try.prog w 0 spare held 31 (.slice A len cap) d p) :
    ∃ es : List In, es.length = len ∧ RS In.enc 5 w 0 w.heap.size A es ∧ (∀ n ∈ es, n.op.size ≤ 9223372036854775807) ∧ len ≤ 9223372036854775807 := by
  obtain ⟨fuel, hf⟩ := h
  rcases open_slice Try.underlying31 hf with ⟨hcs, _⟩ | ⟨a, l, c, m, n, D, Pl, hcs, _, hl, hm, hmm, _, hi⟩
  · simp [Value.cells] at hcs
    obtain ⟨rfl, rfl, rfl⟩ := hcs
    exact ⟨[], rfl, fun h => absurd h (by simp), (fun n hn => by cases hn), by omega⟩
  · simp [Value.cells] at hcs
    obtain ⟨rfl, rfl, rfl⟩ := hcs
    have hlm : len ≤ m := by rw [hmm]; split <;> omega
    have hex : ∀ i, i < len → ∃ nd : In, (∀ j v, nd.enc[j]? = some v → w.cell? (a.add (i * 5 + j)) = some v) ∧ nd.op.size ≤ maxLen := by
      intro i hil
      obtain ⟨cs', hc, ht⟩ := hi i (by omega)
      rw [cellsIn] at hc
      obtain ⟨nd, rfl, hs⟩ := in_of_trod ht
      obtain ⟨_, _, hat⟩ := World.cells?_some hc
      refine ⟨nd, fun j v hv => ?_, hs⟩
      have hj : j < 5 := kflat_lt In.hk hv
      have := hat j hj
      rw [add_add, hv] at this; exact this
    obtain ⟨f, hf2⟩ := Classical.axiomOfChoice (fun i : {i // i < len} => hex i.1 i.2)
    have hget : ∀ i (h : i < (List.ofFn fun i : Fin len => f ⟨i.1, i.2⟩).length), (List.ofFn fun i : Fin len => f ⟨i.1, i.2⟩)[i] = f ⟨i, by simpa using h⟩ := fun i h => by simp
    refine ⟨List.ofFn fun i : Fin len => f ⟨i.1, i.2⟩, by simp, ?_, ?_, by unfold maxLen at hm; omega⟩
    · intro hpos
      have hpos' : 0 < len := by simpa using hpos
      have h0 := (hf2 ⟨0, hpos'⟩).1 0 _ rfl
      obtain ⟨b, o, spot⟩ := a
      have hspot : spot = none := by have := World.cell?_spot h0; simpa [Addr.add] using this
      subst hspot
      have hadd : ∀ k, (⟨b, o, none⟩ : Addr).add k = ⟨b, o + k, none⟩ := fun k => by simp [Addr.add]
      refine ⟨b, o, rfl, ⟨Nat.zero_le _, ?_⟩, fun i hi j v hv => ?_⟩
      · rw [hadd] at h0
        exact cell_lt_heap h0
      · have hi' : i < len := by simpa using hi
        rw [hget i hi] at hv
        have := (hf2 ⟨i, hi'⟩).1 j v hv
        simp only [hadd, ← Nat.add_assoc] at this
        exact this
    · intro n hn
      obtain ⟨i, rfl⟩ := List.mem_ofFn.1 hn
      have := (hf2 ⟨i.1, i.2⟩).2
      unfold maxLen at this; omega

set_option maxRecDepth 100000 in
theorem ints_of_trod {H : Type} {enc : TypeId × Value → H} {w : World} {spare : Nat → Bool} {held : Bool} {A : Option Addr} {len cap : Nat} {d : DataW H} {p : List MemPlace}
    (h : DataW.Trod enc Try.prog w 0 spare held 32 (.slice A len cap) d p) :
    ∃ xs : List Int, xs.length = len ∧ IS w 0 w.heap.size A xs ∧ len ≤ 9223372036854775807 := by
  obtain ⟨fuel, hf⟩ := h
  rcases open_slice Try.underlying32 hf with ⟨hcs, _⟩ | ⟨a, l, c, m, n, D, Pl, hcs, _, hl, hm, hmm, _, hi⟩
  · simp [Value.cells] at hcs
    obtain ⟨rfl, rfl, rfl⟩ := hcs
    exact ⟨[], rfl, fun h => absurd h (by simp), by omega⟩
  · simp [Value.cells] at hcs
    obtain ⟨rfl, rfl, rfl⟩ := hcs
    have hlm : len ≤ m := by rw [hmm]; split <;> omega
    have hex : ∀ i, i < len → ∃ x : Int, w.cell? (a.add i) = some (.int .i64 x) := by
      intro i hil
      obtain ⟨cs', hc, ht⟩ := hi i (by omega)
      rw [cellsInt, Nat.mul_one] at hc
      obtain ⟨x, hx, _, _⟩ := DataW.trod_int Try.underlying3 ht
      obtain ⟨_, _, hat⟩ := World.cells?_some hc
      have := hat 0 (by omega)
      rw [add_add, hx] at this
      exact ⟨x, by simpa using this⟩
    obtain ⟨f, hf2⟩ := Classical.axiomOfChoice (fun i : {i // i < len} => hex i.1 i.2)
    have hget : ∀ i (h : i < (List.ofFn fun i : Fin len => f ⟨i.1, i.2⟩).length), (List.ofFn fun i : Fin len => f ⟨i.1, i.2⟩)[i] = f ⟨i, by simpa using h⟩ := fun i h => by simp
    refine ⟨List.ofFn fun i : Fin len => f ⟨i.1, i.2⟩, by simp, ?_, by unfold maxLen at hm; omega⟩
    intro hpos
    have hpos' : 0 < len := by simpa using hpos
    have h0 := hf2 ⟨0, hpos'⟩
    obtain ⟨b, o, spot⟩ := a
    have hspot : spot = none := by have := World.cell?_spot h0; simpa [Addr.add] using this
    subst hspot
    have hadd : ∀ k, (⟨b, o, none⟩ : Addr).add k = ⟨b, o + k, none⟩ := fun k => by simp [Addr.add]
    refine ⟨b, o, rfl, ⟨Nat.zero_le _, ?_⟩, fun i hi => ?_⟩
    · rw [hadd] at h0
      exact cell_lt_heap h0
    · have hi' : i < len := by simpa using hi
      rw [hget i hi]
      have := hf2 ⟨i, hi'⟩
      simp only [hadd] at this
      exact this
end Go.Proofs.Ythjfedidpjfboaa
