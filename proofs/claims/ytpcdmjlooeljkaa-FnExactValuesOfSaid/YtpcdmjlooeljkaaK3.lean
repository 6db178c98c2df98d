import Derived.Test.YtpcdmjlooeljkaaK2
import Derived.Test.YtpcdmjlooeljkaaQ
import Derived.WalkKit
import Derived.WalkSpells
import Derived.WalkLawsBesides
import Derived.Lib.Hide
namespace Go.Proofs.Ytpcdmjlooeljkaa
open Go.RowKit
set_option linter.unusedVariables false

def valsOk (es : List Nd) (x0 x1 : Int) : Bool := good es && isW x0 && isW x1
def valsR (es : List Nd) (x0 x1 : Int) : List Int := if valsOk es x0 x1 = true then vals es x0 x1 else []
def evalR (es : List Nd) (x0 x1 : Int) : Int := if valsOk es x0 x1 = true then (vals es x0 x1).getD (es.length - 1) 0 else 0
theorem vals_len (es : List Nd) (x0 x1 : Int) : (vals es x0 x1).length = es.length := valsAt_len _ _ _ _
theorem valsR_len (es : List Nd) (x0 x1 : Int) : (valsR es x0 x1).length ≤ 1048576 := by
  unfold valsR
  cases h : valsOk es x0 x1
  · simp
  · have h1 : good es = true := by simp [valsOk] at h; exact h.1.1
    have := good_len h1; simp [vals_len]; omega
theorem valsOk_parts {es : List Nd} {x0 x1 : Int} (h : valsOk es x0 x1 = true) : good es = true ∧ isW x0 = true ∧ isW x1 = true := by
  simp [valsOk] at h; exact ⟨h.1.1, h.1.2, h.2⟩

set_option maxHeartbeats 1000000 in
theorem sValuesOf_any (L B : Nat) (A : Option Addr) (c : Nat) (es : List Nd) (x0 x1 : Int) (w : World) (hl : es.length ≤ 1048576) (hes : NS w L B A es) (hB : B ≤ w.heap.size) :
    Calls Try.prog 16 #[.slice A es.length c, .int .i64 x0, .int .i64 x1] w (IntsRes w (valsR es x0 x1) (valsOk es x0 x1)) := by
  have H := Lib.hid (exGood_any L B A c es w hl hes hB)
  have hE := Lib.hid hes
  have hBB := Lib.hid hB
  clear hes hB
  cases hv : valsOk es x0 x1
  · have hR2 : Hid (valsR es x0 x1 = []) := by simp [Hid, valsR, hv]
    have hv' : good es = false ∨ isW x0 = false ∨ isW x1 = false := by
      cases h1 : good es <;> cases h2 : isW x0 <;> cases h3 : isW x1 <;> simp [valsOk, h1, h2, h3] at hv ⊢
    clear hv
    have hfin : ∀ w2, Hid (Below w.heap.size w w2) → OW w2 w.heap.size w2.heap.size (.slice none 0 0) (valsR es x0 x1) := fun w2 _ => by rw [hR2.out]; exact OW.nil _ _ _
    have hF := Lib.hid hfin
    clear hfin
    cases hg : good es
    · go_enter Try.func16, Try.ntmps16
      go_wp2_with (fail)
      refine H.out.mono ?_
      rintro e w2 ⟨rfl, hb⟩
      have hbb := Lib.hid hb
      clear hb
      go_wp2_with (fail)
      go_ret2
      exact ⟨none, 0, by rw [hR2.out]; rfl, by have := hF.out _ hbb; rw [hR2.out] at this ⊢; exact this, hbb.out⟩
    · cases hx0 : isW x0
      · go_enter Try.func16, Try.ntmps16
        go_wp2_with (fail)
        refine H.out.mono ?_
        rintro e w2 ⟨rfl, hb⟩
        have hbb := Lib.hid hb
        clear hb
        go_wp2_with (go_at_call 37; refine (exWord_w _ _).mono ?_; rintro e w' ⟨rfl, rfl⟩)
        go_ret2
        exact ⟨none, 0, by rw [hR2.out]; rfl, by have := hF.out _ hbb; rw [hR2.out] at this ⊢; exact this, hbb.out⟩
      · have hx1 : isW x1 = false := by rcases hv' with h | h | h <;> simp_all
        clear hv'
        go_enter Try.func16, Try.ntmps16
        go_wp2_with (fail)
        refine H.out.mono ?_
        rintro e w2 ⟨rfl, hb⟩
        have hbb := Lib.hid hb
        clear hb
        go_wp2_with (go_at_call 37; refine (exWord_w _ _).mono ?_; rintro e w' ⟨rfl, rfl⟩)
        go_ret2
        exact ⟨none, 0, by rw [hR2.out]; rfl, by have := hF.out _ hbb; rw [hR2.out] at this ⊢; exact this, hbb.out⟩
  · have hR2 : Hid (valsR es x0 x1 = vals es x0 x1) := by simp [Hid, valsR, hv]
    obtain ⟨hg, hx0, hx1⟩ := valsOk_parts hv
    obtain ⟨_, hl24, hok⟩ := good_len hg
    have hV := Lib.hid (fun w2 (hbb : Below w.heap.size w w2) => exValues_any L B A c es x0 x1 w2 hl24 (hE.out.below hbb hBB.out) (Nat.le_trans hBB.out hbb.size) hok ((isW_iff _).1 hx0) ((isW_iff _).1 hx1))
    clear hok hv
    go_enter Try.func16, Try.ntmps16
    go_wp2_with (fail)
    refine H.out.mono ?_
    rintro e w2 ⟨rfl, hb⟩
    have hbb := Lib.hid hb
    clear hb
    go_wp2_with (go_at_call 37; refine (exWord_w _ _).mono ?_; rintro e w' ⟨rfl, rfl⟩)
    refine (hV.out w2 hbb.out).mono ?_
    rintro e w3 ⟨A2, c2, rfl, how, hb3⟩
    have hOW := Lib.hid how
    have hb3' := Lib.hid hb3
    clear how hb3
    go_wp2_with (fail)
    go_ret2
    exact ⟨A2, c2, by rw [hR2.out]; rfl, by rw [hR2.out]; exact hOW.out.lower hbb.out.size, hbb.out.trans (hb3'.out.mono hbb.out.size)⟩

theorem fillValues_eq (L B : Nat) (A : Option Addr) (c m cg : Nat) (es : List Nd) (g : Nat) (xs : List Int) (x0 x1 : Int) (w : World) (hm : m = xs.length) (hl : es.length ≤ 24) (hes : NS w L B A es) (hB : B ≤ g) (hxl : xs.length = es.length) (hib : IB w g 3 xs) (hW : AllW xs) (hok : okFrom es 0 = true) (h0 : 0 ≤ x0 ∧ x0 ≤ 63) (h1 : 0 ≤ x1 ∧ x1 ≤ 63) :
    Calls Try.prog 44 #[.slice (some ⟨g, 0, none⟩) m cg, .slice A es.length c, .int .i64 0, .int .i64 x0, .int .i64 x1] w (FilledIs w g (vals es x0 x1)) := by
  subst hm
  have := fillValues_any L B A c cg es g xs 0 x0 x1 w hl hes hB hxl hib hW (Nat.zero_le _) hok h0 h1
  rwa [Nat.sub_zero, fillG_vals hxl hok] at this

set_option maxHeartbeats 1000000 in
theorem iValuesOf_any (L B : Nat) (A : Option Addr) (c : Nat) (es : List Nd) (x0 x1 : Int) (w : World) (hl : es.length ≤ 1048576) (hes : NS w L B A es) (hB : B ≤ w.heap.size) :
    Calls Try.prog 17 #[.slice A es.length c, .int .i64 x0, .int .i64 x1] w (IntsRes w (valsR es x0 x1) (valsOk es x0 x1)) := by
  have H := Lib.hid (IsExpr_any L B A c es w hl hes hB)
  have hE := Lib.hid hes
  have hBB := Lib.hid hB
  clear hes hB
  cases hv : valsOk es x0 x1
  · have hR2 : Hid (valsR es x0 x1 = []) := by simp [Hid, valsR, hv]
    have hv' : good es = false ∨ isW x0 = false ∨ isW x1 = false := by
      cases h1 : good es <;> cases h2 : isW x0 <;> cases h3 : isW x1 <;> simp [valsOk, h1, h2, h3] at hv ⊢
    clear hv
    have hfin : ∀ w2, Hid (Below w.heap.size w w2) → OW w2 w.heap.size w2.heap.size (.slice none 0 0) (valsR es x0 x1) := fun w2 _ => by rw [hR2.out]; exact OW.nil _ _ _
    have hF := Lib.hid hfin
    clear hfin
    cases hg : good es
    · go_enter Try.func17, Try.ntmps17
      go_wp2_with (fail)
      refine H.out.mono ?_
      rintro e w2 ⟨rfl, hb⟩
      have hbb := Lib.hid hb
      clear hb
      go_wp2_with (fail)
      go_ret2
      exact ⟨none, 0, by rw [hR2.out]; rfl, by have := hF.out _ hbb; rw [hR2.out] at this ⊢; exact this, hbb.out⟩
    · cases hx0 : isW x0
      · go_enter Try.func17, Try.ntmps17
        go_wp2_with (fail)
        refine H.out.mono ?_
        rintro e w2 ⟨rfl, hb⟩
        have hbb := Lib.hid hb
        clear hb
        go_wp2_with (go_at_call 43; refine (isWord_any _ _).mono ?_; rintro e w' ⟨rfl, rfl⟩)
        go_ret2
        exact ⟨none, 0, by rw [hR2.out]; rfl, by have := hF.out _ hbb; rw [hR2.out] at this ⊢; exact this, hbb.out⟩
      · have hx1 : isW x1 = false := by rcases hv' with h | h | h <;> simp_all
        clear hv'
        go_enter Try.func17, Try.ntmps17
        go_wp2_with (fail)
        refine H.out.mono ?_
        rintro e w2 ⟨rfl, hb⟩
        have hbb := Lib.hid hb
        clear hb
        go_wp2_with (go_at_call 43; refine (isWord_any _ _).mono ?_; rintro e w' ⟨rfl, rfl⟩)
        go_ret2
        exact ⟨none, 0, by rw [hR2.out]; rfl, by have := hF.out _ hbb; rw [hR2.out] at this ⊢; exact this, hbb.out⟩
  · have hR2 : Hid (valsR es x0 x1 = vals es x0 x1) := by simp [Hid, valsR, hv]
    obtain ⟨hg, hx0, hx1⟩ := valsOk_parts hv
    obtain ⟨_, hl24, hok⟩ := good_len hg
    have hV := Lib.hid (fun (w2 : World) (hbb : Below w.heap.size w w2) => fillValues_eq L B A c es.length es.length es w2.heap.size (zeros es.length) x0 x1 (w2.alloc (.cells (intCells (zeros es.length)) 3)) (by simp [zeros]) hl24 ((hE.out.below hbb hBB.out).below ((Below.refl w2.heap.size w2).alloc (Nat.le_refl _) _) (Nat.le_trans hBB.out hbb.size)) (Nat.le_trans hBB.out hbb.size) (by simp [zeros]) (heap_alloc_new w2 _) (AllW.zeros _) hok ((isW_iff _).1 hx0) ((isW_iff _).1 hx1))
    have hmk := run_make_ints es.length (by omega)
    clear hok hv
    go_enter Try.func17, Try.ntmps17
    go_wp2_with (fail)
    refine H.out.mono ?_
    rintro e w2 ⟨rfl, hb⟩
    have hbb := Lib.hid hb
    clear hb
    go_wp2_with (go_at_call 43; refine (isWord_any _ _).mono ?_; rintro e w' ⟨rfl, rfl⟩)
    refine (hV.out w2 hbb.out).mono ?_
    rintro e w3 ⟨rfl, hib, hgr⟩
    have hIB := Lib.hid hib
    have hb3 := Lib.hid ((hbb.out.alloc hbb.out.size _).grown hgr (by simp; have := hbb.out.size; omega) (fun k hk => by injection hk with hk; subst hk; exact hbb.out.size))
    clear hib hgr hmk
    have hvl : (vals es x0 x1).length = es.length := vals_len _ _ _
    have hVL := Lib.hid hvl
    clear hvl
    go_wp2_with (fail)
    go_ret2
    refine ⟨some ⟨w2.heap.size, 0, none⟩, es.length, by rw [hR2.out, hVL.out]; rfl, ?_, hb3.out⟩
    rw [hR2.out]
    have := OW.ofIB (lo := w.heap.size) (hi := w3.heap.size) hIB.out (by rw [hVL.out]; omega) hbb.out.size hIB.out.lt
    rwa [hVL.out] at this ⊢
end Go.Proofs.Ytpcdmjlooeljkaa
