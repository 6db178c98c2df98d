/- Texts of this proof, one behind the other: K3, K4, TB, TC, DT4, R. -/
import Derived.Test.YtmhdijklindipaaK2
import Derived.Test.YtmhdijklindipaaZ5
import Derived.WalkKit
import Derived.WalkSpells
import Derived.WalkLawsBesides
import Derived.Lib.Hide
import Derived.Test.YtmhdijklindipaaZ10
import Derived.Test.YtmhdijklindipaaCG
import Derived.Outline
import Derived.Lib.JoinLaws
import Derived.Lib.AppendZeros
import Derived.Test.YtmhdijklindipaaZ8
import Derived.Test.YtmhdijklindipaaZ17
import Derived.Deep.QuietTactic
import Derived.BigQuiet
import Derived.Deep.RegionHeld3
import Derived.Laws.StructEq
import Derived.Test.YtmhdijklindipaaM2
import Derived.Test.YtmhdijklindipaaE
import Derived.Deep.RegionLaw
import Derived.BigRegion
namespace Go.Proofs.Ytmhdijklindipaa
open Go.RowKit
set_option linter.unusedVariables false

def valsOk (es : List Nd) (x0 x1 : Int) : Bool := good es && isW x0 && isW x1
def valsR (es : List Nd) (x0 x1 : Int) : List Int := if valsOk es x0 x1 = true then vals es x0 x1 else []
def evalR (es : List Nd) (x0 x1 : Int) : Int := if valsOk es x0 x1 = true then (vals es x0 x1).getD (es.length - 1) 0 else 0
theorem vals_len (es : List Nd) (x0 x1 : Int) : (vals es x0 x1).length = es.length := valsAt_len _ _ _ _
theorem valsR_len (es : List Nd) (x0 x1 : Int) : (valsR es x0 x1).length ≤ 1048576 := by
  unfold valsR
  cases h : valsOk es x0 x1
  · simp
  · have h1 : good es = true := by simp [valsOk] at h; exact h.1.1
    have := good_len h1; simp [vals_len]; omega
theorem valsOk_parts {es : List Nd} {x0 x1 : Int} (h : valsOk es x0 x1 = true) : good es = true ∧ isW x0 = true ∧ isW x1 = true := by
  simp [valsOk] at h; exact ⟨h.1.1, h.1.2, h.2⟩

set_option maxHeartbeats 1000000 in
theorem sValuesOf_any (L B : Nat) (A : Option Addr) (c : Nat) (es : List Nd) (x0 x1 : Int) (w : World) (hl : es.length ≤ 1048576) (hes : NS w L B A es) (hB : B ≤ w.heap.size) :
    Calls Try.prog 16 #[.slice A es.length c, .int .i64 x0, .int .i64 x1] w (IntsRes w (valsR es x0 x1) (valsOk es x0 x1)) := by
  have H := Lib.hid (exGood_any L B A c es w hl hes hB)
  have hE := Lib.hid hes
  have hBB := Lib.hid hB
  clear hes hB
  cases hv : valsOk es x0 x1
  · have hR2 : Hid (valsR es x0 x1 = []) := by simp [Hid, valsR, hv]
    have hv' : good es = false ∨ isW x0 = false ∨ isW x1 = false := by
      cases h1 : good es <;> cases h2 : isW x0 <;> cases h3 : isW x1 <;> simp [valsOk, h1, h2, h3] at hv ⊢
    clear hv
    have hfin : ∀ w2, Hid (Below w.heap.size w w2) → OW w2 w.heap.size w2.heap.size (.slice none 0 0) (valsR es x0 x1) := fun w2 _ => by rw [hR2.out]; exact OW.nil _ _ _
    have hF := Lib.hid hfin
    clear hfin
    cases hg : good es
    · go_enter Try.func16, Try.ntmps16
      go_wp2_with (fail)
      refine H.out.mono ?_
      rintro e w2 ⟨rfl, hb⟩
      have hbb := Lib.hid hb
      clear hb
      go_wp2_with (fail)
      go_ret2
      exact ⟨none, 0, by rw [hR2.out]; rfl, by have := hF.out _ hbb; rw [hR2.out] at this ⊢; exact this, hbb.out⟩
    · cases hx0 : isW x0
      · go_enter Try.func16, Try.ntmps16
        go_wp2_with (fail)
        refine H.out.mono ?_
        rintro e w2 ⟨rfl, hb⟩
        have hbb := Lib.hid hb
        clear hb
        go_wp2_with (go_at_call 118; refine (exWord_w _ _).mono ?_; rintro e w' ⟨rfl, rfl⟩)
        go_ret2
        exact ⟨none, 0, by rw [hR2.out]; rfl, by have := hF.out _ hbb; rw [hR2.out] at this ⊢; exact this, hbb.out⟩
      · have hx1 : isW x1 = false := by rcases hv' with h | h | h <;> simp_all
        clear hv'
        go_enter Try.func16, Try.ntmps16
        go_wp2_with (fail)
        refine H.out.mono ?_
        rintro e w2 ⟨rfl, hb⟩
        have hbb := Lib.hid hb
        clear hb
        go_wp2_with (go_at_call 118; refine (exWord_w _ _).mono ?_; rintro e w' ⟨rfl, rfl⟩)
        go_ret2
        exact ⟨none, 0, by rw [hR2.out]; rfl, by have := hF.out _ hbb; rw [hR2.out] at this ⊢; exact this, hbb.out⟩
  · have hR2 : Hid (valsR es x0 x1 = vals es x0 x1) := by simp [Hid, valsR, hv]
    obtain ⟨hg, hx0, hx1⟩ := valsOk_parts hv
    obtain ⟨_, hl24, hok⟩ := good_len hg
    have hV := Lib.hid (fun w2 (hbb : Below w.heap.size w w2) => exValues_any L B A c es x0 x1 w2 hl24 (hE.out.below hbb hBB.out) (Nat.le_trans hBB.out hbb.size) hok ((isW_iff _).1 hx0) ((isW_iff _).1 hx1))
    clear hok hv
    go_enter Try.func16, Try.ntmps16
    go_wp2_with (fail)
    refine H.out.mono ?_
    rintro e w2 ⟨rfl, hb⟩
    have hbb := Lib.hid hb
    clear hb
    go_wp2_with (go_at_call 118; refine (exWord_w _ _).mono ?_; rintro e w' ⟨rfl, rfl⟩)
    refine (hV.out w2 hbb.out).mono ?_
    rintro e w3 ⟨A2, c2, rfl, how, hb3⟩
    have hOW := Lib.hid how
    have hb3' := Lib.hid hb3
    clear how hb3
    go_wp2_with (fail)
    go_ret2
    exact ⟨A2, c2, by rw [hR2.out]; rfl, by rw [hR2.out]; exact hOW.out.lower hbb.out.size, hbb.out.trans (hb3'.out.mono hbb.out.size)⟩

theorem fillValues_eq (L B : Nat) (A : Option Addr) (c m cg : Nat) (es : List Nd) (g : Nat) (xs : List Int) (x0 x1 : Int) (w : World) (hm : m = xs.length) (hl : es.length ≤ 24) (hes : NS w L B A es) (hB : B ≤ g) (hxl : xs.length = es.length) (hib : IB w g 3 xs) (hW : AllW xs) (hok : okFrom es 0 = true) (h0 : 0 ≤ x0 ∧ x0 ≤ 63) (h1 : 0 ≤ x1 ∧ x1 ≤ 63) :
    Calls Try.prog 116 #[.slice (some ⟨g, 0, none⟩) m cg, .slice A es.length c, .int .i64 0, .int .i64 x0, .int .i64 x1] w (FilledIs w g (vals es x0 x1)) := by
  subst hm
  have := fillValues_any L B A c cg es g xs 0 x0 x1 w hl hes hB hxl hib hW (Nat.zero_le _) hok h0 h1
  rwa [Nat.sub_zero, fillG_vals hxl hok] at this

set_option maxHeartbeats 1000000 in
theorem iValuesOf_any (L B : Nat) (A : Option Addr) (c : Nat) (es : List Nd) (x0 x1 : Int) (w : World) (hl : es.length ≤ 1048576) (hes : NS w L B A es) (hB : B ≤ w.heap.size) :
    Calls Try.prog 15 #[.slice A es.length c, .int .i64 x0, .int .i64 x1] w (IntsRes w (valsR es x0 x1) (valsOk es x0 x1)) := by
  have H := Lib.hid (IsExpr_any L B A c es w hl hes hB)
  have hE := Lib.hid hes
  have hBB := Lib.hid hB
  clear hes hB
  cases hv : valsOk es x0 x1
  · have hR2 : Hid (valsR es x0 x1 = []) := by simp [Hid, valsR, hv]
    have hv' : good es = false ∨ isW x0 = false ∨ isW x1 = false := by
      cases h1 : good es <;> cases h2 : isW x0 <;> cases h3 : isW x1 <;> simp [valsOk, h1, h2, h3] at hv ⊢
    clear hv
    have hfin : ∀ w2, Hid (Below w.heap.size w w2) → OW w2 w.heap.size w2.heap.size (.slice none 0 0) (valsR es x0 x1) := fun w2 _ => by rw [hR2.out]; exact OW.nil _ _ _
    have hF := Lib.hid hfin
    clear hfin
    cases hg : good es
    · go_enter Try.func15, Try.ntmps15
      go_wp2_with (fail)
      refine H.out.mono ?_
      rintro e w2 ⟨rfl, hb⟩
      have hbb := Lib.hid hb
      clear hb
      go_wp2_with (fail)
      go_ret2
      exact ⟨none, 0, by rw [hR2.out]; rfl, by have := hF.out _ hbb; rw [hR2.out] at this ⊢; exact this, hbb.out⟩
    · cases hx0 : isW x0
      · go_enter Try.func15, Try.ntmps15
        go_wp2_with (fail)
        refine H.out.mono ?_
        rintro e w2 ⟨rfl, hb⟩
        have hbb := Lib.hid hb
        clear hb
        go_wp2_with (go_at_call 115; refine (isWord_any _ _).mono ?_; rintro e w' ⟨rfl, rfl⟩)
        go_ret2
        exact ⟨none, 0, by rw [hR2.out]; rfl, by have := hF.out _ hbb; rw [hR2.out] at this ⊢; exact this, hbb.out⟩
      · have hx1 : isW x1 = false := by rcases hv' with h | h | h <;> simp_all
        clear hv'
        go_enter Try.func15, Try.ntmps15
        go_wp2_with (fail)
        refine H.out.mono ?_
        rintro e w2 ⟨rfl, hb⟩
        have hbb := Lib.hid hb
        clear hb
        go_wp2_with (go_at_call 115; refine (isWord_any _ _).mono ?_; rintro e w' ⟨rfl, rfl⟩)
        go_ret2
        exact ⟨none, 0, by rw [hR2.out]; rfl, by have := hF.out _ hbb; rw [hR2.out] at this ⊢; exact this, hbb.out⟩
  · have hR2 : Hid (valsR es x0 x1 = vals es x0 x1) := by simp [Hid, valsR, hv]
    obtain ⟨hg, hx0, hx1⟩ := valsOk_parts hv
    obtain ⟨_, hl24, hok⟩ := good_len hg
    have hV := Lib.hid (fun (w2 : World) (hbb : Below w.heap.size w w2) => fillValues_eq L B A c es.length es.length es w2.heap.size (zeros es.length) x0 x1 (w2.alloc (.cells (intCells (zeros es.length)) 3)) (by simp [zeros]) hl24 ((hE.out.below hbb hBB.out).below ((Below.refl w2.heap.size w2).alloc (Nat.le_refl _) _) (Nat.le_trans hBB.out hbb.size)) (Nat.le_trans hBB.out hbb.size) (by simp [zeros]) (heap_alloc_new w2 _) (AllW.zeros _) hok ((isW_iff _).1 hx0) ((isW_iff _).1 hx1))
    have hmk := run_make_ints es.length (by omega)
    clear hok hv
    go_enter Try.func15, Try.ntmps15
    go_wp2_with (fail)
    refine H.out.mono ?_
    rintro e w2 ⟨rfl, hb⟩
    have hbb := Lib.hid hb
    clear hb
    go_wp2_with (go_at_call 115; refine (isWord_any _ _).mono ?_; rintro e w' ⟨rfl, rfl⟩)
    refine (hV.out w2 hbb.out).mono ?_
    rintro e w3 ⟨rfl, hib, hgr⟩
    have hIB := Lib.hid hib
    have hb3 := Lib.hid ((hbb.out.alloc hbb.out.size _).grown hgr (by simp; have := hbb.out.size; omega) (fun k hk => by injection hk with hk; subst hk; exact hbb.out.size))
    clear hib hgr hmk
    have hvl : (vals es x0 x1).length = es.length := vals_len _ _ _
    have hVL := Lib.hid hvl
    clear hvl
    go_wp2_with (fail)
    go_ret2
    refine ⟨some ⟨w2.heap.size, 0, none⟩, es.length, by rw [hR2.out, hVL.out]; rfl, ?_, hb3.out⟩
    rw [hR2.out]
    have := OW.ofIB (lo := w.heap.size) (hi := w3.heap.size) hIB.out (by rw [hVL.out]; omega) hbb.out.size hIB.out.lt
    rwa [hVL.out] at this ⊢
end Go.Proofs.Ytmhdijklindipaa

namespace Go.Proofs.Ytmhdijklindipaa
open Go.RowKit
set_option linter.unusedVariables false

theorem evalR_of {es : List Nd} {x0 x1 : Int} (h : valsOk es x0 x1 = true) : evalR es x0 x1 = (vals es x0 x1).getD (es.length - 1) 0 := by simp [evalR, h]

theorem exAt_any (L B : Nat) (A : Option Addr) (c : Nat) (es : List Nd) (x0 x1 : Int) (w : World) (hl : es.length ≤ 24) (hl1 : 1 ≤ es.length) (hes : NS w L B A es) (hB : B ≤ w.heap.size) (hok : okFrom es 0 = true) (h0 : 0 ≤ x0 ∧ x0 ≤ 63) (h1 : 0 ≤ x1 ∧ x1 ≤ 63) :
    Calls Try.prog 227 #[.slice A es.length c, .int .i64 x0, .int .i64 x1] w fun e w' => e = .returned (.int .i64 ((vals es x0 x1).getD (es.length - 1) 0)) ∧ Below w.heap.size w w' := by
  have H0 := exValues_any L B A c es x0 x1 w hl hes hB hok h0 h1
  obtain ⟨m, hm⟩ : ∃ m, es.length = m + 1 := ⟨es.length - 1, by omega⟩
  have hml : Hid ((vals es x0 x1).length = m + 1) := by rw [Hid, vals_len, hm]
  rw [hm] at H0
  rw [hm, Nat.add_sub_cancel]
  have H := Lib.hid H0
  have hm24 : m + 1 ≤ 24 := by omega
  clear H0 hes hok h0 h1 hl hl1 hm hB
  go_enter Try.func227, Try.ntmps227
  go_wp2_with (fail)
  refine H.out.mono ?_
  rintro e w2 ⟨V, cv, rfl, how, hb⟩
  have hbb := Lib.hid hb
  obtain ⟨V2, c2, hv2, his⟩ := how.form
  obtain ⟨rfl, rfl⟩ : V = V2 ∧ cv = c2 := by injection hv2 with a _ b; exact ⟨a, b⟩
  obtain ⟨gb, go, rfl, _, hcell⟩ := his.getD (q := m) (by rw [hml.out]; omega)
  clear how hb his hv2
  rw [hml.out]
  generalize hy : (vals es x0 x1).getD m 0 = y at *
  have HY := Lib.hid hy
  clear hy
  go_wp2
  go_ret
  exact ⟨ret_int HY.out.symm, hbb.out⟩

theorem okParts {es : List Nd} {x0 x1 : Int} (hv : valsOk es x0 x1 = false) : good es = false ∨ (good es = true ∧ isW x0 = false) ∨ (good es = true ∧ isW x0 = true ∧ isW x1 = false) := by
  cases h1 : good es <;> cases h2 : isW x0 <;> cases h3 : isW x1 <;> simp [valsOk, h1, h2, h3] at hv ⊢

set_option maxHeartbeats 1000000 in
theorem iEvalExpr_any (L B : Nat) (A : Option Addr) (c : Nat) (es : List Nd) (x0 x1 : Int) (w : World) (hl : es.length ≤ 1048576) (hes : NS w L B A es) (hB : B ≤ w.heap.size) :
    Calls Try.prog 17 #[.slice A es.length c, .int .i64 x0, .int .i64 x1] w fun e w' => e = .returned (.tuple #[.int .i64 (evalR es x0 x1), .bool (valsOk es x0 x1)]) ∧ Below w.heap.size w w' := by
  have H0 := iValuesOf_any L B A c es x0 x1 w hl hes hB
  clear hes hB
  cases hv : valsOk es x0 x1
  · have hR2 : Hid (evalR es x0 x1 = 0) := by simp [Hid, evalR, hv]
    rw [hv] at H0
    have H := Lib.hid H0
    clear H0 hv
    go_enter Try.func17, Try.ntmps17
    go_wp2_with (fail)
    refine H.out.mono ?_
    rintro e w2 ⟨V, cv, rfl, how, hb⟩
    have hbb := Lib.hid hb
    clear hb how
    go_wp2_with (fail)
    go_ret2
    exact ⟨by rw [hR2.out]; rfl, hbb.out⟩
  · have hR2 := Lib.hid (evalR_of hv)
    have hRV : valsR es x0 x1 = vals es x0 x1 := by simp [valsR, hv]
    obtain ⟨hg, _, _⟩ := valsOk_parts hv
    obtain ⟨hl1, hl24, _⟩ := good_len hg
    obtain ⟨m, hm⟩ : ∃ m, es.length = m + 1 := ⟨es.length - 1, by omega⟩
    have hml : Hid ((vals es x0 x1).length = m + 1) := by rw [Hid, vals_len, hm]
    rw [hv, hRV, hm] at H0
    rw [hm]
    have hR3 : Hid (evalR es x0 x1 = (vals es x0 x1).getD m 0) := by rw [Hid, hR2.out, hm]; rfl
    have H := Lib.hid H0
    have hm24 : m + 1 ≤ 24 := by omega
    clear H0 hv hRV hg hl1 hl24 hl hm hR2
    go_enter Try.func17, Try.ntmps17
    go_wp2_with (fail)
    refine H.out.mono ?_
    rintro e w2 ⟨V, cv, rfl, how, hb⟩
    have hbb := Lib.hid hb
    obtain ⟨V2, c2, hv2, his⟩ := how.form
    obtain ⟨rfl, rfl⟩ : V = V2 ∧ cv = c2 := by injection hv2 with a _ b; exact ⟨a, b⟩
    obtain ⟨gb, go, rfl, _, hcell⟩ := his.getD (q := m) (by rw [hml.out]; omega)
    clear how hb his hv2
    rw [hml.out]
    generalize hy : (vals es x0 x1).getD m 0 = y at *
    have HY := Lib.hid hy
    clear hy
    go_wp2_with (fail)
    go_ret2
    exact ⟨by rw [hR3.out]; rfl, hbb.out⟩
end Go.Proofs.Ytmhdijklindipaa

namespace Go.Proofs.Ytmhdijklindipaa
open Go.RowKit
set_option linter.unusedVariables false
set_option maxRecDepth 100000

/-- The value of an expression. -/
def at2 (es : List Nd) (x0 x1 : Int) : Int := (vals es x0 x1).getD (es.length - 1) 0
def tab (es : List Nd) : List Int := tabTo (at2 es) 4096
def tabR (es : List Nd) : List Int := if good es = true then tab es else []
theorem tabR_len (es : List Nd) : (tabR es).length ≤ 1048576 := by
  unfold tabR; split
  · unfold tab; rw [tabTo_len]; omega
  · simp

set_option maxHeartbeats 4000000 in
theorem exTable_any (L B : Nat) (A : Option Addr) (c : Nat) (es : List Nd) (w : World) (hl : es.length ≤ 24) (hl1 : 1 ≤ es.length) (hes : NS w L B A es) (hB : B ≤ w.heap.size) (hok : okFrom es 0 = true) :
    Calls Try.prog 121 #[.slice A es.length c] w (OwnIs w (tab es)) := by
  obtain ⟨i0, hi, hz0, hz1, hz2⟩ := info_parts Try.infoInt
  have hI := Lib.hid hi
  have hZ0 := Lib.hid hz0
  have hZ1 := Lib.hid hz1
  have hZ2 := Lib.hid hz2
  clear hi hz0 hz1 hz2
  have hat := fun (x0 x1 : Nat) (W : World) (hW : Below w.heap.size w W) (h0 : x0 < 64) (h1 : x1 < 64) => exAt_any L B A c es (x0 : Int) (x1 : Int) W hl hl1 (hes.below hW hB) (Nat.le_trans hB hW.size) hok ⟨by omega, by omega⟩ ⟨by omega, by omega⟩
  have hAt := Lib.hid hat
  have hBel0 := Lib.hid (Below.refl w.heap.size w)
  clear hes hB hok hat hl hl1
  go_enter Try.func121, Try.ntmps121
  go_wp2
  go_loopw [3, 4, 5] (fun v i _ wr => ∃ k : Nat, k ≤ 64 ∧ i = .int .i64 k ∧ OW wr w.heap.size wr.heap.size v (tabTo (at2 es) (64 * k + 0)) ∧ Below w.heap.size w wr) (fun _ i _ _ => 64 - (intOf i).toNat)
  case atStart => exact ⟨0, Nat.zero_le _, rfl, OW.nil _ _ _, hBel0.out⟩
  case round =>
    obtain ⟨k, hk, rfl, how, hbel⟩ := hrel
    have hOW := Lib.hid how
    have hBL := Lib.hid hbel
    clear how hbel
    by_cases hlt : k < 64
    · obtain ⟨wo, hwo⟩ : ∃ wo : World, wo = wr := ⟨_, rfl⟩
      rw [← hwo] at hOW hBL ⊢
      clear hwo
      have hk63 : (k : Int) ≤ 63 := by omega
      have hd63 : decide ((k : Int) ≤ 63) = true := by simpa using hk63
      go_wp2
      go_loopw [3, 5] (fun v j wr => ∃ n : Nat, n ≤ 64 ∧ j = .int .i64 n ∧ OW wr w.heap.size wr.heap.size v (tabTo (at2 es) (64 * k + n)) ∧ Below w.heap.size w wr) (fun _ j _ => 64 - (intOf j).toNat)
      case atStart => exact ⟨0, Nat.zero_le _, rfl, hOW.out, hBL.out⟩
      case round =>
        obtain ⟨n, hn, rfl, how, hbel⟩ := hrel
        have hOI := Lib.hid how
        have hBI := Lib.hid hbel
        obtain ⟨V, cv, rfl, _⟩ := how.form
        have hTL := Lib.hid (tabTo_len (at2 es) (64 * k + n))
        clear how hbel
        by_cases hlt2 : n < 64
        · have hS := Lib.hid (tabTo_succ (at2 es) k n hlt2)
          generalize tabTo (at2 es) (64 * k + n) = xs at *
          go_wp2_with (fail)
          refine (hAt.out k n _ hBI.out hlt hlt2).mono ?_
          rintro e w2 ⟨rfl, hb2⟩
          have hb2' := Lib.hid (hBI.out.trans (hb2.mono hBI.out.size))
          have ho2 := Lib.hid ((hOI.out.below hb2 (Nat.le_refl _)).1.alloc (.cells #[.int .i64 ((vals es (k : Int) (n : Int)).getD (es.length - 1) 0)] 3))
          have hb3 := Lib.hid (hb2'.out.alloc hb2'.out.size (.cells #[.int .i64 ((vals es (k : Int) (n : Int)).getD (es.length - 1) 0)] 3))
          have hlo := Lib.hid hOI.out.lo
          have hxx : Hid (at2 es k n = (vals es (k : Int) (n : Int)).getD (es.length - 1) 0) := rfl
          clear hb2
          generalize (vals es (k : Int) (n : Int)).getD (es.length - 1) 0 = x at *
          have hxl : xs.length ≤ 4096 := by rw [hTL.out]; omega
          go_wp2_with (at_builtin; refine wpList_append_own _ rfl _ _ 27 rfl w.heap.size 3 i0 (.int .i64 0) 1 8 Try.underlying27 hI.out hZ0.out hZ1.out hZ2.out rfl (by decide) _ _ _ rfl ho2.out ⟨w2.heap.size, 0, none⟩ 1 1 [.int .i64 x] rfl rfl (new1 rfl) (one1 _) (by unfold maxLen; omega) (by omega) (by have := hb2'.out.size; simp; omega) ?_; intro v' w4 hown4 hgr4 _)
          have R1 := Lib.hid (OW.push (by simpa using hown4) : OW w4 w.heap.size w4.heap.size v' (xs ++ [x]))
          have R2 := Lib.hid (hb3.out.grown hgr4 hb3.out.size (fun k hk => (hlo.out k hk).1))
          clear hown4 hgr4
          go_wp2
          go_roundw
          case rel => exact ⟨n + 1, by omega, by go_num, by rw [hS.out, hxx.out]; exact R1.out, R2.out⟩
          case measure => simp [intOf]; omega
        · obtain rfl : n = 64 := by omega
          rw [tabTo_next] at hOI
          go_wp2
          go_roundw
          case rel => exact ⟨k + 1, by omega, by go_num, hOI.out, hBI.out⟩
          case measure => simp [intOf]; omega
    · obtain rfl : k = 64 := by omega
      obtain ⟨V, cv, rfl, _⟩ := hOW.out.form
      go_wp2
      go_ret
      exact ⟨V, cv, rfl, hOW.out, hBL.out⟩
end Go.Proofs.Ytmhdijklindipaa

namespace Go.Proofs.Ytmhdijklindipaa
open Go.RowKit
set_option linter.unusedVariables false
set_option maxRecDepth 100000

/-- One int appended where there is room. -/
theorem append_room_int {w : World} {g r : Nat} {xs : List Int} (hib : IB w g 3 (xs ++ zeros (r + 1))) (ty : TypeId) (cap : Nat) (hcap : xs.length + 1 ≤ cap) (a : Nat) (x : Int) (ha : w.cell? ⟨a, 0, none⟩ = some (.int .i64 x)) :
    (Builtin.append_ #[27, 27] ty #[.slice (some ⟨g, 0, none⟩) xs.length cap, .slice (some ⟨a, 0, none⟩) 1 1]).run Try.prog w = .ok (.slice (some ⟨g, 0, none⟩) (xs.length + 1) cap) (w.setCell ⟨g, xs.length, none⟩ (.int .i64 x)) := by
  obtain ⟨i0, hi, hz0, hz1, hz2⟩ := info_parts Try.infoInt
  have h := run_append_room_cells (P := Try.prog) (w := w) 27 ty 3 i0 Try.underlying27 hi g 0 xs.length cap ⟨a, 0, none⟩ 1 1 [.int .i64 x] (by rw [hz1]; rfl)
    (fun j u hj => by
      match j, hj with
      | 0, hj => simp at hj; subst hj; simpa [Addr.add] using ha)
    (one1 x) hcap
    (fun j hj => by
      obtain rfl : j = 0 := by simpa using hj
      rw [hz1, Nat.zero_add, Nat.mul_one, Nat.add_zero, hib.cell xs.length (by simp [zeros])]; rfl)
    (fun j hj => hib.frozen _)
  rw [hz1, Nat.zero_add, Nat.mul_one] at h
  exact h
theorem room_set {w : World} {g r : Nat} {xs : List Int} (h : IB w g 3 (xs ++ zeros (r + 1))) (x : Int) : IB (w.setCell ⟨g, xs.length, none⟩ (.int .i64 x)) g 3 ((xs ++ [x]) ++ zeros r) := by
  have := h.set xs.length x
  rwa [List.set_append_right _ _ (Nat.le_refl _), Nat.sub_self, show zeros (r + 1) = 0 :: zeros r from rfl, List.set_cons_zero, List.append_cons] at this
theorem room_ow {w : World} {g r lo hi : Nat} {xs : List Int} (h : IB w g 3 (xs ++ zeros r)) (hlo : lo ≤ g) (hhi : g < hi) (hl : xs.length + r ≤ 1000000) : OW w lo hi (.slice (some ⟨g, 0, none⟩) xs.length (xs.length + r)) xs :=
  ⟨⟨by simp, .inr ⟨g, xs.length + r, intCells (xs ++ zeros r), rfl, hlo, h, by omega, by unfold maxLen; omega, by simp [intCells, zeros], by simp [intCells]⟩⟩,
   fun k hk => by simp [Value.ownBlock] at hk; omega⟩

theorem IB.other {w : World} {g q : Nat} {t : TypeId} {xs : List Int} (h : IB w g t xs) (j : Nat) (x : Value) (hne : q ≠ g) : IB (w.setCell ⟨q, j, none⟩ x) g t xs :=
  (Below.heap_setCell w ⟨q, j, none⟩ x g (by simpa using fun e => hne e.symm)).trans h

set_option maxHeartbeats 8000000 in
theorem iTableOf_any (L B : Nat) (A : Option Addr) (c : Nat) (es : List Nd) (w : World) (hl : es.length ≤ 1048576) (hes : NS w L B A es) (hB : B ≤ w.heap.size) :
    Calls Try.prog 20 #[.slice A es.length c] w (IntsRes w (tabR es) (good es)) := by
  have H := Lib.hid (IsExpr_any L B A c es w hl hes hB)
  have hE := Lib.hid hes
  have hBB := Lib.hid hB
  clear hes hB
  have hmk0 : ∀ W : World, (Instr.makeSlice 27 (.int .i64 0) (.int .i64 4096)).run Try.prog W = .ok (.slice (some ⟨W.heap.size, 0, none⟩) 0 4096) (W.alloc (.cells (madeCells #[.int .i64 0] 4096) 3)) := fun W => run_make_room (P := Try.prog) 27 3 (.int .i64 0) 8 Try.underlying27 Try.infoInt rfl .i64 .i64 4096 (by omega) (by omega) W
  have hmk := run_make_ints es.length hl
  cases hg : good es
  · have hR2 : Hid (tabR es = []) := by simp [Hid, tabR, hg]
    rw [hg] at H
    clear hg
    go_enter Try.func20, Try.ntmps20
    go_wp2_with (fail)
    refine H.out.mono ?_
    rintro e w2 ⟨rfl, hb⟩
    go_wp2_with (fail)
    go_ret2
    refine ⟨none, 0, ?_, ?_, hb⟩
    · rw [hR2.out]; rfl
    · rw [hR2.out]; exact OW.nil _ _ _
  have hR2 : Hid (tabR es = tab es) := by simp [Hid, tabR, hg]
  obtain ⟨hl1, hl24, hok⟩ := good_len hg
  have hOk := Lib.hid hok
  rw [hg] at H
  clear hg hok
  have hes' := fun (W : World) (hW : Below w.heap.size w W) => hE.out.below hW hBB.out
  have hF := Lib.hid (fun (x0 x1 gv cg : Nat) (xs : List Int) (W : World) (hW : Below w.heap.size w W) (hv : w.heap.size ≤ gv) (hib : IB W gv 3 xs) (hxl : xs.length = es.length) (hw : AllW xs) (h0 : x0 < 64) (h1 : x1 < 64) =>
    fillValues_eq L B A c es.length cg es gv xs (x0 : Int) (x1 : Int) W hxl.symm hl24 (hes' W hW) (Nat.le_trans hBB.out hv) hxl hib hw hOk.out ⟨by omega, by omega⟩ ⟨by omega, by omega⟩)
  clear hes'
  obtain ⟨m, hm⟩ : ∃ m, es.length = m + 1 := ⟨es.length - 1, by omega⟩
  have hM := Lib.hid hm
  have hvl : ∀ x0 x1, Hid ((vals es x0 x1).length = es.length) := fun x0 x1 => vals_len _ _ _
  have hat : ∀ x0 x1, Hid (at2 es x0 x1 = (vals es x0 x1).getD m 0) := fun x0 x1 => by rw [Hid, at2, hM.out, Nat.add_sub_cancel]
  have hAT := Lib.hid hat
  clear hat
  have hml : m < es.length := by omega
  have hw2 := Lib.hid (show (es.length : Int) - 1 = m by omega)
  clear hm
  go_enter Try.func20, Try.ntmps20
  go_wp2_with (fail)
  refine H.out.mono ?_
  rintro e w2 ⟨rfl, hb2⟩
  have hB2 := Lib.hid hb2
  have hz2 := Lib.hid hb2.size
  clear hb2
  have hT0 : Hid (IB (w2.alloc (.cells (madeCells #[.int .i64 0] 4096) 3)) w2.heap.size 3 (tabTo (at2 es) (64 * 0 + 0) ++ zeros (4096 - (64 * 0 + 0)))) := by
    have h1 : madeCells #[Value.int .i64 0] 4096 = intCells (zeros 4096) := by
      apply Array.ext'
      rw [intCells, zeros, List.map_replicate]
      exact toList_madeCells_one _ _
    rw [h1]
    exact heap_alloc_new w2 _
  have hB3 := Lib.hid (hB2.out.alloc hz2.out (.cells (madeCells #[.int .i64 0] 4096) 3))
  generalize madeCells #[Value.int .i64 0] 4096 = mc at *
  have hT1 := Lib.hid (hT0.out.below ((Below.refl _ _).alloc (Nat.le_refl _) (.cells (intCells (zeros es.length)) 3)) hT0.out.lt)
  have hV1 : Hid (IB ((w2.alloc (.cells mc 3)).alloc (.cells (intCells (zeros es.length)) 3)) (w2.heap.size + 1) 3 (zeros es.length)) := by
    have := heap_alloc_new (w2.alloc (.cells mc 3)) (.cells (intCells (zeros es.length)) 3)
    rwa [World.size_alloc] at this
  have hB4 := Lib.hid (hB3.out.alloc hB3.out.size (.cells (intCells (zeros es.length)) 3))
  have hT2 : Hid (IB ((w2.alloc (.cells mc 3)).alloc (.cells (intCells (zeros es.length)) 3)) w2.heap.size 3 (tabTo (at2 es) (64 * 0 + 0) ++ zeros (4096 - (64 * 0 + 0)))) := hT1.out
  have hgz := hz2.out
  have hxz : (zeros es.length).length = es.length := by simp [zeros]
  have hXZ := Lib.hid hxz
  clear hxz hT0 hT1 hB3
  go_wp2
  generalize hW0 : (w2.alloc (.cells mc 3)).alloc (.cells (intCells (zeros es.length)) 3) = W0 at *
  generalize hg0 : w2.heap.size = g at *
  clear hW0 hg0 hmk hmk0
  go_loopw [4, 15] (fun v i wr => ∃ k : Nat, k ≤ 64 ∧ i = .int .i64 k ∧ v = .slice (some ⟨g, 0, none⟩) (64 * k + 0) 4096 ∧ IB wr g 3 (tabTo (at2 es) (64 * k + 0) ++ zeros (4096 - (64 * k + 0))) ∧ (∃ xs : List Int, (xs.length = es.length ∧ AllW xs) ∧ IB wr (g + 1) 3 xs) ∧ Below w.heap.size w wr) (fun _ i _ => 64 - (intOf i).toNat)
  case atStart => exact ⟨0, Nat.zero_le _, rfl, rfl, hT2.out, ⟨_, ⟨hXZ.out, AllW.zeros _⟩, hV1.out⟩, hB4.out⟩
  case round =>
    obtain ⟨k, hk, rfl, rfl, hib, ⟨xs, hxs, hiv⟩, hbel⟩ := hrel
    have hIB := Lib.hid hib
    have hIV := Lib.hid (And.intro hxs hiv)
    have hBL := Lib.hid hbel
    clear hib hxs hiv hbel
    by_cases hlt : k < 64
    · obtain ⟨wo, hwo⟩ : ∃ wo : World, wo = wr := ⟨_, rfl⟩
      rw [← hwo] at hIB hIV hBL ⊢
      clear hwo
      have hk64 : (k : Int) < 64 := by omega
      have hd64 : decide ((k : Int) < 64) = true := by simpa using hk64
      go_wp2
      go_loopw [4, 18] (fun v j wr => ∃ n : Nat, n ≤ 64 ∧ j = .int .i64 n ∧ v = .slice (some ⟨g, 0, none⟩) (64 * k + n) 4096 ∧ IB wr g 3 (tabTo (at2 es) (64 * k + n) ++ zeros (4096 - (64 * k + n))) ∧ (∃ xs : List Int, (xs.length = es.length ∧ AllW xs) ∧ IB wr (g + 1) 3 xs) ∧ Below w.heap.size w wr) (fun _ j _ => 64 - (intOf j).toNat)
      case atStart => exact ⟨0, Nat.zero_le _, rfl, rfl, hIB.out, ⟨_, hIV.out⟩, hBL.out⟩
      case round =>
        obtain ⟨n, hn, rfl, rfl, hib, ⟨ys, hys, hiv⟩, hbel⟩ := hrel
        have hJB := Lib.hid hib
        have hJV := Lib.hid (And.intro hys hiv)
        have hCL := Lib.hid hbel
        clear hib hys hiv hbel
        by_cases hlt2 : n < 64
        · have hn64 : (n : Int) < 64 := by omega
          have hdn64 : decide ((n : Int) < 64) = true := by simpa using hn64
          go_wp2_with (fail)
          refine (hF.out k n (g + 1) _ ys _ hCL.out (by omega) hJV.out.2 hJV.out.1.1 hJV.out.1.2 hlt hlt2).mono ?_
          rintro e w3 ⟨rfl, hi3, hg3⟩
          have hgz3 := hg3.size
          have hCZ := hCL.out.size
          have hJ3 : Hid (IB w3 g 3 (tabTo (at2 es) (64 * k + n) ++ zeros (4096 - (64 * k + n)))) := (hg3.block g hJB.out.lt (fun e => by injection e with e; omega)).trans hJB.out
          have hI3 := Lib.hid hi3
          have hC3 := Lib.hid (hCL.out.grown hg3 hCZ (fun q hq => by injection hq with hq; omega))
          have hcm : w3.cell? ⟨g + 1, m, none⟩ = some (.int .i64 (at2 es k n)) := by
            rw [(hAT.out k n).out, hi3.cell m (by rw [(hvl k n).out]; omega), List.getD_eq_getElem?_getD, List.getElem?_eq_getElem (by rw [(hvl k n).out]; omega)]; rfl
          have hTL := Lib.hid (tabTo_len (at2 es) (64 * k + n))
          have hS := Lib.hid (tabTo_succ (at2 es) k n hlt2)
          have hvl' := Lib.hid (And.intro (hvl k n).out (valsAt_W hOk.out ⟨by omega, by omega⟩ ⟨by omega, by omega⟩ (Nat.le_refl _) : AllW (vals es (k : Int) (n : Int))))
          clear hi3 hg3
          generalize tabTo (at2 es) (64 * k + n) = zs at *
          generalize at2 es k n = x at *
          obtain ⟨r, hr⟩ : ∃ r, 4096 - (64 * k + n) = r + 1 := ⟨4096 - (64 * k + n) - 1, by omega⟩
          have hr2 : Hid (4096 - (64 * k + (n + 1)) = r) := by simp only [Hid]; omega
          rw [hr] at hJ3
          have hJ4 := Lib.hid (hJ3.out.below ((Below.refl w3.heap.size w3).alloc (Nat.le_refl _) (.cells #[.int .i64 x] 3)) hJ3.out.lt)
          have hap := Lib.hid (fun ty => append_room_int hJ4.out ty 4096 (by rw [hTL.out]; omega) w3.heap.size x (by simp))
          have hst := Lib.hid (room_set hJ4.out x)
          have hsv := Lib.hid (((hI3.out.below ((Below.refl w3.heap.size w3).alloc (Nat.le_refl _) (.cells #[.int .i64 x] 3)) hI3.out.lt)))
          have hCf := Lib.hid ((hC3.out.alloc hC3.out.size (.cells #[.int .i64 x] 3)).setCell (p := ⟨g, zs.length, none⟩) (by show w.heap.size ≤ g; omega) (.int .i64 x))
          rw [hTL.out] at hap hst hCf
          clear hr
          have hw3 := hw2.out
          go_wp2_with (at_builtin; refine Lib.wpList_append_run _ rfl _ _ _ _ rfl _ _ rfl rfl _ _ (hap.out _) ?_)
          go_roundw
          case rel => exact ⟨n + 1, by omega, by go_num, rfl, by rw [hS.out, hr2.out]; exact hst.out, ⟨_, hvl'.out, IB.other hsv.out _ _ (by omega)⟩, hCf.out⟩
          case measure => simp [intOf]; omega
        · obtain rfl : n = 64 := by omega
          rw [tabTo_next] at hJB
          go_wp2
          go_roundw
          case rel => exact ⟨k + 1, by omega, by go_num, rfl, hJB.out, ⟨_, hJV.out⟩, hCL.out⟩
          case measure => simp [intOf]; omega
    · obtain rfl : k = 64 := by omega
      have hfin := Lib.hid (room_ow (lo := w.heap.size) (hi := wr.heap.size) (r := 0) hIB.out (by omega) hIB.out.lt (by rw [tabTo_len]; omega))
      rw [tabTo_len] at hfin
      go_wp2
      go_ret2
      rw [hR2.out]
      exact ⟨_, _, by unfold tab; rw [tabTo_len]; rfl, by unfold tab; rw [tabTo_len]; exact hfin.out, hBL.out⟩

set_option maxHeartbeats 1000000 in
theorem sTableOf_any (L B : Nat) (A : Option Addr) (c : Nat) (es : List Nd) (w : World) (hl : es.length ≤ 1048576) (hes : NS w L B A es) (hB : B ≤ w.heap.size) :
    Calls Try.prog 21 #[.slice A es.length c] w (IntsRes w (tabR es) (good es)) := by
  have H := Lib.hid (exGood_any L B A c es w hl hes hB)
  have hE := Lib.hid hes
  have hBB := Lib.hid hB
  clear hes hB
  cases hg : good es
  · have hR2 : Hid (tabR es = []) := by simp [Hid, tabR, hg]
    rw [hg] at H
    clear hg
    go_enter Try.func21, Try.ntmps21
    go_wp2_with (fail)
    refine H.out.mono ?_
    rintro e w2 ⟨rfl, hb⟩
    go_wp2_with (fail)
    go_ret2
    refine ⟨none, 0, ?_, ?_, hb⟩
    · rw [hR2.out]; rfl
    · rw [hR2.out]; exact OW.nil _ _ _
  have hR2 : Hid (tabR es = tab es) := by simp [Hid, tabR, hg]
  obtain ⟨hl1, hl24, hok⟩ := good_len hg
  have hT := Lib.hid (fun (W : World) (hW : Below w.heap.size w W) => exTable_any L B A c es W hl24 hl1 (hE.out.below hW hBB.out) (Nat.le_trans hBB.out hW.size) hok)
  rw [hg] at H
  clear hg hok hl1 hl24
  go_enter Try.func21, Try.ntmps21
  go_wp2_with (fail)
  refine H.out.mono ?_
  rintro e w2 ⟨rfl, hb⟩
  have hbb := Lib.hid hb
  clear hb
  go_wp2_with (fail)
  refine (hT.out w2 hbb.out).mono ?_
  rintro e w3 ⟨V, cv, rfl, how, hb3⟩
  have hO := Lib.hid (how.lower hbb.out.size)
  have hb3' := Lib.hid (hbb.out.trans (hb3.mono hbb.out.size))
  clear how hb3
  generalize tab es = zs at *
  go_wp2_with (fail)
  go_ret2
  rw [hR2.out]
  exact ⟨V, cv, rfl, hO.out, hb3'.out⟩
end Go.Proofs.Ytmhdijklindipaa

/- The laws' comparisons of expressions, of what is the same; tables and trees. -/
namespace Go.Proofs.Ytmhdijklindipaa
open Go.RowKit
set_option linter.unusedVariables false
set_option maxRecDepth 100000

theorem sameN_self (x : Nd) : sameN x x = true := by simp [sameN]
set_option maxHeartbeats 4000000 in
theorem pSameExpr_eq (L B L' B' : Nat) (A A' : Option Addr) (m m' c c' : Nat) (xs : List Nd) (w : World) (hm : m = xs.length) (hm' : m' = xs.length) (hl : xs.length ≤ 1048576) (hx : RS Nd.enc 4 w L B A xs) (hx' : RS Nd.enc 4 w L' B' A' xs) :
    Calls Try.prog 91 #[.slice A m c, .slice A' m' c'] w (YesD w) := by
  subst hm hm'
  have hX := Lib.hid hx.ns
  have hY := Lib.hid hx'.ns
  have hgd := nd_guard
  clear hx hx'
  go_enter Try.func91, Try.ntmps91
  go_wp2
  go_loopw [13] (fun i wr => ∃ k : Nat, k ≤ xs.length ∧ i = .int .i64 k ∧ ∃ n, wr = w.drewN n) (fun i _ => xs.length - (intOf i).toNat)
  case atStart => exact ⟨0, Nat.zero_le _, rfl, 0, rfl⟩
  case round =>
    obtain ⟨k, hk, rfl, n, rfl⟩ := hrel
    by_cases hlt : k < xs.length
    · obtain ⟨b, o, rfl, _, hc⟩ := hX.out (by omega)
      obtain ⟨b', o', rfl, _, hc'⟩ := hY.out (by omega)
      obtain ⟨c1, c2, c3, c4⟩ := hc k hlt
      obtain ⟨d1, d2, d3, d4⟩ := hc' k hlt
      have k0 : (0 : Int) ≤ (k : Int) := by omega
      have k1 : (k : Int) < (xs.length : Int) := by omega
      clear hc hc'
      generalize xs[k] = z at *
      obtain ⟨op, a, bb, v⟩ := z
      dsimp only at *
      have hEq : ∀ W : World, (Op.equalIn 10000 40 (.agg #[.string op, .int .i64 a, .int .i64 bb, .int .i64 v]) (.agg #[.string op, .int .i64 a, .int .i64 bb, .int .i64 v])).run Try.prog W = .ok true W := fun W => by
        have h := equalIn_nd op op a bb v a bb v W
        rw [sameN_self] at h; exact h
      go_wp2_with (fail)
      go_quiet (fail)
      all_goals go_wp2
      all_goals go_roundw
      case rel => exact ⟨k + 1, by omega, by go_num, _, (by first | rfl | exact World.drewN_drewN _ _ _)⟩
      case measure => simp [intOf]; omega
    · obtain rfl : k = xs.length := by omega
      go_wp2
      go_ret
      exact ⟨rfl, _, rfl⟩
set_option maxHeartbeats 4000000 in
theorem pTable_any (L B : Nat) (A : Option Addr) (c : Nat) (es : List Nd) (w : World) (hl : es.length ≤ 1048576) (hes : RS Nd.enc 4 w L B A es) (hB : B ≤ w.heap.size) :
    Calls Try.prog 26 #[.slice A es.length c] w fun e w' => ∃ (A0 : Option Addr) (c0 : Nat), e = .returned (.slice A0 (tabR es).length c0) ∧ OW w' w.heap.size w'.heap.size (.slice A0 (tabR es).length c0) (tabR es) ∧ Below w.heap.size w w' := by
  have H := Lib.hid (iTableOf_any L B A c es w hl hes.ns hB)
  clear hes
  go_enter Try.func26, Try.ntmps26
  go_wp2_with (fail)
  refine H.out.mono ?_
  rintro e w1 ⟨A1, c1, rfl, ho, hb⟩
  have hO := Lib.hid ho
  have hBB := Lib.hid hb
  clear ho hb H
  go_wp2
  go_ret
  exact ⟨A1, c1, rfl, hO.out, hBB.out⟩
set_option maxHeartbeats 4000000 in
theorem pTree_any (L B : Nat) (A : Option Addr) (c : Nat) (es : List Nd) (w : World) (hl : es.length ≤ 1048576) (hes : RS Nd.enc 4 w L B A es) (hB : B ≤ w.heap.size) :
    Calls Try.prog 96 #[.slice A es.length c] w fun e w' => e = .returned (.bool (treeR es)) ∧ Below w.heap.size w w' := by
  have H := Lib.hid (iIsTree_any L B A c es w hl hes.ns hB)
  have hT : Hid (treeR es = (good es && tree es)) := rfl
  clear hes
  generalize treeR es = t at *
  generalize good es = g at *
  go_enter Try.func96, Try.ntmps96
  go_wp2_with (fail)
  refine H.out.mono ?_
  rintro e w1 ⟨rfl, hb⟩
  have hBB := Lib.hid hb
  have hT2 : Hid (g = false → t = false) := fun h => by rw [hT.out, h]; rfl
  clear hb H hT
  cases g
  · have e := hT2.out rfl
    subst e
    go_wp2
    go_ret
    exact ⟨rfl, hBB.out⟩
  · clear hT2
    go_wp2
    go_ret
    exact ⟨rfl, hBB.out⟩
end Go.Proofs.Ytmhdijklindipaa

namespace Go.Proofs.Ytmhdijklindipaa
open Go.RowKit
set_option linter.unusedVariables false

/-! ### DepthOf -/
def dstep (i : Nat) (d : List Int) (k : Int) : List Int := d.set i (max (d.getD i 0) (d.getD k.toNat 0 + 1))
def depAt (es : List Nd) : Nat → List Int
  | 0 => List.replicate es.length 0
  | k + 1 => (parts (es.getD k zeroNd)).foldl (dstep k) (depAt es k)
def depR (es : List Nd) : Int := if good es = true then (depAt es es.length).getD (es.length - 1) 0 else 0
theorem depAt_succ {es : List Nd} {k : Nat} (h : k < es.length) : depAt es (k + 1) = (parts es[k]).foldl (dstep k) (depAt es k) := by
  rw [depAt, List.getD_eq_getElem?_getD, List.getElem?_eq_getElem h]; rfl
theorem foldl_dstep_len (i : Nat) (ps : List Int) (u : List Int) : (ps.foldl (dstep i) u).length = u.length := by
  induction ps generalizing u with
  | nil => rfl
  | cons p ps ih => rw [List.foldl_cons, ih]; simp [dstep]
theorem Bd.dstep {c : Int} {u : List Int} (h : Bd c u) (i : Nat) (k : Int) : Bd (c + 1) (dstep i u k) := by
  intro j
  have h1 := h j
  have h2 := h k.toNat
  have h3 := h i
  unfold Proofs.Ytmhdijklindipaa.dstep
  rw [List.getD_eq_getElem?_getD, List.getElem?_set]
  rw [List.getD_eq_getElem?_getD] at h1
  split
  · split
    · simp only [Option.getD_some]; omega
    · simp; omega
  · omega
theorem foldl_dstep_Bd (i : Nat) (ps : List Int) : ∀ {c : Int} {u : List Int}, Bd c u → Bd (c + ps.length) (ps.foldl (dstep i) u) := by
  induction ps with
  | nil => intro c u h; simpa using h
  | cons p ps ih => intro c u h; rw [List.foldl_cons]; exact (ih (h.dstep i p)).mono (by simp; omega)
theorem depAt_len (es : List Nd) (k : Nat) : (depAt es k).length = es.length := by
  induction k with
  | zero => simp [depAt]
  | succ k ih => rw [depAt, foldl_dstep_len, ih]
theorem depAt_Bd {es : List Nd} {k : Nat} (h : k ≤ es.length) : Bd (2 * k) (depAt es k) := by
  induction k with
  | zero => intro i; rw [depAt, List.getD_eq_getElem?_getD, List.getElem?_replicate]; split <;> simp
  | succ k ih =>
    rw [depAt_succ (by omega)]
    have := parts_len es[k]
    exact (foldl_dstep_Bd k _ (ih (by omega))).mono (by omega)

theorem l1Most_any (a b : Int) (w : World) : Calls Try.prog 183 #[.int .i64 a, .int .i64 b] w fun e w' => e = .returned (.int .i64 (max a b)) ∧ w = w' := by
  by_cases h : b < a
  · go_enter Try.func183, Try.ntmps183
    go_wp2
    go_ret
    exact ⟨ret_int (by omega), rfl⟩
  · go_enter Try.func183, Try.ntmps183
    go_wp2
    go_ret
    exact ⟨ret_int (by omega), rfl⟩

set_option maxRecDepth 100000 in
set_option maxHeartbeats 8000000 in
theorem sDepthOf_any (L B : Nat) (A : Option Addr) (c : Nat) (es : List Nd) (w : World) (hl : es.length ≤ 1048576) (hes : NS w L B A es) (hB : B ≤ w.heap.size) :
    Calls Try.prog 105 #[.slice A es.length c] w fun e w' => e = .returned (.tuple #[.int .i64 (depR es), .bool (good es)]) ∧ Below w.heap.size w w' := by
  have H := Lib.hid (exGood_any L B A c es w hl hes hB)
  have hE := Lib.hid hes
  have hBB := Lib.hid hB
  clear hes hB
  cases hg : good es
  · have hR2 : Hid (depR es = 0) := by simp [Hid, depR, hg]
    go_enter Try.func105, Try.ntmps105
    go_wp2_with (fail)
    refine H.out.mono ?_
    rintro e w2 ⟨rfl, hb⟩
    have hbb := Lib.hid hb
    clear hb
    go_wp2_with (fail)
    go_ret2
    exact ⟨by rw [hR2.out]; rfl, hbb.out⟩
  have hR2 : Hid (depR es = (depAt es es.length).getD (es.length - 1) 0) := by simp [Hid, depR, hg]
  obtain ⟨hl1, hl24, hok⟩ := good_len hg
  have hP := Lib.hid (ok_parts hok)
  have hmk := run_make_ints es.length (by omega)
  clear hok
  go_enter Try.func105, Try.ntmps105
  go_wp2_with (fail)
  refine H.out.mono ?_
  rintro e w2 ⟨rfl, hb⟩
  have hbb := Lib.hid hb
  have hsz := hb.size
  clear hb
  have hU0 : Hid (IB (w2.alloc (.cells (intCells (zeros es.length)) 3)) w2.heap.size 3 (depAt es 0)) := heap_alloc_new w2 _
  have hBel0 := Lib.hid ((Below.refl w2.heap.size w2).alloc (Nat.le_refl _) (.cells (intCells (zeros es.length)) 3))
  have hE2 : Hid (NS w2 L B A es) := hE.out.below hbb.out hBB.out
  have hB2 : B ≤ w2.heap.size := Nat.le_trans hBB.out hsz
  go_wp2
  go_loopw [17] (fun i wr => ∃ k : Nat, k ≤ es.length ∧ i = .int .i64 k ∧ IB wr w2.heap.size 3 (depAt es k) ∧ Below w2.heap.size w2 wr) (fun i _ => es.length - (intOf i).toNat)
  case atStart => exact ⟨0, Nat.zero_le _, rfl, hU0.out, hBel0.out⟩
  case round =>
    obtain ⟨k, hk, rfl, hib, hbel⟩ := hrel
    have hIB := Lib.hid hib
    have hglt := hib.lt
    clear hib hmk hBel0 hU0
    by_cases hlt : k < es.length
    · obtain ⟨b, o, rfl, ⟨_, hbB⟩, hc⟩ := (hE2.out.below hbel hB2) (by omega)
      obtain ⟨c1, c2, c3, c4⟩ := hc k hlt
      clear hc
      have hPk : Hid (∀ p ∈ parts es[k], 0 ≤ p ∧ p < es.length) := hP.out _ (List.getElem_mem hlt)
      have hSk := Lib.hid (depAt_succ hlt)
      have hBd := Lib.hid (depAt_Bd (es := es) (k := k) hk)
      have hLen := Lib.hid (depAt_len es k)
      have hp2 := parts_len es[k]
      clear hP
      generalize hnd : es[k] = nd at *
      obtain ⟨s, a, bb, v⟩ := nd
      clear hnd
      go_wp2_with (fail)
      refine (exParts_any _ _ _ _ _).mono ?_
      rintro e w3 ⟨A2, cc, rfl, hIS, hb2⟩
      have hI2 := Lib.hid hIS
      have hbel2 : Below w2.heap.size w2 w3 := hbel.trans (((Below.refl _ _).alloc hbel.size _).trans (hb2.mono (by simp; have := hbel.size; omega)))
      have hIB2 : Hid (IB w3 w2.heap.size 3 (depAt es k)) := (show IB _ _ _ _ from hIB.out).below ((Below.refl wr.heap.size wr).alloc (Nat.le_refl _) _ |>.trans (hb2.mono (by simp))) hglt
      have hsz2 := hb2.size
      simp at hsz2
      clear hIS hb2 hIB c1 c2 c3 c4 hbel
      generalize hps : parts ⟨s, a, bb, v⟩ = ps at *
      clear hps
      go_wp2_with (fail)
      go_loopw [25] (fun i wi => ∃ j : Nat, j ≤ ps.length ∧ i = .int .i64 j ∧ IB wi w2.heap.size 3 ((ps.take j).foldl (dstep k) (depAt es k)) ∧ Below w2.heap.size w2 wi ∧ IS wi (w2.heap.size + 1) wi.heap.size A2 ps) (fun i _ => ps.length - (intOf i).toNat)
      case atStart =>
        refine ⟨0, Nat.zero_le _, rfl, hIB2.out, hbel2, hI2.out.more ?_ (Nat.le_refl _)⟩
        simp; omega
      case round =>
        obtain ⟨j, hj, rfl, hib, hbel3, his⟩ := hrel
        have hIB3 := Lib.hid hib
        have hIS3 := Lib.hid his
        have hBel3 := Lib.hid hbel3
        clear hib his hbel3
        by_cases hjt : j < ps.length
        · obtain ⟨b2, o2, rfl, hbb2, hc⟩ := hIS3.out (by omega)
          have hcj := hc j hjt
          obtain ⟨hq0, hq1⟩ := hPk.out _ (List.getElem_mem hjt)
          obtain ⟨q, hq⟩ := Int.eq_ofNat_of_zero_le hq0
          have hql : q < es.length := by omega
          rw [hq] at hcj
          have hQ := Lib.hid hq
          clear hc hq hq0 hq1
          have hlen3 : ((ps.take j).foldl (dstep k) (depAt es k)).length = es.length := by rw [foldl_dstep_len]; exact hLen.out
          have hcu := hIB3.out.cell q (by rw [hlen3]; exact hql)
          have hck := hIB3.out.cell k (by rw [hlen3]; exact hlt)
          have hfk := hIB3.out.frozen k
          have hbd3 := (foldl_dstep_Bd k (ps.take j) hBd.out) q
          have hbd4 := (foldl_dstep_Bd k (ps.take j) hBd.out) k
          have hlj : (ps.take j).length ≤ 2 := by rw [List.length_take]; omega
          have hsnoc : (ps.take (j + 1)).foldl (dstep k) (depAt es k) = ((ps.take j).foldl (dstep k) (depAt es k)).set k (max (((ps.take j).foldl (dstep k) (depAt es k)).getD k 0) (((ps.take j).foldl (dstep k) (depAt es k)).getD q 0 + 1)) := by
            rw [List.take_succ_eq_append_getElem hjt, List.foldl_append, hQ.out]; rfl
          have hS3 := Lib.hid hsnoc
          generalize (ps.take j).foldl (dstep k) (depAt es k) = us at *
          have hcu' : wr.cell? ⟨w2.heap.size, q, none⟩ = some (.int .i64 (us.getD q 0)) := by
            rw [hcu, List.getD_eq_getElem?_getD, List.getElem?_eq_getElem (by omega)]; rfl
          have hck' : wr.cell? ⟨w2.heap.size, k, none⟩ = some (.int .i64 (us.getD k 0)) := by
            rw [hck, List.getD_eq_getElem?_getD, List.getElem?_eq_getElem (by omega)]; rfl
          clear hcu hck hsnoc hlen3
          generalize us.getD q 0 = x at *
          generalize us.getD k 0 = y at *
          obtain ⟨hx0, hx1⟩ := hbd3
          obtain ⟨hy0, hy1⟩ := hbd4
          have hx2 : x ≤ 1000 := by omega
          have hy2 : y ≤ 1000 := by omega
          clear hx1 hy1
          have hkeep : ∀ (z : Int) (p : Addr), p.block ≠ w2.heap.size → (wr.setCell ⟨w2.heap.size, k, none⟩ (.int .i64 z)).cell? p = wr.cell? p := fun z p hne => World.cell?_setCell_other wr _ p _ (fun e => by subst e; exact hne rfl)
          have hK := Lib.hid hkeep
          clear hkeep
          have i1 : (q : Int) < (es.length : Int) := by omega
          have i2 : (0 : Int) ≤ (q : Int) := by omega
          have i3 : (k : Int) < (es.length : Int) := by omega
          have i4 : (0 : Int) ≤ (k : Int) := by omega
          have i5 : IntKind.i64.wrap (x + 1) = x + 1 := by rw [IntKind.wrap_i64]; omega
          go_wp2_with (fail)
          go_region_law (go_simp; go_at_call 183; refine (l1Most_any _ _ _).mono ?_; rintro e w' ⟨rfl, rfl⟩)
          all_goals
            go_wp2
            go_roundw
            case rel =>
              refine ⟨j + 1, by omega, by go_num, ?_, (hBel3.out.setCell (Nat.le_refl _) _).drew, ?_⟩
              · rw [hS3.out]; exact hIB3.out.set k (max y (x + 1))
              · have := hIS3.out.keep (w' := wr.setCell ⟨w2.heap.size, k, none⟩ (.int .i64 (max y (x + 1)))) fun p hp _ => hK.out _ p (by omega)
                exact this.more (Nat.le_refl _) (by simp [World.setCell])
            case measure => simp [intOf]; omega
        · obtain rfl : j = ps.length := by omega
          go_wp2
          go_roundw
          case rel =>
            refine ⟨k + 1, by omega, by go_num, ?_, hBel3.out⟩
            have := hIB3.out
            rw [List.take_length] at this
            rw [hSk.out]; exact this
          case measure => simp [intOf]; omega
    · obtain rfl : k = es.length := by omega
      obtain ⟨m, hm⟩ : ∃ m, es.length = m + 1 := ⟨es.length - 1, by omega⟩
      have hlen := depAt_len es es.length
      have hR3 := hR2.out
      have hib := hIB.out
      clear hIB hR2
      generalize depAt es es.length = D at *
      have hcm := hib.cell m (by omega)
      have hRm : depR es = D[m]'(by omega) := by
        rw [hR3, List.getD_eq_getElem?_getD, show es.length - 1 = m by omega, List.getElem?_eq_getElem (by omega)]; rfl
      generalize D[m]'(by omega) = z at *
      have hRm := Lib.hid hRm
      have HB := Lib.hid (hbb.out.trans (hbel.mono hsz))
      clear hlen hR3 hib
      rw [hm]
      go_wp2
      go_ret2
      exact ⟨by rw [hRm.out]; rfl, HB.out⟩
end Go.Proofs.Ytmhdijklindipaa
