import Derived.Test.YtpgdccfpegdcoaaCU
import Derived.WalkKit
import Derived.WalkSpells
import Derived.WalkLawsBesides
import Derived.Lib.Hide
namespace Go.Proofs.Ytpgdccfpegdcoaa
open Go.RowKit Go.Sort
set_option linter.unusedVariables false
set_option maxRecDepth 100000

theorem insNil_any (A : Option Addr) (c : Nat) (w : World) :
    Calls Try.prog 186 #[.slice A 0 c, .int .i64 0, .int .i64 0] w fun e w' => e = .returned (.tuple #[]) ∧ w = w' := by
  go_enter Try.func186, Try.ntmps186
  go_wp2
  go_loop [6] (fun i => i = .int .i64 1) (fun i => 0)
  case atStart => rfl
  case round =>
    subst hrel
    go_wp2
    go_end0
    exact ⟨rfl, rfl⟩
theorem pdqNil_any (A : Option Addr) (c : Nat) (n : Int) (w : World) :
    Calls Try.prog 177 #[.slice A 0 c, .int .i64 0, .int .i64 0, .int .i64 n] w fun e w' => e = .returned (.tuple #[]) ∧ w = w' := by
  go_enter Try.func177, Try.ntmps177
  go_wp2
  go_loop [1, 2] (fun i j => i = .int .i64 0 ∧ j = .int .i64 0) (fun i _ => 0)
  case atStart => exact ⟨rfl, rfl⟩
  case round =>
    obtain ⟨rfl, rfl⟩ := hrel
    go_wp2_with (go_at_call 186; refine (insNil_any _ _ _).mono ?_; rintro e w' ⟨rfl, rfl⟩)
    exact bodyPost_ret (v := .tuple #[]) (by simp [results, Try.results177, go_sem]) rfl ⟨rfl, rfl⟩
theorem sortNil_any (A : Option Addr) (c : Nat) (w : World) :
    Calls Try.prog 163 #[.slice A 0 c] w fun e w' => e = .returned (.tuple #[]) ∧ w = w' := by
  have H := Lib.hid (Try.bits_Len 0 w (by omega) (by omega))
  go_enter Try.func163, Try.ntmps163
  go_wp2_with (fail)
  refine H.out.mono ?_
  rintro e w' ⟨rfl, rfl⟩
  generalize Lib.bitLen _ = q
  go_wp2_with (go_at_call 177; refine (pdqNil_any _ _ _ _).mono ?_; rintro e w' ⟨rfl, rfl⟩)
  go_end0
  exact ⟨rfl, rfl⟩
def sorted (xs : List Int) : List Int := xs.mergeSort fun x y => decide (x ≤ y)
theorem sorted_len (xs : List Int) : (sorted xs).length = xs.length := by simp [sorted]
/-- slices.Sort on a slice of the call's own. -/
theorem sortOwn_any (lo hi : Nat) (A : Option Addr) (n c : Nat) (xs : List Int) (w : World) (hn : n = xs.length) (hl : xs.length ≤ 1048576) (hx : OW w lo hi (.slice A n c) xs) :
    Calls Try.prog 163 #[.slice A n c] w fun e w' => e = .returned (.tuple #[]) ∧ OW w' lo hi (.slice A n c) (sorted xs) ∧ Chg lo hi w w' := by
  subst hn
  rcases hx.1.2 with ⟨h0, h1⟩ | ⟨g, cap, cur, e, hlo, _⟩
  · injection h0 with e1 e2 e3
    obtain rfl : xs = [] := List.eq_nil_of_length_eq_zero h1
    subst e1; subst e3
    refine (sortNil_any none 0 w).mono ?_
    rintro e w' ⟨rfl, rfl⟩
    exact ⟨rfl, by simpa [sorted] using hx, Chg.refl _ _ _⟩
  · injection e with e1 e2 e3
    subst e1; subst e3
    have hg : g < w.heap.size := (hx.1.lt g rfl).2
    refine (Try.slices_Sort_int g 0 c xs w hx.holds hg (by omega)).mono ?_
    rintro e w' ⟨rfl, m, os, rfl⟩
    have hgh : g < hi := hx.2 g rfl
    exact ⟨rfl, hx.put (sorted_len xs) m os, (chg_put w g m _ os).more hlo hgh⟩
theorem compact_pre (xs : List Int) : (Lib.compact xs).length ≤ xs.length := by
  unfold Lib.compact Lib.compactUpTo
  rw [List.length_map]
  exact Nat.le_trans (List.length_filter_le _ _) (by simp)
/-- slices.Compact on a slice of the call's own. -/
theorem compactOwn_any (lo hi : Nat) (A : Option Addr) (n c : Nat) (xs : List Int) (w : World) (hn : n = xs.length) (hl : xs.length ≤ 1048576) (hx : OW w lo hi (.slice A n c) xs) :
    Calls Try.prog 164 #[.slice A n c] w fun e w' => e = .returned (.slice A (Lib.compact xs).length c) ∧ OW w' lo hi (.slice A (Lib.compact xs).length c) (Lib.compact xs) ∧ Chg lo hi w w' := by
  subst hn
  rcases hx.1.2 with ⟨h0, h1⟩ | ⟨g, cap, cur, e, hlo, _, h1, _⟩
  · injection h0 with e1 e2 e3
    obtain rfl : xs = [] := List.eq_nil_of_length_eq_zero h1
    subst e1; subst e3
    refine (Try.slices_Compact_int_empty none 0 w).mono ?_
    rintro e w' ⟨rfl, rfl⟩
    rw [compact0]
    exact ⟨rfl, hx, Chg.refl _ _ _⟩
  · injection e with e1 e2 e3
    subst e1; subst e3
    refine (Try.slices_Compact_int g 0 c xs w hx.holds (by omega) h1).mono ?_
    rintro e w' ⟨rfl, m, rfl⟩
    have hcl := compact_pre xs
    have hgh : g < hi := hx.2 g rfl
    have hp := hx.put (d := Lib.compact xs ++ List.replicate (xs.length - (Lib.compact xs).length) 0) (by simp; omega) m #[]
    have hs := hp.short (Lib.compact xs).length (by simp)
    rw [List.take_left, grow_empty] at hs
    refine ⟨rfl, hs, ?_⟩
    have := chg_put w g m (Lib.compact xs ++ List.replicate (xs.length - (Lib.compact xs).length) 0).toArray #[]
    rw [grow_empty] at this
    exact this.more hlo hgh
end Go.Proofs.Ytpgdccfpegdcoaa
