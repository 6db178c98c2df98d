/- Texts of this proof, one behind the other: AO, AH. -/
import Derived.Test.YtgcbfiamhpfkhaaZ7
import Derived.WalkKit
import Derived.Lib.Hide
import Derived.Test.YtgcbfiamhpfkhaaZ6
import Derived.Test.YtgcbfiamhpfkhaaGT
import Derived.WalkSpells
import Derived.WalkLawsBesides
/- A slice of the call's own: read and stored. -/
namespace Go.Proofs.Ytgcbfiamhpfkhaa
open Go.RowKit
set_option linter.unusedVariables false

theorem OW.len2 {w : World} {lo hi n c : Nat} {A : Option Addr} {xs : List Int} (h : OW w lo hi (.slice A n c) xs) : n = xs.length := by
  obtain ⟨A2, c2, hv, _⟩ := h.form
  injection hv with a b d
theorem OW.some2 {w : World} {lo hi n c : Nat} {A : Option Addr} {xs : List Int} (h : OW w lo hi (.slice A n c) xs) (h0 : 0 < n) : ∃ g, A = some ⟨g, 0, none⟩ ∧ lo ≤ g ∧ g < hi := by
  rcases h.1.2 with ⟨hv, h1⟩ | ⟨g, cap, cur, hv, hg, _⟩
  · injection hv with a b d; omega
  · have h2 := h.2 g (by rw [hv]; rfl)
    injection hv with a b d; exact ⟨g, a, hg, h2⟩
theorem OW.at2 {w : World} {lo hi n c g : Nat} {xs : List Int} (h : OW w lo hi (.slice (some ⟨g, 0, none⟩) n c) xs) (k : Nat) (hk : k < xs.length) : w.cell? ⟨g, k, none⟩ = some (.int .i64 (xs.getD k 0)) ∧ w.frozen? ⟨g, k, none⟩ = false := by
  have hl := h.len2
  subst hl
  have hcell := h.1.cellAt k (by omega)
  have hfr := h.1.frozenAt k
  rw [List.getElem?_map, List.getElem?_eq_getElem hk] at hcell
  rw [getD_get hk]
  exact ⟨by simpa using hcell, hfr⟩
theorem OW.put2 {w : World} {lo hi n c g : Nat} {xs : List Int} (h : OW w lo hi (.slice (some ⟨g, 0, none⟩) n c) xs) (k : Nat) (x : Int) : OW (w.setCell ⟨g, k, none⟩ (.int .i64 x)) lo hi (.slice (some ⟨g, 0, none⟩) n c) (xs.set k x) := by
  have hl := h.len2
  subst hl
  refine ⟨?_, h.2⟩
  have h1 := (h.1.stored k (.int .i64 x)).1
  rw [← List.map_set] at h1
  rw [List.length_set]; exact h1
end Go.Proofs.Ytgcbfiamhpfkhaa

/- The model's best cover. -/
namespace Go.Proofs.Ytgcbfiamhpfkhaa
open Go.RowKit
set_option linter.unusedVariables false
set_option maxRecDepth 100000

theorem repl_succ (k : Nat) : List.replicate (k + 1) (-1 : Int) = List.replicate k (-1) ++ [-1] := List.replicate_succ'
set_option maxHeartbeats 4000000 in
theorem cvNone_any (A : Option Addr) (c n : Nat) (w : World) (hn : n ≤ 24) :
    Calls Try.prog 70 #[.slice A n c] w (OwnIs w (List.replicate n (-1))) := by
  obtain ⟨i0, hi, hz0, hz1, hz2⟩ := info_parts Try.infoInt
  have hI := Lib.hid hi
  have hZ0 := Lib.hid hz0
  have hZ1 := Lib.hid hz1
  have hZ2 := Lib.hid hz2
  clear hi hz0 hz1 hz2
  have b0 := Lib.hid (Below.refl w.heap.size w)
  go_enter Try.func70, Try.ntmps70
  go_wp2
  go_loopw [3, 6] (fun v q wr => ∃ k : Nat, k ≤ n ∧ q = .int .i64 k ∧ OW wr w.heap.size wr.heap.size v (List.replicate k (-1)) ∧ Below w.heap.size w wr) (fun _ q _ => n - (intOf q).toNat)
  case atStart => exact ⟨0, Nat.zero_le _, rfl, OW.nil _ _ _, b0.out⟩
  case round =>
    obtain ⟨k, hk, rfl, how, hbel⟩ := hrel
    obtain ⟨V, cv, rfl, _⟩ := how.form
    have hO := Lib.hid how
    have hBL := Lib.hid hbel
    clear how hbel
    by_cases hlt : k < n
    · have hki : (k : Int) < (n : Int) := by omega
      have hS := Lib.hid (repl_succ k)
      have hxl : (List.replicate k (-1 : Int)).length = k := List.length_replicate
      generalize List.replicate k (-1 : Int) = xs at *
      have ho2 := Lib.hid (hO.out.1.alloc (.cells #[.int .i64 (-1)] 3))
      have hb3 := Lib.hid (hBL.out.alloc hBL.out.size (.cells #[.int .i64 (-1)] 3))
      have hlo := Lib.hid hO.out.lo
      have hlen : xs.length ≤ 24 := by omega
      clear hxl
      go_wp2_with (at_builtin; go_loud (refine wpList_append_own _ rfl _ _ 23 rfl w.heap.size 3 i0 (.int .i64 0) 1 8 Try.underlying23 hI.out hZ0.out hZ1.out hZ2.out rfl (by decide) _ _ _ rfl ho2.out ⟨wr.heap.size, 0, none⟩ 1 1 [.int .i64 (-1)] rfl rfl (new1 rfl) (one1 _) (by unfold maxLen; omega) (by omega) (by have := hBL.out.size; simp; omega) ?_); intro v' w4 hown4 hgr4 _)
      have R1 := Lib.hid (OW.push (by simpa using hown4) : OW w4 w.heap.size w4.heap.size v' (xs ++ [-1]))
      have R2 := Lib.hid (hb3.out.grown hgr4 hb3.out.size (fun k hk => (hlo.out k hk).1))
      clear hown4 hgr4
      go_wp2
      go_roundw
      case rel => exact ⟨k + 1, by omega, by go_num, by rw [hS.out]; exact R1.out, R2.out⟩
      case measure => simp [intOf]; omega
    · obtain rfl : k = n := by omega
      go_wp2
      go_ret
      exact ⟨V, cv, rfl, hO.out, hBL.out⟩
end Go.Proofs.Ytgcbfiamhpfkhaa
