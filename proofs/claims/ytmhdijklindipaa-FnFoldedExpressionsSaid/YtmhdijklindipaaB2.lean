import Derived.Test.YtmhdijklindipaaA
import Derived.Test.YtmhdijklindipaaCV
import Derived.WalkKit
import Derived.WalkSpells
import Derived.WalkLawsBesides
import Derived.Lib.Hide
namespace Go.Proofs.Ytmhdijklindipaa
open Go.RowKit

def opArr : Array Value := #[.string ⟨#[97,100,100]⟩, .string ⟨#[115,117,98]⟩, .string ⟨#[109,117,108]⟩, .string ⟨#[97,110,100]⟩, .string ⟨#[111,114]⟩, .string ⟨#[120,111,114]⟩, .string ⟨#[115,104,108]⟩, .string ⟨#[115,104,114]⟩, .string ⟨#[108,101,115,115]⟩, .string ⟨#[101,113]⟩]
def opList : List ByteArray := [⟨#[97,100,100]⟩, ⟨#[115,117,98]⟩, ⟨#[109,117,108]⟩, ⟨#[97,110,100]⟩, ⟨#[111,114]⟩, ⟨#[120,111,114]⟩, ⟨#[115,104,108]⟩, ⟨#[115,104,114]⟩, ⟨#[108,101,115,115]⟩, ⟨#[101,113]⟩]
theorem hasS_ops (s : ByteArray) : hasS opList s = isTwo s := by
  have e : opList.map ByteArray.toList = twoOps := by decide +kernel
  unfold hasS isTwo; rw [← e, List.any_map]; rfl

theorem exOps_any (w : World) : Calls Try.prog 126 #[] w fun e w' => e = .returned (.slice (some ⟨w.heap.size, 0, none⟩) 10 10) ∧ w.alloc (.cells opArr 9) = w' := by
  go_enter Try.func126, Try.ntmps126
  go_wp2
  go_ret
  exact ⟨rfl, rfl⟩

theorem opArr_cell (k : Nat) (h : k < opList.length) : opArr[k]? = some (.string opList[k]) := by
  match k, h with
  | 0, _ => rfl
  | 1, _ => rfl
  | 2, _ => rfl
  | 3, _ => rfl
  | 4, _ => rfl
  | 5, _ => rfl
  | 6, _ => rfl
  | 7, _ => rfl
  | 8, _ => rfl
  | 9, _ => rfl

theorem exTwo_any (s : ByteArray) (w : World) :
    Calls Try.prog 132 #[.string s] w fun e w' => e = .returned (.bool (isTwo s)) ∧ w.alloc (.cells opArr 9) = w' := by
  have HS := fun c => l1HasS_any w.heap.size 0 c opList s (w.alloc (.cells opArr 9)) (by decide) (fun k h => by
    rw [Nat.zero_add, cell_of_row _ w.heap.size k opArr 9 (0,0) (heap_alloc_new _ _)]; exact opArr_cell k h)
  rw [hasS_ops] at HS
  have HH := Lib.hid HS; clear HS
  go_enter Try.func132, Try.ntmps132
  go_wp2_with (fail)
  refine (exOps_any _).mono ?_
  rintro e w' ⟨rfl, rfl⟩
  go_wp2_with (fail)
  refine (HH.out _).mono ?_
  rintro e w' ⟨rfl, rfl⟩
  go_wp2
  go_ret
  exact ⟨rfl, rfl⟩
theorem ar_cases (s : ByteArray) : (ar s = 0 ∧ isOne s = false ∧ isTwo s = false) ∨ (ar s = 1 ∧ isOne s = true ∧ isTwo s = false) ∨ (ar s = 2 ∧ isOne s = false ∧ isTwo s = true) ∨ (ar s = -1 ∧ isOne s = false ∧ isTwo s = false) := by
  rcases op_cases s with h|h|h|h|h|h|h|h|h|h|h|h|h|h|h
  iterate 2 (· left; simp [ar, isIn, isConst, isOne, isTwo, twoOps, h])
  iterate 2 (· right; left; simp [ar, isIn, isConst, isOne, isTwo, twoOps, h])
  iterate 10 (· right; right; left; simp [ar, isIn, isConst, isOne, isTwo, twoOps, h])
  right; right; right
  obtain ⟨h1, h2, h3, h4, h5, h6, h7, h8, h9, h10, h11, h12, h13, h14⟩ := h
  have f : ∀ t : List UInt8, (s.toList == t) = false → (t == s.toList) = false := fun t h => by
    rw [beq_eq_false_iff_ne] at h ⊢; exact Ne.symm h
  simp only [ar, isIn, isConst, isOne, isTwo, twoOps, List.any_cons, List.any_nil, h1, h2, h3, h4, f _ h5, f _ h6, f _ h7, f _ h8, f _ h9, f _ h10, f _ h11, f _ h12, f _ h13, f _ h14, Bool.or_false, Bool.false_eq_true, if_false]
  simp

end Go.Proofs.Ytmhdijklindipaa
