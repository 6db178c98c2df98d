import Derived.Test.YtblgiemhdjndfaaB
import Derived.WalkKit
import Derived.WalkSpells
import Derived.WalkLawsBesides
import Derived.Lib.Hide
namespace Go.Proofs.Ytblgiemhdjndfaa
open Go.RowKit

theorem isWord_any (n : Int) (w : World) :
    Calls Try.prog 57 #[.int .i64 n] w fun e w' => e = .returned (.bool (isW n)) ∧ w = w' := by
  by_cases h1 : 0 ≤ n
  · go_enter Try.func57, Try.ntmps57
    go_wp2
    go_ret
    exact ⟨ret_bool (by simp [isW, h1]), rfl⟩
  · go_enter Try.func57, Try.ntmps57
    go_wp2
    go_ret
    exact ⟨ret_bool (by simp [isW]; omega), rfl⟩
theorem exWord_w (n : Int) (w : World) :
    Calls Try.prog 54 #[.int .i64 n] w fun e w' => e = .returned (.bool (isW n)) ∧ w = w' := exWord_any n w

def opArr : Array Value := #[.string ⟨#[97,100,100]⟩, .string ⟨#[115,117,98]⟩, .string ⟨#[109,117,108]⟩, .string ⟨#[97,110,100]⟩, .string ⟨#[111,114]⟩, .string ⟨#[120,111,114]⟩, .string ⟨#[115,104,108]⟩, .string ⟨#[115,104,114]⟩, .string ⟨#[108,101,115,115]⟩, .string ⟨#[101,113]⟩]
def opList : List ByteArray := [⟨#[97,100,100]⟩, ⟨#[115,117,98]⟩, ⟨#[109,117,108]⟩, ⟨#[97,110,100]⟩, ⟨#[111,114]⟩, ⟨#[120,111,114]⟩, ⟨#[115,104,108]⟩, ⟨#[115,104,114]⟩, ⟨#[108,101,115,115]⟩, ⟨#[101,113]⟩]
theorem hasS_ops (s : ByteArray) : hasS opList s = isTwo s := by
  have e : opList.map ByteArray.toList = twoOps := by decide +kernel
  unfold hasS isTwo; rw [← e, List.any_map]; rfl

theorem exOps_any (w : World) : Calls Try.prog 87 #[] w fun e w' => e = .returned (.slice (some ⟨w.heap.size, 0, none⟩) 10 10) ∧ w.alloc (.cells opArr 9) = w' := by
  go_enter Try.func87, Try.ntmps87
  go_wp2
  go_ret
  exact ⟨rfl, rfl⟩

theorem opArr_cell (k : Nat) (h : k < opList.length) : opArr[k]? = some (.string opList[k]) := by
  match k, h with
  | 0, _ => rfl
  | 1, _ => rfl
  | 2, _ => rfl
  | 3, _ => rfl
  | 4, _ => rfl
  | 5, _ => rfl
  | 6, _ => rfl
  | 7, _ => rfl
  | 8, _ => rfl
  | 9, _ => rfl

theorem exTwo_any (s : ByteArray) (w : World) :
    Calls Try.prog 62 #[.string s] w fun e w' => e = .returned (.bool (isTwo s)) ∧ w.alloc (.cells opArr 9) = w' := by
  have HS := fun c => l1HasS_any w.heap.size 0 c opList s (w.alloc (.cells opArr 9)) (by decide) (fun k h => by
    rw [Nat.zero_add, cell_of_row _ w.heap.size k opArr 9 (0,0) (heap_alloc_new _ _)]; exact opArr_cell k h)
  rw [hasS_ops] at HS
  have HH := Lib.hid HS; clear HS
  go_enter Try.func62, Try.ntmps62
  go_wp2_with (fail)
  refine (exOps_any _).mono ?_
  rintro e w' ⟨rfl, rfl⟩
  go_wp2_with (fail)
  refine (HH.out _).mono ?_
  rintro e w' ⟨rfl, rfl⟩
  go_wp2
  go_ret
  exact ⟨rfl, rfl⟩
end Go.Proofs.Ytblgiemhdjndfaa
