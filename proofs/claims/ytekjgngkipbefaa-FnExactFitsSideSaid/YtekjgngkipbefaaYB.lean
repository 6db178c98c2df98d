import Derived.Test.YtekjgngkipbefaaB2
import Derived.Test.YtekjgngkipbefaaCA
import Derived.WalkKit
import Derived.WalkSpells
import Derived.WalkLawsBesides
import Derived.Lib.Hide
/- Sides of rules: which words they tell. -/
namespace Go.Proofs.Ytekjgngkipbefaa
open Go.RowKit
set_option linter.unusedVariables false

def sideList : List (List UInt8) := [[97,110,121], [99,111,110,115,116], [111,100,100], [112,111,119,101,114], [115,109,97,108,108]]
def isSide (s : ByteArray) : Bool := sideList.any fun t => t == s.toList
def isPow (n : Int) : Bool := n == 1 || n == 2 || n == 4 || n == 8 || n == 16 || n == 32
def fitS (s : ByteArray) (n : Int) : Bool :=
  if s.toList = [111,100,100] then n % 2 == 1 else if s.toList = [112,111,119,101,114] then isPow n else if s.toList = [115,109,97,108,108] then inR n 1 5 else true
def fsB (s : ByteArray) (n : Int) : Bool := isW n && isSide s
def fsR (s : ByteArray) (n : Int) : Bool := fsB s n && fitS s n

theorem side_cases (s : ByteArray) : s.toList = [97,110,121] ∨ s.toList = [99,111,110,115,116] ∨ s.toList = [111,100,100] ∨ s.toList = [112,111,119,101,114] ∨ s.toList = [115,109,97,108,108] ∨
    ((s.toList == [97,110,121]) = false ∧ (s.toList == [99,111,110,115,116]) = false ∧ (s.toList == [111,100,100]) = false ∧ (s.toList == [112,111,119,101,114]) = false ∧ (s.toList == [115,109,97,108,108]) = false) := by
  by_cases h1 : s.toList = [97,110,121]; · exact .inl h1
  by_cases h2 : s.toList = [99,111,110,115,116]; · exact .inr (.inl h2)
  by_cases h3 : s.toList = [111,100,100]; · simp [h3]
  by_cases h4 : s.toList = [112,111,119,101,114]; · simp [h4]
  by_cases h5 : s.toList = [115,109,97,108,108]; · simp [h5]
  simp [*]

def sideArr : Array Value := #[.string ⟨#[97,110,121]⟩, .string ⟨#[99,111,110,115,116]⟩, .string ⟨#[111,100,100]⟩, .string ⟨#[112,111,119,101,114]⟩, .string ⟨#[115,109,97,108,108]⟩]
def sideBs : List ByteArray := [⟨#[97,110,121]⟩, ⟨#[99,111,110,115,116]⟩, ⟨#[111,100,100]⟩, ⟨#[112,111,119,101,114]⟩, ⟨#[115,109,97,108,108]⟩]
theorem hasS_side (s : ByteArray) : hasS sideBs s = isSide s := by
  have e : sideBs.map ByteArray.toList = sideList := by decide +kernel
  unfold hasS isSide; rw [← e, List.any_map]; rfl
theorem sideArr_cell (k : Nat) (h : k < sideBs.length) : sideArr[k]? = some (.string sideBs[k]) := by
  match k, h with
  | 0, _ => rfl
  | 1, _ => rfl
  | 2, _ => rfl
  | 3, _ => rfl
  | 4, _ => rfl

theorem ruSide_any (s : ByteArray) (w : World) :
    Calls Try.prog 82 #[.string s] w fun e w' => e = .returned (.bool (isSide s)) ∧ Below w.heap.size w w' := by
  have HS := fun c => l1HasS_any w.heap.size 0 c sideBs s (w.alloc (.cells sideArr 9)) (by decide) (fun k h => by
    rw [Nat.zero_add, cell_of_row _ w.heap.size k sideArr 9 (0,0) (heap_alloc_new _ _)]; exact sideArr_cell k h)
  rw [hasS_side] at HS
  have HH := Lib.hid HS; clear HS
  have hB1 := fun o => (Below.refl w.heap.size w).alloc (Nat.le_refl _) o
  go_enter Try.func82, Try.ntmps82
  go_wp2_with (fail)
  refine (HH.out _).mono ?_
  rintro e w' ⟨rfl, rfl⟩
  go_wp2
  go_ret
  exact ⟨rfl, hB1 _⟩

theorem pow_word : ∀ k : Nat, k < 64 → ((decide (0 < (k : Int)) && (bits .and .i64 (k : Int) ((k : Int) - 1) == 0)) = isPow k) := by decide +kernel

set_option maxHeartbeats 1000000 in
theorem ruFits_any (s : ByteArray) (n : Int) (w : World) (hn : isW n = true) :
    Calls Try.prog 84 #[.string s, .int .i64 n] w fun e w' => e = .returned (.bool (fitS s n)) ∧ w = w' := by
  obtain ⟨h0, h1⟩ := (isW_iff n).mp hn
  clear hn
  obtain ⟨k, rfl⟩ := Int.eq_ofNat_of_zero_le h0
  have hk : k < 64 := by omega
  have hP := Lib.hid (pow_word k hk)
  rcases side_cases s with h|h|h|h|h|⟨g1, g2, g3, g4, g5⟩
  · have H := Lib.hid (show fitS s k = true by simp [fitS, h])
    go_enter Try.func84, Try.ntmps84
    go_wp2
    go_ret
    exact ⟨by rw [H.out]; rfl, rfl⟩
  · have H := Lib.hid (show fitS s k = true by simp [fitS, h])
    go_enter Try.func84, Try.ntmps84
    go_wp2
    go_ret
    exact ⟨by rw [H.out]; rfl, rfl⟩
  · have H := Lib.hid (show fitS s k = ((k : Int) % 2 == 1) by simp [fitS, h])
    go_enter Try.func84, Try.ntmps84
    go_wp2
    all_goals go_ret
    all_goals exact ⟨ret_bool (by rw [H.out]; try first | rfl | (simp; done) | (simp; omega)), rfl⟩
  · have H := Lib.hid (show fitS s k = isPow k by simp [fitS, h])
    go_enter Try.func84, Try.ntmps84
    go_wp2
    all_goals go_ret
    all_goals exact ⟨ret_bool (by rw [H.out, ← hP.out]; simp_all), rfl⟩
  · have H := Lib.hid (show fitS s k = inR k 1 5 by simp [fitS, h])
    go_enter Try.func84, Try.ntmps84
    go_wp2_with (go_at_call 55; refine (l1In_any _ _ _ _).mono ?_; rintro e w' ⟨rfl, rfl⟩)
    go_ret
    exact ⟨ret_bool (by rw [H.out]; rfl), rfl⟩
  · have H := Lib.hid (show fitS s k = true by
      have f : ∀ t : List UInt8, (s.toList == t) = false → ¬ s.toList = t := fun t h => by rwa [beq_eq_false_iff_ne] at h
      unfold fitS; rw [if_neg (f _ g3), if_neg (f _ g4), if_neg (f _ g5)])
    go_enter Try.func84, Try.ntmps84
    go_wp2
    go_ret
    exact ⟨by rw [H.out]; rfl, rfl⟩
end Go.Proofs.Ytekjgngkipbefaa
