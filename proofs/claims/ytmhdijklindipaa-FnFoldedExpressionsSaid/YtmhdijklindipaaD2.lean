import Derived.Test.YtmhdijklindipaaC
import Derived.Test.YtmhdijklindipaaHI
import Derived.WalkKit
import Derived.WalkSpells
import Derived.WalkLawsBesides
import Derived.Lib.Hide
namespace Go.Proofs.Ytmhdijklindipaa
open Go.RowKit

/-- What parts' slice is: a name for the post. -/
def PartsAre (w : World) (xs : List Int) (e : Ending) (w' : World) : Prop :=
  ∃ A c, e = .returned (.slice A xs.length c) ∧ IS w' w.heap.size w'.heap.size A xs ∧ Below w.heap.size w w'

theorem is_lit1 {w : World} {g L B : Nat} {a : Int} {t : TypeId} (hg : w.heap.size = g) (hL : L ≤ g) (hB : g < B) : IS (w.alloc (.cells #[.int .i64 a] t)) L B (some ⟨g, 0, none⟩) [a] := by
  subst hg
  exact (show IB (w.alloc (.cells #[.int .i64 a] t)) w.heap.size t [a] from heap_alloc_new w _).toIS.more hL hB
theorem is_lit2 {w : World} {g L B : Nat} {a b : Int} {t : TypeId} (hg : w.heap.size = g) (hL : L ≤ g) (hB : g < B) : IS (w.alloc (.cells #[.int .i64 a, .int .i64 b] t)) L B (some ⟨g, 0, none⟩) [a, b] := by
  subst hg
  exact (show IB (w.alloc (.cells #[.int .i64 a, .int .i64 b] t)) w.heap.size t [a, b] from heap_alloc_new w _).toIS.more hL hB

set_option maxHeartbeats 4000000 in
theorem operandsOf_any (s : ByteArray) (a b v : Int) (w : World) :
    Calls Try.prog 211 #[.agg #[.string s, .int .i64 a, .int .i64 b, .int .i64 v]] w (PartsAre w (parts ⟨s, a, b, v⟩)) := by
  have hB1 := fun o => (Below.refl w.heap.size w).alloc (Nat.le_refl _) o
  have hB2 := fun o o' => (hB1 o).alloc (by simp) o'
  rcases ar_cases s with ⟨har, h3, h4⟩|⟨har, h3, h4⟩|⟨har, h3, h4⟩|⟨har, h3, h4⟩
  · have hr : parts ⟨s, a, b, v⟩ = [] := by simp [parts, h3, h4]
    rw [hr]
    clear hr
    go_enter Try.func211, Try.ntmps211
    go_wp2_with (first | (go_at_call 130; refine (operandCount_any _ _).mono ?_; rintro e w' ⟨rfl, rfl⟩))
    go_ret
    exact ⟨_, _, rfl, fun h => absurd h (by simp), hB1 _⟩
  · have hr : parts ⟨s, a, b, v⟩ = [a] := by simp [parts, h3]
    rw [hr]
    clear hr
    go_enter Try.func211, Try.ntmps211
    go_wp2_with (first | (go_at_call 130; refine (operandCount_any _ _).mono ?_; rintro e w' ⟨rfl, rfl⟩))
    go_ret
    refine ⟨_, _, rfl, ?_, hB2 _ _⟩
    refine is_lit1 ?_ ?_ ?_ <;> first | omega | (simp; done) | (simp; omega)
  · have hr : parts ⟨s, a, b, v⟩ = [a, b] := by simp [parts, h3, h4]
    rw [hr]
    clear hr
    go_enter Try.func211, Try.ntmps211
    go_wp2_with (first | (go_at_call 130; refine (operandCount_any _ _).mono ?_; rintro e w' ⟨rfl, rfl⟩))
    go_ret
    refine ⟨_, _, rfl, ?_, hB2 _ _⟩
    refine is_lit2 ?_ ?_ ?_ <;> first | omega | (simp; done) | (simp; omega)
  · have hr : parts ⟨s, a, b, v⟩ = [] := by simp [parts, h3, h4]
    rw [hr]
    clear hr
    go_enter Try.func211, Try.ntmps211
    go_wp2_with (first | (go_at_call 130; refine (operandCount_any _ _).mono ?_; rintro e w' ⟨rfl, rfl⟩))
    go_ret
    exact ⟨_, _, rfl, fun h => absurd h (by simp), hB1 _⟩

set_option maxHeartbeats 4000000 in
theorem exParts_any (s : ByteArray) (a b v : Int) (w : World) :
    Calls Try.prog 218 #[.agg #[.string s, .int .i64 a, .int .i64 b, .int .i64 v]] w (PartsAre w (parts ⟨s, a, b, v⟩)) := by
  have hB1 := fun o => (Below.refl w.heap.size w).alloc (Nat.le_refl _) o
  have hB2 := fun o o' => (hB1 o).alloc (by simp) o'
  have hB3 := fun o o' o'' => (hB2 o o').alloc (by simp; omega) o''
  rcases ar_cases s with ⟨har, h3, h4⟩|⟨har, h3, h4⟩|⟨har, h3, h4⟩|⟨har, h3, h4⟩
  · have hr : parts ⟨s, a, b, v⟩ = [] := by simp [parts, h3, h4]
    rw [hr]
    clear hr
    go_enter Try.func218, Try.ntmps218
    go_wp2_with (first | (go_at_call 127; refine (exOne_any _ _).mono ?_; rintro e w' ⟨rfl, rfl⟩) | (go_at_call 132; refine (exTwo_any _ _).mono ?_; rintro e w' ⟨rfl, rfl⟩))
    go_ret
    exact ⟨_, _, rfl, fun h => absurd h (by simp), hB2 _ _⟩
  · have hr : parts ⟨s, a, b, v⟩ = [a] := by simp [parts, h3]
    rw [hr]
    clear hr
    go_enter Try.func218, Try.ntmps218
    go_wp2_with (first | (go_at_call 127; refine (exOne_any _ _).mono ?_; rintro e w' ⟨rfl, rfl⟩) | (go_at_call 132; refine (exTwo_any _ _).mono ?_; rintro e w' ⟨rfl, rfl⟩))
    go_ret
    refine ⟨_, _, rfl, ?_, hB2 _ _⟩
    refine is_lit1 ?_ ?_ ?_ <;> first | omega | (simp; done) | (simp; omega)
  · have hr : parts ⟨s, a, b, v⟩ = [a, b] := by simp [parts, h3, h4]
    rw [hr]
    clear hr
    go_enter Try.func218, Try.ntmps218
    go_wp2_with (first | (go_at_call 127; refine (exOne_any _ _).mono ?_; rintro e w' ⟨rfl, rfl⟩) | (go_at_call 132; refine (exTwo_any _ _).mono ?_; rintro e w' ⟨rfl, rfl⟩))
    go_ret
    refine ⟨_, _, rfl, ?_, hB3 _ _ _⟩
    refine is_lit2 ?_ ?_ ?_ <;> first | omega | (simp; done) | (simp; omega)
  · have hr : parts ⟨s, a, b, v⟩ = [] := by simp [parts, h3, h4]
    rw [hr]
    clear hr
    go_enter Try.func218, Try.ntmps218
    go_wp2_with (first | (go_at_call 127; refine (exOne_any _ _).mono ?_; rintro e w' ⟨rfl, rfl⟩) | (go_at_call 132; refine (exTwo_any _ _).mono ?_; rintro e w' ⟨rfl, rfl⟩))
    go_ret
    exact ⟨_, _, rfl, fun h => absurd h (by simp), hB2 _ _⟩

end Go.Proofs.Ytmhdijklindipaa
