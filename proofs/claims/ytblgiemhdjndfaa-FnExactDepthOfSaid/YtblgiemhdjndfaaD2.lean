import Derived.Test.YtblgiemhdjndfaaC
import Derived.WalkKit
import Derived.WalkSpells
import Derived.WalkLawsBesides
import Derived.Lib.Hide
namespace Go.Proofs.Ytblgiemhdjndfaa
open Go.RowKit

/-- What parts' slice is: a name for the post. -/
def PartsAre (w : World) (xs : List Int) (e : Ending) (w' : World) : Prop :=
  ∃ A c, e = .returned (.slice A xs.length c) ∧ IS w' w.heap.size w'.heap.size A xs ∧ Below w.heap.size w w'

theorem is_lit1 {w : World} {g L B : Nat} {a : Int} {t : TypeId} (hg : w.heap.size = g) (hL : L ≤ g) (hB : g < B) : IS (w.alloc (.cells #[.int .i64 a] t)) L B (some ⟨g, 0, none⟩) [a] := by
  subst hg
  exact (show IB (w.alloc (.cells #[.int .i64 a] t)) w.heap.size t [a] from heap_alloc_new w _).toIS.more hL hB
theorem is_lit2 {w : World} {g L B : Nat} {a b : Int} {t : TypeId} (hg : w.heap.size = g) (hL : L ≤ g) (hB : g < B) : IS (w.alloc (.cells #[.int .i64 a, .int .i64 b] t)) L B (some ⟨g, 0, none⟩) [a, b] := by
  subst hg
  exact (show IB (w.alloc (.cells #[.int .i64 a, .int .i64 b] t)) w.heap.size t [a, b] from heap_alloc_new w _).toIS.more hL hB

set_option maxHeartbeats 4000000 in
theorem operandsOf_any (s : ByteArray) (a b v : Int) (w : World) :
    Calls Try.prog 71 #[.agg #[.string s, .int .i64 a, .int .i64 b, .int .i64 v]] w (PartsAre w (parts ⟨s, a, b, v⟩)) := by
  have hB1 := fun o => (Below.refl w.heap.size w).alloc (Nat.le_refl _) o
  have hB2 := fun o o' => (hB1 o).alloc (by simp) o'
  rcases ar_cases s with ⟨har, h3, h4⟩|⟨har, h3, h4⟩|⟨har, h3, h4⟩|⟨har, h3, h4⟩
  · have hr : parts ⟨s, a, b, v⟩ = [] := by simp [parts, h3, h4]
    rw [hr]
    clear hr
    go_enter Try.func71, Try.ntmps71
    go_wp2_with (first | (go_at_call 64; refine (operandCount_any _ _).mono ?_; rintro e w' ⟨rfl, rfl⟩))
    go_ret
    exact ⟨_, _, rfl, fun h => absurd h (by simp), hB1 _⟩
  · have hr : parts ⟨s, a, b, v⟩ = [a] := by simp [parts, h3]
    rw [hr]
    clear hr
    go_enter Try.func71, Try.ntmps71
    go_wp2_with (first | (go_at_call 64; refine (operandCount_any _ _).mono ?_; rintro e w' ⟨rfl, rfl⟩))
    go_ret
    refine ⟨_, _, rfl, ?_, hB2 _ _⟩
    refine is_lit1 ?_ ?_ ?_ <;> first | omega | (simp; done) | (simp; omega)
  · have hr : parts ⟨s, a, b, v⟩ = [a, b] := by simp [parts, h3, h4]
    rw [hr]
    clear hr
    go_enter Try.func71, Try.ntmps71
    go_wp2_with (first | (go_at_call 64; refine (operandCount_any _ _).mono ?_; rintro e w' ⟨rfl, rfl⟩))
    go_ret
    refine ⟨_, _, rfl, ?_, hB2 _ _⟩
    refine is_lit2 ?_ ?_ ?_ <;> first | omega | (simp; done) | (simp; omega)
  · have hr : parts ⟨s, a, b, v⟩ = [] := by simp [parts, h3, h4]
    rw [hr]
    clear hr
    go_enter Try.func71, Try.ntmps71
    go_wp2_with (first | (go_at_call 64; refine (operandCount_any _ _).mono ?_; rintro e w' ⟨rfl, rfl⟩))
    go_ret
    exact ⟨_, _, rfl, fun h => absurd h (by simp), hB1 _⟩

set_option maxHeartbeats 4000000 in
theorem exParts_any (s : ByteArray) (a b v : Int) (w : World) :
    Calls Try.prog 69 #[.agg #[.string s, .int .i64 a, .int .i64 b, .int .i64 v]] w (PartsAre w (parts ⟨s, a, b, v⟩)) := by
  have hB1 := fun o => (Below.refl w.heap.size w).alloc (Nat.le_refl _) o
  have hB2 := fun o o' => (hB1 o).alloc (by simp) o'
  have hB3 := fun o o' o'' => (hB2 o o').alloc (by simp; omega) o''
  rcases ar_cases s with ⟨har, h3, h4⟩|⟨har, h3, h4⟩|⟨har, h3, h4⟩|⟨har, h3, h4⟩
  · have hr : parts ⟨s, a, b, v⟩ = [] := by simp [parts, h3, h4]
    rw [hr]
    clear hr
    go_enter Try.func69, Try.ntmps69
    go_wp2_with (first | (go_at_call 61; refine (exOne_any _ _).mono ?_; rintro e w' ⟨rfl, rfl⟩) | (go_at_call 62; refine (exTwo_any _ _).mono ?_; rintro e w' ⟨rfl, rfl⟩))
    go_ret
    exact ⟨_, _, rfl, fun h => absurd h (by simp), hB2 _ _⟩
  · have hr : parts ⟨s, a, b, v⟩ = [a] := by simp [parts, h3]
    rw [hr]
    clear hr
    go_enter Try.func69, Try.ntmps69
    go_wp2_with (first | (go_at_call 61; refine (exOne_any _ _).mono ?_; rintro e w' ⟨rfl, rfl⟩) | (go_at_call 62; refine (exTwo_any _ _).mono ?_; rintro e w' ⟨rfl, rfl⟩))
    go_ret
    refine ⟨_, _, rfl, ?_, hB2 _ _⟩
    refine is_lit1 ?_ ?_ ?_ <;> first | omega | (simp; done) | (simp; omega)
  · have hr : parts ⟨s, a, b, v⟩ = [a, b] := by simp [parts, h3, h4]
    rw [hr]
    clear hr
    go_enter Try.func69, Try.ntmps69
    go_wp2_with (first | (go_at_call 61; refine (exOne_any _ _).mono ?_; rintro e w' ⟨rfl, rfl⟩) | (go_at_call 62; refine (exTwo_any _ _).mono ?_; rintro e w' ⟨rfl, rfl⟩))
    go_ret
    refine ⟨_, _, rfl, ?_, hB3 _ _ _⟩
    refine is_lit2 ?_ ?_ ?_ <;> first | omega | (simp; done) | (simp; omega)
  · have hr : parts ⟨s, a, b, v⟩ = [] := by simp [parts, h3, h4]
    rw [hr]
    clear hr
    go_enter Try.func69, Try.ntmps69
    go_wp2_with (first | (go_at_call 61; refine (exOne_any _ _).mono ?_; rintro e w' ⟨rfl, rfl⟩) | (go_at_call 62; refine (exTwo_any _ _).mono ?_; rintro e w' ⟨rfl, rfl⟩))
    go_ret
    exact ⟨_, _, rfl, fun h => absurd h (by simp), hB2 _ _⟩

/-- l1Has and slices.Contains over a slice of ints. -/
def hasI (xs : List Int) (n : Int) : Bool := xs.any fun x => x == n
theorem hasI_snoc {xs : List Int} {n : Int} {k : Nat} (hlt : k < xs.length) : hasI (xs.take (k+1)) n = (hasI (xs.take k) n || (xs[k] == n)) := by
  unfold hasI; rw [List.take_succ_eq_append_getElem hlt, List.any_append]; simp
theorem hasI_of {xs : List Int} {n : Int} {k : Nat} (h : hasI (xs.take k) n = true) : hasI xs n = true := by
  unfold hasI at *; rw [List.any_eq_true] at h ⊢; obtain ⟨x, hx, h⟩ := h; exact ⟨x, List.mem_of_mem_take hx, h⟩

theorem l1Has_any (L B : Nat) (A : Option Addr) (c : Nat) (xs : List Int) (n : Int) (w : World) (hl : xs.length ≤ 1000000) (hx : IS w L B A xs) :
    Calls Try.prog 81 #[.slice A xs.length c, .int .i64 n] w fun e w' => e = .returned (.bool (hasI xs n)) ∧ w = w' := by
  have hX := Lib.hid hx; clear hx
  go_enter Try.func81, Try.ntmps81
  go_wp2
  go_loop [6, 9] (fun _ i => ∃ k : Nat, k ≤ xs.length ∧ i = .int .i64 k ∧ hasI (xs.take k) n = false) (fun _ i => xs.length - (intOf i).toNat)
  case atStart => exact ⟨0, Nat.zero_le _, rfl, rfl⟩
  case round =>
    obtain ⟨k, hk, rfl, hh⟩ := hrel
    have hH := Lib.hid hh; clear hh
    by_cases hlt : k < xs.length
    · obtain ⟨b, o, rfl, _, hc⟩ := hX.out (by omega)
      have hcell := hc k hlt
      clear hc
      have hS := Lib.hid (hasI_snoc (n := n) hlt)
      go_wp2
      · go_ret
        exact ⟨ret_bool (hasI_of (k := k + 1) (by rw [hS.out, hH.out]; simp [*])).symm, rfl⟩
      · go_round
        case rel => exact ⟨k + 1, by omega, by go_num, by rw [hS.out, hH.out]; simp [*]⟩
        case measure => simp [intOf]; omega
    · obtain rfl : k = xs.length := by omega
      go_wp2
      go_ret
      exact ⟨ret_bool (by have := hH.out; rw [List.take_length] at this; rw [this]), rfl⟩

def SomeIdx (xs : List Int) (n : Int) (w : World) (e : Ending) (w' : World) : Prop := ∃ k : Int, e = .returned (.int .i64 k) ∧ decide (0 ≤ k) = hasI xs n ∧ w = w'
theorem Index_any (L B : Nat) (A : Option Addr) (c : Nat) (xs : List Int) (n : Int) (w : World) (hl : xs.length ≤ 1000000) (hx : IS w L B A xs) :
    Calls Try.prog 84 #[.slice A xs.length c, .int .i64 n] w (SomeIdx xs n w) := by
  have hX := Lib.hid hx; clear hx
  go_enter Try.func84, Try.ntmps84
  go_wp2
  go_loop [5, 8] (fun _ i => ∃ k : Nat, k ≤ xs.length ∧ i = .int .i64 k ∧ hasI (xs.take k) n = false) (fun _ i => xs.length - (intOf i).toNat)
  case atStart => exact ⟨0, Nat.zero_le _, rfl, rfl⟩
  case round =>
    obtain ⟨k, hk, rfl, hh⟩ := hrel
    have hH := Lib.hid hh; clear hh
    by_cases hlt : k < xs.length
    · obtain ⟨b, o, rfl, _, hc⟩ := hX.out (by omega)
      have hcell := hc k hlt
      clear hc
      have hS := Lib.hid (hasI_snoc (n := n) hlt)
      go_wp2
      · go_ret
        refine ⟨k, rfl, ?_, rfl⟩
        have : hasI xs n = true := hasI_of (k := k + 1) (by rw [hS.out, hH.out]; simp_all <;> omega)
        rw [this]; simp
      · go_round
        case rel => exact ⟨k + 1, by omega, by go_num, by rw [hS.out, hH.out]; simp_all <;> omega⟩
        case measure => simp [intOf]; omega
    · obtain rfl : k = xs.length := by omega
      go_wp2
      go_ret
      exact ⟨-1, rfl, by have := hH.out; rw [List.take_length] at this; rw [this]; rfl, rfl⟩
theorem Contains_any (L B : Nat) (A : Option Addr) (c : Nat) (xs : List Int) (n : Int) (w : World) (hl : xs.length ≤ 1000000) (hx : IS w L B A xs) :
    Calls Try.prog 51 #[.slice A xs.length c, .int .i64 n] w fun e w' => e = .returned (.bool (hasI xs n)) ∧ w = w' := by
  have H := Lib.hid (Index_any L B A c xs n w hl hx); clear hx
  go_enter Try.func51, Try.ntmps51
  go_wp2_with (fail)
  refine H.out.mono ?_
  rintro e w' ⟨k, rfl, hk, rfl⟩
  have hK := Lib.hid hk; clear hk
  go_wp2
  go_ret
  exact ⟨ret_bool hK.out, rfl⟩
end Go.Proofs.Ytblgiemhdjndfaa
