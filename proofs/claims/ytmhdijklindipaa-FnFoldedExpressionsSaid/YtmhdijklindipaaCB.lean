import Derived.Test.YtmhdijklindipaaCA
import Derived.Test.YtmhdijklindipaaMI2
import Derived.WalkKit
import Derived.WalkSpells
import Derived.WalkLawsBesides
import Derived.Lib.Hide
namespace Go.Proofs.Ytmhdijklindipaa
open Go.RowKit
set_option linter.unusedVariables false

theorem formOf_set (s : ByteArray) (w : World) (h : s.toList = [115,101,116]) :
    Calls Try.prog 161 #[.string s] w fun e w' => e = .returned (.tuple #[.agg #[.bool false, .bool false, .int .i64 0, .int .i64 63, .int .i64 1], .bool true]) ∧ Below w.heap.size w w' := by
  have hB1 := fun o => (Below.refl w.heap.size w).alloc (Nat.le_refl _) o
  go_enter Try.func161, Try.ntmps161
  go_wp2
  exact bodyPost_ret (v := .tuple #[.agg #[.bool false, .bool false, .int .i64 0, .int .i64 63, .int .i64 1], .bool true]) (by simp [results, Try.results161, go_sem]) rfl ⟨rfl, by first | exact hB1 _ | exact (hB1 _).setCell (Nat.le_refl _) _ | (simp [setRow_eq]; exact hB1 _)⟩

theorem formOf_mov (s : ByteArray) (w : World) (h : s.toList = [109,111,118]) :
    Calls Try.prog 161 #[.string s] w fun e w' => e = .returned (.tuple #[.agg #[.bool true, .bool false, .int .i64 0, .int .i64 0, .int .i64 1], .bool true]) ∧ Below w.heap.size w w' := by
  have hB1 := fun o => (Below.refl w.heap.size w).alloc (Nat.le_refl _) o
  go_enter Try.func161, Try.ntmps161
  go_wp2
  exact bodyPost_ret (v := .tuple #[.agg #[.bool true, .bool false, .int .i64 0, .int .i64 0, .int .i64 1], .bool true]) (by simp [results, Try.results161, go_sem]) rfl ⟨rfl, by first | exact hB1 _ | exact (hB1 _).setCell (Nat.le_refl _) _ | (simp [setRow_eq]; exact hB1 _)⟩

theorem formOf_not (s : ByteArray) (w : World) (h : s.toList = [110,111,116]) :
    Calls Try.prog 161 #[.string s] w fun e w' => e = .returned (.tuple #[.agg #[.bool true, .bool false, .int .i64 0, .int .i64 0, .int .i64 1], .bool true]) ∧ Below w.heap.size w w' := by
  have hB1 := fun o => (Below.refl w.heap.size w).alloc (Nat.le_refl _) o
  go_enter Try.func161, Try.ntmps161
  go_wp2
  exact bodyPost_ret (v := .tuple #[.agg #[.bool true, .bool false, .int .i64 0, .int .i64 0, .int .i64 1], .bool true]) (by simp [results, Try.results161, go_sem]) rfl ⟨rfl, by first | exact hB1 _ | exact (hB1 _).setCell (Nat.le_refl _) _ | (simp [setRow_eq]; exact hB1 _)⟩

theorem formOf_neg (s : ByteArray) (w : World) (h : s.toList = [110,101,103]) :
    Calls Try.prog 161 #[.string s] w fun e w' => e = .returned (.tuple #[.agg #[.bool true, .bool false, .int .i64 0, .int .i64 0, .int .i64 1], .bool true]) ∧ Below w.heap.size w w' := by
  have hB1 := fun o => (Below.refl w.heap.size w).alloc (Nat.le_refl _) o
  go_enter Try.func161, Try.ntmps161
  go_wp2
  exact bodyPost_ret (v := .tuple #[.agg #[.bool true, .bool false, .int .i64 0, .int .i64 0, .int .i64 1], .bool true]) (by simp [results, Try.results161, go_sem]) rfl ⟨rfl, by first | exact hB1 _ | exact (hB1 _).setCell (Nat.le_refl _) _ | (simp [setRow_eq]; exact hB1 _)⟩

theorem formOf_add (s : ByteArray) (w : World) (h : s.toList = [97,100,100]) :
    Calls Try.prog 161 #[.string s] w fun e w' => e = .returned (.tuple #[.agg #[.bool true, .bool true, .int .i64 0, .int .i64 0, .int .i64 1], .bool true]) ∧ Below w.heap.size w w' := by
  have hB1 := fun o => (Below.refl w.heap.size w).alloc (Nat.le_refl _) o
  go_enter Try.func161, Try.ntmps161
  go_wp2
  exact bodyPost_ret (v := .tuple #[.agg #[.bool true, .bool true, .int .i64 0, .int .i64 0, .int .i64 1], .bool true]) (by simp [results, Try.results161, go_sem]) rfl ⟨rfl, by first | exact hB1 _ | exact (hB1 _).setCell (Nat.le_refl _) _ | (simp [setRow_eq]; exact hB1 _)⟩

theorem formOf_sub (s : ByteArray) (w : World) (h : s.toList = [115,117,98]) :
    Calls Try.prog 161 #[.string s] w fun e w' => e = .returned (.tuple #[.agg #[.bool true, .bool true, .int .i64 0, .int .i64 0, .int .i64 1], .bool true]) ∧ Below w.heap.size w w' := by
  have hB1 := fun o => (Below.refl w.heap.size w).alloc (Nat.le_refl _) o
  go_enter Try.func161, Try.ntmps161
  go_wp2
  exact bodyPost_ret (v := .tuple #[.agg #[.bool true, .bool true, .int .i64 0, .int .i64 0, .int .i64 1], .bool true]) (by simp [results, Try.results161, go_sem]) rfl ⟨rfl, by first | exact hB1 _ | exact (hB1 _).setCell (Nat.le_refl _) _ | (simp [setRow_eq]; exact hB1 _)⟩

theorem formOf_and (s : ByteArray) (w : World) (h : s.toList = [97,110,100]) :
    Calls Try.prog 161 #[.string s] w fun e w' => e = .returned (.tuple #[.agg #[.bool true, .bool true, .int .i64 0, .int .i64 0, .int .i64 1], .bool true]) ∧ Below w.heap.size w w' := by
  have hB1 := fun o => (Below.refl w.heap.size w).alloc (Nat.le_refl _) o
  go_enter Try.func161, Try.ntmps161
  go_wp2
  exact bodyPost_ret (v := .tuple #[.agg #[.bool true, .bool true, .int .i64 0, .int .i64 0, .int .i64 1], .bool true]) (by simp [results, Try.results161, go_sem]) rfl ⟨rfl, by first | exact hB1 _ | exact (hB1 _).setCell (Nat.le_refl _) _ | (simp [setRow_eq]; exact hB1 _)⟩

theorem formOf_or (s : ByteArray) (w : World) (h : s.toList = [111,114]) :
    Calls Try.prog 161 #[.string s] w fun e w' => e = .returned (.tuple #[.agg #[.bool true, .bool true, .int .i64 0, .int .i64 0, .int .i64 1], .bool true]) ∧ Below w.heap.size w w' := by
  have hB1 := fun o => (Below.refl w.heap.size w).alloc (Nat.le_refl _) o
  go_enter Try.func161, Try.ntmps161
  go_wp2
  exact bodyPost_ret (v := .tuple #[.agg #[.bool true, .bool true, .int .i64 0, .int .i64 0, .int .i64 1], .bool true]) (by simp [results, Try.results161, go_sem]) rfl ⟨rfl, by first | exact hB1 _ | exact (hB1 _).setCell (Nat.le_refl _) _ | (simp [setRow_eq]; exact hB1 _)⟩

theorem formOf_xor (s : ByteArray) (w : World) (h : s.toList = [120,111,114]) :
    Calls Try.prog 161 #[.string s] w fun e w' => e = .returned (.tuple #[.agg #[.bool true, .bool true, .int .i64 0, .int .i64 0, .int .i64 1], .bool true]) ∧ Below w.heap.size w w' := by
  have hB1 := fun o => (Below.refl w.heap.size w).alloc (Nat.le_refl _) o
  go_enter Try.func161, Try.ntmps161
  go_wp2
  exact bodyPost_ret (v := .tuple #[.agg #[.bool true, .bool true, .int .i64 0, .int .i64 0, .int .i64 1], .bool true]) (by simp [results, Try.results161, go_sem]) rfl ⟨rfl, by first | exact hB1 _ | exact (hB1 _).setCell (Nat.le_refl _) _ | (simp [setRow_eq]; exact hB1 _)⟩

theorem formOf_less (s : ByteArray) (w : World) (h : s.toList = [108,101,115,115]) :
    Calls Try.prog 161 #[.string s] w fun e w' => e = .returned (.tuple #[.agg #[.bool true, .bool true, .int .i64 0, .int .i64 0, .int .i64 1], .bool true]) ∧ Below w.heap.size w w' := by
  have hB1 := fun o => (Below.refl w.heap.size w).alloc (Nat.le_refl _) o
  go_enter Try.func161, Try.ntmps161
  go_wp2
  exact bodyPost_ret (v := .tuple #[.agg #[.bool true, .bool true, .int .i64 0, .int .i64 0, .int .i64 1], .bool true]) (by simp [results, Try.results161, go_sem]) rfl ⟨rfl, by first | exact hB1 _ | exact (hB1 _).setCell (Nat.le_refl _) _ | (simp [setRow_eq]; exact hB1 _)⟩

theorem formOf_eq (s : ByteArray) (w : World) (h : s.toList = [101,113]) :
    Calls Try.prog 161 #[.string s] w fun e w' => e = .returned (.tuple #[.agg #[.bool true, .bool true, .int .i64 0, .int .i64 0, .int .i64 1], .bool true]) ∧ Below w.heap.size w w' := by
  have hB1 := fun o => (Below.refl w.heap.size w).alloc (Nat.le_refl _) o
  go_enter Try.func161, Try.ntmps161
  go_wp2
  exact bodyPost_ret (v := .tuple #[.agg #[.bool true, .bool true, .int .i64 0, .int .i64 0, .int .i64 1], .bool true]) (by simp [results, Try.results161, go_sem]) rfl ⟨rfl, by first | exact hB1 _ | exact (hB1 _).setCell (Nat.le_refl _) _ | (simp [setRow_eq]; exact hB1 _)⟩

theorem formOf_shl (s : ByteArray) (w : World) (h : s.toList = [115,104,108]) :
    Calls Try.prog 161 #[.string s] w fun e w' => e = .returned (.tuple #[.agg #[.bool true, .bool true, .int .i64 0, .int .i64 0, .int .i64 2], .bool true]) ∧ Below w.heap.size w w' := by
  have hB1 := fun o => (Below.refl w.heap.size w).alloc (Nat.le_refl _) o
  go_enter Try.func161, Try.ntmps161
  go_wp2
  exact bodyPost_ret (v := .tuple #[.agg #[.bool true, .bool true, .int .i64 0, .int .i64 0, .int .i64 2], .bool true]) (by simp [results, Try.results161, go_sem]) rfl ⟨rfl, by first | exact hB1 _ | exact (hB1 _).setCell (Nat.le_refl _) _ | (simp [setRow_eq]; exact hB1 _)⟩

theorem formOf_shr (s : ByteArray) (w : World) (h : s.toList = [115,104,114]) :
    Calls Try.prog 161 #[.string s] w fun e w' => e = .returned (.tuple #[.agg #[.bool true, .bool true, .int .i64 0, .int .i64 0, .int .i64 2], .bool true]) ∧ Below w.heap.size w w' := by
  have hB1 := fun o => (Below.refl w.heap.size w).alloc (Nat.le_refl _) o
  go_enter Try.func161, Try.ntmps161
  go_wp2
  exact bodyPost_ret (v := .tuple #[.agg #[.bool true, .bool true, .int .i64 0, .int .i64 0, .int .i64 2], .bool true]) (by simp [results, Try.results161, go_sem]) rfl ⟨rfl, by first | exact hB1 _ | exact (hB1 _).setCell (Nat.le_refl _) _ | (simp [setRow_eq]; exact hB1 _)⟩

theorem formOf_mul (s : ByteArray) (w : World) (h : s.toList = [109,117,108]) :
    Calls Try.prog 161 #[.string s] w fun e w' => e = .returned (.tuple #[.agg #[.bool true, .bool true, .int .i64 0, .int .i64 0, .int .i64 4], .bool true]) ∧ Below w.heap.size w w' := by
  have hB1 := fun o => (Below.refl w.heap.size w).alloc (Nat.le_refl _) o
  go_enter Try.func161, Try.ntmps161
  go_wp2
  exact bodyPost_ret (v := .tuple #[.agg #[.bool true, .bool true, .int .i64 0, .int .i64 0, .int .i64 4], .bool true]) (by simp [results, Try.results161, go_sem]) rfl ⟨rfl, by first | exact hB1 _ | exact (hB1 _).setCell (Nat.le_refl _) _ | (simp [setRow_eq]; exact hB1 _)⟩

theorem formOf_addi (s : ByteArray) (w : World) (h : s.toList = [97,100,100,105]) :
    Calls Try.prog 161 #[.string s] w fun e w' => e = .returned (.tuple #[.agg #[.bool true, .bool false, .int .i64 0, .int .i64 63, .int .i64 1], .bool true]) ∧ Below w.heap.size w w' := by
  have hB1 := fun o => (Below.refl w.heap.size w).alloc (Nat.le_refl _) o
  go_enter Try.func161, Try.ntmps161
  go_wp2
  exact bodyPost_ret (v := .tuple #[.agg #[.bool true, .bool false, .int .i64 0, .int .i64 63, .int .i64 1], .bool true]) (by simp [results, Try.results161, go_sem]) rfl ⟨rfl, by first | exact hB1 _ | exact (hB1 _).setCell (Nat.le_refl _) _ | (simp [setRow_eq]; exact hB1 _)⟩

theorem formOf_andi (s : ByteArray) (w : World) (h : s.toList = [97,110,100,105]) :
    Calls Try.prog 161 #[.string s] w fun e w' => e = .returned (.tuple #[.agg #[.bool true, .bool false, .int .i64 0, .int .i64 63, .int .i64 1], .bool true]) ∧ Below w.heap.size w w' := by
  have hB1 := fun o => (Below.refl w.heap.size w).alloc (Nat.le_refl _) o
  go_enter Try.func161, Try.ntmps161
  go_wp2
  exact bodyPost_ret (v := .tuple #[.agg #[.bool true, .bool false, .int .i64 0, .int .i64 63, .int .i64 1], .bool true]) (by simp [results, Try.results161, go_sem]) rfl ⟨rfl, by first | exact hB1 _ | exact (hB1 _).setCell (Nat.le_refl _) _ | (simp [setRow_eq]; exact hB1 _)⟩

theorem formOf_xori (s : ByteArray) (w : World) (h : s.toList = [120,111,114,105]) :
    Calls Try.prog 161 #[.string s] w fun e w' => e = .returned (.tuple #[.agg #[.bool true, .bool false, .int .i64 0, .int .i64 63, .int .i64 1], .bool true]) ∧ Below w.heap.size w w' := by
  have hB1 := fun o => (Below.refl w.heap.size w).alloc (Nat.le_refl _) o
  go_enter Try.func161, Try.ntmps161
  go_wp2
  exact bodyPost_ret (v := .tuple #[.agg #[.bool true, .bool false, .int .i64 0, .int .i64 63, .int .i64 1], .bool true]) (by simp [results, Try.results161, go_sem]) rfl ⟨rfl, by first | exact hB1 _ | exact (hB1 _).setCell (Nat.le_refl _) _ | (simp [setRow_eq]; exact hB1 _)⟩

theorem formOf_shli (s : ByteArray) (w : World) (h : s.toList = [115,104,108,105]) :
    Calls Try.prog 161 #[.string s] w fun e w' => e = .returned (.tuple #[.agg #[.bool true, .bool false, .int .i64 1, .int .i64 5, .int .i64 1], .bool true]) ∧ Below w.heap.size w w' := by
  have hB1 := fun o => (Below.refl w.heap.size w).alloc (Nat.le_refl _) o
  go_enter Try.func161, Try.ntmps161
  go_wp2
  exact bodyPost_ret (v := .tuple #[.agg #[.bool true, .bool false, .int .i64 1, .int .i64 5, .int .i64 1], .bool true]) (by simp [results, Try.results161, go_sem]) rfl ⟨rfl, by first | exact hB1 _ | exact (hB1 _).setCell (Nat.le_refl _) _ | (simp [setRow_eq]; exact hB1 _)⟩

theorem formOf_shri (s : ByteArray) (w : World) (h : s.toList = [115,104,114,105]) :
    Calls Try.prog 161 #[.string s] w fun e w' => e = .returned (.tuple #[.agg #[.bool true, .bool false, .int .i64 1, .int .i64 5, .int .i64 1], .bool true]) ∧ Below w.heap.size w w' := by
  have hB1 := fun o => (Below.refl w.heap.size w).alloc (Nat.le_refl _) o
  go_enter Try.func161, Try.ntmps161
  go_wp2
  exact bodyPost_ret (v := .tuple #[.agg #[.bool true, .bool false, .int .i64 1, .int .i64 5, .int .i64 1], .bool true]) (by simp [results, Try.results161, go_sem]) rfl ⟨rfl, by first | exact hB1 _ | exact (hB1 _).setCell (Nat.le_refl _) _ | (simp [setRow_eq]; exact hB1 _)⟩

theorem formOf_lea (s : ByteArray) (w : World) (h : s.toList = [108,101,97]) :
    Calls Try.prog 161 #[.string s] w fun e w' => e = .returned (.tuple #[.agg #[.bool true, .bool true, .int .i64 1, .int .i64 3, .int .i64 1], .bool true]) ∧ Below w.heap.size w w' := by
  have hB1 := fun o => (Below.refl w.heap.size w).alloc (Nat.le_refl _) o
  go_enter Try.func161, Try.ntmps161
  go_wp2
  exact bodyPost_ret (v := .tuple #[.agg #[.bool true, .bool true, .int .i64 1, .int .i64 3, .int .i64 1], .bool true]) (by simp [results, Try.results161, go_sem]) rfl ⟨rfl, by first | exact hB1 _ | exact (hB1 _).setCell (Nat.le_refl _) _ | (simp [setRow_eq]; exact hB1 _)⟩

theorem formOf_no (s : ByteArray) (w : World) (h : (s.toList == [115,101,116]) = false ∧ (s.toList == [109,111,118]) = false ∧ (s.toList == [110,111,116]) = false ∧ (s.toList == [110,101,103]) = false ∧ (s.toList == [97,100,100]) = false ∧ (s.toList == [115,117,98]) = false ∧ (s.toList == [97,110,100]) = false ∧ (s.toList == [111,114]) = false ∧ (s.toList == [120,111,114]) = false ∧ (s.toList == [108,101,115,115]) = false ∧ (s.toList == [101,113]) = false ∧ (s.toList == [115,104,108]) = false ∧ (s.toList == [115,104,114]) = false ∧ (s.toList == [109,117,108]) = false ∧ (s.toList == [97,100,100,105]) = false ∧ (s.toList == [97,110,100,105]) = false ∧ (s.toList == [120,111,114,105]) = false ∧ (s.toList == [115,104,108,105]) = false ∧ (s.toList == [115,104,114,105]) = false ∧ (s.toList == [108,101,97]) = false) :
    Calls Try.prog 161 #[.string s] w fun e w' => e = .returned (.tuple #[.agg #[.bool false, .bool false, .int .i64 0, .int .i64 0, .int .i64 0], .bool false]) ∧ Below w.heap.size w w' := by
  have hB1 := fun o => (Below.refl w.heap.size w).alloc (Nat.le_refl _) o
  obtain ⟨h0, h1, h2, h3, h4, h5, h6, h7, h8, h9, h10, h11, h12, h13, h14, h15, h16, h17, h18, h19⟩ := h
  go_enter Try.func161, Try.ntmps161
  go_wp2
  exact bodyPost_ret (v := .tuple #[.agg #[.bool false, .bool false, .int .i64 0, .int .i64 0, .int .i64 0], .bool false]) (by simp [results, Try.results161, go_sem]) rfl ⟨rfl, by first | exact hB1 _ | exact (hB1 _).setCell (Nat.le_refl _) _ | (simp [setRow_eq]; exact hB1 _)⟩

theorem formOf_any (s : ByteArray) (w : World) :
    Calls Try.prog 161 #[.string s] w fun e w' => e = .returned (.tuple #[fmV (fm s), .bool (fm s).ok]) ∧ Below w.heap.size w w' := by
  rcases cop_cases s with h|h|h|h|h|h|h|h|h|h|h|h|h|h|h|h|h|h|h|h|h
  · rw [fm_set h]; exact formOf_set s w h
  · rw [fm_mov h]; exact formOf_mov s w h
  · rw [fm_not h]; exact formOf_not s w h
  · rw [fm_neg h]; exact formOf_neg s w h
  · rw [fm_add h]; exact formOf_add s w h
  · rw [fm_sub h]; exact formOf_sub s w h
  · rw [fm_and h]; exact formOf_and s w h
  · rw [fm_or h]; exact formOf_or s w h
  · rw [fm_xor h]; exact formOf_xor s w h
  · rw [fm_less h]; exact formOf_less s w h
  · rw [fm_eq h]; exact formOf_eq s w h
  · rw [fm_shl h]; exact formOf_shl s w h
  · rw [fm_shr h]; exact formOf_shr s w h
  · rw [fm_mul h]; exact formOf_mul s w h
  · rw [fm_addi h]; exact formOf_addi s w h
  · rw [fm_andi h]; exact formOf_andi s w h
  · rw [fm_xori h]; exact formOf_xori s w h
  · rw [fm_shli h]; exact formOf_shli s w h
  · rw [fm_shri h]; exact formOf_shri s w h
  · rw [fm_lea h]; exact formOf_lea s w h
  · rw [fm_no h]; exact formOf_no s w h
end Go.Proofs.Ytmhdijklindipaa
