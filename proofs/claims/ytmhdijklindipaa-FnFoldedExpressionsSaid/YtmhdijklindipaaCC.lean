import Derived.Test.YtmhdijklindipaaCA
import Derived.Test.YtmhdijklindipaaMI2
import Derived.WalkKit
import Derived.WalkSpells
import Derived.WalkLawsBesides
import Derived.Lib.Hide
namespace Go.Proofs.Ytmhdijklindipaa
open Go.RowKit
set_option linter.unusedVariables false

theorem cdShape_set (s : ByteArray) (w : World) (h : s.toList = [115,101,116]) :
    Calls Try.prog 166 #[.string s] w fun e w' => e = .returned (.tuple #[.bool true, .bool false, .bool false, .int .i64 0, .int .i64 63]) ∧ w = w' := by
  go_enter Try.func166, Try.ntmps166
  go_wp2
  exact bodyPost_ret (v := .tuple #[.bool true, .bool false, .bool false, .int .i64 0, .int .i64 63]) (by simp [results, Try.results166, go_sem]) rfl ⟨rfl, rfl⟩

theorem cdShape_mov (s : ByteArray) (w : World) (h : s.toList = [109,111,118]) :
    Calls Try.prog 166 #[.string s] w fun e w' => e = .returned (.tuple #[.bool true, .bool true, .bool false, .int .i64 0, .int .i64 0]) ∧ w = w' := by
  go_enter Try.func166, Try.ntmps166
  go_wp2
  exact bodyPost_ret (v := .tuple #[.bool true, .bool true, .bool false, .int .i64 0, .int .i64 0]) (by simp [results, Try.results166, go_sem]) rfl ⟨rfl, rfl⟩

theorem cdShape_not (s : ByteArray) (w : World) (h : s.toList = [110,111,116]) :
    Calls Try.prog 166 #[.string s] w fun e w' => e = .returned (.tuple #[.bool true, .bool true, .bool false, .int .i64 0, .int .i64 0]) ∧ w = w' := by
  go_enter Try.func166, Try.ntmps166
  go_wp2
  exact bodyPost_ret (v := .tuple #[.bool true, .bool true, .bool false, .int .i64 0, .int .i64 0]) (by simp [results, Try.results166, go_sem]) rfl ⟨rfl, rfl⟩

theorem cdShape_neg (s : ByteArray) (w : World) (h : s.toList = [110,101,103]) :
    Calls Try.prog 166 #[.string s] w fun e w' => e = .returned (.tuple #[.bool true, .bool true, .bool false, .int .i64 0, .int .i64 0]) ∧ w = w' := by
  go_enter Try.func166, Try.ntmps166
  go_wp2
  exact bodyPost_ret (v := .tuple #[.bool true, .bool true, .bool false, .int .i64 0, .int .i64 0]) (by simp [results, Try.results166, go_sem]) rfl ⟨rfl, rfl⟩

theorem cdShape_add (s : ByteArray) (w : World) (h : s.toList = [97,100,100]) :
    Calls Try.prog 166 #[.string s] w fun e w' => e = .returned (.tuple #[.bool true, .bool true, .bool true, .int .i64 0, .int .i64 0]) ∧ w = w' := by
  go_enter Try.func166, Try.ntmps166
  go_wp2
  exact bodyPost_ret (v := .tuple #[.bool true, .bool true, .bool true, .int .i64 0, .int .i64 0]) (by simp [results, Try.results166, go_sem]) rfl ⟨rfl, rfl⟩

theorem cdShape_sub (s : ByteArray) (w : World) (h : s.toList = [115,117,98]) :
    Calls Try.prog 166 #[.string s] w fun e w' => e = .returned (.tuple #[.bool true, .bool true, .bool true, .int .i64 0, .int .i64 0]) ∧ w = w' := by
  go_enter Try.func166, Try.ntmps166
  go_wp2
  exact bodyPost_ret (v := .tuple #[.bool true, .bool true, .bool true, .int .i64 0, .int .i64 0]) (by simp [results, Try.results166, go_sem]) rfl ⟨rfl, rfl⟩

theorem cdShape_and (s : ByteArray) (w : World) (h : s.toList = [97,110,100]) :
    Calls Try.prog 166 #[.string s] w fun e w' => e = .returned (.tuple #[.bool true, .bool true, .bool true, .int .i64 0, .int .i64 0]) ∧ w = w' := by
  go_enter Try.func166, Try.ntmps166
  go_wp2
  exact bodyPost_ret (v := .tuple #[.bool true, .bool true, .bool true, .int .i64 0, .int .i64 0]) (by simp [results, Try.results166, go_sem]) rfl ⟨rfl, rfl⟩

theorem cdShape_or (s : ByteArray) (w : World) (h : s.toList = [111,114]) :
    Calls Try.prog 166 #[.string s] w fun e w' => e = .returned (.tuple #[.bool true, .bool true, .bool true, .int .i64 0, .int .i64 0]) ∧ w = w' := by
  go_enter Try.func166, Try.ntmps166
  go_wp2
  exact bodyPost_ret (v := .tuple #[.bool true, .bool true, .bool true, .int .i64 0, .int .i64 0]) (by simp [results, Try.results166, go_sem]) rfl ⟨rfl, rfl⟩

theorem cdShape_xor (s : ByteArray) (w : World) (h : s.toList = [120,111,114]) :
    Calls Try.prog 166 #[.string s] w fun e w' => e = .returned (.tuple #[.bool true, .bool true, .bool true, .int .i64 0, .int .i64 0]) ∧ w = w' := by
  go_enter Try.func166, Try.ntmps166
  go_wp2
  exact bodyPost_ret (v := .tuple #[.bool true, .bool true, .bool true, .int .i64 0, .int .i64 0]) (by simp [results, Try.results166, go_sem]) rfl ⟨rfl, rfl⟩

theorem cdShape_less (s : ByteArray) (w : World) (h : s.toList = [108,101,115,115]) :
    Calls Try.prog 166 #[.string s] w fun e w' => e = .returned (.tuple #[.bool true, .bool true, .bool true, .int .i64 0, .int .i64 0]) ∧ w = w' := by
  go_enter Try.func166, Try.ntmps166
  go_wp2
  exact bodyPost_ret (v := .tuple #[.bool true, .bool true, .bool true, .int .i64 0, .int .i64 0]) (by simp [results, Try.results166, go_sem]) rfl ⟨rfl, rfl⟩

theorem cdShape_eq (s : ByteArray) (w : World) (h : s.toList = [101,113]) :
    Calls Try.prog 166 #[.string s] w fun e w' => e = .returned (.tuple #[.bool true, .bool true, .bool true, .int .i64 0, .int .i64 0]) ∧ w = w' := by
  go_enter Try.func166, Try.ntmps166
  go_wp2
  exact bodyPost_ret (v := .tuple #[.bool true, .bool true, .bool true, .int .i64 0, .int .i64 0]) (by simp [results, Try.results166, go_sem]) rfl ⟨rfl, rfl⟩

theorem cdShape_shl (s : ByteArray) (w : World) (h : s.toList = [115,104,108]) :
    Calls Try.prog 166 #[.string s] w fun e w' => e = .returned (.tuple #[.bool true, .bool true, .bool true, .int .i64 0, .int .i64 0]) ∧ w = w' := by
  go_enter Try.func166, Try.ntmps166
  go_wp2
  exact bodyPost_ret (v := .tuple #[.bool true, .bool true, .bool true, .int .i64 0, .int .i64 0]) (by simp [results, Try.results166, go_sem]) rfl ⟨rfl, rfl⟩

theorem cdShape_shr (s : ByteArray) (w : World) (h : s.toList = [115,104,114]) :
    Calls Try.prog 166 #[.string s] w fun e w' => e = .returned (.tuple #[.bool true, .bool true, .bool true, .int .i64 0, .int .i64 0]) ∧ w = w' := by
  go_enter Try.func166, Try.ntmps166
  go_wp2
  exact bodyPost_ret (v := .tuple #[.bool true, .bool true, .bool true, .int .i64 0, .int .i64 0]) (by simp [results, Try.results166, go_sem]) rfl ⟨rfl, rfl⟩

theorem cdShape_mul (s : ByteArray) (w : World) (h : s.toList = [109,117,108]) :
    Calls Try.prog 166 #[.string s] w fun e w' => e = .returned (.tuple #[.bool true, .bool true, .bool true, .int .i64 0, .int .i64 0]) ∧ w = w' := by
  go_enter Try.func166, Try.ntmps166
  go_wp2
  exact bodyPost_ret (v := .tuple #[.bool true, .bool true, .bool true, .int .i64 0, .int .i64 0]) (by simp [results, Try.results166, go_sem]) rfl ⟨rfl, rfl⟩

theorem cdShape_addi (s : ByteArray) (w : World) (h : s.toList = [97,100,100,105]) :
    Calls Try.prog 166 #[.string s] w fun e w' => e = .returned (.tuple #[.bool true, .bool true, .bool false, .int .i64 0, .int .i64 63]) ∧ w = w' := by
  go_enter Try.func166, Try.ntmps166
  go_wp2
  exact bodyPost_ret (v := .tuple #[.bool true, .bool true, .bool false, .int .i64 0, .int .i64 63]) (by simp [results, Try.results166, go_sem]) rfl ⟨rfl, rfl⟩

theorem cdShape_andi (s : ByteArray) (w : World) (h : s.toList = [97,110,100,105]) :
    Calls Try.prog 166 #[.string s] w fun e w' => e = .returned (.tuple #[.bool true, .bool true, .bool false, .int .i64 0, .int .i64 63]) ∧ w = w' := by
  go_enter Try.func166, Try.ntmps166
  go_wp2
  exact bodyPost_ret (v := .tuple #[.bool true, .bool true, .bool false, .int .i64 0, .int .i64 63]) (by simp [results, Try.results166, go_sem]) rfl ⟨rfl, rfl⟩

theorem cdShape_xori (s : ByteArray) (w : World) (h : s.toList = [120,111,114,105]) :
    Calls Try.prog 166 #[.string s] w fun e w' => e = .returned (.tuple #[.bool true, .bool true, .bool false, .int .i64 0, .int .i64 63]) ∧ w = w' := by
  go_enter Try.func166, Try.ntmps166
  go_wp2
  exact bodyPost_ret (v := .tuple #[.bool true, .bool true, .bool false, .int .i64 0, .int .i64 63]) (by simp [results, Try.results166, go_sem]) rfl ⟨rfl, rfl⟩

theorem cdShape_shli (s : ByteArray) (w : World) (h : s.toList = [115,104,108,105]) :
    Calls Try.prog 166 #[.string s] w fun e w' => e = .returned (.tuple #[.bool true, .bool true, .bool false, .int .i64 1, .int .i64 5]) ∧ w = w' := by
  go_enter Try.func166, Try.ntmps166
  go_wp2
  exact bodyPost_ret (v := .tuple #[.bool true, .bool true, .bool false, .int .i64 1, .int .i64 5]) (by simp [results, Try.results166, go_sem]) rfl ⟨rfl, rfl⟩

theorem cdShape_shri (s : ByteArray) (w : World) (h : s.toList = [115,104,114,105]) :
    Calls Try.prog 166 #[.string s] w fun e w' => e = .returned (.tuple #[.bool true, .bool true, .bool false, .int .i64 1, .int .i64 5]) ∧ w = w' := by
  go_enter Try.func166, Try.ntmps166
  go_wp2
  exact bodyPost_ret (v := .tuple #[.bool true, .bool true, .bool false, .int .i64 1, .int .i64 5]) (by simp [results, Try.results166, go_sem]) rfl ⟨rfl, rfl⟩

theorem cdShape_lea (s : ByteArray) (w : World) (h : s.toList = [108,101,97]) :
    Calls Try.prog 166 #[.string s] w fun e w' => e = .returned (.tuple #[.bool true, .bool true, .bool true, .int .i64 1, .int .i64 3]) ∧ w = w' := by
  go_enter Try.func166, Try.ntmps166
  go_wp2
  exact bodyPost_ret (v := .tuple #[.bool true, .bool true, .bool true, .int .i64 1, .int .i64 3]) (by simp [results, Try.results166, go_sem]) rfl ⟨rfl, rfl⟩

theorem cdShape_no (s : ByteArray) (w : World) (h : (s.toList == [115,101,116]) = false ∧ (s.toList == [109,111,118]) = false ∧ (s.toList == [110,111,116]) = false ∧ (s.toList == [110,101,103]) = false ∧ (s.toList == [97,100,100]) = false ∧ (s.toList == [115,117,98]) = false ∧ (s.toList == [97,110,100]) = false ∧ (s.toList == [111,114]) = false ∧ (s.toList == [120,111,114]) = false ∧ (s.toList == [108,101,115,115]) = false ∧ (s.toList == [101,113]) = false ∧ (s.toList == [115,104,108]) = false ∧ (s.toList == [115,104,114]) = false ∧ (s.toList == [109,117,108]) = false ∧ (s.toList == [97,100,100,105]) = false ∧ (s.toList == [97,110,100,105]) = false ∧ (s.toList == [120,111,114,105]) = false ∧ (s.toList == [115,104,108,105]) = false ∧ (s.toList == [115,104,114,105]) = false ∧ (s.toList == [108,101,97]) = false) :
    Calls Try.prog 166 #[.string s] w fun e w' => e = .returned (.tuple #[.bool false, .bool false, .bool false, .int .i64 0, .int .i64 0]) ∧ w = w' := by
  obtain ⟨h0, h1, h2, h3, h4, h5, h6, h7, h8, h9, h10, h11, h12, h13, h14, h15, h16, h17, h18, h19⟩ := h
  go_enter Try.func166, Try.ntmps166
  go_wp2
  exact bodyPost_ret (v := .tuple #[.bool false, .bool false, .bool false, .int .i64 0, .int .i64 0]) (by simp [results, Try.results166, go_sem]) rfl ⟨rfl, rfl⟩

theorem cdShape_any (s : ByteArray) (w : World) :
    Calls Try.prog 166 #[.string s] w fun e w' => e = .returned (.tuple #[.bool (fm s).ok, .bool (fm s).a, .bool (fm s).b, .int .i64 (fm s).lo, .int .i64 (fm s).hi]) ∧ w = w' := by
  rcases cop_cases s with h|h|h|h|h|h|h|h|h|h|h|h|h|h|h|h|h|h|h|h|h
  · rw [fm_set h]; exact cdShape_set s w h
  · rw [fm_mov h]; exact cdShape_mov s w h
  · rw [fm_not h]; exact cdShape_not s w h
  · rw [fm_neg h]; exact cdShape_neg s w h
  · rw [fm_add h]; exact cdShape_add s w h
  · rw [fm_sub h]; exact cdShape_sub s w h
  · rw [fm_and h]; exact cdShape_and s w h
  · rw [fm_or h]; exact cdShape_or s w h
  · rw [fm_xor h]; exact cdShape_xor s w h
  · rw [fm_less h]; exact cdShape_less s w h
  · rw [fm_eq h]; exact cdShape_eq s w h
  · rw [fm_shl h]; exact cdShape_shl s w h
  · rw [fm_shr h]; exact cdShape_shr s w h
  · rw [fm_mul h]; exact cdShape_mul s w h
  · rw [fm_addi h]; exact cdShape_addi s w h
  · rw [fm_andi h]; exact cdShape_andi s w h
  · rw [fm_xori h]; exact cdShape_xori s w h
  · rw [fm_shli h]; exact cdShape_shli s w h
  · rw [fm_shri h]; exact cdShape_shri s w h
  · rw [fm_lea h]; exact cdShape_lea s w h
  · rw [fm_no h]; exact cdShape_no s w h
end Go.Proofs.Ytmhdijklindipaa
