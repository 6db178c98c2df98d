/- Texts of this proof, one behind the other: MI2, CB, CC. -/
import Derived.Test.YtdleiondfhmjdaaMI
import Derived.Test.YtdleiondfhmjdaaCA
import Derived.WalkKit
import Derived.WalkSpells
import Derived.WalkLawsBesides
import Derived.Lib.Hide
/- Cases of ops of the machine. No program. -/
namespace Go.Proofs.Ytdleiondfhmjdaa
open Go.RowKit
set_option linter.unusedVariables false
set_option maxRecDepth 10000
theorem cop_cases (s : ByteArray) : s.toList = [115,101,116] ∨ s.toList = [109,111,118] ∨ s.toList = [110,111,116] ∨ s.toList = [110,101,103] ∨ s.toList = [97,100,100] ∨ s.toList = [115,117,98] ∨ s.toList = [97,110,100] ∨ s.toList = [111,114] ∨ s.toList = [120,111,114] ∨ s.toList = [108,101,115,115] ∨ s.toList = [101,113] ∨ s.toList = [115,104,108] ∨ s.toList = [115,104,114] ∨ s.toList = [109,117,108] ∨ s.toList = [97,100,100,105] ∨ s.toList = [97,110,100,105] ∨ s.toList = [120,111,114,105] ∨ s.toList = [115,104,108,105] ∨ s.toList = [115,104,114,105] ∨ s.toList = [108,101,97] ∨ ((s.toList == [115,101,116]) = false ∧ (s.toList == [109,111,118]) = false ∧ (s.toList == [110,111,116]) = false ∧ (s.toList == [110,101,103]) = false ∧ (s.toList == [97,100,100]) = false ∧ (s.toList == [115,117,98]) = false ∧ (s.toList == [97,110,100]) = false ∧ (s.toList == [111,114]) = false ∧ (s.toList == [120,111,114]) = false ∧ (s.toList == [108,101,115,115]) = false ∧ (s.toList == [101,113]) = false ∧ (s.toList == [115,104,108]) = false ∧ (s.toList == [115,104,114]) = false ∧ (s.toList == [109,117,108]) = false ∧ (s.toList == [97,100,100,105]) = false ∧ (s.toList == [97,110,100,105]) = false ∧ (s.toList == [120,111,114,105]) = false ∧ (s.toList == [115,104,108,105]) = false ∧ (s.toList == [115,104,114,105]) = false ∧ (s.toList == [108,101,97]) = false) := by
  by_cases h0 : s.toList = [115,101,116]; · exact .inl h0
  by_cases h1 : s.toList = [109,111,118]; · exact .inr (.inl h1)
  by_cases h2 : s.toList = [110,111,116]; · exact .inr (.inr (.inl h2))
  by_cases h3 : s.toList = [110,101,103]; · exact .inr (.inr (.inr (.inl h3)))
  by_cases h4 : s.toList = [97,100,100]; · exact .inr (.inr (.inr (.inr (.inl h4))))
  by_cases h5 : s.toList = [115,117,98]; · exact .inr (.inr (.inr (.inr (.inr (.inl h5)))))
  by_cases h6 : s.toList = [97,110,100]; · exact .inr (.inr (.inr (.inr (.inr (.inr (.inl h6))))))
  by_cases h7 : s.toList = [111,114]; · exact .inr (.inr (.inr (.inr (.inr (.inr (.inr (.inl h7)))))))
  by_cases h8 : s.toList = [120,111,114]; · exact .inr (.inr (.inr (.inr (.inr (.inr (.inr (.inr (.inl h8))))))))
  by_cases h9 : s.toList = [108,101,115,115]; · exact .inr (.inr (.inr (.inr (.inr (.inr (.inr (.inr (.inr (.inl h9)))))))))
  by_cases h10 : s.toList = [101,113]; · exact .inr (.inr (.inr (.inr (.inr (.inr (.inr (.inr (.inr (.inr (.inl h10))))))))))
  by_cases h11 : s.toList = [115,104,108]; · exact .inr (.inr (.inr (.inr (.inr (.inr (.inr (.inr (.inr (.inr (.inr (.inl h11)))))))))))
  by_cases h12 : s.toList = [115,104,114]; · exact .inr (.inr (.inr (.inr (.inr (.inr (.inr (.inr (.inr (.inr (.inr (.inr (.inl h12))))))))))))
  by_cases h13 : s.toList = [109,117,108]; · exact .inr (.inr (.inr (.inr (.inr (.inr (.inr (.inr (.inr (.inr (.inr (.inr (.inr (.inl h13)))))))))))))
  by_cases h14 : s.toList = [97,100,100,105]; · exact .inr (.inr (.inr (.inr (.inr (.inr (.inr (.inr (.inr (.inr (.inr (.inr (.inr (.inr (.inl h14))))))))))))))
  by_cases h15 : s.toList = [97,110,100,105]; · exact .inr (.inr (.inr (.inr (.inr (.inr (.inr (.inr (.inr (.inr (.inr (.inr (.inr (.inr (.inr (.inl h15)))))))))))))))
  by_cases h16 : s.toList = [120,111,114,105]; · exact .inr (.inr (.inr (.inr (.inr (.inr (.inr (.inr (.inr (.inr (.inr (.inr (.inr (.inr (.inr (.inr (.inl h16))))))))))))))))
  by_cases h17 : s.toList = [115,104,108,105]; · exact .inr (.inr (.inr (.inr (.inr (.inr (.inr (.inr (.inr (.inr (.inr (.inr (.inr (.inr (.inr (.inr (.inr (.inl h17)))))))))))))))))
  by_cases h18 : s.toList = [115,104,114,105]; · exact .inr (.inr (.inr (.inr (.inr (.inr (.inr (.inr (.inr (.inr (.inr (.inr (.inr (.inr (.inr (.inr (.inr (.inr (.inl h18))))))))))))))))))
  by_cases h19 : s.toList = [108,101,97]; · exact .inr (.inr (.inr (.inr (.inr (.inr (.inr (.inr (.inr (.inr (.inr (.inr (.inr (.inr (.inr (.inr (.inr (.inr (.inr (.inl h19)))))))))))))))))))
  exact .inr (.inr (.inr (.inr (.inr (.inr (.inr (.inr (.inr (.inr (.inr (.inr (.inr (.inr (.inr (.inr (.inr (.inr (.inr (.inr (by simp [*]))))))))))))))))))))
theorem fm_set {s : ByteArray} (h : s.toList = [115,101,116]) : fm s = ⟨true, false, false, 0, 63, 1⟩ := by simp [fm, h]
theorem fm_mov {s : ByteArray} (h : s.toList = [109,111,118]) : fm s = ⟨true, true, false, 0, 0, 1⟩ := by simp [fm, h]
theorem fm_not {s : ByteArray} (h : s.toList = [110,111,116]) : fm s = ⟨true, true, false, 0, 0, 1⟩ := by simp [fm, h]
theorem fm_neg {s : ByteArray} (h : s.toList = [110,101,103]) : fm s = ⟨true, true, false, 0, 0, 1⟩ := by simp [fm, h]
theorem fm_add {s : ByteArray} (h : s.toList = [97,100,100]) : fm s = ⟨true, true, true, 0, 0, 1⟩ := by simp [fm, h]
theorem fm_sub {s : ByteArray} (h : s.toList = [115,117,98]) : fm s = ⟨true, true, true, 0, 0, 1⟩ := by simp [fm, h]
theorem fm_and {s : ByteArray} (h : s.toList = [97,110,100]) : fm s = ⟨true, true, true, 0, 0, 1⟩ := by simp [fm, h]
theorem fm_or {s : ByteArray} (h : s.toList = [111,114]) : fm s = ⟨true, true, true, 0, 0, 1⟩ := by simp [fm, h]
theorem fm_xor {s : ByteArray} (h : s.toList = [120,111,114]) : fm s = ⟨true, true, true, 0, 0, 1⟩ := by simp [fm, h]
theorem fm_less {s : ByteArray} (h : s.toList = [108,101,115,115]) : fm s = ⟨true, true, true, 0, 0, 1⟩ := by simp [fm, h]
theorem fm_eq {s : ByteArray} (h : s.toList = [101,113]) : fm s = ⟨true, true, true, 0, 0, 1⟩ := by simp [fm, h]
theorem fm_shl {s : ByteArray} (h : s.toList = [115,104,108]) : fm s = ⟨true, true, true, 0, 0, 2⟩ := by simp [fm, h]
theorem fm_shr {s : ByteArray} (h : s.toList = [115,104,114]) : fm s = ⟨true, true, true, 0, 0, 2⟩ := by simp [fm, h]
theorem fm_mul {s : ByteArray} (h : s.toList = [109,117,108]) : fm s = ⟨true, true, true, 0, 0, 4⟩ := by simp [fm, h]
theorem fm_addi {s : ByteArray} (h : s.toList = [97,100,100,105]) : fm s = ⟨true, true, false, 0, 63, 1⟩ := by simp [fm, h]
theorem fm_andi {s : ByteArray} (h : s.toList = [97,110,100,105]) : fm s = ⟨true, true, false, 0, 63, 1⟩ := by simp [fm, h]
theorem fm_xori {s : ByteArray} (h : s.toList = [120,111,114,105]) : fm s = ⟨true, true, false, 0, 63, 1⟩ := by simp [fm, h]
theorem fm_shli {s : ByteArray} (h : s.toList = [115,104,108,105]) : fm s = ⟨true, true, false, 1, 5, 1⟩ := by simp [fm, h]
theorem fm_shri {s : ByteArray} (h : s.toList = [115,104,114,105]) : fm s = ⟨true, true, false, 1, 5, 1⟩ := by simp [fm, h]
theorem fm_lea {s : ByteArray} (h : s.toList = [108,101,97]) : fm s = ⟨true, true, true, 1, 3, 1⟩ := by simp [fm, h]
theorem fm_no {s : ByteArray} (h : (s.toList == [115,101,116]) = false ∧ (s.toList == [109,111,118]) = false ∧ (s.toList == [110,111,116]) = false ∧ (s.toList == [110,101,103]) = false ∧ (s.toList == [97,100,100]) = false ∧ (s.toList == [115,117,98]) = false ∧ (s.toList == [97,110,100]) = false ∧ (s.toList == [111,114]) = false ∧ (s.toList == [120,111,114]) = false ∧ (s.toList == [108,101,115,115]) = false ∧ (s.toList == [101,113]) = false ∧ (s.toList == [115,104,108]) = false ∧ (s.toList == [115,104,114]) = false ∧ (s.toList == [109,117,108]) = false ∧ (s.toList == [97,100,100,105]) = false ∧ (s.toList == [97,110,100,105]) = false ∧ (s.toList == [120,111,114,105]) = false ∧ (s.toList == [115,104,108,105]) = false ∧ (s.toList == [115,104,114,105]) = false ∧ (s.toList == [108,101,97]) = false) : fm s = ⟨false, false, false, 0, 0, 0⟩ := by
  simp only [beq_eq_false_iff_ne] at h
  simp [fm, h]
end Go.Proofs.Ytdleiondfhmjdaa

namespace Go.Proofs.Ytdleiondfhmjdaa
open Go.RowKit
set_option linter.unusedVariables false

theorem formOf_set (s : ByteArray) (w : World) (h : s.toList = [115,101,116]) :
    Calls Try.prog 142 #[.string s] w fun e w' => e = .returned (.tuple #[.agg #[.bool false, .bool false, .int .i64 0, .int .i64 63, .int .i64 1], .bool true]) ∧ Below w.heap.size w w' := by
  have hB1 := fun o => (Below.refl w.heap.size w).alloc (Nat.le_refl _) o
  go_enter Try.func142, Try.ntmps142
  go_wp2
  exact bodyPost_ret (v := .tuple #[.agg #[.bool false, .bool false, .int .i64 0, .int .i64 63, .int .i64 1], .bool true]) (by simp [results, Try.results142, go_sem]) rfl ⟨rfl, by first | exact hB1 _ | exact (hB1 _).setCell (Nat.le_refl _) _ | (simp [setRow_eq]; exact hB1 _)⟩

theorem formOf_mov (s : ByteArray) (w : World) (h : s.toList = [109,111,118]) :
    Calls Try.prog 142 #[.string s] w fun e w' => e = .returned (.tuple #[.agg #[.bool true, .bool false, .int .i64 0, .int .i64 0, .int .i64 1], .bool true]) ∧ Below w.heap.size w w' := by
  have hB1 := fun o => (Below.refl w.heap.size w).alloc (Nat.le_refl _) o
  go_enter Try.func142, Try.ntmps142
  go_wp2
  exact bodyPost_ret (v := .tuple #[.agg #[.bool true, .bool false, .int .i64 0, .int .i64 0, .int .i64 1], .bool true]) (by simp [results, Try.results142, go_sem]) rfl ⟨rfl, by first | exact hB1 _ | exact (hB1 _).setCell (Nat.le_refl _) _ | (simp [setRow_eq]; exact hB1 _)⟩

theorem formOf_not (s : ByteArray) (w : World) (h : s.toList = [110,111,116]) :
    Calls Try.prog 142 #[.string s] w fun e w' => e = .returned (.tuple #[.agg #[.bool true, .bool false, .int .i64 0, .int .i64 0, .int .i64 1], .bool true]) ∧ Below w.heap.size w w' := by
  have hB1 := fun o => (Below.refl w.heap.size w).alloc (Nat.le_refl _) o
  go_enter Try.func142, Try.ntmps142
  go_wp2
  exact bodyPost_ret (v := .tuple #[.agg #[.bool true, .bool false, .int .i64 0, .int .i64 0, .int .i64 1], .bool true]) (by simp [results, Try.results142, go_sem]) rfl ⟨rfl, by first | exact hB1 _ | exact (hB1 _).setCell (Nat.le_refl _) _ | (simp [setRow_eq]; exact hB1 _)⟩

theorem formOf_neg (s : ByteArray) (w : World) (h : s.toList = [110,101,103]) :
    Calls Try.prog 142 #[.string s] w fun e w' => e = .returned (.tuple #[.agg #[.bool true, .bool false, .int .i64 0, .int .i64 0, .int .i64 1], .bool true]) ∧ Below w.heap.size w w' := by
  have hB1 := fun o => (Below.refl w.heap.size w).alloc (Nat.le_refl _) o
  go_enter Try.func142, Try.ntmps142
  go_wp2
  exact bodyPost_ret (v := .tuple #[.agg #[.bool true, .bool false, .int .i64 0, .int .i64 0, .int .i64 1], .bool true]) (by simp [results, Try.results142, go_sem]) rfl ⟨rfl, by first | exact hB1 _ | exact (hB1 _).setCell (Nat.le_refl _) _ | (simp [setRow_eq]; exact hB1 _)⟩

theorem formOf_add (s : ByteArray) (w : World) (h : s.toList = [97,100,100]) :
    Calls Try.prog 142 #[.string s] w fun e w' => e = .returned (.tuple #[.agg #[.bool true, .bool true, .int .i64 0, .int .i64 0, .int .i64 1], .bool true]) ∧ Below w.heap.size w w' := by
  have hB1 := fun o => (Below.refl w.heap.size w).alloc (Nat.le_refl _) o
  go_enter Try.func142, Try.ntmps142
  go_wp2
  exact bodyPost_ret (v := .tuple #[.agg #[.bool true, .bool true, .int .i64 0, .int .i64 0, .int .i64 1], .bool true]) (by simp [results, Try.results142, go_sem]) rfl ⟨rfl, by first | exact hB1 _ | exact (hB1 _).setCell (Nat.le_refl _) _ | (simp [setRow_eq]; exact hB1 _)⟩

theorem formOf_sub (s : ByteArray) (w : World) (h : s.toList = [115,117,98]) :
    Calls Try.prog 142 #[.string s] w fun e w' => e = .returned (.tuple #[.agg #[.bool true, .bool true, .int .i64 0, .int .i64 0, .int .i64 1], .bool true]) ∧ Below w.heap.size w w' := by
  have hB1 := fun o => (Below.refl w.heap.size w).alloc (Nat.le_refl _) o
  go_enter Try.func142, Try.ntmps142
  go_wp2
  exact bodyPost_ret (v := .tuple #[.agg #[.bool true, .bool true, .int .i64 0, .int .i64 0, .int .i64 1], .bool true]) (by simp [results, Try.results142, go_sem]) rfl ⟨rfl, by first | exact hB1 _ | exact (hB1 _).setCell (Nat.le_refl _) _ | (simp [setRow_eq]; exact hB1 _)⟩

theorem formOf_and (s : ByteArray) (w : World) (h : s.toList = [97,110,100]) :
    Calls Try.prog 142 #[.string s] w fun e w' => e = .returned (.tuple #[.agg #[.bool true, .bool true, .int .i64 0, .int .i64 0, .int .i64 1], .bool true]) ∧ Below w.heap.size w w' := by
  have hB1 := fun o => (Below.refl w.heap.size w).alloc (Nat.le_refl _) o
  go_enter Try.func142, Try.ntmps142
  go_wp2
  exact bodyPost_ret (v := .tuple #[.agg #[.bool true, .bool true, .int .i64 0, .int .i64 0, .int .i64 1], .bool true]) (by simp [results, Try.results142, go_sem]) rfl ⟨rfl, by first | exact hB1 _ | exact (hB1 _).setCell (Nat.le_refl _) _ | (simp [setRow_eq]; exact hB1 _)⟩

theorem formOf_or (s : ByteArray) (w : World) (h : s.toList = [111,114]) :
    Calls Try.prog 142 #[.string s] w fun e w' => e = .returned (.tuple #[.agg #[.bool true, .bool true, .int .i64 0, .int .i64 0, .int .i64 1], .bool true]) ∧ Below w.heap.size w w' := by
  have hB1 := fun o => (Below.refl w.heap.size w).alloc (Nat.le_refl _) o
  go_enter Try.func142, Try.ntmps142
  go_wp2
  exact bodyPost_ret (v := .tuple #[.agg #[.bool true, .bool true, .int .i64 0, .int .i64 0, .int .i64 1], .bool true]) (by simp [results, Try.results142, go_sem]) rfl ⟨rfl, by first | exact hB1 _ | exact (hB1 _).setCell (Nat.le_refl _) _ | (simp [setRow_eq]; exact hB1 _)⟩

theorem formOf_xor (s : ByteArray) (w : World) (h : s.toList = [120,111,114]) :
    Calls Try.prog 142 #[.string s] w fun e w' => e = .returned (.tuple #[.agg #[.bool true, .bool true, .int .i64 0, .int .i64 0, .int .i64 1], .bool true]) ∧ Below w.heap.size w w' := by
  have hB1 := fun o => (Below.refl w.heap.size w).alloc (Nat.le_refl _) o
  go_enter Try.func142, Try.ntmps142
  go_wp2
  exact bodyPost_ret (v := .tuple #[.agg #[.bool true, .bool true, .int .i64 0, .int .i64 0, .int .i64 1], .bool true]) (by simp [results, Try.results142, go_sem]) rfl ⟨rfl, by first | exact hB1 _ | exact (hB1 _).setCell (Nat.le_refl _) _ | (simp [setRow_eq]; exact hB1 _)⟩

theorem formOf_less (s : ByteArray) (w : World) (h : s.toList = [108,101,115,115]) :
    Calls Try.prog 142 #[.string s] w fun e w' => e = .returned (.tuple #[.agg #[.bool true, .bool true, .int .i64 0, .int .i64 0, .int .i64 1], .bool true]) ∧ Below w.heap.size w w' := by
  have hB1 := fun o => (Below.refl w.heap.size w).alloc (Nat.le_refl _) o
  go_enter Try.func142, Try.ntmps142
  go_wp2
  exact bodyPost_ret (v := .tuple #[.agg #[.bool true, .bool true, .int .i64 0, .int .i64 0, .int .i64 1], .bool true]) (by simp [results, Try.results142, go_sem]) rfl ⟨rfl, by first | exact hB1 _ | exact (hB1 _).setCell (Nat.le_refl _) _ | (simp [setRow_eq]; exact hB1 _)⟩

theorem formOf_eq (s : ByteArray) (w : World) (h : s.toList = [101,113]) :
    Calls Try.prog 142 #[.string s] w fun e w' => e = .returned (.tuple #[.agg #[.bool true, .bool true, .int .i64 0, .int .i64 0, .int .i64 1], .bool true]) ∧ Below w.heap.size w w' := by
  have hB1 := fun o => (Below.refl w.heap.size w).alloc (Nat.le_refl _) o
  go_enter Try.func142, Try.ntmps142
  go_wp2
  exact bodyPost_ret (v := .tuple #[.agg #[.bool true, .bool true, .int .i64 0, .int .i64 0, .int .i64 1], .bool true]) (by simp [results, Try.results142, go_sem]) rfl ⟨rfl, by first | exact hB1 _ | exact (hB1 _).setCell (Nat.le_refl _) _ | (simp [setRow_eq]; exact hB1 _)⟩

theorem formOf_shl (s : ByteArray) (w : World) (h : s.toList = [115,104,108]) :
    Calls Try.prog 142 #[.string s] w fun e w' => e = .returned (.tuple #[.agg #[.bool true, .bool true, .int .i64 0, .int .i64 0, .int .i64 2], .bool true]) ∧ Below w.heap.size w w' := by
  have hB1 := fun o => (Below.refl w.heap.size w).alloc (Nat.le_refl _) o
  go_enter Try.func142, Try.ntmps142
  go_wp2
  exact bodyPost_ret (v := .tuple #[.agg #[.bool true, .bool true, .int .i64 0, .int .i64 0, .int .i64 2], .bool true]) (by simp [results, Try.results142, go_sem]) rfl ⟨rfl, by first | exact hB1 _ | exact (hB1 _).setCell (Nat.le_refl _) _ | (simp [setRow_eq]; exact hB1 _)⟩

theorem formOf_shr (s : ByteArray) (w : World) (h : s.toList = [115,104,114]) :
    Calls Try.prog 142 #[.string s] w fun e w' => e = .returned (.tuple #[.agg #[.bool true, .bool true, .int .i64 0, .int .i64 0, .int .i64 2], .bool true]) ∧ Below w.heap.size w w' := by
  have hB1 := fun o => (Below.refl w.heap.size w).alloc (Nat.le_refl _) o
  go_enter Try.func142, Try.ntmps142
  go_wp2
  exact bodyPost_ret (v := .tuple #[.agg #[.bool true, .bool true, .int .i64 0, .int .i64 0, .int .i64 2], .bool true]) (by simp [results, Try.results142, go_sem]) rfl ⟨rfl, by first | exact hB1 _ | exact (hB1 _).setCell (Nat.le_refl _) _ | (simp [setRow_eq]; exact hB1 _)⟩

theorem formOf_mul (s : ByteArray) (w : World) (h : s.toList = [109,117,108]) :
    Calls Try.prog 142 #[.string s] w fun e w' => e = .returned (.tuple #[.agg #[.bool true, .bool true, .int .i64 0, .int .i64 0, .int .i64 4], .bool true]) ∧ Below w.heap.size w w' := by
  have hB1 := fun o => (Below.refl w.heap.size w).alloc (Nat.le_refl _) o
  go_enter Try.func142, Try.ntmps142
  go_wp2
  exact bodyPost_ret (v := .tuple #[.agg #[.bool true, .bool true, .int .i64 0, .int .i64 0, .int .i64 4], .bool true]) (by simp [results, Try.results142, go_sem]) rfl ⟨rfl, by first | exact hB1 _ | exact (hB1 _).setCell (Nat.le_refl _) _ | (simp [setRow_eq]; exact hB1 _)⟩

theorem formOf_addi (s : ByteArray) (w : World) (h : s.toList = [97,100,100,105]) :
    Calls Try.prog 142 #[.string s] w fun e w' => e = .returned (.tuple #[.agg #[.bool true, .bool false, .int .i64 0, .int .i64 63, .int .i64 1], .bool true]) ∧ Below w.heap.size w w' := by
  have hB1 := fun o => (Below.refl w.heap.size w).alloc (Nat.le_refl _) o
  go_enter Try.func142, Try.ntmps142
  go_wp2
  exact bodyPost_ret (v := .tuple #[.agg #[.bool true, .bool false, .int .i64 0, .int .i64 63, .int .i64 1], .bool true]) (by simp [results, Try.results142, go_sem]) rfl ⟨rfl, by first | exact hB1 _ | exact (hB1 _).setCell (Nat.le_refl _) _ | (simp [setRow_eq]; exact hB1 _)⟩

theorem formOf_andi (s : ByteArray) (w : World) (h : s.toList = [97,110,100,105]) :
    Calls Try.prog 142 #[.string s] w fun e w' => e = .returned (.tuple #[.agg #[.bool true, .bool false, .int .i64 0, .int .i64 63, .int .i64 1], .bool true]) ∧ Below w.heap.size w w' := by
  have hB1 := fun o => (Below.refl w.heap.size w).alloc (Nat.le_refl _) o
  go_enter Try.func142, Try.ntmps142
  go_wp2
  exact bodyPost_ret (v := .tuple #[.agg #[.bool true, .bool false, .int .i64 0, .int .i64 63, .int .i64 1], .bool true]) (by simp [results, Try.results142, go_sem]) rfl ⟨rfl, by first | exact hB1 _ | exact (hB1 _).setCell (Nat.le_refl _) _ | (simp [setRow_eq]; exact hB1 _)⟩

theorem formOf_xori (s : ByteArray) (w : World) (h : s.toList = [120,111,114,105]) :
    Calls Try.prog 142 #[.string s] w fun e w' => e = .returned (.tuple #[.agg #[.bool true, .bool false, .int .i64 0, .int .i64 63, .int .i64 1], .bool true]) ∧ Below w.heap.size w w' := by
  have hB1 := fun o => (Below.refl w.heap.size w).alloc (Nat.le_refl _) o
  go_enter Try.func142, Try.ntmps142
  go_wp2
  exact bodyPost_ret (v := .tuple #[.agg #[.bool true, .bool false, .int .i64 0, .int .i64 63, .int .i64 1], .bool true]) (by simp [results, Try.results142, go_sem]) rfl ⟨rfl, by first | exact hB1 _ | exact (hB1 _).setCell (Nat.le_refl _) _ | (simp [setRow_eq]; exact hB1 _)⟩

theorem formOf_shli (s : ByteArray) (w : World) (h : s.toList = [115,104,108,105]) :
    Calls Try.prog 142 #[.string s] w fun e w' => e = .returned (.tuple #[.agg #[.bool true, .bool false, .int .i64 1, .int .i64 5, .int .i64 1], .bool true]) ∧ Below w.heap.size w w' := by
  have hB1 := fun o => (Below.refl w.heap.size w).alloc (Nat.le_refl _) o
  go_enter Try.func142, Try.ntmps142
  go_wp2
  exact bodyPost_ret (v := .tuple #[.agg #[.bool true, .bool false, .int .i64 1, .int .i64 5, .int .i64 1], .bool true]) (by simp [results, Try.results142, go_sem]) rfl ⟨rfl, by first | exact hB1 _ | exact (hB1 _).setCell (Nat.le_refl _) _ | (simp [setRow_eq]; exact hB1 _)⟩

theorem formOf_shri (s : ByteArray) (w : World) (h : s.toList = [115,104,114,105]) :
    Calls Try.prog 142 #[.string s] w fun e w' => e = .returned (.tuple #[.agg #[.bool true, .bool false, .int .i64 1, .int .i64 5, .int .i64 1], .bool true]) ∧ Below w.heap.size w w' := by
  have hB1 := fun o => (Below.refl w.heap.size w).alloc (Nat.le_refl _) o
  go_enter Try.func142, Try.ntmps142
  go_wp2
  exact bodyPost_ret (v := .tuple #[.agg #[.bool true, .bool false, .int .i64 1, .int .i64 5, .int .i64 1], .bool true]) (by simp [results, Try.results142, go_sem]) rfl ⟨rfl, by first | exact hB1 _ | exact (hB1 _).setCell (Nat.le_refl _) _ | (simp [setRow_eq]; exact hB1 _)⟩

theorem formOf_lea (s : ByteArray) (w : World) (h : s.toList = [108,101,97]) :
    Calls Try.prog 142 #[.string s] w fun e w' => e = .returned (.tuple #[.agg #[.bool true, .bool true, .int .i64 1, .int .i64 3, .int .i64 1], .bool true]) ∧ Below w.heap.size w w' := by
  have hB1 := fun o => (Below.refl w.heap.size w).alloc (Nat.le_refl _) o
  go_enter Try.func142, Try.ntmps142
  go_wp2
  exact bodyPost_ret (v := .tuple #[.agg #[.bool true, .bool true, .int .i64 1, .int .i64 3, .int .i64 1], .bool true]) (by simp [results, Try.results142, go_sem]) rfl ⟨rfl, by first | exact hB1 _ | exact (hB1 _).setCell (Nat.le_refl _) _ | (simp [setRow_eq]; exact hB1 _)⟩

theorem formOf_no (s : ByteArray) (w : World) (h : (s.toList == [115,101,116]) = false ∧ (s.toList == [109,111,118]) = false ∧ (s.toList == [110,111,116]) = false ∧ (s.toList == [110,101,103]) = false ∧ (s.toList == [97,100,100]) = false ∧ (s.toList == [115,117,98]) = false ∧ (s.toList == [97,110,100]) = false ∧ (s.toList == [111,114]) = false ∧ (s.toList == [120,111,114]) = false ∧ (s.toList == [108,101,115,115]) = false ∧ (s.toList == [101,113]) = false ∧ (s.toList == [115,104,108]) = false ∧ (s.toList == [115,104,114]) = false ∧ (s.toList == [109,117,108]) = false ∧ (s.toList == [97,100,100,105]) = false ∧ (s.toList == [97,110,100,105]) = false ∧ (s.toList == [120,111,114,105]) = false ∧ (s.toList == [115,104,108,105]) = false ∧ (s.toList == [115,104,114,105]) = false ∧ (s.toList == [108,101,97]) = false) :
    Calls Try.prog 142 #[.string s] w fun e w' => e = .returned (.tuple #[.agg #[.bool false, .bool false, .int .i64 0, .int .i64 0, .int .i64 0], .bool false]) ∧ Below w.heap.size w w' := by
  have hB1 := fun o => (Below.refl w.heap.size w).alloc (Nat.le_refl _) o
  obtain ⟨h0, h1, h2, h3, h4, h5, h6, h7, h8, h9, h10, h11, h12, h13, h14, h15, h16, h17, h18, h19⟩ := h
  go_enter Try.func142, Try.ntmps142
  go_wp2
  exact bodyPost_ret (v := .tuple #[.agg #[.bool false, .bool false, .int .i64 0, .int .i64 0, .int .i64 0], .bool false]) (by simp [results, Try.results142, go_sem]) rfl ⟨rfl, by first | exact hB1 _ | exact (hB1 _).setCell (Nat.le_refl _) _ | (simp [setRow_eq]; exact hB1 _)⟩

theorem formOf_any (s : ByteArray) (w : World) :
    Calls Try.prog 142 #[.string s] w fun e w' => e = .returned (.tuple #[fmV (fm s), .bool (fm s).ok]) ∧ Below w.heap.size w w' := by
  rcases cop_cases s with h|h|h|h|h|h|h|h|h|h|h|h|h|h|h|h|h|h|h|h|h
  · rw [fm_set h]; exact formOf_set s w h
  · rw [fm_mov h]; exact formOf_mov s w h
  · rw [fm_not h]; exact formOf_not s w h
  · rw [fm_neg h]; exact formOf_neg s w h
  · rw [fm_add h]; exact formOf_add s w h
  · rw [fm_sub h]; exact formOf_sub s w h
  · rw [fm_and h]; exact formOf_and s w h
  · rw [fm_or h]; exact formOf_or s w h
  · rw [fm_xor h]; exact formOf_xor s w h
  · rw [fm_less h]; exact formOf_less s w h
  · rw [fm_eq h]; exact formOf_eq s w h
  · rw [fm_shl h]; exact formOf_shl s w h
  · rw [fm_shr h]; exact formOf_shr s w h
  · rw [fm_mul h]; exact formOf_mul s w h
  · rw [fm_addi h]; exact formOf_addi s w h
  · rw [fm_andi h]; exact formOf_andi s w h
  · rw [fm_xori h]; exact formOf_xori s w h
  · rw [fm_shli h]; exact formOf_shli s w h
  · rw [fm_shri h]; exact formOf_shri s w h
  · rw [fm_lea h]; exact formOf_lea s w h
  · rw [fm_no h]; exact formOf_no s w h
end Go.Proofs.Ytdleiondfhmjdaa

namespace Go.Proofs.Ytdleiondfhmjdaa
open Go.RowKit
set_option linter.unusedVariables false

theorem cdShape_set (s : ByteArray) (w : World) (h : s.toList = [115,101,116]) :
    Calls Try.prog 140 #[.string s] w fun e w' => e = .returned (.tuple #[.bool true, .bool false, .bool false, .int .i64 0, .int .i64 63]) ∧ w = w' := by
  go_enter Try.func140, Try.ntmps140
  go_wp2
  exact bodyPost_ret (v := .tuple #[.bool true, .bool false, .bool false, .int .i64 0, .int .i64 63]) (by simp [results, Try.results140, go_sem]) rfl ⟨rfl, rfl⟩

theorem cdShape_mov (s : ByteArray) (w : World) (h : s.toList = [109,111,118]) :
    Calls Try.prog 140 #[.string s] w fun e w' => e = .returned (.tuple #[.bool true, .bool true, .bool false, .int .i64 0, .int .i64 0]) ∧ w = w' := by
  go_enter Try.func140, Try.ntmps140
  go_wp2
  exact bodyPost_ret (v := .tuple #[.bool true, .bool true, .bool false, .int .i64 0, .int .i64 0]) (by simp [results, Try.results140, go_sem]) rfl ⟨rfl, rfl⟩

theorem cdShape_not (s : ByteArray) (w : World) (h : s.toList = [110,111,116]) :
    Calls Try.prog 140 #[.string s] w fun e w' => e = .returned (.tuple #[.bool true, .bool true, .bool false, .int .i64 0, .int .i64 0]) ∧ w = w' := by
  go_enter Try.func140, Try.ntmps140
  go_wp2
  exact bodyPost_ret (v := .tuple #[.bool true, .bool true, .bool false, .int .i64 0, .int .i64 0]) (by simp [results, Try.results140, go_sem]) rfl ⟨rfl, rfl⟩

theorem cdShape_neg (s : ByteArray) (w : World) (h : s.toList = [110,101,103]) :
    Calls Try.prog 140 #[.string s] w fun e w' => e = .returned (.tuple #[.bool true, .bool true, .bool false, .int .i64 0, .int .i64 0]) ∧ w = w' := by
  go_enter Try.func140, Try.ntmps140
  go_wp2
  exact bodyPost_ret (v := .tuple #[.bool true, .bool true, .bool false, .int .i64 0, .int .i64 0]) (by simp [results, Try.results140, go_sem]) rfl ⟨rfl, rfl⟩

theorem cdShape_add (s : ByteArray) (w : World) (h : s.toList = [97,100,100]) :
    Calls Try.prog 140 #[.string s] w fun e w' => e = .returned (.tuple #[.bool true, .bool true, .bool true, .int .i64 0, .int .i64 0]) ∧ w = w' := by
  go_enter Try.func140, Try.ntmps140
  go_wp2
  exact bodyPost_ret (v := .tuple #[.bool true, .bool true, .bool true, .int .i64 0, .int .i64 0]) (by simp [results, Try.results140, go_sem]) rfl ⟨rfl, rfl⟩

theorem cdShape_sub (s : ByteArray) (w : World) (h : s.toList = [115,117,98]) :
    Calls Try.prog 140 #[.string s] w fun e w' => e = .returned (.tuple #[.bool true, .bool true, .bool true, .int .i64 0, .int .i64 0]) ∧ w = w' := by
  go_enter Try.func140, Try.ntmps140
  go_wp2
  exact bodyPost_ret (v := .tuple #[.bool true, .bool true, .bool true, .int .i64 0, .int .i64 0]) (by simp [results, Try.results140, go_sem]) rfl ⟨rfl, rfl⟩

theorem cdShape_and (s : ByteArray) (w : World) (h : s.toList = [97,110,100]) :
    Calls Try.prog 140 #[.string s] w fun e w' => e = .returned (.tuple #[.bool true, .bool true, .bool true, .int .i64 0, .int .i64 0]) ∧ w = w' := by
  go_enter Try.func140, Try.ntmps140
  go_wp2
  exact bodyPost_ret (v := .tuple #[.bool true, .bool true, .bool true, .int .i64 0, .int .i64 0]) (by simp [results, Try.results140, go_sem]) rfl ⟨rfl, rfl⟩

theorem cdShape_or (s : ByteArray) (w : World) (h : s.toList = [111,114]) :
    Calls Try.prog 140 #[.string s] w fun e w' => e = .returned (.tuple #[.bool true, .bool true, .bool true, .int .i64 0, .int .i64 0]) ∧ w = w' := by
  go_enter Try.func140, Try.ntmps140
  go_wp2
  exact bodyPost_ret (v := .tuple #[.bool true, .bool true, .bool true, .int .i64 0, .int .i64 0]) (by simp [results, Try.results140, go_sem]) rfl ⟨rfl, rfl⟩

theorem cdShape_xor (s : ByteArray) (w : World) (h : s.toList = [120,111,114]) :
    Calls Try.prog 140 #[.string s] w fun e w' => e = .returned (.tuple #[.bool true, .bool true, .bool true, .int .i64 0, .int .i64 0]) ∧ w = w' := by
  go_enter Try.func140, Try.ntmps140
  go_wp2
  exact bodyPost_ret (v := .tuple #[.bool true, .bool true, .bool true, .int .i64 0, .int .i64 0]) (by simp [results, Try.results140, go_sem]) rfl ⟨rfl, rfl⟩

theorem cdShape_less (s : ByteArray) (w : World) (h : s.toList = [108,101,115,115]) :
    Calls Try.prog 140 #[.string s] w fun e w' => e = .returned (.tuple #[.bool true, .bool true, .bool true, .int .i64 0, .int .i64 0]) ∧ w = w' := by
  go_enter Try.func140, Try.ntmps140
  go_wp2
  exact bodyPost_ret (v := .tuple #[.bool true, .bool true, .bool true, .int .i64 0, .int .i64 0]) (by simp [results, Try.results140, go_sem]) rfl ⟨rfl, rfl⟩

theorem cdShape_eq (s : ByteArray) (w : World) (h : s.toList = [101,113]) :
    Calls Try.prog 140 #[.string s] w fun e w' => e = .returned (.tuple #[.bool true, .bool true, .bool true, .int .i64 0, .int .i64 0]) ∧ w = w' := by
  go_enter Try.func140, Try.ntmps140
  go_wp2
  exact bodyPost_ret (v := .tuple #[.bool true, .bool true, .bool true, .int .i64 0, .int .i64 0]) (by simp [results, Try.results140, go_sem]) rfl ⟨rfl, rfl⟩

theorem cdShape_shl (s : ByteArray) (w : World) (h : s.toList = [115,104,108]) :
    Calls Try.prog 140 #[.string s] w fun e w' => e = .returned (.tuple #[.bool true, .bool true, .bool true, .int .i64 0, .int .i64 0]) ∧ w = w' := by
  go_enter Try.func140, Try.ntmps140
  go_wp2
  exact bodyPost_ret (v := .tuple #[.bool true, .bool true, .bool true, .int .i64 0, .int .i64 0]) (by simp [results, Try.results140, go_sem]) rfl ⟨rfl, rfl⟩

theorem cdShape_shr (s : ByteArray) (w : World) (h : s.toList = [115,104,114]) :
    Calls Try.prog 140 #[.string s] w fun e w' => e = .returned (.tuple #[.bool true, .bool true, .bool true, .int .i64 0, .int .i64 0]) ∧ w = w' := by
  go_enter Try.func140, Try.ntmps140
  go_wp2
  exact bodyPost_ret (v := .tuple #[.bool true, .bool true, .bool true, .int .i64 0, .int .i64 0]) (by simp [results, Try.results140, go_sem]) rfl ⟨rfl, rfl⟩

theorem cdShape_mul (s : ByteArray) (w : World) (h : s.toList = [109,117,108]) :
    Calls Try.prog 140 #[.string s] w fun e w' => e = .returned (.tuple #[.bool true, .bool true, .bool true, .int .i64 0, .int .i64 0]) ∧ w = w' := by
  go_enter Try.func140, Try.ntmps140
  go_wp2
  exact bodyPost_ret (v := .tuple #[.bool true, .bool true, .bool true, .int .i64 0, .int .i64 0]) (by simp [results, Try.results140, go_sem]) rfl ⟨rfl, rfl⟩

theorem cdShape_addi (s : ByteArray) (w : World) (h : s.toList = [97,100,100,105]) :
    Calls Try.prog 140 #[.string s] w fun e w' => e = .returned (.tuple #[.bool true, .bool true, .bool false, .int .i64 0, .int .i64 63]) ∧ w = w' := by
  go_enter Try.func140, Try.ntmps140
  go_wp2
  exact bodyPost_ret (v := .tuple #[.bool true, .bool true, .bool false, .int .i64 0, .int .i64 63]) (by simp [results, Try.results140, go_sem]) rfl ⟨rfl, rfl⟩

theorem cdShape_andi (s : ByteArray) (w : World) (h : s.toList = [97,110,100,105]) :
    Calls Try.prog 140 #[.string s] w fun e w' => e = .returned (.tuple #[.bool true, .bool true, .bool false, .int .i64 0, .int .i64 63]) ∧ w = w' := by
  go_enter Try.func140, Try.ntmps140
  go_wp2
  exact bodyPost_ret (v := .tuple #[.bool true, .bool true, .bool false, .int .i64 0, .int .i64 63]) (by simp [results, Try.results140, go_sem]) rfl ⟨rfl, rfl⟩

theorem cdShape_xori (s : ByteArray) (w : World) (h : s.toList = [120,111,114,105]) :
    Calls Try.prog 140 #[.string s] w fun e w' => e = .returned (.tuple #[.bool true, .bool true, .bool false, .int .i64 0, .int .i64 63]) ∧ w = w' := by
  go_enter Try.func140, Try.ntmps140
  go_wp2
  exact bodyPost_ret (v := .tuple #[.bool true, .bool true, .bool false, .int .i64 0, .int .i64 63]) (by simp [results, Try.results140, go_sem]) rfl ⟨rfl, rfl⟩

theorem cdShape_shli (s : ByteArray) (w : World) (h : s.toList = [115,104,108,105]) :
    Calls Try.prog 140 #[.string s] w fun e w' => e = .returned (.tuple #[.bool true, .bool true, .bool false, .int .i64 1, .int .i64 5]) ∧ w = w' := by
  go_enter Try.func140, Try.ntmps140
  go_wp2
  exact bodyPost_ret (v := .tuple #[.bool true, .bool true, .bool false, .int .i64 1, .int .i64 5]) (by simp [results, Try.results140, go_sem]) rfl ⟨rfl, rfl⟩

theorem cdShape_shri (s : ByteArray) (w : World) (h : s.toList = [115,104,114,105]) :
    Calls Try.prog 140 #[.string s] w fun e w' => e = .returned (.tuple #[.bool true, .bool true, .bool false, .int .i64 1, .int .i64 5]) ∧ w = w' := by
  go_enter Try.func140, Try.ntmps140
  go_wp2
  exact bodyPost_ret (v := .tuple #[.bool true, .bool true, .bool false, .int .i64 1, .int .i64 5]) (by simp [results, Try.results140, go_sem]) rfl ⟨rfl, rfl⟩

theorem cdShape_lea (s : ByteArray) (w : World) (h : s.toList = [108,101,97]) :
    Calls Try.prog 140 #[.string s] w fun e w' => e = .returned (.tuple #[.bool true, .bool true, .bool true, .int .i64 1, .int .i64 3]) ∧ w = w' := by
  go_enter Try.func140, Try.ntmps140
  go_wp2
  exact bodyPost_ret (v := .tuple #[.bool true, .bool true, .bool true, .int .i64 1, .int .i64 3]) (by simp [results, Try.results140, go_sem]) rfl ⟨rfl, rfl⟩

theorem cdShape_no (s : ByteArray) (w : World) (h : (s.toList == [115,101,116]) = false ∧ (s.toList == [109,111,118]) = false ∧ (s.toList == [110,111,116]) = false ∧ (s.toList == [110,101,103]) = false ∧ (s.toList == [97,100,100]) = false ∧ (s.toList == [115,117,98]) = false ∧ (s.toList == [97,110,100]) = false ∧ (s.toList == [111,114]) = false ∧ (s.toList == [120,111,114]) = false ∧ (s.toList == [108,101,115,115]) = false ∧ (s.toList == [101,113]) = false ∧ (s.toList == [115,104,108]) = false ∧ (s.toList == [115,104,114]) = false ∧ (s.toList == [109,117,108]) = false ∧ (s.toList == [97,100,100,105]) = false ∧ (s.toList == [97,110,100,105]) = false ∧ (s.toList == [120,111,114,105]) = false ∧ (s.toList == [115,104,108,105]) = false ∧ (s.toList == [115,104,114,105]) = false ∧ (s.toList == [108,101,97]) = false) :
    Calls Try.prog 140 #[.string s] w fun e w' => e = .returned (.tuple #[.bool false, .bool false, .bool false, .int .i64 0, .int .i64 0]) ∧ w = w' := by
  obtain ⟨h0, h1, h2, h3, h4, h5, h6, h7, h8, h9, h10, h11, h12, h13, h14, h15, h16, h17, h18, h19⟩ := h
  go_enter Try.func140, Try.ntmps140
  go_wp2
  exact bodyPost_ret (v := .tuple #[.bool false, .bool false, .bool false, .int .i64 0, .int .i64 0]) (by simp [results, Try.results140, go_sem]) rfl ⟨rfl, rfl⟩

theorem cdShape_any (s : ByteArray) (w : World) :
    Calls Try.prog 140 #[.string s] w fun e w' => e = .returned (.tuple #[.bool (fm s).ok, .bool (fm s).a, .bool (fm s).b, .int .i64 (fm s).lo, .int .i64 (fm s).hi]) ∧ w = w' := by
  rcases cop_cases s with h|h|h|h|h|h|h|h|h|h|h|h|h|h|h|h|h|h|h|h|h
  · rw [fm_set h]; exact cdShape_set s w h
  · rw [fm_mov h]; exact cdShape_mov s w h
  · rw [fm_not h]; exact cdShape_not s w h
  · rw [fm_neg h]; exact cdShape_neg s w h
  · rw [fm_add h]; exact cdShape_add s w h
  · rw [fm_sub h]; exact cdShape_sub s w h
  · rw [fm_and h]; exact cdShape_and s w h
  · rw [fm_or h]; exact cdShape_or s w h
  · rw [fm_xor h]; exact cdShape_xor s w h
  · rw [fm_less h]; exact cdShape_less s w h
  · rw [fm_eq h]; exact cdShape_eq s w h
  · rw [fm_shl h]; exact cdShape_shl s w h
  · rw [fm_shr h]; exact cdShape_shr s w h
  · rw [fm_mul h]; exact cdShape_mul s w h
  · rw [fm_addi h]; exact cdShape_addi s w h
  · rw [fm_andi h]; exact cdShape_andi s w h
  · rw [fm_xori h]; exact cdShape_xori s w h
  · rw [fm_shli h]; exact cdShape_shli s w h
  · rw [fm_shri h]; exact cdShape_shri s w h
  · rw [fm_lea h]; exact cdShape_lea s w h
  · rw [fm_no h]; exact cdShape_no s w h
end Go.Proofs.Ytdleiondfhmjdaa
