import Derived.Test.YtmhdijklindipaaMI
/- Cases of ops of the machine. No program. -/
namespace Go.Proofs.Ytmhdijklindipaa
open Go.RowKit
set_option linter.unusedVariables false
set_option maxRecDepth 10000
theorem cop_cases (s : ByteArray) : s.toList = [115,101,116] ∨ s.toList = [109,111,118] ∨ s.toList = [110,111,116] ∨ s.toList = [110,101,103] ∨ s.toList = [97,100,100] ∨ s.toList = [115,117,98] ∨ s.toList = [97,110,100] ∨ s.toList = [111,114] ∨ s.toList = [120,111,114] ∨ s.toList = [108,101,115,115] ∨ s.toList = [101,113] ∨ s.toList = [115,104,108] ∨ s.toList = [115,104,114] ∨ s.toList = [109,117,108] ∨ s.toList = [97,100,100,105] ∨ s.toList = [97,110,100,105] ∨ s.toList = [120,111,114,105] ∨ s.toList = [115,104,108,105] ∨ s.toList = [115,104,114,105] ∨ s.toList = [108,101,97] ∨ ((s.toList == [115,101,116]) = false ∧ (s.toList == [109,111,118]) = false ∧ (s.toList == [110,111,116]) = false ∧ (s.toList == [110,101,103]) = false ∧ (s.toList == [97,100,100]) = false ∧ (s.toList == [115,117,98]) = false ∧ (s.toList == [97,110,100]) = false ∧ (s.toList == [111,114]) = false ∧ (s.toList == [120,111,114]) = false ∧ (s.toList == [108,101,115,115]) = false ∧ (s.toList == [101,113]) = false ∧ (s.toList == [115,104,108]) = false ∧ (s.toList == [115,104,114]) = false ∧ (s.toList == [109,117,108]) = false ∧ (s.toList == [97,100,100,105]) = false ∧ (s.toList == [97,110,100,105]) = false ∧ (s.toList == [120,111,114,105]) = false ∧ (s.toList == [115,104,108,105]) = false ∧ (s.toList == [115,104,114,105]) = false ∧ (s.toList == [108,101,97]) = false) := by
  by_cases h0 : s.toList = [115,101,116]; · exact .inl h0
  by_cases h1 : s.toList = [109,111,118]; · exact .inr (.inl h1)
  by_cases h2 : s.toList = [110,111,116]; · exact .inr (.inr (.inl h2))
  by_cases h3 : s.toList = [110,101,103]; · exact .inr (.inr (.inr (.inl h3)))
  by_cases h4 : s.toList = [97,100,100]; · exact .inr (.inr (.inr (.inr (.inl h4))))
  by_cases h5 : s.toList = [115,117,98]; · exact .inr (.inr (.inr (.inr (.inr (.inl h5)))))
  by_cases h6 : s.toList = [97,110,100]; · exact .inr (.inr (.inr (.inr (.inr (.inr (.inl h6))))))
  by_cases h7 : s.toList = [111,114]; · exact .inr (.inr (.inr (.inr (.inr (.inr (.inr (.inl h7)))))))
  by_cases h8 : s.toList = [120,111,114]; · exact .inr (.inr (.inr (.inr (.inr (.inr (.inr (.inr (.inl h8))))))))
  by_cases h9 : s.toList = [108,101,115,115]; · exact .inr (.inr (.inr (.inr (.inr (.inr (.inr (.inr (.inr (.inl h9)))))))))
  by_cases h10 : s.toList = [101,113]; · exact .inr (.inr (.inr (.inr (.inr (.inr (.inr (.inr (.inr (.inr (.inl h10))))))))))
  by_cases h11 : s.toList = [115,104,108]; · exact .inr (.inr (.inr (.inr (.inr (.inr (.inr (.inr (.inr (.inr (.inr (.inl h11)))))))))))
  by_cases h12 : s.toList = [115,104,114]; · exact .inr (.inr (.inr (.inr (.inr (.inr (.inr (.inr (.inr (.inr (.inr (.inr (.inl h12))))))))))))
  by_cases h13 : s.toList = [109,117,108]; · exact .inr (.inr (.inr (.inr (.inr (.inr (.inr (.inr (.inr (.inr (.inr (.inr (.inr (.inl h13)))))))))))))
  by_cases h14 : s.toList = [97,100,100,105]; · exact .inr (.inr (.inr (.inr (.inr (.inr (.inr (.inr (.inr (.inr (.inr (.inr (.inr (.inr (.inl h14))))))))))))))
  by_cases h15 : s.toList = [97,110,100,105]; · exact .inr (.inr (.inr (.inr (.inr (.inr (.inr (.inr (.inr (.inr (.inr (.inr (.inr (.inr (.inr (.inl h15)))))))))))))))
  by_cases h16 : s.toList = [120,111,114,105]; · exact .inr (.inr (.inr (.inr (.inr (.inr (.inr (.inr (.inr (.inr (.inr (.inr (.inr (.inr (.inr (.inr (.inl h16))))))))))))))))
  by_cases h17 : s.toList = [115,104,108,105]; · exact .inr (.inr (.inr (.inr (.inr (.inr (.inr (.inr (.inr (.inr (.inr (.inr (.inr (.inr (.inr (.inr (.inr (.inl h17)))))))))))))))))
  by_cases h18 : s.toList = [115,104,114,105]; · exact .inr (.inr (.inr (.inr (.inr (.inr (.inr (.inr (.inr (.inr (.inr (.inr (.inr (.inr (.inr (.inr (.inr (.inr (.inl h18))))))))))))))))))
  by_cases h19 : s.toList = [108,101,97]; · exact .inr (.inr (.inr (.inr (.inr (.inr (.inr (.inr (.inr (.inr (.inr (.inr (.inr (.inr (.inr (.inr (.inr (.inr (.inr (.inl h19)))))))))))))))))))
  exact .inr (.inr (.inr (.inr (.inr (.inr (.inr (.inr (.inr (.inr (.inr (.inr (.inr (.inr (.inr (.inr (.inr (.inr (.inr (.inr (by simp [*]))))))))))))))))))))
theorem fm_set {s : ByteArray} (h : s.toList = [115,101,116]) : fm s = ⟨true, false, false, 0, 63, 1⟩ := by simp [fm, h]
theorem fm_mov {s : ByteArray} (h : s.toList = [109,111,118]) : fm s = ⟨true, true, false, 0, 0, 1⟩ := by simp [fm, h]
theorem fm_not {s : ByteArray} (h : s.toList = [110,111,116]) : fm s = ⟨true, true, false, 0, 0, 1⟩ := by simp [fm, h]
theorem fm_neg {s : ByteArray} (h : s.toList = [110,101,103]) : fm s = ⟨true, true, false, 0, 0, 1⟩ := by simp [fm, h]
theorem fm_add {s : ByteArray} (h : s.toList = [97,100,100]) : fm s = ⟨true, true, true, 0, 0, 1⟩ := by simp [fm, h]
theorem fm_sub {s : ByteArray} (h : s.toList = [115,117,98]) : fm s = ⟨true, true, true, 0, 0, 1⟩ := by simp [fm, h]
theorem fm_and {s : ByteArray} (h : s.toList = [97,110,100]) : fm s = ⟨true, true, true, 0, 0, 1⟩ := by simp [fm, h]
theorem fm_or {s : ByteArray} (h : s.toList = [111,114]) : fm s = ⟨true, true, true, 0, 0, 1⟩ := by simp [fm, h]
theorem fm_xor {s : ByteArray} (h : s.toList = [120,111,114]) : fm s = ⟨true, true, true, 0, 0, 1⟩ := by simp [fm, h]
theorem fm_less {s : ByteArray} (h : s.toList = [108,101,115,115]) : fm s = ⟨true, true, true, 0, 0, 1⟩ := by simp [fm, h]
theorem fm_eq {s : ByteArray} (h : s.toList = [101,113]) : fm s = ⟨true, true, true, 0, 0, 1⟩ := by simp [fm, h]
theorem fm_shl {s : ByteArray} (h : s.toList = [115,104,108]) : fm s = ⟨true, true, true, 0, 0, 2⟩ := by simp [fm, h]
theorem fm_shr {s : ByteArray} (h : s.toList = [115,104,114]) : fm s = ⟨true, true, true, 0, 0, 2⟩ := by simp [fm, h]
theorem fm_mul {s : ByteArray} (h : s.toList = [109,117,108]) : fm s = ⟨true, true, true, 0, 0, 4⟩ := by simp [fm, h]
theorem fm_addi {s : ByteArray} (h : s.toList = [97,100,100,105]) : fm s = ⟨true, true, false, 0, 63, 1⟩ := by simp [fm, h]
theorem fm_andi {s : ByteArray} (h : s.toList = [97,110,100,105]) : fm s = ⟨true, true, false, 0, 63, 1⟩ := by simp [fm, h]
theorem fm_xori {s : ByteArray} (h : s.toList = [120,111,114,105]) : fm s = ⟨true, true, false, 0, 63, 1⟩ := by simp [fm, h]
theorem fm_shli {s : ByteArray} (h : s.toList = [115,104,108,105]) : fm s = ⟨true, true, false, 1, 5, 1⟩ := by simp [fm, h]
theorem fm_shri {s : ByteArray} (h : s.toList = [115,104,114,105]) : fm s = ⟨true, true, false, 1, 5, 1⟩ := by simp [fm, h]
theorem fm_lea {s : ByteArray} (h : s.toList = [108,101,97]) : fm s = ⟨true, true, true, 1, 3, 1⟩ := by simp [fm, h]
theorem fm_no {s : ByteArray} (h : (s.toList == [115,101,116]) = false ∧ (s.toList == [109,111,118]) = false ∧ (s.toList == [110,111,116]) = false ∧ (s.toList == [110,101,103]) = false ∧ (s.toList == [97,100,100]) = false ∧ (s.toList == [115,117,98]) = false ∧ (s.toList == [97,110,100]) = false ∧ (s.toList == [111,114]) = false ∧ (s.toList == [120,111,114]) = false ∧ (s.toList == [108,101,115,115]) = false ∧ (s.toList == [101,113]) = false ∧ (s.toList == [115,104,108]) = false ∧ (s.toList == [115,104,114]) = false ∧ (s.toList == [109,117,108]) = false ∧ (s.toList == [97,100,100,105]) = false ∧ (s.toList == [97,110,100,105]) = false ∧ (s.toList == [120,111,114,105]) = false ∧ (s.toList == [115,104,108,105]) = false ∧ (s.toList == [115,104,114,105]) = false ∧ (s.toList == [108,101,97]) = false) : fm s = ⟨false, false, false, 0, 0, 0⟩ := by
  simp only [beq_eq_false_iff_ne] at h
  simp [fm, h]
end Go.Proofs.Ytmhdijklindipaa
