import Derived.Test.YtaaloepoegehkaaMI2
/- What an instruction writes; runs. No program. -/
namespace Go.Proofs.Ytaaloepoegehkaa
open Go.RowKit
set_option linter.unusedVariables false
def vOf (s : ByteArray) (m a b : Int) : Int :=
  if s.toList = [115,101,116] then m else if s.toList = [109,111,118] then a else
  if s.toList = [97,100,100,105] then ap ⟨#[97,100,100]⟩ a m else if s.toList = [97,110,100,105] then ap ⟨#[97,110,100]⟩ a m else if s.toList = [120,111,114,105] then ap ⟨#[120,111,114]⟩ a m else if s.toList = [115,104,108,105] then ap ⟨#[115,104,108]⟩ a m else if s.toList = [115,104,114,105] then ap ⟨#[115,104,114]⟩ a m else
  if s.toList = [108,101,97] then ap ⟨#[97,100,100]⟩ a (ap ⟨#[115,104,108]⟩ b m) else ap s a b
theorem vOf_set {s : ByteArray} (h : s.toList = [115,101,116]) (m a b : Int) : vOf s m a b = m := by simp [vOf, h]
theorem vOf_mov {s : ByteArray} (h : s.toList = [109,111,118]) (m a b : Int) : vOf s m a b = a := by simp [vOf, h]
theorem vOf_addi {s : ByteArray} (h : s.toList = [97,100,100,105]) (m a b : Int) : vOf s m a b = ap ⟨#[97,100,100]⟩ a m := by simp [vOf, h]
theorem vOf_andi {s : ByteArray} (h : s.toList = [97,110,100,105]) (m a b : Int) : vOf s m a b = ap ⟨#[97,110,100]⟩ a m := by simp [vOf, h]
theorem vOf_xori {s : ByteArray} (h : s.toList = [120,111,114,105]) (m a b : Int) : vOf s m a b = ap ⟨#[120,111,114]⟩ a m := by simp [vOf, h]
theorem vOf_shli {s : ByteArray} (h : s.toList = [115,104,108,105]) (m a b : Int) : vOf s m a b = ap ⟨#[115,104,108]⟩ a m := by simp [vOf, h]
theorem vOf_shri {s : ByteArray} (h : s.toList = [115,104,114,105]) (m a b : Int) : vOf s m a b = ap ⟨#[115,104,114]⟩ a m := by simp [vOf, h]
theorem vOf_lea {s : ByteArray} (h : s.toList = [108,101,97]) (m a b : Int) : vOf s m a b = ap ⟨#[97,100,100]⟩ a (ap ⟨#[115,104,108]⟩ b m) := by simp [vOf, h]
def plainOp (s : ByteArray) : Prop := (s.toList == [115,101,116]) = false ∧ (s.toList == [109,111,118]) = false ∧ (s.toList == [97,100,100,105]) = false ∧ (s.toList == [97,110,100,105]) = false ∧ (s.toList == [120,111,114,105]) = false ∧ (s.toList == [115,104,108,105]) = false ∧ (s.toList == [115,104,114,105]) = false ∧ (s.toList == [108,101,97]) = false
theorem vOf_plain {s : ByteArray} (h : plainOp s) (m a b : Int) : vOf s m a b = ap s a b := by
  unfold plainOp at h
  simp only [beq_eq_false_iff_ne] at h
  simp [vOf, h]
theorem bytes_of {s : ByteArray} {l : List UInt8} (h : s.toList = l) : s = ⟨l.toArray⟩ := by
  subst h; rw [ByteArray.toList_eq]
/-- The ways of an op that is one. -/
theorem val_cases {s : ByteArray} (hok : (fm s).ok = true) : s.toList = [115,101,116] ∨ s.toList = [109,111,118] ∨ s.toList = [97,100,100,105] ∨ s.toList = [97,110,100,105] ∨ s.toList = [120,111,114,105] ∨ s.toList = [115,104,108,105] ∨ s.toList = [115,104,114,105] ∨ s.toList = [108,101,97] ∨ (plainOp s ∧ isOp s = true ∧ (fm s).lo = 0 ∧ (fm s).hi = 0) := by
  rcases cop_cases s with h|h|h|h|h|h|h|h|h|h|h|h|h|h|h|h|h|h|h|h|h
  · exact .inl h
  · exact .inr (.inl h)
  · exact .inr (.inr (.inr (.inr (.inr (.inr (.inr (.inr (⟨by simp [plainOp, h], by simp [isOp, isOne, isTwo, twoOps, h], by rw [fm_not h], by rw [fm_not h]⟩))))))))
  · exact .inr (.inr (.inr (.inr (.inr (.inr (.inr (.inr (⟨by simp [plainOp, h], by simp [isOp, isOne, isTwo, twoOps, h], by rw [fm_neg h], by rw [fm_neg h]⟩))))))))
  · exact .inr (.inr (.inr (.inr (.inr (.inr (.inr (.inr (⟨by simp [plainOp, h], by simp [isOp, isOne, isTwo, twoOps, h], by rw [fm_add h], by rw [fm_add h]⟩))))))))
  · exact .inr (.inr (.inr (.inr (.inr (.inr (.inr (.inr (⟨by simp [plainOp, h], by simp [isOp, isOne, isTwo, twoOps, h], by rw [fm_sub h], by rw [fm_sub h]⟩))))))))
  · exact .inr (.inr (.inr (.inr (.inr (.inr (.inr (.inr (⟨by simp [plainOp, h], by simp [isOp, isOne, isTwo, twoOps, h], by rw [fm_and h], by rw [fm_and h]⟩))))))))
  · exact .inr (.inr (.inr (.inr (.inr (.inr (.inr (.inr (⟨by simp [plainOp, h], by simp [isOp, isOne, isTwo, twoOps, h], by rw [fm_or h], by rw [fm_or h]⟩))))))))
  · exact .inr (.inr (.inr (.inr (.inr (.inr (.inr (.inr (⟨by simp [plainOp, h], by simp [isOp, isOne, isTwo, twoOps, h], by rw [fm_xor h], by rw [fm_xor h]⟩))))))))
  · exact .inr (.inr (.inr (.inr (.inr (.inr (.inr (.inr (⟨by simp [plainOp, h], by simp [isOp, isOne, isTwo, twoOps, h], by rw [fm_less h], by rw [fm_less h]⟩))))))))
  · exact .inr (.inr (.inr (.inr (.inr (.inr (.inr (.inr (⟨by simp [plainOp, h], by simp [isOp, isOne, isTwo, twoOps, h], by rw [fm_eq h], by rw [fm_eq h]⟩))))))))
  · exact .inr (.inr (.inr (.inr (.inr (.inr (.inr (.inr (⟨by simp [plainOp, h], by simp [isOp, isOne, isTwo, twoOps, h], by rw [fm_shl h], by rw [fm_shl h]⟩))))))))
  · exact .inr (.inr (.inr (.inr (.inr (.inr (.inr (.inr (⟨by simp [plainOp, h], by simp [isOp, isOne, isTwo, twoOps, h], by rw [fm_shr h], by rw [fm_shr h]⟩))))))))
  · exact .inr (.inr (.inr (.inr (.inr (.inr (.inr (.inr (⟨by simp [plainOp, h], by simp [isOp, isOne, isTwo, twoOps, h], by rw [fm_mul h], by rw [fm_mul h]⟩))))))))
  · exact .inr (.inr (.inl h))
  · exact .inr (.inr (.inr (.inl h)))
  · exact .inr (.inr (.inr (.inr (.inl h))))
  · exact .inr (.inr (.inr (.inr (.inr (.inl h)))))
  · exact .inr (.inr (.inr (.inr (.inr (.inr (.inl h))))))
  · exact .inr (.inr (.inr (.inr (.inr (.inr (.inr (.inl h)))))))
  · rw [fm_no h] at hok; cases hok
theorem getD_bd {rs : List Int} (h : rs.all (fun x => inR x 0 63) = true) (i : Nat) : 0 ≤ rs.getD i 0 ∧ rs.getD i 0 ≤ 63 := by
  rw [List.getD_eq_getElem?_getD]
  cases hi : rs[i]? with
  | none => simp
  | some x =>
    have := List.all_eq_true.1 h x (List.mem_of_getElem? hi)
    exact (inR_iff _ _ _).1 this
theorem vOf_bd {s : ByteArray} {m a b : Int} (hok : (fm s).ok = true) (hm : (fm s).lo ≤ m ∧ m ≤ (fm s).hi) (ha : 0 ≤ a ∧ a ≤ 63) (hb : 0 ≤ b ∧ b ≤ 63) : 0 ≤ vOf s m a b ∧ vOf s m a b ≤ 63 := by
  rcases val_cases hok with h|h|h|h|h|h|h|h|⟨h, _, _, _⟩
  · rw [fm_set h] at hm; rw [vOf_set h]; exact hm
  · rw [vOf_mov h]; exact ha
  · rw [fm_addi h] at hm; simp only at hm; rw [vOf_addi h]; exact ap_bd _ _ _ ha.1 ha.2 (by omega) (by omega)
  · rw [fm_andi h] at hm; simp only at hm; rw [vOf_andi h]; exact ap_bd _ _ _ ha.1 ha.2 (by omega) (by omega)
  · rw [fm_xori h] at hm; simp only at hm; rw [vOf_xori h]; exact ap_bd _ _ _ ha.1 ha.2 (by omega) (by omega)
  · rw [fm_shli h] at hm; simp only at hm; rw [vOf_shli h]; exact ap_bd _ _ _ ha.1 ha.2 (by omega) (by omega)
  · rw [fm_shri h] at hm; simp only at hm; rw [vOf_shri h]; exact ap_bd _ _ _ ha.1 ha.2 (by omega) (by omega)
  · rw [fm_lea h] at hm; simp only at hm; rw [vOf_lea h]
    have := ap_bd ⟨#[115,104,108]⟩ b m hb.1 hb.2 (by omega) (by omega)
    exact ap_bd _ _ _ ha.1 ha.2 this.1 this.2
  · rw [vOf_plain h]; exact ap_bd _ _ _ ha.1 ha.2 hb.1 hb.2
/-- The registers behind an instruction. -/
def stepL (x : In) (rs : List Int) : List Int := rs.set x.d.toNat (vOf x.op x.m (rs.getD x.a.toNat 0) (rs.getD x.b.toNat 0))
def runL (es : List In) (rs : List Int) : List Int := es.foldl (fun r x => stepL x r) rs
theorem runL_snoc {es : List In} {rs : List Int} {k : Nat} (h : k < es.length) : runL (es.take (k + 1)) rs = stepL es[k] (runL (es.take k) rs) := by
  unfold runL; rw [List.take_succ_eq_append_getElem h, List.foldl_append]; rfl
def words6 (rs : List Int) : Prop := rs.length = 6 ∧ rs.all (fun x => inR x 0 63) = true
theorem stepL_words {x : In} {rs : List Int} (hx : goodIn x = true) (h : words6 rs) : words6 (stepL x rs) := by
  obtain ⟨h1, h2⟩ := h
  obtain ⟨hd, ha, hb, hok, hm⟩ := good_parts hx
  refine ⟨by rw [stepL, List.length_set, h1], ?_⟩
  rw [List.all_eq_true] at h2 ⊢
  intro y hy
  rcases List.mem_or_eq_of_mem_set hy with h | h
  · exact h2 y h
  · subst h
    have h2' : rs.all (fun x => inR x 0 63) = true := List.all_eq_true.2 h2
    exact (inR_iff _ _ _).2 (vOf_bd hok hm (getD_bd h2' _) (getD_bd h2' _))
theorem runL_words {es : List In} {rs : List Int} (hes : ∀ x ∈ es, goodIn x = true) (h : words6 rs) : words6 (runL es rs) := by
  induction es generalizing rs with
  | nil => exact h
  | cons x l ih => exact ih (fun y hy => hes y (List.mem_cons_of_mem _ hy)) (stepL_words (hes x List.mem_cons_self) h)
theorem runL_words_take {es : List In} {rs : List Int} (hes : ∀ x ∈ es, goodIn x = true) (h : words6 rs) (k : Nat) : words6 (runL (es.take k) rs) :=
  runL_words (fun x hx => hes x (List.mem_of_mem_take hx)) h
end Go.Proofs.Ytaaloepoegehkaa
