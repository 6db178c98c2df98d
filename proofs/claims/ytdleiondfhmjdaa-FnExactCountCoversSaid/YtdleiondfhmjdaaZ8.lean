/- Texts of this proof, one behind the other: MV, CK, CI, CJ, CL, CN. -/
import Derived.Test.YtdleiondfhmjdaaZ10
import Derived.Test.YtdleiondfhmjdaaCV
import Derived.WalkKit
import Derived.WalkSpells
import Derived.WalkLawsBesides
import Derived.Lib.Hide
import Derived.Test.YtdleiondfhmjdaaZ9
import Derived.Deep.QuietTactic
import Derived.BigQuiet
import Derived.Deep.RegionHeld3
/- What an instruction writes; runs. No program. -/
namespace Go.Proofs.Ytdleiondfhmjdaa
open Go.RowKit
set_option linter.unusedVariables false
def vOf (s : ByteArray) (m a b : Int) : Int :=
  if s.toList = [115,101,116] then m else if s.toList = [109,111,118] then a else
  if s.toList = [97,100,100,105] then ap ⟨#[97,100,100]⟩ a m else if s.toList = [97,110,100,105] then ap ⟨#[97,110,100]⟩ a m else if s.toList = [120,111,114,105] then ap ⟨#[120,111,114]⟩ a m else if s.toList = [115,104,108,105] then ap ⟨#[115,104,108]⟩ a m else if s.toList = [115,104,114,105] then ap ⟨#[115,104,114]⟩ a m else
  if s.toList = [108,101,97] then ap ⟨#[97,100,100]⟩ a (ap ⟨#[115,104,108]⟩ b m) else ap s a b
theorem vOf_set {s : ByteArray} (h : s.toList = [115,101,116]) (m a b : Int) : vOf s m a b = m := by simp [vOf, h]
theorem vOf_mov {s : ByteArray} (h : s.toList = [109,111,118]) (m a b : Int) : vOf s m a b = a := by simp [vOf, h]
theorem vOf_addi {s : ByteArray} (h : s.toList = [97,100,100,105]) (m a b : Int) : vOf s m a b = ap ⟨#[97,100,100]⟩ a m := by simp [vOf, h]
theorem vOf_andi {s : ByteArray} (h : s.toList = [97,110,100,105]) (m a b : Int) : vOf s m a b = ap ⟨#[97,110,100]⟩ a m := by simp [vOf, h]
theorem vOf_xori {s : ByteArray} (h : s.toList = [120,111,114,105]) (m a b : Int) : vOf s m a b = ap ⟨#[120,111,114]⟩ a m := by simp [vOf, h]
theorem vOf_shli {s : ByteArray} (h : s.toList = [115,104,108,105]) (m a b : Int) : vOf s m a b = ap ⟨#[115,104,108]⟩ a m := by simp [vOf, h]
theorem vOf_shri {s : ByteArray} (h : s.toList = [115,104,114,105]) (m a b : Int) : vOf s m a b = ap ⟨#[115,104,114]⟩ a m := by simp [vOf, h]
theorem vOf_lea {s : ByteArray} (h : s.toList = [108,101,97]) (m a b : Int) : vOf s m a b = ap ⟨#[97,100,100]⟩ a (ap ⟨#[115,104,108]⟩ b m) := by simp [vOf, h]
def plainOp (s : ByteArray) : Prop := (s.toList == [115,101,116]) = false ∧ (s.toList == [109,111,118]) = false ∧ (s.toList == [97,100,100,105]) = false ∧ (s.toList == [97,110,100,105]) = false ∧ (s.toList == [120,111,114,105]) = false ∧ (s.toList == [115,104,108,105]) = false ∧ (s.toList == [115,104,114,105]) = false ∧ (s.toList == [108,101,97]) = false
theorem vOf_plain {s : ByteArray} (h : plainOp s) (m a b : Int) : vOf s m a b = ap s a b := by
  unfold plainOp at h
  simp only [beq_eq_false_iff_ne] at h
  simp [vOf, h]
theorem bytes_of {s : ByteArray} {l : List UInt8} (h : s.toList = l) : s = ⟨l.toArray⟩ := by
  subst h; rw [ByteArray.toList_eq]
/-- The ways of an op that is one. -/
theorem val_cases {s : ByteArray} (hok : (fm s).ok = true) : s.toList = [115,101,116] ∨ s.toList = [109,111,118] ∨ s.toList = [97,100,100,105] ∨ s.toList = [97,110,100,105] ∨ s.toList = [120,111,114,105] ∨ s.toList = [115,104,108,105] ∨ s.toList = [115,104,114,105] ∨ s.toList = [108,101,97] ∨ (plainOp s ∧ isOp s = true ∧ (fm s).lo = 0 ∧ (fm s).hi = 0) := by
  rcases cop_cases s with h|h|h|h|h|h|h|h|h|h|h|h|h|h|h|h|h|h|h|h|h
  · exact .inl h
  · exact .inr (.inl h)
  · exact .inr (.inr (.inr (.inr (.inr (.inr (.inr (.inr (⟨by simp [plainOp, h], by simp [isOp, isOne, isTwo, twoOps, h], by rw [fm_not h], by rw [fm_not h]⟩))))))))
  · exact .inr (.inr (.inr (.inr (.inr (.inr (.inr (.inr (⟨by simp [plainOp, h], by simp [isOp, isOne, isTwo, twoOps, h], by rw [fm_neg h], by rw [fm_neg h]⟩))))))))
  · exact .inr (.inr (.inr (.inr (.inr (.inr (.inr (.inr (⟨by simp [plainOp, h], by simp [isOp, isOne, isTwo, twoOps, h], by rw [fm_add h], by rw [fm_add h]⟩))))))))
  · exact .inr (.inr (.inr (.inr (.inr (.inr (.inr (.inr (⟨by simp [plainOp, h], by simp [isOp, isOne, isTwo, twoOps, h], by rw [fm_sub h], by rw [fm_sub h]⟩))))))))
  · exact .inr (.inr (.inr (.inr (.inr (.inr (.inr (.inr (⟨by simp [plainOp, h], by simp [isOp, isOne, isTwo, twoOps, h], by rw [fm_and h], by rw [fm_and h]⟩))))))))
  · exact .inr (.inr (.inr (.inr (.inr (.inr (.inr (.inr (⟨by simp [plainOp, h], by simp [isOp, isOne, isTwo, twoOps, h], by rw [fm_or h], by rw [fm_or h]⟩))))))))
  · exact .inr (.inr (.inr (.inr (.inr (.inr (.inr (.inr (⟨by simp [plainOp, h], by simp [isOp, isOne, isTwo, twoOps, h], by rw [fm_xor h], by rw [fm_xor h]⟩))))))))
  · exact .inr (.inr (.inr (.inr (.inr (.inr (.inr (.inr (⟨by simp [plainOp, h], by simp [isOp, isOne, isTwo, twoOps, h], by rw [fm_less h], by rw [fm_less h]⟩))))))))
  · exact .inr (.inr (.inr (.inr (.inr (.inr (.inr (.inr (⟨by simp [plainOp, h], by simp [isOp, isOne, isTwo, twoOps, h], by rw [fm_eq h], by rw [fm_eq h]⟩))))))))
  · exact .inr (.inr (.inr (.inr (.inr (.inr (.inr (.inr (⟨by simp [plainOp, h], by simp [isOp, isOne, isTwo, twoOps, h], by rw [fm_shl h], by rw [fm_shl h]⟩))))))))
  · exact .inr (.inr (.inr (.inr (.inr (.inr (.inr (.inr (⟨by simp [plainOp, h], by simp [isOp, isOne, isTwo, twoOps, h], by rw [fm_shr h], by rw [fm_shr h]⟩))))))))
  · exact .inr (.inr (.inr (.inr (.inr (.inr (.inr (.inr (⟨by simp [plainOp, h], by simp [isOp, isOne, isTwo, twoOps, h], by rw [fm_mul h], by rw [fm_mul h]⟩))))))))
  · exact .inr (.inr (.inl h))
  · exact .inr (.inr (.inr (.inl h)))
  · exact .inr (.inr (.inr (.inr (.inl h))))
  · exact .inr (.inr (.inr (.inr (.inr (.inl h)))))
  · exact .inr (.inr (.inr (.inr (.inr (.inr (.inl h))))))
  · exact .inr (.inr (.inr (.inr (.inr (.inr (.inr (.inl h)))))))
  · rw [fm_no h] at hok; cases hok
theorem getD_bd {rs : List Int} (h : rs.all (fun x => inR x 0 63) = true) (i : Nat) : 0 ≤ rs.getD i 0 ∧ rs.getD i 0 ≤ 63 := by
  rw [List.getD_eq_getElem?_getD]
  cases hi : rs[i]? with
  | none => simp
  | some x =>
    have := List.all_eq_true.1 h x (List.mem_of_getElem? hi)
    exact (inR_iff _ _ _).1 this
theorem vOf_bd {s : ByteArray} {m a b : Int} (hok : (fm s).ok = true) (hm : (fm s).lo ≤ m ∧ m ≤ (fm s).hi) (ha : 0 ≤ a ∧ a ≤ 63) (hb : 0 ≤ b ∧ b ≤ 63) : 0 ≤ vOf s m a b ∧ vOf s m a b ≤ 63 := by
  rcases val_cases hok with h|h|h|h|h|h|h|h|⟨h, _, _, _⟩
  · rw [fm_set h] at hm; rw [vOf_set h]; exact hm
  · rw [vOf_mov h]; exact ha
  · rw [fm_addi h] at hm; simp only at hm; rw [vOf_addi h]; exact ap_bd _ _ _ ha.1 ha.2 (by omega) (by omega)
  · rw [fm_andi h] at hm; simp only at hm; rw [vOf_andi h]; exact ap_bd _ _ _ ha.1 ha.2 (by omega) (by omega)
  · rw [fm_xori h] at hm; simp only at hm; rw [vOf_xori h]; exact ap_bd _ _ _ ha.1 ha.2 (by omega) (by omega)
  · rw [fm_shli h] at hm; simp only at hm; rw [vOf_shli h]; exact ap_bd _ _ _ ha.1 ha.2 (by omega) (by omega)
  · rw [fm_shri h] at hm; simp only at hm; rw [vOf_shri h]; exact ap_bd _ _ _ ha.1 ha.2 (by omega) (by omega)
  · rw [fm_lea h] at hm; simp only at hm; rw [vOf_lea h]
    have := ap_bd ⟨#[115,104,108]⟩ b m hb.1 hb.2 (by omega) (by omega)
    exact ap_bd _ _ _ ha.1 ha.2 this.1 this.2
  · rw [vOf_plain h]; exact ap_bd _ _ _ ha.1 ha.2 hb.1 hb.2
/-- The registers behind an instruction. -/
def stepL (x : In) (rs : List Int) : List Int := rs.set x.d.toNat (vOf x.op x.m (rs.getD x.a.toNat 0) (rs.getD x.b.toNat 0))
def runL (es : List In) (rs : List Int) : List Int := es.foldl (fun r x => stepL x r) rs
theorem runL_snoc {es : List In} {rs : List Int} {k : Nat} (h : k < es.length) : runL (es.take (k + 1)) rs = stepL es[k] (runL (es.take k) rs) := by
  unfold runL; rw [List.take_succ_eq_append_getElem h, List.foldl_append]; rfl
def words6 (rs : List Int) : Prop := rs.length = 6 ∧ rs.all (fun x => inR x 0 63) = true
theorem stepL_words {x : In} {rs : List Int} (hx : goodIn x = true) (h : words6 rs) : words6 (stepL x rs) := by
  obtain ⟨h1, h2⟩ := h
  obtain ⟨hd, ha, hb, hok, hm⟩ := good_parts hx
  refine ⟨by rw [stepL, List.length_set, h1], ?_⟩
  rw [List.all_eq_true] at h2 ⊢
  intro y hy
  rcases List.mem_or_eq_of_mem_set hy with h | h
  · exact h2 y h
  · subst h
    have h2' : rs.all (fun x => inR x 0 63) = true := List.all_eq_true.2 h2
    exact (inR_iff _ _ _).2 (vOf_bd hok hm (getD_bd h2' _) (getD_bd h2' _))
theorem runL_words {es : List In} {rs : List Int} (hes : ∀ x ∈ es, goodIn x = true) (h : words6 rs) : words6 (runL es rs) := by
  induction es generalizing rs with
  | nil => exact h
  | cons x l ih => exact ih (fun y hy => hes y (List.mem_cons_of_mem _ hy)) (stepL_words (hes x List.mem_cons_self) h)
theorem runL_words_take {es : List In} {rs : List Int} (hes : ∀ x ∈ es, goodIn x = true) (h : words6 rs) (k : Nat) : words6 (runL (es.take k) rs) :=
  runL_words (fun x hx => hes x (List.mem_of_mem_take hx)) h
end Go.Proofs.Ytdleiondfhmjdaa

namespace Go.Proofs.Ytdleiondfhmjdaa
open Go.RowKit
set_option linter.unusedVariables false
set_option maxRecDepth 100000
theorem op_shr : isOp ⟨#[115,104,114]⟩ = true := by decide +kernel
theorem op_and : isOp ⟨#[97,110,100]⟩ = true := by decide +kernel
theorem op_add : isOp ⟨#[97,100,100]⟩ = true := by decide +kernel
theorem op_shl : isOp ⟨#[115,104,108]⟩ = true := by decide +kernel
theorem op_xor : isOp ⟨#[120,111,114]⟩ = true := by decide +kernel

theorem trim_addi (w : World) : Calls Try.prog 164 #[.string ⟨#[97,100,100,105]⟩, .string ⟨#[105]⟩] w fun e w' => e = .returned (.string ⟨#[97,100,100]⟩) ∧ w = w' := by
  have hq1 : ((⟨#[97,100,100,105]⟩ : ByteArray).extract 3 4).toList = [105] := by decide +kernel
  have hq2 : (⟨#[97,100,100,105]⟩ : ByteArray).extract 0 3 = ⟨#[97,100,100]⟩ := by decide +kernel
  go_enter Try.func164, Try.ntmps164
  go_wp2
  go_ret
  exact ⟨rfl, rfl⟩

theorem trim_andi (w : World) : Calls Try.prog 164 #[.string ⟨#[97,110,100,105]⟩, .string ⟨#[105]⟩] w fun e w' => e = .returned (.string ⟨#[97,110,100]⟩) ∧ w = w' := by
  have hq1 : ((⟨#[97,110,100,105]⟩ : ByteArray).extract 3 4).toList = [105] := by decide +kernel
  have hq2 : (⟨#[97,110,100,105]⟩ : ByteArray).extract 0 3 = ⟨#[97,110,100]⟩ := by decide +kernel
  go_enter Try.func164, Try.ntmps164
  go_wp2
  go_ret
  exact ⟨rfl, rfl⟩

theorem trim_xori (w : World) : Calls Try.prog 164 #[.string ⟨#[120,111,114,105]⟩, .string ⟨#[105]⟩] w fun e w' => e = .returned (.string ⟨#[120,111,114]⟩) ∧ w = w' := by
  have hq1 : ((⟨#[120,111,114,105]⟩ : ByteArray).extract 3 4).toList = [105] := by decide +kernel
  have hq2 : (⟨#[120,111,114,105]⟩ : ByteArray).extract 0 3 = ⟨#[120,111,114]⟩ := by decide +kernel
  go_enter Try.func164, Try.ntmps164
  go_wp2
  go_ret
  exact ⟨rfl, rfl⟩

theorem trim_shli (w : World) : Calls Try.prog 164 #[.string ⟨#[115,104,108,105]⟩, .string ⟨#[105]⟩] w fun e w' => e = .returned (.string ⟨#[115,104,108]⟩) ∧ w = w' := by
  have hq1 : ((⟨#[115,104,108,105]⟩ : ByteArray).extract 3 4).toList = [105] := by decide +kernel
  have hq2 : (⟨#[115,104,108,105]⟩ : ByteArray).extract 0 3 = ⟨#[115,104,108]⟩ := by decide +kernel
  go_enter Try.func164, Try.ntmps164
  go_wp2
  go_ret
  exact ⟨rfl, rfl⟩

theorem trim_shri (w : World) : Calls Try.prog 164 #[.string ⟨#[115,104,114,105]⟩, .string ⟨#[105]⟩] w fun e w' => e = .returned (.string ⟨#[115,104,114]⟩) ∧ w = w' := by
  have hq1 : ((⟨#[115,104,114,105]⟩ : ByteArray).extract 3 4).toList = [105] := by decide +kernel
  have hq2 : (⟨#[115,104,114,105]⟩ : ByteArray).extract 0 3 = ⟨#[115,104,114]⟩ := by decide +kernel
  go_enter Try.func164, Try.ntmps164
  go_wp2
  go_ret
  exact ⟨rfl, rfl⟩
theorem same_flip {P : Program} {f : FuncId} {args : Array Value} {w : World} {v : Value} (h : Calls P f args w fun e w' => e = .returned v ∧ w = w') : Calls P f args w fun e w' => e = .returned v ∧ w' = w :=
  h.mono fun _ _ ⟨a, b⟩ => ⟨a, b.symm⟩
end Go.Proofs.Ytdleiondfhmjdaa


namespace Go.Proofs.Ytdleiondfhmjdaa
open Go.RowKit
set_option linter.unusedVariables false
set_option maxRecDepth 100000

set_option maxHeartbeats 2000000 in
theorem cdValue_set (op : ByteArray) (d m : Int) (na nb : Nat) (b o c : Nat) (u v : Int) (w : World) (ha : na < 6) (hb : nb < 6) (hbb : b < w.heap.size) (ca : w.cell? ⟨b, o + na, none⟩ = some (.int .i64 u)) (cb : w.cell? ⟨b, o + nb, none⟩ = some (.int .i64 v)) (hu0 : 0 ≤ u) (hu1 : u ≤ 63) (hv0 : 0 ≤ v) (hv1 : v ≤ 63) (h : op.toList = [115,101,116]) (hm0 : 0 ≤ m) (hm1 : m ≤ 63) :
    Calls Try.prog 100 #[.agg #[.string op, .int .i64 d, .int .i64 na, .int .i64 nb, .int .i64 m], .slice (some ⟨b, o, none⟩) 6 c] w fun e w' => e = .returned (.int .i64 (vOf op m u v)) ∧ Below w.heap.size w w' := by
  have hR := Lib.hid (vOf_set h m u v)
  have hB1 := fun o => Lib.hid ((Below.refl w.heap.size w).alloc (Nat.le_refl _) o)
  have i0 : (0 : Int) ≤ (na : Int) := by omega
  have i1 : (na : Int) < 6 := by omega
  have j0 : (0 : Int) ≤ (nb : Int) := by omega
  have j1 : (nb : Int) < 6 := by omega
  go_enter Try.func100, Try.ntmps100
  go_wp2_with (fail)
  go_quiet (fail)
  go_wp2_with (fail)
  go_ret
  exact ⟨ret_int (by rw [hR.out]), below_drewN (hB1 _).out _⟩

set_option maxHeartbeats 2000000 in
theorem cdValue_mov (op : ByteArray) (d m : Int) (na nb : Nat) (b o c : Nat) (u v : Int) (w : World) (ha : na < 6) (hb : nb < 6) (hbb : b < w.heap.size) (ca : w.cell? ⟨b, o + na, none⟩ = some (.int .i64 u)) (cb : w.cell? ⟨b, o + nb, none⟩ = some (.int .i64 v)) (hu0 : 0 ≤ u) (hu1 : u ≤ 63) (hv0 : 0 ≤ v) (hv1 : v ≤ 63) (h : op.toList = [109,111,118]) (hm0 : 0 ≤ m) (hm1 : m ≤ 0) :
    Calls Try.prog 100 #[.agg #[.string op, .int .i64 d, .int .i64 na, .int .i64 nb, .int .i64 m], .slice (some ⟨b, o, none⟩) 6 c] w fun e w' => e = .returned (.int .i64 (vOf op m u v)) ∧ Below w.heap.size w w' := by
  have hR := Lib.hid (vOf_mov h m u v)
  have hB1 := fun o => Lib.hid ((Below.refl w.heap.size w).alloc (Nat.le_refl _) o)
  have i0 : (0 : Int) ≤ (na : Int) := by omega
  have i1 : (na : Int) < 6 := by omega
  have j0 : (0 : Int) ≤ (nb : Int) := by omega
  have j1 : (nb : Int) < 6 := by omega
  go_enter Try.func100, Try.ntmps100
  go_wp2_with (fail)
  go_quiet (fail)
  go_wp2_with (fail)
  go_ret
  exact ⟨ret_int (by rw [hR.out]), below_drewN (hB1 _).out _⟩

set_option maxHeartbeats 2000000 in
theorem cdValue_addi (op : ByteArray) (d m : Int) (na nb : Nat) (b o c : Nat) (u v : Int) (w : World) (ha : na < 6) (hb : nb < 6) (hbb : b < w.heap.size) (ca : w.cell? ⟨b, o + na, none⟩ = some (.int .i64 u)) (cb : w.cell? ⟨b, o + nb, none⟩ = some (.int .i64 v)) (hu0 : 0 ≤ u) (hu1 : u ≤ 63) (hv0 : 0 ≤ v) (hv1 : v ≤ 63) (h : op.toList = [97,100,100,105]) (hm0 : 0 ≤ m) (hm1 : m ≤ 63) :
    Calls Try.prog 100 #[.agg #[.string op, .int .i64 d, .int .i64 na, .int .i64 nb, .int .i64 m], .slice (some ⟨b, o, none⟩) 6 c] w fun e w' => e = .returned (.int .i64 (vOf op m u v)) ∧ Below w.heap.size w w' := by
  have hR := Lib.hid (vOf_addi h m u v)
  have hB1 := fun o => Lib.hid ((Below.refl w.heap.size w).alloc (Nat.le_refl _) o)
  have i0 : (0 : Int) ≤ (na : Int) := by omega
  have i1 : (na : Int) < 6 := by omega
  have j0 : (0 : Int) ≤ (nb : Int) := by omega
  have j1 : (nb : Int) < 6 := by omega
  go_enter Try.func100, Try.ntmps100
  go_wp2_with (fail)
  go_quiet (fail)
  go_wp2_with (go_at_call 141; refine (exApply_any _ _ _ _ (by omega) (by omega) (by omega) (by omega) op_add).mono ?_; rintro e w' ⟨rfl, rfl⟩)
  go_ret
  exact ⟨ret_int (by rw [hR.out]), below_drewN (hB1 _).out _⟩

set_option maxHeartbeats 2000000 in
theorem cdValue_andi (op : ByteArray) (d m : Int) (na nb : Nat) (b o c : Nat) (u v : Int) (w : World) (ha : na < 6) (hb : nb < 6) (hbb : b < w.heap.size) (ca : w.cell? ⟨b, o + na, none⟩ = some (.int .i64 u)) (cb : w.cell? ⟨b, o + nb, none⟩ = some (.int .i64 v)) (hu0 : 0 ≤ u) (hu1 : u ≤ 63) (hv0 : 0 ≤ v) (hv1 : v ≤ 63) (h : op.toList = [97,110,100,105]) (hm0 : 0 ≤ m) (hm1 : m ≤ 63) :
    Calls Try.prog 100 #[.agg #[.string op, .int .i64 d, .int .i64 na, .int .i64 nb, .int .i64 m], .slice (some ⟨b, o, none⟩) 6 c] w fun e w' => e = .returned (.int .i64 (vOf op m u v)) ∧ Below w.heap.size w w' := by
  have hR := Lib.hid (vOf_andi h m u v)
  have hB1 := fun o => Lib.hid ((Below.refl w.heap.size w).alloc (Nat.le_refl _) o)
  have i0 : (0 : Int) ≤ (na : Int) := by omega
  have i1 : (na : Int) < 6 := by omega
  have j0 : (0 : Int) ≤ (nb : Int) := by omega
  have j1 : (nb : Int) < 6 := by omega
  go_enter Try.func100, Try.ntmps100
  go_wp2_with (fail)
  go_quiet (fail)
  go_wp2_with (go_at_call 141; refine (exApply_any _ _ _ _ (by omega) (by omega) (by omega) (by omega) op_and).mono ?_; rintro e w' ⟨rfl, rfl⟩)
  go_ret
  exact ⟨ret_int (by rw [hR.out]), below_drewN (hB1 _).out _⟩

set_option maxHeartbeats 2000000 in
theorem cdValue_xori (op : ByteArray) (d m : Int) (na nb : Nat) (b o c : Nat) (u v : Int) (w : World) (ha : na < 6) (hb : nb < 6) (hbb : b < w.heap.size) (ca : w.cell? ⟨b, o + na, none⟩ = some (.int .i64 u)) (cb : w.cell? ⟨b, o + nb, none⟩ = some (.int .i64 v)) (hu0 : 0 ≤ u) (hu1 : u ≤ 63) (hv0 : 0 ≤ v) (hv1 : v ≤ 63) (h : op.toList = [120,111,114,105]) (hm0 : 0 ≤ m) (hm1 : m ≤ 63) :
    Calls Try.prog 100 #[.agg #[.string op, .int .i64 d, .int .i64 na, .int .i64 nb, .int .i64 m], .slice (some ⟨b, o, none⟩) 6 c] w fun e w' => e = .returned (.int .i64 (vOf op m u v)) ∧ Below w.heap.size w w' := by
  have hR := Lib.hid (vOf_xori h m u v)
  have hB1 := fun o => Lib.hid ((Below.refl w.heap.size w).alloc (Nat.le_refl _) o)
  have i0 : (0 : Int) ≤ (na : Int) := by omega
  have i1 : (na : Int) < 6 := by omega
  have j0 : (0 : Int) ≤ (nb : Int) := by omega
  have j1 : (nb : Int) < 6 := by omega
  go_enter Try.func100, Try.ntmps100
  go_wp2_with (fail)
  go_quiet (fail)
  go_wp2_with (go_at_call 141; refine (exApply_any _ _ _ _ (by omega) (by omega) (by omega) (by omega) op_xor).mono ?_; rintro e w' ⟨rfl, rfl⟩)
  go_ret
  exact ⟨ret_int (by rw [hR.out]), below_drewN (hB1 _).out _⟩

set_option maxHeartbeats 2000000 in
theorem cdValue_shli (op : ByteArray) (d m : Int) (na nb : Nat) (b o c : Nat) (u v : Int) (w : World) (ha : na < 6) (hb : nb < 6) (hbb : b < w.heap.size) (ca : w.cell? ⟨b, o + na, none⟩ = some (.int .i64 u)) (cb : w.cell? ⟨b, o + nb, none⟩ = some (.int .i64 v)) (hu0 : 0 ≤ u) (hu1 : u ≤ 63) (hv0 : 0 ≤ v) (hv1 : v ≤ 63) (h : op.toList = [115,104,108,105]) (hm0 : 1 ≤ m) (hm1 : m ≤ 5) :
    Calls Try.prog 100 #[.agg #[.string op, .int .i64 d, .int .i64 na, .int .i64 nb, .int .i64 m], .slice (some ⟨b, o, none⟩) 6 c] w fun e w' => e = .returned (.int .i64 (vOf op m u v)) ∧ Below w.heap.size w w' := by
  have hR := Lib.hid (vOf_shli h m u v)
  have hB1 := fun o => Lib.hid ((Below.refl w.heap.size w).alloc (Nat.le_refl _) o)
  have i0 : (0 : Int) ≤ (na : Int) := by omega
  have i1 : (na : Int) < 6 := by omega
  have j0 : (0 : Int) ≤ (nb : Int) := by omega
  have j1 : (nb : Int) < 6 := by omega
  go_enter Try.func100, Try.ntmps100
  go_wp2_with (fail)
  go_quiet (fail)
  go_wp2_with (go_at_call 141; refine (exApply_any _ _ _ _ (by omega) (by omega) (by omega) (by omega) op_shl).mono ?_; rintro e w' ⟨rfl, rfl⟩)
  go_ret
  exact ⟨ret_int (by rw [hR.out]), below_drewN (hB1 _).out _⟩

set_option maxHeartbeats 2000000 in
theorem cdValue_shri (op : ByteArray) (d m : Int) (na nb : Nat) (b o c : Nat) (u v : Int) (w : World) (ha : na < 6) (hb : nb < 6) (hbb : b < w.heap.size) (ca : w.cell? ⟨b, o + na, none⟩ = some (.int .i64 u)) (cb : w.cell? ⟨b, o + nb, none⟩ = some (.int .i64 v)) (hu0 : 0 ≤ u) (hu1 : u ≤ 63) (hv0 : 0 ≤ v) (hv1 : v ≤ 63) (h : op.toList = [115,104,114,105]) (hm0 : 1 ≤ m) (hm1 : m ≤ 5) :
    Calls Try.prog 100 #[.agg #[.string op, .int .i64 d, .int .i64 na, .int .i64 nb, .int .i64 m], .slice (some ⟨b, o, none⟩) 6 c] w fun e w' => e = .returned (.int .i64 (vOf op m u v)) ∧ Below w.heap.size w w' := by
  have hR := Lib.hid (vOf_shri h m u v)
  have hB1 := fun o => Lib.hid ((Below.refl w.heap.size w).alloc (Nat.le_refl _) o)
  have i0 : (0 : Int) ≤ (na : Int) := by omega
  have i1 : (na : Int) < 6 := by omega
  have j0 : (0 : Int) ≤ (nb : Int) := by omega
  have j1 : (nb : Int) < 6 := by omega
  go_enter Try.func100, Try.ntmps100
  go_wp2_with (fail)
  go_quiet (fail)
  go_wp2_with (go_at_call 141; refine (exApply_any _ _ _ _ (by omega) (by omega) (by omega) (by omega) op_shr).mono ?_; rintro e w' ⟨rfl, rfl⟩)
  go_ret
  exact ⟨ret_int (by rw [hR.out]), below_drewN (hB1 _).out _⟩

set_option maxHeartbeats 2000000 in
theorem cdValue_lea (op : ByteArray) (d m : Int) (na nb : Nat) (b o c : Nat) (u v : Int) (w : World) (ha : na < 6) (hb : nb < 6) (hbb : b < w.heap.size) (ca : w.cell? ⟨b, o + na, none⟩ = some (.int .i64 u)) (cb : w.cell? ⟨b, o + nb, none⟩ = some (.int .i64 v)) (hu0 : 0 ≤ u) (hu1 : u ≤ 63) (hv0 : 0 ≤ v) (hv1 : v ≤ 63) (h : op.toList = [108,101,97]) (hm0 : 1 ≤ m) (hm1 : m ≤ 3) :
    Calls Try.prog 100 #[.agg #[.string op, .int .i64 d, .int .i64 na, .int .i64 nb, .int .i64 m], .slice (some ⟨b, o, none⟩) 6 c] w fun e w' => e = .returned (.int .i64 (vOf op m u v)) ∧ Below w.heap.size w w' := by
  have hR := Lib.hid (vOf_lea h m u v)
  have hB1 := fun o => Lib.hid ((Below.refl w.heap.size w).alloc (Nat.le_refl _) o)
  have i0 : (0 : Int) ≤ (na : Int) := by omega
  have i1 : (na : Int) < 6 := by omega
  have j0 : (0 : Int) ≤ (nb : Int) := by omega
  have j1 : (nb : Int) < 6 := by omega
  go_enter Try.func100, Try.ntmps100
  go_wp2_with (fail)
  go_quiet (fail)
  obtain ⟨hq0, hq1⟩ := ap_bd ⟨#[115,104,108]⟩ v m hv0 hv1 (by omega) (by omega)
  have hb1 := Lib.hid (below_drewN (hB1 (.cells #[.string op, .int .i64 d, .int .i64 na, .int .i64 nb, .int .i64 m] 70)).out nq)
  go_wp2_with (fail)
  refine (exApply_any _ _ _ _ (by omega) (by omega) (by omega) (by omega) op_shl).mono ?_
  rintro e w' ⟨rfl, rfl⟩
  go_wp2_with (fail)
  refine (exApply_any _ _ _ _ (by omega) (by omega) hq0 hq1 op_add).mono ?_
  rintro e w' ⟨rfl, rfl⟩
  go_wp2
  go_ret
  exact ⟨ret_int (by rw [hR.out]), hb1.out⟩

set_option maxHeartbeats 2000000 in
theorem cdValue_plain (op : ByteArray) (d m : Int) (na nb : Nat) (b o c : Nat) (u v : Int) (w : World) (ha : na < 6) (hb : nb < 6) (hbb : b < w.heap.size) (ca : w.cell? ⟨b, o + na, none⟩ = some (.int .i64 u)) (cb : w.cell? ⟨b, o + nb, none⟩ = some (.int .i64 v)) (hu0 : 0 ≤ u) (hu1 : u ≤ 63) (hv0 : 0 ≤ v) (hv1 : v ≤ 63) (h : plainOp op) (hop : isOp op = true) :
    Calls Try.prog 100 #[.agg #[.string op, .int .i64 d, .int .i64 na, .int .i64 nb, .int .i64 m], .slice (some ⟨b, o, none⟩) 6 c] w fun e w' => e = .returned (.int .i64 (vOf op m u v)) ∧ Below w.heap.size w w' := by
  have hR := Lib.hid (vOf_plain h m u v)
  have hB1 := fun o => Lib.hid ((Below.refl w.heap.size w).alloc (Nat.le_refl _) o)
  have i0 : (0 : Int) ≤ (na : Int) := by omega
  have i1 : (na : Int) < 6 := by omega
  have j0 : (0 : Int) ≤ (nb : Int) := by omega
  have j1 : (nb : Int) < 6 := by omega
  obtain ⟨q0, q1, q2, q3, q4, q5, q6, q7⟩ := h
  go_enter Try.func100, Try.ntmps100
  go_wp2_with (fail)
  go_quiet (fail)
  go_wp2_with (go_at_call 141; refine (exApply_any _ _ _ _ (by omega) (by omega) (by omega) (by omega) hop).mono ?_; rintro e w' ⟨rfl, rfl⟩)
  go_ret
  exact ⟨ret_int (by rw [hR.out]), below_drewN (hB1 _).out _⟩
end Go.Proofs.Ytdleiondfhmjdaa

namespace Go.Proofs.Ytdleiondfhmjdaa
open Go.RowKit
set_option linter.unusedVariables false
set_option maxRecDepth 100000

set_option maxHeartbeats 2000000 in
theorem valueOf_set (op : ByteArray) (d m : Int) (na nb : Nat) (b : Nat) (u v : Int) (w : World) (ha : na < 6) (hb : nb < 6) (hbb : b < w.heap.size) (ca : w.cell? ⟨b, na, none⟩ = some (.int .i64 u)) (cb : w.cell? ⟨b, nb, none⟩ = some (.int .i64 v)) (hu0 : 0 ≤ u) (hu1 : u ≤ 63) (hv0 : 0 ≤ v) (hv1 : v ≤ 63) (h : op.toList = [115,101,116]) (hm0 : 0 ≤ m) (hm1 : m ≤ 63) :
    Calls Try.prog 146 #[.pointer (some ⟨b, 0, none⟩), .agg #[.string op, .int .i64 d, .int .i64 na, .int .i64 nb, .int .i64 m]] w fun e w' => e = .returned (.int .i64 (vOf op m u v)) ∧ Below w.heap.size w w' := by
  have hR := Lib.hid (vOf_set h m u v)
  have hB1 := fun o => Lib.hid ((Below.refl w.heap.size w).alloc (Nat.le_refl _) o)
  have i0 : (0 : Int) ≤ (na : Int) := by omega
  have i1 : (na : Int) < 6 := by omega
  have j0 : (0 : Int) ≤ (nb : Int) := by omega
  have j1 : (nb : Int) < 6 := by omega
  go_enter Try.func146, Try.ntmps146
  go_wp2_with (fail)
  go_quiet (fail)
  go_wp2_with (fail)
  go_ret
  exact ⟨ret_int (by rw [hR.out]), below_drewN (hB1 _).out _⟩

set_option maxHeartbeats 2000000 in
theorem valueOf_mov (op : ByteArray) (d m : Int) (na nb : Nat) (b : Nat) (u v : Int) (w : World) (ha : na < 6) (hb : nb < 6) (hbb : b < w.heap.size) (ca : w.cell? ⟨b, na, none⟩ = some (.int .i64 u)) (cb : w.cell? ⟨b, nb, none⟩ = some (.int .i64 v)) (hu0 : 0 ≤ u) (hu1 : u ≤ 63) (hv0 : 0 ≤ v) (hv1 : v ≤ 63) (h : op.toList = [109,111,118]) (hm0 : 0 ≤ m) (hm1 : m ≤ 0) :
    Calls Try.prog 146 #[.pointer (some ⟨b, 0, none⟩), .agg #[.string op, .int .i64 d, .int .i64 na, .int .i64 nb, .int .i64 m]] w fun e w' => e = .returned (.int .i64 (vOf op m u v)) ∧ Below w.heap.size w w' := by
  have hR := Lib.hid (vOf_mov h m u v)
  have hB1 := fun o => Lib.hid ((Below.refl w.heap.size w).alloc (Nat.le_refl _) o)
  have i0 : (0 : Int) ≤ (na : Int) := by omega
  have i1 : (na : Int) < 6 := by omega
  have j0 : (0 : Int) ≤ (nb : Int) := by omega
  have j1 : (nb : Int) < 6 := by omega
  go_enter Try.func146, Try.ntmps146
  go_wp2_with (fail)
  go_quiet (fail)
  go_wp2_with (fail)
  go_ret
  exact ⟨ret_int (by rw [hR.out]), below_drewN (hB1 _).out _⟩

set_option maxHeartbeats 2000000 in
theorem valueOf_addi (op : ByteArray) (d m : Int) (na nb : Nat) (b : Nat) (u v : Int) (w : World) (ha : na < 6) (hb : nb < 6) (hbb : b < w.heap.size) (ca : w.cell? ⟨b, na, none⟩ = some (.int .i64 u)) (cb : w.cell? ⟨b, nb, none⟩ = some (.int .i64 v)) (hu0 : 0 ≤ u) (hu1 : u ≤ 63) (hv0 : 0 ≤ v) (hv1 : v ≤ 63) (h : op.toList = [97,100,100,105]) (hm0 : 0 ≤ m) (hm1 : m ≤ 63) :
    Calls Try.prog 146 #[.pointer (some ⟨b, 0, none⟩), .agg #[.string op, .int .i64 d, .int .i64 na, .int .i64 nb, .int .i64 m]] w fun e w' => e = .returned (.int .i64 (vOf op m u v)) ∧ Below w.heap.size w w' := by
  have hR := Lib.hid (vOf_addi h m u v)
  have hB1 := fun o => Lib.hid ((Below.refl w.heap.size w).alloc (Nat.le_refl _) o)
  have i0 : (0 : Int) ≤ (na : Int) := by omega
  have i1 : (na : Int) < 6 := by omega
  have j0 : (0 : Int) ≤ (nb : Int) := by omega
  have j1 : (nb : Int) < 6 := by omega
  obtain rfl := bytes_of h
  go_enter Try.func146, Try.ntmps146
  go_wp2_with (fail)
  go_quiet (fail)
  go_wp2_with (fail)
  obtain ⟨wq, hwq⟩ : ∃ wq : World, wq = (w.alloc (.cells #[.string ⟨#[97,100,100,105]⟩, .int .i64 d, .int .i64 na, .int .i64 nb, .int .i64 m] 70)).drewN nq := ⟨_, rfl⟩
  rw [← hwq]
  have hb1 : Hid (Below w.heap.size w wq) := by rw [hwq]; exact below_drewN (hB1 _).out _
  obtain ⟨xa, _, _, _, xe⟩ := In.old (x := ⟨⟨#[97,100,100,105]⟩, d, na, nb, m⟩) (w2 := wq) (t := 70) rfl (by rw [hwq]; exact below_drewN (Below.refl _ _) _)
  clear hwq
  go_quiet ((first | (go_at_call 164; exact Calls.quiet_of_same (same_flip (trim_addi _))) | (go_at_call 163; exact Calls.quiet_of_same (same_flip (valueOfOp_any _ _ _ _ (by omega) (by omega) (by omega) (by omega) op_add)))))
  go_wp2
  go_ret
  exact ⟨ret_int (by rw [hR.out]), below_drewN hb1.out _⟩

set_option maxHeartbeats 2000000 in
theorem valueOf_andi (op : ByteArray) (d m : Int) (na nb : Nat) (b : Nat) (u v : Int) (w : World) (ha : na < 6) (hb : nb < 6) (hbb : b < w.heap.size) (ca : w.cell? ⟨b, na, none⟩ = some (.int .i64 u)) (cb : w.cell? ⟨b, nb, none⟩ = some (.int .i64 v)) (hu0 : 0 ≤ u) (hu1 : u ≤ 63) (hv0 : 0 ≤ v) (hv1 : v ≤ 63) (h : op.toList = [97,110,100,105]) (hm0 : 0 ≤ m) (hm1 : m ≤ 63) :
    Calls Try.prog 146 #[.pointer (some ⟨b, 0, none⟩), .agg #[.string op, .int .i64 d, .int .i64 na, .int .i64 nb, .int .i64 m]] w fun e w' => e = .returned (.int .i64 (vOf op m u v)) ∧ Below w.heap.size w w' := by
  have hR := Lib.hid (vOf_andi h m u v)
  have hB1 := fun o => Lib.hid ((Below.refl w.heap.size w).alloc (Nat.le_refl _) o)
  have i0 : (0 : Int) ≤ (na : Int) := by omega
  have i1 : (na : Int) < 6 := by omega
  have j0 : (0 : Int) ≤ (nb : Int) := by omega
  have j1 : (nb : Int) < 6 := by omega
  obtain rfl := bytes_of h
  go_enter Try.func146, Try.ntmps146
  go_wp2_with (fail)
  go_quiet (fail)
  go_wp2_with (fail)
  obtain ⟨wq, hwq⟩ : ∃ wq : World, wq = (w.alloc (.cells #[.string ⟨#[97,110,100,105]⟩, .int .i64 d, .int .i64 na, .int .i64 nb, .int .i64 m] 70)).drewN nq := ⟨_, rfl⟩
  rw [← hwq]
  have hb1 : Hid (Below w.heap.size w wq) := by rw [hwq]; exact below_drewN (hB1 _).out _
  obtain ⟨xa, _, _, _, xe⟩ := In.old (x := ⟨⟨#[97,110,100,105]⟩, d, na, nb, m⟩) (w2 := wq) (t := 70) rfl (by rw [hwq]; exact below_drewN (Below.refl _ _) _)
  clear hwq
  go_quiet ((first | (go_at_call 164; exact Calls.quiet_of_same (same_flip (trim_andi _))) | (go_at_call 163; exact Calls.quiet_of_same (same_flip (valueOfOp_any _ _ _ _ (by omega) (by omega) (by omega) (by omega) op_and)))))
  go_wp2
  go_ret
  exact ⟨ret_int (by rw [hR.out]), below_drewN hb1.out _⟩

set_option maxHeartbeats 2000000 in
theorem valueOf_xori (op : ByteArray) (d m : Int) (na nb : Nat) (b : Nat) (u v : Int) (w : World) (ha : na < 6) (hb : nb < 6) (hbb : b < w.heap.size) (ca : w.cell? ⟨b, na, none⟩ = some (.int .i64 u)) (cb : w.cell? ⟨b, nb, none⟩ = some (.int .i64 v)) (hu0 : 0 ≤ u) (hu1 : u ≤ 63) (hv0 : 0 ≤ v) (hv1 : v ≤ 63) (h : op.toList = [120,111,114,105]) (hm0 : 0 ≤ m) (hm1 : m ≤ 63) :
    Calls Try.prog 146 #[.pointer (some ⟨b, 0, none⟩), .agg #[.string op, .int .i64 d, .int .i64 na, .int .i64 nb, .int .i64 m]] w fun e w' => e = .returned (.int .i64 (vOf op m u v)) ∧ Below w.heap.size w w' := by
  have hR := Lib.hid (vOf_xori h m u v)
  have hB1 := fun o => Lib.hid ((Below.refl w.heap.size w).alloc (Nat.le_refl _) o)
  have i0 : (0 : Int) ≤ (na : Int) := by omega
  have i1 : (na : Int) < 6 := by omega
  have j0 : (0 : Int) ≤ (nb : Int) := by omega
  have j1 : (nb : Int) < 6 := by omega
  obtain rfl := bytes_of h
  go_enter Try.func146, Try.ntmps146
  go_wp2_with (fail)
  go_quiet (fail)
  go_wp2_with (fail)
  obtain ⟨wq, hwq⟩ : ∃ wq : World, wq = (w.alloc (.cells #[.string ⟨#[120,111,114,105]⟩, .int .i64 d, .int .i64 na, .int .i64 nb, .int .i64 m] 70)).drewN nq := ⟨_, rfl⟩
  rw [← hwq]
  have hb1 : Hid (Below w.heap.size w wq) := by rw [hwq]; exact below_drewN (hB1 _).out _
  obtain ⟨xa, _, _, _, xe⟩ := In.old (x := ⟨⟨#[120,111,114,105]⟩, d, na, nb, m⟩) (w2 := wq) (t := 70) rfl (by rw [hwq]; exact below_drewN (Below.refl _ _) _)
  clear hwq
  go_quiet ((first | (go_at_call 164; exact Calls.quiet_of_same (same_flip (trim_xori _))) | (go_at_call 163; exact Calls.quiet_of_same (same_flip (valueOfOp_any _ _ _ _ (by omega) (by omega) (by omega) (by omega) op_xor)))))
  go_wp2
  go_ret
  exact ⟨ret_int (by rw [hR.out]), below_drewN hb1.out _⟩

set_option maxHeartbeats 2000000 in
theorem valueOf_shli (op : ByteArray) (d m : Int) (na nb : Nat) (b : Nat) (u v : Int) (w : World) (ha : na < 6) (hb : nb < 6) (hbb : b < w.heap.size) (ca : w.cell? ⟨b, na, none⟩ = some (.int .i64 u)) (cb : w.cell? ⟨b, nb, none⟩ = some (.int .i64 v)) (hu0 : 0 ≤ u) (hu1 : u ≤ 63) (hv0 : 0 ≤ v) (hv1 : v ≤ 63) (h : op.toList = [115,104,108,105]) (hm0 : 1 ≤ m) (hm1 : m ≤ 5) :
    Calls Try.prog 146 #[.pointer (some ⟨b, 0, none⟩), .agg #[.string op, .int .i64 d, .int .i64 na, .int .i64 nb, .int .i64 m]] w fun e w' => e = .returned (.int .i64 (vOf op m u v)) ∧ Below w.heap.size w w' := by
  have hR := Lib.hid (vOf_shli h m u v)
  have hB1 := fun o => Lib.hid ((Below.refl w.heap.size w).alloc (Nat.le_refl _) o)
  have i0 : (0 : Int) ≤ (na : Int) := by omega
  have i1 : (na : Int) < 6 := by omega
  have j0 : (0 : Int) ≤ (nb : Int) := by omega
  have j1 : (nb : Int) < 6 := by omega
  obtain rfl := bytes_of h
  go_enter Try.func146, Try.ntmps146
  go_wp2_with (fail)
  go_quiet (fail)
  go_wp2_with (fail)
  obtain ⟨wq, hwq⟩ : ∃ wq : World, wq = (w.alloc (.cells #[.string ⟨#[115,104,108,105]⟩, .int .i64 d, .int .i64 na, .int .i64 nb, .int .i64 m] 70)).drewN nq := ⟨_, rfl⟩
  rw [← hwq]
  have hb1 : Hid (Below w.heap.size w wq) := by rw [hwq]; exact below_drewN (hB1 _).out _
  obtain ⟨xa, _, _, _, xe⟩ := In.old (x := ⟨⟨#[115,104,108,105]⟩, d, na, nb, m⟩) (w2 := wq) (t := 70) rfl (by rw [hwq]; exact below_drewN (Below.refl _ _) _)
  clear hwq
  go_quiet ((first | (go_at_call 164; exact Calls.quiet_of_same (same_flip (trim_shli _))) | (go_at_call 163; exact Calls.quiet_of_same (same_flip (valueOfOp_any _ _ _ _ (by omega) (by omega) (by omega) (by omega) op_shl)))))
  go_wp2
  go_ret
  exact ⟨ret_int (by rw [hR.out]), below_drewN hb1.out _⟩

set_option maxHeartbeats 2000000 in
theorem valueOf_shri (op : ByteArray) (d m : Int) (na nb : Nat) (b : Nat) (u v : Int) (w : World) (ha : na < 6) (hb : nb < 6) (hbb : b < w.heap.size) (ca : w.cell? ⟨b, na, none⟩ = some (.int .i64 u)) (cb : w.cell? ⟨b, nb, none⟩ = some (.int .i64 v)) (hu0 : 0 ≤ u) (hu1 : u ≤ 63) (hv0 : 0 ≤ v) (hv1 : v ≤ 63) (h : op.toList = [115,104,114,105]) (hm0 : 1 ≤ m) (hm1 : m ≤ 5) :
    Calls Try.prog 146 #[.pointer (some ⟨b, 0, none⟩), .agg #[.string op, .int .i64 d, .int .i64 na, .int .i64 nb, .int .i64 m]] w fun e w' => e = .returned (.int .i64 (vOf op m u v)) ∧ Below w.heap.size w w' := by
  have hR := Lib.hid (vOf_shri h m u v)
  have hB1 := fun o => Lib.hid ((Below.refl w.heap.size w).alloc (Nat.le_refl _) o)
  have i0 : (0 : Int) ≤ (na : Int) := by omega
  have i1 : (na : Int) < 6 := by omega
  have j0 : (0 : Int) ≤ (nb : Int) := by omega
  have j1 : (nb : Int) < 6 := by omega
  obtain rfl := bytes_of h
  go_enter Try.func146, Try.ntmps146
  go_wp2_with (fail)
  go_quiet (fail)
  go_wp2_with (fail)
  obtain ⟨wq, hwq⟩ : ∃ wq : World, wq = (w.alloc (.cells #[.string ⟨#[115,104,114,105]⟩, .int .i64 d, .int .i64 na, .int .i64 nb, .int .i64 m] 70)).drewN nq := ⟨_, rfl⟩
  rw [← hwq]
  have hb1 : Hid (Below w.heap.size w wq) := by rw [hwq]; exact below_drewN (hB1 _).out _
  obtain ⟨xa, _, _, _, xe⟩ := In.old (x := ⟨⟨#[115,104,114,105]⟩, d, na, nb, m⟩) (w2 := wq) (t := 70) rfl (by rw [hwq]; exact below_drewN (Below.refl _ _) _)
  clear hwq
  go_quiet ((first | (go_at_call 164; exact Calls.quiet_of_same (same_flip (trim_shri _))) | (go_at_call 163; exact Calls.quiet_of_same (same_flip (valueOfOp_any _ _ _ _ (by omega) (by omega) (by omega) (by omega) op_shr)))))
  go_wp2
  go_ret
  exact ⟨ret_int (by rw [hR.out]), below_drewN hb1.out _⟩

set_option maxHeartbeats 2000000 in
theorem valueOf_lea (op : ByteArray) (d m : Int) (na nb : Nat) (b : Nat) (u v : Int) (w : World) (ha : na < 6) (hb : nb < 6) (hbb : b < w.heap.size) (ca : w.cell? ⟨b, na, none⟩ = some (.int .i64 u)) (cb : w.cell? ⟨b, nb, none⟩ = some (.int .i64 v)) (hu0 : 0 ≤ u) (hu1 : u ≤ 63) (hv0 : 0 ≤ v) (hv1 : v ≤ 63) (h : op.toList = [108,101,97]) (hm0 : 1 ≤ m) (hm1 : m ≤ 3) :
    Calls Try.prog 146 #[.pointer (some ⟨b, 0, none⟩), .agg #[.string op, .int .i64 d, .int .i64 na, .int .i64 nb, .int .i64 m]] w fun e w' => e = .returned (.int .i64 (vOf op m u v)) ∧ Below w.heap.size w w' := by
  have hR := Lib.hid (vOf_lea h m u v)
  have hB1 := fun o => Lib.hid ((Below.refl w.heap.size w).alloc (Nat.le_refl _) o)
  have i0 : (0 : Int) ≤ (na : Int) := by omega
  have i1 : (na : Int) < 6 := by omega
  have j0 : (0 : Int) ≤ (nb : Int) := by omega
  have j1 : (nb : Int) < 6 := by omega
  go_enter Try.func146, Try.ntmps146
  go_wp2_with (fail)
  go_quiet (fail)
  obtain ⟨hq0, hq1⟩ := ap_bd ⟨#[115,104,108]⟩ v m hv0 hv1 (by omega) (by omega)
  have hb1 := Lib.hid (below_drewN (hB1 (.cells #[.string op, .int .i64 d, .int .i64 na, .int .i64 nb, .int .i64 m] 70)).out nq)
  go_wp2_with (fail)
  refine (valueOfOp_any _ _ _ _ (by omega) (by omega) (by omega) (by omega) op_shl).mono ?_
  rintro e w' ⟨rfl, rfl⟩
  go_wp2_with (fail)
  refine (valueOfOp_any _ _ _ _ (by omega) (by omega) hq0 hq1 op_add).mono ?_
  rintro e w' ⟨rfl, rfl⟩
  go_wp2
  go_ret
  exact ⟨ret_int (by rw [hR.out]), hb1.out⟩

set_option maxHeartbeats 2000000 in
theorem valueOf_plain (op : ByteArray) (d m : Int) (na nb : Nat) (b : Nat) (u v : Int) (w : World) (ha : na < 6) (hb : nb < 6) (hbb : b < w.heap.size) (ca : w.cell? ⟨b, na, none⟩ = some (.int .i64 u)) (cb : w.cell? ⟨b, nb, none⟩ = some (.int .i64 v)) (hu0 : 0 ≤ u) (hu1 : u ≤ 63) (hv0 : 0 ≤ v) (hv1 : v ≤ 63) (h : plainOp op) (hop : isOp op = true) :
    Calls Try.prog 146 #[.pointer (some ⟨b, 0, none⟩), .agg #[.string op, .int .i64 d, .int .i64 na, .int .i64 nb, .int .i64 m]] w fun e w' => e = .returned (.int .i64 (vOf op m u v)) ∧ Below w.heap.size w w' := by
  have hR := Lib.hid (vOf_plain h m u v)
  have hB1 := fun o => Lib.hid ((Below.refl w.heap.size w).alloc (Nat.le_refl _) o)
  have i0 : (0 : Int) ≤ (na : Int) := by omega
  have i1 : (na : Int) < 6 := by omega
  have j0 : (0 : Int) ≤ (nb : Int) := by omega
  have j1 : (nb : Int) < 6 := by omega
  obtain ⟨q0, q1, q2, q3, q4, q5, q6, q7⟩ := h
  go_enter Try.func146, Try.ntmps146
  go_wp2_with (fail)
  go_quiet (fail)
  go_wp2_with (go_at_call 163; refine (valueOfOp_any _ _ _ _ (by omega) (by omega) (by omega) (by omega) hop).mono ?_; rintro e w' ⟨rfl, rfl⟩)
  go_ret
  exact ⟨ret_int (by rw [hR.out]), below_drewN (hB1 _).out _⟩
end Go.Proofs.Ytdleiondfhmjdaa

namespace Go.Proofs.Ytdleiondfhmjdaa
open Go.RowKit
set_option linter.unusedVariables false
set_option maxRecDepth 100000

/-- Six words in cells from an address on. -/
def Six (w : World) (b o : Nat) (rs : List Int) : Prop := ∀ i, i < 6 → w.cell? ⟨b, o + i, none⟩ = some (.int .i64 (rs.getD i 0))
theorem Six.below {w w' : World} {b o : Nat} {rs : List Int} (h : Six w b o rs) {C : Nat} (hb : Below C w w') (hC : b < C) : Six w' b o rs := fun i hi => (hb.cell hC).trans (h i hi)
theorem Six.heap {w w' : World} {b o : Nat} {rs : List Int} (h : w'.heap = w.heap) (hc : Six w b o rs) : Six w' b o rs := fun i hi => by have := hc i hi; unfold World.cell? at *; rw [h]; exact this
theorem IS.six {w : World} {L B : Nat} {A : Option Addr} {rs : List Int} (h : IS w L B A rs) (h6 : rs.length = 6) : ∃ b o, A = some ⟨b, o, none⟩ ∧ (L ≤ b ∧ b < B) ∧ Six w b o rs := by
  obtain ⟨b, o, e, hb, hc⟩ := h (by omega)
  exact ⟨b, o, e, hb, fun i hi => by rw [hc i (by omega), List.getD_eq_getElem?_getD, List.getElem?_eq_getElem (by omega)]; rfl⟩
theorem cdValue_any (x : In) (b o c : Nat) (rs : List Int) (w : World) (hx : goodIn x = true) (h6 : words6 rs) (hbb : b < w.heap.size) (hc : Six w b o rs) :
    Calls Try.prog 100 #[.agg #[.string x.op, .int .i64 x.d, .int .i64 x.a, .int .i64 x.b, .int .i64 x.m], .slice (some ⟨b, o, none⟩) 6 c] w fun e w' => e = .returned (.int .i64 (vOf x.op x.m (rs.getD x.a.toNat 0) (rs.getD x.b.toNat 0))) ∧ Below w.heap.size w w' := by
  obtain ⟨hd, ha, hb, hok, hm⟩ := good_parts hx
  obtain ⟨op, d, a, b', m⟩ := x
  obtain ⟨na, rfl⟩ := Int.eq_ofNat_of_zero_le ha.1
  obtain ⟨nb, rfl⟩ := Int.eq_ofNat_of_zero_le hb.1
  have hu := getD_bd h6.2 na
  have hv := getD_bd h6.2 nb
  simp only at ha hb hm hok
  simp only [Int.toNat_natCast]
  rcases val_cases hok with h|h|h|h|h|h|h|h|⟨h, hop, _, _⟩
  · rw [fm_set h] at hm; exact cdValue_set op d m na nb b o c _ _ w (by omega) (by omega) hbb (hc na (by omega)) (hc nb (by omega)) hu.1 hu.2 hv.1 hv.2 h hm.1 hm.2
  · rw [fm_mov h] at hm; exact cdValue_mov op d m na nb b o c _ _ w (by omega) (by omega) hbb (hc na (by omega)) (hc nb (by omega)) hu.1 hu.2 hv.1 hv.2 h hm.1 hm.2
  · rw [fm_addi h] at hm; exact cdValue_addi op d m na nb b o c _ _ w (by omega) (by omega) hbb (hc na (by omega)) (hc nb (by omega)) hu.1 hu.2 hv.1 hv.2 h hm.1 hm.2
  · rw [fm_andi h] at hm; exact cdValue_andi op d m na nb b o c _ _ w (by omega) (by omega) hbb (hc na (by omega)) (hc nb (by omega)) hu.1 hu.2 hv.1 hv.2 h hm.1 hm.2
  · rw [fm_xori h] at hm; exact cdValue_xori op d m na nb b o c _ _ w (by omega) (by omega) hbb (hc na (by omega)) (hc nb (by omega)) hu.1 hu.2 hv.1 hv.2 h hm.1 hm.2
  · rw [fm_shli h] at hm; exact cdValue_shli op d m na nb b o c _ _ w (by omega) (by omega) hbb (hc na (by omega)) (hc nb (by omega)) hu.1 hu.2 hv.1 hv.2 h hm.1 hm.2
  · rw [fm_shri h] at hm; exact cdValue_shri op d m na nb b o c _ _ w (by omega) (by omega) hbb (hc na (by omega)) (hc nb (by omega)) hu.1 hu.2 hv.1 hv.2 h hm.1 hm.2
  · rw [fm_lea h] at hm; exact cdValue_lea op d m na nb b o c _ _ w (by omega) (by omega) hbb (hc na (by omega)) (hc nb (by omega)) hu.1 hu.2 hv.1 hv.2 h hm.1 hm.2
  · exact cdValue_plain op d m na nb b o c _ _ w (by omega) (by omega) hbb (hc na (by omega)) (hc nb (by omega)) hu.1 hu.2 hv.1 hv.2 h hop
theorem valueOf_any (x : In) (b : Nat) (rs : List Int) (w : World) (hx : goodIn x = true) (h6 : words6 rs) (hbb : b < w.heap.size) (hc : Six w b 0 rs) :
    Calls Try.prog 146 #[.pointer (some ⟨b, 0, none⟩), .agg #[.string x.op, .int .i64 x.d, .int .i64 x.a, .int .i64 x.b, .int .i64 x.m]] w fun e w' => e = .returned (.int .i64 (vOf x.op x.m (rs.getD x.a.toNat 0) (rs.getD x.b.toNat 0))) ∧ Below w.heap.size w w' := by
  obtain ⟨hd, ha, hb, hok, hm⟩ := good_parts hx
  obtain ⟨op, d, a, b', m⟩ := x
  obtain ⟨na, rfl⟩ := Int.eq_ofNat_of_zero_le ha.1
  obtain ⟨nb, rfl⟩ := Int.eq_ofNat_of_zero_le hb.1
  have hu := getD_bd h6.2 na
  have hv := getD_bd h6.2 nb
  have hc' : ∀ i, i < 6 → w.cell? ⟨b, i, none⟩ = some (.int .i64 (rs.getD i 0)) := fun i hi => by have := hc i hi; rwa [Nat.zero_add] at this
  simp only at ha hb hm hok
  simp only [Int.toNat_natCast]
  rcases val_cases hok with h|h|h|h|h|h|h|h|⟨h, hop, _, _⟩
  · rw [fm_set h] at hm; exact valueOf_set op d m na nb b _ _ w (by omega) (by omega) hbb (hc' na (by omega)) (hc' nb (by omega)) hu.1 hu.2 hv.1 hv.2 h hm.1 hm.2
  · rw [fm_mov h] at hm; exact valueOf_mov op d m na nb b _ _ w (by omega) (by omega) hbb (hc' na (by omega)) (hc' nb (by omega)) hu.1 hu.2 hv.1 hv.2 h hm.1 hm.2
  · rw [fm_addi h] at hm; exact valueOf_addi op d m na nb b _ _ w (by omega) (by omega) hbb (hc' na (by omega)) (hc' nb (by omega)) hu.1 hu.2 hv.1 hv.2 h hm.1 hm.2
  · rw [fm_andi h] at hm; exact valueOf_andi op d m na nb b _ _ w (by omega) (by omega) hbb (hc' na (by omega)) (hc' nb (by omega)) hu.1 hu.2 hv.1 hv.2 h hm.1 hm.2
  · rw [fm_xori h] at hm; exact valueOf_xori op d m na nb b _ _ w (by omega) (by omega) hbb (hc' na (by omega)) (hc' nb (by omega)) hu.1 hu.2 hv.1 hv.2 h hm.1 hm.2
  · rw [fm_shli h] at hm; exact valueOf_shli op d m na nb b _ _ w (by omega) (by omega) hbb (hc' na (by omega)) (hc' nb (by omega)) hu.1 hu.2 hv.1 hv.2 h hm.1 hm.2
  · rw [fm_shri h] at hm; exact valueOf_shri op d m na nb b _ _ w (by omega) (by omega) hbb (hc' na (by omega)) (hc' nb (by omega)) hu.1 hu.2 hv.1 hv.2 h hm.1 hm.2
  · rw [fm_lea h] at hm; exact valueOf_lea op d m na nb b _ _ w (by omega) (by omega) hbb (hc' na (by omega)) (hc' nb (by omega)) hu.1 hu.2 hv.1 hv.2 h hm.1 hm.2
  · exact valueOf_plain op d m na nb b _ _ w (by omega) (by omega) hbb (hc' na (by omega)) (hc' nb (by omega)) hu.1 hu.2 hv.1 hv.2 h hop
end Go.Proofs.Ytdleiondfhmjdaa

namespace Go.Proofs.Ytdleiondfhmjdaa
open Go.RowKit
set_option linter.unusedVariables false
set_option maxRecDepth 100000

/-- A new slice of six ints. -/
def Own6 (w : World) (rs : List Int) (e : Ending) (w' : World) : Prop :=
  ∃ g c, e = .returned (.slice (some ⟨g, 0, none⟩) 6 c) ∧ w.heap.size ≤ g ∧ OW w' g (g + 1) (.slice (some ⟨g, 0, none⟩) 6 c) rs ∧ Below w.heap.size w w'
theorem OW.narrow {w : World} {lo hi g n c : Nat} {xs : List Int} (h : OW w lo hi (.slice (some ⟨g, 0, none⟩) n c) xs) : OW w g (g + 1) (.slice (some ⟨g, 0, none⟩) n c) xs := by
  refine ⟨⟨h.1.1, ?_⟩, fun k hk => by cases hk; exact Nat.lt_succ_self _⟩
  rcases h.1.2 with ⟨h0, _⟩ | ⟨g', cap, cur, e, hg, hr⟩
  · cases h0
  · injection e with e1 e2 e3; injection e1 with e1; injection e1 with e1 _ _
    subst e1; subst e2; subst e3; exact .inr ⟨_, _, cur, rfl, Nat.le_refl _, hr⟩
theorem OW.lenEq {w : World} {lo hi g n c : Nat} {xs : List Int} (h : OW w lo hi (.slice (some ⟨g, 0, none⟩) n c) xs) : n = xs.length := by
  rcases h.1.2 with ⟨h0, _⟩ | ⟨g', cap, cur, e, _⟩
  · cases h0
  · injection e with _ e2 _
theorem own6_of {w w' : World} {rs : List Int} {e : Ending} (h6 : rs.length = 6) (h : FreshI w rs e w') : Own6 w rs e w' := by
  obtain ⟨A, c, he, ho, hb⟩ := h
  rcases ho.1.2 with ⟨_, h0⟩ | ⟨g, cap, cur, hv, hg, _⟩
  · omega
  · injection hv with h1 h2 h3; subst h1; subst h3
    rw [h6] at he ho
    exact ⟨g, c, he, hg, ho.narrow, hb⟩
theorem OW.at6 {w : World} {lo hi g n c : Nat} {xs : List Int} (h : OW w lo hi (.slice (some ⟨g, 0, none⟩) n c) xs) (i : Nat) (hi' : i < xs.length) : w.cell? ⟨g, i, none⟩ = some (.int .i64 (xs.getD i 0)) := by
  have := h.1.cells (g := g) rfl i (.int .i64 (xs.getD i 0)) (by rw [List.getElem?_map, List.getElem?_eq_getElem hi', List.getD_eq_getElem?_getD, List.getElem?_eq_getElem hi']; rfl)
  rwa [addr_add] at this
theorem OW.frozen6 {w : World} {lo hi g n c : Nat} {xs : List Int} (h : OW w lo hi (.slice (some ⟨g, 0, none⟩) n c) xs) (i : Nat) : w.frozen? ⟨g, i, none⟩ = false := by
  have e := h.lenEq; subst e; exact h.1.frozenAt i
theorem OW.set6 {w : World} {lo hi g n c : Nat} {xs : List Int} (h : OW w lo hi (.slice (some ⟨g, 0, none⟩) n c) xs) (i : Nat) (y : Int) : OW (w.setCell ⟨g, i, none⟩ (.int .i64 y)) lo hi (.slice (some ⟨g, 0, none⟩) n c) (xs.set i y) := by
  have e := h.lenEq; subst e
  have h1 := (h.1.stored i (.int .i64 y)).1
  refine ⟨?_, h.2⟩
  rw [List.map_set, List.length_set]; exact h1
theorem Own6.six {w : World} {lo hi g n c : Nat} {xs : List Int} (h : OW w lo hi (.slice (some ⟨g, 0, none⟩) n c) xs) (h6 : xs.length = 6) : Six w g 0 xs := fun i hi => by rw [Nat.zero_add]; exact h.at6 i (by omega)

set_option maxHeartbeats 4000000 in
theorem cdStep_any (x : In) (b o c : Nat) (rs : List Int) (L B : Nat) (w : World) (hx : goodIn x = true) (h6 : words6 rs) (hI : IS w L B (some ⟨b, o, none⟩) rs) (hB : B ≤ w.heap.size) :
    Calls Try.prog 61 #[.agg #[.string x.op, .int .i64 x.d, .int .i64 x.a, .int .i64 x.b, .int .i64 x.m], .slice (some ⟨b, o, none⟩) 6 c] w (Own6 w (stepL x rs)) := by
  have hG := Lib.hid hx
  have hW := Lib.hid h6
  obtain ⟨hd, _⟩ := good_parts hx
  obtain ⟨op, d, a, b', m⟩ := x
  obtain ⟨nd, rfl⟩ := Int.eq_ofNat_of_zero_le hd.1
  have hb0 := Lib.hid ((Below.refl w.heap.size w).alloc (Nat.le_refl _) (.cells #[.string op, .int .i64 nd, .int .i64 a, .int .i64 b', .int .i64 m] 70))
  have hS : Hid (stepL ⟨op, nd, a, b', m⟩ rs = rs.set nd (vOf op m (rs.getD a.toNat 0) (rs.getD b'.toNat 0))) := rfl
  obtain ⟨y, hy⟩ : ∃ y, vOf op m (rs.getD a.toNat 0) (rs.getD b'.toNat 0) = y := ⟨_, rfl⟩
  have hV := Lib.hid (fun w' (h1 : b < w'.heap.size) (h2 : Six w' b o rs) => (show Calls Try.prog 100 #[.agg #[.string op, .int .i64 nd, .int .i64 a, .int .i64 b', .int .i64 m], .slice (some ⟨b, o, none⟩) 6 c] w' (fun e w'' => e = .returned (.int .i64 y) ∧ Below w'.heap.size w' w'') from by have := cdValue_any ⟨op, nd, a, b', m⟩ b o c rs w' hG.out hW.out h1 h2; simp only at this; rw [hy] at this; exact this))
  rw [hy] at hS
  clear hy
  have hE := Lib.hid hI
  obtain ⟨b1, o1, e1, hbb, hsix⟩ := hI.six h6.1
  injection e1 with e1; injection e1 with e1 e2 _; subst e1; subst e2
  have hSix := Lib.hid hsix
  have hL := Lib.hid (fun w' (hx : IS w' L B (some ⟨b, o, none⟩) rs) (hB : B ≤ w'.heap.size) => (l1Own_any L B (some ⟨b, o, none⟩) c rs w' (by rw [h6.1]; omega) hx hB).mono fun _ _ => own6_of h6.1)
  have hlen := Lib.hid h6.1
  rw [show rs.length = 6 from h6.1] at hL
  have hd' : nd < 6 := by simp only at hd; omega
  clear hI hx h6 hsix hd
  go_enter Try.func61, Try.ntmps61
  go_wp2_with (fail)
  refine (hL.out _ (hE.out.below hb0.out hB) (by simp; omega)).mono ?_
  rintro e w1 ⟨g, c1, rfl, hg, ho, hb⟩
  have hO := Lib.hid ho
  have hB1 := Lib.hid (hb0.out.trans (hb.mono (by simp)))
  obtain ⟨xa, xb, xc, xd, xe⟩ := In.old (x := ⟨op, nd, a, b', m⟩) rfl hb
  have hz : w.heap.size < w1.heap.size := by have := hb.size; simp at this; omega
  have hgz : g < w1.heap.size := (ho.1.lt g rfl).2
  simp at hg
  have i0 : (0 : Int) ≤ (nd : Int) := by omega
  have i1 : (nd : Int) < 6 := by omega
  have hS1 := Lib.hid (hSix.out.below hB1.out (by omega))
  have hb1 := Lib.hid (show b < w1.heap.size by omega)
  have hlO := Lib.hid ho.lenEq
  clear ho hb
  go_wp2_with (fail)
  go_region_with (go_at_call 100; refine (hV.out _ (by exact hb1.out) (by exact Six.heap rfl hS1.out)).mono ?_; rintro e w2 ⟨rfl, hb2⟩; have hb3 := Lib.hid ((Below.refl w1.heap.size w1).drew.trans hb2); have hO2 := Lib.hid (hO.out.below hb3.out hgz); have c1 := hO2.out.at6 nd (by rw [hlen.out]; omega); have f1 := hO2.out.frozen6 nd; have xb2 := (hb3.out.cell (p := ⟨w.heap.size, 1, none⟩) hz).trans xb)
  all_goals
    have hfin := Lib.hid (hO2.out.set6 nd y)
    have hbel := Lib.hid ((hB1.out.trans (hb3.out.mono (by omega))).setCell (p := ⟨g, nd, none⟩) (show w.heap.size ≤ g by omega) (.int .i64 y))
    go_wp2
    go_ret
    exact ⟨g, _, rfl, by omega, by rw [hS.out]; exact hfin.out, hbel.out⟩
end Go.Proofs.Ytdleiondfhmjdaa
