/- Texts of this proof, one behind the other: CH, MV, CK, CI, CJ, CL. -/
import Derived.Test.YtmhdijklindipaaCG
import Derived.WalkKit
import Derived.WalkSpells
import Derived.WalkLawsBesides
import Derived.Lib.Hide
import Derived.Test.YtmhdijklindipaaMI2
import Derived.Test.YtmhdijklindipaaCV
import Derived.Test.YtmhdijklindipaaCD
import Derived.Deep.QuietTactic
import Derived.BigQuiet
import Derived.Deep.RegionHeld3
namespace Go.Proofs.Ytmhdijklindipaa
open Go.RowKit
set_option linter.unusedVariables false
set_option maxRecDepth 100000

theorem isNoWord_any (n : Int) (w : World) :
    Calls Try.prog 236 #[.int .i64 n] w fun e w' => e = .returned (.bool (!isW n)) ∧ w = w' := by
  go_enter Try.func236, Try.ntmps236
  go_wp2_with (go_at_call 115; refine (isWord_any _ _).mono ?_; rintro e w' ⟨rfl, rfl⟩)
  go_ret
  exact ⟨rfl, rfl⟩
def SomeIdxN (xs : List Int) (w : World) (e : Ending) (w' : World) : Prop := ∃ k : Int, e = .returned (.int .i64 k) ∧ decide (0 ≤ k) = !allIn xs 0 63 ∧ w = w'
theorem IndexFuncN_any (L B : Nat) (A : Option Addr) (c : Nat) (xs : List Int) (w : World) (hl : xs.length ≤ 1048576) (hx : IS w L B A xs) :
    Calls Try.prog 186 #[.slice A xs.length c, .func (.func 236) #[] #[]] w (SomeIdxN xs w) := by
  have hX := Lib.hid hx; clear hx
  go_enter Try.func186, Try.ntmps186
  go_wp2
  go_loop [5, 8] (fun _ i => ∃ k : Nat, k ≤ xs.length ∧ i = .int .i64 k ∧ allIn (xs.take k) 0 63 = true) (fun _ i => xs.length - (intOf i).toNat)
  case atStart => exact ⟨0, Nat.zero_le _, rfl, rfl⟩
  case round =>
    obtain ⟨k, hk, rfl, hh⟩ := hrel
    have hH := Lib.hid hh; clear hh
    by_cases hlt : k < xs.length
    · obtain ⟨b, o, rfl, _, hc⟩ := hX.out (by omega)
      have hcell := hc k hlt
      clear hc
      have hS := Lib.hid (allIn_snoc (lo := 0) (hi := 63) hlt)
      generalize xs[k] = x at *
      have hW : Hid (isW x = inR x 0 63) := rfl
      cases hb : isW x
      · have hF : Hid (allIn xs 0 63 = false) := allIn_of (k := k + 1) (by rw [hS.out, ← hW.out, hb]; simp)
        go_wp2_with (go_at_call 236; refine (isNoWord_any _ _).mono ?_; rintro e w' ⟨rfl, rfl⟩)
        go_ret
        exact ⟨k, rfl, by rw [hF.out]; simp, rfl⟩
      · have hb' := Lib.hid hb
        go_wp2_with (go_at_call 236; refine (isNoWord_any _ _).mono ?_; rintro e w' ⟨rfl, rfl⟩)
        go_round
        case rel => exact ⟨k + 1, by omega, by go_num, by rw [hS.out, hH.out, ← hW.out, hb'.out]; rfl⟩
        case measure => simp [intOf]; omega
    · obtain rfl : k = xs.length := by omega
      go_wp2
      go_ret
      exact ⟨-1, rfl, by have := hH.out; rw [List.take_length] at this; rw [this]; rfl, rfl⟩
theorem ContainsFuncN_any (L B : Nat) (A : Option Addr) (c : Nat) (xs : List Int) (w : World) (hl : xs.length ≤ 1048576) (hx : IS w L B A xs) :
    Calls Try.prog 189 #[.slice A xs.length c, .func (.func 236) #[] #[]] w fun e w' => e = .returned (.bool (!allIn xs 0 63)) ∧ w = w' := by
  have H := Lib.hid (IndexFuncN_any L B A c xs w hl hx); clear hx
  go_enter Try.func189, Try.ntmps189
  go_wp2_with (fail)
  refine H.out.mono ?_
  rintro e w' ⟨k, rfl, hk, rfl⟩
  have hK := Lib.hid hk; clear hk
  go_wp2
  go_ret
  exact ⟨ret_bool hK.out, rfl⟩
theorem areWords_any (L B : Nat) (A : Option Addr) (c : Nat) (xs : List Int) (w : World) (hl : xs.length ≤ 1048576) (hx : IS w L B A xs) :
    Calls Try.prog 138 #[.slice A xs.length c] w fun e w' => e = .returned (.bool (regsOk xs)) ∧ w = w' := by
  have H := Lib.hid (ContainsFuncN_any L B A c xs w hl hx); clear hx
  by_cases h6 : xs.length = 6
  · have hR : Hid (regsOk xs = allIn xs 0 63) := by simp [Hid, regsOk, h6]
    have h6' : ((xs.length : Int) == 6) = true := by simp; omega
    have h6'' : decide ((xs.length : Int) = 6) = true := by simp; omega
    clear h6
    go_enter Try.func138, Try.ntmps138
    go_wp2_with (fail)
    refine H.out.mono ?_
    rintro e w' ⟨rfl, rfl⟩
    go_wp2
    go_ret
    exact ⟨ret_bool (by rw [hR.out]; first | done | simp), rfl⟩
  · have hR : Hid (regsOk xs = false) := by simp [Hid, regsOk, h6]
    have h6' : ((xs.length : Int) == 6) = false := by simp; omega
    have h6'' : decide ((xs.length : Int) = 6) = false := by simp; omega
    clear h6
    go_enter Try.func138, Try.ntmps138
    go_wp2
    go_ret
    exact ⟨ret_bool hR.out.symm, rfl⟩
end Go.Proofs.Ytmhdijklindipaa

/- What an instruction writes; runs. No program. -/
namespace Go.Proofs.Ytmhdijklindipaa
open Go.RowKit
set_option linter.unusedVariables false
def vOf (s : ByteArray) (m a b : Int) : Int :=
  if s.toList = [115,101,116] then m else if s.toList = [109,111,118] then a else
  if s.toList = [97,100,100,105] then ap ⟨#[97,100,100]⟩ a m else if s.toList = [97,110,100,105] then ap ⟨#[97,110,100]⟩ a m else if s.toList = [120,111,114,105] then ap ⟨#[120,111,114]⟩ a m else if s.toList = [115,104,108,105] then ap ⟨#[115,104,108]⟩ a m else if s.toList = [115,104,114,105] then ap ⟨#[115,104,114]⟩ a m else
  if s.toList = [108,101,97] then ap ⟨#[97,100,100]⟩ a (ap ⟨#[115,104,108]⟩ b m) else ap s a b
theorem vOf_set {s : ByteArray} (h : s.toList = [115,101,116]) (m a b : Int) : vOf s m a b = m := by simp [vOf, h]
theorem vOf_mov {s : ByteArray} (h : s.toList = [109,111,118]) (m a b : Int) : vOf s m a b = a := by simp [vOf, h]
theorem vOf_addi {s : ByteArray} (h : s.toList = [97,100,100,105]) (m a b : Int) : vOf s m a b = ap ⟨#[97,100,100]⟩ a m := by simp [vOf, h]
theorem vOf_andi {s : ByteArray} (h : s.toList = [97,110,100,105]) (m a b : Int) : vOf s m a b = ap ⟨#[97,110,100]⟩ a m := by simp [vOf, h]
theorem vOf_xori {s : ByteArray} (h : s.toList = [120,111,114,105]) (m a b : Int) : vOf s m a b = ap ⟨#[120,111,114]⟩ a m := by simp [vOf, h]
theorem vOf_shli {s : ByteArray} (h : s.toList = [115,104,108,105]) (m a b : Int) : vOf s m a b = ap ⟨#[115,104,108]⟩ a m := by simp [vOf, h]
theorem vOf_shri {s : ByteArray} (h : s.toList = [115,104,114,105]) (m a b : Int) : vOf s m a b = ap ⟨#[115,104,114]⟩ a m := by simp [vOf, h]
theorem vOf_lea {s : ByteArray} (h : s.toList = [108,101,97]) (m a b : Int) : vOf s m a b = ap ⟨#[97,100,100]⟩ a (ap ⟨#[115,104,108]⟩ b m) := by simp [vOf, h]
def plainOp (s : ByteArray) : Prop := (s.toList == [115,101,116]) = false ∧ (s.toList == [109,111,118]) = false ∧ (s.toList == [97,100,100,105]) = false ∧ (s.toList == [97,110,100,105]) = false ∧ (s.toList == [120,111,114,105]) = false ∧ (s.toList == [115,104,108,105]) = false ∧ (s.toList == [115,104,114,105]) = false ∧ (s.toList == [108,101,97]) = false
theorem vOf_plain {s : ByteArray} (h : plainOp s) (m a b : Int) : vOf s m a b = ap s a b := by
  unfold plainOp at h
  simp only [beq_eq_false_iff_ne] at h
  simp [vOf, h]
theorem bytes_of {s : ByteArray} {l : List UInt8} (h : s.toList = l) : s = ⟨l.toArray⟩ := by
  subst h; rw [ByteArray.toList_eq]
/-- The ways of an op that is one. -/
theorem val_cases {s : ByteArray} (hok : (fm s).ok = true) : s.toList = [115,101,116] ∨ s.toList = [109,111,118] ∨ s.toList = [97,100,100,105] ∨ s.toList = [97,110,100,105] ∨ s.toList = [120,111,114,105] ∨ s.toList = [115,104,108,105] ∨ s.toList = [115,104,114,105] ∨ s.toList = [108,101,97] ∨ (plainOp s ∧ isOp s = true ∧ (fm s).lo = 0 ∧ (fm s).hi = 0) := by
  rcases cop_cases s with h|h|h|h|h|h|h|h|h|h|h|h|h|h|h|h|h|h|h|h|h
  · exact .inl h
  · exact .inr (.inl h)
  · exact .inr (.inr (.inr (.inr (.inr (.inr (.inr (.inr (⟨by simp [plainOp, h], by simp [isOp, isOne, isTwo, twoOps, h], by rw [fm_not h], by rw [fm_not h]⟩))))))))
  · exact .inr (.inr (.inr (.inr (.inr (.inr (.inr (.inr (⟨by simp [plainOp, h], by simp [isOp, isOne, isTwo, twoOps, h], by rw [fm_neg h], by rw [fm_neg h]⟩))))))))
  · exact .inr (.inr (.inr (.inr (.inr (.inr (.inr (.inr (⟨by simp [plainOp, h], by simp [isOp, isOne, isTwo, twoOps, h], by rw [fm_add h], by rw [fm_add h]⟩))))))))
  · exact .inr (.inr (.inr (.inr (.inr (.inr (.inr (.inr (⟨by simp [plainOp, h], by simp [isOp, isOne, isTwo, twoOps, h], by rw [fm_sub h], by rw [fm_sub h]⟩))))))))
  · exact .inr (.inr (.inr (.inr (.inr (.inr (.inr (.inr (⟨by simp [plainOp, h], by simp [isOp, isOne, isTwo, twoOps, h], by rw [fm_and h], by rw [fm_and h]⟩))))))))
  · exact .inr (.inr (.inr (.inr (.inr (.inr (.inr (.inr (⟨by simp [plainOp, h], by simp [isOp, isOne, isTwo, twoOps, h], by rw [fm_or h], by rw [fm_or h]⟩))))))))
  · exact .inr (.inr (.inr (.inr (.inr (.inr (.inr (.inr (⟨by simp [plainOp, h], by simp [isOp, isOne, isTwo, twoOps, h], by rw [fm_xor h], by rw [fm_xor h]⟩))))))))
  · exact .inr (.inr (.inr (.inr (.inr (.inr (.inr (.inr (⟨by simp [plainOp, h], by simp [isOp, isOne, isTwo, twoOps, h], by rw [fm_less h], by rw [fm_less h]⟩))))))))
  · exact .inr (.inr (.inr (.inr (.inr (.inr (.inr (.inr (⟨by simp [plainOp, h], by simp [isOp, isOne, isTwo, twoOps, h], by rw [fm_eq h], by rw [fm_eq h]⟩))))))))
  · exact .inr (.inr (.inr (.inr (.inr (.inr (.inr (.inr (⟨by simp [plainOp, h], by simp [isOp, isOne, isTwo, twoOps, h], by rw [fm_shl h], by rw [fm_shl h]⟩))))))))
  · exact .inr (.inr (.inr (.inr (.inr (.inr (.inr (.inr (⟨by simp [plainOp, h], by simp [isOp, isOne, isTwo, twoOps, h], by rw [fm_shr h], by rw [fm_shr h]⟩))))))))
  · exact .inr (.inr (.inr (.inr (.inr (.inr (.inr (.inr (⟨by simp [plainOp, h], by simp [isOp, isOne, isTwo, twoOps, h], by rw [fm_mul h], by rw [fm_mul h]⟩))))))))
  · exact .inr (.inr (.inl h))
  · exact .inr (.inr (.inr (.inl h)))
  · exact .inr (.inr (.inr (.inr (.inl h))))
  · exact .inr (.inr (.inr (.inr (.inr (.inl h)))))
  · exact .inr (.inr (.inr (.inr (.inr (.inr (.inl h))))))
  · exact .inr (.inr (.inr (.inr (.inr (.inr (.inr (.inl h)))))))
  · rw [fm_no h] at hok; cases hok
theorem getD_bd {rs : List Int} (h : rs.all (fun x => inR x 0 63) = true) (i : Nat) : 0 ≤ rs.getD i 0 ∧ rs.getD i 0 ≤ 63 := by
  rw [List.getD_eq_getElem?_getD]
  cases hi : rs[i]? with
  | none => simp
  | some x =>
    have := List.all_eq_true.1 h x (List.mem_of_getElem? hi)
    exact (inR_iff _ _ _).1 this
theorem vOf_bd {s : ByteArray} {m a b : Int} (hok : (fm s).ok = true) (hm : (fm s).lo ≤ m ∧ m ≤ (fm s).hi) (ha : 0 ≤ a ∧ a ≤ 63) (hb : 0 ≤ b ∧ b ≤ 63) : 0 ≤ vOf s m a b ∧ vOf s m a b ≤ 63 := by
  rcases val_cases hok with h|h|h|h|h|h|h|h|⟨h, _, _, _⟩
  · rw [fm_set h] at hm; rw [vOf_set h]; exact hm
  · rw [vOf_mov h]; exact ha
  · rw [fm_addi h] at hm; simp only at hm; rw [vOf_addi h]; exact ap_bd _ _ _ ha.1 ha.2 (by omega) (by omega)
  · rw [fm_andi h] at hm; simp only at hm; rw [vOf_andi h]; exact ap_bd _ _ _ ha.1 ha.2 (by omega) (by omega)
  · rw [fm_xori h] at hm; simp only at hm; rw [vOf_xori h]; exact ap_bd _ _ _ ha.1 ha.2 (by omega) (by omega)
  · rw [fm_shli h] at hm; simp only at hm; rw [vOf_shli h]; exact ap_bd _ _ _ ha.1 ha.2 (by omega) (by omega)
  · rw [fm_shri h] at hm; simp only at hm; rw [vOf_shri h]; exact ap_bd _ _ _ ha.1 ha.2 (by omega) (by omega)
  · rw [fm_lea h] at hm; simp only at hm; rw [vOf_lea h]
    have := ap_bd ⟨#[115,104,108]⟩ b m hb.1 hb.2 (by omega) (by omega)
    exact ap_bd _ _ _ ha.1 ha.2 this.1 this.2
  · rw [vOf_plain h]; exact ap_bd _ _ _ ha.1 ha.2 hb.1 hb.2
/-- The registers behind an instruction. -/
def stepL (x : In) (rs : List Int) : List Int := rs.set x.d.toNat (vOf x.op x.m (rs.getD x.a.toNat 0) (rs.getD x.b.toNat 0))
def runL (es : List In) (rs : List Int) : List Int := es.foldl (fun r x => stepL x r) rs
theorem runL_snoc {es : List In} {rs : List Int} {k : Nat} (h : k < es.length) : runL (es.take (k + 1)) rs = stepL es[k] (runL (es.take k) rs) := by
  unfold runL; rw [List.take_succ_eq_append_getElem h, List.foldl_append]; rfl
def words6 (rs : List Int) : Prop := rs.length = 6 ∧ rs.all (fun x => inR x 0 63) = true
theorem stepL_words {x : In} {rs : List Int} (hx : goodIn x = true) (h : words6 rs) : words6 (stepL x rs) := by
  obtain ⟨h1, h2⟩ := h
  obtain ⟨hd, ha, hb, hok, hm⟩ := good_parts hx
  refine ⟨by rw [stepL, List.length_set, h1], ?_⟩
  rw [List.all_eq_true] at h2 ⊢
  intro y hy
  rcases List.mem_or_eq_of_mem_set hy with h | h
  · exact h2 y h
  · subst h
    have h2' : rs.all (fun x => inR x 0 63) = true := List.all_eq_true.2 h2
    exact (inR_iff _ _ _).2 (vOf_bd hok hm (getD_bd h2' _) (getD_bd h2' _))
theorem runL_words {es : List In} {rs : List Int} (hes : ∀ x ∈ es, goodIn x = true) (h : words6 rs) : words6 (runL es rs) := by
  induction es generalizing rs with
  | nil => exact h
  | cons x l ih => exact ih (fun y hy => hes y (List.mem_cons_of_mem _ hy)) (stepL_words (hes x List.mem_cons_self) h)
theorem runL_words_take {es : List In} {rs : List Int} (hes : ∀ x ∈ es, goodIn x = true) (h : words6 rs) (k : Nat) : words6 (runL (es.take k) rs) :=
  runL_words (fun x hx => hes x (List.mem_of_mem_take hx)) h
end Go.Proofs.Ytmhdijklindipaa

namespace Go.Proofs.Ytmhdijklindipaa
open Go.RowKit
set_option linter.unusedVariables false
set_option maxRecDepth 100000
theorem op_shr : isOp ⟨#[115,104,114]⟩ = true := by decide +kernel
theorem op_and : isOp ⟨#[97,110,100]⟩ = true := by decide +kernel
theorem op_add : isOp ⟨#[97,100,100]⟩ = true := by decide +kernel
theorem op_shl : isOp ⟨#[115,104,108]⟩ = true := by decide +kernel
theorem op_xor : isOp ⟨#[120,111,114]⟩ = true := by decide +kernel

theorem trim_addi (w : World) : Calls Try.prog 260 #[.string ⟨#[97,100,100,105]⟩, .string ⟨#[105]⟩] w fun e w' => e = .returned (.string ⟨#[97,100,100]⟩) ∧ w = w' := by
  have hq1 : ((⟨#[97,100,100,105]⟩ : ByteArray).extract 3 4).toList = [105] := by decide +kernel
  have hq2 : (⟨#[97,100,100,105]⟩ : ByteArray).extract 0 3 = ⟨#[97,100,100]⟩ := by decide +kernel
  go_enter Try.func260, Try.ntmps260
  go_wp2
  go_ret
  exact ⟨rfl, rfl⟩

theorem trim_andi (w : World) : Calls Try.prog 260 #[.string ⟨#[97,110,100,105]⟩, .string ⟨#[105]⟩] w fun e w' => e = .returned (.string ⟨#[97,110,100]⟩) ∧ w = w' := by
  have hq1 : ((⟨#[97,110,100,105]⟩ : ByteArray).extract 3 4).toList = [105] := by decide +kernel
  have hq2 : (⟨#[97,110,100,105]⟩ : ByteArray).extract 0 3 = ⟨#[97,110,100]⟩ := by decide +kernel
  go_enter Try.func260, Try.ntmps260
  go_wp2
  go_ret
  exact ⟨rfl, rfl⟩

theorem trim_xori (w : World) : Calls Try.prog 260 #[.string ⟨#[120,111,114,105]⟩, .string ⟨#[105]⟩] w fun e w' => e = .returned (.string ⟨#[120,111,114]⟩) ∧ w = w' := by
  have hq1 : ((⟨#[120,111,114,105]⟩ : ByteArray).extract 3 4).toList = [105] := by decide +kernel
  have hq2 : (⟨#[120,111,114,105]⟩ : ByteArray).extract 0 3 = ⟨#[120,111,114]⟩ := by decide +kernel
  go_enter Try.func260, Try.ntmps260
  go_wp2
  go_ret
  exact ⟨rfl, rfl⟩

theorem trim_shli (w : World) : Calls Try.prog 260 #[.string ⟨#[115,104,108,105]⟩, .string ⟨#[105]⟩] w fun e w' => e = .returned (.string ⟨#[115,104,108]⟩) ∧ w = w' := by
  have hq1 : ((⟨#[115,104,108,105]⟩ : ByteArray).extract 3 4).toList = [105] := by decide +kernel
  have hq2 : (⟨#[115,104,108,105]⟩ : ByteArray).extract 0 3 = ⟨#[115,104,108]⟩ := by decide +kernel
  go_enter Try.func260, Try.ntmps260
  go_wp2
  go_ret
  exact ⟨rfl, rfl⟩

theorem trim_shri (w : World) : Calls Try.prog 260 #[.string ⟨#[115,104,114,105]⟩, .string ⟨#[105]⟩] w fun e w' => e = .returned (.string ⟨#[115,104,114]⟩) ∧ w = w' := by
  have hq1 : ((⟨#[115,104,114,105]⟩ : ByteArray).extract 3 4).toList = [105] := by decide +kernel
  have hq2 : (⟨#[115,104,114,105]⟩ : ByteArray).extract 0 3 = ⟨#[115,104,114]⟩ := by decide +kernel
  go_enter Try.func260, Try.ntmps260
  go_wp2
  go_ret
  exact ⟨rfl, rfl⟩
theorem same_flip {P : Program} {f : FuncId} {args : Array Value} {w : World} {v : Value} (h : Calls P f args w fun e w' => e = .returned v ∧ w = w') : Calls P f args w fun e w' => e = .returned v ∧ w' = w :=
  h.mono fun _ _ ⟨a, b⟩ => ⟨a, b.symm⟩
end Go.Proofs.Ytmhdijklindipaa


namespace Go.Proofs.Ytmhdijklindipaa
open Go.RowKit
set_option linter.unusedVariables false
set_option maxRecDepth 100000

set_option maxHeartbeats 2000000 in
theorem cdValue_set (op : ByteArray) (d m : Int) (na nb : Nat) (b o c : Nat) (u v : Int) (w : World) (ha : na < 6) (hb : nb < 6) (hbb : b < w.heap.size) (ca : w.cell? ⟨b, o + na, none⟩ = some (.int .i64 u)) (cb : w.cell? ⟨b, o + nb, none⟩ = some (.int .i64 v)) (hu0 : 0 ≤ u) (hu1 : u ≤ 63) (hv0 : 0 ≤ v) (hv1 : v ≤ 63) (h : op.toList = [115,101,116]) (hm0 : 0 ≤ m) (hm1 : m ≤ 63) :
    Calls Try.prog 237 #[.agg #[.string op, .int .i64 d, .int .i64 na, .int .i64 nb, .int .i64 m], .slice (some ⟨b, o, none⟩) 6 c] w fun e w' => e = .returned (.int .i64 (vOf op m u v)) ∧ Below w.heap.size w w' := by
  have hR := Lib.hid (vOf_set h m u v)
  have hB1 := fun o => Lib.hid ((Below.refl w.heap.size w).alloc (Nat.le_refl _) o)
  have i0 : (0 : Int) ≤ (na : Int) := by omega
  have i1 : (na : Int) < 6 := by omega
  have j0 : (0 : Int) ≤ (nb : Int) := by omega
  have j1 : (nb : Int) < 6 := by omega
  go_enter Try.func237, Try.ntmps237
  go_wp2_with (fail)
  go_quiet (fail)
  go_wp2_with (fail)
  go_ret
  exact ⟨ret_int (by rw [hR.out]), below_drewN (hB1 _).out _⟩

set_option maxHeartbeats 2000000 in
theorem cdValue_mov (op : ByteArray) (d m : Int) (na nb : Nat) (b o c : Nat) (u v : Int) (w : World) (ha : na < 6) (hb : nb < 6) (hbb : b < w.heap.size) (ca : w.cell? ⟨b, o + na, none⟩ = some (.int .i64 u)) (cb : w.cell? ⟨b, o + nb, none⟩ = some (.int .i64 v)) (hu0 : 0 ≤ u) (hu1 : u ≤ 63) (hv0 : 0 ≤ v) (hv1 : v ≤ 63) (h : op.toList = [109,111,118]) (hm0 : 0 ≤ m) (hm1 : m ≤ 0) :
    Calls Try.prog 237 #[.agg #[.string op, .int .i64 d, .int .i64 na, .int .i64 nb, .int .i64 m], .slice (some ⟨b, o, none⟩) 6 c] w fun e w' => e = .returned (.int .i64 (vOf op m u v)) ∧ Below w.heap.size w w' := by
  have hR := Lib.hid (vOf_mov h m u v)
  have hB1 := fun o => Lib.hid ((Below.refl w.heap.size w).alloc (Nat.le_refl _) o)
  have i0 : (0 : Int) ≤ (na : Int) := by omega
  have i1 : (na : Int) < 6 := by omega
  have j0 : (0 : Int) ≤ (nb : Int) := by omega
  have j1 : (nb : Int) < 6 := by omega
  go_enter Try.func237, Try.ntmps237
  go_wp2_with (fail)
  go_quiet (fail)
  go_wp2_with (fail)
  go_ret
  exact ⟨ret_int (by rw [hR.out]), below_drewN (hB1 _).out _⟩

set_option maxHeartbeats 2000000 in
theorem cdValue_addi (op : ByteArray) (d m : Int) (na nb : Nat) (b o c : Nat) (u v : Int) (w : World) (ha : na < 6) (hb : nb < 6) (hbb : b < w.heap.size) (ca : w.cell? ⟨b, o + na, none⟩ = some (.int .i64 u)) (cb : w.cell? ⟨b, o + nb, none⟩ = some (.int .i64 v)) (hu0 : 0 ≤ u) (hu1 : u ≤ 63) (hv0 : 0 ≤ v) (hv1 : v ≤ 63) (h : op.toList = [97,100,100,105]) (hm0 : 0 ≤ m) (hm1 : m ≤ 63) :
    Calls Try.prog 237 #[.agg #[.string op, .int .i64 d, .int .i64 na, .int .i64 nb, .int .i64 m], .slice (some ⟨b, o, none⟩) 6 c] w fun e w' => e = .returned (.int .i64 (vOf op m u v)) ∧ Below w.heap.size w w' := by
  have hR := Lib.hid (vOf_addi h m u v)
  have hB1 := fun o => Lib.hid ((Below.refl w.heap.size w).alloc (Nat.le_refl _) o)
  have i0 : (0 : Int) ≤ (na : Int) := by omega
  have i1 : (na : Int) < 6 := by omega
  have j0 : (0 : Int) ≤ (nb : Int) := by omega
  have j1 : (nb : Int) < 6 := by omega
  go_enter Try.func237, Try.ntmps237
  go_wp2_with (fail)
  go_quiet (fail)
  go_wp2_with (go_at_call 133; refine (exApply_any _ _ _ _ (by omega) (by omega) (by omega) (by omega) op_add).mono ?_; rintro e w' ⟨rfl, rfl⟩)
  go_ret
  exact ⟨ret_int (by rw [hR.out]), below_drewN (hB1 _).out _⟩

set_option maxHeartbeats 2000000 in
theorem cdValue_andi (op : ByteArray) (d m : Int) (na nb : Nat) (b o c : Nat) (u v : Int) (w : World) (ha : na < 6) (hb : nb < 6) (hbb : b < w.heap.size) (ca : w.cell? ⟨b, o + na, none⟩ = some (.int .i64 u)) (cb : w.cell? ⟨b, o + nb, none⟩ = some (.int .i64 v)) (hu0 : 0 ≤ u) (hu1 : u ≤ 63) (hv0 : 0 ≤ v) (hv1 : v ≤ 63) (h : op.toList = [97,110,100,105]) (hm0 : 0 ≤ m) (hm1 : m ≤ 63) :
    Calls Try.prog 237 #[.agg #[.string op, .int .i64 d, .int .i64 na, .int .i64 nb, .int .i64 m], .slice (some ⟨b, o, none⟩) 6 c] w fun e w' => e = .returned (.int .i64 (vOf op m u v)) ∧ Below w.heap.size w w' := by
  have hR := Lib.hid (vOf_andi h m u v)
  have hB1 := fun o => Lib.hid ((Below.refl w.heap.size w).alloc (Nat.le_refl _) o)
  have i0 : (0 : Int) ≤ (na : Int) := by omega
  have i1 : (na : Int) < 6 := by omega
  have j0 : (0 : Int) ≤ (nb : Int) := by omega
  have j1 : (nb : Int) < 6 := by omega
  go_enter Try.func237, Try.ntmps237
  go_wp2_with (fail)
  go_quiet (fail)
  go_wp2_with (go_at_call 133; refine (exApply_any _ _ _ _ (by omega) (by omega) (by omega) (by omega) op_and).mono ?_; rintro e w' ⟨rfl, rfl⟩)
  go_ret
  exact ⟨ret_int (by rw [hR.out]), below_drewN (hB1 _).out _⟩

set_option maxHeartbeats 2000000 in
theorem cdValue_xori (op : ByteArray) (d m : Int) (na nb : Nat) (b o c : Nat) (u v : Int) (w : World) (ha : na < 6) (hb : nb < 6) (hbb : b < w.heap.size) (ca : w.cell? ⟨b, o + na, none⟩ = some (.int .i64 u)) (cb : w.cell? ⟨b, o + nb, none⟩ = some (.int .i64 v)) (hu0 : 0 ≤ u) (hu1 : u ≤ 63) (hv0 : 0 ≤ v) (hv1 : v ≤ 63) (h : op.toList = [120,111,114,105]) (hm0 : 0 ≤ m) (hm1 : m ≤ 63) :
    Calls Try.prog 237 #[.agg #[.string op, .int .i64 d, .int .i64 na, .int .i64 nb, .int .i64 m], .slice (some ⟨b, o, none⟩) 6 c] w fun e w' => e = .returned (.int .i64 (vOf op m u v)) ∧ Below w.heap.size w w' := by
  have hR := Lib.hid (vOf_xori h m u v)
  have hB1 := fun o => Lib.hid ((Below.refl w.heap.size w).alloc (Nat.le_refl _) o)
  have i0 : (0 : Int) ≤ (na : Int) := by omega
  have i1 : (na : Int) < 6 := by omega
  have j0 : (0 : Int) ≤ (nb : Int) := by omega
  have j1 : (nb : Int) < 6 := by omega
  go_enter Try.func237, Try.ntmps237
  go_wp2_with (fail)
  go_quiet (fail)
  go_wp2_with (go_at_call 133; refine (exApply_any _ _ _ _ (by omega) (by omega) (by omega) (by omega) op_xor).mono ?_; rintro e w' ⟨rfl, rfl⟩)
  go_ret
  exact ⟨ret_int (by rw [hR.out]), below_drewN (hB1 _).out _⟩

set_option maxHeartbeats 2000000 in
theorem cdValue_shli (op : ByteArray) (d m : Int) (na nb : Nat) (b o c : Nat) (u v : Int) (w : World) (ha : na < 6) (hb : nb < 6) (hbb : b < w.heap.size) (ca : w.cell? ⟨b, o + na, none⟩ = some (.int .i64 u)) (cb : w.cell? ⟨b, o + nb, none⟩ = some (.int .i64 v)) (hu0 : 0 ≤ u) (hu1 : u ≤ 63) (hv0 : 0 ≤ v) (hv1 : v ≤ 63) (h : op.toList = [115,104,108,105]) (hm0 : 1 ≤ m) (hm1 : m ≤ 5) :
    Calls Try.prog 237 #[.agg #[.string op, .int .i64 d, .int .i64 na, .int .i64 nb, .int .i64 m], .slice (some ⟨b, o, none⟩) 6 c] w fun e w' => e = .returned (.int .i64 (vOf op m u v)) ∧ Below w.heap.size w w' := by
  have hR := Lib.hid (vOf_shli h m u v)
  have hB1 := fun o => Lib.hid ((Below.refl w.heap.size w).alloc (Nat.le_refl _) o)
  have i0 : (0 : Int) ≤ (na : Int) := by omega
  have i1 : (na : Int) < 6 := by omega
  have j0 : (0 : Int) ≤ (nb : Int) := by omega
  have j1 : (nb : Int) < 6 := by omega
  go_enter Try.func237, Try.ntmps237
  go_wp2_with (fail)
  go_quiet (fail)
  go_wp2_with (go_at_call 133; refine (exApply_any _ _ _ _ (by omega) (by omega) (by omega) (by omega) op_shl).mono ?_; rintro e w' ⟨rfl, rfl⟩)
  go_ret
  exact ⟨ret_int (by rw [hR.out]), below_drewN (hB1 _).out _⟩

set_option maxHeartbeats 2000000 in
theorem cdValue_shri (op : ByteArray) (d m : Int) (na nb : Nat) (b o c : Nat) (u v : Int) (w : World) (ha : na < 6) (hb : nb < 6) (hbb : b < w.heap.size) (ca : w.cell? ⟨b, o + na, none⟩ = some (.int .i64 u)) (cb : w.cell? ⟨b, o + nb, none⟩ = some (.int .i64 v)) (hu0 : 0 ≤ u) (hu1 : u ≤ 63) (hv0 : 0 ≤ v) (hv1 : v ≤ 63) (h : op.toList = [115,104,114,105]) (hm0 : 1 ≤ m) (hm1 : m ≤ 5) :
    Calls Try.prog 237 #[.agg #[.string op, .int .i64 d, .int .i64 na, .int .i64 nb, .int .i64 m], .slice (some ⟨b, o, none⟩) 6 c] w fun e w' => e = .returned (.int .i64 (vOf op m u v)) ∧ Below w.heap.size w w' := by
  have hR := Lib.hid (vOf_shri h m u v)
  have hB1 := fun o => Lib.hid ((Below.refl w.heap.size w).alloc (Nat.le_refl _) o)
  have i0 : (0 : Int) ≤ (na : Int) := by omega
  have i1 : (na : Int) < 6 := by omega
  have j0 : (0 : Int) ≤ (nb : Int) := by omega
  have j1 : (nb : Int) < 6 := by omega
  go_enter Try.func237, Try.ntmps237
  go_wp2_with (fail)
  go_quiet (fail)
  go_wp2_with (go_at_call 133; refine (exApply_any _ _ _ _ (by omega) (by omega) (by omega) (by omega) op_shr).mono ?_; rintro e w' ⟨rfl, rfl⟩)
  go_ret
  exact ⟨ret_int (by rw [hR.out]), below_drewN (hB1 _).out _⟩

set_option maxHeartbeats 2000000 in
theorem cdValue_lea (op : ByteArray) (d m : Int) (na nb : Nat) (b o c : Nat) (u v : Int) (w : World) (ha : na < 6) (hb : nb < 6) (hbb : b < w.heap.size) (ca : w.cell? ⟨b, o + na, none⟩ = some (.int .i64 u)) (cb : w.cell? ⟨b, o + nb, none⟩ = some (.int .i64 v)) (hu0 : 0 ≤ u) (hu1 : u ≤ 63) (hv0 : 0 ≤ v) (hv1 : v ≤ 63) (h : op.toList = [108,101,97]) (hm0 : 1 ≤ m) (hm1 : m ≤ 3) :
    Calls Try.prog 237 #[.agg #[.string op, .int .i64 d, .int .i64 na, .int .i64 nb, .int .i64 m], .slice (some ⟨b, o, none⟩) 6 c] w fun e w' => e = .returned (.int .i64 (vOf op m u v)) ∧ Below w.heap.size w w' := by
  have hR := Lib.hid (vOf_lea h m u v)
  have hB1 := fun o => Lib.hid ((Below.refl w.heap.size w).alloc (Nat.le_refl _) o)
  have i0 : (0 : Int) ≤ (na : Int) := by omega
  have i1 : (na : Int) < 6 := by omega
  have j0 : (0 : Int) ≤ (nb : Int) := by omega
  have j1 : (nb : Int) < 6 := by omega
  go_enter Try.func237, Try.ntmps237
  go_wp2_with (fail)
  go_quiet (fail)
  obtain ⟨hq0, hq1⟩ := ap_bd ⟨#[115,104,108]⟩ v m hv0 hv1 (by omega) (by omega)
  have hb1 := Lib.hid (below_drewN (hB1 (.cells #[.string op, .int .i64 d, .int .i64 na, .int .i64 nb, .int .i64 m] 56)).out nq)
  go_wp2_with (fail)
  refine (exApply_any _ _ _ _ (by omega) (by omega) (by omega) (by omega) op_shl).mono ?_
  rintro e w' ⟨rfl, rfl⟩
  go_wp2_with (fail)
  refine (exApply_any _ _ _ _ (by omega) (by omega) hq0 hq1 op_add).mono ?_
  rintro e w' ⟨rfl, rfl⟩
  go_wp2
  go_ret
  exact ⟨ret_int (by rw [hR.out]), hb1.out⟩

set_option maxHeartbeats 2000000 in
theorem cdValue_plain (op : ByteArray) (d m : Int) (na nb : Nat) (b o c : Nat) (u v : Int) (w : World) (ha : na < 6) (hb : nb < 6) (hbb : b < w.heap.size) (ca : w.cell? ⟨b, o + na, none⟩ = some (.int .i64 u)) (cb : w.cell? ⟨b, o + nb, none⟩ = some (.int .i64 v)) (hu0 : 0 ≤ u) (hu1 : u ≤ 63) (hv0 : 0 ≤ v) (hv1 : v ≤ 63) (h : plainOp op) (hop : isOp op = true) :
    Calls Try.prog 237 #[.agg #[.string op, .int .i64 d, .int .i64 na, .int .i64 nb, .int .i64 m], .slice (some ⟨b, o, none⟩) 6 c] w fun e w' => e = .returned (.int .i64 (vOf op m u v)) ∧ Below w.heap.size w w' := by
  have hR := Lib.hid (vOf_plain h m u v)
  have hB1 := fun o => Lib.hid ((Below.refl w.heap.size w).alloc (Nat.le_refl _) o)
  have i0 : (0 : Int) ≤ (na : Int) := by omega
  have i1 : (na : Int) < 6 := by omega
  have j0 : (0 : Int) ≤ (nb : Int) := by omega
  have j1 : (nb : Int) < 6 := by omega
  obtain ⟨q0, q1, q2, q3, q4, q5, q6, q7⟩ := h
  go_enter Try.func237, Try.ntmps237
  go_wp2_with (fail)
  go_quiet (fail)
  go_wp2_with (go_at_call 133; refine (exApply_any _ _ _ _ (by omega) (by omega) (by omega) (by omega) hop).mono ?_; rintro e w' ⟨rfl, rfl⟩)
  go_ret
  exact ⟨ret_int (by rw [hR.out]), below_drewN (hB1 _).out _⟩
end Go.Proofs.Ytmhdijklindipaa

namespace Go.Proofs.Ytmhdijklindipaa
open Go.RowKit
set_option linter.unusedVariables false
set_option maxRecDepth 100000

set_option maxHeartbeats 2000000 in
theorem valueOf_set (op : ByteArray) (d m : Int) (na nb : Nat) (b : Nat) (u v : Int) (w : World) (ha : na < 6) (hb : nb < 6) (hbb : b < w.heap.size) (ca : w.cell? ⟨b, na, none⟩ = some (.int .i64 u)) (cb : w.cell? ⟨b, nb, none⟩ = some (.int .i64 v)) (hu0 : 0 ≤ u) (hu1 : u ≤ 63) (hv0 : 0 ≤ v) (hv1 : v ≤ 63) (h : op.toList = [115,101,116]) (hm0 : 0 ≤ m) (hm1 : m ≤ 63) :
    Calls Try.prog 238 #[.pointer (some ⟨b, 0, none⟩), .agg #[.string op, .int .i64 d, .int .i64 na, .int .i64 nb, .int .i64 m]] w fun e w' => e = .returned (.int .i64 (vOf op m u v)) ∧ Below w.heap.size w w' := by
  have hR := Lib.hid (vOf_set h m u v)
  have hB1 := fun o => Lib.hid ((Below.refl w.heap.size w).alloc (Nat.le_refl _) o)
  have i0 : (0 : Int) ≤ (na : Int) := by omega
  have i1 : (na : Int) < 6 := by omega
  have j0 : (0 : Int) ≤ (nb : Int) := by omega
  have j1 : (nb : Int) < 6 := by omega
  go_enter Try.func238, Try.ntmps238
  go_wp2_with (fail)
  go_quiet (fail)
  go_wp2_with (fail)
  go_ret
  exact ⟨ret_int (by rw [hR.out]), below_drewN (hB1 _).out _⟩

set_option maxHeartbeats 2000000 in
theorem valueOf_mov (op : ByteArray) (d m : Int) (na nb : Nat) (b : Nat) (u v : Int) (w : World) (ha : na < 6) (hb : nb < 6) (hbb : b < w.heap.size) (ca : w.cell? ⟨b, na, none⟩ = some (.int .i64 u)) (cb : w.cell? ⟨b, nb, none⟩ = some (.int .i64 v)) (hu0 : 0 ≤ u) (hu1 : u ≤ 63) (hv0 : 0 ≤ v) (hv1 : v ≤ 63) (h : op.toList = [109,111,118]) (hm0 : 0 ≤ m) (hm1 : m ≤ 0) :
    Calls Try.prog 238 #[.pointer (some ⟨b, 0, none⟩), .agg #[.string op, .int .i64 d, .int .i64 na, .int .i64 nb, .int .i64 m]] w fun e w' => e = .returned (.int .i64 (vOf op m u v)) ∧ Below w.heap.size w w' := by
  have hR := Lib.hid (vOf_mov h m u v)
  have hB1 := fun o => Lib.hid ((Below.refl w.heap.size w).alloc (Nat.le_refl _) o)
  have i0 : (0 : Int) ≤ (na : Int) := by omega
  have i1 : (na : Int) < 6 := by omega
  have j0 : (0 : Int) ≤ (nb : Int) := by omega
  have j1 : (nb : Int) < 6 := by omega
  go_enter Try.func238, Try.ntmps238
  go_wp2_with (fail)
  go_quiet (fail)
  go_wp2_with (fail)
  go_ret
  exact ⟨ret_int (by rw [hR.out]), below_drewN (hB1 _).out _⟩

set_option maxHeartbeats 2000000 in
theorem valueOf_addi (op : ByteArray) (d m : Int) (na nb : Nat) (b : Nat) (u v : Int) (w : World) (ha : na < 6) (hb : nb < 6) (hbb : b < w.heap.size) (ca : w.cell? ⟨b, na, none⟩ = some (.int .i64 u)) (cb : w.cell? ⟨b, nb, none⟩ = some (.int .i64 v)) (hu0 : 0 ≤ u) (hu1 : u ≤ 63) (hv0 : 0 ≤ v) (hv1 : v ≤ 63) (h : op.toList = [97,100,100,105]) (hm0 : 0 ≤ m) (hm1 : m ≤ 63) :
    Calls Try.prog 238 #[.pointer (some ⟨b, 0, none⟩), .agg #[.string op, .int .i64 d, .int .i64 na, .int .i64 nb, .int .i64 m]] w fun e w' => e = .returned (.int .i64 (vOf op m u v)) ∧ Below w.heap.size w w' := by
  have hR := Lib.hid (vOf_addi h m u v)
  have hB1 := fun o => Lib.hid ((Below.refl w.heap.size w).alloc (Nat.le_refl _) o)
  have i0 : (0 : Int) ≤ (na : Int) := by omega
  have i1 : (na : Int) < 6 := by omega
  have j0 : (0 : Int) ≤ (nb : Int) := by omega
  have j1 : (nb : Int) < 6 := by omega
  obtain rfl := bytes_of h
  go_enter Try.func238, Try.ntmps238
  go_wp2_with (fail)
  go_quiet (fail)
  go_wp2_with (fail)
  obtain ⟨wq, hwq⟩ : ∃ wq : World, wq = (w.alloc (.cells #[.string ⟨#[97,100,100,105]⟩, .int .i64 d, .int .i64 na, .int .i64 nb, .int .i64 m] 56)).drewN nq := ⟨_, rfl⟩
  rw [← hwq]
  have hb1 : Hid (Below w.heap.size w wq) := by rw [hwq]; exact below_drewN (hB1 _).out _
  obtain ⟨xa, _, _, _, xe⟩ := In.old (x := ⟨⟨#[97,100,100,105]⟩, d, na, nb, m⟩) (w2 := wq) (t := 56) rfl (by rw [hwq]; exact below_drewN (Below.refl _ _) _)
  clear hwq
  go_quiet ((first | (go_at_call 260; exact Calls.quiet_of_same (same_flip (trim_addi _))) | (go_at_call 131; exact Calls.quiet_of_same (same_flip (valueOfOp_any _ _ _ _ (by omega) (by omega) (by omega) (by omega) op_add)))))
  go_wp2
  go_ret
  exact ⟨ret_int (by rw [hR.out]), below_drewN hb1.out _⟩

set_option maxHeartbeats 2000000 in
theorem valueOf_andi (op : ByteArray) (d m : Int) (na nb : Nat) (b : Nat) (u v : Int) (w : World) (ha : na < 6) (hb : nb < 6) (hbb : b < w.heap.size) (ca : w.cell? ⟨b, na, none⟩ = some (.int .i64 u)) (cb : w.cell? ⟨b, nb, none⟩ = some (.int .i64 v)) (hu0 : 0 ≤ u) (hu1 : u ≤ 63) (hv0 : 0 ≤ v) (hv1 : v ≤ 63) (h : op.toList = [97,110,100,105]) (hm0 : 0 ≤ m) (hm1 : m ≤ 63) :
    Calls Try.prog 238 #[.pointer (some ⟨b, 0, none⟩), .agg #[.string op, .int .i64 d, .int .i64 na, .int .i64 nb, .int .i64 m]] w fun e w' => e = .returned (.int .i64 (vOf op m u v)) ∧ Below w.heap.size w w' := by
  have hR := Lib.hid (vOf_andi h m u v)
  have hB1 := fun o => Lib.hid ((Below.refl w.heap.size w).alloc (Nat.le_refl _) o)
  have i0 : (0 : Int) ≤ (na : Int) := by omega
  have i1 : (na : Int) < 6 := by omega
  have j0 : (0 : Int) ≤ (nb : Int) := by omega
  have j1 : (nb : Int) < 6 := by omega
  obtain rfl := bytes_of h
  go_enter Try.func238, Try.ntmps238
  go_wp2_with (fail)
  go_quiet (fail)
  go_wp2_with (fail)
  obtain ⟨wq, hwq⟩ : ∃ wq : World, wq = (w.alloc (.cells #[.string ⟨#[97,110,100,105]⟩, .int .i64 d, .int .i64 na, .int .i64 nb, .int .i64 m] 56)).drewN nq := ⟨_, rfl⟩
  rw [← hwq]
  have hb1 : Hid (Below w.heap.size w wq) := by rw [hwq]; exact below_drewN (hB1 _).out _
  obtain ⟨xa, _, _, _, xe⟩ := In.old (x := ⟨⟨#[97,110,100,105]⟩, d, na, nb, m⟩) (w2 := wq) (t := 56) rfl (by rw [hwq]; exact below_drewN (Below.refl _ _) _)
  clear hwq
  go_quiet ((first | (go_at_call 260; exact Calls.quiet_of_same (same_flip (trim_andi _))) | (go_at_call 131; exact Calls.quiet_of_same (same_flip (valueOfOp_any _ _ _ _ (by omega) (by omega) (by omega) (by omega) op_and)))))
  go_wp2
  go_ret
  exact ⟨ret_int (by rw [hR.out]), below_drewN hb1.out _⟩

set_option maxHeartbeats 2000000 in
theorem valueOf_xori (op : ByteArray) (d m : Int) (na nb : Nat) (b : Nat) (u v : Int) (w : World) (ha : na < 6) (hb : nb < 6) (hbb : b < w.heap.size) (ca : w.cell? ⟨b, na, none⟩ = some (.int .i64 u)) (cb : w.cell? ⟨b, nb, none⟩ = some (.int .i64 v)) (hu0 : 0 ≤ u) (hu1 : u ≤ 63) (hv0 : 0 ≤ v) (hv1 : v ≤ 63) (h : op.toList = [120,111,114,105]) (hm0 : 0 ≤ m) (hm1 : m ≤ 63) :
    Calls Try.prog 238 #[.pointer (some ⟨b, 0, none⟩), .agg #[.string op, .int .i64 d, .int .i64 na, .int .i64 nb, .int .i64 m]] w fun e w' => e = .returned (.int .i64 (vOf op m u v)) ∧ Below w.heap.size w w' := by
  have hR := Lib.hid (vOf_xori h m u v)
  have hB1 := fun o => Lib.hid ((Below.refl w.heap.size w).alloc (Nat.le_refl _) o)
  have i0 : (0 : Int) ≤ (na : Int) := by omega
  have i1 : (na : Int) < 6 := by omega
  have j0 : (0 : Int) ≤ (nb : Int) := by omega
  have j1 : (nb : Int) < 6 := by omega
  obtain rfl := bytes_of h
  go_enter Try.func238, Try.ntmps238
  go_wp2_with (fail)
  go_quiet (fail)
  go_wp2_with (fail)
  obtain ⟨wq, hwq⟩ : ∃ wq : World, wq = (w.alloc (.cells #[.string ⟨#[120,111,114,105]⟩, .int .i64 d, .int .i64 na, .int .i64 nb, .int .i64 m] 56)).drewN nq := ⟨_, rfl⟩
  rw [← hwq]
  have hb1 : Hid (Below w.heap.size w wq) := by rw [hwq]; exact below_drewN (hB1 _).out _
  obtain ⟨xa, _, _, _, xe⟩ := In.old (x := ⟨⟨#[120,111,114,105]⟩, d, na, nb, m⟩) (w2 := wq) (t := 56) rfl (by rw [hwq]; exact below_drewN (Below.refl _ _) _)
  clear hwq
  go_quiet ((first | (go_at_call 260; exact Calls.quiet_of_same (same_flip (trim_xori _))) | (go_at_call 131; exact Calls.quiet_of_same (same_flip (valueOfOp_any _ _ _ _ (by omega) (by omega) (by omega) (by omega) op_xor)))))
  go_wp2
  go_ret
  exact ⟨ret_int (by rw [hR.out]), below_drewN hb1.out _⟩

set_option maxHeartbeats 2000000 in
theorem valueOf_shli (op : ByteArray) (d m : Int) (na nb : Nat) (b : Nat) (u v : Int) (w : World) (ha : na < 6) (hb : nb < 6) (hbb : b < w.heap.size) (ca : w.cell? ⟨b, na, none⟩ = some (.int .i64 u)) (cb : w.cell? ⟨b, nb, none⟩ = some (.int .i64 v)) (hu0 : 0 ≤ u) (hu1 : u ≤ 63) (hv0 : 0 ≤ v) (hv1 : v ≤ 63) (h : op.toList = [115,104,108,105]) (hm0 : 1 ≤ m) (hm1 : m ≤ 5) :
    Calls Try.prog 238 #[.pointer (some ⟨b, 0, none⟩), .agg #[.string op, .int .i64 d, .int .i64 na, .int .i64 nb, .int .i64 m]] w fun e w' => e = .returned (.int .i64 (vOf op m u v)) ∧ Below w.heap.size w w' := by
  have hR := Lib.hid (vOf_shli h m u v)
  have hB1 := fun o => Lib.hid ((Below.refl w.heap.size w).alloc (Nat.le_refl _) o)
  have i0 : (0 : Int) ≤ (na : Int) := by omega
  have i1 : (na : Int) < 6 := by omega
  have j0 : (0 : Int) ≤ (nb : Int) := by omega
  have j1 : (nb : Int) < 6 := by omega
  obtain rfl := bytes_of h
  go_enter Try.func238, Try.ntmps238
  go_wp2_with (fail)
  go_quiet (fail)
  go_wp2_with (fail)
  obtain ⟨wq, hwq⟩ : ∃ wq : World, wq = (w.alloc (.cells #[.string ⟨#[115,104,108,105]⟩, .int .i64 d, .int .i64 na, .int .i64 nb, .int .i64 m] 56)).drewN nq := ⟨_, rfl⟩
  rw [← hwq]
  have hb1 : Hid (Below w.heap.size w wq) := by rw [hwq]; exact below_drewN (hB1 _).out _
  obtain ⟨xa, _, _, _, xe⟩ := In.old (x := ⟨⟨#[115,104,108,105]⟩, d, na, nb, m⟩) (w2 := wq) (t := 56) rfl (by rw [hwq]; exact below_drewN (Below.refl _ _) _)
  clear hwq
  go_quiet ((first | (go_at_call 260; exact Calls.quiet_of_same (same_flip (trim_shli _))) | (go_at_call 131; exact Calls.quiet_of_same (same_flip (valueOfOp_any _ _ _ _ (by omega) (by omega) (by omega) (by omega) op_shl)))))
  go_wp2
  go_ret
  exact ⟨ret_int (by rw [hR.out]), below_drewN hb1.out _⟩

set_option maxHeartbeats 2000000 in
theorem valueOf_shri (op : ByteArray) (d m : Int) (na nb : Nat) (b : Nat) (u v : Int) (w : World) (ha : na < 6) (hb : nb < 6) (hbb : b < w.heap.size) (ca : w.cell? ⟨b, na, none⟩ = some (.int .i64 u)) (cb : w.cell? ⟨b, nb, none⟩ = some (.int .i64 v)) (hu0 : 0 ≤ u) (hu1 : u ≤ 63) (hv0 : 0 ≤ v) (hv1 : v ≤ 63) (h : op.toList = [115,104,114,105]) (hm0 : 1 ≤ m) (hm1 : m ≤ 5) :
    Calls Try.prog 238 #[.pointer (some ⟨b, 0, none⟩), .agg #[.string op, .int .i64 d, .int .i64 na, .int .i64 nb, .int .i64 m]] w fun e w' => e = .returned (.int .i64 (vOf op m u v)) ∧ Below w.heap.size w w' := by
  have hR := Lib.hid (vOf_shri h m u v)
  have hB1 := fun o => Lib.hid ((Below.refl w.heap.size w).alloc (Nat.le_refl _) o)
  have i0 : (0 : Int) ≤ (na : Int) := by omega
  have i1 : (na : Int) < 6 := by omega
  have j0 : (0 : Int) ≤ (nb : Int) := by omega
  have j1 : (nb : Int) < 6 := by omega
  obtain rfl := bytes_of h
  go_enter Try.func238, Try.ntmps238
  go_wp2_with (fail)
  go_quiet (fail)
  go_wp2_with (fail)
  obtain ⟨wq, hwq⟩ : ∃ wq : World, wq = (w.alloc (.cells #[.string ⟨#[115,104,114,105]⟩, .int .i64 d, .int .i64 na, .int .i64 nb, .int .i64 m] 56)).drewN nq := ⟨_, rfl⟩
  rw [← hwq]
  have hb1 : Hid (Below w.heap.size w wq) := by rw [hwq]; exact below_drewN (hB1 _).out _
  obtain ⟨xa, _, _, _, xe⟩ := In.old (x := ⟨⟨#[115,104,114,105]⟩, d, na, nb, m⟩) (w2 := wq) (t := 56) rfl (by rw [hwq]; exact below_drewN (Below.refl _ _) _)
  clear hwq
  go_quiet ((first | (go_at_call 260; exact Calls.quiet_of_same (same_flip (trim_shri _))) | (go_at_call 131; exact Calls.quiet_of_same (same_flip (valueOfOp_any _ _ _ _ (by omega) (by omega) (by omega) (by omega) op_shr)))))
  go_wp2
  go_ret
  exact ⟨ret_int (by rw [hR.out]), below_drewN hb1.out _⟩

set_option maxHeartbeats 2000000 in
theorem valueOf_lea (op : ByteArray) (d m : Int) (na nb : Nat) (b : Nat) (u v : Int) (w : World) (ha : na < 6) (hb : nb < 6) (hbb : b < w.heap.size) (ca : w.cell? ⟨b, na, none⟩ = some (.int .i64 u)) (cb : w.cell? ⟨b, nb, none⟩ = some (.int .i64 v)) (hu0 : 0 ≤ u) (hu1 : u ≤ 63) (hv0 : 0 ≤ v) (hv1 : v ≤ 63) (h : op.toList = [108,101,97]) (hm0 : 1 ≤ m) (hm1 : m ≤ 3) :
    Calls Try.prog 238 #[.pointer (some ⟨b, 0, none⟩), .agg #[.string op, .int .i64 d, .int .i64 na, .int .i64 nb, .int .i64 m]] w fun e w' => e = .returned (.int .i64 (vOf op m u v)) ∧ Below w.heap.size w w' := by
  have hR := Lib.hid (vOf_lea h m u v)
  have hB1 := fun o => Lib.hid ((Below.refl w.heap.size w).alloc (Nat.le_refl _) o)
  have i0 : (0 : Int) ≤ (na : Int) := by omega
  have i1 : (na : Int) < 6 := by omega
  have j0 : (0 : Int) ≤ (nb : Int) := by omega
  have j1 : (nb : Int) < 6 := by omega
  go_enter Try.func238, Try.ntmps238
  go_wp2_with (fail)
  go_quiet (fail)
  obtain ⟨hq0, hq1⟩ := ap_bd ⟨#[115,104,108]⟩ v m hv0 hv1 (by omega) (by omega)
  have hb1 := Lib.hid (below_drewN (hB1 (.cells #[.string op, .int .i64 d, .int .i64 na, .int .i64 nb, .int .i64 m] 56)).out nq)
  go_wp2_with (fail)
  refine (valueOfOp_any _ _ _ _ (by omega) (by omega) (by omega) (by omega) op_shl).mono ?_
  rintro e w' ⟨rfl, rfl⟩
  go_wp2_with (fail)
  refine (valueOfOp_any _ _ _ _ (by omega) (by omega) hq0 hq1 op_add).mono ?_
  rintro e w' ⟨rfl, rfl⟩
  go_wp2
  go_ret
  exact ⟨ret_int (by rw [hR.out]), hb1.out⟩

set_option maxHeartbeats 2000000 in
theorem valueOf_plain (op : ByteArray) (d m : Int) (na nb : Nat) (b : Nat) (u v : Int) (w : World) (ha : na < 6) (hb : nb < 6) (hbb : b < w.heap.size) (ca : w.cell? ⟨b, na, none⟩ = some (.int .i64 u)) (cb : w.cell? ⟨b, nb, none⟩ = some (.int .i64 v)) (hu0 : 0 ≤ u) (hu1 : u ≤ 63) (hv0 : 0 ≤ v) (hv1 : v ≤ 63) (h : plainOp op) (hop : isOp op = true) :
    Calls Try.prog 238 #[.pointer (some ⟨b, 0, none⟩), .agg #[.string op, .int .i64 d, .int .i64 na, .int .i64 nb, .int .i64 m]] w fun e w' => e = .returned (.int .i64 (vOf op m u v)) ∧ Below w.heap.size w w' := by
  have hR := Lib.hid (vOf_plain h m u v)
  have hB1 := fun o => Lib.hid ((Below.refl w.heap.size w).alloc (Nat.le_refl _) o)
  have i0 : (0 : Int) ≤ (na : Int) := by omega
  have i1 : (na : Int) < 6 := by omega
  have j0 : (0 : Int) ≤ (nb : Int) := by omega
  have j1 : (nb : Int) < 6 := by omega
  obtain ⟨q0, q1, q2, q3, q4, q5, q6, q7⟩ := h
  go_enter Try.func238, Try.ntmps238
  go_wp2_with (fail)
  go_quiet (fail)
  go_wp2_with (go_at_call 131; refine (valueOfOp_any _ _ _ _ (by omega) (by omega) (by omega) (by omega) hop).mono ?_; rintro e w' ⟨rfl, rfl⟩)
  go_ret
  exact ⟨ret_int (by rw [hR.out]), below_drewN (hB1 _).out _⟩
end Go.Proofs.Ytmhdijklindipaa

namespace Go.Proofs.Ytmhdijklindipaa
open Go.RowKit
set_option linter.unusedVariables false
set_option maxRecDepth 100000

/-- Six words in cells from an address on. -/
def Six (w : World) (b o : Nat) (rs : List Int) : Prop := ∀ i, i < 6 → w.cell? ⟨b, o + i, none⟩ = some (.int .i64 (rs.getD i 0))
theorem Six.below {w w' : World} {b o : Nat} {rs : List Int} (h : Six w b o rs) {C : Nat} (hb : Below C w w') (hC : b < C) : Six w' b o rs := fun i hi => (hb.cell hC).trans (h i hi)
theorem Six.heap {w w' : World} {b o : Nat} {rs : List Int} (h : w'.heap = w.heap) (hc : Six w b o rs) : Six w' b o rs := fun i hi => by have := hc i hi; unfold World.cell? at *; rw [h]; exact this
theorem IS.six {w : World} {L B : Nat} {A : Option Addr} {rs : List Int} (h : IS w L B A rs) (h6 : rs.length = 6) : ∃ b o, A = some ⟨b, o, none⟩ ∧ (L ≤ b ∧ b < B) ∧ Six w b o rs := by
  obtain ⟨b, o, e, hb, hc⟩ := h (by omega)
  exact ⟨b, o, e, hb, fun i hi => by rw [hc i (by omega), List.getD_eq_getElem?_getD, List.getElem?_eq_getElem (by omega)]; rfl⟩
theorem cdValue_any (x : In) (b o c : Nat) (rs : List Int) (w : World) (hx : goodIn x = true) (h6 : words6 rs) (hbb : b < w.heap.size) (hc : Six w b o rs) :
    Calls Try.prog 237 #[.agg #[.string x.op, .int .i64 x.d, .int .i64 x.a, .int .i64 x.b, .int .i64 x.m], .slice (some ⟨b, o, none⟩) 6 c] w fun e w' => e = .returned (.int .i64 (vOf x.op x.m (rs.getD x.a.toNat 0) (rs.getD x.b.toNat 0))) ∧ Below w.heap.size w w' := by
  obtain ⟨hd, ha, hb, hok, hm⟩ := good_parts hx
  obtain ⟨op, d, a, b', m⟩ := x
  obtain ⟨na, rfl⟩ := Int.eq_ofNat_of_zero_le ha.1
  obtain ⟨nb, rfl⟩ := Int.eq_ofNat_of_zero_le hb.1
  have hu := getD_bd h6.2 na
  have hv := getD_bd h6.2 nb
  simp only at ha hb hm hok
  simp only [Int.toNat_natCast]
  rcases val_cases hok with h|h|h|h|h|h|h|h|⟨h, hop, _, _⟩
  · rw [fm_set h] at hm; exact cdValue_set op d m na nb b o c _ _ w (by omega) (by omega) hbb (hc na (by omega)) (hc nb (by omega)) hu.1 hu.2 hv.1 hv.2 h hm.1 hm.2
  · rw [fm_mov h] at hm; exact cdValue_mov op d m na nb b o c _ _ w (by omega) (by omega) hbb (hc na (by omega)) (hc nb (by omega)) hu.1 hu.2 hv.1 hv.2 h hm.1 hm.2
  · rw [fm_addi h] at hm; exact cdValue_addi op d m na nb b o c _ _ w (by omega) (by omega) hbb (hc na (by omega)) (hc nb (by omega)) hu.1 hu.2 hv.1 hv.2 h hm.1 hm.2
  · rw [fm_andi h] at hm; exact cdValue_andi op d m na nb b o c _ _ w (by omega) (by omega) hbb (hc na (by omega)) (hc nb (by omega)) hu.1 hu.2 hv.1 hv.2 h hm.1 hm.2
  · rw [fm_xori h] at hm; exact cdValue_xori op d m na nb b o c _ _ w (by omega) (by omega) hbb (hc na (by omega)) (hc nb (by omega)) hu.1 hu.2 hv.1 hv.2 h hm.1 hm.2
  · rw [fm_shli h] at hm; exact cdValue_shli op d m na nb b o c _ _ w (by omega) (by omega) hbb (hc na (by omega)) (hc nb (by omega)) hu.1 hu.2 hv.1 hv.2 h hm.1 hm.2
  · rw [fm_shri h] at hm; exact cdValue_shri op d m na nb b o c _ _ w (by omega) (by omega) hbb (hc na (by omega)) (hc nb (by omega)) hu.1 hu.2 hv.1 hv.2 h hm.1 hm.2
  · rw [fm_lea h] at hm; exact cdValue_lea op d m na nb b o c _ _ w (by omega) (by omega) hbb (hc na (by omega)) (hc nb (by omega)) hu.1 hu.2 hv.1 hv.2 h hm.1 hm.2
  · exact cdValue_plain op d m na nb b o c _ _ w (by omega) (by omega) hbb (hc na (by omega)) (hc nb (by omega)) hu.1 hu.2 hv.1 hv.2 h hop
theorem valueOf_any (x : In) (b : Nat) (rs : List Int) (w : World) (hx : goodIn x = true) (h6 : words6 rs) (hbb : b < w.heap.size) (hc : Six w b 0 rs) :
    Calls Try.prog 238 #[.pointer (some ⟨b, 0, none⟩), .agg #[.string x.op, .int .i64 x.d, .int .i64 x.a, .int .i64 x.b, .int .i64 x.m]] w fun e w' => e = .returned (.int .i64 (vOf x.op x.m (rs.getD x.a.toNat 0) (rs.getD x.b.toNat 0))) ∧ Below w.heap.size w w' := by
  obtain ⟨hd, ha, hb, hok, hm⟩ := good_parts hx
  obtain ⟨op, d, a, b', m⟩ := x
  obtain ⟨na, rfl⟩ := Int.eq_ofNat_of_zero_le ha.1
  obtain ⟨nb, rfl⟩ := Int.eq_ofNat_of_zero_le hb.1
  have hu := getD_bd h6.2 na
  have hv := getD_bd h6.2 nb
  have hc' : ∀ i, i < 6 → w.cell? ⟨b, i, none⟩ = some (.int .i64 (rs.getD i 0)) := fun i hi => by have := hc i hi; rwa [Nat.zero_add] at this
  simp only at ha hb hm hok
  simp only [Int.toNat_natCast]
  rcases val_cases hok with h|h|h|h|h|h|h|h|⟨h, hop, _, _⟩
  · rw [fm_set h] at hm; exact valueOf_set op d m na nb b _ _ w (by omega) (by omega) hbb (hc' na (by omega)) (hc' nb (by omega)) hu.1 hu.2 hv.1 hv.2 h hm.1 hm.2
  · rw [fm_mov h] at hm; exact valueOf_mov op d m na nb b _ _ w (by omega) (by omega) hbb (hc' na (by omega)) (hc' nb (by omega)) hu.1 hu.2 hv.1 hv.2 h hm.1 hm.2
  · rw [fm_addi h] at hm; exact valueOf_addi op d m na nb b _ _ w (by omega) (by omega) hbb (hc' na (by omega)) (hc' nb (by omega)) hu.1 hu.2 hv.1 hv.2 h hm.1 hm.2
  · rw [fm_andi h] at hm; exact valueOf_andi op d m na nb b _ _ w (by omega) (by omega) hbb (hc' na (by omega)) (hc' nb (by omega)) hu.1 hu.2 hv.1 hv.2 h hm.1 hm.2
  · rw [fm_xori h] at hm; exact valueOf_xori op d m na nb b _ _ w (by omega) (by omega) hbb (hc' na (by omega)) (hc' nb (by omega)) hu.1 hu.2 hv.1 hv.2 h hm.1 hm.2
  · rw [fm_shli h] at hm; exact valueOf_shli op d m na nb b _ _ w (by omega) (by omega) hbb (hc' na (by omega)) (hc' nb (by omega)) hu.1 hu.2 hv.1 hv.2 h hm.1 hm.2
  · rw [fm_shri h] at hm; exact valueOf_shri op d m na nb b _ _ w (by omega) (by omega) hbb (hc' na (by omega)) (hc' nb (by omega)) hu.1 hu.2 hv.1 hv.2 h hm.1 hm.2
  · rw [fm_lea h] at hm; exact valueOf_lea op d m na nb b _ _ w (by omega) (by omega) hbb (hc' na (by omega)) (hc' nb (by omega)) hu.1 hu.2 hv.1 hv.2 h hm.1 hm.2
  · exact valueOf_plain op d m na nb b _ _ w (by omega) (by omega) hbb (hc' na (by omega)) (hc' nb (by omega)) hu.1 hu.2 hv.1 hv.2 h hop
end Go.Proofs.Ytmhdijklindipaa
