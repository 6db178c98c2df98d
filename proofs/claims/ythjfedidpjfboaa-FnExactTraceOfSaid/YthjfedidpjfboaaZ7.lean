/- Texts of this proof, one behind the other: RN, RO, BL, BM, TAm, BJ. -/
import Derived.Test.YthjfedidpjfboaaZ8
import Derived.WalkKit
import Derived.WalkSpells
import Derived.WalkLawsBesides
import Derived.Lib.Hide
import Derived.Test.YthjfedidpjfboaaA
import Derived.Test.YthjfedidpjfboaaTA
import Derived.Test.YthjfedidpjfboaaZ10
import Derived.Test.YthjfedidpjfboaaZ9
/- Names of registers: the plain model. No program. -/
namespace Go.Proofs.Ythjfedidpjfboaa
open Go.RowKit
set_option linter.unusedVariables false

def riseB (xs : List Int) : Bool := allIn xs 0 5 && decide (xs.Pairwise (· < ·))
def onceB (xs : List Int) : Bool := decide xs.Nodup
def namesOk (xs : List Int) : Bool := xs.length == 6 && allIn xs 0 5 && onceB xs
theorem allIn_perm {xs ys : List Int} {lo hi : Int} (h : xs.Perm ys) : allIn xs lo hi = allIn ys lo hi := by
  rw [Bool.eq_iff_iff]; simp only [allIn, List.all_eq_true]
  exact ⟨fun k x hx => k x (h.mem_iff.2 hx), fun k x hx => k x (h.mem_iff.1 hx)⟩
theorem sorted_perm (xs : List Int) : (sorted xs).Perm xs := List.mergeSort_perm _ _
theorem sorted_le (xs : List Int) : (sorted xs).Pairwise (· ≤ ·) := by
  have := List.pairwise_mergeSort (le := fun (x y : Int) => decide (x ≤ y)) (by intro a b c; simp; omega) (by intro a b; simp; omega) xs
  exact this.imp fun h => by simpa using h
theorem lt_of_le {xs : List Int} (h : xs.Pairwise (· ≤ ·)) (hn : xs.Nodup) : xs.Pairwise (· < ·) := by
  refine (h.and hn).imp ?_
  rintro a b ⟨h1, h2⟩; omega
theorem nodup_of_lt {xs : List Int} (h : xs.Pairwise (· < ·)) : xs.Nodup := h.imp fun h => by omega
theorem rise_sorted (xs : List Int) : riseB (sorted xs) = (allIn xs 0 5 && onceB xs) := by
  unfold riseB onceB
  rw [allIn_perm (sorted_perm xs)]
  congr 1
  rw [decide_eq_decide]
  exact ⟨fun h => (sorted_perm xs).nodup_iff.1 (nodup_of_lt h), fun h => lt_of_le (sorted_le xs) ((sorted_perm xs).nodup_iff.2 h)⟩
theorem once_no {xs : List Int} {k : Nat} (h : k < xs.length) (hh : hasI (xs.take k) xs[k] = true) : onceB xs = false := by
  simp only [onceB, decide_eq_false_iff_not]
  intro hn
  have h1 : (xs.take (k + 1)).Nodup := hn.sublist (List.take_sublist _ _)
  rw [List.take_succ_eq_append_getElem h, List.nodup_append] at h1
  obtain ⟨x, hx, he⟩ := List.any_eq_true.1 hh
  exact h1.2.2 x hx xs[k] (by simp) (by simpa using he)
theorem once_snoc {xs : List Int} {k : Nat} (h : k < xs.length) (ho : onceB (xs.take k) = true) (hh : hasI (xs.take k) xs[k] = false) : onceB (xs.take (k + 1)) = true := by
  simp only [onceB, decide_eq_true_eq] at ho ⊢
  rw [List.take_succ_eq_append_getElem h, List.nodup_append]
  refine ⟨ho, by simp, fun a ha b hb => ?_⟩
  simp at hb; subst hb
  intro he; subst he
  have : hasI (xs.take k) xs[k] = true := List.any_eq_true.2 ⟨_, ha, by simp⟩
  rw [hh] at this; cases this
theorem rise_reg {xs : List Int} {k : Nat} (h : k < xs.length) (hh : inR xs[k] 0 5 = false) : riseB xs = false := by
  have : allIn xs 0 5 = false := by
    cases hb : allIn xs 0 5
    · rfl
    · have := List.all_eq_true.1 hb xs[k] (List.getElem_mem h); rw [hh] at this; cases this
  simp [riseB, this]
theorem rise_le {xs : List Int} {k : Nat} (h : k + 1 < xs.length) (hh : xs[k + 1] ≤ xs[k]) : riseB xs = false := by
  have : ¬ xs.Pairwise (· < ·) := fun hp => by
    have := List.pairwise_iff_getElem.1 hp k (k + 1) (by omega) h (by omega); omega
  simp [riseB, this]
theorem rise_snoc0 {xs : List Int} (h : 0 < xs.length) (hr : inR xs[0] 0 5 = true) : riseB (xs.take 1) = true := by
  obtain _ | ⟨x, xs⟩ := xs
  · simp at h
  · simp [riseB, allIn] at hr ⊢; exact hr
theorem rise_snoc {xs : List Int} {k : Nat} (h : k + 1 < xs.length) (ho : riseB (xs.take (k + 1)) = true) (hr : inR xs[k + 1] 0 5 = true) (hh : xs[k] < xs[k + 1]) : riseB (xs.take (k + 2)) = true := by
  simp only [riseB, Bool.and_eq_true, decide_eq_true_eq] at ho ⊢
  refine ⟨by rw [allIn_snoc h, ho.1, hr]; rfl, ?_⟩
  rw [List.pairwise_iff_getElem] at *
  intro i j hi hj hij
  simp only [List.length_take] at hi hj
  simp only [List.getElem_take]
  have hp := fun i j (hi : i < k + 1) (hj : j < k + 1) (hij : i < j) => by
    have := ho.2 i j (by simp; omega) (by simp; omega) hij; simpa using this
  by_cases hj1 : j = k + 1
  · subst hj1
    by_cases hi1 : i = k
    · subst hi1; exact hh
    · have := hp i k (by omega) (by omega) (by omega)
      omega
  · exact hp i j (by omega) (by omega) hij
def ren (ns : List Int) (x : In) : In := ⟨x.op, ns.getD x.d.toNat 0, if (fm x.op).a = true then ns.getD x.a.toNat 0 else 0, if (fm x.op).b = true then ns.getD x.b.toNat 0 else 0, x.m⟩
def renR (es : List In) (ns : List Int) : List In := if (okCode es && namesOk ns) = true then es.map (ren ns) else []
theorem renR_len (es : List In) (ns : List Int) : (renR es ns).length ≤ 1048576 := by
  unfold renR; split
  · rename_i h; simp only [Bool.and_eq_true] at h
    have := okCode_len h.1; simp; omega
  · simp
theorem names6 {ns : List Int} (h : namesOk ns = true) : ns.length = 6 := by
  simp only [namesOk, Bool.and_eq_true, beq_iff_eq] at h; exact h.1.1
theorem good_zero {x : In} (h : goodIn x = true) : ((fm x.op).a = false → x.a = 0) ∧ ((fm x.op).b = false → x.b = 0) := by
  simp only [goodIn, opnd, Bool.and_eq_true, Bool.or_eq_true, beq_iff_eq] at h
  obtain ⟨⟨⟨⟨h1, h2⟩, h3⟩, h4⟩, h5⟩ := h
  constructor
  · intro ha; rcases h3 with h | h
    · exact h
    · rw [ha] at h; simp at h
  · intro ha; rcases h4 with h | h
    · exact h
    · rw [ha] at h; simp at h
end Go.Proofs.Ythjfedidpjfboaa

namespace Go.Proofs.Ythjfedidpjfboaa
open Go.RowKit
set_option linter.unusedVariables false
set_option maxRecDepth 100000

theorem IS.take {w : World} {L B : Nat} {A : Option Addr} {xs : List Int} (h : IS w L B A xs) (k : Nat) : IS w L B A (xs.take k) := by
  intro hn
  rw [List.length_take] at hn
  obtain ⟨b, o, e, hb, hc⟩ := h (by omega)
  refine ⟨b, o, e, hb, fun i hi => ?_⟩
  have hi' : i < xs.length := by rw [List.length_take] at hi; omega
  rw [List.getElem_take]; exact hc i hi'
set_option maxHeartbeats 1000000 in
theorem areRegisters_any (L B : Nat) (A : Option Addr) (c : Nat) (xs : List Int) (w : World) (hl : xs.length ≤ 1048576) (hx : IS w L B A xs) :
    Calls Try.prog 95 #[.slice A xs.length c] w fun e w' => e = .returned (.bool (riseB xs)) ∧ w = w' := by
  have hX := Lib.hid hx; clear hx
  go_enter Try.func95, Try.ntmps95
  go_wp2
  go_loop [7] (fun i => ∃ k : Nat, k ≤ xs.length ∧ i = .int .i64 k ∧ riseB (xs.take k) = true) (fun i => xs.length - (intOf i).toNat)
  case atStart => exact ⟨0, Nat.zero_le _, rfl, rfl⟩
  case round =>
    obtain ⟨k, hk, rfl, hh⟩ := hrel
    have hH := Lib.hid hh; clear hh
    by_cases hlt : k < xs.length
    · obtain ⟨b, o, rfl, _, hc⟩ := hX.out (by omega)
      cases k with
      | zero =>
        have hcell : w.cell? ⟨b, o, none⟩ = _ := hc 0 hlt
        clear hc
        have hNo := Lib.hid (rise_reg hlt)
        have hS := Lib.hid (rise_snoc0 hlt)
        generalize xs[0] = x at *
        cases hb : reg x
        · have hF := Lib.hid (hNo.out hb)
          go_wp2_with (go_at_call 114; refine (isRegister_any _ _).mono ?_; rintro e w' ⟨rfl, rfl⟩)
          go_ret
          exact ⟨ret_bool hF.out.symm, rfl⟩
        · have hS' := Lib.hid (hS.out hb)
          go_wp2_with (go_at_call 114; refine (isRegister_any _ _).mono ?_; rintro e w' ⟨rfl, rfl⟩)
          go_round
          case rel => exact ⟨1, by omega, by go_num, hS'.out⟩
          case measure => simp [intOf]; omega
      | succ k =>
        have hcell := hc (k + 1) hlt
        have hcell2 := hc k (by omega)
        clear hc
        have hNo := Lib.hid (rise_reg hlt)
        have hLe := Lib.hid (rise_le hlt)
        have hS := Lib.hid (rise_snoc hlt hH.out)
        generalize xs[k + 1] = x at *
        generalize xs[k] = y at *
        cases hb : reg x
        · have hF := Lib.hid (hNo.out hb)
          go_wp2_with (go_at_call 114; refine (isRegister_any _ _).mono ?_; rintro e w' ⟨rfl, rfl⟩)
          go_ret
          exact ⟨ret_bool hF.out.symm, rfl⟩
        · by_cases hxy : x ≤ y
          · have hF := Lib.hid (hLe.out hxy)
            go_wp2_with (go_at_call 114; refine (isRegister_any _ _).mono ?_; rintro e w' ⟨rfl, rfl⟩)
            go_ret
            exact ⟨ret_bool hF.out.symm, rfl⟩
          · have hS' := Lib.hid (hS.out hb (by omega))
            go_wp2_with (go_at_call 114; refine (isRegister_any _ _).mono ?_; rintro e w' ⟨rfl, rfl⟩)
            go_round
            case rel => exact ⟨k + 2, by omega, by go_num, hS'.out⟩
            case measure => simp [intOf]; omega
    · obtain rfl : k = xs.length := by omega
      go_wp2
      go_ret
      exact ⟨ret_bool (by have := hH.out; rw [List.take_length] at this; rw [this]), rfl⟩

end Go.Proofs.Ythjfedidpjfboaa

/- What is alive before a code, and the code without what is dead: plain. -/
namespace Go.Proofs.Ythjfedidpjfboaa
open Go.RowKit
set_option linter.unusedVariables false

def lvS (bs : List Bool) (cs : List In) : List Bool := cs.foldr (fun x b => bkB b x) bs
def ddStep (x : In) (p : List In × List Bool) : List In × List Bool := if p.2.getD x.d.toNat false = true then (x :: p.1, bkB p.2 x) else p
def ddS (bs : List Bool) (cs : List In) : List In × List Bool := cs.foldr ddStep ([], bs)
theorem lvS_drop (bs : List Bool) {cs : List In} {k : Nat} (h : k < cs.length) : lvS bs (cs.drop k) = bkB (lvS bs (cs.drop (k + 1))) cs[k] := by
  unfold lvS; rw [List.drop_eq_getElem_cons h, List.foldr_cons]
theorem ddS_drop (bs : List Bool) {cs : List In} {k : Nat} (h : k < cs.length) : ddS bs (cs.drop k) = ddStep cs[k] (ddS bs (cs.drop (k + 1))) := by
  unfold ddS; rw [List.drop_eq_getElem_cons h, List.foldr_cons]
theorem lvS_len (bs : List Bool) : ∀ cs : List In, (lvS bs cs).length = bs.length
  | [] => rfl
  | x :: cs => by show (bkB (lvS bs cs) x).length = _; rw [bkB_len, lvS_len bs cs]
theorem ddS_len (bs : List Bool) : ∀ cs : List In, (ddS bs cs).1.length ≤ cs.length ∧ (ddS bs cs).2.length = bs.length
  | [] => ⟨Nat.le_refl _, rfl⟩
  | x :: cs => by
    have ih := ddS_len bs cs
    show (ddStep x (ddS bs cs)).1.length ≤ _ ∧ (ddStep x (ddS bs cs)).2.length = _
    unfold ddStep
    split
    · exact ⟨by simp; omega, by rw [bkB_len]; exact ih.2⟩
    · exact ⟨by simp; omega, ih.2⟩
/-- The model's lists and the program's bits. -/
theorem lvS_bits {bs : List Bool} (hl : bs.length = 6) : ∀ {cs : List In}, (∀ x ∈ cs, goodIn x = true) → cs.foldr (fun x L => lvB x L) (mkT bs) = mkT (lvS bs cs)
  | [], _ => rfl
  | x :: cs, h => by
    rw [List.foldr_cons, lvS_bits hl (fun y hy => h y (by simp [hy])), lvB_bits (h x (by simp)) (by rw [lvS_len]; exact hl)]; rfl
theorem ddS_good (bs : List Bool) : ∀ {cs : List In}, (∀ x ∈ cs, goodIn x = true) → ∀ x ∈ (ddS bs cs).1, goodIn x = true
  | [], _ => by intro x hx; cases hx
  | y :: cs, h => by
    have ih := ddS_good bs (cs := cs) (fun z hz => h z (by simp [hz]))
    show ∀ x ∈ (ddStep y (ddS bs cs)).1, goodIn x = true
    unfold ddStep
    split
    · intro x hx
      rcases List.mem_cons.mp hx with rfl | hx
      · exact h _ (by simp)
      · exact ih x hx
    · exact ih
/-- Two lists of numbers that increase and hold the same are the same. -/
theorem inc_ext : ∀ {a b : List Int}, a.Pairwise (· < ·) → b.Pairwise (· < ·) → (∀ x, x ∈ a ↔ x ∈ b) → a = b
  | [], [], _, _, _ => rfl
  | [], y :: b, _, _, h => absurd ((h y).2 (by simp)) (by simp)
  | x :: a, [], _, _, h => absurd ((h x).1 (by simp)) (by simp)
  | x :: a, y :: b, ha, hb, h => by
    rw [List.pairwise_cons] at ha hb
    have hxy : x = y := by
      rcases List.mem_cons.mp ((h x).1 (by simp)) with e | hx
      · exact e
      · rcases List.mem_cons.mp ((h y).2 (by simp)) with e | hy
        · exact e.symm
        · have := hb.1 x hx; have := ha.1 y hy; omega
    subst hxy
    congr 1
    refine inc_ext ha.2 hb.2 fun z => ⟨fun hz => ?_, fun hz => ?_⟩
    · rcases List.mem_cons.mp ((h z).1 (by simp [hz])) with e | hz'
      · have := ha.1 z hz; omega
      · exact hz'
    · rcases List.mem_cons.mp ((h z).2 (by simp [hz])) with e | hz'
      · have := hb.1 z hz; omega
      · exact hz'
theorem mkT_inc (bs : List Bool) : (mkT bs).Pairwise (· < ·) := by
  unfold mkT
  rw [List.pairwise_map]
  exact ((List.pairwise_lt_range (n := 6)).filter _).imp (fun h => by omega)
theorem rise_bits {xs : List Int} (h : riseB xs = true) : (∀ r ∈ xs, In6 r) ∧ mkT (setsTo xs xs.length) = xs := by
  unfold riseB at h
  rw [Bool.and_eq_true] at h
  have hin : ∀ r ∈ xs, In6 r := fun r hr => by
    have h1 := h.1
    simp [allIn, inR] at h1
    have := h1 r hr
    unfold In6; omega
  refine ⟨hin, inc_ext (mkT_inc _) (of_decide_eq_true h.2) fun z => ?_⟩
  unfold setsTo
  rw [List.take_length]
  have hg := setsB_get xs (List.replicate 6 false) hin rfl
  constructor
  · intro hz
    obtain ⟨z0, z5⟩ := mkT_in z hz
    obtain ⟨i, rfl⟩ := Int.eq_ofNat_of_zero_le z0
    have := (mem_mkT (bs := setsB (List.replicate 6 false) xs) (i := i) (by omega)).1 hz
    rcases (hg i (by omega)).1 this with e | e
    · exfalso
      have : ∀ j, j < 6 → (List.replicate 6 false).getD j false = false := by decide
      rw [this i (by omega)] at e; cases e
    · exact e
  · intro hz
    obtain ⟨z0, z5⟩ := hin z hz
    obtain ⟨i, rfl⟩ := Int.eq_ofNat_of_zero_le z0
    exact (mem_mkT (by omega)).2 ((hg i (by omega)).2 (.inr hz))
end Go.Proofs.Ythjfedidpjfboaa

/- cdWanted of the model. -/
namespace Go.Proofs.Ythjfedidpjfboaa
open Go.RowKit
set_option linter.unusedVariables false
set_option maxRecDepth 100000

set_option maxHeartbeats 1000000 in
theorem l1Rising_any (L B : Nat) (A : Option Addr) (c : Nat) (xs : List Int) (w : World) (hl : xs.length ≤ 1048576) (hx : IS w L B A xs) :
    Calls Try.prog 149 #[.slice A xs.length c, .int .i64 0, .int .i64 5] w fun e w' => e = .returned (.bool (riseB xs)) ∧ w = w' := by
  have hX := Lib.hid hx; clear hx
  go_enter Try.func149, Try.ntmps149
  go_wp2
  go_loop [11] (fun i => ∃ k : Nat, k ≤ xs.length ∧ i = .int .i64 k ∧ riseB (xs.take k) = true) (fun i => xs.length - (intOf i).toNat)
  case atStart => exact ⟨0, Nat.zero_le _, rfl, rfl⟩
  case round =>
    obtain ⟨k, hk, rfl, hh⟩ := hrel
    have hH := Lib.hid hh; clear hh
    by_cases hlt : k < xs.length
    · obtain ⟨b, o, rfl, _, hc⟩ := hX.out (by omega)
      cases k with
      | zero =>
        have hcell : w.cell? ⟨b, o, none⟩ = _ := hc 0 hlt
        clear hc
        have hNo := Lib.hid (rise_reg hlt)
        have hS := Lib.hid (rise_snoc0 hlt)
        generalize xs[0] = x at *
        have hC := Lib.hid fun (W : World) => (show Calls Try.prog 137 #[.int .i64 x, .int .i64 0, .int .i64 5] W fun e w' => e = .returned (.bool (inR x 0 5)) ∧ W = w' from l1In_any x 0 5 W)
        cases hb : inR x 0 5 <;> rw [hb] at hC
        · have hF := Lib.hid (hNo.out hb)
          go_wp2_with (go_at_call 137; refine (hC.out _).mono ?_; rintro e w' ⟨rfl, rfl⟩)
          go_ret
          exact ⟨ret_bool hF.out.symm, rfl⟩
        · have hS' := Lib.hid (hS.out hb)
          go_wp2_with (go_at_call 137; refine (hC.out _).mono ?_; rintro e w' ⟨rfl, rfl⟩)
          go_round
          case rel => exact ⟨1, by omega, by go_num, hS'.out⟩
          case measure => simp [intOf]; omega
      | succ k =>
        have hcell := hc (k + 1) hlt
        have hcell2 := hc k (by omega)
        clear hc
        have hNo := Lib.hid (rise_reg hlt)
        have hLe := Lib.hid (rise_le hlt)
        have hS := Lib.hid (rise_snoc hlt hH.out)
        generalize xs[k + 1] = x at *
        generalize xs[k] = y at *
        have hC := Lib.hid fun (W : World) => (show Calls Try.prog 137 #[.int .i64 x, .int .i64 0, .int .i64 5] W fun e w' => e = .returned (.bool (inR x 0 5)) ∧ W = w' from l1In_any x 0 5 W)
        cases hb : inR x 0 5 <;> rw [hb] at hC
        · have hF := Lib.hid (hNo.out hb)
          go_wp2_with (go_at_call 137; refine (hC.out _).mono ?_; rintro e w' ⟨rfl, rfl⟩)
          go_ret
          exact ⟨ret_bool hF.out.symm, rfl⟩
        · by_cases hxy : x ≤ y
          · have hF := Lib.hid (hLe.out hxy)
            go_wp2_with (go_at_call 137; refine (hC.out _).mono ?_; rintro e w' ⟨rfl, rfl⟩)
            go_ret
            exact ⟨ret_bool hF.out.symm, rfl⟩
          · have hS' := Lib.hid (hS.out hb (by omega))
            go_wp2_with (go_at_call 137; refine (hC.out _).mono ?_; rintro e w' ⟨rfl, rfl⟩)
            go_round
            case rel => exact ⟨k + 2, by omega, by go_num, hS'.out⟩
            case measure => simp [intOf]; omega
    · obtain rfl : k = xs.length := by omega
      go_wp2
      go_ret
      exact ⟨ret_bool (by have := hH.out; rw [List.take_length] at this; rw [this]), rfl⟩

theorem cdWanted_any (L B : Nat) (A : Option Addr) (c : Nat) (xs : List Int) (w : World) (hl : xs.length ≤ 1048576) (hx : IS w L B A xs) :
    Calls Try.prog 90 #[.slice A xs.length c] w fun e w' => e = .returned (.bool (riseB xs)) ∧ w = w' := by
  have H := Lib.hid (l1Rising_any L B A c xs w hl hx)
  generalize riseB xs = r at *
  clear hx
  go_enter Try.func90, Try.ntmps90
  go_wp2_with (go_at_call 149; refine H.out.mono ?_; rintro e w' ⟨rfl, rfl⟩)
  go_ret
  exact ⟨rfl, rfl⟩
end Go.Proofs.Ythjfedidpjfboaa

/- The model's TemporariesOf. -/
namespace Go.Proofs.Ythjfedidpjfboaa
open Go.RowKit
set_option linter.unusedVariables false
set_option maxRecDepth 100000

end Go.Proofs.Ythjfedidpjfboaa

/- What is alive before an instruction: the model. -/
namespace Go.Proofs.Ythjfedidpjfboaa
open Go.RowKit
set_option linter.unusedVariables false
set_option maxRecDepth 100000

set_option maxHeartbeats 4000000 in
theorem cdBefore_any (L0 B0 : Nat) (A : Option Addr) (c : Nat) (x : In) (L : List Int) (w : World) (hl : L.length ≤ 6) (hL : IS w L0 B0 A L) (hB : B0 ≤ w.heap.size) :
    Calls Try.prog 93 #[.agg #[.string x.op, .int .i64 x.d, .int .i64 x.a, .int .i64 x.b, .int .i64 x.m], .slice A L.length c] w (OwnI w.heap.size w (lvB x L)) := by
  have hP := Lib.hid fun (W : World) (hW : Below w.heap.size w W) => hL.below hW hB
  have h0 := Lib.hid (lvTo_zero x L)
  have hZ : Hid (lvB x L = lvTo x L L.length) := rfl
  have hSa := Lib.hid fun (k : Nat) (h : k < L.length) => lvTo_same (x := x) (L := L) h
  have hSp := Lib.hid fun (k : Nat) (h : k < L.length) => lvTo_put (x := x) (L := L) h
  have hLn := Lib.hid fun (k : Nat) => lvTo_len x L k
  have hRd := Lib.hid fun (W : World) => cdReads_any x W
  have ba := (Below.refl w.heap.size w).alloc (Nat.le_refl _) (.cells #[.string x.op, .int .i64 x.d, .int .i64 x.a, .int .i64 x.b, .int .i64 x.m] 90)
  have nb : CB 90 (w.alloc (.cells #[.string x.op, .int .i64 x.d, .int .i64 x.a, .int .i64 x.b, .int .i64 x.m] 90)) w.heap.size [.string x.op, .int .i64 x.d, .int .i64 x.a, .int .i64 x.b, .int .i64 x.m] := heap_alloc_new w _
  have hBa := Lib.hid ba
  have hNb := Lib.hid nb
  clear hL hB ba nb
  obtain ⟨op, d, a, b, m⟩ := x
  dsimp only at hRd hNb hBa hSa hSp ⊢
  generalize readsL ⟨op, d, a, b, m⟩ = R at *
  generalize lvB ⟨op, d, a, b, m⟩ L = Z at *
  generalize lvTo ⟨op, d, a, b, m⟩ L = F at *
  go_enter Try.func93, Try.ntmps93
  go_wp2_with (go_at_call 150; refine (hRd.out _).mono ?_; rintro e w2 ⟨A2, c2, rfl, ho, hb2⟩)
  have hb2h := Lib.hid hb2
  have hO2 := Lib.hid (ho.lower hBa.out.size : OW w2 w.heap.size w2.heap.size (.slice A2 R.length c2) R)
  have hB2 := Lib.hid (hBa.out.trans (hb2.mono hBa.out.size))
  have n1 := CB.cell (CB.below hNb.out hb2 (CB.lt hNb.out)) 1
  simp only [List.getElem?_cons_zero, List.getElem?_cons_succ] at n1
  have hn1 := Lib.hid n1
  have hwl := Lib.hid (show w.heap.size < w2.heap.size from Nat.lt_of_lt_of_le (CB.lt hNb.out) hb2.size)
  clear hb2 ho n1
  go_loopw [5, 12] (fun v i wr => ∃ k : Nat, k ≤ L.length ∧ i = .int .i64 k ∧ OW wr w.heap.size wr.heap.size v (F k) ∧ Below w2.heap.size w2 wr) (fun _ i _ => L.length - (intOf i).toNat)
  case atStart => exact ⟨0, Nat.zero_le _, rfl, by rw [h0.out]; exact hO2.out, Below.refl _ _⟩
  case round =>
    obtain ⟨k, hk, rfl, how, hbel⟩ := hrel
    have hBL := Lib.hid hbel
    have hO := Lib.hid how
    have hBw := Lib.hid (hB2.out.trans (hbel.mono (Nat.le_of_lt hwl.out)))
    have hFl := hLn.out k
    by_cases hlt : k < L.length
    · obtain ⟨A3, c3, rfl, _⟩ := how.form
      obtain ⟨pb, po, rfl, ⟨_, hpb⟩, hcc⟩ := (hP.out _ hBw.out) (by omega)
      have y1 := hcc k hlt
      have m1 := (hbel.cell (p := ⟨w.heap.size, 1, none⟩) hwl.out).trans hn1.out
      have hsa := Lib.hid (hSa.out k hlt)
      have hsp := Lib.hid (hSp.out k hlt)
      clear hcc hbel how
      generalize L[k] = r at *
      generalize hnx : F (k + 1) = nx at *
      have hnx2 := Lib.hid hnx
      clear hnx
      generalize F k = ts at *
      by_cases hrd : r = d
      · have hs := Lib.hid (hsa.out hrd)
        have hq := Lib.hid (show (r == d) = true by simpa using hrd)
        subst hrd
        clear hsa hsp
        go_wp2
        go_roundw
        case rel => exact ⟨k + 1, by omega, by go_num, by rw [hnx2.out, hs.out]; exact hO.out, hBL.out⟩
        case measure => simp [intOf]; omega
      · have hs := Lib.hid (hsp.out hrd)
        have hq : (r == d) = false := by simpa using hrd
        clear hsa hsp
        have hPut := fun (W : World) (hW : Below wr.heap.size wr W) => Lib.hid (l1Put_any w.heap.size W.heap.size A3 ts.length c3 ts r W rfl (by omega) ((hO.out.below hW (Nat.le_refl _)).more hW.size) (Nat.le_trans hBw.out.size hW.size) (Nat.le_refl _))
        go_wp2_with (go_at_call 151; (with_reducible refine (hPut _ (Below.refl _ _)).out.mono ?_); rintro e w3 ⟨A4, c4, rfl, ho3, hb3⟩)
        have hO3 := Lib.hid ho3
        have hB3 := Lib.hid (hBL.out.trans (hb3.mono hBL.out.size))
        clear ho3 hb3
        go_roundw
        case rel => exact ⟨k + 1, by omega, by go_num, by rw [hnx2.out, hs.out]; exact hO3.out, hB3.out⟩
        case measure => simp [intOf]; omega
    · obtain rfl : k = L.length := by omega
      obtain ⟨A3, c3, rfl, _⟩ := how.form
      clear how hbel
      go_wp2
      go_ret
      exact ⟨A3, c3, by rw [hZ.out]; rfl, by rw [hZ.out]; exact hO.out, hBw.out⟩
end Go.Proofs.Ythjfedidpjfboaa
