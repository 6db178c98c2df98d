/- Texts of this proof, one behind the other: NAA, NAD, NAE, NAT, NAU, OC. -/
import Derived.Test.YtpgdccfpegdcoaaZ2
import Derived.Test.YtpgdccfpegdcoaaZ7
import Derived.WalkKit
import Derived.WalkSpells
import Derived.WalkLawsBesides
import Derived.Deep.RegionLaw
import Derived.Deep.RegionHeld3
import Derived.Lib.Hide
import Derived.Test.YtpgdccfpegdcoaaZ3
import Derived.Test.YtpgdccfpegdcoaaLawN9A
import Derived.Test.YtpgdccfpegdcoaaKMInstr
import Derived.ProofKit
import Derived.OpenShut
import Derived.ShutString
import Derived.ChangeOld
import Derived.Below
import Derived.Deep.Slices
import Derived.Deep.Fields
/- Chapter 9: schedules, plain; hasRoom, isWide, orWide. -/
namespace Go.Proofs.Ytpgdccfpegdcoaa
open Go.RowKit
set_option linter.unusedVariables false
set_option maxRecDepth 100000

def cntE (xs : List Int) (c : Int) : Nat := (xs.filter fun x => x == c).length
theorem cntE_snoc {xs : List Int} {k : Nat} (c : Int) (h : k < xs.length) : cntE (xs.take (k + 1)) c = cntE (xs.take k) c + (if xs[k] = c then 1 else 0) := by
  unfold cntE
  rw [List.take_succ_eq_append_getElem h, List.filter_append, List.length_append]
  congr 1
  by_cases e : xs[k] = c
  · rw [if_pos e]; simp [e]
  · rw [if_neg e]; simp [e]
theorem cntE_le (xs : List Int) (c : Int) : cntE xs c ≤ xs.length := List.length_filter_le _ _
theorem cntE_take (xs : List Int) (c : Int) : ∀ k, k ≤ xs.length → cntE (xs.take k) c ≤ cntE xs c := fun k hk => by
  unfold cntE
  exact ((List.take_sublist k xs).filter _).length_le
theorem hasRoom_any (L B : Nat) (A : Option Addr) (m c' : Nat) (xs : List Int) (c wide : Int) (w : World) (hm : m = xs.length) (hl : xs.length ≤ 1000) (hw : 0 ≤ wide ∧ wide ≤ 1000) (hx : IS w L B A xs) :
    Calls Try.prog 102 #[.slice A m c', .int .i64 c, .int .i64 wide] w fun e w' => e = .returned (.bool (decide ((cntE xs c : Int) < wide))) ∧ w = w' := by
  subst hm
  have hX := Lib.hid hx; clear hx
  have hLe := Lib.hid fun (k : Nat) => cntE_le (xs.take k) c
  go_enter Try.func102, Try.ntmps102
  go_wp2
  go_loop [2, 11] (fun v i => ∃ k : Nat, k ≤ xs.length ∧ i = .int .i64 k ∧ v = .int .i64 (wide - (cntE (xs.take k) c : Int))) (fun _ i => xs.length - (intOf i).toNat)
  case atStart => exact ⟨0, Nat.zero_le _, rfl, by rw [List.take_zero]; show _ = Value.int .i64 (wide - ((0 : Nat) : Int)); simp⟩
  case round =>
    obtain ⟨k, hk, rfl, rfl⟩ := hrel
    by_cases hlt : k < xs.length
    · obtain ⟨b, o, rfl, _, hc⟩ := hX.out (by omega)
      have hcell := hc k hlt
      clear hc
      have hS := Lib.hid (cntE_snoc c hlt)
      have hl1 := hLe.out k
      rw [List.length_take] at hl1
      have hki : (k : Int) < (xs.length : Int) := by omega
      generalize hTT : cntE (xs.take (k + 1)) c = n1 at *
      have hTh := Lib.hid hTT
      clear hTT
      generalize cntE (xs.take k) c = n at *
      generalize xs[k] = x at *
      have hw1 : IntKind.i64.wrap (wide - (n : Int) - 1) = wide - (n : Int) - 1 := IntWalk.i64_in _ (by omega)
      have hn4 : (n : Int) ≤ 1000 := by omega
      by_cases e : x = c
      · have e' : (x == c) = true := by simpa using e
        have hS2 : Hid ((n1 : Int) = n + 1) := by have := hS.out; rw [if_pos e] at this; unfold Hid; omega
        clear e hS
        go_wp2
        go_round
        case rel => exact ⟨k + 1, by omega, by go_num, by rw [hTh.out, hS2.out]; congr 1; omega⟩
        case measure => simp [intOf]; omega
      · have e' : (x == c) = false := by simpa using e
        have hS2 : Hid ((n1 : Int) = n) := by have := hS.out; rw [if_neg e] at this; unfold Hid; omega
        clear e hS
        go_wp2
        go_round
        case rel => exact ⟨k + 1, by omega, by go_num, by rw [hTh.out, hS2.out]⟩
        case measure => simp [intOf]; omega
    · obtain rfl : k = xs.length := by omega
      rw [List.take_length]
      go_wp2
      go_ret
      exact ⟨ret_bool (by first | rfl | (rw [Bool.eq_iff_iff]; done) | (rw [Bool.eq_iff_iff]; simp; omega)), rfl⟩
theorem isWide_any (x : Int) (w : World) : Calls Try.prog 99 #[.int .i64 x] w fun e w' => e = .returned (.bool (inR x 1 3)) ∧ w = w' := by
  by_cases h1 : 1 ≤ x
  · go_enter Try.func99, Try.ntmps99
    go_wp2
    go_ret
    exact ⟨ret_bool (by rw [Bool.eq_iff_iff]; simp [inR]; omega), rfl⟩
  · go_enter Try.func99, Try.ntmps99
    go_wp2
    go_ret
    exact ⟨ret_bool (by rw [Bool.eq_iff_iff]; simp [inR]; omega), rfl⟩
theorem orWide_any (x : Int) (w : World) : Calls Try.prog 97 #[.int .i64 x] w fun e w' => e = .returned (.bool (inR x 1 3)) ∧ w = w' := by
  have H := Lib.hid fun (W : World) => l1In_r x 1 3 W
  go_enter Try.func97, Try.ntmps97
  go_wp2_with (fail)
  refine (H.out _).mono ?_
  rintro e w' ⟨rfl, rfl⟩
  go_wp2
  go_ret
  exact ⟨rfl, rfl⟩

/- Schedules. -/
def scB (cs : List In) (wide : Int) (xs : List Int) (q : Nat) : Bool := inR (xs.getD q 0) 0 100 && decide (lcF xs (ndL cs q cs.length) ≤ xs.getD q 0) && decide ((cntE (xs.take q) (xs.getD q 0) : Int) < wide)
def scP (cs : List In) (wide : Int) (xs : List Int) (k : Nat) : Bool := (List.range k).all (scB cs wide xs)
theorem scP_succ (cs : List In) (wide : Int) (xs : List Int) (k : Nat) : scP cs wide xs (k + 1) = (scP cs wide xs k && scB cs wide xs k) := by
  unfold scP; rw [List.range_succ, List.all_append]; simp
theorem scP_false {cs : List In} {wide : Int} {xs : List Int} {k : Nat} (h : scP cs wide xs k = false) : ∀ {n : Nat}, k ≤ n → scP cs wide xs n = false
  | 0, hn => by obtain rfl : k = 0 := by omega
                exact h
  | n + 1, hn => by
    rcases Nat.lt_or_ge n k with h1 | h1
    · obtain rfl : k = n + 1 := by omega
      exact h
    · rw [scP_succ, scP_false h h1]; rfl
theorem scP_in {cs : List In} {wide : Int} {xs : List Int} {k : Nat} (h : scP cs wide xs k = true) {q : Nat} (hq : q < k) : 0 ≤ xs.getD q 0 ∧ xs.getD q 0 ≤ 100 := by
  unfold scP at h
  rw [List.all_eq_true] at h
  have h1 := h q (by simpa using hq)
  unfold scB at h1
  rw [Bool.and_eq_true, Bool.and_eq_true, inR_iff] at h1
  exact h1.1.1
/-- The model's: what depends on i, up to j. -/
def mdB (cs : List In) (xs : List Int) (i j : Nat) : Bool := !decide (0 ≤ dT cs i j) || decide (xs.getD i 0 + dT cs i j ≤ xs.getD j 0)
def mdP (cs : List In) (xs : List Int) (i m : Nat) : Bool := (List.range m).all (mdB cs xs i)
theorem mdP_succ (cs : List In) (xs : List Int) (i m : Nat) : mdP cs xs i (m + 1) = (mdP cs xs i m && mdB cs xs i m) := by
  unfold mdP; rw [List.range_succ, List.all_append]; simp
theorem mdP_false {cs : List In} {xs : List Int} {i k : Nat} (h : mdP cs xs i k = false) : ∀ {n : Nat}, k ≤ n → mdP cs xs i n = false
  | 0, hn => by obtain rfl : k = 0 := by omega
                exact h
  | n + 1, hn => by
    rcases Nat.lt_or_ge n k with h1 | h1
    · obtain rfl : k = n + 1 := by omega
      exact h
    · rw [mdP_succ, mdP_false h h1]; rfl
def msB (cs : List In) (wide : Int) (xs : List Int) (i : Nat) : Bool := mdP cs xs i cs.length && decide ((cntE xs (xs.getD i 0) : Int) ≤ wide)
def msP (cs : List In) (wide : Int) (xs : List Int) (k : Nat) : Bool := (List.range k).all (msB cs wide xs)
theorem msP_succ (cs : List In) (wide : Int) (xs : List Int) (k : Nat) : msP cs wide xs (k + 1) = (msP cs wide xs k && msB cs wide xs k) := by
  unfold msP; rw [List.range_succ, List.all_append]; simp
theorem msP_false {cs : List In} {wide : Int} {xs : List Int} {k : Nat} (h : msP cs wide xs k = false) : ∀ {n : Nat}, k ≤ n → msP cs wide xs n = false
  | 0, hn => by obtain rfl : k = 0 := by omega
                exact h
  | n + 1, hn => by
    rcases Nat.lt_or_ge n k with h1 | h1
    · obtain rfl : k = n + 1 := by omega
      exact h
    · rw [msP_succ, msP_false h h1]; rfl
theorem lcF_le {cyc : List Int} {b : Int} {ns : List (Int × Int)} : lcF cyc ns ≤ b ↔ 0 ≤ b ∧ ∀ d ∈ ns, cyc.getD d.1.toNat 0 + d.2 ≤ b := by
  constructor
  · intro h
    have key : ∀ (ns : List (Int × Int)) (a : Int), ns.foldl (fun m d => max m (cyc.getD d.1.toNat 0 + d.2)) a ≤ b → a ≤ b ∧ ∀ d ∈ ns, cyc.getD d.1.toNat 0 + d.2 ≤ b := by
      intro ns
      induction ns with
      | nil => intro a h; exact ⟨h, by simp⟩
      | cons d ns ih =>
        intro a h
        have h1 : max a (cyc.getD d.1.toNat 0 + d.2) ≤ b ∧ ∀ e ∈ ns, cyc.getD e.1.toNat 0 + e.2 ≤ b := ih _ h
        refine ⟨by omega, fun e he => ?_⟩
        rcases List.mem_cons.1 he with rfl | he
        · omega
        · exact h1.2 e he
    exact key ns 0 h
  · rintro ⟨h0, h⟩
    exact (lcF_bd h0 h).2
theorem mem_ndL_iff {cs : List In} {j k : Nat} {d : Int × Int} : d ∈ ndL cs j k ↔ ∃ i : Nat, i < k ∧ 0 ≤ dT cs i j ∧ d = ((i : Int), dT cs i j) := by
  constructor
  · intro h
    obtain ⟨i, h1, h2, h3, h4⟩ := mem_ndL h
    exact ⟨i, h2, h3, h4⟩
  · rintro ⟨i, h1, h2, rfl⟩
    unfold ndL
    rw [List.mem_filterMap]
    exact ⟨i, by simpa using h1, by unfold ndEnt; rw [if_pos h2]⟩
theorem cnt_iff {xs : List Int} {wide : Int} (hw : 1 ≤ wide) : (∀ i (h : i < xs.length), (cntE xs xs[i] : Int) ≤ wide) ↔ ∀ q (h : q < xs.length), (cntE (xs.take q) xs[q] : Int) < wide := by
  constructor
  · intro h q hq
    have h1 := h q hq
    have h2 := cntE_snoc xs[q] hq
    rw [if_pos rfl] at h2
    have h3 := cntE_take xs xs[q] (q + 1) (by omega)
    omega
  · intro h i hi
    have key : ∀ k, k ≤ xs.length → (cntE (xs.take k) xs[i] : Int) ≤ wide := by
      intro k
      induction k with
      | zero => intro _; rw [List.take_zero]; show ((0 : Nat) : Int) ≤ wide; omega
      | succ k ih =>
        intro hk
        rw [cntE_snoc xs[i] (by omega)]
        have h1 := ih (by omega)
        by_cases e : xs[k] = xs[i]
        · rw [if_pos e]
          have := h k (by omega)
          rw [e] at this
          omega
        · rw [if_neg e]; simpa using h1
    have := key xs.length (Nat.le_refl _)
    rwa [List.take_length] at this
theorem ms_eq {cs : List In} {wide : Int} {xs : List Int} (hl : xs.length = cs.length) (ha : allIn xs 0 100 = true) (hw : 1 ≤ wide) : msP cs wide xs cs.length = scP cs wide xs cs.length := by
  have hin : ∀ q, q < cs.length → ∀ (h : q < xs.length), xs.getD q 0 = xs[q] ∧ 0 ≤ xs[q] ∧ xs[q] ≤ 100 := fun q hq h => ⟨by rw [List.getD_eq_getElem?_getD, List.getElem?_eq_getElem h]; rfl, allIn_at ha h⟩
  rw [Bool.eq_iff_iff]
  unfold msP scP
  rw [List.all_eq_true, List.all_eq_true]
  simp only [List.mem_range]
  have hc := cnt_iff (xs := xs) hw
  constructor
  · intro h q hq
    have hq' : q < xs.length := by omega
    obtain ⟨e, h0, h1⟩ := hin q hq hq'
    unfold scB
    rw [Bool.and_eq_true, Bool.and_eq_true, inR_iff, decide_eq_true_eq, decide_eq_true_eq, lcF_le]
    refine ⟨⟨by omega, by omega, fun d hd => ?_⟩, ?_⟩
    · obtain ⟨i, hi, hdT, rfl⟩ := mem_ndL_iff.1 hd
      have h2 := h i hi
      unfold msB mdP at h2
      rw [Bool.and_eq_true, List.all_eq_true] at h2
      have h3 := h2.1 q (by simpa using hq)
      unfold mdB at h3
      rw [decide_eq_true hdT] at h3
      simpa using h3
    · rw [e]
      refine hc.1 (fun i hi => ?_) q hq'
      have h2 := h i (by omega)
      unfold msB at h2
      rw [Bool.and_eq_true, decide_eq_true_eq, (hin i (by omega) hi).1] at h2
      exact h2.2
  · intro h i hi
    have hi' : i < xs.length := by omega
    unfold msB mdP
    rw [Bool.and_eq_true, List.all_eq_true, decide_eq_true_eq]
    refine ⟨fun j hj => ?_, ?_⟩
    · have hj : j < cs.length := by simpa using hj
      have h2 := h j hj
      unfold scB at h2
      rw [Bool.and_eq_true, Bool.and_eq_true, decide_eq_true_eq, lcF_le] at h2
      unfold mdB
      by_cases hd : 0 ≤ dT cs i j
      · have h3 := h2.1.2.2 _ (mem_ndL_iff.2 ⟨i, hi, hd, rfl⟩)
        simp only [Int.toNat_natCast] at h3
        rw [decide_eq_true h3]; simp
      · rw [decide_eq_false hd]; rfl
    · rw [(hin i hi hi').1]
      refine hc.2 (fun q hq => ?_) i hi'
      have h2 := h q (by omega)
      unfold scB at h2
      rw [Bool.and_eq_true, decide_eq_true_eq, (hin q (by omega) hq).1] at h2
      exact h2.2
theorem sc_out {cs : List In} {wide : Int} {xs : List Int} (hl : xs.length = cs.length) (ha : allIn xs 0 100 = false) : scP cs wide xs cs.length = false := by
  cases h : scP cs wide xs cs.length
  · rfl
  · have h4 : allIn xs 0 100 = true := by
      unfold allIn; rw [List.all_eq_true]
      intro x hx
      rw [inR_iff]
      obtain ⟨q, hq, rfl⟩ := List.mem_iff_getElem.1 hx
      have := scP_in h (q := q) (by omega)
      rwa [List.getD_eq_getElem?_getD, List.getElem?_eq_getElem hq, Option.getD_some] at this
    rw [ha] at h4; cases h4
end Go.Proofs.Ytpgdccfpegdcoaa

/- Chapter 9: bounds by the width, plain; of the program. -/
namespace Go.Proofs.Ytpgdccfpegdcoaa
open Go.RowKit
set_option linter.unusedVariables false
set_option maxRecDepth 100000

def cgE (xs : List Int) (c : Int) (k : Nat) : Int := (((xs.take k).filter fun x => decide (c ≤ x)).length : Nat)
def lcE (cs : List In) (xs : List Int) (c a : Int) (k : Nat) : Int := (List.range k).foldl (fun m i => if c ≤ xs.getD i 0 then min m (cstA cs i) else m) a
theorem cgE_zero (xs : List Int) (c : Int) : cgE xs c 0 = 0 := by unfold cgE; rw [List.take_zero]; rfl
theorem cgE_yes {xs : List Int} {c : Int} {k : Nat} (hk : k < xs.length) (h : c ≤ xs.getD k 0) : cgE xs c (k + 1) = cgE xs c k + 1 := by
  rw [List.getD_eq_getElem?_getD, List.getElem?_eq_getElem hk, Option.getD_some] at h
  unfold cgE
  rw [List.take_succ_eq_append_getElem hk, List.filter_append, List.length_append]
  simp [h]
theorem cgE_no {xs : List Int} {c : Int} {k : Nat} (hk : k < xs.length) (h : ¬ c ≤ xs.getD k 0) : cgE xs c (k + 1) = cgE xs c k := by
  rw [List.getD_eq_getElem?_getD, List.getElem?_eq_getElem hk, Option.getD_some] at h
  unfold cgE
  rw [List.take_succ_eq_append_getElem hk, List.filter_append, List.length_append]
  simp [h]
theorem cgE_bd (xs : List Int) (c : Int) (k : Nat) : 0 ≤ cgE xs c k ∧ cgE xs c k ≤ xs.length := by
  unfold cgE
  have h1 := List.length_filter_le (fun x => decide (c ≤ x)) (xs.take k)
  rw [List.length_take] at h1
  omega
theorem lcE_succ (cs : List In) (xs : List Int) (c a : Int) (k : Nat) : lcE cs xs c a (k + 1) = if c ≤ xs.getD k 0 then min (lcE cs xs c a k) (cstA cs k) else lcE cs xs c a k := by
  unfold lcE; rw [List.range_succ, List.foldl_append]; rfl
theorem lcE_bd (cs : List In) (xs : List Int) (c : Int) {a : Int} (ha : 0 ≤ a) : ∀ k, 0 ≤ lcE cs xs c a k ∧ lcE cs xs c a k ≤ a
  | 0 => ⟨ha, Int.le_refl _⟩
  | k + 1 => by
    rw [lcE_succ]
    have := lcE_bd cs xs c ha k
    have := cstA_bd cs k
    split <;> omega
theorem lcE_alt (cs : List In) (xs : List Int) (c : Int) {a : Int} (ha : 4 ≤ a) : ∀ k, k ≤ xs.length → (cgE xs c k = 0 ∧ lcE cs xs c a k = a) ∨ (1 ≤ cgE xs c k ∧ lcE cs xs c a k = lcE cs xs c 4 k)
  | 0, _ => .inl ⟨cgE_zero _ _, rfl⟩
  | k + 1, hk => by
    have ih := lcE_alt cs xs c ha k (by omega)
    have i4 := lcE_alt cs xs c (a := 4) (Int.le_refl _) k (by omega)
    have hb := cstA_bd cs k
    rw [lcE_succ, lcE_succ]
    by_cases h : c ≤ xs.getD k 0
    · rw [cgE_yes (by omega) h, if_pos h, if_pos h]
      have hg := cgE_bd xs c k
      rcases ih with ⟨h1, h2⟩ | ⟨h1, h2⟩
      · rcases i4 with ⟨h3, h4⟩ | ⟨h3, h4⟩
        · right; rw [h2, h4]; omega
        · omega
      · right; rw [h2]; omega
    · rw [cgE_no (by omega) h, if_neg h, if_neg h]; exact ih
theorem cgE_mono (xs : List Int) (c : Int) {k : Nat} : ∀ n, k ≤ n → n ≤ xs.length → cgE xs c k ≤ cgE xs c n
  | 0, h, _ => by obtain rfl : k = 0 := by omega
                  exact Int.le_refl _
  | n + 1, h, hn => by
    rcases Nat.lt_or_ge n k with h1 | h1
    · obtain rfl : k = n + 1 := by omega
      exact Int.le_refl _
    · have ih := cgE_mono xs c n h1 (by omega)
      by_cases e : c ≤ xs.getD n 0
      · rw [cgE_yes (by omega) e]; omega
      · rw [cgE_no (by omega) e]; exact ih
theorem lcE_two {cs : List In} {xs : List Int} {q : Nat} (hq : q < xs.length) {a b : Int} (ha : 4 ≤ a) (hb : 4 ≤ b) : lcE cs xs (xs.getD q 0) a xs.length = lcE cs xs (xs.getD q 0) b xs.length := by
  have h1 := cgE_mono xs (xs.getD q 0) xs.length (k := q + 1) hq (Nat.le_refl _)
  rw [cgE_yes hq (Int.le_refl _)] at h1
  have h0 := cgE_bd xs (xs.getD q 0) q
  rcases lcE_alt cs xs (xs.getD q 0) ha xs.length (Nat.le_refl _) with h | h
  · omega
  · rcases lcE_alt cs xs (xs.getD q 0) hb xs.length (Nat.le_refl _) with h2 | h2
    · omega
    · rw [h.2, h2.2]
def bdE (cs : List In) (xs : List Int) (wide c a : Int) : Int := c + (cgE xs c xs.length + wide - 1).tdiv wide + lcE cs xs c a xs.length - 1
def wbE (cs : List In) (xs : List Int) (wide : Int) (k : Nat) : Int := (List.range k).foldl (fun m q => max m (bdE cs xs wide (xs.getD q 0) 100)) 0
theorem wbE_succ (cs : List In) (xs : List Int) (wide : Int) (k : Nat) : wbE cs xs wide (k + 1) = max (wbE cs xs wide k) (bdE cs xs wide (xs.getD k 0) 100) := by
  unfold wbE; rw [List.range_succ, List.foldl_append]; rfl
theorem bdE_two {cs : List In} {xs : List Int} {wide : Int} {q : Nat} (hq : q < xs.length) {a : Int} (ha : 4 ≤ a) : bdE cs xs wide (xs.getD q 0) a = bdE cs xs wide (xs.getD q 0) 100 := by
  unfold bdE; rw [lcE_two hq ha (show (4 : Int) ≤ 100 by omega)]
theorem tdiv_bd {n wide : Int} (h0 : 0 ≤ n) (h1 : n ≤ 100) (hw : 1 ≤ wide) : 0 ≤ n.tdiv wide ∧ n.tdiv wide ≤ 100 := by
  rw [Int.tdiv_eq_ediv_of_nonneg h0]
  exact ⟨Int.ediv_nonneg h0 (by omega), Int.le_trans (Int.ediv_le_self wide h0) h1⟩

set_option maxHeartbeats 8000000 in
theorem boundFrom_any (L B : Nat) (A : Option Addr) (c : Nat) (cs : List In) (An : Value) (q : Int) (L' B' : Nat) (A' : Option Addr) (c' : Nat) (xs : List Int) (wide : Int) (w : World) (hl : cs.length ≤ 20) (hes : RS In.enc 5 w L B A cs) (hB : B ≤ w.heap.size) (hlen : xs.length = cs.length) (hq : 0 ≤ q ∧ q ≤ 1000) (hw : 1 ≤ wide ∧ wide ≤ 3) (hc1 : 1 ≤ cgE xs q xs.length) (hns : IS w L' B' A' xs) (hB' : B' ≤ w.heap.size) :
    Calls Try.prog 144 #[.agg #[.slice A cs.length c, An], .int .i64 q, .slice A' cs.length c', .int .i64 wide] w fun e w' => e = .returned (.int .i64 (bdE cs xs wide q 9223372036854775807)) ∧ Below w.heap.size w w' := by
  have hbx := Lib.hid ((Below.refl w.heap.size w).alloc (Nat.le_refl _) (.cells #[.slice A cs.length c, An] 77))
  have hP := Lib.hid (PB.new w (.slice A cs.length c) An)
  have hE := Lib.hid fun (W : World) (hW : Below w.heap.size w W) => hes.below hW hB
  have hIS := Lib.hid fun (W : World) (hW : Below w.heap.size w W) => hns.below hW hB'
  have hLen := Lib.hid hlen
  have hGy := Lib.hid fun (k : Nat) (hk : k < xs.length) (h : q ≤ xs.getD k 0) => cgE_yes hk h
  have hGn := Lib.hid fun (k : Nat) (hk : k < xs.length) (h : ¬ q ≤ xs.getD k 0) => cgE_no hk h
  have hGb := Lib.hid (cgE_bd xs q)
  have hG0 := Lib.hid (cgE_zero xs q)
  have hLs := Lib.hid (lcE_succ cs xs q 9223372036854775807)
  have hLb := Lib.hid (lcE_bd cs xs q (a := 9223372036854775807) (by omega))
  have hL0 : Hid (lcE cs xs q 9223372036854775807 0 = 9223372036854775807) := rfl
  have hCe : Hid (∀ i (h : i < cs.length), cstA cs i = (fm cs[i].op).c) := fun i h => by unfold cstA; rw [inAt_eq h]
  have hR : Hid (bdE cs xs wide q 9223372036854775807 = q + (cgE xs q cs.length + wide - 1).tdiv wide + lcE cs xs q 9223372036854775807 cs.length - 1) := by unfold Hid bdE; rw [hlen]
  have hAl := Lib.hid (lcE_alt cs xs q (a := 9223372036854775807) (by omega) xs.length (Nat.le_refl _))
  have hA4 := Lib.hid (lcE_bd cs xs q (a := 4) (by omega) xs.length)
  rw [hlen] at hAl hA4 hc1
  have hC1 := Lib.hid hc1
  clear hes hns hB hB' hlen hc1
  generalize bdE cs xs wide q 9223372036854775807 = RR at *
  generalize lcE cs xs q 4 cs.length = l4 at *
  generalize cgE xs q = G at *
  generalize lcE cs xs q 9223372036854775807 = F at *
  go_enter Try.func144, Try.ntmps144
  go_wp2_with (fail)
  have p0 := PB.c0 hP.out
  have p1 := PB.c1 hP.out
  go_wp2_with (fail)
  clear p0 p1
  obtain ⟨g1, hg1⟩ : ∃ g1, g1 = w.heap.size := ⟨_, rfl⟩
  rw [← hg1]
  clear hP hg1
  generalize w.alloc (.cells #[.slice A cs.length c, An] 77) = W1 at *
  go_loopw [9, 10, 16] (fun u v q9 wr => ∃ k : Nat, k ≤ cs.length ∧ q9 = .int .i64 k ∧ u = .int .i64 (G k) ∧ v = .int .i64 (F k) ∧ Below W1.heap.size W1 wr) (fun _ _ q9 _ => cs.length - (intOf q9).toNat)
  case atStart => exact ⟨0, Nat.zero_le _, rfl, by rw [hG0.out], by rw [hL0.out], Below.refl _ _⟩
  case round =>
    obtain ⟨k, hk, rfl, rfl, rfl, hbel⟩ := hrel
    have hBL := Lib.hid hbel
    clear hbel
    by_cases hlt : k < cs.length
    · have hki : (k : Int) < (cs.length : Int) := by omega
      have hk0 : (0 : Int) ≤ (k : Int) := by omega
      have hbw := hbx.out.trans (hBL.out.mono hbx.out.size)
      have hkx : k < xs.length := by rw [hLen.out]; exact hlt
      obtain ⟨b, o, rfl, ⟨_, hbB⟩, hc⟩ := In.cells (hE.out wr hbw) (by omega)
      obtain ⟨c1, c2, c3, c4, c5⟩ := hc k hlt
      obtain ⟨xb, xo, rfl, ⟨_, hxb⟩, hxc⟩ := (hIS.out wr hbw) (by rw [hLen.out]; omega)
      have x0 := hxc k hkx
      have hgd : xs.getD k 0 = xs[k] := by rw [List.getD_eq_getElem?_getD, List.getElem?_eq_getElem hkx]; rfl
      rw [← hgd] at x0
      have hLk := hLs.out k
      have hgb := hGb.out k
      rw [hLen.out] at hgb
      have hlb := hLb.out k
      have hYy := hGy.out k hkx
      have hYn := hGn.out k hkx
      rw [hCe.out k hlt] at hLk
      clear hc hxc hgd hbw
      generalize hGG : G (k + 1) = g2 at *
      have hGh := Lib.hid hGG
      clear hGG
      generalize hFF : F (k + 1) = f2 at *
      have hFh := Lib.hid hFF
      clear hFF
      generalize G k = gk at *
      generalize F k = fk at *
      generalize xs.getD k 0 = y at *
      generalize cs[k] = nd at *
      obtain ⟨op, d, a, bb, m⟩ := nd
      dsimp only at *
      have hC := Lib.hid fun (W : World) => costOf_any op d a bb m W
      have hfc := fm_c op
      generalize (fm op).c = t at *
      have hX := Lib.hid (XB.newI9 wr ⟨op, d, a, bb, m⟩)
      have ha := Lib.hid ((Below.refl wr.heap.size wr).alloc (Nat.le_refl _) (.cells #[.string op, .int .i64 d, .int .i64 a, .int .i64 bb, .int .i64 m] 65))
      have x1 := (ha.out.cell (p := ⟨xb, xo + k, none⟩) (by
        rcases Nat.lt_or_ge xb wr.heap.size with h9 | h9
        · exact h9
        · simp [World.cell?, Array.getElem?_eq_none h9] at x0)).trans x0
      have hB1 := Lib.hid (hBL.out.trans (ha.out.mono hBL.out.size))
      have hw1 : IntKind.i64.wrap (gk + 1) = gk + 1 := IntWalk.i64_in _ (by omega)
      by_cases hy : q ≤ y
      · have hg2 : g2 = gk + 1 := hYy hy
        rw [if_pos hy] at hLk
        have hG2 := Lib.hid hg2
        have hF2 := Lib.hid hLk
        clear hg2 hLk hYy hYn
        go_wp2_with (fail)
        clear c1 c2 c3 c4 c5 x0 ha
        refine (hC.out _).mono ?_
        rintro e w2 ⟨rfl, hb2⟩
        have hB2 := Lib.hid (hB1.out.trans (hb2.mono hB1.out.size))
        clear hb2 x1
        go_wp2
        go_roundw
        case rel => exact ⟨k + 1, by omega, by go_num, by rw [hGh.out, hG2.out], by rw [hFh.out, hF2.out], hB2.out⟩
        case measure => simp [intOf]; omega
      · have hg2 : g2 = gk := hYn (by omega)
        rw [if_neg hy] at hLk
        have hG2 := Lib.hid hg2
        have hF2 := Lib.hid hLk
        clear hg2 hLk hYy hYn
        go_wp2
        go_roundw
        case rel => exact ⟨k + 1, by omega, by go_num, by rw [hGh.out, hG2.out], by rw [hFh.out, hF2.out], hB1.out⟩
        case measure => simp [intOf]; omega
    · obtain rfl : k = cs.length := by omega
      have hfin := Lib.hid (hbx.out.trans (hBL.out.mono hbx.out.size))
      have hgb := hGb.out cs.length
      rw [hLen.out] at hgb
      have h1 := hC1.out
      have h2 := hA4.out
      have hF4 : F cs.length = l4 := by
        rcases hAl.out with h | h
        · omega
        · exact h.2
      rw [hF4] at hR ⊢
      have hn0 : 0 ≤ G cs.length + wide - 1 ∧ G cs.length + wide - 1 ≤ 100 := by omega
      have ht := tdiv_bd hn0.1 hn0.2 hw.1
      clear hF4
      generalize G cs.length = n at *
      have hw1 : IntKind.i64.wrap (n + wide) = n + wide := IntWalk.i64_in _ (by omega)
      have hw2 : IntKind.i64.wrap (n + wide - 1) = n + wide - 1 := IntWalk.i64_in _ (by omega)
      have hwz : ¬ wide = 0 := by omega
      have hR2 := Lib.hid hR.out
      clear hR
      generalize hdv : (n + wide - 1).tdiv wide = dv at *
      have hw3 : IntKind.i64.wrap dv = dv := IntWalk.i64_in _ (by omega)
      have hw4 : IntKind.i64.wrap (q + dv) = q + dv := IntWalk.i64_in _ (by omega)
      have hw5 : IntKind.i64.wrap (q + dv + l4) = q + dv + l4 := IntWalk.i64_in _ (by omega)
      have hw6 : IntKind.i64.wrap (q + dv + l4 - 1) = q + dv + l4 - 1 := IntWalk.i64_in _ (by omega)
      go_wp2
      go_ret
      exact ⟨by rw [hR2.out]; rfl, hfin.out⟩

theorem wb_bd {cs : List In} {xs : List Int} {wide q a : Int} (hx : xs.length ≤ 20) (hq : 0 ≤ q ∧ q ≤ 1000) (hw : 1 ≤ wide ∧ wide ≤ 3) (ha : 0 ≤ a ∧ a ≤ 100) : -1 ≤ bdE cs xs wide q a ∧ bdE cs xs wide q a ≤ 1300 := by
  have h1 := cgE_bd xs q xs.length
  have h2 := lcE_bd cs xs q ha.1 xs.length
  have h3 := tdiv_bd (n := cgE xs q xs.length + wide - 1) (wide := wide) (by omega) (by omega) hw.1
  unfold bdE
  omega
theorem wbE_bd {cs : List In} {xs : List Int} {wide : Int} (hx : xs.length ≤ 20) (hb : ∀ x ∈ xs, 0 ≤ x ∧ x ≤ 1000) (hw : 1 ≤ wide ∧ wide ≤ 3) : ∀ k, 0 ≤ wbE cs xs wide k ∧ wbE cs xs wide k ≤ 1300
  | 0 => ⟨Int.le_refl _, by show (0 : Int) ≤ 1300; omega⟩
  | k + 1 => by
    rw [wbE_succ]
    have := wbE_bd (cs := cs) hx hb hw k
    have := wb_bd (cs := cs) (wide := wide) hx (getD_bd9 hb k) hw (a := 100) (by omega)
    omega
theorem er_bd9 {cs : List In} (h : cs.length ≤ 20) : ∀ x ∈ er cs cs.length, 0 ≤ x ∧ x ≤ 1000 := fun x hx => by
  have := er_bd cs cs.length x hx; omega
theorem cg_one {xs : List Int} {q : Nat} (hq : q < xs.length) : 1 ≤ cgE xs (xs.getD q 0) xs.length := by
  have h1 := cgE_mono xs (xs.getD q 0) xs.length (k := q + 1) hq (Nat.le_refl _)
  rw [cgE_yes hq (Int.le_refl _)] at h1
  have h0 := cgE_bd xs (xs.getD q 0) q
  omega
set_option maxHeartbeats 8000000 in
theorem wideBound_any (L B L1 B1 : Nat) (A : Option Addr) (c : Nat) (cs : List In) (An : Option Addr) (cn : Nat) (wide : Int) (w : World) (hl : cs.length ≤ 20) (hes : RS In.enc 5 w L B A cs) (hB : B ≤ w.heap.size) (hp : PN w L1 B1 An (nds cs)) (hB1 : B1 ≤ w.heap.size) (hw : 1 ≤ wide ∧ wide ≤ 3) :
    Calls Try.prog 116 #[.agg #[.slice A cs.length c, .slice An cs.length cn], .int .i64 wide] w fun e w' => e = .returned (.int .i64 (wbE cs (er cs cs.length) wide cs.length)) ∧ Below w.heap.size w w' := by
  have hbx := Lib.hid ((Below.refl w.heap.size w).alloc (Nat.le_refl _) (.cells #[.slice A cs.length c, .slice An cs.length cn] 77))
  have hP := Lib.hid (PB.new w (.slice A cs.length c) (.slice An cs.length cn))
  have hEr := Lib.hid (earliest_any A c L1 B1 An cn cs (w.alloc (.cells #[.slice A cs.length c, .slice An cs.length cn] 77)) hl (hp.below hbx.out hB1) (Nat.le_trans hB1 hbx.out.size))
  have hEl := er_len cs cs.length
  have hEb := er_bd9 hl
  have hBf := Lib.hid fun (W : World) (hW : Below w.heap.size w W) (k : Nat) (hk : k < cs.length) (L2 : Nat) (A2 : Option Addr) (c2 B2 : Nat) (hx : IS W L2 B2 A2 (er cs cs.length)) (hB2 : B2 ≤ W.heap.size) => boundFrom_any L B A c cs (.slice An cs.length cn) ((er cs cs.length).getD k 0) L2 B2 A2 c2 (er cs cs.length) wide W hl (hes.below hW hB) (Nat.le_trans hB hW.size) hEl (getD_bd9 hEb k) hw (cg_one (by rw [hEl]; exact hk)) hx hB2
  have hTw := Lib.hid fun (k : Nat) (hk : k < cs.length) => bdE_two (cs := cs) (wide := wide) (xs := er cs cs.length) (q := k) (by rw [hEl]; exact hk) (a := 9223372036854775807) (by omega)
  have hWs := Lib.hid (wbE_succ cs (er cs cs.length) wide)
  have hWb := Lib.hid (wbE_bd (cs := cs) (xs := er cs cs.length) (wide := wide) (by omega) hEb hw)
  have hW0 : Hid (wbE cs (er cs cs.length) wide 0 = 0) := rfl
  have hXb := Lib.hid fun (k : Nat) => wb_bd (cs := cs) (xs := er cs cs.length) (wide := wide) (by omega) (getD_bd9 hEb k) hw (a := 100) (by omega)
  have hLen := Lib.hid hEl
  clear hes hB hp hB1 hEb hEl
  generalize wbE cs (er cs cs.length) wide = WB at *
  generalize er cs cs.length = xs at *
  have hTw2 : Hid (∀ k, k < cs.length → bdE cs xs wide (xs.getD k 0) 9223372036854775807 = bdE cs xs wide (xs.getD k 0) 100) := fun k hk => hTw.out k hk
  clear hTw
  go_enter Try.func116, Try.ntmps116
  go_wp2_with (fail)
  have p0 := PB.c0 hP.out
  have p1 := PB.c1 hP.out
  go_wp2_with (fail)
  refine hEr.out.mono ?_
  rintro e w2 ⟨A2, c2, rfl, ho2, hb2⟩
  have hO2 := Lib.hid (OW.rs ho2)
  have hB2 := Lib.hid hb2
  have hlt0 : w.heap.size < (w.alloc (.cells #[.slice A cs.length c, .slice An cs.length cn] 77)).heap.size := by simp
  have hP2 := Lib.hid (CB.below hP.out hb2 hlt0)
  have hBw := Lib.hid (hbx.out.trans (hb2.mono hbx.out.size))
  have hlt2 := CB.lt hP2.out
  clear ho2 hb2 p0 p1 hP hlt0
  rw [hLen.out]
  go_wp2
  go_loopw [5, 13] (fun v q wr => ∃ k : Nat, k ≤ cs.length ∧ q = .int .i64 k ∧ v = .int .i64 (WB k) ∧ Below w2.heap.size w2 wr) (fun _ q _ => cs.length - (intOf q).toNat)
  case atStart => exact ⟨0, Nat.zero_le _, rfl, by rw [hW0.out], Below.refl _ _⟩
  case round =>
    obtain ⟨k, hk, rfl, rfl, hbel⟩ := hrel
    have hBL := Lib.hid hbel
    clear hbel
    by_cases hlt : k < cs.length
    · have hki : (k : Int) < (cs.length : Int) := by omega
      have hk0 : (0 : Int) ≤ (k : Int) := by omega
      have hkx : k < xs.length := by rw [hLen.out]; exact hlt
      have hx := hO2.out.below hBL.out (Nat.le_refl _)
      have hC := Lib.hid (hBf.out wr (hBw.out.trans (hBL.out.mono hBw.out.size)) k hlt _ A2 c2 _ hx hBL.out.size)
      obtain ⟨xb, xo, rfl, _, hxc⟩ := hx (by omega)
      have x0 := hxc k hkx
      have hgd : xs.getD k 0 = xs[k] := by rw [List.getD_eq_getElem?_getD, List.getElem?_eq_getElem hkx]; rfl
      rw [← hgd] at x0
      have hWk := Lib.hid (hWs.out k)
      have h1 := hWb.out k
      have h2 := hXb.out k
      have hPr := CB.below hP2.out hBL.out hlt2
      have p0 := PB.c0 hPr
      have p1 := PB.c1 hPr
      rw [hTw2.out k hlt] at hC
      clear hxc hgd hPr
      generalize hTT : WB (k + 1) = z1 at *
      have hTh := Lib.hid hTT
      clear hTT
      generalize WB k = z at *
      generalize bdE cs xs wide (xs.getD k 0) 100 = bd at *
      generalize xs.getD k 0 = y at *
      go_wp2_with (fail)
      refine hC.out.mono ?_
      rintro e w3 ⟨rfl, hb3⟩
      have hB3 := Lib.hid (hBL.out.trans (hb3.mono hBL.out.size))
      clear hb3 p0 p1 x0
      go_wp2
      go_roundw
      case rel => exact ⟨k + 1, by omega, by go_num, by rw [hTh.out, hWk.out], hB3.out⟩
      case measure => simp [intOf]; omega
    · obtain rfl : k = cs.length := by omega
      have hfin := Lib.hid (hBw.out.trans (hBL.out.mono hBw.out.size))
      go_wp2
      go_ret
      exact ⟨rfl, hfin.out⟩
def wbK (cs : List In) (wide : Int) : Bool := orGood cs && inR wide 1 3
def wbR (cs : List In) (wide : Int) : Int := if wbK cs wide = true then wbE cs (er cs cs.length) wide cs.length else 0
theorem wbK_no1 {cs : List In} (wide : Int) (h : orGood cs = false) : wbK cs wide = false := by unfold wbK; rw [h]; rfl
theorem wbK_no2 (cs : List In) {wide : Int} (h : inR wide 1 3 = false) : wbK cs wide = false := by unfold wbK; rw [h]; simp
theorem wbK_yes {cs : List In} {wide : Int} (h : orGood cs = true) (h2 : inR wide 1 3 = true) : wbK cs wide = true := by unfold wbK; rw [h, h2]; rfl
theorem wbR_no {cs : List In} {wide : Int} (h : wbK cs wide = false) : wbR cs wide = 0 := by unfold wbR; rw [h]; rfl
theorem wbR_yes {cs : List In} {wide : Int} (h : wbK cs wide = true) : wbR cs wide = wbE cs (er cs cs.length) wide cs.length := by unfold wbR; rw [if_pos h]
set_option maxHeartbeats 4000000 in
theorem iWideBound_k (L B : Nat) (A : Option Addr) (c : Nat) (cs : List In) (wide : Int) (w : World) (hl : cs.length ≤ 1048576) (hes : RS In.enc 5 w L B A cs) (hB : B ≤ w.heap.size) (hcap : cs.length ≤ c) :
    Calls Try.prog 59 #[.slice A cs.length c, .int .i64 wide] w (ResWideBound (wbR cs wide) (wbK cs wide) w) := by
  cases hg : orGood cs
  · have H := Lib.hid (planOf_no L B A c cs w hg hl hes hB hcap)
    have hK := Lib.hid (wbK_no1 wide hg)
    have hR := Lib.hid (wbR_no hK.out)
    clear hg hes
    generalize wbR cs wide = R at *
    generalize wbK cs wide = K at *
    go_enter Try.func59, Try.ntmps59
    go_wp2_with (fail)
    refine H.out.mono ?_
    rintro e w1 ⟨rfl, hb1⟩
    have hB1 := Lib.hid (hb1.alloc hb1.size (.cells #[.slice none 0 0, .slice none 0 0] 77))
    clear hb1
    go_wp2
    go_ret2
    rw [hR.out, hK.out]
    exact ⟨rfl, hB1.out⟩
  have H := Lib.hid (planOf_yes L B A c cs w hg hl hes hB hcap)
  have HW := Lib.hid (isWide_any wide)
  cases hw : inR wide 1 3
  · have hK := Lib.hid (wbK_no2 cs hw)
    have hR := Lib.hid (wbR_no hK.out)
    rw [hw] at HW
    clear hg hes hw
    generalize wbR cs wide = R at *
    generalize wbK cs wide = K at *
    go_enter Try.func59, Try.ntmps59
    go_wp2_with (fail)
    refine H.out.mono ?_
    rintro e w1 ⟨An, cn, rfl, hpn, hb1⟩
    have hB1 := Lib.hid (hb1.alloc hb1.size (.cells #[.slice A cs.length c, .slice An cs.length cn] 77))
    clear hb1 hpn
    go_wp2_with (fail)
    refine (HW.out _).mono ?_
    rintro e w2 ⟨rfl, rfl⟩
    go_wp2
    go_ret2
    rw [hR.out, hK.out]
    exact ⟨rfl, hB1.out⟩
  · have hK := Lib.hid (wbK_yes hg hw)
    have hR := Lib.hid (wbR_yes hK.out)
    have hwi := (inR_iff _ _ _).1 hw
    have h20 := (orGood_parts hg).1
    have hWB := Lib.hid fun (An : Option Addr) (cn L1 B1 : Nat) (W : World) (hW : Below w.heap.size w W) (hp : PN W L1 B1 An (nds cs)) (hB1 : B1 ≤ W.heap.size) => wideBound_any L B L1 B1 A c cs An cn wide W h20 (hes.below hW hB) (Nat.le_trans hB hW.size) hp hB1 hwi
    rw [hw] at HW
    clear hg hes hw hwi
    generalize wbR cs wide = R at *
    generalize wbK cs wide = K at *
    generalize wbE cs (er cs cs.length) wide cs.length = E at *
    go_enter Try.func59, Try.ntmps59
    go_wp2_with (fail)
    refine H.out.mono ?_
    rintro e w1 ⟨An, cn, rfl, hpn, hb1⟩
    have a1 := (Below.refl w1.heap.size w1).alloc (Nat.le_refl _) (.cells #[.slice A cs.length c, .slice An cs.length cn] 77)
    have hB1 := Lib.hid (hb1.trans (a1.mono hb1.size))
    have hE := Lib.hid (hWB.out An cn w.heap.size w1.heap.size (w1.alloc (.cells #[.slice A cs.length c, .slice An cs.length cn] 77)) hB1.out (hpn.below a1 (Nat.le_refl _)) a1.size)
    have hP := PB.new w1 (.slice A cs.length c) (.slice An cs.length cn)
    have p0 := hP.c0
    have p1 := hP.c1
    clear a1 hb1 hpn hP
    go_wp2_with (fail)
    refine (HW.out _).mono ?_
    rintro e w2 ⟨rfl, rfl⟩
    go_wp2_with (fail)
    refine hE.out.mono ?_
    rintro e w2 ⟨rfl, hb2⟩
    have hB2 := Lib.hid (hB1.out.trans (hb2.mono hB1.out.size))
    clear hb2 p0 p1
    go_wp2
    go_ret2
    rw [hR.out, hK.out]
    exact ⟨rfl, hB2.out⟩
end Go.Proofs.Ytpgdccfpegdcoaa

/- Chapter 9: bounds by the width, of the model. -/
namespace Go.Proofs.Ytpgdccfpegdcoaa
open Go.RowKit
set_option linter.unusedVariables false
set_option maxRecDepth 100000

theorem l1Least_9 (a b : Int) (w : World) : Calls Try.prog 111 #[.int .i64 a, .int .i64 b] w fun e w' => e = .returned (.int .i64 (min a b)) ∧ w = w' := by
  by_cases h : a < b
  all_goals
    go_enter Try.func111, Try.ntmps111
    go_wp2
    go_ret
    exact ⟨ret_int (by omega), rfl⟩
set_option maxHeartbeats 8000000 in
theorem orBound_any (L B : Nat) (A : Option Addr) (c : Nat) (cs : List In) (wide : Int) (w : World) (hl : cs.length ≤ 20) (hgood : ∀ x ∈ cs, goodIn x = true) (hes : RS In.enc 5 w L B A cs) (hB : B ≤ w.heap.size) (hw : 1 ≤ wide ∧ wide ≤ 3) :
    Calls Try.prog 115 #[.slice A cs.length c, .int .i64 wide] w fun e w' => e = .returned (.int .i64 (wbE cs (er cs cs.length) wide cs.length)) ∧ Below w.heap.size w w' := by
  have HE := Lib.hid (orEarliest_any L B A c cs w hl hgood hes hB)
  have hEl := er_len cs cs.length
  have hEb := er_bd9 hl
  have hE := Lib.hid fun (W : World) (hW : Below w.heap.size w W) => hes.below hW hB
  have hWs := Lib.hid (wbE_succ cs (er cs cs.length) wide)
  have hWb := Lib.hid (wbE_bd (cs := cs) (xs := er cs cs.length) (wide := wide) (by omega) hEb hw)
  have hW0 : Hid (wbE cs (er cs cs.length) wide 0 = 0) := rfl
  have hXb := Lib.hid (getD_bd9 hEb)
  have hGd := Lib.hid hgood
  have hLen := Lib.hid hEl
  have hCe : Hid (∀ i (h : i < cs.length), cstA cs i = (fm cs[i].op).c) := fun i h => by unfold cstA; rw [inAt_eq h]
  clear hes hB hEb hEl hgood
  generalize wbE cs (er cs cs.length) wide = WB at *
  generalize er cs cs.length = xs at *
  have hGy := Lib.hid fun (q : Int) (k : Nat) (hk : k < xs.length) (h : q ≤ xs.getD k 0) => cgE_yes hk h
  have hGn := Lib.hid fun (q : Int) (k : Nat) (hk : k < xs.length) (h : ¬ q ≤ xs.getD k 0) => cgE_no hk h
  have hGb := Lib.hid (cgE_bd xs)
  have hG0 := Lib.hid (cgE_zero xs)
  have hLs := Lib.hid fun (q : Int) => lcE_succ cs xs q 100
  have hLb := Lib.hid fun (q : Int) => lcE_bd cs xs q (a := 100) (by omega)
  have hL0 : Hid (∀ q, lcE cs xs q 100 0 = 100) := fun _ => rfl
  have hBe : Hid (∀ q, bdE cs xs wide q 100 = q + (cgE xs q cs.length + wide - 1).tdiv wide + lcE cs xs q 100 cs.length - 1) := fun q => by unfold bdE; rw [hLen.out]
  generalize cgE xs = G at *
  generalize (fun q => lcE cs xs q 100) = F0 at *
  go_enter Try.func115, Try.ntmps115
  go_wp2_with (fail)
  refine HE.out.mono ?_
  rintro e w2 ⟨A2, c2, rfl, ho2, hb2⟩
  have hO2 := Lib.hid (OW.rs ho2)
  have hBw := Lib.hid hb2
  clear ho2 hb2
  rw [hLen.out]
  go_wp2
  go_loopw [6, 17] (fun v q wr => ∃ k : Nat, k ≤ cs.length ∧ q = .int .i64 k ∧ v = .int .i64 (WB k) ∧ Below w2.heap.size w2 wr) (fun _ q _ => cs.length - (intOf q).toNat)
  case atStart => exact ⟨0, Nat.zero_le _, rfl, by rw [hW0.out], Below.refl _ _⟩
  case round =>
    obtain ⟨p, hp, rfl, rfl, hbel⟩ := hrel
    have hBL := Lib.hid hbel
    clear hbel
    by_cases hlt : p < cs.length
    · have hpi : (p : Int) < (cs.length : Int) := by omega
      have hp0 : (0 : Int) ≤ (p : Int) := by omega
      have hpx : p < xs.length := by rw [hLen.out]; exact hlt
      obtain ⟨xb, xo, rfl, ⟨_, hxb⟩, hxc⟩ := hO2.out (by omega)
      have x0 := (hBL.out.cell (p := ⟨xb, xo + p, none⟩) hxb).trans (hxc p hpx)
      have hgd : xs.getD p 0 = xs[p] := by rw [List.getD_eq_getElem?_getD, List.getElem?_eq_getElem hpx]; rfl
      rw [← hgd] at x0
      have hWk := hWs.out p
      have h1 := hWb.out p
      have h2 := hXb.out p
      have hbe := hBe.out (xs.getD p 0)
      rw [hbe] at hWk
      have hWk := Lib.hid hWk
      have hGyq := Lib.hid (hGy.out (xs.getD p 0))
      have hGnq := Lib.hid (hGn.out (xs.getD p 0))
      have hGbq := Lib.hid (hGb.out (xs.getD p 0))
      have hG0q := Lib.hid (hG0.out (xs.getD p 0))
      have hLsq := Lib.hid (hLs.out (xs.getD p 0))
      have hLbq := Lib.hid (hLb.out (xs.getD p 0))
      have hL0q := Lib.hid (hL0.out (xs.getD p 0))
      have hxcs := Lib.hid hxc
      have hxbs := Lib.hid hxb
      clear hxc hgd hbe hxb
      generalize hTT : WB (p + 1) = z1 at *
      have hTh := Lib.hid hTT
      clear hTT
      generalize WB p = z at *
      generalize xs.getD p 0 = q at *
      generalize lcE cs xs q 100 = F at *
      generalize G q = g at *
      go_wp2
      clear x0
      go_loopw [9, 10, 23] (fun u v q9 wq => ∃ k : Nat, k ≤ cs.length ∧ q9 = .int .i64 k ∧ u = .int .i64 (g k) ∧ v = .int .i64 (F k) ∧ Below w2.heap.size w2 wq) (fun _ _ q9 _ => cs.length - (intOf q9).toNat)
      case atStart => exact ⟨0, Nat.zero_le _, rfl, by rw [hG0q.out], by rw [hL0q.out], hBL.out⟩
      case round =>
        clear hBL
        obtain ⟨k, hk, rfl, rfl, rfl, hbel⟩ := hrel
        have hBL := Lib.hid hbel
        clear hbel
        by_cases hltk : k < cs.length
        · have hki : (k : Int) < (cs.length : Int) := by omega
          have hk0 : (0 : Int) ≤ (k : Int) := by omega
          have hkx : k < xs.length := by rw [hLen.out]; exact hltk
          obtain ⟨b, o, rfl, ⟨_, hbB⟩, hc⟩ := In.cells (hE.out wr (hBw.out.trans (hBL.out.mono hBw.out.size))) (by omega)
          obtain ⟨c1, c2', c3, c4, c5⟩ := hc k hltk
          have y0 := (hBL.out.cell (p := ⟨xb, xo + k, none⟩) hxbs.out).trans (hxcs.out k hkx)
          have hgd : xs.getD k 0 = xs[k] := by rw [List.getD_eq_getElem?_getD, List.getElem?_eq_getElem hkx]; rfl
          rw [← hgd] at y0
          have hLk := hLsq.out k
          have hgb := hGbq.out k
          rw [hLen.out] at hgb
          have hlb := hLbq.out k
          have hYy := hGyq.out k hkx
          have hYn := hGnq.out k hkx
          rw [hCe.out k hltk] at hLk
          have hok := (good_parts (hGd.out _ (List.getElem_mem hltk))).2.2.2.1
          clear hc hgd
          generalize hGG : g (k + 1) = g2 at *
          have hGh := Lib.hid hGG
          clear hGG
          generalize hFF : F (k + 1) = f2 at *
          have hFh := Lib.hid hFF
          clear hFF
          generalize g k = gk at *
          generalize F k = fk at *
          generalize xs.getD k 0 = y at *
          generalize cs[k] = nd at *
          obtain ⟨op, d, a, bb, m⟩ := nd
          dsimp only at *
          have hC := Lib.hid fun (W : World) => cdCost_any op W hok
          have hfc := fm_c op
          generalize (fm op).c = t at *
          clear hok
          have hX := Lib.hid (XB.newI9 wr ⟨op, d, a, bb, m⟩)
          have ha := Lib.hid ((Below.refl wr.heap.size wr).alloc (Nat.le_refl _) (.cells #[.string op, .int .i64 d, .int .i64 a, .int .i64 bb, .int .i64 m] 65))
          have y1 := (ha.out.cell (p := ⟨xb, xo + k, none⟩) (by
            rcases Nat.lt_or_ge xb wr.heap.size with h9 | h9
            · exact h9
            · simp [World.cell?, Array.getElem?_eq_none h9] at y0)).trans y0
          have hB1 := Lib.hid (hBL.out.trans (ha.out.mono hBL.out.size))
          have hw1 : IntKind.i64.wrap (gk + 1) = gk + 1 := IntWalk.i64_in _ (by omega)
          by_cases hy : q ≤ y
          · have hg2 : g2 = gk + 1 := hYy hy
            rw [if_pos hy] at hLk
            have hG2 := Lib.hid hg2
            have hF2 := Lib.hid hLk
            clear hg2 hLk hYy hYn
            go_wp2_with (fail)
            clear c1 c2' c3 c4 c5 y0 ha
            refine (hC.out _).mono ?_
            rintro e w3 ⟨rfl, rfl⟩
            go_wp2_with (fail)
            refine (l1Least_9 _ _ _).mono ?_
            rintro e w3 ⟨rfl, rfl⟩
            go_wp2
            go_roundw
            case rel => exact ⟨k + 1, by omega, by go_num, by rw [hGh.out, hG2.out], by rw [hFh.out, hF2.out], hB1.out⟩
            case measure => simp [intOf]; omega
          · have hg2 : g2 = gk := hYn (by omega)
            rw [if_neg hy] at hLk
            have hG2 := Lib.hid hg2
            have hF2 := Lib.hid hLk
            clear hg2 hLk hYy hYn
            go_wp2
            go_roundw
            case rel => exact ⟨k + 1, by omega, by go_num, by rw [hGh.out, hG2.out], by rw [hFh.out, hF2.out], hB1.out⟩
            case measure => simp [intOf]; omega
        · obtain rfl : k = cs.length := by omega
          have hgb := hGbq.out cs.length
          rw [hLen.out] at hgb
          have hlb := hLbq.out cs.length
          have hn0 : 0 ≤ g cs.length + wide - 1 ∧ g cs.length + wide - 1 ≤ 100 := by omega
          have ht := tdiv_bd hn0.1 hn0.2 hw.1
          generalize g cs.length = n at *
          generalize F cs.length = l4 at *
          have hw1 : IntKind.i64.wrap (n + wide) = n + wide := IntWalk.i64_in _ (by omega)
          have hw2 : IntKind.i64.wrap (n + wide - 1) = n + wide - 1 := IntWalk.i64_in _ (by omega)
          have hwz : ¬ wide = 0 := by omega
          have hW2 := hWk.out
          generalize hdv : (n + wide - 1).tdiv wide = dv at *
          have hW2 := Lib.hid hW2
          have hw3 : IntKind.i64.wrap dv = dv := IntWalk.i64_in _ (by omega)
          have hw4 : IntKind.i64.wrap (q + dv) = q + dv := IntWalk.i64_in _ (by omega)
          have hw5 : IntKind.i64.wrap (q + dv + l4) = q + dv + l4 := IntWalk.i64_in _ (by omega)
          have hw6 : IntKind.i64.wrap (q + dv + l4 - 1) = q + dv + l4 - 1 := IntWalk.i64_in _ (by omega)
          go_wp2_with (fail)
          refine (l1Most_9 _ _ _).mono ?_
          rintro e w3 ⟨rfl, rfl⟩
          go_wp2
          go_roundw
          case rel => exact ⟨p + 1, by omega, by go_num, by rw [hTh.out, hW2.out], hBL.out⟩
          case measure => simp [intOf]; omega
    · obtain rfl : p = cs.length := by omega
      have hfin := Lib.hid (hBw.out.trans (hBL.out.mono hBw.out.size))
      go_wp2
      go_ret
      exact ⟨rfl, hfin.out⟩
set_option maxHeartbeats 4000000 in
theorem sWideBound_k (L B : Nat) (A : Option Addr) (c : Nat) (cs : List In) (wide : Int) (w : World) (hl : cs.length ≤ 1048576) (hes : RS In.enc 5 w L B A cs) (hB : B ≤ w.heap.size) :
    Calls Try.prog 58 #[.slice A cs.length c, .int .i64 wide] w (ResWideBound (wbR cs wide) (wbK cs wide) w) := by
  have H := Lib.hid (orGood_any L B A c cs w hl hes hB)
  cases hg : orGood cs
  · have hK := Lib.hid (wbK_no1 wide hg)
    have hR := Lib.hid (wbR_no hK.out)
    rw [hg] at H
    clear hg hes
    generalize wbR cs wide = R at *
    generalize wbK cs wide = K at *
    go_enter Try.func58, Try.ntmps58
    go_wp2_with (fail)
    refine H.out.mono ?_
    rintro e w1 ⟨rfl, hb1⟩
    have hB1 := Lib.hid hb1
    clear hb1
    go_wp2
    go_ret2
    rw [hR.out, hK.out]
    exact ⟨rfl, hB1.out⟩
  rw [hg] at H
  have HW := Lib.hid (orWide_any wide)
  cases hw : inR wide 1 3
  · have hK := Lib.hid (wbK_no2 cs hw)
    have hR := Lib.hid (wbR_no hK.out)
    rw [hw] at HW
    clear hg hes hw
    generalize wbR cs wide = R at *
    generalize wbK cs wide = K at *
    go_enter Try.func58, Try.ntmps58
    go_wp2_with (fail)
    refine H.out.mono ?_
    rintro e w1 ⟨rfl, hb1⟩
    have hB1 := Lib.hid hb1
    clear hb1
    go_wp2_with (fail)
    refine (HW.out _).mono ?_
    rintro e w2 ⟨rfl, rfl⟩
    go_wp2
    go_ret2
    rw [hR.out, hK.out]
    exact ⟨rfl, hB1.out⟩
  · have hK := Lib.hid (wbK_yes hg hw)
    have hR := Lib.hid (wbR_yes hK.out)
    have hwi := (inR_iff _ _ _).1 hw
    have hGp := orGood_parts hg
    have HB := Lib.hid fun (W : World) (hW : Below w.heap.size w W) => orBound_any L B A c cs wide W hGp.1 hGp.2 (hes.below hW hB) (Nat.le_trans hB hW.size) hwi
    rw [hw] at HW
    clear hg hes hw hwi hGp
    generalize wbR cs wide = R at *
    generalize wbK cs wide = K at *
    generalize wbE cs (er cs cs.length) wide cs.length = E at *
    go_enter Try.func58, Try.ntmps58
    go_wp2_with (fail)
    refine H.out.mono ?_
    rintro e w1 ⟨rfl, hb1⟩
    have hB1 := Lib.hid hb1
    clear hb1
    go_wp2_with (fail)
    refine (HW.out _).mono ?_
    rintro e w2 ⟨rfl, rfl⟩
    go_wp2_with (fail)
    refine (HB.out _ hB1.out).mono ?_
    rintro e w2 ⟨rfl, hb2⟩
    have hB2 := Lib.hid (hB1.out.trans (hb2.mono hB1.out.size))
    clear hb2
    go_wp2
    go_ret2
    rw [hR.out, hK.out]
    exact ⟨rfl, hB2.out⟩
end Go.Proofs.Ytpgdccfpegdcoaa

/- Chapter 9: LatestOf of the model. -/
namespace Go.Proofs.Ytpgdccfpegdcoaa
open Go.RowKit
set_option linter.unusedVariables false
set_option maxRecDepth 100000

def ly (cs : List In) (len : Int) (k : Nat) : List Int := (List.range cs.length).map fun q => if k ≤ q then len - hH cs q else 0
def lyr (cs : List In) (len : Int) (i j : Nat) : List Int := (ly cs len (i + 1)).set i (len - mx (vL cs (hH cs) i j) (cstA cs i))
theorem ly_len (cs : List In) (len : Int) (k : Nat) : (ly cs len k).length = cs.length := by simp [ly]
theorem lyr_len (cs : List In) (len : Int) (i j : Nat) : (lyr cs len i j).length = cs.length := by unfold lyr; rw [List.length_set, ly_len]
theorem ly_top (cs : List In) (len : Int) : ly cs len cs.length = List.replicate cs.length 0 := by
  unfold ly
  rw [mapR_eq cs.length (g := fun _ => 0) fun q hq => if_neg (by omega)]
  apply List.ext_getElem
  · simp
  · intro k h1 h2; simp
theorem ly_bot (cs : List In) (len : Int) : ly cs len 0 = latL cs len := by
  unfold ly latL
  exact mapR_eq _ fun q hq => if_pos (Nat.zero_le _)
theorem lyr_at {cs : List In} (len : Int) {i : Nat} (j : Nat) (hi : i < cs.length) : (lyr cs len i j).getD i 0 = len - mx (vL cs (hH cs) i j) (cstA cs i) := by
  unfold lyr ly
  rw [mapR_set, mapR_at _ _ hi, if_pos rfl]
theorem lyr_gt {cs : List In} (len : Int) {i q : Nat} (j : Nat) (h1 : i < q) (h2 : q < cs.length) : (lyr cs len i j).getD q 0 = len - hH cs q := by
  unfold lyr ly
  rw [mapR_set, mapR_at _ _ h2, if_neg (by omega), if_pos (by omega)]
theorem lyr_start (cs : List In) (len : Int) (i : Nat) : lyr cs len i (i + 1) = (ly cs len (i + 1)).set i (len - cstA cs i) := by
  unfold lyr; rw [vL_start cs (hH cs) i (i + 1) (Nat.le_refl _)]; rfl
theorem lyr_end {cs : List In} (len : Int) {i : Nat} (hi : i < cs.length) : lyr cs len i cs.length = ly cs len i := by
  unfold lyr
  rw [← hH_eq hi]
  unfold ly
  rw [mapR_set]
  refine mapR_eq _ fun q hq => ?_
  by_cases e : q = i
  · rw [if_pos e, if_pos (by omega), e]
  · rw [if_neg e]
    by_cases h : i ≤ q
    · rw [if_pos h, if_pos (by omega)]
    · rw [if_neg h, if_neg (by omega)]
theorem ly_own {cs : List In} (len : Int) {i : Nat} (hi : i < cs.length) : (ly cs len i).getD i 0 = len - hH cs i := by
  unfold ly; rw [mapR_at _ _ hi, if_pos (Nat.le_refl _)]
theorem lyr_yes {cs : List In} (len : Int) {i j : Nat} (hi : i < cs.length) (hij : i < j) (hj : j < cs.length) (h : 0 ≤ dT cs i j) : lyr cs len i (j + 1) = (lyr cs len i j).set i (min ((lyr cs len i j).getD i 0) ((lyr cs len i j).getD j 0 - dT cs i j)) := by
  rw [lyr_at len j hi, lyr_gt len j hij hj]
  unfold lyr
  rw [List.set_set, vL_yes h, mx_snoc]
  congr 1
  omega
theorem lyr_no {cs : List In} (len : Int) {i j : Nat} (h : ¬ 0 ≤ dT cs i j) : lyr cs len i (j + 1) = lyr cs len i j := by
  unfold lyr; rw [vL_no h]

set_option maxHeartbeats 8000000 in
theorem sLatestOf_go (L B : Nat) (A : Option Addr) (c : Nat) (cs : List In) (len : Int) (w : World) (hg : orGood cs = true) (hr : inR len 0 100 = true) (hl0 : cs.length ≤ 1048576) (hes : RS In.enc 5 w L B A cs) (hB : B ≤ w.heap.size) :
    Calls Try.prog 54 #[.slice A cs.length c, .int .i64 len] w (ResLatestOf (latR cs len) (latK cs len) w) := by
  have hl := (orGood_parts hg).1
  have hgood := (orGood_parts hg).2
  have hlen : 0 ≤ len ∧ len ≤ 100 := (inR_iff _ _ _).1 hr
  have hg1 : decide ((0 : Int) ≤ len) = true := decide_eq_true hlen.1
  have hg2 : decide (len ≤ 100) = true := decide_eq_true hlen.2
  have HI := Lib.hid fun (W : World) => l1In_any len 0 100 W
  have HG := Lib.hid (orGood_any L B A c cs w hl0 hes hB)
  rw [hg] at HG
  rw [hg1, hg2] at HI
  have hKn : Hid (∀ q, q < cs.length → len < hH cs q → latK cs len = false) := fun q hq h => latK_no3 (by have := pbV_ge hq; omega)
  have hKy : Hid ((∀ q, q < cs.length → hH cs q ≤ len) → latK cs len = true) := fun h => latK_yes hg hr (pbV_le hlen.1 h)
  have hRn : Hid (latK cs len = false → latR cs len = []) := fun h => latR_no h
  have hRy : Hid (latK cs len = true → latR cs len = latL cs len) := fun h => latR_yes h
  have hYo := Lib.hid fun (i : Nat) (h : i < cs.length) => ly_own len h
  clear hg1 hg2
  have H := Lib.hid fun (W : World) (hW : Below w.heap.size w W) => orDelays_any L B A c cs W hl hgood (hes.below hW hB) (Nat.le_trans hB hW.size)
  have hmk := run_make_ints cs.length (by omega)
  have hE := Lib.hid fun (W : World) (hW : Below w.heap.size w W) => hes.below hW hB
  have hRl := Lib.hid (dRows_len cs cs.length)
  have hRa := Lib.hid fun (i : Nat) (h : i < (dRows cs cs.length).length) => dRows_at cs cs.length h
  have hTl := Lib.hid (dTab_len cs)
  have hTa := Lib.hid fun (i j : Nat) (h : j < (dTab cs i cs.length).length) => dTab_at cs i cs.length h
  have hZ0 : Hid (zeros cs.length = ly cs len cs.length) := (ly_top cs len).symm
  have hZb := Lib.hid (ly_bot cs len)
  have hZl := Lib.hid (ly_len cs len)
  have hIl := Lib.hid (lyr_len cs len)
  have hIz := Lib.hid (lyr_start cs len)
  have hIe := Lib.hid fun (i : Nat) (h : i < cs.length) => lyr_end len h
  have hIy := Lib.hid fun (i j : Nat) (hi : i < cs.length) (hij : i < j) (hj : j < cs.length) (h : 0 ≤ dT cs i j) => lyr_yes len hi hij hj h
  have hIn := Lib.hid fun (i j : Nat) (h : ¬ 0 ≤ dT cs i j) => lyr_no len h
  have hIg := Lib.hid fun (i j q : Nat) (h1 : i < q) (h2 : q < cs.length) => lyr_gt len j h1 h2
  have hHb := Lib.hid fun (q : Nat) => hH_bd hl q
  have hDb := Lib.hid fun (i j : Nat) => dT_bd cs i j
  have hLl := Lib.hid (latL_len cs len)
  have hGd := Lib.hid hgood
  have hCe : Hid (∀ i (h : i < cs.length), cstA cs i = (fm cs[i].op).c) := fun i h => by unfold cstA; rw [inAt_eq h]
  have hsub : IntKind.i64.wrap ((cs.length : Int) - 1) = (cs.length : Int) - 1 := IntWalk.i64_in _ (by omega)
  clear hes hgood hB hg hr
  generalize latR cs len = RR9 at *
  generalize latK cs len = KK9 at *
  generalize dRows cs cs.length = TT at *
  generalize dTab cs = T at *
  generalize dT cs = E at *
  generalize ly cs len = HZ at *
  generalize lyr cs len = HR at *
  generalize latL cs len = HL at *
  generalize hH cs = HH at *
  have hCb := Lib.hid (cstA_bd cs)
  generalize cstA cs = CA at *
  go_enter Try.func54, Try.ntmps54
  go_wp2_with (fail)
  refine HG.out.mono ?_
  rintro e w0 ⟨rfl, hb0⟩
  have hB0 := Lib.hid hb0
  have H1 := H.out w0 hb0
  clear hb0
  go_wp2_with (fail)
  refine (HI.out _).mono ?_
  rintro e w9 ⟨rfl, rfl⟩
  go_wp2_with (fail)
  refine H1.mono ?_
  rintro e w1 ⟨At, ct, rfl, hox, hb1⟩
  have hXT := Lib.hid (OX.rs hox)
  have hB1 := Lib.hid (hB0.out.trans (hb1.mono hB0.out.size))
  have hO0 : Hid (OW (w1.alloc (.cells (intCells (zeros cs.length)) 3)) w1.heap.size (w1.alloc (.cells (intCells (zeros cs.length)) 3)).heap.size (.slice (some ⟨w1.heap.size, 0, none⟩) cs.length cs.length) (HZ cs.length)) := by
    have h : IB (w1.alloc (.cells (intCells (zeros cs.length)) 3)) w1.heap.size 3 (zeros cs.length) := heap_alloc_new w1 _
    have h2 := OW.ofIB (lo := w1.heap.size) (hi := (w1.alloc (.cells (intCells (zeros cs.length)) 3)).heap.size) h (by simp [zeros]; omega) (Nat.le_refl _) (by simp)
    have hz : (zeros cs.length).length = cs.length := by simp [zeros]
    rw [hz, hZ0.out] at h2
    rw [hZ0.out]
    exact h2
  have hb2 := Lib.hid ((Below.refl w1.heap.size w1).alloc (Nat.le_refl _) (.cells (intCells (zeros cs.length)) 3))
  clear hox hb1
  rw [hRl.out]
  go_wp2_with (fail)
  clear hmk
  generalize hg : w1.heap.size = g at hO0 ⊢
  generalize w1.alloc (.cells (intCells (zeros cs.length)) 3) = W2 at *
  have hG := Lib.hid hg
  clear hg
  go_loopw [8] (fun q wr => ∃ k : Nat, k ≤ cs.length ∧ (∀ q, k ≤ q → q < cs.length → HH q ≤ len) ∧ q = .int .i64 ((k : Int) - 1) ∧ OW wr g wr.heap.size (.slice (some ⟨g, 0, none⟩) cs.length cs.length) (HZ k) ∧ Below w1.heap.size w1 wr) (fun q _ => (intOf q + 1).toNat)
  case atStart => exact ⟨cs.length, Nat.le_refl _, fun q h1 h2 => by omega, rfl, hO0.out, hb2.out⟩
  case round =>
    clear hO0 hb2
    obtain ⟨k, hk, hal, rfl, how, hbel⟩ := hrel
    have hAl := Lib.hid hal
    clear hal
    have hO := Lib.hid how
    have hBL := Lib.hid hbel
    clear how hbel
    rcases Nat.eq_zero_or_pos k with rfl | hpos
    · have hfin := Lib.hid (hB1.out.trans (hBL.out.mono hB1.out.size))
      have hlg : w.heap.size ≤ g := by rw [← hG.out]; exact hB1.out.size
      have hO9 := Lib.hid (hO.out.lower hlg)
      rw [hZb.out] at hO9
      have hK9 := Lib.hid (hKy.out fun q hq => hAl.out q (Nat.zero_le _) hq)
      have hR9 := Lib.hid (hRy.out hK9.out)
      clear hlg
      go_wp2
      go_ret2
      rw [hR9.out, hK9.out]
      exact ⟨_, _, by rw [hLl.out]; rfl, by rw [hLl.out]; exact hO9.out, hfin.out⟩
    · obtain ⟨p, rfl⟩ : ∃ p, k = p + 1 := ⟨k - 1, by omega⟩
      have hp1 : (((p + 1 : Nat) : Int) - 1) = (p : Int) := by omega
      rw [hp1]
      clear hp1
      have hlt : p < cs.length := by omega
      have hji : (p : Int) < (cs.length : Int) := by omega
      have hj0 : (0 : Int) ≤ (p : Int) := by omega
      have hws : IntKind.i64.wrap ((p : Int) - 1) = (p : Int) - 1 := IntWalk.i64_in _ (by omega)
      have hbw := Lib.hid (hB1.out.trans (hBL.out.mono hB1.out.size))
      obtain ⟨b, o, rfl, ⟨_, hbB⟩, hc⟩ := In.cells (hE.out wr hbw.out) (by omega)
      obtain ⟨c1, _⟩ := hc p hlt
      have hok := (good_parts (hGd.out _ (List.getElem_mem hlt))).2.2.2.1
      have hce := hCe.out p hlt
      have hC := Lib.hid fun (W : World) => cdCost_any cs[p].op W hok
      rw [← hce] at hC
      clear hc hok hce
      generalize cs[p].op = op at *
      have hIp := Lib.hid (hIz.out p)
      have hcb := hCb.out p
      have hwc : IntKind.i64.wrap (len - CA p) = len - CA p := IntWalk.i64_in _ (by omega)
      obtain ⟨_, fp⟩ := OW.at9 hO.out p (by rw [hZl.out]; exact hlt)
      obtain ⟨op0, _⟩ := OW.at9 hO.out p (by rw [hZl.out]; exact hlt)
      have hP3 := hO.out.put9 p (len - CA p)
      rw [← hIp.out] at hP3
      have hzs : (wr.setCell ⟨g, p, none⟩ (.int .i64 (len - CA p))).heap.size = wr.heap.size := World.size_setCell _ _ _
      have hO3 := Lib.hid (show OW (wr.setCell ⟨g, p, none⟩ (.int .i64 (len - CA p))) g (wr.setCell ⟨g, p, none⟩ (.int .i64 (len - CA p))).heap.size (.slice (some ⟨g, 0, none⟩) cs.length cs.length) (HR p (p + 1)) from by rw [hzs]; exact hP3)
      have hb3 := Lib.hid (hBL.out.setCell (p := ⟨g, p, none⟩) (by rw [hG.out]; exact Nat.le_refl _) (.int .i64 (len - CA p)))
      clear hP3 hzs
      go_wp2_with (fail)
      refine (hC.out _).mono ?_
      rintro e w3 ⟨rfl, rfl⟩
      go_wp2
      clear c1 fp op0 hO hBL hC
      generalize wr.setCell ⟨g, p, none⟩ (.int .i64 (len - CA p)) = W3 at *
      go_loopw [9] (fun q wq => ∃ j : Nat, p < j ∧ j ≤ cs.length ∧ q = .int .i64 j ∧ OW wq g wq.heap.size (.slice (some ⟨g, 0, none⟩) cs.length cs.length) (HR p j) ∧ Below w1.heap.size w1 wq) (fun q _ => cs.length - (intOf q).toNat)
      case atStart => exact ⟨p + 1, Nat.lt_succ_self _, hlt, by go_num, hO3.out, hb3.out⟩
      case round =>
        clear hO3 hb3
        obtain ⟨j, hpj, hj, rfl, how, hbel⟩ := hrel
        have hO := Lib.hid how
        have hBL := Lib.hid hbel
        clear how hbel
        by_cases hjn : j < cs.length
        · have hjin : (j : Int) < (cs.length : Int) := by omega
          have hj00 : (0 : Int) ≤ (j : Int) := by omega
          obtain ⟨xb, xo, Ai, ci, rfl, hxb, xc0, hI⟩ := XS.at hXT.out (show p < TT.length by rw [hRl.out]; omega)
          rw [hRa.out p (by rw [hRl.out]; omega)] at xc0 hI
          rw [hTl.out] at xc0
          obtain ⟨rb, ro, rfl, ⟨_, hrb⟩, hcc⟩ := hI (by rw [hTl.out]; omega)
          have rc0 := hcc j (by rw [hTl.out]; exact hjn)
          rw [hTa.out p j (by rw [hTl.out]; exact hjn)] at rc0
          have xc := (hBL.out.cell (p := ⟨xb, xo + p, none⟩) hxb).trans xc0
          have rc := (hBL.out.cell (p := ⟨rb, ro + j, none⟩) hrb).trans rc0
          have hlen := hIl.out p j
          obtain ⟨oj, fj⟩ := OW.at9 hO.out p (by rw [hlen]; exact hlt)
          obtain ⟨oi, _⟩ := OW.at9 hO.out j (by rw [hlen]; omega)
          have hY := Lib.hid (hIy.out p j hlt hpj hjn)
          have hN := Lib.hid (hIn.out p j)
          have hb0 := hIg.out p j j hpj hjn
          have hb00 : -100 ≤ (HR p j).getD j 0 ∧ (HR p j).getD j 0 ≤ 100 := by rw [hb0]; have := hHb.out j; omega
          have hb1 := hDb.out p j
          have hPut := Lib.hid fun (x : Int) => hO.out.put9 p x
          clear hcc hI xc0 rc0 hb0
          generalize hTT : HR p (j + 1) = En at *
          have hTh := Lib.hid hTT
          clear hTT
          generalize HR p j = xs at *
          generalize E p j = dd at *
          generalize xs.getD p 0 = yj at *
          generalize xs.getD j 0 = yi at *
          have hw9 : IntKind.i64.wrap (yi - dd) = yi - dd := IntWalk.i64_in _ (by omega)
          by_cases h0 : 0 ≤ dd
          · have hY2 := Lib.hid (hY.out h0)
            clear hY hN
            have hlg : w1.heap.size ≤ g := by rw [hG.out]; exact Nat.le_refl _
            have hBs := Lib.hid ((hBL.out.setCell (p := ⟨g, p, none⟩) hlg (.int .i64 (min yj (yi - dd)))).drew)
            clear hlg
            have hfin := Lib.hid (show OW (wr.setCell ⟨g, p, none⟩ (.int .i64 (min yj (yi - dd)))).drew g (wr.setCell ⟨g, p, none⟩ (.int .i64 (min yj (yi - dd)))).drew.heap.size (.slice (some ⟨g, 0, none⟩) cs.length cs.length) En from by
              rw [hY2.out]
              have hz : (wr.setCell ⟨g, p, none⟩ (.int .i64 (min yj (yi - dd)))).heap.size = wr.heap.size := World.size_setCell _ _ _
              show OW (wr.setCell ⟨g, p, none⟩ (.int .i64 (min yj (yi - dd)))) g (wr.setCell ⟨g, p, none⟩ (.int .i64 (min yj (yi - dd)))).heap.size _ _
              rw [hz]; exact hPut.out _)
            go_wp2_with (fail)
            go_region_law (go_simp; go_at_call 111; (with_reducible refine (l1Least_9 _ _ _).mono ?_); rintro e w' ⟨rfl, rfl⟩)
            all_goals
              go_wp2
              go_roundw
              case rel => exact ⟨j + 1, by omega, by omega, by go_num, by rw [hTh.out]; exact hfin.out, hBs.out⟩
              case measure => simp [intOf]; omega
          · have hN2 := Lib.hid (hN.out (by omega))
            clear hY hN
            go_wp2
            go_roundw
            case rel => exact ⟨j + 1, by omega, by omega, by go_num, by rw [hTh.out, hN2.out]; exact hO.out, hBL.out⟩
            case measure => simp [intOf]; omega
        · obtain rfl : j = cs.length := by omega
          have hE9 := Lib.hid (hIe.out p hlt)
          rw [hE9.out] at hO
          obtain ⟨oo, _⟩ := OW.at9 hO.out p (by rw [hZl.out]; exact hlt)
          rw [hYo.out p hlt] at oo
          have hhb := hHb.out p
          by_cases hneg : len < HH p
          · have hK9 := Lib.hid (hKn.out p hlt hneg)
            have hR9 := Lib.hid (hRn.out hK9.out)
            have hfin := Lib.hid (hB1.out.trans (hBL.out.mono hB1.out.size))
            generalize HH p = hp9 at *
            have hd9 : len - hp9 < 0 := by omega
            go_wp2
            go_ret2
            rw [hR9.out, hK9.out]
            exact ⟨none, 0, rfl, OW.nil _ _ _, hfin.out⟩
          · have hAl2 : Hid (∀ q, p ≤ q → q < cs.length → HH q ≤ len) := fun q h1 h2 => by
              rcases Nat.lt_or_ge p q with h3 | h3
              · exact hAl.out q h3 h2
              · obtain rfl : q = p := by omega
                omega
            generalize HH p = hp9 at *
            have hd9 : ¬ len - hp9 < 0 := by omega
            go_wp2
            go_roundw
            case rel => exact ⟨p, by omega, hAl2.out, rfl, hO.out, hBL.out⟩
            case measure => simp [intOf] <;> omega
end Go.Proofs.Ytpgdccfpegdcoaa

/- Chapter 9: LatestOf of the model, whole. -/
namespace Go.Proofs.Ytpgdccfpegdcoaa
open Go.RowKit
set_option linter.unusedVariables false
set_option maxRecDepth 100000

set_option maxHeartbeats 4000000 in
theorem sLatestOf_k (L B : Nat) (A : Option Addr) (c : Nat) (cs : List In) (len : Int) (w : World) (hl : cs.length ≤ 1048576) (hes : RS In.enc 5 w L B A cs) (hB : B ≤ w.heap.size) :
    Calls Try.prog 54 #[.slice A cs.length c, .int .i64 len] w (ResLatestOf (latR cs len) (latK cs len) w) := by
  have H := Lib.hid (orGood_any L B A c cs w hl hes hB)
  cases hg : orGood cs
  · have hK := Lib.hid (latK_no1 len hg)
    have hR := Lib.hid (latR_no hK.out)
    rw [hg] at H
    clear hg hes
    generalize latR cs len = R at *
    generalize latK cs len = K at *
    go_enter Try.func54, Try.ntmps54
    go_wp2_with (fail)
    refine H.out.mono ?_
    rintro e w1 ⟨rfl, hb1⟩
    have hB1 := Lib.hid hb1
    clear hb1
    go_wp2
    go_ret2
    rw [hR.out, hK.out]
    exact ⟨none, 0, rfl, OW.nil _ _ _, hB1.out⟩
  cases hr : inR len 0 100
  · have hK := Lib.hid (latK_no2 cs hr)
    have hR := Lib.hid (latR_no hK.out)
    have HI := Lib.hid fun (W : World) => l1In_any len 0 100 W
    have hf : (decide ((0 : Int) ≤ len) && decide (len ≤ 100)) = false := by
      cases h : (decide ((0 : Int) ≤ len) && decide (len ≤ 100))
      · rfl
      · rw [Bool.and_eq_true, decide_eq_true_iff, decide_eq_true_iff] at h
        rw [(inR_iff _ _ _).2 h] at hr; cases hr
    rw [hf] at HI
    rw [hg] at H
    clear hg hes hr hf
    generalize latR cs len = R at *
    generalize latK cs len = K at *
    go_enter Try.func54, Try.ntmps54
    go_wp2_with (fail)
    refine H.out.mono ?_
    rintro e w1 ⟨rfl, hb1⟩
    have hB1 := Lib.hid hb1
    clear hb1
    go_wp2_with (fail)
    refine (HI.out _).mono ?_
    rintro e w9 ⟨rfl, rfl⟩
    go_wp2
    go_ret2
    rw [hR.out, hK.out]
    exact ⟨none, 0, rfl, OW.nil _ _ _, hB1.out⟩
  exact sLatestOf_go L B A c cs len w hg hr hl hes hB
end Go.Proofs.Ytpgdccfpegdcoaa

/- Arguments of the types []laws.Instr, laws.Instr and []int opened. -/
namespace Go.Proofs.Ytpgdccfpegdcoaa
open Go.ChangeShapes Go.WideShapes Go.ChangeAt Go.RowKit Go.Deep
open Go.ChangeMaps (open_string shut_string)
set_option linter.unusedVariables false

theorem cellsIn : Try.prog.cellsOf 59 = 5 := by kernel_rfl
theorem cellsStr : Try.prog.cellsOf 9 = 1 := by kernel_rfl
theorem cellsInt : Try.prog.cellsOf 3 = 1 := by kernel_rfl

set_option maxRecDepth 100000 in
theorem in_of_trod {H : Type} {enc : TypeId × Value → H} {w : World} {base : Nat} {spare : Nat → Bool} {held : Bool} {n : Nat} {cs : List Value} {x : DataW H × List MemPlace}
    (h : DataW.trod enc Try.prog w base spare held n 59 cs = some x) : ∃ nd : In, cs = nd.enc ∧ nd.op.size ≤ maxLen := by
  obtain ⟨xs, m, _, _, hlen, hxl, hf⟩ := DataW.trod_struct Try.underlying59 h
  rw [cellsIn] at hlen
  match cs, hlen with
  | [c0, c1, c2, c3, c4], _ =>
    match xs, hxl with
    | [y0, y1, y2, y3, y4], _ =>
      have h0 := hf 0 _ rfl
      change DataW.trod enc Try.prog w base spare held m 9 (([c0, c1, c2, c3, c4].drop 0).take (Try.prog.cellsOf 9)) = _ at h0
      rw [cellsStr] at h0
      have h1 := hf 1 _ rfl
      change DataW.trod enc Try.prog w base spare held m 3 (([c0, c1, c2, c3, c4].drop 1).take (Try.prog.cellsOf 3)) = _ at h1
      rw [cellsInt] at h1
      have h2 := hf 2 _ rfl
      change DataW.trod enc Try.prog w base spare held m 3 (([c0, c1, c2, c3, c4].drop 2).take (Try.prog.cellsOf 3)) = _ at h2
      rw [cellsInt] at h2
      have h3 := hf 3 _ rfl
      change DataW.trod enc Try.prog w base spare held m 3 (([c0, c1, c2, c3, c4].drop 3).take (Try.prog.cellsOf 3)) = _ at h3
      rw [cellsInt] at h3
      have h4 := hf 4 _ rfl
      change DataW.trod enc Try.prog w base spare held m 3 (([c0, c1, c2, c3, c4].drop 4).take (Try.prog.cellsOf 3)) = _ at h4
      rw [cellsInt] at h4
      obtain ⟨s, e0, _, hs⟩ := DataW.trod_string Try.underlying9 h0
      obtain ⟨d, e1, _, _⟩ := DataW.trod_int Try.underlying3 h1
      obtain ⟨a, e2, _, _⟩ := DataW.trod_int Try.underlying3 h2
      obtain ⟨b, e3, _, _⟩ := DataW.trod_int Try.underlying3 h3
      obtain ⟨m, e4, _, _⟩ := DataW.trod_int Try.underlying3 h4
      have e0 : c0 = .string s := by simpa using e0
      have e1 : c1 = .int .i64 d := by simpa using e1
      have e2 : c2 = .int .i64 a := by simpa using e2
      have e3 : c3 = .int .i64 b := by simpa using e3
      have e4 : c4 = .int .i64 m := by simpa using e4
      exact ⟨⟨s, d, a, b, m⟩, by rw [e0, e1, e2, e3, e4]; rfl, hs⟩

theorem cell_lt_heap {w : World} {a : Addr} {v : Value} (h : w.cell? a = some v) : a.block < w.heap.size := by
  rcases Nat.lt_or_ge a.block w.heap.size with hlt | hge
  · exact hlt
  · unfold World.cell? at h; rw [Array.getElem?_eq_none hge] at h; simp at h

set_option maxRecDepth 100000 in
theorem x_of_trod {H : Type} {enc : TypeId × Value → H} {w : World} {r : Reach} {b0 : Nat} {spare : Nat → Bool} {held : Bool} {v : Value} {d : DataW H} {p : List MemPlace}
    (hv : Value.okWide Try.prog w r b0 59 v) (h : DataW.Trod enc Try.prog w 0 spare held 59 v d p) :
    ∃ x : In, v = .agg #[.string x.op, .int .i64 x.d, .int .i64 x.a, .int .i64 x.b, .int .i64 x.m] ∧ x.op.size ≤ 9223372036854775807 := by
  obtain ⟨cs, rfl, hsz⟩ := okWide_struct Try.underlying59 hv
  obtain ⟨fuel, hf⟩ := h
  obtain ⟨x, hx, hs⟩ := in_of_trod hf
  refine ⟨x, ?_, by unfold maxLen at hs; omega⟩
  obtain ⟨l⟩ := cs
  have hx' : l = x.enc := by simpa [Value.cells] using hx
  subst hx'; rfl

set_option maxRecDepth 100000 in
theorem ins_of_trod {H : Type} {enc : TypeId × Value → H} {w : World} {spare : Nat → Bool} {held : Bool} {A : Option Addr} {len cap : Nat} {d : DataW H} {p : List MemPlace}
    (h : DataW.Trod enc Try.prog w 0 spare held 22 (.slice A len cap) d p) :
    ∃ es : List In, es.length = len ∧ RS In.enc 5 w 0 w.heap.size A es ∧ (∀ n ∈ es, n.op.size ≤ 9223372036854775807) ∧ len ≤ 9223372036854775807 := by
  obtain ⟨fuel, hf⟩ := h
  rcases open_slice Try.underlying22 hf with ⟨hcs, _⟩ | ⟨a, l, c, m, n, D, Pl, hcs, _, hl, hm, hmm, _, hi⟩
  · simp [Value.cells] at hcs
    obtain ⟨rfl, rfl, rfl⟩ := hcs
    exact ⟨[], rfl, fun h => absurd h (by simp), (fun n hn => by cases hn), by omega⟩
  · simp [Value.cells] at hcs
    obtain ⟨rfl, rfl, rfl⟩ := hcs
    have hlm : len ≤ m := by rw [hmm]; split <;> omega
    have hex : ∀ i, i < len → ∃ nd : In, (∀ j v, nd.enc[j]? = some v → w.cell? (a.add (i * 5 + j)) = some v) ∧ nd.op.size ≤ maxLen := by
      intro i hil
      obtain ⟨cs', hc, ht⟩ := hi i (by omega)
      rw [cellsIn] at hc
      obtain ⟨nd, rfl, hs⟩ := in_of_trod ht
      obtain ⟨_, _, hat⟩ := World.cells?_some hc
      refine ⟨nd, fun j v hv => ?_, hs⟩
      have hj : j < 5 := kflat_lt In.hk hv
      have := hat j hj
      rw [add_add, hv] at this; exact this
    obtain ⟨f, hf2⟩ := Classical.axiomOfChoice (fun i : {i // i < len} => hex i.1 i.2)
    have hget : ∀ i (h : i < (List.ofFn fun i : Fin len => f ⟨i.1, i.2⟩).length), (List.ofFn fun i : Fin len => f ⟨i.1, i.2⟩)[i] = f ⟨i, by simpa using h⟩ := fun i h => by simp
    refine ⟨List.ofFn fun i : Fin len => f ⟨i.1, i.2⟩, by simp, ?_, ?_, by unfold maxLen at hm; omega⟩
    · intro hpos
      have hpos' : 0 < len := by simpa using hpos
      have h0 := (hf2 ⟨0, hpos'⟩).1 0 _ rfl
      obtain ⟨b, o, spot⟩ := a
      have hspot : spot = none := by have := World.cell?_spot h0; simpa [Addr.add] using this
      subst hspot
      have hadd : ∀ k, (⟨b, o, none⟩ : Addr).add k = ⟨b, o + k, none⟩ := fun k => by simp [Addr.add]
      refine ⟨b, o, rfl, ⟨Nat.zero_le _, ?_⟩, fun i hi j v hv => ?_⟩
      · rw [hadd] at h0
        exact cell_lt_heap h0
      · have hi' : i < len := by simpa using hi
        rw [hget i hi] at hv
        have := (hf2 ⟨i, hi'⟩).1 j v hv
        simp only [hadd, ← Nat.add_assoc] at this
        exact this
    · intro n hn
      obtain ⟨i, rfl⟩ := List.mem_ofFn.1 hn
      have := (hf2 ⟨i.1, i.2⟩).2
      unfold maxLen at this; omega

set_option maxRecDepth 100000 in
theorem ints_of_trod {H : Type} {enc : TypeId × Value → H} {w : World} {spare : Nat → Bool} {held : Bool} {A : Option Addr} {len cap : Nat} {d : DataW H} {p : List MemPlace}
    (h : DataW.Trod enc Try.prog w 0 spare held 38 (.slice A len cap) d p) :
    ∃ xs : List Int, xs.length = len ∧ IS w 0 w.heap.size A xs ∧ len ≤ 9223372036854775807 := by
  obtain ⟨fuel, hf⟩ := h
  rcases open_slice Try.underlying38 hf with ⟨hcs, _⟩ | ⟨a, l, c, m, n, D, Pl, hcs, _, hl, hm, hmm, _, hi⟩
  · simp [Value.cells] at hcs
    obtain ⟨rfl, rfl, rfl⟩ := hcs
    exact ⟨[], rfl, fun h => absurd h (by simp), by omega⟩
  · simp [Value.cells] at hcs
    obtain ⟨rfl, rfl, rfl⟩ := hcs
    have hlm : len ≤ m := by rw [hmm]; split <;> omega
    have hex : ∀ i, i < len → ∃ x : Int, w.cell? (a.add i) = some (.int .i64 x) := by
      intro i hil
      obtain ⟨cs', hc, ht⟩ := hi i (by omega)
      rw [cellsInt, Nat.mul_one] at hc
      obtain ⟨x, hx, _, _⟩ := DataW.trod_int Try.underlying3 ht
      obtain ⟨_, _, hat⟩ := World.cells?_some hc
      have := hat 0 (by omega)
      rw [add_add, hx] at this
      exact ⟨x, by simpa using this⟩
    obtain ⟨f, hf2⟩ := Classical.axiomOfChoice (fun i : {i // i < len} => hex i.1 i.2)
    have hget : ∀ i (h : i < (List.ofFn fun i : Fin len => f ⟨i.1, i.2⟩).length), (List.ofFn fun i : Fin len => f ⟨i.1, i.2⟩)[i] = f ⟨i, by simpa using h⟩ := fun i h => by simp
    refine ⟨List.ofFn fun i : Fin len => f ⟨i.1, i.2⟩, by simp, ?_, by unfold maxLen at hm; omega⟩
    intro hpos
    have hpos' : 0 < len := by simpa using hpos
    have h0 := hf2 ⟨0, hpos'⟩
    obtain ⟨b, o, spot⟩ := a
    have hspot : spot = none := by have := World.cell?_spot h0; simpa [Addr.add] using this
    subst hspot
    have hadd : ∀ k, (⟨b, o, none⟩ : Addr).add k = ⟨b, o + k, none⟩ := fun k => by simp [Addr.add]
    refine ⟨b, o, rfl, ⟨Nat.zero_le _, ?_⟩, fun i hi => ?_⟩
    · rw [hadd] at h0
      exact cell_lt_heap h0
    · have hi' : i < len := by simpa using hi
      rw [hget i hi]
      have := hf2 ⟨i, hi'⟩
      simp only [hadd] at this
      exact this
end Go.Proofs.Ytpgdccfpegdcoaa
