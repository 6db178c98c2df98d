/- Texts of this proof, one behind the other: TM, TE, SC, N9B, N9E, HB. -/
import Derived.Test.YtaaloepoegehkaaMP
import Derived.Test.YtaaloepoegehkaaM
import Derived.Test.YtaaloepoegehkaaZ12
import Derived.Test.YtaaloepoegehkaaN9A
import Derived.Test.YtaaloepoegehkaaZ13
import Derived.WalkKit
import Derived.WalkSpells
import Derived.WalkLawsBesides
import Derived.Deep.RegionLaw
import Derived.Deep.RegionHeld3
import Derived.Deep.DeepCutAuto
import Derived.Lib.Hide
import Derived.Test.YtaaloepoegehkaaLI
import Derived.Test.YtaaloepoegehkaaV
/- Tables and inputs. No program. -/
namespace Go.Proofs.Ytaaloepoegehkaa
open Go.RowKit
set_option linter.unusedVariables false

/-- A list of f's values at the first n inputs. -/
def tabTo (f : Int → Int → Int) (n : Nat) : List Int := (List.range n).map fun i => f ((i / 64 : Nat) : Int) ((i % 64 : Nat) : Int)
theorem tabTo_len (f : Int → Int → Int) (n : Nat) : (tabTo f n).length = n := by simp [tabTo]
theorem tabTo_succ (f : Int → Int → Int) (k j : Nat) (h : j < 64) : tabTo f (64 * k + (j + 1)) = tabTo f (64 * k + j) ++ [f k j] := by
  unfold tabTo
  rw [← Nat.add_assoc, List.range_succ, List.map_append]
  have h1 : (64 * k + j) / 64 = k := by omega
  have h2 : (64 * k + j) % 64 = j := by omega
  simp only [List.map_cons, List.map_nil, h1, h2]
theorem tabTo_next (f : Int → Int → Int) (k : Nat) : tabTo f (64 * k + 64) = tabTo f (64 * (k + 1) + 0) := by
  rw [Nat.mul_add]

def inStep (out : List Int) (n : Nd) : List Int := if isIn n.op = true then put out n.v else out
def inTo (es : List Nd) (k : Nat) : List Int := (es.take k).foldl inStep []
def isInp (n : Nd) (k : Int) : Bool := isIn n.op && n.v == k
def hasIn (es : List Nd) (k : Int) : Bool := es.any fun n => isInp n k
def twoOf (a b : Bool) : List Int := (if a = true then [0] else []) ++ (if b = true then [1] else [])
theorem inTo_succ {es : List Nd} {k : Nat} (h : k < es.length) : inTo es (k + 1) = inStep (inTo es k) es[k] := by
  unfold inTo; rw [List.take_succ_eq_append_getElem h, List.foldl_append]; rfl
theorem hasIn_snoc {es : List Nd} {k : Nat} (h : k < es.length) (q : Int) : hasIn (es.take (k + 1)) q = (hasIn (es.take k) q || isInp es[k] q) := by
  unfold hasIn; rw [List.take_succ_eq_append_getElem h, List.any_append]; simp
theorem inTo_eq {es : List Nd} (hok : ∀ k (h : k < es.length), isIn es[k].op = true → es[k].v = 0 ∨ es[k].v = 1) : ∀ k, k ≤ es.length → inTo es k = twoOf (hasIn (es.take k) 0) (hasIn (es.take k) 1) := by
  intro k
  induction k with
  | zero => intro _; rfl
  | succ k ih =>
    intro hk
    rw [inTo_succ (by omega), hasIn_snoc (by omega), hasIn_snoc (by omega), ih (by omega)]
    have hv := hok k (by omega)
    generalize es[k] = n at *
    generalize hasIn (es.take k) 0 = a
    generalize hasIn (es.take k) 1 = b
    unfold inStep isInp
    cases hn : isIn n.op
    · simp
    · rcases hv hn with h | h <;> rw [h] <;> cases a <;> cases b <;> decide
theorem twoOf_len (a b : Bool) : (twoOf a b).length ≤ 2 := by cases a <;> cases b <;> decide
end Go.Proofs.Ytaaloepoegehkaa

/- First places, counts, sums of bits, least and greatest ones over an index. No program. -/
namespace Go.Proofs.Ytaaloepoegehkaa
open Go.RowKit
set_option linter.unusedVariables false

/-- The first index below n at which p holds, or -1. -/
def firstI (p : Nat → Bool) (n : Nat) : Int := match (List.range n).find? p with | some k => (k : Int) | none => -1
theorem firstI_none {p : Nat → Bool} {n : Nat} (h : ∀ i, i < n → p i = false) : firstI p n = -1 := by
  unfold firstI
  have : (List.range n).find? p = none := by
    rw [List.find?_eq_none]; intro x hx; rw [h x (by simpa using hx)]; simp
  rw [this]
theorem firstI_some {p : Nat → Bool} {n k : Nat} (hk : k < n) (hp : p k = true) (h : ∀ i, i < k → p i = false) : firstI p n = k := by
  unfold firstI
  have : (List.range n).find? p = some k := by
    rw [List.find?_range_eq_some]
    exact ⟨hp, by simpa using hk, fun j hj => by simp [h j hj]⟩
  rw [this]
theorem firstI_cases (p : Nat → Bool) (n : Nat) : (firstI p n = -1 ∧ ∀ i, i < n → p i = false) ∨ ∃ k : Nat, k < n ∧ firstI p n = k ∧ p k = true ∧ ∀ i, i < k → p i = false := by
  induction n with
  | zero => exact .inl ⟨rfl, fun i hi => absurd hi (Nat.not_lt_zero _)⟩
  | succ n ih =>
    rcases ih with ⟨_, h2⟩ | ⟨k, hk, _, hp, h2⟩
    · cases hn : p n
      · have h3 : ∀ i, i < n + 1 → p i = false := fun i hi => by
          by_cases e : i = n
          · rw [e]; exact hn
          · exact h2 i (by omega)
        exact .inl ⟨firstI_none h3, h3⟩
      · exact .inr ⟨n, by omega, firstI_some (by omega) hn h2, hn, h2⟩
    · exact .inr ⟨k, by omega, firstI_some (by omega) hp h2, hp, h2⟩
theorem firstI_ext {p q : Nat → Bool} {n : Nat} (h : ∀ i, i < n → p i = q i) : firstI p n = firstI q n := by
  rcases firstI_cases p n with ⟨h1, h2⟩ | ⟨k, hk, h1, hp, h2⟩
  · rw [h1, firstI_none fun i hi => by rw [← h i hi]; exact h2 i hi]
  · rw [h1, firstI_some hk (by rw [← h k hk]; exact hp) fun i hi => by rw [← h i (by omega)]; exact h2 i hi]
theorem firstI_neg {p : Nat → Bool} {n : Nat} : firstI p n < 0 ↔ ∀ i, i < n → p i = false := by
  rcases firstI_cases p n with ⟨h1, h2⟩ | ⟨k, hk, h1, hp, h2⟩
  · rw [h1]; exact ⟨fun _ => h2, fun _ => by decide⟩
  · rw [h1]; constructor
    · intro h; omega
    · intro h; rw [h k hk] at hp; cases hp
theorem firstI_bd (p : Nat → Bool) (n : Nat) : -1 ≤ firstI p n ∧ firstI p n < n := by
  rcases firstI_cases p n with ⟨h1, _⟩ | ⟨k, hk, h1, _, _⟩ <;> rw [h1] <;> omega

def countI (p : Nat → Bool) : Nat → Int
  | 0 => 0
  | n + 1 => countI p n + (if p n = true then 1 else 0)
theorem countI_bd (p : Nat → Bool) (n : Nat) : 0 ≤ countI p n ∧ countI p n ≤ n := by
  induction n with
  | zero => simp [countI]
  | succ n ih => rw [countI]; split <;> omega
theorem countI_ext {p q : Nat → Bool} : ∀ {n : Nat}, (∀ i, i < n → p i = q i) → countI p n = countI q n
  | 0, _ => rfl
  | n + 1, h => by rw [countI, countI, h n (by omega), countI_ext (n := n) (fun i hi => h i (by omega))]
theorem countI_yes {p : Nat → Bool} {n : Nat} (h : p n = true) : countI p (n + 1) = countI p n + 1 := by rw [countI, h]; rfl
theorem countI_no {p : Nat → Bool} {n : Nat} (h : p n = false) : countI p (n + 1) = countI p n := by rw [countI, h]; simp

def orI (f : Nat → Int) : Nat → Int
  | 0 => 0
  | n + 1 => bits .or .i64 (orI f n) (f n)
theorem orI_bd {f : Nat → Int} : ∀ {n : Nat}, (∀ i, i < n → 0 ≤ f i ∧ f i ≤ 63) → 0 ≤ orI f n ∧ orI f n ≤ 63
  | 0, _ => ⟨Int.le_refl _, by show (0 : Int) ≤ 63; omega⟩
  | n + 1, h => by
    have h1 := orI_bd (n := n) fun i hi => h i (by omega)
    have h2 := h n (by omega)
    exact bor_bd _ _ h1.1 h1.2 h2.1 h2.2
theorem orI_ext {f g : Nat → Int} : ∀ {n : Nat}, (∀ i, i < n → f i = g i) → orI f n = orI g n
  | 0, _ => rfl
  | n + 1, h => by rw [orI, orI, h n (by omega), orI_ext (n := n) (fun i hi => h i (by omega))]

theorem ofInt_inj {a b : Int} (h0 : 0 ≤ a) (h1 : a ≤ 63) (h2 : 0 ≤ b) (h3 : b ≤ 63) (h : BitVec.ofInt 64 a = BitVec.ofInt 64 b) : a = b := by
  have := congrArg BitVec.toNat h
  rw [BitVec.toNat_ofInt, BitVec.toNat_ofInt] at this
  omega
theorem wrap_zero {n : Nat} (h : n < 2 ^ 6) : IntKind.i64.wrap (n : Int) = 0 ↔ n = 0 := by rw [IntKind.wrap_i64]; omega
theorem bxor_zero {a b : Int} (h0 : 0 ≤ a) (h1 : a ≤ 63) (h2 : 0 ≤ b) (h3 : b ≤ 63) : bits .xor .i64 a b = 0 ↔ a = b := by
  have hs : (BitVec.ofInt 64 a ^^^ BitVec.ofInt 64 b).toNat < 2 ^ 6 := by rw [BitVec.toNat_xor]; exact Nat.xor_lt_two_pow (small64 a h0 h1) (small64 b h2 h3)
  show IntKind.i64.wrap (((BitVec.ofInt 64 a ^^^ BitVec.ofInt 64 b).toNat : Nat) : Int) = 0 ↔ a = b
  rw [wrap_zero hs]
  constructor
  · intro h
    have h' : BitVec.ofInt 64 a ^^^ BitVec.ofInt 64 b = 0#64 := by apply BitVec.eq_of_toNat_eq; simpa using h
    exact ofInt_inj h0 h1 h2 h3 (BitVec.xor_eq_zero_iff.1 h')
  · intro h; subst h; simp
theorem bor_zero {a b : Int} (h0 : 0 ≤ a) (h1 : a ≤ 63) (h2 : 0 ≤ b) (h3 : b ≤ 63) : bits .or .i64 a b = 0 ↔ a = 0 ∧ b = 0 := by
  have hs : (BitVec.ofInt 64 a ||| BitVec.ofInt 64 b).toNat < 2 ^ 6 := by rw [BitVec.toNat_or]; exact Nat.or_lt_two_pow (small64 a h0 h1) (small64 b h2 h3)
  show IntKind.i64.wrap (((BitVec.ofInt 64 a ||| BitVec.ofInt 64 b).toNat : Nat) : Int) = 0 ↔ a = 0 ∧ b = 0
  rw [wrap_zero hs]
  constructor
  · intro h
    have h' : BitVec.ofInt 64 a ||| BitVec.ofInt 64 b = 0#64 := by apply BitVec.eq_of_toNat_eq; simpa using h
    rw [BitVec.or_eq_zero_iff] at h'
    exact ⟨ofInt_inj h0 h1 (by omega) (by omega) h'.1, ofInt_inj h2 h3 (by omega) (by omega) h'.2⟩
  · rintro ⟨rfl, rfl⟩; simp
theorem orI_zero {f : Nat → Int} : ∀ {n : Nat}, (∀ i, i < n → 0 ≤ f i ∧ f i ≤ 63) → (orI f n = 0 ↔ ∀ i, i < n → f i = 0)
  | 0, _ => by simp [orI]
  | n + 1, h => by
    have h1 := orI_bd (n := n) fun i hi => h i (by omega)
    have h2 := h n (by omega)
    rw [orI, bor_zero h1.1 h1.2 h2.1 h2.2, orI_zero (n := n) fun i hi => h i (by omega)]
    constructor
    · rintro ⟨a, b⟩ i hi
      by_cases e : i = n
      · rw [e]; exact b
      · exact a i (by omega)
    · intro a; exact ⟨fun i hi => a i (by omega), a n (by omega)⟩

/-- All words of a list. -/
def W64 (xs : List Int) : Prop := ∀ i, 0 ≤ xs.getD i 0 ∧ xs.getD i 0 ≤ 63
theorem getD_get {xs : List Int} {i : Nat} (h : i < xs.length) : xs.getD i 0 = xs[i] := by
  rw [List.getD_eq_getElem?_getD, List.getElem?_eq_getElem h]; rfl
theorem tabTo_get (f : Int → Int → Int) {n i : Nat} (h : i < n) : (tabTo f n).getD i 0 = f ((i / 64 : Nat) : Int) ((i % 64 : Nat) : Int) := by
  rw [getD_get (by rw [tabTo_len]; exact h)]; simp [tabTo]
theorem list_ext_getD {xs ys : List Int} (hl : xs.length = ys.length) (h : ∀ i, i < xs.length → xs.getD i 0 = ys.getD i 0) : xs = ys := by
  apply List.ext_getElem hl
  intro i h1 h2
  have := h i h1
  rwa [getD_get h1, getD_get h2] at this

/-- least and greatest -/
def minI (f : Nat → Int) (m : Int) : Nat → Int
  | 0 => m
  | n + 1 => min (minI f m n) (f n)
def maxI (f : Nat → Int) (m : Int) : Nat → Int
  | 0 => m
  | n + 1 => max (maxI f m n) (f n)
theorem minI_le (f : Nat → Int) (m : Int) : ∀ n, minI f m n ≤ m ∧ ∀ i, i < n → minI f m n ≤ f i
  | 0 => ⟨Int.le_refl _, fun i hi => absurd hi (Nat.not_lt_zero _)⟩
  | n + 1 => by
    obtain ⟨h1, h2⟩ := minI_le f m n
    rw [minI]
    refine ⟨by omega, fun i hi => ?_⟩
    by_cases e : i = n
    · rw [e]; omega
    · have := h2 i (by omega); omega
theorem minI_is (f : Nat → Int) (m : Int) : ∀ n, minI f m n = m ∨ ∃ i, i < n ∧ minI f m n = f i
  | 0 => .inl rfl
  | n + 1 => by
    rw [minI]
    by_cases e : minI f m n ≤ f n
    · rw [Int.min_eq_left e]
      rcases minI_is f m n with h | ⟨i, hi, h⟩
      · exact .inl h
      · exact .inr ⟨i, by omega, h⟩
    · rw [Int.min_eq_right (by omega)]; exact .inr ⟨n, by omega, rfl⟩
theorem maxI_ge (f : Nat → Int) (m : Int) : ∀ n, m ≤ maxI f m n ∧ ∀ i, i < n → f i ≤ maxI f m n
  | 0 => ⟨Int.le_refl _, fun i hi => absurd hi (Nat.not_lt_zero _)⟩
  | n + 1 => by
    obtain ⟨h1, h2⟩ := maxI_ge f m n
    rw [maxI]
    refine ⟨by omega, fun i hi => ?_⟩
    by_cases e : i = n
    · rw [e]; omega
    · have := h2 i (by omega); omega
theorem maxI_is (f : Nat → Int) (m : Int) : ∀ n, maxI f m n = m ∨ ∃ i, i < n ∧ maxI f m n = f i
  | 0 => .inl rfl
  | n + 1 => by
    rw [maxI]
    by_cases e : f n ≤ maxI f m n
    · rw [Int.max_eq_left e]
      rcases maxI_is f m n with h | ⟨i, hi, h⟩
      · exact .inl h
      · exact .inr ⟨i, by omega, h⟩
    · rw [Int.max_eq_right (by omega)]; exact .inr ⟨n, by omega, rfl⟩
/-- Starting at a bound or at the first one is alike. -/
theorem minI_start {f : Nat → Int} {m : Int} {n : Nat} (hn : 0 < n) (h : ∀ i, i < n → f i ≤ m) : minI f m n = minI f (f 0) n := by
  have a := minI_le f m n
  have b := minI_le f (f 0) n
  have c : ∃ i, i < n ∧ minI f m n = f i := by
    rcases minI_is f m n with h1 | h1
    · have := a.2 0 hn; have := h 0 hn; exact ⟨0, hn, by omega⟩
    · exact h1
  have d : ∃ i, i < n ∧ minI f (f 0) n = f i := by
    rcases minI_is f (f 0) n with h1 | h1
    · exact ⟨0, hn, h1⟩
    · exact h1
  obtain ⟨i, hi, ei⟩ := c
  obtain ⟨j, hj, ej⟩ := d
  have := a.2 j hj; have := b.2 i hi; omega
theorem maxI_start {f : Nat → Int} {m : Int} {n : Nat} (hn : 0 < n) (h : ∀ i, i < n → m ≤ f i) : maxI f m n = maxI f (f 0) n := by
  have a := maxI_ge f m n
  have b := maxI_ge f (f 0) n
  have c : ∃ i, i < n ∧ maxI f m n = f i := by
    rcases maxI_is f m n with h1 | h1
    · have := a.2 0 hn; have := h 0 hn; exact ⟨0, hn, by omega⟩
    · exact h1
  have d : ∃ i, i < n ∧ maxI f (f 0) n = f i := by
    rcases maxI_is f (f 0) n with h1 | h1
    · exact ⟨0, hn, h1⟩
    · exact h1
  obtain ⟨i, hi, ei⟩ := c
  obtain ⟨j, hj, ej⟩ := d
  have := a.2 j hj; have := b.2 i hi; omega
end Go.Proofs.Ytaaloepoegehkaa

/- Swaps of a block: plain. -/
namespace Go.Proofs.Ytaaloepoegehkaa
open Go.RowKit
set_option linter.unusedVariables false

theorem getD_in {es : List In} {k : Nat} (h : k < es.length) : es.getD k zeroIn = es[k] := by rw [List.getD_eq_getElem?_getD, List.getElem?_eq_getElem h]; rfl
def blkOk (es : List In) : Bool := decide (es.length ≤ 20) && okCode es
theorem blkOk_parts {es : List In} (h : blkOk es = true) : es.length ≤ 20 ∧ okCode es = true := by
  unfold blkOk at h; rw [Bool.and_eq_true] at h; exact ⟨of_decide_eq_true h.1, h.2⟩
abbrev Mv := List In × List Int
/-- One swap: the code and the path. -/
def mvS (st : Mv) (i : Int) : Option Mv := if swOk st.1 i = true ∧ st.2.length ≠ 100 then some (swapR st.1 i, st.2 ++ [i]) else none
def folS (st : Mv) : List Int → Option Mv
  | [] => some st
  | i :: p => (mvS st i).bind fun s => folS s p
theorem folS_append (q : List Int) : ∀ (p : List Int) (st : Mv), folS st (p ++ q) = (folS st p).bind fun s => folS s q
  | [], st => rfl
  | i :: p, st => by
    show (mvS st i).bind (fun s => folS s (p ++ q)) = ((mvS st i).bind fun s => folS s p).bind fun s => folS s q
    rw [Option.bind_assoc]
    congr 1
    funext s
    exact folS_append q p s
theorem folS_one (st : Mv) (i : Int) : folS st [i] = mvS st i := by
  show (mvS st i).bind (fun s => some s) = mvS st i
  cases mvS st i <;> rfl
theorem folS_succ (st : Mv) {p : List Int} {k : Nat} (h : k < p.length) : folS st (p.take (k + 1)) = (folS st (p.take k)).bind fun s => mvS s p[k] := by
  rw [List.take_succ_eq_append_getElem h, folS_append]
  congr 1
  funext s
  exact folS_one s _
theorem folS_no {st : Mv} {p : List Int} {k : Nat} (h : folS st (p.take k) = none) : folS st p = none := by
  rw [← List.take_append_drop k p, folS_append, h]; rfl

theorem okCode_of {es : List In} (h1 : es.length ≤ 40) (h2 : ∀ x ∈ es, goodIn x = true) : okCode es = true := by
  unfold okCode; rw [Bool.and_eq_true]; exact ⟨decide_eq_true h1, List.all_eq_true.2 h2⟩
theorem swOk_parts {es : List In} {i : Int} (h : swOk es i = true) : okCode es = true ∧ inR i 0 (es.length - 2) = true ∧ freeB (es.getD i.toNat zeroIn) (es.getD (i.toNat + 1) zeroIn) = true := by
  unfold swOk at h; simp only [Bool.and_eq_true] at h; exact ⟨h.1.1, h.1.2, h.2⟩
theorem swapR_inv {es : List In} {i : Int} (h : swOk es i = true) : okCode (swapR es i) = true ∧ (swapR es i).length = es.length := by
  obtain ⟨h1, h2, h3⟩ := swOk_parts h
  obtain ⟨n, rfl, hn⟩ := inR_nat h2
  have e : swapR es n = (es.set n (es.getD (n + 1) zeroIn)).set (n + 1) (es.getD n zeroIn) := by rw [swapR, if_pos h, Int.toNat_natCast]
  have hl : (swapR es n).length = es.length := by rw [e, List.length_set, List.length_set]
  have g : ∀ m, m < es.length → es.getD m zeroIn ∈ es := fun m hm => by rw [List.getD_eq_getElem?_getD, List.getElem?_eq_getElem hm]; exact List.getElem_mem hm
  refine ⟨okCode_of (by rw [hl]; exact okCode_len h1) fun x hx => ?_, hl⟩
  rw [e] at hx
  have ha := okCode_all h1
  rcases List.mem_or_eq_of_mem_set hx with hx | rfl
  · rcases List.mem_or_eq_of_mem_set hx with hx | rfl
    · exact ha x hx
    · exact ha _ (g _ (by omega))
  · exact ha _ (g _ (by omega))
theorem mvS_some {st s : Mv} {i : Int} (h : mvS st i = some s) : swOk st.1 i = true ∧ st.2.length ≠ 100 ∧ s = (swapR st.1 i, st.2 ++ [i]) := by
  unfold mvS at h
  split at h
  · rename_i hc; injection h with h; exact ⟨hc.1, hc.2, h.symm⟩
  · cases h
/-- What every state on the way keeps. -/
structure MvInv (a : List In) (st : Mv) : Prop where
  ok : okCode st.1 = true
  len : st.1.length = a.length
  most : st.2.length ≤ 100
theorem MvInv.step {a : List In} {st s : Mv} {i : Int} (h : MvInv a st) (hm : mvS st i = some s) : MvInv a s ∧ s.2 = st.2 ++ [i] := by
  obtain ⟨h1, h2, rfl⟩ := mvS_some hm
  obtain ⟨h3, h4⟩ := swapR_inv h1
  have := h.most
  exact ⟨⟨h3, by show (swapR st.1 i).length = _; rw [h4]; exact h.len, by show (st.2 ++ [i]).length ≤ 100; rw [List.length_append, List.length_singleton]; omega⟩, rfl⟩
theorem MvInv.fol {a : List In} : ∀ (p : List Int) {st s : Mv}, MvInv a st → folS st p = some s → MvInv a s ∧ s.2 = st.2 ++ p ∧ allIn p 0 ((a.length : Int) - 2) = true
  | [], st, s, h, hm => by
    injection hm with hm; subst hm; exact ⟨h, by simp, rfl⟩
  | i :: p, st, s, h, hm => by
    have hm' : (mvS st i).bind (fun s => folS s p) = some s := hm
    cases e : mvS st i with
    | none => rw [e] at hm'; cases hm'
    | some s1 =>
      rw [e] at hm'
      obtain ⟨h1, h2⟩ := h.step e
      obtain ⟨h3, h4, h5⟩ := MvInv.fol p h1 hm'
      refine ⟨h3, by rw [h4, h2, List.append_assoc]; rfl, ?_⟩
      have hi := (swOk_parts (mvS_some e).1).2.1
      rw [h.len] at hi
      show (inR i 0 ((a.length : Int) - 2) && allIn p 0 ((a.length : Int) - 2)) = true
      rw [hi, h5]; rfl
theorem MvInv.start {a : List In} (h : okCode a = true) : MvInv a (a, []) := ⟨h, rfl, Nat.zero_le _⟩

def folR (es : List In) (path : List Int) : Option Mv := if blkOk es = true then folS (es, []) path else none
def folC (es : List In) (path : List Int) : List In := ((folR es path).map Prod.fst).getD []
def folB (es : List In) (path : List Int) : Bool := (folR es path).isSome
theorem folR_no {es : List In} (path : List Int) (h : blkOk es = false) : folR es path = none := by unfold folR; rw [h]; rfl
theorem folR_yes {es : List In} (path : List Int) (h : blkOk es = true) : folR es path = folS (es, []) path := by unfold folR; rw [if_pos h]
theorem fol_none {es : List In} {path : List Int} (h : folR es path = none) : folC es path = [] ∧ folB es path = false := by unfold folC folB; rw [h]; exact ⟨rfl, rfl⟩
theorem fol_some {es : List In} {path : List Int} {s : Mv} (h : folR es path = some s) : folC es path = s.1 ∧ folB es path = true := by unfold folC folB; rw [h]; exact ⟨rfl, rfl⟩
theorem folR_long {es : List In} {path : List Int} (h : 100 < path.length) : folR es path = none := by
  cases hb : blkOk es
  · exact folR_no path hb
  · rw [folR_yes path hb]
    cases e : folS (es, []) path with
    | none => rfl
    | some s =>
      obtain ⟨h1, h2, _⟩ := MvInv.fol path (MvInv.start (blkOk_parts hb).2) e
      have h3 := h1.most
      rw [h2] at h3
      simp at h3; omega
theorem folR_far {es : List In} {path : List Int} (h : allIn path 0 ((es.length : Int) - 2) = false) : folR es path = none := by
  cases hb : blkOk es
  · exact folR_no path hb
  · rw [folR_yes path hb]
    cases e : folS (es, []) path with
    | none => rfl
    | some s =>
      obtain ⟨_, _, h3⟩ := MvInv.fol path (MvInv.start (blkOk_parts hb).2) e
      rw [h] at h3; cases h3
theorem folC_len (es : List In) (path : List Int) : (folC es path).length ≤ 1048576 := by
  cases e : folR es path with
  | none => rw [(fol_none e).1]; simp
  | some s =>
    rw [(fol_some e).1]
    have hb : blkOk es = true := by
      cases hb : blkOk es
      · rw [folR_no path hb] at e; cases e
      · rfl
    rw [folR_yes path hb] at e
    have h1 := (MvInv.fol path (MvInv.start (blkOk_parts hb).2) e).1
    have := okCode_len h1.ok
    omega

/-- An instruction's first place. -/
def sameI (x y : In) : Bool := x.op.toList == y.op.toList && x.d == y.d && x.a == y.a && x.b == y.b && x.m == y.m
theorem sameI_comm (x y : In) : sameI x y = sameI y x := by
  unfold sameI
  rw [Bool.eq_iff_iff]
  simp only [Bool.and_eq_true, beq_iff_eq]
  constructor <;> rintro ⟨⟨⟨⟨h1, h2⟩, h3⟩, h4⟩, h5⟩ <;> exact ⟨⟨⟨⟨h1.symm, h2.symm⟩, h3.symm⟩, h4.symm⟩, h5.symm⟩
def iidx (xs : List In) (y : In) : Int := firstI (fun k => sameI (xs.getD k zeroIn) y) xs.length
/-- The swaps that bring the instruction at k + n to k. -/
def mvDn (k : Nat) : Nat → Mv → Option Mv
  | 0, st => some st
  | n + 1, st => (mvS st ((k + n : Nat) : Int)).bind (mvDn k n)
def spStep (st : Mv) (k : Nat) (x : In) : Option Mv := if iidx (st.1.drop k) x < 0 then none else mvDn k (iidx (st.1.drop k) x).toNat st
def spTo (a b : List In) : Nat → Option Mv
  | 0 => some (a, [])
  | k + 1 => (spTo a b k).bind fun s => spStep s k (b.getD k zeroIn)
theorem spTo_no {a b : List In} {k : Nat} (h : spTo a b k = none) : ∀ m, k ≤ m → spTo a b m = none := by
  intro m hm
  obtain ⟨d, rfl⟩ := Nat.exists_eq_add_of_le hm
  clear hm
  induction d with
  | zero => exact h
  | succ d ih => show (spTo a b (k + d)).bind _ = none; rw [ih]; rfl
theorem MvInv.dn {a : List In} (k : Nat) : ∀ (n : Nat) {st s : Mv}, MvInv a st → mvDn k n st = some s → MvInv a s
  | 0, st, s, h, hm => by injection hm with hm; subst hm; exact h
  | n + 1, st, s, h, hm => by
    have hm' : (mvS st ((k + n : Nat) : Int)).bind (mvDn k n) = some s := hm
    cases e : mvS st ((k + n : Nat) : Int) with
    | none => rw [e] at hm'; cases hm'
    | some s1 => rw [e] at hm'; exact MvInv.dn k n (h.step e).1 hm'
theorem MvInv.to {a b : List In} (ha : okCode a = true) : ∀ (k : Nat) {s : Mv}, spTo a b k = some s → MvInv a s
  | 0, s, h => by injection h with h; subst h; exact .start ha
  | k + 1, s, h => by
    have h' : (spTo a b k).bind (fun s => spStep s k (b.getD k zeroIn)) = some s := h
    cases e : spTo a b k with
    | none => rw [e] at h'; cases h'
    | some s1 =>
      rw [e] at h'
      have h2 : spStep s1 k (b.getD k zeroIn) = some s := h'
      unfold spStep at h2
      split at h2
      · cases h2
      · exact (MvInv.to ha k e).dn k _ h2
def spOk0 (a b : List In) : Bool := blkOk a && blkOk b && decide (a.length = b.length)
def spR (a b : List In) : Option Mv := if spOk0 a b = true then spTo a b b.length else none
def spP (a b : List In) : List Int := ((spR a b).map Prod.snd).getD []
def spB (a b : List In) : Bool := (spR a b).isSome
theorem sp_none {a b : List In} (h : spR a b = none) : spP a b = [] ∧ spB a b = false := by unfold spP spB; rw [h]; exact ⟨rfl, rfl⟩
theorem sp_some {a b : List In} {s : Mv} (h : spR a b = some s) : spP a b = s.2 ∧ spB a b = true := by unfold spP spB; rw [h]; exact ⟨rfl, rfl⟩
theorem spP_len (a b : List In) : (spP a b).length ≤ 1048576 := by
  cases e : spR a b with
  | none => rw [(sp_none e).1]; simp
  | some s =>
    rw [(sp_some e).1]
    unfold spR at e
    split at e
    · rename_i h
      unfold spOk0 at h
      simp only [Bool.and_eq_true] at h
      have := (MvInv.to (blkOk_parts h.1.1).2 _ e).most
      omega
    · cases e
end Go.Proofs.Ytaaloepoegehkaa

/- Chapter 9: delays, of the model. -/
namespace Go.Proofs.Ytaaloepoegehkaa
open Go.RowKit
set_option linter.unusedVariables false
set_option maxRecDepth 100000

theorem l1Most_9 (a b : Int) (w : World) : Calls Try.prog 158 #[.int .i64 a, .int .i64 b] w fun e w' => e = .returned (.int .i64 (max a b)) ∧ w = w' := by
  by_cases h : b < a
  · go_enter Try.func158, Try.ntmps158
    go_wp2
    go_ret
    exact ⟨ret_int (by omega), rfl⟩
  · go_enter Try.func158, Try.ntmps158
    go_wp2
    go_ret
    exact ⟨ret_int (by omega), rfl⟩

theorem orGood_any (L B : Nat) (A : Option Addr) (c : Nat) (es : List In) (w : World) (hl : es.length ≤ 1048576) (hes : RS In.enc 5 w L B A es) (hB : B ≤ w.heap.size) :
    Calls Try.prog 80 #[.slice A es.length c] w fun e w' => e = .returned (.bool (orGood es)) ∧ Below w.heap.size w w' := by
  have H := Lib.hid (cdCode_any L B A c es w hl hes hB)
  have hk : Hid (orGood es = (decide (es.length ≤ 20) && okCode es)) := rfl
  have b0 := Lib.hid (Below.refl w.heap.size w)
  clear hes
  generalize orGood es = r at *
  generalize okCode es = q at *
  by_cases h20 : es.length ≤ 20
  · have h1 : (es.length : Int) ≤ 20 := by omega
    have h2 : decide (es.length ≤ 20) = true := decide_eq_true h20
    rw [h2] at hk
    clear h2
    go_enter Try.func80, Try.ntmps80
    go_wp2_with (fail)
    refine H.out.mono ?_
    rintro e w1 ⟨rfl, hb⟩
    have hbh := Lib.hid hb
    clear hb
    go_wp2
    go_ret
    exact ⟨by rw [hk.out]; rfl, hbh.out⟩
  · have h1 : ¬ (es.length : Int) ≤ 20 := by omega
    have h2 : decide (es.length ≤ 20) = false := decide_eq_false h20
    rw [h2] at hk
    clear h2
    go_enter Try.func80, Try.ntmps80
    go_wp2
    go_ret
    exact ⟨by rw [hk.out]; rfl, b0.out⟩

theorem isOrderable_any (L B : Nat) (A : Option Addr) (c : Nat) (es : List In) (w : World) (hl : es.length ≤ 1048576) (hes : RS In.enc 5 w L B A es) (hB : B ≤ w.heap.size) :
    Calls Try.prog 154 #[.slice A es.length c] w fun e w' => e = .returned (.bool (orGood es)) ∧ Below w.heap.size w w' := by
  have H := Lib.hid (IsCode_any L B A c es w hl hes hB)
  have hk : Hid (orGood es = (decide (es.length ≤ 20) && okCode es)) := rfl
  have b0 := Lib.hid (Below.refl w.heap.size w)
  clear hes
  generalize orGood es = r at *
  generalize okCode es = q at *
  by_cases h20 : es.length ≤ 20
  · have h1 : (es.length : Int) ≤ 20 := by omega
    have h2 : decide (es.length ≤ 20) = true := decide_eq_true h20
    rw [h2] at hk
    clear h2
    go_enter Try.func154, Try.ntmps154
    go_wp2_with (fail)
    refine H.out.mono ?_
    rintro e w1 ⟨rfl, hb⟩
    have hbh := Lib.hid hb
    clear hb
    go_wp2
    go_ret
    exact ⟨by rw [hk.out]; rfl, hbh.out⟩
  · have h1 : ¬ (es.length : Int) ≤ 20 := by omega
    have h2 : decide (es.length ≤ 20) = false := decide_eq_false h20
    rw [h2] at hk
    clear h2
    go_enter Try.func154, Try.ntmps154
    go_wp2
    go_ret
    exact ⟨by rw [hk.out]; rfl, b0.out⟩

/-- Two instructions in boxes. -/
structure TwoX (w0 : World) (gx gy : Nat) (x y : In) (W : World) : Prop where
  bx : XB W gx x
  byy : XB W gy y
  be : Below w0.heap.size w0 W
theorem TwoX.next {w0 W W' : World} {gx gy : Nat} {x y : In} (h : TwoX w0 gx gy x y W) (hb : Below W.heap.size W W') : TwoX w0 gx gy x y W' :=
  ⟨CB.below h.bx hb (CB.lt h.bx), CB.below h.byy hb (CB.lt h.byy), h.be.trans (hb.mono h.be.size)⟩
theorem TwoX.cells {w0 W : World} {gx gy : Nat} {x y : In} (h : TwoX w0 gx gy x y W) :
    (W.cell? ⟨gx, 0, none⟩ = some (.string x.op) ∧ W.cell? ⟨gx, 1, none⟩ = some (.int .i64 x.d) ∧ W.cell? ⟨gx, 2, none⟩ = some (.int .i64 x.a) ∧ W.cell? ⟨gx, 3, none⟩ = some (.int .i64 x.b) ∧ W.cell? ⟨gx, 4, none⟩ = some (.int .i64 x.m)) ∧
    (W.cell? ⟨gy, 0, none⟩ = some (.string y.op) ∧ W.cell? ⟨gy, 1, none⟩ = some (.int .i64 y.d) ∧ W.cell? ⟨gy, 2, none⟩ = some (.int .i64 y.a) ∧ W.cell? ⟨gy, 3, none⟩ = some (.int .i64 y.b) ∧ W.cell? ⟨gy, 4, none⟩ = some (.int .i64 y.m)) := ⟨h.bx.cells, h.byy.cells⟩
abbrev boxI (x : In) : Obj := .cells #[.string x.op, .int .i64 x.d, .int .i64 x.a, .int .i64 x.b, .int .i64 x.m] 88
theorem twoX_a (W : World) (op op' : ByteArray) (d a b m d' a' b' m' : Int) : TwoX W W.heap.size (W.heap.size + 1) ⟨op, d, a, b, m⟩ ⟨op', d', a', b', m'⟩ ((W.alloc (.cells #[.string op, .int .i64 d, .int .i64 a, .int .i64 b, .int .i64 m] 88)).alloc (.cells #[.string op', .int .i64 d', .int .i64 a', .int .i64 b', .int .i64 m'] 88)).drew := by
  have h1 : XB (W.alloc (boxI ⟨op, d, a, b, m⟩)) W.heap.size ⟨op, d, a, b, m⟩ := heap_alloc_new W _
  have h2 := heap_alloc_new (W.alloc (boxI ⟨op, d, a, b, m⟩)) (boxI ⟨op', d', a', b', m'⟩)
  rw [show (W.alloc (boxI ⟨op, d, a, b, m⟩)).heap.size = W.heap.size + 1 by simp] at h2
  have h3 : CB 88 ((W.alloc (boxI ⟨op, d, a, b, m⟩)).alloc (boxI ⟨op', d', a', b', m'⟩)) W.heap.size (In.enc ⟨op, d, a, b, m⟩) := CB.below h1 ((Below.refl (W.alloc (boxI ⟨op, d, a, b, m⟩)).heap.size _).alloc (Nat.le_refl _) _) (by simp)
  exact ⟨h3, h2, (((Below.refl W.heap.size W).alloc (Nat.le_refl _) _).alloc (by simp) _).drew⟩
theorem TwoX.swap {w0 W : World} {gx gy : Nat} {x y : In} (h : TwoX w0 gx gy x y W) : TwoX w0 gy gx y x W := ⟨h.byy, h.bx, h.be⟩
theorem alt_ex {W : World} {wx : World} {p q : Value} {x y : In} (h : (p = .pointer (some ⟨W.heap.size, 0, none⟩) ∧ q = .pointer (some ⟨W.heap.size + 1, 0, none⟩) ∧ TwoX W W.heap.size (W.heap.size + 1) x y wx) ∨ (p = .pointer (some ⟨W.heap.size + 1, 0, none⟩) ∧ q = .pointer (some ⟨W.heap.size, 0, none⟩) ∧ TwoX W W.heap.size (W.heap.size + 1) y x wx)) :
    ∃ gx gy, p = .pointer (some ⟨gx, 0, none⟩) ∧ q = .pointer (some ⟨gy, 0, none⟩) ∧ TwoX W gx gy x y wx := by
  rcases h with ⟨h1, h2, h3⟩ | ⟨h1, h2, h3⟩
  · exact ⟨_, _, h1, h2, h3⟩
  · exact ⟨_, _, h1, h2, h3.swap⟩

end Go.Proofs.Ytaaloepoegehkaa

/- Chapter 9: delays, of the model. -/
namespace Go.Proofs.Ytaaloepoegehkaa
open Go.RowKit
set_option linter.unusedVariables false
set_option maxRecDepth 100000


def dL (qa qb : Bool) : Int := if qb = true then 1 else if qa = true then 0 else -1
theorem dl_eq {cs : List In} {i j : Nat} {x y : In} (hx : inAt cs i = x) (hy : inAt cs j = y) : dl cs i j = if (hasI (readsL y) x.d && !btw cs i j) = true then (fm x.op).c else dL (hasI (readsL x) y.d) (x.d == y.d) := by
  subst hx; subst hy; unfold dl dL; rfl
theorem dL_bd (qa qb : Bool) : -1 ≤ dL qa qb ∧ dL qa qb ≤ 1 := by cases qa <;> cases qb <;> simp [dL]
set_option maxHeartbeats 8000000 in
theorem orDelay_any (L B : Nat) (A : Option Addr) (c : Nat) (cs : List In) (i j : Nat) (w : World) (hl : cs.length ≤ 20) (hgood : ∀ x ∈ cs, goodIn x = true) (hes : RS In.enc 5 w L B A cs) (hB : B ≤ w.heap.size) (hij : i < j) (hj : j < cs.length) :
    Calls Try.prog 193 #[.slice A cs.length c, .int .i64 i, .int .i64 j] w fun e w' => e = .returned (.int .i64 (dl cs i j)) ∧ Below w.heap.size w w' := by
  have hi : i < cs.length := by omega
  have hE := Lib.hid fun (W' : World) (h : Below w.heap.size w W') => hes.below h hB
  obtain ⟨g9, o9, hA, ⟨_, hbB⟩, hcc⟩ := In.cells hes (by omega)
  obtain ⟨xa, xb, xc, xd, xe⟩ := hcc i hi
  obtain ⟨ya, yb, yc, yd, ye⟩ := hcc j hj
  subst hA
  have hbW : g9 < w.heap.size := by omega
  have i0 : (0 : Int) ≤ (i : Int) := by omega
  have i1 : (i : Int) < (cs.length : Int) := by omega
  have j0 : (0 : Int) ≤ (j : Int) := by omega
  have j1 : (j : Int) < (cs.length : Int) := by omega
  have hgx := hgood _ (List.getElem_mem hi)
  have hD := Lib.hid (dl_eq (cs := cs) (i := i) (j := j) (inAt_eq hi) (inAt_eq hj))
  have hSn := Lib.hid fun (k : Nat) (h1 : i < k) (h2 : k < cs.length) => btw_snoc (cs := cs) (i := i) h1 h2
  rw [inAt_eq hi] at hSn
  have hS0 := Lib.hid (btw_self cs i)
  have one := fun (k : Nat) (v : Value) (h : w.cell? ⟨g9, k, none⟩ = some v) u => (((Below.refl w.heap.size w).alloc (Nat.le_refl _) u).cell (p := ⟨g9, k, none⟩) hbW).trans h
  have two := fun (k : Nat) (v : Value) (h : w.cell? ⟨g9, k, none⟩ = some v) u u' => ((((Below.refl w.heap.size w).alloc (Nat.le_refl _) u).alloc (by simp) u').cell (p := ⟨g9, k, none⟩) hbW).trans h
  have oxa := one _ _ xa
  have txa := two _ _ xa
  have oxb := one _ _ xb
  have txb := two _ _ xb
  have oxc := one _ _ xc
  have txc := two _ _ xc
  have oxd := one _ _ xd
  have txd := two _ _ xd
  have oxe := one _ _ xe
  have txe := two _ _ xe
  have oya := one _ _ ya
  have tya := two _ _ ya
  have oyb := one _ _ yb
  have tyb := two _ _ yb
  have oyc := one _ _ yc
  have tyc := two _ _ yc
  have oyd := one _ _ yd
  have tyd := two _ _ yd
  have oye := one _ _ ye
  have tye := two _ _ ye
  clear one two
  have hfm := good_parts hgx
  have hc1 := Lib.hid (fm_c1 hfm.2.2.2.1)
  have hC := Lib.hid (fun W => cdCost_any cs[i].op W hfm.2.2.2.1)
  have hRx := Lib.hid (cdReads_any cs[i])
  have hRy := Lib.hid (cdReads_any cs[j])
  have hLx := Lib.hid (readsL_len cs[i])
  have hLy := Lib.hid (readsL_len cs[j])
  clear hcc hes hgood hgx hfm
  generalize dl cs i j = D at *
  generalize readsL cs[i] = Rx at *
  generalize readsL cs[j] = Ry at *
  generalize cs[i] = x at *
  generalize cs[j] = y at *
  obtain ⟨op, d, a, b, m⟩ := x
  obtain ⟨op', d', a', b', m'⟩ := y
  dsimp only at *
  have hHx := Lib.hid (fun L B A c W (h : IS W L B A Rx) => l1Has_eq L B A Rx.length c Rx d' W rfl (by have := hLx.out; omega) h)
  have hHy := Lib.hid (fun L B A c W (h : IS W L B A Ry) => l1Has_eq L B A Ry.length c Ry d W rfl (by have := hLy.out; omega) h)
  generalize hasI Rx d' = qa at *
  generalize hasI Ry d = qc at *
  generalize hqb : (d == d') = qb at *
  generalize (fm op).c = cost at *
  have hQb := Lib.hid hqb
  have hBo := Lib.hid hbW
  clear hqb hbW hbB
  go_enter Try.func193, Try.ntmps193
  go_upto_region 1 with fail
  go_cut [7, 8] (fun p q wx => ∃ gx gy, p = .pointer (some ⟨gx, 0, none⟩) ∧ q = .pointer (some ⟨gy, 0, none⟩) ∧ TwoX w gx gy ⟨op, d, a, b, m⟩ ⟨op', d', a', b', m'⟩ wx)
  case first =>
    go_region
    all_goals (go_wp2_with fail; go_meet; refine alt_ex ?_; first | exact .inl ⟨rfl, rfl, twoX_a _ _ _ _ _ _ _ _ _ _ _⟩ | exact .inr ⟨rfl, rfl, twoX_a _ _ _ _ _ _ _ _ _ _ _⟩)
  case rest =>
  clear xa oxa txa xb oxb txb xc oxc txc xd oxd txd xe oxe txe ya oya tya yb oyb tyb yc oyc tyc yd oyd tyd ye oye tye
  obtain ⟨gx, gy, rfl, rfl, hT⟩ := hcut
  have hT1 := Lib.hid (hT.next (Below.refl _ _).drew)
  obtain ⟨⟨xa, xb, xc, xd, xe⟩, ⟨ya, yb, yc, yd, ye⟩⟩ := hT.cells
  dsimp only at xa xb xc xd xe ya yb yc yd ye
  clear hT
  go_upto_region 3 with fail
  go_cut [24] (fun r wx => r = .bool qa ∧ TwoX w gx gy ⟨op, d, a, b, m⟩ ⟨op', d', a', b', m'⟩ wx)
  case first =>
    go_region_law (first
      | (go_simp; go_at_call 216; (with_reducible refine (hRx.out _).mono ?_); rintro e w2 ⟨A2, c2, rfl, ho2, hb2⟩; have hT2 := Lib.hid (hT1.out.next hb2); obtain ⟨⟨xa2, xb2, xc2, xd2, xe2⟩, ⟨ya2, yb2, yc2, yd2, ye2⟩⟩ := hT2.out.cells; dsimp only at xa2 xb2 xc2 xd2 xe2 ya2 yb2 yc2 yd2 ye2)
      | (go_simp; go_at_call 143; (with_reducible refine (hHx.out _ _ _ _ _ (by exact ho2.rs)).mono ?_); rintro e w' ⟨rfl, rfl⟩))
    all_goals (go_wp2_with fail; go_meet; exact ⟨rfl, hT2.out⟩)
  case rest =>
  clear xa xb xc xd xe ya yb yc yd ye hT1
  obtain ⟨rfl, hT⟩ := hcut
  have hTh := Lib.hid hT
  clear hT
  go_upto_if 24 with fail
  go_cut [9] (fun v wx => v = .int .i64 (if qa = true then 0 else -1) ∧ TwoX w gx gy ⟨op, d, a, b, m⟩ ⟨op', d', a', b', m'⟩ wx)
  case first =>
    cases qa
    all_goals (go_wp2_with fail; go_meet; exact ⟨rfl, hTh.out⟩)
  case rest =>
  obtain ⟨rfl, hT⟩ := hcut
  have hQ0 : Hid (dL qa qb = if qb = true then 1 else if qa = true then 0 else -1) := rfl
  have hD1 : Hid (dL qa qb ≤ 1) := (dL_bd qa qb).2
  generalize (if qa = true then (0 : Int) else -1) = v0 at *
  generalize dL qa qb = D1 at *
  obtain ⟨⟨xa, xb, xc, xd, xe⟩, ⟨ya, yb, yc, yd, ye⟩⟩ := hT.cells
  dsimp only at xa xb xc xd xe ya yb yc yd ye
  have hTh := Lib.hid hT
  clear hT
  go_upto_if 29 with fail
  go_cut [9] (fun v wx => v = .int .i64 D1 ∧ TwoX w gx gy ⟨op, d, a, b, m⟩ ⟨op', d', a', b', m'⟩ wx)
  case first =>
    rw [hQb.out]
    cases qb
    all_goals (go_wp2_with fail; go_meet; exact ⟨by rw [hQ0.out]; rfl, hTh.out⟩)
  case rest =>
  clear xa xb xc xd xe ya yb yc yd ye
  obtain ⟨rfl, hT⟩ := hcut
  have hT1 := Lib.hid (hT.next (Below.refl _ _).drew)
  obtain ⟨⟨xa, xb, xc, xd, xe⟩, ⟨ya, yb, yc, yd, ye⟩⟩ := hT.cells
  dsimp only at xa xb xc xd xe ya yb yc yd ye
  clear hT
  go_upto_region 7 with fail
  go_cut [34] (fun r wx => r = .bool qc ∧ TwoX w gx gy ⟨op, d, a, b, m⟩ ⟨op', d', a', b', m'⟩ wx)
  case first =>
    go_region_law (first
      | (go_simp; go_at_call 216; (with_reducible refine (hRy.out _).mono ?_); rintro e w2 ⟨A2, c2, rfl, ho2, hb2⟩; have hT2 := Lib.hid (hT1.out.next hb2); obtain ⟨⟨xa2, xb2, xc2, xd2, xe2⟩, ⟨ya2, yb2, yc2, yd2, ye2⟩⟩ := hT2.out.cells; dsimp only at xa2 xb2 xc2 xd2 xe2 ya2 yb2 yc2 yd2 ye2)
      | (go_simp; go_at_call 143; (with_reducible refine (hHy.out _ _ _ _ _ (by exact ho2.rs)).mono ?_); rintro e w' ⟨rfl, rfl⟩))
    all_goals (go_wp2_with fail; go_meet; exact ⟨rfl, hT2.out⟩)
  case rest =>
  clear xa xb xc xd xe ya yb yc yd ye hT1
  obtain ⟨rfl, hT⟩ := hcut
  have hTh := Lib.hid hT
  clear hT
  cases qc
  · have hD0 : Hid (D = D1) := hD.out
    clear hD
    go_wp2_with fail
    go_ret
    exact ⟨by rw [hD0.out]; rfl, hTh.out.be⟩
  have hD0 : Hid (D = if (!btw cs i j) = true then cost else D1) := by rw [Hid, hD.out, Bool.true_and]
  have hi2 : (i : Int) + 1 ≤ 20 := by omega
  clear hD hQ0 hQb hRx hRy hHx hHy hLx hLy
  go_wp2_with fail
  go_loopw [10, 11] (fun l k wr => ∃ (kk : Nat) (ll : Nat), i < kk ∧ kk ≤ j ∧ k = .int .i64 kk ∧ l = .int .i64 ll ∧ (ll == i) = (!btw cs i kk) ∧ i ≤ ll ∧ ll < kk ∧ TwoX w gx gy ⟨op, d, a, b, m⟩ ⟨op', d', a', b', m'⟩ wr) (fun _ k _ => j - (intOf k).toNat)
  case atStart => exact ⟨i + 1, i, Nat.lt_succ_self _, hij, by go_num, rfl, by rw [hS0.out]; simp, Nat.le_refl _, Nat.lt_succ_self _, hTh.out⟩
  case round =>
    obtain ⟨kk, ll, hk1, hk2, rfl, rfl, hbt, hl1, hl2, hT⟩ := hrel
    have hBt := Lib.hid hbt
    have hTr := Lib.hid hT
    obtain ⟨⟨xa, xb, xc, xd, xe⟩, ⟨ya, yb, yc, yd, ye⟩⟩ := hT.cells
    dsimp only at xa xb xc xd xe ya yb yc yd ye
    clear hbt hT
    by_cases hlt : kk < j
    · have hkl : kk < cs.length := by omega
      obtain ⟨g8, o8, e8, ⟨_, hbB⟩, hcc⟩ := In.cells (hE.out _ hTr.out.be) (by omega)
      injection e8 with e8
      injection e8 with e8 e9 _
      subst e8; subst e9
      obtain ⟨z0, z1, z2, z3, z4⟩ := hcc kk hkl
      have hSk := Lib.hid (hSn.out kk hk1 hkl)
      clear hcc
      generalize cs[kk] = z at *
      obtain ⟨zop, zd, za, zb, zm⟩ := z
      dsimp only at *
      have k0 : (0 : Int) ≤ (kk : Int) := by omega
      have k1 : (kk : Int) < (cs.length : Int) := by omega
      have k2 : (kk : Int) < (j : Int) := by omega
      by_cases hz : zd = d
      · have hz' : (zd == d) = true := by simpa using hz
        rw [hz', Bool.or_true] at hSk
        clear hz
        go_wp2_with fail
        go_region
        all_goals go_wp2
        all_goals go_roundw
        case rel => exact ⟨kk + 1, kk, by omega, by omega, by go_num, rfl, by rw [hSk.out]; simp; omega, by omega, by omega, hTr.out.next (Below.refl _ _).drew⟩
        case measure => simp [intOf]; omega
      · have hz' : (zd == d) = false := by simpa using hz
        rw [hz', Bool.or_false] at hSk
        clear hz
        go_wp2_with fail
        go_region
        all_goals go_wp2
        all_goals go_roundw
        case rel => exact ⟨kk + 1, ll, by omega, by omega, by go_num, rfl, by rw [hSk.out]; exact hBt.out, by omega, by omega, hTr.out.next (Below.refl _ _).drew⟩
        case measure => simp [intOf]; omega
    · obtain rfl : kk = j := by omega
      cases hb : btw cs i kk
      · rw [hb] at hBt hD0
        have hD2 : Hid (D = cost) := hD0.out
        have hM : Hid (max D1 cost = cost) := by have := hD1.out; have := hc1.out; unfold Hid; omega
        have hli : ll = i := by simpa using hBt.out
        subst hli
        have hlj : ¬ (kk : Int) < (kk : Int) := by omega
        clear hBt hb hD0
        go_wp2_with fail
        refine (hC.out _).mono ?_
        rintro e w1 ⟨rfl, rfl⟩
        go_wp2_with fail
        refine (l1Most_9 _ _ _).mono ?_
        rintro e w1 ⟨rfl, rfl⟩
        go_wp2
        go_ret
        exact ⟨by rw [hD2.out, hM.out]; rfl, hTr.out.be⟩
      · rw [hb] at hBt hD0
        have hD2 : Hid (D = D1) := hD0.out
        have hli : ((ll : Int) == (i : Int)) = false := by
          have h1 : (ll == i) = false := hBt.out
          simp at h1 ⊢
          omega
        clear hBt hb hD0
        go_wp2
        go_ret
        exact ⟨by rw [hD2.out]; rfl, hTr.out.be⟩

end Go.Proofs.Ytaaloepoegehkaa

/- Slices of slices of ints. -/
namespace Go.Proofs.Ytaaloepoegehkaa
open Go.RowKit
set_option linter.unusedVariables false

def encV (v : Value) : List Value := [v]
/-- A slice of slices of ints, read. -/
def XS (w : World) (L B : Nat) (A : Option Addr) (xss : List (List Int)) : Prop :=
  ∃ vs : List Value, vs.length = xss.length ∧ RS encV 1 w L B A vs ∧ ∀ i (h : i < vs.length) (h' : i < xss.length), ∃ Ai ci, vs[i] = .slice Ai (xss[i]).length ci ∧ IS w L B Ai xss[i]
theorem XS.below {w w' : World} {L B C : Nat} {A : Option Addr} {xss : List (List Int)} (h : XS w L B A xss) (hb : Below C w w') (hC : B ≤ C) : XS w' L B A xss := by
  obtain ⟨vs, hl, hr, hi⟩ := h
  exact ⟨vs, hl, hr.below hb hC, fun i h h' => by obtain ⟨Ai, ci, e, hx⟩ := hi i h h'; exact ⟨Ai, ci, e, hx.below hb hC⟩⟩
theorem XS.at {w : World} {L B : Nat} {A : Option Addr} {xss : List (List Int)} (h : XS w L B A xss) {i : Nat} (hi : i < xss.length) :
    ∃ b o Ai ci, A = some ⟨b, o, none⟩ ∧ b < B ∧ w.cell? ⟨b, o + i, none⟩ = some (.slice Ai (xss[i]).length ci) ∧ IS w L B Ai xss[i] := by
  obtain ⟨vs, hl, hr, hx⟩ := h
  obtain ⟨b, o, e, ⟨_, hb⟩, hc⟩ := hr (by omega)
  obtain ⟨Ai, ci, e2, hI⟩ := hx i (by omega) hi
  have h1 := hc i (by omega) 0 vs[i] rfl
  rw [e2] at h1
  exact ⟨b, o, Ai, ci, e, hb, by simpa using h1, hI⟩

set_option maxHeartbeats 4000000 in
theorem eqIntSS_any (L B L' B' : Nat) (A A' : Option Addr) (c c' : Nat) (xss : List (List Int)) (w : World) (hl : xss.length ≤ 1048576) (hls : ∀ xs ∈ xss, xs.length ≤ 1048576) (hx : XS w L B A xss) (hx' : XS w L' B' A' xss) (hB : B ≤ w.heap.size) (hB' : B' ≤ w.heap.size) :
    Calls Try.prog 24 #[.slice A xss.length c, .slice A' xss.length c'] w fun e w' => e = .returned (.bool true) ∧ Below w.heap.size w w' := by
  have hX := Lib.hid hx
  have hY := Lib.hid hx'
  have hL := Lib.hid hls
  clear hx hx' hls
  go_enter Try.func24, Try.ntmps24
  go_wp2
  go_loopw [5] (fun i wr => ∃ k : Nat, k ≤ xss.length ∧ i = .int .i64 k ∧ Below w.heap.size w wr) (fun i _ => xss.length - (intOf i).toNat)
  case atStart => exact ⟨0, Nat.zero_le _, rfl, Below.refl _ _⟩
  case round =>
    obtain ⟨k, hk, rfl, hbel⟩ := hrel
    have hBl := Lib.hid hbel
    by_cases hlt : k < xss.length
    · obtain ⟨b, o, Ai, ci, rfl, z1, c1, hI⟩ := (hX.out.below hbel hB).at hlt
      obtain ⟨b', o', Ai', ci', rfl, z2, d1, hI'⟩ := (hY.out.below hbel hB').at hlt
      have hE := Lib.hid fun (W : World) (hW : Below wr.heap.size wr W) => eqIntS_any L B L' B' Ai Ai' xss[k].length xss[k].length ci ci' xss[k] xss[k] W rfl rfl (hL.out _ (List.getElem_mem _)) (hI.below hW (Nat.le_trans hB hbel.size)) (hI'.below hW (Nat.le_trans hB' hbel.size)) (Nat.le_trans (Nat.le_trans hB hbel.size) hW.size) (Nat.le_trans (Nat.le_trans hB' hbel.size) hW.size) rfl
      have hBd := Lib.hid (Below.refl wr.heap.size wr).drew
      have hz1 : b < wr.heap.size := Nat.lt_of_lt_of_le z1 (Nat.le_trans hB hbel.size)
      have hz2 : b' < wr.heap.size := Nat.lt_of_lt_of_le z2 (Nat.le_trans hB' hbel.size)
      have hki : (k : Int) < (xss.length : Int) := by omega
      have hk0 : (0 : Int) ≤ (k : Int) := by omega
      have hjh := Lib.hid hlt
      clear hI hI' hbel
      generalize (xss[k]).length = m at *
      go_wp2_with (fail)
      go_region_held3 (fun w' => w'.cell? ⟨b, o + k, none⟩ = some (.slice Ai m ci) ∧ w'.cell? ⟨b', o' + k, none⟩ = some (.slice Ai' m ci')) (first | exact ⟨(hb2.cell hz1).trans c1, (hb2.cell hz2).trans d1⟩ | go_keep) ((go_at_call 27; refine (hE.out _ hBd.out).mono ?_; rintro e w2 ⟨rfl, hb2⟩; have hBi := Lib.hid ((hBl.out.trans (hBd.out.mono hBl.out.size)).trans (hb2.mono (Nat.le_trans hBl.out.size hBd.out.size)))))
      clear hb2
      go_wp2
      have := hjh.out
      exact ⟨⟨k + 1, hjh.out, by go_num, hBi.out⟩, by simp [intOf]; omega⟩
    · obtain rfl : k = xss.length := by omega
      go_wp2
      go_ret
      exact ⟨rfl, hBl.out⟩
end Go.Proofs.Ytaaloepoegehkaa
