/- Texts of this proof, one behind the other: TE, SC, SD, VE, M2, A. -/
import Derived.Test.YthjfedidpjfboaaZ12
import Derived.Test.YthjfedidpjfboaaZ14
import Derived.Test.YthjfedidpjfboaaM
import Derived.Test.YthjfedidpjfboaaKMInstr
import Derived.WalkKit
import Derived.WalkSpells
import Derived.WalkLawsBesides
import Derived.Deep.RegionHeld3
import Derived.Laws.StructEq
import Derived.Lib.Hide
import Derived.Test.YthjfedidpjfboaaZ15
import Derived.Deep.RegionLaw
import Derived.Test.YthjfedidpjfboaaCA
/- First places, counts, sums of bits, least and greatest ones over an index. No program. -/
namespace Go.Proofs.Ythjfedidpjfboaa
open Go.RowKit
set_option linter.unusedVariables false

/-- The first index below n at which p holds, or -1. -/
def firstI (p : Nat → Bool) (n : Nat) : Int := match (List.range n).find? p with | some k => (k : Int) | none => -1
theorem firstI_none {p : Nat → Bool} {n : Nat} (h : ∀ i, i < n → p i = false) : firstI p n = -1 := by
  unfold firstI
  have : (List.range n).find? p = none := by
    rw [List.find?_eq_none]; intro x hx; rw [h x (by simpa using hx)]; simp
  rw [this]
theorem firstI_some {p : Nat → Bool} {n k : Nat} (hk : k < n) (hp : p k = true) (h : ∀ i, i < k → p i = false) : firstI p n = k := by
  unfold firstI
  have : (List.range n).find? p = some k := by
    rw [List.find?_range_eq_some]
    exact ⟨hp, by simpa using hk, fun j hj => by simp [h j hj]⟩
  rw [this]
theorem firstI_cases (p : Nat → Bool) (n : Nat) : (firstI p n = -1 ∧ ∀ i, i < n → p i = false) ∨ ∃ k : Nat, k < n ∧ firstI p n = k ∧ p k = true ∧ ∀ i, i < k → p i = false := by
  induction n with
  | zero => exact .inl ⟨rfl, fun i hi => absurd hi (Nat.not_lt_zero _)⟩
  | succ n ih =>
    rcases ih with ⟨_, h2⟩ | ⟨k, hk, _, hp, h2⟩
    · cases hn : p n
      · have h3 : ∀ i, i < n + 1 → p i = false := fun i hi => by
          by_cases e : i = n
          · rw [e]; exact hn
          · exact h2 i (by omega)
        exact .inl ⟨firstI_none h3, h3⟩
      · exact .inr ⟨n, by omega, firstI_some (by omega) hn h2, hn, h2⟩
    · exact .inr ⟨k, by omega, firstI_some (by omega) hp h2, hp, h2⟩
theorem firstI_ext {p q : Nat → Bool} {n : Nat} (h : ∀ i, i < n → p i = q i) : firstI p n = firstI q n := by
  rcases firstI_cases p n with ⟨h1, h2⟩ | ⟨k, hk, h1, hp, h2⟩
  · rw [h1, firstI_none fun i hi => by rw [← h i hi]; exact h2 i hi]
  · rw [h1, firstI_some hk (by rw [← h k hk]; exact hp) fun i hi => by rw [← h i (by omega)]; exact h2 i hi]
theorem firstI_neg {p : Nat → Bool} {n : Nat} : firstI p n < 0 ↔ ∀ i, i < n → p i = false := by
  rcases firstI_cases p n with ⟨h1, h2⟩ | ⟨k, hk, h1, hp, h2⟩
  · rw [h1]; exact ⟨fun _ => h2, fun _ => by decide⟩
  · rw [h1]; constructor
    · intro h; omega
    · intro h; rw [h k hk] at hp; cases hp
theorem firstI_bd (p : Nat → Bool) (n : Nat) : -1 ≤ firstI p n ∧ firstI p n < n := by
  rcases firstI_cases p n with ⟨h1, _⟩ | ⟨k, hk, h1, _, _⟩ <;> rw [h1] <;> omega

def countI (p : Nat → Bool) : Nat → Int
  | 0 => 0
  | n + 1 => countI p n + (if p n = true then 1 else 0)
theorem countI_bd (p : Nat → Bool) (n : Nat) : 0 ≤ countI p n ∧ countI p n ≤ n := by
  induction n with
  | zero => simp [countI]
  | succ n ih => rw [countI]; split <;> omega
theorem countI_ext {p q : Nat → Bool} : ∀ {n : Nat}, (∀ i, i < n → p i = q i) → countI p n = countI q n
  | 0, _ => rfl
  | n + 1, h => by rw [countI, countI, h n (by omega), countI_ext (n := n) (fun i hi => h i (by omega))]
theorem countI_yes {p : Nat → Bool} {n : Nat} (h : p n = true) : countI p (n + 1) = countI p n + 1 := by rw [countI, h]; rfl
theorem countI_no {p : Nat → Bool} {n : Nat} (h : p n = false) : countI p (n + 1) = countI p n := by rw [countI, h]; simp

def orI (f : Nat → Int) : Nat → Int
  | 0 => 0
  | n + 1 => bits .or .i64 (orI f n) (f n)
theorem orI_bd {f : Nat → Int} : ∀ {n : Nat}, (∀ i, i < n → 0 ≤ f i ∧ f i ≤ 63) → 0 ≤ orI f n ∧ orI f n ≤ 63
  | 0, _ => ⟨Int.le_refl _, by show (0 : Int) ≤ 63; omega⟩
  | n + 1, h => by
    have h1 := orI_bd (n := n) fun i hi => h i (by omega)
    have h2 := h n (by omega)
    exact bor_bd _ _ h1.1 h1.2 h2.1 h2.2
theorem orI_ext {f g : Nat → Int} : ∀ {n : Nat}, (∀ i, i < n → f i = g i) → orI f n = orI g n
  | 0, _ => rfl
  | n + 1, h => by rw [orI, orI, h n (by omega), orI_ext (n := n) (fun i hi => h i (by omega))]

theorem ofInt_inj {a b : Int} (h0 : 0 ≤ a) (h1 : a ≤ 63) (h2 : 0 ≤ b) (h3 : b ≤ 63) (h : BitVec.ofInt 64 a = BitVec.ofInt 64 b) : a = b := by
  have := congrArg BitVec.toNat h
  rw [BitVec.toNat_ofInt, BitVec.toNat_ofInt] at this
  omega
theorem wrap_zero {n : Nat} (h : n < 2 ^ 6) : IntKind.i64.wrap (n : Int) = 0 ↔ n = 0 := by rw [IntKind.wrap_i64]; omega
theorem bxor_zero {a b : Int} (h0 : 0 ≤ a) (h1 : a ≤ 63) (h2 : 0 ≤ b) (h3 : b ≤ 63) : bits .xor .i64 a b = 0 ↔ a = b := by
  have hs : (BitVec.ofInt 64 a ^^^ BitVec.ofInt 64 b).toNat < 2 ^ 6 := by rw [BitVec.toNat_xor]; exact Nat.xor_lt_two_pow (small64 a h0 h1) (small64 b h2 h3)
  show IntKind.i64.wrap (((BitVec.ofInt 64 a ^^^ BitVec.ofInt 64 b).toNat : Nat) : Int) = 0 ↔ a = b
  rw [wrap_zero hs]
  constructor
  · intro h
    have h' : BitVec.ofInt 64 a ^^^ BitVec.ofInt 64 b = 0#64 := by apply BitVec.eq_of_toNat_eq; simpa using h
    exact ofInt_inj h0 h1 h2 h3 (BitVec.xor_eq_zero_iff.1 h')
  · intro h; subst h; simp
theorem bor_zero {a b : Int} (h0 : 0 ≤ a) (h1 : a ≤ 63) (h2 : 0 ≤ b) (h3 : b ≤ 63) : bits .or .i64 a b = 0 ↔ a = 0 ∧ b = 0 := by
  have hs : (BitVec.ofInt 64 a ||| BitVec.ofInt 64 b).toNat < 2 ^ 6 := by rw [BitVec.toNat_or]; exact Nat.or_lt_two_pow (small64 a h0 h1) (small64 b h2 h3)
  show IntKind.i64.wrap (((BitVec.ofInt 64 a ||| BitVec.ofInt 64 b).toNat : Nat) : Int) = 0 ↔ a = 0 ∧ b = 0
  rw [wrap_zero hs]
  constructor
  · intro h
    have h' : BitVec.ofInt 64 a ||| BitVec.ofInt 64 b = 0#64 := by apply BitVec.eq_of_toNat_eq; simpa using h
    rw [BitVec.or_eq_zero_iff] at h'
    exact ⟨ofInt_inj h0 h1 (by omega) (by omega) h'.1, ofInt_inj h2 h3 (by omega) (by omega) h'.2⟩
  · rintro ⟨rfl, rfl⟩; simp
theorem orI_zero {f : Nat → Int} : ∀ {n : Nat}, (∀ i, i < n → 0 ≤ f i ∧ f i ≤ 63) → (orI f n = 0 ↔ ∀ i, i < n → f i = 0)
  | 0, _ => by simp [orI]
  | n + 1, h => by
    have h1 := orI_bd (n := n) fun i hi => h i (by omega)
    have h2 := h n (by omega)
    rw [orI, bor_zero h1.1 h1.2 h2.1 h2.2, orI_zero (n := n) fun i hi => h i (by omega)]
    constructor
    · rintro ⟨a, b⟩ i hi
      by_cases e : i = n
      · rw [e]; exact b
      · exact a i (by omega)
    · intro a; exact ⟨fun i hi => a i (by omega), a n (by omega)⟩

/-- All words of a list. -/
def W64 (xs : List Int) : Prop := ∀ i, 0 ≤ xs.getD i 0 ∧ xs.getD i 0 ≤ 63
theorem getD_get {xs : List Int} {i : Nat} (h : i < xs.length) : xs.getD i 0 = xs[i] := by
  rw [List.getD_eq_getElem?_getD, List.getElem?_eq_getElem h]; rfl
theorem tabTo_get (f : Int → Int → Int) {n i : Nat} (h : i < n) : (tabTo f n).getD i 0 = f ((i / 64 : Nat) : Int) ((i % 64 : Nat) : Int) := by
  rw [getD_get (by rw [tabTo_len]; exact h)]; simp [tabTo]
theorem list_ext_getD {xs ys : List Int} (hl : xs.length = ys.length) (h : ∀ i, i < xs.length → xs.getD i 0 = ys.getD i 0) : xs = ys := by
  apply List.ext_getElem hl
  intro i h1 h2
  have := h i h1
  rwa [getD_get h1, getD_get h2] at this

/-- least and greatest -/
def minI (f : Nat → Int) (m : Int) : Nat → Int
  | 0 => m
  | n + 1 => min (minI f m n) (f n)
def maxI (f : Nat → Int) (m : Int) : Nat → Int
  | 0 => m
  | n + 1 => max (maxI f m n) (f n)
theorem minI_le (f : Nat → Int) (m : Int) : ∀ n, minI f m n ≤ m ∧ ∀ i, i < n → minI f m n ≤ f i
  | 0 => ⟨Int.le_refl _, fun i hi => absurd hi (Nat.not_lt_zero _)⟩
  | n + 1 => by
    obtain ⟨h1, h2⟩ := minI_le f m n
    rw [minI]
    refine ⟨by omega, fun i hi => ?_⟩
    by_cases e : i = n
    · rw [e]; omega
    · have := h2 i (by omega); omega
theorem minI_is (f : Nat → Int) (m : Int) : ∀ n, minI f m n = m ∨ ∃ i, i < n ∧ minI f m n = f i
  | 0 => .inl rfl
  | n + 1 => by
    rw [minI]
    by_cases e : minI f m n ≤ f n
    · rw [Int.min_eq_left e]
      rcases minI_is f m n with h | ⟨i, hi, h⟩
      · exact .inl h
      · exact .inr ⟨i, by omega, h⟩
    · rw [Int.min_eq_right (by omega)]; exact .inr ⟨n, by omega, rfl⟩
theorem maxI_ge (f : Nat → Int) (m : Int) : ∀ n, m ≤ maxI f m n ∧ ∀ i, i < n → f i ≤ maxI f m n
  | 0 => ⟨Int.le_refl _, fun i hi => absurd hi (Nat.not_lt_zero _)⟩
  | n + 1 => by
    obtain ⟨h1, h2⟩ := maxI_ge f m n
    rw [maxI]
    refine ⟨by omega, fun i hi => ?_⟩
    by_cases e : i = n
    · rw [e]; omega
    · have := h2 i (by omega); omega
theorem maxI_is (f : Nat → Int) (m : Int) : ∀ n, maxI f m n = m ∨ ∃ i, i < n ∧ maxI f m n = f i
  | 0 => .inl rfl
  | n + 1 => by
    rw [maxI]
    by_cases e : f n ≤ maxI f m n
    · rw [Int.max_eq_left e]
      rcases maxI_is f m n with h | ⟨i, hi, h⟩
      · exact .inl h
      · exact .inr ⟨i, by omega, h⟩
    · rw [Int.max_eq_right (by omega)]; exact .inr ⟨n, by omega, rfl⟩
/-- Starting at a bound or at the first one is alike. -/
theorem minI_start {f : Nat → Int} {m : Int} {n : Nat} (hn : 0 < n) (h : ∀ i, i < n → f i ≤ m) : minI f m n = minI f (f 0) n := by
  have a := minI_le f m n
  have b := minI_le f (f 0) n
  have c : ∃ i, i < n ∧ minI f m n = f i := by
    rcases minI_is f m n with h1 | h1
    · have := a.2 0 hn; have := h 0 hn; exact ⟨0, hn, by omega⟩
    · exact h1
  have d : ∃ i, i < n ∧ minI f (f 0) n = f i := by
    rcases minI_is f (f 0) n with h1 | h1
    · exact ⟨0, hn, h1⟩
    · exact h1
  obtain ⟨i, hi, ei⟩ := c
  obtain ⟨j, hj, ej⟩ := d
  have := a.2 j hj; have := b.2 i hi; omega
theorem maxI_start {f : Nat → Int} {m : Int} {n : Nat} (hn : 0 < n) (h : ∀ i, i < n → m ≤ f i) : maxI f m n = maxI f (f 0) n := by
  have a := maxI_ge f m n
  have b := maxI_ge f (f 0) n
  have c : ∃ i, i < n ∧ maxI f m n = f i := by
    rcases maxI_is f m n with h1 | h1
    · have := a.2 0 hn; have := h 0 hn; exact ⟨0, hn, by omega⟩
    · exact h1
  have d : ∃ i, i < n ∧ maxI f (f 0) n = f i := by
    rcases maxI_is f (f 0) n with h1 | h1
    · exact ⟨0, hn, h1⟩
    · exact h1
  obtain ⟨i, hi, ei⟩ := c
  obtain ⟨j, hj, ej⟩ := d
  have := a.2 j hj; have := b.2 i hi; omega
end Go.Proofs.Ythjfedidpjfboaa

/- Swaps of a block: plain. -/
namespace Go.Proofs.Ythjfedidpjfboaa
open Go.RowKit
set_option linter.unusedVariables false

theorem getD_in {es : List In} {k : Nat} (h : k < es.length) : es.getD k zeroIn = es[k] := by rw [List.getD_eq_getElem?_getD, List.getElem?_eq_getElem h]; rfl
def blkOk (es : List In) : Bool := decide (es.length ≤ 20) && okCode es
theorem blkOk_parts {es : List In} (h : blkOk es = true) : es.length ≤ 20 ∧ okCode es = true := by
  unfold blkOk at h; rw [Bool.and_eq_true] at h; exact ⟨of_decide_eq_true h.1, h.2⟩
abbrev Mv := List In × List Int
/-- One swap: the code and the path. -/
def mvS (st : Mv) (i : Int) : Option Mv := if swOk st.1 i = true ∧ st.2.length ≠ 100 then some (swapR st.1 i, st.2 ++ [i]) else none
def folS (st : Mv) : List Int → Option Mv
  | [] => some st
  | i :: p => (mvS st i).bind fun s => folS s p
theorem folS_append (q : List Int) : ∀ (p : List Int) (st : Mv), folS st (p ++ q) = (folS st p).bind fun s => folS s q
  | [], st => rfl
  | i :: p, st => by
    show (mvS st i).bind (fun s => folS s (p ++ q)) = ((mvS st i).bind fun s => folS s p).bind fun s => folS s q
    rw [Option.bind_assoc]
    congr 1
    funext s
    exact folS_append q p s
theorem folS_one (st : Mv) (i : Int) : folS st [i] = mvS st i := by
  show (mvS st i).bind (fun s => some s) = mvS st i
  cases mvS st i <;> rfl
theorem folS_succ (st : Mv) {p : List Int} {k : Nat} (h : k < p.length) : folS st (p.take (k + 1)) = (folS st (p.take k)).bind fun s => mvS s p[k] := by
  rw [List.take_succ_eq_append_getElem h, folS_append]
  congr 1
  funext s
  exact folS_one s _
theorem folS_no {st : Mv} {p : List Int} {k : Nat} (h : folS st (p.take k) = none) : folS st p = none := by
  rw [← List.take_append_drop k p, folS_append, h]; rfl

theorem okCode_of {es : List In} (h1 : es.length ≤ 40) (h2 : ∀ x ∈ es, goodIn x = true) : okCode es = true := by
  unfold okCode; rw [Bool.and_eq_true]; exact ⟨decide_eq_true h1, List.all_eq_true.2 h2⟩
theorem swOk_parts {es : List In} {i : Int} (h : swOk es i = true) : okCode es = true ∧ inR i 0 (es.length - 2) = true ∧ freeB (es.getD i.toNat zeroIn) (es.getD (i.toNat + 1) zeroIn) = true := by
  unfold swOk at h; simp only [Bool.and_eq_true] at h; exact ⟨h.1.1, h.1.2, h.2⟩
theorem swapR_inv {es : List In} {i : Int} (h : swOk es i = true) : okCode (swapR es i) = true ∧ (swapR es i).length = es.length := by
  obtain ⟨h1, h2, h3⟩ := swOk_parts h
  obtain ⟨n, rfl, hn⟩ := inR_nat h2
  have e : swapR es n = (es.set n (es.getD (n + 1) zeroIn)).set (n + 1) (es.getD n zeroIn) := by rw [swapR, if_pos h, Int.toNat_natCast]
  have hl : (swapR es n).length = es.length := by rw [e, List.length_set, List.length_set]
  have g : ∀ m, m < es.length → es.getD m zeroIn ∈ es := fun m hm => by rw [List.getD_eq_getElem?_getD, List.getElem?_eq_getElem hm]; exact List.getElem_mem hm
  refine ⟨okCode_of (by rw [hl]; exact okCode_len h1) fun x hx => ?_, hl⟩
  rw [e] at hx
  have ha := okCode_all h1
  rcases List.mem_or_eq_of_mem_set hx with hx | rfl
  · rcases List.mem_or_eq_of_mem_set hx with hx | rfl
    · exact ha x hx
    · exact ha _ (g _ (by omega))
  · exact ha _ (g _ (by omega))
theorem mvS_some {st s : Mv} {i : Int} (h : mvS st i = some s) : swOk st.1 i = true ∧ st.2.length ≠ 100 ∧ s = (swapR st.1 i, st.2 ++ [i]) := by
  unfold mvS at h
  split at h
  · rename_i hc; injection h with h; exact ⟨hc.1, hc.2, h.symm⟩
  · cases h
/-- What every state on the way keeps. -/
structure MvInv (a : List In) (st : Mv) : Prop where
  ok : okCode st.1 = true
  len : st.1.length = a.length
  most : st.2.length ≤ 100
theorem MvInv.step {a : List In} {st s : Mv} {i : Int} (h : MvInv a st) (hm : mvS st i = some s) : MvInv a s ∧ s.2 = st.2 ++ [i] := by
  obtain ⟨h1, h2, rfl⟩ := mvS_some hm
  obtain ⟨h3, h4⟩ := swapR_inv h1
  have := h.most
  exact ⟨⟨h3, by show (swapR st.1 i).length = _; rw [h4]; exact h.len, by show (st.2 ++ [i]).length ≤ 100; rw [List.length_append, List.length_singleton]; omega⟩, rfl⟩
theorem MvInv.fol {a : List In} : ∀ (p : List Int) {st s : Mv}, MvInv a st → folS st p = some s → MvInv a s ∧ s.2 = st.2 ++ p ∧ allIn p 0 ((a.length : Int) - 2) = true
  | [], st, s, h, hm => by
    injection hm with hm; subst hm; exact ⟨h, by simp, rfl⟩
  | i :: p, st, s, h, hm => by
    have hm' : (mvS st i).bind (fun s => folS s p) = some s := hm
    cases e : mvS st i with
    | none => rw [e] at hm'; cases hm'
    | some s1 =>
      rw [e] at hm'
      obtain ⟨h1, h2⟩ := h.step e
      obtain ⟨h3, h4, h5⟩ := MvInv.fol p h1 hm'
      refine ⟨h3, by rw [h4, h2, List.append_assoc]; rfl, ?_⟩
      have hi := (swOk_parts (mvS_some e).1).2.1
      rw [h.len] at hi
      show (inR i 0 ((a.length : Int) - 2) && allIn p 0 ((a.length : Int) - 2)) = true
      rw [hi, h5]; rfl
theorem MvInv.start {a : List In} (h : okCode a = true) : MvInv a (a, []) := ⟨h, rfl, Nat.zero_le _⟩

def folR (es : List In) (path : List Int) : Option Mv := if blkOk es = true then folS (es, []) path else none
def folC (es : List In) (path : List Int) : List In := ((folR es path).map Prod.fst).getD []
def folB (es : List In) (path : List Int) : Bool := (folR es path).isSome
theorem folR_no {es : List In} (path : List Int) (h : blkOk es = false) : folR es path = none := by unfold folR; rw [h]; rfl
theorem folR_yes {es : List In} (path : List Int) (h : blkOk es = true) : folR es path = folS (es, []) path := by unfold folR; rw [if_pos h]
theorem fol_none {es : List In} {path : List Int} (h : folR es path = none) : folC es path = [] ∧ folB es path = false := by unfold folC folB; rw [h]; exact ⟨rfl, rfl⟩
theorem fol_some {es : List In} {path : List Int} {s : Mv} (h : folR es path = some s) : folC es path = s.1 ∧ folB es path = true := by unfold folC folB; rw [h]; exact ⟨rfl, rfl⟩
theorem folR_long {es : List In} {path : List Int} (h : 100 < path.length) : folR es path = none := by
  cases hb : blkOk es
  · exact folR_no path hb
  · rw [folR_yes path hb]
    cases e : folS (es, []) path with
    | none => rfl
    | some s =>
      obtain ⟨h1, h2, _⟩ := MvInv.fol path (MvInv.start (blkOk_parts hb).2) e
      have h3 := h1.most
      rw [h2] at h3
      simp at h3; omega
theorem folR_far {es : List In} {path : List Int} (h : allIn path 0 ((es.length : Int) - 2) = false) : folR es path = none := by
  cases hb : blkOk es
  · exact folR_no path hb
  · rw [folR_yes path hb]
    cases e : folS (es, []) path with
    | none => rfl
    | some s =>
      obtain ⟨_, _, h3⟩ := MvInv.fol path (MvInv.start (blkOk_parts hb).2) e
      rw [h] at h3; cases h3
theorem folC_len (es : List In) (path : List Int) : (folC es path).length ≤ 1048576 := by
  cases e : folR es path with
  | none => rw [(fol_none e).1]; simp
  | some s =>
    rw [(fol_some e).1]
    have hb : blkOk es = true := by
      cases hb : blkOk es
      · rw [folR_no path hb] at e; cases e
      · rfl
    rw [folR_yes path hb] at e
    have h1 := (MvInv.fol path (MvInv.start (blkOk_parts hb).2) e).1
    have := okCode_len h1.ok
    omega

/-- An instruction's first place. -/
def sameI (x y : In) : Bool := x.op.toList == y.op.toList && x.d == y.d && x.a == y.a && x.b == y.b && x.m == y.m
theorem sameI_comm (x y : In) : sameI x y = sameI y x := by
  unfold sameI
  rw [Bool.eq_iff_iff]
  simp only [Bool.and_eq_true, beq_iff_eq]
  constructor <;> rintro ⟨⟨⟨⟨h1, h2⟩, h3⟩, h4⟩, h5⟩ <;> exact ⟨⟨⟨⟨h1.symm, h2.symm⟩, h3.symm⟩, h4.symm⟩, h5.symm⟩
def iidx (xs : List In) (y : In) : Int := firstI (fun k => sameI (xs.getD k zeroIn) y) xs.length
/-- The swaps that bring the instruction at k + n to k. -/
def mvDn (k : Nat) : Nat → Mv → Option Mv
  | 0, st => some st
  | n + 1, st => (mvS st ((k + n : Nat) : Int)).bind (mvDn k n)
def spStep (st : Mv) (k : Nat) (x : In) : Option Mv := if iidx (st.1.drop k) x < 0 then none else mvDn k (iidx (st.1.drop k) x).toNat st
def spTo (a b : List In) : Nat → Option Mv
  | 0 => some (a, [])
  | k + 1 => (spTo a b k).bind fun s => spStep s k (b.getD k zeroIn)
theorem spTo_no {a b : List In} {k : Nat} (h : spTo a b k = none) : ∀ m, k ≤ m → spTo a b m = none := by
  intro m hm
  obtain ⟨d, rfl⟩ := Nat.exists_eq_add_of_le hm
  clear hm
  induction d with
  | zero => exact h
  | succ d ih => show (spTo a b (k + d)).bind _ = none; rw [ih]; rfl
theorem MvInv.dn {a : List In} (k : Nat) : ∀ (n : Nat) {st s : Mv}, MvInv a st → mvDn k n st = some s → MvInv a s
  | 0, st, s, h, hm => by injection hm with hm; subst hm; exact h
  | n + 1, st, s, h, hm => by
    have hm' : (mvS st ((k + n : Nat) : Int)).bind (mvDn k n) = some s := hm
    cases e : mvS st ((k + n : Nat) : Int) with
    | none => rw [e] at hm'; cases hm'
    | some s1 => rw [e] at hm'; exact MvInv.dn k n (h.step e).1 hm'
theorem MvInv.to {a b : List In} (ha : okCode a = true) : ∀ (k : Nat) {s : Mv}, spTo a b k = some s → MvInv a s
  | 0, s, h => by injection h with h; subst h; exact .start ha
  | k + 1, s, h => by
    have h' : (spTo a b k).bind (fun s => spStep s k (b.getD k zeroIn)) = some s := h
    cases e : spTo a b k with
    | none => rw [e] at h'; cases h'
    | some s1 =>
      rw [e] at h'
      have h2 : spStep s1 k (b.getD k zeroIn) = some s := h'
      unfold spStep at h2
      split at h2
      · cases h2
      · exact (MvInv.to ha k e).dn k _ h2
def spOk0 (a b : List In) : Bool := blkOk a && blkOk b && decide (a.length = b.length)
def spR (a b : List In) : Option Mv := if spOk0 a b = true then spTo a b b.length else none
def spP (a b : List In) : List Int := ((spR a b).map Prod.snd).getD []
def spB (a b : List In) : Bool := (spR a b).isSome
theorem sp_none {a b : List In} (h : spR a b = none) : spP a b = [] ∧ spB a b = false := by unfold spP spB; rw [h]; exact ⟨rfl, rfl⟩
theorem sp_some {a b : List In} {s : Mv} (h : spR a b = some s) : spP a b = s.2 ∧ spB a b = true := by unfold spP spB; rw [h]; exact ⟨rfl, rfl⟩
theorem spP_len (a b : List In) : (spP a b).length ≤ 1048576 := by
  cases e : spR a b with
  | none => rw [(sp_none e).1]; simp
  | some s =>
    rw [(sp_some e).1]
    unfold spR at e
    split at e
    · rename_i h
      unfold spOk0 at h
      simp only [Bool.and_eq_true] at h
      have := (MvInv.to (blkOk_parts h.1.1).2 _ e).most
      omega
    · cases e
end Go.Proofs.Ythjfedidpjfboaa

/- Instructions compared by '==', and slices.Index of instructions. -/
namespace Go.Proofs.Ythjfedidpjfboaa
open Go.RowKit
set_option linter.unusedVariables false
set_option maxRecDepth 100000
theorem in_guard : Try.prog.eqGuardType Try.prog.depth 90 = false := by kernel_rfl
theorem equalIn_in (op op' : ByteArray) (d a b m d' a' b' m' : Int) (w : World) : (Op.equalIn 10000 90 (.agg #[.string op, .int .i64 d, .int .i64 a, .int .i64 b, .int .i64 m]) (.agg #[.string op', .int .i64 d', .int .i64 a', .int .i64 b', .int .i64 m'])).run Try.prog w = .ok (sameI ⟨op, d, a, b, m⟩ ⟨op', d', a', b', m'⟩) w := by
  have u3 := Try.underlying3
  have a3 := Try.isAgg3
  have z3 := Try.sizeOf3
  have u9 := Try.underlying9
  have a9 := Try.isAgg9
  have z9 := Try.sizeOf9
  have hS : Try.prog.underlying 90 = some (.struct (Try.prog.fieldsOf 90)) := by kernel_rfl
  have hp : Try.prog.stoodInHeld 90 = false := by kernel_rfl
  rw [show (10000 : Nat) = 9999 + 1 from rfl, run_equalIn_agg w 9999 90 _ _ hS hp]
  simp only [Program.fieldsOf, Try.underlying90]
  unfold sameI
  go_simp
  by_cases h0 : op.toList = op'.toList <;> by_cases h1 : d = d' <;> by_cases h2 : a = a' <;> by_cases h3 : b = b' <;> by_cases h4 : m = m' <;> simp [h0, h1, h2, h3, h4]
theorem XB.new (w : World) (x : In) : XB (w.alloc (.cells #[.string x.op, .int .i64 x.d, .int .i64 x.a, .int .i64 x.b, .int .i64 x.m] 90)) w.heap.size x := heap_alloc_new w _

set_option maxHeartbeats 1000000 in
theorem indexI_any (L B : Nat) (A : Option Addr) (c : Nat) (xs : List In) (y : In) (w : World) (hl : xs.length ≤ 1048576) (hx : RS In.enc 5 w L B A xs) (hB : B ≤ w.heap.size) :
    Calls Try.prog 87 #[.slice A xs.length c, .agg #[.string y.op, .int .i64 y.d, .int .i64 y.a, .int .i64 y.b, .int .i64 y.m]] w fun e w' => e = .returned (.int .i64 (iidx xs y)) ∧ Below w.heap.size w w' := by
  have hX := Lib.hid hx
  have hgd := in_guard
  clear hx
  obtain ⟨op, d, a, b, m⟩ := y
  dsimp only
  obtain ⟨W1, hW1⟩ : ∃ W1, W1 = w.alloc (.cells #[.string op, .int .i64 d, .int .i64 a, .int .i64 b, .int .i64 m] 90) := ⟨_, rfl⟩
  have b1 : Hid (Below w.heap.size w W1) := by unfold Hid; rw [hW1]; exact (Below.refl _ _).alloc (Nat.le_refl _) _
  have x1 : Hid (XB W1 w.heap.size ⟨op, d, a, b, m⟩) := by unfold Hid; rw [hW1]; exact XB.new _ ⟨op, d, a, b, m⟩
  have e1 := Lib.hid hW1
  have hfi : Hid (iidx xs ⟨op, d, a, b, m⟩ = firstI (fun k => sameI (xs.getD k zeroIn) ⟨op, d, a, b, m⟩) xs.length) := rfl
  clear hW1
  go_enter Try.func87, Try.ntmps87
  go_wp2
  rw [← e1.out]
  clear e1
  go_loopw [8] (fun i wr => ∃ k : Nat, k ≤ xs.length ∧ i = .int .i64 k ∧ (∀ j, j < k → sameI (xs.getD j zeroIn) ⟨op, d, a, b, m⟩ = false) ∧ Below w.heap.size w wr ∧ XB wr w.heap.size ⟨op, d, a, b, m⟩) (fun i _ => xs.length - (intOf i).toNat)
  case atStart => exact ⟨0, Nat.zero_le _, rfl, fun j hj => by omega, b1.out, x1.out⟩
  case round =>
    obtain ⟨k, hk, rfl, hall, hbel, hxn⟩ := hrel
    have hAll := Lib.hid hall
    have hBe := Lib.hid hbel
    have hXN := Lib.hid hxn
    obtain ⟨m0, m1, m2, m3, m4⟩ := hxn.cells
    clear hall hxn
    by_cases hlt : k < xs.length
    · obtain ⟨b9, o9, rfl, ⟨_, hbB⟩, hc⟩ := In.cells (hX.out.below hbel hB) (by omega)
      obtain ⟨c1, c2, c3, c4, c5⟩ := hc k hlt
      have k0 : (0 : Int) ≤ (k : Int) := by omega
      have k1 : (k : Int) < (xs.length : Int) := by omega
      have hg1 := getD_in hlt
      have hYes := Lib.hid (show sameI xs[k] ⟨op, d, a, b, m⟩ = true → iidx xs ⟨op, d, a, b, m⟩ = (k : Int) from fun h => by
        rw [hfi.out]; exact firstI_some hlt (by show sameI (xs.getD k zeroIn) _ = true; rw [hg1]; exact h) hAll.out)
      have hNx := Lib.hid (show sameI xs[k] ⟨op, d, a, b, m⟩ = false → ∀ j, j < k + 1 → sameI (xs.getD j zeroIn) ⟨op, d, a, b, m⟩ = false from fun h j hj => by
        by_cases e : j = k
        · subst e; rw [hg1]; exact h
        · exact hAll.out j (by omega))
      clear hc hbel hg1
      generalize xs[k] = z at *
      obtain ⟨op', d', a', b', m'⟩ := z
      dsimp only at *
      have hEq := fun W => equalIn_in op op' d a b m d' a' b' m' W
      rw [sameI_comm] at hEq
      cases hs : sameI ⟨op', d', a', b', m'⟩ ⟨op, d, a, b, m⟩
      · have hn := Lib.hid (hNx.out hs)
        rw [hs] at hEq
        clear hs hNx hYes
        go_wp2_with (fail)
        go_region
        all_goals go_wp2
        all_goals go_roundw
        case rel => exact ⟨k + 1, by omega, by go_num, hn.out, hBe.out.drew, hXN.out⟩
        case measure => simp [intOf]; omega
      · have hy := Lib.hid (hYes.out hs)
        rw [hs] at hEq
        clear hs hNx hYes
        go_wp2_with (fail)
        go_region
        all_goals go_wp2
        all_goals go_ret
        all_goals exact ⟨by rw [hy.out]; rfl, hBe.out.drew⟩
    · obtain rfl : k = xs.length := by omega
      have hn : Hid (iidx xs ⟨op, d, a, b, m⟩ = -1) := by rw [Hid, hfi.out]; exact firstI_none hAll.out
      go_wp2
      go_ret
      exact ⟨by rw [hn.out]; rfl, hBe.out⟩
end Go.Proofs.Ythjfedidpjfboaa

/- The machines for all inputs, of the program. -/
namespace Go.Proofs.Ythjfedidpjfboaa
open Go.RowKit
set_option linter.unusedVariables false
set_option maxRecDepth 100000

theorem inputsAtV_any (k : Nat) (w : World) (hk : k < 4096) : Calls Try.prog 161 #[.int .i64 k] w fun e w' => e = .returned (.tuple #[.int .i64 ((k : Int) / 64), .int .i64 ((k : Int) % 64)]) ∧ w = w' := by
  go_enter Try.func161, Try.ntmps161
  go_wp2
  go_ret2
  have h1 : wrap64 ((k : Int) / 64) = (k : Int) / 64 := by unfold wrap64; omega
  exact ⟨by rw [← h1]; rfl, rfl⟩
abbrev MB (w : World) (g : Nat) (R : Nat → List Int) : Prop := IB w g 114 (tabR 4096 R)
theorem MB.cellM {w : World} {g i j : Nat} {R : Nat → List Int} (h : MB w g R) (hi : i < 4096) (hj : j < 6) : w.cell? ⟨g, i * 6 + j, none⟩ = some (.int .i64 ((R i).getD j 0)) := by
  obtain ⟨hl, e⟩ := tabR_at (R := R) hi hj
  have := h.cell (i * 6 + j) hl
  rwa [e] at this
theorem MB.six {w : World} {g i : Nat} {R : Nat → List Int} (h : MB w g R) (hi : i < 4096) : Six w g (i * 6) (R i) := fun j hj => h.cellM hi hj
theorem MB.put {w : World} {g i j : Nat} {R : Nat → List Int} {y : Int} (h : MB w g R) (hi : i < 4096) (hj : j < 6) (h6 : (R i).length = 6) : MB (w.setCell ⟨g, i * 6 + j, none⟩ (.int .i64 y)) g (updR R i ((R i).set j y)) := by
  have := IB.set h (i * 6 + j) y
  rwa [tabR_set hi hj h6] at this
theorem MB.congr {w : World} {g : Nat} {R S : Nat → List Int} (h : MB w g R) (he : ∀ i, i < 4096 → R i = S i) : MB w g S := by
  unfold MB at *
  rwa [tabR_congr he] at h
def zero6 : List Int := [0, 0, 0, 0, 0, 0]

set_option maxHeartbeats 4000000 in
theorem machinesForInputs_any (w : World) :
    Calls Try.prog 162 #[] w fun e w' => ∃ g, e = .returned (.slice (some ⟨g, 0, none⟩) 4096 4096) ∧ w.heap.size ≤ g ∧ MB w' g start6 ∧ Below w.heap.size w w' := by
  have hmk := run_make_ms 4096 (by decide)
  rw [show ((4096 : Nat) : Int) = 4096 from rfl] at hmk
  have h0 : Hid (MB (w.alloc (.cells (intCells (tabR 4096 fun _ => [0, 0, 0, 0, 0, 0])) 114)) w.heap.size fun _ => zero6) := heap_alloc_new w _
  have hb0 := Lib.hid ((Below.refl w.heap.size w).alloc (Nat.le_refl _) (.cells (intCells (tabR 4096 fun _ => [0, 0, 0, 0, 0, 0])) 114))
  have hIn := Lib.hid inputsAtV_any
  go_enter Try.func162, Try.ntmps162
  go_wp2_with (fail)
  obtain ⟨W1, hW1⟩ : ∃ W1, W1 = w.alloc (.cells (intCells (tabR 4096 fun _ => [0, 0, 0, 0, 0, 0])) 114) := ⟨_, rfl⟩
  rw [← hW1] at h0 hb0 ⊢
  obtain ⟨g, hg⟩ : ∃ g, g = w.heap.size := ⟨_, rfl⟩
  have hgw := Lib.hid (Nat.le_of_eq hg.symm)
  rw [← hg] at h0 ⊢
  clear hW1 hg hmk
  go_loopw [6] (fun i wr => ∃ k : Nat, k ≤ 4096 ∧ i = .int .i64 k ∧ MB wr g (fun a => if a < k then start6 a else zero6) ∧ Below w.heap.size w wr) (fun i _ => 4096 - (intOf i).toNat)
  case atStart => exact ⟨0, by omega, rfl, h0.out.congr (fun i _ => by rw [if_neg (by omega)]), hb0.out⟩
  case round =>
    obtain ⟨k, hk, rfl, hmb, hbel⟩ := hrel
    have hM := Lib.hid hmb
    have hBL := Lib.hid hbel
    by_cases hlt : k < 4096
    · have c0 := hmb.cellM (i := k) (j := 0) hlt (by omega)
      have c1 := hmb.cellM (i := k) (j := 1) hlt (by omega)
      rw [Nat.add_zero] at c0
      have f0 := hmb.frozen (k * 6)
      have f1 := hmb.frozen (k * 6 + 1)
      have hki : (k : Int) < 4096 := by omega
      have hk0 : (0 : Int) ≤ (k : Int) := by omega
      clear hmb hbel
      go_wp2_with (fail)
      go_region_law (go_simp; go_at_call 161; (with_reducible refine (hIn.out k _ hlt).mono ?_); rintro e w' ⟨rfl, rfl⟩)
      all_goals
        have h1 := (hM.out.put (j := 0) (y := (k : Int) / 64) hlt (by omega) (by simp [zero6])).put (j := 1) (y := (k : Int) % 64) hlt (by omega) (by simp [updR, zero6])
        rw [Nat.add_zero] at h1
        have h2 := Lib.hid (h1.congr (S := fun a => if a < k + 1 then start6 a else zero6) (fun i hi => by
          unfold updR
          by_cases e : i = k
          · subst e
            rw [if_pos rfl, if_pos rfl, if_neg (Nat.lt_irrefl _), if_pos (Nat.lt_succ_self _)]; rfl
          · rw [if_neg e, if_neg e]
            dsimp only
            by_cases e2 : i < k
            · rw [if_pos e2, if_pos (by omega)]
            · rw [if_neg e2, if_neg (by omega)]))
        have h3 := Lib.hid ((hBL.out.setCell (p := ⟨g, k * 6, none⟩) hgw.out (.int .i64 ((k : Int) / 64))).setCell (p := ⟨g, k * 6 + 1, none⟩) hgw.out (.int .i64 ((k : Int) % 64)))
        clear h1 c0 c1 f0 f1
        generalize ((wr.setCell ⟨g, k * 6, none⟩ (.int .i64 ((k : Int) / 64))).setCell ⟨g, k * 6 + 1, none⟩ (.int .i64 ((k : Int) % 64))) = W9 at *
        go_wp2
        go_roundw
        case rel => exact ⟨k + 1, by omega, by go_num, h2.out, h3.out.drew⟩
        case measure => simp [intOf]; omega
    · obtain rfl : k = 4096 := by omega
      have hF := Lib.hid (hmb.congr (S := start6) (fun i hi => by rw [if_pos hi]))
      clear hmb hbel
      go_wp2
      go_ret
      exact ⟨g, rfl, hgw.out, hF.out, hBL.out⟩

theorem fun_step {R : Nat → List Int} {x : In} {k n : Nat} {y : Int} (hs : stepL x (R k) = (R k).set n y) (i : Nat) :
    updR (fun a => if a < k then stepL x (R a) else R a) k (((fun a => if a < k then stepL x (R a) else R a) k).set n y) i = if i < k + 1 then stepL x (R i) else R i := by
  unfold updR
  by_cases e : i = k
  · subst e
    rw [if_pos rfl, if_pos (Nat.lt_succ_self _), hs]
    dsimp only
    rw [if_neg (Nat.lt_irrefl _)]
  · rw [if_neg e]
    dsimp only
    by_cases e2 : i < k
    · rw [if_pos e2, if_pos (by omega)]
    · rw [if_neg e2, if_neg (by omega)]
set_option maxHeartbeats 4000000 in
theorem runM_any (x : In) (g : Nat) (R : Nat → List Int) (w : World) (hx : goodIn x = true) (h6 : ∀ a, a < 4096 → words6 (R a)) (h : MB w g R) :
    Calls Try.prog 163 #[.slice (some ⟨g, 0, none⟩) 4096 4096, .agg #[.string x.op, .int .i64 x.d, .int .i64 x.a, .int .i64 x.b, .int .i64 x.m]] w fun e w' => e = .returned (.tuple #[]) ∧ MB w' g (fun a => stepL x (R a)) ∧ Chg g (g + 1) w w' := by
  have hd := (good_parts hx).1
  obtain ⟨nd, hnd⟩ := Int.eq_ofNat_of_zero_le hd.1
  have hd6 : nd < 6 := by omega
  have hG := Lib.hid hx
  have hW6 := Lib.hid h6
  obtain ⟨W1, hW1⟩ : ∃ W1, W1 = w.alloc (.cells #[.string x.op, .int .i64 x.d, .int .i64 x.a, .int .i64 x.b, .int .i64 x.m] 90) := ⟨_, rfl⟩
  have A1 : Below w.heap.size w W1 := by rw [hW1]; exact (Below.refl w.heap.size w).alloc (Nat.le_refl _) _
  have X1 : Hid (XB W1 w.heap.size x) := by rw [hW1]; exact XB.new w x
  have hgl := h.lt
  have hM1 := Lib.hid (IB.below h A1 hgl)
  have hC1 : Hid (Chg g (g + 1) w W1) := Chg.ofBelow A1
  have hW1h := Lib.hid hW1.symm
  have hND := Lib.hid hnd
  have hSx := Lib.hid fun (a : Nat) => (show stepL x (R a) = (R a).set nd (vOf x.op x.m ((R a).getD x.a.toNat 0) ((R a).getD x.b.toNat 0)) by rw [stepL, hnd, Int.toNat_natCast])
  have hStp := Lib.hid fun (k : Nat) (W : World) (hk : k < 4096) (hm : MB W g (fun a => if a < k then stepL x (R a) else R a)) => (show Calls Try.prog 157 #[.pointer (some ⟨g, k * 6, none⟩), .agg #[.string x.op, .int .i64 x.d, .int .i64 x.a, .int .i64 x.b, .int .i64 x.m]] W fun e w' => e = .returned (.tuple #[]) ∧ MB w' g (fun a => if a < k + 1 then stepL x (R a) else R a) ∧ Chg g (g + 1) W w' from by
    have e9 : (if k < k then stepL x (R k) else R k) = R k := if_neg (Nat.lt_irrefl _)
    have hs6 : Six W g (k * 6) (R k) := by have := hm.six hk; rwa [e9] at this
    refine (stepO_any x g (k * 6) (R k) W hx (h6 k hk) hm.lt hs6 (fun i hi => hm.frozen _)).mono ?_
    rintro e w' ⟨h1, w1, hb, rfl⟩
    refine ⟨h1, ?_, (Chg.ofBelow hb).setCell (p := ⟨g, k * 6 + x.d.toNat, none⟩) ⟨Nat.le_refl _, Nat.lt_succ_self _⟩ _⟩
    rw [hnd, Int.toNat_natCast]
    have hm1 : MB w1 g (fun a => if a < k then stepL x (R a) else R a) := IB.below hm hb hm.lt
    exact (hm1.put (j := nd) (y := vOf x.op x.m ((R k).getD x.a.toNat 0) ((R k).getD x.b.toNat 0)) hk hd6 (by rw [e9]; exact (h6 k hk).1)).congr fun i _ => fun_step (hSx.out k) i)
  clear hx h6 h A1 hW1 hd hnd hSx
  obtain ⟨op, d, a, b, m⟩ := x
  dsimp only at *
  go_enter Try.func163, Try.ntmps163
  go_wp2_with (fail)
  rw [hW1h.out]
  obtain ⟨xg, hxg⟩ : ∃ xg, xg = w.heap.size := ⟨_, rfl⟩
  have hgx : g < xg := by omega
  rw [← hxg] at X1 ⊢
  clear hW1h hxg
  go_wp2
  go_loopw [7] (fun i wr => ∃ k : Nat, k ≤ 4096 ∧ i = .int .i64 k ∧ MB wr g (fun q => if q < k then stepL ⟨op, d, a, b, m⟩ (R q) else R q) ∧ XB wr xg ⟨op, d, a, b, m⟩ ∧ Chg g (g + 1) w wr) (fun i _ => 4096 - (intOf i).toNat)
  case atStart => exact ⟨0, by omega, rfl, MB.congr hM1.out (fun i _ => by rw [if_neg (by omega)]), X1.out, hC1.out⟩
  case round =>
    obtain ⟨k, hk, rfl, hmb, hxb, hch⟩ := hrel
    have hM := Lib.hid hmb
    have hX := Lib.hid hxb
    have hCh := Lib.hid hch
    by_cases hlt : k < 4096
    · obtain ⟨n0, n1, n2, n3, n4⟩ := XB.cells hxb
      dsimp only at n0 n1 n2 n3 n4
      have hki : (k : Int) < 4096 := by omega
      have hk0 : (0 : Int) ≤ (k : Int) := by omega
      have hxl := Lib.hid (CB.lt hxb)
      have hSt := Lib.hid (hStp.out k wr.drew hlt hM.out)
      clear hmb hxb hch
      go_wp2_with (fail)
      go_region_law (go_simp; go_at_call 157; (with_reducible refine hSt.out.mono ?_); rintro e w2 ⟨rfl, hm2, hc2⟩)
      all_goals
        have hM2 := Lib.hid hm2
        have hX2 := Lib.hid (show XB w2 xg ⟨op, d, a, b, m⟩ from (hc2.block xg hxl.out (.inr hgx)).trans hX.out)
        have hC2 := Lib.hid (hCh.out.drew.trans hc2)
        clear hm2 hc2 n0 n1 n2 n3 n4
        go_wp2
        go_roundw
        case rel => exact ⟨k + 1, by omega, by go_num, hM2.out, hX2.out, hC2.out⟩
        case measure => simp [intOf]; omega
    · obtain rfl : k = 4096 := by omega
      have hF := Lib.hid (hmb.congr (S := fun q => stepL ⟨op, d, a, b, m⟩ (R q)) (fun i hi => by rw [if_pos hi]))
      clear hmb hxb hch
      go_wp2
      go_end0
      exact ⟨rfl, hF.out, hCh.out⟩
def endR (cs : List In) (i : Nat) : List Int := runL cs (start6 i)
set_option maxHeartbeats 4000000 in
theorem runStepsM_any (L B : Nat) (A : Option Addr) (c : Nat) (es : List In) (g : Nat) (w : World) (hok : okCode es = true) (hes : RS In.enc 5 w L B A es) (hB : B ≤ g) (h0 : MB w g start6) :
    Calls Try.prog 108 #[.slice A es.length c, .func (.func 163) #[.slice (some ⟨g, 0, none⟩) 4096 4096] #[]] w fun e w' => e = .returned (.tuple #[]) ∧ MB w' g (endR es) ∧ Chg g (g + 1) w w' := by
  have hl := okCode_len hok
  have hall := Lib.hid (okCode_all hok)
  have hE := Lib.hid hes
  have hBB := Lib.hid hB
  have hS0 := Lib.hid h0
  have hgl := IB.lt h0
  clear hes hB hok h0
  go_enter Try.func108, Try.ntmps108
  go_wp2
  go_loopw [8] (fun i wr => ∃ k : Nat, k ≤ es.length ∧ i = .int .i64 k ∧ MB wr g (fun a => runL (es.take k) (start6 a)) ∧ Chg g (g + 1) w wr) (fun i _ => es.length - (intOf i).toNat)
  case atStart => exact ⟨0, Nat.zero_le _, rfl, hS0.out, Chg.refl _ _ _⟩
  case round =>
    obtain ⟨k, hk, rfl, hmb, hch⟩ := hrel
    have hM := Lib.hid hmb
    have hCh := Lib.hid hch
    by_cases hlt : k < es.length
    · obtain ⟨b, o, rfl, ⟨_, hbB⟩, hc⟩ := In.cells (hE.out.chg hch (Nat.le_of_lt (Nat.lt_of_le_of_lt hBB.out hgl)) (.inl hBB.out)) (by omega)
      obtain ⟨d1, d2, d3, d4, d5⟩ := hc k hlt
      clear hc hch
      have hx := Lib.hid (hall.out _ (List.getElem_mem hlt))
      have hSn := Lib.hid fun (a : Nat) => runL_snoc (rs := start6 a) hlt
      have hStep := Lib.hid fun (W : World) (hW : Below wr.heap.size wr W) => runM_any es[k] g (fun a => runL (es.take k) (start6 a)) W hx.out (fun a ha => runL_words_take hall.out (start6_words ha) k) (IB.below hM.out hW hmb.lt)
      clear hx hmb
      generalize es[k] = nd at *
      obtain ⟨op, d, a, bb, m⟩ := nd
      dsimp only at d1 d2 d3 d4 d5 hStep
      have A1 := Lib.hid ((Below.refl wr.heap.size wr).alloc (Nat.le_refl _) (.cells #[.string op, .int .i64 d, .int .i64 a, .int .i64 bb, .int .i64 m] 90))
      go_wp2_with (fail)
      refine (hStep.out _ A1.out).mono ?_
      rintro e w3 ⟨rfl, hm3, hc3⟩
      have hF := Lib.hid (MB.congr hm3 (S := fun a => runL (es.take (k + 1)) (start6 a)) (fun i _ => (hSn.out i).symm))
      have hC3 := Lib.hid (hCh.out.trans ((Chg.ofBelow A1.out).trans hc3))
      clear hm3 hc3 d1 d2 d3 d4 d5
      go_wp2
      go_roundw
      case rel => exact ⟨k + 1, by omega, by go_num, hF.out, hC3.out⟩
      case measure => simp [intOf]; omega
    · obtain rfl : k = es.length := by omega
      have hF := Lib.hid (hmb.congr (S := endR es) (fun i _ => by rw [List.take_length]; rfl))
      clear hmb hch
      go_wp2
      go_end0
      exact ⟨rfl, hF.out, hCh.out⟩
theorem machinesBehind_any (L B : Nat) (A : Option Addr) (c : Nat) (es : List In) (w : World) (hok : okCode es = true) (hes : RS In.enc 5 w L B A es) (hB : B ≤ w.heap.size) :
    Calls Try.prog 122 #[.slice A es.length c] w fun e w' => ∃ g, e = .returned (.slice (some ⟨g, 0, none⟩) 4096 4096) ∧ w.heap.size ≤ g ∧ MB w' g (endR es) ∧ Below w.heap.size w w' := by
  have H := Lib.hid (machinesForInputs_any w)
  have hR := Lib.hid fun (g : Nat) (W : World) (hb : Below w.heap.size w W) (hg : w.heap.size ≤ g) (h0 : MB W g start6) => runStepsM_any L B A c es g W hok (hes.below hb hB) (Nat.le_trans hB hg) h0
  clear hes hok
  go_enter Try.func122, Try.ntmps122
  go_wp2_with (fail)
  refine H.out.mono ?_
  rintro e w1 ⟨g, rfl, hg, hm, hb1⟩
  have hb1h := Lib.hid hb1
  have hRn := Lib.hid (hR.out g w1 hb1 hg hm)
  have hgh := Lib.hid hg
  clear hm hb1 hg
  go_wp2_with (fail)
  refine hRn.out.mono ?_
  rintro e w2 ⟨rfl, hm2, hc2⟩
  have hM2 := Lib.hid hm2
  have hB2 := Lib.hid (below_chg hb1h.out hc2 hb1h.out.size hgh.out)
  clear hm2 hc2
  go_wp2
  go_ret
  exact ⟨g, rfl, hgh.out, hM2.out, hB2.out⟩
end Go.Proofs.Ythjfedidpjfboaa

namespace Go.Proofs.Ythjfedidpjfboaa
open Go.RowKit
/-! ### uses -/
def bump (u : List Int) (k : Int) : List Int := u.set k.toNat (u.getD k.toNat 0 + 1)
def usesAt (es : List Nd) (k : Nat) : List Int := (es.take k).foldl (fun u n => (parts n).foldl bump u) (List.replicate es.length 0)
def uses (es : List Nd) : List Int := usesAt es es.length
def Bd (c : Int) (u : List Int) : Prop := ∀ i, 0 ≤ u.getD i 0 ∧ u.getD i 0 ≤ c
theorem length_bump (u : List Int) (k : Int) : (bump u k).length = u.length := by simp [bump]
theorem Bd.mono {c d : Int} {u : List Int} (h : Bd c u) (hd : c ≤ d) : Bd d u := fun i => by have := h i; omega
theorem Bd.bump {c : Int} {u : List Int} (h : Bd c u) (k : Int) : Bd (c + 1) (bump u k) := by
  intro i
  have h1 := h i
  have h2 := h k.toNat
  unfold Proofs.Ythjfedidpjfboaa.bump
  rw [List.getD_eq_getElem?_getD, List.getElem?_set]
  rw [List.getD_eq_getElem?_getD] at h1 h2
  split
  · split
    · simp; omega
    · simp; omega
  · omega
theorem parts_len (n : Nd) : (parts n).length ≤ 2 := by unfold parts; split; · simp
                                                        split <;> simp
theorem foldl_bump_len (ps : List Int) (u : List Int) : (ps.foldl bump u).length = u.length := by
  induction ps generalizing u with
  | nil => rfl
  | cons p ps ih => rw [List.foldl_cons, ih, length_bump]
theorem foldl_bump_Bd (ps : List Int) : ∀ {c : Int} {u : List Int}, Bd c u → Bd (c + ps.length) (ps.foldl bump u) := by
  induction ps with
  | nil => intro c u h; simpa using h
  | cons p ps ih => intro c u h; rw [List.foldl_cons]; exact (ih (h.bump p)).mono (by simp; omega)
theorem usesAt_zero (es : List Nd) : usesAt es 0 = List.replicate es.length 0 := rfl
theorem usesAt_succ {es : List Nd} {k : Nat} (h : k < es.length) : usesAt es (k + 1) = (parts es[k]).foldl bump (usesAt es k) := by
  unfold usesAt; rw [List.take_succ_eq_append_getElem h, List.foldl_append]; rfl
theorem usesAt_len (es : List Nd) (k : Nat) : (usesAt es k).length = es.length := by
  induction k with
  | zero => simp [usesAt]
  | succ k ih =>
    by_cases h : k < es.length
    · rw [usesAt_succ h, foldl_bump_len, ih]
    · have : es.take (k+1) = es.take k := by rw [List.take_of_length_le (by omega), List.take_of_length_le (by omega)]
      unfold usesAt at *; rw [this]; exact ih
theorem usesAt_Bd {es : List Nd} {k : Nat} (h : k ≤ es.length) : Bd (2 * k) (usesAt es k) := by
  induction k with
  | zero => intro i; rw [usesAt_zero, List.getD_eq_getElem?_getD, List.getElem?_replicate]; split <;> simp
  | succ k ih =>
    rw [usesAt_succ (by omega)]
    have := parts_len es[k]
    exact (foldl_bump_Bd _ (ih (by omega))).mono (by omega)
end Go.Proofs.Ythjfedidpjfboaa

namespace Go.Proofs.Ythjfedidpjfboaa
open Go.RowKit

theorem l1In_any (n lo hi : Int) (w : World) :
    Calls Try.prog 137 #[.int .i64 n, .int .i64 lo, .int .i64 hi] w fun e w' => e = .returned (.bool (decide (lo ≤ n) && decide (n ≤ hi))) ∧ w = w' := by
  by_cases h1 : lo ≤ n
  · by_cases h2 : n ≤ hi
    all_goals
      go_enter Try.func137, Try.ntmps137
      go_wp2
      go_ret
      exact ⟨by simp [*], rfl⟩
  · go_enter Try.func137, Try.ntmps137
    go_wp2
    go_ret
    exact ⟨by simp; omega, rfl⟩

theorem exOne_any (s : ByteArray) (w : World) :
    Calls Try.prog 173 #[.string s] w fun e w' => e = .returned (.bool (isOne s)) ∧ w = w' := by
  unfold isOne
  go_enter Try.func173, Try.ntmps173
  go_wp2
  all_goals go_ret
  all_goals exact ⟨by simp [*], rfl⟩

theorem exWord_any (n : Int) (w : World) :
    Calls Try.prog 172 #[.int .i64 n] w fun e w' => e = .returned (.bool (decide (0 ≤ n) && decide (n ≤ 63))) ∧ w = w' := by
  go_enter Try.func172, Try.ntmps172
  go_wp2_with (go_at_call 137; refine (l1In_any _ _ _ _).mono ?_; rintro e w' ⟨rfl, rfl⟩)
  go_ret
  exact ⟨by simp, rfl⟩

set_option maxHeartbeats 4000000 in
theorem operandCount_any (s : ByteArray) (w : World) :
    Calls Try.prog 177 #[.string s] w fun e w' => e = .returned (.int .i64 (ar s)) ∧ w = w' := by
  have H0 : ∀ k : Int, (ar s = k) → Hid (ar s = k) := fun _ h => h
  rcases op_cases s with h|h|h|h|h|h|h|h|h|h|h|h|h|h|h
  · have H := H0 0 (by simp [ar, isIn, isConst, h]); clear H0
    go_enter Try.func177, Try.ntmps177
    go_wp2
    go_ret
    exact ⟨by rw [H.out]; rfl, rfl⟩
  · have H := H0 0 (by simp [ar, isIn, isConst, h]); clear H0
    go_enter Try.func177, Try.ntmps177
    go_wp2
    go_ret
    exact ⟨by rw [H.out]; rfl, rfl⟩
  · have H := H0 1 (by simp [ar, isIn, isConst, isOne, h]); clear H0
    go_enter Try.func177, Try.ntmps177
    go_wp2
    go_ret
    exact ⟨by rw [H.out]; rfl, rfl⟩
  · have H := H0 1 (by simp [ar, isIn, isConst, isOne, h]); clear H0
    go_enter Try.func177, Try.ntmps177
    go_wp2
    go_ret
    exact ⟨by rw [H.out]; rfl, rfl⟩
  · have H := H0 2 (by simp [ar, isIn, isConst, isOne, isTwo, twoOps, h]); clear H0
    go_enter Try.func177, Try.ntmps177
    go_wp2
    go_ret
    exact ⟨by rw [H.out]; rfl, rfl⟩
  iterate 9
    · have H := H0 2 (by simp [ar, isIn, isConst, isOne, isTwo, twoOps, h]); clear H0
      go_enter Try.func177, Try.ntmps177
      go_wp2
      go_ret
      exact ⟨by rw [H.out]; rfl, rfl⟩
  · obtain ⟨h1, h2, h3, h4, h5, h6, h7, h8, h9, h10, h11, h12, h13, h14⟩ := h
    have H := H0 (-1) (by
      have f : ∀ t : List UInt8, (s.toList == t) = false → (t == s.toList) = false := fun t h => by
        rw [beq_eq_false_iff_ne] at h ⊢; exact Ne.symm h
      simp only [ar, isIn, isConst, isOne, isTwo, twoOps, List.any_cons, List.any_nil, h1, h2, h3, h4, f _ h5, f _ h6, f _ h7, f _ h8, f _ h9, f _ h10, f _ h11, f _ h12, f _ h13, f _ h14, Bool.or_false, Bool.false_eq_true, if_false]); clear H0
    go_enter Try.func177, Try.ntmps177
    go_wp2
    go_ret
    exact ⟨by rw [H.out]; rfl, rfl⟩

/-- l1HasS over a slice of strings. -/
def hasS (ss : List ByteArray) (s : ByteArray) : Bool := ss.any fun t => t.toList == s.toList
theorem l1HasS_any (b o c : Nat) (ss : List ByteArray) (s : ByteArray) (w : World) (hl : ss.length ≤ 1000) (hc : ∀ k (h : k < ss.length), w.cell? ⟨b, o + k, none⟩ = some (.string ss[k])) :
    Calls Try.prog 167 #[.slice (some ⟨b, o, none⟩) ss.length c, .string s] w fun e w' => e = .returned (.bool (hasS ss s)) ∧ w = w' := by
  go_enter Try.func167, Try.ntmps167
  go_wp2
  go_loop [6, 9] (fun _ i => ∃ k : Nat, k ≤ ss.length ∧ i = .int .i64 k ∧ hasS (ss.take k) s = false) (fun _ i => ss.length - (intOf i).toNat)
  case atStart => exact ⟨0, Nat.zero_le _, rfl, rfl⟩
  case round =>
    obtain ⟨k, hk, rfl, hh⟩ := hrel
    have hH := Lib.hid hh; clear hh
    by_cases hlt : k < ss.length
    · have hcell := hc k hlt
      have hs : hasS (ss.take (k+1)) s = (hasS (ss.take k) s || (ss[k].toList == s.toList)) := by
        unfold hasS; rw [List.take_succ_eq_append_getElem hlt, List.any_append]; simp
      have hle : hasS (ss.take (k+1)) s = true → hasS ss s = true := by
        unfold hasS; intro h; rw [List.any_eq_true] at h ⊢; obtain ⟨x, hx, h⟩ := h; exact ⟨x, List.mem_of_mem_take hx, h⟩
      have hS := Lib.hid hs; have hL := Lib.hid hle; clear hs hle
      go_wp2
      · go_ret
        exact ⟨ret_bool (hL.out (by rw [hS.out, hH.out]; simp [*])).symm, rfl⟩
      · go_round
        case rel => exact ⟨k + 1, by omega, by go_num, by rw [hS.out, hH.out]; simp [*]⟩
        case measure => simp [intOf]; omega
    · obtain rfl : k = ss.length := by omega
      go_wp2
      go_ret
      exact ⟨ret_bool (by have := hH.out; rw [List.take_length] at this; rw [this]), rfl⟩
end Go.Proofs.Ythjfedidpjfboaa
