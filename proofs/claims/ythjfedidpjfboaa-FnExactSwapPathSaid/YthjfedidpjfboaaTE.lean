import Derived.Test.YthjfedidpjfboaaTM
import Derived.Test.YthjfedidpjfboaaMP
import Derived.Test.YthjfedidpjfboaaM
/- First places, counts, sums of bits, least and greatest ones over an index. No program. -/
namespace Go.Proofs.Ythjfedidpjfboaa
open Go.RowKit
set_option linter.unusedVariables false

/-- The first index below n at which p holds, or -1. -/
def firstI (p : Nat → Bool) (n : Nat) : Int := match (List.range n).find? p with | some k => (k : Int) | none => -1
theorem firstI_none {p : Nat → Bool} {n : Nat} (h : ∀ i, i < n → p i = false) : firstI p n = -1 := by
  unfold firstI
  have : (List.range n).find? p = none := by
    rw [List.find?_eq_none]; intro x hx; rw [h x (by simpa using hx)]; simp
  rw [this]
theorem firstI_some {p : Nat → Bool} {n k : Nat} (hk : k < n) (hp : p k = true) (h : ∀ i, i < k → p i = false) : firstI p n = k := by
  unfold firstI
  have : (List.range n).find? p = some k := by
    rw [List.find?_range_eq_some]
    exact ⟨hp, by simpa using hk, fun j hj => by simp [h j hj]⟩
  rw [this]
theorem firstI_cases (p : Nat → Bool) (n : Nat) : (firstI p n = -1 ∧ ∀ i, i < n → p i = false) ∨ ∃ k : Nat, k < n ∧ firstI p n = k ∧ p k = true ∧ ∀ i, i < k → p i = false := by
  induction n with
  | zero => exact .inl ⟨rfl, fun i hi => absurd hi (Nat.not_lt_zero _)⟩
  | succ n ih =>
    rcases ih with ⟨_, h2⟩ | ⟨k, hk, _, hp, h2⟩
    · cases hn : p n
      · have h3 : ∀ i, i < n + 1 → p i = false := fun i hi => by
          by_cases e : i = n
          · rw [e]; exact hn
          · exact h2 i (by omega)
        exact .inl ⟨firstI_none h3, h3⟩
      · exact .inr ⟨n, by omega, firstI_some (by omega) hn h2, hn, h2⟩
    · exact .inr ⟨k, by omega, firstI_some (by omega) hp h2, hp, h2⟩
theorem firstI_ext {p q : Nat → Bool} {n : Nat} (h : ∀ i, i < n → p i = q i) : firstI p n = firstI q n := by
  rcases firstI_cases p n with ⟨h1, h2⟩ | ⟨k, hk, h1, hp, h2⟩
  · rw [h1, firstI_none fun i hi => by rw [← h i hi]; exact h2 i hi]
  · rw [h1, firstI_some hk (by rw [← h k hk]; exact hp) fun i hi => by rw [← h i (by omega)]; exact h2 i hi]
theorem firstI_neg {p : Nat → Bool} {n : Nat} : firstI p n < 0 ↔ ∀ i, i < n → p i = false := by
  rcases firstI_cases p n with ⟨h1, h2⟩ | ⟨k, hk, h1, hp, h2⟩
  · rw [h1]; exact ⟨fun _ => h2, fun _ => by decide⟩
  · rw [h1]; constructor
    · intro h; omega
    · intro h; rw [h k hk] at hp; cases hp
theorem firstI_bd (p : Nat → Bool) (n : Nat) : -1 ≤ firstI p n ∧ firstI p n < n := by
  rcases firstI_cases p n with ⟨h1, _⟩ | ⟨k, hk, h1, _, _⟩ <;> rw [h1] <;> omega

def countI (p : Nat → Bool) : Nat → Int
  | 0 => 0
  | n + 1 => countI p n + (if p n = true then 1 else 0)
theorem countI_bd (p : Nat → Bool) (n : Nat) : 0 ≤ countI p n ∧ countI p n ≤ n := by
  induction n with
  | zero => simp [countI]
  | succ n ih => rw [countI]; split <;> omega
theorem countI_ext {p q : Nat → Bool} : ∀ {n : Nat}, (∀ i, i < n → p i = q i) → countI p n = countI q n
  | 0, _ => rfl
  | n + 1, h => by rw [countI, countI, h n (by omega), countI_ext (n := n) (fun i hi => h i (by omega))]
theorem countI_yes {p : Nat → Bool} {n : Nat} (h : p n = true) : countI p (n + 1) = countI p n + 1 := by rw [countI, h]; rfl
theorem countI_no {p : Nat → Bool} {n : Nat} (h : p n = false) : countI p (n + 1) = countI p n := by rw [countI, h]; simp

def orI (f : Nat → Int) : Nat → Int
  | 0 => 0
  | n + 1 => bits .or .i64 (orI f n) (f n)
theorem orI_bd {f : Nat → Int} : ∀ {n : Nat}, (∀ i, i < n → 0 ≤ f i ∧ f i ≤ 63) → 0 ≤ orI f n ∧ orI f n ≤ 63
  | 0, _ => ⟨Int.le_refl _, by show (0 : Int) ≤ 63; omega⟩
  | n + 1, h => by
    have h1 := orI_bd (n := n) fun i hi => h i (by omega)
    have h2 := h n (by omega)
    exact bor_bd _ _ h1.1 h1.2 h2.1 h2.2
theorem orI_ext {f g : Nat → Int} : ∀ {n : Nat}, (∀ i, i < n → f i = g i) → orI f n = orI g n
  | 0, _ => rfl
  | n + 1, h => by rw [orI, orI, h n (by omega), orI_ext (n := n) (fun i hi => h i (by omega))]

theorem ofInt_inj {a b : Int} (h0 : 0 ≤ a) (h1 : a ≤ 63) (h2 : 0 ≤ b) (h3 : b ≤ 63) (h : BitVec.ofInt 64 a = BitVec.ofInt 64 b) : a = b := by
  have := congrArg BitVec.toNat h
  rw [BitVec.toNat_ofInt, BitVec.toNat_ofInt] at this
  omega
theorem wrap_zero {n : Nat} (h : n < 2 ^ 6) : IntKind.i64.wrap (n : Int) = 0 ↔ n = 0 := by rw [IntKind.wrap_i64]; omega
theorem bxor_zero {a b : Int} (h0 : 0 ≤ a) (h1 : a ≤ 63) (h2 : 0 ≤ b) (h3 : b ≤ 63) : bits .xor .i64 a b = 0 ↔ a = b := by
  have hs : (BitVec.ofInt 64 a ^^^ BitVec.ofInt 64 b).toNat < 2 ^ 6 := by rw [BitVec.toNat_xor]; exact Nat.xor_lt_two_pow (small64 a h0 h1) (small64 b h2 h3)
  show IntKind.i64.wrap (((BitVec.ofInt 64 a ^^^ BitVec.ofInt 64 b).toNat : Nat) : Int) = 0 ↔ a = b
  rw [wrap_zero hs]
  constructor
  · intro h
    have h' : BitVec.ofInt 64 a ^^^ BitVec.ofInt 64 b = 0#64 := by apply BitVec.eq_of_toNat_eq; simpa using h
    exact ofInt_inj h0 h1 h2 h3 (BitVec.xor_eq_zero_iff.1 h')
  · intro h; subst h; simp
theorem bor_zero {a b : Int} (h0 : 0 ≤ a) (h1 : a ≤ 63) (h2 : 0 ≤ b) (h3 : b ≤ 63) : bits .or .i64 a b = 0 ↔ a = 0 ∧ b = 0 := by
  have hs : (BitVec.ofInt 64 a ||| BitVec.ofInt 64 b).toNat < 2 ^ 6 := by rw [BitVec.toNat_or]; exact Nat.or_lt_two_pow (small64 a h0 h1) (small64 b h2 h3)
  show IntKind.i64.wrap (((BitVec.ofInt 64 a ||| BitVec.ofInt 64 b).toNat : Nat) : Int) = 0 ↔ a = 0 ∧ b = 0
  rw [wrap_zero hs]
  constructor
  · intro h
    have h' : BitVec.ofInt 64 a ||| BitVec.ofInt 64 b = 0#64 := by apply BitVec.eq_of_toNat_eq; simpa using h
    rw [BitVec.or_eq_zero_iff] at h'
    exact ⟨ofInt_inj h0 h1 (by omega) (by omega) h'.1, ofInt_inj h2 h3 (by omega) (by omega) h'.2⟩
  · rintro ⟨rfl, rfl⟩; simp
theorem orI_zero {f : Nat → Int} : ∀ {n : Nat}, (∀ i, i < n → 0 ≤ f i ∧ f i ≤ 63) → (orI f n = 0 ↔ ∀ i, i < n → f i = 0)
  | 0, _ => by simp [orI]
  | n + 1, h => by
    have h1 := orI_bd (n := n) fun i hi => h i (by omega)
    have h2 := h n (by omega)
    rw [orI, bor_zero h1.1 h1.2 h2.1 h2.2, orI_zero (n := n) fun i hi => h i (by omega)]
    constructor
    · rintro ⟨a, b⟩ i hi
      by_cases e : i = n
      · rw [e]; exact b
      · exact a i (by omega)
    · intro a; exact ⟨fun i hi => a i (by omega), a n (by omega)⟩

/-- All words of a list. -/
def W64 (xs : List Int) : Prop := ∀ i, 0 ≤ xs.getD i 0 ∧ xs.getD i 0 ≤ 63
theorem getD_get {xs : List Int} {i : Nat} (h : i < xs.length) : xs.getD i 0 = xs[i] := by
  rw [List.getD_eq_getElem?_getD, List.getElem?_eq_getElem h]; rfl
theorem tabTo_get (f : Int → Int → Int) {n i : Nat} (h : i < n) : (tabTo f n).getD i 0 = f ((i / 64 : Nat) : Int) ((i % 64 : Nat) : Int) := by
  rw [getD_get (by rw [tabTo_len]; exact h)]; simp [tabTo]
theorem list_ext_getD {xs ys : List Int} (hl : xs.length = ys.length) (h : ∀ i, i < xs.length → xs.getD i 0 = ys.getD i 0) : xs = ys := by
  apply List.ext_getElem hl
  intro i h1 h2
  have := h i h1
  rwa [getD_get h1, getD_get h2] at this

/-- least and greatest -/
def minI (f : Nat → Int) (m : Int) : Nat → Int
  | 0 => m
  | n + 1 => min (minI f m n) (f n)
def maxI (f : Nat → Int) (m : Int) : Nat → Int
  | 0 => m
  | n + 1 => max (maxI f m n) (f n)
theorem minI_le (f : Nat → Int) (m : Int) : ∀ n, minI f m n ≤ m ∧ ∀ i, i < n → minI f m n ≤ f i
  | 0 => ⟨Int.le_refl _, fun i hi => absurd hi (Nat.not_lt_zero _)⟩
  | n + 1 => by
    obtain ⟨h1, h2⟩ := minI_le f m n
    rw [minI]
    refine ⟨by omega, fun i hi => ?_⟩
    by_cases e : i = n
    · rw [e]; omega
    · have := h2 i (by omega); omega
theorem minI_is (f : Nat → Int) (m : Int) : ∀ n, minI f m n = m ∨ ∃ i, i < n ∧ minI f m n = f i
  | 0 => .inl rfl
  | n + 1 => by
    rw [minI]
    by_cases e : minI f m n ≤ f n
    · rw [Int.min_eq_left e]
      rcases minI_is f m n with h | ⟨i, hi, h⟩
      · exact .inl h
      · exact .inr ⟨i, by omega, h⟩
    · rw [Int.min_eq_right (by omega)]; exact .inr ⟨n, by omega, rfl⟩
theorem maxI_ge (f : Nat → Int) (m : Int) : ∀ n, m ≤ maxI f m n ∧ ∀ i, i < n → f i ≤ maxI f m n
  | 0 => ⟨Int.le_refl _, fun i hi => absurd hi (Nat.not_lt_zero _)⟩
  | n + 1 => by
    obtain ⟨h1, h2⟩ := maxI_ge f m n
    rw [maxI]
    refine ⟨by omega, fun i hi => ?_⟩
    by_cases e : i = n
    · rw [e]; omega
    · have := h2 i (by omega); omega
theorem maxI_is (f : Nat → Int) (m : Int) : ∀ n, maxI f m n = m ∨ ∃ i, i < n ∧ maxI f m n = f i
  | 0 => .inl rfl
  | n + 1 => by
    rw [maxI]
    by_cases e : f n ≤ maxI f m n
    · rw [Int.max_eq_left e]
      rcases maxI_is f m n with h | ⟨i, hi, h⟩
      · exact .inl h
      · exact .inr ⟨i, by omega, h⟩
    · rw [Int.max_eq_right (by omega)]; exact .inr ⟨n, by omega, rfl⟩
/-- Starting at a bound or at the first one is alike. -/
theorem minI_start {f : Nat → Int} {m : Int} {n : Nat} (hn : 0 < n) (h : ∀ i, i < n → f i ≤ m) : minI f m n = minI f (f 0) n := by
  have a := minI_le f m n
  have b := minI_le f (f 0) n
  have c : ∃ i, i < n ∧ minI f m n = f i := by
    rcases minI_is f m n with h1 | h1
    · have := a.2 0 hn; have := h 0 hn; exact ⟨0, hn, by omega⟩
    · exact h1
  have d : ∃ i, i < n ∧ minI f (f 0) n = f i := by
    rcases minI_is f (f 0) n with h1 | h1
    · exact ⟨0, hn, h1⟩
    · exact h1
  obtain ⟨i, hi, ei⟩ := c
  obtain ⟨j, hj, ej⟩ := d
  have := a.2 j hj; have := b.2 i hi; omega
theorem maxI_start {f : Nat → Int} {m : Int} {n : Nat} (hn : 0 < n) (h : ∀ i, i < n → m ≤ f i) : maxI f m n = maxI f (f 0) n := by
  have a := maxI_ge f m n
  have b := maxI_ge f (f 0) n
  have c : ∃ i, i < n ∧ maxI f m n = f i := by
    rcases maxI_is f m n with h1 | h1
    · have := a.2 0 hn; have := h 0 hn; exact ⟨0, hn, by omega⟩
    · exact h1
  have d : ∃ i, i < n ∧ maxI f (f 0) n = f i := by
    rcases maxI_is f (f 0) n with h1 | h1
    · exact ⟨0, hn, h1⟩
    · exact h1
  obtain ⟨i, hi, ei⟩ := c
  obtain ⟨j, hj, ej⟩ := d
  have := a.2 j hj; have := b.2 i hi; omega
end Go.Proofs.Ythjfedidpjfboaa
