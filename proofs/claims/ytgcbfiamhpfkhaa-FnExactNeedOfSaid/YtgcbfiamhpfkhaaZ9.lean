/- Texts of this proof, one behind the other: TE, GB, GC, WM, FF, FG. -/
import Derived.Test.YtgcbfiamhpfkhaaZ10
import Derived.Test.YtgcbfiamhpfkhaaZ15
import Derived.Test.YtgcbfiamhpfkhaaM
import Derived.Laws.CopyOwn
import Derived.WalkKit
import Derived.WalkSpells
import Derived.WalkLawsBesides
import Derived.Lib.Hide
import Derived.Deep.RegionLaw
import Derived.Test.YtgcbfiamhpfkhaaF
import Derived.Test.YtgcbfiamhpfkhaaJ
/- First places, counts, sums of bits, least and greatest ones over an index. No program. -/
namespace Go.Proofs.Ytgcbfiamhpfkhaa
open Go.RowKit
set_option linter.unusedVariables false

/-- The first index below n at which p holds, or -1. -/
def firstI (p : Nat → Bool) (n : Nat) : Int := match (List.range n).find? p with | some k => (k : Int) | none => -1
theorem firstI_none {p : Nat → Bool} {n : Nat} (h : ∀ i, i < n → p i = false) : firstI p n = -1 := by
  unfold firstI
  have : (List.range n).find? p = none := by
    rw [List.find?_eq_none]; intro x hx; rw [h x (by simpa using hx)]; simp
  rw [this]
theorem firstI_some {p : Nat → Bool} {n k : Nat} (hk : k < n) (hp : p k = true) (h : ∀ i, i < k → p i = false) : firstI p n = k := by
  unfold firstI
  have : (List.range n).find? p = some k := by
    rw [List.find?_range_eq_some]
    exact ⟨hp, by simpa using hk, fun j hj => by simp [h j hj]⟩
  rw [this]
theorem firstI_cases (p : Nat → Bool) (n : Nat) : (firstI p n = -1 ∧ ∀ i, i < n → p i = false) ∨ ∃ k : Nat, k < n ∧ firstI p n = k ∧ p k = true ∧ ∀ i, i < k → p i = false := by
  induction n with
  | zero => exact .inl ⟨rfl, fun i hi => absurd hi (Nat.not_lt_zero _)⟩
  | succ n ih =>
    rcases ih with ⟨_, h2⟩ | ⟨k, hk, _, hp, h2⟩
    · cases hn : p n
      · have h3 : ∀ i, i < n + 1 → p i = false := fun i hi => by
          by_cases e : i = n
          · rw [e]; exact hn
          · exact h2 i (by omega)
        exact .inl ⟨firstI_none h3, h3⟩
      · exact .inr ⟨n, by omega, firstI_some (by omega) hn h2, hn, h2⟩
    · exact .inr ⟨k, by omega, firstI_some (by omega) hp h2, hp, h2⟩
theorem firstI_ext {p q : Nat → Bool} {n : Nat} (h : ∀ i, i < n → p i = q i) : firstI p n = firstI q n := by
  rcases firstI_cases p n with ⟨h1, h2⟩ | ⟨k, hk, h1, hp, h2⟩
  · rw [h1, firstI_none fun i hi => by rw [← h i hi]; exact h2 i hi]
  · rw [h1, firstI_some hk (by rw [← h k hk]; exact hp) fun i hi => by rw [← h i (by omega)]; exact h2 i hi]
theorem firstI_neg {p : Nat → Bool} {n : Nat} : firstI p n < 0 ↔ ∀ i, i < n → p i = false := by
  rcases firstI_cases p n with ⟨h1, h2⟩ | ⟨k, hk, h1, hp, h2⟩
  · rw [h1]; exact ⟨fun _ => h2, fun _ => by decide⟩
  · rw [h1]; constructor
    · intro h; omega
    · intro h; rw [h k hk] at hp; cases hp
theorem firstI_bd (p : Nat → Bool) (n : Nat) : -1 ≤ firstI p n ∧ firstI p n < n := by
  rcases firstI_cases p n with ⟨h1, _⟩ | ⟨k, hk, h1, _, _⟩ <;> rw [h1] <;> omega

def countI (p : Nat → Bool) : Nat → Int
  | 0 => 0
  | n + 1 => countI p n + (if p n = true then 1 else 0)
theorem countI_bd (p : Nat → Bool) (n : Nat) : 0 ≤ countI p n ∧ countI p n ≤ n := by
  induction n with
  | zero => simp [countI]
  | succ n ih => rw [countI]; split <;> omega
theorem countI_ext {p q : Nat → Bool} : ∀ {n : Nat}, (∀ i, i < n → p i = q i) → countI p n = countI q n
  | 0, _ => rfl
  | n + 1, h => by rw [countI, countI, h n (by omega), countI_ext (n := n) (fun i hi => h i (by omega))]
theorem countI_yes {p : Nat → Bool} {n : Nat} (h : p n = true) : countI p (n + 1) = countI p n + 1 := by rw [countI, h]; rfl
theorem countI_no {p : Nat → Bool} {n : Nat} (h : p n = false) : countI p (n + 1) = countI p n := by rw [countI, h]; simp

def orI (f : Nat → Int) : Nat → Int
  | 0 => 0
  | n + 1 => bits .or .i64 (orI f n) (f n)
theorem orI_bd {f : Nat → Int} : ∀ {n : Nat}, (∀ i, i < n → 0 ≤ f i ∧ f i ≤ 63) → 0 ≤ orI f n ∧ orI f n ≤ 63
  | 0, _ => ⟨Int.le_refl _, by show (0 : Int) ≤ 63; omega⟩
  | n + 1, h => by
    have h1 := orI_bd (n := n) fun i hi => h i (by omega)
    have h2 := h n (by omega)
    exact bor_bd _ _ h1.1 h1.2 h2.1 h2.2
theorem orI_ext {f g : Nat → Int} : ∀ {n : Nat}, (∀ i, i < n → f i = g i) → orI f n = orI g n
  | 0, _ => rfl
  | n + 1, h => by rw [orI, orI, h n (by omega), orI_ext (n := n) (fun i hi => h i (by omega))]

theorem ofInt_inj {a b : Int} (h0 : 0 ≤ a) (h1 : a ≤ 63) (h2 : 0 ≤ b) (h3 : b ≤ 63) (h : BitVec.ofInt 64 a = BitVec.ofInt 64 b) : a = b := by
  have := congrArg BitVec.toNat h
  rw [BitVec.toNat_ofInt, BitVec.toNat_ofInt] at this
  omega
theorem wrap_zero {n : Nat} (h : n < 2 ^ 6) : IntKind.i64.wrap (n : Int) = 0 ↔ n = 0 := by rw [IntKind.wrap_i64]; omega
theorem bxor_zero {a b : Int} (h0 : 0 ≤ a) (h1 : a ≤ 63) (h2 : 0 ≤ b) (h3 : b ≤ 63) : bits .xor .i64 a b = 0 ↔ a = b := by
  have hs : (BitVec.ofInt 64 a ^^^ BitVec.ofInt 64 b).toNat < 2 ^ 6 := by rw [BitVec.toNat_xor]; exact Nat.xor_lt_two_pow (small64 a h0 h1) (small64 b h2 h3)
  show IntKind.i64.wrap (((BitVec.ofInt 64 a ^^^ BitVec.ofInt 64 b).toNat : Nat) : Int) = 0 ↔ a = b
  rw [wrap_zero hs]
  constructor
  · intro h
    have h' : BitVec.ofInt 64 a ^^^ BitVec.ofInt 64 b = 0#64 := by apply BitVec.eq_of_toNat_eq; simpa using h
    exact ofInt_inj h0 h1 h2 h3 (BitVec.xor_eq_zero_iff.1 h')
  · intro h; subst h; simp
theorem bor_zero {a b : Int} (h0 : 0 ≤ a) (h1 : a ≤ 63) (h2 : 0 ≤ b) (h3 : b ≤ 63) : bits .or .i64 a b = 0 ↔ a = 0 ∧ b = 0 := by
  have hs : (BitVec.ofInt 64 a ||| BitVec.ofInt 64 b).toNat < 2 ^ 6 := by rw [BitVec.toNat_or]; exact Nat.or_lt_two_pow (small64 a h0 h1) (small64 b h2 h3)
  show IntKind.i64.wrap (((BitVec.ofInt 64 a ||| BitVec.ofInt 64 b).toNat : Nat) : Int) = 0 ↔ a = 0 ∧ b = 0
  rw [wrap_zero hs]
  constructor
  · intro h
    have h' : BitVec.ofInt 64 a ||| BitVec.ofInt 64 b = 0#64 := by apply BitVec.eq_of_toNat_eq; simpa using h
    rw [BitVec.or_eq_zero_iff] at h'
    exact ⟨ofInt_inj h0 h1 (by omega) (by omega) h'.1, ofInt_inj h2 h3 (by omega) (by omega) h'.2⟩
  · rintro ⟨rfl, rfl⟩; simp
theorem orI_zero {f : Nat → Int} : ∀ {n : Nat}, (∀ i, i < n → 0 ≤ f i ∧ f i ≤ 63) → (orI f n = 0 ↔ ∀ i, i < n → f i = 0)
  | 0, _ => by simp [orI]
  | n + 1, h => by
    have h1 := orI_bd (n := n) fun i hi => h i (by omega)
    have h2 := h n (by omega)
    rw [orI, bor_zero h1.1 h1.2 h2.1 h2.2, orI_zero (n := n) fun i hi => h i (by omega)]
    constructor
    · rintro ⟨a, b⟩ i hi
      by_cases e : i = n
      · rw [e]; exact b
      · exact a i (by omega)
    · intro a; exact ⟨fun i hi => a i (by omega), a n (by omega)⟩

/-- All words of a list. -/
def W64 (xs : List Int) : Prop := ∀ i, 0 ≤ xs.getD i 0 ∧ xs.getD i 0 ≤ 63
theorem getD_get {xs : List Int} {i : Nat} (h : i < xs.length) : xs.getD i 0 = xs[i] := by
  rw [List.getD_eq_getElem?_getD, List.getElem?_eq_getElem h]; rfl
theorem tabTo_get (f : Int → Int → Int) {n i : Nat} (h : i < n) : (tabTo f n).getD i 0 = f ((i / 64 : Nat) : Int) ((i % 64 : Nat) : Int) := by
  rw [getD_get (by rw [tabTo_len]; exact h)]; simp [tabTo]
theorem list_ext_getD {xs ys : List Int} (hl : xs.length = ys.length) (h : ∀ i, i < xs.length → xs.getD i 0 = ys.getD i 0) : xs = ys := by
  apply List.ext_getElem hl
  intro i h1 h2
  have := h i h1
  rwa [getD_get h1, getD_get h2] at this

/-- least and greatest -/
def minI (f : Nat → Int) (m : Int) : Nat → Int
  | 0 => m
  | n + 1 => min (minI f m n) (f n)
def maxI (f : Nat → Int) (m : Int) : Nat → Int
  | 0 => m
  | n + 1 => max (maxI f m n) (f n)
theorem minI_le (f : Nat → Int) (m : Int) : ∀ n, minI f m n ≤ m ∧ ∀ i, i < n → minI f m n ≤ f i
  | 0 => ⟨Int.le_refl _, fun i hi => absurd hi (Nat.not_lt_zero _)⟩
  | n + 1 => by
    obtain ⟨h1, h2⟩ := minI_le f m n
    rw [minI]
    refine ⟨by omega, fun i hi => ?_⟩
    by_cases e : i = n
    · rw [e]; omega
    · have := h2 i (by omega); omega
theorem minI_is (f : Nat → Int) (m : Int) : ∀ n, minI f m n = m ∨ ∃ i, i < n ∧ minI f m n = f i
  | 0 => .inl rfl
  | n + 1 => by
    rw [minI]
    by_cases e : minI f m n ≤ f n
    · rw [Int.min_eq_left e]
      rcases minI_is f m n with h | ⟨i, hi, h⟩
      · exact .inl h
      · exact .inr ⟨i, by omega, h⟩
    · rw [Int.min_eq_right (by omega)]; exact .inr ⟨n, by omega, rfl⟩
theorem maxI_ge (f : Nat → Int) (m : Int) : ∀ n, m ≤ maxI f m n ∧ ∀ i, i < n → f i ≤ maxI f m n
  | 0 => ⟨Int.le_refl _, fun i hi => absurd hi (Nat.not_lt_zero _)⟩
  | n + 1 => by
    obtain ⟨h1, h2⟩ := maxI_ge f m n
    rw [maxI]
    refine ⟨by omega, fun i hi => ?_⟩
    by_cases e : i = n
    · rw [e]; omega
    · have := h2 i (by omega); omega
theorem maxI_is (f : Nat → Int) (m : Int) : ∀ n, maxI f m n = m ∨ ∃ i, i < n ∧ maxI f m n = f i
  | 0 => .inl rfl
  | n + 1 => by
    rw [maxI]
    by_cases e : f n ≤ maxI f m n
    · rw [Int.max_eq_left e]
      rcases maxI_is f m n with h | ⟨i, hi, h⟩
      · exact .inl h
      · exact .inr ⟨i, by omega, h⟩
    · rw [Int.max_eq_right (by omega)]; exact .inr ⟨n, by omega, rfl⟩
/-- Starting at a bound or at the first one is alike. -/
theorem minI_start {f : Nat → Int} {m : Int} {n : Nat} (hn : 0 < n) (h : ∀ i, i < n → f i ≤ m) : minI f m n = minI f (f 0) n := by
  have a := minI_le f m n
  have b := minI_le f (f 0) n
  have c : ∃ i, i < n ∧ minI f m n = f i := by
    rcases minI_is f m n with h1 | h1
    · have := a.2 0 hn; have := h 0 hn; exact ⟨0, hn, by omega⟩
    · exact h1
  have d : ∃ i, i < n ∧ minI f (f 0) n = f i := by
    rcases minI_is f (f 0) n with h1 | h1
    · exact ⟨0, hn, h1⟩
    · exact h1
  obtain ⟨i, hi, ei⟩ := c
  obtain ⟨j, hj, ej⟩ := d
  have := a.2 j hj; have := b.2 i hi; omega
theorem maxI_start {f : Nat → Int} {m : Int} {n : Nat} (hn : 0 < n) (h : ∀ i, i < n → m ≤ f i) : maxI f m n = maxI f (f 0) n := by
  have a := maxI_ge f m n
  have b := maxI_ge f (f 0) n
  have c : ∃ i, i < n ∧ maxI f m n = f i := by
    rcases maxI_is f m n with h1 | h1
    · have := a.2 0 hn; have := h 0 hn; exact ⟨0, hn, by omega⟩
    · exact h1
  have d : ∃ i, i < n ∧ maxI f (f 0) n = f i := by
    rcases maxI_is f (f 0) n with h1 | h1
    · exact ⟨0, hn, h1⟩
    · exact h1
  obtain ⟨i, hi, ei⟩ := c
  obtain ⟨j, hj, ej⟩ := d
  have := a.2 j hj; have := b.2 i hi; omega
end Go.Proofs.Ytgcbfiamhpfkhaa

/- slices.Repeat of one int; a cover in the making. -/
namespace Go.Proofs.Ytgcbfiamhpfkhaa
open Go.RowKit
set_option linter.unusedVariables false
set_option maxRecDepth 100000

set_option maxHeartbeats 4000000 in
theorem mul64_one (n : Nat) (h1 : 1 ≤ n) (hn : n ≤ 24) (w : World) :
    Calls Try.prog 188 #[.int .u64 1, .int .u64 (n : Int)] w fun e w' => e = .returned (.tuple #[.int .u64 0, .int .u64 (n : Int)]) ∧ w = w' := by
  have hc : n = 1 ∨ n = 2 ∨ n = 3 ∨ n = 4 ∨ n = 5 ∨ n = 6 ∨ n = 7 ∨ n = 8 ∨ n = 9 ∨ n = 10 ∨ n = 11 ∨ n = 12 ∨ n = 13 ∨ n = 14 ∨ n = 15 ∨ n = 16 ∨ n = 17 ∨ n = 18 ∨ n = 19 ∨ n = 20 ∨ n = 21 ∨ n = 22 ∨ n = 23 ∨ n = 24 := by omega
  rcases hc with rfl | rfl | rfl | rfl | rfl | rfl | rfl | rfl | rfl | rfl | rfl | rfl | rfl | rfl | rfl | rfl | rfl | rfl | rfl | rfl | rfl | rfl | rfl | rfl
  all_goals
    go_enter Try.func188, Try.ntmps188
    go_wp2
    go_ret2
    exact ⟨by kernel_rfl, rfl⟩
set_option maxHeartbeats 4000000 in
theorem mul_one' (n : Nat) (h1 : 1 ≤ n) (hn : n ≤ 24) (w : World) :
    Calls Try.prog 167 #[.int .u64 1, .int .u64 (n : Int)] w fun e w' => e = .returned (.tuple #[.int .u64 0, .int .u64 (n : Int)]) ∧ w = w' := by
  have h0 : (0 : Int) ≤ (n : Int) := by omega
  have h2 : (n : Int) ≤ 24 := by omega
  go_enter Try.func167, Try.ntmps167
  go_wp2_with (go_at_call 188; refine (mul64_one n h1 hn _).mono ?_; rintro e w' ⟨rfl, rfl⟩)
  go_ret2
  exact ⟨rfl, rfl⟩

/-- The first f of n are -1, the others 0. -/
def neg1 (f n : Nat) : List Int := List.replicate f (-1) ++ zeros (n - f)
theorem neg1_zero (n : Nat) : neg1 0 n = zeros n := by simp [neg1]
theorem neg1_all (n : Nat) : neg1 n n = List.replicate n (-1) := by simp [neg1, zeros]
theorem neg1_len {f n : Nat} (h : f ≤ n) : (neg1 f n).length = n := by simp [neg1, zeros]; omega
theorem neg1_splice {f m n : Nat} (h : f + m ≤ n) : Go.splice ((neg1 f n).map (Value.int .i64)) f (List.replicate m (Value.int .i64 (-1))) = (neg1 (f + m) n).map (Value.int .i64) := by
  unfold Go.splice neg1 zeros
  rw [List.length_replicate]
  apply List.ext_getElem
  · simp; omega
  · intro i h1 h2
    simp only [List.map_append, List.map_replicate, List.getElem_append, List.length_replicate, List.length_take, List.length_append, List.getElem_replicate, List.getElem_take, List.getElem_drop]
    split <;> split <;> (try split) <;> (try split) <;> first | rfl | omega
end Go.Proofs.Ytgcbfiamhpfkhaa

/- slices.Repeat of -1; a cover in the making. -/
namespace Go.Proofs.Ytgcbfiamhpfkhaa
open Go.RowKit
set_option linter.unusedVariables false
set_option maxRecDepth 100000

/-- A block of ints of the call's own. -/
def OwnB (w : World) (n : Nat) (xs : List Int) (e : Ending) (w' : World) : Prop :=
  ∃ g, e = .returned (.slice (some ⟨g, 0, none⟩) n n) ∧ w.heap.size ≤ g ∧ IB w' g 3 xs ∧ Below w.heap.size w w'
theorem ib_of {w : World} {g : Nat} {xs : List Int} (h : w.heap[g]? = some (.cells (xs.map (Value.int .i64)).toArray 3 (0, 0))) : IB w g 3 xs := h

set_option maxHeartbeats 8000000 in
theorem repeat_any (b cb n : Nat) (w : World) (h1 : 1 ≤ n) (hn : n ≤ 24) (hb : w.cell? ⟨b, 0, none⟩ = some (.int .i64 (-1))) (hbl : b < w.heap.size) :
    Calls Try.prog 136 #[.slice (some ⟨b, 0, none⟩) 1 cb, .int .i64 (n : Int)] w (OwnB w n (List.replicate n (-1))) := by
  obtain ⟨i0, hi0, hz0, hz1, hz2⟩ := info_parts Try.infoInt
  have hSZ : (Try.prog.info? 3).map (·.size) = some 1 := by rw [hi0]; simp [hz1]
  have hsz := Lib.hid hSZ
  clear hi0 hz0 hz1 hz2 hSZ
  have hM := Lib.hid (mul_one' n h1 hn w)
  have hmk := run_make_ints n (by omega)
  have h0 : (0 : Int) ≤ (n : Int) := by omega
  have h24 : (n : Int) ≤ 24 := by omega
  have hI0 : Hid (w.heap.size < (w.alloc (.cells (intCells (zeros n)) 3)).heap.size) := by unfold Hid; simp
  have hG0 : Hid ((w.alloc (.cells (intCells (zeros n)) 3)).heap[w.heap.size]? = some (.cells ((neg1 0 n).map (Value.int .i64)).toArray 3 (0, 0))) := by rw [neg1_zero]; exact heap_alloc_new w _
  have hbx := Lib.hid ((Below.refl w.heap.size w).alloc (Nat.le_refl _) (.cells (intCells (zeros n)) 3))
  have hsb := Lib.hid ((hbx.out.cell (p := ⟨b, 0, none⟩) hbl).trans hb)
  go_enter Try.func136, Try.ntmps136
  go_wp2_with (fail)
  refine hM.out.mono ?_
  rintro e w1 ⟨rfl, rfl⟩
  have hn1 : (([Value.int .i64 (-1)] : List Value)).length = Nat.min 1 n := by rw [show Nat.min 1 n = 1 from Nat.min_eq_left h1]; rfl
  have hN1 := Lib.hid hn1
  have hNL := Lib.hid (neg1_len (f := 0) (n := n) (by omega))
  clear hn1
  have hpos : ∀ j v, ([Value.int .i64 (-1)] : List Value)[j]? = some v → (w.alloc (.cells (intCells (zeros n)) 3)).cell? ((⟨b, 0, none⟩ : Addr).add j) = some v := by
    intro j v hj
    cases j with
    | zero => simp only [List.getElem?_cons_zero, Option.some.injEq] at hj; subst hj; exact hsb.out
    | succ j => simp at hj
  have hPos := Lib.hid hpos
  have hFit := Lib.hid (show 0 + ([Value.int .i64 (-1)] : List Value).length ≤ ((neg1 0 n).map (Value.int .i64)).length by rw [List.length_map, hNL.out]; simpa using h1)
  have hOne := Lib.hid (show ∀ v ∈ ([Value.int .i64 (-1)] : List Value), v.oneCell' = true from fun v hv => by simp at hv; subst hv; rfl)
  clear hpos hNL
  go_wp2_with ((with_reducible refine wpList_copy_splice rfl (.tmp 31) (.tmp 32) 23 23 rfl 3 Try.underlying23 hsz.out (some ⟨w.heap.size, 0, none⟩) (some ⟨b, 0, none⟩) n n 1 cb rfl rfl w.heap.size 0 ((neg1 0 n).map (Value.int .i64)) 3 hG0.out [Value.int .i64 (-1)] hN1.out (fun _ => ⟨rfl, ⟨b, 0, none⟩, rfl, hPos.out⟩) hFit.out hOne.out w.heap.size w hbx.out (Nat.le_refl _) ?_); intro w1 hw1 hbel1)
  have hF1 : Hid (IB w1 w.heap.size 3 (neg1 1 n)) := by
    have h := hw1.out
    rw [show ([Value.int .i64 (-1)] : List Value) = List.replicate 1 (Value.int .i64 (-1)) from rfl, neg1_splice (by omega)] at h
    exact ib_of h
  have hB1 := Lib.hid hbel1
  clear hw1 hbel1 hmk
  generalize hgg : w.heap.size = g at *
  have hgg2 := Lib.hid hgg
  clear hgg
  go_wp2_with (fail)
  go_loopw [8] (fun q wr => ∃ f : Nat, 1 ≤ f ∧ f ≤ n ∧ q = .int .i64 f ∧ IB wr g 3 (neg1 f n) ∧ Below g w wr) (fun q _ => n - (intOf q).toNat)
  case atStart => exact ⟨1, Nat.le_refl _, h1, rfl, hF1.out, hB1.out⟩
  case round =>
    obtain ⟨f, hf1, hfn, rfl, hib, hbel⟩ := hrel
    have hIB := Lib.hid hib
    have hBL := Lib.hid hbel
    clear hib hbel
    by_cases hlt : f < n
    · have hfi : (f : Int) < (n : Int) := by omega
      have hf0 : (0 : Int) ≤ (f : Int) := by omega
      have hfle : (f : Int) ≤ (n : Int) := by omega
      have hne : ¬ f = n := by omega
      have hne' : ¬ n = f := by omega
      obtain ⟨m, hm⟩ : ∃ m, m = Nat.min f (n - f) := ⟨_, rfl⟩
      have hmf : m ≤ f := by rw [hm]; exact Nat.min_le_left _ _
      have hmn : f + m ≤ n := by have : m ≤ n - f := by rw [hm]; exact Nat.min_le_right _ _
                                 omega
      have hm1 : 1 ≤ m := by rw [hm]; exact Nat.le_min.2 ⟨hf1, by omega⟩
      have hRow : Hid (wr.drew.heap[g]? = some (.cells ((neg1 f n).map (Value.int .i64)).toArray 3 (0, 0))) := hIB.out
      have hBd := Lib.hid hBL.out.drew
      have hCells := hIB.out.cell
      have hPos := Lib.hid (show ∀ j v, (List.replicate m (Value.int .i64 (-1)))[j]? = some v → wr.drew.cell? ((⟨g, 0, none⟩ : Addr).add j) = some v from by
        intro j v hj
        rw [List.getElem?_replicate] at hj
        split at hj
        · rename_i hjm
          injection hj with hj; subst hj
          have hx := hCells j (by rw [neg1_len hfn]; omega)
          have hy : (neg1 f n)[j]'(by rw [neg1_len hfn]; omega) = -1 := by
            unfold neg1
            rw [List.getElem_append_left (by simp; omega), List.getElem_replicate]
          rw [hy] at hx
          unfold Addr.add; split
          · rename_i h0; subst h0; exact hx
          · simpa using hx
        · cases hj)
      have hLm := Lib.hid (show (List.replicate m (Value.int .i64 (-1))).length = Nat.min f (n - f) by rw [List.length_replicate]; exact hm)
      have hFit := Lib.hid (show f + (List.replicate m (Value.int .i64 (-1))).length ≤ ((neg1 f n).map (Value.int .i64)).length by rw [List.length_replicate, List.length_map, neg1_len hfn]; exact hmn)
      have hOne := Lib.hid (show ∀ v ∈ List.replicate m (Value.int .i64 (-1)), v.oneCell' = true from fun v hv => by rw [List.eq_of_mem_replicate hv]; rfl)
      have hwf := Lib.hid (show IntKind.i64.wrap ((f : Int) + (m : Int)) = ((f + m : Nat) : Int) by rw [IntKind.wrap_i64]; omega)
      have hGe := Lib.hid (Nat.le_refl g)
      have hSp := Lib.hid (neg1_splice hmn)
      have hLr := Lib.hid (show (List.replicate m (Value.int .i64 (-1))).length = m from List.length_replicate)
      clear hCells hm
      generalize hcs : List.replicate m (Value.int .i64 (-1)) = cs at *
      have hcs2 := Lib.hid hcs
      clear hcs
      generalize hrow : (neg1 f n).map (Value.int .i64) = cur at *
      have hrow2 := Lib.hid hrow
      clear hrow
      go_wp2_with (fail)
      go_region_law (refine step_copy_splice rfl (.tmp 41) (.tmp 44) 23 23 rfl 3 Try.underlying23 hsz.out (some ⟨g, f, none⟩) (some ⟨g, 0, none⟩) (n - f) (n - f) f n (by simp [Act.eval, Act.put]) (by simp [Act.eval, Act.put]) g f cur 3 hRow.out cs hLm.out (fun _ => ⟨rfl, ⟨g, 0, none⟩, rfl, hPos.out⟩) hFit.out hOne.out g w hBd.out hGe.out ?_; intro w4 hg4 hb4)
      all_goals
        have hI4 : Hid (IB w4 g 3 (neg1 (f + m) n)) := by
          have h := hg4.out
          rw [hSp.out] at h
          exact ib_of h
        have hB4 := Lib.hid hb4
        clear hg4 hb4
        have hLr2 := hLr.out
        go_simp
        go_wp2
        go_roundw
        case rel => exact ⟨f + m, by omega, by omega, by rw [hwf.out], hI4.out, hB4.out⟩
        case measure => rw [hwf.out]; simp [intOf]; omega
    · obtain rfl : f = n := by omega
      go_wp2
      go_ret
      exact ⟨g, rfl, by rw [hgg2.out]; exact Nat.le_refl _, by rw [← neg1_all]; exact hIB.out, by rw [hgg2.out]; exact hBL.out⟩
end Go.Proofs.Ytgcbfiamhpfkhaa

/- What a node needs, and nodes moved to new places. No program. -/
namespace Go.Proofs.Ytgcbfiamhpfkhaa
open Go.RowKit
set_option linter.unusedVariables false

def setAll (ps : List Int) (b : List Bool) : List Bool := ps.foldl (fun b p => b.set p.toNat true) b
theorem setAll_len (ps : List Int) : ∀ b, (setAll ps b).length = b.length := by
  induction ps with
  | nil => intro b; rfl
  | cons a l ih => intro b; show (setAll l (b.set a.toNat true)).length = _; rw [ih, List.length_set]
theorem setAll_snoc (ps : List Int) (p : Int) (b : List Bool) : setAll (ps ++ [p]) b = (setAll ps b).set p.toNat true := by simp [setAll, List.foldl_append]
theorem getD_set_ne {b : List Bool} {i k : Nat} (x : Bool) (h : k ≠ i) : (b.set k x).getD i false = b.getD i false := by
  rw [List.getD_eq_getElem?_getD, List.getD_eq_getElem?_getD, List.getElem?_set_ne h]
theorem setAll_get {i : Nat} (ps : List Int) : ∀ b, (∀ p ∈ ps, p.toNat ≠ i) → (setAll ps b).getD i false = b.getD i false := by
  induction ps with
  | nil => intro b _; rfl
  | cons a l ih =>
    intro b h
    show (setAll l (b.set a.toNat true)).getD i false = _
    rw [ih _ (fun p hp => h p (by simp [hp])), getD_set_ne _ (h a (by simp))]
/-- Behind j parts of the node i. -/
def nstep (n : Nd) (i : Nat) (b : List Bool) (j : Nat) : List Bool := if b.getD i false = true then setAll ((parts n).take j) b else b
theorem nstep_len (n : Nd) (i : Nat) (b : List Bool) (j : Nat) : (nstep n i b j).length = b.length := by
  unfold nstep; split
  · exact setAll_len _ _
  · rfl
theorem nstep_zero (n : Nd) (i : Nat) (b : List Bool) : nstep n i b 0 = b := by unfold nstep; split <;> rfl
theorem nstep_self {n : Nd} {i : Nat} (b : List Bool) (j : Nat) (h : ∀ p ∈ parts n, 0 ≤ p ∧ p ≤ (i : Int) - 1) : (nstep n i b j).getD i false = b.getD i false := by
  unfold nstep; split
  · exact setAll_get _ _ (fun p hp => by have := h p (List.mem_of_mem_take hp); omega)
  · rfl
theorem nstep_succ {n : Nd} {i : Nat} {b : List Bool} {j : Nat} (hj : j < (parts n).length) (h : ∀ p ∈ parts n, 0 ≤ p ∧ p ≤ (i : Int) - 1) :
    (nstep n i b j).set ((parts n)[j]).toNat ((nstep n i b j).getD ((parts n)[j]).toNat false || b.getD i false) = nstep n i b (j + 1) := by
  unfold nstep
  by_cases hb : b.getD i false = true
  · rw [if_pos hb, if_pos hb, hb, Bool.or_true, List.take_succ_eq_append_getElem hj, setAll_snoc]
  · rw [if_neg hb, if_neg hb]
    have hb' : b.getD i false = false := by simpa using hb
    rw [hb', Bool.or_false]
    apply List.ext_getElem?
    intro q
    rw [List.getElem?_set]
    split
    · rename_i hq; subst hq
      split
      · rename_i hlt; rw [List.getD_eq_getElem?_getD, List.getElem?_eq_getElem hlt]; rfl
      · rename_i hge; rw [List.getElem?_eq_none (by omega)]
    · rfl
def nfull (n : Nd) (i : Nat) (b : List Bool) : List Bool := nstep n i b (parts n).length
def needFrom (es : List Nd) (root : Nat) : Nat → List Bool
  | 0 => (List.replicate (root + 1) false).set root true
  | k + 1 => nfull (es.getD (root - k) zeroNd) (root - k) (needFrom es root k)
theorem needFrom_len (es : List Nd) (root : Nat) : ∀ k, (needFrom es root k).length = root + 1 := by
  intro k
  induction k with
  | zero => simp [needFrom]
  | succ k ih => rw [needFrom, nfull, nstep_len, ih]
/-- What is needed when the nodes from q on have been seen. -/
def needTo (es : List Nd) (root q : Nat) : List Bool := needFrom es root (root + 1 - q)
def need (es : List Nd) (root : Nat) : List Bool := needTo es root 0
theorem needTo_len (es : List Nd) (root q : Nat) : (needTo es root q).length = root + 1 := needFrom_len _ _ _
theorem needTo_start (es : List Nd) (root : Nat) : needTo es root (root + 1) = (List.replicate (root + 1) false).set root true := by
  unfold needTo; rw [Nat.sub_self]; rfl
theorem needTo_step {es : List Nd} {root m : Nat} (hm : m ≤ root) (hr : root < es.length) : needTo es root m = nfull (es[m]'(by omega)) m (needTo es root (m + 1)) := by
  unfold needTo
  rw [show root + 1 - m = (root + 1 - (m + 1)) + 1 by omega, needFrom, show root - (root + 1 - (m + 1)) = m by omega, List.getD_eq_getElem?_getD, List.getElem?_eq_getElem (by omega)]
  rfl

/-- A node whose operands have new places. -/
def moved (n : Nd) (ps : List Int) : Nd := ⟨n.op, if 0 < ar n.op then ps.getD n.a.toNat 0 else 0, if 1 < ar n.op then ps.getD n.b.toNat 0 else 0, n.v⟩
def kp (es : List Nd) (nb : List Bool) (m : Nat) : Nat → List Int × List Nd
  | 0 => (zeros m, [])
  | k + 1 => if nb.getD k false = true then (((kp es nb m k).1).set k ((kp es nb m k).2.length : Int), (kp es nb m k).2 ++ [moved (es.getD k zeroNd) (kp es nb m k).1]) else kp es nb m k
def pl (es : List Nd) (nb : List Bool) (m k : Nat) : List Int := (kp es nb m k).1
def ke (es : List Nd) (nb : List Bool) (m k : Nat) : List Nd := (kp es nb m k).2
theorem pl_len (es : List Nd) (nb : List Bool) (m : Nat) : ∀ k, (pl es nb m k).length = m := by
  intro k
  induction k with
  | zero => simp [pl, kp, zeros]
  | succ k ih =>
    unfold pl kp; split
    · rw [List.length_set]; exact ih
    · exact ih
theorem ke_len (es : List Nd) (nb : List Bool) (m : Nat) : ∀ k, (ke es nb m k).length ≤ k := by
  intro k
  induction k with
  | zero => simp [ke, kp]
  | succ k ih =>
    unfold ke kp; split
    · rw [List.length_append]; simp only [List.length_cons, List.length_nil]; unfold ke at ih; omega
    · unfold ke at ih; omega
theorem kp_yes {es : List Nd} {nb : List Bool} {m k : Nat} (hk : k < es.length) (h : nb.getD k false = true) :
    pl es nb m (k + 1) = (pl es nb m k).set k ((ke es nb m k).length : Int) ∧ ke es nb m (k + 1) = ke es nb m k ++ [moved es[k] (pl es nb m k)] := by
  unfold pl ke
  rw [kp, if_pos h, List.getD_eq_getElem?_getD, List.getElem?_eq_getElem hk]
  exact ⟨rfl, rfl⟩
theorem kp_no {es : List Nd} {nb : List Bool} {m k : Nat} (h : nb.getD k false = false) : pl es nb m (k + 1) = pl es nb m k ∧ ke es nb m (k + 1) = ke es nb m k := by
  unfold pl ke
  rw [kp, if_neg (by rw [h]; decide)]
  exact ⟨rfl, rfl⟩
def keepL (es : List Nd) (root : Nat) : List Nd := ke es (need es root) (root + 1) (root + 1)
theorem getD_set_lt {ps : List Int} {i k : Nat} (x : Int) (h : i < k) : (ps.set k x).getD i 0 = ps.getD i 0 := by
  rw [List.getD_eq_getElem?_getD, List.getD_eq_getElem?_getD, List.getElem?_set_ne (by omega)]
theorem ar_cases_nd {n : Nd} {i : Int} (h : isNode n i = true) : (ar n.op = 0 ∧ isOne n.op = false ∧ isTwo n.op = false ∧ n.a = 0 ∧ n.b = 0) ∨ (ar n.op = 1 ∧ isOne n.op = true ∧ isTwo n.op = false ∧ 0 ≤ n.a ∧ n.a < i ∧ n.b = 0) ∨ (ar n.op = 2 ∧ isOne n.op = false ∧ isTwo n.op = true ∧ 0 ≤ n.a ∧ n.a < i ∧ 0 ≤ n.b ∧ n.b < i) := by
  unfold isNode at h
  unfold ar
  by_cases h1 : isIn n.op = true
  · rw [if_pos h1] at h
    simp only [Bool.and_eq_true, beq_iff_eq] at h
    have hx : n.op.toList = [105,110] := by simpa [isIn] using h1
    left; refine ⟨by simp [h1], ?_, ?_, h.1.1, h.1.2⟩ <;> simp [isOne, isTwo, twoOps, hx]
  · rw [if_neg h1] at h
    by_cases h2 : isConst n.op = true
    · rw [if_pos h2] at h
      simp only [Bool.and_eq_true, beq_iff_eq] at h
      have hx : n.op.toList = [99,111,110,115,116] := by simpa [isConst] using h2
      left; refine ⟨by simp [h2], ?_, ?_, h.1.1, h.1.2⟩ <;> simp [isOne, isTwo, twoOps, hx]
    · rw [if_neg h2] at h
      by_cases h3 : isOne n.op = true
      · rw [if_pos h3] at h
        simp only [Bool.and_eq_true, beq_iff_eq] at h
        have h4 := (inR_iff _ _ _).1 h.1.1
        have h5 : isTwo n.op = false := by
          cases h6 : isTwo n.op
          · rfl
          · have := two_not_one _ h6; rw [this] at h3; cases h3
        right; left; exact ⟨by simp [h1, h2, h3], h3, h5, h4.1, by omega, h.1.2⟩
      · rw [if_neg h3] at h
        simp only [Bool.and_eq_true, beq_iff_eq] at h
        have h4 := (inR_iff _ _ _).1 h.1.1.2
        have h5 := (inR_iff _ _ _).1 h.1.2
        right; right; exact ⟨by simp [h1, h2, h3, h.1.1.1], by simpa using h3, h.1.1.1, h4.1, by omega, h5.1, by omega⟩
theorem moved_set {n : Nd} {k : Nat} (h : isNode n k = true) (ps : List Int) (x : Int) : moved n (ps.set k x) = moved n ps := by
  unfold moved
  rcases ar_cases_nd h with ⟨h1, _, _, _, _⟩ | ⟨h1, _, _, h2, h3, _⟩ | ⟨h1, _, _, h2, h3, h4, h5⟩
  · simp [h1]
  · simp only [h1]; rw [getD_set_lt _ (by omega)]; simp
  · simp only [h1]; rw [getD_set_lt _ (by omega), getD_set_lt _ (by omega)]
end Go.Proofs.Ytgcbfiamhpfkhaa

/- Counts of covers, plain. -/
namespace Go.Proofs.Ytgcbfiamhpfkhaa
open Go.RowKit
set_option linter.unusedVariables false

theorem isOne_parts {n : Nd} (h : isOne n.op = true) : parts n = [n.a] := by simp [parts, h]
theorem mt_ps {es : List Nd} (hok : okFrom es 0 = true) {k : Nat} (hk : k < es.length) {n : Nat} {x : Ti} (h : mt es es[k] n = some x) : ∀ p ∈ x.ps, 0 ≤ p ∧ p < (k : Int) := by
  have hn := ok_get hok hk
  match n with
  | 0 | 1 =>
    simp only [mt] at h
    split at h
    · injection h with h; subst h; intro p hp; simp at hp
    · cases h
  | 2 =>
    simp only [mt] at h
    split at h
    · rename_i ho
      injection h with h; subst h; intro p hp
      have := isNode_parts hn p (by rw [isOne_parts ho]; exact hp)
      omega
    · cases h
  | 3 =>
    simp only [mt] at h
    split at h
    · rename_i ho
      injection h with h; subst h; intro p hp
      have := two_bd hn ho
      simp at hp
      rcases hp with rfl | rfl <;> omega
    · cases h
  | m + 4 =>
    simp only [mt] at h
    rw [Option.bind_eq_some_iff] at h
    obtain ⟨f, hf, h⟩ := h
    have hfm : f ∈ fos := List.mem_of_getElem? hf
    unfold foO at h
    split at h
    · rename_i ho
      injection h with h; subst h
      unfold foOk at ho
      rw [Bool.and_eq_true] at ho
      have h2 := two_bd hn (two_of_has hfm ho.1)
      have hP : 0 ≤ fPart f es[k] ∧ fPart f es[k] < (k : Int) := by unfold fPart; split <;> omega
      have hT : 0 ≤ fTaken f es[k] ∧ fTaken f es[k] < (k : Int) := by unfold fTaken; split <;> omega
      intro p hp
      unfold foTi at hp
      cases hb : noBtw f
      · rw [if_neg (by rw [hb]; decide)] at hp
        rw [if_neg (by rw [hb]; decide), Bool.and_eq_true] at ho
        obtain ⟨j, hj⟩ := Int.eq_ofNat_of_zero_le hT.1
        have hjk : j < es.length := by omega
        rw [hj, nodeAt_nat hjk] at hp ho
        have hb2 : isTwo es[j].op = true := by
          have e : es[j].op.toList = f.btw.toList := by simpa using ho.2.1
          have := two_of_btw hfm hb
          unfold isTwo at this ⊢; rw [e]; exact this
        have h3 := two_bd (ok_get hok hjk) hb2
        simp at hp
        rcases hp with rfl | rfl
        · exact hP
        · omega
      · rw [if_pos (by rw [hb])] at hp
        simp at hp; subst hp; exact hP
    · cases h
/-- The tiles of a node by their places: their numbers, and what they are. -/
theorem tilesL_at {es : List Nd} (nd : Nd) {j : Nat} (hj : j < (tilesL es nd).length) : ∃ n : Nat, n < 13 ∧ (tilesL es nd)[j].num = (n : Int) ∧ mt es nd n = some (tilesL es nd)[j] := by
  have hm : (tilesL es nd)[j] ∈ tilesL es nd := List.getElem_mem hj
  have hm2 := hm
  unfold tilesL at hm2
  rw [List.mem_filterMap] at hm2
  obtain ⟨n, hn, hx⟩ := hm2
  have hx' : mt es nd n = some (tilesL es nd)[j] := hx
  exact ⟨n, List.mem_range.1 hn, mt_num hx', hx'⟩

def wyTo (cs ps : List Int) (k : Nat) : Int := (ps.take k).foldl (fun c p => wrap64 (c * cs.getD p.toNat 0)) 1
theorem wyTo_zero (cs ps : List Int) : wyTo cs ps 0 = 1 := rfl
theorem wyTo_succ (cs : List Int) {ps : List Int} {k : Nat} (h : k < ps.length) : wyTo cs ps (k + 1) = wrap64 (wyTo cs ps k * cs.getD ps[k].toNat 0) := by
  unfold wyTo; rw [List.take_succ_eq_append_getElem h, List.foldl_append]; rfl
def cnStep (i : Nat) (c : List Int) (x : Ti) : List Int := c.set i (wrap64 (c.getD i 0 + wyTo c x.ps x.ps.length))
def cnTo (i : Nat) (cs : List Int) (ts : List Ti) (j : Nat) : List Int := (ts.take j).foldl (cnStep i) cs
theorem cnTo_zero (i : Nat) (cs : List Int) (ts : List Ti) : cnTo i cs ts 0 = cs := rfl
theorem cnTo_succ (i : Nat) (cs : List Int) {ts : List Ti} {j : Nat} (h : j < ts.length) : cnTo i cs ts (j + 1) = cnStep i (cnTo i cs ts j) ts[j] := by
  unfold cnTo; rw [List.take_succ_eq_append_getElem h, List.foldl_append]; rfl
theorem cnTo_len (i : Nat) (cs : List Int) (ts : List Ti) : ∀ j, (cnTo i cs ts j).length = cs.length := by
  intro j
  unfold cnTo
  generalize ts.take j = l
  induction l generalizing cs with
  | nil => rfl
  | cons x l ih => rw [List.foldl_cons, ih]; simp [cnStep]
def ccTo (es : List Nd) (k : Nat) : List Int := (List.range k).foldl (fun c i => cnTo i c (tilesL es (nodeAt es (i : Int))) (tilesL es (nodeAt es (i : Int))).length) (zeros es.length)
theorem ccTo_zero (es : List Nd) : ccTo es 0 = zeros es.length := rfl
theorem ccTo_succ (es : List Nd) {k : Nat} (h : k < es.length) : ccTo es (k + 1) = cnTo k (ccTo es k) (tilesL es es[k]) (tilesL es es[k]).length := by
  unfold ccTo; rw [List.range_succ, List.foldl_append]; simp only [List.foldl_cons, List.foldl_nil]; rw [nodeAt_nat h]
theorem ccTo_len (es : List Nd) : ∀ k, (ccTo es k).length = es.length
  | 0 => by rw [ccTo_zero]; simp [zeros]
  | k + 1 => by
    unfold ccTo
    rw [List.range_succ, List.foldl_append]
    simp only [List.foldl_cons, List.foldl_nil]
    rw [cnTo_len]; exact ccTo_len es k
/-- The tiles of the node at a place. -/
def tsN (es : List Nd) (k : Nat) : List Ti := tilesL es (nodeAt es (k : Int))
theorem tsN_eq {es : List Nd} {k : Nat} (h : k < es.length) : tsN es k = tilesL es es[k] := by unfold tsN; rw [nodeAt_nat h]
theorem ccTo_next (es : List Nd) (k : Nat) : ccTo es (k + 1) = cnTo k (ccTo es k) (tsN es k) (tsN es k).length := by
  unfold ccTo tsN; rw [List.range_succ, List.foldl_append]; rfl
theorem tsN_ps {es : List Nd} (hok : okFrom es 0 = true) {k : Nat} (hk : k < es.length) : ∀ x ∈ tsN es k, ∀ p ∈ x.ps, 0 ≤ p ∧ p < (k : Int) := by
  intro x hx
  rw [tsN_eq hk] at hx
  obtain ⟨j, hj, rfl⟩ := List.getElem_of_mem hx
  obtain ⟨n, _, _, hm⟩ := tilesL_at (es := es) es[k] hj
  exact mt_ps hok hk hm
theorem tsN_ps2 {es : List Nd} {k : Nat} : ∀ x ∈ tsN es k, x.ps.length ≤ 2 := by
  intro x hx
  obtain ⟨j, hj, rfl⟩ := List.getElem_of_mem hx
  obtain ⟨n, _, _, hm⟩ := tilesL_at (es := es) (nodeAt es (k : Int)) hj
  exact (mt_len hm).1
def ccR (es : List Nd) : Int := if treeR es = true then (ccTo es es.length).getD (es.length - 1) 0 else 0
end Go.Proofs.Ytgcbfiamhpfkhaa

/- CountCovers of the program. -/
namespace Go.Proofs.Ytgcbfiamhpfkhaa
open Go.RowKit
set_option linter.unusedVariables false
set_option maxRecDepth 100000

theorem RtOk.chg {w w' : World} {L B lo hi : Nat} {r : Rt} {t : Ti} (h : RtOk w L B r t) (hc : Chg lo hi w w') (hd : B ≤ lo ∨ hi ≤ L) : RtOk w' L B r t := ⟨h.1, h.2.1, h.2.2.1.chg hc hd, h.2.2.2.chg hc hd⟩
theorem getD_set_eq {xs : List Int} {i : Nat} (h : i < xs.length) (x : Int) : (xs.set i x).getD i 0 = x := by
  rw [List.getD_eq_getElem?_getD, List.getElem?_set_self h]; rfl

end Go.Proofs.Ytgcbfiamhpfkhaa
