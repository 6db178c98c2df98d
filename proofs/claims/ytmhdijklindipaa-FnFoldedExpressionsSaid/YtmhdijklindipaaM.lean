import Derived.WalkKit
import Derived.Lib.Hide
/- The plain model: nodes, ops, and what both sides compute. No program. -/
namespace Go.Proofs.Ytmhdijklindipaa
open Go.RowKit

theorem ret_int {k : IntKind} {a b : Int} (h : a = b) : Ending.returned (.int k a) = .returned (.int k b) := by rw [h]
theorem ret_bool {a b : Bool} (h : a = b) : Ending.returned (.bool a) = .returned (.bool b) := by rw [h]

structure Nd where
  op : ByteArray
  a : Int
  b : Int
  v : Int

def Nd.val (n : Nd) : Value := .agg #[.string n.op, .int .i64 n.a, .int .i64 n.b, .int .i64 n.v]
def Nd.cells (n : Nd) : List Value := [.string n.op, .int .i64 n.a, .int .i64 n.b, .int .i64 n.v]

/-- The ops with two operands, as bytes. -/
def twoOps : List (List UInt8) := [[97,100,100],[115,117,98],[109,117,108],[97,110,100],[111,114],[120,111,114],[115,104,108],[115,104,114],[108,101,115,115],[101,113]]
def isIn (s : ByteArray) : Bool := s.toList == [105,110]
def isConst (s : ByteArray) : Bool := s.toList == [99,111,110,115,116]
def isOne (s : ByteArray) : Bool := s.toList == [110,111,116] || s.toList == [110,101,103]
def isTwo (s : ByteArray) : Bool := twoOps.any fun t => t == s.toList

/-- How many operands; -1 for other texts. -/
def ar (s : ByteArray) : Int := if isIn s || isConst s then 0 else if isOne s then 1 else if isTwo s then 2 else -1

theorem op_cases (s : ByteArray) : s.toList = [105,110] ∨ s.toList = [99,111,110,115,116] ∨ s.toList = [110,111,116] ∨ s.toList = [110,101,103] ∨ s.toList = [97,100,100] ∨ s.toList = [115,117,98] ∨
    s.toList = [109,117,108] ∨ s.toList = [97,110,100] ∨ s.toList = [111,114] ∨ s.toList = [120,111,114] ∨ s.toList = [115,104,108] ∨ s.toList = [115,104,114] ∨ s.toList = [108,101,115,115] ∨ s.toList = [101,113] ∨
    ((s.toList == [105,110]) = false ∧ (s.toList == [99,111,110,115,116]) = false ∧ (s.toList == [110,111,116]) = false ∧ (s.toList == [110,101,103]) = false ∧ (s.toList == [97,100,100]) = false ∧ (s.toList == [115,117,98]) = false ∧ (s.toList == [109,117,108]) = false ∧ (s.toList == [97,110,100]) = false ∧ (s.toList == [111,114]) = false ∧ (s.toList == [120,111,114]) = false ∧ (s.toList == [115,104,108]) = false ∧ (s.toList == [115,104,114]) = false ∧ (s.toList == [108,101,115,115]) = false ∧ (s.toList == [101,113]) = false) := by
  by_cases h1 : s.toList = [105,110]; · exact .inl h1
  by_cases h2 : s.toList = [99,111,110,115,116]; · exact .inr (.inl h2)
  by_cases h3 : s.toList = [110,111,116]; · simp [h3]
  by_cases h4 : s.toList = [110,101,103]; · simp [h4]
  by_cases h5 : s.toList = [97,100,100]; · simp [h5]
  by_cases h6 : s.toList = [115,117,98]; · simp [h6]
  by_cases h7 : s.toList = [109,117,108]; · simp [h7]
  by_cases h8 : s.toList = [97,110,100]; · simp [h8]
  by_cases h9 : s.toList = [111,114]; · simp [h9]
  by_cases h10 : s.toList = [120,111,114]; · simp [h10]
  by_cases h11 : s.toList = [115,104,108]; · simp [h11]
  by_cases h12 : s.toList = [115,104,114]; · simp [h12]
  by_cases h13 : s.toList = [108,101,115,115]; · simp [h13]
  by_cases h14 : s.toList = [101,113]; · simp [h14]
  simp [*]

/-- The value of an op for words. -/
def ap (s : ByteArray) (a b : Int) : Int :=
  if s.toList = [110,111,116] then 63 - a else if s.toList = [110,101,103] then (-a) % 64 else
  if s.toList = [97,100,100] then (a + b) % 64 else if s.toList = [115,117,98] then (a - b) % 64 else
  if s.toList = [109,117,108] then (a * b) % 64 else if s.toList = [97,110,100] then bits .and .i64 a b else
  if s.toList = [111,114] then bits .or .i64 a b else if s.toList = [120,111,114] then bits .xor .i64 a b else
  if s.toList = [115,104,108] then (a * 2 ^ b.toNat) % 64 else if s.toList = [115,104,114] then a / 2 ^ b.toNat else
  if s.toList = [108,101,115,115] then (if a < b then 1 else 0) else (if a = b then 1 else 0)

theorem ap_not {s : ByteArray} (h : s.toList = [110,111,116]) (a b : Int) : ap s a b = 63 - a := by simp [ap, h]
theorem ap_neg {s : ByteArray} (h : s.toList = [110,101,103]) (a b : Int) : ap s a b = (-a) % 64 := by simp [ap, h]
theorem ap_add {s : ByteArray} (h : s.toList = [97,100,100]) (a b : Int) : ap s a b = (a + b) % 64 := by simp [ap, h]
theorem ap_sub {s : ByteArray} (h : s.toList = [115,117,98]) (a b : Int) : ap s a b = (a - b) % 64 := by simp [ap, h]
theorem ap_mul {s : ByteArray} (h : s.toList = [109,117,108]) (a b : Int) : ap s a b = (a * b) % 64 := by simp [ap, h]
theorem ap_and {s : ByteArray} (h : s.toList = [97,110,100]) (a b : Int) : ap s a b = bits .and .i64 a b := by simp [ap, h]
theorem ap_or {s : ByteArray} (h : s.toList = [111,114]) (a b : Int) : ap s a b = bits .or .i64 a b := by simp [ap, h]
theorem ap_xor {s : ByteArray} (h : s.toList = [120,111,114]) (a b : Int) : ap s a b = bits .xor .i64 a b := by simp [ap, h]
theorem ap_shl {s : ByteArray} (h : s.toList = [115,104,108]) (a b : Int) : ap s a b = (a * 2 ^ b.toNat) % 64 := by simp [ap, h]
theorem ap_shr {s : ByteArray} (h : s.toList = [115,104,114]) (a b : Int) : ap s a b = a / 2 ^ b.toNat := by simp [ap, h]
theorem ap_less {s : ByteArray} (h : s.toList = [108,101,115,115]) (a b : Int) : ap s a b = (if a < b then 1 else 0) := by simp [ap, h]
theorem ap_eq {s : ByteArray} (h : s.toList = [101,113]) (a b : Int) : ap s a b = (if a = b then 1 else 0) := by simp [ap, h]
theorem and63 (n : Int) : bits .and .i64 n 63 = n % 64 := by
  have h63 : (BitVec.ofInt 64 63).toNat = 2 ^ 6 - 1 := by decide
  have key : (BitVec.ofInt 64 n &&& BitVec.ofInt 64 63).toNat = (n % ((2 ^ 64 : Nat) : Int)).toNat % 2 ^ 6 := by
    rw [BitVec.toNat_and, BitVec.toNat_ofInt, h63, Nat.and_two_pow_sub_one_eq_mod]
  show IntKind.i64.wrap ((BitVec.ofInt 64 n &&& BitVec.ofInt 64 63).toNat : Nat) = n % 64
  rw [key, IntKind.wrap_i64]
  omega
theorem wrap64_m (x : Int) : wrap64 x % 64 = x % 64 := by unfold wrap64; omega
theorem small64 (a : Int) (h0 : 0 ≤ a) (h : a ≤ 63) : (BitVec.ofInt 64 a).toNat < 2 ^ 6 := by
  rw [BitVec.toNat_ofInt]; omega
theorem bits_small (x : BitVec 64) (h : x.toNat < 2 ^ 6) : 0 ≤ IntKind.i64.wrap (x.toNat : Int) ∧ IntKind.i64.wrap (x.toNat : Int) ≤ 63 := by
  rw [IntKind.wrap_i64]; omega
theorem band_bd (a b : Int) (h0 : 0 ≤ a) (h1 : a ≤ 63) : 0 ≤ bits .and .i64 a b ∧ bits .and .i64 a b ≤ 63 :=
  bits_small (BitVec.ofInt 64 a &&& BitVec.ofInt 64 b) (by rw [BitVec.toNat_and]; exact Nat.lt_of_le_of_lt Nat.and_le_left (small64 a h0 h1))
theorem bor_bd (a b : Int) (h0 : 0 ≤ a) (h1 : a ≤ 63) (h2 : 0 ≤ b) (h3 : b ≤ 63) : 0 ≤ bits .or .i64 a b ∧ bits .or .i64 a b ≤ 63 :=
  bits_small (BitVec.ofInt 64 a ||| BitVec.ofInt 64 b) (by rw [BitVec.toNat_or]; exact Nat.or_lt_two_pow (small64 a h0 h1) (small64 b h2 h3))
theorem bxor_bd (a b : Int) (h0 : 0 ≤ a) (h1 : a ≤ 63) (h2 : 0 ≤ b) (h3 : b ≤ 63) : 0 ≤ bits .xor .i64 a b ∧ bits .xor .i64 a b ≤ 63 :=
  bits_small (BitVec.ofInt 64 a ^^^ BitVec.ofInt 64 b) (by rw [BitVec.toNat_xor]; exact Nat.xor_lt_two_pow (small64 a h0 h1) (small64 b h2 h3))
theorem pow_ge6 (n : Nat) (h : 6 ≤ n) : ∃ k : Nat, (2 : Int) ^ n = 64 * (k : Int) ∧ 0 < k := by
  refine ⟨2 ^ (n - 6), ?_, Nat.pow_pos (by decide)⟩
  have : n = 6 + (n - 6) := by omega
  rw [this, Int.pow_add, Nat.add_sub_cancel_left]; simp
theorem shl_zero (a b : Int) (hb : 6 ≤ b) : a * 2 ^ b.toNat % 64 = 0 := by
  obtain ⟨k, hk, _⟩ := pow_ge6 b.toNat (by omega)
  rw [hk, show a * (64 * (k : Int)) = 64 * (a * k) by rw [← Int.mul_assoc, Int.mul_comm a 64, Int.mul_assoc]]
  exact Int.mul_emod_right _ _
theorem shr_zero (a b : Int) (h0 : 0 ≤ a) (h1 : a ≤ 63) (hb : 6 ≤ b) : a / 2 ^ b.toNat = 0 := by
  obtain ⟨k, hk, hp⟩ := pow_ge6 b.toNat (by omega)
  rw [hk]; exact Int.ediv_eq_zero_of_lt h0 (by omega)
theorem shr_bd (a : Int) (n : Nat) (h0 : 0 ≤ a) (h1 : a ≤ 63) : 0 ≤ a / 2 ^ n ∧ a / 2 ^ n ≤ 63 := by
  have hp : (0 : Int) < 2 ^ n := Int.pow_pos (by decide)
  exact ⟨Int.ediv_nonneg h0 (by omega), Int.le_trans (Int.ediv_le_self _ h0) h1⟩
/-- A word op: one of the twelve. -/
def isOp (s : ByteArray) : Bool := isOne s || isTwo s
theorem ap_bd (s : ByteArray) (a b : Int) (h0 : 0 ≤ a) (h1 : a ≤ 63) (h2 : 0 ≤ b) (h3 : b ≤ 63) : 0 ≤ ap s a b ∧ ap s a b ≤ 63 := by
  unfold ap
  have g1 := band_bd a b h0 h1
  have g2 := bor_bd a b h0 h1 h2 h3
  have g3 := bxor_bd a b h0 h1 h2 h3
  have g4 := shr_bd a b.toNat h0 h1
  repeat' split
  all_goals first | assumption | omega

def isW (n : Int) : Bool := decide (0 ≤ n) && decide (n ≤ 63)
theorem isW_iff (n : Int) : isW n = true ↔ 0 ≤ n ∧ n ≤ 63 := by simp [isW]
def inR (n lo hi : Int) : Bool := decide (lo ≤ n) && decide (n ≤ hi)
theorem inR_iff (n lo hi : Int) : inR n lo hi = true ↔ lo ≤ n ∧ n ≤ hi := by simp [inR]

/-- The operands of a node. -/
def parts (n : Nd) : List Int := if isOne n.op = true then [n.a] else if isTwo n.op = true then [n.a, n.b] else []
def leafV (s : ByteArray) (v : Int) : Bool := if isIn s = true then inR v 0 1 else isW v
/-- Whether a node can be that with an index. -/
def isNode (n : Nd) (i : Int) : Bool :=
  if isIn n.op = true then n.a == 0 && n.b == 0 && inR n.v 0 1
  else if isConst n.op = true then n.a == 0 && n.b == 0 && isW n.v
  else if isOne n.op = true then inR n.a 0 (i - 1) && n.b == 0 && n.v == 0
  else isTwo n.op && inR n.a 0 (i - 1) && inR n.b 0 (i - 1) && n.v == 0

end Go.Proofs.Ytmhdijklindipaa
