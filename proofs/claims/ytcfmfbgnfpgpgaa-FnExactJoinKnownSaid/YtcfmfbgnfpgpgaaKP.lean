import Derived.Test.YtcfmfbgnfpgpgaaTP
/- Bits of words. No program. -/
namespace Go.Proofs.Ytcfmfbgnfpgpgaa
open Go.RowKit
set_option linter.unusedVariables false

/-- A word of 64 bits as an int. -/
def wI (x : BitVec 64) : Int := IntKind.i64.wrap ((x.toNat : Nat) : Int)
theorem wI_of (a : Int) (h0 : -9223372036854775808 ≤ a) (h1 : a ≤ 9223372036854775807) : wI (BitVec.ofInt 64 a) = a := by
  unfold wI; rw [IntKind.wrap_i64, BitVec.toNat_ofInt]; omega
theorem ofInt_wI (x : BitVec 64) : BitVec.ofInt 64 (wI x) = x := by
  apply BitVec.eq_of_toNat_eq
  have := x.isLt
  unfold wI; rw [IntKind.wrap_i64, BitVec.toNat_ofInt]; omega
theorem wI_inj {x y : BitVec 64} (h : wI x = wI y) : x = y := by rw [← ofInt_wI x, h, ofInt_wI]
theorem b_and (a b : Int) : bits .and .i64 a b = wI (BitVec.ofInt 64 a &&& BitVec.ofInt 64 b) := rfl
theorem b_or (a b : Int) : bits .or .i64 a b = wI (BitVec.ofInt 64 a ||| BitVec.ofInt 64 b) := rfl
theorem b_xor (a b : Int) : bits .xor .i64 a b = wI (BitVec.ofInt 64 a ^^^ BitVec.ofInt 64 b) := rfl
theorem b_andNot (a b : Int) : bits .andNot .i64 a b = wI (BitVec.ofInt 64 a &&& ~~~ BitVec.ofInt 64 b) := rfl
theorem isW_wI {a : Int} (h : isW a = true) : a = wI (BitVec.ofInt 64 a) := by
  have := (isW_iff _).1 h; rw [wI_of] <;> omega

theorem bl1 : ∀ z o x : Bool, (z && o) = false → ((z || o) && !x) = z → ((z || o) && x) = o → (x && z) = false ∧ (x && o) = o := by decide
theorem bl2 : ∀ z o x : Bool, (z && o) = false → (x && z) = false → (x && o) = o → ((z || o) && !x) = z ∧ ((z || o) && x) = o := by decide
theorem bget {x y : BitVec 64} (h : x = y) (i : Nat) : x.getLsbD i = y.getLsbD i := by rw [h]
theorem bnot (x : BitVec 64) {i : Nat} (hi : i < 64) : (~~~x).getLsbD i = !x.getLsbD i := by rw [BitVec.getLsbD_not, decide_eq_true hi, Bool.true_and]
theorem bzero (i : Nat) : (0#64).getLsbD i = false := by rw [BitVec.getLsbD_zero]
/-- What fits, told in two ways. -/
theorem fits_iff (Z O X : BitVec 64) (h : Z &&& O = 0#64) : ((Z ||| O) &&& ~~~ X = Z ∧ (Z ||| O) &&& X = O) ↔ (X &&& Z = 0#64 ∧ X &&& O = O) := by
  have hb : ∀ i, (Z.getLsbD i && O.getLsbD i) = false := fun i => by
    have := bget h i
    rwa [BitVec.getLsbD_and, bzero] at this
  constructor
  · rintro ⟨h1, h2⟩
    have k : ∀ i, i < 64 → (X.getLsbD i && Z.getLsbD i) = false ∧ (X.getLsbD i && O.getLsbD i) = O.getLsbD i := fun i hi => by
      have a := bget h1 i
      have b := bget h2 i
      rw [BitVec.getLsbD_and, BitVec.getLsbD_or, bnot X hi] at a
      rw [BitVec.getLsbD_and, BitVec.getLsbD_or] at b
      exact bl1 _ _ _ (hb i) a b
    constructor
    · apply BitVec.eq_of_getLsbD_eq; intro i hi; rw [BitVec.getLsbD_and, bzero]; exact (k i hi).1
    · apply BitVec.eq_of_getLsbD_eq; intro i hi; rw [BitVec.getLsbD_and]; exact (k i hi).2
  · rintro ⟨h1, h2⟩
    have k : ∀ i, i < 64 → ((Z.getLsbD i || O.getLsbD i) && !X.getLsbD i) = Z.getLsbD i ∧ ((Z.getLsbD i || O.getLsbD i) && X.getLsbD i) = O.getLsbD i := fun i hi => by
      have a := bget h1 i
      have b := bget h2 i
      rw [BitVec.getLsbD_and, bzero] at a
      rw [BitVec.getLsbD_and] at b
      exact bl2 _ _ _ (hb i) a b
    constructor
    · apply BitVec.eq_of_getLsbD_eq; intro i hi; rw [BitVec.getLsbD_and, BitVec.getLsbD_or, bnot X hi]; exact (k i hi).1
    · apply BitVec.eq_of_getLsbD_eq; intro i hi; rw [BitVec.getLsbD_and, BitVec.getLsbD_or]; exact (k i hi).2
def knOk (z o : Int) : Bool := isW z && isW o && (bits .and .i64 z o == 0)
def fitB (z o x : Int) : Bool := (bits .and .i64 x z == 0) && (bits .and .i64 x o == o)
theorem zero_wI : (0 : Int) = wI 0#64 := by decide
theorem fit_eq {z o x : Int} (hk : knOk z o = true) : (bits .andNot .i64 (bits .or .i64 z o) x == z && bits .and .i64 (bits .or .i64 z o) x == o) = fitB z o x := by
  simp only [knOk, Bool.and_eq_true, beq_iff_eq] at hk
  obtain ⟨⟨hz, ho⟩, h⟩ := hk
  rw [b_and, zero_wI] at h
  have h' := wI_inj h
  have key := fits_iff _ _ (BitVec.ofInt 64 x) h'
  have hz' := isW_wI hz
  have ho' := isW_wI ho
  unfold fitB
  rw [Bool.eq_iff_iff]
  simp only [Bool.and_eq_true, beq_iff_eq]
  rw [b_andNot, b_and, b_and, b_and, b_or, ofInt_wI]
  constructor
  · rintro ⟨a, b⟩
    have a' := wI_inj (a.trans hz')
    have b' := wI_inj (b.trans ho')
    obtain ⟨c, d⟩ := key.1 ⟨a', b'⟩
    rw [c, d]; exact ⟨zero_wI.symm, ho'.symm⟩
  · rintro ⟨a, b⟩
    have a' := wI_inj (a.trans zero_wI)
    have b' := wI_inj (b.trans ho')
    obtain ⟨c, d⟩ := key.2 ⟨a', b'⟩
    rw [c, d]; exact ⟨hz'.symm, ho'.symm⟩

/-! ### Known bits of a list of words -/
def szI (f : Nat → Int) : Nat → Int
  | 0 => 63
  | n + 1 => bits .andNot .i64 (szI f n) (f n)
def soI (f : Nat → Int) : Nat → Int
  | 0 => 63
  | n + 1 => bits .and .i64 (soI f n) (f n)
def izI (f : Nat → Int) : Nat → Int
  | 0 => bits .andNot .i64 63 (f 0)
  | n + 1 => bits .and .i64 (izI f n) (bits .andNot .i64 63 (f n))
def ioI (f : Nat → Int) : Nat → Int
  | 0 => bits .and .i64 63 (f 0)
  | n + 1 => bits .and .i64 (ioI f n) (bits .and .i64 63 (f n))
theorem sz_sub (f : Nat → Int) : ∀ n, BitVec.ofInt 64 (szI f n) &&& BitVec.ofInt 64 63 = BitVec.ofInt 64 (szI f n)
  | 0 => by unfold szI; exact BitVec.and_self
  | n + 1 => by
    have ih := sz_sub f n
    rw [szI, b_andNot, ofInt_wI]
    conv => rhs; rw [← ih]
    rw [BitVec.and_assoc, BitVec.and_comm (~~~ _), ← BitVec.and_assoc]
theorem so_sub (f : Nat → Int) : ∀ n, BitVec.ofInt 64 (soI f n) &&& BitVec.ofInt 64 63 = BitVec.ofInt 64 (soI f n)
  | 0 => by unfold soI; exact BitVec.and_self
  | n + 1 => by
    have ih := so_sub f n
    rw [soI, b_and, ofInt_wI]
    conv => rhs; rw [← ih]
    rw [BitVec.and_assoc, BitVec.and_comm (BitVec.ofInt 64 (f n)), ← BitVec.and_assoc]
theorem iz_sz (f : Nat → Int) : ∀ n, izI f (n + 1) = szI f (n + 1)
  | 0 => by
    show bits .and .i64 (bits .andNot .i64 63 (f 0)) (bits .andNot .i64 63 (f 0)) = bits .andNot .i64 63 (f 0)
    rw [b_and, b_andNot, ofInt_wI, BitVec.and_self]
  | n + 1 => by
    show bits .and .i64 (izI f (n + 1)) (bits .andNot .i64 63 (f (n + 1))) = bits .andNot .i64 (szI f (n + 1)) (f (n + 1))
    rw [iz_sz f n]
    have hs := sz_sub f (n + 1)
    generalize szI f (n + 1) = s at *
    rw [b_and, b_andNot, b_andNot, ofInt_wI, ← BitVec.and_assoc, hs]
theorem io_so (f : Nat → Int) : ∀ n, ioI f (n + 1) = soI f (n + 1)
  | 0 => by
    show bits .and .i64 (bits .and .i64 63 (f 0)) (bits .and .i64 63 (f 0)) = bits .and .i64 63 (f 0)
    rw [b_and 63, b_and (wI _), ofInt_wI, BitVec.and_self]
  | n + 1 => by
    show bits .and .i64 (ioI f (n + 1)) (bits .and .i64 63 (f (n + 1))) = bits .and .i64 (soI f (n + 1)) (f (n + 1))
    rw [io_so f n]
    have hs := so_sub f (n + 1)
    generalize soI f (n + 1) = s at *
    rw [b_and 63, b_and s, b_and s, ofInt_wI, ← BitVec.and_assoc, hs]
def kbZ (es : List Nd) : Int := if good es = true then szI (fun i => (tab es).getD i 0) 4096 else 0
def kbO (es : List Nd) : Int := if good es = true then soI (fun i => (tab es).getD i 0) 4096 else 0
end Go.Proofs.Ytcfmfbgnfpgpgaa
