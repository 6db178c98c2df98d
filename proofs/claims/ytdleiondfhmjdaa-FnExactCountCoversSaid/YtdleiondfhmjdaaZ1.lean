/- Texts of this proof, one behind the other: TE, FG, FH, FI, OC, ON. -/
import Derived.Test.YtdleiondfhmjdaaZ2
import Derived.Test.YtdleiondfhmjdaaZ7
import Derived.Test.YtdleiondfhmjdaaM
import Derived.WalkKit
import Derived.WalkSpells
import Derived.WalkLawsBesides
import Derived.Lib.Hide
import Derived.Test.YtdleiondfhmjdaaLawEA
import Derived.Test.YtdleiondfhmjdaaZ9
import Derived.ProofKit
import Derived.OpenShut
import Derived.ShutString
import Derived.ChangeOld
import Derived.Below
import Derived.Deep.Slices
import Derived.Deep.Fields
import Derived.Test.YtdleiondfhmjdaaKMNode
/- First places, counts, sums of bits, least and greatest ones over an index. No program. -/
namespace Go.Proofs.Ytdleiondfhmjdaa
open Go.RowKit
set_option linter.unusedVariables false

/-- The first index below n at which p holds, or -1. -/
def firstI (p : Nat → Bool) (n : Nat) : Int := match (List.range n).find? p with | some k => (k : Int) | none => -1
theorem firstI_none {p : Nat → Bool} {n : Nat} (h : ∀ i, i < n → p i = false) : firstI p n = -1 := by
  unfold firstI
  have : (List.range n).find? p = none := by
    rw [List.find?_eq_none]; intro x hx; rw [h x (by simpa using hx)]; simp
  rw [this]
theorem firstI_some {p : Nat → Bool} {n k : Nat} (hk : k < n) (hp : p k = true) (h : ∀ i, i < k → p i = false) : firstI p n = k := by
  unfold firstI
  have : (List.range n).find? p = some k := by
    rw [List.find?_range_eq_some]
    exact ⟨hp, by simpa using hk, fun j hj => by simp [h j hj]⟩
  rw [this]
theorem firstI_cases (p : Nat → Bool) (n : Nat) : (firstI p n = -1 ∧ ∀ i, i < n → p i = false) ∨ ∃ k : Nat, k < n ∧ firstI p n = k ∧ p k = true ∧ ∀ i, i < k → p i = false := by
  induction n with
  | zero => exact .inl ⟨rfl, fun i hi => absurd hi (Nat.not_lt_zero _)⟩
  | succ n ih =>
    rcases ih with ⟨_, h2⟩ | ⟨k, hk, _, hp, h2⟩
    · cases hn : p n
      · have h3 : ∀ i, i < n + 1 → p i = false := fun i hi => by
          by_cases e : i = n
          · rw [e]; exact hn
          · exact h2 i (by omega)
        exact .inl ⟨firstI_none h3, h3⟩
      · exact .inr ⟨n, by omega, firstI_some (by omega) hn h2, hn, h2⟩
    · exact .inr ⟨k, by omega, firstI_some (by omega) hp h2, hp, h2⟩
theorem firstI_ext {p q : Nat → Bool} {n : Nat} (h : ∀ i, i < n → p i = q i) : firstI p n = firstI q n := by
  rcases firstI_cases p n with ⟨h1, h2⟩ | ⟨k, hk, h1, hp, h2⟩
  · rw [h1, firstI_none fun i hi => by rw [← h i hi]; exact h2 i hi]
  · rw [h1, firstI_some hk (by rw [← h k hk]; exact hp) fun i hi => by rw [← h i (by omega)]; exact h2 i hi]
theorem firstI_neg {p : Nat → Bool} {n : Nat} : firstI p n < 0 ↔ ∀ i, i < n → p i = false := by
  rcases firstI_cases p n with ⟨h1, h2⟩ | ⟨k, hk, h1, hp, h2⟩
  · rw [h1]; exact ⟨fun _ => h2, fun _ => by decide⟩
  · rw [h1]; constructor
    · intro h; omega
    · intro h; rw [h k hk] at hp; cases hp
theorem firstI_bd (p : Nat → Bool) (n : Nat) : -1 ≤ firstI p n ∧ firstI p n < n := by
  rcases firstI_cases p n with ⟨h1, _⟩ | ⟨k, hk, h1, _, _⟩ <;> rw [h1] <;> omega

def countI (p : Nat → Bool) : Nat → Int
  | 0 => 0
  | n + 1 => countI p n + (if p n = true then 1 else 0)
theorem countI_bd (p : Nat → Bool) (n : Nat) : 0 ≤ countI p n ∧ countI p n ≤ n := by
  induction n with
  | zero => simp [countI]
  | succ n ih => rw [countI]; split <;> omega
theorem countI_ext {p q : Nat → Bool} : ∀ {n : Nat}, (∀ i, i < n → p i = q i) → countI p n = countI q n
  | 0, _ => rfl
  | n + 1, h => by rw [countI, countI, h n (by omega), countI_ext (n := n) (fun i hi => h i (by omega))]
theorem countI_yes {p : Nat → Bool} {n : Nat} (h : p n = true) : countI p (n + 1) = countI p n + 1 := by rw [countI, h]; rfl
theorem countI_no {p : Nat → Bool} {n : Nat} (h : p n = false) : countI p (n + 1) = countI p n := by rw [countI, h]; simp

def orI (f : Nat → Int) : Nat → Int
  | 0 => 0
  | n + 1 => bits .or .i64 (orI f n) (f n)
theorem orI_bd {f : Nat → Int} : ∀ {n : Nat}, (∀ i, i < n → 0 ≤ f i ∧ f i ≤ 63) → 0 ≤ orI f n ∧ orI f n ≤ 63
  | 0, _ => ⟨Int.le_refl _, by show (0 : Int) ≤ 63; omega⟩
  | n + 1, h => by
    have h1 := orI_bd (n := n) fun i hi => h i (by omega)
    have h2 := h n (by omega)
    exact bor_bd _ _ h1.1 h1.2 h2.1 h2.2
theorem orI_ext {f g : Nat → Int} : ∀ {n : Nat}, (∀ i, i < n → f i = g i) → orI f n = orI g n
  | 0, _ => rfl
  | n + 1, h => by rw [orI, orI, h n (by omega), orI_ext (n := n) (fun i hi => h i (by omega))]

theorem ofInt_inj {a b : Int} (h0 : 0 ≤ a) (h1 : a ≤ 63) (h2 : 0 ≤ b) (h3 : b ≤ 63) (h : BitVec.ofInt 64 a = BitVec.ofInt 64 b) : a = b := by
  have := congrArg BitVec.toNat h
  rw [BitVec.toNat_ofInt, BitVec.toNat_ofInt] at this
  omega
theorem wrap_zero {n : Nat} (h : n < 2 ^ 6) : IntKind.i64.wrap (n : Int) = 0 ↔ n = 0 := by rw [IntKind.wrap_i64]; omega
theorem bxor_zero {a b : Int} (h0 : 0 ≤ a) (h1 : a ≤ 63) (h2 : 0 ≤ b) (h3 : b ≤ 63) : bits .xor .i64 a b = 0 ↔ a = b := by
  have hs : (BitVec.ofInt 64 a ^^^ BitVec.ofInt 64 b).toNat < 2 ^ 6 := by rw [BitVec.toNat_xor]; exact Nat.xor_lt_two_pow (small64 a h0 h1) (small64 b h2 h3)
  show IntKind.i64.wrap (((BitVec.ofInt 64 a ^^^ BitVec.ofInt 64 b).toNat : Nat) : Int) = 0 ↔ a = b
  rw [wrap_zero hs]
  constructor
  · intro h
    have h' : BitVec.ofInt 64 a ^^^ BitVec.ofInt 64 b = 0#64 := by apply BitVec.eq_of_toNat_eq; simpa using h
    exact ofInt_inj h0 h1 h2 h3 (BitVec.xor_eq_zero_iff.1 h')
  · intro h; subst h; simp
theorem bor_zero {a b : Int} (h0 : 0 ≤ a) (h1 : a ≤ 63) (h2 : 0 ≤ b) (h3 : b ≤ 63) : bits .or .i64 a b = 0 ↔ a = 0 ∧ b = 0 := by
  have hs : (BitVec.ofInt 64 a ||| BitVec.ofInt 64 b).toNat < 2 ^ 6 := by rw [BitVec.toNat_or]; exact Nat.or_lt_two_pow (small64 a h0 h1) (small64 b h2 h3)
  show IntKind.i64.wrap (((BitVec.ofInt 64 a ||| BitVec.ofInt 64 b).toNat : Nat) : Int) = 0 ↔ a = 0 ∧ b = 0
  rw [wrap_zero hs]
  constructor
  · intro h
    have h' : BitVec.ofInt 64 a ||| BitVec.ofInt 64 b = 0#64 := by apply BitVec.eq_of_toNat_eq; simpa using h
    rw [BitVec.or_eq_zero_iff] at h'
    exact ⟨ofInt_inj h0 h1 (by omega) (by omega) h'.1, ofInt_inj h2 h3 (by omega) (by omega) h'.2⟩
  · rintro ⟨rfl, rfl⟩; simp
theorem orI_zero {f : Nat → Int} : ∀ {n : Nat}, (∀ i, i < n → 0 ≤ f i ∧ f i ≤ 63) → (orI f n = 0 ↔ ∀ i, i < n → f i = 0)
  | 0, _ => by simp [orI]
  | n + 1, h => by
    have h1 := orI_bd (n := n) fun i hi => h i (by omega)
    have h2 := h n (by omega)
    rw [orI, bor_zero h1.1 h1.2 h2.1 h2.2, orI_zero (n := n) fun i hi => h i (by omega)]
    constructor
    · rintro ⟨a, b⟩ i hi
      by_cases e : i = n
      · rw [e]; exact b
      · exact a i (by omega)
    · intro a; exact ⟨fun i hi => a i (by omega), a n (by omega)⟩

/-- All words of a list. -/
def W64 (xs : List Int) : Prop := ∀ i, 0 ≤ xs.getD i 0 ∧ xs.getD i 0 ≤ 63
theorem getD_get {xs : List Int} {i : Nat} (h : i < xs.length) : xs.getD i 0 = xs[i] := by
  rw [List.getD_eq_getElem?_getD, List.getElem?_eq_getElem h]; rfl
theorem tabTo_get (f : Int → Int → Int) {n i : Nat} (h : i < n) : (tabTo f n).getD i 0 = f ((i / 64 : Nat) : Int) ((i % 64 : Nat) : Int) := by
  rw [getD_get (by rw [tabTo_len]; exact h)]; simp [tabTo]
theorem list_ext_getD {xs ys : List Int} (hl : xs.length = ys.length) (h : ∀ i, i < xs.length → xs.getD i 0 = ys.getD i 0) : xs = ys := by
  apply List.ext_getElem hl
  intro i h1 h2
  have := h i h1
  rwa [getD_get h1, getD_get h2] at this

/-- least and greatest -/
def minI (f : Nat → Int) (m : Int) : Nat → Int
  | 0 => m
  | n + 1 => min (minI f m n) (f n)
def maxI (f : Nat → Int) (m : Int) : Nat → Int
  | 0 => m
  | n + 1 => max (maxI f m n) (f n)
theorem minI_le (f : Nat → Int) (m : Int) : ∀ n, minI f m n ≤ m ∧ ∀ i, i < n → minI f m n ≤ f i
  | 0 => ⟨Int.le_refl _, fun i hi => absurd hi (Nat.not_lt_zero _)⟩
  | n + 1 => by
    obtain ⟨h1, h2⟩ := minI_le f m n
    rw [minI]
    refine ⟨by omega, fun i hi => ?_⟩
    by_cases e : i = n
    · rw [e]; omega
    · have := h2 i (by omega); omega
theorem minI_is (f : Nat → Int) (m : Int) : ∀ n, minI f m n = m ∨ ∃ i, i < n ∧ minI f m n = f i
  | 0 => .inl rfl
  | n + 1 => by
    rw [minI]
    by_cases e : minI f m n ≤ f n
    · rw [Int.min_eq_left e]
      rcases minI_is f m n with h | ⟨i, hi, h⟩
      · exact .inl h
      · exact .inr ⟨i, by omega, h⟩
    · rw [Int.min_eq_right (by omega)]; exact .inr ⟨n, by omega, rfl⟩
theorem maxI_ge (f : Nat → Int) (m : Int) : ∀ n, m ≤ maxI f m n ∧ ∀ i, i < n → f i ≤ maxI f m n
  | 0 => ⟨Int.le_refl _, fun i hi => absurd hi (Nat.not_lt_zero _)⟩
  | n + 1 => by
    obtain ⟨h1, h2⟩ := maxI_ge f m n
    rw [maxI]
    refine ⟨by omega, fun i hi => ?_⟩
    by_cases e : i = n
    · rw [e]; omega
    · have := h2 i (by omega); omega
theorem maxI_is (f : Nat → Int) (m : Int) : ∀ n, maxI f m n = m ∨ ∃ i, i < n ∧ maxI f m n = f i
  | 0 => .inl rfl
  | n + 1 => by
    rw [maxI]
    by_cases e : f n ≤ maxI f m n
    · rw [Int.max_eq_left e]
      rcases maxI_is f m n with h | ⟨i, hi, h⟩
      · exact .inl h
      · exact .inr ⟨i, by omega, h⟩
    · rw [Int.max_eq_right (by omega)]; exact .inr ⟨n, by omega, rfl⟩
/-- Starting at a bound or at the first one is alike. -/
theorem minI_start {f : Nat → Int} {m : Int} {n : Nat} (hn : 0 < n) (h : ∀ i, i < n → f i ≤ m) : minI f m n = minI f (f 0) n := by
  have a := minI_le f m n
  have b := minI_le f (f 0) n
  have c : ∃ i, i < n ∧ minI f m n = f i := by
    rcases minI_is f m n with h1 | h1
    · have := a.2 0 hn; have := h 0 hn; exact ⟨0, hn, by omega⟩
    · exact h1
  have d : ∃ i, i < n ∧ minI f (f 0) n = f i := by
    rcases minI_is f (f 0) n with h1 | h1
    · exact ⟨0, hn, h1⟩
    · exact h1
  obtain ⟨i, hi, ei⟩ := c
  obtain ⟨j, hj, ej⟩ := d
  have := a.2 j hj; have := b.2 i hi; omega
theorem maxI_start {f : Nat → Int} {m : Int} {n : Nat} (hn : 0 < n) (h : ∀ i, i < n → m ≤ f i) : maxI f m n = maxI f (f 0) n := by
  have a := maxI_ge f m n
  have b := maxI_ge f (f 0) n
  have c : ∃ i, i < n ∧ maxI f m n = f i := by
    rcases maxI_is f m n with h1 | h1
    · have := a.2 0 hn; have := h 0 hn; exact ⟨0, hn, by omega⟩
    · exact h1
  have d : ∃ i, i < n ∧ maxI f (f 0) n = f i := by
    rcases maxI_is f (f 0) n with h1 | h1
    · exact ⟨0, hn, h1⟩
    · exact h1
  obtain ⟨i, hi, ei⟩ := c
  obtain ⟨j, hj, ej⟩ := d
  have := a.2 j hj; have := b.2 i hi; omega
end Go.Proofs.Ytdleiondfhmjdaa

/- CountCovers of the program. -/
namespace Go.Proofs.Ytdleiondfhmjdaa
open Go.RowKit
set_option linter.unusedVariables false
set_option maxRecDepth 100000

theorem RtOk.chg {w w' : World} {L B lo hi : Nat} {r : Rt} {t : Ti} (h : RtOk w L B r t) (hc : Chg lo hi w w') (hd : B ≤ lo ∨ hi ≤ L) : RtOk w' L B r t := ⟨h.1, h.2.1, h.2.2.1.chg hc hd, h.2.2.2.chg hc hd⟩
theorem getD_set_eq {xs : List Int} {i : Nat} (h : i < xs.length) (x : Int) : (xs.set i x).getD i 0 = x := by
  rw [List.getD_eq_getElem?_getD, List.getElem?_set_self h]; rfl

set_option maxHeartbeats 8000000 in
theorem iCountCovers_any (L B : Nat) (A : Option Addr) (c : Nat) (es : List Nd) (w : World) (hl : es.length ≤ 1048576) (hes : NS w L B A es) (hB : B ≤ w.heap.size) :
    Calls Try.prog 48 #[.slice A es.length c] w (IntRes w (ccR es) (treeR es)) := by
  have H := Lib.hid (iIsTree_any L B A c es w hl hes hB)
  cases ht : treeR es
  · have hR := Lib.hid (show ccR es = 0 by unfold ccR; rw [if_neg (by rw [ht]; decide)])
    rw [ht] at H
    clear ht
    go_enter Try.func48, Try.ntmps48
    go_wp2_with (go_at_call 81; refine H.out.mono ?_; rintro e w1 ⟨rfl, hb1⟩; have hbh := Lib.hid hb1; clear hb1)
    go_ret2
    exact ⟨by rw [hR.out]; rfl, hbh.out⟩
  have hR := Lib.hid (show ccR es = (ccTo es es.length).getD (es.length - 1) 0 by unfold ccR; rw [if_pos ht])
  have hg : good es = true := by unfold treeR at ht; simp only [Bool.and_eq_true] at ht; exact ht.1
  obtain ⟨hl1, hl24, hok⟩ := good_len hg
  have H2 := Lib.hid fun (k : Nat) (hk : k < es.length) (W : World) (hW : Below w.heap.size w W) => (show Calls Try.prog 83 #[.slice A es.length c, .int .i64 (k : Int)] W (TilesAre W (tsN es k)) from by rw [tsN_eq hk]; exact tilesOf_w L B A c es k hk W (hes.below hW hB) (Nat.le_trans hB hW.size) hl24 hok)
  have hLen := Lib.hid fun k => tilesL_len es (nodeAt es (k : Int))
  have hPs := Lib.hid fun (k : Nat) (hk : k < es.length) => tsN_ps hok hk
  have hP2 := Lib.hid fun (k : Nat) => @tsN_ps2 es k
  have hLn := Lib.hid fun (k : Nat) => (show (tsN es k).length ≤ 13 from tilesL_len _ _)
  have hSc := Lib.hid (ccTo_next es)
  have hCl := Lib.hid (ccTo_len es)
  have h00 := Lib.hid (ccTo_zero es)
  have hmk := run_make_ints es.length (by omega)
  rw [ht] at H
  clear ht hg hes hB hok hLen
  generalize tsN es = TS at *
  generalize ccTo es = CC at *
  generalize good es = gd at *
  generalize ccR es = res at *
  generalize es.length = n at *
  obtain ⟨m, rfl⟩ : ∃ m, n = m + 1 := ⟨n - 1, by omega⟩
  have hcm : ((m + 1 : Nat) : Int) = (m : Int) + 1 := by omega
  rw [hcm] at hmk
  rw [Nat.add_sub_cancel] at hR
  go_enter Try.func48, Try.ntmps48
  go_wp2_with (fail)
  refine H.out.mono ?_
  rintro e w1 ⟨rfl, hb1⟩
  have hT0 : Hid (IB (w1.alloc (.cells (intCells (zeros (m + 1))) 3)) w1.heap.size 3 (CC 0)) := by rw [h00.out]; exact heap_alloc_new w1 _
  have b1 := Lib.hid (hb1.alloc hb1.size (.cells (intCells (zeros (m + 1))) 3))
  have z1 := Lib.hid hb1.size
  clear hb1 H
  go_wp2_with (fail)
  generalize hg0 : w1.heap.size = g at *
  have hgw := Lib.hid (show w.heap.size ≤ g by have := z1.out; omega)
  clear hg0 z1
  generalize w1.alloc (.cells (intCells (zeros (m + 1))) 3) = W1 at *
  go_loopw [25] (fun q wr => ∃ k : Nat, k ≤ m + 1 ∧ q = .int .i64 k ∧ IB wr g 3 (CC k) ∧ Below w.heap.size w wr) (fun q _ => m + 1 - (intOf q).toNat)
  case atStart => exact ⟨0, Nat.zero_le _, rfl, hT0.out, b1.out⟩
  case round =>
    obtain ⟨k, hk, rfl, hib, hbel⟩ := hrel
    have hIB := Lib.hid hib
    have hBL := Lib.hid hbel
    have hgl := hib.lt
    clear hib hbel
    by_cases hlt : k < m + 1
    · obtain ⟨wo, hwo⟩ : ∃ wo : World, wo = wr := ⟨_, rfl⟩
      rw [← hwo] at hIB hBL hgl ⊢
      clear hwo
      have hki : (k : Int) < (m : Int) + 1 := by omega
      have hC := Lib.hid (H2.out k hlt)
      have hSk := Lib.hid (hSc.out k)
      have hps := Lib.hid (hPs.out k hlt)
      have hps2 := Lib.hid (hP2.out k)
      have hlk := hLn.out k
      have hcl := Lib.hid (hCl.out k)
      generalize TS k = ts at *
      generalize hck : CC (k + 1) = ck' at *
      have hck2 := Lib.hid hck
      clear hck
      generalize CC k = cs at *
      go_wp2_with (fail)
      refine (hC.out _ hBL.out).mono ?_
      rintro e w2 ⟨TA, tc, rs, rfl, hrs, hall, hb2⟩
      have hRS := Lib.hid hrs
      have hAL := Lib.hid hall
      have hB2 := Lib.hid (hBL.out.trans (hb2.mono hBL.out.size))
      have hI2 := Lib.hid (hIB.out.below hb2 hgl)
      have hg2 := Nat.lt_of_lt_of_le hgl hb2.size
      clear hrs hall hb2
      go_wp2_with (fail)
      go_loopw [32] (fun q wr => ∃ j : Nat, j ≤ ts.length ∧ q = .int .i64 j ∧ IB wr g 3 (cnTo k cs ts j) ∧ Chg g (g + 1) w2 wr) (fun q _ => ts.length - (intOf q).toNat)
      case atStart => exact ⟨0, Nat.zero_le _, rfl, hI2.out, Chg.refl _ _ _⟩
      case round =>
        obtain ⟨j, hj, rfl, hib, hch⟩ := hrel
        have hIJ := Lib.hid hib
        have hCJ := Lib.hid hch
        have hgr := hib.lt
        clear hib hch
        by_cases hltj : j < ts.length
        · have hjr : j < rs.length := by rw [hAL.out.1]; exact hltj
          have hok4 := (hAL.out.2 j hjr hltj).chg hCJ.out (.inr hgl)
          obtain ⟨tb, to', rfl, ⟨_, htb⟩, hcc⟩ := (hRS.out.chg hCJ.out (Nat.le_refl _) (.inr hgl)) (by omega)
          have x1 := hcc j hjr 0 _ rfl
          have x2 := hcc j hjr 1 _ rfl
          have x3 := hcc j hjr 2 _ rfl
          have x4 := hcc j hjr 3 _ rfl
          simp only [Nat.add_zero] at x1
          have hpj := Lib.hid (hps.out ts[j] (List.getElem_mem _))
          have hpl := hps2.out ts[j] (List.getElem_mem _)
          have hSj := Lib.hid (cnTo_succ k cs hltj)
          have hcj := Lib.hid (cnTo_len k cs ts j)
          generalize rs[j] = r at *
          obtain ⟨PA, pc, QA, qc, rfl, hp, hq⟩ := hok4.form
          dsimp only at x1 x2 x3 x4
          clear hcc hok4 hq
          generalize ts[j] = x at *
          obtain ⟨xn, ps, ins, xc⟩ := x
          dsimp only at x1 x2 x3 x4 hp hpj hpl
          generalize hcn : cnTo k cs ts (j + 1) = cn' at *
          have hcn2 := Lib.hid hcn
          clear hcn
          generalize cnTo k cs ts j = cj at *
          have hbx := (Below.refl wr.heap.size wr).alloc (Nat.le_refl _) (.cells #[.int .i64 xn, .slice PA ps.length pc, .slice QA ins.length qc, .int .i64 xc] 91)
          have hIx := Lib.hid (hIJ.out.below hbx hgr)
          have hpx := Lib.hid ((hp.below hbx hCJ.out.size).rs)
          have hw2r := hCJ.out.size
          have hIs := Lib.hid fun v => hIx.out.set k v
          have hCs := Lib.hid fun v => (hCJ.out.alloc (.cells #[.int .i64 xn, .slice PA ps.length pc, .slice QA ins.length qc, .int .i64 xc] 91)).setCell (p := ⟨g, k, none⟩) ⟨Nat.le_refl _, Nat.lt_succ_self _⟩ v
          have hcl2 : cj.length = m + 1 := by rw [hcj.out, hcl.out]
          have hck := hIx.out.cell k (by omega)
          have hfk := hIx.out.frozen k
          have hgk : cj[k]'(by omega) = cj.getD k 0 := (getD_get (by omega)).symm
          rw [hgk] at hck
          clear hgk hp
          generalize hWx : wr.alloc (.cells #[.int .i64 xn, .slice PA ps.length pc, .slice QA ins.length qc, .int .i64 xc] 91) = Wx at *
          have hck0 := Lib.hid hck
          have hWh := Lib.hid hWx
          clear hck hWx
          go_wp2_with (fail)
          rw [hWh.out]
          clear hWh
          clear x1 x2 x3 x4
          go_loop [10, 39] (fun cq q => ∃ t : Nat, t ≤ ps.length ∧ q = .int .i64 t ∧ cq = .int .i64 (wyTo cj ps t)) (fun _ q => ps.length - (intOf q).toNat)
          case atStart => exact ⟨0, Nat.zero_le _, rfl, rfl⟩
          case round =>
            obtain ⟨t, ht, rfl, rfl⟩ := hrel
            by_cases hltt : t < ps.length
            · obtain ⟨pb, po, rfl, ⟨_, hpb⟩, hcc⟩ := hpx.out (by omega)
              have y1 := hcc t hltt
              have hpt := hpj.out ps[t] (List.getElem_mem _)
              have hS := Lib.hid (wyTo_succ cj hltt)
              clear hcc
              generalize ps[t] = pp at *
              obtain ⟨pn, rfl⟩ := Int.eq_ofNat_of_zero_le hpt.1
              have hpm : (pn : Int) < (m : Int) + 1 := by omega
              have hpn0 : (0 : Int) ≤ (pn : Int) := by omega
              have y2 := hIx.out.cell pn (by omega)
              rw [show cj[pn]'(by omega) = cj.getD pn 0 from (getD_get (by omega)).symm] at y2
              rw [Int.toNat_natCast] at hS
              generalize cj.getD pn 0 = cp at *
              generalize wyTo cj ps t = wt at *
              go_wp2
              go_round
              case rel => exact ⟨t + 1, by omega, by go_num, by rw [hS.out]⟩
              case measure => simp [intOf]; omega
            · obtain rfl : t = ps.length := by omega
              have hS := Lib.hid (show cn' = cj.set k (wrap64 (cj.getD k 0 + wyTo cj ps ps.length)) by rw [hSj.out]; rfl)
              have hck := hck0.out
              have hk0 : (0 : Int) ≤ (k : Int) := by omega
              generalize wyTo cj ps ps.length = wt at *
              generalize cj.getD k 0 = ck at *
              go_wp2
              go_roundw
              case rel => exact ⟨j + 1, by omega, by go_num, by rw [hcn2.out, hS.out]; exact hIs.out _, hCs.out _⟩
              case measure => simp [intOf]; omega
        · obtain rfl : j = ts.length := by omega
          have hB3 := Lib.hid (below_chg hB2.out hCJ.out hB2.out.size hgw.out)
          go_wp2
          go_roundw
          case rel => exact ⟨k + 1, by omega, by go_num, by rw [hck2.out, hSk.out]; exact hIJ.out, hB3.out⟩
          case measure => simp [intOf]; omega
    · obtain rfl : k = m + 1 := by omega
      have hcl := hCl.out (m + 1)
      generalize CC (m + 1) = cs at *
      have y := hIB.out.cell m (by omega)
      rw [show cs[m]'(by omega) = cs.getD m 0 from (getD_get (by omega)).symm] at y
      have hm0 : (0 : Int) ≤ (m : Int) := by omega
      have hm1 : (m : Int) < (m : Int) + 1 := by omega
      have hmw : IntKind.i64.wrap (m : Int) = (m : Int) := by rw [IntKind.wrap_i64]; omega
      generalize cs.getD m 0 = rr at *
      go_wp2
      go_ret2
      exact ⟨by rw [hR.out]; rfl, hBL.out⟩
end Go.Proofs.Ytdleiondfhmjdaa

/- CountCovers of the model. -/
namespace Go.Proofs.Ytdleiondfhmjdaa
open Go.RowKit
set_option linter.unusedVariables false
set_option maxRecDepth 100000

set_option maxHeartbeats 8000000 in
theorem cvCounts_any (L B : Nat) (A : Option Addr) (c : Nat) (es : List Nd) (w : World) (ht : treeR es = true) (hes : NS w L B A es) (hB : B ≤ w.heap.size) :
    Calls Try.prog 89 #[.slice A es.length c] w (fun e w' => ∃ g, e = .returned (.slice (some ⟨g, 0, none⟩) es.length es.length) ∧ w.heap.size ≤ g ∧ IB w' g 3 (ccTo es es.length) ∧ Below w.heap.size w w') := by
  have hg : good es = true := by unfold treeR at ht; simp only [Bool.and_eq_true] at ht; exact ht.1
  obtain ⟨hl1, hl24, hok⟩ := good_len hg
  have H2 := Lib.hid fun (k : Nat) (hk : k < es.length) (W : World) (hW : Below w.heap.size w W) => (show Calls Try.prog 80 #[.slice A es.length c, .int .i64 (k : Int)] W (OwnIs W ((tsN es k).map Ti.num)) from by rw [tsN_eq hk, ← numsTo_all]; exact cvTiles_any L B A c es k hk W (hes.below hW hB) (Nat.le_trans hB hW.size) hok)
  have H3 := Lib.hid fun (k : Nat) (hk : k < es.length) (x : Ti) (hx : x ∈ tsN es k) (W : World) (hW : Below w.heap.size w W) => (show Calls Try.prog 73 #[.slice A es.length c, .int .i64 (k : Int), .int .i64 x.num] W (TileM W (some x)) from by
    rw [tsN_eq hk] at hx
    obtain ⟨j, hj, rfl⟩ := List.getElem_of_mem hx
    obtain ⟨n, hn, he, hm⟩ := tilesL_at (es := es) es[k] hj
    rw [he, ← hm]
    exact cvTile_n L B A c es k hk n hn W (hes.below hW hB) (Nat.le_trans hB hW.size) hok)
  have hPs := Lib.hid fun (k : Nat) (hk : k < es.length) => tsN_ps hok hk
  have hP2 := Lib.hid fun (k : Nat) => @tsN_ps2 es k
  have hLn := Lib.hid fun (k : Nat) => (show (tsN es k).length ≤ 13 from tilesL_len _ _)
  have hSc := Lib.hid (ccTo_next es)
  have hCl := Lib.hid (ccTo_len es)
  have h00 := Lib.hid (ccTo_zero es)
  have hmk := run_make_ints es.length (by omega)
  clear ht hg hes hB hok
  generalize tsN es = TS at *
  generalize ccTo es = CC at *
  generalize es.length = n at *
  obtain ⟨m, rfl⟩ : ∃ m, n = m + 1 := ⟨n - 1, by omega⟩
  have hcm : ((m + 1 : Nat) : Int) = (m : Int) + 1 := by omega
  rw [hcm] at hmk
  have hT0 : Hid (IB (w.alloc (.cells (intCells (zeros (m + 1))) 3)) w.heap.size 3 (CC 0)) := by rw [h00.out]; exact heap_alloc_new w _
  have b1 := Lib.hid ((Below.refl w.heap.size w).alloc (Nat.le_refl _) (.cells (intCells (zeros (m + 1))) 3))
  go_enter Try.func89, Try.ntmps89
  go_wp2_with (fail)
  obtain ⟨g, hg0⟩ : ∃ g, g = w.heap.size := ⟨_, rfl⟩
  rw [← hg0]
  rw [← hg0] at hT0
  have hgw := Lib.hid (show w.heap.size ≤ g by omega)
  clear hg0
  generalize w.alloc (.cells (intCells (zeros (m + 1))) 3) = W1 at *
  go_loopw [18] (fun q wr => ∃ k : Nat, k ≤ m + 1 ∧ q = .int .i64 k ∧ IB wr g 3 (CC k) ∧ Below w.heap.size w wr) (fun q _ => m + 1 - (intOf q).toNat)
  case atStart => exact ⟨0, Nat.zero_le _, rfl, hT0.out, b1.out⟩
  case round =>
    obtain ⟨k, hk, rfl, hib, hbel⟩ := hrel
    have hIB := Lib.hid hib
    have hBL := Lib.hid hbel
    have hgl := hib.lt
    clear hib hbel
    by_cases hlt : k < m + 1
    · obtain ⟨wo, hwo⟩ : ∃ wo : World, wo = wr := ⟨_, rfl⟩
      rw [← hwo] at hIB hBL hgl ⊢
      clear hwo
      have hki : (k : Int) < (m : Int) + 1 := by omega
      have hC := Lib.hid (H2.out k hlt)
      have hC3 := Lib.hid (H3.out k hlt)
      have hSk := Lib.hid (hSc.out k)
      have hps := Lib.hid (hPs.out k hlt)
      have hps2 := Lib.hid (hP2.out k)
      have hlk := hLn.out k
      have hcl := Lib.hid (hCl.out k)
      generalize TS k = ts at *
      generalize hck : CC (k + 1) = ck' at *
      have hck2 := Lib.hid hck
      clear hck
      generalize CC k = cs at *
      go_wp2_with (fail)
      refine (hC.out _ hBL.out).mono ?_
      rintro e w2 ⟨TA, tc, rfl, hown, hb2⟩
      have hRS := Lib.hid hown.rs
      have hB2 := Lib.hid (hBL.out.trans (hb2.mono hBL.out.size))
      have hI2 := Lib.hid (hIB.out.below hb2 hgl)
      have hg2 := Nat.lt_of_lt_of_le hgl hb2.size
      have hml : (ts.map Ti.num).length = ts.length := List.length_map _
      rw [hml]
      clear hown hb2
      go_wp2_with (fail)
      go_loopw [25] (fun q wr => ∃ j : Nat, j ≤ ts.length ∧ q = .int .i64 j ∧ IB wr g 3 (cnTo k cs ts j) ∧ Chg g (g + 1) w2 wr) (fun q _ => ts.length - (intOf q).toNat)
      case atStart => exact ⟨0, Nat.zero_le _, rfl, hI2.out, Chg.refl _ _ _⟩
      case round =>
        obtain ⟨j, hj, rfl, hib, hch⟩ := hrel
        have hIJ := Lib.hid hib
        have hCJ := Lib.hid hch
        have hgr := hib.lt
        clear hib hch
        by_cases hltj : j < ts.length
        · obtain ⟨tb, to', rfl, ⟨_, htb⟩, hcc⟩ := (hRS.out.chg hCJ.out (Nat.le_refl _) (.inr hgl)) (by rw [hml]; omega)
          have x1 := hcc j (by rw [hml]; exact hltj)
          rw [List.getElem_map] at x1
          have hpj := Lib.hid (hps.out ts[j] (List.getElem_mem _))
          have hpl := hps2.out ts[j] (List.getElem_mem _)
          have hTi := Lib.hid (hC3.out ts[j] (List.getElem_mem _))
          have hSj := Lib.hid (cnTo_succ k cs hltj)
          have hcj := Lib.hid (cnTo_len k cs ts j)
          clear hcc
          generalize ts[j] = x at *
          obtain ⟨xn, ps, ins, xc⟩ := x
          dsimp only at x1 hpj hpl
          generalize hcn : cnTo k cs ts (j + 1) = cn' at *
          have hcn2 := Lib.hid hcn
          clear hcn
          generalize cnTo k cs ts j = cj at *
          have hBr := below_chg hB2.out hCJ.out hB2.out.size hgw.out
          go_wp2_with (fail)
          refine (hTi.out wr hBr).mono ?_
          rintro e Wx ⟨PA, pc, QA, qc, rfl, hp, _, hbx⟩
          dsimp only [Option.map_some, Option.getD_some] at hp
          have hIx := Lib.hid (hIJ.out.below hbx hgr)
          have hpx := Lib.hid hp.rs
          have hIs := Lib.hid fun v => hIx.out.set k v
          have hCs := Lib.hid fun v => (hCJ.out.trans (Chg.ofBelow hbx)).setCell (p := ⟨g, k, none⟩) ⟨Nat.le_refl _, Nat.lt_succ_self _⟩ v
          have hcl2 : cj.length = m + 1 := by rw [hcj.out, hcl.out]
          have hck := hIx.out.cell k (by omega)
          have hfk := hIx.out.frozen k
          have hgk : cj[k]'(by omega) = cj.getD k 0 := (getD_get (by omega)).symm
          rw [hgk] at hck
          clear hgk hp hBr hbx x1
          have hck0 := Lib.hid hck
          clear hck
          dsimp only [Option.map_some, Option.getD_some, Option.isSome_some]
          go_wp2_with (fail)
          go_loop [7, 39] (fun cq q => ∃ t : Nat, t ≤ ps.length ∧ q = .int .i64 t ∧ cq = .int .i64 (wyTo cj ps t)) (fun _ q => ps.length - (intOf q).toNat)
          case atStart => exact ⟨0, Nat.zero_le _, rfl, rfl⟩
          case round =>
            obtain ⟨t, ht, rfl, rfl⟩ := hrel
            by_cases hltt : t < ps.length
            · obtain ⟨pb, po, rfl, ⟨_, hpb⟩, hcc⟩ := hpx.out (by omega)
              have y1 := hcc t hltt
              have hpt := hpj.out ps[t] (List.getElem_mem _)
              have hS := Lib.hid (wyTo_succ cj hltt)
              clear hcc
              generalize ps[t] = pp at *
              obtain ⟨pn, rfl⟩ := Int.eq_ofNat_of_zero_le hpt.1
              have hpm : (pn : Int) < (m : Int) + 1 := by omega
              have hpn0 : (0 : Int) ≤ (pn : Int) := by omega
              have y2 := hIx.out.cell pn (by omega)
              rw [show cj[pn]'(by omega) = cj.getD pn 0 from (getD_get (by omega)).symm] at y2
              rw [Int.toNat_natCast] at hS
              generalize cj.getD pn 0 = cp at *
              generalize wyTo cj ps t = wt at *
              go_wp2
              go_round
              case rel => exact ⟨t + 1, by omega, by go_num, by rw [hS.out]⟩
              case measure => simp [intOf]; omega
            · obtain rfl : t = ps.length := by omega
              have hS := Lib.hid (show cn' = cj.set k (wrap64 (cj.getD k 0 + wyTo cj ps ps.length)) by rw [hSj.out]; rfl)
              have hck := hck0.out
              have hk0 : (0 : Int) ≤ (k : Int) := by omega
              generalize wyTo cj ps ps.length = wt at *
              generalize cj.getD k 0 = ck at *
              go_wp2
              go_roundw
              case rel => exact ⟨j + 1, by omega, by go_num, by rw [hcn2.out, hS.out]; exact hIs.out _, hCs.out _⟩
              case measure => simp [intOf]; omega
        · obtain rfl : j = ts.length := by omega
          have hB3 := Lib.hid (below_chg hB2.out hCJ.out hB2.out.size hgw.out)
          go_wp2
          go_roundw
          case rel => exact ⟨k + 1, by omega, by go_num, by rw [hck2.out, hSk.out]; exact hIJ.out, hB3.out⟩
          case measure => simp [intOf]; omega
    · obtain rfl : k = m + 1 := by omega
      go_wp2
      go_ret
      exact ⟨g, rfl, hgw.out, hIB.out, hBL.out⟩

set_option maxHeartbeats 4000000 in
theorem sCountCovers_any (L B : Nat) (A : Option Addr) (c : Nat) (es : List Nd) (w : World) (hl : es.length ≤ 1048576) (hes : NS w L B A es) (hB : B ≤ w.heap.size) :
    Calls Try.prog 47 #[.slice A es.length c] w (IntRes w (ccR es) (treeR es)) := by
  have H := Lib.hid (cvTree_any L B A c es w hl hes hB)
  cases ht : treeR es
  · have hR := Lib.hid (show ccR es = 0 by unfold ccR; rw [if_neg (by rw [ht]; decide)])
    rw [ht] at H
    clear ht
    go_enter Try.func47, Try.ntmps47
    go_wp2_with (go_at_call 78; refine H.out.mono ?_; rintro e w1 ⟨rfl, hb1⟩; have hbh := Lib.hid hb1; clear hb1)
    go_ret2
    exact ⟨by rw [hR.out]; rfl, hbh.out⟩
  have hR := Lib.hid (show ccR es = (ccTo es es.length).getD (es.length - 1) 0 by unfold ccR; rw [if_pos ht])
  have hl1 : 1 ≤ es.length := by unfold treeR at ht; simp only [Bool.and_eq_true] at ht; exact (good_len ht.1).1
  have hl24 : es.length ≤ 24 := by unfold treeR at ht; simp only [Bool.and_eq_true] at ht; exact (good_len ht.1).2.1
  have H2 := Lib.hid fun (W : World) (hW : Below w.heap.size w W) => cvCounts_any L B A c es W ht (hes.below hW hB) (Nat.le_trans hB hW.size)
  have hcl := ccTo_len es es.length
  rw [ht] at H
  clear ht hes hB
  generalize ccTo es es.length = cs at *
  generalize ccR es = res at *
  generalize es.length = n at *
  obtain ⟨m, rfl⟩ : ∃ m, n = m + 1 := ⟨n - 1, by omega⟩
  rw [Nat.add_sub_cancel] at hR
  have hm0 : (0 : Int) ≤ (m : Int) := by omega
  have hm1 : (m : Int) < (m : Int) + 1 := by omega
  have hmw : IntKind.i64.wrap (m : Int) = (m : Int) := by rw [IntKind.wrap_i64]; omega
  go_enter Try.func47, Try.ntmps47
  go_wp2_with (fail)
  refine H.out.mono ?_
  rintro e w1 ⟨rfl, hb1⟩
  have hbh := Lib.hid hb1
  clear hb1
  go_wp2_with (fail)
  refine (H2.out _ hbh.out).mono ?_
  rintro e w2 ⟨g, rfl, _, hib, hb2⟩
  have hbi := Lib.hid (hbh.out.trans (hb2.mono hbh.out.size))
  have y := hib.cell m (by omega)
  rw [show cs[m]'(by omega) = cs.getD m 0 from (getD_get (by omega)).symm] at y
  clear hib hb2 hcl
  generalize cs.getD m 0 = rr at *
  go_wp2
  go_ret2
  exact ⟨by rw [hR.out]; rfl, hbi.out⟩
end Go.Proofs.Ytdleiondfhmjdaa

/- CountCovers: the contracts as the law takes them. -/
namespace Go.Proofs.Ytdleiondfhmjdaa
open Go.RowKit
theorem sCountCovers_k (L B : Nat) (A : Option Addr) (c : Nat) (es : List Nd) (w : World) (hl : es.length ≤ 1048576) (hes : RS Nd.enc 4 w L B A es) (hB : B ≤ w.heap.size) :
    Calls Try.prog 47 #[.slice A es.length c] w (ResCountCovers (ccR es) (treeR es) w) := sCountCovers_any L B A c es w hl hes.ns hB
theorem iCountCovers_k (L B : Nat) (A : Option Addr) (c : Nat) (es : List Nd) (w : World) (hl : es.length ≤ 1048576) (hes : RS Nd.enc 4 w L B A es) (hB : B ≤ w.heap.size) :
    Calls Try.prog 48 #[.slice A es.length c] w (ResCountCovers (ccR es) (treeR es) w) := iCountCovers_any L B A c es w hl hes.ns hB
end Go.Proofs.Ytdleiondfhmjdaa

/- Arguments of the types []laws.Instr, laws.Instr and []int opened. -/
namespace Go.Proofs.Ytdleiondfhmjdaa
open Go.ChangeShapes Go.WideShapes Go.ChangeAt Go.RowKit Go.Deep
open Go.ChangeMaps (open_string shut_string)
set_option linter.unusedVariables false

theorem cellsIn : Try.prog.cellsOf 67 = 5 := by kernel_rfl
theorem cellsStr : Try.prog.cellsOf 9 = 1 := by kernel_rfl
theorem cellsInt : Try.prog.cellsOf 3 = 1 := by kernel_rfl

set_option maxRecDepth 100000 in
theorem in_of_trod {H : Type} {enc : TypeId × Value → H} {w : World} {base : Nat} {spare : Nat → Bool} {held : Bool} {n : Nat} {cs : List Value} {x : DataW H × List MemPlace}
    (h : DataW.trod enc Try.prog w base spare held n 67 cs = some x) : ∃ nd : In, cs = nd.enc ∧ nd.op.size ≤ maxLen := by
  obtain ⟨xs, m, _, _, hlen, hxl, hf⟩ := DataW.trod_struct Try.underlying67 h
  rw [cellsIn] at hlen
  match cs, hlen with
  | [c0, c1, c2, c3, c4], _ =>
    match xs, hxl with
    | [y0, y1, y2, y3, y4], _ =>
      have h0 := hf 0 _ rfl
      change DataW.trod enc Try.prog w base spare held m 9 (([c0, c1, c2, c3, c4].drop 0).take (Try.prog.cellsOf 9)) = _ at h0
      rw [cellsStr] at h0
      have h1 := hf 1 _ rfl
      change DataW.trod enc Try.prog w base spare held m 3 (([c0, c1, c2, c3, c4].drop 1).take (Try.prog.cellsOf 3)) = _ at h1
      rw [cellsInt] at h1
      have h2 := hf 2 _ rfl
      change DataW.trod enc Try.prog w base spare held m 3 (([c0, c1, c2, c3, c4].drop 2).take (Try.prog.cellsOf 3)) = _ at h2
      rw [cellsInt] at h2
      have h3 := hf 3 _ rfl
      change DataW.trod enc Try.prog w base spare held m 3 (([c0, c1, c2, c3, c4].drop 3).take (Try.prog.cellsOf 3)) = _ at h3
      rw [cellsInt] at h3
      have h4 := hf 4 _ rfl
      change DataW.trod enc Try.prog w base spare held m 3 (([c0, c1, c2, c3, c4].drop 4).take (Try.prog.cellsOf 3)) = _ at h4
      rw [cellsInt] at h4
      obtain ⟨s, e0, _, hs⟩ := DataW.trod_string Try.underlying9 h0
      obtain ⟨d, e1, _, _⟩ := DataW.trod_int Try.underlying3 h1
      obtain ⟨a, e2, _, _⟩ := DataW.trod_int Try.underlying3 h2
      obtain ⟨b, e3, _, _⟩ := DataW.trod_int Try.underlying3 h3
      obtain ⟨m, e4, _, _⟩ := DataW.trod_int Try.underlying3 h4
      have e0 : c0 = .string s := by simpa using e0
      have e1 : c1 = .int .i64 d := by simpa using e1
      have e2 : c2 = .int .i64 a := by simpa using e2
      have e3 : c3 = .int .i64 b := by simpa using e3
      have e4 : c4 = .int .i64 m := by simpa using e4
      exact ⟨⟨s, d, a, b, m⟩, by rw [e0, e1, e2, e3, e4]; rfl, hs⟩

theorem cell_lt_heap {w : World} {a : Addr} {v : Value} (h : w.cell? a = some v) : a.block < w.heap.size := by
  rcases Nat.lt_or_ge a.block w.heap.size with hlt | hge
  · exact hlt
  · unfold World.cell? at h; rw [Array.getElem?_eq_none hge] at h; simp at h

set_option maxRecDepth 100000 in
theorem x_of_trod {H : Type} {enc : TypeId × Value → H} {w : World} {r : Reach} {b0 : Nat} {spare : Nat → Bool} {held : Bool} {v : Value} {d : DataW H} {p : List MemPlace}
    (hv : Value.okWide Try.prog w r b0 67 v) (h : DataW.Trod enc Try.prog w 0 spare held 67 v d p) :
    ∃ x : In, v = .agg #[.string x.op, .int .i64 x.d, .int .i64 x.a, .int .i64 x.b, .int .i64 x.m] ∧ x.op.size ≤ 9223372036854775807 := by
  obtain ⟨cs, rfl, hsz⟩ := okWide_struct Try.underlying67 hv
  obtain ⟨fuel, hf⟩ := h
  obtain ⟨x, hx, hs⟩ := in_of_trod hf
  refine ⟨x, ?_, by unfold maxLen at hs; omega⟩
  obtain ⟨l⟩ := cs
  have hx' : l = x.enc := by simpa [Value.cells] using hx
  subst hx'; rfl

set_option maxRecDepth 100000 in
theorem ins_of_trod {H : Type} {enc : TypeId × Value → H} {w : World} {spare : Nat → Bool} {held : Bool} {A : Option Addr} {len cap : Nat} {d : DataW H} {p : List MemPlace}
    (h : DataW.Trod enc Try.prog w 0 spare held 22 (.slice A len cap) d p) :
    ∃ es : List In, es.length = len ∧ RS In.enc 5 w 0 w.heap.size A es ∧ (∀ n ∈ es, n.op.size ≤ 9223372036854775807) ∧ len ≤ 9223372036854775807 := by
  obtain ⟨fuel, hf⟩ := h
  rcases open_slice Try.underlying22 hf with ⟨hcs, _⟩ | ⟨a, l, c, m, n, D, Pl, hcs, _, hl, hm, hmm, _, hi⟩
  · simp [Value.cells] at hcs
    obtain ⟨rfl, rfl, rfl⟩ := hcs
    exact ⟨[], rfl, fun h => absurd h (by simp), (fun n hn => by cases hn), by omega⟩
  · simp [Value.cells] at hcs
    obtain ⟨rfl, rfl, rfl⟩ := hcs
    have hlm : len ≤ m := by rw [hmm]; split <;> omega
    have hex : ∀ i, i < len → ∃ nd : In, (∀ j v, nd.enc[j]? = some v → w.cell? (a.add (i * 5 + j)) = some v) ∧ nd.op.size ≤ maxLen := by
      intro i hil
      obtain ⟨cs', hc, ht⟩ := hi i (by omega)
      rw [cellsIn] at hc
      obtain ⟨nd, rfl, hs⟩ := in_of_trod ht
      obtain ⟨_, _, hat⟩ := World.cells?_some hc
      refine ⟨nd, fun j v hv => ?_, hs⟩
      have hj : j < 5 := kflat_lt In.hk hv
      have := hat j hj
      rw [add_add, hv] at this; exact this
    obtain ⟨f, hf2⟩ := Classical.axiomOfChoice (fun i : {i // i < len} => hex i.1 i.2)
    have hget : ∀ i (h : i < (List.ofFn fun i : Fin len => f ⟨i.1, i.2⟩).length), (List.ofFn fun i : Fin len => f ⟨i.1, i.2⟩)[i] = f ⟨i, by simpa using h⟩ := fun i h => by simp
    refine ⟨List.ofFn fun i : Fin len => f ⟨i.1, i.2⟩, by simp, ?_, ?_, by unfold maxLen at hm; omega⟩
    · intro hpos
      have hpos' : 0 < len := by simpa using hpos
      have h0 := (hf2 ⟨0, hpos'⟩).1 0 _ rfl
      obtain ⟨b, o, spot⟩ := a
      have hspot : spot = none := by have := World.cell?_spot h0; simpa [Addr.add] using this
      subst hspot
      have hadd : ∀ k, (⟨b, o, none⟩ : Addr).add k = ⟨b, o + k, none⟩ := fun k => by simp [Addr.add]
      refine ⟨b, o, rfl, ⟨Nat.zero_le _, ?_⟩, fun i hi j v hv => ?_⟩
      · rw [hadd] at h0
        exact cell_lt_heap h0
      · have hi' : i < len := by simpa using hi
        rw [hget i hi] at hv
        have := (hf2 ⟨i, hi'⟩).1 j v hv
        simp only [hadd, ← Nat.add_assoc] at this
        exact this
    · intro n hn
      obtain ⟨i, rfl⟩ := List.mem_ofFn.1 hn
      have := (hf2 ⟨i.1, i.2⟩).2
      unfold maxLen at this; omega

set_option maxRecDepth 100000 in
theorem ints_of_trod {H : Type} {enc : TypeId × Value → H} {w : World} {spare : Nat → Bool} {held : Bool} {A : Option Addr} {len cap : Nat} {d : DataW H} {p : List MemPlace}
    (h : DataW.Trod enc Try.prog w 0 spare held 23 (.slice A len cap) d p) :
    ∃ xs : List Int, xs.length = len ∧ IS w 0 w.heap.size A xs ∧ len ≤ 9223372036854775807 := by
  obtain ⟨fuel, hf⟩ := h
  rcases open_slice Try.underlying23 hf with ⟨hcs, _⟩ | ⟨a, l, c, m, n, D, Pl, hcs, _, hl, hm, hmm, _, hi⟩
  · simp [Value.cells] at hcs
    obtain ⟨rfl, rfl, rfl⟩ := hcs
    exact ⟨[], rfl, fun h => absurd h (by simp), by omega⟩
  · simp [Value.cells] at hcs
    obtain ⟨rfl, rfl, rfl⟩ := hcs
    have hlm : len ≤ m := by rw [hmm]; split <;> omega
    have hex : ∀ i, i < len → ∃ x : Int, w.cell? (a.add i) = some (.int .i64 x) := by
      intro i hil
      obtain ⟨cs', hc, ht⟩ := hi i (by omega)
      rw [cellsInt, Nat.mul_one] at hc
      obtain ⟨x, hx, _, _⟩ := DataW.trod_int Try.underlying3 ht
      obtain ⟨_, _, hat⟩ := World.cells?_some hc
      have := hat 0 (by omega)
      rw [add_add, hx] at this
      exact ⟨x, by simpa using this⟩
    obtain ⟨f, hf2⟩ := Classical.axiomOfChoice (fun i : {i // i < len} => hex i.1 i.2)
    have hget : ∀ i (h : i < (List.ofFn fun i : Fin len => f ⟨i.1, i.2⟩).length), (List.ofFn fun i : Fin len => f ⟨i.1, i.2⟩)[i] = f ⟨i, by simpa using h⟩ := fun i h => by simp
    refine ⟨List.ofFn fun i : Fin len => f ⟨i.1, i.2⟩, by simp, ?_, by unfold maxLen at hm; omega⟩
    intro hpos
    have hpos' : 0 < len := by simpa using hpos
    have h0 := hf2 ⟨0, hpos'⟩
    obtain ⟨b, o, spot⟩ := a
    have hspot : spot = none := by have := World.cell?_spot h0; simpa [Addr.add] using this
    subst hspot
    have hadd : ∀ k, (⟨b, o, none⟩ : Addr).add k = ⟨b, o + k, none⟩ := fun k => by simp [Addr.add]
    refine ⟨b, o, rfl, ⟨Nat.zero_le _, ?_⟩, fun i hi => ?_⟩
    · rw [hadd] at h0
      exact cell_lt_heap h0
    · have hi' : i < len := by simpa using hi
      rw [hget i hi]
      have := hf2 ⟨i, hi'⟩
      simp only [hadd] at this
      exact this
end Go.Proofs.Ytdleiondfhmjdaa

/- An argument of type []laws.Node opened as a list of nodes. -/
namespace Go.Proofs.Ytdleiondfhmjdaa
open Go.ChangeShapes Go.WideShapes Go.ChangeAt Go.RowKit Go.Deep
open Go.ChangeMaps (open_string shut_string)
set_option linter.unusedVariables false
set_option maxRecDepth 100000

theorem cellsNode : Try.prog.cellsOf 84 = 4 := by kernel_rfl

theorem node_of_trod {H : Type} {enc : TypeId × Value → H} {w : World} {base : Nat} {spare : Nat → Bool} {held : Bool} {n : Nat} {cs : List Value} {x : DataW H × List MemPlace}
    (h : DataW.trod enc Try.prog w base spare held n 84 cs = some x) : ∃ nd : Nd, cs = nd.cells ∧ nd.op.size ≤ maxLen := by
  obtain ⟨xs, m, _, _, hlen, hxl, hf⟩ := DataW.trod_struct Try.underlying84 h
  rw [cellsNode] at hlen
  match cs, hlen with
  | [c0, c1, c2, c3], _ =>
    match xs, hxl with
    | [y0, y1, y2, y3], _ =>
      have h0 := hf 0 _ rfl
      change DataW.trod enc Try.prog w base spare held m 9 (([c0, c1, c2, c3].drop 0).take (Try.prog.cellsOf 9)) = _ at h0
      rw [cellsStr] at h0
      have h1 := hf 1 _ rfl
      change DataW.trod enc Try.prog w base spare held m 3 (([c0, c1, c2, c3].drop 1).take (Try.prog.cellsOf 3)) = _ at h1
      rw [cellsInt] at h1
      have h2 := hf 2 _ rfl
      change DataW.trod enc Try.prog w base spare held m 3 (([c0, c1, c2, c3].drop 2).take (Try.prog.cellsOf 3)) = _ at h2
      rw [cellsInt] at h2
      have h3 := hf 3 _ rfl
      change DataW.trod enc Try.prog w base spare held m 3 (([c0, c1, c2, c3].drop 3).take (Try.prog.cellsOf 3)) = _ at h3
      rw [cellsInt] at h3
      obtain ⟨s, e0, _, hs⟩ := DataW.trod_string Try.underlying9 h0
      obtain ⟨a, e1, _, _⟩ := DataW.trod_int Try.underlying3 h1
      obtain ⟨b, e2, _, _⟩ := DataW.trod_int Try.underlying3 h2
      obtain ⟨v, e3, _, _⟩ := DataW.trod_int Try.underlying3 h3
      have e0 : c0 = .string s := by simpa using e0
      have e1 : c1 = .int .i64 a := by simpa using e1
      have e2 : c2 = .int .i64 b := by simpa using e2
      have e3 : c3 = .int .i64 v := by simpa using e3
      exact ⟨⟨s, a, b, v⟩, by rw [e0, e1, e2, e3]; rfl, hs⟩

theorem nodes_of_trod_ns {H : Type} {enc : TypeId × Value → H} {w : World} {spare : Nat → Bool} {held : Bool} {A : Option Addr} {len cap : Nat} {d : DataW H} {p : List MemPlace}
    (h : DataW.Trod enc Try.prog w 0 spare held 38 (.slice A len cap) d p) :
    ∃ es : List Nd, es.length = len ∧ NS w 0 w.heap.size A es ∧ (∀ n ∈ es, n.op.size ≤ 9223372036854775807) ∧ len ≤ 9223372036854775807 := by
  obtain ⟨fuel, hf⟩ := h
  rcases open_slice Try.underlying38 hf with ⟨hcs, _⟩ | ⟨a, l, c, m, n, D, Pl, hcs, _, hl, hm, hmm, _, hi⟩
  · simp [Value.cells] at hcs
    obtain ⟨rfl, rfl, rfl⟩ := hcs
    exact ⟨[], rfl, fun h => absurd h (by simp), (fun n hn => by cases hn), by omega⟩
  · simp [Value.cells] at hcs
    obtain ⟨rfl, rfl, rfl⟩ := hcs
    have hlm : len ≤ m := by rw [hmm]; split <;> omega
    have hex : ∀ i, i < len → ∃ nd : Nd, (w.cell? (a.add (i * 4)) = some (.string nd.op) ∧ w.cell? (a.add (i * 4 + 1)) = some (.int .i64 nd.a) ∧ w.cell? (a.add (i * 4 + 2)) = some (.int .i64 nd.b) ∧ w.cell? (a.add (i * 4 + 3)) = some (.int .i64 nd.v)) ∧ nd.op.size ≤ maxLen := by
      intro i hil
      obtain ⟨cs', hc, ht⟩ := hi i (by omega)
      rw [cellsNode] at hc
      obtain ⟨nd, rfl, hs⟩ := node_of_trod ht
      obtain ⟨_, _, hat⟩ := World.cells?_some hc
      refine ⟨nd, ⟨?_, ?_, ?_, ?_⟩, hs⟩
      · have := hat 0 (by omega); rw [add_add] at this; exact this
      · have := hat 1 (by omega); rw [add_add] at this; exact this
      · have := hat 2 (by omega); rw [add_add] at this; exact this
      · have := hat 3 (by omega); rw [add_add] at this; exact this
    obtain ⟨f, hf2⟩ := Classical.axiomOfChoice (fun i : {i // i < len} => hex i.1 i.2)
    have hget : ∀ i (h : i < (List.ofFn fun i : Fin len => f ⟨i.1, i.2⟩).length), (List.ofFn fun i : Fin len => f ⟨i.1, i.2⟩)[i] = f ⟨i, by simpa using h⟩ := fun i h => by simp
    refine ⟨List.ofFn fun i : Fin len => f ⟨i.1, i.2⟩, by simp, ?_, ?_, by unfold maxLen at hm; omega⟩
    · intro hpos
      have hpos' : 0 < len := by simpa using hpos
      have h0 := (hf2 ⟨0, hpos'⟩).1.1
      obtain ⟨b, o, spot⟩ := a
      have hspot : spot = none := by have := World.cell?_spot h0; simpa [Addr.add] using this
      subst hspot
      have hadd : ∀ k, (⟨b, o, none⟩ : Addr).add k = ⟨b, o + k, none⟩ := fun k => by simp [Addr.add]
      refine ⟨b, o, rfl, ⟨Nat.zero_le _, ?_⟩, fun i hi => ?_⟩
      · rw [hadd] at h0
        exact cell_lt_heap h0
      · have hi' : i < len := by simpa using hi
        rw [hget i hi]
        have := (hf2 ⟨i, hi'⟩).1
        simp only [hadd, ← Nat.add_assoc] at this
        exact this
    · intro n hn
      obtain ⟨i, rfl⟩ := List.mem_ofFn.1 hn
      have := (hf2 ⟨i.1, i.2⟩).2
      unfold maxLen at this; omega
theorem nodes_of_trod {H : Type} {enc : TypeId × Value → H} {w : World} {spare : Nat → Bool} {held : Bool} {A : Option Addr} {len cap : Nat} {d : DataW H} {p : List MemPlace}
    (h : DataW.Trod enc Try.prog w 0 spare held 38 (.slice A len cap) d p) :
    ∃ es : List Nd, es.length = len ∧ RS Nd.enc 4 w 0 w.heap.size A es ∧ (∀ n ∈ es, n.op.size ≤ 9223372036854775807) ∧ len ≤ 9223372036854775807 := by
  obtain ⟨es, h1, h2, h3⟩ := nodes_of_trod_ns h
  exact ⟨es, h1, h2.rs, h3⟩
end Go.Proofs.Ytdleiondfhmjdaa
