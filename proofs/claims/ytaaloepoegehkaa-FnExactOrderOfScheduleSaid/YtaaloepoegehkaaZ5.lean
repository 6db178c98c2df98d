/- Texts of this proof, one behind the other: NAZ, A, B2, C, D2, M2. -/
import Derived.Test.YtaaloepoegehkaaZ6
import Derived.Test.YtaaloepoegehkaaZ7
import Derived.Lib.Hide
import Derived.Test.YtaaloepoegehkaaCA
import Derived.WalkKit
import Derived.WalkSpells
import Derived.WalkLawsBesides
import Derived.Test.YtaaloepoegehkaaCV
import Derived.Test.YtaaloepoegehkaaN
import Derived.Test.YtaaloepoegehkaaHI
import Derived.Test.YtaaloepoegehkaaM
/- Chapter 9, plain: the list schedule, as both sides make it. -/
namespace Go.Proofs.Ytaaloepoegehkaa
open Go.RowKit
set_option linter.unusedVariables false
set_option maxRecDepth 100000

theorem chF_all {may : Nat → Bool} {hs : List Int} : ∀ {m}, (chF may hs m).2 = false → ∀ i, i < m → may i = false
  | 0, _, i, hi => absurd hi (Nat.not_lt_zero _)
  | m + 1, h, i, hi => by
    rw [chF] at h
    split at h
    · cases h
    · next h1 =>
      have ih := chF_all h
      rcases Nat.lt_or_ge i m with h2 | h2
      · exact ih i h2
      · obtain rfl : i = m := by omega
        cases hm : may i
        · rfl
        · rw [hm, h] at h1; simp at h1
theorem chF_congr {f g : Nat → Bool} {hs : List Int} : ∀ {m}, (∀ i, i < m → f i = g i) → chF f hs m = chF g hs m
  | 0, _ => rfl
  | m + 1, h => by
    rw [chF, chF, h m (Nat.lt_succ_self _), chF_congr fun i hi => h i (Nat.lt_succ_of_lt hi)]

/-- How many have begun. -/
def bgN (xs : List Int) : Nat := xs.countP fun x => decide (0 ≤ x)
theorem bgN_le (xs : List Int) : bgN xs ≤ xs.length := List.countP_le_length
theorem bgN_all {xs : List Int} (h : bgN xs = xs.length) : ∀ x ∈ xs, 0 ≤ x := fun x hx => by
  unfold bgN at h
  rw [List.countP_eq_length] at h
  exact of_decide_eq_true (h x hx)
theorem bgN_set {xs : List Int} {i : Nat} {v : Int} (h : i < xs.length) (h1 : xs.getD i 0 < 0) (h2 : 0 ≤ v) : bgN (xs.set i v) = bgN xs + 1 := by
  unfold bgN
  rw [List.countP_set h]
  rw [List.getD_eq_getElem?_getD, List.getElem?_eq_getElem h] at h1
  have h3 : decide (0 ≤ xs[i]) = false := decide_eq_false (by simp at h1; omega)
  have h4 : decide (0 ≤ v) = true := decide_eq_true h2
  simp [h3, h4]
theorem cntE_set {xs : List Int} {i : Nat} {v : Int} (h : i < xs.length) (h1 : xs.getD i 0 ≠ v) : cntE (xs.set i v) v = cntE xs v + 1 := by
  unfold cntE
  rw [← List.countP_eq_length_filter, ← List.countP_eq_length_filter, List.countP_set h]
  rw [List.getD_eq_getElem?_getD, List.getElem?_eq_getElem h] at h1
  have h3 : (xs[i] == v) = false := by simpa using h1
  simp [h3]
theorem cntE_zero {xs : List Int} {v : Int} (h : ∀ x ∈ xs, x < v) : cntE xs v = 0 := by
  unfold cntE
  rw [List.length_eq_zero_iff, List.filter_eq_nil_iff]
  intro x hx
  have := h x hx
  simp; omega
theorem hasI_false {xs : List Int} {n : Int} (h : hasI xs n = false) : ∀ x ∈ xs, x ≠ n := fun x hx e => by
  unfold hasI at h
  rw [List.any_eq_false] at h
  exact h x hx (by simpa using e)
theorem hasI_true {xs : List Int} {n : Int} (h : hasI xs n = true) : n ∈ xs := by
  unfold hasI at h
  rw [List.any_eq_true] at h
  obtain ⟨x, hx, e⟩ := h
  have : x = n := by simpa using e
  exact this ▸ hx
theorem bgN_lt {xs : List Int} (h : hasI xs (-1) = true) : bgN xs < xs.length := by
  have h1 := bgN_le xs
  rcases Nat.lt_or_ge (bgN xs) xs.length with h2 | h2
  · exact h2
  · have := bgN_all (by omega) _ (hasI_true h); omega

def lsCh (cs : List In) (hs xs : List Int) (now : Int) : Nat × Bool := chF (fun i => rdyB cs xs i now) hs cs.length
def lsIn (cs : List In) (hs : List Int) (now : Int) : Nat → List Int → List Int
  | 0, xs => xs
  | r + 1, xs => if (lsCh cs hs xs now).2 = true then lsIn cs hs now r (xs.set (lsCh cs hs xs now).1 now) else xs
def lsOut (cs : List In) (hs : List Int) (wide : Nat) : Nat → Int → List Int → List Int
  | 0, _, xs => xs
  | f + 1, now, xs => if hasI xs (-1) = true then lsOut cs hs wide f (now + 1) (lsIn cs hs now wide xs) else xs
/-- The list schedule. -/
def lsR (cs : List In) (wide : Nat) : List Int := lsOut cs (hL cs) wide 90 0 (noneL cs.length)

/-- At the head of a cycle. -/
structure LI (cs : List In) (xs : List Int) (now : Nat) : Prop where
  len : xs.length = cs.length
  bd : ∀ x ∈ xs, -1 ≤ x ∧ x < now
  cap : ∀ x ∈ xs, x < 0 ∨ x + 4 ≤ 4 * (bgN xs : Int)
  nw : hasI xs (-1) = true → now ≤ 4 * bgN xs
  n2 : now ≤ 77
/-- In a cycle, in which k have begun. -/
structure LJ (cs : List In) (xs : List Int) (now k : Nat) : Prop where
  len : xs.length = cs.length
  bd : ∀ x ∈ xs, -1 ≤ x ∧ x ≤ now
  cap : ∀ x ∈ xs, x < 0 ∨ x + 4 ≤ 4 * (bgN xs : Int)
  cnt : cntE xs now = k
  nw : now ≤ 4 * bgN xs
  k1 : 1 ≤ k → now + 4 ≤ 4 * bgN xs
  n2 : now ≤ 76

theorem LI.start (cs : List In) : LI cs (noneL cs.length) 0 := by
  have h : ∀ x ∈ noneL cs.length, x = -1 := fun x hx => by unfold noneL at hx; exact (List.mem_replicate.1 hx).2
  exact ⟨noneL_len _, fun x hx => by have := h x hx; omega, fun x hx => by have := h x hx; omega, fun _ => Nat.zero_le _, by omega⟩
theorem LI.begin {cs : List In} {xs : List Int} {now : Nat} (h20 : cs.length ≤ 20) (h : LI cs xs now) (hh : hasI xs (-1) = true) : LJ cs xs now 0 := by
  have h1 := h.nw hh
  have h2 := bgN_lt hh
  have h3 := h.len
  exact ⟨h.len, fun x hx => by have := h.bd x hx; omega, h.cap, cntE_zero fun x hx => (h.bd x hx).2, h1, fun h => by omega, by omega⟩
theorem lsCh_lt {cs : List In} {hs xs : List Int} {now : Int} (h : (lsCh cs hs xs now).2 = true) : (lsCh cs hs xs now).1 < cs.length ∧ xs.getD (lsCh cs hs xs now).1 0 < 0 := by
  have := chF_lt _ h
  refine ⟨this.1, ?_⟩
  have h2 := this.2
  unfold rdyB at h2
  rw [Bool.and_eq_true] at h2
  have h3 := h2.1
  simp at h3
  simp only [lsCh]
  rw [List.getD_eq_getElem?_getD]
  exact h3
theorem LJ.step {cs : List In} {hs xs : List Int} {now k : Nat} (h : LJ cs xs now k) (hc : (lsCh cs hs xs now).2 = true) : LJ cs (xs.set (lsCh cs hs xs now).1 now) now (k + 1) := by
  obtain ⟨h1, h2⟩ := lsCh_lt hc
  generalize (lsCh cs hs xs now).1 = i at *
  have hi : i < xs.length := by rw [h.len]; exact h1
  have hb := bgN_set (v := (now : Int)) hi h2 (by omega)
  have hw := h.nw
  refine ⟨by simp [h.len], fun x hx => ?_, fun x hx => ?_, by rw [cntE_set hi (by omega), h.cnt], by rw [hb]; omega, fun _ => by rw [hb]; omega, h.n2⟩
  · rcases List.mem_or_eq_of_mem_set hx with h3 | rfl
    · exact h.bd x h3
    · omega
  · rw [hb]
    rcases List.mem_or_eq_of_mem_set hx with h3 | rfl
    · have := h.cap x h3; omega
    · omega
theorem LJ.full {cs : List In} {xs : List Int} {now k : Nat} (h : LJ cs xs now k) (hk : 1 ≤ k) : LI cs xs (now + 1) := by
  have h1 := h.k1 hk
  exact ⟨h.len, fun x hx => by have := h.bd x hx; omega, h.cap, fun _ => by omega, by have := h.n2; omega⟩
theorem getD_mem {xs : List Int} {q : Nat} (h : q < xs.length) : xs.getD q 0 ∈ xs := by
  rw [List.getD_eq_getElem?_getD, List.getElem?_eq_getElem h]; exact List.getElem_mem h
theorem least_neg {xs : List Int} (h : hasI xs (-1) = true) : ∃ i, i < xs.length ∧ xs.getD i 0 < 0 ∧ ∀ q, q < i → 0 ≤ xs.getD q 0 := by
  have h1 := hasI_true h
  clear h
  induction xs with
  | nil => simp at h1
  | cons y ys ih =>
    by_cases hy : 0 ≤ y
    · rcases List.mem_cons.1 h1 with e | e
      · omega
      · obtain ⟨i, h2, h3, h4⟩ := ih e
        refine ⟨i + 1, by simp; omega, by simpa using h3, fun q hq => ?_⟩
        cases q with
        | zero => simpa using hy
        | succ q => simpa using h4 q (by omega)
    · exact ⟨0, by simp, by simp; omega, fun q hq => by omega⟩
theorem LJ.none {cs : List In} {hs xs : List Int} {now k : Nat} (h : LJ cs xs now k) (hc : (lsCh cs hs xs now).2 = false) : LI cs xs (now + 1) := by
  rcases Nat.eq_zero_or_pos k with h0 | h0
  · refine ⟨h.len, fun x hx => by have := h.bd x hx; omega, h.cap, fun hh => ?_, by have := h.n2; omega⟩
    have hw := h.nw
    rcases Nat.lt_or_ge now (4 * bgN xs) with h1 | h1
    · omega
    · exfalso
      obtain ⟨i, h2, h3, h4⟩ := least_neg hh
      have h5 := chF_all hc i (by rw [← h.len]; exact h2)
      unfold rdyB at h5
      have h6 : decide (0 ≤ xs.getD i 0) = false := decide_eq_false (by omega)
      rw [h6] at h5
      have h7 : rqP cs xs i now cs.length = true := by
        unfold rqP
        rw [List.all_eq_true]
        intro q hq
        unfold rqB
        by_cases h8 : 0 ≤ dT cs q i
        · have h9 := dT_lt_of h8
          have h10 := h4 q h9
          have h11 := h.cap _ (getD_mem (show q < xs.length by omega))
          have h12 := dT_bd cs q i
          rw [decide_eq_true h8, decide_eq_false (by omega : ¬ xs.getD q 0 < 0), decide_eq_false (by omega : ¬ (now : Int) < xs.getD q 0 + dT cs q i)]; rfl
        · rw [decide_eq_false h8]; rfl
      rw [h7] at h5; cases h5
  · exact h.full h0

/-- The state at the head of a cycle, and in it. -/
def OutSt (cs : List In) (wide : Nat) (xs : List Int) (now : Nat) : Prop := LI cs xs now ∧ lsOut cs (hL cs) wide (90 - now) now xs = lsR cs wide
def InSt (cs : List In) (wide : Nat) (xs : List Int) (now room : Nat) : Prop := room ≤ wide ∧ LJ cs xs now (wide - room) ∧ lsOut cs (hL cs) wide (90 - (now + 1)) ((now : Int) + 1) (lsIn cs (hL cs) now room xs) = lsR cs wide
theorem OutSt.start (cs : List In) (wide : Nat) : OutSt cs wide (noneL cs.length) 0 := ⟨LI.start cs, rfl⟩
theorem OutSt.done {cs : List In} {wide : Nat} {xs : List Int} {now : Nat} (h : OutSt cs wide xs now) (hh : hasI xs (-1) = false) : xs = lsR cs wide := by
  have h1 := h.1.n2
  have h2 := h.2
  obtain ⟨f, hf⟩ : ∃ f, 90 - now = f + 1 := ⟨89 - now, by omega⟩
  rw [hf, lsOut, hh] at h2
  simpa using h2
theorem OutSt.begin {cs : List In} {wide : Nat} {xs : List Int} {now : Nat} (h20 : cs.length ≤ 20) (h : OutSt cs wide xs now) (hh : hasI xs (-1) = true) : InSt cs wide xs now wide := by
  have h1 := h.1.n2
  have h2 := h.2
  obtain ⟨f, hf⟩ : ∃ f, 90 - now = f + 1 := ⟨89 - now, by omega⟩
  rw [hf, lsOut, hh, if_pos rfl] at h2
  refine ⟨Nat.le_refl _, by rw [Nat.sub_self]; exact h.1.begin h20 hh, ?_⟩
  rw [show 90 - (now + 1) = f by omega]; exact h2
theorem InSt.full {cs : List In} {wide : Nat} {xs : List Int} {now : Nat} (hw : 1 ≤ wide) (h : InSt cs wide xs now 0) : OutSt cs wide xs (now + 1) :=
  ⟨h.2.1.full (by omega), by have := h.2.2; rw [lsIn] at this; exact_mod_cast this⟩
theorem InSt.step {cs : List In} {wide : Nat} {xs : List Int} {now room : Nat} (h : InSt cs wide xs now (room + 1)) (hc : (lsCh cs (hL cs) xs now).2 = true) : InSt cs wide (xs.set (lsCh cs (hL cs) xs now).1 now) now room := by
  have h0 := h.1
  have h1 := h.2.1.step hc
  have h2 := h.2.2
  rw [lsIn, if_pos hc] at h2
  exact ⟨by omega, by rw [show wide - room = wide - (room + 1) + 1 by omega]; exact h1, h2⟩
theorem InSt.none {cs : List In} {wide : Nat} {xs : List Int} {now room : Nat} (h : InSt cs wide xs now (room + 1)) (hc : (lsCh cs (hL cs) xs now).2 = false) : OutSt cs wide xs (now + 1) := by
  have h2 := h.2.2
  rw [lsIn, if_neg (by rw [hc]; exact Bool.false_ne_true)] at h2
  exact ⟨h.2.1.none hc, by exact_mod_cast h2⟩
theorem OutSt.facts {cs : List In} {wide : Nat} {xs : List Int} {now : Nat} (h : OutSt cs wide xs now) : xs.length = cs.length ∧ now ≤ 77 ∧ ∀ x ∈ xs, -1 ≤ x ∧ x ≤ 76 :=
  ⟨h.1.len, h.1.n2, fun x hx => by have := h.1.bd x hx; have := h.1.n2; omega⟩
theorem InSt.facts {cs : List In} {wide : Nat} {xs : List Int} {now room : Nat} (h : InSt cs wide xs now room) : xs.length = cs.length ∧ now ≤ 76 ∧ (∀ x ∈ xs, -1 ≤ x ∧ x ≤ 76) ∧ cntE xs now + room = wide := by
  have := h.1
  have h2 := h.2.1.cnt
  exact ⟨h.2.1.len, h.2.1.n2, fun x hx => by have := h.2.1.bd x hx; have := h.2.1.n2; omega, by omega⟩

/- What the program keeps: 101 for what has not begun. -/
def unb (xs : List Int) : List Int := xs.map fun x => if x < 0 then 101 else x
theorem unb_len (xs : List Int) : (unb xs).length = xs.length := by unfold unb; exact List.length_map ..
theorem unb_none (n : Nat) : unb (noneL n) = List.replicate n 101 := by unfold unb noneL; rw [List.map_replicate]; rfl
theorem unb_set (xs : List Int) (i : Nat) {v : Int} (h : 0 ≤ v) : unb (xs.set i v) = (unb xs).set i v := by
  unfold unb; rw [List.map_set, if_neg (by omega)]
theorem unb_at {xs : List Int} {q : Nat} (h : q < xs.length) : (unb xs).getD q 0 = if xs.getD q 0 < 0 then 101 else xs.getD q 0 := by
  rw [List.getD_eq_getElem?_getD, List.getElem?_eq_getElem (by rw [unb_len]; exact h), List.getD_eq_getElem?_getD, List.getElem?_eq_getElem h]
  simp [unb]
theorem unb_bd {xs : List Int} (h : ∀ x ∈ xs, -1 ≤ x ∧ x ≤ 76) : ∀ x ∈ unb xs, 0 ≤ x ∧ x ≤ 101 := fun x hx => by
  unfold unb at hx
  rw [List.mem_map] at hx
  obtain ⟨y, hy, rfl⟩ := hx
  have := h y hy
  split <;> omega
theorem unb_eq {xs : List Int} (h : ∀ x ∈ xs, -1 ≤ x ∧ x ≤ 76) (hh : hasI xs (-1) = false) : unb xs = xs := by
  unfold unb
  rw [List.map_congr_left (g := id) fun x hx => by
    have h1 := h x hx
    have h2 := hasI_false hh x hx
    rw [if_neg (by omega)]; rfl]
  simp
theorem unb_has {xs : List Int} (h : ∀ x ∈ xs, -1 ≤ x ∧ x ≤ 76) : hasI (unb xs) 101 = hasI xs (-1) := by
  unfold hasI unb
  rw [List.any_map, Bool.eq_iff_iff, List.any_eq_true, List.any_eq_true]
  constructor
  · rintro ⟨x, hx, e⟩
    have h1 := h x hx
    refine ⟨x, hx, ?_⟩
    simp only [Function.comp] at e
    split at e
    · simp; omega
    · simp at e; omega
  · rintro ⟨x, hx, e⟩
    refine ⟨x, hx, ?_⟩
    have : x = -1 := by simpa using e
    subst this
    simp
theorem unb_cnt {xs : List Int} {now : Nat} (hn : now ≤ 76) : cntE (unb xs) now = cntE xs now := by
  unfold cntE unb
  rw [List.filter_map, List.length_map]
  congr 1
  refine List.filter_congr fun x _ => ?_
  simp only [Function.comp]
  split
  · rw [Bool.eq_iff_iff]; simp; omega
  · rfl
theorem lcFrom_le {cyc : List Int} {b : Int} : ∀ {ns : List (Int × Int)} {a : Int}, ns.foldl (fun m d => max m (cyc.getD d.1.toNat 0 + d.2)) a ≤ b ↔ a ≤ b ∧ ∀ d ∈ ns, cyc.getD d.1.toNat 0 + d.2 ≤ b
  | [], a => by simp
  | d :: ns, a => by
    rw [List.foldl_cons, lcFrom_le]
    constructor
    · rintro ⟨h1, h2⟩
      refine ⟨by omega, fun e he => ?_⟩
      rcases List.mem_cons.1 he with rfl | he
      · omega
      · exact h2 e he
    · rintro ⟨h1, h2⟩
      have := h2 d (by simp)
      exact ⟨by omega, fun e he => h2 e (by simp [he])⟩
theorem lcF_leB {cyc : List Int} {b : Int} {ns : List (Int × Int)} (hb : 0 ≤ b) : lcF cyc ns ≤ b ↔ ∀ d ∈ ns, cyc.getD d.1.toNat 0 + d.2 ≤ b := by
  unfold lcF
  rw [lcFrom_le]
  exact ⟨fun h => h.2, fun h => ⟨hb, h⟩⟩
theorem mem_ndL2 {cs : List In} {i j k : Nat} (hk : i < k) (h : 0 ≤ dT cs i j) : ((i : Int), dT cs i j) ∈ ndL cs j k := by
  unfold ndL
  rw [List.mem_filterMap]
  exact ⟨i, by simpa using hk, by unfold ndEnt; rw [if_pos h]⟩
theorem lsM_eq {cs : List In} {xs : List Int} {now : Nat} (hl : xs.length = cs.length) (hn : now ≤ 76) (hb : ∀ x ∈ xs, -1 ≤ x ∧ x ≤ 76) {i : Nat} (hi : i < cs.length) : lsM cs (unb xs) now i = rdyB cs xs i now := by
  have hg := hb _ (getD_mem (show i < xs.length by omega))
  unfold lsM rdyB
  rw [unb_at (by omega)]
  congr 1
  · clear hb
    generalize xs.getD i 0 = y at *
    by_cases hy : y < 0
    · rw [if_pos hy, decide_eq_false (by omega : ¬ 0 ≤ y)]; rfl
    · rw [if_neg hy, decide_eq_true (by omega : 0 ≤ y), decide_eq_false (by omega : ¬ y = 101)]; rfl
  · rw [Bool.eq_iff_iff, decide_eq_true_iff, lcF_leB (by omega)]
    unfold rqP
    rw [List.all_eq_true]
    constructor
    · intro h q hq
      have hq' : q < cs.length := by simpa using hq
      unfold rqB
      by_cases h8 : 0 ≤ dT cs q i
      · have h1 := h _ (mem_ndL2 hq' h8)
        simp only [Int.toNat_natCast] at h1
        rw [unb_at (by omega)] at h1
        have h9 : ¬ xs.getD q 0 < 0 := by
          intro h10
          rw [if_pos h10] at h1; omega
        rw [if_neg h9] at h1
        rw [decide_eq_true h8, decide_eq_false h9, decide_eq_false (by omega)]; rfl
      · rw [decide_eq_false h8]; rfl
    · intro h d hd
      obtain ⟨q, h1, h2, h3, rfl⟩ := mem_ndL hd
      have h4 := h q (by simpa using h2)
      unfold rqB at h4
      rw [decide_eq_true h3] at h4
      simp only [Bool.true_and, Bool.not_eq_true', Bool.or_eq_false_iff, decide_eq_false_iff_not] at h4
      simp only [Int.toNat_natCast]
      rw [unb_at (by omega), if_neg h4.1]
      have := h4.2
      omega
theorem lsM_ch {cs : List In} {hs xs : List Int} {now : Nat} (hl : xs.length = cs.length) (hn : now ≤ 76) (hb : ∀ x ∈ xs, -1 ≤ x ∧ x ≤ 76) : chF (lsM cs (unb xs) now) hs cs.length = lsCh cs hs xs now :=
  chF_congr fun i hi => lsM_eq hl hn hb hi
theorem unb_ok {cs : List In} {xs : List Int} (hl : xs.length = cs.length) (hb : ∀ x ∈ xs, -1 ≤ x ∧ x ≤ 76) : ∀ i, i < cs.length → NdOk (unb xs) (ndL cs i cs.length) := fun i hi d hd => by
  obtain ⟨q, h1, h2, h3, rfl⟩ := mem_ndL hd
  have h4 := dT_bd cs q i
  have h5 : q < (unb xs).length := by rw [unb_len]; omega
  have h6 := unb_bd hb _ (getD_mem h5)
  refine ⟨⟨by simp, by simpa using h5⟩, ⟨h3, h4.2⟩, ?_⟩
  simp only [Int.toNat_natCast]
  omega
end Go.Proofs.Ytaaloepoegehkaa

namespace Go.Proofs.Ytaaloepoegehkaa
open Go.RowKit

theorem l1In_any (n lo hi : Int) (w : World) :
    Calls Try.prog 116 #[.int .i64 n, .int .i64 lo, .int .i64 hi] w fun e w' => e = .returned (.bool (decide (lo ≤ n) && decide (n ≤ hi))) ∧ w = w' := by
  by_cases h1 : lo ≤ n
  · by_cases h2 : n ≤ hi
    all_goals
      go_enter Try.func116, Try.ntmps116
      go_wp2
      go_ret
      exact ⟨by simp [*], rfl⟩
  · go_enter Try.func116, Try.ntmps116
    go_wp2
    go_ret
    exact ⟨by simp; omega, rfl⟩

theorem exOne_any (s : ByteArray) (w : World) :
    Calls Try.prog 238 #[.string s] w fun e w' => e = .returned (.bool (isOne s)) ∧ w = w' := by
  unfold isOne
  go_enter Try.func238, Try.ntmps238
  go_wp2
  all_goals go_ret
  all_goals exact ⟨by simp [*], rfl⟩

theorem exWord_any (n : Int) (w : World) :
    Calls Try.prog 237 #[.int .i64 n] w fun e w' => e = .returned (.bool (decide (0 ≤ n) && decide (n ≤ 63))) ∧ w = w' := by
  go_enter Try.func237, Try.ntmps237
  go_wp2_with (go_at_call 116; refine (l1In_any _ _ _ _).mono ?_; rintro e w' ⟨rfl, rfl⟩)
  go_ret
  exact ⟨by simp, rfl⟩

set_option maxHeartbeats 4000000 in
theorem operandCount_any (s : ByteArray) (w : World) :
    Calls Try.prog 226 #[.string s] w fun e w' => e = .returned (.int .i64 (ar s)) ∧ w = w' := by
  have H0 : ∀ k : Int, (ar s = k) → Hid (ar s = k) := fun _ h => h
  rcases op_cases s with h|h|h|h|h|h|h|h|h|h|h|h|h|h|h
  · have H := H0 0 (by simp [ar, isIn, isConst, h]); clear H0
    go_enter Try.func226, Try.ntmps226
    go_wp2
    go_ret
    exact ⟨by rw [H.out]; rfl, rfl⟩
  · have H := H0 0 (by simp [ar, isIn, isConst, h]); clear H0
    go_enter Try.func226, Try.ntmps226
    go_wp2
    go_ret
    exact ⟨by rw [H.out]; rfl, rfl⟩
  · have H := H0 1 (by simp [ar, isIn, isConst, isOne, h]); clear H0
    go_enter Try.func226, Try.ntmps226
    go_wp2
    go_ret
    exact ⟨by rw [H.out]; rfl, rfl⟩
  · have H := H0 1 (by simp [ar, isIn, isConst, isOne, h]); clear H0
    go_enter Try.func226, Try.ntmps226
    go_wp2
    go_ret
    exact ⟨by rw [H.out]; rfl, rfl⟩
  · have H := H0 2 (by simp [ar, isIn, isConst, isOne, isTwo, twoOps, h]); clear H0
    go_enter Try.func226, Try.ntmps226
    go_wp2
    go_ret
    exact ⟨by rw [H.out]; rfl, rfl⟩
  iterate 9
    · have H := H0 2 (by simp [ar, isIn, isConst, isOne, isTwo, twoOps, h]); clear H0
      go_enter Try.func226, Try.ntmps226
      go_wp2
      go_ret
      exact ⟨by rw [H.out]; rfl, rfl⟩
  · obtain ⟨h1, h2, h3, h4, h5, h6, h7, h8, h9, h10, h11, h12, h13, h14⟩ := h
    have H := H0 (-1) (by
      have f : ∀ t : List UInt8, (s.toList == t) = false → (t == s.toList) = false := fun t h => by
        rw [beq_eq_false_iff_ne] at h ⊢; exact Ne.symm h
      simp only [ar, isIn, isConst, isOne, isTwo, twoOps, List.any_cons, List.any_nil, h1, h2, h3, h4, f _ h5, f _ h6, f _ h7, f _ h8, f _ h9, f _ h10, f _ h11, f _ h12, f _ h13, f _ h14, Bool.or_false, Bool.false_eq_true, if_false]); clear H0
    go_enter Try.func226, Try.ntmps226
    go_wp2
    go_ret
    exact ⟨by rw [H.out]; rfl, rfl⟩

/-- l1HasS over a slice of strings. -/
def hasS (ss : List ByteArray) (s : ByteArray) : Bool := ss.any fun t => t.toList == s.toList
theorem l1HasS_any (b o c : Nat) (ss : List ByteArray) (s : ByteArray) (w : World) (hl : ss.length ≤ 1000) (hc : ∀ k (h : k < ss.length), w.cell? ⟨b, o + k, none⟩ = some (.string ss[k])) :
    Calls Try.prog 177 #[.slice (some ⟨b, o, none⟩) ss.length c, .string s] w fun e w' => e = .returned (.bool (hasS ss s)) ∧ w = w' := by
  go_enter Try.func177, Try.ntmps177
  go_wp2
  go_loop [6, 9] (fun _ i => ∃ k : Nat, k ≤ ss.length ∧ i = .int .i64 k ∧ hasS (ss.take k) s = false) (fun _ i => ss.length - (intOf i).toNat)
  case atStart => exact ⟨0, Nat.zero_le _, rfl, rfl⟩
  case round =>
    obtain ⟨k, hk, rfl, hh⟩ := hrel
    have hH := Lib.hid hh; clear hh
    by_cases hlt : k < ss.length
    · have hcell := hc k hlt
      have hs : hasS (ss.take (k+1)) s = (hasS (ss.take k) s || (ss[k].toList == s.toList)) := by
        unfold hasS; rw [List.take_succ_eq_append_getElem hlt, List.any_append]; simp
      have hle : hasS (ss.take (k+1)) s = true → hasS ss s = true := by
        unfold hasS; intro h; rw [List.any_eq_true] at h ⊢; obtain ⟨x, hx, h⟩ := h; exact ⟨x, List.mem_of_mem_take hx, h⟩
      have hS := Lib.hid hs; have hL := Lib.hid hle; clear hs hle
      go_wp2
      · go_ret
        exact ⟨ret_bool (hL.out (by rw [hS.out, hH.out]; simp [*])).symm, rfl⟩
      · go_round
        case rel => exact ⟨k + 1, by omega, by go_num, by rw [hS.out, hH.out]; simp [*]⟩
        case measure => simp [intOf]; omega
    · obtain rfl : k = ss.length := by omega
      go_wp2
      go_ret
      exact ⟨ret_bool (by have := hH.out; rw [List.take_length] at this; rw [this]), rfl⟩
end Go.Proofs.Ytaaloepoegehkaa

namespace Go.Proofs.Ytaaloepoegehkaa
open Go.RowKit

def opArr : Array Value := #[.string ⟨#[97,100,100]⟩, .string ⟨#[115,117,98]⟩, .string ⟨#[109,117,108]⟩, .string ⟨#[97,110,100]⟩, .string ⟨#[111,114]⟩, .string ⟨#[120,111,114]⟩, .string ⟨#[115,104,108]⟩, .string ⟨#[115,104,114]⟩, .string ⟨#[108,101,115,115]⟩, .string ⟨#[101,113]⟩]
def opList : List ByteArray := [⟨#[97,100,100]⟩, ⟨#[115,117,98]⟩, ⟨#[109,117,108]⟩, ⟨#[97,110,100]⟩, ⟨#[111,114]⟩, ⟨#[120,111,114]⟩, ⟨#[115,104,108]⟩, ⟨#[115,104,114]⟩, ⟨#[108,101,115,115]⟩, ⟨#[101,113]⟩]
theorem hasS_ops (s : ByteArray) : hasS opList s = isTwo s := by
  have e : opList.map ByteArray.toList = twoOps := by decide +kernel
  unfold hasS isTwo; rw [← e, List.any_map]; rfl

theorem exOps_any (w : World) : Calls Try.prog 244 #[] w fun e w' => e = .returned (.slice (some ⟨w.heap.size, 0, none⟩) 10 10) ∧ w.alloc (.cells opArr 9) = w' := by
  go_enter Try.func244, Try.ntmps244
  go_wp2
  go_ret
  exact ⟨rfl, rfl⟩

theorem opArr_cell (k : Nat) (h : k < opList.length) : opArr[k]? = some (.string opList[k]) := by
  match k, h with
  | 0, _ => rfl
  | 1, _ => rfl
  | 2, _ => rfl
  | 3, _ => rfl
  | 4, _ => rfl
  | 5, _ => rfl
  | 6, _ => rfl
  | 7, _ => rfl
  | 8, _ => rfl
  | 9, _ => rfl

theorem exTwo_any (s : ByteArray) (w : World) :
    Calls Try.prog 239 #[.string s] w fun e w' => e = .returned (.bool (isTwo s)) ∧ w.alloc (.cells opArr 9) = w' := by
  have HS := fun c => l1HasS_any w.heap.size 0 c opList s (w.alloc (.cells opArr 9)) (by decide) (fun k h => by
    rw [Nat.zero_add, cell_of_row _ w.heap.size k opArr 9 (0,0) (heap_alloc_new _ _)]; exact opArr_cell k h)
  rw [hasS_ops] at HS
  have HH := Lib.hid HS; clear HS
  go_enter Try.func239, Try.ntmps239
  go_wp2_with (fail)
  refine (exOps_any _).mono ?_
  rintro e w' ⟨rfl, rfl⟩
  go_wp2_with (fail)
  refine (HH.out _).mono ?_
  rintro e w' ⟨rfl, rfl⟩
  go_wp2
  go_ret
  exact ⟨rfl, rfl⟩
theorem ar_cases (s : ByteArray) : (ar s = 0 ∧ isOne s = false ∧ isTwo s = false) ∨ (ar s = 1 ∧ isOne s = true ∧ isTwo s = false) ∨ (ar s = 2 ∧ isOne s = false ∧ isTwo s = true) ∨ (ar s = -1 ∧ isOne s = false ∧ isTwo s = false) := by
  rcases op_cases s with h|h|h|h|h|h|h|h|h|h|h|h|h|h|h
  iterate 2 (· left; simp [ar, isIn, isConst, isOne, isTwo, twoOps, h])
  iterate 2 (· right; left; simp [ar, isIn, isConst, isOne, isTwo, twoOps, h])
  iterate 10 (· right; right; left; simp [ar, isIn, isConst, isOne, isTwo, twoOps, h])
  right; right; right
  obtain ⟨h1, h2, h3, h4, h5, h6, h7, h8, h9, h10, h11, h12, h13, h14⟩ := h
  have f : ∀ t : List UInt8, (s.toList == t) = false → (t == s.toList) = false := fun t h => by
    rw [beq_eq_false_iff_ne] at h ⊢; exact Ne.symm h
  simp only [ar, isIn, isConst, isOne, isTwo, twoOps, List.any_cons, List.any_nil, h1, h2, h3, h4, f _ h5, f _ h6, f _ h7, f _ h8, f _ h9, f _ h10, f _ h11, f _ h12, f _ h13, f _ h14, Bool.or_false, Bool.false_eq_true, if_false]
  simp

end Go.Proofs.Ytaaloepoegehkaa

namespace Go.Proofs.Ytaaloepoegehkaa
open Go.RowKit

set_option maxHeartbeats 1000000 in
theorem isLeafValue_any (s : ByteArray) (a b v : Int) (w : World) :
    Calls Try.prog 227 #[.agg #[.string s, .int .i64 a, .int .i64 b, .int .i64 v]] w fun e w' => e = .returned (.bool (leafV s v)) ∧ Below w.heap.size w w' := by
  have hB := Below.refl w.heap.size w
  have hB1 := fun o => hB.alloc (Nat.le_refl _) o
  cases h : isIn s
  · have h' : (s.toList == [105, 110]) = false := h
    have hr : Hid (leafV s v = isW v) := by simp [Hid, leafV, h]
    rw [hr.out]
    go_enter Try.func227, Try.ntmps227
    go_wp2_with (go_at_call 137; refine (isWord_any _ _).mono ?_; rintro e w' ⟨rfl, rfl⟩)
    go_ret
    exact ⟨rfl, hB1 _⟩
  · have h' : s.toList = [105, 110] := by simpa [isIn] using h
    have hr : Hid (leafV s v = inR v 0 1) := by simp [Hid, leafV, h]
    go_enter Try.func227, Try.ntmps227
    go_wp2
    all_goals go_ret
    all_goals exact ⟨ret_bool (by have := hr.out; simp_all <;> (rw [Bool.eq_iff_iff]; simp [inR] <;> omega)), hB1 _⟩

set_option maxHeartbeats 4000000 in
theorem isNodeAt_any (s : ByteArray) (a b v i : Int) (w : World) :
    Calls Try.prog 207 #[.agg #[.string s, .int .i64 a, .int .i64 b, .int .i64 v], .int .i64 i] w fun e w' => e = .returned (.bool (isNode ⟨s, a, b, v⟩ i)) ∧ Below w.heap.size w w' := by
  have hB := Below.refl w.heap.size w
  have hB1 := fun o => hB.alloc (Nat.le_refl _) o
  rcases ar_cases s with ⟨har, h3, h4⟩|⟨har, h3, h4⟩|⟨har, h3, h4⟩|⟨har, h3, h4⟩
  · have hr : Hid (∀ a b, isNode ⟨s, a, b, v⟩ i = (a == 0 && b == 0 && leafV s v)) := by
      have hio : isIn s = true ∨ isConst s = true := by
        unfold ar at har; cases h1 : isIn s <;> cases h2 : isConst s <;> simp [h1, h2, h3, h4] at har ⊢
      intro a b
      simp only [isNode, leafV]; cases h1 : isIn s <;> cases h2 : isConst s <;> simp [h1, h2] at hio ⊢
    go_enter Try.func207, Try.ntmps207
    go_wp2_with (first | (go_at_call 226; refine (operandCount_any _ _).mono ?_; rintro e w' ⟨rfl, rfl⟩) | (go_at_call 227; refine (isLeafValue_any _ _ _ _ _).mono ?_; rintro e w' ⟨rfl, hb1⟩))
    all_goals go_ret
    all_goals first
      | exact ⟨ret_bool (by rw [hr.out]; simp_all), (hB1 _).trans (hb1.mono (by simp))⟩
      | exact ⟨ret_bool (by rw [hr.out]; simp_all), hB1 _⟩
  · have hr : Hid (∀ a b v, isNode ⟨s, a, b, v⟩ i = (inR a 0 (i - 1) && b == 0 && v == 0)) := by
      intro a b v
      unfold ar at har
      simp only [isNode]; cases h1 : isIn s <;> cases h2 : isConst s <;> simp [h1, h2, h3, h4] at har ⊢
    go_enter Try.func207, Try.ntmps207
    go_wp2_with (first | (go_at_call 226; refine (operandCount_any _ _).mono ?_; rintro e w' ⟨rfl, rfl⟩) | (go_at_call 118; refine (isIndex_any _ _ _).mono ?_; rintro e w' ⟨rfl, rfl⟩))
    all_goals go_ret
    all_goals exact ⟨ret_bool (by rw [hr.out]; simp_all), hB1 _⟩
  · have hr : Hid (∀ a b v, isNode ⟨s, a, b, v⟩ i = (inR a 0 (i - 1) && inR b 0 (i - 1) && v == 0)) := by
      intro a b v
      unfold ar at har
      simp only [isNode]; cases h1 : isIn s <;> cases h2 : isConst s <;> simp [h1, h2, h3, h4] at har ⊢
    go_enter Try.func207, Try.ntmps207
    go_wp2_with (first | (go_at_call 226; refine (operandCount_any _ _).mono ?_; rintro e w' ⟨rfl, rfl⟩) | (go_at_call 118; refine (isIndex_any _ _ _).mono ?_; rintro e w' ⟨rfl, rfl⟩))
    all_goals go_ret
    all_goals exact ⟨ret_bool (by rw [hr.out]; simp_all), hB1 _⟩
  · have hr : Hid (isNode ⟨s, a, b, v⟩ i = false) := by
      unfold ar at har
      simp only [Hid, isNode]; cases h1 : isIn s <;> cases h2 : isConst s <;> simp [h1, h2, h3, h4] at har ⊢
    go_enter Try.func207, Try.ntmps207
    go_wp2_with (first | (go_at_call 226; refine (operandCount_any _ _).mono ?_; rintro e w' ⟨rfl, rfl⟩))
    go_ret
    exact ⟨ret_bool (by rw [hr.out]), hB1 _⟩
end Go.Proofs.Ytaaloepoegehkaa

namespace Go.Proofs.Ytaaloepoegehkaa
open Go.RowKit

/-- What parts' slice is: a name for the post. -/
def PartsAre (w : World) (xs : List Int) (e : Ending) (w' : World) : Prop :=
  ∃ A c, e = .returned (.slice A xs.length c) ∧ IS w' w.heap.size w'.heap.size A xs ∧ Below w.heap.size w w'

theorem is_lit1 {w : World} {g L B : Nat} {a : Int} {t : TypeId} (hg : w.heap.size = g) (hL : L ≤ g) (hB : g < B) : IS (w.alloc (.cells #[.int .i64 a] t)) L B (some ⟨g, 0, none⟩) [a] := by
  subst hg
  exact (show IB (w.alloc (.cells #[.int .i64 a] t)) w.heap.size t [a] from heap_alloc_new w _).toIS.more hL hB
theorem is_lit2 {w : World} {g L B : Nat} {a b : Int} {t : TypeId} (hg : w.heap.size = g) (hL : L ≤ g) (hB : g < B) : IS (w.alloc (.cells #[.int .i64 a, .int .i64 b] t)) L B (some ⟨g, 0, none⟩) [a, b] := by
  subst hg
  exact (show IB (w.alloc (.cells #[.int .i64 a, .int .i64 b] t)) w.heap.size t [a, b] from heap_alloc_new w _).toIS.more hL hB

set_option maxHeartbeats 4000000 in
theorem operandsOf_any (s : ByteArray) (a b v : Int) (w : World) :
    Calls Try.prog 208 #[.agg #[.string s, .int .i64 a, .int .i64 b, .int .i64 v]] w (PartsAre w (parts ⟨s, a, b, v⟩)) := by
  have hB1 := fun o => (Below.refl w.heap.size w).alloc (Nat.le_refl _) o
  have hB2 := fun o o' => (hB1 o).alloc (by simp) o'
  rcases ar_cases s with ⟨har, h3, h4⟩|⟨har, h3, h4⟩|⟨har, h3, h4⟩|⟨har, h3, h4⟩
  · have hr : parts ⟨s, a, b, v⟩ = [] := by simp [parts, h3, h4]
    rw [hr]
    clear hr
    go_enter Try.func208, Try.ntmps208
    go_wp2_with (first | (go_at_call 226; refine (operandCount_any _ _).mono ?_; rintro e w' ⟨rfl, rfl⟩))
    go_ret
    exact ⟨_, _, rfl, fun h => absurd h (by simp), hB1 _⟩
  · have hr : parts ⟨s, a, b, v⟩ = [a] := by simp [parts, h3]
    rw [hr]
    clear hr
    go_enter Try.func208, Try.ntmps208
    go_wp2_with (first | (go_at_call 226; refine (operandCount_any _ _).mono ?_; rintro e w' ⟨rfl, rfl⟩))
    go_ret
    refine ⟨_, _, rfl, ?_, hB2 _ _⟩
    refine is_lit1 ?_ ?_ ?_ <;> first | omega | (simp; done) | (simp; omega)
  · have hr : parts ⟨s, a, b, v⟩ = [a, b] := by simp [parts, h3, h4]
    rw [hr]
    clear hr
    go_enter Try.func208, Try.ntmps208
    go_wp2_with (first | (go_at_call 226; refine (operandCount_any _ _).mono ?_; rintro e w' ⟨rfl, rfl⟩))
    go_ret
    refine ⟨_, _, rfl, ?_, hB2 _ _⟩
    refine is_lit2 ?_ ?_ ?_ <;> first | omega | (simp; done) | (simp; omega)
  · have hr : parts ⟨s, a, b, v⟩ = [] := by simp [parts, h3, h4]
    rw [hr]
    clear hr
    go_enter Try.func208, Try.ntmps208
    go_wp2_with (first | (go_at_call 226; refine (operandCount_any _ _).mono ?_; rintro e w' ⟨rfl, rfl⟩))
    go_ret
    exact ⟨_, _, rfl, fun h => absurd h (by simp), hB1 _⟩

set_option maxHeartbeats 4000000 in
theorem exParts_any (s : ByteArray) (a b v : Int) (w : World) :
    Calls Try.prog 240 #[.agg #[.string s, .int .i64 a, .int .i64 b, .int .i64 v]] w (PartsAre w (parts ⟨s, a, b, v⟩)) := by
  have hB1 := fun o => (Below.refl w.heap.size w).alloc (Nat.le_refl _) o
  have hB2 := fun o o' => (hB1 o).alloc (by simp) o'
  have hB3 := fun o o' o'' => (hB2 o o').alloc (by simp; omega) o''
  rcases ar_cases s with ⟨har, h3, h4⟩|⟨har, h3, h4⟩|⟨har, h3, h4⟩|⟨har, h3, h4⟩
  · have hr : parts ⟨s, a, b, v⟩ = [] := by simp [parts, h3, h4]
    rw [hr]
    clear hr
    go_enter Try.func240, Try.ntmps240
    go_wp2_with (first | (go_at_call 238; refine (exOne_any _ _).mono ?_; rintro e w' ⟨rfl, rfl⟩) | (go_at_call 239; refine (exTwo_any _ _).mono ?_; rintro e w' ⟨rfl, rfl⟩))
    go_ret
    exact ⟨_, _, rfl, fun h => absurd h (by simp), hB2 _ _⟩
  · have hr : parts ⟨s, a, b, v⟩ = [a] := by simp [parts, h3]
    rw [hr]
    clear hr
    go_enter Try.func240, Try.ntmps240
    go_wp2_with (first | (go_at_call 238; refine (exOne_any _ _).mono ?_; rintro e w' ⟨rfl, rfl⟩) | (go_at_call 239; refine (exTwo_any _ _).mono ?_; rintro e w' ⟨rfl, rfl⟩))
    go_ret
    refine ⟨_, _, rfl, ?_, hB2 _ _⟩
    refine is_lit1 ?_ ?_ ?_ <;> first | omega | (simp; done) | (simp; omega)
  · have hr : parts ⟨s, a, b, v⟩ = [a, b] := by simp [parts, h3, h4]
    rw [hr]
    clear hr
    go_enter Try.func240, Try.ntmps240
    go_wp2_with (first | (go_at_call 238; refine (exOne_any _ _).mono ?_; rintro e w' ⟨rfl, rfl⟩) | (go_at_call 239; refine (exTwo_any _ _).mono ?_; rintro e w' ⟨rfl, rfl⟩))
    go_ret
    refine ⟨_, _, rfl, ?_, hB3 _ _ _⟩
    refine is_lit2 ?_ ?_ ?_ <;> first | omega | (simp; done) | (simp; omega)
  · have hr : parts ⟨s, a, b, v⟩ = [] := by simp [parts, h3, h4]
    rw [hr]
    clear hr
    go_enter Try.func240, Try.ntmps240
    go_wp2_with (first | (go_at_call 238; refine (exOne_any _ _).mono ?_; rintro e w' ⟨rfl, rfl⟩) | (go_at_call 239; refine (exTwo_any _ _).mono ?_; rintro e w' ⟨rfl, rfl⟩))
    go_ret
    exact ⟨_, _, rfl, fun h => absurd h (by simp), hB2 _ _⟩

end Go.Proofs.Ytaaloepoegehkaa

namespace Go.Proofs.Ytaaloepoegehkaa
open Go.RowKit
/-! ### uses -/
def bump (u : List Int) (k : Int) : List Int := u.set k.toNat (u.getD k.toNat 0 + 1)
def usesAt (es : List Nd) (k : Nat) : List Int := (es.take k).foldl (fun u n => (parts n).foldl bump u) (List.replicate es.length 0)
def uses (es : List Nd) : List Int := usesAt es es.length
def Bd (c : Int) (u : List Int) : Prop := ∀ i, 0 ≤ u.getD i 0 ∧ u.getD i 0 ≤ c
theorem length_bump (u : List Int) (k : Int) : (bump u k).length = u.length := by simp [bump]
theorem Bd.mono {c d : Int} {u : List Int} (h : Bd c u) (hd : c ≤ d) : Bd d u := fun i => by have := h i; omega
theorem Bd.bump {c : Int} {u : List Int} (h : Bd c u) (k : Int) : Bd (c + 1) (bump u k) := by
  intro i
  have h1 := h i
  have h2 := h k.toNat
  unfold Proofs.Ytaaloepoegehkaa.bump
  rw [List.getD_eq_getElem?_getD, List.getElem?_set]
  rw [List.getD_eq_getElem?_getD] at h1 h2
  split
  · split
    · simp; omega
    · simp; omega
  · omega
theorem parts_len (n : Nd) : (parts n).length ≤ 2 := by unfold parts; split; · simp
                                                        split <;> simp
theorem foldl_bump_len (ps : List Int) (u : List Int) : (ps.foldl bump u).length = u.length := by
  induction ps generalizing u with
  | nil => rfl
  | cons p ps ih => rw [List.foldl_cons, ih, length_bump]
theorem foldl_bump_Bd (ps : List Int) : ∀ {c : Int} {u : List Int}, Bd c u → Bd (c + ps.length) (ps.foldl bump u) := by
  induction ps with
  | nil => intro c u h; simpa using h
  | cons p ps ih => intro c u h; rw [List.foldl_cons]; exact (ih (h.bump p)).mono (by simp; omega)
theorem usesAt_zero (es : List Nd) : usesAt es 0 = List.replicate es.length 0 := rfl
theorem usesAt_succ {es : List Nd} {k : Nat} (h : k < es.length) : usesAt es (k + 1) = (parts es[k]).foldl bump (usesAt es k) := by
  unfold usesAt; rw [List.take_succ_eq_append_getElem h, List.foldl_append]; rfl
theorem usesAt_len (es : List Nd) (k : Nat) : (usesAt es k).length = es.length := by
  induction k with
  | zero => simp [usesAt]
  | succ k ih =>
    by_cases h : k < es.length
    · rw [usesAt_succ h, foldl_bump_len, ih]
    · have : es.take (k+1) = es.take k := by rw [List.take_of_length_le (by omega), List.take_of_length_le (by omega)]
      unfold usesAt at *; rw [this]; exact ih
theorem usesAt_Bd {es : List Nd} {k : Nat} (h : k ≤ es.length) : Bd (2 * k) (usesAt es k) := by
  induction k with
  | zero => intro i; rw [usesAt_zero, List.getD_eq_getElem?_getD, List.getElem?_replicate]; split <;> simp
  | succ k ih =>
    rw [usesAt_succ (by omega)]
    have := parts_len es[k]
    exact (foldl_bump_Bd _ (ih (by omega))).mono (by omega)
end Go.Proofs.Ytaaloepoegehkaa
