/- Texts of this proof, one behind the other: N9K, N9C, N9Q, N9R, N9L, LawN9A. -/
import Derived.Test.YtpgdccfpegdcoaaZ4
import Derived.WalkKit
import Derived.WalkSpells
import Derived.WalkLawsBesides
import Derived.Deep.RegionLaw
import Derived.Deep.RegionHeld3
import Derived.Deep.AppendLies
import Derived.Lib.Hide
import Derived.Test.YtpgdccfpegdcoaaN9A
import Derived.Deep.RegionHeldLaw
import Derived.Test.YtpgdccfpegdcoaaVC
import Derived.Test.YtpgdccfpegdcoaaLawE
import Derived.Test.YtpgdccfpegdcoaaKMInstr
import Derived.Test.YtpgdccfpegdcoaaKInstr
import Derived.Test.YtpgdccfpegdcoaaLI
/- Chapter 9: planOf of the program. -/
namespace Go.Proofs.Ytpgdccfpegdcoaa
open Go.RowKit
set_option linter.unusedVariables false
set_option maxRecDepth 100000

/-- A plan in a box. -/
def PB (w : World) (g : Nat) (a b : Value) : Prop := CB 77 w g [a, b]
theorem PB.c0 {w : World} {g : Nat} {a b : Value} (h : PB w g a b) : w.cell? ⟨g, 0, none⟩ = some a := by rw [CB.cell h]; rfl
theorem PB.c1 {w : World} {g : Nat} {a b : Value} (h : PB w g a b) : w.cell? ⟨g, 1, none⟩ = some b := by rw [CB.cell h]; rfl
theorem PB.new (w : World) (a b : Value) : PB (w.alloc (.cells #[a, b] 77)) w.heap.size a b := heap_alloc_new w _
theorem PB.put {w : World} {g : Nat} {a b : Value} (h : PB w g a b) (a' b' : Value) : PB ((w.setCell ⟨g, 0, none⟩ a').setCell ⟨g, 1, none⟩ b') g a' b' := by
  have := (CB.set h 0 a').set 1 b'
  exact this
def NoPlan (w : World) (e : Ending) (w' : World) : Prop := e = .returned (.tuple #[.agg #[.slice none 0 0, .slice none 0 0], .bool false]) ∧ Below w.heap.size w w'
def GotPlan (w : World) (A : Option Addr) (c : Nat) (cs : List In) (e : Ending) (w' : World) : Prop := ∃ An cn, e = .returned (.tuple #[.agg #[.slice A cs.length c, .slice An cs.length cn], .bool true]) ∧ PN w' w.heap.size w'.heap.size An (nds cs) ∧ Below w.heap.size w w'
theorem plan_ret {fn : Func} {Q : Ending → World → Prop} {tmps : Array Value} {w : World} {g : Nat} {a b r : Value} {s s2 : Tmp} (hr : fn.results = #[.cell s 77, .tmp s2]) (hs : tmps.getD s undef = .pointer (some ⟨g, 0, none⟩)) (hs2 : tmps.getD s2 undef = r)
    (h : PB w g a b) (h1 : a.oneCell' = true) (h2 : b.oneCell' = true) (hq : Q (.returned (.tuple #[.agg #[a, b], r])) w) : bodyPost Try.prog fn Q .ret ⟨tmps, []⟩ w := by
  have q0 := h.c0
  have q1 := h.c1
  refine bodyPost_ret (v := .tuple #[.agg #[a, b], r]) ?_ rfl hq
  have hs' : tmps[s]?.getD undef = .pointer (some ⟨g, 0, none⟩) := by simpa using hs
  have hs2' : tmps[s2]?.getD undef = r := by simpa using hs2
  simp [results, hr, hs', hs2', go_sem, q0, q1]

set_option maxHeartbeats 8000000 in
theorem planOf_no (L B : Nat) (A : Option Addr) (c : Nat) (cs : List In) (w : World) (hg : orGood cs = false) (hl : cs.length ≤ 1048576) (hes : RS In.enc 5 w L B A cs) (hB : B ≤ w.heap.size) (hcap : cs.length ≤ c) :
    Calls Try.prog 88 #[.slice A cs.length c] w (NoPlan w) := by
  have hb0 := Lib.hid ((Below.refl w.heap.size w).alloc (Nat.le_refl _) (.cells #[.slice none 0 0, .slice none 0 0] 77))
  have hP0 := Lib.hid (PB.new w (.slice none 0 0) (.slice none 0 0))
  have H := Lib.hid (iDependsOf_k L B A c cs (w.alloc (.cells #[.slice none 0 0, .slice none 0 0] 77)) hl (hes.below hb0.out hB) (Nat.le_trans hB hb0.out.size) hcap)
  have hz0 : w.heap.size < (w.alloc (.cells #[.slice none 0 0, .slice none 0 0] 77)).heap.size := by simp
  rw [hg, dpR_no hg] at H
  clear hes hg hB
  go_enter Try.func88, Try.ntmps88
  go_wp2_with (fail)
  refine H.out.mono ?_
  rintro e w1 ⟨A1, c1, rfl, ho1, hb1⟩
  have hB1 := Lib.hid (hb0.out.trans (hb1.mono (by simp)))
  have hP1 := Lib.hid (CB.below hP0.out hb1 hz0)
  have hP2 := Lib.hid (PB.put hP1.out (.slice none 0 0) (.slice none 0 0))
  have hB2 := Lib.hid ((hB1.out.setCell (p := ⟨w.heap.size, 0, none⟩) (Nat.le_refl _) (.slice none 0 0)).setCell (p := ⟨w.heap.size, 1, none⟩) (Nat.le_refl _) (.slice none 0 0))
  obtain ⟨q0, q1⟩ := And.intro (PB.c0 hP1.out) (PB.c1 hP1.out)
  have f0 := CB.frozen hP1.out 0
  have f1 := CB.frozen hP1.out 1
  clear ho1 hb1 hz0
  go_wp2
  exact plan_ret rfl rfl rfl hP2.out rfl rfl ⟨rfl, hB2.out⟩
end Go.Proofs.Ytpgdccfpegdcoaa

/- Chapter 9, plain: earliest cycles, heights. -/
namespace Go.Proofs.Ytpgdccfpegdcoaa
open Go.RowKit
set_option linter.unusedVariables false

/-- The least cycle by needs. -/
def lcF (cyc : List Int) (ns : List (Int × Int)) : Int := ns.foldl (fun m d => max m (cyc.getD d.1.toNat 0 + d.2)) 0
theorem lcF_nil (cyc : List Int) : lcF cyc [] = 0 := rfl
theorem lcF_snoc (cyc : List Int) (ns : List (Int × Int)) (d : Int × Int) : lcF cyc (ns ++ [d]) = max (lcF cyc ns) (cyc.getD d.1.toNat 0 + d.2) := by
  unfold lcF; rw [List.foldl_append]; rfl
theorem lcF_take (cyc : List Int) {ns : List (Int × Int)} {k : Nat} (h : k < ns.length) : lcF cyc (ns.take (k + 1)) = max (lcF cyc (ns.take k)) (cyc.getD ns[k].1.toNat 0 + ns[k].2) := by
  rw [List.take_succ_eq_append_getElem h, lcF_snoc]
theorem lcFrom_bd {cyc : List Int} {b : Int} : ∀ {ns : List (Int × Int)} {a : Int}, 0 ≤ a → a ≤ b → (∀ d ∈ ns, cyc.getD d.1.toNat 0 + d.2 ≤ b) → 0 ≤ ns.foldl (fun m d => max m (cyc.getD d.1.toNat 0 + d.2)) a ∧ ns.foldl (fun m d => max m (cyc.getD d.1.toNat 0 + d.2)) a ≤ b
  | [], a, h0, h1, _ => ⟨h0, h1⟩
  | d :: ns, a, h0, h1, h => by
    have h2 := h d (by simp)
    exact lcFrom_bd (ns := ns) (a := max a (cyc.getD d.1.toNat 0 + d.2)) (by omega) (by omega) fun e he => h e (by simp [he])
theorem lcF_bd {cyc : List Int} {b : Int} {ns : List (Int × Int)} (h0 : 0 ≤ b) (h : ∀ d ∈ ns, cyc.getD d.1.toNat 0 + d.2 ≤ b) : 0 ≤ lcF cyc ns ∧ lcF cyc ns ≤ b := lcFrom_bd (Int.le_refl _) h0 h
theorem ndL_succ (cs : List In) (j k : Nat) : ndL cs j (k + 1) = ndL cs j k ++ (ndEnt cs j k).toList := by
  unfold ndL
  rw [List.range_succ, List.filterMap_append]
  cases h : ndEnt cs j k <;> simp [h]
theorem ndL_yes {cs : List In} {j k : Nat} (h : 0 ≤ dT cs k j) : ndL cs j (k + 1) = ndL cs j k ++ [((k : Int), dT cs k j)] := by
  rw [ndL_succ]; unfold ndEnt; rw [if_pos h]; rfl
theorem ndL_no {cs : List In} {j k : Nat} (h : ¬ 0 ≤ dT cs k j) : ndL cs j (k + 1) = ndL cs j k := by
  rw [ndL_succ]; unfold ndEnt; rw [if_neg h]; simp
/-- Behind the instruction itself there are no needs. -/
theorem ndL_stop (cs : List In) (j : Nat) : ∀ k, j ≤ k → ndL cs j k = ndL cs j j
  | 0, h => by obtain rfl : j = 0 := by omega
               rfl
  | k + 1, h => by
    rcases Nat.lt_or_ge k j with h1 | h1
    · obtain rfl : j = k + 1 := by omega
      rfl
    · rw [ndL_no (by rw [dT_ge (by omega)]; omega)]; exact ndL_stop cs j k h1

/- The earliest cycles. -/
def er (cs : List In) : Nat → List Int
  | 0 => []
  | k + 1 => er cs k ++ [lcF (er cs k) (ndL cs k cs.length)]
theorem er_len (cs : List In) : ∀ k, (er cs k).length = k
  | 0 => rfl
  | k + 1 => by simp [er, er_len cs k]
theorem er_bd (cs : List In) : ∀ k, ∀ x ∈ er cs k, 0 ≤ x ∧ x ≤ 4 * (k : Int)
  | 0, x, h => by simp [er] at h
  | k + 1, x, h => by
    have ih := er_bd cs k
    rw [er] at h
    rcases List.mem_append.1 h with h | h
    · have := ih x h; omega
    · simp at h
      subst h
      have := lcF_bd (cyc := er cs k) (b := 4 * (k : Int) + 4) (ns := ndL cs k cs.length) (by omega) (fun d hd => by
        obtain ⟨i, h1, h2, h3, rfl⟩ := mem_ndL hd
        have h4 := dT_bd cs i k
        simp only [Int.toNat_natCast]
        have h5 : i < (er cs k).length := by rw [er_len]; exact h1
        have h6 := ih _ (List.getElem_mem h5)
        rw [List.getD_eq_getElem?_getD, List.getElem?_eq_getElem h5, Option.getD_some]
        omega)
      omega
theorem er_at (cs : List In) {i k : Nat} (h : i < k) : (er cs k).getD i 0 = lcF (er cs i) (ndL cs i cs.length) := by
  induction k with
  | zero => omega
  | succ k ih =>
    rw [er, List.getD_eq_getElem?_getD]
    by_cases h1 : i < k
    · rw [List.getElem?_append_left (by rw [er_len]; exact h1), ← List.getD_eq_getElem?_getD]; exact ih h1
    · obtain rfl : i = k := by omega
      rw [List.getElem?_append_right (by rw [er_len]; exact Nat.le_refl _), er_len]; simp

/- Heights. -/
def mx (l : List Int) (a : Int) : Int := l.foldl max a
theorem mx_le (l : List Int) : ∀ a, (∀ x ∈ l, x ≤ mx l a) ∧ a ≤ mx l a := by
  induction l with
  | nil => intro a; exact ⟨by simp, Int.le_refl _⟩
  | cons y l ih =>
    intro a
    have := ih (max a y)
    show (∀ x ∈ y :: l, x ≤ mx l (max a y)) ∧ a ≤ mx l (max a y)
    refine ⟨fun x hx => ?_, by omega⟩
    rcases List.mem_cons.1 hx with rfl | hx
    · omega
    · exact this.1 x hx
theorem mx_in (l : List Int) : ∀ a, mx l a = a ∨ mx l a ∈ l := by
  induction l with
  | nil => intro a; exact .inl rfl
  | cons y l ih =>
    intro a
    show mx l (max a y) = a ∨ mx l (max a y) ∈ y :: l
    rcases ih (max a y) with h | h
    · rw [h]
      rcases Int.le_total a y with h1 | h1
      · right; rw [Int.max_eq_right h1]; simp
      · left; exact Int.max_eq_left h1
    · right; exact List.mem_cons_of_mem _ h
theorem mx_eq {l l' : List Int} {a b : Int} (h : ∀ x, (x ∈ l ∨ x = a) ↔ (x ∈ l' ∨ x = b)) : mx l a = mx l' b := by
  have h1 := mx_le l a
  have h2 := mx_le l' b
  refine Int.le_antisymm ?_ ?_
  · rcases mx_in l a with e | e
    · rcases (h a).1 (.inr rfl) with h3 | h3
      · rw [e]; exact h2.1 _ h3
      · rw [e, h3]; exact h2.2
    · rcases (h _).1 (.inl e) with h3 | h3
      · exact h2.1 _ h3
      · rw [h3]; exact h2.2
  · rcases mx_in l' b with e | e
    · rcases (h b).2 (.inr rfl) with h3 | h3
      · rw [e]; exact h1.1 _ h3
      · rw [e, h3]; exact h1.2
    · rcases (h _).2 (.inl e) with h3 | h3
      · exact h1.1 _ h3
      · rw [h3]; exact h1.2
theorem mx_snoc (l : List Int) (a x : Int) : mx (l ++ [x]) a = max (mx l a) x := by unfold mx; rw [List.foldl_append]; rfl
end Go.Proofs.Ytpgdccfpegdcoaa

/- Chapter 9: sets of indices in a word. -/
namespace Go.Proofs.Ytpgdccfpegdcoaa
open Go.RowKit
set_option linter.unusedVariables false
set_option maxRecDepth 100000

theorem u64_nat {n : Nat} (h : n < 18446744073709551616) : IntKind.u64.wrap (n : Int) = (n : Int) := by
  simp [IntKind.wrap, IntKind.bits, IntKind.signed]
  omega
theorem u_and {a b : Nat} (ha : a < 18446744073709551616) (hb : b < 18446744073709551616) : bits .and .u64 (a : Int) (b : Int) = ((a &&& b : Nat) : Int) := by
  show IntKind.u64.wrap (((BitVec.ofInt 64 (a : Int) &&& BitVec.ofInt 64 (b : Int)).toNat : Nat) : Int) = _
  rw [BitVec.toNat_and, BitVec.ofInt_natCast, BitVec.ofInt_natCast, BitVec.toNat_ofNat, BitVec.toNat_ofNat, Nat.mod_eq_of_lt ha, Nat.mod_eq_of_lt hb]
  exact u64_nat (Nat.lt_of_le_of_lt Nat.and_le_left ha)
theorem u_or {a b : Nat} (ha : a < 18446744073709551616) (hb : b < 18446744073709551616) : bits .or .u64 (a : Int) (b : Int) = ((a ||| b : Nat) : Int) := by
  show IntKind.u64.wrap (((BitVec.ofInt 64 (a : Int) ||| BitVec.ofInt 64 (b : Int)).toNat : Nat) : Int) = _
  rw [BitVec.toNat_or, BitVec.ofInt_natCast, BitVec.ofInt_natCast, BitVec.toNat_ofNat, BitVec.toNat_ofNat, Nat.mod_eq_of_lt ha, Nat.mod_eq_of_lt hb]
  exact u64_nat (Nat.or_lt_two_pow (n := 64) ha hb)
theorem set_lt {m i : Nat} (hm : m < 1048576) (hi : i < 20) : (m ||| (1 <<< i)) < 1048576 :=
  Nat.or_lt_two_pow (n := 20) hm (by rw [Nat.one_shiftLeft]; exact Nat.pow_lt_pow_right (by omega) hi)
theorem has_eq (m i : Nat) (hm : m < 1048576) : (bits .and .u64 ((m : Int) / 2 ^ i) 1 == 1) = m.testBit i := by
  have e : ((m : Int) / 2 ^ i) = ((m / 2 ^ i : Nat) : Int) := by rw [Int.natCast_ediv, Int.natCast_pow]; rfl
  have h1 : m / 2 ^ i < 18446744073709551616 := Nat.lt_of_le_of_lt (Nat.div_le_self _ _) (by omega)
  have h2 := u_and h1 (show 1 < 18446744073709551616 by omega)
  rw [e, show (1 : Int) = ((1 : Nat) : Int) from rfl, h2, Nat.and_one_is_mod, Nat.testBit_eq_decide_div_mod_eq]
  rw [Bool.eq_iff_iff]
  simp
  omega
theorem with_eq (m i : Nat) (hm : m < 1048576) (hi : i < 20) : bits .or .u64 (m : Int) (IntKind.u64.wrap (2 ^ i)) = ((m ||| (1 <<< i) : Nat) : Int) := by
  have h0 : 2 ^ i < 1048576 := Nat.pow_lt_pow_right (m := i) (n := 20) (a := 2) (by omega) hi
  have e : ((2 : Int) ^ i) = ((2 ^ i : Nat) : Int) := by rw [Int.natCast_pow]; rfl
  rw [e, u64_nat (by omega), u_or (by omega) (by omega), Nat.one_shiftLeft]
theorem has_any (m i : Nat) (w : World) (hm : m < 1048576) (hi : i < 20) :
    Calls Try.prog 140 #[.int .u64 m, .int .i64 i] w fun e w' => e = .returned (.bool (m.testBit i)) ∧ w = w' := by
  have h0 : (0 : Int) ≤ (i : Int) := by omega
  have h1 : (i : Int) < 64 := by omega
  have hE := Lib.hid (has_eq m i hm)
  go_enter Try.func140, Try.ntmps140
  go_wp2
  go_ret
  exact ⟨ret_bool hE.out, rfl⟩
theorem with_any (m i : Nat) (w : World) (hm : m < 1048576) (hi : i < 20) :
    Calls Try.prog 91 #[.int .u64 m, .int .i64 i] w fun e w' => e = .returned (.int .u64 ((m ||| (1 <<< i) : Nat) : Int)) ∧ w = w' := by
  have h0 : (0 : Int) ≤ (i : Int) := by omega
  have h1 : (i : Int) < 64 := by omega
  have hE := Lib.hid (with_eq m i hm hi)
  go_enter Try.func91, Try.ntmps91
  go_wp2
  go_ret
  exact ⟨by rw [← hE.out]; rfl, rfl⟩
end Go.Proofs.Ytpgdccfpegdcoaa

/- Chapter 9: orders, plain; mayCome of the program. -/
namespace Go.Proofs.Ytpgdccfpegdcoaa
open Go.RowKit
set_option linter.unusedVariables false
set_option maxRecDepth 100000

theorem hasI_cons (x : Int) (xs : List Int) (n : Int) : hasI (x :: xs) n = ((x == n) || hasI xs n) := rfl
def setOf (xs : List Int) : Nat := xs.foldl (fun m x => m ||| (1 <<< x.toNat)) 0
theorem setOf_snoc {xs : List Int} {k : Nat} (h : k < xs.length) : setOf (xs.take (k + 1)) = setOf (xs.take k) ||| (1 <<< xs[k].toNat) := by
  unfold setOf; rw [List.take_succ_eq_append_getElem h, List.foldl_append]; rfl
theorem setFrom_lt : ∀ {xs : List Int} {m : Nat}, m < 1048576 → (∀ x ∈ xs, 0 ≤ x ∧ x < 20) → xs.foldl (fun m x => m ||| (1 <<< x.toNat)) m < 1048576
  | [], m, hm, _ => hm
  | x :: xs, m, hm, h => setFrom_lt (xs := xs) (set_lt hm (by have := h x (by simp); omega)) fun y hy => h y (by simp [hy])
theorem setOf_lt {xs : List Int} (h : ∀ x ∈ xs, 0 ≤ x ∧ x < 20) : setOf xs < 1048576 := setFrom_lt (by omega) h
theorem setFrom_bit (i : Nat) : ∀ {xs : List Int} {m : Nat}, (∀ x ∈ xs, 0 ≤ x ∧ x < 20) → (xs.foldl (fun m x => m ||| (1 <<< x.toNat)) m).testBit i = (m.testBit i || hasI xs i)
  | [], m, _ => by simp [hasI]
  | x :: xs, m, h => by
    have hx := h x (by simp)
    show (xs.foldl (fun m x => m ||| (1 <<< x.toNat)) (m ||| (1 <<< x.toNat))).testBit i = _
    rw [setFrom_bit i (xs := xs) fun y hy => h y (by simp [hy]), Nat.testBit_or, Nat.one_shiftLeft, Nat.testBit_two_pow, hasI_cons, Bool.or_assoc]
    have : decide (x.toNat = i) = (x == (i : Int)) := by
      rw [Bool.eq_iff_iff]; simp; omega
    rw [this]
theorem setOf_bit {xs : List Int} (i : Nat) (h : ∀ x ∈ xs, 0 ≤ x ∧ x < 20) : (setOf xs).testBit i = hasI xs i := by
  unfold setOf; rw [setFrom_bit i h]; simp

/-- Whether the needs of j among the first k instructions have come. -/
def ndIn (cs : List In) (xs : List Int) (j k : Nat) : Bool := (ndL cs j k).all fun d => hasI xs d.1
theorem ndIn_yes {cs : List In} {xs : List Int} {j k : Nat} (h : 0 ≤ dT cs k j) : ndIn cs xs j (k + 1) = (ndIn cs xs j k && hasI xs k) := by
  unfold ndIn; rw [ndL_yes h, List.all_append]; simp
theorem ndIn_no {cs : List In} {xs : List Int} {j k : Nat} (h : ¬ 0 ≤ dT cs k j) : ndIn cs xs j (k + 1) = ndIn cs xs j k := by
  unfold ndIn; rw [ndL_no h]
theorem ndIn_false {cs : List In} {xs : List Int} {j k : Nat} (h : ndIn cs xs j k = false) : ∀ {n : Nat}, k ≤ n → ndIn cs xs j n = false
  | 0, hn => by obtain rfl : k = 0 := by omega
                exact h
  | n + 1, hn => by
    rcases Nat.lt_or_ge n k with h1 | h1
    · obtain rfl : k = n + 1 := by omega
      exact h
    · have ih := ndIn_false h h1
      by_cases hd : 0 ≤ dT cs n j
      · rw [ndIn_yes hd, ih]; rfl
      · rw [ndIn_no hd, ih]
/-- Whether an index may come next. -/
def mayB (cs : List In) (xs : List Int) (j : Nat) : Bool := ndIn cs xs j cs.length && !hasI xs j
def stpB (cs : List In) (xs : List Int) (j : Int) : Bool := inR j 0 ((cs.length : Int) - 1) && mayB cs xs j.toNat
def ordP (cs : List In) (order : List Int) (k : Nat) : Bool := (List.range k).all fun q => stpB cs (order.take q) (order.getD q 0)
theorem ordP_succ (cs : List In) (order : List Int) (k : Nat) : ordP cs order (k + 1) = (ordP cs order k && stpB cs (order.take k) (order.getD k 0)) := by
  unfold ordP; rw [List.range_succ, List.all_append]; simp
theorem ordP_false {cs : List In} {order : List Int} {k : Nat} (h : ordP cs order k = false) : ∀ {n : Nat}, k ≤ n → ordP cs order n = false
  | 0, hn => by obtain rfl : k = 0 := by omega
                exact h
  | n + 1, hn => by
    rcases Nat.lt_or_ge n k with h1 | h1
    · obtain rfl : k = n + 1 := by omega
      exact h
    · rw [ordP_succ, ordP_false h h1]; rfl
theorem ordP_in {cs : List In} {order : List Int} {k : Nat} (hk : k ≤ order.length) (h : ordP cs order k = true) : ∀ x ∈ order.take k, 0 ≤ x ∧ x < cs.length := by
  intro x hx
  obtain ⟨q, hq, rfl⟩ := List.mem_take_iff_getElem.1 hx
  unfold ordP at h
  rw [List.all_eq_true] at h
  have h1 := h q (by simp; omega)
  unfold stpB at h1
  rw [Bool.and_eq_true, inR_iff, List.getD_eq_getElem?_getD, List.getElem?_eq_getElem (by omega), Option.getD_some] at h1
  omega
def ordB (cs : List In) (order : List Int) : Bool := (order.length == cs.length) && ordP cs order order.length
def isoB (cs : List In) (order : List Int) : Bool := orGood cs && ordB cs order

set_option maxHeartbeats 4000000 in
theorem mayCome_any (A : Option Addr) (m c : Nat) (L B : Nat) (An : Option Addr) (cn : Nat) (cs : List In) (i : Nat) (xs : List Int) (w : World) (h20 : cs.length ≤ 20) (hi : i < cs.length) (hxs : ∀ x ∈ xs, 0 ≤ x ∧ x < 20)
    (hn : PN w L B An (nds cs)) (hB : B ≤ w.heap.size) :
    Calls Try.prog 90 #[.agg #[.slice A m c, .slice An cs.length cn], .int .i64 i, .int .u64 (setOf xs)] w fun e w' => e = .returned (.bool (mayB cs xs i)) ∧ Below w.heap.size w w' := by
  have hi2 : i < (nds cs).length := by rw [nds_len]; exact hi
  obtain ⟨b, rfl, ⟨_, hbB⟩, hcells⟩ := hn (by omega)
  obtain ⟨Ai, ci, r0, hrs⟩ := hcells i hi2
  rw [nds_at] at r0 hrs
  have hbx := (Below.refl w.heap.size w).alloc (Nat.le_refl _) (.cells #[.slice A m c, .slice (some ⟨b, 0, none⟩) cs.length cn] 77)
  have hP := PB.new w (.slice A m c) (.slice (some ⟨b, 0, none⟩) cs.length cn)
  have r1 := (hbx.cell (p := ⟨b, i, none⟩) (show b < _ by omega)).trans r0
  have hRS := Lib.hid fun (W : World) (hW : Below w.heap.size w W) => hrs.below hW hB
  have hii : (i : Int) < (cs.length : Int) := by omega
  have hi0 : (0 : Int) ≤ (i : Int) := by omega
  have hBx := Lib.hid hbx
  have hM : Hid (mayB cs xs i = ((ndL cs i cs.length).all (fun d => hasI xs d.1) && !hasI xs i)) := rfl
  have hLt := Lib.hid (setOf_lt hxs)
  have hBt := Lib.hid fun (q : Nat) => setOf_bit q hxs
  have hIn := Lib.hid fun (d : Int × Int) (h : d ∈ ndL cs i cs.length) => (show 0 ≤ d.1 ∧ d.1 < 20 from by
    obtain ⟨q, h1, h2, _, rfl⟩ := mem_ndL h
    simp only
    omega)
  have hHi := Lib.hid (has_any (setOf xs) i)
  have hHq := Lib.hid fun (q : Nat) => has_any (setOf xs) q
  have hln := ndL_len cs i cs.length
  clear hcells hrs hn hB hbx hxs hi2
  obtain ⟨q0, q1⟩ := And.intro hP.c0 hP.c1
  clear hP
  generalize mayB cs xs i = R at *
  generalize ndL cs i cs.length = ns at *
  generalize setOf xs = s at *
  have hHi := Lib.hid fun (W : World) => hHi.out W hLt.out (by omega)
  have hEi := hBt.out i
  rw [hEi] at hHi
  clear hEi
  go_enter Try.func90, Try.ntmps90
  go_wp2_with (fail)
  clear q0 q1 r1
  go_loopw [15] (fun q wr => ∃ k : Nat, k ≤ ns.length ∧ q = .int .i64 k ∧ (ns.take k).all (fun d => hasI xs d.1) = true ∧ Below w.heap.size w wr) (fun q _ => ns.length - (intOf q).toNat)
  case atStart => exact ⟨0, Nat.zero_le _, rfl, rfl, hBx.out⟩
  case round =>
    obtain ⟨k, hk, rfl, hal, hbel⟩ := hrel
    have hAl := Lib.hid hal
    have hBL := Lib.hid hbel
    clear hbel hal
    by_cases hlt : k < ns.length
    · obtain ⟨rb, ro, rfl, hrb, c0, c1⟩ := nd_cells (hRS.out wr hBL.out) hlt
      obtain ⟨h1, h2⟩ := hIn.out _ (List.getElem_mem hlt)
      have hSn : Hid ((ns.take (k + 1)).all (fun d => hasI xs d.1) = ((ns.take k).all (fun d => hasI xs d.1) && hasI xs ns[k].1)) := by
        rw [Hid, List.take_succ_eq_append_getElem hlt, List.all_append]; simp
      have hFa : Hid (hasI xs ns[k].1 = false → ns.all (fun d => hasI xs d.1) = false) := fun h => by
        rw [List.all_eq_false]; exact ⟨_, List.getElem_mem hlt, by rw [h]; simp⟩
      have hki : (k : Int) < (ns.length : Int) := by omega
      have hBn := Lib.hid (hBL.out.alloc hBL.out.size (.cells #[.int .i64 ns[k].1, .int .i64 ns[k].2] 117))
      generalize ns[k].2 = dd at *
      generalize ns[k].1 = dk at *
      obtain ⟨t, rfl⟩ := Int.eq_ofNat_of_zero_le h1
      have hHt := hHq.out t (wr.alloc (.cells #[.int .i64 t, .int .i64 dd] 117)) hLt.out (by omega)
      rw [hBt.out t] at hHt
      have hHt := Lib.hid hHt
      generalize hasI xs (t : Int) = hb at *
      cases hb
      · have hF := Lib.hid (hFa.out rfl)
        clear hSn hFa
        go_wp2_with (fail)
        refine hHt.out.mono ?_
        rintro e w3 ⟨rfl, rfl⟩
        go_wp2
        go_ret
        exact ⟨by rw [hM.out, hF.out]; rfl, hBn.out⟩
      · have hS2 : Hid ((ns.take (k + 1)).all (fun d => hasI xs d.1) = true) := by rw [Hid, hSn.out, hAl.out]; rfl
        clear hSn hFa
        go_wp2_with (fail)
        refine hHt.out.mono ?_
        rintro e w3 ⟨rfl, rfl⟩
        go_wp2
        go_roundw
        case rel => exact ⟨k + 1, by omega, by go_num, hS2.out, hBn.out⟩
        case measure => simp [intOf]; omega
    · obtain rfl : k = ns.length := by omega
      rw [List.take_length] at hAl
      go_wp2_with (fail)
      refine (hHi.out _).mono ?_
      rintro e w3 ⟨rfl, rfl⟩
      go_wp2
      go_ret
      exact ⟨by rw [hM.out, hAl.out]; rfl, hBL.out⟩
end Go.Proofs.Ytpgdccfpegdcoaa

/- Chapter 9: planOf of the program, where the code can be ordered. -/
namespace Go.Proofs.Ytpgdccfpegdcoaa
open Go.RowKit
set_option linter.unusedVariables false
set_option linter.unusedSimpArgs false
set_option maxRecDepth 100000

theorem cb_other {t : TypeId} {w : World} {g : Nat} {cur : List Value} (h : CB t w g cur) (p : Addr) (v : Value) (hp : p.block ≠ g) : CB t (w.setCell p v) g cur :=
  ((Chg.setCell (lo := p.block) (hi := p.block + 1) (Chg.refl p.block (p.block + 1) w) (p := p) ⟨Nat.le_refl _, Nat.lt_succ_self _⟩ v).block g h.lt (by omega)).trans h
/-- What stands while the needs are gathered. -/
structure PSt (w1 : World) (g2 gn g6 : Nat) (R0 R1 P0 P1 : Value) (vs : List Value) (nss : List (List (Int × Int))) (W : World) : Prop where
  l0 : g2 < w1.heap.size
  l1 : w1.heap.size ≤ gn
  l2 : gn < g6
  res : PB W g2 R0 R1
  bx : PB W g6 P0 P1
  nb : CB 115 W gn vs
  rows : RowsN W (g6 + 1) vs nss
  be : Below w1.heap.size w1 W
theorem PSt.below {w1 W W' : World} {g2 gn g6 : Nat} {R0 R1 P0 P1 : Value} {vs : List Value} {nss : List (List (Int × Int))} (h : PSt w1 g2 gn g6 R0 R1 P0 P1 vs nss W) (hb : Below W.heap.size W W') : PSt w1 g2 gn g6 R0 R1 P0 P1 vs nss W' :=
  ⟨h.l0, h.l1, h.l2, CB.below h.res hb (CB.lt h.res), CB.below h.bx hb (CB.lt h.bx), h.nb.below hb h.nb.lt, h.rows.below hb, h.be.trans (hb.mono h.be.size)⟩
theorem PSt.grow {w1 W w' : World} {g2 gn g6 j : Nat} {R0 R1 P0 P1 : Value} {vs : List Value} {nss : List (List (Int × Int))} (h : PSt w1 g2 gn g6 R0 R1 P0 P1 vs nss W) (hj : j < vs.length) (hg : W.grownBy w' vs[j].ownBlock) :
    PB w' g2 R0 R1 ∧ PB w' g6 P0 P1 ∧ CB 115 w' gn vs ∧ Below w1.heap.size w1 w' := by
  have hlo : ∀ b, vs[j].ownBlock = some b → g6 + 1 ≤ b := fun b hb => ((h.rows.row j hj (by rw [← h.rows.len]; exact hj)).2.lo b hb).1
  have l0 := h.l0; have l1 := h.l1; have l2 := h.l2
  have ne : ∀ x, x ≤ g6 → vs[j].ownBlock ≠ some x := fun x hx e => by have := hlo x e; omega
  refine ⟨(hg.block g2 (CB.lt h.res) (fun e => ne g2 (by omega) e.symm)).trans h.res, (hg.block g6 (CB.lt h.bx) (fun e => ne g6 (by omega) e.symm)).trans h.bx, (hg.block gn h.nb.lt (fun e => ne gn (by omega) e.symm)).trans h.nb, h.be.grown hg h.be.size (fun b hb => by have := hlo b hb; omega)⟩
theorem PSt.stored {w1 W w' : World} {g2 gn g6 j n g cap : Nat} {R0 R1 P0 P1 : Value} {d : Int × Int} {vs : List Value} {nss : List (List (Int × Int))} (h : PSt w1 g2 gn g6 R0 R1 P0 P1 vs nss W) (hj : j < vs.length) (hj' : j < nss.length) (hg : W.grownBy w' vs[j].ownBlock)
    (hn : n = (nss[j]).length) (hown : w'.ownsRow (g6 + 1) 117 2 (.slice (some ⟨g, 0, none⟩) (n + 1) cap) (n + 1) ((nss[j]).flatMap ndE ++ ndE d)) (hat : vs[j].ownBlock = some g ∨ g = W.heap.size) (hlt : g < w'.heap.size) :
    PSt w1 g2 gn g6 R0 R1 P0 P1 (vs.set j (.slice (some ⟨g, 0, none⟩) (n + 1) cap)) (nss.set j (nss[j] ++ [d])) (w'.setCell ⟨gn, j, none⟩ (.slice (some ⟨g, 0, none⟩) (n + 1) cap)) := by
  obtain ⟨h1, h2, h3, h4⟩ := h.grow hj hg
  have l0 := h.l0; have l1 := h.l1; have l2 := h.l2
  refine ⟨l0, l1, l2, cb_other h1 _ _ (show gn ≠ g2 by omega), cb_other h2 _ _ (show gn ≠ g6 by omega), h3.set j _, ?_, h4.setCell (p := ⟨gn, j, none⟩) l1 _⟩
  exact (h.rows.push hj hj' hg hn hown hat hlt).chg ((Chg.refl gn (gn + 1) w').setCell (p := ⟨gn, j, none⟩) ⟨Nat.le_refl _, Nat.lt_succ_self _⟩ _) (by omega)

theorem PSt.open {w1 W : World} {g2 gn g6 j n : Nat} {R0 R1 P0 P1 : Value} {vs : List Value} {nss : List (List (Int × Int))} {ns : List (Int × Int)} (h : PSt w1 g2 gn g6 R0 R1 P0 P1 vs nss W) (hj' : j < nss.length) (hns : nss[j] = ns) (hn : n = ns.length) :
    ∃ Aj cj, W.cell? ⟨gn, j, none⟩ = some (.slice Aj n cj) ∧ W.ownsRow (g6 + 1) 117 2 (.slice Aj n cj) n (ns.flatMap ndE) ∧ ∀ w7, W.grownBy w7 (Value.slice Aj n cj).ownBlock →
      (∀ rb t, rb < w1.heap.size → w7.cell? ⟨rb, t, none⟩ = W.cell? ⟨rb, t, none⟩) ∧ w7.cell? ⟨g6, 1, none⟩ = some P1 ∧ w7.cell? ⟨gn, j, none⟩ = some (.slice Aj n cj) ∧ w7.frozen? ⟨gn, j, none⟩ = false ∧
      ∀ g cap d, w7.ownsRow (g6 + 1) 117 2 (.slice (some ⟨g, 0, none⟩) (n + 1) cap) (n + 1) (ns.flatMap ndE ++ ndE d) → ((Value.slice Aj n cj).ownBlock = some g ∨ g = W.heap.size) → g < w7.heap.size →
        ∃ vs', PSt w1 g2 gn g6 R0 R1 P0 P1 vs' (nss.set j (ns ++ [d])) (w7.setCell ⟨gn, j, none⟩ (.slice (some ⟨g, 0, none⟩) (n + 1) cap)) := by
  subst hns
  have hj : j < vs.length := by rw [h.rows.len]; exact hj'
  obtain ⟨⟨Aj, cj, e⟩, hO⟩ := h.rows.row j hj hj'
  rw [← hn] at e
  have hO1 := hO.1
  rw [e, ← hn] at hO1
  refine ⟨Aj, cj, by rw [h.nb.cell, List.getElem?_eq_getElem hj, e], hO1, fun w7 hg => ?_⟩
  rw [← e] at hg
  obtain ⟨h1, h2, h3, h4⟩ := h.grow hj hg
  refine ⟨fun rb t hrb => World.cell?_of_block (a := ⟨rb, t, none⟩) ((h4.block rb hrb).trans (h.be.block rb hrb).symm), h2.c1, by rw [h3.cell, List.getElem?_eq_getElem hj, e], h3.frozen j, fun g cap d ho hat hlt => ?_⟩
  rw [← e] at hat
  exact ⟨_, h.stored hj hj' hg hn ho hat hlt⟩
theorem ndsAt_row (cs : List In) (p : Nat) : ∀ ns ∈ ndsAt cs p, ns.length ≤ (dAll cs cs.length).length := by
  intro ns h
  unfold ndsAt at h
  rw [List.mem_map] at h
  obtain ⟨j, _, rfl⟩ := h
  unfold ndF
  refine Nat.le_trans (List.length_filterMap_le _ _) ?_
  rw [List.length_take]; omega
theorem nd_new (W : World) (d : Int × Int) (g : Nat) (hg : W.heap.size = g) : ∀ t u, (ndE d)[t]? = some u → (W.alloc (.cells #[.int .i64 d.1, .int .i64 d.2] 117)).drew.cell? ((⟨g, 0, none⟩ : Addr).add t) = some u := by
  intro t u hu
  subst hg
  have hc : CB 117 (W.alloc (.cells #[.int .i64 d.1, .int .i64 d.2] 117)) W.heap.size (ndE d) := heap_alloc_new W _
  rw [addr_add]
  exact (hc.cell t).trans hu
theorem nd_one (d : Int × Int) : ∀ u ∈ ndE d, u.oneCell' = true := by
  intro u hu
  simp [ndE] at hu
  rcases hu with rfl | rfl <;> rfl
set_option maxHeartbeats 8000000 in
theorem planOf_yes (L B : Nat) (A : Option Addr) (c : Nat) (cs : List In) (w : World) (hg : orGood cs = true) (hl : cs.length ≤ 1048576) (hes : RS In.enc 5 w L B A cs) (hB : B ≤ w.heap.size) (hcap : cs.length ≤ c) :
    Calls Try.prog 88 #[.slice A cs.length c] w (GotPlan w A c cs) := by
  obtain ⟨i0, hi', hz0', hz1', hz2'⟩ := info_parts Try.infoNd
  have hJ0 := Lib.hid hi'
  have hJ1 := Lib.hid hz0'
  have hJ2 := Lib.hid hz1'
  have hJ3 := Lib.hid hz2'
  clear hi' hz0' hz1' hz2'
  have hb0 := Lib.hid ((Below.refl w.heap.size w).alloc (Nat.le_refl _) (.cells #[.slice none 0 0, .slice none 0 0] 77))
  have hP0 := Lib.hid (PB.new w (.slice none 0 0) (.slice none 0 0))
  have H := Lib.hid (iDependsOf_k L B A c cs (w.alloc (.cells #[.slice none 0 0, .slice none 0 0] 77)) hl (hes.below hb0.out hB) (Nat.le_trans hB hb0.out.size) hcap)
  have hz0 : w.heap.size < (w.alloc (.cells #[.slice none 0 0, .slice none 0 0] 77)).heap.size := by simp
  have h20 := (orGood_parts hg).1
  have hLd := dAll_len20 h20
  have hmk := run_make_nds cs.length (by omega)
  rw [hg, dpR_yes hg] at H
  have hN0 := Lib.hid (ndsAt_zero cs)
  have hNe := Lib.hid (ndsAt_end cs)
  have hNl := Lib.hid (ndsAt_len cs)
  have hNr := Lib.hid (ndsAt_row cs)
  have hSu := Lib.hid fun (p : Nat) (h : p < (dAll cs cs.length).length) => ndsAt_succ h
  clear hes hg hB hl
  generalize dAll cs cs.length = ds at *
  generalize ndsAt cs = NA at *
  generalize dT cs = E at *
  go_enter Try.func88, Try.ntmps88
  go_wp2_with (fail)
  refine H.out.mono ?_
  rintro e w1 ⟨A1, c1, rfl, ho1, hb1⟩
  have hB1 := Lib.hid (hb0.out.trans (hb1.mono (by simp)))
  have hP1 := Lib.hid (CB.below hP0.out hb1 hz0)
  have hX1 := Lib.hid (OX.rs ho1)
  have hz1 : w.heap.size < w1.heap.size := by have := hb1.size; omega
  have hSt : Hid (PSt w1 w.heap.size w1.heap.size (w1.heap.size + 1) (.slice none 0 0) (.slice none 0 0) (.slice A cs.length c) (.slice (some ⟨w1.heap.size, 0, none⟩) cs.length cs.length) (List.replicate cs.length (Value.slice none 0 0)) (List.replicate cs.length [])
      ((w1.alloc (.cells (Array.replicate cs.length (Value.slice none 0 0)) 115)).alloc (.cells #[.slice A cs.length c, .slice (some ⟨w1.heap.size, 0, none⟩) cs.length cs.length] 77))) := by
    rw [← List.toArray_replicate]
    have a1 := (Below.refl w1.heap.size w1).alloc (Nat.le_refl _) (.cells (List.replicate cs.length (Value.slice none 0 0)).toArray 115)
    have a2 := (Below.refl _ (w1.alloc (.cells (List.replicate cs.length (Value.slice none 0 0)).toArray 115))).alloc (Nat.le_refl _) (.cells #[.slice A cs.length c, .slice (some ⟨w1.heap.size, 0, none⟩) cs.length cs.length] 77)
    have n1 : CB 115 (w1.alloc (.cells (List.replicate cs.length (Value.slice none 0 0)).toArray 115)) w1.heap.size (List.replicate cs.length (Value.slice none 0 0)) := heap_alloc_new w1 _
    have n2 := PB.new (w1.alloc (.cells (List.replicate cs.length (Value.slice none 0 0)).toArray 115)) (.slice A cs.length c) (.slice (some ⟨w1.heap.size, 0, none⟩) cs.length cs.length)
    rw [World.size_alloc] at n2
    exact ⟨hz1, Nat.le_refl _, Nat.lt_succ_self _, CB.below (CB.below hP1.out a1 hz1) a2 (by simp; omega), n2, n1.below a2 (by simp), RowsN.nil _ _ _, a1.trans (a2.mono a1.size)⟩
  clear ho1 hb1 hz0 hP1
  go_wp2_with (fail)
  clear hmk
  generalize (w1.alloc (.cells (Array.replicate cs.length (Value.slice none 0 0)) 115)).alloc (.cells #[.slice A cs.length c, .slice (some ⟨w1.heap.size, 0, none⟩) cs.length cs.length] 77) = W2 at *
  generalize hgn : w1.heap.size = gn at hSt ⊢
  have hGn := Lib.hid hgn
  clear hgn
  go_loopw [24] (fun q wr => ∃ (p : Nat) (vs : List Value), p ≤ ds.length ∧ q = .int .i64 p ∧ PSt w1 w.heap.size gn (gn + 1) (.slice none 0 0) (.slice none 0 0) (.slice A cs.length c) (.slice (some ⟨gn, 0, none⟩) cs.length cs.length) vs (NA p) wr) (fun q _ => ds.length - (intOf q).toNat)
  case atStart => exact ⟨0, _, Nat.zero_le _, rfl, by rw [hN0.out]; exact hSt.out⟩
  case round =>
    obtain ⟨p, vs, hp, rfl, hS⟩ := hrel
    have hs := Lib.hid hS
    clear hS hSt
    by_cases hlt : p < ds.length
    · obtain ⟨i, j, hij, hjn, hE, hds, hNs⟩ := hSu.out p hlt
      have hpi : (p : Int) < (ds.length : Int) := by omega
      have hp0 : (0 : Int) ≤ (p : Int) := by omega
      obtain ⟨xb, xo, Ai, ci, rfl, hxb, xc0, hI⟩ := XS.at hX1.out hlt
      rw [hds] at xc0 hI
      obtain ⟨rb, ro, rfl, ⟨_, hrb⟩, hcc⟩ := hI (by simp)
      have y0 := (hs.out.be.cell (p := ⟨rb, ro + 0, none⟩) hrb).trans (hcc 0 (by simp))
      have y1 := (hs.out.be.cell (p := ⟨rb, ro + 1, none⟩) hrb).trans (hcc 1 (by simp))
      have y2 := (hs.out.be.cell (p := ⟨rb, ro + 2, none⟩) hrb).trans (hcc 2 (by simp))
      have xc := (hs.out.be.cell (p := ⟨xb, xo + p, none⟩) hxb).trans xc0
      simp only [List.getElem_cons_zero, List.getElem_cons_succ, Nat.add_zero] at y0 y1 y2
      have b1 := hs.out.bx.c1
      have hjl : j < (NA p).length := by rw [hNl.out]; exact hjn
      have hji : (j : Int) < (cs.length : Int) := by omega
      have hj0 : (0 : Int) ≤ (j : Int) := by omega
      rw [List.getD_eq_getElem?_getD, List.getElem?_eq_getElem hjl, Option.getD_some] at hNs
      have hlen3 : ([(i : Int), (j : Int), E i j] : List Int).length = 3 := rfl
      rw [hlen3] at xc
      generalize E i j = e9 at *
      obtain ⟨ns, hns⟩ : ∃ ns, (NA p)[j] = ns := ⟨_, rfl⟩
      rw [hns] at hNs
      obtain ⟨n, hn⟩ : ∃ n, n = ns.length := ⟨_, rfl⟩
      have hNS := Lib.hid hNs
      have a3 := ((Below.refl wr.heap.size wr).alloc (Nat.le_refl _) (.cells #[.int .i64 i, .int .i64 e9] 117)).drew
      obtain ⟨A0, c0, r0, _, _⟩ := hs.out.open hjl hns hn
      obtain ⟨Aj, cj, r1, HL, HG⟩ := (hs.out.below a3).open hjl hns hn
      have r01 : (Value.slice A0 n c0) = .slice Aj n cj := by
        have h5 := hs.out.nb.lt
        have h6 := (a3.cell (p := ⟨gn, j, none⟩) h5).symm.trans r1
        exact Option.some.inj (r0.symm.trans h6)
      rw [r01] at r0
      have HL := Lib.hid HL
      have HG := Lib.hid HG
      have HN := Lib.hid (nd_new wr ((i : Int), e9) wr.heap.size rfl)
      have H1 := Lib.hid (nd_one ((i : Int), e9))
      have hbs := Lib.hid (show gn + 1 + 1 ≤ wr.heap.size from CB.lt hs.out.bx)
      have hn4 : Hid (n ≤ 1048576) := by rw [Hid, hn, ← hns]; exact Nat.le_trans (hNr.out p _ (List.getElem_mem hjl)) (by omega)
      have hne : gn ≠ gn + 1 := by omega
      have hrbn : rb ≠ gn := by have := hGn.out; omega
      have z0 := Lib.hid ((a3.cell (p := ⟨rb, ro, none⟩) (by have := hbs.out; have := hGn.out; show rb < _; omega)).trans y0)
      have z1 := Lib.hid ((a3.cell (p := ⟨rb, ro + 1, none⟩) (by have := hbs.out; have := hGn.out; show rb < _; omega)).trans y1)
      have z2 := Lib.hid ((a3.cell (p := ⟨rb, ro + 2, none⟩) (by have := hbs.out; have := hGn.out; show rb < _; omega)).trans y2)
      have hrbw := Lib.hid hrb
      have hrbm : gn ≠ rb := fun e => hrbn e.symm
      clear hcc hI xc0 hds hij hE hNs hns hn a3 hrb
      go_wp2_with (fail)
      clear xc
      -- REGION 8 BEGIN
      have hS0 : (fun w' => w'.cell? ⟨gn + 1, 1, none⟩ = some (.slice (some ⟨gn, 0, none⟩) cs.length cs.length) ∧ w'.cell? ⟨rb, ro, none⟩ = some (.int .i64 i) ∧ w'.cell? ⟨rb, ro + 1, none⟩ = some (.int .i64 j) ∧ w'.cell? ⟨rb, ro + 2, none⟩ = some (.int .i64 e9)) wr.drew := ⟨b1, y0, y1, y2⟩
      have b1a : (wr.alloc (.cells #[.int .i64 i, .int .i64 e9] 117)).drew.cell? ⟨gn + 1, 1, none⟩ = some (.slice (some ⟨gn, 0, none⟩) cs.length cs.length) := (((Below.refl wr.heap.size wr).alloc (Nat.le_refl _) (.cells #[.int .i64 i, .int .i64 e9] 117)).drew.cell (p := ⟨gn + 1, 1, none⟩) hbs.out).trans b1
      have hSa : (fun w' => w'.cell? ⟨gn + 1, 1, none⟩ = some (.slice (some ⟨gn, 0, none⟩) cs.length cs.length) ∧ w'.cell? ⟨rb, ro, none⟩ = some (.int .i64 i) ∧ w'.cell? ⟨rb, ro + 1, none⟩ = some (.int .i64 j) ∧ w'.cell? ⟨rb, ro + 2, none⟩ = some (.int .i64 e9)) (wr.alloc (.cells #[.int .i64 i, .int .i64 e9] 117)).drew := ⟨b1a, z0.out, z1.out, z2.out⟩
      refine wp_region_held (S := fun w' => w'.cell? ⟨gn + 1, 1, none⟩ = some (.slice (some ⟨gn, 0, none⟩) cs.length cs.length) ∧ w'.cell? ⟨rb, ro, none⟩ = some (.int .i64 i) ∧ w'.cell? ⟨rb, ro + 1, none⟩ = some (.int .i64 j) ∧ w'.cell? ⟨rb, ro + 2, none⟩ = some (.int .i64 e9)) (by kernel_rfl) ?_
      change wpAnyH _ _ _ _ _ _ _ _ (World.drew _)
      refine wpAnyH_take (i := 0) (v := ?_) rfl (by kernel_rfl) (by kernel_rfl) (by kernel_rfl) (fun _ _ _ h => h) (Or.inl ⟨by rfl, ?_⟩) (by assumption) ?_
      rotate_left 1
      · (intro w hSw; (try dsimp only at hSw); go_simp; try with_reducible rfl)
      try simp only [Act.put, List.setIfInBounds_toArray, List.set_cons_zero, List.set_cons_succ]
      refine wpAnyH_take (i := 1) (v := ?_) rfl (by kernel_rfl) (by kernel_rfl) (by kernel_rfl) (fun _ _ _ h => h) (Or.inl ⟨by rfl, ?_⟩) (by assumption) ?_
      rotate_left 1
      · (intro w hSw; (try dsimp only at hSw); go_simp; try with_reducible rfl)
      try simp only [Act.put, List.setIfInBounds_toArray, List.set_cons_zero, List.set_cons_succ]
      refine wpAnyH_take (i := 2) (v := ?_) rfl (by kernel_rfl) (by kernel_rfl) (by kernel_rfl) (fun _ _ _ h => h) (Or.inl ⟨by rfl, ?_⟩) (by assumption) ?_
      rotate_left 1
      · (intro w hSw; (try dsimp only at hSw); go_simp; try with_reducible rfl)
      try simp only [Act.put, List.setIfInBounds_toArray, List.set_cons_zero, List.set_cons_succ]
      refine wpAnyH_take (i := 3) (v := ?_) rfl (by kernel_rfl) (by kernel_rfl) (by kernel_rfl) (fun _ _ _ h => h) (Or.inl ⟨by rfl, ?_⟩) (by assumption) ?_
      rotate_left 1
      · (intro w hSw; (try dsimp only at hSw); go_simp; try with_reducible rfl)
      try simp only [Act.put, List.setIfInBounds_toArray, List.set_cons_zero, List.set_cons_succ]
      refine wpAnyH_take (i := 4) (v := ?_) rfl (by kernel_rfl) (by kernel_rfl) (by kernel_rfl) (fun _ _ _ h => h) (Or.inl ⟨by rfl, ?_⟩) (by assumption) ?_
      rotate_left 1
      · (intro w hSw; (try dsimp only at hSw); go_simp; try with_reducible rfl)
      try simp only [Act.put, List.setIfInBounds_toArray, List.set_cons_zero, List.set_cons_succ]
      refine wpAnyH_take (i := 5) (v := ?_) rfl (by kernel_rfl) (by kernel_rfl) (by kernel_rfl) (fun _ _ _ h => h) (Or.inl ⟨by rfl, ?_⟩) (by assumption) ?_
      rotate_left 1
      · (intro w hSw; (try dsimp only at hSw); go_simp; try with_reducible rfl)
      try simp only [Act.put, List.setIfInBounds_toArray, List.set_cons_zero, List.set_cons_succ]
      refine wpAnyH_take (i := 6) (v := ?_) rfl (by kernel_rfl) (by kernel_rfl) (by kernel_rfl) (fun _ _ _ h => h) (Or.inl ⟨by rfl, ?_⟩) (by assumption) ?_
      rotate_left 1
      · (intro w hSw; (try dsimp only at hSw); go_simp; try with_reducible rfl)
      try simp only [Act.put, List.setIfInBounds_toArray, List.set_cons_zero, List.set_cons_succ]
      refine wpAnyH_take (i := 7) (v := ?_) rfl (by kernel_rfl) (by kernel_rfl) (by kernel_rfl) (fun _ _ _ h => h) (Or.inl ⟨by rfl, ?_⟩) (by assumption) ?_
      rotate_left 1
      · (intro w hSw; (try dsimp only at hSw); go_simp; try with_reducible rfl)
      try simp only [Act.put, List.setIfInBounds_toArray, List.set_cons_zero, List.set_cons_succ]
      refine wpAnyH_take (i := 8) (v := ?_) rfl (by kernel_rfl) (by kernel_rfl) (by kernel_rfl) (fun _ _ _ h => h) (Or.inl ⟨by rfl, ?_⟩) (by assumption) ?_
      rotate_left 1
      · (intro w hSw; (try dsimp only at hSw); go_simp; try with_reducible rfl)
      try simp only [Act.put, List.setIfInBounds_toArray, List.set_cons_zero, List.set_cons_succ]
      refine wpAnyH_take (i := 9) (v := ?_) rfl (by kernel_rfl) (by kernel_rfl) (by kernel_rfl) (fun _ _ _ h => h) (Or.inl ⟨by rfl, ?_⟩) (by assumption) ?_
      rotate_left 1
      · (intro w hSw; (try dsimp only at hSw); go_simp; try with_reducible rfl)
      try simp only [Act.put, List.setIfInBounds_toArray, List.set_cons_zero, List.set_cons_succ]
      refine wpAnyH_take (i := 10) (v := ?_) rfl (by kernel_rfl) (by kernel_rfl) (by kernel_rfl) (fun _ _ _ h => h) (Or.inl ⟨by rfl, ?_⟩) (by assumption) ?_
      rotate_left 1
      · (intro w hSw; (try dsimp only at hSw); go_simp; try with_reducible rfl)
      try simp only [Act.put, List.setIfInBounds_toArray, List.set_cons_zero, List.set_cons_succ]
      refine wpAnyH_take (i := 12) (v := ?_) rfl (by kernel_rfl) (by kernel_rfl) (by kernel_rfl) (fun _ _ _ h => h) (Or.inl ⟨by rfl, ?_⟩) (by assumption) ?_
      rotate_left 1
      · (intro w hSw; (try dsimp only at hSw); go_simp; try with_reducible rfl)
      try simp only [Act.put, List.setIfInBounds_toArray, List.set_cons_zero, List.set_cons_succ]
      refine wpAnyH_take (i := 13) (v := ?_) rfl (by kernel_rfl) (by kernel_rfl) (by kernel_rfl) (fun _ _ _ h => h) (Or.inl ⟨by rfl, ?_⟩) (by assumption) ?_
      rotate_left 1
      · (intro w hSw; (try dsimp only at hSw); go_simp; try with_reducible rfl)
      try simp only [Act.put, List.setIfInBounds_toArray, List.set_cons_zero, List.set_cons_succ]
      refine wpAnyH_take (i := 14) (v := ?_) rfl (by kernel_rfl) (by kernel_rfl) (by kernel_rfl) (fun _ _ _ h => h) (Or.inl ⟨by rfl, ?_⟩) (by assumption) ?_
      rotate_left 1
      · (intro w hSw; (try dsimp only at hSw); go_simp; try with_reducible rfl)
      try simp only [Act.put, List.setIfInBounds_toArray, List.set_cons_zero, List.set_cons_succ]
      refine wpAnyH_take (i := 15) (v := ?_) rfl (by kernel_rfl) (by kernel_rfl) (by kernel_rfl) (fun _ _ _ h => h) (Or.inl ⟨by rfl, ?_⟩) (by assumption) ?_
      rotate_left 1
      · (intro w hSw; (try dsimp only at hSw); go_simp; try with_reducible rfl)
      try simp only [Act.put, List.setIfInBounds_toArray, List.set_cons_zero, List.set_cons_succ]
      refine wpAnyH_take (i := 16) (v := ?_) rfl (by kernel_rfl) (by kernel_rfl) (by kernel_rfl) (fun _ _ _ h => h) (Or.inl ⟨by rfl, ?_⟩) (by assumption) ?_
      rotate_left 1
      · (intro w hSw; (try dsimp only at hSw); go_simp; try with_reducible rfl)
      try simp only [Act.put, List.setIfInBounds_toArray, List.set_cons_zero, List.set_cons_succ]
      refine wpAnyH_take (i := 17) (v := ?_) rfl (by kernel_rfl) (by kernel_rfl) (by kernel_rfl) (fun _ _ _ h => h) (Or.inl ⟨by rfl, ?_⟩) (by assumption) ?_
      rotate_left 1
      · (intro w hSw; (try dsimp only at hSw); go_simp; try with_reducible rfl)
      try simp only [Act.put, List.setIfInBounds_toArray, List.set_cons_zero, List.set_cons_succ]
      refine wpAnyH_take (i := 18) (v := ?_) rfl (by kernel_rfl) (by kernel_rfl) (by kernel_rfl) (fun _ _ _ h => h) (Or.inl ⟨by rfl, ?_⟩) (by assumption) ?_
      rotate_left 1
      · (intro w hSw; (try dsimp only at hSw); go_simp; try with_reducible rfl)
      try simp only [Act.put, List.setIfInBounds_toArray, List.set_cons_zero, List.set_cons_succ]
      refine wpAnyH_ready (rs := [11, 19]) (by kernel_rfl) (by simp) ?_
      refine AllReadyH.cons rfl (fun K hK => ?_) (AllReadyH.cons rfl (fun K hK => ?_) AllReadyH.nil)
      rotate_left 1
      · try simp only [List.getElem_toArray, List.getElem_cons_zero, List.getElem_cons_succ]
        go_simp
        refine hK.out _ _ (by first | exact hSa | exact hS0) (fun hHeld => ?_)
        clear hK K
        try simp only [Act.put, List.setIfInBounds_toArray, List.set_cons_zero, List.set_cons_succ]
        refine wpAnyH_ready (rs := [11]) (by kernel_rfl) (by simp) ?_
        refine AllReadyH.cons rfl (fun K hK => ?_) AllReadyH.nil
        try simp only [List.getElem_toArray, List.getElem_cons_zero, List.getElem_cons_succ]
        go_simp
        refine hK.out _ _ (by first | exact hS0 | exact hSa) (fun hHeld => ?_)
        clear hK K
        try simp only [Act.put, List.setIfInBounds_toArray, List.set_cons_zero, List.set_cons_succ]
        refine wpAnyH_ready (rs := [20]) (by kernel_rfl) (by simp) ?_
        refine AllReadyH.cons rfl (fun K hK => ?_) AllReadyH.nil
        refine step_append_lies _ rfl _ _ 115 rfl (gn + 1 + 1) 117 i0 _ 2 16 Try.underlying115 hJ0.out hJ1.out hJ2.out hJ3.out rfl (by decide) _ n _ (by rfl) HL.out ⟨wr.heap.size, 0, none⟩ 1 1 _ (by rfl) rfl HN.out H1.out (by omega) (by have := hn4.out; unfold maxLen; omega) (by have := hn4.out; omega) (by have := hbs.out; simp; omega) (wr.heap.size + 1) (by simp) ?_
        intro g' cap w7 hown7 hgr7 hat7 hlt7
        obtain ⟨k1, k2, k3, k4, k5⟩ := HG.out w7 hgr7
        have hw7 := hgr7.size
        have hrb7 : rb < w7.heap.size := by have h1 := hrbw.out; have h2 := hbs.out; have h3 := hGn.out; simp at hw7; omega
        have hgn7 : gn + 1 < w7.heap.size := by have h2 := hbs.out; simp at hw7; omega
        have y0' := (k1 rb ro hrbw.out).trans z0.out
        have y1' := (k1 rb (ro + 1) hrbw.out).trans z1.out
        have y2' := (k1 rb (ro + 2) hrbw.out).trans z2.out
        obtain ⟨vs', hfin⟩ := k5 g' cap _ hown7 (by simpa using hat7) hlt7
        have hFin := Lib.hid hfin
        have hrl : rb < gn := by have := hGn.out; have := hrbw.out; omega
        have c8 := (Chg.refl gn (gn + 1) w7).setCell (p := ⟨gn, j, none⟩) ⟨Nat.le_refl _, Nat.lt_succ_self _⟩ (.slice (some ⟨g', 0, none⟩) (n + 1) cap)
        have hS8 := And.intro ((c8.cell (p := ⟨gn + 1, 1, none⟩) hgn7 (.inr (Nat.le_refl _))).trans k2) (And.intro ((c8.cell (p := ⟨rb, ro, none⟩) hrb7 (.inl hrl)).trans y0') (And.intro ((c8.cell (p := ⟨rb, ro + 1, none⟩) hrb7 (.inl hrl)).trans y1') ((c8.cell (p := ⟨rb, ro + 2, none⟩) hrb7 (.inl hrl)).trans y2')))
        have hS8 := Lib.hid hS8
        clear k5 hown7 hgr7 hat7 hlt7 hfin k1 c8 hrl hrb7 hgn7 hw7
        refine hK.out _ _ (And.intro k2 (And.intro y0' (And.intro y1' y2'))) (fun hHeld => ?_)
        clear hK K
        try simp only [Act.put, List.setIfInBounds_toArray, List.set_cons_zero, List.set_cons_succ]
        refine wpAnyH_take (i := 21) (v := ?_) rfl (by kernel_rfl) (by kernel_rfl) (by kernel_rfl) (fun _ _ _ h => h) (Or.inl ⟨by rfl, ?_⟩) (by assumption) ?_
        rotate_left 1
        · (intro w hSw; (try dsimp only at hSw); go_simp; try with_reducible rfl)
        try simp only [Act.put, List.setIfInBounds_toArray, List.set_cons_zero, List.set_cons_succ]
        refine wpAnyH_ready (rs := [22]) (by kernel_rfl) (by simp) ?_
        refine AllReadyH.cons rfl (fun K hK => ?_) AllReadyH.nil
        try simp only [List.getElem_toArray, List.getElem_cons_zero, List.getElem_cons_succ]
        go_simp
        refine hK.out _ _ hS8.out (fun hHeld => ?_)
        clear hK K
        try simp only [Act.put, List.setIfInBounds_toArray, List.set_cons_zero, List.set_cons_succ]
        refine wpAnyH_done (by kernel_rfl) ?_ _
        try simp only [Act.put, List.setIfInBounds_toArray, List.set_cons_zero, List.set_cons_succ]
        go_wp2
        go_roundw
        case rel => exact ⟨p + 1, vs', by omega, by go_num, by rw [hNS.out]; exact hFin.out⟩
        case measure => simp [intOf]; omega
      · try simp only [List.getElem_toArray, List.getElem_cons_zero, List.getElem_cons_succ]
        go_simp
        refine hK.out _ _ (by first | exact hS0 | exact hSa) (fun hHeld => ?_)
        clear hK K
        try simp only [Act.put, List.setIfInBounds_toArray, List.set_cons_zero, List.set_cons_succ]
        refine wpAnyH_ready (rs := [19]) (by kernel_rfl) (by simp) ?_
        refine AllReadyH.cons rfl (fun K hK => ?_) AllReadyH.nil
        try simp only [List.getElem_toArray, List.getElem_cons_zero, List.getElem_cons_succ]
        go_simp
        refine hK.out _ _ (by first | exact hS0 | exact hSa) (fun hHeld => ?_)
        clear hK K
        try simp only [Act.put, List.setIfInBounds_toArray, List.set_cons_zero, List.set_cons_succ]
        refine wpAnyH_ready (rs := [20]) (by kernel_rfl) (by simp) ?_
        refine AllReadyH.cons rfl (fun K hK => ?_) AllReadyH.nil
        refine step_append_lies _ rfl _ _ 115 rfl (gn + 1 + 1) 117 i0 _ 2 16 Try.underlying115 hJ0.out hJ1.out hJ2.out hJ3.out rfl (by decide) _ n _ (by rfl) HL.out ⟨wr.heap.size, 0, none⟩ 1 1 _ (by rfl) rfl HN.out H1.out (by omega) (by have := hn4.out; unfold maxLen; omega) (by have := hn4.out; omega) (by have := hbs.out; simp; omega) (wr.heap.size + 1) (by simp) ?_
        intro g' cap w7 hown7 hgr7 hat7 hlt7
        obtain ⟨k1, k2, k3, k4, k5⟩ := HG.out w7 hgr7
        have hw7 := hgr7.size
        have hrb7 : rb < w7.heap.size := by have h1 := hrbw.out; have h2 := hbs.out; have h3 := hGn.out; simp at hw7; omega
        have hgn7 : gn + 1 < w7.heap.size := by have h2 := hbs.out; simp at hw7; omega
        have y0' := (k1 rb ro hrbw.out).trans z0.out
        have y1' := (k1 rb (ro + 1) hrbw.out).trans z1.out
        have y2' := (k1 rb (ro + 2) hrbw.out).trans z2.out
        obtain ⟨vs', hfin⟩ := k5 g' cap _ hown7 (by simpa using hat7) hlt7
        have hFin := Lib.hid hfin
        have hrl : rb < gn := by have := hGn.out; have := hrbw.out; omega
        have c8 := (Chg.refl gn (gn + 1) w7).setCell (p := ⟨gn, j, none⟩) ⟨Nat.le_refl _, Nat.lt_succ_self _⟩ (.slice (some ⟨g', 0, none⟩) (n + 1) cap)
        have hS8 := And.intro ((c8.cell (p := ⟨gn + 1, 1, none⟩) hgn7 (.inr (Nat.le_refl _))).trans k2) (And.intro ((c8.cell (p := ⟨rb, ro, none⟩) hrb7 (.inl hrl)).trans y0') (And.intro ((c8.cell (p := ⟨rb, ro + 1, none⟩) hrb7 (.inl hrl)).trans y1') ((c8.cell (p := ⟨rb, ro + 2, none⟩) hrb7 (.inl hrl)).trans y2')))
        have hS8 := Lib.hid hS8
        clear k5 hown7 hgr7 hat7 hlt7 hfin k1 c8 hrl hrb7 hgn7 hw7
        refine hK.out _ _ (And.intro k2 (And.intro y0' (And.intro y1' y2'))) (fun hHeld => ?_)
        clear hK K
        try simp only [Act.put, List.setIfInBounds_toArray, List.set_cons_zero, List.set_cons_succ]
        refine wpAnyH_take (i := 21) (v := ?_) rfl (by kernel_rfl) (by kernel_rfl) (by kernel_rfl) (fun _ _ _ h => h) (Or.inl ⟨by rfl, ?_⟩) (by assumption) ?_
        rotate_left 1
        · (intro w hSw; (try dsimp only at hSw); go_simp; try with_reducible rfl)
        try simp only [Act.put, List.setIfInBounds_toArray, List.set_cons_zero, List.set_cons_succ]
        refine wpAnyH_ready (rs := [22]) (by kernel_rfl) (by simp) ?_
        refine AllReadyH.cons rfl (fun K hK => ?_) AllReadyH.nil
        try simp only [List.getElem_toArray, List.getElem_cons_zero, List.getElem_cons_succ]
        go_simp
        refine hK.out _ _ hS8.out (fun hHeld => ?_)
        clear hK K
        try simp only [Act.put, List.setIfInBounds_toArray, List.set_cons_zero, List.set_cons_succ]
        refine wpAnyH_done (by kernel_rfl) ?_ _
        try simp only [Act.put, List.setIfInBounds_toArray, List.set_cons_zero, List.set_cons_succ]
        go_wp2
        go_roundw
        case rel => exact ⟨p + 1, vs', by omega, by go_num, by rw [hNS.out]; exact hFin.out⟩
        case measure => simp [intOf]; omega
      -- REGION 8 END
    · obtain rfl : p = ds.length := by omega
      have hN := hs.out
      rw [hNe.out] at hN
      have hB9 := Lib.hid (hB1.out.trans (hN.be.mono hB1.out.size))
      have hP9 := Lib.hid (PB.put hN.res (.slice A cs.length c) (.slice (some ⟨gn, 0, none⟩) cs.length cs.length))
      have hB8 := Lib.hid ((hB9.out.setCell (p := ⟨w.heap.size, 0, none⟩) (Nat.le_refl _) (.slice A cs.length c)).setCell (p := ⟨w.heap.size, 1, none⟩) (Nat.le_refl _) (.slice (some ⟨gn, 0, none⟩) cs.length cs.length))
      have hc8 : Chg w.heap.size (w.heap.size + 1) wr ((wr.setCell ⟨w.heap.size, 0, none⟩ (.slice A cs.length c)).setCell ⟨w.heap.size, 1, none⟩ (.slice (some ⟨gn, 0, none⟩) cs.length cs.length)) := ((Chg.refl _ _ wr).setCell (p := ⟨w.heap.size, 0, none⟩) ⟨Nat.le_refl _, Nat.lt_succ_self _⟩ _).setCell (p := ⟨w.heap.size, 1, none⟩) ⟨Nat.le_refl _, Nat.lt_succ_self _⟩ _
      have hl1 := hN.l1
      have hpn := Lib.hid (PN.of (L := w.heap.size) ((hc8.block gn hN.nb.lt (by omega)).trans hN.nb) (hN.rows.chg hc8 (by omega)) (by omega) (by omega))
      obtain ⟨q0, q1⟩ := And.intro (PB.c0 hN.res) (PB.c1 hN.res)
      have f0 := CB.frozen hN.res 0
      have f1 := CB.frozen hN.res 1
      obtain ⟨b0, b1⟩ := And.intro (PB.c0 hN.bx) (PB.c1 hN.bx)
      clear hN hc8
      go_wp2
      exact plan_ret rfl rfl rfl hP9.out rfl rfl ⟨_, _, rfl, hpn.out, hB8.out⟩
end Go.Proofs.Ytpgdccfpegdcoaa

namespace Go.Proofs.Ytpgdccfpegdcoaa
open Go.RowKit
set_option linter.unusedVariables false

def ResFirstOrder (R0 : List (Int)) (R1 : Bool) (w : World) (e : Ending) (w' : World) : Prop := ∃ (A0 : Option Addr) (c0 : Nat), e = .returned (.tuple #[.slice A0 R0.length c0, .bool R1]) ∧ OW w' w.heap.size w'.heap.size (.slice A0 R0.length c0) R0 ∧ Below w.heap.size w w'
set_option maxHeartbeats 4000000 in
theorem lawFirstOrder (A0 : Option Addr) (c0 : Nat) (a0 : List In) (w : World) (hl0 : a0.length ≤ 9223372036854775807) (h0 : RS In.enc 5 w 0 w.heap.size A0 a0) (hs0 : ∀ n ∈ a0, n.op.size ≤ 9223372036854775807) (R0 : List (Int)) (R1 : Bool) (hR0 : R0.length ≤ 1048576)
    (hS : ∀ (L0 B0 : Nat) (A0 : Option Addr) (c0 : Nat) (w : World), a0.length ≤ 1048576 → RS In.enc 5 w L0 B0 A0 a0 → B0 ≤ w.heap.size → Calls Try.prog 43 #[.slice A0 a0.length c0] w (ResFirstOrder R0 R1 w))
    (hI : ∀ (L0 B0 : Nat) (A0 : Option Addr) (c0 : Nat) (w : World), a0.length ≤ 1048576 → RS In.enc 5 w L0 B0 A0 a0 → B0 ≤ w.heap.size → Calls Try.prog 44 #[.slice A0 a0.length c0] w (ResFirstOrder R0 R1 w)) :
    Calls Try.prog 8 #[.slice A0 a0.length c0] w fun e w' => e = .returned (.bool true) ∧ Below w.heap.size w w' := by
  have S := Lib.hid hS
  have I := Lib.hid hI
  have E0 := Lib.hid h0
  have Z0 := Lib.hid hs0
  clear hS hI h0 hs0
  have b0 := Lib.hid (Below.refl w.heap.size w)
  go_enter Try.func8, Try.ntmps8
  go_wp2_with (fail)
  refine (szInstrS_any 0 _ A0 c0 a0 1048576 _ hl0 (E0.out.below b0.out (Nat.le_refl _)) b0.out.size Z0.out (by omega) (by omega)).mono ?_
  rintro e w1 ⟨r0, rfl, hr0a, hr0b, hr0c, hb⟩
  have b1 := Lib.hid (b0.out.trans (hb.mono b0.out.size))
  have z1 := hb.size
  clear hb
  by_cases hr0 : 0 ≤ r0
  rotate_left
  · go_wp2
    go_ret
    exact ⟨rfl, b1.out⟩
  have hlen0 : a0.length ≤ 1048576 := by have := hr0b hr0; omega
  clear hr0b
  have e1 : (R1 != R1) = false := by simp
  go_wp2_with (fail)
  refine (toInstrS_any 0 _ A0 c0 a0 _ hlen0 (E0.out.below b1.out (Nat.le_refl _)) b1.out.size).mono ?_
  rintro e w2 ⟨Ap0, cp0, rfl, ho, hb⟩
  have b2 := Lib.hid (b1.out.trans (hb.mono b1.out.size))
  have z2 := hb.size
  clear hb
  have op0 := Lib.hid ho
  clear ho
  go_wp2_with (fail)
  refine (S.out _ _ _ _ _ hlen0 (In.rs op0.out) (by omega)).mono ?_
  rintro e w3 ⟨AW0, cW0, rfl, ho0, hb⟩
  have b3 := Lib.hid (b2.out.trans (hb.mono b2.out.size))
  have z3 := hb.size
  replace op0 := Lib.hid (op0.out.chg (Chg.ofBelow (lo := 0) (hi := 0) hb) (.inr (Nat.zero_le _)))
  clear hb
  have oW0 := Lib.hid ho0
  clear ho0
  go_wp2_with (fail)
  refine (toInstrS_any 0 _ A0 c0 a0 _ hlen0 (E0.out.below b3.out (Nat.le_refl _)) b3.out.size).mono ?_
  rintro e w4 ⟨Aq0, cq0, rfl, ho, hb⟩
  have b4 := Lib.hid (b3.out.trans (hb.mono b3.out.size))
  have z4 := hb.size
  replace oW0 := Lib.hid (oW0.out.chg (Chg.ofBelow (lo := 0) (hi := 0) hb) (.inr (Nat.zero_le _)))
  clear hb
  have oq0 := Lib.hid ho
  clear ho
  go_wp2_with (fail)
  refine (I.out _ _ _ _ _ hlen0 (In.rs oq0.out) (by omega)).mono ?_
  rintro e w5 ⟨AG0, cG0, rfl, ho0, hb⟩
  have b5 := Lib.hid (b4.out.trans (hb.mono b4.out.size))
  have z5 := hb.size
  replace oW0 := Lib.hid (oW0.out.chg (Chg.ofBelow (lo := 0) (hi := 0) hb) (.inr (Nat.zero_le _)))
  replace oq0 := Lib.hid (oq0.out.chg (Chg.ofBelow (lo := 0) (hi := 0) hb) (.inr (Nat.zero_le _)))
  clear hb
  have oG0 := Lib.hid ho0
  clear ho0
  go_wp2_with (fail)
  refine (eqIntS_any _ _ _ _ _ _ _ _ _ _ R0 R0 _ rfl rfl hR0 (OW.rs oG0.out) (OW.rs oW0.out) (by omega) (by omega) rfl).mono ?_
  rintro e w6 ⟨rfl, hb⟩
  have b6 := Lib.hid (b5.out.trans (hb.mono b5.out.size))
  have z6 := hb.size
  replace oW0 := Lib.hid (oW0.out.chg (Chg.ofBelow (lo := 0) (hi := 0) hb) (.inr (Nat.zero_le _)))
  replace oq0 := Lib.hid (oq0.out.chg (Chg.ofBelow (lo := 0) (hi := 0) hb) (.inr (Nat.zero_le _)))
  replace oG0 := Lib.hid (oG0.out.chg (Chg.ofBelow (lo := 0) (hi := 0) hb) (.inr (Nat.zero_le _)))
  clear hb
  go_wp2_with (fail)
  refine (toInstrS_any 0 _ A0 c0 a0 _ hlen0 (E0.out.below b6.out (Nat.le_refl _)) b6.out.size).mono ?_
  rintro e w7 ⟨As0, cs0, rfl, ho, hb⟩
  have b7 := Lib.hid (b6.out.trans (hb.mono b6.out.size))
  have z7 := hb.size
  replace oW0 := Lib.hid (oW0.out.chg (Chg.ofBelow (lo := 0) (hi := 0) hb) (.inr (Nat.zero_le _)))
  replace oq0 := Lib.hid (oq0.out.chg (Chg.ofBelow (lo := 0) (hi := 0) hb) (.inr (Nat.zero_le _)))
  replace oG0 := Lib.hid (oG0.out.chg (Chg.ofBelow (lo := 0) (hi := 0) hb) (.inr (Nat.zero_le _)))
  clear hb
  have os0 := Lib.hid ho
  clear ho
  go_wp2_with (fail)
  refine (eqInstrS_any _ _ _ _ _ _ _ _ _ _ a0 a0 _ rfl rfl hlen0 (In.rs oq0.out) (In.rs os0.out) (by omega) (by omega) rfl).mono ?_
  rintro e w8 ⟨rfl, hb⟩
  have b8 := Lib.hid (b7.out.trans (hb.mono b7.out.size))
  have z8 := hb.size
  replace oW0 := Lib.hid (oW0.out.chg (Chg.ofBelow (lo := 0) (hi := 0) hb) (.inr (Nat.zero_le _)))
  replace oq0 := Lib.hid (oq0.out.chg (Chg.ofBelow (lo := 0) (hi := 0) hb) (.inr (Nat.zero_le _)))
  replace oG0 := Lib.hid (oG0.out.chg (Chg.ofBelow (lo := 0) (hi := 0) hb) (.inr (Nat.zero_le _)))
  replace os0 := Lib.hid (os0.out.chg (Chg.ofBelow (lo := 0) (hi := 0) hb) (.inr (Nat.zero_le _)))
  clear hb
  go_wp2_with (fail)
  refine (markInstrS_any _ _ _ _ a0 (1) _ hlen0 (by omega) (by omega) oq0.out).mono ?_
  rintro e w9 ⟨rfl, _, hc⟩
  have b9 := Lib.hid (below_chg b8.out hc b8.out.size (by omega))
  have z9 := hc.size
  replace oW0 := Lib.hid (oW0.out.chg hc (by omega))
  replace oG0 := Lib.hid (oG0.out.chg hc (by omega))
  clear hc
  have hk : (0 : Int) ≤ 1 + 5 * (a0.length : Int) := by omega
  go_wp2_with (fail)
  refine (eqIntS_any _ _ _ _ _ _ _ _ _ _ R0 R0 _ rfl rfl hR0 (OW.rs oG0.out) (OW.rs oW0.out) (by omega) (by omega) rfl).mono ?_
  rintro e w10 ⟨rfl, hb⟩
  have b10 := Lib.hid (b9.out.trans (hb.mono b9.out.size))
  have z10 := hb.size
  replace oW0 := Lib.hid (oW0.out.chg (Chg.ofBelow (lo := 0) (hi := 0) hb) (.inr (Nat.zero_le _)))
  replace oG0 := Lib.hid (oG0.out.chg (Chg.ofBelow (lo := 0) (hi := 0) hb) (.inr (Nat.zero_le _)))
  clear hb
  go_wp2_with (fail)
  refine (markIntS_c _ _ _ _ R0 (1) _ hR0 (by omega) (by omega) oG0.out).mono ?_
  rintro e w11 ⟨rfl, ho, hc⟩
  have b11 := Lib.hid (below_chg b10.out hc b10.out.size (by omega))
  have z11 := hc.size
  replace oW0 := Lib.hid (oW0.out.chg hc (by omega))
  clear hc
  replace oG0 := Lib.hid ho
  clear ho
  have hq : (0 : Int) ≤ 1 + (R0.length : Int) := by omega
  go_wp2_with (fail)
  refine (heldIntS_any _ _ _ _ _ 1 _ hR0 (by omega) (by omega) (OW.rs oG0.out) ).mono ?_
  rintro e w_ ⟨rfl, rfl⟩
  go_wp2_with (fail)
  refine (toInstrS_any 0 _ A0 c0 a0 _ hlen0 (E0.out.below b11.out (Nat.le_refl _)) b11.out.size).mono ?_
  rintro e w12 ⟨Ah0, ch0, rfl, ho, hb⟩
  have b12 := Lib.hid (b11.out.trans (hb.mono b11.out.size))
  have z12 := hb.size
  replace oW0 := Lib.hid (oW0.out.chg (Chg.ofBelow (lo := 0) (hi := 0) hb) (.inr (Nat.zero_le _)))
  replace oG0 := Lib.hid (oG0.out.chg (Chg.ofBelow (lo := 0) (hi := 0) hb) (.inr (Nat.zero_le _)))
  clear hb
  have oh0 := Lib.hid ho
  clear ho
  go_wp2_with (fail)
  refine (I.out _ _ _ _ _ hlen0 (In.rs oh0.out) (by omega)).mono ?_
  rintro e w13 ⟨AH0, cH0, rfl, ho0, hb⟩
  have b13 := Lib.hid (b12.out.trans (hb.mono b12.out.size))
  have z13 := hb.size
  replace oW0 := Lib.hid (oW0.out.chg (Chg.ofBelow (lo := 0) (hi := 0) hb) (.inr (Nat.zero_le _)))
  replace oG0 := Lib.hid (oG0.out.chg (Chg.ofBelow (lo := 0) (hi := 0) hb) (.inr (Nat.zero_le _)))
  replace oh0 := Lib.hid (oh0.out.chg (Chg.ofBelow (lo := 0) (hi := 0) hb) (.inr (Nat.zero_le _)))
  clear hb
  have oH0 := Lib.hid ho0
  clear ho0
  go_wp2_with (fail)
  refine (eqIntS_any _ _ _ _ _ _ _ _ _ _ R0 R0 _ rfl rfl hR0 (OW.rs oH0.out) (OW.rs oW0.out) (by omega) (by omega) rfl).mono ?_
  rintro e w14 ⟨rfl, hb⟩
  have b14 := Lib.hid (b13.out.trans (hb.mono b13.out.size))
  have z14 := hb.size
  replace oW0 := Lib.hid (oW0.out.chg (Chg.ofBelow (lo := 0) (hi := 0) hb) (.inr (Nat.zero_le _)))
  replace oG0 := Lib.hid (oG0.out.chg (Chg.ofBelow (lo := 0) (hi := 0) hb) (.inr (Nat.zero_le _)))
  replace oh0 := Lib.hid (oh0.out.chg (Chg.ofBelow (lo := 0) (hi := 0) hb) (.inr (Nat.zero_le _)))
  replace oH0 := Lib.hid (oH0.out.chg (Chg.ofBelow (lo := 0) (hi := 0) hb) (.inr (Nat.zero_le _)))
  clear hb
  go_wp2_with (fail)
  refine (heldIntS_any _ _ _ _ _ 1 _ hR0 (by omega) (by omega) (OW.rs oG0.out) ).mono ?_
  rintro e w_ ⟨rfl, rfl⟩
  go_wp2
  go_ret
  exact ⟨rfl, b14.out⟩

def ResLengthOf (R0 : Int) (R1 : Bool) (w : World) (e : Ending) (w' : World) : Prop := e = .returned (.tuple #[.int .i64 R0, .bool R1]) ∧ Below w.heap.size w w'
set_option maxHeartbeats 4000000 in
theorem lawLengthOf (A0 : Option Addr) (c0 : Nat) (a0 : List In) (A1 : Option Addr) (c1 : Nat) (a1 : List Int) (w : World) (hl0 : a0.length ≤ 9223372036854775807) (h0 : RS In.enc 5 w 0 w.heap.size A0 a0) (hs0 : ∀ n ∈ a0, n.op.size ≤ 9223372036854775807) (hl1 : a1.length ≤ 9223372036854775807) (h1 : IS w 0 w.heap.size A1 a1) (R0 : Int) (R1 : Bool)
    (hS : ∀ (L0 B0 : Nat) (A0 : Option Addr) (c0 : Nat) (L1 B1 : Nat) (A1 : Option Addr) (c1 : Nat) (w : World), a0.length ≤ 1048576 → RS In.enc 5 w L0 B0 A0 a0 → B0 ≤ w.heap.size → a1.length ≤ 1048576 → IS w L1 B1 A1 a1 → B1 ≤ w.heap.size → Calls Try.prog 50 #[.slice A0 a0.length c0, .slice A1 a1.length c1] w (ResLengthOf R0 R1 w))
    (hI : ∀ (L0 B0 : Nat) (A0 : Option Addr) (c0 : Nat) (L1 B1 : Nat) (A1 : Option Addr) (c1 : Nat) (w : World), a0.length ≤ 1048576 → RS In.enc 5 w L0 B0 A0 a0 → B0 ≤ w.heap.size → a1.length ≤ 1048576 → IS w L1 B1 A1 a1 → B1 ≤ w.heap.size → Calls Try.prog 51 #[.slice A0 a0.length c0, .slice A1 a1.length c1] w (ResLengthOf R0 R1 w)) :
    Calls Try.prog 11 #[.slice A0 a0.length c0, .slice A1 a1.length c1] w fun e w' => e = .returned (.bool true) ∧ Below w.heap.size w w' := by
  have S := Lib.hid hS
  have I := Lib.hid hI
  have E0 := Lib.hid h0
  have E1 := Lib.hid h1
  have Z0 := Lib.hid hs0
  clear hS hI h0 h1 hs0
  by_cases g1 : a1.length ≤ 1048576
  rotate_left
  · have g1' : (1048576 : Int) < (a1.length : Int) := by omega
    clear g1
    go_enter Try.func11, Try.ntmps11
    go_wp2
    go_ret
    exact ⟨rfl, Below.refl _ _⟩
  have b0 := Lib.hid (Below.refl w.heap.size w)
  go_enter Try.func11, Try.ntmps11
  go_wp2_with (fail)
  refine (szInstrS_any 0 _ A0 c0 a0 1048576 _ hl0 (E0.out.below b0.out (Nat.le_refl _)) b0.out.size Z0.out (by omega) (by omega)).mono ?_
  rintro e w1 ⟨r0, rfl, hr0a, hr0b, hr0c, hb⟩
  have b1 := Lib.hid (b0.out.trans (hb.mono b0.out.size))
  have z1 := hb.size
  clear hb
  by_cases hr0 : 0 ≤ r0
  rotate_left
  · go_wp2
    go_ret
    exact ⟨rfl, b1.out⟩
  have hlen0 : a0.length ≤ 1048576 := by have := hr0b hr0; omega
  clear hr0b
  have hlen1 : a1.length ≤ 1048576 := g1
  have e0 : (R0 != R0) = false := by simp
  have e1 : (R1 != R1) = false := by simp
  go_wp2_with (fail)
  refine (toInstrS_any 0 _ A0 c0 a0 _ hlen0 (E0.out.below b1.out (Nat.le_refl _)) b1.out.size).mono ?_
  rintro e w2 ⟨Ap0, cp0, rfl, ho, hb⟩
  have b2 := Lib.hid (b1.out.trans (hb.mono b1.out.size))
  have z2 := hb.size
  clear hb
  have op0 := Lib.hid ho
  clear ho
  go_wp2_with (fail)
  refine (toIntS_any 0 _ A1 c1 a1 _ hlen1 (E1.out.below b2.out (Nat.le_refl _)) b2.out.size).mono ?_
  rintro e w3 ⟨Ap1, cp1, rfl, ho, hb⟩
  have b3 := Lib.hid (b2.out.trans (hb.mono b2.out.size))
  have z3 := hb.size
  replace op0 := Lib.hid (op0.out.chg (Chg.ofBelow (lo := 0) (hi := 0) hb) (.inr (Nat.zero_le _)))
  clear hb
  have op1 := Lib.hid ho
  clear ho
  go_wp2_with (fail)
  refine (S.out _ _ _ _ _ _ _ _ _ hlen0 (In.rs op0.out) (by omega) hlen1 (OW.rs op1.out) (by omega)).mono ?_
  rintro e w4 ⟨rfl, hb⟩
  have b4 := Lib.hid (b3.out.trans (hb.mono b3.out.size))
  have z4 := hb.size
  replace op0 := Lib.hid (op0.out.chg (Chg.ofBelow (lo := 0) (hi := 0) hb) (.inr (Nat.zero_le _)))
  replace op1 := Lib.hid (op1.out.chg (Chg.ofBelow (lo := 0) (hi := 0) hb) (.inr (Nat.zero_le _)))
  clear hb
  go_wp2_with (fail)
  refine (toInstrS_any 0 _ A0 c0 a0 _ hlen0 (E0.out.below b4.out (Nat.le_refl _)) b4.out.size).mono ?_
  rintro e w5 ⟨Aq0, cq0, rfl, ho, hb⟩
  have b5 := Lib.hid (b4.out.trans (hb.mono b4.out.size))
  have z5 := hb.size
  clear hb
  have oq0 := Lib.hid ho
  clear ho
  go_wp2_with (fail)
  refine (toIntS_any 0 _ A1 c1 a1 _ hlen1 (E1.out.below b5.out (Nat.le_refl _)) b5.out.size).mono ?_
  rintro e w6 ⟨Aq1, cq1, rfl, ho, hb⟩
  have b6 := Lib.hid (b5.out.trans (hb.mono b5.out.size))
  have z6 := hb.size
  replace oq0 := Lib.hid (oq0.out.chg (Chg.ofBelow (lo := 0) (hi := 0) hb) (.inr (Nat.zero_le _)))
  clear hb
  have oq1 := Lib.hid ho
  clear ho
  go_wp2_with (fail)
  refine (I.out _ _ _ _ _ _ _ _ _ hlen0 (In.rs oq0.out) (by omega) hlen1 (OW.rs oq1.out) (by omega)).mono ?_
  rintro e w7 ⟨rfl, hb⟩
  have b7 := Lib.hid (b6.out.trans (hb.mono b6.out.size))
  have z7 := hb.size
  replace oq0 := Lib.hid (oq0.out.chg (Chg.ofBelow (lo := 0) (hi := 0) hb) (.inr (Nat.zero_le _)))
  replace oq1 := Lib.hid (oq1.out.chg (Chg.ofBelow (lo := 0) (hi := 0) hb) (.inr (Nat.zero_le _)))
  clear hb
  go_wp2_with (fail)
  refine (toInstrS_any 0 _ A0 c0 a0 _ hlen0 (E0.out.below b7.out (Nat.le_refl _)) b7.out.size).mono ?_
  rintro e w8 ⟨As0, cs0, rfl, ho, hb⟩
  have b8 := Lib.hid (b7.out.trans (hb.mono b7.out.size))
  have z8 := hb.size
  replace oq0 := Lib.hid (oq0.out.chg (Chg.ofBelow (lo := 0) (hi := 0) hb) (.inr (Nat.zero_le _)))
  replace oq1 := Lib.hid (oq1.out.chg (Chg.ofBelow (lo := 0) (hi := 0) hb) (.inr (Nat.zero_le _)))
  clear hb
  have os0 := Lib.hid ho
  clear ho
  go_wp2_with (fail)
  refine (eqInstrS_any _ _ _ _ _ _ _ _ _ _ a0 a0 _ rfl rfl hlen0 (In.rs oq0.out) (In.rs os0.out) (by omega) (by omega) rfl).mono ?_
  rintro e w9 ⟨rfl, hb⟩
  have b9 := Lib.hid (b8.out.trans (hb.mono b8.out.size))
  have z9 := hb.size
  replace oq0 := Lib.hid (oq0.out.chg (Chg.ofBelow (lo := 0) (hi := 0) hb) (.inr (Nat.zero_le _)))
  replace oq1 := Lib.hid (oq1.out.chg (Chg.ofBelow (lo := 0) (hi := 0) hb) (.inr (Nat.zero_le _)))
  replace os0 := Lib.hid (os0.out.chg (Chg.ofBelow (lo := 0) (hi := 0) hb) (.inr (Nat.zero_le _)))
  clear hb
  go_wp2_with (fail)
  refine (toIntS_any 0 _ A1 c1 a1 _ hlen1 (E1.out.below b9.out (Nat.le_refl _)) b9.out.size).mono ?_
  rintro e w10 ⟨As1, cs1, rfl, ho, hb⟩
  have b10 := Lib.hid (b9.out.trans (hb.mono b9.out.size))
  have z10 := hb.size
  replace oq0 := Lib.hid (oq0.out.chg (Chg.ofBelow (lo := 0) (hi := 0) hb) (.inr (Nat.zero_le _)))
  replace oq1 := Lib.hid (oq1.out.chg (Chg.ofBelow (lo := 0) (hi := 0) hb) (.inr (Nat.zero_le _)))
  clear hb
  have os1 := Lib.hid ho
  clear ho
  go_wp2_with (fail)
  refine (eqIntS_any _ _ _ _ _ _ _ _ _ _ a1 a1 _ rfl rfl hlen1 (OW.rs oq1.out) (OW.rs os1.out) (by omega) (by omega) rfl).mono ?_
  rintro e w11 ⟨rfl, hb⟩
  have b11 := Lib.hid (b10.out.trans (hb.mono b10.out.size))
  have z11 := hb.size
  replace oq0 := Lib.hid (oq0.out.chg (Chg.ofBelow (lo := 0) (hi := 0) hb) (.inr (Nat.zero_le _)))
  replace oq1 := Lib.hid (oq1.out.chg (Chg.ofBelow (lo := 0) (hi := 0) hb) (.inr (Nat.zero_le _)))
  replace os1 := Lib.hid (os1.out.chg (Chg.ofBelow (lo := 0) (hi := 0) hb) (.inr (Nat.zero_le _)))
  clear hb
  go_wp2
  go_ret
  exact ⟨rfl, b11.out⟩

def ResEarliestOf (R0 : List (Int)) (R1 : Bool) (w : World) (e : Ending) (w' : World) : Prop := ∃ (A0 : Option Addr) (c0 : Nat), e = .returned (.tuple #[.slice A0 R0.length c0, .bool R1]) ∧ OW w' w.heap.size w'.heap.size (.slice A0 R0.length c0) R0 ∧ Below w.heap.size w w'
set_option maxHeartbeats 4000000 in
theorem lawEarliestOf (A0 : Option Addr) (c0 : Nat) (a0 : List In) (w : World) (hl0 : a0.length ≤ 9223372036854775807) (h0 : RS In.enc 5 w 0 w.heap.size A0 a0) (hs0 : ∀ n ∈ a0, n.op.size ≤ 9223372036854775807) (R0 : List (Int)) (R1 : Bool) (hR0 : R0.length ≤ 1048576)
    (hS : ∀ (L0 B0 : Nat) (A0 : Option Addr) (c0 : Nat) (w : World), a0.length ≤ 1048576 → RS In.enc 5 w L0 B0 A0 a0 → B0 ≤ w.heap.size → Calls Try.prog 52 #[.slice A0 a0.length c0] w (ResEarliestOf R0 R1 w))
    (hI : ∀ (L0 B0 : Nat) (A0 : Option Addr) (c0 : Nat) (w : World), a0.length ≤ 1048576 → RS In.enc 5 w L0 B0 A0 a0 → B0 ≤ w.heap.size → a0.length ≤ c0 → Calls Try.prog 53 #[.slice A0 a0.length c0] w (ResEarliestOf R0 R1 w)) :
    Calls Try.prog 12 #[.slice A0 a0.length c0] w fun e w' => e = .returned (.bool true) ∧ Below w.heap.size w w' := by
  have S := Lib.hid hS
  have I := Lib.hid hI
  have E0 := Lib.hid h0
  have Z0 := Lib.hid hs0
  clear hS hI h0 hs0
  have b0 := Lib.hid (Below.refl w.heap.size w)
  go_enter Try.func12, Try.ntmps12
  go_wp2_with (fail)
  refine (szInstrS_any 0 _ A0 c0 a0 1048576 _ hl0 (E0.out.below b0.out (Nat.le_refl _)) b0.out.size Z0.out (by omega) (by omega)).mono ?_
  rintro e w1 ⟨r0, rfl, hr0a, hr0b, hr0c, hb⟩
  have b1 := Lib.hid (b0.out.trans (hb.mono b0.out.size))
  have z1 := hb.size
  clear hb
  by_cases hr0 : 0 ≤ r0
  rotate_left
  · go_wp2
    go_ret
    exact ⟨rfl, b1.out⟩
  have hlen0 : a0.length ≤ 1048576 := by have := hr0b hr0; omega
  clear hr0b
  have e1 : (R1 != R1) = false := by simp
  go_wp2_with (fail)
  refine (toInstrS_any 0 _ A0 c0 a0 _ hlen0 (E0.out.below b1.out (Nat.le_refl _)) b1.out.size).mono ?_
  rintro e w2 ⟨Ap0, cp0, rfl, ho, hb⟩
  have b2 := Lib.hid (b1.out.trans (hb.mono b1.out.size))
  have z2 := hb.size
  clear hb
  have op0 := Lib.hid ho
  clear ho
  go_wp2_with (fail)
  refine (S.out _ _ _ _ _ hlen0 (In.rs op0.out) (by omega)).mono ?_
  rintro e w3 ⟨AW0, cW0, rfl, ho0, hb⟩
  have b3 := Lib.hid (b2.out.trans (hb.mono b2.out.size))
  have z3 := hb.size
  replace op0 := Lib.hid (op0.out.chg (Chg.ofBelow (lo := 0) (hi := 0) hb) (.inr (Nat.zero_le _)))
  clear hb
  have oW0 := Lib.hid ho0
  clear ho0
  go_wp2_with (fail)
  refine (toInstrS_any 0 _ A0 c0 a0 _ hlen0 (E0.out.below b3.out (Nat.le_refl _)) b3.out.size).mono ?_
  rintro e w4 ⟨Aq0, cq0, rfl, ho, hb⟩
  have b4 := Lib.hid (b3.out.trans (hb.mono b3.out.size))
  have z4 := hb.size
  replace oW0 := Lib.hid (oW0.out.chg (Chg.ofBelow (lo := 0) (hi := 0) hb) (.inr (Nat.zero_le _)))
  clear hb
  have oq0 := Lib.hid ho
  clear ho
  go_wp2_with (fail)
  refine (I.out _ _ _ _ _ hlen0 (In.rs oq0.out) (by omega) (OK.cap oq0.out)).mono ?_
  rintro e w5 ⟨AG0, cG0, rfl, ho0, hb⟩
  have b5 := Lib.hid (b4.out.trans (hb.mono b4.out.size))
  have z5 := hb.size
  replace oW0 := Lib.hid (oW0.out.chg (Chg.ofBelow (lo := 0) (hi := 0) hb) (.inr (Nat.zero_le _)))
  replace oq0 := Lib.hid (oq0.out.chg (Chg.ofBelow (lo := 0) (hi := 0) hb) (.inr (Nat.zero_le _)))
  clear hb
  have oG0 := Lib.hid ho0
  clear ho0
  go_wp2_with (fail)
  refine (eqIntS_any _ _ _ _ _ _ _ _ _ _ R0 R0 _ rfl rfl hR0 (OW.rs oG0.out) (OW.rs oW0.out) (by omega) (by omega) rfl).mono ?_
  rintro e w6 ⟨rfl, hb⟩
  have b6 := Lib.hid (b5.out.trans (hb.mono b5.out.size))
  have z6 := hb.size
  replace oW0 := Lib.hid (oW0.out.chg (Chg.ofBelow (lo := 0) (hi := 0) hb) (.inr (Nat.zero_le _)))
  replace oq0 := Lib.hid (oq0.out.chg (Chg.ofBelow (lo := 0) (hi := 0) hb) (.inr (Nat.zero_le _)))
  replace oG0 := Lib.hid (oG0.out.chg (Chg.ofBelow (lo := 0) (hi := 0) hb) (.inr (Nat.zero_le _)))
  clear hb
  go_wp2_with (fail)
  refine (toInstrS_any 0 _ A0 c0 a0 _ hlen0 (E0.out.below b6.out (Nat.le_refl _)) b6.out.size).mono ?_
  rintro e w7 ⟨As0, cs0, rfl, ho, hb⟩
  have b7 := Lib.hid (b6.out.trans (hb.mono b6.out.size))
  have z7 := hb.size
  replace oW0 := Lib.hid (oW0.out.chg (Chg.ofBelow (lo := 0) (hi := 0) hb) (.inr (Nat.zero_le _)))
  replace oq0 := Lib.hid (oq0.out.chg (Chg.ofBelow (lo := 0) (hi := 0) hb) (.inr (Nat.zero_le _)))
  replace oG0 := Lib.hid (oG0.out.chg (Chg.ofBelow (lo := 0) (hi := 0) hb) (.inr (Nat.zero_le _)))
  clear hb
  have os0 := Lib.hid ho
  clear ho
  go_wp2_with (fail)
  refine (eqInstrS_any _ _ _ _ _ _ _ _ _ _ a0 a0 _ rfl rfl hlen0 (In.rs oq0.out) (In.rs os0.out) (by omega) (by omega) rfl).mono ?_
  rintro e w8 ⟨rfl, hb⟩
  have b8 := Lib.hid (b7.out.trans (hb.mono b7.out.size))
  have z8 := hb.size
  replace oW0 := Lib.hid (oW0.out.chg (Chg.ofBelow (lo := 0) (hi := 0) hb) (.inr (Nat.zero_le _)))
  replace oq0 := Lib.hid (oq0.out.chg (Chg.ofBelow (lo := 0) (hi := 0) hb) (.inr (Nat.zero_le _)))
  replace oG0 := Lib.hid (oG0.out.chg (Chg.ofBelow (lo := 0) (hi := 0) hb) (.inr (Nat.zero_le _)))
  replace os0 := Lib.hid (os0.out.chg (Chg.ofBelow (lo := 0) (hi := 0) hb) (.inr (Nat.zero_le _)))
  clear hb
  go_wp2_with (fail)
  refine (markInstrS_any _ _ _ _ a0 (1) _ hlen0 (by omega) (by omega) oq0.out).mono ?_
  rintro e w9 ⟨rfl, _, hc⟩
  have b9 := Lib.hid (below_chg b8.out hc b8.out.size (by omega))
  have z9 := hc.size
  replace oW0 := Lib.hid (oW0.out.chg hc (by omega))
  replace oG0 := Lib.hid (oG0.out.chg hc (by omega))
  clear hc
  have hk : (0 : Int) ≤ 1 + 5 * (a0.length : Int) := by omega
  go_wp2_with (fail)
  refine (eqIntS_any _ _ _ _ _ _ _ _ _ _ R0 R0 _ rfl rfl hR0 (OW.rs oG0.out) (OW.rs oW0.out) (by omega) (by omega) rfl).mono ?_
  rintro e w10 ⟨rfl, hb⟩
  have b10 := Lib.hid (b9.out.trans (hb.mono b9.out.size))
  have z10 := hb.size
  replace oW0 := Lib.hid (oW0.out.chg (Chg.ofBelow (lo := 0) (hi := 0) hb) (.inr (Nat.zero_le _)))
  replace oG0 := Lib.hid (oG0.out.chg (Chg.ofBelow (lo := 0) (hi := 0) hb) (.inr (Nat.zero_le _)))
  clear hb
  go_wp2_with (fail)
  refine (markIntS_c _ _ _ _ R0 (1) _ hR0 (by omega) (by omega) oG0.out).mono ?_
  rintro e w11 ⟨rfl, ho, hc⟩
  have b11 := Lib.hid (below_chg b10.out hc b10.out.size (by omega))
  have z11 := hc.size
  replace oW0 := Lib.hid (oW0.out.chg hc (by omega))
  clear hc
  replace oG0 := Lib.hid ho
  clear ho
  have hq : (0 : Int) ≤ 1 + (R0.length : Int) := by omega
  go_wp2_with (fail)
  refine (heldIntS_any _ _ _ _ _ 1 _ hR0 (by omega) (by omega) (OW.rs oG0.out) ).mono ?_
  rintro e w_ ⟨rfl, rfl⟩
  go_wp2_with (fail)
  refine (toInstrS_any 0 _ A0 c0 a0 _ hlen0 (E0.out.below b11.out (Nat.le_refl _)) b11.out.size).mono ?_
  rintro e w12 ⟨Ah0, ch0, rfl, ho, hb⟩
  have b12 := Lib.hid (b11.out.trans (hb.mono b11.out.size))
  have z12 := hb.size
  replace oW0 := Lib.hid (oW0.out.chg (Chg.ofBelow (lo := 0) (hi := 0) hb) (.inr (Nat.zero_le _)))
  replace oG0 := Lib.hid (oG0.out.chg (Chg.ofBelow (lo := 0) (hi := 0) hb) (.inr (Nat.zero_le _)))
  clear hb
  have oh0 := Lib.hid ho
  clear ho
  go_wp2_with (fail)
  refine (I.out _ _ _ _ _ hlen0 (In.rs oh0.out) (by omega) (OK.cap oh0.out)).mono ?_
  rintro e w13 ⟨AH0, cH0, rfl, ho0, hb⟩
  have b13 := Lib.hid (b12.out.trans (hb.mono b12.out.size))
  have z13 := hb.size
  replace oW0 := Lib.hid (oW0.out.chg (Chg.ofBelow (lo := 0) (hi := 0) hb) (.inr (Nat.zero_le _)))
  replace oG0 := Lib.hid (oG0.out.chg (Chg.ofBelow (lo := 0) (hi := 0) hb) (.inr (Nat.zero_le _)))
  replace oh0 := Lib.hid (oh0.out.chg (Chg.ofBelow (lo := 0) (hi := 0) hb) (.inr (Nat.zero_le _)))
  clear hb
  have oH0 := Lib.hid ho0
  clear ho0
  go_wp2_with (fail)
  refine (eqIntS_any _ _ _ _ _ _ _ _ _ _ R0 R0 _ rfl rfl hR0 (OW.rs oH0.out) (OW.rs oW0.out) (by omega) (by omega) rfl).mono ?_
  rintro e w14 ⟨rfl, hb⟩
  have b14 := Lib.hid (b13.out.trans (hb.mono b13.out.size))
  have z14 := hb.size
  replace oW0 := Lib.hid (oW0.out.chg (Chg.ofBelow (lo := 0) (hi := 0) hb) (.inr (Nat.zero_le _)))
  replace oG0 := Lib.hid (oG0.out.chg (Chg.ofBelow (lo := 0) (hi := 0) hb) (.inr (Nat.zero_le _)))
  replace oh0 := Lib.hid (oh0.out.chg (Chg.ofBelow (lo := 0) (hi := 0) hb) (.inr (Nat.zero_le _)))
  replace oH0 := Lib.hid (oH0.out.chg (Chg.ofBelow (lo := 0) (hi := 0) hb) (.inr (Nat.zero_le _)))
  clear hb
  go_wp2_with (fail)
  refine (heldIntS_any _ _ _ _ _ 1 _ hR0 (by omega) (by omega) (OW.rs oG0.out) ).mono ?_
  rintro e w_ ⟨rfl, rfl⟩
  go_wp2
  go_ret
  exact ⟨rfl, b14.out⟩

def ResPathBound (R0 : Int) (R1 : Bool) (w : World) (e : Ending) (w' : World) : Prop := e = .returned (.tuple #[.int .i64 R0, .bool R1]) ∧ Below w.heap.size w w'
set_option maxHeartbeats 4000000 in
theorem lawPathBound (A0 : Option Addr) (c0 : Nat) (a0 : List In) (w : World) (hl0 : a0.length ≤ 9223372036854775807) (h0 : RS In.enc 5 w 0 w.heap.size A0 a0) (hs0 : ∀ n ∈ a0, n.op.size ≤ 9223372036854775807) (R0 : Int) (R1 : Bool)
    (hS : ∀ (L0 B0 : Nat) (A0 : Option Addr) (c0 : Nat) (w : World), a0.length ≤ 1048576 → RS In.enc 5 w L0 B0 A0 a0 → B0 ≤ w.heap.size → Calls Try.prog 56 #[.slice A0 a0.length c0] w (ResPathBound R0 R1 w))
    (hI : ∀ (L0 B0 : Nat) (A0 : Option Addr) (c0 : Nat) (w : World), a0.length ≤ 1048576 → RS In.enc 5 w L0 B0 A0 a0 → B0 ≤ w.heap.size → a0.length ≤ c0 → Calls Try.prog 57 #[.slice A0 a0.length c0] w (ResPathBound R0 R1 w)) :
    Calls Try.prog 14 #[.slice A0 a0.length c0] w fun e w' => e = .returned (.bool true) ∧ Below w.heap.size w w' := by
  have S := Lib.hid hS
  have I := Lib.hid hI
  have E0 := Lib.hid h0
  have Z0 := Lib.hid hs0
  clear hS hI h0 hs0
  have b0 := Lib.hid (Below.refl w.heap.size w)
  go_enter Try.func14, Try.ntmps14
  go_wp2_with (fail)
  refine (szInstrS_any 0 _ A0 c0 a0 1048576 _ hl0 (E0.out.below b0.out (Nat.le_refl _)) b0.out.size Z0.out (by omega) (by omega)).mono ?_
  rintro e w1 ⟨r0, rfl, hr0a, hr0b, hr0c, hb⟩
  have b1 := Lib.hid (b0.out.trans (hb.mono b0.out.size))
  have z1 := hb.size
  clear hb
  by_cases hr0 : 0 ≤ r0
  rotate_left
  · go_wp2
    go_ret
    exact ⟨rfl, b1.out⟩
  have hlen0 : a0.length ≤ 1048576 := by have := hr0b hr0; omega
  clear hr0b
  have e0 : (R0 != R0) = false := by simp
  have e1 : (R1 != R1) = false := by simp
  go_wp2_with (fail)
  refine (toInstrS_any 0 _ A0 c0 a0 _ hlen0 (E0.out.below b1.out (Nat.le_refl _)) b1.out.size).mono ?_
  rintro e w2 ⟨Ap0, cp0, rfl, ho, hb⟩
  have b2 := Lib.hid (b1.out.trans (hb.mono b1.out.size))
  have z2 := hb.size
  clear hb
  have op0 := Lib.hid ho
  clear ho
  go_wp2_with (fail)
  refine (S.out _ _ _ _ _ hlen0 (In.rs op0.out) (by omega)).mono ?_
  rintro e w3 ⟨rfl, hb⟩
  have b3 := Lib.hid (b2.out.trans (hb.mono b2.out.size))
  have z3 := hb.size
  replace op0 := Lib.hid (op0.out.chg (Chg.ofBelow (lo := 0) (hi := 0) hb) (.inr (Nat.zero_le _)))
  clear hb
  go_wp2_with (fail)
  refine (toInstrS_any 0 _ A0 c0 a0 _ hlen0 (E0.out.below b3.out (Nat.le_refl _)) b3.out.size).mono ?_
  rintro e w4 ⟨Aq0, cq0, rfl, ho, hb⟩
  have b4 := Lib.hid (b3.out.trans (hb.mono b3.out.size))
  have z4 := hb.size
  clear hb
  have oq0 := Lib.hid ho
  clear ho
  go_wp2_with (fail)
  refine (I.out _ _ _ _ _ hlen0 (In.rs oq0.out) (by omega) (OK.cap oq0.out)).mono ?_
  rintro e w5 ⟨rfl, hb⟩
  have b5 := Lib.hid (b4.out.trans (hb.mono b4.out.size))
  have z5 := hb.size
  replace oq0 := Lib.hid (oq0.out.chg (Chg.ofBelow (lo := 0) (hi := 0) hb) (.inr (Nat.zero_le _)))
  clear hb
  go_wp2_with (fail)
  refine (toInstrS_any 0 _ A0 c0 a0 _ hlen0 (E0.out.below b5.out (Nat.le_refl _)) b5.out.size).mono ?_
  rintro e w6 ⟨As0, cs0, rfl, ho, hb⟩
  have b6 := Lib.hid (b5.out.trans (hb.mono b5.out.size))
  have z6 := hb.size
  replace oq0 := Lib.hid (oq0.out.chg (Chg.ofBelow (lo := 0) (hi := 0) hb) (.inr (Nat.zero_le _)))
  clear hb
  have os0 := Lib.hid ho
  clear ho
  go_wp2_with (fail)
  refine (eqInstrS_any _ _ _ _ _ _ _ _ _ _ a0 a0 _ rfl rfl hlen0 (In.rs oq0.out) (In.rs os0.out) (by omega) (by omega) rfl).mono ?_
  rintro e w7 ⟨rfl, hb⟩
  have b7 := Lib.hid (b6.out.trans (hb.mono b6.out.size))
  have z7 := hb.size
  replace oq0 := Lib.hid (oq0.out.chg (Chg.ofBelow (lo := 0) (hi := 0) hb) (.inr (Nat.zero_le _)))
  replace os0 := Lib.hid (os0.out.chg (Chg.ofBelow (lo := 0) (hi := 0) hb) (.inr (Nat.zero_le _)))
  clear hb
  go_wp2
  go_ret
  exact ⟨rfl, b7.out⟩

def ResWideBound (R0 : Int) (R1 : Bool) (w : World) (e : Ending) (w' : World) : Prop := e = .returned (.tuple #[.int .i64 R0, .bool R1]) ∧ Below w.heap.size w w'
set_option maxHeartbeats 4000000 in
theorem lawWideBound (A0 : Option Addr) (c0 : Nat) (a0 : List In) (a1 : Int) (w : World) (hl0 : a0.length ≤ 9223372036854775807) (h0 : RS In.enc 5 w 0 w.heap.size A0 a0) (hs0 : ∀ n ∈ a0, n.op.size ≤ 9223372036854775807) (R0 : Int) (R1 : Bool)
    (hS : ∀ (L0 B0 : Nat) (A0 : Option Addr) (c0 : Nat) (w : World), a0.length ≤ 1048576 → RS In.enc 5 w L0 B0 A0 a0 → B0 ≤ w.heap.size → Calls Try.prog 58 #[.slice A0 a0.length c0, .int .i64 a1] w (ResWideBound R0 R1 w))
    (hI : ∀ (L0 B0 : Nat) (A0 : Option Addr) (c0 : Nat) (w : World), a0.length ≤ 1048576 → RS In.enc 5 w L0 B0 A0 a0 → B0 ≤ w.heap.size → a0.length ≤ c0 → Calls Try.prog 59 #[.slice A0 a0.length c0, .int .i64 a1] w (ResWideBound R0 R1 w)) :
    Calls Try.prog 15 #[.slice A0 a0.length c0, .int .i64 a1] w fun e w' => e = .returned (.bool true) ∧ Below w.heap.size w w' := by
  have S := Lib.hid hS
  have I := Lib.hid hI
  have E0 := Lib.hid h0
  have Z0 := Lib.hid hs0
  clear hS hI h0 hs0
  have b0 := Lib.hid (Below.refl w.heap.size w)
  go_enter Try.func15, Try.ntmps15
  go_wp2_with (fail)
  refine (szInstrS_any 0 _ A0 c0 a0 1048576 _ hl0 (E0.out.below b0.out (Nat.le_refl _)) b0.out.size Z0.out (by omega) (by omega)).mono ?_
  rintro e w1 ⟨r0, rfl, hr0a, hr0b, hr0c, hb⟩
  have b1 := Lib.hid (b0.out.trans (hb.mono b0.out.size))
  have z1 := hb.size
  clear hb
  by_cases hr0 : 0 ≤ r0
  rotate_left
  · go_wp2
    go_ret
    exact ⟨rfl, b1.out⟩
  have hlen0 : a0.length ≤ 1048576 := by have := hr0b hr0; omega
  clear hr0b
  have e0 : (R0 != R0) = false := by simp
  have e1 : (R1 != R1) = false := by simp
  go_wp2_with (fail)
  refine (toInstrS_any 0 _ A0 c0 a0 _ hlen0 (E0.out.below b1.out (Nat.le_refl _)) b1.out.size).mono ?_
  rintro e w2 ⟨Ap0, cp0, rfl, ho, hb⟩
  have b2 := Lib.hid (b1.out.trans (hb.mono b1.out.size))
  have z2 := hb.size
  clear hb
  have op0 := Lib.hid ho
  clear ho
  go_wp2_with (fail)
  refine (S.out _ _ _ _ _ hlen0 (In.rs op0.out) (by omega)).mono ?_
  rintro e w3 ⟨rfl, hb⟩
  have b3 := Lib.hid (b2.out.trans (hb.mono b2.out.size))
  have z3 := hb.size
  replace op0 := Lib.hid (op0.out.chg (Chg.ofBelow (lo := 0) (hi := 0) hb) (.inr (Nat.zero_le _)))
  clear hb
  go_wp2_with (fail)
  refine (toInstrS_any 0 _ A0 c0 a0 _ hlen0 (E0.out.below b3.out (Nat.le_refl _)) b3.out.size).mono ?_
  rintro e w4 ⟨Aq0, cq0, rfl, ho, hb⟩
  have b4 := Lib.hid (b3.out.trans (hb.mono b3.out.size))
  have z4 := hb.size
  clear hb
  have oq0 := Lib.hid ho
  clear ho
  go_wp2_with (fail)
  refine (I.out _ _ _ _ _ hlen0 (In.rs oq0.out) (by omega) (OK.cap oq0.out)).mono ?_
  rintro e w5 ⟨rfl, hb⟩
  have b5 := Lib.hid (b4.out.trans (hb.mono b4.out.size))
  have z5 := hb.size
  replace oq0 := Lib.hid (oq0.out.chg (Chg.ofBelow (lo := 0) (hi := 0) hb) (.inr (Nat.zero_le _)))
  clear hb
  go_wp2_with (fail)
  refine (toInstrS_any 0 _ A0 c0 a0 _ hlen0 (E0.out.below b5.out (Nat.le_refl _)) b5.out.size).mono ?_
  rintro e w6 ⟨As0, cs0, rfl, ho, hb⟩
  have b6 := Lib.hid (b5.out.trans (hb.mono b5.out.size))
  have z6 := hb.size
  replace oq0 := Lib.hid (oq0.out.chg (Chg.ofBelow (lo := 0) (hi := 0) hb) (.inr (Nat.zero_le _)))
  clear hb
  have os0 := Lib.hid ho
  clear ho
  go_wp2_with (fail)
  refine (eqInstrS_any _ _ _ _ _ _ _ _ _ _ a0 a0 _ rfl rfl hlen0 (In.rs oq0.out) (In.rs os0.out) (by omega) (by omega) rfl).mono ?_
  rintro e w7 ⟨rfl, hb⟩
  have b7 := Lib.hid (b6.out.trans (hb.mono b6.out.size))
  have z7 := hb.size
  replace oq0 := Lib.hid (oq0.out.chg (Chg.ofBelow (lo := 0) (hi := 0) hb) (.inr (Nat.zero_le _)))
  replace os0 := Lib.hid (os0.out.chg (Chg.ofBelow (lo := 0) (hi := 0) hb) (.inr (Nat.zero_le _)))
  clear hb
  go_wp2
  go_ret
  exact ⟨rfl, b7.out⟩

def ResLatestOf (R0 : List (Int)) (R1 : Bool) (w : World) (e : Ending) (w' : World) : Prop := ∃ (A0 : Option Addr) (c0 : Nat), e = .returned (.tuple #[.slice A0 R0.length c0, .bool R1]) ∧ OW w' w.heap.size w'.heap.size (.slice A0 R0.length c0) R0 ∧ Below w.heap.size w w'
set_option maxHeartbeats 4000000 in
theorem lawLatestOf (A0 : Option Addr) (c0 : Nat) (a0 : List In) (a1 : Int) (w : World) (hl0 : a0.length ≤ 9223372036854775807) (h0 : RS In.enc 5 w 0 w.heap.size A0 a0) (hs0 : ∀ n ∈ a0, n.op.size ≤ 9223372036854775807) (R0 : List (Int)) (R1 : Bool) (hR0 : R0.length ≤ 1048576)
    (hS : ∀ (L0 B0 : Nat) (A0 : Option Addr) (c0 : Nat) (w : World), a0.length ≤ 1048576 → RS In.enc 5 w L0 B0 A0 a0 → B0 ≤ w.heap.size → Calls Try.prog 54 #[.slice A0 a0.length c0, .int .i64 a1] w (ResLatestOf R0 R1 w))
    (hI : ∀ (L0 B0 : Nat) (A0 : Option Addr) (c0 : Nat) (w : World), a0.length ≤ 1048576 → RS In.enc 5 w L0 B0 A0 a0 → B0 ≤ w.heap.size → a0.length ≤ c0 → Calls Try.prog 55 #[.slice A0 a0.length c0, .int .i64 a1] w (ResLatestOf R0 R1 w)) :
    Calls Try.prog 13 #[.slice A0 a0.length c0, .int .i64 a1] w fun e w' => e = .returned (.bool true) ∧ Below w.heap.size w w' := by
  have S := Lib.hid hS
  have I := Lib.hid hI
  have E0 := Lib.hid h0
  have Z0 := Lib.hid hs0
  clear hS hI h0 hs0
  have b0 := Lib.hid (Below.refl w.heap.size w)
  go_enter Try.func13, Try.ntmps13
  go_wp2_with (fail)
  refine (szInstrS_any 0 _ A0 c0 a0 1048576 _ hl0 (E0.out.below b0.out (Nat.le_refl _)) b0.out.size Z0.out (by omega) (by omega)).mono ?_
  rintro e w1 ⟨r0, rfl, hr0a, hr0b, hr0c, hb⟩
  have b1 := Lib.hid (b0.out.trans (hb.mono b0.out.size))
  have z1 := hb.size
  clear hb
  by_cases hr0 : 0 ≤ r0
  rotate_left
  · go_wp2
    go_ret
    exact ⟨rfl, b1.out⟩
  have hlen0 : a0.length ≤ 1048576 := by have := hr0b hr0; omega
  clear hr0b
  have e1 : (R1 != R1) = false := by simp
  go_wp2_with (fail)
  refine (toInstrS_any 0 _ A0 c0 a0 _ hlen0 (E0.out.below b1.out (Nat.le_refl _)) b1.out.size).mono ?_
  rintro e w2 ⟨Ap0, cp0, rfl, ho, hb⟩
  have b2 := Lib.hid (b1.out.trans (hb.mono b1.out.size))
  have z2 := hb.size
  clear hb
  have op0 := Lib.hid ho
  clear ho
  go_wp2_with (fail)
  refine (S.out _ _ _ _ _ hlen0 (In.rs op0.out) (by omega)).mono ?_
  rintro e w3 ⟨AW0, cW0, rfl, ho0, hb⟩
  have b3 := Lib.hid (b2.out.trans (hb.mono b2.out.size))
  have z3 := hb.size
  replace op0 := Lib.hid (op0.out.chg (Chg.ofBelow (lo := 0) (hi := 0) hb) (.inr (Nat.zero_le _)))
  clear hb
  have oW0 := Lib.hid ho0
  clear ho0
  go_wp2_with (fail)
  refine (toInstrS_any 0 _ A0 c0 a0 _ hlen0 (E0.out.below b3.out (Nat.le_refl _)) b3.out.size).mono ?_
  rintro e w4 ⟨Aq0, cq0, rfl, ho, hb⟩
  have b4 := Lib.hid (b3.out.trans (hb.mono b3.out.size))
  have z4 := hb.size
  replace oW0 := Lib.hid (oW0.out.chg (Chg.ofBelow (lo := 0) (hi := 0) hb) (.inr (Nat.zero_le _)))
  clear hb
  have oq0 := Lib.hid ho
  clear ho
  go_wp2_with (fail)
  refine (I.out _ _ _ _ _ hlen0 (In.rs oq0.out) (by omega) (OK.cap oq0.out)).mono ?_
  rintro e w5 ⟨AG0, cG0, rfl, ho0, hb⟩
  have b5 := Lib.hid (b4.out.trans (hb.mono b4.out.size))
  have z5 := hb.size
  replace oW0 := Lib.hid (oW0.out.chg (Chg.ofBelow (lo := 0) (hi := 0) hb) (.inr (Nat.zero_le _)))
  replace oq0 := Lib.hid (oq0.out.chg (Chg.ofBelow (lo := 0) (hi := 0) hb) (.inr (Nat.zero_le _)))
  clear hb
  have oG0 := Lib.hid ho0
  clear ho0
  go_wp2_with (fail)
  refine (eqIntS_any _ _ _ _ _ _ _ _ _ _ R0 R0 _ rfl rfl hR0 (OW.rs oG0.out) (OW.rs oW0.out) (by omega) (by omega) rfl).mono ?_
  rintro e w6 ⟨rfl, hb⟩
  have b6 := Lib.hid (b5.out.trans (hb.mono b5.out.size))
  have z6 := hb.size
  replace oW0 := Lib.hid (oW0.out.chg (Chg.ofBelow (lo := 0) (hi := 0) hb) (.inr (Nat.zero_le _)))
  replace oq0 := Lib.hid (oq0.out.chg (Chg.ofBelow (lo := 0) (hi := 0) hb) (.inr (Nat.zero_le _)))
  replace oG0 := Lib.hid (oG0.out.chg (Chg.ofBelow (lo := 0) (hi := 0) hb) (.inr (Nat.zero_le _)))
  clear hb
  go_wp2_with (fail)
  refine (toInstrS_any 0 _ A0 c0 a0 _ hlen0 (E0.out.below b6.out (Nat.le_refl _)) b6.out.size).mono ?_
  rintro e w7 ⟨As0, cs0, rfl, ho, hb⟩
  have b7 := Lib.hid (b6.out.trans (hb.mono b6.out.size))
  have z7 := hb.size
  replace oW0 := Lib.hid (oW0.out.chg (Chg.ofBelow (lo := 0) (hi := 0) hb) (.inr (Nat.zero_le _)))
  replace oq0 := Lib.hid (oq0.out.chg (Chg.ofBelow (lo := 0) (hi := 0) hb) (.inr (Nat.zero_le _)))
  replace oG0 := Lib.hid (oG0.out.chg (Chg.ofBelow (lo := 0) (hi := 0) hb) (.inr (Nat.zero_le _)))
  clear hb
  have os0 := Lib.hid ho
  clear ho
  go_wp2_with (fail)
  refine (eqInstrS_any _ _ _ _ _ _ _ _ _ _ a0 a0 _ rfl rfl hlen0 (In.rs oq0.out) (In.rs os0.out) (by omega) (by omega) rfl).mono ?_
  rintro e w8 ⟨rfl, hb⟩
  have b8 := Lib.hid (b7.out.trans (hb.mono b7.out.size))
  have z8 := hb.size
  replace oW0 := Lib.hid (oW0.out.chg (Chg.ofBelow (lo := 0) (hi := 0) hb) (.inr (Nat.zero_le _)))
  replace oq0 := Lib.hid (oq0.out.chg (Chg.ofBelow (lo := 0) (hi := 0) hb) (.inr (Nat.zero_le _)))
  replace oG0 := Lib.hid (oG0.out.chg (Chg.ofBelow (lo := 0) (hi := 0) hb) (.inr (Nat.zero_le _)))
  replace os0 := Lib.hid (os0.out.chg (Chg.ofBelow (lo := 0) (hi := 0) hb) (.inr (Nat.zero_le _)))
  clear hb
  go_wp2_with (fail)
  refine (markInstrS_any _ _ _ _ a0 (1) _ hlen0 (by omega) (by omega) oq0.out).mono ?_
  rintro e w9 ⟨rfl, _, hc⟩
  have b9 := Lib.hid (below_chg b8.out hc b8.out.size (by omega))
  have z9 := hc.size
  replace oW0 := Lib.hid (oW0.out.chg hc (by omega))
  replace oG0 := Lib.hid (oG0.out.chg hc (by omega))
  clear hc
  have hk : (0 : Int) ≤ 1 + 5 * (a0.length : Int) := by omega
  go_wp2_with (fail)
  refine (eqIntS_any _ _ _ _ _ _ _ _ _ _ R0 R0 _ rfl rfl hR0 (OW.rs oG0.out) (OW.rs oW0.out) (by omega) (by omega) rfl).mono ?_
  rintro e w10 ⟨rfl, hb⟩
  have b10 := Lib.hid (b9.out.trans (hb.mono b9.out.size))
  have z10 := hb.size
  replace oW0 := Lib.hid (oW0.out.chg (Chg.ofBelow (lo := 0) (hi := 0) hb) (.inr (Nat.zero_le _)))
  replace oG0 := Lib.hid (oG0.out.chg (Chg.ofBelow (lo := 0) (hi := 0) hb) (.inr (Nat.zero_le _)))
  clear hb
  go_wp2_with (fail)
  refine (markIntS_c _ _ _ _ R0 (1) _ hR0 (by omega) (by omega) oG0.out).mono ?_
  rintro e w11 ⟨rfl, ho, hc⟩
  have b11 := Lib.hid (below_chg b10.out hc b10.out.size (by omega))
  have z11 := hc.size
  replace oW0 := Lib.hid (oW0.out.chg hc (by omega))
  clear hc
  replace oG0 := Lib.hid ho
  clear ho
  have hq : (0 : Int) ≤ 1 + (R0.length : Int) := by omega
  go_wp2_with (fail)
  refine (heldIntS_any _ _ _ _ _ 1 _ hR0 (by omega) (by omega) (OW.rs oG0.out) ).mono ?_
  rintro e w_ ⟨rfl, rfl⟩
  go_wp2_with (fail)
  refine (toInstrS_any 0 _ A0 c0 a0 _ hlen0 (E0.out.below b11.out (Nat.le_refl _)) b11.out.size).mono ?_
  rintro e w12 ⟨Ah0, ch0, rfl, ho, hb⟩
  have b12 := Lib.hid (b11.out.trans (hb.mono b11.out.size))
  have z12 := hb.size
  replace oW0 := Lib.hid (oW0.out.chg (Chg.ofBelow (lo := 0) (hi := 0) hb) (.inr (Nat.zero_le _)))
  replace oG0 := Lib.hid (oG0.out.chg (Chg.ofBelow (lo := 0) (hi := 0) hb) (.inr (Nat.zero_le _)))
  clear hb
  have oh0 := Lib.hid ho
  clear ho
  go_wp2_with (fail)
  refine (I.out _ _ _ _ _ hlen0 (In.rs oh0.out) (by omega) (OK.cap oh0.out)).mono ?_
  rintro e w13 ⟨AH0, cH0, rfl, ho0, hb⟩
  have b13 := Lib.hid (b12.out.trans (hb.mono b12.out.size))
  have z13 := hb.size
  replace oW0 := Lib.hid (oW0.out.chg (Chg.ofBelow (lo := 0) (hi := 0) hb) (.inr (Nat.zero_le _)))
  replace oG0 := Lib.hid (oG0.out.chg (Chg.ofBelow (lo := 0) (hi := 0) hb) (.inr (Nat.zero_le _)))
  replace oh0 := Lib.hid (oh0.out.chg (Chg.ofBelow (lo := 0) (hi := 0) hb) (.inr (Nat.zero_le _)))
  clear hb
  have oH0 := Lib.hid ho0
  clear ho0
  go_wp2_with (fail)
  refine (eqIntS_any _ _ _ _ _ _ _ _ _ _ R0 R0 _ rfl rfl hR0 (OW.rs oH0.out) (OW.rs oW0.out) (by omega) (by omega) rfl).mono ?_
  rintro e w14 ⟨rfl, hb⟩
  have b14 := Lib.hid (b13.out.trans (hb.mono b13.out.size))
  have z14 := hb.size
  replace oW0 := Lib.hid (oW0.out.chg (Chg.ofBelow (lo := 0) (hi := 0) hb) (.inr (Nat.zero_le _)))
  replace oG0 := Lib.hid (oG0.out.chg (Chg.ofBelow (lo := 0) (hi := 0) hb) (.inr (Nat.zero_le _)))
  replace oh0 := Lib.hid (oh0.out.chg (Chg.ofBelow (lo := 0) (hi := 0) hb) (.inr (Nat.zero_le _)))
  replace oH0 := Lib.hid (oH0.out.chg (Chg.ofBelow (lo := 0) (hi := 0) hb) (.inr (Nat.zero_le _)))
  clear hb
  go_wp2_with (fail)
  refine (heldIntS_any _ _ _ _ _ 1 _ hR0 (by omega) (by omega) (OW.rs oG0.out) ).mono ?_
  rintro e w_ ⟨rfl, rfl⟩
  go_wp2
  go_ret
  exact ⟨rfl, b14.out⟩

def ResIsOrder (R0 : Bool) (R1 : Bool) (w : World) (e : Ending) (w' : World) : Prop := e = .returned (.tuple #[.bool R0, .bool R1]) ∧ Below w.heap.size w w'
set_option maxHeartbeats 4000000 in
theorem lawIsOrder (A0 : Option Addr) (c0 : Nat) (a0 : List In) (A1 : Option Addr) (c1 : Nat) (a1 : List Int) (w : World) (hl0 : a0.length ≤ 9223372036854775807) (h0 : RS In.enc 5 w 0 w.heap.size A0 a0) (hs0 : ∀ n ∈ a0, n.op.size ≤ 9223372036854775807) (hl1 : a1.length ≤ 9223372036854775807) (h1 : IS w 0 w.heap.size A1 a1) (R0 : Bool) (R1 : Bool)
    (hS : ∀ (L0 B0 : Nat) (A0 : Option Addr) (c0 : Nat) (L1 B1 : Nat) (A1 : Option Addr) (c1 : Nat) (w : World), a0.length ≤ 1048576 → RS In.enc 5 w L0 B0 A0 a0 → B0 ≤ w.heap.size → a1.length ≤ 1048576 → IS w L1 B1 A1 a1 → B1 ≤ w.heap.size → a1.length ≤ c1 → Calls Try.prog 33 #[.slice A0 a0.length c0, .slice A1 a1.length c1] w (ResIsOrder R0 R1 w))
    (hI : ∀ (L0 B0 : Nat) (A0 : Option Addr) (c0 : Nat) (L1 B1 : Nat) (A1 : Option Addr) (c1 : Nat) (w : World), a0.length ≤ 1048576 → RS In.enc 5 w L0 B0 A0 a0 → B0 ≤ w.heap.size → a0.length ≤ c0 → a1.length ≤ 1048576 → IS w L1 B1 A1 a1 → B1 ≤ w.heap.size → a1.length ≤ c1 → Calls Try.prog 35 #[.slice A0 a0.length c0, .slice A1 a1.length c1] w (ResIsOrder R0 R1 w)) :
    Calls Try.prog 5 #[.slice A0 a0.length c0, .slice A1 a1.length c1] w fun e w' => e = .returned (.bool true) ∧ Below w.heap.size w w' := by
  have S := Lib.hid hS
  have I := Lib.hid hI
  have E0 := Lib.hid h0
  have E1 := Lib.hid h1
  have Z0 := Lib.hid hs0
  clear hS hI h0 h1 hs0
  by_cases g1 : a1.length ≤ 1048576
  rotate_left
  · have g1' : (1048576 : Int) < (a1.length : Int) := by omega
    clear g1
    go_enter Try.func5, Try.ntmps5
    go_wp2
    go_ret
    exact ⟨rfl, Below.refl _ _⟩
  have b0 := Lib.hid (Below.refl w.heap.size w)
  go_enter Try.func5, Try.ntmps5
  go_wp2_with (fail)
  refine (szInstrS_any 0 _ A0 c0 a0 1048576 _ hl0 (E0.out.below b0.out (Nat.le_refl _)) b0.out.size Z0.out (by omega) (by omega)).mono ?_
  rintro e w1 ⟨r0, rfl, hr0a, hr0b, hr0c, hb⟩
  have b1 := Lib.hid (b0.out.trans (hb.mono b0.out.size))
  have z1 := hb.size
  clear hb
  by_cases hr0 : 0 ≤ r0
  rotate_left
  · go_wp2
    go_ret
    exact ⟨rfl, b1.out⟩
  have hlen0 : a0.length ≤ 1048576 := by have := hr0b hr0; omega
  clear hr0b
  have hlen1 : a1.length ≤ 1048576 := g1
  have e0 : (R0 != R0) = false := by simp
  have e1 : (R1 != R1) = false := by simp
  go_wp2_with (fail)
  refine (toInstrS_any 0 _ A0 c0 a0 _ hlen0 (E0.out.below b1.out (Nat.le_refl _)) b1.out.size).mono ?_
  rintro e w2 ⟨Ap0, cp0, rfl, ho, hb⟩
  have b2 := Lib.hid (b1.out.trans (hb.mono b1.out.size))
  have z2 := hb.size
  clear hb
  have op0 := Lib.hid ho
  clear ho
  go_wp2_with (fail)
  refine (toIntS_any 0 _ A1 c1 a1 _ hlen1 (E1.out.below b2.out (Nat.le_refl _)) b2.out.size).mono ?_
  rintro e w3 ⟨Ap1, cp1, rfl, ho, hb⟩
  have b3 := Lib.hid (b2.out.trans (hb.mono b2.out.size))
  have z3 := hb.size
  replace op0 := Lib.hid (op0.out.chg (Chg.ofBelow (lo := 0) (hi := 0) hb) (.inr (Nat.zero_le _)))
  clear hb
  have op1 := Lib.hid ho
  clear ho
  go_wp2_with (fail)
  refine (S.out _ _ _ _ _ _ _ _ _ hlen0 (In.rs op0.out) (by omega) hlen1 (OW.rs op1.out) (by omega) (OW.cap op1.out)).mono ?_
  rintro e w4 ⟨rfl, hb⟩
  have b4 := Lib.hid (b3.out.trans (hb.mono b3.out.size))
  have z4 := hb.size
  replace op0 := Lib.hid (op0.out.chg (Chg.ofBelow (lo := 0) (hi := 0) hb) (.inr (Nat.zero_le _)))
  replace op1 := Lib.hid (op1.out.chg (Chg.ofBelow (lo := 0) (hi := 0) hb) (.inr (Nat.zero_le _)))
  clear hb
  go_wp2_with (fail)
  refine (toInstrS_any 0 _ A0 c0 a0 _ hlen0 (E0.out.below b4.out (Nat.le_refl _)) b4.out.size).mono ?_
  rintro e w5 ⟨Aq0, cq0, rfl, ho, hb⟩
  have b5 := Lib.hid (b4.out.trans (hb.mono b4.out.size))
  have z5 := hb.size
  clear hb
  have oq0 := Lib.hid ho
  clear ho
  go_wp2_with (fail)
  refine (toIntS_any 0 _ A1 c1 a1 _ hlen1 (E1.out.below b5.out (Nat.le_refl _)) b5.out.size).mono ?_
  rintro e w6 ⟨Aq1, cq1, rfl, ho, hb⟩
  have b6 := Lib.hid (b5.out.trans (hb.mono b5.out.size))
  have z6 := hb.size
  replace oq0 := Lib.hid (oq0.out.chg (Chg.ofBelow (lo := 0) (hi := 0) hb) (.inr (Nat.zero_le _)))
  clear hb
  have oq1 := Lib.hid ho
  clear ho
  go_wp2_with (fail)
  refine (I.out _ _ _ _ _ _ _ _ _ hlen0 (In.rs oq0.out) (by omega) (OK.cap oq0.out) hlen1 (OW.rs oq1.out) (by omega) (OW.cap oq1.out)).mono ?_
  rintro e w7 ⟨rfl, hb⟩
  have b7 := Lib.hid (b6.out.trans (hb.mono b6.out.size))
  have z7 := hb.size
  replace oq0 := Lib.hid (oq0.out.chg (Chg.ofBelow (lo := 0) (hi := 0) hb) (.inr (Nat.zero_le _)))
  replace oq1 := Lib.hid (oq1.out.chg (Chg.ofBelow (lo := 0) (hi := 0) hb) (.inr (Nat.zero_le _)))
  clear hb
  go_wp2_with (fail)
  refine (toInstrS_any 0 _ A0 c0 a0 _ hlen0 (E0.out.below b7.out (Nat.le_refl _)) b7.out.size).mono ?_
  rintro e w8 ⟨As0, cs0, rfl, ho, hb⟩
  have b8 := Lib.hid (b7.out.trans (hb.mono b7.out.size))
  have z8 := hb.size
  replace oq0 := Lib.hid (oq0.out.chg (Chg.ofBelow (lo := 0) (hi := 0) hb) (.inr (Nat.zero_le _)))
  replace oq1 := Lib.hid (oq1.out.chg (Chg.ofBelow (lo := 0) (hi := 0) hb) (.inr (Nat.zero_le _)))
  clear hb
  have os0 := Lib.hid ho
  clear ho
  go_wp2_with (fail)
  refine (eqInstrS_any _ _ _ _ _ _ _ _ _ _ a0 a0 _ rfl rfl hlen0 (In.rs oq0.out) (In.rs os0.out) (by omega) (by omega) rfl).mono ?_
  rintro e w9 ⟨rfl, hb⟩
  have b9 := Lib.hid (b8.out.trans (hb.mono b8.out.size))
  have z9 := hb.size
  replace oq0 := Lib.hid (oq0.out.chg (Chg.ofBelow (lo := 0) (hi := 0) hb) (.inr (Nat.zero_le _)))
  replace oq1 := Lib.hid (oq1.out.chg (Chg.ofBelow (lo := 0) (hi := 0) hb) (.inr (Nat.zero_le _)))
  replace os0 := Lib.hid (os0.out.chg (Chg.ofBelow (lo := 0) (hi := 0) hb) (.inr (Nat.zero_le _)))
  clear hb
  go_wp2_with (fail)
  refine (toIntS_any 0 _ A1 c1 a1 _ hlen1 (E1.out.below b9.out (Nat.le_refl _)) b9.out.size).mono ?_
  rintro e w10 ⟨As1, cs1, rfl, ho, hb⟩
  have b10 := Lib.hid (b9.out.trans (hb.mono b9.out.size))
  have z10 := hb.size
  replace oq0 := Lib.hid (oq0.out.chg (Chg.ofBelow (lo := 0) (hi := 0) hb) (.inr (Nat.zero_le _)))
  replace oq1 := Lib.hid (oq1.out.chg (Chg.ofBelow (lo := 0) (hi := 0) hb) (.inr (Nat.zero_le _)))
  clear hb
  have os1 := Lib.hid ho
  clear ho
  go_wp2_with (fail)
  refine (eqIntS_any _ _ _ _ _ _ _ _ _ _ a1 a1 _ rfl rfl hlen1 (OW.rs oq1.out) (OW.rs os1.out) (by omega) (by omega) rfl).mono ?_
  rintro e w11 ⟨rfl, hb⟩
  have b11 := Lib.hid (b10.out.trans (hb.mono b10.out.size))
  have z11 := hb.size
  replace oq0 := Lib.hid (oq0.out.chg (Chg.ofBelow (lo := 0) (hi := 0) hb) (.inr (Nat.zero_le _)))
  replace oq1 := Lib.hid (oq1.out.chg (Chg.ofBelow (lo := 0) (hi := 0) hb) (.inr (Nat.zero_le _)))
  replace os1 := Lib.hid (os1.out.chg (Chg.ofBelow (lo := 0) (hi := 0) hb) (.inr (Nat.zero_le _)))
  clear hb
  go_wp2
  go_ret
  exact ⟨rfl, b11.out⟩

def ResIsSchedule (R0 : Bool) (R1 : Bool) (w : World) (e : Ending) (w' : World) : Prop := e = .returned (.tuple #[.bool R0, .bool R1]) ∧ Below w.heap.size w w'
set_option maxHeartbeats 4000000 in
theorem lawIsSchedule (A0 : Option Addr) (c0 : Nat) (a0 : List In) (a1 : Int) (A2 : Option Addr) (c2 : Nat) (a2 : List Int) (w : World) (hl0 : a0.length ≤ 9223372036854775807) (h0 : RS In.enc 5 w 0 w.heap.size A0 a0) (hs0 : ∀ n ∈ a0, n.op.size ≤ 9223372036854775807) (hl2 : a2.length ≤ 9223372036854775807) (h2 : IS w 0 w.heap.size A2 a2) (R0 : Bool) (R1 : Bool)
    (hS : ∀ (L0 B0 : Nat) (A0 : Option Addr) (c0 : Nat) (L2 B2 : Nat) (A2 : Option Addr) (c2 : Nat) (w : World), a0.length ≤ 1048576 → RS In.enc 5 w L0 B0 A0 a0 → B0 ≤ w.heap.size → a2.length ≤ 1048576 → IS w L2 B2 A2 a2 → B2 ≤ w.heap.size → Calls Try.prog 48 #[.slice A0 a0.length c0, .int .i64 a1, .slice A2 a2.length c2] w (ResIsSchedule R0 R1 w))
    (hI : ∀ (L0 B0 : Nat) (A0 : Option Addr) (c0 : Nat) (L2 B2 : Nat) (A2 : Option Addr) (c2 : Nat) (w : World), a0.length ≤ 1048576 → RS In.enc 5 w L0 B0 A0 a0 → B0 ≤ w.heap.size → a0.length ≤ c0 → a2.length ≤ 1048576 → IS w L2 B2 A2 a2 → B2 ≤ w.heap.size → a2.length ≤ c2 → Calls Try.prog 49 #[.slice A0 a0.length c0, .int .i64 a1, .slice A2 a2.length c2] w (ResIsSchedule R0 R1 w)) :
    Calls Try.prog 10 #[.slice A0 a0.length c0, .int .i64 a1, .slice A2 a2.length c2] w fun e w' => e = .returned (.bool true) ∧ Below w.heap.size w w' := by
  have S := Lib.hid hS
  have I := Lib.hid hI
  have E0 := Lib.hid h0
  have E2 := Lib.hid h2
  have Z0 := Lib.hid hs0
  clear hS hI h0 h2 hs0
  by_cases g2 : a2.length ≤ 1048576
  rotate_left
  · have g2' : (1048576 : Int) < (a2.length : Int) := by omega
    clear g2
    go_enter Try.func10, Try.ntmps10
    go_wp2
    go_ret
    exact ⟨rfl, Below.refl _ _⟩
  have b0 := Lib.hid (Below.refl w.heap.size w)
  go_enter Try.func10, Try.ntmps10
  go_wp2_with (fail)
  refine (szInstrS_any 0 _ A0 c0 a0 1048576 _ hl0 (E0.out.below b0.out (Nat.le_refl _)) b0.out.size Z0.out (by omega) (by omega)).mono ?_
  rintro e w1 ⟨r0, rfl, hr0a, hr0b, hr0c, hb⟩
  have b1 := Lib.hid (b0.out.trans (hb.mono b0.out.size))
  have z1 := hb.size
  clear hb
  by_cases hr0 : 0 ≤ r0
  rotate_left
  · go_wp2
    go_ret
    exact ⟨rfl, b1.out⟩
  have hlen0 : a0.length ≤ 1048576 := by have := hr0b hr0; omega
  clear hr0b
  have hlen2 : a2.length ≤ 1048576 := g2
  have e0 : (R0 != R0) = false := by simp
  have e1 : (R1 != R1) = false := by simp
  go_wp2_with (fail)
  refine (toInstrS_any 0 _ A0 c0 a0 _ hlen0 (E0.out.below b1.out (Nat.le_refl _)) b1.out.size).mono ?_
  rintro e w2 ⟨Ap0, cp0, rfl, ho, hb⟩
  have b2 := Lib.hid (b1.out.trans (hb.mono b1.out.size))
  have z2 := hb.size
  clear hb
  have op0 := Lib.hid ho
  clear ho
  go_wp2_with (fail)
  refine (toIntS_any 0 _ A2 c2 a2 _ hlen2 (E2.out.below b2.out (Nat.le_refl _)) b2.out.size).mono ?_
  rintro e w3 ⟨Ap2, cp2, rfl, ho, hb⟩
  have b3 := Lib.hid (b2.out.trans (hb.mono b2.out.size))
  have z3 := hb.size
  replace op0 := Lib.hid (op0.out.chg (Chg.ofBelow (lo := 0) (hi := 0) hb) (.inr (Nat.zero_le _)))
  clear hb
  have op2 := Lib.hid ho
  clear ho
  go_wp2_with (fail)
  refine (S.out _ _ _ _ _ _ _ _ _ hlen0 (In.rs op0.out) (by omega) hlen2 (OW.rs op2.out) (by omega)).mono ?_
  rintro e w4 ⟨rfl, hb⟩
  have b4 := Lib.hid (b3.out.trans (hb.mono b3.out.size))
  have z4 := hb.size
  replace op0 := Lib.hid (op0.out.chg (Chg.ofBelow (lo := 0) (hi := 0) hb) (.inr (Nat.zero_le _)))
  replace op2 := Lib.hid (op2.out.chg (Chg.ofBelow (lo := 0) (hi := 0) hb) (.inr (Nat.zero_le _)))
  clear hb
  go_wp2_with (fail)
  refine (toInstrS_any 0 _ A0 c0 a0 _ hlen0 (E0.out.below b4.out (Nat.le_refl _)) b4.out.size).mono ?_
  rintro e w5 ⟨Aq0, cq0, rfl, ho, hb⟩
  have b5 := Lib.hid (b4.out.trans (hb.mono b4.out.size))
  have z5 := hb.size
  clear hb
  have oq0 := Lib.hid ho
  clear ho
  go_wp2_with (fail)
  refine (toIntS_any 0 _ A2 c2 a2 _ hlen2 (E2.out.below b5.out (Nat.le_refl _)) b5.out.size).mono ?_
  rintro e w6 ⟨Aq2, cq2, rfl, ho, hb⟩
  have b6 := Lib.hid (b5.out.trans (hb.mono b5.out.size))
  have z6 := hb.size
  replace oq0 := Lib.hid (oq0.out.chg (Chg.ofBelow (lo := 0) (hi := 0) hb) (.inr (Nat.zero_le _)))
  clear hb
  have oq2 := Lib.hid ho
  clear ho
  go_wp2_with (fail)
  refine (I.out _ _ _ _ _ _ _ _ _ hlen0 (In.rs oq0.out) (by omega) (OK.cap oq0.out) hlen2 (OW.rs oq2.out) (by omega) (OW.cap oq2.out)).mono ?_
  rintro e w7 ⟨rfl, hb⟩
  have b7 := Lib.hid (b6.out.trans (hb.mono b6.out.size))
  have z7 := hb.size
  replace oq0 := Lib.hid (oq0.out.chg (Chg.ofBelow (lo := 0) (hi := 0) hb) (.inr (Nat.zero_le _)))
  replace oq2 := Lib.hid (oq2.out.chg (Chg.ofBelow (lo := 0) (hi := 0) hb) (.inr (Nat.zero_le _)))
  clear hb
  go_wp2_with (fail)
  refine (toInstrS_any 0 _ A0 c0 a0 _ hlen0 (E0.out.below b7.out (Nat.le_refl _)) b7.out.size).mono ?_
  rintro e w8 ⟨As0, cs0, rfl, ho, hb⟩
  have b8 := Lib.hid (b7.out.trans (hb.mono b7.out.size))
  have z8 := hb.size
  replace oq0 := Lib.hid (oq0.out.chg (Chg.ofBelow (lo := 0) (hi := 0) hb) (.inr (Nat.zero_le _)))
  replace oq2 := Lib.hid (oq2.out.chg (Chg.ofBelow (lo := 0) (hi := 0) hb) (.inr (Nat.zero_le _)))
  clear hb
  have os0 := Lib.hid ho
  clear ho
  go_wp2_with (fail)
  refine (eqInstrS_any _ _ _ _ _ _ _ _ _ _ a0 a0 _ rfl rfl hlen0 (In.rs oq0.out) (In.rs os0.out) (by omega) (by omega) rfl).mono ?_
  rintro e w9 ⟨rfl, hb⟩
  have b9 := Lib.hid (b8.out.trans (hb.mono b8.out.size))
  have z9 := hb.size
  replace oq0 := Lib.hid (oq0.out.chg (Chg.ofBelow (lo := 0) (hi := 0) hb) (.inr (Nat.zero_le _)))
  replace oq2 := Lib.hid (oq2.out.chg (Chg.ofBelow (lo := 0) (hi := 0) hb) (.inr (Nat.zero_le _)))
  replace os0 := Lib.hid (os0.out.chg (Chg.ofBelow (lo := 0) (hi := 0) hb) (.inr (Nat.zero_le _)))
  clear hb
  go_wp2_with (fail)
  refine (toIntS_any 0 _ A2 c2 a2 _ hlen2 (E2.out.below b9.out (Nat.le_refl _)) b9.out.size).mono ?_
  rintro e w10 ⟨As2, cs2, rfl, ho, hb⟩
  have b10 := Lib.hid (b9.out.trans (hb.mono b9.out.size))
  have z10 := hb.size
  replace oq0 := Lib.hid (oq0.out.chg (Chg.ofBelow (lo := 0) (hi := 0) hb) (.inr (Nat.zero_le _)))
  replace oq2 := Lib.hid (oq2.out.chg (Chg.ofBelow (lo := 0) (hi := 0) hb) (.inr (Nat.zero_le _)))
  clear hb
  have os2 := Lib.hid ho
  clear ho
  go_wp2_with (fail)
  refine (eqIntS_any _ _ _ _ _ _ _ _ _ _ a2 a2 _ rfl rfl hlen2 (OW.rs oq2.out) (OW.rs os2.out) (by omega) (by omega) rfl).mono ?_
  rintro e w11 ⟨rfl, hb⟩
  have b11 := Lib.hid (b10.out.trans (hb.mono b10.out.size))
  have z11 := hb.size
  replace oq0 := Lib.hid (oq0.out.chg (Chg.ofBelow (lo := 0) (hi := 0) hb) (.inr (Nat.zero_le _)))
  replace oq2 := Lib.hid (oq2.out.chg (Chg.ofBelow (lo := 0) (hi := 0) hb) (.inr (Nat.zero_le _)))
  replace os2 := Lib.hid (os2.out.chg (Chg.ofBelow (lo := 0) (hi := 0) hb) (.inr (Nat.zero_le _)))
  clear hb
  go_wp2
  go_ret
  exact ⟨rfl, b11.out⟩
end Go.Proofs.Ytpgdccfpegdcoaa
