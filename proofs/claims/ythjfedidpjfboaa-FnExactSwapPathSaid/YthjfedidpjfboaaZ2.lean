/- Texts of this proof, one behind the other: SC, BO, SE, SF, SD. -/
import Derived.Test.YthjfedidpjfboaaSB
import Derived.Test.YthjfedidpjfboaaTE
import Derived.WalkKit
import Derived.WalkSpells
import Derived.WalkLawsBesides
import Derived.Deep.RegionHeld3
import Derived.Lib.Hide
import Derived.Test.YthjfedidpjfboaaVC
import Derived.RangeFuncNested
import Derived.Test.YthjfedidpjfboaaLawVA
import Derived.Test.YthjfedidpjfboaaRP
import Derived.Test.YthjfedidpjfboaaKMInstr
import Derived.Laws.StructEq
/- Swaps of a block: plain. -/
namespace Go.Proofs.Ythjfedidpjfboaa
open Go.RowKit
set_option linter.unusedVariables false

theorem getD_in {es : List In} {k : Nat} (h : k < es.length) : es.getD k zeroIn = es[k] := by rw [List.getD_eq_getElem?_getD, List.getElem?_eq_getElem h]; rfl
def blkOk (es : List In) : Bool := decide (es.length ≤ 20) && okCode es
theorem blkOk_parts {es : List In} (h : blkOk es = true) : es.length ≤ 20 ∧ okCode es = true := by
  unfold blkOk at h; rw [Bool.and_eq_true] at h; exact ⟨of_decide_eq_true h.1, h.2⟩
abbrev Mv := List In × List Int
/-- One swap: the code and the path. -/
def mvS (st : Mv) (i : Int) : Option Mv := if swOk st.1 i = true ∧ st.2.length ≠ 100 then some (swapR st.1 i, st.2 ++ [i]) else none
def folS (st : Mv) : List Int → Option Mv
  | [] => some st
  | i :: p => (mvS st i).bind fun s => folS s p
theorem folS_append (q : List Int) : ∀ (p : List Int) (st : Mv), folS st (p ++ q) = (folS st p).bind fun s => folS s q
  | [], st => rfl
  | i :: p, st => by
    show (mvS st i).bind (fun s => folS s (p ++ q)) = ((mvS st i).bind fun s => folS s p).bind fun s => folS s q
    rw [Option.bind_assoc]
    congr 1
    funext s
    exact folS_append q p s
theorem folS_one (st : Mv) (i : Int) : folS st [i] = mvS st i := by
  show (mvS st i).bind (fun s => some s) = mvS st i
  cases mvS st i <;> rfl
theorem folS_succ (st : Mv) {p : List Int} {k : Nat} (h : k < p.length) : folS st (p.take (k + 1)) = (folS st (p.take k)).bind fun s => mvS s p[k] := by
  rw [List.take_succ_eq_append_getElem h, folS_append]
  congr 1
  funext s
  exact folS_one s _
theorem folS_no {st : Mv} {p : List Int} {k : Nat} (h : folS st (p.take k) = none) : folS st p = none := by
  rw [← List.take_append_drop k p, folS_append, h]; rfl

theorem okCode_of {es : List In} (h1 : es.length ≤ 40) (h2 : ∀ x ∈ es, goodIn x = true) : okCode es = true := by
  unfold okCode; rw [Bool.and_eq_true]; exact ⟨decide_eq_true h1, List.all_eq_true.2 h2⟩
theorem swOk_parts {es : List In} {i : Int} (h : swOk es i = true) : okCode es = true ∧ inR i 0 (es.length - 2) = true ∧ freeB (es.getD i.toNat zeroIn) (es.getD (i.toNat + 1) zeroIn) = true := by
  unfold swOk at h; simp only [Bool.and_eq_true] at h; exact ⟨h.1.1, h.1.2, h.2⟩
theorem swapR_inv {es : List In} {i : Int} (h : swOk es i = true) : okCode (swapR es i) = true ∧ (swapR es i).length = es.length := by
  obtain ⟨h1, h2, h3⟩ := swOk_parts h
  obtain ⟨n, rfl, hn⟩ := inR_nat h2
  have e : swapR es n = (es.set n (es.getD (n + 1) zeroIn)).set (n + 1) (es.getD n zeroIn) := by rw [swapR, if_pos h, Int.toNat_natCast]
  have hl : (swapR es n).length = es.length := by rw [e, List.length_set, List.length_set]
  have g : ∀ m, m < es.length → es.getD m zeroIn ∈ es := fun m hm => by rw [List.getD_eq_getElem?_getD, List.getElem?_eq_getElem hm]; exact List.getElem_mem hm
  refine ⟨okCode_of (by rw [hl]; exact okCode_len h1) fun x hx => ?_, hl⟩
  rw [e] at hx
  have ha := okCode_all h1
  rcases List.mem_or_eq_of_mem_set hx with hx | rfl
  · rcases List.mem_or_eq_of_mem_set hx with hx | rfl
    · exact ha x hx
    · exact ha _ (g _ (by omega))
  · exact ha _ (g _ (by omega))
theorem mvS_some {st s : Mv} {i : Int} (h : mvS st i = some s) : swOk st.1 i = true ∧ st.2.length ≠ 100 ∧ s = (swapR st.1 i, st.2 ++ [i]) := by
  unfold mvS at h
  split at h
  · rename_i hc; injection h with h; exact ⟨hc.1, hc.2, h.symm⟩
  · cases h
/-- What every state on the way keeps. -/
structure MvInv (a : List In) (st : Mv) : Prop where
  ok : okCode st.1 = true
  len : st.1.length = a.length
  most : st.2.length ≤ 100
theorem MvInv.step {a : List In} {st s : Mv} {i : Int} (h : MvInv a st) (hm : mvS st i = some s) : MvInv a s ∧ s.2 = st.2 ++ [i] := by
  obtain ⟨h1, h2, rfl⟩ := mvS_some hm
  obtain ⟨h3, h4⟩ := swapR_inv h1
  have := h.most
  exact ⟨⟨h3, by show (swapR st.1 i).length = _; rw [h4]; exact h.len, by show (st.2 ++ [i]).length ≤ 100; rw [List.length_append, List.length_singleton]; omega⟩, rfl⟩
theorem MvInv.fol {a : List In} : ∀ (p : List Int) {st s : Mv}, MvInv a st → folS st p = some s → MvInv a s ∧ s.2 = st.2 ++ p ∧ allIn p 0 ((a.length : Int) - 2) = true
  | [], st, s, h, hm => by
    injection hm with hm; subst hm; exact ⟨h, by simp, rfl⟩
  | i :: p, st, s, h, hm => by
    have hm' : (mvS st i).bind (fun s => folS s p) = some s := hm
    cases e : mvS st i with
    | none => rw [e] at hm'; cases hm'
    | some s1 =>
      rw [e] at hm'
      obtain ⟨h1, h2⟩ := h.step e
      obtain ⟨h3, h4, h5⟩ := MvInv.fol p h1 hm'
      refine ⟨h3, by rw [h4, h2, List.append_assoc]; rfl, ?_⟩
      have hi := (swOk_parts (mvS_some e).1).2.1
      rw [h.len] at hi
      show (inR i 0 ((a.length : Int) - 2) && allIn p 0 ((a.length : Int) - 2)) = true
      rw [hi, h5]; rfl
theorem MvInv.start {a : List In} (h : okCode a = true) : MvInv a (a, []) := ⟨h, rfl, Nat.zero_le _⟩

def folR (es : List In) (path : List Int) : Option Mv := if blkOk es = true then folS (es, []) path else none
def folC (es : List In) (path : List Int) : List In := ((folR es path).map Prod.fst).getD []
def folB (es : List In) (path : List Int) : Bool := (folR es path).isSome
theorem folR_no {es : List In} (path : List Int) (h : blkOk es = false) : folR es path = none := by unfold folR; rw [h]; rfl
theorem folR_yes {es : List In} (path : List Int) (h : blkOk es = true) : folR es path = folS (es, []) path := by unfold folR; rw [if_pos h]
theorem fol_none {es : List In} {path : List Int} (h : folR es path = none) : folC es path = [] ∧ folB es path = false := by unfold folC folB; rw [h]; exact ⟨rfl, rfl⟩
theorem fol_some {es : List In} {path : List Int} {s : Mv} (h : folR es path = some s) : folC es path = s.1 ∧ folB es path = true := by unfold folC folB; rw [h]; exact ⟨rfl, rfl⟩
theorem folR_long {es : List In} {path : List Int} (h : 100 < path.length) : folR es path = none := by
  cases hb : blkOk es
  · exact folR_no path hb
  · rw [folR_yes path hb]
    cases e : folS (es, []) path with
    | none => rfl
    | some s =>
      obtain ⟨h1, h2, _⟩ := MvInv.fol path (MvInv.start (blkOk_parts hb).2) e
      have h3 := h1.most
      rw [h2] at h3
      simp at h3; omega
theorem folR_far {es : List In} {path : List Int} (h : allIn path 0 ((es.length : Int) - 2) = false) : folR es path = none := by
  cases hb : blkOk es
  · exact folR_no path hb
  · rw [folR_yes path hb]
    cases e : folS (es, []) path with
    | none => rfl
    | some s =>
      obtain ⟨_, _, h3⟩ := MvInv.fol path (MvInv.start (blkOk_parts hb).2) e
      rw [h] at h3; cases h3
theorem folC_len (es : List In) (path : List Int) : (folC es path).length ≤ 1048576 := by
  cases e : folR es path with
  | none => rw [(fol_none e).1]; simp
  | some s =>
    rw [(fol_some e).1]
    have hb : blkOk es = true := by
      cases hb : blkOk es
      · rw [folR_no path hb] at e; cases e
      · rfl
    rw [folR_yes path hb] at e
    have h1 := (MvInv.fol path (MvInv.start (blkOk_parts hb).2) e).1
    have := okCode_len h1.ok
    omega

/-- An instruction's first place. -/
def sameI (x y : In) : Bool := x.op.toList == y.op.toList && x.d == y.d && x.a == y.a && x.b == y.b && x.m == y.m
theorem sameI_comm (x y : In) : sameI x y = sameI y x := by
  unfold sameI
  rw [Bool.eq_iff_iff]
  simp only [Bool.and_eq_true, beq_iff_eq]
  constructor <;> rintro ⟨⟨⟨⟨h1, h2⟩, h3⟩, h4⟩, h5⟩ <;> exact ⟨⟨⟨⟨h1.symm, h2.symm⟩, h3.symm⟩, h4.symm⟩, h5.symm⟩
def iidx (xs : List In) (y : In) : Int := firstI (fun k => sameI (xs.getD k zeroIn) y) xs.length
/-- The swaps that bring the instruction at k + n to k. -/
def mvDn (k : Nat) : Nat → Mv → Option Mv
  | 0, st => some st
  | n + 1, st => (mvS st ((k + n : Nat) : Int)).bind (mvDn k n)
def spStep (st : Mv) (k : Nat) (x : In) : Option Mv := if iidx (st.1.drop k) x < 0 then none else mvDn k (iidx (st.1.drop k) x).toNat st
def spTo (a b : List In) : Nat → Option Mv
  | 0 => some (a, [])
  | k + 1 => (spTo a b k).bind fun s => spStep s k (b.getD k zeroIn)
theorem spTo_no {a b : List In} {k : Nat} (h : spTo a b k = none) : ∀ m, k ≤ m → spTo a b m = none := by
  intro m hm
  obtain ⟨d, rfl⟩ := Nat.exists_eq_add_of_le hm
  clear hm
  induction d with
  | zero => exact h
  | succ d ih => show (spTo a b (k + d)).bind _ = none; rw [ih]; rfl
theorem MvInv.dn {a : List In} (k : Nat) : ∀ (n : Nat) {st s : Mv}, MvInv a st → mvDn k n st = some s → MvInv a s
  | 0, st, s, h, hm => by injection hm with hm; subst hm; exact h
  | n + 1, st, s, h, hm => by
    have hm' : (mvS st ((k + n : Nat) : Int)).bind (mvDn k n) = some s := hm
    cases e : mvS st ((k + n : Nat) : Int) with
    | none => rw [e] at hm'; cases hm'
    | some s1 => rw [e] at hm'; exact MvInv.dn k n (h.step e).1 hm'
theorem MvInv.to {a b : List In} (ha : okCode a = true) : ∀ (k : Nat) {s : Mv}, spTo a b k = some s → MvInv a s
  | 0, s, h => by injection h with h; subst h; exact .start ha
  | k + 1, s, h => by
    have h' : (spTo a b k).bind (fun s => spStep s k (b.getD k zeroIn)) = some s := h
    cases e : spTo a b k with
    | none => rw [e] at h'; cases h'
    | some s1 =>
      rw [e] at h'
      have h2 : spStep s1 k (b.getD k zeroIn) = some s := h'
      unfold spStep at h2
      split at h2
      · cases h2
      · exact (MvInv.to ha k e).dn k _ h2
def spOk0 (a b : List In) : Bool := blkOk a && blkOk b && decide (a.length = b.length)
def spR (a b : List In) : Option Mv := if spOk0 a b = true then spTo a b b.length else none
def spP (a b : List In) : List Int := ((spR a b).map Prod.snd).getD []
def spB (a b : List In) : Bool := (spR a b).isSome
theorem sp_none {a b : List In} (h : spR a b = none) : spP a b = [] ∧ spB a b = false := by unfold spP spB; rw [h]; exact ⟨rfl, rfl⟩
theorem sp_some {a b : List In} {s : Mv} (h : spR a b = some s) : spP a b = s.2 ∧ spB a b = true := by unfold spP spB; rw [h]; exact ⟨rfl, rfl⟩
theorem spP_len (a b : List In) : (spP a b).length ≤ 1048576 := by
  cases e : spR a b with
  | none => rw [(sp_none e).1]; simp
  | some s =>
    rw [(sp_some e).1]
    unfold spR at e
    split at e
    · rename_i h
      unfold spOk0 at h
      simp only [Bool.and_eq_true] at h
      have := (MvInv.to (blkOk_parts h.1.1).2 _ e).most
      omega
    · cases e
end Go.Proofs.Ythjfedidpjfboaa

/- slices.Reverse of instructions, in place. -/
namespace Go.Proofs.Ythjfedidpjfboaa
open Go.RowKit
set_option linter.unusedVariables false
set_option maxRecDepth 100000

/-- k instructions of each end exchanged. -/
def revK (xs : List In) (k : Nat) : List In := (List.range xs.length).map fun m => if m < k ∨ xs.length ≤ m + k then xs.getD (xs.length - 1 - m) zeroIn else xs.getD m zeroIn
theorem revK_len (xs : List In) (k : Nat) : (revK xs k).length = xs.length := by simp [revK]
theorem revK_get {xs : List In} {k m : Nat} (h : m < (revK xs k).length) : (revK xs k)[m] = if m < k ∨ xs.length ≤ m + k then xs.getD (xs.length - 1 - m) zeroIn else xs.getD m zeroIn := by simp [revK]
theorem revK_zero (xs : List In) : revK xs 0 = xs := by
  refine List.ext_getElem (revK_len _ _) fun m h1 h2 => ?_
  rw [revK_get h1, if_neg (by omega)]; exact getD_in h2
theorem revK_mid {xs : List In} {k m : Nat} (h : m < (revK xs k).length) (h1 : k ≤ m) (h2 : m + k < xs.length) : (revK xs k)[m] = xs.getD m zeroIn := by
  rw [revK_get h, if_neg (by omega)]
theorem revK_succ {xs : List In} {k j : Nat} (hj : j + k + 1 = xs.length) (hk : k < j) : revK xs (k + 1) = ((revK xs k).set k (xs.getD j zeroIn)).set j (xs.getD k zeroIn) := by
  refine List.ext_getElem (by rw [List.length_set, List.length_set, revK_len, revK_len]) fun m h1 h2 => ?_
  have hm : m < xs.length := by rw [revK_len] at h1; exact h1
  rw [revK_get h1, List.getElem_set]
  by_cases e1 : j = m
  · rw [if_pos e1, if_pos (by omega)]; congr 1; omega
  · rw [if_neg e1, List.getElem_set]
    by_cases e2 : k = m
    · rw [if_pos e2, if_pos (by omega)]; congr 1; omega
    · rw [if_neg e2, revK_get]
      by_cases e3 : m < k ∨ xs.length ≤ m + k
      · rw [if_pos (by omega), if_pos e3]
      · rw [if_neg (by omega), if_neg e3]
theorem revK_end {xs : List In} {k : Nat} (h : xs.length ≤ k + k + 1) : revK xs k = xs.reverse := by
  refine List.ext_getElem (by rw [revK_len, List.length_reverse]) fun m h1 h2 => ?_
  have hm : m < xs.length := by rw [revK_len] at h1; exact h1
  rw [revK_get h1, List.getElem_reverse, ← getD_in]
  by_cases e : m < k ∨ xs.length ≤ m + k
  · rw [if_pos e]
  · rw [if_neg e]; congr 1; omega

theorem CB.five {w : World} {g : Nat} {xs : List In} {rest : List Value} (h : CB 90 w g (xs.flatMap In.enc ++ rest)) {i : Nat} (hi : i < xs.length) {x : In} (hx : xs[i] = x) :
    w.cell? ⟨g, i * 5, none⟩ = some (.string x.op) ∧ w.cell? ⟨g, i * 5 + 1, none⟩ = some (.int .i64 x.d) ∧ w.cell? ⟨g, i * 5 + 2, none⟩ = some (.int .i64 x.a) ∧ w.cell? ⟨g, i * 5 + 3, none⟩ = some (.int .i64 x.b) ∧ w.cell? ⟨g, i * 5 + 4, none⟩ = some (.int .i64 x.m) := by
  subst hx
  exact ⟨h.at In.hk i hi 0 _ rfl, h.at In.hk i hi 1 _ rfl, h.at In.hk i hi 2 _ rfl, h.at In.hk i hi 3 _ rfl, h.at In.hk i hi 4 _ rfl⟩

set_option maxHeartbeats 4000000 in
theorem revI_any (g c : Nat) (xs : List In) (rest : List Value) (w : World) (hl : xs.length ≤ 1048576) (hcb : CB 90 w g (xs.flatMap In.enc ++ rest)) :
    Calls Try.prog 99 #[.slice (some ⟨g, 0, none⟩) xs.length c] w fun e w' => e = .returned (.tuple #[]) ∧ CB 90 w' g (xs.reverse.flatMap In.enc ++ rest) ∧ Chg g (g + 1) w w' := by
  have hC0 := Lib.hid hcb
  have hz0 := Lib.hid (revK_zero xs)
  have hS := Lib.hid fun (k j : Nat) (hj : j + k + 1 = xs.length) (hk : k < j) => revK_succ (xs := xs) hj hk
  have hE := Lib.hid fun (k : Nat) (h : xs.length ≤ k + k + 1) => revK_end (xs := xs) h
  have hL := Lib.hid (revK_len xs)
  have hM := Lib.hid fun (k m : Nat) (h : m < (revK xs k).length) (h1 : k ≤ m) (h2 : m + k < xs.length) => revK_mid (xs := xs) h h1 h2
  clear hcb
  generalize revK xs = F at *
  obtain ⟨n, hn⟩ : ∃ n, n = xs.length := ⟨_, rfl⟩
  rw [← hn] at hl hS hE hL hM ⊢
  generalize xs.reverse = Z at *
  have hNN := Lib.hid hn
  clear hn
  have hw1 : IntKind.i64.wrap ((n : Int) - 1) = (n : Int) - 1 := by rw [IntKind.wrap_i64]; omega
  go_enter Try.func99, Try.ntmps99
  go_wp2
  go_loopw [2, 3] (fun i j wr => ∃ (k : Nat) (jz : Int), i = .int .i64 k ∧ j = .int .i64 jz ∧ jz + k + 1 = n ∧ k ≤ n ∧ CB 90 wr g ((F k).flatMap In.enc ++ rest) ∧ Chg g (g + 1) w wr) (fun i _ _ => n - (intOf i).toNat)
  case atStart => exact ⟨0, (n : Int) - 1, rfl, rfl, by omega, Nat.zero_le _, by rw [hz0.out]; exact hC0.out, Chg.refl _ _ _⟩
  case round =>
    obtain ⟨k, jz, rfl, rfl, hjz, hkn, hcb, hch⟩ := hrel
    have hCB := Lib.hid hcb
    have hCh := Lib.hid hch
    have hLk := hL.out k
    clear hch
    by_cases hlt : (k : Int) < jz
    · obtain ⟨j, rfl⟩ := Int.eq_ofNat_of_zero_le (show 0 ≤ jz by omega)
      have hj1 : (j : Int) < (n : Int) := by omega
      have hk1 : (k : Int) < (n : Int) := by omega
      have hj0 : (0 : Int) ≤ (j : Int) := by omega
      have hk0 : (0 : Int) ≤ (k : Int) := by omega
      have hjj : j < (F k).length := by omega
      have hkk : k < (F k).length := by omega
      have hSk := Lib.hid (hS.out k j (by omega) (by omega))
      have ex := Lib.hid (hM.out k k hkk (Nat.le_refl _) (by omega))
      have ey := Lib.hid (hM.out k j hjj (by omega) (by omega))
      generalize xs.getD k zeroIn = x at *
      generalize xs.getD j zeroIn = y at *
      have hJ := Lib.hid hjz
      have hLK := Lib.hid hLk
      obtain ⟨c1, c2, c3, c4, c5⟩ := CB.five hcb hkk ex.out
      obtain ⟨d1, d2, d3, d4, d5⟩ := CB.five hcb hjj ey.out
      have f1 := hcb.frozen (k * 5)
      have f2 := hcb.frozen (k * 5 + 1)
      have f3 := hcb.frozen (k * 5 + 2)
      have f4 := hcb.frozen (k * 5 + 3)
      have f5 := hcb.frozen (k * 5 + 4)
      have g1 := hcb.frozen (j * 5)
      have g2 := hcb.frozen (j * 5 + 1)
      have g3 := hcb.frozen (j * 5 + 2)
      have g4 := hcb.frozen (j * 5 + 3)
      have g5 := hcb.frozen (j * 5 + 4)
      obtain ⟨op, d, a, b1, m⟩ := x
      obtain ⟨op', d', a', b1', m'⟩ := y
      dsimp only at c1 c2 c3 c4 c5 d1 d2 d3 d4 d5
      have hkj := Lib.hid (show k < j by omega)
      have HK := Lib.hid hkk
      have HJ := Lib.hid hjj
      clear hcb hjz hLk hkk hjj ex ey
      generalize hFF : F (k + 1) = FF at *
      have HFF := Lib.hid hFF
      clear hFF
      generalize hFk : F k = Fk at *
      clear hFk
      go_wp2_with (fail)
      go_region_with (fail)
      all_goals
        have h1 := hCB.out.store In.hk k HK.out ⟨op', d', a', b1', m'⟩
        have h2 := h1.store In.hk j (by rw [List.length_set]; exact HJ.out) ⟨op, d, a, b1, m⟩
        have hfin := Lib.hid h2
        have hbf := Lib.hid (chg_setCells (In.enc ⟨op, d, a, b1, m⟩) g (j * 5) (chg_setCells (In.enc ⟨op', d', a', b1', m'⟩) g (k * 5) hCh.out ⟨Nat.le_refl _, Nat.lt_succ_self _⟩) ⟨Nat.le_refl _, Nat.lt_succ_self _⟩)
        clear h1 h2
        simp only [setCells, In.enc, Nat.add_assoc, Nat.reduceAdd] at hfin hbf
        clear c1 c2 c3 c4 c5 d1 d2 d3 d4 d5 f1 f2 f3 f4 f5 g1 g2 g3 g4 g5 hCB hCh
        generalize (World.setCell _ _ _) = W at hfin hbf ⊢
        go_wp2
        go_roundw
        case rel => exact ⟨k + 1, (j : Int) - 1, by go_num, rfl, by have := hJ.out; omega, by omega, by rw [HFF.out, hSk.out]; exact hfin.out, hbf.out.drew⟩
        case measure => simp [intOf]; omega
    · have hEk := Lib.hid (hE.out k (by omega))
      clear hLk
      go_wp2
      go_end0
      exact ⟨rfl, by rw [← hEk.out]; exact hCB.out, hCh.out⟩
theorem revI_nil (c : Nat) (w : World) : Calls Try.prog 99 #[.slice none 0 c] w fun e w' => e = .returned (.tuple #[]) ∧ w' = w := by
  go_enter Try.func99, Try.ntmps99
  go_wp2
  go_loopw [2, 3] (fun i j wr => i = .int .i64 0 ∧ j = .int .i64 (-1) ∧ wr = w) (fun _ _ _ => 0)
  case atStart => exact ⟨rfl, rfl, rfl⟩
  case round =>
    obtain ⟨rfl, rfl, rfl⟩ := hrel
    go_wp2
    go_end0
    exact ⟨rfl, rfl⟩
end Go.Proofs.Ythjfedidpjfboaa

/- (*swapper).swap of the program. -/
namespace Go.Proofs.Ythjfedidpjfboaa
open Go.RowKit
set_option linter.unusedVariables false
set_option maxRecDepth 100000

theorem grownBy_setCell1 (W : World) (b : Nat) (v : Value) : W.grownBy (W.setCell ⟨b, 1, none⟩ v) (some b) :=
  ⟨rfl, rfl, rfl, (KeepsWalks.setCell W _ v).size, fun k _ hk => Below.heap_setCell _ _ _ k (fun e => hk (by rw [e]))⟩
theorem own_ne_cb {w : World} {base size m b : Nat} {e t : TypeId} {v : Value} {cur xs : List Value} (h : w.ownsRow base e size v m xs) (hb : CB t w b cur) (hne : e ≠ t) : v.ownBlock ≠ some b := by
  intro hv
  rcases h.2 with ⟨rfl, _⟩ | ⟨g, cap, cur', rfl, _, hh, _⟩
  · simp [Value.ownBlock] at hv
  · have e1 : g = b := by simpa [Value.ownBlock] using hv
    subst e1
    unfold CB at hb
    rw [hh] at hb
    injection hb with hb
    injection hb with _ h9
    exact hne h9
theorem row_ne2 {w : World} {L1 L2 k1 k2 n1 n2 : Nat} {t1 t2 : TypeId} {v1 v2 : Value} {x1 x2 : List Value} (h1 : w.ownsRow L1 t1 k1 v1 n1 x1) (h2 : w.ownsRow L2 t2 k2 v2 n2 x2) (ht : t1 ≠ t2) : ∀ j, v1.ownBlock = some j → v2.ownBlock ≠ some j := by
  intro j e1 e2
  rcases h1.2 with ⟨rfl, _⟩ | ⟨g, cap, cur, rfl, _, hh, _⟩
  · simp [Value.ownBlock] at e1
  · rcases h2.2 with ⟨rfl, _⟩ | ⟨g', cap', cur', rfl, _, hh', _⟩
    · simp [Value.ownBlock] at e2
    · have a1 : g = j := by simpa [Value.ownBlock] using e1
      have a2 : g' = j := by simpa [Value.ownBlock] using e2
      subst a1; subst a2
      rw [hh] at hh'; injection hh' with hh'; injection hh' with _ h9
      exact ht h9
/-- Code that is read: an argument's (below n0), or one of the call's own. -/
def CodeAt (w : World) (n0 : Nat) (o : Bool) (V : Value) (es : List In) : Prop := ∃ A c, V = .slice A es.length c ∧ es.length ≤ c ∧ ((o = false ∧ RS In.enc 5 w 0 n0 A es) ∨ OK In.enc 5 90 w n0 w.heap.size V es)
theorem CodeAt.form {w : World} {n0 : Nat} {o : Bool} {V : Value} {es : List In} (h : CodeAt w n0 o V es) (hn : n0 ≤ w.heap.size) : ∃ A c, V = .slice A es.length c ∧ RS In.enc 5 w 0 w.heap.size A es ∧ es.length ≤ c := by
  obtain ⟨A, c, rfl, hcap, ⟨ho, h⟩ | h⟩ := h
  · exact ⟨A, c, rfl, h.more (Nat.le_refl _) hn, hcap⟩
  · obtain ⟨A', c', e, hr⟩ := h.form In.hk
    injection e with e1 e2 e3
    subst e1
    exact ⟨A, c, rfl, hr.more (Nat.zero_le _) (Nat.le_refl _), hcap⟩
theorem CodeAt.own {w : World} {n0 : Nat} {V : Value} {es : List In} (h : CodeAt w n0 true V es) : ∃ A c, V = .slice A es.length c ∧ OK In.enc 5 90 w n0 w.heap.size V es := by
  obtain ⟨A, c, rfl, hcap, ⟨ho, h⟩ | h⟩ := h
  · cases ho
  · exact ⟨A, c, rfl, h⟩
theorem CodeAt.below {w w' : World} {n0 : Nat} {o : Bool} {V : Value} {es : List In} (h : CodeAt w n0 o V es) (hn : n0 ≤ w.heap.size) (hb : Below w.heap.size w w') : CodeAt w' n0 o V es := by
  obtain ⟨A, c, rfl, hcap, ⟨ho, h⟩ | h⟩ := h
  · exact ⟨A, c, rfl, hcap, .inl ⟨ho, h.below hb hn⟩⟩
  · exact ⟨A, c, rfl, hcap, .inr ((h.below hb (Nat.le_refl _)).more hb.size)⟩
/-- One block turns, or grows, that is not the code's own. -/
theorem CodeAt.grown {w w' : World} {n0 : Nat} {o : Bool} {V : Value} {es : List In} {row : Option Nat} (h : CodeAt w n0 o V es) (hn : n0 ≤ w.heap.size) (hg : w.grownBy w' row) (h0 : ∀ j, row = some j → n0 ≤ j) (hne : ∀ (L : Nat) (n : Nat) (xs : List Value), w.ownsRow L 90 5 V n xs → V.ownBlock = none ∨ V.ownBlock ≠ row) : CodeAt w' n0 o V es := by
  obtain ⟨A, c, rfl, hcap, ⟨ho, h⟩ | h⟩ := h
  · exact ⟨A, c, rfl, hcap, .inl ⟨ho, h.keep fun p _ hp => World.cell?_of_block (w := w) (hg.block _ (by omega) (fun e => by have := h0 _ e.symm; omega))⟩⟩
  · exact ⟨A, c, rfl, hcap, .inr (OK.more ⟨h.1.kept hg (hne _ _ _ h.1), h.2⟩ hg.size)⟩

/-- A swapper in its box: the code, and the path of the call's own. -/
structure SwSt (w0 : World) (g : Nat) (o : Bool) (V P : Value) (es : List In) (p : List Int) (w : World) : Prop where
  hg : w0.heap.size ≤ g
  bx : CB 94 w g [V, P]
  code : CodeAt w w0.heap.size o V es
  path : OW w (g + 1) w.heap.size P p
  be : Below w0.heap.size w0 w
theorem SwSt.below {w0 w w' : World} {g : Nat} {o : Bool} {V P : Value} {es : List In} {p : List Int} (h : SwSt w0 g o V P es p w) (hb : Below w.heap.size w w') : SwSt w0 g o V P es p w' :=
  ⟨h.hg, h.bx.below hb h.bx.lt, h.code.below h.be.size hb, (h.path.below hb (Nat.le_refl _)).more hb.size, h.be.trans (hb.mono h.be.size)⟩
theorem SwSt.setCode {w0 w : World} {g : Nat} {o o' : Bool} {V P V' : Value} {es es' : List In} {p : List Int} (h : SwSt w0 g o V P es p w) (hc : CodeAt w w0.heap.size o' V' es') : SwSt w0 g o' V' P es' p (w.setCell ⟨g, 0, none⟩ V') := by
  have hg := h.hg
  have gr := grownBy_setCell' w g V'
  have hz : (w.setCell ⟨g, 0, none⟩ V').heap.size = w.heap.size := World.size_setCell _ _ _
  have hx := h.bx.set 0 V'
  refine ⟨hg, by simpa using hx, ?_, ?_, h.be.setCell (p := ⟨g, 0, none⟩) hg V'⟩
  · have := hc.grown h.be.size gr (fun j e => by cases e; exact hg) (fun L n xs ho => .inr (own_ne_cb ho h.bx (by decide)))
    exact this
  · have := h.path.chg ((Chg.refl g (g + 1) w).setCell (p := ⟨g, 0, none⟩) ⟨Nat.le_refl _, Nat.lt_succ_self _⟩ V') (.inr (Nat.le_refl _))
    rw [hz]; exact this
theorem SwSt.push {w0 w w' : World} {g : Nat} {o : Bool} {V P P' : Value} {es : List In} {p : List Int} {i : Int} (h : SwSt w0 g o V P es p w) (hown : w'.ownsRow (g + 1) 3 1 P' (p.length + 1) (p.map (Value.int .i64) ++ [.int .i64 i])) (hgr : w.grownBy w' P.ownBlock) : SwSt w0 g o V P' es (p ++ [i]) (w'.setCell ⟨g, 1, none⟩ P') := by
  have hg := h.hg
  have hlo := h.path.lo
  have hne : P.ownBlock ≠ some g := own_ne_cb h.path.1 h.bx (by decide)
  have hb1 : CB 94 w' g [V, P] := (hgr.block g h.bx.lt (fun e => hne e.symm)).trans h.bx
  have hc1 : CodeAt w' w0.heap.size o V es := h.code.grown h.be.size hgr (fun j e => by have := (hlo j e).1; omega) (fun L n xs ho => by
    rcases hV : V.ownBlock with _ | j
    · exact .inl rfl
    · exact .inr (fun e => row_ne2 ho h.path.1 (by decide) j hV e.symm))
  have hz : (w'.setCell ⟨g, 1, none⟩ P').heap.size = w'.heap.size := World.size_setCell _ _ _
  have hbe := h.be.grown hgr h.be.size (fun j e => by have := (hlo j e).1; omega)
  have hx := hb1.set 1 P'
  refine ⟨hg, by simpa using hx, ?_, ?_, hbe.setCell (p := ⟨g, 1, none⟩) hg P'⟩
  · exact hc1.grown hbe.size (grownBy_setCell1 w' g P') (fun j e => by cases e; exact hg) (fun L n xs ho => .inr (own_ne_cb ho hb1 (by decide)))
  · have := (OW.push hown).chg ((Chg.refl g (g + 1) w').setCell (p := ⟨g, 1, none⟩) ⟨Nat.le_refl _, Nat.lt_succ_self _⟩ P') (.inr (Nat.le_refl _))
    rw [hz]; exact this

def SwRet (w0 : World) (g : Nat) (o : Option Mv) (e : Ending) (w' : World) : Prop := e = .returned (.bool o.isSome) ∧ Below w0.heap.size w0 w' ∧ ∀ s, o = some s → ∃ V' P', SwSt w0 g true V' P' s.1 s.2 w'
theorem mvS_no {st : Mv} {i : Int} (h : swOk st.1 i = false) : mvS st i = none := by unfold mvS; rw [if_neg]; rintro ⟨h1, _⟩; rw [h] at h1; cases h1
theorem mvS_full {st : Mv} {i : Int} (h : st.2.length = 100) : mvS st i = none := by unfold mvS; rw [if_neg]; rintro ⟨_, h1⟩; exact h1 h
theorem mvS_yes {st : Mv} {i : Int} (h : swOk st.1 i = true) (h2 : st.2.length ≠ 100) : mvS st i = some (swapR st.1 i, st.2 ++ [i]) := by unfold mvS; rw [if_pos ⟨h, h2⟩]

set_option maxHeartbeats 4000000 in
theorem swap_any (w0 : World) (g : Nat) (o : Bool) (V P : Value) (es : List In) (p : List Int) (i : Int) (w : World) (hl : es.length ≤ 1048576) (hp : p.length ≤ 100) (h : SwSt w0 g o V P es p w) :
    Calls Try.prog 85 #[.pointer (some ⟨g, 0, none⟩), .int .i64 i] w (SwRet w0 g (mvS (es, p) i)) := by
  obtain ⟨i0, hi, hz0, hz1, hz2⟩ := info_parts Try.infoInt
  have hI := Lib.hid hi
  have hZ0 := Lib.hid hz0
  have hZ1 := Lib.hid hz1
  have hZ2 := Lib.hid hz2
  clear hi hz0 hz1 hz2
  obtain ⟨A, c, rfl, hrs, _⟩ := h.code.form h.be.size
  obtain ⟨PA, pc, rfl, _⟩ := h.path.form
  have hSw := Lib.hid (iSwap_any 0 w.heap.size A c es i w hl hrs (Nat.le_refl _))
  have hSt := Lib.hid h
  have u0 := h.bx.cell 0
  simp only [List.getElem?_cons_zero] at u0
  clear h hrs
  go_enter Try.func85, Try.ntmps85
  go_wp2_with (fail)
  refine hSw.out.mono ?_
  rintro e w1 ⟨A1, c1, rfl, ho1, hb1⟩
  have h1 := hSt.out.below hb1
  have hBe := Lib.hid h1.be
  have hS1 := Lib.hid h1
  have hC1 : Hid (CodeAt w1 w0.heap.size true (.slice A1 (swapR es i).length c1) (swapR es i)) := ⟨A1, c1, rfl, OK.cap ho1, .inr (ho1.lower hSt.out.be.size)⟩
  have v1 := h1.bx.cell 1
  have v0 := h1.bx.cell 0
  have f0 := h1.bx.frozen 0
  have f1 := h1.bx.frozen 1
  simp only [List.getElem?_cons_zero, List.getElem?_cons_succ] at v1 v0
  clear u0 hSw ho1 hb1 h1 hSt
  cases hs : swOk es i
  · have hN := Lib.hid (mvS_no (st := (es, p)) hs)
    clear hs
    go_wp2
    go_ret
    exact ⟨by rw [hN.out]; rfl, hBe.out, fun s e => by rw [hN.out] at e; cases e⟩
  by_cases h100 : p.length = 100
  · have hN := Lib.hid (mvS_full (st := (es, p)) (i := i) h100)
    have hq : ((p.length : Int) == 100) = true := by simp; omega
    clear hs h100
    go_wp2
    go_ret
    exact ⟨by rw [hN.out]; rfl, hBe.out, fun s e => by rw [hN.out] at e; cases e⟩
  have hN := Lib.hid (mvS_yes (st := (es, p)) hs h100)
  have hq : ((p.length : Int) == 100) = false := by simp; omega
  have hS2 := Lib.hid (hS1.out.setCode hC1.out)
  have hpl : p.length < 100 := by omega
  clear hs h100 v1 v0 f0 f1
  have v1 := hS1.out.bx.cell 1
  have v0 := hS1.out.bx.cell 0
  have f0 := hS1.out.bx.frozen 0
  have w1' := hS2.out.bx.cell 1
  have g1 := hS2.out.bx.frozen 1
  simp only [List.getElem?_cons_zero, List.getElem?_cons_succ] at v1 v0 w1'
  have A3 := (Below.refl (w1.setCell ⟨g, 0, none⟩ (.slice A1 (swapR es i).length c1)).heap.size _).alloc (Nat.le_refl _) (.cells #[.int .i64 i] 3)
  have hS3 := Lib.hid (hS2.out.below A3)
  have hO3 := Lib.hid hS3.out.path.1
  have hBx3 := Lib.hid hS3.out.bx
  have hzz : Hid (g + 1 ≤ ((w1.setCell ⟨g, 0, none⟩ (.slice A1 (swapR es i).length c1)).alloc (.cells #[.int .i64 i] 3)).heap.size) := hS3.out.bx.lt
  clear A3
  go_wp2_with (at_builtin; go_loud (refine wpList_append_own _ rfl _ _ 32 rfl (g + 1) 3 i0 (.int .i64 0) 1 8 Try.underlying32 hI.out hZ0.out hZ1.out hZ2.out rfl (by decide) _ p.length _ rfl hO3.out ⟨w1.heap.size, 0, none⟩ 1 1 [.int .i64 i] rfl rfl (new1 (World.size_setCell _ _ _)) (one1 _) (by unfold maxLen; omega) (by omega) hzz.out ?_); intro v' w4 hown4 hgr4 _; have hb4 : CB 94 w4 g [.slice A1 (swapR es i).length c1, .slice PA p.length pc] := (hgr4.block g hBx3.out.lt (fun e => own_ne_cb hO3.out hBx3.out (by decide) e.symm)).trans hBx3.out; have f4 := hb4.frozen 1; have x4 := hb4.cell 1; simp only [List.getElem?_cons_zero, List.getElem?_cons_succ] at x4; obtain ⟨ga, ca, rfl⟩ := ownsRow_succ hown4)
  have hFin := Lib.hid (hS3.out.push hown4 hgr4)
  clear hown4 hgr4 hb4
  go_ret
  refine ⟨by rw [hN.out]; rfl, hFin.out.be, fun s e => ?_⟩
  rw [hN.out] at e
  injection e with e
  subst e
  exact ⟨_, _, hFin.out⟩
end Go.Proofs.Ythjfedidpjfboaa

/- isBlock, FollowPath of the program. -/
namespace Go.Proofs.Ythjfedidpjfboaa
open Go.RowKit
set_option linter.unusedVariables false
set_option maxRecDepth 100000

theorem isBlock_any (L B : Nat) (A : Option Addr) (c : Nat) (es : List In) (w : World) (hl : es.length ≤ 1048576) (hes : RS In.enc 5 w L B A es) (hB : B ≤ w.heap.size) :
    Calls Try.prog 83 #[.slice A es.length c] w fun e w' => e = .returned (.bool (blkOk es)) ∧ Below w.heap.size w w' := by
  have H := Lib.hid (IsCode_any L B A c es w hl hes hB)
  have hk : Hid (blkOk es = (decide (es.length ≤ 20) && okCode es)) := rfl
  have b0 := Lib.hid (Below.refl w.heap.size w)
  clear hes
  generalize blkOk es = r at *
  generalize okCode es = q at *
  by_cases h20 : es.length ≤ 20
  · have h1 : (es.length : Int) ≤ 20 := by omega
    have h2 : decide (es.length ≤ 20) = true := decide_eq_true h20
    rw [h2] at hk
    clear h2
    go_enter Try.func83, Try.ntmps83
    go_wp2_with (fail)
    refine H.out.mono ?_
    rintro e w1 ⟨rfl, hb⟩
    have hbh := Lib.hid hb
    clear hb
    go_wp2
    go_ret
    exact ⟨by rw [hk.out]; rfl, hbh.out⟩
  · have h1 : ¬ (es.length : Int) ≤ 20 := by omega
    have h2 : decide (es.length ≤ 20) = false := decide_eq_false h20
    rw [h2] at hk
    clear h2
    go_enter Try.func83, Try.ntmps83
    go_wp2
    go_ret
    exact ⟨by rw [hk.out]; rfl, b0.out⟩
set_option maxHeartbeats 1000000 in
theorem CloneC_all (L B : Nat) (A : Option Addr) (c : Nat) (xs : List In) (w : World) (hl : xs.length ≤ 1048576) (hx : RS In.enc 5 w L B A xs) (hB : B ≤ w.heap.size) :
    Calls Try.prog 84 #[.slice A xs.length c] w (FreshInstr w xs) := by
  have b0 := Lib.hid (Below.refl w.heap.size w)
  rcases A with _ | ad
  · have h0 : xs = [] := by
      rcases xs with _ | ⟨x, xs⟩
      · rfl
      · obtain ⟨b, o, e, _⟩ := hx (by simp)
        cases e
    subst h0
    have heq := Lib.run_eql_slice_nil (P := Try.prog) w 34 90 none 0 c 0 0 Try.underlying34
    simp only [Option.isNone_none] at heq
    go_enter Try.func84, Try.ntmps84
    go_wp2
    go_ret
    exact ⟨none, 0, rfl, OK.nil _ _ _ _, b0.out⟩
  obtain ⟨i0, hi, hz0, hz1, hz2⟩ := info_parts Try.infoInstr
  have hb0 := Lib.hid ((Below.refl w.heap.size w).alloc (Nat.le_refl _) (.cells #[] 90))
  have hnews := Lib.hid (show ∀ j u, (xs.flatMap In.enc)[j]? = some u → (w.alloc (.cells #[] 90)).cell? (ad.add j) = some u from fun j u hu => by
    have h0 : 0 < xs.length := by
      rcases xs with _ | ⟨x, xs⟩
      · simp at hu
      · simp
    obtain ⟨a, e, h⟩ := (hx.below hb0.out hB).news In.hk h0
    injection e with e; subst e
    exact h j u hu)
  have hown := Lib.hid (World.ownsRow_made (base := w.heap.size) (e := 90) (size := 5) w #[] 0 (Nat.le_refl _) (by unfold maxLen; omega) (by simp))
  clear hx
  have heq := Lib.run_eql_slice_nil (P := Try.prog) w 34 90 (some ad) xs.length c 0 0 Try.underlying34
  simp only [Option.isNone_some] at heq
  go_enter Try.func84, Try.ntmps84
  go_wp2_with (at_builtin; refine wpList_append_src rfl _ _ 34 rfl w.heap.size 90 i0 _ 5 48 Try.underlying34 hi hz0 hz1 hz2 rfl (by decide) _ 0 [] rfl hown.out (some ad) xs.length c (xs.flatMap In.enc) rfl (kflat_len In.hk xs) (fun _ => ⟨ad, rfl, hnews.out⟩) (five_ones xs) (by unfold maxLen; omega) (by omega) (by simp) ?_; intro v' w1 hown' hgrow _)
  simp only [Nat.zero_add, List.nil_append] at hown'
  have ho : Hid (OK In.enc 5 90 w1 w.heap.size w1.heap.size v' xs) := OK.ofRow hown' rfl
  have hb : Hid (Below w.heap.size w w1) := hb0.out.grown hgrow (by simp) (fun k hk => by cases hk; exact Nat.le_refl _)
  obtain ⟨A', c', rfl, _⟩ := OK.form In.hk ho.out
  clear hown' hgrow
  go_wp2
  go_ret
  exact ⟨_, _, rfl, ho.out, hb.out⟩

set_option maxHeartbeats 4000000 in
theorem iFollowPath_any (L B : Nat) (A : Option Addr) (c : Nat) (es : List In) (L' B' : Nat) (A' : Option Addr) (c' : Nat) (path : List Int) (w : World) (hl : es.length ≤ 1048576) (hes : RS In.enc 5 w L B A es) (hB : B ≤ w.heap.size) (hn : path.length ≤ 1048576) (hns : IS w L' B' A' path) (hB' : B' ≤ w.heap.size) :
    Calls Try.prog 29 #[.slice A es.length c, .slice A' path.length c'] w (ResFollowPath (folC es path) (folB es path) w) := by
  have H := Lib.hid (isBlock_any L B A c es w hl hes hB)
  cases hb : blkOk es
  · have hN := Lib.hid (fol_none (folR_no path hb))
    rw [hb] at H
    clear hb hes hns
    go_enter Try.func29, Try.ntmps29
    go_wp2_with (fail)
    refine H.out.mono ?_
    rintro e w1 ⟨rfl, hb1⟩
    have hbh := Lib.hid hb1
    clear hb1
    go_wp2
    go_ret2
    rw [hN.out.1, hN.out.2]
    exact ⟨none, 0, rfl, OK.nil _ _ _ _, hbh.out⟩
  have hFR := Lib.hid (folR_yes path hb)
  have hok := (blkOk_parts hb).2
  have hSt := Lib.hid (MvInv.start hok)
  have hSucc := Lib.hid fun (k : Nat) (h : k < path.length) => folS_succ (es, []) h
  have hNo := Lib.hid fun (k : Nat) (h : folS (es, []) (path.take k) = none) => folS_no h
  have hInv := Lib.hid fun (k : Nat) (s : Mv) (h : folS (es, []) (path.take k) = some s) => (MvInv.fol _ hSt.out h).1
  have hL20 := okCode_len hok
  have hCl := Lib.hid fun (W : World) (hW : Below w.heap.size w W) => CloneC_all L B A c es W hl (hes.below hW hB) (Nat.le_trans hB hW.size)
  have hPa := Lib.hid fun (W : World) (hW : Below w.heap.size w W) => hns.below hW hB'
  have hBB' := Lib.hid hB'
  rw [hb] at H
  clear hb hes hns hok
  go_enter Try.func29, Try.ntmps29
  go_wp2_with (fail)
  refine H.out.mono ?_
  rintro e w1 ⟨rfl, hb1⟩
  have hbh := Lib.hid hb1
  clear hb1
  go_wp2_with (fail)
  refine (hCl.out _ hbh.out).mono ?_
  rintro e w2 ⟨A2, c2, rfl, ho2, hb2⟩
  have hB2 := hbh.out.trans (hb2.mono hbh.out.size)
  have A3 := (Below.refl w2.heap.size w2).alloc (Nat.le_refl _) (.cells #[.slice A2 es.length c2, .slice none 0 0] 94)
  have S0 : Hid (SwSt w w2.heap.size true (.slice A2 es.length c2) (.slice none 0 0) es [] (w2.alloc (.cells #[.slice A2 es.length c2, .slice none 0 0] 94))) :=
    ⟨hB2.size, heap_alloc_new w2 _, ⟨A2, c2, rfl, OK.cap ho2, .inr (((ho2.lower hbh.out.size).below A3 (Nat.le_refl _)).more A3.size)⟩, OW.nil _ _ _, hB2.alloc hB2.size _⟩
  have hB2h := Lib.hid hB2
  clear A3 ho2 hb2 hB2
  go_wp2
  obtain ⟨W3, hW3⟩ : ∃ W3, W3 = w2.alloc (.cells #[.slice A2 es.length c2, .slice none 0 0] 94) := ⟨_, rfl⟩
  rw [← hW3] at S0 ⊢
  obtain ⟨g, hg⟩ : ∃ g, g = w2.heap.size := ⟨_, rfl⟩
  rw [← hg] at S0 ⊢
  clear hW3 hg
  go_loopw [17] (fun i wr => ∃ (k : Nat) (s : Mv) (V P : Value), k ≤ path.length ∧ i = .int .i64 k ∧ folS (es, []) (path.take k) = some s ∧ SwSt w g true V P s.1 s.2 wr) (fun i _ => path.length - (intOf i).toNat)
  case atStart => exact ⟨0, (es, []), _, _, Nat.zero_le _, rfl, rfl, S0.out⟩
  case round =>
    obtain ⟨k, s, V, P, hk, rfl, hs, hst⟩ := hrel
    have hI := hInv.out k s hs
    obtain ⟨cs, p⟩ := s
    have hSS := Lib.hid hst
    have hS := Lib.hid hs
    have hlc := hI.len
    have hlp := hI.most
    dsimp only at hlc hlp
    clear hI hs
    by_cases hlt : k < path.length
    · obtain ⟨pb, po, rfl, ⟨_, hpb⟩, hcc⟩ := (hPa.out _ hst.be) (by omega)
      have y1 := hcc k hlt
      have hsu := Lib.hid (hSucc.out k hlt)
      clear hcc hst
      generalize path[k] = pk at *
      have hSw := Lib.hid (swap_any w g true V P cs p pk wr (by omega) hlp hSS.out)
      go_wp2_with (fail)
      refine hSw.out.mono ?_
      rintro e w4 ⟨rfl, hb4, hnx⟩
      have hN4 := Lib.hid hnx
      have hB4 := Lib.hid hb4
      have hsu2 : Hid (folS (es, []) (path.take (k + 1)) = mvS (cs, p) pk) := by rw [Hid, hsu.out, hS.out]; rfl
      clear hnx hb4 hsu hSw
      cases hm : mvS (cs, p) pk with
      | none =>
        rw [hm] at hsu2
        have hF := Lib.hid (fol_none (hFR.out.trans (hNo.out _ hsu2.out)))
        clear hm hN4 hsu2
        dsimp only [Option.isSome_none]
        go_wp2
        go_ret2
        rw [hF.out.1, hF.out.2]
        exact ⟨none, 0, rfl, OK.nil _ _ _ _, hB4.out⟩
      | some s2 =>
        rw [hm] at hsu2
        obtain ⟨V2, P2, h2⟩ := hN4.out s2 hm
        have H2 := Lib.hid h2
        clear h2 hm hN4
        dsimp only [Option.isSome_some]
        go_wp2
        go_roundw
        case rel => exact ⟨k + 1, s2, V2, P2, by omega, by go_num, hsu2.out, H2.out⟩
        case measure => simp [intOf]; omega
    · obtain rfl : k = path.length := by omega
      have hF := Lib.hid (fol_some (hFR.out.trans (by rw [← hS.out, List.take_length])))
      obtain ⟨A5, c5, rfl, hO5⟩ := hst.code.own
      have u0 := hst.bx.cell 0
      simp only [List.getElem?_cons_zero] at u0
      have hO5h := Lib.hid hO5
      dsimp only at u0 hO5h hF
      clear hst hO5
      go_wp2
      go_ret2
      rw [hF.out.1, hF.out.2]
      exact ⟨A5, c5, by rw [show cs.length = es.length from hlc]; rfl, hO5h.out, hSS.out.be⟩
end Go.Proofs.Ythjfedidpjfboaa

/- Instructions compared by '==', and slices.Index of instructions. -/
namespace Go.Proofs.Ythjfedidpjfboaa
open Go.RowKit
set_option linter.unusedVariables false
set_option maxRecDepth 100000
theorem in_guard : Try.prog.eqGuardType Try.prog.depth 90 = false := by kernel_rfl
theorem equalIn_in (op op' : ByteArray) (d a b m d' a' b' m' : Int) (w : World) : (Op.equalIn 10000 90 (.agg #[.string op, .int .i64 d, .int .i64 a, .int .i64 b, .int .i64 m]) (.agg #[.string op', .int .i64 d', .int .i64 a', .int .i64 b', .int .i64 m'])).run Try.prog w = .ok (sameI ⟨op, d, a, b, m⟩ ⟨op', d', a', b', m'⟩) w := by
  have u3 := Try.underlying3
  have a3 := Try.isAgg3
  have z3 := Try.sizeOf3
  have u9 := Try.underlying9
  have a9 := Try.isAgg9
  have z9 := Try.sizeOf9
  have hS : Try.prog.underlying 90 = some (.struct (Try.prog.fieldsOf 90)) := by kernel_rfl
  have hp : Try.prog.stoodInHeld 90 = false := by kernel_rfl
  rw [show (10000 : Nat) = 9999 + 1 from rfl, run_equalIn_agg w 9999 90 _ _ hS hp]
  simp only [Program.fieldsOf, Try.underlying90]
  unfold sameI
  go_simp
  by_cases h0 : op.toList = op'.toList <;> by_cases h1 : d = d' <;> by_cases h2 : a = a' <;> by_cases h3 : b = b' <;> by_cases h4 : m = m' <;> simp [h0, h1, h2, h3, h4]
theorem XB.new (w : World) (x : In) : XB (w.alloc (.cells #[.string x.op, .int .i64 x.d, .int .i64 x.a, .int .i64 x.b, .int .i64 x.m] 90)) w.heap.size x := heap_alloc_new w _

set_option maxHeartbeats 1000000 in
theorem indexI_any (L B : Nat) (A : Option Addr) (c : Nat) (xs : List In) (y : In) (w : World) (hl : xs.length ≤ 1048576) (hx : RS In.enc 5 w L B A xs) (hB : B ≤ w.heap.size) :
    Calls Try.prog 87 #[.slice A xs.length c, .agg #[.string y.op, .int .i64 y.d, .int .i64 y.a, .int .i64 y.b, .int .i64 y.m]] w fun e w' => e = .returned (.int .i64 (iidx xs y)) ∧ Below w.heap.size w w' := by
  have hX := Lib.hid hx
  have hgd := in_guard
  clear hx
  obtain ⟨op, d, a, b, m⟩ := y
  dsimp only
  obtain ⟨W1, hW1⟩ : ∃ W1, W1 = w.alloc (.cells #[.string op, .int .i64 d, .int .i64 a, .int .i64 b, .int .i64 m] 90) := ⟨_, rfl⟩
  have b1 : Hid (Below w.heap.size w W1) := by unfold Hid; rw [hW1]; exact (Below.refl _ _).alloc (Nat.le_refl _) _
  have x1 : Hid (XB W1 w.heap.size ⟨op, d, a, b, m⟩) := by unfold Hid; rw [hW1]; exact XB.new _ ⟨op, d, a, b, m⟩
  have e1 := Lib.hid hW1
  have hfi : Hid (iidx xs ⟨op, d, a, b, m⟩ = firstI (fun k => sameI (xs.getD k zeroIn) ⟨op, d, a, b, m⟩) xs.length) := rfl
  clear hW1
  go_enter Try.func87, Try.ntmps87
  go_wp2
  rw [← e1.out]
  clear e1
  go_loopw [8] (fun i wr => ∃ k : Nat, k ≤ xs.length ∧ i = .int .i64 k ∧ (∀ j, j < k → sameI (xs.getD j zeroIn) ⟨op, d, a, b, m⟩ = false) ∧ Below w.heap.size w wr ∧ XB wr w.heap.size ⟨op, d, a, b, m⟩) (fun i _ => xs.length - (intOf i).toNat)
  case atStart => exact ⟨0, Nat.zero_le _, rfl, fun j hj => by omega, b1.out, x1.out⟩
  case round =>
    obtain ⟨k, hk, rfl, hall, hbel, hxn⟩ := hrel
    have hAll := Lib.hid hall
    have hBe := Lib.hid hbel
    have hXN := Lib.hid hxn
    obtain ⟨m0, m1, m2, m3, m4⟩ := hxn.cells
    clear hall hxn
    by_cases hlt : k < xs.length
    · obtain ⟨b9, o9, rfl, ⟨_, hbB⟩, hc⟩ := In.cells (hX.out.below hbel hB) (by omega)
      obtain ⟨c1, c2, c3, c4, c5⟩ := hc k hlt
      have k0 : (0 : Int) ≤ (k : Int) := by omega
      have k1 : (k : Int) < (xs.length : Int) := by omega
      have hg1 := getD_in hlt
      have hYes := Lib.hid (show sameI xs[k] ⟨op, d, a, b, m⟩ = true → iidx xs ⟨op, d, a, b, m⟩ = (k : Int) from fun h => by
        rw [hfi.out]; exact firstI_some hlt (by show sameI (xs.getD k zeroIn) _ = true; rw [hg1]; exact h) hAll.out)
      have hNx := Lib.hid (show sameI xs[k] ⟨op, d, a, b, m⟩ = false → ∀ j, j < k + 1 → sameI (xs.getD j zeroIn) ⟨op, d, a, b, m⟩ = false from fun h j hj => by
        by_cases e : j = k
        · subst e; rw [hg1]; exact h
        · exact hAll.out j (by omega))
      clear hc hbel hg1
      generalize xs[k] = z at *
      obtain ⟨op', d', a', b', m'⟩ := z
      dsimp only at *
      have hEq := fun W => equalIn_in op op' d a b m d' a' b' m' W
      rw [sameI_comm] at hEq
      cases hs : sameI ⟨op', d', a', b', m'⟩ ⟨op, d, a, b, m⟩
      · have hn := Lib.hid (hNx.out hs)
        rw [hs] at hEq
        clear hs hNx hYes
        go_wp2_with (fail)
        go_region
        all_goals go_wp2
        all_goals go_roundw
        case rel => exact ⟨k + 1, by omega, by go_num, hn.out, hBe.out.drew, hXN.out⟩
        case measure => simp [intOf]; omega
      · have hy := Lib.hid (hYes.out hs)
        rw [hs] at hEq
        clear hs hNx hYes
        go_wp2_with (fail)
        go_region
        all_goals go_wp2
        all_goals go_ret
        all_goals exact ⟨by rw [hy.out]; rfl, hBe.out.drew⟩
    · obtain rfl : k = xs.length := by omega
      have hn : Hid (iidx xs ⟨op, d, a, b, m⟩ = -1) := by rw [Hid, hfi.out]; exact firstI_none hAll.out
      go_wp2
      go_ret
      exact ⟨by rw [hn.out]; rfl, hBe.out⟩
end Go.Proofs.Ythjfedidpjfboaa
