import Derived.Test.YthjfedidpjfboaaSB
import Derived.Test.YthjfedidpjfboaaTE
/- Swaps of a block: plain. -/
namespace Go.Proofs.Ythjfedidpjfboaa
open Go.RowKit
set_option linter.unusedVariables false

theorem getD_in {es : List In} {k : Nat} (h : k < es.length) : es.getD k zeroIn = es[k] := by rw [List.getD_eq_getElem?_getD, List.getElem?_eq_getElem h]; rfl
def blkOk (es : List In) : Bool := decide (es.length ≤ 20) && okCode es
theorem blkOk_parts {es : List In} (h : blkOk es = true) : es.length ≤ 20 ∧ okCode es = true := by
  unfold blkOk at h; rw [Bool.and_eq_true] at h; exact ⟨of_decide_eq_true h.1, h.2⟩
abbrev Mv := List In × List Int
/-- One swap: the code and the path. -/
def mvS (st : Mv) (i : Int) : Option Mv := if swOk st.1 i = true ∧ st.2.length ≠ 100 then some (swapR st.1 i, st.2 ++ [i]) else none
def folS (st : Mv) : List Int → Option Mv
  | [] => some st
  | i :: p => (mvS st i).bind fun s => folS s p
theorem folS_append (q : List Int) : ∀ (p : List Int) (st : Mv), folS st (p ++ q) = (folS st p).bind fun s => folS s q
  | [], st => rfl
  | i :: p, st => by
    show (mvS st i).bind (fun s => folS s (p ++ q)) = ((mvS st i).bind fun s => folS s p).bind fun s => folS s q
    rw [Option.bind_assoc]
    congr 1
    funext s
    exact folS_append q p s
theorem folS_one (st : Mv) (i : Int) : folS st [i] = mvS st i := by
  show (mvS st i).bind (fun s => some s) = mvS st i
  cases mvS st i <;> rfl
theorem folS_succ (st : Mv) {p : List Int} {k : Nat} (h : k < p.length) : folS st (p.take (k + 1)) = (folS st (p.take k)).bind fun s => mvS s p[k] := by
  rw [List.take_succ_eq_append_getElem h, folS_append]
  congr 1
  funext s
  exact folS_one s _
theorem folS_no {st : Mv} {p : List Int} {k : Nat} (h : folS st (p.take k) = none) : folS st p = none := by
  rw [← List.take_append_drop k p, folS_append, h]; rfl

theorem okCode_of {es : List In} (h1 : es.length ≤ 40) (h2 : ∀ x ∈ es, goodIn x = true) : okCode es = true := by
  unfold okCode; rw [Bool.and_eq_true]; exact ⟨decide_eq_true h1, List.all_eq_true.2 h2⟩
theorem swOk_parts {es : List In} {i : Int} (h : swOk es i = true) : okCode es = true ∧ inR i 0 (es.length - 2) = true ∧ freeB (es.getD i.toNat zeroIn) (es.getD (i.toNat + 1) zeroIn) = true := by
  unfold swOk at h; simp only [Bool.and_eq_true] at h; exact ⟨h.1.1, h.1.2, h.2⟩
theorem swapR_inv {es : List In} {i : Int} (h : swOk es i = true) : okCode (swapR es i) = true ∧ (swapR es i).length = es.length := by
  obtain ⟨h1, h2, h3⟩ := swOk_parts h
  obtain ⟨n, rfl, hn⟩ := inR_nat h2
  have e : swapR es n = (es.set n (es.getD (n + 1) zeroIn)).set (n + 1) (es.getD n zeroIn) := by rw [swapR, if_pos h, Int.toNat_natCast]
  have hl : (swapR es n).length = es.length := by rw [e, List.length_set, List.length_set]
  have g : ∀ m, m < es.length → es.getD m zeroIn ∈ es := fun m hm => by rw [List.getD_eq_getElem?_getD, List.getElem?_eq_getElem hm]; exact List.getElem_mem hm
  refine ⟨okCode_of (by rw [hl]; exact okCode_len h1) fun x hx => ?_, hl⟩
  rw [e] at hx
  have ha := okCode_all h1
  rcases List.mem_or_eq_of_mem_set hx with hx | rfl
  · rcases List.mem_or_eq_of_mem_set hx with hx | rfl
    · exact ha x hx
    · exact ha _ (g _ (by omega))
  · exact ha _ (g _ (by omega))
theorem mvS_some {st s : Mv} {i : Int} (h : mvS st i = some s) : swOk st.1 i = true ∧ st.2.length ≠ 100 ∧ s = (swapR st.1 i, st.2 ++ [i]) := by
  unfold mvS at h
  split at h
  · rename_i hc; injection h with h; exact ⟨hc.1, hc.2, h.symm⟩
  · cases h
/-- What every state on the way keeps. -/
structure MvInv (a : List In) (st : Mv) : Prop where
  ok : okCode st.1 = true
  len : st.1.length = a.length
  most : st.2.length ≤ 100
theorem MvInv.step {a : List In} {st s : Mv} {i : Int} (h : MvInv a st) (hm : mvS st i = some s) : MvInv a s ∧ s.2 = st.2 ++ [i] := by
  obtain ⟨h1, h2, rfl⟩ := mvS_some hm
  obtain ⟨h3, h4⟩ := swapR_inv h1
  have := h.most
  exact ⟨⟨h3, by show (swapR st.1 i).length = _; rw [h4]; exact h.len, by show (st.2 ++ [i]).length ≤ 100; rw [List.length_append, List.length_singleton]; omega⟩, rfl⟩
theorem MvInv.fol {a : List In} : ∀ (p : List Int) {st s : Mv}, MvInv a st → folS st p = some s → MvInv a s ∧ s.2 = st.2 ++ p ∧ allIn p 0 ((a.length : Int) - 2) = true
  | [], st, s, h, hm => by
    injection hm with hm; subst hm; exact ⟨h, by simp, rfl⟩
  | i :: p, st, s, h, hm => by
    have hm' : (mvS st i).bind (fun s => folS s p) = some s := hm
    cases e : mvS st i with
    | none => rw [e] at hm'; cases hm'
    | some s1 =>
      rw [e] at hm'
      obtain ⟨h1, h2⟩ := h.step e
      obtain ⟨h3, h4, h5⟩ := MvInv.fol p h1 hm'
      refine ⟨h3, by rw [h4, h2, List.append_assoc]; rfl, ?_⟩
      have hi := (swOk_parts (mvS_some e).1).2.1
      rw [h.len] at hi
      show (inR i 0 ((a.length : Int) - 2) && allIn p 0 ((a.length : Int) - 2)) = true
      rw [hi, h5]; rfl
theorem MvInv.start {a : List In} (h : okCode a = true) : MvInv a (a, []) := ⟨h, rfl, Nat.zero_le _⟩

def folR (es : List In) (path : List Int) : Option Mv := if blkOk es = true then folS (es, []) path else none
def folC (es : List In) (path : List Int) : List In := ((folR es path).map Prod.fst).getD []
def folB (es : List In) (path : List Int) : Bool := (folR es path).isSome
theorem folR_no {es : List In} (path : List Int) (h : blkOk es = false) : folR es path = none := by unfold folR; rw [h]; rfl
theorem folR_yes {es : List In} (path : List Int) (h : blkOk es = true) : folR es path = folS (es, []) path := by unfold folR; rw [if_pos h]
theorem fol_none {es : List In} {path : List Int} (h : folR es path = none) : folC es path = [] ∧ folB es path = false := by unfold folC folB; rw [h]; exact ⟨rfl, rfl⟩
theorem fol_some {es : List In} {path : List Int} {s : Mv} (h : folR es path = some s) : folC es path = s.1 ∧ folB es path = true := by unfold folC folB; rw [h]; exact ⟨rfl, rfl⟩
theorem folR_long {es : List In} {path : List Int} (h : 100 < path.length) : folR es path = none := by
  cases hb : blkOk es
  · exact folR_no path hb
  · rw [folR_yes path hb]
    cases e : folS (es, []) path with
    | none => rfl
    | some s =>
      obtain ⟨h1, h2, _⟩ := MvInv.fol path (MvInv.start (blkOk_parts hb).2) e
      have h3 := h1.most
      rw [h2] at h3
      simp at h3; omega
theorem folR_far {es : List In} {path : List Int} (h : allIn path 0 ((es.length : Int) - 2) = false) : folR es path = none := by
  cases hb : blkOk es
  · exact folR_no path hb
  · rw [folR_yes path hb]
    cases e : folS (es, []) path with
    | none => rfl
    | some s =>
      obtain ⟨_, _, h3⟩ := MvInv.fol path (MvInv.start (blkOk_parts hb).2) e
      rw [h] at h3; cases h3
theorem folC_len (es : List In) (path : List Int) : (folC es path).length ≤ 1048576 := by
  cases e : folR es path with
  | none => rw [(fol_none e).1]; simp
  | some s =>
    rw [(fol_some e).1]
    have hb : blkOk es = true := by
      cases hb : blkOk es
      · rw [folR_no path hb] at e; cases e
      · rfl
    rw [folR_yes path hb] at e
    have h1 := (MvInv.fol path (MvInv.start (blkOk_parts hb).2) e).1
    have := okCode_len h1.ok
    omega

/-- An instruction's first place. -/
def sameI (x y : In) : Bool := x.op.toList == y.op.toList && x.d == y.d && x.a == y.a && x.b == y.b && x.m == y.m
theorem sameI_comm (x y : In) : sameI x y = sameI y x := by
  unfold sameI
  rw [Bool.eq_iff_iff]
  simp only [Bool.and_eq_true, beq_iff_eq]
  constructor <;> rintro ⟨⟨⟨⟨h1, h2⟩, h3⟩, h4⟩, h5⟩ <;> exact ⟨⟨⟨⟨h1.symm, h2.symm⟩, h3.symm⟩, h4.symm⟩, h5.symm⟩
def iidx (xs : List In) (y : In) : Int := firstI (fun k => sameI (xs.getD k zeroIn) y) xs.length
/-- The swaps that bring the instruction at k + n to k. -/
def mvDn (k : Nat) : Nat → Mv → Option Mv
  | 0, st => some st
  | n + 1, st => (mvS st ((k + n : Nat) : Int)).bind (mvDn k n)
def spStep (st : Mv) (k : Nat) (x : In) : Option Mv := if iidx (st.1.drop k) x < 0 then none else mvDn k (iidx (st.1.drop k) x).toNat st
def spTo (a b : List In) : Nat → Option Mv
  | 0 => some (a, [])
  | k + 1 => (spTo a b k).bind fun s => spStep s k (b.getD k zeroIn)
theorem spTo_no {a b : List In} {k : Nat} (h : spTo a b k = none) : ∀ m, k ≤ m → spTo a b m = none := by
  intro m hm
  obtain ⟨d, rfl⟩ := Nat.exists_eq_add_of_le hm
  clear hm
  induction d with
  | zero => exact h
  | succ d ih => show (spTo a b (k + d)).bind _ = none; rw [ih]; rfl
theorem MvInv.dn {a : List In} (k : Nat) : ∀ (n : Nat) {st s : Mv}, MvInv a st → mvDn k n st = some s → MvInv a s
  | 0, st, s, h, hm => by injection hm with hm; subst hm; exact h
  | n + 1, st, s, h, hm => by
    have hm' : (mvS st ((k + n : Nat) : Int)).bind (mvDn k n) = some s := hm
    cases e : mvS st ((k + n : Nat) : Int) with
    | none => rw [e] at hm'; cases hm'
    | some s1 => rw [e] at hm'; exact MvInv.dn k n (h.step e).1 hm'
theorem MvInv.to {a b : List In} (ha : okCode a = true) : ∀ (k : Nat) {s : Mv}, spTo a b k = some s → MvInv a s
  | 0, s, h => by injection h with h; subst h; exact .start ha
  | k + 1, s, h => by
    have h' : (spTo a b k).bind (fun s => spStep s k (b.getD k zeroIn)) = some s := h
    cases e : spTo a b k with
    | none => rw [e] at h'; cases h'
    | some s1 =>
      rw [e] at h'
      have h2 : spStep s1 k (b.getD k zeroIn) = some s := h'
      unfold spStep at h2
      split at h2
      · cases h2
      · exact (MvInv.to ha k e).dn k _ h2
def spOk0 (a b : List In) : Bool := blkOk a && blkOk b && decide (a.length = b.length)
def spR (a b : List In) : Option Mv := if spOk0 a b = true then spTo a b b.length else none
def spP (a b : List In) : List Int := ((spR a b).map Prod.snd).getD []
def spB (a b : List In) : Bool := (spR a b).isSome
theorem sp_none {a b : List In} (h : spR a b = none) : spP a b = [] ∧ spB a b = false := by unfold spP spB; rw [h]; exact ⟨rfl, rfl⟩
theorem sp_some {a b : List In} {s : Mv} (h : spR a b = some s) : spP a b = s.2 ∧ spB a b = true := by unfold spP spB; rw [h]; exact ⟨rfl, rfl⟩
theorem spP_len (a b : List In) : (spP a b).length ≤ 1048576 := by
  cases e : spR a b with
  | none => rw [(sp_none e).1]; simp
  | some s =>
    rw [(sp_some e).1]
    unfold spR at e
    split at e
    · rename_i h
      unfold spOk0 at h
      simp only [Bool.and_eq_true] at h
      have := (MvInv.to (blkOk_parts h.1.1).2 _ e).most
      omega
    · cases e
end Go.Proofs.Ythjfedidpjfboaa
