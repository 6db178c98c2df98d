/- Texts of this proof, one behind the other: CN, SR, MP, CT, LawB, SH. -/
import Derived.Test.YtmhdijklindipaaZ15
import Derived.WalkKit
import Derived.WalkSpells
import Derived.WalkLawsBesides
import Derived.Deep.RegionHeld3
import Derived.Lib.Hide
import Derived.Sort.Grow
import Derived.Lib.SlicesCompact
import Derived.Test.YtmhdijklindipaaV2
import Derived.Test.YtmhdijklindipaaKMInstr
import Derived.Shelf.Small.Bits
import Derived.Shelf.Strconv.Itoa0
import Derived.Shelf.Sort.Plain
import Derived.Ground.Names2Prog
import Derived.Shelf.Slices.Clone
import Derived.Shelf.Slices.CompactI
import Derived.Shelf.Slices.SearchI
import Derived.Shelf.Slices.Cells
import Derived.Ground.SlgnProg
import Derived.Shelf.SlicesE.Clone
import Derived.Test.YtmhdijklindipaaProg
import Derived.Ground.NamesProg
namespace Go.Proofs.Ytmhdijklindipaa
open Go.RowKit
set_option linter.unusedVariables false
set_option maxRecDepth 100000

/-- A new slice of six ints. -/
def Own6 (w : World) (rs : List Int) (e : Ending) (w' : World) : Prop :=
  ∃ g c, e = .returned (.slice (some ⟨g, 0, none⟩) 6 c) ∧ w.heap.size ≤ g ∧ OW w' g (g + 1) (.slice (some ⟨g, 0, none⟩) 6 c) rs ∧ Below w.heap.size w w'
theorem OW.narrow {w : World} {lo hi g n c : Nat} {xs : List Int} (h : OW w lo hi (.slice (some ⟨g, 0, none⟩) n c) xs) : OW w g (g + 1) (.slice (some ⟨g, 0, none⟩) n c) xs := by
  refine ⟨⟨h.1.1, ?_⟩, fun k hk => by cases hk; exact Nat.lt_succ_self _⟩
  rcases h.1.2 with ⟨h0, _⟩ | ⟨g', cap, cur, e, hg, hr⟩
  · cases h0
  · injection e with e1 e2 e3; injection e1 with e1; injection e1 with e1 _ _
    subst e1; subst e2; subst e3; exact .inr ⟨_, _, cur, rfl, Nat.le_refl _, hr⟩
theorem OW.lenEq {w : World} {lo hi g n c : Nat} {xs : List Int} (h : OW w lo hi (.slice (some ⟨g, 0, none⟩) n c) xs) : n = xs.length := by
  rcases h.1.2 with ⟨h0, _⟩ | ⟨g', cap, cur, e, _⟩
  · cases h0
  · injection e with _ e2 _
theorem own6_of {w w' : World} {rs : List Int} {e : Ending} (h6 : rs.length = 6) (h : FreshI w rs e w') : Own6 w rs e w' := by
  obtain ⟨A, c, he, ho, hb⟩ := h
  rcases ho.1.2 with ⟨_, h0⟩ | ⟨g, cap, cur, hv, hg, _⟩
  · omega
  · injection hv with h1 h2 h3; subst h1; subst h3
    rw [h6] at he ho
    exact ⟨g, c, he, hg, ho.narrow, hb⟩
theorem OW.at6 {w : World} {lo hi g n c : Nat} {xs : List Int} (h : OW w lo hi (.slice (some ⟨g, 0, none⟩) n c) xs) (i : Nat) (hi' : i < xs.length) : w.cell? ⟨g, i, none⟩ = some (.int .i64 (xs.getD i 0)) := by
  have := h.1.cells (g := g) rfl i (.int .i64 (xs.getD i 0)) (by rw [List.getElem?_map, List.getElem?_eq_getElem hi', List.getD_eq_getElem?_getD, List.getElem?_eq_getElem hi']; rfl)
  rwa [addr_add] at this
theorem OW.frozen6 {w : World} {lo hi g n c : Nat} {xs : List Int} (h : OW w lo hi (.slice (some ⟨g, 0, none⟩) n c) xs) (i : Nat) : w.frozen? ⟨g, i, none⟩ = false := by
  have e := h.lenEq; subst e; exact h.1.frozenAt i
theorem OW.set6 {w : World} {lo hi g n c : Nat} {xs : List Int} (h : OW w lo hi (.slice (some ⟨g, 0, none⟩) n c) xs) (i : Nat) (y : Int) : OW (w.setCell ⟨g, i, none⟩ (.int .i64 y)) lo hi (.slice (some ⟨g, 0, none⟩) n c) (xs.set i y) := by
  have e := h.lenEq; subst e
  have h1 := (h.1.stored i (.int .i64 y)).1
  refine ⟨?_, h.2⟩
  rw [List.map_set, List.length_set]; exact h1
theorem Own6.six {w : World} {lo hi g n c : Nat} {xs : List Int} (h : OW w lo hi (.slice (some ⟨g, 0, none⟩) n c) xs) (h6 : xs.length = 6) : Six w g 0 xs := fun i hi => by rw [Nat.zero_add]; exact h.at6 i (by omega)

set_option maxHeartbeats 4000000 in
theorem cdStep_any (x : In) (b o c : Nat) (rs : List Int) (L B : Nat) (w : World) (hx : goodIn x = true) (h6 : words6 rs) (hI : IS w L B (some ⟨b, o, none⟩) rs) (hB : B ≤ w.heap.size) :
    Calls Try.prog 145 #[.agg #[.string x.op, .int .i64 x.d, .int .i64 x.a, .int .i64 x.b, .int .i64 x.m], .slice (some ⟨b, o, none⟩) 6 c] w (Own6 w (stepL x rs)) := by
  have hG := Lib.hid hx
  have hW := Lib.hid h6
  obtain ⟨hd, _⟩ := good_parts hx
  obtain ⟨op, d, a, b', m⟩ := x
  obtain ⟨nd, rfl⟩ := Int.eq_ofNat_of_zero_le hd.1
  have hb0 := Lib.hid ((Below.refl w.heap.size w).alloc (Nat.le_refl _) (.cells #[.string op, .int .i64 nd, .int .i64 a, .int .i64 b', .int .i64 m] 56))
  have hS : Hid (stepL ⟨op, nd, a, b', m⟩ rs = rs.set nd (vOf op m (rs.getD a.toNat 0) (rs.getD b'.toNat 0))) := rfl
  obtain ⟨y, hy⟩ : ∃ y, vOf op m (rs.getD a.toNat 0) (rs.getD b'.toNat 0) = y := ⟨_, rfl⟩
  have hV := Lib.hid (fun w' (h1 : b < w'.heap.size) (h2 : Six w' b o rs) => (show Calls Try.prog 237 #[.agg #[.string op, .int .i64 nd, .int .i64 a, .int .i64 b', .int .i64 m], .slice (some ⟨b, o, none⟩) 6 c] w' (fun e w'' => e = .returned (.int .i64 y) ∧ Below w'.heap.size w' w'') from by have := cdValue_any ⟨op, nd, a, b', m⟩ b o c rs w' hG.out hW.out h1 h2; simp only at this; rw [hy] at this; exact this))
  rw [hy] at hS
  clear hy
  have hE := Lib.hid hI
  obtain ⟨b1, o1, e1, hbb, hsix⟩ := hI.six h6.1
  injection e1 with e1; injection e1 with e1 e2 _; subst e1; subst e2
  have hSix := Lib.hid hsix
  have hL := Lib.hid (fun w' (hx : IS w' L B (some ⟨b, o, none⟩) rs) (hB : B ≤ w'.heap.size) => (l1Own_any L B (some ⟨b, o, none⟩) c rs w' (by rw [h6.1]; omega) hx hB).mono fun _ _ => own6_of h6.1)
  have hlen := Lib.hid h6.1
  rw [show rs.length = 6 from h6.1] at hL
  have hd' : nd < 6 := by simp only at hd; omega
  clear hI hx h6 hsix hd
  go_enter Try.func145, Try.ntmps145
  go_wp2_with (fail)
  refine (hL.out _ (hE.out.below hb0.out hB) (by simp; omega)).mono ?_
  rintro e w1 ⟨g, c1, rfl, hg, ho, hb⟩
  have hO := Lib.hid ho
  have hB1 := Lib.hid (hb0.out.trans (hb.mono (by simp)))
  obtain ⟨xa, xb, xc, xd, xe⟩ := In.old (x := ⟨op, nd, a, b', m⟩) rfl hb
  have hz : w.heap.size < w1.heap.size := by have := hb.size; simp at this; omega
  have hgz : g < w1.heap.size := (ho.1.lt g rfl).2
  simp at hg
  have i0 : (0 : Int) ≤ (nd : Int) := by omega
  have i1 : (nd : Int) < 6 := by omega
  have hS1 := Lib.hid (hSix.out.below hB1.out (by omega))
  have hb1 := Lib.hid (show b < w1.heap.size by omega)
  have hlO := Lib.hid ho.lenEq
  clear ho hb
  go_wp2_with (fail)
  go_region_with (go_at_call 237; refine (hV.out _ (by exact hb1.out) (by exact Six.heap rfl hS1.out)).mono ?_; rintro e w2 ⟨rfl, hb2⟩; have hb3 := Lib.hid ((Below.refl w1.heap.size w1).drew.trans hb2); have hO2 := Lib.hid (hO.out.below hb3.out hgz); have c1 := hO2.out.at6 nd (by rw [hlen.out]; omega); have f1 := hO2.out.frozen6 nd; have xb2 := (hb3.out.cell (p := ⟨w.heap.size, 1, none⟩) hz).trans xb)
  all_goals
    have hfin := Lib.hid (hO2.out.set6 nd y)
    have hbel := Lib.hid ((hB1.out.trans (hb3.out.mono (by omega))).setCell (p := ⟨g, nd, none⟩) (show w.heap.size ≤ g by omega) (.int .i64 y))
    go_wp2
    go_ret
    exact ⟨g, _, rfl, by omega, by rw [hS.out]; exact hfin.out, hbel.out⟩
end Go.Proofs.Ytmhdijklindipaa

/- What the library's sort and compact leave, as own slices. No walk. -/
namespace Go.Proofs.Ytmhdijklindipaa
open Go.RowKit Go.Sort
set_option linter.unusedVariables false

theorem heap_put (w : World) (g m : Nat) (d : Array Int) (os : Array Obj) (cur : Array Value) (t : TypeId) (h : w.heap[g]? = some (.cells cur t (0, 0))) :
    (grow (putRow (Value.int .i64) (Sort.ahead w m) g 0 d) os).heap[g]? = some (.cells (putCells (Value.int .i64) 0 d cur) t (0, 0)) := by
  have hg : g < w.heap.size := (Array.getElem?_eq_some_iff.1 h).1
  unfold grow putRow mapBlock Sort.ahead
  simp only [Array.getElem?_append, Array.size_modify, hg, if_true, Array.getElem?_modify, h, Option.map_some]
  rfl
theorem chg_put (w : World) (g m : Nat) (d : Array Int) (os : Array Obj) : Chg g (g + 1) w (grow (putRow (Value.int .i64) (Sort.ahead w m) g 0 d) os) := by
  refine ⟨rfl, rfl, rfl, by simp [grow, putRow, mapBlock, Sort.ahead], fun k hk hn => ?_⟩
  unfold grow putRow mapBlock Sort.ahead
  have hne : g ≠ k := by omega
  simp only [Array.getElem?_append, Array.size_modify, hk, if_true, Array.getElem?_modify, hne, if_false]
theorem putCells_take (d : List Int) (cur : Array Value) (h : d.length ≤ cur.size) : (putCells (Value.int .i64) 0 d.toArray cur).toList.take d.length = d.map (Value.int .i64) := by
  apply List.ext_getElem?
  intro i
  by_cases hi : i < d.length
  · rw [List.getElem?_take, if_pos hi, Array.getElem?_toList, putCells, Array.getElem?_mapIdx, Array.getElem?_eq_getElem (by omega), List.getElem?_map, List.getElem?_eq_getElem hi]
    simp [hi]
  · rw [List.getElem?_eq_none (by rw [List.length_take]; omega), List.getElem?_eq_none (by simp; omega)]
theorem putCells_size (d : Array Int) (cur : Array Value) : (putCells (Value.int .i64) 0 d cur).size = cur.size := by simp [putCells]
theorem OW.put {w : World} {lo hi g n c : Nat} {xs d : List Int} (h : OW w lo hi (.slice (some ⟨g, 0, none⟩) n c) xs) (hd : d.length = xs.length) (m : Nat) (os : Array Obj) :
    OW (grow (putRow (Value.int .i64) (Sort.ahead w m) g 0 d.toArray) os) lo hi (.slice (some ⟨g, 0, none⟩) n c) d := by
  refine ⟨⟨by simp, ?_⟩, h.2⟩
  rcases h.1.2 with ⟨h0, _⟩ | ⟨g', cap, cur, e, hlo, hh, h1, h2, h3, h4⟩
  · cases h0
  · injection e with e1 e2 e3; injection e1 with e1; injection e1 with e1 _ _
    subst e1
    refine .inr ⟨g, cap, _, by rw [e2, e3, hd], hlo, heap_put w g m d.toArray os cur _ hh, by omega, h2, by rw [putCells_size]; exact h3, ?_⟩
    rw [Nat.mul_one]
    exact putCells_take d cur (by omega)
theorem OW.holds {w : World} {lo hi g n c : Nat} {xs : List Int} (h : OW w lo hi (.slice (some ⟨g, 0, none⟩) n c) xs) : Holds (Value.int .i64) w g 0 xs.toArray := by
  intro j hj
  have hj' : j < xs.length := by simpa using hj
  refine ⟨?_, by rw [Nat.zero_add]; exact h.frozen6 j⟩
  rw [Nat.zero_add, h.at6 j hj', List.getD_eq_getElem?_getD, List.getElem?_eq_getElem hj']
  simp [hj']
/-- A shorter own slice of the same block. -/
theorem OW.short {w : World} {lo hi g n c : Nat} {xs : List Int} (h : OW w lo hi (.slice (some ⟨g, 0, none⟩) n c) xs) (k : Nat) (hk : k ≤ xs.length) : OW w lo hi (.slice (some ⟨g, 0, none⟩) k c) (xs.take k) := by
  have hl : (xs.take k).length = k := by rw [List.length_take]; omega
  refine ⟨⟨by simp, ?_⟩, fun j hj => h.2 j (by cases hj; rfl)⟩
  rcases h.1.2 with ⟨h0, _⟩ | ⟨g', cap, cur, e, hlo, hh, h1, h2, h3, h4⟩
  · cases h0
  · injection e with e1 e2 e3; injection e1 with e1; injection e1 with e1 _ _
    subst e1
    refine .inr ⟨g, cap, cur, by rw [hl, e3], hlo, hh, by omega, h2, h3, ?_⟩
    rw [hl, Nat.mul_one, List.map_take, ← h4, Nat.mul_one, List.take_take, Nat.min_eq_left hk]
/-- The registers that an op reads, in order. -/
def reads2 (fa fb : Bool) (a b : Int) : List Int := (if fa = true then [a] else []) ++ (if fb = true then [b] else [])
def readsL (x : In) : List Int := Lib.compact ((reads2 (fm x.op).a (fm x.op).b x.a x.b).mergeSort fun x y => decide (x ≤ y))
theorem compact0 : Lib.compact ([] : List Int) = [] := by decide
theorem compact1 (a : Int) : Lib.compact [a] = [a] := by simp [Lib.compact, Lib.compactUpTo, Lib.keeps, List.range, List.range.loop]
theorem compact2 (a b : Int) : Lib.compact [a, b] = if a = b then [a] else [a, b] := by
  by_cases h : a = b
  · subst h; simp [Lib.compact, Lib.compactUpTo, Lib.keeps, List.range, List.range.loop]
  · have h' : ¬ b = a := fun e => h e.symm
    simp [Lib.compact, Lib.compactUpTo, Lib.keeps, List.range, List.range.loop, h, h']
theorem sort0 : ([] : List Int).mergeSort (fun x y => decide (x ≤ y)) = [] := by simp
theorem sort1 (a : Int) : [a].mergeSort (fun x y => decide (x ≤ y)) = [a] := by simp
theorem sort2 (a b : Int) : [a, b].mergeSort (fun x y => decide (x ≤ y)) = if a ≤ b then [a, b] else [b, a] := by
  simp [List.mergeSort, List.MergeSort.Internal.splitInTwo, List.merge]
end Go.Proofs.Ytmhdijklindipaa

/- A number put into an increasing list. No program. -/
namespace Go.Proofs.Ytmhdijklindipaa
open Go.RowKit
set_option linter.unusedVariables false
def put (l : List Int) (n : Int) : List Int :=
  if (l.dropWhile fun x => decide (x < n)).head? = some n then l else (l.takeWhile fun x => decide (x < n)) ++ n :: l.dropWhile fun x => decide (x < n)
theorem while_of (n : Int) : ∀ (xs : List Int) (k : Nat), k ≤ xs.length → (∀ x ∈ xs.take k, x < n) → (∀ (h : k < xs.length), ¬ xs[k] < n) →
    xs.takeWhile (fun x => decide (x < n)) = xs.take k ∧ xs.dropWhile (fun x => decide (x < n)) = xs.drop k := by
  intro xs
  induction xs with
  | nil => intro k _ _ _; simp
  | cons a l ih =>
    intro k hk ha he
    cases k with
    | zero =>
      have := he (by simp)
      simp only [List.getElem_cons_zero] at this
      simp [this]
    | succ k =>
      have h1 : a < n := ha a (by simp)
      have h2 := ih k (by simpa using hk) (fun x hx => ha x (by simp [hx])) (fun h => by have := he (by simpa using h); simpa using this)
      simp [h1, h2]
theorem put_at {n : Int} {xs : List Int} {k : Nat} (hk : k ≤ xs.length) (ha : ∀ x ∈ xs.take k, x < n) (he : ∀ (h : k < xs.length), ¬ xs[k] < n) :
    put xs n = if (xs.drop k).head? = some n then xs else xs.take k ++ n :: xs.drop k := by
  obtain ⟨h1, h2⟩ := while_of n xs k hk ha he
  unfold put; rw [h1, h2]
theorem put_nil (n : Int) : put [] n = [n] := by simp [put]
theorem put_len (l : List Int) (n : Int) : (put l n).length ≤ l.length + 1 := by
  unfold put; split
  · omega
  · have := congrArg List.length (List.takeWhile_append_dropWhile (p := fun x => decide (x < n)) (l := l))
    simp only [List.length_append, List.length_cons] at this ⊢; omega
end Go.Proofs.Ytmhdijklindipaa

namespace Go.Proofs.Ytmhdijklindipaa
open Go.RowKit
set_option linter.unusedVariables false
set_option maxRecDepth 100000

/-- A slice of ints that the call owns, the rest as it was. -/
def OwnI (lo : Nat) (w : World) (xs : List Int) (e : Ending) (w' : World) : Prop :=
  ∃ A c, e = .returned (.slice A xs.length c) ∧ OW w' lo w'.heap.size (.slice A xs.length c) xs ∧ Below w.heap.size w w'
theorem allLt_snoc {xs : List Int} {n : Int} {k : Nat} (h : k < xs.length) (ha : ∀ x ∈ xs.take k, x < n) (hx : xs[k] < n) : ∀ x ∈ xs.take (k + 1), x < n := by
  intro x hm
  rw [List.take_succ_eq_append_getElem h, List.mem_append] at hm
  rcases hm with hm | hm
  · exact ha x hm
  · simp at hm; subst hm; exact hx
theorem OW.dropNews {w : World} {lo hi g n c : Nat} {xs : List Int} (h : OW w lo hi (.slice (some ⟨g, 0, none⟩) n c) xs) (k : Nat) : ∀ j u, ((xs.drop k).map (Value.int .i64))[j]? = some u → w.cell? ((⟨g, k, none⟩ : Addr).add j) = some u := by
  intro j u hu
  rw [List.getElem?_map, List.getElem?_drop] at hu
  cases hx : xs[k + j]? with
  | none => rw [hx] at hu; cases hu
  | some x =>
    rw [hx] at hu
    obtain ⟨hj, rfl⟩ := List.getElem?_eq_some_iff.1 hx
    simp only [Option.map_some, Option.some.injEq] at hu
    have := h.at6 (k + j) hj
    rw [List.getD_eq_getElem?_getD, hx] at this
    simp only [Option.getD_some] at this
    rw [hu] at this
    unfold Addr.add; split
    · rename_i h0; subst h0; simpa using this
    · exact this
set_option maxHeartbeats 4000000 in
theorem l1Put_some (lo hi g c : Nat) (xs : List Int) (n : Int) (w : World) (hl : xs.length ≤ 1000000) (hx : OW w lo hi (.slice (some ⟨g, 0, none⟩) xs.length c) xs) (hlo : lo ≤ w.heap.size) (hhi : hi ≤ w.heap.size) :
    Calls Try.prog 217 #[.slice (some ⟨g, 0, none⟩) xs.length c, .int .i64 n] w (OwnI lo w (put xs n)) := by
  obtain ⟨i0, hi', hz0, hz1, hz2⟩ := info_parts Try.infoInt
  have hO := Lib.hid hx
  have hgl : g < w.heap.size := (hx.1.lt g rfl).2
  have hcap : xs.length ≤ c ∧ c ≤ maxLen := by
    rcases hx.1.2 with ⟨h0, _⟩ | ⟨g', cap, cur, e, _, _, h1, h2, _⟩
    · cases h0
    · injection e with _ _ e3; omega
  obtain ⟨hc1, hc2⟩ := hcap
  unfold maxLen at hc2
  have hb0 := Lib.hid ((Below.refl w.heap.size w).alloc (Nat.le_refl _) (.cells #[] 3))
  have hown0 := Lib.hid (World.ownsRow_made (base := w.heap.size) (e := 3) (size := 1) w #[] 0 (Nat.le_refl _) (by unfold maxLen; omega) (by simp))
  clear hx
  go_enter Try.func217, Try.ntmps217
  go_wp2
  go_loop [5] (fun i => ∃ k : Nat, k ≤ xs.length ∧ i = .int .i64 k ∧ ∀ x ∈ xs.take k, x < n) (fun i => xs.length - (intOf i).toNat)
  case atStart => exact ⟨0, Nat.zero_le _, rfl, by simp⟩
  case round =>
    obtain ⟨k, hk, rfl, ha⟩ := hrel
    have hA := Lib.hid ha
    clear ha
    have hnews1 : Hid (0 < k → ∃ a, some (⟨g, 0, none⟩ : Addr) = some a ∧ ∀ j u, ((xs.take k).map (Value.int .i64))[j]? = some u → (w.alloc (.cells #[] 3)).cell? (a.add j) = some u) := fun h0 => ((hO.out.short k hk).below hb0.out hhi).rs.news (by rw [List.length_take]; omega)
    by_cases hlt : k < xs.length
    · have hkc : (k : Int) < (c : Int) := by omega
      have hcell := hO.out.at6 k hlt
      have hgd : xs.getD k 0 = xs[k] := by rw [List.getD_eq_getElem?_getD, List.getElem?_eq_getElem hlt]; rfl
      rw [hgd] at hcell
      have hSn := Lib.hid (fun (hx : xs[k] < n) => allLt_snoc hlt hA.out hx)
      have hP := Lib.hid (fun (he : ¬ xs[k] < n) => put_at (n := n) hk hA.out (fun _ => he))
      have hD : Hid (xs.drop k = xs[k] :: xs.drop (k + 1)) := List.drop_eq_getElem_cons hlt
      clear hgd
      generalize xs[k] = y at *
      by_cases hy : y < n
      · go_wp2
        go_round
        case rel => exact ⟨k + 1, by omega, by go_num, hSn.out hy⟩
        case measure => simp [intOf]; omega
      · have hy' : n ≤ y := by omega
        by_cases hyn : y = n
        · have hR : Hid (put xs n = xs) := by rw [Hid, hP.out hy, hD.out]; simp [hyn]
          clear hy
          go_wp2
          go_ret
          rw [hR.out]
          exact ⟨_, _, rfl, ⟨hO.out.1, fun j hj => (hO.out.1.lt j hj).2⟩, Below.refl _ _⟩
        · have hR : Hid (put xs n = xs.take k ++ n :: xs.drop k) := by rw [Hid, hP.out hy, hD.out]; simp [hyn]
          have hyn' : (y == n) = false := by simp [hyn]
          clear hy
          go_wp2_with (first
            | (at_builtin; refine wpList_append_src rfl (.tmp 34) (.tmp 37) 27 rfl w.heap.size 3 i0 (.int .i64 0) 1 8 Try.underlying27 hi' hz0 hz1 hz2 rfl (by decide) _ 0 [] rfl hown0.out (some ⟨g, 0, none⟩) k c ((xs.take k).map (Value.int .i64)) rfl (by simp; omega) hnews1.out (oneI _) (by unfold maxLen; omega) (by omega) (by simp) ?_; intro v1 w1 hown1 hgr1 _; simp only [Nat.zero_add, List.nil_append] at hown1; have hb1 := Lib.hid (hb0.out.grown hgr1 (by simp) (fun j hj => by cases hj; exact Nat.le_refl _)); have hz1' := hb1.out.size)
            | (at_builtin; refine wpList_append_own _ rfl (.tmp 39) (.tmp 41) 27 rfl w.heap.size 3 i0 (.int .i64 0) 1 8 Try.underlying27 hi' hz0 hz1 hz2 rfl (by decide) v1 k _ rfl (hown1.alloc _) ⟨w1.heap.size, 0, none⟩ 1 1 [.int .i64 n] rfl rfl (new1 rfl) (one1 _) (by unfold maxLen; omega) (by omega) (by simp; omega) ?_; intro v2 w2 hown2 hgr2 _; have hb2 := Lib.hid ((hb1.out.alloc hz1' _).grown hgr2 (by simp; omega) (fun j hj => (hown1.lt j hj).1)); have hz2' := hb2.out.size; have hO2 := hO.out.below hb2.out (by omega))
            | (at_builtin; refine wpList_append_src rfl (.tmp 43) (.tmp 46) 27 rfl w.heap.size 3 i0 (.int .i64 0) 1 8 Try.underlying27 hi' hz0 hz1 hz2 rfl (by decide) v2 (k + 1) _ rfl hown2 _ (xs.length - k) _ ((xs.drop k).map (Value.int .i64)) rfl (by simp) (fun _ => ⟨_, rfl, hO2.dropNews k⟩) (oneI _) (by unfold maxLen; omega) (by omega) (by omega) ?_; intro v3 w3 hown3 hgr3 _; have hb3 := Lib.hid (hb2.out.grown hgr3 hz2' (fun j hj => (hown2.lt j hj).1))))
          simp only [List.append_assoc, List.singleton_append] at hown3
          have hrow : Hid (OW w3 w.heap.size w3.heap.size v3 (put xs n)) := by
            rw [hR.out]; exact OW.ofRow (n := k + 1 + (xs.length - k)) (by rw [List.map_append, List.map_cons]; exact hown3) (by simp; omega)
          obtain ⟨A', c', rfl, _⟩ := hrow.out.form
          clear hown3 hgr3 hown2 hgr2 hown1 hgr1
          go_wp2
          go_ret
          exact ⟨_, _, rfl, hrow.out.lower hlo, hb3.out⟩
    · have hke : k = xs.length := by omega
      have hR : Hid (put xs n = xs.take k ++ n :: xs.drop k) := by
        rw [Hid, put_at (n := n) hk hA.out (fun h => absurd h hlt)]; simp [hke]
      have hlt' : ¬ (k : Int) < (xs.length : Int) := by omega
      have hge : (xs.length : Int) ≤ (k : Int) := by omega
      clear hlt hke
      by_cases hkc : k < c
      · have hkc' : (k : Int) < (c : Int) := by omega
        go_wp2_with (first
          | (at_builtin; refine wpList_append_src rfl (.tmp 34) (.tmp 37) 27 rfl w.heap.size 3 i0 (.int .i64 0) 1 8 Try.underlying27 hi' hz0 hz1 hz2 rfl (by decide) _ 0 [] rfl hown0.out (some ⟨g, 0, none⟩) k c ((xs.take k).map (Value.int .i64)) rfl (by simp; omega) hnews1.out (oneI _) (by unfold maxLen; omega) (by omega) (by simp) ?_; intro v1 w1 hown1 hgr1 _; simp only [Nat.zero_add, List.nil_append] at hown1; have hb1 := Lib.hid (hb0.out.grown hgr1 (by simp) (fun j hj => by cases hj; exact Nat.le_refl _)); have hz1' := hb1.out.size)
          | (at_builtin; refine wpList_append_own _ rfl (.tmp 39) (.tmp 41) 27 rfl w.heap.size 3 i0 (.int .i64 0) 1 8 Try.underlying27 hi' hz0 hz1 hz2 rfl (by decide) v1 k _ rfl (hown1.alloc _) ⟨w1.heap.size, 0, none⟩ 1 1 [.int .i64 n] rfl rfl (new1 rfl) (one1 _) (by unfold maxLen; omega) (by omega) (by simp; omega) ?_; intro v2 w2 hown2 hgr2 _; have hb2 := Lib.hid ((hb1.out.alloc hz1' _).grown hgr2 (by simp; omega) (fun j hj => (hown1.lt j hj).1)); have hz2' := hb2.out.size; have hO2 := hO.out.below hb2.out (by omega))
          | (at_builtin; refine wpList_append_src rfl (.tmp 43) (.tmp 46) 27 rfl w.heap.size 3 i0 (.int .i64 0) 1 8 Try.underlying27 hi' hz0 hz1 hz2 rfl (by decide) v2 (k + 1) _ rfl hown2 _ (xs.length - k) _ ((xs.drop k).map (Value.int .i64)) rfl (by simp) (fun h => absurd h (by omega)) (oneI _) (by unfold maxLen; omega) (by omega) (by omega) ?_; intro v3 w3 hown3 hgr3 _; have hb3 := Lib.hid (hb2.out.grown hgr3 hz2' (fun j hj => (hown2.lt j hj).1))))
        simp only [List.append_assoc, List.singleton_append] at hown3
        have hrow : Hid (OW w3 w.heap.size w3.heap.size v3 (put xs n)) := by
          rw [hR.out]; exact OW.ofRow (n := k + 1 + (xs.length - k)) (by rw [List.map_append, List.map_cons]; exact hown3) (by simp; omega)
        obtain ⟨A', c', rfl, _⟩ := hrow.out.form
        clear hown3 hgr3 hown2 hgr2 hown1 hgr1
        go_wp2
        go_ret
        exact ⟨_, _, rfl, hrow.out.lower hlo, hb3.out⟩
      · obtain rfl : k = c := by omega
        go_wp2_with (first
          | (at_builtin; refine wpList_append_src rfl (.tmp 34) (.tmp 37) 27 rfl w.heap.size 3 i0 (.int .i64 0) 1 8 Try.underlying27 hi' hz0 hz1 hz2 rfl (by decide) _ 0 [] rfl hown0.out (some ⟨g, 0, none⟩) k k ((xs.take k).map (Value.int .i64)) rfl (by simp; omega) hnews1.out (oneI _) (by unfold maxLen; omega) (by omega) (by simp) ?_; intro v1 w1 hown1 hgr1 _; simp only [Nat.zero_add, List.nil_append] at hown1; have hb1 := Lib.hid (hb0.out.grown hgr1 (by simp) (fun j hj => by cases hj; exact Nat.le_refl _)); have hz1' := hb1.out.size)
          | (at_builtin; refine wpList_append_own _ rfl (.tmp 39) (.tmp 41) 27 rfl w.heap.size 3 i0 (.int .i64 0) 1 8 Try.underlying27 hi' hz0 hz1 hz2 rfl (by decide) v1 k _ rfl (hown1.alloc _) ⟨w1.heap.size, 0, none⟩ 1 1 [.int .i64 n] rfl rfl (new1 rfl) (one1 _) (by unfold maxLen; omega) (by omega) (by simp; omega) ?_; intro v2 w2 hown2 hgr2 _; have hb2 := Lib.hid ((hb1.out.alloc hz1' _).grown hgr2 (by simp; omega) (fun j hj => (hown1.lt j hj).1)); have hz2' := hb2.out.size; have hO2 := hO.out.below hb2.out (by omega))
          | (at_builtin; refine wpList_append_src rfl (.tmp 43) (.tmp 46) 27 rfl w.heap.size 3 i0 (.int .i64 0) 1 8 Try.underlying27 hi' hz0 hz1 hz2 rfl (by decide) v2 (k + 1) _ rfl hown2 _ _ _ ((xs.drop k).map (Value.int .i64)) rfl (by first | (simp; done) | (simp; omega)) (fun h => absurd h (by omega)) (oneI _) (by unfold maxLen; omega) (by omega) (by omega) ?_; intro v3 w3 hown3 hgr3 _; have hb3 := Lib.hid (hb2.out.grown hgr3 hz2' (fun j hj => (hown2.lt j hj).1))))
        simp only [List.append_assoc, List.singleton_append] at hown3
        have hrow : Hid (OW w3 w.heap.size w3.heap.size v3 (put xs n)) := by
          rw [hR.out]; exact OW.ofRow (by rw [List.map_append, List.map_cons]; exact hown3) (by simp; omega)
        obtain ⟨A', c', rfl, _⟩ := hrow.out.form
        clear hown3 hgr3 hown2 hgr2 hown1 hgr1
        go_wp2
        go_ret
        exact ⟨_, _, rfl, hrow.out.lower hlo, hb3.out⟩


set_option maxHeartbeats 4000000 in
theorem l1Put_nil (lo : Nat) (n : Int) (w : World) (hlo : lo ≤ w.heap.size) :
    Calls Try.prog 217 #[.slice none 0 0, .int .i64 n] w (OwnI lo w (put [] n)) := by
  obtain ⟨i0, hi', hz0, hz1, hz2⟩ := info_parts Try.infoInt
  have hb0 := Lib.hid ((Below.refl w.heap.size w).alloc (Nat.le_refl _) (.cells #[] 3))
  have hown0 := Lib.hid (World.ownsRow_made (base := w.heap.size) (e := 3) (size := 1) w #[] 0 (Nat.le_refl _) (by unfold maxLen; omega) (by simp))
  have hR := Lib.hid (put_nil n)
  go_enter Try.func217, Try.ntmps217
  go_wp2
  go_loop [5] (fun i => i = .int .i64 0) (fun i => 0)
  case atStart => rfl
  case round =>
    subst hrel
    go_wp2_with (first
            | (at_builtin; refine wpList_append_src rfl (.tmp 34) (.tmp 37) 27 rfl w.heap.size 3 i0 (.int .i64 0) 1 8 Try.underlying27 hi' hz0 hz1 hz2 rfl (by decide) _ 0 [] rfl hown0.out none 0 _ [] rfl (by simp) (fun h => absurd h (by omega)) (by simp) (by unfold maxLen; omega) (by omega) (by simp) ?_; intro v1 w1 hown1 hgr1 _; simp only [Nat.zero_add, List.nil_append] at hown1; have hb1 := Lib.hid (hb0.out.grown hgr1 (by simp) (fun j hj => by cases hj; exact Nat.le_refl _)); have hz1' := hb1.out.size)
            | (at_builtin; refine wpList_append_own _ rfl (.tmp 39) (.tmp 41) 27 rfl w.heap.size 3 i0 (.int .i64 0) 1 8 Try.underlying27 hi' hz0 hz1 hz2 rfl (by decide) v1 0 _ rfl (hown1.alloc _) ⟨w1.heap.size, 0, none⟩ 1 1 [.int .i64 n] rfl rfl (new1 rfl) (one1 _) (by unfold maxLen; omega) (by omega) (by simp; omega) ?_; intro v2 w2 hown2 hgr2 _; have hb2 := Lib.hid ((hb1.out.alloc hz1' _).grown hgr2 (by simp; omega) (fun j hj => (hown1.lt j hj).1)); have hz2' := hb2.out.size)
            | (at_builtin; refine wpList_append_src rfl (.tmp 43) (.tmp 46) 27 rfl w.heap.size 3 i0 (.int .i64 0) 1 8 Try.underlying27 hi' hz0 hz1 hz2 rfl (by decide) v2 (0 + 1) _ rfl hown2 none 0 _ [] rfl (by simp) (fun h => absurd h (by omega)) (by simp) (by unfold maxLen; omega) (by omega) (by omega) ?_; intro v3 w3 hown3 hgr3 _; have hb3 := Lib.hid (hb2.out.grown hgr3 hz2' (fun j hj => (hown2.lt j hj).1))))
    have hrow : Hid (OW w3 w.heap.size w3.heap.size v3 (put [] n)) := by
      rw [hR.out]; exact OW.ofRow (by simpa using hown3) rfl
    obtain ⟨A', c', rfl, _⟩ := hrow.out.form
    clear hown3 hgr3 hown2 hgr2 hown1 hgr1
    go_wp2
    go_ret
    exact ⟨_, _, rfl, hrow.out.lower hlo, hb3.out⟩
theorem l1Put_any (lo hi : Nat) (A : Option Addr) (m c : Nat) (xs : List Int) (n : Int) (w : World) (hm : m = xs.length) (hl : xs.length ≤ 1000000) (hx : OW w lo hi (.slice A m c) xs) (hlo : lo ≤ w.heap.size) (hhi : hi ≤ w.heap.size) :
    Calls Try.prog 217 #[.slice A m c, .int .i64 n] w (OwnI lo w (put xs n)) := by
  subst hm
  rcases hx.1.2 with ⟨h0, h1⟩ | ⟨g, cap, cur, e, _⟩
  · injection h0 with e1 e2 e3
    obtain rfl : xs = [] := List.eq_nil_of_length_eq_zero h1
    subst e1; subst e3
    exact l1Put_nil lo n w hlo
  · injection e with e1 e2 e3
    subst e1; subst e3
    exact l1Put_some lo hi g c xs n w hl hx hlo hhi
end Go.Proofs.Ytmhdijklindipaa

namespace Go.Proofs.Ytmhdijklindipaa
open Go.RowKit
set_option linter.unusedVariables false

def ResReadsOf (R0 : List (Int)) (R1 : Bool) (w : World) (e : Ending) (w' : World) : Prop := ∃ (A0 : Option Addr) (c0 : Nat), e = .returned (.tuple #[.slice A0 R0.length c0, .bool R1]) ∧ OW w' w.heap.size w'.heap.size (.slice A0 R0.length c0) R0 ∧ Below w.heap.size w w'
def ResStepInstr (R0 : List (Int)) (R1 : Bool) (w : World) (e : Ending) (w' : World) : Prop := ∃ (A0 : Option Addr) (c0 : Nat), e = .returned (.tuple #[.slice A0 R0.length c0, .bool R1]) ∧ OW w' w.heap.size w'.heap.size (.slice A0 R0.length c0) R0 ∧ Below w.heap.size w w'
def ResRunCode (R0 : List (Int)) (R1 : Bool) (w : World) (e : Ending) (w' : World) : Prop := ∃ (A0 : Option Addr) (c0 : Nat), e = .returned (.tuple #[.slice A0 R0.length c0, .bool R1]) ∧ OW w' w.heap.size w'.heap.size (.slice A0 R0.length c0) R0 ∧ Below w.heap.size w w'
def ResResultOf (R0 : Int) (R1 : Bool) (w : World) (e : Ending) (w' : World) : Prop := e = .returned (.tuple #[.int .i64 R0, .bool R1]) ∧ Below w.heap.size w w'
end Go.Proofs.Ytmhdijklindipaa

namespace Go.Proofs
open Go.Shelf
def Try.lays125_ren : Go.Shelf.Ren := ⟨fun | 125 => 262 | 128 => 281 | 129 => 282 | n => n, fun | 46 => 221 | 3 => 3 | 51 => 238 | 53 => 99 | 4 => 4 | 5 => 5 | 9 => 9 | n => n, fun | n => n⟩
theorem Try.lays125 : Go.Proofs.Lays.n125 Try.prog Try.lays125_ren := {
  mixed := by kernel_rfl
  f125 := Try.func262.trans (congrArg some (by kernel_rfl))
  f128 := Try.func281.trans (congrArg some (by kernel_rfl))
  f129 := Try.func282.trans (congrArg some (by kernel_rfl))
  t3 := Try.underlying3
  a3 := Try.isAgg3
  z3 := Try.sizeOf3
  v3 := Try.zeroValue3
  t4 := Try.underlying4
  a4 := Try.isAgg4
  z4 := Try.sizeOf4
  v4 := Try.zeroValue4
  t5 := Try.underlying5
  a5 := Try.isAgg5
  z5 := Try.sizeOf5
  v5 := Try.zeroValue5
  t9 := Try.underlying9
  a9 := Try.isAgg9
  z9 := Try.sizeOf9
  v9 := Try.zeroValue9
  t46 := Try.underlying221
  a46 := Try.isAgg221
  z46 := Try.sizeOf221
  v46 := Try.zeroValue221
  t51 := Try.underlying238
  a51 := Try.isAgg238
  z51 := Try.sizeOf238
  v51 := Try.zeroValue238
  t53 := Try.underlying99
  a53 := Try.isAgg99
  z53 := Try.sizeOf99
  v53 := Try.zeroValue99 }
/-- bits.Len: "Len returns the minimum number of bits required to represent x; the result is 0 for x == 0.": IT RETURNS 'Lib.bitLen x'; the world is as it was. (A uint has 64 bits in the model.) ITS CALLEE bits.Len64 IS MET BY ITS OWN CONTRACT OFF THE SHELF (lay that first). (LAID: no walk: one application.) -/
theorem Try.bits_Len (x : Int) (w : World) (h0 : 0 ≤ x) (h1 : x ≤ 18446744073709551615) :
    Calls Try.prog 262 #[.int .u64 x] w fun e w' => e = .returned (.int .i64 (Lib.bitLen x.toNat)) ∧ w' = w := Any.bits_Len Try.lays125 x w h0 h1
def Try.lays189_ren : Go.Shelf.Ren := ⟨fun | 189 => 241 | 125 => 262 | 257 => 261 | 128 => 281 | 129 => 282 | 294 => 272 | 295 => 273 | 296 => 274 | 297 => 275 | 298 => 276 | 299 => 277 | 216 => 278 | 300 => 279 | 301 => 280 | 328 => 285 | 329 => 286 | 330 => 287 | 331 => 288 | 332 => 289 | 215 => 290 | 343 => 291 | n => n, fun | 28 => 27 | 3 => 3 | 46 => 221 | 0 => 0 | 51 => 238 | 53 => 99 | 4 => 4 | 183 => 233 | 182 => 232 | 131 => 30 | 5 => 5 | 9 => 9 | 218 => 242 | 222 => 246 | 228 => 248 | 229 => 152 | n => n, fun | n => n⟩
theorem Try.lays189 : Go.Proofs.Lays.n189 Try.prog Try.lays189_ren := {
  mixed := by kernel_rfl
  f125 := Try.func262.trans (congrArg some (by kernel_rfl))
  f128 := Try.func281.trans (congrArg some (by kernel_rfl))
  f129 := Try.func282.trans (congrArg some (by kernel_rfl))
  f189 := Try.func241.trans (congrArg some (by kernel_rfl))
  f215 := Try.func290.trans (congrArg some (by kernel_rfl))
  f216 := Try.func278.trans (congrArg some (by kernel_rfl))
  f257 := Try.func261.trans (congrArg some (by kernel_rfl))
  f294 := Try.func272.trans (congrArg some (by kernel_rfl))
  f295 := Try.func273.trans (congrArg some (by kernel_rfl))
  f296 := Try.func274.trans (congrArg some (by kernel_rfl))
  f297 := Try.func275.trans (congrArg some (by kernel_rfl))
  f298 := Try.func276.trans (congrArg some (by kernel_rfl))
  f299 := Try.func277.trans (congrArg some (by kernel_rfl))
  f300 := Try.func279.trans (congrArg some (by kernel_rfl))
  f301 := Try.func280.trans (congrArg some (by kernel_rfl))
  f328 := Try.func285.trans (congrArg some (by kernel_rfl))
  f329 := Try.func286.trans (congrArg some (by kernel_rfl))
  f330 := Try.func287.trans (congrArg some (by kernel_rfl))
  f331 := Try.func288.trans (congrArg some (by kernel_rfl))
  f332 := Try.func289.trans (congrArg some (by kernel_rfl))
  f343 := Try.func291.trans (congrArg some (by kernel_rfl))
  t0 := Try.underlying0
  a0 := Try.isAgg0
  z0 := Try.sizeOf0
  v0 := Try.zeroValue0
  t3 := Try.underlying3
  a3 := Try.isAgg3
  z3 := Try.sizeOf3
  v3 := Try.zeroValue3
  t4 := Try.underlying4
  a4 := Try.isAgg4
  z4 := Try.sizeOf4
  v4 := Try.zeroValue4
  t5 := Try.underlying5
  a5 := Try.isAgg5
  z5 := Try.sizeOf5
  v5 := Try.zeroValue5
  t9 := Try.underlying9
  a9 := Try.isAgg9
  z9 := Try.sizeOf9
  v9 := Try.zeroValue9
  t28 := Try.underlying27
  a28 := Try.isAgg27
  z28 := Try.sizeOf27
  v28 := Try.zeroValue27
  t46 := Try.underlying221
  a46 := Try.isAgg221
  z46 := Try.sizeOf221
  v46 := Try.zeroValue221
  t51 := Try.underlying238
  a51 := Try.isAgg238
  z51 := Try.sizeOf238
  v51 := Try.zeroValue238
  t53 := Try.underlying99
  a53 := Try.isAgg99
  z53 := Try.sizeOf99
  v53 := Try.zeroValue99
  t131 := Try.underlying30
  a131 := Try.isAgg30
  z131 := Try.sizeOf30
  v131 := Try.zeroValue30
  t182 := Try.underlying232
  a182 := Try.isAgg232
  z182 := Try.sizeOf232
  v182 := Try.zeroValue232
  t183 := Try.underlying233
  a183 := Try.isAgg233
  z183 := Try.sizeOf233
  v183 := Try.zeroValue233
  t218 := Try.underlying242
  a218 := Try.isAgg242
  z218 := Try.sizeOf242
  v218 := Try.zeroValue242
  t222 := Try.underlying246
  a222 := Try.isAgg246
  z222 := Try.sizeOf246
  v222 := Try.zeroValue246
  t228 := Try.underlying248
  a228 := Try.isAgg248
  z228 := Try.sizeOf248
  v228 := Try.zeroValue248
  t229 := Try.underlying152
  a229 := Try.isAgg152
  z229 := Try.sizeOf152
  v229 := Try.zeroValue152 }
open Go.Sort Go.RowKit in
theorem Try.slices_Sort_int (blk off cap : Nat) (zs : List Int) (w : World) (hH : Holds (Value.int .i64) w blk off zs.toArray) (hblk : blk < w.heap.size) (hsz : zs.length < 4611686018427387904) :
    Calls Try.prog 241 #[.slice (some ⟨blk, off, none⟩) zs.length cap] w fun e w' =>
      e = .returned (.tuple #[]) ∧ ∃ n os, w' = grow (putRow (Value.int .i64) (Sort.ahead w n) blk off (zs.mergeSort fun x y => decide (x ≤ y)).toArray) os := Any.slices_Sort_int Try.lays189 blk off cap zs w hH hblk hsz
def Try.laysNm220_ren : Go.Shelf.Ren := ⟨fun | 20 => 242 | n => n, fun | 22 => 27 | 3 => 3 | 4 => 4 | 0 => 0 | n => n, fun | n => n⟩
theorem Try.laysNm220 : Go.Proofs.Lays2.n20 Try.prog Try.laysNm220_ren := {
  mixed := by kernel_rfl
  f20 := Try.func242.trans (congrArg some (by kernel_rfl))
  t0 := Try.underlying0
  a0 := Try.isAgg0
  z0 := Try.sizeOf0
  v0 := Try.zeroValue0
  t3 := Try.underlying3
  a3 := Try.isAgg3
  z3 := Try.sizeOf3
  v3 := Try.zeroValue3
  t4 := Try.underlying4
  a4 := Try.isAgg4
  z4 := Try.sizeOf4
  v4 := Try.zeroValue4
  t22 := Try.underlying27
  a22 := Try.isAgg27
  z22 := Try.sizeOf27
  v22 := Try.zeroValue27
  i3 := by kernel_rfl }
open Go.RowKit Go.Lib Go.Sort in
/-- slices.Compact at []int: "Compact replaces consecutive runs of equal elements with a single copy. This is like the uniq command found on Unix. Compact modifies the contents of the slice s and returns the modified slice, which may have a smaller length. Compact zeroes the elements between the new length and the original length. The result preserves the nilness of s.": IT RETURNS THE SLICE CUT TO 'Lib.compact zs'; ITS CELLS HOLD 'Lib.compact zs', THEN ZERO VALUES up to the old length; all else is as it was, but for the count of draws. IN THE WORDS OF slices.Sort's CONTRACT ('Holds', 'putRow'): so the everyday 'slices.Sort(xs); xs = slices.Compact(xs)' goes from the one contract to the other. It asks 'zs.length ≤ cap' (every slice's: the reslicing 's[:k]' looks at it). Length 0, nil: '.._empty'. (LAID: no walk: one application.) -/
theorem Try.slices_Compact_int (blk off cap : Nat) (zs : List Int) (w : World) (hH : Holds (Value.int .i64) w blk off zs.toArray) (hsz : zs.length ≤ 9223372036854775807) (hcap : zs.length ≤ cap) :
    Calls Try.prog 242 #[.slice (some ⟨blk, off, none⟩) zs.length cap] w fun e w' => e = .returned (.slice (some ⟨blk, off, none⟩) (Lib.compact zs).length cap) ∧ ∃ q, w' = putRow (Value.int .i64) (Sort.ahead w q) blk off (Lib.compact zs ++ List.replicate (zs.length - (Lib.compact zs).length) 0).toArray := Any.slices_Compact_int Try.laysNm220 blk off cap zs w hH hsz hcap
open Go.RowKit Go.Lib Go.Sort in
/-- The same at a slice of length 0, a nil one too: it comes back as it is. (LAID: no walk: one application.) -/
theorem Try.slices_Compact_int_empty (a : Option Addr) (cap : Nat) (w : World) :
    Calls Try.prog 242 #[.slice a 0 cap] w fun e w' => e = .returned (.slice a 0 cap) ∧ w' = w := Any.slices_Compact_int_empty Try.laysNm220 a cap w
end Go.Proofs
