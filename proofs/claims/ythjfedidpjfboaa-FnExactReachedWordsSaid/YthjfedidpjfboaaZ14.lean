/- Texts of this proof, one behind the other: SR, MP, CT, SH, CU, CW. -/
import Derived.Test.YthjfedidpjfboaaCN
import Derived.Sort.Grow
import Derived.Lib.SlicesCompact
import Derived.Test.YthjfedidpjfboaaV2
import Derived.WalkKit
import Derived.WalkSpells
import Derived.WalkLawsBesides
import Derived.Lib.Hide
import Derived.Shelf.Small.Bits
import Derived.Shelf.Strconv.Itoa0
import Derived.Shelf.Sort.Plain
import Derived.Ground.Names2Prog
import Derived.Shelf.Slices.Clone
import Derived.Shelf.Slices.CompactI
import Derived.Shelf.Slices.SearchI
import Derived.Shelf.Slices.Cells
import Derived.Ground.SlgnProg
import Derived.Shelf.SlicesE.Clone
import Derived.Test.YthjfedidpjfboaaProg
import Derived.Ground.NamesProg
import Derived.Test.YthjfedidpjfboaaCF
import Derived.Test.YthjfedidpjfboaaLawB
/- What the library's sort and compact leave, as own slices. No walk. -/
namespace Go.Proofs.Ythjfedidpjfboaa
open Go.RowKit Go.Sort
set_option linter.unusedVariables false

theorem heap_put (w : World) (g m : Nat) (d : Array Int) (os : Array Obj) (cur : Array Value) (t : TypeId) (h : w.heap[g]? = some (.cells cur t (0, 0))) :
    (grow (putRow (Value.int .i64) (Sort.ahead w m) g 0 d) os).heap[g]? = some (.cells (putCells (Value.int .i64) 0 d cur) t (0, 0)) := by
  have hg : g < w.heap.size := (Array.getElem?_eq_some_iff.1 h).1
  unfold grow putRow mapBlock Sort.ahead
  simp only [Array.getElem?_append, Array.size_modify, hg, if_true, Array.getElem?_modify, h, Option.map_some]
  rfl
theorem chg_put (w : World) (g m : Nat) (d : Array Int) (os : Array Obj) : Chg g (g + 1) w (grow (putRow (Value.int .i64) (Sort.ahead w m) g 0 d) os) := by
  refine ⟨rfl, rfl, rfl, by simp [grow, putRow, mapBlock, Sort.ahead], fun k hk hn => ?_⟩
  unfold grow putRow mapBlock Sort.ahead
  have hne : g ≠ k := by omega
  simp only [Array.getElem?_append, Array.size_modify, hk, if_true, Array.getElem?_modify, hne, if_false]
theorem putCells_take (d : List Int) (cur : Array Value) (h : d.length ≤ cur.size) : (putCells (Value.int .i64) 0 d.toArray cur).toList.take d.length = d.map (Value.int .i64) := by
  apply List.ext_getElem?
  intro i
  by_cases hi : i < d.length
  · rw [List.getElem?_take, if_pos hi, Array.getElem?_toList, putCells, Array.getElem?_mapIdx, Array.getElem?_eq_getElem (by omega), List.getElem?_map, List.getElem?_eq_getElem hi]
    simp [hi]
  · rw [List.getElem?_eq_none (by rw [List.length_take]; omega), List.getElem?_eq_none (by simp; omega)]
theorem putCells_size (d : Array Int) (cur : Array Value) : (putCells (Value.int .i64) 0 d cur).size = cur.size := by simp [putCells]
theorem OW.put {w : World} {lo hi g n c : Nat} {xs d : List Int} (h : OW w lo hi (.slice (some ⟨g, 0, none⟩) n c) xs) (hd : d.length = xs.length) (m : Nat) (os : Array Obj) :
    OW (grow (putRow (Value.int .i64) (Sort.ahead w m) g 0 d.toArray) os) lo hi (.slice (some ⟨g, 0, none⟩) n c) d := by
  refine ⟨⟨by simp, ?_⟩, h.2⟩
  rcases h.1.2 with ⟨h0, _⟩ | ⟨g', cap, cur, e, hlo, hh, h1, h2, h3, h4⟩
  · cases h0
  · injection e with e1 e2 e3; injection e1 with e1; injection e1 with e1 _ _
    subst e1
    refine .inr ⟨g, cap, _, by rw [e2, e3, hd], hlo, heap_put w g m d.toArray os cur _ hh, by omega, h2, by rw [putCells_size]; exact h3, ?_⟩
    rw [Nat.mul_one]
    exact putCells_take d cur (by omega)
theorem OW.holds {w : World} {lo hi g n c : Nat} {xs : List Int} (h : OW w lo hi (.slice (some ⟨g, 0, none⟩) n c) xs) : Holds (Value.int .i64) w g 0 xs.toArray := by
  intro j hj
  have hj' : j < xs.length := by simpa using hj
  refine ⟨?_, by rw [Nat.zero_add]; exact h.frozen6 j⟩
  rw [Nat.zero_add, h.at6 j hj', List.getD_eq_getElem?_getD, List.getElem?_eq_getElem hj']
  simp [hj']
/-- A shorter own slice of the same block. -/
theorem OW.short {w : World} {lo hi g n c : Nat} {xs : List Int} (h : OW w lo hi (.slice (some ⟨g, 0, none⟩) n c) xs) (k : Nat) (hk : k ≤ xs.length) : OW w lo hi (.slice (some ⟨g, 0, none⟩) k c) (xs.take k) := by
  have hl : (xs.take k).length = k := by rw [List.length_take]; omega
  refine ⟨⟨by simp, ?_⟩, fun j hj => h.2 j (by cases hj; rfl)⟩
  rcases h.1.2 with ⟨h0, _⟩ | ⟨g', cap, cur, e, hlo, hh, h1, h2, h3, h4⟩
  · cases h0
  · injection e with e1 e2 e3; injection e1 with e1; injection e1 with e1 _ _
    subst e1
    refine .inr ⟨g, cap, cur, by rw [hl, e3], hlo, hh, by omega, h2, h3, ?_⟩
    rw [hl, Nat.mul_one, List.map_take, ← h4, Nat.mul_one, List.take_take, Nat.min_eq_left hk]
/-- The registers that an op reads, in order. -/
def reads2 (fa fb : Bool) (a b : Int) : List Int := (if fa = true then [a] else []) ++ (if fb = true then [b] else [])
def readsL (x : In) : List Int := Lib.compact ((reads2 (fm x.op).a (fm x.op).b x.a x.b).mergeSort fun x y => decide (x ≤ y))
theorem compact0 : Lib.compact ([] : List Int) = [] := by decide
theorem compact1 (a : Int) : Lib.compact [a] = [a] := by simp [Lib.compact, Lib.compactUpTo, Lib.keeps, List.range, List.range.loop]
theorem compact2 (a b : Int) : Lib.compact [a, b] = if a = b then [a] else [a, b] := by
  by_cases h : a = b
  · subst h; simp [Lib.compact, Lib.compactUpTo, Lib.keeps, List.range, List.range.loop]
  · have h' : ¬ b = a := fun e => h e.symm
    simp [Lib.compact, Lib.compactUpTo, Lib.keeps, List.range, List.range.loop, h, h']
theorem sort0 : ([] : List Int).mergeSort (fun x y => decide (x ≤ y)) = [] := by simp
theorem sort1 (a : Int) : [a].mergeSort (fun x y => decide (x ≤ y)) = [a] := by simp
theorem sort2 (a b : Int) : [a, b].mergeSort (fun x y => decide (x ≤ y)) = if a ≤ b then [a, b] else [b, a] := by
  simp [List.mergeSort, List.MergeSort.Internal.splitInTwo, List.merge]
end Go.Proofs.Ythjfedidpjfboaa

/- A number put into an increasing list. No program. -/
namespace Go.Proofs.Ythjfedidpjfboaa
open Go.RowKit
set_option linter.unusedVariables false
def put (l : List Int) (n : Int) : List Int :=
  if (l.dropWhile fun x => decide (x < n)).head? = some n then l else (l.takeWhile fun x => decide (x < n)) ++ n :: l.dropWhile fun x => decide (x < n)
theorem while_of (n : Int) : ∀ (xs : List Int) (k : Nat), k ≤ xs.length → (∀ x ∈ xs.take k, x < n) → (∀ (h : k < xs.length), ¬ xs[k] < n) →
    xs.takeWhile (fun x => decide (x < n)) = xs.take k ∧ xs.dropWhile (fun x => decide (x < n)) = xs.drop k := by
  intro xs
  induction xs with
  | nil => intro k _ _ _; simp
  | cons a l ih =>
    intro k hk ha he
    cases k with
    | zero =>
      have := he (by simp)
      simp only [List.getElem_cons_zero] at this
      simp [this]
    | succ k =>
      have h1 : a < n := ha a (by simp)
      have h2 := ih k (by simpa using hk) (fun x hx => ha x (by simp [hx])) (fun h => by have := he (by simpa using h); simpa using this)
      simp [h1, h2]
theorem put_at {n : Int} {xs : List Int} {k : Nat} (hk : k ≤ xs.length) (ha : ∀ x ∈ xs.take k, x < n) (he : ∀ (h : k < xs.length), ¬ xs[k] < n) :
    put xs n = if (xs.drop k).head? = some n then xs else xs.take k ++ n :: xs.drop k := by
  obtain ⟨h1, h2⟩ := while_of n xs k hk ha he
  unfold put; rw [h1, h2]
theorem put_nil (n : Int) : put [] n = [n] := by simp [put]
theorem put_len (l : List Int) (n : Int) : (put l n).length ≤ l.length + 1 := by
  unfold put; split
  · omega
  · have := congrArg List.length (List.takeWhile_append_dropWhile (p := fun x => decide (x < n)) (l := l))
    simp only [List.length_append, List.length_cons] at this ⊢; omega
end Go.Proofs.Ythjfedidpjfboaa

namespace Go.Proofs.Ythjfedidpjfboaa
open Go.RowKit
set_option linter.unusedVariables false
set_option maxRecDepth 100000

/-- A slice of ints that the call owns, the rest as it was. -/
def OwnI (lo : Nat) (w : World) (xs : List Int) (e : Ending) (w' : World) : Prop :=
  ∃ A c, e = .returned (.slice A xs.length c) ∧ OW w' lo w'.heap.size (.slice A xs.length c) xs ∧ Below w.heap.size w w'
theorem allLt_snoc {xs : List Int} {n : Int} {k : Nat} (h : k < xs.length) (ha : ∀ x ∈ xs.take k, x < n) (hx : xs[k] < n) : ∀ x ∈ xs.take (k + 1), x < n := by
  intro x hm
  rw [List.take_succ_eq_append_getElem h, List.mem_append] at hm
  rcases hm with hm | hm
  · exact ha x hm
  · simp at hm; subst hm; exact hx
theorem OW.dropNews {w : World} {lo hi g n c : Nat} {xs : List Int} (h : OW w lo hi (.slice (some ⟨g, 0, none⟩) n c) xs) (k : Nat) : ∀ j u, ((xs.drop k).map (Value.int .i64))[j]? = some u → w.cell? ((⟨g, k, none⟩ : Addr).add j) = some u := by
  intro j u hu
  rw [List.getElem?_map, List.getElem?_drop] at hu
  cases hx : xs[k + j]? with
  | none => rw [hx] at hu; cases hu
  | some x =>
    rw [hx] at hu
    obtain ⟨hj, rfl⟩ := List.getElem?_eq_some_iff.1 hx
    simp only [Option.map_some, Option.some.injEq] at hu
    have := h.at6 (k + j) hj
    rw [List.getD_eq_getElem?_getD, hx] at this
    simp only [Option.getD_some] at this
    rw [hu] at this
    unfold Addr.add; split
    · rename_i h0; subst h0; simpa using this
    · exact this
set_option maxHeartbeats 4000000 in
theorem l1Put_some (lo hi g c : Nat) (xs : List Int) (n : Int) (w : World) (hl : xs.length ≤ 1000000) (hx : OW w lo hi (.slice (some ⟨g, 0, none⟩) xs.length c) xs) (hlo : lo ≤ w.heap.size) (hhi : hi ≤ w.heap.size) :
    Calls Try.prog 151 #[.slice (some ⟨g, 0, none⟩) xs.length c, .int .i64 n] w (OwnI lo w (put xs n)) := by
  obtain ⟨i0, hi', hz0, hz1, hz2⟩ := info_parts Try.infoInt
  have hO := Lib.hid hx
  have hgl : g < w.heap.size := (hx.1.lt g rfl).2
  have hcap : xs.length ≤ c ∧ c ≤ maxLen := by
    rcases hx.1.2 with ⟨h0, _⟩ | ⟨g', cap, cur, e, _, _, h1, h2, _⟩
    · cases h0
    · injection e with _ _ e3; omega
  obtain ⟨hc1, hc2⟩ := hcap
  unfold maxLen at hc2
  have hb0 := Lib.hid ((Below.refl w.heap.size w).alloc (Nat.le_refl _) (.cells #[] 3))
  have hown0 := Lib.hid (World.ownsRow_made (base := w.heap.size) (e := 3) (size := 1) w #[] 0 (Nat.le_refl _) (by unfold maxLen; omega) (by simp))
  clear hx
  go_enter Try.func151, Try.ntmps151
  go_wp2
  go_loop [5] (fun i => ∃ k : Nat, k ≤ xs.length ∧ i = .int .i64 k ∧ ∀ x ∈ xs.take k, x < n) (fun i => xs.length - (intOf i).toNat)
  case atStart => exact ⟨0, Nat.zero_le _, rfl, by simp⟩
  case round =>
    obtain ⟨k, hk, rfl, ha⟩ := hrel
    have hA := Lib.hid ha
    clear ha
    have hnews1 : Hid (0 < k → ∃ a, some (⟨g, 0, none⟩ : Addr) = some a ∧ ∀ j u, ((xs.take k).map (Value.int .i64))[j]? = some u → (w.alloc (.cells #[] 3)).cell? (a.add j) = some u) := fun h0 => ((hO.out.short k hk).below hb0.out hhi).rs.news (by rw [List.length_take]; omega)
    by_cases hlt : k < xs.length
    · have hkc : (k : Int) < (c : Int) := by omega
      have hcell := hO.out.at6 k hlt
      have hgd : xs.getD k 0 = xs[k] := by rw [List.getD_eq_getElem?_getD, List.getElem?_eq_getElem hlt]; rfl
      rw [hgd] at hcell
      have hSn := Lib.hid (fun (hx : xs[k] < n) => allLt_snoc hlt hA.out hx)
      have hP := Lib.hid (fun (he : ¬ xs[k] < n) => put_at (n := n) hk hA.out (fun _ => he))
      have hD : Hid (xs.drop k = xs[k] :: xs.drop (k + 1)) := List.drop_eq_getElem_cons hlt
      clear hgd
      generalize xs[k] = y at *
      by_cases hy : y < n
      · go_wp2
        go_round
        case rel => exact ⟨k + 1, by omega, by go_num, hSn.out hy⟩
        case measure => simp [intOf]; omega
      · have hy' : n ≤ y := by omega
        by_cases hyn : y = n
        · have hR : Hid (put xs n = xs) := by rw [Hid, hP.out hy, hD.out]; simp [hyn]
          clear hy
          go_wp2
          go_ret
          rw [hR.out]
          exact ⟨_, _, rfl, ⟨hO.out.1, fun j hj => (hO.out.1.lt j hj).2⟩, Below.refl _ _⟩
        · have hR : Hid (put xs n = xs.take k ++ n :: xs.drop k) := by rw [Hid, hP.out hy, hD.out]; simp [hyn]
          have hyn' : (y == n) = false := by simp [hyn]
          clear hy
          go_wp2_with (first
            | (at_builtin; refine wpList_append_src rfl (.tmp 34) (.tmp 37) 32 rfl w.heap.size 3 i0 (.int .i64 0) 1 8 Try.underlying32 hi' hz0 hz1 hz2 rfl (by decide) _ 0 [] rfl hown0.out (some ⟨g, 0, none⟩) k c ((xs.take k).map (Value.int .i64)) rfl (by simp; omega) hnews1.out (oneI _) (by unfold maxLen; omega) (by omega) (by simp) ?_; intro v1 w1 hown1 hgr1 _; simp only [Nat.zero_add, List.nil_append] at hown1; have hb1 := Lib.hid (hb0.out.grown hgr1 (by simp) (fun j hj => by cases hj; exact Nat.le_refl _)); have hz1' := hb1.out.size)
            | (at_builtin; refine wpList_append_own _ rfl (.tmp 39) (.tmp 41) 32 rfl w.heap.size 3 i0 (.int .i64 0) 1 8 Try.underlying32 hi' hz0 hz1 hz2 rfl (by decide) v1 k _ rfl (hown1.alloc _) ⟨w1.heap.size, 0, none⟩ 1 1 [.int .i64 n] rfl rfl (new1 rfl) (one1 _) (by unfold maxLen; omega) (by omega) (by simp; omega) ?_; intro v2 w2 hown2 hgr2 _; have hb2 := Lib.hid ((hb1.out.alloc hz1' _).grown hgr2 (by simp; omega) (fun j hj => (hown1.lt j hj).1)); have hz2' := hb2.out.size; have hO2 := hO.out.below hb2.out (by omega))
            | (at_builtin; refine wpList_append_src rfl (.tmp 43) (.tmp 46) 32 rfl w.heap.size 3 i0 (.int .i64 0) 1 8 Try.underlying32 hi' hz0 hz1 hz2 rfl (by decide) v2 (k + 1) _ rfl hown2 _ (xs.length - k) _ ((xs.drop k).map (Value.int .i64)) rfl (by simp) (fun _ => ⟨_, rfl, hO2.dropNews k⟩) (oneI _) (by unfold maxLen; omega) (by omega) (by omega) ?_; intro v3 w3 hown3 hgr3 _; have hb3 := Lib.hid (hb2.out.grown hgr3 hz2' (fun j hj => (hown2.lt j hj).1))))
          simp only [List.append_assoc, List.singleton_append] at hown3
          have hrow : Hid (OW w3 w.heap.size w3.heap.size v3 (put xs n)) := by
            rw [hR.out]; exact OW.ofRow (n := k + 1 + (xs.length - k)) (by rw [List.map_append, List.map_cons]; exact hown3) (by simp; omega)
          obtain ⟨A', c', rfl, _⟩ := hrow.out.form
          clear hown3 hgr3 hown2 hgr2 hown1 hgr1
          go_wp2
          go_ret
          exact ⟨_, _, rfl, hrow.out.lower hlo, hb3.out⟩
    · have hke : k = xs.length := by omega
      have hR : Hid (put xs n = xs.take k ++ n :: xs.drop k) := by
        rw [Hid, put_at (n := n) hk hA.out (fun h => absurd h hlt)]; simp [hke]
      have hlt' : ¬ (k : Int) < (xs.length : Int) := by omega
      have hge : (xs.length : Int) ≤ (k : Int) := by omega
      clear hlt hke
      by_cases hkc : k < c
      · have hkc' : (k : Int) < (c : Int) := by omega
        go_wp2_with (first
          | (at_builtin; refine wpList_append_src rfl (.tmp 34) (.tmp 37) 32 rfl w.heap.size 3 i0 (.int .i64 0) 1 8 Try.underlying32 hi' hz0 hz1 hz2 rfl (by decide) _ 0 [] rfl hown0.out (some ⟨g, 0, none⟩) k c ((xs.take k).map (Value.int .i64)) rfl (by simp; omega) hnews1.out (oneI _) (by unfold maxLen; omega) (by omega) (by simp) ?_; intro v1 w1 hown1 hgr1 _; simp only [Nat.zero_add, List.nil_append] at hown1; have hb1 := Lib.hid (hb0.out.grown hgr1 (by simp) (fun j hj => by cases hj; exact Nat.le_refl _)); have hz1' := hb1.out.size)
          | (at_builtin; refine wpList_append_own _ rfl (.tmp 39) (.tmp 41) 32 rfl w.heap.size 3 i0 (.int .i64 0) 1 8 Try.underlying32 hi' hz0 hz1 hz2 rfl (by decide) v1 k _ rfl (hown1.alloc _) ⟨w1.heap.size, 0, none⟩ 1 1 [.int .i64 n] rfl rfl (new1 rfl) (one1 _) (by unfold maxLen; omega) (by omega) (by simp; omega) ?_; intro v2 w2 hown2 hgr2 _; have hb2 := Lib.hid ((hb1.out.alloc hz1' _).grown hgr2 (by simp; omega) (fun j hj => (hown1.lt j hj).1)); have hz2' := hb2.out.size; have hO2 := hO.out.below hb2.out (by omega))
          | (at_builtin; refine wpList_append_src rfl (.tmp 43) (.tmp 46) 32 rfl w.heap.size 3 i0 (.int .i64 0) 1 8 Try.underlying32 hi' hz0 hz1 hz2 rfl (by decide) v2 (k + 1) _ rfl hown2 _ (xs.length - k) _ ((xs.drop k).map (Value.int .i64)) rfl (by simp) (fun h => absurd h (by omega)) (oneI _) (by unfold maxLen; omega) (by omega) (by omega) ?_; intro v3 w3 hown3 hgr3 _; have hb3 := Lib.hid (hb2.out.grown hgr3 hz2' (fun j hj => (hown2.lt j hj).1))))
        simp only [List.append_assoc, List.singleton_append] at hown3
        have hrow : Hid (OW w3 w.heap.size w3.heap.size v3 (put xs n)) := by
          rw [hR.out]; exact OW.ofRow (n := k + 1 + (xs.length - k)) (by rw [List.map_append, List.map_cons]; exact hown3) (by simp; omega)
        obtain ⟨A', c', rfl, _⟩ := hrow.out.form
        clear hown3 hgr3 hown2 hgr2 hown1 hgr1
        go_wp2
        go_ret
        exact ⟨_, _, rfl, hrow.out.lower hlo, hb3.out⟩
      · obtain rfl : k = c := by omega
        go_wp2_with (first
          | (at_builtin; refine wpList_append_src rfl (.tmp 34) (.tmp 37) 32 rfl w.heap.size 3 i0 (.int .i64 0) 1 8 Try.underlying32 hi' hz0 hz1 hz2 rfl (by decide) _ 0 [] rfl hown0.out (some ⟨g, 0, none⟩) k k ((xs.take k).map (Value.int .i64)) rfl (by simp; omega) hnews1.out (oneI _) (by unfold maxLen; omega) (by omega) (by simp) ?_; intro v1 w1 hown1 hgr1 _; simp only [Nat.zero_add, List.nil_append] at hown1; have hb1 := Lib.hid (hb0.out.grown hgr1 (by simp) (fun j hj => by cases hj; exact Nat.le_refl _)); have hz1' := hb1.out.size)
          | (at_builtin; refine wpList_append_own _ rfl (.tmp 39) (.tmp 41) 32 rfl w.heap.size 3 i0 (.int .i64 0) 1 8 Try.underlying32 hi' hz0 hz1 hz2 rfl (by decide) v1 k _ rfl (hown1.alloc _) ⟨w1.heap.size, 0, none⟩ 1 1 [.int .i64 n] rfl rfl (new1 rfl) (one1 _) (by unfold maxLen; omega) (by omega) (by simp; omega) ?_; intro v2 w2 hown2 hgr2 _; have hb2 := Lib.hid ((hb1.out.alloc hz1' _).grown hgr2 (by simp; omega) (fun j hj => (hown1.lt j hj).1)); have hz2' := hb2.out.size; have hO2 := hO.out.below hb2.out (by omega))
          | (at_builtin; refine wpList_append_src rfl (.tmp 43) (.tmp 46) 32 rfl w.heap.size 3 i0 (.int .i64 0) 1 8 Try.underlying32 hi' hz0 hz1 hz2 rfl (by decide) v2 (k + 1) _ rfl hown2 _ _ _ ((xs.drop k).map (Value.int .i64)) rfl (by first | (simp; done) | (simp; omega)) (fun h => absurd h (by omega)) (oneI _) (by unfold maxLen; omega) (by omega) (by omega) ?_; intro v3 w3 hown3 hgr3 _; have hb3 := Lib.hid (hb2.out.grown hgr3 hz2' (fun j hj => (hown2.lt j hj).1))))
        simp only [List.append_assoc, List.singleton_append] at hown3
        have hrow : Hid (OW w3 w.heap.size w3.heap.size v3 (put xs n)) := by
          rw [hR.out]; exact OW.ofRow (by rw [List.map_append, List.map_cons]; exact hown3) (by simp; omega)
        obtain ⟨A', c', rfl, _⟩ := hrow.out.form
        clear hown3 hgr3 hown2 hgr2 hown1 hgr1
        go_wp2
        go_ret
        exact ⟨_, _, rfl, hrow.out.lower hlo, hb3.out⟩


set_option maxHeartbeats 4000000 in
theorem l1Put_nil (lo : Nat) (n : Int) (w : World) (hlo : lo ≤ w.heap.size) :
    Calls Try.prog 151 #[.slice none 0 0, .int .i64 n] w (OwnI lo w (put [] n)) := by
  obtain ⟨i0, hi', hz0, hz1, hz2⟩ := info_parts Try.infoInt
  have hb0 := Lib.hid ((Below.refl w.heap.size w).alloc (Nat.le_refl _) (.cells #[] 3))
  have hown0 := Lib.hid (World.ownsRow_made (base := w.heap.size) (e := 3) (size := 1) w #[] 0 (Nat.le_refl _) (by unfold maxLen; omega) (by simp))
  have hR := Lib.hid (put_nil n)
  go_enter Try.func151, Try.ntmps151
  go_wp2
  go_loop [5] (fun i => i = .int .i64 0) (fun i => 0)
  case atStart => rfl
  case round =>
    subst hrel
    go_wp2_with (first
            | (at_builtin; refine wpList_append_src rfl (.tmp 34) (.tmp 37) 32 rfl w.heap.size 3 i0 (.int .i64 0) 1 8 Try.underlying32 hi' hz0 hz1 hz2 rfl (by decide) _ 0 [] rfl hown0.out none 0 _ [] rfl (by simp) (fun h => absurd h (by omega)) (by simp) (by unfold maxLen; omega) (by omega) (by simp) ?_; intro v1 w1 hown1 hgr1 _; simp only [Nat.zero_add, List.nil_append] at hown1; have hb1 := Lib.hid (hb0.out.grown hgr1 (by simp) (fun j hj => by cases hj; exact Nat.le_refl _)); have hz1' := hb1.out.size)
            | (at_builtin; refine wpList_append_own _ rfl (.tmp 39) (.tmp 41) 32 rfl w.heap.size 3 i0 (.int .i64 0) 1 8 Try.underlying32 hi' hz0 hz1 hz2 rfl (by decide) v1 0 _ rfl (hown1.alloc _) ⟨w1.heap.size, 0, none⟩ 1 1 [.int .i64 n] rfl rfl (new1 rfl) (one1 _) (by unfold maxLen; omega) (by omega) (by simp; omega) ?_; intro v2 w2 hown2 hgr2 _; have hb2 := Lib.hid ((hb1.out.alloc hz1' _).grown hgr2 (by simp; omega) (fun j hj => (hown1.lt j hj).1)); have hz2' := hb2.out.size)
            | (at_builtin; refine wpList_append_src rfl (.tmp 43) (.tmp 46) 32 rfl w.heap.size 3 i0 (.int .i64 0) 1 8 Try.underlying32 hi' hz0 hz1 hz2 rfl (by decide) v2 (0 + 1) _ rfl hown2 none 0 _ [] rfl (by simp) (fun h => absurd h (by omega)) (by simp) (by unfold maxLen; omega) (by omega) (by omega) ?_; intro v3 w3 hown3 hgr3 _; have hb3 := Lib.hid (hb2.out.grown hgr3 hz2' (fun j hj => (hown2.lt j hj).1))))
    have hrow : Hid (OW w3 w.heap.size w3.heap.size v3 (put [] n)) := by
      rw [hR.out]; exact OW.ofRow (by simpa using hown3) rfl
    obtain ⟨A', c', rfl, _⟩ := hrow.out.form
    clear hown3 hgr3 hown2 hgr2 hown1 hgr1
    go_wp2
    go_ret
    exact ⟨_, _, rfl, hrow.out.lower hlo, hb3.out⟩
theorem l1Put_any (lo hi : Nat) (A : Option Addr) (m c : Nat) (xs : List Int) (n : Int) (w : World) (hm : m = xs.length) (hl : xs.length ≤ 1000000) (hx : OW w lo hi (.slice A m c) xs) (hlo : lo ≤ w.heap.size) (hhi : hi ≤ w.heap.size) :
    Calls Try.prog 151 #[.slice A m c, .int .i64 n] w (OwnI lo w (put xs n)) := by
  subst hm
  rcases hx.1.2 with ⟨h0, h1⟩ | ⟨g, cap, cur, e, _⟩
  · injection h0 with e1 e2 e3
    obtain rfl : xs = [] := List.eq_nil_of_length_eq_zero h1
    subst e1; subst e3
    exact l1Put_nil lo n w hlo
  · injection e with e1 e2 e3
    subst e1; subst e3
    exact l1Put_some lo hi g c xs n w hl hx hlo hhi
end Go.Proofs.Ythjfedidpjfboaa

namespace Go.Proofs
open Go.Shelf
def Try.lays125_ren : Go.Shelf.Ren := ⟨fun | 125 => 165 | 128 => 197 | 129 => 198 | n => n, fun | 46 => 171 | 3 => 3 | 51 => 197 | 53 => 199 | 4 => 4 | 5 => 5 | 9 => 9 | n => n, fun | n => n⟩
theorem Try.lays125 : Go.Proofs.Lays.n125 Try.prog Try.lays125_ren := {
  mixed := by kernel_rfl
  f125 := Try.func165.trans (congrArg some (by kernel_rfl))
  f128 := Try.func197.trans (congrArg some (by kernel_rfl))
  f129 := Try.func198.trans (congrArg some (by kernel_rfl))
  t3 := Try.underlying3
  a3 := Try.isAgg3
  z3 := Try.sizeOf3
  v3 := Try.zeroValue3
  t4 := Try.underlying4
  a4 := Try.isAgg4
  z4 := Try.sizeOf4
  v4 := Try.zeroValue4
  t5 := Try.underlying5
  a5 := Try.isAgg5
  z5 := Try.sizeOf5
  v5 := Try.zeroValue5
  t9 := Try.underlying9
  a9 := Try.isAgg9
  z9 := Try.sizeOf9
  v9 := Try.zeroValue9
  t46 := Try.underlying171
  a46 := Try.isAgg171
  z46 := Try.sizeOf171
  v46 := Try.zeroValue171
  t51 := Try.underlying197
  a51 := Try.isAgg197
  z51 := Try.sizeOf197
  v51 := Try.zeroValue197
  t53 := Try.underlying199
  a53 := Try.isAgg199
  z53 := Try.sizeOf199
  v53 := Try.zeroValue199 }
/-- bits.Len: "Len returns the minimum number of bits required to represent x; the result is 0 for x == 0.": IT RETURNS 'Lib.bitLen x'; the world is as it was. (A uint has 64 bits in the model.) ITS CALLEE bits.Len64 IS MET BY ITS OWN CONTRACT OFF THE SHELF (lay that first). (LAID: no walk: one application.) -/
theorem Try.bits_Len (x : Int) (w : World) (h0 : 0 ≤ x) (h1 : x ≤ 18446744073709551615) :
    Calls Try.prog 165 #[.int .u64 x] w fun e w' => e = .returned (.int .i64 (Lib.bitLen x.toNat)) ∧ w' = w := Any.bits_Len Try.lays125 x w h0 h1
def Try.lays189_ren : Go.Shelf.Ren := ⟨fun | 189 => 124 | 125 => 165 | 257 => 164 | 128 => 197 | 129 => 198 | 294 => 188 | 295 => 189 | 296 => 190 | 297 => 191 | 298 => 192 | 299 => 193 | 216 => 194 | 300 => 195 | 301 => 196 | 328 => 206 | 329 => 207 | 330 => 208 | 331 => 209 | 332 => 210 | 215 => 211 | 343 => 215 | n => n, fun | 28 => 32 | 3 => 3 | 46 => 171 | 0 => 0 | 51 => 197 | 53 => 199 | 4 => 4 | 183 => 192 | 182 => 191 | 131 => 53 | 5 => 5 | 9 => 9 | 218 => 204 | 222 => 208 | 228 => 211 | 229 => 166 | n => n, fun | n => n⟩
theorem Try.lays189 : Go.Proofs.Lays.n189 Try.prog Try.lays189_ren := {
  mixed := by kernel_rfl
  f125 := Try.func165.trans (congrArg some (by kernel_rfl))
  f128 := Try.func197.trans (congrArg some (by kernel_rfl))
  f129 := Try.func198.trans (congrArg some (by kernel_rfl))
  f189 := Try.func124.trans (congrArg some (by kernel_rfl))
  f215 := Try.func211.trans (congrArg some (by kernel_rfl))
  f216 := Try.func194.trans (congrArg some (by kernel_rfl))
  f257 := Try.func164.trans (congrArg some (by kernel_rfl))
  f294 := Try.func188.trans (congrArg some (by kernel_rfl))
  f295 := Try.func189.trans (congrArg some (by kernel_rfl))
  f296 := Try.func190.trans (congrArg some (by kernel_rfl))
  f297 := Try.func191.trans (congrArg some (by kernel_rfl))
  f298 := Try.func192.trans (congrArg some (by kernel_rfl))
  f299 := Try.func193.trans (congrArg some (by kernel_rfl))
  f300 := Try.func195.trans (congrArg some (by kernel_rfl))
  f301 := Try.func196.trans (congrArg some (by kernel_rfl))
  f328 := Try.func206.trans (congrArg some (by kernel_rfl))
  f329 := Try.func207.trans (congrArg some (by kernel_rfl))
  f330 := Try.func208.trans (congrArg some (by kernel_rfl))
  f331 := Try.func209.trans (congrArg some (by kernel_rfl))
  f332 := Try.func210.trans (congrArg some (by kernel_rfl))
  f343 := Try.func215.trans (congrArg some (by kernel_rfl))
  t0 := Try.underlying0
  a0 := Try.isAgg0
  z0 := Try.sizeOf0
  v0 := Try.zeroValue0
  t3 := Try.underlying3
  a3 := Try.isAgg3
  z3 := Try.sizeOf3
  v3 := Try.zeroValue3
  t4 := Try.underlying4
  a4 := Try.isAgg4
  z4 := Try.sizeOf4
  v4 := Try.zeroValue4
  t5 := Try.underlying5
  a5 := Try.isAgg5
  z5 := Try.sizeOf5
  v5 := Try.zeroValue5
  t9 := Try.underlying9
  a9 := Try.isAgg9
  z9 := Try.sizeOf9
  v9 := Try.zeroValue9
  t28 := Try.underlying32
  a28 := Try.isAgg32
  z28 := Try.sizeOf32
  v28 := Try.zeroValue32
  t46 := Try.underlying171
  a46 := Try.isAgg171
  z46 := Try.sizeOf171
  v46 := Try.zeroValue171
  t51 := Try.underlying197
  a51 := Try.isAgg197
  z51 := Try.sizeOf197
  v51 := Try.zeroValue197
  t53 := Try.underlying199
  a53 := Try.isAgg199
  z53 := Try.sizeOf199
  v53 := Try.zeroValue199
  t131 := Try.underlying53
  a131 := Try.isAgg53
  z131 := Try.sizeOf53
  v131 := Try.zeroValue53
  t182 := Try.underlying191
  a182 := Try.isAgg191
  z182 := Try.sizeOf191
  v182 := Try.zeroValue191
  t183 := Try.underlying192
  a183 := Try.isAgg192
  z183 := Try.sizeOf192
  v183 := Try.zeroValue192
  t218 := Try.underlying204
  a218 := Try.isAgg204
  z218 := Try.sizeOf204
  v218 := Try.zeroValue204
  t222 := Try.underlying208
  a222 := Try.isAgg208
  z222 := Try.sizeOf208
  v222 := Try.zeroValue208
  t228 := Try.underlying211
  a228 := Try.isAgg211
  z228 := Try.sizeOf211
  v228 := Try.zeroValue211
  t229 := Try.underlying166
  a229 := Try.isAgg166
  z229 := Try.sizeOf166
  v229 := Try.zeroValue166 }
open Go.Sort Go.RowKit in
theorem Try.slices_Sort_int (blk off cap : Nat) (zs : List Int) (w : World) (hH : Holds (Value.int .i64) w blk off zs.toArray) (hblk : blk < w.heap.size) (hsz : zs.length < 4611686018427387904) :
    Calls Try.prog 124 #[.slice (some ⟨blk, off, none⟩) zs.length cap] w fun e w' =>
      e = .returned (.tuple #[]) ∧ ∃ n os, w' = grow (putRow (Value.int .i64) (Sort.ahead w n) blk off (zs.mergeSort fun x y => decide (x ≤ y)).toArray) os := Any.slices_Sort_int Try.lays189 blk off cap zs w hH hblk hsz
def Try.laysNm220_ren : Go.Shelf.Ren := ⟨fun | 20 => 126 | n => n, fun | 22 => 32 | 3 => 3 | 4 => 4 | 0 => 0 | n => n, fun | n => n⟩
theorem Try.laysNm220 : Go.Proofs.Lays2.n20 Try.prog Try.laysNm220_ren := {
  mixed := by kernel_rfl
  f20 := Try.func126.trans (congrArg some (by kernel_rfl))
  t0 := Try.underlying0
  a0 := Try.isAgg0
  z0 := Try.sizeOf0
  v0 := Try.zeroValue0
  t3 := Try.underlying3
  a3 := Try.isAgg3
  z3 := Try.sizeOf3
  v3 := Try.zeroValue3
  t4 := Try.underlying4
  a4 := Try.isAgg4
  z4 := Try.sizeOf4
  v4 := Try.zeroValue4
  t22 := Try.underlying32
  a22 := Try.isAgg32
  z22 := Try.sizeOf32
  v22 := Try.zeroValue32
  i3 := by kernel_rfl }
open Go.RowKit Go.Lib Go.Sort in
/-- slices.Compact at []int: "Compact replaces consecutive runs of equal elements with a single copy. This is like the uniq command found on Unix. Compact modifies the contents of the slice s and returns the modified slice, which may have a smaller length. Compact zeroes the elements between the new length and the original length. The result preserves the nilness of s.": IT RETURNS THE SLICE CUT TO 'Lib.compact zs'; ITS CELLS HOLD 'Lib.compact zs', THEN ZERO VALUES up to the old length; all else is as it was, but for the count of draws. IN THE WORDS OF slices.Sort's CONTRACT ('Holds', 'putRow'): so the everyday 'slices.Sort(xs); xs = slices.Compact(xs)' goes from the one contract to the other. It asks 'zs.length ≤ cap' (every slice's: the reslicing 's[:k]' looks at it). Length 0, nil: '.._empty'. (LAID: no walk: one application.) -/
theorem Try.slices_Compact_int (blk off cap : Nat) (zs : List Int) (w : World) (hH : Holds (Value.int .i64) w blk off zs.toArray) (hsz : zs.length ≤ 9223372036854775807) (hcap : zs.length ≤ cap) :
    Calls Try.prog 126 #[.slice (some ⟨blk, off, none⟩) zs.length cap] w fun e w' => e = .returned (.slice (some ⟨blk, off, none⟩) (Lib.compact zs).length cap) ∧ ∃ q, w' = putRow (Value.int .i64) (Sort.ahead w q) blk off (Lib.compact zs ++ List.replicate (zs.length - (Lib.compact zs).length) 0).toArray := Any.slices_Compact_int Try.laysNm220 blk off cap zs w hH hsz hcap
open Go.RowKit Go.Lib Go.Sort in
/-- The same at a slice of length 0, a nil one too: it comes back as it is. (LAID: no walk: one application.) -/
theorem Try.slices_Compact_int_empty (a : Option Addr) (cap : Nat) (w : World) :
    Calls Try.prog 126 #[.slice a 0 cap] w fun e w' => e = .returned (.slice a 0 cap) ∧ w' = w := Any.slices_Compact_int_empty Try.laysNm220 a cap w
end Go.Proofs

namespace Go.Proofs.Ythjfedidpjfboaa
open Go.RowKit
set_option linter.unusedVariables false
set_option maxRecDepth 100000

theorem reads_ff (x : In) {a b : Bool} (ha : (fm x.op).a = false) (hb : (fm x.op).b = false) : readsL x = [] := by
  simp [readsL, reads2, ha, hb, compact0]
theorem reads_tf (x : In) (ha : (fm x.op).a = true) (hb : (fm x.op).b = false) : readsL x = put [] x.a := by
  simp [readsL, reads2, ha, hb, compact1, put_nil]
theorem reads_ft (x : In) (ha : (fm x.op).a = false) (hb : (fm x.op).b = true) : readsL x = put [] x.b := by
  simp [readsL, reads2, ha, hb, compact1, put_nil]
theorem reads_tt (x : In) (ha : (fm x.op).a = true) (hb : (fm x.op).b = true) : readsL x = put (put [] x.a) x.b := by
  have h1 : readsL x = Lib.compact ([x.a, x.b].mergeSort fun x y => decide (x ≤ y)) := by simp [readsL, reads2, ha, hb]
  rw [h1, sort2, put_nil]
  by_cases h : x.a ≤ x.b
  · rw [if_pos h, compact2]
    by_cases he : x.a = x.b
    · simp [put, he]
    · have h2 : x.a < x.b := by omega
      simp [put, h2, he]
  · rw [if_neg h, compact2]
    have h2 : ¬ x.a < x.b := by omega
    have h3 : ¬ x.b = x.a := by omega
    have h4 : ¬ x.a = x.b := by omega
    simp [put, h2, h3, h4]
theorem readsL_len (x : In) : (readsL x).length ≤ 2 := by
  cases ha : (fm x.op).a <;> cases hb : (fm x.op).b
  · rw [reads_ff x (a := true) (b := true) ha hb]; simp
  · rw [reads_ft x ha hb, put_nil]; simp
  · rw [reads_tf x ha hb, put_nil]; simp
  · rw [reads_tt x ha hb, put_nil]; have := put_len [x.a] x.b; simpa using this

set_option maxHeartbeats 4000000 in
theorem cdReads_any (x : In) (w : World) :
    Calls Try.prog 150 #[.agg #[.string x.op, .int .i64 x.d, .int .i64 x.a, .int .i64 x.b, .int .i64 x.m]] w (OwnI w.heap.size w (readsL x)) := by
  have hrf := fun h1 h2 => Lib.hid (reads_ff x (a := true) (b := true) h1 h2)
  have hrt := fun h1 h2 => Lib.hid (reads_tf x h1 h2)
  have hrs := fun h1 h2 => Lib.hid (reads_ft x h1 h2)
  have hru := fun h1 h2 => Lib.hid (reads_tt x h1 h2)
  obtain ⟨op, d, a, b, m⟩ := x
  generalize readsL ⟨op, d, a, b, m⟩ = R at *
  simp only at hrf hrt hrs hru
  have hb0 := Lib.hid ((Below.refl w.heap.size w).alloc (Nat.le_refl _) (.cells #[.string op, .int .i64 d, .int .i64 a, .int .i64 b, .int .i64 m] 90))
  have hP := fun w' (h : w.heap.size ≤ w'.heap.size) n => Lib.hid (l1Put_any w.heap.size w'.heap.size none 0 0 [] n w' rfl (by simp) (OW.nil _ _ _) h (Nat.le_refl _))
  go_enter Try.func150, Try.ntmps150
  go_wp2_with (fail)
  refine (cdShape_any _ _).mono ?_
  rintro e w' ⟨rfl, rfl⟩
  generalize fm op = f at *
  obtain ⟨ok, fa, fb, lo, hi, c⟩ := f
  simp only at hrf hrt hrs hru
  cases fa
  · cases fb
    · have hR := hrf rfl rfl
      clear hrf hrt hrs hru
      go_wp2
      go_ret
      rw [hR.out]
      exact ⟨none, 0, rfl, OW.nil _ _ _, hb0.out⟩
    · have hR := hrs rfl rfl
      clear hrf hrt hrs hru
      go_wp2_with (fail)
      refine (hP _ (by simp) _).out.mono ?_
      rintro e w1 ⟨A1, c1, rfl, ho1, hb1⟩
      have hO := Lib.hid ho1
      have hB := Lib.hid (hb0.out.trans (hb1.mono (by simp)))
      clear ho1 hb1
      go_wp2
      go_ret
      rw [hR.out]
      exact ⟨_, _, rfl, hO.out, hB.out⟩
  · cases fb
    · have hR := hrt rfl rfl
      clear hrf hrt hrs hru
      go_wp2_with (fail)
      refine (hP _ (by simp) _).out.mono ?_
      rintro e w1 ⟨A1, c1, rfl, ho1, hb1⟩
      have hO := Lib.hid ho1
      have hB := Lib.hid (hb0.out.trans (hb1.mono (by simp)))
      clear ho1 hb1
      go_wp2
      go_ret
      rw [hR.out]
      exact ⟨_, _, rfl, hO.out, hB.out⟩
    · have hR := hru rfl rfl
      clear hrf hrt hrs hru
      go_wp2_with (fail)
      refine (hP _ (by simp) _).out.mono ?_
      rintro e w1 ⟨A1, c1, rfl, ho1, hb1⟩
      obtain ⟨xa, xb, xc, xd, xe⟩ := In.old (x := ⟨op, d, a, b, m⟩) rfl hb1
      have hO := Lib.hid ho1
      have hB := Lib.hid (hb0.out.trans (hb1.mono (by simp)))
      have hpl := Lib.hid (put_len [] a)
      clear ho1 hb1
      go_wp2_with (fail)
      refine (l1Put_any w.heap.size w1.heap.size A1 _ c1 _ b _ rfl (by have := hpl.out; simp at this; omega) hO.out hB.out.size (Nat.le_refl _)).mono ?_
      rintro e w2 ⟨A2, c2, rfl, ho2, hb2⟩
      have hO2 := Lib.hid ho2
      have hB2 := Lib.hid (hB.out.trans (hb2.mono hB.out.size))
      clear ho2 hb2
      go_wp2
      go_ret
      rw [hR.out]
      exact ⟨_, _, rfl, hO2.out, hB2.out⟩
end Go.Proofs.Ythjfedidpjfboaa

namespace Go.Proofs.Ythjfedidpjfboaa
open Go.RowKit Go.Sort
set_option linter.unusedVariables false
set_option maxRecDepth 100000

theorem insNil_any (A : Option Addr) (c : Nat) (w : World) :
    Calls Try.prog 188 #[.slice A 0 c, .int .i64 0, .int .i64 0] w fun e w' => e = .returned (.tuple #[]) ∧ w = w' := by
  go_enter Try.func188, Try.ntmps188
  go_wp2
  go_loop [6] (fun i => i = .int .i64 1) (fun i => 0)
  case atStart => rfl
  case round =>
    subst hrel
    go_wp2
    go_end0
    exact ⟨rfl, rfl⟩
theorem pdqNil_any (A : Option Addr) (c : Nat) (n : Int) (w : World) :
    Calls Try.prog 164 #[.slice A 0 c, .int .i64 0, .int .i64 0, .int .i64 n] w fun e w' => e = .returned (.tuple #[]) ∧ w = w' := by
  go_enter Try.func164, Try.ntmps164
  go_wp2
  go_loop [1, 2] (fun i j => i = .int .i64 0 ∧ j = .int .i64 0) (fun i _ => 0)
  case atStart => exact ⟨rfl, rfl⟩
  case round =>
    obtain ⟨rfl, rfl⟩ := hrel
    go_wp2_with (go_at_call 188; refine (insNil_any _ _ _).mono ?_; rintro e w' ⟨rfl, rfl⟩)
    exact bodyPost_ret (v := .tuple #[]) (by simp [results, Try.results164, go_sem]) rfl ⟨rfl, rfl⟩
theorem sortNil_any (A : Option Addr) (c : Nat) (w : World) :
    Calls Try.prog 124 #[.slice A 0 c] w fun e w' => e = .returned (.tuple #[]) ∧ w = w' := by
  have H := Lib.hid (Try.bits_Len 0 w (by omega) (by omega))
  go_enter Try.func124, Try.ntmps124
  go_wp2_with (fail)
  refine H.out.mono ?_
  rintro e w' ⟨rfl, rfl⟩
  generalize Lib.bitLen _ = q
  go_wp2_with (go_at_call 164; refine (pdqNil_any _ _ _ _).mono ?_; rintro e w' ⟨rfl, rfl⟩)
  go_end0
  exact ⟨rfl, rfl⟩
def sorted (xs : List Int) : List Int := xs.mergeSort fun x y => decide (x ≤ y)
theorem sorted_len (xs : List Int) : (sorted xs).length = xs.length := by simp [sorted]
/-- slices.Sort on a slice of the call's own. -/
theorem sortOwn_any (lo hi : Nat) (A : Option Addr) (n c : Nat) (xs : List Int) (w : World) (hn : n = xs.length) (hl : xs.length ≤ 1048576) (hx : OW w lo hi (.slice A n c) xs) :
    Calls Try.prog 124 #[.slice A n c] w fun e w' => e = .returned (.tuple #[]) ∧ OW w' lo hi (.slice A n c) (sorted xs) ∧ Chg lo hi w w' := by
  subst hn
  rcases hx.1.2 with ⟨h0, h1⟩ | ⟨g, cap, cur, e, hlo, _⟩
  · injection h0 with e1 e2 e3
    obtain rfl : xs = [] := List.eq_nil_of_length_eq_zero h1
    subst e1; subst e3
    refine (sortNil_any none 0 w).mono ?_
    rintro e w' ⟨rfl, rfl⟩
    exact ⟨rfl, by simpa [sorted] using hx, Chg.refl _ _ _⟩
  · injection e with e1 e2 e3
    subst e1; subst e3
    have hg : g < w.heap.size := (hx.1.lt g rfl).2
    refine (Try.slices_Sort_int g 0 c xs w hx.holds hg (by omega)).mono ?_
    rintro e w' ⟨rfl, m, os, rfl⟩
    have hgh : g < hi := hx.2 g rfl
    exact ⟨rfl, hx.put (sorted_len xs) m os, (chg_put w g m _ os).more hlo hgh⟩
theorem compact_pre (xs : List Int) : (Lib.compact xs).length ≤ xs.length := by
  unfold Lib.compact Lib.compactUpTo
  rw [List.length_map]
  exact Nat.le_trans (List.length_filter_le _ _) (by simp)
/-- slices.Compact on a slice of the call's own. -/
theorem compactOwn_any (lo hi : Nat) (A : Option Addr) (n c : Nat) (xs : List Int) (w : World) (hn : n = xs.length) (hl : xs.length ≤ 1048576) (hx : OW w lo hi (.slice A n c) xs) :
    Calls Try.prog 126 #[.slice A n c] w fun e w' => e = .returned (.slice A (Lib.compact xs).length c) ∧ OW w' lo hi (.slice A (Lib.compact xs).length c) (Lib.compact xs) ∧ Chg lo hi w w' := by
  subst hn
  rcases hx.1.2 with ⟨h0, h1⟩ | ⟨g, cap, cur, e, hlo, _, h1, _⟩
  · injection h0 with e1 e2 e3
    obtain rfl : xs = [] := List.eq_nil_of_length_eq_zero h1
    subst e1; subst e3
    refine (Try.slices_Compact_int_empty none 0 w).mono ?_
    rintro e w' ⟨rfl, rfl⟩
    rw [compact0]
    exact ⟨rfl, hx, Chg.refl _ _ _⟩
  · injection e with e1 e2 e3
    subst e1; subst e3
    refine (Try.slices_Compact_int g 0 c xs w hx.holds (by omega) h1).mono ?_
    rintro e w' ⟨rfl, m, rfl⟩
    have hcl := compact_pre xs
    have hgh : g < hi := hx.2 g rfl
    have hp := hx.put (d := Lib.compact xs ++ List.replicate (xs.length - (Lib.compact xs).length) 0) (by simp; omega) m #[]
    have hs := hp.short (Lib.compact xs).length (by simp)
    rw [List.take_left, grow_empty] at hs
    refine ⟨rfl, hs, ?_⟩
    have := chg_put w g m (Lib.compact xs ++ List.replicate (xs.length - (Lib.compact xs).length) 0).toArray #[]
    rw [grow_empty] at this
    exact this.more hlo hgh
end Go.Proofs.Ythjfedidpjfboaa
