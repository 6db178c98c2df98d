import Derived.Test.YtmhdijklindipaaRows
import Derived.Test.YtmhdijklindipaaV2
import Derived.WalkKit
import Derived.WalkSpells
import Derived.WalkLawsBesides
import Derived.StillTailTactics
import Derived.Deep.QuietTactic
import Derived.BigQuiet
import Derived.Deep.AppendLies
import Derived.Lib.Hide
namespace Go.Proofs.Ytmhdijklindipaa
open Go.RowKit
set_option linter.unusedVariables false

/-- A slice of ints that the call made: its block, if any, lies in [lo, hi). -/
def OW (w : World) (lo hi : Nat) (v : Value) (xs : List Int) : Prop :=
  w.ownsRow lo 3 1 v xs.length (xs.map (Value.int .i64)) ∧ ∀ k, v.ownBlock = some k → k < hi
theorem OW.lo {w : World} {lo hi : Nat} {v : Value} {xs : List Int} (h : OW w lo hi v xs) : ∀ k, v.ownBlock = some k → lo ≤ k ∧ k < hi :=
  fun k hk => ⟨(h.1.lt k hk).1, h.2 k hk⟩
theorem OW.below {w w' : World} {lo hi C : Nat} {v : Value} {xs : List Int} (h : OW w lo hi v xs) (hb : Below C w w') (hC : hi ≤ C) : OW w' lo hi v xs := by
  refine ⟨⟨h.1.1, ?_⟩, h.2⟩
  rcases h.1.2 with hn | ⟨g, cap, cur, rfl, hg, hh, hr⟩
  · exact .inl hn
  · have : g < hi := h.2 g rfl
    exact .inr ⟨g, cap, cur, rfl, hg, (hb.block g (by omega)).trans hh, hr⟩
theorem OW.kept {w w' : World} {lo hi : Nat} {v : Value} {xs : List Int} {row : Option Nat} (h : OW w lo hi v xs) (hg : w.grownBy w' row) (hne : ∀ k, row = some k → k < lo ∨ hi ≤ k) : OW w' lo hi v xs := by
  refine ⟨h.1.kept hg ?_, h.2⟩
  cases hv : v.ownBlock with
  | none => exact .inl rfl
  | some k =>
    right
    rintro rfl
    have h1 := h.lo k hv
    have h2 := hne k rfl
    omega
theorem OW.more {w : World} {lo hi hi' : Nat} {v : Value} {xs : List Int} (h : OW w lo hi v xs) (hh : hi ≤ hi') : OW w lo hi' v xs := ⟨h.1, fun k hk => Nat.lt_of_lt_of_le (h.2 k hk) hh⟩
theorem OW.lower {w : World} {lo lo' hi : Nat} {v : Value} {xs : List Int} (h : OW w lo hi v xs) (hh : lo' ≤ lo) : OW w lo' hi v xs := by
  refine ⟨⟨h.1.1, ?_⟩, h.2⟩
  rcases h.1.2 with hn | ⟨g, cap, cur, rfl, hg, hr⟩
  · exact .inl hn
  · exact .inr ⟨g, cap, cur, rfl, by omega, hr⟩
theorem OW.form {w : World} {lo hi : Nat} {v : Value} {xs : List Int} (h : OW w lo hi v xs) : ∃ A c, v = .slice A xs.length c ∧ IS w lo hi A xs := by
  rcases h.1.2 with ⟨rfl, h0⟩ | ⟨g, cap, cur, rfl, hg, hh, _, _, _, ht⟩
  · exact ⟨none, 0, by rw [h0], fun hp => absurd hp (by omega)⟩
  · refine ⟨_, cap, rfl, fun _ => ⟨g, 0, rfl, ⟨hg, h.2 g rfl⟩, fun i hi => ?_⟩⟩
    have := h.1.cells (g := g) rfl i (.int .i64 xs[i]) (by simp [hi])
    by_cases h0 : i = 0
    · subst h0; simpa [Addr.add] using this
    · simpa [Addr.add, h0] using this
theorem OW.nil (w : World) (lo hi : Nat) : OW w lo hi (.slice none 0 0) [] := ⟨w.ownsRow_nil _ _ _, fun k hk => by simp [Value.ownBlock] at hk⟩
theorem OW.ofIB {w : World} {g lo hi : Nat} {xs : List Int} (h : IB w g 3 xs) (hl : xs.length ≤ 1000000) (hlo : lo ≤ g) (hhi : g < hi) : OW w lo hi (.slice (some ⟨g, 0, none⟩) xs.length xs.length) xs :=
  ⟨⟨by simp, .inr ⟨g, xs.length, intCells xs, rfl, hlo, h, Nat.le_refl _, by unfold maxLen; omega, by simp [intCells], by simp [intCells, List.take_of_length_le]⟩⟩,
   fun k hk => by simp [Value.ownBlock] at hk; omega⟩
theorem new1 {w : World} {g : Nat} {x : Value} {t : TypeId} (hg : w.heap.size = g) : ∀ j u, [x][j]? = some u → (w.alloc (.cells #[x] t)).cell? ((⟨g, 0, none⟩ : Addr).add j) = some u := by
  subst hg
  intro j u hj
  match j, hj with
  | 0, hj => simp at hj; subst hj; simp [Addr.add]
theorem new1d {w : World} {g : Nat} {x : Value} {t : TypeId} (hg : w.heap.size = g) : ∀ j u, [x][j]? = some u → (w.alloc (.cells #[x] t)).drew.cell? ((⟨g, 0, none⟩ : Addr).add j) = some u := new1 hg
theorem node4 (w : World) (a b c d : Value) (t : TypeId) : (w.alloc (.cells #[a, b, c, d] t)).cell? ⟨w.heap.size, 0, none⟩ = some a ∧ (w.alloc (.cells #[a, b, c, d] t)).cell? ⟨w.heap.size, 1, none⟩ = some b ∧
    (w.alloc (.cells #[a, b, c, d] t)).cell? ⟨w.heap.size, 2, none⟩ = some c ∧ (w.alloc (.cells #[a, b, c, d] t)).cell? ⟨w.heap.size, 3, none⟩ = some d := by
  have h := fun i => cell_of_row _ w.heap.size i #[a, b, c, d] t (0, 0) (heap_alloc_new w _)
  exact ⟨h 0, h 1, h 2, h 3⟩
theorem one1 (x : Int) : ∀ u ∈ [Value.int .i64 x], u.oneCell' = true := by
  intro u hu; simp at hu; subst hu; rfl
/-- One element appended. -/
theorem OW.push {w' : World} {lo : Nat} {v' : Value} {xs : List Int} {x : Int} (h : w'.ownsRow lo 3 1 v' (xs.length + 1) (xs.map (Value.int .i64) ++ [.int .i64 x])) : OW w' lo w'.heap.size v' (xs ++ [x]) :=
  ⟨by simpa using h, fun k hk => (h.lt k hk).2⟩

def marks (k : Int) (n : Nat) : List Int := (List.range n).map fun (i : Nat) => k + (i : Int)
def markedTo (xs : List Int) (k : Int) (i : Nat) : List Int := marks k i ++ xs.drop i
theorem markedTo_len {xs : List Int} {k : Int} {i : Nat} (h : i ≤ xs.length) : (markedTo xs k i).length = xs.length := by simp [markedTo, marks]; omega
theorem markedTo_succ {xs : List Int} {k : Int} {i : Nat} (h : i < xs.length) : (markedTo xs k i).set i (k + i) = markedTo xs k (i + 1) := by
  have hl : (marks k i).length = i := by simp [marks]
  unfold markedTo
  rw [List.set_append_right _ _ (by omega), hl, Nat.sub_self, List.drop_eq_getElem_cons h, List.set_cons_zero]
  unfold marks
  rw [List.range_succ, List.map_append, List.append_assoc]; rfl

def MarkedIs (w : World) (lo hi : Nat) (sl : Value) (xs : List Int) (k : Int) (e : Ending) (w' : World) : Prop :=
  e = .returned (.int .i64 (k + xs.length)) ∧ OW w' lo hi sl (marks k xs.length) ∧ w.grownBy w' sl.ownBlock
theorem OW.chg {w w' : World} {L B lo hi : Nat} {v : Value} {xs : List Int} (h : OW w L B v xs) (hc : Chg lo hi w w') (hd : B ≤ lo ∨ hi ≤ L) : OW w' L B v xs := by
  refine ⟨⟨h.1.1, ?_⟩, h.2⟩
  rcases h.1.2 with hn | ⟨g, cap, cur, rfl, hg, hh, hr⟩
  · exact .inl hn
  · have hB : g < B := h.2 g rfl
    exact .inr ⟨g, cap, cur, rfl, hg, (hc.block g (Array.getElem?_eq_some_iff.1 hh).1 (by omega)).trans hh, hr⟩
theorem MarkedIs.chg {w : World} {lo hi : Nat} {sl : Value} {xs : List Int} {k : Int} {e : Ending} {w' : World} (how : OW w lo hi sl xs) (h : MarkedIs w lo hi sl xs k e w') : Chg lo hi w w' :=
  Chg.ofGrown h.2.2 how.lo

def zeros (n : Nat) : List Int := List.replicate n 0
theorem Try.infoInt : (Try.prog.info? 3).map (fun i => (i.zero, i.size, i.bytes)) = some (some (.int .i64 0), 1, 8) := by kernel_rfl
theorem run_make_ints (n : Nat) (hn : n ≤ 1048576) (W : World) : (Instr.makeSlice 27 (.int .i64 (n : Int)) (.int .i64 (n : Int))).run Try.prog W = .ok (.slice (some ⟨W.heap.size, 0, none⟩) n n) (W.alloc (.cells (intCells (zeros n)) 3)) := by
  obtain ⟨i0, hi, hz0, hz1, hz2⟩ := info_parts Try.infoInt
  have h := run_make (P := Try.prog) W 27 3 i0 _ Try.underlying27 hi hz0 .i64 .i64 n n (by omega) (by omega) (by rw [hz2]; omega) (by omega)
  rw [h]
  simp only [Int.toNat_natCast, hz1, Nat.mul_one]
  refine congrArg (fun c => Result.ok (Value.slice (some ⟨W.heap.size, 0, none⟩) n n) (W.alloc (.cells c 3))) ?_
  apply Array.ext'
  rw [intCells, zeros, List.map_replicate]
  exact toList_madeCells_one _ _
/-- A new slice of ints that reads as xs. -/
def FreshI (w : World) (xs : List Int) (e : Ending) (w' : World) : Prop :=
  ∃ A c, e = .returned (.slice A xs.length c) ∧ OW w' w.heap.size w'.heap.size (.slice A xs.length c) xs ∧ Below w.heap.size w w'
theorem OW.ofIB' {w : World} {g lo hi : Nat} {xs : List Int} (h : IB w g 3 xs) (hl : xs.length ≤ 1048576) (hlo : lo ≤ g) (hhi : g < hi) : OW w lo hi (.slice (some ⟨g, 0, none⟩) xs.length xs.length) xs :=
  ⟨⟨by simp, .inr ⟨g, xs.length, intCells xs, rfl, hlo, h, Nat.le_refl _, by unfold maxLen; omega, by simp [intCells], by simp [intCells, List.take_of_length_le]⟩⟩,
   fun k hk => by simp [Value.ownBlock] at hk; omega⟩
theorem OW.rs {w : World} {lo hi n c : Nat} {A : Option Addr} {xs : List Int} (h : OW w lo hi (.slice A n c) xs) : IS w lo hi A xs := by
  obtain ⟨A', c', e, his⟩ := h.form
  injection e with a _ _; subst a; exact his
def MarkedI (w : World) (lo hi : Nat) (sl : Value) (n : Nat) (k0 : Int) (e : Ending) (w' : World) : Prop :=
  e = .returned (.int .i64 (k0 + n)) ∧ OW w' lo hi sl (marks k0 n) ∧ Chg lo hi w w'
end Go.Proofs.Ytmhdijklindipaa
