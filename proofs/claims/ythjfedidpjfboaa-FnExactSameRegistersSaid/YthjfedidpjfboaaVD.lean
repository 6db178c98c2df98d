import Derived.Test.YthjfedidpjfboaaTVP
import Derived.Test.YthjfedidpjfboaaCR
import Derived.Test.YthjfedidpjfboaaLI
import Derived.WalkKit
import Derived.WalkSpells
import Derived.WalkLawsBesides
import Derived.Deep.RegionLaw
import Derived.Deep.RegionHeld3
import Derived.Laws.MakeOwn
import Derived.Lib.Hide
/- The machines for all inputs, in one block: plain, and made. -/
namespace Go.Proofs.Ythjfedidpjfboaa
open Go.RowKit
set_option linter.unusedVariables false
set_option maxRecDepth 100000

/-- The words of n machines, one after the other. -/
def tabR (n : Nat) (R : Nat → List Int) : List Int := (List.range (6 * n)).map fun q => (R (q / 6)).getD (q % 6) 0
theorem tabR_len (n : Nat) (R : Nat → List Int) : (tabR n R).length = 6 * n := by simp [tabR]
theorem tabR_get {n q : Nat} {R : Nat → List Int} (h : q < (tabR n R).length) : (tabR n R)[q] = (R (q / 6)).getD (q % 6) 0 := by simp [tabR]
theorem six_div {i j : Nat} (h : j < 6) : (i * 6 + j) / 6 = i ∧ (i * 6 + j) % 6 = j := by omega
theorem tabR_at {n i j : Nat} {R : Nat → List Int} (hi : i < n) (hj : j < 6) : ∃ h : i * 6 + j < (tabR n R).length, (tabR n R)[i * 6 + j] = (R i).getD j 0 := by
  have h : i * 6 + j < (tabR n R).length := by rw [tabR_len]; omega
  refine ⟨h, ?_⟩
  rw [tabR_get h, (six_div hj).1, (six_div hj).2]
def updR (R : Nat → List Int) (i : Nat) (rs : List Int) : Nat → List Int := fun a => if a = i then rs else R a
theorem tabR_set {n i j : Nat} {R : Nat → List Int} {y : Int} (hi : i < n) (hj : j < 6) (h6 : (R i).length = 6) : (tabR n R).set (i * 6 + j) y = tabR n (updR R i ((R i).set j y)) := by
  refine List.ext_getElem (by rw [List.length_set, tabR_len, tabR_len]) fun q h1 h2 => ?_
  have h1' : q < (tabR n R).length := by rwa [List.length_set] at h1
  rw [List.getElem_set, tabR_get h2]
  unfold updR
  by_cases e : i * 6 + j = q
  · subst e
    rw [if_pos rfl, (six_div hj).1, (six_div hj).2, if_pos rfl, List.getD_eq_getElem?_getD, List.getElem?_set, if_pos rfl, if_pos (by omega)]; rfl
  · rw [if_neg e, tabR_get h1']
    by_cases e2 : q / 6 = i
    · have h9 : ((R i).set j y).getD (q % 6) 0 = (R i).getD (q % 6) 0 := by
        rw [List.getD_eq_getElem?_getD, List.getElem?_set, if_neg (by omega), ← List.getD_eq_getElem?_getD]
      rw [if_pos e2, h9, e2]
    · rw [if_neg e2]
theorem tabR_congr {n : Nat} {R S : Nat → List Int} (h : ∀ i, i < n → R i = S i) : tabR n R = tabR n S := by
  unfold tabR
  refine List.map_congr_left fun q hq => ?_
  rw [h (q / 6) (by have := List.mem_range.1 hq; omega)]
def start6 (i : Nat) : List Int := [(i : Int) / 64, (i : Int) % 64, 0, 0, 0, 0]
theorem start6_words {i : Nat} (h : i < 4096) : words6 (start6 i) := by
  refine ⟨rfl, ?_⟩
  simp [start6, inR_iff]
  omega
theorem getElem_zero6 : ∀ m, m < 6 → (#[Value.int .i64 0, .int .i64 0, .int .i64 0, .int .i64 0, .int .i64 0, .int .i64 0] : Array Value)[m]! = .int .i64 0 := by
  intro m h
  match m, h with
  | 0, _ => rfl
  | 1, _ => rfl
  | 2, _ => rfl
  | 3, _ => rfl
  | 4, _ => rfl
  | 5, _ => rfl
theorem Try.infoMachine : (Try.prog.info? 114).map (fun i => (i.zero, i.size, i.bytes)) = some (some (.agg #[.int .i64 0, .int .i64 0, .int .i64 0, .int .i64 0, .int .i64 0, .int .i64 0]), 6, 48) := by kernel_rfl
theorem run_make_ms (n : Nat) (hn : n ≤ 1048576) (W : World) : (Instr.makeSlice 128 (.int .i64 (n : Int)) (.int .i64 (n : Int))).run Try.prog W = .ok (.slice (some ⟨W.heap.size, 0, none⟩) n n) (W.alloc (.cells (intCells (tabR n fun _ => [0, 0, 0, 0, 0, 0])) 114)) := by
  obtain ⟨i0, hi, hz0, hz1, hz2⟩ := info_parts Try.infoMachine
  have h := run_make (P := Try.prog) W 128 114 i0 _ Try.underlying128 hi hz0 .i64 .i64 n n (by omega) (by omega) (by rw [hz2]; omega) (by omega)
  rw [h]
  simp only [Int.toNat_natCast, hz1]
  refine congrArg (fun c => Result.ok (Value.slice (some ⟨W.heap.size, 0, none⟩) n n) (W.alloc (.cells c 114))) ?_
  apply Array.ext'
  unfold madeCells intCells tabR
  refine List.ext_getElem (by simp; omega) fun q h1 h2 => ?_
  have hm : q % 6 < 6 := Nat.mod_lt _ (by omega)
  have e1 := getElem_zero6 (q % 6) hm
  have e2 : ∀ m, m < 6 → ([0, 0, 0, 0, 0, 0] : List Int).getD m 0 = 0 := by decide
  simp only [List.map_map, Array.toList_map, Array.toList_range, List.getElem_map, List.getElem_range, Function.comp, e2 _ hm]
  simpa [Value.cells] using e1
end Go.Proofs.Ythjfedidpjfboaa
