import Derived.Test.YtmhdijklindipaaRows
import Derived.Test.YtmhdijklindipaaV2
import Derived.Test.YtmhdijklindipaaMI2
import Derived.WalkKit
import Derived.WalkSpells
import Derived.WalkLawsBesides
import Derived.Laws.MakeOwn
import Derived.StillTailTactics
import Derived.Deep.QuietTactic
import Derived.BigQuiet
import Derived.Lib.Hide
/- Slices of Instr: what the laws do with them. -/
namespace Go.Proofs.Ytmhdijklindipaa
open Go.RowKit
set_option linter.unusedVariables false

theorem In.hk : ∀ x : In, (In.enc x).length = 5 := fun _ => rfl
theorem In.cells {w : World} {lo hi : Nat} {A : Option Addr} {es : List In} (h : RS In.enc 5 w lo hi A es) (hn : 0 < es.length) : ∃ b o, A = some ⟨b, o, none⟩ ∧ (lo ≤ b ∧ b < hi) ∧ ∀ i (h : i < es.length),
    w.cell? ⟨b, o + i * 5, none⟩ = some (.string es[i].op) ∧ w.cell? ⟨b, o + i * 5 + 1, none⟩ = some (.int .i64 es[i].d) ∧ w.cell? ⟨b, o + i * 5 + 2, none⟩ = some (.int .i64 es[i].a) ∧ w.cell? ⟨b, o + i * 5 + 3, none⟩ = some (.int .i64 es[i].b) ∧ w.cell? ⟨b, o + i * 5 + 4, none⟩ = some (.int .i64 es[i].m) := by
  obtain ⟨b, o, e, hb, hc⟩ := h hn
  exact ⟨b, o, e, hb, fun i hi => ⟨hc i hi 0 _ rfl, hc i hi 1 _ rfl, hc i hi 2 _ rfl, hc i hi 3 _ rfl, hc i hi 4 _ rfl⟩⟩
theorem In.cellsB {t : TypeId} {w : World} {g : Nat} {es : List In} {rest : List Value} (h : CB t w g (es.flatMap In.enc ++ rest)) (i : Nat) (hi : i < es.length) :
    ∃ z0 z1 z2 z3 z4, w.cell? ⟨g, i * 5, none⟩ = some (.string z0) ∧ w.cell? ⟨g, i * 5 + 1, none⟩ = some (.int .i64 z1) ∧ w.cell? ⟨g, i * 5 + 2, none⟩ = some (.int .i64 z2) ∧ w.cell? ⟨g, i * 5 + 3, none⟩ = some (.int .i64 z3) ∧ w.cell? ⟨g, i * 5 + 4, none⟩ = some (.int .i64 z4) :=
  ⟨_, _, _, _, _, h.at In.hk i hi 0 _ rfl, h.at In.hk i hi 1 _ rfl, h.at In.hk i hi 2 _ rfl, h.at In.hk i hi 3 _ rfl, h.at In.hk i hi 4 _ rfl⟩


def SzInstr (w : World) (left : Int) (n : Nat) (e : Ending) (w' : World) : Prop := ∃ r : Int, e = .returned (.int .i64 r) ∧ r ≤ left ∧ (0 ≤ r → (n : Int) ≤ left) ∧ -1 ≤ r ∧ Below w.heap.size w w'
def zeroIn : In := ⟨ByteArray.empty, 0, 0, 0, 0⟩
theorem Try.infoInstr : (Try.prog.info? 56).map (fun i => (i.zero, i.size, i.bytes)) = some (some (.agg #[.string ByteArray.empty, .int .i64 0, .int .i64 0, .int .i64 0, .int .i64 0]), 5, 48) := by kernel_rfl
theorem run_make_Instr (n : Nat) (hn : n ≤ 1048576) (W : World) : (Instr.makeSlice 42 (.int .i64 (n : Int)) (.int .i64 (n : Int))).run Try.prog W = .ok (.slice (some ⟨W.heap.size, 0, none⟩) n n) (W.alloc (.cells ((List.replicate n zeroIn).flatMap In.enc).toArray 56)) := by
  obtain ⟨i0, hi, hz0, hz1, hz2⟩ := info_parts Try.infoInstr
  have h := run_make (P := Try.prog) W 42 56 i0 _ Try.underlying42 hi hz0 .i64 .i64 n n (by omega) (by omega) (by rw [hz2]; omega) (by omega)
  rw [h]
  simp only [Int.toNat_natCast, hz1]
  refine congrArg (fun c => Result.ok (Value.slice (some ⟨W.heap.size, 0, none⟩) n n) (W.alloc (.cells c 56))) ?_
  apply Array.ext'
  exact made_flat In.hk zeroIn n

/-- A new slice that reads as es. -/
def FreshInstr (w : World) (es : List In) (e : Ending) (w' : World) : Prop :=
  ∃ A c, e = .returned (.slice A es.length c) ∧ OK In.enc 5 56 w' w.heap.size w'.heap.size (.slice A es.length c) es ∧ Below w.heap.size w w'
theorem cb_nil {t : TypeId} {w : World} {g : Nat} {xs : List In} (h : CB t w g (xs.flatMap In.enc ++ [])) : KB In.enc t w g xs := by
  unfold CB at h; unfold KB; rw [List.append_nil] at h; exact h
end Go.Proofs.Ytmhdijklindipaa
