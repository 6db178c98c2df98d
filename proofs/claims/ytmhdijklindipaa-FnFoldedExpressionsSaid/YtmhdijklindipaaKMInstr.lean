import Derived.Test.YtmhdijklindipaaKInstr
import Derived.Test.YtmhdijklindipaaLT
import Derived.Test.YtmhdijklindipaaLI
import Derived.WalkKit
import Derived.WalkSpells
import Derived.WalkLawsBesides
import Derived.StillTailTactics
import Derived.Deep.RegionHeld3
import Derived.Lib.Hide
/- Slices of Instr: marks. -/
namespace Go.Proofs.Ytmhdijklindipaa
open Go.RowKit
set_option linter.unusedVariables false

theorem In.rs {t : TypeId} {w : World} {lo hi n c : Nat} {A : Option Addr} {xs : List In} (h : OK In.enc 5 t w lo hi (.slice A n c) xs) : RS In.enc 5 w lo hi A xs := by
  obtain ⟨A', c', e, his⟩ := h.form In.hk
  injection e with a _ _; subst a; exact his
theorem In.boxed {t : TypeId} {w : World} (x : In) : RS In.enc 5 (w.alloc (.cells #[.string x.op, .int .i64 x.d, .int .i64 x.a, .int .i64 x.b, .int .i64 x.m] t)) w.heap.size (w.heap.size + 1) (some ⟨w.heap.size, 0, none⟩) [x] :=
  KB.toRS In.hk (t := t) (by unfold KB; rw [heap_alloc_new]; rfl)
theorem In.box {w : World} {lo hi g : Nat} {x : In} (h : RS In.enc 5 w lo hi (some ⟨g, 0, none⟩) [x]) : w.cell? ⟨g, 0, none⟩ = some (.string x.op) ∧ w.cell? ⟨g, 1, none⟩ = some (.int .i64 x.d) ∧ w.cell? ⟨g, 2, none⟩ = some (.int .i64 x.a) ∧ w.cell? ⟨g, 3, none⟩ = some (.int .i64 x.b) ∧ w.cell? ⟨g, 4, none⟩ = some (.int .i64 x.m) := by
  obtain ⟨b, o, e, _, hc⟩ := h (by simp)
  injection e with e; injection e with e1 e2 _; subst e1; subst e2
  have := fun j v hv => hc 0 (by simp) j v hv
  simp only [Nat.zero_mul, Nat.zero_add, List.getElem_cons_zero] at this
  exact ⟨this 0 _ rfl, this 1 _ rfl, this 2 _ rfl, this 3 _ rfl, this 4 _ rfl⟩
def markIn (k0 : Int) (i : Nat) : In := ⟨mtx (k0 + 5 * (i : Int)), k0 + 5 * (i : Int) + 1, k0 + 5 * (i : Int) + 1 + 1, k0 + 5 * (i : Int) + 1 + 1 + 1, k0 + 5 * (i : Int) + 1 + 1 + 1 + 1⟩
def marksIn (k0 : Int) (n : Nat) : List In := (List.range n).map (markIn k0)
theorem marksIn_len (k0 : Int) (n : Nat) : (marksIn k0 n).length = n := by simp [marksIn]
def MarkedInstr (w : World) (lo hi : Nat) (sl : Value) (n : Nat) (k0 : Int) (e : Ending) (w' : World) : Prop :=
  e = .returned (.int .i64 (k0 + 5 * n)) ∧ OK In.enc 5 56 w' lo hi sl (marksIn k0 n) ∧ Chg lo hi w w'
end Go.Proofs.Ytmhdijklindipaa
