/- Texts of this proof, one behind the other: MI2, KInstr, KMInstr, OC, ON, OR. -/
import Derived.Test.YtieljgfocgdngaaMI
import Derived.Test.YtieljgfocgdngaaRows
import Derived.Test.YtieljgfocgdngaaV2
import Derived.WalkKit
import Derived.WalkSpells
import Derived.WalkLawsBesides
import Derived.Laws.MakeOwn
import Derived.StillTailTactics
import Derived.Deep.QuietTactic
import Derived.BigQuiet
import Derived.Lib.Hide
import Derived.Test.YtieljgfocgdngaaZ6
import Derived.Test.YtieljgfocgdngaaLI
import Derived.Deep.RegionHeld3
import Derived.ProofKit
import Derived.OpenShut
import Derived.ShutString
import Derived.ChangeOld
import Derived.Below
import Derived.Deep.Slices
import Derived.Deep.Fields
import Derived.Test.YtieljgfocgdngaaZ4
/- Cases of ops of the machine. No program. -/
namespace Go.Proofs.Ytieljgfocgdngaa
open Go.RowKit
set_option linter.unusedVariables false
set_option maxRecDepth 10000
theorem cop_cases (s : ByteArray) : s.toList = [115,101,116] ∨ s.toList = [109,111,118] ∨ s.toList = [110,111,116] ∨ s.toList = [110,101,103] ∨ s.toList = [97,100,100] ∨ s.toList = [115,117,98] ∨ s.toList = [97,110,100] ∨ s.toList = [111,114] ∨ s.toList = [120,111,114] ∨ s.toList = [108,101,115,115] ∨ s.toList = [101,113] ∨ s.toList = [115,104,108] ∨ s.toList = [115,104,114] ∨ s.toList = [109,117,108] ∨ s.toList = [97,100,100,105] ∨ s.toList = [97,110,100,105] ∨ s.toList = [120,111,114,105] ∨ s.toList = [115,104,108,105] ∨ s.toList = [115,104,114,105] ∨ s.toList = [108,101,97] ∨ ((s.toList == [115,101,116]) = false ∧ (s.toList == [109,111,118]) = false ∧ (s.toList == [110,111,116]) = false ∧ (s.toList == [110,101,103]) = false ∧ (s.toList == [97,100,100]) = false ∧ (s.toList == [115,117,98]) = false ∧ (s.toList == [97,110,100]) = false ∧ (s.toList == [111,114]) = false ∧ (s.toList == [120,111,114]) = false ∧ (s.toList == [108,101,115,115]) = false ∧ (s.toList == [101,113]) = false ∧ (s.toList == [115,104,108]) = false ∧ (s.toList == [115,104,114]) = false ∧ (s.toList == [109,117,108]) = false ∧ (s.toList == [97,100,100,105]) = false ∧ (s.toList == [97,110,100,105]) = false ∧ (s.toList == [120,111,114,105]) = false ∧ (s.toList == [115,104,108,105]) = false ∧ (s.toList == [115,104,114,105]) = false ∧ (s.toList == [108,101,97]) = false) := by
  by_cases h0 : s.toList = [115,101,116]; · exact .inl h0
  by_cases h1 : s.toList = [109,111,118]; · exact .inr (.inl h1)
  by_cases h2 : s.toList = [110,111,116]; · exact .inr (.inr (.inl h2))
  by_cases h3 : s.toList = [110,101,103]; · exact .inr (.inr (.inr (.inl h3)))
  by_cases h4 : s.toList = [97,100,100]; · exact .inr (.inr (.inr (.inr (.inl h4))))
  by_cases h5 : s.toList = [115,117,98]; · exact .inr (.inr (.inr (.inr (.inr (.inl h5)))))
  by_cases h6 : s.toList = [97,110,100]; · exact .inr (.inr (.inr (.inr (.inr (.inr (.inl h6))))))
  by_cases h7 : s.toList = [111,114]; · exact .inr (.inr (.inr (.inr (.inr (.inr (.inr (.inl h7)))))))
  by_cases h8 : s.toList = [120,111,114]; · exact .inr (.inr (.inr (.inr (.inr (.inr (.inr (.inr (.inl h8))))))))
  by_cases h9 : s.toList = [108,101,115,115]; · exact .inr (.inr (.inr (.inr (.inr (.inr (.inr (.inr (.inr (.inl h9)))))))))
  by_cases h10 : s.toList = [101,113]; · exact .inr (.inr (.inr (.inr (.inr (.inr (.inr (.inr (.inr (.inr (.inl h10))))))))))
  by_cases h11 : s.toList = [115,104,108]; · exact .inr (.inr (.inr (.inr (.inr (.inr (.inr (.inr (.inr (.inr (.inr (.inl h11)))))))))))
  by_cases h12 : s.toList = [115,104,114]; · exact .inr (.inr (.inr (.inr (.inr (.inr (.inr (.inr (.inr (.inr (.inr (.inr (.inl h12))))))))))))
  by_cases h13 : s.toList = [109,117,108]; · exact .inr (.inr (.inr (.inr (.inr (.inr (.inr (.inr (.inr (.inr (.inr (.inr (.inr (.inl h13)))))))))))))
  by_cases h14 : s.toList = [97,100,100,105]; · exact .inr (.inr (.inr (.inr (.inr (.inr (.inr (.inr (.inr (.inr (.inr (.inr (.inr (.inr (.inl h14))))))))))))))
  by_cases h15 : s.toList = [97,110,100,105]; · exact .inr (.inr (.inr (.inr (.inr (.inr (.inr (.inr (.inr (.inr (.inr (.inr (.inr (.inr (.inr (.inl h15)))))))))))))))
  by_cases h16 : s.toList = [120,111,114,105]; · exact .inr (.inr (.inr (.inr (.inr (.inr (.inr (.inr (.inr (.inr (.inr (.inr (.inr (.inr (.inr (.inr (.inl h16))))))))))))))))
  by_cases h17 : s.toList = [115,104,108,105]; · exact .inr (.inr (.inr (.inr (.inr (.inr (.inr (.inr (.inr (.inr (.inr (.inr (.inr (.inr (.inr (.inr (.inr (.inl h17)))))))))))))))))
  by_cases h18 : s.toList = [115,104,114,105]; · exact .inr (.inr (.inr (.inr (.inr (.inr (.inr (.inr (.inr (.inr (.inr (.inr (.inr (.inr (.inr (.inr (.inr (.inr (.inl h18))))))))))))))))))
  by_cases h19 : s.toList = [108,101,97]; · exact .inr (.inr (.inr (.inr (.inr (.inr (.inr (.inr (.inr (.inr (.inr (.inr (.inr (.inr (.inr (.inr (.inr (.inr (.inr (.inl h19)))))))))))))))))))
  exact .inr (.inr (.inr (.inr (.inr (.inr (.inr (.inr (.inr (.inr (.inr (.inr (.inr (.inr (.inr (.inr (.inr (.inr (.inr (.inr (by simp [*]))))))))))))))))))))
theorem fm_set {s : ByteArray} (h : s.toList = [115,101,116]) : fm s = ⟨true, false, false, 0, 63, 1⟩ := by simp [fm, h]
theorem fm_mov {s : ByteArray} (h : s.toList = [109,111,118]) : fm s = ⟨true, true, false, 0, 0, 1⟩ := by simp [fm, h]
theorem fm_not {s : ByteArray} (h : s.toList = [110,111,116]) : fm s = ⟨true, true, false, 0, 0, 1⟩ := by simp [fm, h]
theorem fm_neg {s : ByteArray} (h : s.toList = [110,101,103]) : fm s = ⟨true, true, false, 0, 0, 1⟩ := by simp [fm, h]
theorem fm_add {s : ByteArray} (h : s.toList = [97,100,100]) : fm s = ⟨true, true, true, 0, 0, 1⟩ := by simp [fm, h]
theorem fm_sub {s : ByteArray} (h : s.toList = [115,117,98]) : fm s = ⟨true, true, true, 0, 0, 1⟩ := by simp [fm, h]
theorem fm_and {s : ByteArray} (h : s.toList = [97,110,100]) : fm s = ⟨true, true, true, 0, 0, 1⟩ := by simp [fm, h]
theorem fm_or {s : ByteArray} (h : s.toList = [111,114]) : fm s = ⟨true, true, true, 0, 0, 1⟩ := by simp [fm, h]
theorem fm_xor {s : ByteArray} (h : s.toList = [120,111,114]) : fm s = ⟨true, true, true, 0, 0, 1⟩ := by simp [fm, h]
theorem fm_less {s : ByteArray} (h : s.toList = [108,101,115,115]) : fm s = ⟨true, true, true, 0, 0, 1⟩ := by simp [fm, h]
theorem fm_eq {s : ByteArray} (h : s.toList = [101,113]) : fm s = ⟨true, true, true, 0, 0, 1⟩ := by simp [fm, h]
theorem fm_shl {s : ByteArray} (h : s.toList = [115,104,108]) : fm s = ⟨true, true, true, 0, 0, 2⟩ := by simp [fm, h]
theorem fm_shr {s : ByteArray} (h : s.toList = [115,104,114]) : fm s = ⟨true, true, true, 0, 0, 2⟩ := by simp [fm, h]
theorem fm_mul {s : ByteArray} (h : s.toList = [109,117,108]) : fm s = ⟨true, true, true, 0, 0, 4⟩ := by simp [fm, h]
theorem fm_addi {s : ByteArray} (h : s.toList = [97,100,100,105]) : fm s = ⟨true, true, false, 0, 63, 1⟩ := by simp [fm, h]
theorem fm_andi {s : ByteArray} (h : s.toList = [97,110,100,105]) : fm s = ⟨true, true, false, 0, 63, 1⟩ := by simp [fm, h]
theorem fm_xori {s : ByteArray} (h : s.toList = [120,111,114,105]) : fm s = ⟨true, true, false, 0, 63, 1⟩ := by simp [fm, h]
theorem fm_shli {s : ByteArray} (h : s.toList = [115,104,108,105]) : fm s = ⟨true, true, false, 1, 5, 1⟩ := by simp [fm, h]
theorem fm_shri {s : ByteArray} (h : s.toList = [115,104,114,105]) : fm s = ⟨true, true, false, 1, 5, 1⟩ := by simp [fm, h]
theorem fm_lea {s : ByteArray} (h : s.toList = [108,101,97]) : fm s = ⟨true, true, true, 1, 3, 1⟩ := by simp [fm, h]
theorem fm_no {s : ByteArray} (h : (s.toList == [115,101,116]) = false ∧ (s.toList == [109,111,118]) = false ∧ (s.toList == [110,111,116]) = false ∧ (s.toList == [110,101,103]) = false ∧ (s.toList == [97,100,100]) = false ∧ (s.toList == [115,117,98]) = false ∧ (s.toList == [97,110,100]) = false ∧ (s.toList == [111,114]) = false ∧ (s.toList == [120,111,114]) = false ∧ (s.toList == [108,101,115,115]) = false ∧ (s.toList == [101,113]) = false ∧ (s.toList == [115,104,108]) = false ∧ (s.toList == [115,104,114]) = false ∧ (s.toList == [109,117,108]) = false ∧ (s.toList == [97,100,100,105]) = false ∧ (s.toList == [97,110,100,105]) = false ∧ (s.toList == [120,111,114,105]) = false ∧ (s.toList == [115,104,108,105]) = false ∧ (s.toList == [115,104,114,105]) = false ∧ (s.toList == [108,101,97]) = false) : fm s = ⟨false, false, false, 0, 0, 0⟩ := by
  simp only [beq_eq_false_iff_ne] at h
  simp [fm, h]
end Go.Proofs.Ytieljgfocgdngaa

/- Slices of Instr: what the laws do with them. -/
namespace Go.Proofs.Ytieljgfocgdngaa
open Go.RowKit
set_option linter.unusedVariables false

theorem In.hk : ∀ x : In, (In.enc x).length = 5 := fun _ => rfl
theorem In.cells {w : World} {lo hi : Nat} {A : Option Addr} {es : List In} (h : RS In.enc 5 w lo hi A es) (hn : 0 < es.length) : ∃ b o, A = some ⟨b, o, none⟩ ∧ (lo ≤ b ∧ b < hi) ∧ ∀ i (h : i < es.length),
    w.cell? ⟨b, o + i * 5, none⟩ = some (.string es[i].op) ∧ w.cell? ⟨b, o + i * 5 + 1, none⟩ = some (.int .i64 es[i].d) ∧ w.cell? ⟨b, o + i * 5 + 2, none⟩ = some (.int .i64 es[i].a) ∧ w.cell? ⟨b, o + i * 5 + 3, none⟩ = some (.int .i64 es[i].b) ∧ w.cell? ⟨b, o + i * 5 + 4, none⟩ = some (.int .i64 es[i].m) := by
  obtain ⟨b, o, e, hb, hc⟩ := h hn
  exact ⟨b, o, e, hb, fun i hi => ⟨hc i hi 0 _ rfl, hc i hi 1 _ rfl, hc i hi 2 _ rfl, hc i hi 3 _ rfl, hc i hi 4 _ rfl⟩⟩
theorem In.cellsB {t : TypeId} {w : World} {g : Nat} {es : List In} {rest : List Value} (h : CB t w g (es.flatMap In.enc ++ rest)) (i : Nat) (hi : i < es.length) :
    ∃ z0 z1 z2 z3 z4, w.cell? ⟨g, i * 5, none⟩ = some (.string z0) ∧ w.cell? ⟨g, i * 5 + 1, none⟩ = some (.int .i64 z1) ∧ w.cell? ⟨g, i * 5 + 2, none⟩ = some (.int .i64 z2) ∧ w.cell? ⟨g, i * 5 + 3, none⟩ = some (.int .i64 z3) ∧ w.cell? ⟨g, i * 5 + 4, none⟩ = some (.int .i64 z4) :=
  ⟨_, _, _, _, _, h.at In.hk i hi 0 _ rfl, h.at In.hk i hi 1 _ rfl, h.at In.hk i hi 2 _ rfl, h.at In.hk i hi 3 _ rfl, h.at In.hk i hi 4 _ rfl⟩


def SzInstr (w : World) (left : Int) (n : Nat) (e : Ending) (w' : World) : Prop := ∃ r : Int, e = .returned (.int .i64 r) ∧ r ≤ left ∧ (0 ≤ r → (n : Int) ≤ left) ∧ -1 ≤ r ∧ Below w.heap.size w w'
def zeroIn : In := ⟨ByteArray.empty, 0, 0, 0, 0⟩
theorem cb_nil {t : TypeId} {w : World} {g : Nat} {xs : List In} (h : CB t w g (xs.flatMap In.enc ++ [])) : KB In.enc t w g xs := by
  unfold CB at h; unfold KB; rw [List.append_nil] at h; exact h
end Go.Proofs.Ytieljgfocgdngaa

/- Slices of Instr: marks. -/
namespace Go.Proofs.Ytieljgfocgdngaa
open Go.RowKit
set_option linter.unusedVariables false

theorem In.rs {t : TypeId} {w : World} {lo hi n c : Nat} {A : Option Addr} {xs : List In} (h : OK In.enc 5 t w lo hi (.slice A n c) xs) : RS In.enc 5 w lo hi A xs := by
  obtain ⟨A', c', e, his⟩ := h.form In.hk
  injection e with a _ _; subst a; exact his
theorem In.boxed {t : TypeId} {w : World} (x : In) : RS In.enc 5 (w.alloc (.cells #[.string x.op, .int .i64 x.d, .int .i64 x.a, .int .i64 x.b, .int .i64 x.m] t)) w.heap.size (w.heap.size + 1) (some ⟨w.heap.size, 0, none⟩) [x] :=
  KB.toRS In.hk (t := t) (by unfold KB; rw [heap_alloc_new]; rfl)
theorem In.box {w : World} {lo hi g : Nat} {x : In} (h : RS In.enc 5 w lo hi (some ⟨g, 0, none⟩) [x]) : w.cell? ⟨g, 0, none⟩ = some (.string x.op) ∧ w.cell? ⟨g, 1, none⟩ = some (.int .i64 x.d) ∧ w.cell? ⟨g, 2, none⟩ = some (.int .i64 x.a) ∧ w.cell? ⟨g, 3, none⟩ = some (.int .i64 x.b) ∧ w.cell? ⟨g, 4, none⟩ = some (.int .i64 x.m) := by
  obtain ⟨b, o, e, _, hc⟩ := h (by simp)
  injection e with e; injection e with e1 e2 _; subst e1; subst e2
  have := fun j v hv => hc 0 (by simp) j v hv
  simp only [Nat.zero_mul, Nat.zero_add, List.getElem_cons_zero] at this
  exact ⟨this 0 _ rfl, this 1 _ rfl, this 2 _ rfl, this 3 _ rfl, this 4 _ rfl⟩
def markIn (k0 : Int) (i : Nat) : In := ⟨mtx (k0 + 5 * (i : Int)), k0 + 5 * (i : Int) + 1, k0 + 5 * (i : Int) + 1 + 1, k0 + 5 * (i : Int) + 1 + 1 + 1, k0 + 5 * (i : Int) + 1 + 1 + 1 + 1⟩
def marksIn (k0 : Int) (n : Nat) : List In := (List.range n).map (markIn k0)
theorem marksIn_len (k0 : Int) (n : Nat) : (marksIn k0 n).length = n := by simp [marksIn]
end Go.Proofs.Ytieljgfocgdngaa

/- Arguments of the types []laws.Instr, laws.Instr and []int opened. -/
namespace Go.Proofs.Ytieljgfocgdngaa
open Go.ChangeShapes Go.WideShapes Go.ChangeAt Go.RowKit Go.Deep
open Go.ChangeMaps (open_string shut_string)
set_option linter.unusedVariables false

theorem cellsStr : Try.prog.cellsOf 9 = 1 := by kernel_rfl
theorem cellsInt : Try.prog.cellsOf 3 = 1 := by kernel_rfl

theorem cell_lt_heap {w : World} {a : Addr} {v : Value} (h : w.cell? a = some v) : a.block < w.heap.size := by
  rcases Nat.lt_or_ge a.block w.heap.size with hlt | hge
  · exact hlt
  · unfold World.cell? at h; rw [Array.getElem?_eq_none hge] at h; simp at h

set_option maxRecDepth 100000 in
theorem ints_of_trod {H : Type} {enc : TypeId × Value → H} {w : World} {spare : Nat → Bool} {held : Bool} {A : Option Addr} {len cap : Nat} {d : DataW H} {p : List MemPlace}
    (h : DataW.Trod enc Try.prog w 0 spare held 76 (.slice A len cap) d p) :
    ∃ xs : List Int, xs.length = len ∧ IS w 0 w.heap.size A xs ∧ len ≤ 9223372036854775807 := by
  obtain ⟨fuel, hf⟩ := h
  rcases open_slice Try.underlying76 hf with ⟨hcs, _⟩ | ⟨a, l, c, m, n, D, Pl, hcs, _, hl, hm, hmm, _, hi⟩
  · simp [Value.cells] at hcs
    obtain ⟨rfl, rfl, rfl⟩ := hcs
    exact ⟨[], rfl, fun h => absurd h (by simp), by omega⟩
  · simp [Value.cells] at hcs
    obtain ⟨rfl, rfl, rfl⟩ := hcs
    have hlm : len ≤ m := by rw [hmm]; split <;> omega
    have hex : ∀ i, i < len → ∃ x : Int, w.cell? (a.add i) = some (.int .i64 x) := by
      intro i hil
      obtain ⟨cs', hc, ht⟩ := hi i (by omega)
      rw [cellsInt, Nat.mul_one] at hc
      obtain ⟨x, hx, _, _⟩ := DataW.trod_int Try.underlying3 ht
      obtain ⟨_, _, hat⟩ := World.cells?_some hc
      have := hat 0 (by omega)
      rw [add_add, hx] at this
      exact ⟨x, by simpa using this⟩
    obtain ⟨f, hf2⟩ := Classical.axiomOfChoice (fun i : {i // i < len} => hex i.1 i.2)
    have hget : ∀ i (h : i < (List.ofFn fun i : Fin len => f ⟨i.1, i.2⟩).length), (List.ofFn fun i : Fin len => f ⟨i.1, i.2⟩)[i] = f ⟨i, by simpa using h⟩ := fun i h => by simp
    refine ⟨List.ofFn fun i : Fin len => f ⟨i.1, i.2⟩, by simp, ?_, by unfold maxLen at hm; omega⟩
    intro hpos
    have hpos' : 0 < len := by simpa using hpos
    have h0 := hf2 ⟨0, hpos'⟩
    obtain ⟨b, o, spot⟩ := a
    have hspot : spot = none := by have := World.cell?_spot h0; simpa [Addr.add] using this
    subst hspot
    have hadd : ∀ k, (⟨b, o, none⟩ : Addr).add k = ⟨b, o + k, none⟩ := fun k => by simp [Addr.add]
    refine ⟨b, o, rfl, ⟨Nat.zero_le _, ?_⟩, fun i hi => ?_⟩
    · rw [hadd] at h0
      exact cell_lt_heap h0
    · have hi' : i < len := by simpa using hi
      rw [hget i hi]
      have := hf2 ⟨i, hi'⟩
      simp only [hadd] at this
      exact this
end Go.Proofs.Ytieljgfocgdngaa

/- An argument of type []laws.Node opened as a list of nodes. -/
namespace Go.Proofs.Ytieljgfocgdngaa
open Go.ChangeShapes Go.WideShapes Go.ChangeAt Go.RowKit Go.Deep
open Go.ChangeMaps (open_string shut_string)
set_option linter.unusedVariables false
set_option maxRecDepth 100000

theorem cellsNode : Try.prog.cellsOf 58 = 4 := by kernel_rfl

theorem node_of_trod {H : Type} {enc : TypeId × Value → H} {w : World} {base : Nat} {spare : Nat → Bool} {held : Bool} {n : Nat} {cs : List Value} {x : DataW H × List MemPlace}
    (h : DataW.trod enc Try.prog w base spare held n 58 cs = some x) : ∃ nd : Nd, cs = nd.cells ∧ nd.op.size ≤ maxLen := by
  obtain ⟨xs, m, _, _, hlen, hxl, hf⟩ := DataW.trod_struct Try.underlying58 h
  rw [cellsNode] at hlen
  match cs, hlen with
  | [c0, c1, c2, c3], _ =>
    match xs, hxl with
    | [y0, y1, y2, y3], _ =>
      have h0 := hf 0 _ rfl
      change DataW.trod enc Try.prog w base spare held m 9 (([c0, c1, c2, c3].drop 0).take (Try.prog.cellsOf 9)) = _ at h0
      rw [cellsStr] at h0
      have h1 := hf 1 _ rfl
      change DataW.trod enc Try.prog w base spare held m 3 (([c0, c1, c2, c3].drop 1).take (Try.prog.cellsOf 3)) = _ at h1
      rw [cellsInt] at h1
      have h2 := hf 2 _ rfl
      change DataW.trod enc Try.prog w base spare held m 3 (([c0, c1, c2, c3].drop 2).take (Try.prog.cellsOf 3)) = _ at h2
      rw [cellsInt] at h2
      have h3 := hf 3 _ rfl
      change DataW.trod enc Try.prog w base spare held m 3 (([c0, c1, c2, c3].drop 3).take (Try.prog.cellsOf 3)) = _ at h3
      rw [cellsInt] at h3
      obtain ⟨s, e0, _, hs⟩ := DataW.trod_string Try.underlying9 h0
      obtain ⟨a, e1, _, _⟩ := DataW.trod_int Try.underlying3 h1
      obtain ⟨b, e2, _, _⟩ := DataW.trod_int Try.underlying3 h2
      obtain ⟨v, e3, _, _⟩ := DataW.trod_int Try.underlying3 h3
      have e0 : c0 = .string s := by simpa using e0
      have e1 : c1 = .int .i64 a := by simpa using e1
      have e2 : c2 = .int .i64 b := by simpa using e2
      have e3 : c3 = .int .i64 v := by simpa using e3
      exact ⟨⟨s, a, b, v⟩, by rw [e0, e1, e2, e3]; rfl, hs⟩

theorem nodes_of_trod_ns {H : Type} {enc : TypeId × Value → H} {w : World} {spare : Nat → Bool} {held : Bool} {A : Option Addr} {len cap : Nat} {d : DataW H} {p : List MemPlace}
    (h : DataW.Trod enc Try.prog w 0 spare held 22 (.slice A len cap) d p) :
    ∃ es : List Nd, es.length = len ∧ NS w 0 w.heap.size A es ∧ (∀ n ∈ es, n.op.size ≤ 9223372036854775807) ∧ len ≤ 9223372036854775807 := by
  obtain ⟨fuel, hf⟩ := h
  rcases open_slice Try.underlying22 hf with ⟨hcs, _⟩ | ⟨a, l, c, m, n, D, Pl, hcs, _, hl, hm, hmm, _, hi⟩
  · simp [Value.cells] at hcs
    obtain ⟨rfl, rfl, rfl⟩ := hcs
    exact ⟨[], rfl, fun h => absurd h (by simp), (fun n hn => by cases hn), by omega⟩
  · simp [Value.cells] at hcs
    obtain ⟨rfl, rfl, rfl⟩ := hcs
    have hlm : len ≤ m := by rw [hmm]; split <;> omega
    have hex : ∀ i, i < len → ∃ nd : Nd, (w.cell? (a.add (i * 4)) = some (.string nd.op) ∧ w.cell? (a.add (i * 4 + 1)) = some (.int .i64 nd.a) ∧ w.cell? (a.add (i * 4 + 2)) = some (.int .i64 nd.b) ∧ w.cell? (a.add (i * 4 + 3)) = some (.int .i64 nd.v)) ∧ nd.op.size ≤ maxLen := by
      intro i hil
      obtain ⟨cs', hc, ht⟩ := hi i (by omega)
      rw [cellsNode] at hc
      obtain ⟨nd, rfl, hs⟩ := node_of_trod ht
      obtain ⟨_, _, hat⟩ := World.cells?_some hc
      refine ⟨nd, ⟨?_, ?_, ?_, ?_⟩, hs⟩
      · have := hat 0 (by omega); rw [add_add] at this; exact this
      · have := hat 1 (by omega); rw [add_add] at this; exact this
      · have := hat 2 (by omega); rw [add_add] at this; exact this
      · have := hat 3 (by omega); rw [add_add] at this; exact this
    obtain ⟨f, hf2⟩ := Classical.axiomOfChoice (fun i : {i // i < len} => hex i.1 i.2)
    have hget : ∀ i (h : i < (List.ofFn fun i : Fin len => f ⟨i.1, i.2⟩).length), (List.ofFn fun i : Fin len => f ⟨i.1, i.2⟩)[i] = f ⟨i, by simpa using h⟩ := fun i h => by simp
    refine ⟨List.ofFn fun i : Fin len => f ⟨i.1, i.2⟩, by simp, ?_, ?_, by unfold maxLen at hm; omega⟩
    · intro hpos
      have hpos' : 0 < len := by simpa using hpos
      have h0 := (hf2 ⟨0, hpos'⟩).1.1
      obtain ⟨b, o, spot⟩ := a
      have hspot : spot = none := by have := World.cell?_spot h0; simpa [Addr.add] using this
      subst hspot
      have hadd : ∀ k, (⟨b, o, none⟩ : Addr).add k = ⟨b, o + k, none⟩ := fun k => by simp [Addr.add]
      refine ⟨b, o, rfl, ⟨Nat.zero_le _, ?_⟩, fun i hi => ?_⟩
      · rw [hadd] at h0
        exact cell_lt_heap h0
      · have hi' : i < len := by simpa using hi
        rw [hget i hi]
        have := (hf2 ⟨i, hi'⟩).1
        simp only [hadd, ← Nat.add_assoc] at this
        exact this
    · intro n hn
      obtain ⟨i, rfl⟩ := List.mem_ofFn.1 hn
      have := (hf2 ⟨i.1, i.2⟩).2
      unfold maxLen at this; omega
theorem nodes_of_trod {H : Type} {enc : TypeId × Value → H} {w : World} {spare : Nat → Bool} {held : Bool} {A : Option Addr} {len cap : Nat} {d : DataW H} {p : List MemPlace}
    (h : DataW.Trod enc Try.prog w 0 spare held 22 (.slice A len cap) d p) :
    ∃ es : List Nd, es.length = len ∧ RS Nd.enc 4 w 0 w.heap.size A es ∧ (∀ n ∈ es, n.op.size ≤ 9223372036854775807) ∧ len ≤ 9223372036854775807 := by
  obtain ⟨es, h1, h2, h3⟩ := nodes_of_trod_ns h
  exact ⟨es, h1, h2.rs, h3⟩
end Go.Proofs.Ytieljgfocgdngaa

/- An argument of type laws.Rule opened. -/
namespace Go.Proofs.Ytieljgfocgdngaa
open Go.ChangeShapes Go.WideShapes Go.ChangeAt Go.RowKit Go.Deep
open Go.ChangeMaps (open_string shut_string)
set_option linter.unusedVariables false
set_option maxRecDepth 100000

theorem cellsRule : Try.prog.cellsOf 41 = 3 := by kernel_rfl
theorem cellsNodes : Try.prog.cellsOf 22 = 1 := by kernel_rfl
theorem slice_of_trod {H : Type} {enc : TypeId × Value → H} {w : World} {spare : Nat → Bool} {held : Bool} {m : Nat} {c0 : Value} {x : DataW H × List MemPlace}
    (h : DataW.trod enc Try.prog w 0 spare held m 22 [c0] = some x) : ∃ A c, ∃ es : List Nd, c0 = .slice A es.length c ∧ RS Nd.enc 4 w 0 w.heap.size A es ∧ (∀ n ∈ es, n.op.size ≤ 9223372036854775807) ∧ es.length ≤ 9223372036854775807 := by
  obtain ⟨d, p⟩ := x
  have key : ∀ A l c, c0 = .slice A l c → ∃ A c, ∃ es : List Nd, c0 = .slice A es.length c ∧ RS Nd.enc 4 w 0 w.heap.size A es ∧ (∀ n ∈ es, n.op.size ≤ 9223372036854775807) ∧ es.length ≤ 9223372036854775807 := by
    intro A l c e
    subst e
    obtain ⟨es, h1, h2, h3, h4⟩ := nodes_of_trod (A := A) (len := l) (cap := c) (d := d) (p := p) ⟨m, h⟩
    subst h1
    exact ⟨A, c, es, rfl, h2, h3, h4⟩
  rcases open_slice Try.underlying22 h with ⟨hcs, _⟩ | ⟨a, l, c, _, _, _, _, hcs, _⟩
  · exact key _ _ _ (by simpa using hcs)
  · exact key _ _ _ (by simpa using hcs)
theorem rule_of_trod {H : Type} {enc : TypeId × Value → H} {w : World} {spare : Nat → Bool} {held : Bool} {n : Nat} {cs : List Value} {x : DataW H × List MemPlace}
    (h : DataW.trod enc Try.prog w 0 spare held n 41 cs = some x) : ∃ A1 c1 A2 c2, ∃ fr to : List Nd, ∃ s : ByteArray, cs = [.slice A1 fr.length c1, .slice A2 to.length c2, .string s] ∧
      (RS Nd.enc 4 w 0 w.heap.size A1 fr ∧ (∀ n ∈ fr, n.op.size ≤ 9223372036854775807) ∧ fr.length ≤ 9223372036854775807) ∧ (RS Nd.enc 4 w 0 w.heap.size A2 to ∧ (∀ n ∈ to, n.op.size ≤ 9223372036854775807) ∧ to.length ≤ 9223372036854775807) ∧ s.size ≤ 9223372036854775807 := by
  obtain ⟨xs, m, _, _, hlen, hxl, hf⟩ := DataW.trod_struct Try.underlying41 h
  rw [cellsRule] at hlen
  match cs, hlen with
  | [c0, c1, c2], _ =>
    match xs, hxl with
    | [y0, y1, y2], _ =>
      have h0 := hf 0 _ rfl
      change DataW.trod enc Try.prog w 0 spare held m 22 (([c0, c1, c2].drop 0).take (Try.prog.cellsOf 22)) = _ at h0
      rw [cellsNodes] at h0
      have h1 := hf 1 _ rfl
      change DataW.trod enc Try.prog w 0 spare held m 22 (([c0, c1, c2].drop 1).take (Try.prog.cellsOf 22)) = _ at h1
      rw [cellsNodes] at h1
      have h2 := hf 2 _ rfl
      change DataW.trod enc Try.prog w 0 spare held m 9 (([c0, c1, c2].drop 2).take (Try.prog.cellsOf 9)) = _ at h2
      rw [cellsStr] at h2
      obtain ⟨A1, q1, fr, e0, g1⟩ := slice_of_trod (c0 := c0) h0
      obtain ⟨A2, q2, to, e1, g2⟩ := slice_of_trod (c0 := c1) h1
      obtain ⟨s, e2, _, hs⟩ := DataW.trod_string Try.underlying9 h2
      have e2 : c2 = .string s := by simpa using e2
      exact ⟨A1, q1, A2, q2, fr, to, s, by rw [e0, e1, e2], g1, g2, by unfold maxLen at hs; omega⟩
theorem r_of_trod {H : Type} {enc : TypeId × Value → H} {w : World} {r : Reach} {b0 : Nat} {spare : Nat → Bool} {held : Bool} {v : Value} {d : DataW H} {p : List MemPlace}
    (hv : Value.okWide Try.prog w r b0 41 v) (h : DataW.Trod enc Try.prog w 0 spare held 41 v d p) :
    ∃ A1 c1 A2 c2, ∃ fr to : List Nd, ∃ s : ByteArray, v = .agg #[.slice A1 fr.length c1, .slice A2 to.length c2, .string s] ∧
      (RS Nd.enc 4 w 0 w.heap.size A1 fr ∧ (∀ n ∈ fr, n.op.size ≤ 9223372036854775807) ∧ fr.length ≤ 9223372036854775807) ∧ (RS Nd.enc 4 w 0 w.heap.size A2 to ∧ (∀ n ∈ to, n.op.size ≤ 9223372036854775807) ∧ to.length ≤ 9223372036854775807) ∧ s.size ≤ 9223372036854775807 := by
  obtain ⟨cs, rfl, hsz⟩ := okWide_struct Try.underlying41 hv
  obtain ⟨fuel, hf⟩ := h
  obtain ⟨A1, c1, A2, c2, fr, to, s, hx, g1, g2, g3⟩ := rule_of_trod hf
  refine ⟨A1, c1, A2, c2, fr, to, s, ?_, g1, g2, g3⟩
  obtain ⟨l⟩ := cs
  have hx' : l = [.slice A1 fr.length c1, .slice A2 to.length c2, .string s] := by simpa [Value.cells] using hx
  subst hx'; rfl
end Go.Proofs.Ytieljgfocgdngaa
