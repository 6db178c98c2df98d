import Derived.Test.YtieljgfocgdngaaTG
import Derived.Test.YtieljgfocgdngaaTC
import Derived.WalkKit
import Derived.WalkSpells
import Derived.WalkLawsBesides
import Derived.Lib.JoinLaws
import Derived.Lib.Hide
/- Tables made by a function value, at each of its types. -/
namespace Go.Proofs.Ytieljgfocgdngaa
open Go.RowKit
set_option linter.unusedVariables false
set_option maxRecDepth 100000

/-- What a table made by a function leaves. -/
def TabIs (N : Nat) (Inv : World → Prop) (w : World) (xs : List Int) (e : Ending) (w' : World) : Prop :=
  ∃ A c, e = .returned (.slice A 4096 c) ∧ OW w' w.heap.size w'.heap.size (.slice A 4096 c) xs ∧ Below N w w' ∧ Inv w'
/-- A method that tells a word for two inputs. -/
def Tells (N : Nat) (Inv : World → Prop) (w : World) (g : Nat) (xv : Value) (f : Int → Int → Int) : Prop :=
  ∀ (x0 x1 : Nat) (W : World), x0 < 64 → x1 < 64 → Below N w W → w.heap.size ≤ W.heap.size → Inv W → Calls Try.prog g #[xv, .int .i64 x0, .int .i64 x1] W fun e W' =>
    e = .returned (.int .i64 (f x0 x1)) ∧ Inv W' ∧ ∃ row, W.grownBy W' row ∧ ∀ k, row = some k → N ≤ k ∧ k < w.heap.size


set_option maxHeartbeats 8000000 in
theorem tableFor_P (v0 : Value) (v1 : Value) (f : Int → Int → Int) (N : Nat) (Inv : World → Prop) (w : World) (hN : N ≤ w.heap.size) (hI0 : Inv w) (hst : ∀ W W' : World, Inv W → (∀ k, k < w.heap.size → W'.heap[k]? = W.heap[k]?) → Inv W')
    (hat : Tells N Inv w 114 (.agg #[v0, v1]) f) :
    Calls Try.prog 113 #[.agg #[v0, v1], .func (.func 114) #[] #[]] w (TabIs N Inv w (tabTo f 4096)) := by
  have hAT := Lib.hid hat
  have hST := Lib.hid hst
  have hI0' := Lib.hid hI0
  clear hat hst hI0
  have hmk0 : ∀ W : World, (Instr.makeSlice 76 (.int .i64 0) (.int .i64 4096)).run Try.prog W = .ok (.slice (some ⟨W.heap.size, 0, none⟩) 0 4096) (W.alloc (.cells (madeCells #[.int .i64 0] 4096) 3)) := fun W => run_make_room (P := Try.prog) 76 3 (.int .i64 0) 8 Try.underlying76 Try.infoInt rfl .i64 .i64 4096 (by omega) (by omega) W
  obtain ⟨w1, hw1⟩ : ∃ w1, w1 = (w.alloc (.cells #[v0, v1] 120)) := ⟨_, rfl⟩
  have hB1 : Below w.heap.size w w1 := by rw [hw1]; exact (Below.refl _ _).alloc (Nat.le_refl _) _
  have hz1 : w1.heap.size = w.heap.size + 1 := by rw [hw1]; simp
  have hbx : w1.heap[w.heap.size]? = some (.cells #[v0, v1] 120 (0, 0)) := by rw [hw1]; exact heap_alloc_new w _
  have hT0 : Hid (IB (w1.alloc (.cells (madeCells #[.int .i64 0] 4096) 3)) w1.heap.size 3 (tabTo f (64 * 0 + 0) ++ zeros (4096 - (64 * 0 + 0)))) := by
    have h1 : madeCells #[Value.int .i64 0] 4096 = intCells (zeros 4096) := by
      apply Array.ext'
      rw [intCells, zeros, List.map_replicate]
      exact toList_madeCells_one _ _
    rw [h1]
    exact heap_alloc_new w1 _
  have hB3 := Lib.hid ((hB1.mono (Nat.le_refl _)).alloc hB1.size (.cells (madeCells #[.int .i64 0] 4096) 3))
  have hI1 := Lib.hid (hST.out w (w1.alloc (.cells (madeCells #[.int .i64 0] 4096) 3)) hI0'.out (fun k hk => hB3.out.block k hk))
  have hX1 := Lib.hid ((((Below.refl w1.heap.size w1).alloc (Nat.le_refl _) (.cells (madeCells #[.int .i64 0] 4096) 3)).block w.heap.size (by omega)).trans hbx)
  have hsz0 : Hid (w1.heap.size + 1 ≤ (w1.alloc (.cells (madeCells #[.int .i64 0] 4096) 3)).heap.size) := by unfold Hid; simp
  generalize madeCells #[Value.int .i64 0] 4096 = mc at *
  go_enter Try.func113, Try.ntmps113
  go_wp2
  try rw [← hw1]
  try rw [← hz1]
  generalize hW0 : w1.alloc (.cells mc 3) = W0 at *
  generalize hg0 : w1.heap.size = g at *
  have hgw : w.heap.size ≤ g := by omega
  clear hW0 hmk0 hw1 hB1 hbx
  have hgz : g = w.heap.size + 1 := by omega
  clear hg0 hz1
  have hGZ := Lib.hid hgz
  have hGW := Lib.hid hgw
  have hNN := Lib.hid hN
  clear hgz hgw hN
  go_loopw [5, 9] (fun v i wr => ∃ k : Nat, k ≤ 64 ∧ i = .int .i64 k ∧ v = .slice (some ⟨g, 0, none⟩) (64 * k + 0) 4096 ∧ IB wr g 3 (tabTo f (64 * k + 0) ++ zeros (4096 - (64 * k + 0))) ∧ Below N w wr ∧ Inv wr ∧ g < wr.heap.size ∧ wr.heap[w.heap.size]? = some (.cells #[v0, v1] 120 (0, 0))) (fun _ i _ => 64 - (intOf i).toNat)
  case atStart => exact ⟨0, Nat.zero_le _, rfl, rfl, hT0.out, hB3.out.mono hNN.out, hI1.out, hsz0.out, hX1.out⟩
  case round =>
    obtain ⟨k, hk, rfl, rfl, hib, hbel, hinv, hgl, hbx⟩ := hrel
    have hIB := Lib.hid hib
    have hBL := Lib.hid hbel
    have hIN := Lib.hid hinv
    have hGL := Lib.hid hgl
    have hX2 := Lib.hid hbx
    clear hib hbel hinv hgl hbx
    by_cases hlt : k < 64
    · obtain ⟨wo, hwo⟩ : ∃ wo : World, wo = wr := ⟨_, rfl⟩
      rw [← hwo] at hIB hBL hIN hGL hX2 ⊢
      clear hwo
      have hk64 : (k : Int) < 64 := by omega
      have hd64 : decide ((k : Int) < 64) = true := by simpa using hk64
      go_wp2
      go_loopw [5, 12] (fun v j wr => ∃ n : Nat, n ≤ 64 ∧ j = .int .i64 n ∧ v = .slice (some ⟨g, 0, none⟩) (64 * k + n) 4096 ∧ IB wr g 3 (tabTo f (64 * k + n) ++ zeros (4096 - (64 * k + n))) ∧ Below N w wr ∧ Inv wr ∧ g < wr.heap.size ∧ wr.heap[w.heap.size]? = some (.cells #[v0, v1] 120 (0, 0))) (fun _ j _ => 64 - (intOf j).toNat)
      case atStart => exact ⟨0, Nat.zero_le _, rfl, rfl, hIB.out, hBL.out, hIN.out, hGL.out, hX2.out⟩
      case round =>
        obtain ⟨n, hn, rfl, rfl, hib, hbel, hinv, hgl, hbx⟩ := hrel
        have hJB := Lib.hid hib
        have hCL := Lib.hid hbel
        have hJN := Lib.hid hinv
        have hGL := Lib.hid hgl
        have hX3 := Lib.hid hbx
        have hcx := fun i => cell_of_row _ w.heap.size i _ _ (0, 0) hbx
        have hc0 : wr.cell? ⟨w.heap.size, 0, none⟩ = some v0 := hcx 0
        have hc1 : wr.cell? ⟨w.heap.size, 1, none⟩ = some v1 := hcx 1
        clear hib hbel hinv hgl hbx hcx
        by_cases hlt2 : n < 64
        · have hn64 : (n : Int) < 64 := by omega
          have hdn64 : decide ((n : Int) < 64) = true := by simpa using hn64
          go_wp2_with (fail)
          refine (hAT.out k n _ hlt hlt2 hCL.out (by have := hGL.out; have := hGW.out; omega) hJN.out).mono ?_
          rintro e w3 ⟨rfl, hi3, row, hg3, hrow⟩
          have hgz3 := hg3.size
          have q1 := hGZ.out
          have q2 := hGW.out
          have q3 := hNN.out
          have hJ3 : Hid (IB w3 g 3 (tabTo f (64 * k + n) ++ zeros (4096 - (64 * k + n)))) := (hg3.block g hJB.out.lt (fun e => by have := hrow g e.symm; omega)).trans hJB.out
          have hC3 := Lib.hid (hCL.out.grown hg3 (by have := hGL.out; omega) (fun q hq => (hrow q hq).1))
          have hN3 := Lib.hid hi3
          have hz3 := Lib.hid hJ3.out.lt
          have hX4 := Lib.hid ((hg3.block w.heap.size (by have := hGL.out; omega) (fun e => by have := hrow _ e.symm; omega)).trans hX3.out)
          have hTL := Lib.hid (tabTo_len f (64 * k + n))
          have hS := Lib.hid (tabTo_succ f k n hlt2)
          clear hi3 hg3 hrow hgz3
          generalize tabTo f (64 * k + n) = zs at *
          generalize f k n = x at *
          obtain ⟨r, hr⟩ : ∃ r, 4096 - (64 * k + n) = r + 1 := ⟨4096 - (64 * k + n) - 1, by omega⟩
          have hr2 : Hid (4096 - (64 * k + (n + 1)) = r) := by simp only [Hid]; omega
          rw [hr] at hJ3
          have hba := Lib.hid ((Below.refl w3.heap.size w3).alloc (Nat.le_refl _) (.cells #[.int .i64 x] 3))
          have hJ4 := Lib.hid (hJ3.out.below hba.out hJ3.out.lt)
          have hap := Lib.hid (fun ty => append_room_int hJ4.out ty 4096 (by rw [hTL.out]; omega) w3.heap.size x (by simp))
          have hst := Lib.hid (room_set hJ4.out x)
          have hCf := Lib.hid ((hC3.out.alloc (by have := hC3.out.size; omega) (.cells #[.int .i64 x] 3)).setCell (p := ⟨g, zs.length, none⟩) (by show N ≤ g; omega) (.int .i64 x))
          have hIf := Lib.hid (hST.out w3 ((w3.alloc (.cells #[.int .i64 x] 3)).setCell ⟨g, zs.length, none⟩ (.int .i64 x)) hN3.out (fun q hq => (Below.heap_setCell _ ⟨g, zs.length, none⟩ _ q (by show q ≠ g; omega)).trans (hba.out.block q (by have := hz3.out; omega))))
          have hzf : Hid (g < ((w3.alloc (.cells #[.int .i64 x] 3)).setCell ⟨g, zs.length, none⟩ (.int .i64 x)).heap.size) := by
            have := hz3.out; unfold Hid; simp [World.setCell]; omega
          have hXf := Lib.hid ((Below.heap_setCell (w3.alloc (.cells #[.int .i64 x] 3)) ⟨g, zs.length, none⟩ (.int .i64 x) w.heap.size (by show w.heap.size ≠ g; omega)).trans ((hba.out.block w.heap.size (by have := hz3.out; omega)).trans hX4.out))
          rw [hTL.out] at hap hst hCf hIf hzf hXf
          clear hr q1 q2 q3
          go_wp2_with (at_builtin; refine Lib.wpList_append_run _ rfl _ _ _ _ rfl _ _ rfl rfl _ _ (hap.out _) ?_)
          go_roundw
          case rel => exact ⟨n + 1, by omega, by go_num, rfl, by rw [hS.out, hr2.out]; exact hst.out, hCf.out, hIf.out, hzf.out, hXf.out⟩
          case measure => simp [intOf]; omega
        · obtain rfl : n = 64 := by omega
          rw [tabTo_next] at hJB
          go_wp2
          go_roundw
          case rel => exact ⟨k + 1, by omega, by go_num, rfl, hJB.out, hCL.out, hJN.out, hGL.out, hX3.out⟩
          case measure => simp [intOf]; omega
    · obtain rfl : k = 64 := by omega
      have hfin := Lib.hid (room_ow (lo := w.heap.size) (hi := wr.heap.size) (r := 0) hIB.out (by have := hGW.out; omega) hIB.out.lt (by rw [tabTo_len]; omega))
      rw [tabTo_len] at hfin
      go_wp2
      go_ret
      exact ⟨_, _, rfl, hfin.out, hBL.out, hIN.out⟩

end Go.Proofs.Ytieljgfocgdngaa
