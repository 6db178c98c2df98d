/- Texts of this proof, one behind the other: TG, TI, TJ, TK, GE, RR. -/
import Derived.Test.YtdleiondfhmjdaaZ4
import Derived.Test.YtdleiondfhmjdaaLI
import Derived.Test.YtdleiondfhmjdaaA
import Derived.WalkKit
import Derived.WalkSpells
import Derived.WalkLawsBesides
import Derived.StillTailTactics
import Derived.Deep.QuietTactic
import Derived.BigQuiet
import Derived.Lib.Hide
import Derived.Lib.JoinLaws
import Derived.Test.YtdleiondfhmjdaaEA
import Derived.RangeFuncNested
import Derived.RangeFuncCalls
import Derived.RangeFuncLeaves
import Derived.TacticsInMore
import Derived.OrdersIn
import Derived.Deep.RegionHeld3
/- The program's helpers of chapter 3 over tables. -/
namespace Go.Proofs.Ytdleiondfhmjdaa
open Go.RowKit
set_option linter.unusedVariables false
set_option maxRecDepth 100000

set_option maxHeartbeats 400000 in
theorem at_any (L B : Nat) (A : Option Addr) (c n : Nat) (xs : List Int) (x0 x1 : Nat) (w : World) (hn : n = 4096) (hl : xs.length = n) (hx : IS w L B A xs) (h0 : x0 < 64) (h1 : x1 < 64) :
    Calls Try.prog 162 #[.slice A n c, .int .i64 x0, .int .i64 x1] w fun e w' => e = .returned (.int .i64 (xs.getD (64 * x0 + x1) 0)) ∧ w = w' := by
  obtain ⟨m, hm⟩ : ∃ m, m = 64 * x0 + x1 := ⟨_, rfl⟩
  have hi : m < xs.length := by omega
  obtain ⟨b, o, rfl, _, hc⟩ := hx (by omega)
  have c1 := hc _ hi
  have hq := Lib.hid (getD_get hi)
  rw [← hm]
  clear hc hx
  generalize xs[m] = x at *
  have hw : (64 : Int) * (x0 : Int) + (x1 : Int) = (m : Int) := by omega
  have hmn : m < n := by omega
  have hw0 : wrap64 (64 * (x0 : Int)) = 64 * (x0 : Int) := by unfold wrap64; omega
  have hw1 : wrap64 (m : Int) = (m : Int) := by unfold wrap64; omega
  clear hl hm hi hn
  go_enter Try.func162, Try.ntmps162
  go_wp2
  go_ret
  exact ⟨ret_int hq.out.symm, rfl⟩

theorem isDifference_any (x : Int) (w : World) : Calls Try.prog 138 #[.int .i64 x] w fun e w' => e = .returned (.bool (x != 0)) ∧ w = w' := by
  go_enter Try.func138, Try.ntmps138
  go_wp2
  go_ret
  exact ⟨rfl, rfl⟩

theorem inputsAt_any (k : Nat) (w : World) (hk : k < 4096) : Calls Try.prog 139 #[.int .i64 k] w fun e w' => e = .returned (.tuple #[.int .i64 ((k : Int) / 64), .int .i64 ((k : Int) % 64)]) ∧ w = w' := by
  go_enter Try.func139, Try.ntmps139
  go_wp2
  go_ret2
  have h1 : wrap64 ((k : Int) / 64) = (k : Int) / 64 := by unfold wrap64; omega
  exact ⟨by rw [← h1]; rfl, rfl⟩

end Go.Proofs.Ytdleiondfhmjdaa

/- Tables made by a function value, at each of its types. -/
namespace Go.Proofs.Ytdleiondfhmjdaa
open Go.RowKit
set_option linter.unusedVariables false
set_option maxRecDepth 100000

/-- What a table made by a function leaves. -/
def TabIs (N : Nat) (Inv : World → Prop) (w : World) (xs : List Int) (e : Ending) (w' : World) : Prop :=
  ∃ A c, e = .returned (.slice A 4096 c) ∧ OW w' w.heap.size w'.heap.size (.slice A 4096 c) xs ∧ Below N w w' ∧ Inv w'
/-- A method that tells a word for two inputs. -/
def Tells (N : Nat) (Inv : World → Prop) (w : World) (g : Nat) (xv : Value) (f : Int → Int → Int) : Prop :=
  ∀ (x0 x1 : Nat) (W : World), x0 < 64 → x1 < 64 → Below N w W → w.heap.size ≤ W.heap.size → Inv W → Calls Try.prog g #[xv, .int .i64 x0, .int .i64 x1] W fun e W' =>
    e = .returned (.int .i64 (f x0 x1)) ∧ Inv W' ∧ ∃ row, W.grownBy W' row ∧ ∀ k, row = some k → N ≤ k ∧ k < w.heap.size


set_option maxHeartbeats 8000000 in
theorem tableFor_P (v0 : Value) (v1 : Value) (f : Int → Int → Int) (N : Nat) (Inv : World → Prop) (w : World) (hN : N ≤ w.heap.size) (hI0 : Inv w) (hst : ∀ W W' : World, Inv W → (∀ k, k < w.heap.size → W'.heap[k]? = W.heap[k]?) → Inv W')
    (hat : Tells N Inv w 136 (.agg #[v0, v1]) f) :
    Calls Try.prog 135 #[.agg #[v0, v1], .func (.func 136) #[] #[]] w (TabIs N Inv w (tabTo f 4096)) := by
  have hAT := Lib.hid hat
  have hST := Lib.hid hst
  have hI0' := Lib.hid hI0
  clear hat hst hI0
  have hmk0 : ∀ W : World, (Instr.makeSlice 23 (.int .i64 0) (.int .i64 4096)).run Try.prog W = .ok (.slice (some ⟨W.heap.size, 0, none⟩) 0 4096) (W.alloc (.cells (madeCells #[.int .i64 0] 4096) 3)) := fun W => run_make_room (P := Try.prog) 23 3 (.int .i64 0) 8 Try.underlying23 Try.infoInt rfl .i64 .i64 4096 (by omega) (by omega) W
  obtain ⟨w1, hw1⟩ : ∃ w1, w1 = (w.alloc (.cells #[v0, v1] 156)) := ⟨_, rfl⟩
  have hB1 : Below w.heap.size w w1 := by rw [hw1]; exact (Below.refl _ _).alloc (Nat.le_refl _) _
  have hz1 : w1.heap.size = w.heap.size + 1 := by rw [hw1]; simp
  have hbx : w1.heap[w.heap.size]? = some (.cells #[v0, v1] 156 (0, 0)) := by rw [hw1]; exact heap_alloc_new w _
  have hT0 : Hid (IB (w1.alloc (.cells (madeCells #[.int .i64 0] 4096) 3)) w1.heap.size 3 (tabTo f (64 * 0 + 0) ++ zeros (4096 - (64 * 0 + 0)))) := by
    have h1 : madeCells #[Value.int .i64 0] 4096 = intCells (zeros 4096) := by
      apply Array.ext'
      rw [intCells, zeros, List.map_replicate]
      exact toList_madeCells_one _ _
    rw [h1]
    exact heap_alloc_new w1 _
  have hB3 := Lib.hid ((hB1.mono (Nat.le_refl _)).alloc hB1.size (.cells (madeCells #[.int .i64 0] 4096) 3))
  have hI1 := Lib.hid (hST.out w (w1.alloc (.cells (madeCells #[.int .i64 0] 4096) 3)) hI0'.out (fun k hk => hB3.out.block k hk))
  have hX1 := Lib.hid ((((Below.refl w1.heap.size w1).alloc (Nat.le_refl _) (.cells (madeCells #[.int .i64 0] 4096) 3)).block w.heap.size (by omega)).trans hbx)
  have hsz0 : Hid (w1.heap.size + 1 ≤ (w1.alloc (.cells (madeCells #[.int .i64 0] 4096) 3)).heap.size) := by unfold Hid; simp
  generalize madeCells #[Value.int .i64 0] 4096 = mc at *
  go_enter Try.func135, Try.ntmps135
  go_wp2
  try rw [← hw1]
  try rw [← hz1]
  generalize hW0 : w1.alloc (.cells mc 3) = W0 at *
  generalize hg0 : w1.heap.size = g at *
  have hgw : w.heap.size ≤ g := by omega
  clear hW0 hmk0 hw1 hB1 hbx
  have hgz : g = w.heap.size + 1 := by omega
  clear hg0 hz1
  have hGZ := Lib.hid hgz
  have hGW := Lib.hid hgw
  have hNN := Lib.hid hN
  clear hgz hgw hN
  go_loopw [5, 9] (fun v i wr => ∃ k : Nat, k ≤ 64 ∧ i = .int .i64 k ∧ v = .slice (some ⟨g, 0, none⟩) (64 * k + 0) 4096 ∧ IB wr g 3 (tabTo f (64 * k + 0) ++ zeros (4096 - (64 * k + 0))) ∧ Below N w wr ∧ Inv wr ∧ g < wr.heap.size ∧ wr.heap[w.heap.size]? = some (.cells #[v0, v1] 156 (0, 0))) (fun _ i _ => 64 - (intOf i).toNat)
  case atStart => exact ⟨0, Nat.zero_le _, rfl, rfl, hT0.out, hB3.out.mono hNN.out, hI1.out, hsz0.out, hX1.out⟩
  case round =>
    obtain ⟨k, hk, rfl, rfl, hib, hbel, hinv, hgl, hbx⟩ := hrel
    have hIB := Lib.hid hib
    have hBL := Lib.hid hbel
    have hIN := Lib.hid hinv
    have hGL := Lib.hid hgl
    have hX2 := Lib.hid hbx
    clear hib hbel hinv hgl hbx
    by_cases hlt : k < 64
    · obtain ⟨wo, hwo⟩ : ∃ wo : World, wo = wr := ⟨_, rfl⟩
      rw [← hwo] at hIB hBL hIN hGL hX2 ⊢
      clear hwo
      have hk64 : (k : Int) < 64 := by omega
      have hd64 : decide ((k : Int) < 64) = true := by simpa using hk64
      go_wp2
      go_loopw [5, 12] (fun v j wr => ∃ n : Nat, n ≤ 64 ∧ j = .int .i64 n ∧ v = .slice (some ⟨g, 0, none⟩) (64 * k + n) 4096 ∧ IB wr g 3 (tabTo f (64 * k + n) ++ zeros (4096 - (64 * k + n))) ∧ Below N w wr ∧ Inv wr ∧ g < wr.heap.size ∧ wr.heap[w.heap.size]? = some (.cells #[v0, v1] 156 (0, 0))) (fun _ j _ => 64 - (intOf j).toNat)
      case atStart => exact ⟨0, Nat.zero_le _, rfl, rfl, hIB.out, hBL.out, hIN.out, hGL.out, hX2.out⟩
      case round =>
        obtain ⟨n, hn, rfl, rfl, hib, hbel, hinv, hgl, hbx⟩ := hrel
        have hJB := Lib.hid hib
        have hCL := Lib.hid hbel
        have hJN := Lib.hid hinv
        have hGL := Lib.hid hgl
        have hX3 := Lib.hid hbx
        have hcx := fun i => cell_of_row _ w.heap.size i _ _ (0, 0) hbx
        have hc0 : wr.cell? ⟨w.heap.size, 0, none⟩ = some v0 := hcx 0
        have hc1 : wr.cell? ⟨w.heap.size, 1, none⟩ = some v1 := hcx 1
        clear hib hbel hinv hgl hbx hcx
        by_cases hlt2 : n < 64
        · have hn64 : (n : Int) < 64 := by omega
          have hdn64 : decide ((n : Int) < 64) = true := by simpa using hn64
          go_wp2_with (fail)
          refine (hAT.out k n _ hlt hlt2 hCL.out (by have := hGL.out; have := hGW.out; omega) hJN.out).mono ?_
          rintro e w3 ⟨rfl, hi3, row, hg3, hrow⟩
          have hgz3 := hg3.size
          have q1 := hGZ.out
          have q2 := hGW.out
          have q3 := hNN.out
          have hJ3 : Hid (IB w3 g 3 (tabTo f (64 * k + n) ++ zeros (4096 - (64 * k + n)))) := (hg3.block g hJB.out.lt (fun e => by have := hrow g e.symm; omega)).trans hJB.out
          have hC3 := Lib.hid (hCL.out.grown hg3 (by have := hGL.out; omega) (fun q hq => (hrow q hq).1))
          have hN3 := Lib.hid hi3
          have hz3 := Lib.hid hJ3.out.lt
          have hX4 := Lib.hid ((hg3.block w.heap.size (by have := hGL.out; omega) (fun e => by have := hrow _ e.symm; omega)).trans hX3.out)
          have hTL := Lib.hid (tabTo_len f (64 * k + n))
          have hS := Lib.hid (tabTo_succ f k n hlt2)
          clear hi3 hg3 hrow hgz3
          generalize tabTo f (64 * k + n) = zs at *
          generalize f k n = x at *
          obtain ⟨r, hr⟩ : ∃ r, 4096 - (64 * k + n) = r + 1 := ⟨4096 - (64 * k + n) - 1, by omega⟩
          have hr2 : Hid (4096 - (64 * k + (n + 1)) = r) := by simp only [Hid]; omega
          rw [hr] at hJ3
          have hba := Lib.hid ((Below.refl w3.heap.size w3).alloc (Nat.le_refl _) (.cells #[.int .i64 x] 3))
          have hJ4 := Lib.hid (hJ3.out.below hba.out hJ3.out.lt)
          have hap := Lib.hid (fun ty => append_room_int hJ4.out ty 4096 (by rw [hTL.out]; omega) w3.heap.size x (by simp))
          have hst := Lib.hid (room_set hJ4.out x)
          have hCf := Lib.hid ((hC3.out.alloc (by have := hC3.out.size; omega) (.cells #[.int .i64 x] 3)).setCell (p := ⟨g, zs.length, none⟩) (by show N ≤ g; omega) (.int .i64 x))
          have hIf := Lib.hid (hST.out w3 ((w3.alloc (.cells #[.int .i64 x] 3)).setCell ⟨g, zs.length, none⟩ (.int .i64 x)) hN3.out (fun q hq => (Below.heap_setCell _ ⟨g, zs.length, none⟩ _ q (by show q ≠ g; omega)).trans (hba.out.block q (by have := hz3.out; omega))))
          have hzf : Hid (g < ((w3.alloc (.cells #[.int .i64 x] 3)).setCell ⟨g, zs.length, none⟩ (.int .i64 x)).heap.size) := by
            have := hz3.out; unfold Hid; simp [World.setCell]; omega
          have hXf := Lib.hid ((Below.heap_setCell (w3.alloc (.cells #[.int .i64 x] 3)) ⟨g, zs.length, none⟩ (.int .i64 x) w.heap.size (by show w.heap.size ≠ g; omega)).trans ((hba.out.block w.heap.size (by have := hz3.out; omega)).trans hX4.out))
          rw [hTL.out] at hap hst hCf hIf hzf hXf
          clear hr q1 q2 q3
          go_wp2_with (at_builtin; refine Lib.wpList_append_run _ rfl _ _ _ _ rfl _ _ rfl rfl _ _ (hap.out _) ?_)
          go_roundw
          case rel => exact ⟨n + 1, by omega, by go_num, rfl, by rw [hS.out, hr2.out]; exact hst.out, hCf.out, hIf.out, hzf.out, hXf.out⟩
          case measure => simp [intOf]; omega
        · obtain rfl : n = 64 := by omega
          rw [tabTo_next] at hJB
          go_wp2
          go_roundw
          case rel => exact ⟨k + 1, by omega, by go_num, rfl, hJB.out, hCL.out, hJN.out, hGL.out, hX3.out⟩
          case measure => simp [intOf]; omega
    · obtain rfl : k = 64 := by omega
      have hfin := Lib.hid (room_ow (lo := w.heap.size) (hi := wr.heap.size) (r := 0) hIB.out (by have := hGW.out; omega) hIB.out.lt (by rw [tabTo_len]; omega))
      rw [tabTo_len] at hfin
      go_wp2
      go_ret
      exact ⟨_, _, rfl, hfin.out, hBL.out, hIN.out⟩

end Go.Proofs.Ytdleiondfhmjdaa

/- What the methods tell, and the library's functions over lists of ints. -/
namespace Go.Proofs.Ytdleiondfhmjdaa
open Go.RowKit
set_option linter.unusedVariables false
set_option maxRecDepth 100000

theorem two_cells (w : World) (a b : Value) (t : TypeId) : (w.alloc (.cells #[a, b] t)).cell? ⟨w.heap.size, 0, none⟩ = some a ∧ (w.alloc (.cells #[a, b] t)).cell? ⟨w.heap.size, 1, none⟩ = some b := by
  have h := fun i => cell_of_row _ w.heap.size i #[a, b] t (0, 0) (heap_alloc_new w _)
  exact ⟨h 0, h 1⟩

set_option maxHeartbeats 2000000 in
theorem differentBits_any (L B L' B' : Nat) (A A' : Option Addr) (c c' n : Nat) (xs ys : List Int) (x0 x1 : Nat) (w : World) (hn : n = 4096) (hl : xs.length = n) (hl' : ys.length = n) (hx : IS w L B A xs) (hy : IS w L' B' A' ys) (hB : B ≤ w.heap.size) (hB' : B' ≤ w.heap.size) (h0 : x0 < 64) (h1 : x1 < 64) :
    Calls Try.prog 136 #[.agg #[.slice A n c, .slice A' n c'], .int .i64 x0, .int .i64 x1] w fun e w' => e = .returned (.int .i64 (bits .xor .i64 (xs.getD (64 * x0 + x1) 0) (ys.getD (64 * x0 + x1) 0))) ∧ Below w.heap.size w w' := by
  have HX := Lib.hid fun (W : World) (hW : Below w.heap.size w W) => at_any L B A c n xs x0 x1 W hn hl (hx.below hW hB) h0 h1
  have HY := Lib.hid fun (W : World) (hW : Below w.heap.size w W) => at_any L' B' A' c' n ys x0 x1 W hn hl' (hy.below hW hB') h0 h1
  have hb := Lib.hid ((Below.refl w.heap.size w).alloc (Nat.le_refl _) (.cells #[.slice A n c, .slice A' n c'] 156))
  clear hx hy hB hB' hl hl' hn
  generalize xs.getD (64 * x0 + x1) 0 = p at *
  generalize ys.getD (64 * x0 + x1) 0 = q at *
  obtain ⟨c0, c1⟩ := two_cells w (.slice A n c) (.slice A' n c') 156
  have hbd := Lib.hid hb.out.drew
  go_enter Try.func136, Try.ntmps136
  go_wp2_with (fail)
  generalize w.alloc (.cells #[.slice A n c, .slice A' n c'] 156) = W0 at *
  go_region_held3 (fun w' => w'.cell? ⟨w.heap.size, 0, none⟩ = some (.slice A n c) ∧ w'.cell? ⟨w.heap.size, 1, none⟩ = some (.slice A' n c'))
    (first | exact ⟨c0, c1⟩ | go_keep)
    ((first
      | (go_at_call 162; (with_reducible refine (HX.out _ hbd.out).mono ?_); rintro e w' ⟨rfl, rfl⟩)
      | (go_at_call 162; (with_reducible refine (HY.out _ hbd.out).mono ?_); rintro e w' ⟨rfl, rfl⟩)))
  all_goals
    go_wp2
    go_ret
    exact ⟨rfl, hbd.out⟩

theorem differentBits_tells (N L B L' B' : Nat) (A A' : Option Addr) (c c' : Nat) (xs ys : List Int) (w : World) (hl : xs.length = 4096) (hl' : ys.length = 4096) (hx : IS w L B A xs) (hy : IS w L' B' A' ys) (hB : B ≤ w.heap.size) (hB' : B' ≤ w.heap.size) (hBN : B ≤ N) (hBN' : B' ≤ N) :
    Tells N (fun _ => True) w 136 (.agg #[.slice A 4096 c, .slice A' 4096 c']) (fun x0 x1 => bits .xor .i64 (xs.getD (64 * x0 + x1).toNat 0) (ys.getD (64 * x0 + x1).toNat 0)) := by
  intro x0 x1 W h0 h1 hb hz _
  refine (differentBits_any L B L' B' A A' c c' 4096 xs ys x0 x1 W rfl hl hl' (hx.below hb hBN) (hy.below hb hBN') (Nat.le_trans hB hz) (Nat.le_trans hB' hz) h0 h1).mono ?_
  rintro e W' ⟨rfl, hb'⟩
  have e1 : (64 * (x0 : Int) + (x1 : Int)).toNat = 64 * x0 + x1 := by omega
  refine ⟨?_, trivial, none, grownBy_of_below hb' none, fun k hk => by cases hk⟩
  show Ending.returned (.int .i64 _) = Ending.returned (.int .i64 (bits .xor .i64 (xs.getD (64 * (x0 : Int) + (x1 : Int)).toNat 0) (ys.getD (64 * (x0 : Int) + (x1 : Int)).toNat 0)))
  rw [e1]

end Go.Proofs.Ytdleiondfhmjdaa

/- slices' functions over lists of ints; the program's lists of differences and of changing words. -/
namespace Go.Proofs.Ytdleiondfhmjdaa
open Go.RowKit
set_option linter.unusedVariables false
set_option maxRecDepth 100000

set_option maxHeartbeats 1000000 in
theorem indexFunc_isDifference (L B : Nat) (A : Option Addr) (c n : Nat) (xs : List Int) (w : World) (hl : n ≤ 1048576) (hxn : xs.length = n) (hx : IS w L B A xs) :
    Calls Try.prog 137 #[.slice A n c, .func (.func 138) #[] #[]] w fun e w' => e = .returned (.int .i64 (firstI (fun i => xs.getD i 0 != 0) n)) ∧ w = w' := by
  have hX := Lib.hid hx
  have hXN := Lib.hid hxn
  obtain ⟨P, hPd⟩ : ∃ P : Nat → Bool, P = fun i => xs.getD i 0 != 0 := ⟨_, rfl⟩
  rw [← hPd]
  have hPH := Lib.hid hPd
  clear hx hxn hPd
  go_enter Try.func137, Try.ntmps137
  go_wp2
  go_loop [5, 8] (fun _ i => ∃ k : Nat, k ≤ n ∧ i = .int .i64 k ∧ ∀ j, j < k → P j = false) (fun _ i => n - (intOf i).toNat)
  case atStart => exact ⟨0, Nat.zero_le _, rfl, fun j hj => absurd hj (Nat.not_lt_zero _)⟩
  case round =>
    obtain ⟨k, hk, rfl, hh⟩ := hrel
    have hH := Lib.hid hh; clear hh
    by_cases hlt : k < n
    · have hkx : k < xs.length := by rw [hXN.out]; exact hlt
      obtain ⟨b, o, rfl, _, hc⟩ := hX.out (by rw [hXN.out]; omega)
      have c1 := hc k hkx
      have hS : Hid (P k = (xs[k] != 0)) := by unfold Hid; rw [hPH.out]; show (xs.getD k 0 != 0) = _; rw [getD_get hkx]
      clear hc
      generalize hgx : xs[k] = x at *
      clear hgx hkx
      have HC := Lib.hid (isDifference_any x w)
      cases hb : (x != 0)
      · rw [hb] at hS HC
        go_wp2_with (fail)
        refine HC.out.mono ?_
        rintro e w' ⟨rfl, rfl⟩
        go_wp2
        go_round
        case rel => exact ⟨k + 1, by omega, by go_num, fun j hj => by
          by_cases e : j = k
          · rw [e]; exact hS.out
          · exact hH.out j (by omega)⟩
        case measure => simp [intOf]; omega
      · rw [hb] at hS HC
        go_wp2_with (fail)
        refine HC.out.mono ?_
        rintro e w' ⟨rfl, rfl⟩
        go_wp2
        go_ret
        exact ⟨ret_int (by rw [firstI_some hlt hS.out hH.out]), rfl⟩
    · obtain rfl : k = n := by omega
      go_wp2
      go_ret
      exact ⟨ret_int (by rw [firstI_none hH.out]), rfl⟩


set_option maxHeartbeats 1000000 in
theorem indexFunc_isWord (L B : Nat) (A : Option Addr) (c n : Nat) (xs : List Int) (w : World) (hl : n ≤ 1048576) (hxn : xs.length = n) (hx : IS w L B A xs) :
    Calls Try.prog 137 #[.slice A n c, .func (.func 144) #[] #[]] w fun e w' => e = .returned (.int .i64 (firstI (fun i => isW (xs.getD i 0)) n)) ∧ w = w' := by
  have hX := Lib.hid hx
  have hXN := Lib.hid hxn
  obtain ⟨P, hPd⟩ : ∃ P : Nat → Bool, P = fun i => isW (xs.getD i 0) := ⟨_, rfl⟩
  rw [← hPd]
  have hPH := Lib.hid hPd
  clear hx hxn hPd
  go_enter Try.func137, Try.ntmps137
  go_wp2
  go_loop [5, 8] (fun _ i => ∃ k : Nat, k ≤ n ∧ i = .int .i64 k ∧ ∀ j, j < k → P j = false) (fun _ i => n - (intOf i).toNat)
  case atStart => exact ⟨0, Nat.zero_le _, rfl, fun j hj => absurd hj (Nat.not_lt_zero _)⟩
  case round =>
    obtain ⟨k, hk, rfl, hh⟩ := hrel
    have hH := Lib.hid hh; clear hh
    by_cases hlt : k < n
    · have hkx : k < xs.length := by rw [hXN.out]; exact hlt
      obtain ⟨b, o, rfl, _, hc⟩ := hX.out (by rw [hXN.out]; omega)
      have c1 := hc k hkx
      have hS : Hid (P k = (isW xs[k])) := by unfold Hid; rw [hPH.out]; show (isW (xs.getD k 0)) = _; rw [getD_get hkx]
      clear hc
      generalize hgx : xs[k] = x at *
      clear hgx hkx
      have HC := Lib.hid (isWord_any x w)
      cases hb : (isW (x))
      · rw [hb] at hS HC
        go_wp2_with (fail)
        refine HC.out.mono ?_
        rintro e w' ⟨rfl, rfl⟩
        go_wp2
        go_round
        case rel => exact ⟨k + 1, by omega, by go_num, fun j hj => by
          by_cases e : j = k
          · rw [e]; exact hS.out
          · exact hH.out j (by omega)⟩
        case measure => simp [intOf]; omega
      · rw [hb] at hS HC
        go_wp2_with (fail)
        refine HC.out.mono ?_
        rintro e w' ⟨rfl, rfl⟩
        go_wp2
        go_ret
        exact ⟨ret_int (by rw [firstI_some hlt hS.out hH.out]), rfl⟩
    · obtain rfl : k = n := by omega
      go_wp2
      go_ret
      exact ⟨ret_int (by rw [firstI_none hH.out]), rfl⟩


theorem containsFunc_isWord (L B : Nat) (A : Option Addr) (c n : Nat) (xs : List Int) (w : World) (hl : n ≤ 1048576) (hxn : xs.length = n) (hx : IS w L B A xs) :
    Calls Try.prog 102 #[.slice A n c, .func (.func 144) #[] #[]] w fun e w' => e = .returned (.bool (decide (0 ≤ firstI (fun i => isW (xs.getD i 0)) n))) ∧ w = w' := by
  have H := Lib.hid (indexFunc_isWord L B A c n xs w hl hxn hx)
  clear hxn hx
  generalize firstI (fun i => isW (xs.getD i 0)) n = r at *
  go_enter Try.func102, Try.ntmps102
  go_wp2_with (fail)
  refine H.out.mono ?_
  rintro e w' ⟨rfl, rfl⟩
  go_wp2
  go_ret
  exact ⟨ret_bool (by simp), rfl⟩

set_option maxHeartbeats 1000000 in
theorem slEqual_any (L B L' B' : Nat) (A A' : Option Addr) (c c' n : Nat) (xs ys : List Int) (w : World) (hl : n ≤ 1048576) (hxn : xs.length = n) (hyn : ys.length = n) (hx : IS w L B A xs) (hy : IS w L' B' A' ys) (hB : B ≤ w.heap.size) (hB' : B' ≤ w.heap.size) :
    Calls Try.prog 124 #[.slice A n c, .slice A' n c'] w fun e w' => e = .returned (.bool (decide (firstI (neI xs ys) n < 0))) ∧ Below w.heap.size w w' := by
  have hX := Lib.hid hx
  have hY := Lib.hid hy
  have hXN := Lib.hid hxn
  have hYN := Lib.hid hyn
  have hBB := Lib.hid hB
  have hBB' := Lib.hid hB'
  have hBel0 := Below.refl w.heap.size w
  clear hx hy hB hB' hxn hyn
  go_enter Try.func124, Try.ntmps124
  go_wp2
  go_loopw [5, 13] (fun _ i wr => ∃ k : Nat, k ≤ n ∧ i = .int .i64 k ∧ (∀ j, j < k → neI xs ys j = false) ∧ Below w.heap.size w wr) (fun _ i _ => n - (intOf i).toNat)
  case atStart => exact ⟨0, Nat.zero_le _, rfl, fun j hj => absurd hj (Nat.not_lt_zero _), hBel0⟩
  case round =>
    obtain ⟨k, hk, rfl, hh, hbel⟩ := hrel
    have hH := Lib.hid hh; clear hh
    by_cases hlt : k < n
    · have hkx : k < xs.length := by rw [hXN.out]; exact hlt
      have hky : k < ys.length := by rw [hYN.out]; exact hlt
      obtain ⟨b, o, rfl, ⟨_, hbB⟩, hc⟩ := (hX.out.below hbel hBB.out) (by rw [hXN.out]; omega)
      obtain ⟨b', o', rfl, ⟨_, hbB'⟩, hc'⟩ := (hY.out.below hbel hBB'.out) (by rw [hYN.out]; omega)
      have c1 := hc k hkx
      have d1 := hc' k hky
      have hS : Hid (neI xs ys k = (xs[k] != ys[k])) := by unfold Hid neI; rw [getD_get hkx, getD_get hky]
      clear hc hc'
      generalize hgx : xs[k] = x at *
      generalize hgy : ys[k] = y at *
      clear hgx hgy hkx hky
      have hBelB := Lib.hid (hbel.drew)
      have i1 : (k : Int) < (n : Int) := by omega
      have i0 : (0 : Int) ≤ (k : Int) := by omega
      cases hb : (x != y)
      all_goals
        go_wp2_with (fail)
        go_still_tail 8, (by kernel_rfl)
        change wpList _ _ _ _ _ wr.drew
        generalize wr.drew = wd at *
        clear hbel c1 d1
        go_wp2
      · go_roundw
        case rel => exact ⟨k + 1, by omega, by go_num, fun j hj => by
          by_cases e : j = k
          · rw [e, hS.out]; exact hb
          · exact hH.out j (by omega), hBelB.out⟩
        case measure => simp [intOf]; omega
      · go_ret
        refine ⟨ret_bool ?_, hBelB.out⟩
        rw [firstI_some hlt (by rw [hS.out]; exact hb) hH.out]; simp
    · obtain rfl : k = n := by omega
      go_wp2
      go_ret
      exact ⟨ret_bool (by rw [firstI_none hH.out]; rfl), hbel⟩
end Go.Proofs.Ytdleiondfhmjdaa

/- Covers laid from the root back, plain. -/
namespace Go.Proofs.Ytdleiondfhmjdaa
open Go.RowKit
set_option linter.unusedVariables false

def cvNext (es : List Nd) (nums : List Int) (k : Nat) (s : List Int × List Ti) : Option (List Int × List Ti) :=
  if s.1.getD k 0 = -2 then (tOf es (k : Int) (nums.getD k 0)).map (fun x => (layL s.1 k x, s.2 ++ [x])) else some s
def cvSt (es : List Nd) (nums : List Int) : Nat → Option (List Int × List Ti)
  | 0 => some (opn es.length, [])
  | j + 1 => (cvSt es nums j).bind (cvNext es nums (es.length - 1 - j))
theorem layL_len (xs : List Int) (k : Nat) (x : Ti) : (layL xs k x).length = xs.length := layTo_len _ _ _ _ _
theorem cvSt_len {es : List Nd} {nums : List Int} : ∀ {j : Nat} {cs : List Int} {out : List Ti}, cvSt es nums j = some (cs, out) → cs.length = es.length ∧ out.length ≤ j
  | 0, cs, out, h => by simp only [cvSt, Option.some.injEq, Prod.mk.injEq] at h; obtain ⟨rfl, rfl⟩ := h; exact ⟨opn_len _, by simp⟩
  | j + 1, cs, out, h => by
    simp only [cvSt] at h
    rw [Option.bind_eq_some_iff] at h
    obtain ⟨⟨cs0, out0⟩, h0, h1⟩ := h
    have ih := cvSt_len h0
    unfold cvNext at h1
    split at h1
    · rw [Option.map_eq_some_iff] at h1
      obtain ⟨x, _, hx⟩ := h1
      injection hx with e1 e2
      subst e1; subst e2
      exact ⟨by rw [layL_len]; exact ih.1, by simp; omega⟩
    · injection h1 with h1; injection h1 with e1 e2
      subst e1; subst e2
      exact ⟨ih.1, by omega⟩
theorem cvSt_skip {es : List Nd} {nums : List Int} {j : Nat} {cs : List Int} {out : List Ti} (h : cvSt es nums j = some (cs, out)) (hc : cs.getD (es.length - 1 - j) 0 ≠ -2) : cvSt es nums (j + 1) = some (cs, out) := by
  simp only [cvSt]; rw [h]; simp only [Option.bind_some]; unfold cvNext; rw [if_neg hc]
theorem cvSt_lay {es : List Nd} {nums : List Int} {j : Nat} {cs : List Int} {out : List Ti} {x : Ti} (h : cvSt es nums j = some (cs, out)) (hc : cs.getD (es.length - 1 - j) 0 = -2) (hx : tOf es ((es.length - 1 - j : Nat) : Int) (nums.getD (es.length - 1 - j) 0) = some x) : cvSt es nums (j + 1) = some (layL cs (es.length - 1 - j) x, out ++ [x]) := by
  simp only [cvSt]; rw [h]; simp only [Option.bind_some]; unfold cvNext; rw [if_pos hc, hx]; rfl
theorem cvSt_fail {es : List Nd} {nums : List Int} {j : Nat} {cs : List Int} {out : List Ti} (h : cvSt es nums j = some (cs, out)) (hc : cs.getD (es.length - 1 - j) 0 = -2) (hx : tOf es ((es.length - 1 - j : Nat) : Int) (nums.getD (es.length - 1 - j) 0) = none) : cvSt es nums (j + 1) = none := by
  simp only [cvSt]; rw [h]; simp only [Option.bind_some]; unfold cvNext; rw [if_pos hc, hx]; rfl
theorem cvSt_none {es : List Nd} {nums : List Int} {j : Nat} (h : cvSt es nums j = none) : ∀ m, j ≤ m → cvSt es nums m = none := by
  intro m hm
  obtain ⟨d, rfl⟩ := Nat.exists_eq_add_of_le hm
  induction d with
  | zero => exact h
  | succ d ih => show (cvSt es nums (j + d)).bind _ = none; rw [ih (by omega)]; rfl
/-- The tiles of a cover, or none. -/
def tocR (es : List Nd) (nums : List Int) : Option (List Ti) :=
  if treeR es = true ∧ nums.length = es.length then (match cvSt es nums es.length with | some (cs, out) => if cs = nums then some out else none | none => none) else none
theorem tOf_ps {es : List Nd} {k : Nat} {t : Int} {x : Ti} (h : tOf es (k : Int) t = some x) : (∀ p ∈ x.ps, 0 ≤ p ∧ p < (k : Int)) ∧ x.ps.length ≤ 2 ∧ 0 ≤ x.num ∧ x.num ≤ 12 := by
  have hk : tokR es (k : Int) t = true := by unfold tokR; rw [h]; rfl
  obtain ⟨j, n, hj, e1, e2, hn, hok, hl, hm⟩ := tok_parts hk
  have : k = j := by omega
  subst this
  rw [h] at hm
  have hm' := hm.symm
  exact ⟨mt_ps hok hj hm', (mt_len hm').1, by rw [mt_num hm']; omega, by rw [mt_num hm']; omega⟩
theorem tocR_len {es : List Nd} {nums : List Int} {out : List Ti} (h : tocR es nums = some out) : out.length ≤ 24 := by
  unfold tocR at h
  split at h
  · rename_i ht
    have hl : es.length ≤ 24 := by have := ht.1; unfold treeR at this; simp only [Bool.and_eq_true] at this; exact (good_len this.1).2.1
    cases hc : cvSt es nums es.length with
    | none => rw [hc] at h; cases h
    | some s =>
      obtain ⟨cs, o⟩ := s
      rw [hc] at h
      simp only at h
      split at h
      · injection h with h; subst h; have := (cvSt_len hc).2; omega
      · cases h
  · cases h

/-- The state when some rounds have been. -/
def stF (es : List Nd) (nums : List Int) (pre : List (Bw es)) : Option (List Int × List Ti) := pre.foldl (fun o x => o.bind (cvNext es nums x.1.1)) (some (opn es.length, []))
theorem stF_nil (es : List Nd) (nums : List Int) : stF es nums [] = some (opn es.length, []) := rfl
theorem stF_snoc (es : List Nd) (nums : List Int) (pre : List (Bw es)) (x : Bw es) : stF es nums (pre ++ [x]) = (stF es nums pre).bind (cvNext es nums x.1.1) := by
  unfold stF; rw [List.foldl_append]; rfl
theorem stF_upto (es : List Nd) (nums : List Int) (h : 1 ≤ es.length) : ∀ k, stF es nums (uptoB (bwF es h) k) = cvSt es nums k
  | 0 => rfl
  | k + 1 => by rw [uptoB_succ, stF_snoc, stF_upto es nums h k]; rfl
theorem cvNext_len {es : List Nd} {nums : List Int} {k : Nat} {s s' : List Int × List Ti} (h : cvNext es nums k s = some s') : s'.1.length = s.1.length ∧ s'.2.length ≤ s.2.length + 1 := by
  unfold cvNext at h
  split at h
  · rw [Option.map_eq_some_iff] at h
    obtain ⟨x, _, hx⟩ := h
    subst hx
    exact ⟨layL_len _ _ _, by simp⟩
  · injection h with h; subst h; exact ⟨rfl, by omega⟩
theorem stF_len {es : List Nd} {nums : List Int} (pre : List (Bw es)) : ∀ {cs : List Int} {out : List Ti}, stF es nums pre = some (cs, out) → cs.length = es.length ∧ out.length ≤ pre.length := by
  generalize hn : pre.length = n
  induction n generalizing pre with
  | zero =>
    obtain rfl : pre = [] := List.eq_nil_of_length_eq_zero hn
    intro cs out h
    rw [stF_nil] at h
    injection h with h; injection h with e1 e2
    subst e1; subst e2
    exact ⟨opn_len _, by simp⟩
  | succ n ih =>
    obtain ⟨x, p2, hp⟩ : ∃ x p2, pre = p2 ++ [x] := ⟨pre.getLast (by intro e; rw [e] at hn; cases hn), pre.dropLast, (List.dropLast_concat_getLast _).symm⟩
    subst hp
    intro cs out h
    rw [stF_snoc, Option.bind_eq_some_iff] at h
    obtain ⟨⟨cs0, out0⟩, h0, h1⟩ := h
    have h2 := ih p2 (by simpa using hn) h0
    have h3 := cvNext_len h1
    simp only at h3
    exact ⟨by rw [h3.1]; exact h2.1, by omega⟩
theorem stF_skip {es : List Nd} {nums : List Int} {pre : List (Bw es)} {cs : List Int} {out : List Ti} (h : stF es nums pre = some (cs, out)) (x : Bw es) (hc : cs.getD x.1.1 0 ≠ -2) : stF es nums (pre ++ [x]) = some (cs, out) := by
  rw [stF_snoc, h]; simp only [Option.bind_some]; unfold cvNext; rw [if_neg hc]
theorem stF_lay {es : List Nd} {nums : List Int} {pre : List (Bw es)} {cs : List Int} {out : List Ti} (h : stF es nums pre = some (cs, out)) (x : Bw es) (hc : cs.getD x.1.1 0 = -2) {y : Ti} (hx : tOf es (x.1.1 : Int) (nums.getD x.1.1 0) = some y) : stF es nums (pre ++ [x]) = some (layL cs x.1.1 y, out ++ [y]) := by
  rw [stF_snoc, h]; simp only [Option.bind_some]; unfold cvNext; rw [if_pos hc, hx]; rfl
theorem stF_fail {es : List Nd} {nums : List Int} {pre : List (Bw es)} {cs : List Int} {out : List Ti} (h : stF es nums pre = some (cs, out)) (x : Bw es) (hc : cs.getD x.1.1 0 = -2) (hx : tOf es (x.1.1 : Int) (nums.getD x.1.1 0) = none) : stF es nums (pre ++ [x]) = none := by
  rw [stF_snoc, h]; simp only [Option.bind_some]; unfold cvNext; rw [if_pos hc, hx]; rfl

theorem BX.chg {w w' : World} {b lo hi : Nat} {t : TypeId} {v : Value} (h : BX w b t v) (hc : Chg lo hi w w') (hd : b < lo ∨ hi ≤ b) : BX w' b t v := (hc.block b h.lt hd).trans h
end Go.Proofs.Ytdleiondfhmjdaa

/- A region that draws its order, in a round of a range over a function: by the walk outside. -/
namespace Go.Proofs.Ytdleiondfhmjdaa
open Go.RowKit
set_option linter.unusedVariables false

/-- A region that goes on and nothing else. -/
def OnlyN (K : Act → World → Prop) : Exit → Act → World → Prop
  | .normal, a, w => K a w
  | _, _, _ => False
theorem oper_round {l n : Nat} {P : Program} {o : Oper} {a : Act} {w : World} {K K0 : Act → World → Prop} {Q : Exit → Act → World → Prop} (hd : ∀ c, o.op ≠ .defer c) (h : o.wp P a w K (OnlyN K0)) : o.wpIn (Fence.wide.inRound l) n P a w K Q := by
  refine ⟨fun _ _ => trivial, ?_⟩
  rw [show (Fence.wide.inRound l).round = some l from rfl, Oper.semAt_some l _ o hd]
  unfold Oper.wp at h
  generalize (execOp a.eval o).run P w = r at h ⊢
  cases r with
  | ok x w' =>
    cases x with
    | value v => exact h
    | skip => exact h
    | defer d => exact h
    | enter f args =>
      refine ⟨fun h => (by cases h), CallsIn.inRound l (callsIn_wide.2 (Calls.mono h ?_))⟩
      intro e w2 he
      cases e with
      | returned v => exact he
      | panicked c => exact (he : False).elim
      | outgrown =>
        obtain ⟨_, _, hx⟩ := (show LetsOut (OnlyN K0) from he)
        exact (show False from hx).elim
    | row r args =>
      refine ⟨fun h => (by cases h), fun c cs _ => ?_⟩
      obtain ⟨v, w2, hr, hs⟩ := h c cs
      exact ⟨v, w2, hr, stepsIn_wide.2 hs⟩
    | _ => exact (show False from h).elim
  | halt x w' =>
    cases x <;> exact (show False from h).elim

theorem wpOp_round {l n : Nat} {P : Program} {ops : Array Oper} {i : Nat} {a : Act} {w : World} {K K0 : Act → World → Prop} {Q : Exit → Act → World → Prop} (hd : ∀ (i : Nat) (o : Oper), ops[i]? = some o → ∀ c, o.op ≠ .defer c) (h : wpOp P ops (OnlyN K0) i K a w) : wpOpIn (Fence.wide.inRound l) n P ops Q i K a w := by
  unfold wpOp at h
  unfold wpOpIn
  cases ho : ops[i]? with
  | none => rw [ho] at h; exact h
  | some o =>
    rw [ho] at h
    simp only at h ⊢
    split
    · rename_i hw
      rw [if_pos hw] at h
      rcases h with h | ⟨_, h⟩
      · exact oper_round (hd i o ho) h
      · obtain ⟨_, _, hx⟩ := (show LetsOut (OnlyN K0) from h)
        exact (show False from hx).elim
    · rename_i hw
      rw [if_neg hw] at h
      exact ⟨fun _ _ => trivial, h⟩

theorem wpAny_round {l n : Nat} {P : Program} {ops : Array Oper} {md : Region.Mode} {K0 : Act → World → Prop} {Q : Exit → Act → World → Prop} (hd : ∀ (i : Nat) (o : Oper), ops[i]? = some o → ∀ c, o.op ≠ .defer c) (hQ : ∀ a w, K0 a w → Q .normal a w) :
    ∀ (fuel : Nat) (listed : Array Bool) (a : Act) (w : World), wpAny P md ops (OnlyN K0) fuel listed a w → wpAnyIn (Fence.wide.inRound l) n P md ops Q fuel listed a w := by
  intro fuel
  induction fuel with
  | zero => intro listed a w h; exact ⟨h.1, hQ _ _ h.2⟩
  | succ fuel ih =>
    intro listed a w h
    refine ⟨fun hr => hQ _ _ (h.1 hr), fun i hi => ?_⟩
    exact wpOpIn_mono (fun a w => ih _ a w) (wpOp_round hd (h.2 i hi))

/-- The region in a round: by the walk that takes the loads first. -/
theorem region_round {l n id : Nat} {P : Program} {ops : Array Oper} {S : World → Prop} {K0 : Act → World → Prop} {Q : Exit → Act → World → Prop} {a : Act} {w : World} (hm : P.follows .mixedOrders = true) (hd : ops.toList.all (fun o => match o.op with | .defer _ => false | _ => true) = true) (hQ : ∀ a w, K0 a w → Q .normal a w) (hS : S w.drew)
    (h : S w.drew → wpAnyH P .any ops (OnlyN K0) S ops.size (Array.replicate ops.size false) a w.drew) : (Code.region id ops true).wpIn (Fence.wide.inRound l) n P Q a w := by
  have hd' : ∀ (i : Nat) (o : Oper), ops[i]? = some o → ∀ c, o.op ≠ .defer c := by
    intro i o ho c hc
    have hm := (List.all_eq_true.1 hd) o (by rw [← Array.getElem?_toList] at ho; exact List.mem_of_getElem? ho)
    simp [hc] at hm
  refine wpIn_region_any hm (wpAny_round hd' hQ _ _ _ _ ?_)
  exact wpAny_of_held _ _ _ _ (h hS)
end Go.Proofs.Ytdleiondfhmjdaa
