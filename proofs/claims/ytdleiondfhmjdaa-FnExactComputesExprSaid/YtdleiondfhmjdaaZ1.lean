/- Texts of this proof, one behind the other: TL, DFT, DF, DX, OC, ON. -/
import Derived.Test.YtdleiondfhmjdaaZ2
import Derived.WalkKit
import Derived.WalkSpells
import Derived.WalkLawsBesides
import Derived.Lib.Hide
import Derived.Test.YtdleiondfhmjdaaZ3
import Derived.Lib.JoinLaws
import Derived.StillTailTactics
import Derived.BigQuiet
import Derived.Test.YtdleiondfhmjdaaLawDF
import Derived.Test.YtdleiondfhmjdaaKMInstr
import Derived.ProofKit
import Derived.OpenShut
import Derived.ShutString
import Derived.ChangeOld
import Derived.Below
import Derived.Deep.Slices
import Derived.Deep.Fields
import Derived.Test.YtdleiondfhmjdaaKMNode
/- The program's functions of chapter 3 over tables. -/
namespace Go.Proofs.Ytdleiondfhmjdaa
open Go.RowKit
set_option linter.unusedVariables false
set_option maxRecDepth 100000

theorem IntsRes.is {w : World} {xs : List Int} {ok : Bool} {e : Ending} {w' : World} (h : IntsRes w xs ok e w') : ∃ A c, e = .returned (.tuple #[.slice A xs.length c, .bool ok]) ∧ IS w' w.heap.size w'.heap.size A xs ∧ Below w.heap.size w w' := by
  obtain ⟨A, c, rfl, how, hb⟩ := h
  obtain ⟨A2, c2, hv, his⟩ := how.form
  injection hv with a b d
  subst a; subst d
  exact ⟨A, c, rfl, his, hb⟩

theorem iTable_is (L B : Nat) (A : Option Addr) (c : Nat) (es : List Nd) (w : World) (hl : es.length ≤ 1048576) (hes : NS w L B A es) (hB : B ≤ w.heap.size) :
    Calls Try.prog 131 #[.slice A es.length c] w fun e w' => ∃ A' c', e = .returned (.tuple #[.slice A' (tabR es).length c', .bool (good es)]) ∧ IS w' w.heap.size w'.heap.size A' (tabR es) ∧ Below w.heap.size w w' :=
  (iTableOf_any L B A c es w hl hes hB).mono fun e w' h => IntsRes.is h

theorem nil_fin {w w' : World} {xs : List Int} {ok : Bool} (hx : xs = []) (hok : ok = false) (hb : Below w.heap.size w w') : IntsRes w xs ok (.returned (.tuple #[.slice none 0 0, .bool false])) w' := by
  subst hx; subst hok
  exact ⟨none, 0, rfl, OW.nil _ _ _, hb⟩

theorem difR_len (es fs : List Nd) : (difR es fs).length ≤ 4096 := by
  unfold difR; split
  · rw [difT_len]; omega
  · simp


set_option maxHeartbeats 2000000 in
theorem countDifferences_any (L B : Nat) (V1 : Option Addr) (v1 n : Nat) (D : List Int) (w1 : World) (hn4 : n ≤ 4096) (hxn' : D.length = n) (hi : IS w1 L B V1 D) :
    Calls Try.prog 94 #[.slice V1 n v1] w1 fun e w' => e = .returned (.int .i64 (countI (fun i => D.getD i 0 != 0) n)) ∧ w1 = w' := by
  have i1 := Lib.hid hi
  have hxn := Lib.hid hxn'
  clear hi hxn'
  obtain ⟨P, hP'⟩ : ∃ P : Nat → Bool, P = fun i => D.getD i 0 != 0 := ⟨_, rfl⟩
  rw [← hP']
  have hP := Lib.hid hP'
  clear hP'
  go_enter Try.func94, Try.ntmps94
  go_wp2
  go_loop [3, 8] (fun q i => ∃ k : Nat, k ≤ n ∧ i = .int .i64 k ∧ q = .int .i64 (countI P k)) (fun _ i => n - (intOf i).toNat)
  case atStart => exact ⟨0, Nat.zero_le _, rfl, rfl⟩
  case round =>
    obtain ⟨k, hk, rfl, rfl⟩ := hrel
    by_cases hlt : k < n
    · have hkx : k < D.length := by rw [hxn.out]; exact hlt
      obtain ⟨b, o, rfl, _, hc⟩ := i1.out (by rw [hxn.out]; omega)
      have c1 := hc k hkx
      have hS : Hid (P k = (D[k] != 0)) := by unfold Hid; rw [hP.out]; show (D.getD k 0 != 0) = _; rw [getD_get hkx]
      clear hc
      generalize hgx : D[k] = x at *
      clear hgx hkx
      have hbd := countI_bd P k
      have HC := Lib.hid (isDifference_any x w1)
      cases hb : (x != 0)
      · rw [hb] at HC
        have hS2 := Lib.hid (countI_no (by rw [hS.out]; exact hb) : countI P (k + 1) = countI P k)
        generalize countI P k = q at *
        go_wp2_with (fail)
        refine HC.out.mono ?_
        rintro e w' ⟨rfl, rfl⟩
        go_wp2
        go_round
        case rel => exact ⟨k + 1, by omega, by go_num, by rw [hS2.out]⟩
        case measure => simp [intOf]; omega
      · rw [hb] at HC
        have hS2 := Lib.hid (countI_yes (by rw [hS.out]; exact hb) : countI P (k + 1) = countI P k + 1)
        generalize countI P k = q at *
        go_wp2_with (fail)
        refine HC.out.mono ?_
        rintro e w' ⟨rfl, rfl⟩
        go_wp2
        go_round
        case rel => exact ⟨k + 1, by omega, by go_num, by rw [hS2.out]⟩
        case measure => simp [intOf]; omega
    · obtain rfl : k = n := by omega
      go_wp2
      go_ret
      exact ⟨rfl, rfl⟩

set_option maxHeartbeats 2000000 in
theorem firstDifference_any (L B : Nat) (V1 : Option Addr) (v1 n : Nat) (D : List Int) (w1 : World) (hn4 : n ≤ 4096) (hxn' : D.length = n) (hi : IS w1 L B V1 D) :
    Calls Try.prog 93 #[.slice V1 n v1] w1 fun e w' => e = .returned (.tuple #[.int .i64 (if firstI (fun i => D.getD i 0 != 0) n < 0 then 0 else firstI (fun i => D.getD i 0 != 0) n / 64), .int .i64 (if firstI (fun i => D.getD i 0 != 0) n < 0 then 0 else firstI (fun i => D.getD i 0 != 0) n % 64), .bool (decide (0 ≤ firstI (fun i => D.getD i 0 != 0) n))]) ∧ w1 = w' := by
  have HI := Lib.hid (indexFunc_isDifference L B V1 v1 n D w1 (by omega) hxn' hi)
  have hbd := firstI_bd (fun i => D.getD i 0 != 0) n
  clear hi hxn'
  generalize firstI (fun i => D.getD i 0 != 0) n = r at *
  by_cases hn : r < 0
  · rw [if_pos hn, if_pos hn, decide_eq_false (by omega : ¬ (0 ≤ r))]
    go_enter Try.func93, Try.ntmps93
    go_wp2_with (fail)
    refine HI.out.mono ?_
    rintro e w2 ⟨rfl, rfl⟩
    go_wp2_with (fail)
    go_ret3
    exact ⟨rfl, rfl⟩
  · rw [if_neg hn, if_neg hn, decide_eq_true (by omega : 0 ≤ r)]
    obtain ⟨k, rfl⟩ := Int.eq_ofNat_of_zero_le (by omega : 0 ≤ r)
    go_enter Try.func93, Try.ntmps93
    go_wp2_with (fail)
    refine HI.out.mono ?_
    rintro e w2 ⟨rfl, rfl⟩
    go_wp2_with (fail)
    refine (inputsAt_any k _ (by omega)).mono ?_
    rintro e w2 ⟨rfl, rfl⟩
    go_wp2_with (fail)
    go_ret3
    exact ⟨rfl, rfl⟩


end Go.Proofs.Ytdleiondfhmjdaa

/- Tables made by a function value, at the results of code. -/
namespace Go.Proofs.Ytdleiondfhmjdaa
open Go.RowKit
set_option linter.unusedVariables false
set_option maxRecDepth 100000


set_option maxHeartbeats 8000000 in
theorem tableFor_R (v0 : Value) (v1 : Value) (f : Int → Int → Int) (N : Nat) (Inv : World → Prop) (w : World) (hN : N ≤ w.heap.size) (hI0 : Inv w) (hst : ∀ W W' : World, Inv W → (∀ k, k < w.heap.size → W'.heap[k]? = W.heap[k]?) → Inv W')
    (hat : Tells N Inv w 134 (.agg #[v0, v1]) f) :
    Calls Try.prog 133 #[.agg #[v0, v1], .func (.func 134) #[] #[]] w (TabIs N Inv w (tabTo f 4096)) := by
  have hAT := Lib.hid hat
  have hST := Lib.hid hst
  have hI0' := Lib.hid hI0
  clear hat hst hI0
  have hmk0 : ∀ W : World, (Instr.makeSlice 23 (.int .i64 0) (.int .i64 4096)).run Try.prog W = .ok (.slice (some ⟨W.heap.size, 0, none⟩) 0 4096) (W.alloc (.cells (madeCells #[.int .i64 0] 4096) 3)) := fun W => run_make_room (P := Try.prog) 23 3 (.int .i64 0) 8 Try.underlying23 Try.infoInt rfl .i64 .i64 4096 (by omega) (by omega) W
  obtain ⟨w1, hw1⟩ : ∃ w1, w1 = (w.alloc (.cells #[v0, v1] 150)) := ⟨_, rfl⟩
  have hB1 : Below w.heap.size w w1 := by rw [hw1]; exact (Below.refl _ _).alloc (Nat.le_refl _) _
  have hz1 : w1.heap.size = w.heap.size + 1 := by rw [hw1]; simp
  have hbx : w1.heap[w.heap.size]? = some (.cells #[v0, v1] 150 (0, 0)) := by rw [hw1]; exact heap_alloc_new w _
  have hT0 : Hid (IB (w1.alloc (.cells (madeCells #[.int .i64 0] 4096) 3)) w1.heap.size 3 (tabTo f (64 * 0 + 0) ++ zeros (4096 - (64 * 0 + 0)))) := by
    have h1 : madeCells #[Value.int .i64 0] 4096 = intCells (zeros 4096) := by
      apply Array.ext'
      rw [intCells, zeros, List.map_replicate]
      exact toList_madeCells_one _ _
    rw [h1]
    exact heap_alloc_new w1 _
  have hB3 := Lib.hid ((hB1.mono (Nat.le_refl _)).alloc hB1.size (.cells (madeCells #[.int .i64 0] 4096) 3))
  have hI1 := Lib.hid (hST.out w (w1.alloc (.cells (madeCells #[.int .i64 0] 4096) 3)) hI0'.out (fun k hk => hB3.out.block k hk))
  have hX1 := Lib.hid ((((Below.refl w1.heap.size w1).alloc (Nat.le_refl _) (.cells (madeCells #[.int .i64 0] 4096) 3)).block w.heap.size (by omega)).trans hbx)
  have hsz0 : Hid (w1.heap.size + 1 ≤ (w1.alloc (.cells (madeCells #[.int .i64 0] 4096) 3)).heap.size) := by unfold Hid; simp
  generalize madeCells #[Value.int .i64 0] 4096 = mc at *
  go_enter Try.func133, Try.ntmps133
  go_wp2
  try rw [← hw1]
  try rw [← hz1]
  generalize hW0 : w1.alloc (.cells mc 3) = W0 at *
  generalize hg0 : w1.heap.size = g at *
  have hgw : w.heap.size ≤ g := by omega
  clear hW0 hmk0 hw1 hB1 hbx
  have hgz : g = w.heap.size + 1 := by omega
  clear hg0 hz1
  have hGZ := Lib.hid hgz
  have hGW := Lib.hid hgw
  have hNN := Lib.hid hN
  clear hgz hgw hN
  go_loopw [5, 9] (fun v i wr => ∃ k : Nat, k ≤ 64 ∧ i = .int .i64 k ∧ v = .slice (some ⟨g, 0, none⟩) (64 * k + 0) 4096 ∧ IB wr g 3 (tabTo f (64 * k + 0) ++ zeros (4096 - (64 * k + 0))) ∧ Below N w wr ∧ Inv wr ∧ g < wr.heap.size ∧ wr.heap[w.heap.size]? = some (.cells #[v0, v1] 150 (0, 0))) (fun _ i _ => 64 - (intOf i).toNat)
  case atStart => exact ⟨0, Nat.zero_le _, rfl, rfl, hT0.out, hB3.out.mono hNN.out, hI1.out, hsz0.out, hX1.out⟩
  case round =>
    obtain ⟨k, hk, rfl, rfl, hib, hbel, hinv, hgl, hbx⟩ := hrel
    have hIB := Lib.hid hib
    have hBL := Lib.hid hbel
    have hIN := Lib.hid hinv
    have hGL := Lib.hid hgl
    have hX2 := Lib.hid hbx
    clear hib hbel hinv hgl hbx
    by_cases hlt : k < 64
    · obtain ⟨wo, hwo⟩ : ∃ wo : World, wo = wr := ⟨_, rfl⟩
      rw [← hwo] at hIB hBL hIN hGL hX2 ⊢
      clear hwo
      have hk64 : (k : Int) < 64 := by omega
      have hd64 : decide ((k : Int) < 64) = true := by simpa using hk64
      go_wp2
      go_loopw [5, 12] (fun v j wr => ∃ n : Nat, n ≤ 64 ∧ j = .int .i64 n ∧ v = .slice (some ⟨g, 0, none⟩) (64 * k + n) 4096 ∧ IB wr g 3 (tabTo f (64 * k + n) ++ zeros (4096 - (64 * k + n))) ∧ Below N w wr ∧ Inv wr ∧ g < wr.heap.size ∧ wr.heap[w.heap.size]? = some (.cells #[v0, v1] 150 (0, 0))) (fun _ j _ => 64 - (intOf j).toNat)
      case atStart => exact ⟨0, Nat.zero_le _, rfl, rfl, hIB.out, hBL.out, hIN.out, hGL.out, hX2.out⟩
      case round =>
        obtain ⟨n, hn, rfl, rfl, hib, hbel, hinv, hgl, hbx⟩ := hrel
        have hJB := Lib.hid hib
        have hCL := Lib.hid hbel
        have hJN := Lib.hid hinv
        have hGL := Lib.hid hgl
        have hX3 := Lib.hid hbx
        have hcx := fun i => cell_of_row _ w.heap.size i _ _ (0, 0) hbx
        have hc0 : wr.cell? ⟨w.heap.size, 0, none⟩ = some v0 := hcx 0
        have hc1 : wr.cell? ⟨w.heap.size, 1, none⟩ = some v1 := hcx 1
        clear hib hbel hinv hgl hbx hcx
        by_cases hlt2 : n < 64
        · have hn64 : (n : Int) < 64 := by omega
          have hdn64 : decide ((n : Int) < 64) = true := by simpa using hn64
          go_wp2_with (fail)
          refine (hAT.out k n _ hlt hlt2 hCL.out (by have := hGL.out; have := hGW.out; omega) hJN.out).mono ?_
          rintro e w3 ⟨rfl, hi3, row, hg3, hrow⟩
          have hgz3 := hg3.size
          have q1 := hGZ.out
          have q2 := hGW.out
          have q3 := hNN.out
          have hJ3 : Hid (IB w3 g 3 (tabTo f (64 * k + n) ++ zeros (4096 - (64 * k + n)))) := (hg3.block g hJB.out.lt (fun e => by have := hrow g e.symm; omega)).trans hJB.out
          have hC3 := Lib.hid (hCL.out.grown hg3 (by have := hGL.out; omega) (fun q hq => (hrow q hq).1))
          have hN3 := Lib.hid hi3
          have hz3 := Lib.hid hJ3.out.lt
          have hX4 := Lib.hid ((hg3.block w.heap.size (by have := hGL.out; omega) (fun e => by have := hrow _ e.symm; omega)).trans hX3.out)
          have hTL := Lib.hid (tabTo_len f (64 * k + n))
          have hS := Lib.hid (tabTo_succ f k n hlt2)
          clear hi3 hg3 hrow hgz3
          generalize tabTo f (64 * k + n) = zs at *
          generalize f k n = x at *
          obtain ⟨r, hr⟩ : ∃ r, 4096 - (64 * k + n) = r + 1 := ⟨4096 - (64 * k + n) - 1, by omega⟩
          have hr2 : Hid (4096 - (64 * k + (n + 1)) = r) := by simp only [Hid]; omega
          rw [hr] at hJ3
          have hba := Lib.hid ((Below.refl w3.heap.size w3).alloc (Nat.le_refl _) (.cells #[.int .i64 x] 3))
          have hJ4 := Lib.hid (hJ3.out.below hba.out hJ3.out.lt)
          have hap := Lib.hid (fun ty => append_room_int hJ4.out ty 4096 (by rw [hTL.out]; omega) w3.heap.size x (by simp))
          have hst := Lib.hid (room_set hJ4.out x)
          have hCf := Lib.hid ((hC3.out.alloc (by have := hC3.out.size; omega) (.cells #[.int .i64 x] 3)).setCell (p := ⟨g, zs.length, none⟩) (by show N ≤ g; omega) (.int .i64 x))
          have hIf := Lib.hid (hST.out w3 ((w3.alloc (.cells #[.int .i64 x] 3)).setCell ⟨g, zs.length, none⟩ (.int .i64 x)) hN3.out (fun q hq => (Below.heap_setCell _ ⟨g, zs.length, none⟩ _ q (by show q ≠ g; omega)).trans (hba.out.block q (by have := hz3.out; omega))))
          have hzf : Hid (g < ((w3.alloc (.cells #[.int .i64 x] 3)).setCell ⟨g, zs.length, none⟩ (.int .i64 x)).heap.size) := by
            have := hz3.out; unfold Hid; simp [World.setCell]; omega
          have hXf := Lib.hid ((Below.heap_setCell (w3.alloc (.cells #[.int .i64 x] 3)) ⟨g, zs.length, none⟩ (.int .i64 x) w.heap.size (by show w.heap.size ≠ g; omega)).trans ((hba.out.block w.heap.size (by have := hz3.out; omega)).trans hX4.out))
          rw [hTL.out] at hap hst hCf hIf hzf hXf
          clear hr q1 q2 q3
          go_wp2_with (at_builtin; refine Lib.wpList_append_run _ rfl _ _ _ _ rfl _ _ rfl rfl _ _ (hap.out _) ?_)
          go_roundw
          case rel => exact ⟨n + 1, by omega, by go_num, rfl, by rw [hS.out, hr2.out]; exact hst.out, hCf.out, hIf.out, hzf.out, hXf.out⟩
          case measure => simp [intOf]; omega
        · obtain rfl : n = 64 := by omega
          rw [tabTo_next] at hJB
          go_wp2
          go_roundw
          case rel => exact ⟨k + 1, by omega, by go_num, rfl, hJB.out, hCL.out, hJN.out, hGL.out, hX3.out⟩
          case measure => simp [intOf]; omega
    · obtain rfl : k = 64 := by omega
      have hfin := Lib.hid (room_ow (lo := w.heap.size) (hi := wr.heap.size) (r := 0) hIB.out (by have := hGW.out; omega) hIB.out.lt (by rw [tabTo_len]; omega))
      rw [tabTo_len] at hfin
      go_wp2
      go_ret
      exact ⟨_, _, rfl, hfin.out, hBL.out, hIN.out⟩
end Go.Proofs.Ytdleiondfhmjdaa

/- The program's DifferenceOf and ComputesExpr. -/
namespace Go.Proofs.Ytdleiondfhmjdaa
open Go.RowKit
set_option linter.unusedVariables false
set_option maxRecDepth 100000

set_option maxHeartbeats 4000000 in
theorem codeAt_any (L B : Nat) (A : Option Addr) (c n : Nat) (cs : List In) (r x0 x1 : Int) (w : World) (hn : n = cs.length) (hl : cs.length ≤ 1048576) (hcs : RS In.enc 5 w L B A cs) (hB : B ≤ w.heap.size) :
    Calls Try.prog 134 #[.agg #[.slice A n c, .int .i64 r], .int .i64 x0, .int .i64 x1] w fun e w' => e = .returned (.int .i64 (resR cs x0 x1 r)) ∧ Below w.heap.size w w' := by
  have HR := Lib.hid fun (W : World) (hW : Below w.heap.size w W) => iResultOf_any L B A c cs x0 x1 r W hl (hcs.below hW hB) (Nat.le_trans hB hW.size)
  rw [← hn] at HR
  have hb := (Below.refl w.heap.size w).alloc (Nat.le_refl _) (.cells #[.slice A n c, .int .i64 r] 150)
  obtain ⟨c0, c1⟩ := two_cells w (.slice A n c) (.int .i64 r) 150
  have hb0 := Lib.hid hb
  have hbd := Lib.hid hb.drew
  clear hcs hB hl hn hb
  go_enter Try.func134, Try.ntmps134
  go_wp2_with (fail)
  refine (HR.out _ (by first | exact hb0.out | exact hbd.out)).mono ?_
  rintro e w' ⟨rfl, hb2⟩
  go_wp2
  go_ret
  exact ⟨rfl, by first | exact hb0.out.trans (hb2.mono hb0.out.size) | exact hbd.out.trans (hb2.mono hbd.out.size)⟩

theorem codeAt_tells (N L B : Nat) (A : Option Addr) (c n : Nat) (cs : List In) (r : Int) (w : World) (hn : n = cs.length) (hl : cs.length ≤ 1048576) (hcs : RS In.enc 5 w L B A cs) (hB : B ≤ w.heap.size) (hBN : B ≤ N) :
    Tells N (fun _ => True) w 134 (.agg #[.slice A n c, .int .i64 r]) (fun x0 x1 => resR cs x0 x1 r) := by
  intro x0 x1 W h0 h1 hb hz _
  refine (codeAt_any L B A c n cs r x0 x1 W hn hl (hcs.below hb hBN) (Nat.le_trans hB hz)).mono ?_
  rintro e W' ⟨rfl, hb'⟩
  exact ⟨rfl, trivial, none, grownBy_of_below hb' none, fun k hk => by cases hk⟩

set_option maxHeartbeats 4000000 in
theorem wrongBitsOf_any (L B L' B' : Nat) (A A' : Option Addr) (c c' : Nat) (es : List Nd) (cs : List In) (r : Int) (w : World) (hl : es.length ≤ 1048576) (hl' : cs.length ≤ 1048576) (hes : NS w L B A es) (hcs : RS In.enc 5 w L' B' A' cs) (hB : B ≤ w.heap.size) (hB' : B' ≤ w.heap.size) :
    Calls Try.prog 92 #[.slice A es.length c, .slice A' cs.length c', .int .i64 r] w (IntsRes w (wrR es cs r) (wrB es cs r)) := by
  have GE := Lib.hid fun (W : World) (hW : Below w.heap.size w W) => iTable_is L B A c es W hl (hes.below hW hB) (Nat.le_trans hB hW.size)
  have GF := Lib.hid fun (W : World) (hW : Below w.heap.size w W) => IsCode_any L' B' A' c' cs W hl' (hcs.below hW hB') (Nat.le_trans hB' hW.size)
  have C0 := Lib.hid fun (W : World) (hW : Below w.heap.size w W) => hcs.below hW hB'
  have hB2 := Lib.hid hB'
  have b0 := Lib.hid (Below.refl w.heap.size w)
  clear hes hcs hB hB'
  cases hg : good es
  · have hk := Lib.hid (show wrB es cs r = false by simp [wrB, hg])
    have hR := Lib.hid (show wrR es cs r = [] by unfold wrR; rw [if_neg (by rw [hk.out]; decide)])
    rw [hg] at GE
    clear hg
    go_enter Try.func92, Try.ntmps92
    go_wp2_with (fail)
    refine (GE.out w b0.out).mono ?_
    rintro e w1 ⟨V1, v1, rfl, _, hb⟩
    have b1 := Lib.hid (b0.out.trans (hb.mono b0.out.size)); clear hb
    go_wp2_with (fail)
    go_ret2
    exact nil_fin hR.out hk.out b1.out
  cases hf : okCode cs
  · have hk := Lib.hid (show wrB es cs r = false by simp [wrB, hf])
    have hR := Lib.hid (show wrR es cs r = [] by unfold wrR; rw [if_neg (by rw [hk.out]; decide)])
    rw [hg] at GE
    rw [hf] at GF
    clear hg hf
    go_enter Try.func92, Try.ntmps92
    go_wp2_with (fail)
    refine (GE.out w b0.out).mono ?_
    rintro e w1 ⟨V1, v1, rfl, _, hb⟩
    have b1 := Lib.hid (b0.out.trans (hb.mono b0.out.size)); clear hb
    go_wp2_with (fail)
    refine (GF.out w1 b1.out).mono ?_
    rintro e w2 ⟨rfl, hb⟩
    have b2 := Lib.hid (b1.out.trans (hb.mono b1.out.size)); clear hb
    go_wp2_with (fail)
    go_ret2
    exact nil_fin hR.out hk.out b2.out
  cases hr : reg r
  · have hk := Lib.hid (show wrB es cs r = false by simp [wrB, hr])
    have hR := Lib.hid (show wrR es cs r = [] by unfold wrR; rw [if_neg (by rw [hk.out]; decide)])
    have HRg := Lib.hid fun (W : World) => isRegister_any r W
    rw [hr] at HRg
    rw [hg] at GE
    rw [hf] at GF
    clear hg hf hr
    go_enter Try.func92, Try.ntmps92
    go_wp2_with (fail)
    refine (GE.out w b0.out).mono ?_
    rintro e w1 ⟨V1, v1, rfl, _, hb⟩
    have b1 := Lib.hid (b0.out.trans (hb.mono b0.out.size)); clear hb
    go_wp2_with (fail)
    refine (GF.out w1 b1.out).mono ?_
    rintro e w2 ⟨rfl, hb⟩
    have b2 := Lib.hid (b1.out.trans (hb.mono b1.out.size)); clear hb
    go_wp2_with (fail)
    refine (HRg.out _).mono ?_
    rintro e w3 ⟨rfl, rfl⟩
    go_wp2_with (fail)
    go_ret2
    exact nil_fin hR.out hk.out b2.out
  have hk := Lib.hid (show wrB es cs r = true by simp [wrB, hg, hf, hr])
  have hR := Lib.hid (show wrR es cs r = difT (tab es) (rsT cs r) by unfold wrR; rw [if_pos hk.out])
  have HRg := Lib.hid fun (W : World) => isRegister_any r W
  rw [hr] at HRg
  rw [hg] at GE
  rw [hf] at GF
  have he := Lib.hid (show tabR es = tab es by unfold tabR; rw [if_pos hg])
  rw [he.out, tab_len] at GE
  clear hg hf hr he
  go_enter Try.func92, Try.ntmps92
  go_wp2_with (fail)
  refine (GE.out w b0.out).mono ?_
  rintro e w1 ⟨V1, v1, rfl, hi, hb⟩
  have b1 := Lib.hid (b0.out.trans (hb.mono b0.out.size)); clear hb
  have i1 := Lib.hid hi; clear hi
  go_wp2_with (fail)
  refine (GF.out w1 b1.out).mono ?_
  rintro e w2 ⟨rfl, hb⟩
  have b2 := Lib.hid (b1.out.trans (hb.mono b1.out.size))
  have j1 := Lib.hid (i1.out.below hb (Nat.le_refl _))
  have z2 := Lib.hid hb.size
  clear hb i1
  go_wp2_with (fail)
  refine (HRg.out _).mono ?_
  rintro e w3 ⟨rfl, rfl⟩
  have hC := Lib.hid (codeAt_tells w2.heap.size L' B' A' c' cs.length cs r w2 rfl hl' (C0.out w2 b2.out) (Nat.le_trans hB2.out b2.out.size) (Nat.le_trans hB2.out b2.out.size))
  have hT := Lib.hid (tableFor_R (.slice A' cs.length c') (.int .i64 r) (fun x0 x1 => resR cs x0 x1 r) w2.heap.size (fun _ => True) w2 (Nat.le_refl _) trivial (fun _ _ _ _ => trivial) hC.out)
  clear hC
  go_wp2_with (fail)
  refine hT.out.mono ?_
  rintro e w3 ⟨V3, v3, rfl, how, hb, _⟩
  have b3 := Lib.hid (b2.out.trans (hb.mono b2.out.size))
  obtain ⟨A3, c3, hv, his⟩ := how.form
  injection hv with ha hm3 hc3
  clear hm3
  subst ha; subst hc3
  have i3 := Lib.hid his
  have j3 := Lib.hid (j1.out.below hb z2.out)
  have z3 := Lib.hid hb.size
  clear hb how his hT j1
  have hT := Lib.hid (tableFor_P (.slice V1 4096 v1) (.slice V3 4096 v3) (fun x0 x1 => bits .xor .i64 ((tab es).getD (64 * x0 + x1).toNat 0) ((rsT cs r).getD (64 * x0 + x1).toNat 0)) w3.heap.size (fun _ => True) w3 (Nat.le_refl _) trivial (fun _ _ _ _ => trivial)
    (differentBits_tells w3.heap.size _ _ _ _ V1 V3 v1 v3 (tab es) (rsT cs r) w3 (tab_len _) (rsT_len _ _) j3.out i3.out (Nat.le_trans z2.out z3.out) (Nat.le_refl _) (Nat.le_trans z2.out z3.out) (Nat.le_refl _)))
  go_wp2_with (fail)
  refine hT.out.mono ?_
  rintro e w4 ⟨V4, v4, rfl, how, hb, _⟩
  have b4 := Lib.hid (b3.out.trans (hb.mono b3.out.size)); clear hb
  have o4 := Lib.hid how; clear how
  go_wp2_with (fail)
  go_ret2
  rw [hR.out, hk.out]
  exact ⟨V4, v4, by rw [difT_len]; rfl, by rw [difT_len]; exact o4.out.lower b3.out.size, b4.out⟩

theorem wr_is (L B L' B' : Nat) (A A' : Option Addr) (c c' : Nat) (es : List Nd) (cs : List In) (r : Int) (w : World) (hl : es.length ≤ 1048576) (hl' : cs.length ≤ 1048576) (hes : NS w L B A es) (hcs : RS In.enc 5 w L' B' A' cs) (hB : B ≤ w.heap.size) (hB' : B' ≤ w.heap.size) :
    Calls Try.prog 92 #[.slice A es.length c, .slice A' cs.length c', .int .i64 r] w fun e w' => ∃ V v, e = .returned (.tuple #[.slice V (wrR es cs r).length v, .bool (wrB es cs r)]) ∧ IS w' w.heap.size w'.heap.size V (wrR es cs r) ∧ Below w.heap.size w w' :=
  (wrongBitsOf_any L B L' B' A A' c c' es cs r w hl hl' hes hcs hB hB').mono fun e w' h => IntsRes.is h

set_option maxHeartbeats 2000000 in
theorem iDifferenceOf_any (L B : Nat) (A : Option Addr) (c : Nat) (es : List Nd) (L' B' : Nat) (A' : Option Addr) (c' : Nat) (cs : List In) (r : Int) (w : World) (hl : es.length ≤ 1048576) (hes : NS w L B A es) (hB : B ≤ w.heap.size) (hl' : cs.length ≤ 1048576) (hcs : RS In.enc 5 w L' B' A' cs) (hB' : B' ≤ w.heap.size) :
    Calls Try.prog 52 #[.slice A es.length c, .slice A' cs.length c', .int .i64 r] w fun e w' => e = .returned (.tuple #[.int .i64 (wf0 es cs r), .int .i64 (wf1 es cs r), .bool (wfB es cs r)]) ∧ Below w.heap.size w w' := by
  have HD := Lib.hid (wr_is L B L' B' A A' c c' es cs r w hl hl' hes hcs hB hB')
  have hln := Lib.hid (wrR_len es cs r)
  clear hes hcs hB hB'
  have q1 := Lib.hid (wrR_first es cs r)
  generalize hD : wrR es cs r = D at *
  clear hD
  obtain ⟨n, hn⟩ : ∃ n, n = D.length := ⟨_, rfl⟩
  rw [← hn] at HD hln q1
  have hxn := Lib.hid hn.symm
  clear hn
  have hn4 : n ≤ 4096 := hln.out
  have e0 : Hid (wf0 es cs r = (if wfR es cs r < 0 then 0 else wfR es cs r / 64)) := rfl
  have e1 : Hid (wf1 es cs r = (if wfR es cs r < 0 then 0 else wfR es cs r % 64)) := rfl
  have e2 : Hid (wfB es cs r = decide (0 ≤ wfR es cs r)) := rfl
  generalize wf0 es cs r = R0 at *
  generalize wf1 es cs r = R1 at *
  generalize wfB es cs r = R2 at *
  go_enter Try.func52, Try.ntmps52
  go_wp2_with (fail)
  refine HD.out.mono ?_
  rintro e w1 ⟨V1, v1, rfl, hi, hb⟩
  have b1 := Lib.hid hb
  have i1 := Lib.hid hi
  clear hb hi
  go_wp2_with (fail)
  refine (firstDifference_any _ _ _ _ n D w1 (by omega) hxn.out i1.out).mono ?_
  rintro e w2 ⟨rfl, rfl⟩
  rw [q1.out]
  rw [← e0.out, ← e1.out, ← e2.out]
  go_wp2_with (fail)
  go_ret3
  exact ⟨rfl, b1.out⟩

set_option maxHeartbeats 2000000 in
theorem iComputesExpr_any (L B : Nat) (A : Option Addr) (c : Nat) (es : List Nd) (L' B' : Nat) (A' : Option Addr) (c' : Nat) (cs : List In) (r : Int) (w : World) (hl : es.length ≤ 1048576) (hes : NS w L B A es) (hB : B ≤ w.heap.size) (hl' : cs.length ≤ 1048576) (hcs : RS In.enc 5 w L' B' A' cs) (hB' : B' ≤ w.heap.size) :
    Calls Try.prog 54 #[.slice A es.length c, .slice A' cs.length c', .int .i64 r] w fun e w' => e = .returned (.tuple #[.bool (wcR es cs r), .bool (wrB es cs r)]) ∧ Below w.heap.size w w' := by
  have HD := Lib.hid (wr_is L B L' B' A A' c c' es cs r w hl hl' hes hcs hB hB')
  have hln := Lib.hid (wrR_len es cs r)
  clear hes hcs hB hB'
  cases hk : wrB es cs r
  · have hc : Hid (wcR es cs r = false) := by unfold Hid wcR; rw [hk]; rfl
    rw [hk] at HD
    clear hk
    generalize hD : wrR es cs r = D at *
    clear hD
    go_enter Try.func54, Try.ntmps54
    go_wp2_with (fail)
    refine HD.out.mono ?_
    rintro e w1 ⟨V1, v1, rfl, hi, hb⟩
    have b1 := Lib.hid hb
    clear hb hi
    go_wp2_with (fail)
    go_ret2
    rw [hc.out]
    exact ⟨rfl, b1.out⟩
  · have q1 := Lib.hid (wrR_count es cs r hk)
    rw [hk] at HD
    clear hk
    generalize hD : wrR es cs r = D at *
    clear hD
    obtain ⟨n, hn⟩ : ∃ n, n = D.length := ⟨_, rfl⟩
    rw [← hn] at HD hln q1
    have hxn := Lib.hid hn.symm
    clear hn
    have hn4 : n ≤ 4096 := hln.out
    go_enter Try.func54, Try.ntmps54
    go_wp2_with (fail)
    refine HD.out.mono ?_
    rintro e w1 ⟨V1, v1, rfl, hi, hb⟩
    have b1 := Lib.hid hb
    have i1 := Lib.hid hi
    clear hb hi
    go_wp2_with (fail)
    refine (countDifferences_any _ _ _ _ n D w1 (by omega) hxn.out i1.out).mono ?_
    rintro e w2 ⟨rfl, rfl⟩
    generalize countI (fun i => D.getD i 0 != 0) n = q at *
    go_wp2_with (fail)
    go_ret2
    rw [← q1.out]
    exact ⟨by first | rfl | (congr 3), b1.out⟩
end Go.Proofs.Ytdleiondfhmjdaa

/- The contracts as the laws take them. -/
namespace Go.Proofs.Ytdleiondfhmjdaa
open Go.RowKit
set_option linter.unusedVariables false

theorem sDifferenceOf_k (L B : Nat) (A : Option Addr) (c : Nat) (es : List Nd) (L' B' : Nat) (A' : Option Addr) (c' : Nat) (cs : List In) (r : Int) (w : World) (hl : es.length ≤ 1048576) (hes : RS Nd.enc 4 w L B A es) (hB : B ≤ w.heap.size) (hl' : cs.length ≤ 1048576) (hcs : RS In.enc 5 w L' B' A' cs) (hB' : B' ≤ w.heap.size) :
    Calls Try.prog 51 #[.slice A es.length c, .slice A' cs.length c', .int .i64 r] w (ResDifferenceOf (wf0 es cs r) (wf1 es cs r) (wfB es cs r) w) := sDifferenceOf_any L B A c es L' B' A' c' cs r w hl hes.ns hB hl' hcs hB'
theorem iDifferenceOf_k (L B : Nat) (A : Option Addr) (c : Nat) (es : List Nd) (L' B' : Nat) (A' : Option Addr) (c' : Nat) (cs : List In) (r : Int) (w : World) (hl : es.length ≤ 1048576) (hes : RS Nd.enc 4 w L B A es) (hB : B ≤ w.heap.size) (hl' : cs.length ≤ 1048576) (hcs : RS In.enc 5 w L' B' A' cs) (hB' : B' ≤ w.heap.size) :
    Calls Try.prog 52 #[.slice A es.length c, .slice A' cs.length c', .int .i64 r] w (ResDifferenceOf (wf0 es cs r) (wf1 es cs r) (wfB es cs r) w) := iDifferenceOf_any L B A c es L' B' A' c' cs r w hl hes.ns hB hl' hcs hB'
theorem sComputesExpr_k (L B : Nat) (A : Option Addr) (c : Nat) (es : List Nd) (L' B' : Nat) (A' : Option Addr) (c' : Nat) (cs : List In) (r : Int) (w : World) (hl : es.length ≤ 1048576) (hes : RS Nd.enc 4 w L B A es) (hB : B ≤ w.heap.size) (hl' : cs.length ≤ 1048576) (hcs : RS In.enc 5 w L' B' A' cs) (hB' : B' ≤ w.heap.size) :
    Calls Try.prog 53 #[.slice A es.length c, .slice A' cs.length c', .int .i64 r] w (ResComputesExpr (wcR es cs r) (wrB es cs r) w) := sComputesExpr_any L B A c es L' B' A' c' cs r w hl hes.ns hB hl' hcs hB'
theorem iComputesExpr_k (L B : Nat) (A : Option Addr) (c : Nat) (es : List Nd) (L' B' : Nat) (A' : Option Addr) (c' : Nat) (cs : List In) (r : Int) (w : World) (hl : es.length ≤ 1048576) (hes : RS Nd.enc 4 w L B A es) (hB : B ≤ w.heap.size) (hl' : cs.length ≤ 1048576) (hcs : RS In.enc 5 w L' B' A' cs) (hB' : B' ≤ w.heap.size) :
    Calls Try.prog 54 #[.slice A es.length c, .slice A' cs.length c', .int .i64 r] w (ResComputesExpr (wcR es cs r) (wrB es cs r) w) := iComputesExpr_any L B A c es L' B' A' c' cs r w hl hes.ns hB hl' hcs hB'
end Go.Proofs.Ytdleiondfhmjdaa

/- Arguments of the types []laws.Instr, laws.Instr and []int opened. -/
namespace Go.Proofs.Ytdleiondfhmjdaa
open Go.ChangeShapes Go.WideShapes Go.ChangeAt Go.RowKit Go.Deep
open Go.ChangeMaps (open_string shut_string)
set_option linter.unusedVariables false

theorem cellsIn : Try.prog.cellsOf 67 = 5 := by kernel_rfl
theorem cellsStr : Try.prog.cellsOf 9 = 1 := by kernel_rfl
theorem cellsInt : Try.prog.cellsOf 3 = 1 := by kernel_rfl

set_option maxRecDepth 100000 in
theorem in_of_trod {H : Type} {enc : TypeId × Value → H} {w : World} {base : Nat} {spare : Nat → Bool} {held : Bool} {n : Nat} {cs : List Value} {x : DataW H × List MemPlace}
    (h : DataW.trod enc Try.prog w base spare held n 67 cs = some x) : ∃ nd : In, cs = nd.enc ∧ nd.op.size ≤ maxLen := by
  obtain ⟨xs, m, _, _, hlen, hxl, hf⟩ := DataW.trod_struct Try.underlying67 h
  rw [cellsIn] at hlen
  match cs, hlen with
  | [c0, c1, c2, c3, c4], _ =>
    match xs, hxl with
    | [y0, y1, y2, y3, y4], _ =>
      have h0 := hf 0 _ rfl
      change DataW.trod enc Try.prog w base spare held m 9 (([c0, c1, c2, c3, c4].drop 0).take (Try.prog.cellsOf 9)) = _ at h0
      rw [cellsStr] at h0
      have h1 := hf 1 _ rfl
      change DataW.trod enc Try.prog w base spare held m 3 (([c0, c1, c2, c3, c4].drop 1).take (Try.prog.cellsOf 3)) = _ at h1
      rw [cellsInt] at h1
      have h2 := hf 2 _ rfl
      change DataW.trod enc Try.prog w base spare held m 3 (([c0, c1, c2, c3, c4].drop 2).take (Try.prog.cellsOf 3)) = _ at h2
      rw [cellsInt] at h2
      have h3 := hf 3 _ rfl
      change DataW.trod enc Try.prog w base spare held m 3 (([c0, c1, c2, c3, c4].drop 3).take (Try.prog.cellsOf 3)) = _ at h3
      rw [cellsInt] at h3
      have h4 := hf 4 _ rfl
      change DataW.trod enc Try.prog w base spare held m 3 (([c0, c1, c2, c3, c4].drop 4).take (Try.prog.cellsOf 3)) = _ at h4
      rw [cellsInt] at h4
      obtain ⟨s, e0, _, hs⟩ := DataW.trod_string Try.underlying9 h0
      obtain ⟨d, e1, _, _⟩ := DataW.trod_int Try.underlying3 h1
      obtain ⟨a, e2, _, _⟩ := DataW.trod_int Try.underlying3 h2
      obtain ⟨b, e3, _, _⟩ := DataW.trod_int Try.underlying3 h3
      obtain ⟨m, e4, _, _⟩ := DataW.trod_int Try.underlying3 h4
      have e0 : c0 = .string s := by simpa using e0
      have e1 : c1 = .int .i64 d := by simpa using e1
      have e2 : c2 = .int .i64 a := by simpa using e2
      have e3 : c3 = .int .i64 b := by simpa using e3
      have e4 : c4 = .int .i64 m := by simpa using e4
      exact ⟨⟨s, d, a, b, m⟩, by rw [e0, e1, e2, e3, e4]; rfl, hs⟩

theorem cell_lt_heap {w : World} {a : Addr} {v : Value} (h : w.cell? a = some v) : a.block < w.heap.size := by
  rcases Nat.lt_or_ge a.block w.heap.size with hlt | hge
  · exact hlt
  · unfold World.cell? at h; rw [Array.getElem?_eq_none hge] at h; simp at h

set_option maxRecDepth 100000 in
theorem x_of_trod {H : Type} {enc : TypeId × Value → H} {w : World} {r : Reach} {b0 : Nat} {spare : Nat → Bool} {held : Bool} {v : Value} {d : DataW H} {p : List MemPlace}
    (hv : Value.okWide Try.prog w r b0 67 v) (h : DataW.Trod enc Try.prog w 0 spare held 67 v d p) :
    ∃ x : In, v = .agg #[.string x.op, .int .i64 x.d, .int .i64 x.a, .int .i64 x.b, .int .i64 x.m] ∧ x.op.size ≤ 9223372036854775807 := by
  obtain ⟨cs, rfl, hsz⟩ := okWide_struct Try.underlying67 hv
  obtain ⟨fuel, hf⟩ := h
  obtain ⟨x, hx, hs⟩ := in_of_trod hf
  refine ⟨x, ?_, by unfold maxLen at hs; omega⟩
  obtain ⟨l⟩ := cs
  have hx' : l = x.enc := by simpa [Value.cells] using hx
  subst hx'; rfl

set_option maxRecDepth 100000 in
theorem ins_of_trod {H : Type} {enc : TypeId × Value → H} {w : World} {spare : Nat → Bool} {held : Bool} {A : Option Addr} {len cap : Nat} {d : DataW H} {p : List MemPlace}
    (h : DataW.Trod enc Try.prog w 0 spare held 22 (.slice A len cap) d p) :
    ∃ es : List In, es.length = len ∧ RS In.enc 5 w 0 w.heap.size A es ∧ (∀ n ∈ es, n.op.size ≤ 9223372036854775807) ∧ len ≤ 9223372036854775807 := by
  obtain ⟨fuel, hf⟩ := h
  rcases open_slice Try.underlying22 hf with ⟨hcs, _⟩ | ⟨a, l, c, m, n, D, Pl, hcs, _, hl, hm, hmm, _, hi⟩
  · simp [Value.cells] at hcs
    obtain ⟨rfl, rfl, rfl⟩ := hcs
    exact ⟨[], rfl, fun h => absurd h (by simp), (fun n hn => by cases hn), by omega⟩
  · simp [Value.cells] at hcs
    obtain ⟨rfl, rfl, rfl⟩ := hcs
    have hlm : len ≤ m := by rw [hmm]; split <;> omega
    have hex : ∀ i, i < len → ∃ nd : In, (∀ j v, nd.enc[j]? = some v → w.cell? (a.add (i * 5 + j)) = some v) ∧ nd.op.size ≤ maxLen := by
      intro i hil
      obtain ⟨cs', hc, ht⟩ := hi i (by omega)
      rw [cellsIn] at hc
      obtain ⟨nd, rfl, hs⟩ := in_of_trod ht
      obtain ⟨_, _, hat⟩ := World.cells?_some hc
      refine ⟨nd, fun j v hv => ?_, hs⟩
      have hj : j < 5 := kflat_lt In.hk hv
      have := hat j hj
      rw [add_add, hv] at this; exact this
    obtain ⟨f, hf2⟩ := Classical.axiomOfChoice (fun i : {i // i < len} => hex i.1 i.2)
    have hget : ∀ i (h : i < (List.ofFn fun i : Fin len => f ⟨i.1, i.2⟩).length), (List.ofFn fun i : Fin len => f ⟨i.1, i.2⟩)[i] = f ⟨i, by simpa using h⟩ := fun i h => by simp
    refine ⟨List.ofFn fun i : Fin len => f ⟨i.1, i.2⟩, by simp, ?_, ?_, by unfold maxLen at hm; omega⟩
    · intro hpos
      have hpos' : 0 < len := by simpa using hpos
      have h0 := (hf2 ⟨0, hpos'⟩).1 0 _ rfl
      obtain ⟨b, o, spot⟩ := a
      have hspot : spot = none := by have := World.cell?_spot h0; simpa [Addr.add] using this
      subst hspot
      have hadd : ∀ k, (⟨b, o, none⟩ : Addr).add k = ⟨b, o + k, none⟩ := fun k => by simp [Addr.add]
      refine ⟨b, o, rfl, ⟨Nat.zero_le _, ?_⟩, fun i hi j v hv => ?_⟩
      · rw [hadd] at h0
        exact cell_lt_heap h0
      · have hi' : i < len := by simpa using hi
        rw [hget i hi] at hv
        have := (hf2 ⟨i, hi'⟩).1 j v hv
        simp only [hadd, ← Nat.add_assoc] at this
        exact this
    · intro n hn
      obtain ⟨i, rfl⟩ := List.mem_ofFn.1 hn
      have := (hf2 ⟨i.1, i.2⟩).2
      unfold maxLen at this; omega

set_option maxRecDepth 100000 in
theorem ints_of_trod {H : Type} {enc : TypeId × Value → H} {w : World} {spare : Nat → Bool} {held : Bool} {A : Option Addr} {len cap : Nat} {d : DataW H} {p : List MemPlace}
    (h : DataW.Trod enc Try.prog w 0 spare held 23 (.slice A len cap) d p) :
    ∃ xs : List Int, xs.length = len ∧ IS w 0 w.heap.size A xs ∧ len ≤ 9223372036854775807 := by
  obtain ⟨fuel, hf⟩ := h
  rcases open_slice Try.underlying23 hf with ⟨hcs, _⟩ | ⟨a, l, c, m, n, D, Pl, hcs, _, hl, hm, hmm, _, hi⟩
  · simp [Value.cells] at hcs
    obtain ⟨rfl, rfl, rfl⟩ := hcs
    exact ⟨[], rfl, fun h => absurd h (by simp), by omega⟩
  · simp [Value.cells] at hcs
    obtain ⟨rfl, rfl, rfl⟩ := hcs
    have hlm : len ≤ m := by rw [hmm]; split <;> omega
    have hex : ∀ i, i < len → ∃ x : Int, w.cell? (a.add i) = some (.int .i64 x) := by
      intro i hil
      obtain ⟨cs', hc, ht⟩ := hi i (by omega)
      rw [cellsInt, Nat.mul_one] at hc
      obtain ⟨x, hx, _, _⟩ := DataW.trod_int Try.underlying3 ht
      obtain ⟨_, _, hat⟩ := World.cells?_some hc
      have := hat 0 (by omega)
      rw [add_add, hx] at this
      exact ⟨x, by simpa using this⟩
    obtain ⟨f, hf2⟩ := Classical.axiomOfChoice (fun i : {i // i < len} => hex i.1 i.2)
    have hget : ∀ i (h : i < (List.ofFn fun i : Fin len => f ⟨i.1, i.2⟩).length), (List.ofFn fun i : Fin len => f ⟨i.1, i.2⟩)[i] = f ⟨i, by simpa using h⟩ := fun i h => by simp
    refine ⟨List.ofFn fun i : Fin len => f ⟨i.1, i.2⟩, by simp, ?_, by unfold maxLen at hm; omega⟩
    intro hpos
    have hpos' : 0 < len := by simpa using hpos
    have h0 := hf2 ⟨0, hpos'⟩
    obtain ⟨b, o, spot⟩ := a
    have hspot : spot = none := by have := World.cell?_spot h0; simpa [Addr.add] using this
    subst hspot
    have hadd : ∀ k, (⟨b, o, none⟩ : Addr).add k = ⟨b, o + k, none⟩ := fun k => by simp [Addr.add]
    refine ⟨b, o, rfl, ⟨Nat.zero_le _, ?_⟩, fun i hi => ?_⟩
    · rw [hadd] at h0
      exact cell_lt_heap h0
    · have hi' : i < len := by simpa using hi
      rw [hget i hi]
      have := hf2 ⟨i, hi'⟩
      simp only [hadd] at this
      exact this
end Go.Proofs.Ytdleiondfhmjdaa

/- An argument of type []laws.Node opened as a list of nodes. -/
namespace Go.Proofs.Ytdleiondfhmjdaa
open Go.ChangeShapes Go.WideShapes Go.ChangeAt Go.RowKit Go.Deep
open Go.ChangeMaps (open_string shut_string)
set_option linter.unusedVariables false
set_option maxRecDepth 100000

theorem cellsNode : Try.prog.cellsOf 84 = 4 := by kernel_rfl

theorem node_of_trod {H : Type} {enc : TypeId × Value → H} {w : World} {base : Nat} {spare : Nat → Bool} {held : Bool} {n : Nat} {cs : List Value} {x : DataW H × List MemPlace}
    (h : DataW.trod enc Try.prog w base spare held n 84 cs = some x) : ∃ nd : Nd, cs = nd.cells ∧ nd.op.size ≤ maxLen := by
  obtain ⟨xs, m, _, _, hlen, hxl, hf⟩ := DataW.trod_struct Try.underlying84 h
  rw [cellsNode] at hlen
  match cs, hlen with
  | [c0, c1, c2, c3], _ =>
    match xs, hxl with
    | [y0, y1, y2, y3], _ =>
      have h0 := hf 0 _ rfl
      change DataW.trod enc Try.prog w base spare held m 9 (([c0, c1, c2, c3].drop 0).take (Try.prog.cellsOf 9)) = _ at h0
      rw [cellsStr] at h0
      have h1 := hf 1 _ rfl
      change DataW.trod enc Try.prog w base spare held m 3 (([c0, c1, c2, c3].drop 1).take (Try.prog.cellsOf 3)) = _ at h1
      rw [cellsInt] at h1
      have h2 := hf 2 _ rfl
      change DataW.trod enc Try.prog w base spare held m 3 (([c0, c1, c2, c3].drop 2).take (Try.prog.cellsOf 3)) = _ at h2
      rw [cellsInt] at h2
      have h3 := hf 3 _ rfl
      change DataW.trod enc Try.prog w base spare held m 3 (([c0, c1, c2, c3].drop 3).take (Try.prog.cellsOf 3)) = _ at h3
      rw [cellsInt] at h3
      obtain ⟨s, e0, _, hs⟩ := DataW.trod_string Try.underlying9 h0
      obtain ⟨a, e1, _, _⟩ := DataW.trod_int Try.underlying3 h1
      obtain ⟨b, e2, _, _⟩ := DataW.trod_int Try.underlying3 h2
      obtain ⟨v, e3, _, _⟩ := DataW.trod_int Try.underlying3 h3
      have e0 : c0 = .string s := by simpa using e0
      have e1 : c1 = .int .i64 a := by simpa using e1
      have e2 : c2 = .int .i64 b := by simpa using e2
      have e3 : c3 = .int .i64 v := by simpa using e3
      exact ⟨⟨s, a, b, v⟩, by rw [e0, e1, e2, e3]; rfl, hs⟩

theorem nodes_of_trod_ns {H : Type} {enc : TypeId × Value → H} {w : World} {spare : Nat → Bool} {held : Bool} {A : Option Addr} {len cap : Nat} {d : DataW H} {p : List MemPlace}
    (h : DataW.Trod enc Try.prog w 0 spare held 38 (.slice A len cap) d p) :
    ∃ es : List Nd, es.length = len ∧ NS w 0 w.heap.size A es ∧ (∀ n ∈ es, n.op.size ≤ 9223372036854775807) ∧ len ≤ 9223372036854775807 := by
  obtain ⟨fuel, hf⟩ := h
  rcases open_slice Try.underlying38 hf with ⟨hcs, _⟩ | ⟨a, l, c, m, n, D, Pl, hcs, _, hl, hm, hmm, _, hi⟩
  · simp [Value.cells] at hcs
    obtain ⟨rfl, rfl, rfl⟩ := hcs
    exact ⟨[], rfl, fun h => absurd h (by simp), (fun n hn => by cases hn), by omega⟩
  · simp [Value.cells] at hcs
    obtain ⟨rfl, rfl, rfl⟩ := hcs
    have hlm : len ≤ m := by rw [hmm]; split <;> omega
    have hex : ∀ i, i < len → ∃ nd : Nd, (w.cell? (a.add (i * 4)) = some (.string nd.op) ∧ w.cell? (a.add (i * 4 + 1)) = some (.int .i64 nd.a) ∧ w.cell? (a.add (i * 4 + 2)) = some (.int .i64 nd.b) ∧ w.cell? (a.add (i * 4 + 3)) = some (.int .i64 nd.v)) ∧ nd.op.size ≤ maxLen := by
      intro i hil
      obtain ⟨cs', hc, ht⟩ := hi i (by omega)
      rw [cellsNode] at hc
      obtain ⟨nd, rfl, hs⟩ := node_of_trod ht
      obtain ⟨_, _, hat⟩ := World.cells?_some hc
      refine ⟨nd, ⟨?_, ?_, ?_, ?_⟩, hs⟩
      · have := hat 0 (by omega); rw [add_add] at this; exact this
      · have := hat 1 (by omega); rw [add_add] at this; exact this
      · have := hat 2 (by omega); rw [add_add] at this; exact this
      · have := hat 3 (by omega); rw [add_add] at this; exact this
    obtain ⟨f, hf2⟩ := Classical.axiomOfChoice (fun i : {i // i < len} => hex i.1 i.2)
    have hget : ∀ i (h : i < (List.ofFn fun i : Fin len => f ⟨i.1, i.2⟩).length), (List.ofFn fun i : Fin len => f ⟨i.1, i.2⟩)[i] = f ⟨i, by simpa using h⟩ := fun i h => by simp
    refine ⟨List.ofFn fun i : Fin len => f ⟨i.1, i.2⟩, by simp, ?_, ?_, by unfold maxLen at hm; omega⟩
    · intro hpos
      have hpos' : 0 < len := by simpa using hpos
      have h0 := (hf2 ⟨0, hpos'⟩).1.1
      obtain ⟨b, o, spot⟩ := a
      have hspot : spot = none := by have := World.cell?_spot h0; simpa [Addr.add] using this
      subst hspot
      have hadd : ∀ k, (⟨b, o, none⟩ : Addr).add k = ⟨b, o + k, none⟩ := fun k => by simp [Addr.add]
      refine ⟨b, o, rfl, ⟨Nat.zero_le _, ?_⟩, fun i hi => ?_⟩
      · rw [hadd] at h0
        exact cell_lt_heap h0
      · have hi' : i < len := by simpa using hi
        rw [hget i hi]
        have := (hf2 ⟨i, hi'⟩).1
        simp only [hadd, ← Nat.add_assoc] at this
        exact this
    · intro n hn
      obtain ⟨i, rfl⟩ := List.mem_ofFn.1 hn
      have := (hf2 ⟨i.1, i.2⟩).2
      unfold maxLen at this; omega
theorem nodes_of_trod {H : Type} {enc : TypeId × Value → H} {w : World} {spare : Nat → Bool} {held : Bool} {A : Option Addr} {len cap : Nat} {d : DataW H} {p : List MemPlace}
    (h : DataW.Trod enc Try.prog w 0 spare held 38 (.slice A len cap) d p) :
    ∃ es : List Nd, es.length = len ∧ RS Nd.enc 4 w 0 w.heap.size A es ∧ (∀ n ∈ es, n.op.size ≤ 9223372036854775807) ∧ len ≤ 9223372036854775807 := by
  obtain ⟨es, h1, h2, h3⟩ := nodes_of_trod_ns h
  exact ⟨es, h1, h2.rs, h3⟩
end Go.Proofs.Ytdleiondfhmjdaa
