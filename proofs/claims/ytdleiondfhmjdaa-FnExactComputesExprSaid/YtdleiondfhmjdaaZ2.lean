/- Texts of this proof, one behind the other: DN, TG, TC, TI, TJ, TK. -/
import Derived.Test.YtdleiondfhmjdaaZ3
import Derived.Test.YtdleiondfhmjdaaZ4
import Derived.WalkKit
import Derived.WalkSpells
import Derived.WalkLawsBesides
import Derived.Lib.Hide
import Derived.Test.YtdleiondfhmjdaaTP
import Derived.Test.YtdleiondfhmjdaaLI
import Derived.Test.YtdleiondfhmjdaaA
import Derived.StillTailTactics
import Derived.Deep.QuietTactic
import Derived.BigQuiet
import Derived.Test.YtdleiondfhmjdaaTB
import Derived.Lib.JoinLaws
import Derived.Lib.AppendZeros
import Derived.Test.YtdleiondfhmjdaaK4
/- The model's DifferenceOf and ComputesExpr: the calls. -/
namespace Go.Proofs.Ytdleiondfhmjdaa
open Go.RowKit
set_option linter.unusedVariables false
set_option maxRecDepth 100000

set_option maxHeartbeats 2000000 in
theorem seAsked_any (L B : Nat) (A : Option Addr) (c : Nat) (es : List Nd) (L' B' : Nat) (A' : Option Addr) (c' : Nat) (cs : List In) (r : Int) (w : World) (hl : es.length ≤ 1048576) (hes : NS w L B A es) (hB : B ≤ w.heap.size) (hl' : cs.length ≤ 1048576) (hcs : RS In.enc 5 w L' B' A' cs) (hB' : B' ≤ w.heap.size) :
    Calls Try.prog 90 #[.slice A es.length c, .slice A' cs.length c', .int .i64 r] w fun e w' => e = .returned (.bool (wrB es cs r)) ∧ Below w.heap.size w w' := by
  have HE := Lib.hid (exGood_any L B A c es w hl hes hB)
  have HC := Lib.hid fun (W : World) (hW : Below w.heap.size w W) => cdCode_any L' B' A' c' cs W hl' (hcs.below hW hB') (Nat.le_trans hB' hW.size)
  clear hes hB hcs hB'
  cases hg : good es
  · have hk := Lib.hid (show wrB es cs r = false by simp [wrB, hg])
    rw [hg] at HE
    clear hg
    go_enter Try.func90, Try.ntmps90
    go_wp2_with (fail)
    refine HE.out.mono ?_
    rintro e w1 ⟨rfl, hb⟩
    have b1 := Lib.hid hb; clear hb
    go_wp2_with (fail)
    go_ret
    exact ⟨by rw [hk.out]; rfl, b1.out⟩
  cases hc : okCode cs
  · have hk := Lib.hid (show wrB es cs r = false by simp [wrB, hc])
    rw [hg] at HE
    rw [hc] at HC
    clear hg hc
    go_enter Try.func90, Try.ntmps90
    go_wp2_with (fail)
    refine HE.out.mono ?_
    rintro e w1 ⟨rfl, hb⟩
    have b1 := Lib.hid hb; clear hb
    go_wp2_with (fail)
    refine (HC.out _ b1.out).mono ?_
    rintro e w2 ⟨rfl, hb⟩
    have b2 := Lib.hid (b1.out.trans (hb.mono b1.out.size)); clear hb
    go_wp2_with (fail)
    go_ret
    exact ⟨by rw [hk.out]; rfl, b2.out⟩
  have hk := Lib.hid (show wrB es cs r = reg r by simp [wrB, hg, hc])
  have HR := Lib.hid fun (W : World) => cdReg_any r W
  rw [← hk.out] at HR
  rw [hg] at HE
  rw [hc] at HC
  clear hg hc hk
  generalize wrB es cs r = z at *
  go_enter Try.func90, Try.ntmps90
  go_wp2_with (fail)
  refine HE.out.mono ?_
  rintro e w1 ⟨rfl, hb⟩
  have b1 := Lib.hid hb; clear hb
  go_wp2_with (fail)
  refine (HC.out _ b1.out).mono ?_
  rintro e w2 ⟨rfl, hb⟩
  have b2 := Lib.hid (b1.out.trans (hb.mono b1.out.size)); clear hb
  go_wp2_with (fail)
  refine (HR.out _).mono ?_
  rintro e w3 ⟨rfl, rfl⟩
  go_wp2_with (fail)
  go_ret
  exact ⟨rfl, b2.out⟩

set_option maxHeartbeats 2000000 in
theorem sDifferenceOf_any (L B : Nat) (A : Option Addr) (c : Nat) (es : List Nd) (L' B' : Nat) (A' : Option Addr) (c' : Nat) (cs : List In) (r : Int) (w : World) (hl : es.length ≤ 1048576) (hes : NS w L B A es) (hB : B ≤ w.heap.size) (hl' : cs.length ≤ 1048576) (hcs : RS In.enc 5 w L' B' A' cs) (hB' : B' ≤ w.heap.size) :
    Calls Try.prog 51 #[.slice A es.length c, .slice A' cs.length c', .int .i64 r] w fun e w' => e = .returned (.tuple #[.int .i64 (wf0 es cs r), .int .i64 (wf1 es cs r), .bool (wfB es cs r)]) ∧ Below w.heap.size w w' := by
  have HA := Lib.hid (seAsked_any L B A c es L' B' A' c' cs r w hl hes hB hl' hcs hB')
  have HD := Lib.hid fun (W : World) (hW : Below w.heap.size w W) (hw : wrB es cs r = true) => seDifference_any L B A c es L' B' A' c' cs r W (hes.below hW hB) (Nat.le_trans hB hW.size) (hcs.below hW hB') (Nat.le_trans hB' hW.size) hw
  clear hes hB hcs hB'
  cases hk : wrB es cs r
  · have hf := Lib.hid (show wfR es cs r = -1 by unfold wfR; rw [hk]; rfl)
    have h0 := Lib.hid (show wf0 es cs r = 0 by unfold wf0; rw [hf.out]; rfl)
    have h1 := Lib.hid (show wf1 es cs r = 0 by unfold wf1; rw [hf.out]; rfl)
    have h2 := Lib.hid (show wfB es cs r = false by unfold wfB; rw [hf.out]; rfl)
    rw [hk] at HA
    clear hk hf HD
    go_enter Try.func51, Try.ntmps51
    go_wp2_with (fail)
    refine HA.out.mono ?_
    rintro e w1 ⟨rfl, hb⟩
    have b1 := Lib.hid hb; clear hb
    go_wp2_with (fail)
    go_ret3
    exact ⟨by rw [h0.out, h1.out, h2.out]; rfl, b1.out⟩
  · have HD2 := Lib.hid fun W hW => HD.out W hW hk
    rw [hk] at HA
    clear hk HD
    generalize wf0 es cs r = R0 at *
    generalize wf1 es cs r = R1 at *
    generalize wfB es cs r = R2 at *
    go_enter Try.func51, Try.ntmps51
    go_wp2_with (fail)
    refine HA.out.mono ?_
    rintro e w1 ⟨rfl, hb⟩
    have b1 := Lib.hid hb; clear hb
    go_wp2_with (fail)
    refine (HD2.out _ b1.out).mono ?_
    rintro e w2 ⟨rfl, hb⟩
    have b2 := Lib.hid (b1.out.trans (hb.mono b1.out.size)); clear hb
    go_wp2_with (fail)
    go_ret3
    exact ⟨rfl, b2.out⟩

set_option maxHeartbeats 2000000 in
theorem sComputesExpr_any (L B : Nat) (A : Option Addr) (c : Nat) (es : List Nd) (L' B' : Nat) (A' : Option Addr) (c' : Nat) (cs : List In) (r : Int) (w : World) (hl : es.length ≤ 1048576) (hes : NS w L B A es) (hB : B ≤ w.heap.size) (hl' : cs.length ≤ 1048576) (hcs : RS In.enc 5 w L' B' A' cs) (hB' : B' ≤ w.heap.size) :
    Calls Try.prog 53 #[.slice A es.length c, .slice A' cs.length c', .int .i64 r] w fun e w' => e = .returned (.tuple #[.bool (wcR es cs r), .bool (wrB es cs r)]) ∧ Below w.heap.size w w' := by
  have HA := Lib.hid (seAsked_any L B A c es L' B' A' c' cs r w hl hes hB hl' hcs hB')
  have HD := Lib.hid fun (W : World) (hW : Below w.heap.size w W) (hw : wrB es cs r = true) => seDifference_any L B A c es L' B' A' c' cs r W (hes.below hW hB) (Nat.le_trans hB hW.size) (hcs.below hW hB') (Nat.le_trans hB' hW.size) hw
  clear hes hB hcs hB'
  cases hk : wrB es cs r
  · have hc := Lib.hid (show wcR es cs r = false by unfold wcR; rw [hk]; rfl)
    rw [hk] at HA
    clear hk HD
    go_enter Try.func53, Try.ntmps53
    go_wp2_with (fail)
    refine HA.out.mono ?_
    rintro e w1 ⟨rfl, hb⟩
    have b1 := Lib.hid hb; clear hb
    go_wp2_with (fail)
    go_ret2
    exact ⟨by rw [hc.out]; rfl, b1.out⟩
  · have HD2 := Lib.hid fun W hW => HD.out W hW hk
    have hc := Lib.hid (show wcR es cs r = !wfB es cs r by
      unfold wcR wfB; rw [hk, Bool.true_and]
      by_cases h : wfR es cs r < 0
      · rw [decide_eq_true h, decide_eq_false (by omega)]; rfl
      · rw [decide_eq_false h, decide_eq_true (by omega)]; rfl)
    rw [hk] at HA
    clear hk HD
    generalize wf0 es cs r = R0 at *
    generalize wf1 es cs r = R1 at *
    generalize wfB es cs r = R2 at *
    go_enter Try.func53, Try.ntmps53
    go_wp2_with (fail)
    refine HA.out.mono ?_
    rintro e w1 ⟨rfl, hb⟩
    have b1 := Lib.hid hb; clear hb
    go_wp2_with (fail)
    refine (HD2.out _ b1.out).mono ?_
    rintro e w2 ⟨rfl, hb⟩
    have b2 := Lib.hid (b1.out.trans (hb.mono b1.out.size)); clear hb
    go_wp2_with (fail)
    go_ret2
    exact ⟨by rw [hc.out]; rfl, b2.out⟩
end Go.Proofs.Ytdleiondfhmjdaa

/- The program's helpers of chapter 3 over tables. -/
namespace Go.Proofs.Ytdleiondfhmjdaa
open Go.RowKit
set_option linter.unusedVariables false
set_option maxRecDepth 100000

set_option maxHeartbeats 400000 in
theorem at_any (L B : Nat) (A : Option Addr) (c n : Nat) (xs : List Int) (x0 x1 : Nat) (w : World) (hn : n = 4096) (hl : xs.length = n) (hx : IS w L B A xs) (h0 : x0 < 64) (h1 : x1 < 64) :
    Calls Try.prog 162 #[.slice A n c, .int .i64 x0, .int .i64 x1] w fun e w' => e = .returned (.int .i64 (xs.getD (64 * x0 + x1) 0)) ∧ w = w' := by
  obtain ⟨m, hm⟩ : ∃ m, m = 64 * x0 + x1 := ⟨_, rfl⟩
  have hi : m < xs.length := by omega
  obtain ⟨b, o, rfl, _, hc⟩ := hx (by omega)
  have c1 := hc _ hi
  have hq := Lib.hid (getD_get hi)
  rw [← hm]
  clear hc hx
  generalize xs[m] = x at *
  have hw : (64 : Int) * (x0 : Int) + (x1 : Int) = (m : Int) := by omega
  have hmn : m < n := by omega
  have hw0 : wrap64 (64 * (x0 : Int)) = 64 * (x0 : Int) := by unfold wrap64; omega
  have hw1 : wrap64 (m : Int) = (m : Int) := by unfold wrap64; omega
  clear hl hm hi hn
  go_enter Try.func162, Try.ntmps162
  go_wp2
  go_ret
  exact ⟨ret_int hq.out.symm, rfl⟩

theorem isDifference_any (x : Int) (w : World) : Calls Try.prog 138 #[.int .i64 x] w fun e w' => e = .returned (.bool (x != 0)) ∧ w = w' := by
  go_enter Try.func138, Try.ntmps138
  go_wp2
  go_ret
  exact ⟨rfl, rfl⟩

theorem inputsAt_any (k : Nat) (w : World) (hk : k < 4096) : Calls Try.prog 139 #[.int .i64 k] w fun e w' => e = .returned (.tuple #[.int .i64 ((k : Int) / 64), .int .i64 ((k : Int) % 64)]) ∧ w = w' := by
  go_enter Try.func139, Try.ntmps139
  go_wp2
  go_ret2
  have h1 : wrap64 ((k : Int) / 64) = (k : Int) / 64 := by unfold wrap64; omega
  exact ⟨by rw [← h1]; rfl, rfl⟩

end Go.Proofs.Ytdleiondfhmjdaa

namespace Go.Proofs.Ytdleiondfhmjdaa
open Go.RowKit
set_option linter.unusedVariables false
set_option maxRecDepth 100000

/-- One int appended where there is room. -/
theorem append_room_int {w : World} {g r : Nat} {xs : List Int} (hib : IB w g 3 (xs ++ zeros (r + 1))) (ty : TypeId) (cap : Nat) (hcap : xs.length + 1 ≤ cap) (a : Nat) (x : Int) (ha : w.cell? ⟨a, 0, none⟩ = some (.int .i64 x)) :
    (Builtin.append_ #[23, 23] ty #[.slice (some ⟨g, 0, none⟩) xs.length cap, .slice (some ⟨a, 0, none⟩) 1 1]).run Try.prog w = .ok (.slice (some ⟨g, 0, none⟩) (xs.length + 1) cap) (w.setCell ⟨g, xs.length, none⟩ (.int .i64 x)) := by
  obtain ⟨i0, hi, hz0, hz1, hz2⟩ := info_parts Try.infoInt
  have h := run_append_room_cells (P := Try.prog) (w := w) 23 ty 3 i0 Try.underlying23 hi g 0 xs.length cap ⟨a, 0, none⟩ 1 1 [.int .i64 x] (by rw [hz1]; rfl)
    (fun j u hj => by
      match j, hj with
      | 0, hj => simp at hj; subst hj; simpa [Addr.add] using ha)
    (one1 x) hcap
    (fun j hj => by
      obtain rfl : j = 0 := by simpa using hj
      rw [hz1, Nat.zero_add, Nat.mul_one, Nat.add_zero, hib.cell xs.length (by simp [zeros])]; rfl)
    (fun j hj => hib.frozen _)
  rw [hz1, Nat.zero_add, Nat.mul_one] at h
  exact h
theorem room_set {w : World} {g r : Nat} {xs : List Int} (h : IB w g 3 (xs ++ zeros (r + 1))) (x : Int) : IB (w.setCell ⟨g, xs.length, none⟩ (.int .i64 x)) g 3 ((xs ++ [x]) ++ zeros r) := by
  have := h.set xs.length x
  rwa [List.set_append_right _ _ (Nat.le_refl _), Nat.sub_self, show zeros (r + 1) = 0 :: zeros r from rfl, List.set_cons_zero, List.append_cons] at this
theorem room_ow {w : World} {g r lo hi : Nat} {xs : List Int} (h : IB w g 3 (xs ++ zeros r)) (hlo : lo ≤ g) (hhi : g < hi) (hl : xs.length + r ≤ 1000000) : OW w lo hi (.slice (some ⟨g, 0, none⟩) xs.length (xs.length + r)) xs :=
  ⟨⟨by simp, .inr ⟨g, xs.length + r, intCells (xs ++ zeros r), rfl, hlo, h, by omega, by unfold maxLen; omega, by simp [intCells, zeros], by simp [intCells]⟩⟩,
   fun k hk => by simp [Value.ownBlock] at hk; omega⟩

theorem IB.other {w : World} {g q : Nat} {t : TypeId} {xs : List Int} (h : IB w g t xs) (j : Nat) (x : Value) (hne : q ≠ g) : IB (w.setCell ⟨q, j, none⟩ x) g t xs :=
  (Below.heap_setCell w ⟨q, j, none⟩ x g (by simpa using fun e => hne e.symm)).trans h

set_option maxHeartbeats 8000000 in
theorem iTableOf_any (L B : Nat) (A : Option Addr) (c : Nat) (es : List Nd) (w : World) (hl : es.length ≤ 1048576) (hes : NS w L B A es) (hB : B ≤ w.heap.size) :
    Calls Try.prog 131 #[.slice A es.length c] w (IntsRes w (tabR es) (good es)) := by
  have H := Lib.hid (IsExpr_any L B A c es w hl hes hB)
  have hE := Lib.hid hes
  have hBB := Lib.hid hB
  clear hes hB
  have hmk0 : ∀ W : World, (Instr.makeSlice 23 (.int .i64 0) (.int .i64 4096)).run Try.prog W = .ok (.slice (some ⟨W.heap.size, 0, none⟩) 0 4096) (W.alloc (.cells (madeCells #[.int .i64 0] 4096) 3)) := fun W => run_make_room (P := Try.prog) 23 3 (.int .i64 0) 8 Try.underlying23 Try.infoInt rfl .i64 .i64 4096 (by omega) (by omega) W
  have hmk := run_make_ints es.length hl
  cases hg : good es
  · have hR2 : Hid (tabR es = []) := by simp [Hid, tabR, hg]
    rw [hg] at H
    clear hg
    go_enter Try.func131, Try.ntmps131
    go_wp2_with (fail)
    refine H.out.mono ?_
    rintro e w2 ⟨rfl, hb⟩
    go_wp2_with (fail)
    go_ret2
    refine ⟨none, 0, ?_, ?_, hb⟩
    · rw [hR2.out]; rfl
    · rw [hR2.out]; exact OW.nil _ _ _
  have hR2 : Hid (tabR es = tab es) := by simp [Hid, tabR, hg]
  obtain ⟨hl1, hl24, hok⟩ := good_len hg
  have hOk := Lib.hid hok
  rw [hg] at H
  clear hg hok
  have hes' := fun (W : World) (hW : Below w.heap.size w W) => hE.out.below hW hBB.out
  have hF := Lib.hid (fun (x0 x1 gv cg : Nat) (xs : List Int) (W : World) (hW : Below w.heap.size w W) (hv : w.heap.size ≤ gv) (hib : IB W gv 3 xs) (hxl : xs.length = es.length) (hw : AllW xs) (h0 : x0 < 64) (h1 : x1 < 64) =>
    fillValues_eq L B A c es.length cg es gv xs (x0 : Int) (x1 : Int) W hxl.symm hl24 (hes' W hW) (Nat.le_trans hBB.out hv) hxl hib hw hOk.out ⟨by omega, by omega⟩ ⟨by omega, by omega⟩)
  clear hes'
  obtain ⟨m, hm⟩ : ∃ m, es.length = m + 1 := ⟨es.length - 1, by omega⟩
  have hM := Lib.hid hm
  have hvl : ∀ x0 x1, Hid ((vals es x0 x1).length = es.length) := fun x0 x1 => vals_len _ _ _
  have hat : ∀ x0 x1, Hid (at2 es x0 x1 = (vals es x0 x1).getD m 0) := fun x0 x1 => by rw [Hid, at2, hM.out, Nat.add_sub_cancel]
  have hAT := Lib.hid hat
  clear hat
  have hml : m < es.length := by omega
  have hw2 := Lib.hid (show (es.length : Int) - 1 = m by omega)
  clear hm
  go_enter Try.func131, Try.ntmps131
  go_wp2_with (fail)
  refine H.out.mono ?_
  rintro e w2 ⟨rfl, hb2⟩
  have hB2 := Lib.hid hb2
  have hz2 := Lib.hid hb2.size
  clear hb2
  have hT0 : Hid (IB (w2.alloc (.cells (madeCells #[.int .i64 0] 4096) 3)) w2.heap.size 3 (tabTo (at2 es) (64 * 0 + 0) ++ zeros (4096 - (64 * 0 + 0)))) := by
    have h1 : madeCells #[Value.int .i64 0] 4096 = intCells (zeros 4096) := by
      apply Array.ext'
      rw [intCells, zeros, List.map_replicate]
      exact toList_madeCells_one _ _
    rw [h1]
    exact heap_alloc_new w2 _
  have hB3 := Lib.hid (hB2.out.alloc hz2.out (.cells (madeCells #[.int .i64 0] 4096) 3))
  generalize madeCells #[Value.int .i64 0] 4096 = mc at *
  have hT1 := Lib.hid (hT0.out.below ((Below.refl _ _).alloc (Nat.le_refl _) (.cells (intCells (zeros es.length)) 3)) hT0.out.lt)
  have hV1 : Hid (IB ((w2.alloc (.cells mc 3)).alloc (.cells (intCells (zeros es.length)) 3)) (w2.heap.size + 1) 3 (zeros es.length)) := by
    have := heap_alloc_new (w2.alloc (.cells mc 3)) (.cells (intCells (zeros es.length)) 3)
    rwa [World.size_alloc] at this
  have hB4 := Lib.hid (hB3.out.alloc hB3.out.size (.cells (intCells (zeros es.length)) 3))
  have hT2 : Hid (IB ((w2.alloc (.cells mc 3)).alloc (.cells (intCells (zeros es.length)) 3)) w2.heap.size 3 (tabTo (at2 es) (64 * 0 + 0) ++ zeros (4096 - (64 * 0 + 0)))) := hT1.out
  have hgz := hz2.out
  have hxz : (zeros es.length).length = es.length := by simp [zeros]
  have hXZ := Lib.hid hxz
  clear hxz hT0 hT1 hB3
  go_wp2
  generalize hW0 : (w2.alloc (.cells mc 3)).alloc (.cells (intCells (zeros es.length)) 3) = W0 at *
  generalize hg0 : w2.heap.size = g at *
  clear hW0 hg0 hmk hmk0
  go_loopw [4, 15] (fun v i wr => ∃ k : Nat, k ≤ 64 ∧ i = .int .i64 k ∧ v = .slice (some ⟨g, 0, none⟩) (64 * k + 0) 4096 ∧ IB wr g 3 (tabTo (at2 es) (64 * k + 0) ++ zeros (4096 - (64 * k + 0))) ∧ (∃ xs : List Int, (xs.length = es.length ∧ AllW xs) ∧ IB wr (g + 1) 3 xs) ∧ Below w.heap.size w wr) (fun _ i _ => 64 - (intOf i).toNat)
  case atStart => exact ⟨0, Nat.zero_le _, rfl, rfl, hT2.out, ⟨_, ⟨hXZ.out, AllW.zeros _⟩, hV1.out⟩, hB4.out⟩
  case round =>
    obtain ⟨k, hk, rfl, rfl, hib, ⟨xs, hxs, hiv⟩, hbel⟩ := hrel
    have hIB := Lib.hid hib
    have hIV := Lib.hid (And.intro hxs hiv)
    have hBL := Lib.hid hbel
    clear hib hxs hiv hbel
    by_cases hlt : k < 64
    · obtain ⟨wo, hwo⟩ : ∃ wo : World, wo = wr := ⟨_, rfl⟩
      rw [← hwo] at hIB hIV hBL ⊢
      clear hwo
      have hk64 : (k : Int) < 64 := by omega
      have hd64 : decide ((k : Int) < 64) = true := by simpa using hk64
      go_wp2
      go_loopw [4, 18] (fun v j wr => ∃ n : Nat, n ≤ 64 ∧ j = .int .i64 n ∧ v = .slice (some ⟨g, 0, none⟩) (64 * k + n) 4096 ∧ IB wr g 3 (tabTo (at2 es) (64 * k + n) ++ zeros (4096 - (64 * k + n))) ∧ (∃ xs : List Int, (xs.length = es.length ∧ AllW xs) ∧ IB wr (g + 1) 3 xs) ∧ Below w.heap.size w wr) (fun _ j _ => 64 - (intOf j).toNat)
      case atStart => exact ⟨0, Nat.zero_le _, rfl, rfl, hIB.out, ⟨_, hIV.out⟩, hBL.out⟩
      case round =>
        obtain ⟨n, hn, rfl, rfl, hib, ⟨ys, hys, hiv⟩, hbel⟩ := hrel
        have hJB := Lib.hid hib
        have hJV := Lib.hid (And.intro hys hiv)
        have hCL := Lib.hid hbel
        clear hib hys hiv hbel
        by_cases hlt2 : n < 64
        · have hn64 : (n : Int) < 64 := by omega
          have hdn64 : decide ((n : Int) < 64) = true := by simpa using hn64
          go_wp2_with (fail)
          refine (hF.out k n (g + 1) _ ys _ hCL.out (by omega) hJV.out.2 hJV.out.1.1 hJV.out.1.2 hlt hlt2).mono ?_
          rintro e w3 ⟨rfl, hi3, hg3⟩
          have hgz3 := hg3.size
          have hCZ := hCL.out.size
          have hJ3 : Hid (IB w3 g 3 (tabTo (at2 es) (64 * k + n) ++ zeros (4096 - (64 * k + n)))) := (hg3.block g hJB.out.lt (fun e => by injection e with e; omega)).trans hJB.out
          have hI3 := Lib.hid hi3
          have hC3 := Lib.hid (hCL.out.grown hg3 hCZ (fun q hq => by injection hq with hq; omega))
          have hcm : w3.cell? ⟨g + 1, m, none⟩ = some (.int .i64 (at2 es k n)) := by
            rw [(hAT.out k n).out, hi3.cell m (by rw [(hvl k n).out]; omega), List.getD_eq_getElem?_getD, List.getElem?_eq_getElem (by rw [(hvl k n).out]; omega)]; rfl
          have hTL := Lib.hid (tabTo_len (at2 es) (64 * k + n))
          have hS := Lib.hid (tabTo_succ (at2 es) k n hlt2)
          have hvl' := Lib.hid (And.intro (hvl k n).out (valsAt_W hOk.out ⟨by omega, by omega⟩ ⟨by omega, by omega⟩ (Nat.le_refl _) : AllW (vals es (k : Int) (n : Int))))
          clear hi3 hg3
          generalize tabTo (at2 es) (64 * k + n) = zs at *
          generalize at2 es k n = x at *
          obtain ⟨r, hr⟩ : ∃ r, 4096 - (64 * k + n) = r + 1 := ⟨4096 - (64 * k + n) - 1, by omega⟩
          have hr2 : Hid (4096 - (64 * k + (n + 1)) = r) := by simp only [Hid]; omega
          rw [hr] at hJ3
          have hJ4 := Lib.hid (hJ3.out.below ((Below.refl w3.heap.size w3).alloc (Nat.le_refl _) (.cells #[.int .i64 x] 3)) hJ3.out.lt)
          have hap := Lib.hid (fun ty => append_room_int hJ4.out ty 4096 (by rw [hTL.out]; omega) w3.heap.size x (by simp))
          have hst := Lib.hid (room_set hJ4.out x)
          have hsv := Lib.hid (((hI3.out.below ((Below.refl w3.heap.size w3).alloc (Nat.le_refl _) (.cells #[.int .i64 x] 3)) hI3.out.lt)))
          have hCf := Lib.hid ((hC3.out.alloc hC3.out.size (.cells #[.int .i64 x] 3)).setCell (p := ⟨g, zs.length, none⟩) (by show w.heap.size ≤ g; omega) (.int .i64 x))
          rw [hTL.out] at hap hst hCf
          clear hr
          have hw3 := hw2.out
          go_wp2_with (at_builtin; refine Lib.wpList_append_run _ rfl _ _ _ _ rfl _ _ rfl rfl _ _ (hap.out _) ?_)
          go_roundw
          case rel => exact ⟨n + 1, by omega, by go_num, rfl, by rw [hS.out, hr2.out]; exact hst.out, ⟨_, hvl'.out, IB.other hsv.out _ _ (by omega)⟩, hCf.out⟩
          case measure => simp [intOf]; omega
        · obtain rfl : n = 64 := by omega
          rw [tabTo_next] at hJB
          go_wp2
          go_roundw
          case rel => exact ⟨k + 1, by omega, by go_num, rfl, hJB.out, ⟨_, hJV.out⟩, hCL.out⟩
          case measure => simp [intOf]; omega
    · obtain rfl : k = 64 := by omega
      have hfin := Lib.hid (room_ow (lo := w.heap.size) (hi := wr.heap.size) (r := 0) hIB.out (by omega) hIB.out.lt (by rw [tabTo_len]; omega))
      rw [tabTo_len] at hfin
      go_wp2
      go_ret2
      rw [hR2.out]
      exact ⟨_, _, by unfold tab; rw [tabTo_len]; rfl, by unfold tab; rw [tabTo_len]; exact hfin.out, hBL.out⟩

end Go.Proofs.Ytdleiondfhmjdaa

/- Tables made by a function value, at each of its types. -/
namespace Go.Proofs.Ytdleiondfhmjdaa
open Go.RowKit
set_option linter.unusedVariables false
set_option maxRecDepth 100000

/-- What a table made by a function leaves. -/
def TabIs (N : Nat) (Inv : World → Prop) (w : World) (xs : List Int) (e : Ending) (w' : World) : Prop :=
  ∃ A c, e = .returned (.slice A 4096 c) ∧ OW w' w.heap.size w'.heap.size (.slice A 4096 c) xs ∧ Below N w w' ∧ Inv w'
/-- A method that tells a word for two inputs. -/
def Tells (N : Nat) (Inv : World → Prop) (w : World) (g : Nat) (xv : Value) (f : Int → Int → Int) : Prop :=
  ∀ (x0 x1 : Nat) (W : World), x0 < 64 → x1 < 64 → Below N w W → w.heap.size ≤ W.heap.size → Inv W → Calls Try.prog g #[xv, .int .i64 x0, .int .i64 x1] W fun e W' =>
    e = .returned (.int .i64 (f x0 x1)) ∧ Inv W' ∧ ∃ row, W.grownBy W' row ∧ ∀ k, row = some k → N ≤ k ∧ k < w.heap.size


set_option maxHeartbeats 8000000 in
theorem tableFor_P (v0 : Value) (v1 : Value) (f : Int → Int → Int) (N : Nat) (Inv : World → Prop) (w : World) (hN : N ≤ w.heap.size) (hI0 : Inv w) (hst : ∀ W W' : World, Inv W → (∀ k, k < w.heap.size → W'.heap[k]? = W.heap[k]?) → Inv W')
    (hat : Tells N Inv w 136 (.agg #[v0, v1]) f) :
    Calls Try.prog 135 #[.agg #[v0, v1], .func (.func 136) #[] #[]] w (TabIs N Inv w (tabTo f 4096)) := by
  have hAT := Lib.hid hat
  have hST := Lib.hid hst
  have hI0' := Lib.hid hI0
  clear hat hst hI0
  have hmk0 : ∀ W : World, (Instr.makeSlice 23 (.int .i64 0) (.int .i64 4096)).run Try.prog W = .ok (.slice (some ⟨W.heap.size, 0, none⟩) 0 4096) (W.alloc (.cells (madeCells #[.int .i64 0] 4096) 3)) := fun W => run_make_room (P := Try.prog) 23 3 (.int .i64 0) 8 Try.underlying23 Try.infoInt rfl .i64 .i64 4096 (by omega) (by omega) W
  obtain ⟨w1, hw1⟩ : ∃ w1, w1 = (w.alloc (.cells #[v0, v1] 156)) := ⟨_, rfl⟩
  have hB1 : Below w.heap.size w w1 := by rw [hw1]; exact (Below.refl _ _).alloc (Nat.le_refl _) _
  have hz1 : w1.heap.size = w.heap.size + 1 := by rw [hw1]; simp
  have hbx : w1.heap[w.heap.size]? = some (.cells #[v0, v1] 156 (0, 0)) := by rw [hw1]; exact heap_alloc_new w _
  have hT0 : Hid (IB (w1.alloc (.cells (madeCells #[.int .i64 0] 4096) 3)) w1.heap.size 3 (tabTo f (64 * 0 + 0) ++ zeros (4096 - (64 * 0 + 0)))) := by
    have h1 : madeCells #[Value.int .i64 0] 4096 = intCells (zeros 4096) := by
      apply Array.ext'
      rw [intCells, zeros, List.map_replicate]
      exact toList_madeCells_one _ _
    rw [h1]
    exact heap_alloc_new w1 _
  have hB3 := Lib.hid ((hB1.mono (Nat.le_refl _)).alloc hB1.size (.cells (madeCells #[.int .i64 0] 4096) 3))
  have hI1 := Lib.hid (hST.out w (w1.alloc (.cells (madeCells #[.int .i64 0] 4096) 3)) hI0'.out (fun k hk => hB3.out.block k hk))
  have hX1 := Lib.hid ((((Below.refl w1.heap.size w1).alloc (Nat.le_refl _) (.cells (madeCells #[.int .i64 0] 4096) 3)).block w.heap.size (by omega)).trans hbx)
  have hsz0 : Hid (w1.heap.size + 1 ≤ (w1.alloc (.cells (madeCells #[.int .i64 0] 4096) 3)).heap.size) := by unfold Hid; simp
  generalize madeCells #[Value.int .i64 0] 4096 = mc at *
  go_enter Try.func135, Try.ntmps135
  go_wp2
  try rw [← hw1]
  try rw [← hz1]
  generalize hW0 : w1.alloc (.cells mc 3) = W0 at *
  generalize hg0 : w1.heap.size = g at *
  have hgw : w.heap.size ≤ g := by omega
  clear hW0 hmk0 hw1 hB1 hbx
  have hgz : g = w.heap.size + 1 := by omega
  clear hg0 hz1
  have hGZ := Lib.hid hgz
  have hGW := Lib.hid hgw
  have hNN := Lib.hid hN
  clear hgz hgw hN
  go_loopw [5, 9] (fun v i wr => ∃ k : Nat, k ≤ 64 ∧ i = .int .i64 k ∧ v = .slice (some ⟨g, 0, none⟩) (64 * k + 0) 4096 ∧ IB wr g 3 (tabTo f (64 * k + 0) ++ zeros (4096 - (64 * k + 0))) ∧ Below N w wr ∧ Inv wr ∧ g < wr.heap.size ∧ wr.heap[w.heap.size]? = some (.cells #[v0, v1] 156 (0, 0))) (fun _ i _ => 64 - (intOf i).toNat)
  case atStart => exact ⟨0, Nat.zero_le _, rfl, rfl, hT0.out, hB3.out.mono hNN.out, hI1.out, hsz0.out, hX1.out⟩
  case round =>
    obtain ⟨k, hk, rfl, rfl, hib, hbel, hinv, hgl, hbx⟩ := hrel
    have hIB := Lib.hid hib
    have hBL := Lib.hid hbel
    have hIN := Lib.hid hinv
    have hGL := Lib.hid hgl
    have hX2 := Lib.hid hbx
    clear hib hbel hinv hgl hbx
    by_cases hlt : k < 64
    · obtain ⟨wo, hwo⟩ : ∃ wo : World, wo = wr := ⟨_, rfl⟩
      rw [← hwo] at hIB hBL hIN hGL hX2 ⊢
      clear hwo
      have hk64 : (k : Int) < 64 := by omega
      have hd64 : decide ((k : Int) < 64) = true := by simpa using hk64
      go_wp2
      go_loopw [5, 12] (fun v j wr => ∃ n : Nat, n ≤ 64 ∧ j = .int .i64 n ∧ v = .slice (some ⟨g, 0, none⟩) (64 * k + n) 4096 ∧ IB wr g 3 (tabTo f (64 * k + n) ++ zeros (4096 - (64 * k + n))) ∧ Below N w wr ∧ Inv wr ∧ g < wr.heap.size ∧ wr.heap[w.heap.size]? = some (.cells #[v0, v1] 156 (0, 0))) (fun _ j _ => 64 - (intOf j).toNat)
      case atStart => exact ⟨0, Nat.zero_le _, rfl, rfl, hIB.out, hBL.out, hIN.out, hGL.out, hX2.out⟩
      case round =>
        obtain ⟨n, hn, rfl, rfl, hib, hbel, hinv, hgl, hbx⟩ := hrel
        have hJB := Lib.hid hib
        have hCL := Lib.hid hbel
        have hJN := Lib.hid hinv
        have hGL := Lib.hid hgl
        have hX3 := Lib.hid hbx
        have hcx := fun i => cell_of_row _ w.heap.size i _ _ (0, 0) hbx
        have hc0 : wr.cell? ⟨w.heap.size, 0, none⟩ = some v0 := hcx 0
        have hc1 : wr.cell? ⟨w.heap.size, 1, none⟩ = some v1 := hcx 1
        clear hib hbel hinv hgl hbx hcx
        by_cases hlt2 : n < 64
        · have hn64 : (n : Int) < 64 := by omega
          have hdn64 : decide ((n : Int) < 64) = true := by simpa using hn64
          go_wp2_with (fail)
          refine (hAT.out k n _ hlt hlt2 hCL.out (by have := hGL.out; have := hGW.out; omega) hJN.out).mono ?_
          rintro e w3 ⟨rfl, hi3, row, hg3, hrow⟩
          have hgz3 := hg3.size
          have q1 := hGZ.out
          have q2 := hGW.out
          have q3 := hNN.out
          have hJ3 : Hid (IB w3 g 3 (tabTo f (64 * k + n) ++ zeros (4096 - (64 * k + n)))) := (hg3.block g hJB.out.lt (fun e => by have := hrow g e.symm; omega)).trans hJB.out
          have hC3 := Lib.hid (hCL.out.grown hg3 (by have := hGL.out; omega) (fun q hq => (hrow q hq).1))
          have hN3 := Lib.hid hi3
          have hz3 := Lib.hid hJ3.out.lt
          have hX4 := Lib.hid ((hg3.block w.heap.size (by have := hGL.out; omega) (fun e => by have := hrow _ e.symm; omega)).trans hX3.out)
          have hTL := Lib.hid (tabTo_len f (64 * k + n))
          have hS := Lib.hid (tabTo_succ f k n hlt2)
          clear hi3 hg3 hrow hgz3
          generalize tabTo f (64 * k + n) = zs at *
          generalize f k n = x at *
          obtain ⟨r, hr⟩ : ∃ r, 4096 - (64 * k + n) = r + 1 := ⟨4096 - (64 * k + n) - 1, by omega⟩
          have hr2 : Hid (4096 - (64 * k + (n + 1)) = r) := by simp only [Hid]; omega
          rw [hr] at hJ3
          have hba := Lib.hid ((Below.refl w3.heap.size w3).alloc (Nat.le_refl _) (.cells #[.int .i64 x] 3))
          have hJ4 := Lib.hid (hJ3.out.below hba.out hJ3.out.lt)
          have hap := Lib.hid (fun ty => append_room_int hJ4.out ty 4096 (by rw [hTL.out]; omega) w3.heap.size x (by simp))
          have hst := Lib.hid (room_set hJ4.out x)
          have hCf := Lib.hid ((hC3.out.alloc (by have := hC3.out.size; omega) (.cells #[.int .i64 x] 3)).setCell (p := ⟨g, zs.length, none⟩) (by show N ≤ g; omega) (.int .i64 x))
          have hIf := Lib.hid (hST.out w3 ((w3.alloc (.cells #[.int .i64 x] 3)).setCell ⟨g, zs.length, none⟩ (.int .i64 x)) hN3.out (fun q hq => (Below.heap_setCell _ ⟨g, zs.length, none⟩ _ q (by show q ≠ g; omega)).trans (hba.out.block q (by have := hz3.out; omega))))
          have hzf : Hid (g < ((w3.alloc (.cells #[.int .i64 x] 3)).setCell ⟨g, zs.length, none⟩ (.int .i64 x)).heap.size) := by
            have := hz3.out; unfold Hid; simp [World.setCell]; omega
          have hXf := Lib.hid ((Below.heap_setCell (w3.alloc (.cells #[.int .i64 x] 3)) ⟨g, zs.length, none⟩ (.int .i64 x) w.heap.size (by show w.heap.size ≠ g; omega)).trans ((hba.out.block w.heap.size (by have := hz3.out; omega)).trans hX4.out))
          rw [hTL.out] at hap hst hCf hIf hzf hXf
          clear hr q1 q2 q3
          go_wp2_with (at_builtin; refine Lib.wpList_append_run _ rfl _ _ _ _ rfl _ _ rfl rfl _ _ (hap.out _) ?_)
          go_roundw
          case rel => exact ⟨n + 1, by omega, by go_num, rfl, by rw [hS.out, hr2.out]; exact hst.out, hCf.out, hIf.out, hzf.out, hXf.out⟩
          case measure => simp [intOf]; omega
        · obtain rfl : n = 64 := by omega
          rw [tabTo_next] at hJB
          go_wp2
          go_roundw
          case rel => exact ⟨k + 1, by omega, by go_num, rfl, hJB.out, hCL.out, hJN.out, hGL.out, hX3.out⟩
          case measure => simp [intOf]; omega
    · obtain rfl : k = 64 := by omega
      have hfin := Lib.hid (room_ow (lo := w.heap.size) (hi := wr.heap.size) (r := 0) hIB.out (by have := hGW.out; omega) hIB.out.lt (by rw [tabTo_len]; omega))
      rw [tabTo_len] at hfin
      go_wp2
      go_ret
      exact ⟨_, _, rfl, hfin.out, hBL.out, hIN.out⟩

end Go.Proofs.Ytdleiondfhmjdaa

/- What the methods tell, and the library's functions over lists of ints. -/
namespace Go.Proofs.Ytdleiondfhmjdaa
open Go.RowKit
set_option linter.unusedVariables false
set_option maxRecDepth 100000

theorem two_cells (w : World) (a b : Value) (t : TypeId) : (w.alloc (.cells #[a, b] t)).cell? ⟨w.heap.size, 0, none⟩ = some a ∧ (w.alloc (.cells #[a, b] t)).cell? ⟨w.heap.size, 1, none⟩ = some b := by
  have h := fun i => cell_of_row _ w.heap.size i #[a, b] t (0, 0) (heap_alloc_new w _)
  exact ⟨h 0, h 1⟩

set_option maxHeartbeats 2000000 in
theorem differentBits_any (L B L' B' : Nat) (A A' : Option Addr) (c c' n : Nat) (xs ys : List Int) (x0 x1 : Nat) (w : World) (hn : n = 4096) (hl : xs.length = n) (hl' : ys.length = n) (hx : IS w L B A xs) (hy : IS w L' B' A' ys) (hB : B ≤ w.heap.size) (hB' : B' ≤ w.heap.size) (h0 : x0 < 64) (h1 : x1 < 64) :
    Calls Try.prog 136 #[.agg #[.slice A n c, .slice A' n c'], .int .i64 x0, .int .i64 x1] w fun e w' => e = .returned (.int .i64 (bits .xor .i64 (xs.getD (64 * x0 + x1) 0) (ys.getD (64 * x0 + x1) 0))) ∧ Below w.heap.size w w' := by
  have HX := Lib.hid fun (W : World) (hW : Below w.heap.size w W) => at_any L B A c n xs x0 x1 W hn hl (hx.below hW hB) h0 h1
  have HY := Lib.hid fun (W : World) (hW : Below w.heap.size w W) => at_any L' B' A' c' n ys x0 x1 W hn hl' (hy.below hW hB') h0 h1
  have hb := Lib.hid ((Below.refl w.heap.size w).alloc (Nat.le_refl _) (.cells #[.slice A n c, .slice A' n c'] 156))
  clear hx hy hB hB' hl hl' hn
  generalize xs.getD (64 * x0 + x1) 0 = p at *
  generalize ys.getD (64 * x0 + x1) 0 = q at *
  obtain ⟨c0, c1⟩ := two_cells w (.slice A n c) (.slice A' n c') 156
  have hbd := Lib.hid hb.out.drew
  go_enter Try.func136, Try.ntmps136
  go_wp2_with (fail)
  generalize w.alloc (.cells #[.slice A n c, .slice A' n c'] 156) = W0 at *
  go_region_held3 (fun w' => w'.cell? ⟨w.heap.size, 0, none⟩ = some (.slice A n c) ∧ w'.cell? ⟨w.heap.size, 1, none⟩ = some (.slice A' n c'))
    (first | exact ⟨c0, c1⟩ | go_keep)
    ((first
      | (go_at_call 162; (with_reducible refine (HX.out _ hbd.out).mono ?_); rintro e w' ⟨rfl, rfl⟩)
      | (go_at_call 162; (with_reducible refine (HY.out _ hbd.out).mono ?_); rintro e w' ⟨rfl, rfl⟩)))
  all_goals
    go_wp2
    go_ret
    exact ⟨rfl, hbd.out⟩

theorem differentBits_tells (N L B L' B' : Nat) (A A' : Option Addr) (c c' : Nat) (xs ys : List Int) (w : World) (hl : xs.length = 4096) (hl' : ys.length = 4096) (hx : IS w L B A xs) (hy : IS w L' B' A' ys) (hB : B ≤ w.heap.size) (hB' : B' ≤ w.heap.size) (hBN : B ≤ N) (hBN' : B' ≤ N) :
    Tells N (fun _ => True) w 136 (.agg #[.slice A 4096 c, .slice A' 4096 c']) (fun x0 x1 => bits .xor .i64 (xs.getD (64 * x0 + x1).toNat 0) (ys.getD (64 * x0 + x1).toNat 0)) := by
  intro x0 x1 W h0 h1 hb hz _
  refine (differentBits_any L B L' B' A A' c c' 4096 xs ys x0 x1 W rfl hl hl' (hx.below hb hBN) (hy.below hb hBN') (Nat.le_trans hB hz) (Nat.le_trans hB' hz) h0 h1).mono ?_
  rintro e W' ⟨rfl, hb'⟩
  have e1 : (64 * (x0 : Int) + (x1 : Int)).toNat = 64 * x0 + x1 := by omega
  refine ⟨?_, trivial, none, grownBy_of_below hb' none, fun k hk => by cases hk⟩
  show Ending.returned (.int .i64 _) = Ending.returned (.int .i64 (bits .xor .i64 (xs.getD (64 * (x0 : Int) + (x1 : Int)).toNat 0) (ys.getD (64 * (x0 : Int) + (x1 : Int)).toNat 0)))
  rw [e1]

end Go.Proofs.Ytdleiondfhmjdaa

/- slices' functions over lists of ints; the program's lists of differences and of changing words. -/
namespace Go.Proofs.Ytdleiondfhmjdaa
open Go.RowKit
set_option linter.unusedVariables false
set_option maxRecDepth 100000

set_option maxHeartbeats 1000000 in
theorem indexFunc_isDifference (L B : Nat) (A : Option Addr) (c n : Nat) (xs : List Int) (w : World) (hl : n ≤ 1048576) (hxn : xs.length = n) (hx : IS w L B A xs) :
    Calls Try.prog 137 #[.slice A n c, .func (.func 138) #[] #[]] w fun e w' => e = .returned (.int .i64 (firstI (fun i => xs.getD i 0 != 0) n)) ∧ w = w' := by
  have hX := Lib.hid hx
  have hXN := Lib.hid hxn
  obtain ⟨P, hPd⟩ : ∃ P : Nat → Bool, P = fun i => xs.getD i 0 != 0 := ⟨_, rfl⟩
  rw [← hPd]
  have hPH := Lib.hid hPd
  clear hx hxn hPd
  go_enter Try.func137, Try.ntmps137
  go_wp2
  go_loop [5, 8] (fun _ i => ∃ k : Nat, k ≤ n ∧ i = .int .i64 k ∧ ∀ j, j < k → P j = false) (fun _ i => n - (intOf i).toNat)
  case atStart => exact ⟨0, Nat.zero_le _, rfl, fun j hj => absurd hj (Nat.not_lt_zero _)⟩
  case round =>
    obtain ⟨k, hk, rfl, hh⟩ := hrel
    have hH := Lib.hid hh; clear hh
    by_cases hlt : k < n
    · have hkx : k < xs.length := by rw [hXN.out]; exact hlt
      obtain ⟨b, o, rfl, _, hc⟩ := hX.out (by rw [hXN.out]; omega)
      have c1 := hc k hkx
      have hS : Hid (P k = (xs[k] != 0)) := by unfold Hid; rw [hPH.out]; show (xs.getD k 0 != 0) = _; rw [getD_get hkx]
      clear hc
      generalize hgx : xs[k] = x at *
      clear hgx hkx
      have HC := Lib.hid (isDifference_any x w)
      cases hb : (x != 0)
      · rw [hb] at hS HC
        go_wp2_with (fail)
        refine HC.out.mono ?_
        rintro e w' ⟨rfl, rfl⟩
        go_wp2
        go_round
        case rel => exact ⟨k + 1, by omega, by go_num, fun j hj => by
          by_cases e : j = k
          · rw [e]; exact hS.out
          · exact hH.out j (by omega)⟩
        case measure => simp [intOf]; omega
      · rw [hb] at hS HC
        go_wp2_with (fail)
        refine HC.out.mono ?_
        rintro e w' ⟨rfl, rfl⟩
        go_wp2
        go_ret
        exact ⟨ret_int (by rw [firstI_some hlt hS.out hH.out]), rfl⟩
    · obtain rfl : k = n := by omega
      go_wp2
      go_ret
      exact ⟨ret_int (by rw [firstI_none hH.out]), rfl⟩


set_option maxHeartbeats 1000000 in
theorem indexFunc_isWord (L B : Nat) (A : Option Addr) (c n : Nat) (xs : List Int) (w : World) (hl : n ≤ 1048576) (hxn : xs.length = n) (hx : IS w L B A xs) :
    Calls Try.prog 137 #[.slice A n c, .func (.func 144) #[] #[]] w fun e w' => e = .returned (.int .i64 (firstI (fun i => isW (xs.getD i 0)) n)) ∧ w = w' := by
  have hX := Lib.hid hx
  have hXN := Lib.hid hxn
  obtain ⟨P, hPd⟩ : ∃ P : Nat → Bool, P = fun i => isW (xs.getD i 0) := ⟨_, rfl⟩
  rw [← hPd]
  have hPH := Lib.hid hPd
  clear hx hxn hPd
  go_enter Try.func137, Try.ntmps137
  go_wp2
  go_loop [5, 8] (fun _ i => ∃ k : Nat, k ≤ n ∧ i = .int .i64 k ∧ ∀ j, j < k → P j = false) (fun _ i => n - (intOf i).toNat)
  case atStart => exact ⟨0, Nat.zero_le _, rfl, fun j hj => absurd hj (Nat.not_lt_zero _)⟩
  case round =>
    obtain ⟨k, hk, rfl, hh⟩ := hrel
    have hH := Lib.hid hh; clear hh
    by_cases hlt : k < n
    · have hkx : k < xs.length := by rw [hXN.out]; exact hlt
      obtain ⟨b, o, rfl, _, hc⟩ := hX.out (by rw [hXN.out]; omega)
      have c1 := hc k hkx
      have hS : Hid (P k = (isW xs[k])) := by unfold Hid; rw [hPH.out]; show (isW (xs.getD k 0)) = _; rw [getD_get hkx]
      clear hc
      generalize hgx : xs[k] = x at *
      clear hgx hkx
      have HC := Lib.hid (isWord_any x w)
      cases hb : (isW (x))
      · rw [hb] at hS HC
        go_wp2_with (fail)
        refine HC.out.mono ?_
        rintro e w' ⟨rfl, rfl⟩
        go_wp2
        go_round
        case rel => exact ⟨k + 1, by omega, by go_num, fun j hj => by
          by_cases e : j = k
          · rw [e]; exact hS.out
          · exact hH.out j (by omega)⟩
        case measure => simp [intOf]; omega
      · rw [hb] at hS HC
        go_wp2_with (fail)
        refine HC.out.mono ?_
        rintro e w' ⟨rfl, rfl⟩
        go_wp2
        go_ret
        exact ⟨ret_int (by rw [firstI_some hlt hS.out hH.out]), rfl⟩
    · obtain rfl : k = n := by omega
      go_wp2
      go_ret
      exact ⟨ret_int (by rw [firstI_none hH.out]), rfl⟩


theorem containsFunc_isWord (L B : Nat) (A : Option Addr) (c n : Nat) (xs : List Int) (w : World) (hl : n ≤ 1048576) (hxn : xs.length = n) (hx : IS w L B A xs) :
    Calls Try.prog 102 #[.slice A n c, .func (.func 144) #[] #[]] w fun e w' => e = .returned (.bool (decide (0 ≤ firstI (fun i => isW (xs.getD i 0)) n))) ∧ w = w' := by
  have H := Lib.hid (indexFunc_isWord L B A c n xs w hl hxn hx)
  clear hxn hx
  generalize firstI (fun i => isW (xs.getD i 0)) n = r at *
  go_enter Try.func102, Try.ntmps102
  go_wp2_with (fail)
  refine H.out.mono ?_
  rintro e w' ⟨rfl, rfl⟩
  go_wp2
  go_ret
  exact ⟨ret_bool (by simp), rfl⟩

set_option maxHeartbeats 1000000 in
theorem slEqual_any (L B L' B' : Nat) (A A' : Option Addr) (c c' n : Nat) (xs ys : List Int) (w : World) (hl : n ≤ 1048576) (hxn : xs.length = n) (hyn : ys.length = n) (hx : IS w L B A xs) (hy : IS w L' B' A' ys) (hB : B ≤ w.heap.size) (hB' : B' ≤ w.heap.size) :
    Calls Try.prog 124 #[.slice A n c, .slice A' n c'] w fun e w' => e = .returned (.bool (decide (firstI (neI xs ys) n < 0))) ∧ Below w.heap.size w w' := by
  have hX := Lib.hid hx
  have hY := Lib.hid hy
  have hXN := Lib.hid hxn
  have hYN := Lib.hid hyn
  have hBB := Lib.hid hB
  have hBB' := Lib.hid hB'
  have hBel0 := Below.refl w.heap.size w
  clear hx hy hB hB' hxn hyn
  go_enter Try.func124, Try.ntmps124
  go_wp2
  go_loopw [5, 13] (fun _ i wr => ∃ k : Nat, k ≤ n ∧ i = .int .i64 k ∧ (∀ j, j < k → neI xs ys j = false) ∧ Below w.heap.size w wr) (fun _ i _ => n - (intOf i).toNat)
  case atStart => exact ⟨0, Nat.zero_le _, rfl, fun j hj => absurd hj (Nat.not_lt_zero _), hBel0⟩
  case round =>
    obtain ⟨k, hk, rfl, hh, hbel⟩ := hrel
    have hH := Lib.hid hh; clear hh
    by_cases hlt : k < n
    · have hkx : k < xs.length := by rw [hXN.out]; exact hlt
      have hky : k < ys.length := by rw [hYN.out]; exact hlt
      obtain ⟨b, o, rfl, ⟨_, hbB⟩, hc⟩ := (hX.out.below hbel hBB.out) (by rw [hXN.out]; omega)
      obtain ⟨b', o', rfl, ⟨_, hbB'⟩, hc'⟩ := (hY.out.below hbel hBB'.out) (by rw [hYN.out]; omega)
      have c1 := hc k hkx
      have d1 := hc' k hky
      have hS : Hid (neI xs ys k = (xs[k] != ys[k])) := by unfold Hid neI; rw [getD_get hkx, getD_get hky]
      clear hc hc'
      generalize hgx : xs[k] = x at *
      generalize hgy : ys[k] = y at *
      clear hgx hgy hkx hky
      have hBelB := Lib.hid (hbel.drew)
      have i1 : (k : Int) < (n : Int) := by omega
      have i0 : (0 : Int) ≤ (k : Int) := by omega
      cases hb : (x != y)
      all_goals
        go_wp2_with (fail)
        go_still_tail 8, (by kernel_rfl)
        change wpList _ _ _ _ _ wr.drew
        generalize wr.drew = wd at *
        clear hbel c1 d1
        go_wp2
      · go_roundw
        case rel => exact ⟨k + 1, by omega, by go_num, fun j hj => by
          by_cases e : j = k
          · rw [e, hS.out]; exact hb
          · exact hH.out j (by omega), hBelB.out⟩
        case measure => simp [intOf]; omega
      · go_ret
        refine ⟨ret_bool ?_, hBelB.out⟩
        rw [firstI_some hlt (by rw [hS.out]; exact hb) hH.out]; simp
    · obtain rfl : k = n := by omega
      go_wp2
      go_ret
      exact ⟨ret_bool (by rw [firstI_none hH.out]; rfl), hbel⟩
end Go.Proofs.Ytdleiondfhmjdaa
