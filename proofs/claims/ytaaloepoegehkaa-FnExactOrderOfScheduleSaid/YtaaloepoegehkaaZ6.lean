/- Texts of this proof, one behind the other: NAY, N9W, N9X, NAA, N9Y, NAL. -/
import Derived.Test.YtaaloepoegehkaaZ7
import Derived.WalkKit
import Derived.WalkSpells
import Derived.WalkLawsBesides
import Derived.Deep.RegionLaw
import Derived.Deep.RegionHeld3
import Derived.Deep.DeepCutAuto
import Derived.Lib.Hide
import Derived.Test.YtaaloepoegehkaaZ8
import Derived.Test.YtaaloepoegehkaaZ9
/- Chapter 9: chooser.choose of the program at ListSchedule's closures. -/
namespace Go.Proofs.Ytaaloepoegehkaa
open Go.RowKit
set_option linter.unusedVariables false
set_option maxRecDepth 100000

/-- The best of the first m that may be chosen: the first one with the greatest height. -/
def chF (may : Nat → Bool) (hs : List Int) : Nat → Nat × Bool
  | 0 => (0, false)
  | m + 1 => if (may m && (!(chF may hs m).2 || decide (hs.getD (chF may hs m).1 0 < hs.getD m 0))) = true then (m, true) else chF may hs m
theorem chF_no {may : Nat → Bool} {hs : List Int} {m : Nat} (h : may m = false) : chF may hs (m + 1) = chF may hs m := by
  rw [chF, h]; rfl
theorem chF_first {may : Nat → Bool} {hs : List Int} {m : Nat} (h : may m = true) (h2 : (chF may hs m).2 = false) : chF may hs (m + 1) = (m, true) := by
  rw [chF, h, h2]; rfl
theorem chF_more {may : Nat → Bool} {hs : List Int} {m : Nat} (h : may m = true) (h2 : (chF may hs m).2 = true) (b : Bool) (h3 : decide (hs.getD (chF may hs m).1 0 < hs.getD m 0) = b) : chF may hs (m + 1) = if b = true then (m, true) else chF may hs m := by
  rw [chF, h, h2, h3]; simp
theorem chF_lt {may : Nat → Bool} {hs : List Int} : ∀ m, (chF may hs m).2 = true → (chF may hs m).1 < m ∧ may (chF may hs m).1 = true
  | 0, h => by cases h
  | m + 1, h => by
    rw [chF] at h ⊢
    split
    · next h1 => rw [Bool.and_eq_true] at h1; exact ⟨Nat.lt_succ_self _, h1.1⟩
    · next h1 =>
      rw [if_neg h1] at h
      have := chF_lt m h
      exact ⟨by omega, this.2⟩
/-- Whether i may begin now, as the program tells it: 101 stands for 'not begun'. -/
def lsM (cs : List In) (cyc : List Int) (now : Int) (i : Nat) : Bool := decide (cyc.getD i 0 = 101) && decide (lcF cyc (ndL cs i cs.length) ≤ now)
/-- What the closures of ListSchedule read. -/
structure LsSt (g2 g5 g6 g7 L B L' B' Lh Bh : Nat) (A An A' Ah : Option Addr) (c cn c' ch : Nat) (cs : List In) (hs cyc : List Int) (now : Int) (W : World) : Prop where
  b2 : PB W g2 (.slice A cs.length c) (.slice An cs.length cn)
  b5 : CB 34 W g5 [.slice A' cs.length c']
  b6 : CB 34 W g6 [.slice Ah cs.length ch]
  b7 : CB 3 W g7 [.int .i64 now]
  pn : PN W L B An (nds cs)
  hB : B ≤ W.heap.size
  ic : IS W L' B' A' cyc
  hB' : B' ≤ W.heap.size
  ih : IS W Lh Bh Ah hs
  hBh : Bh ≤ W.heap.size
theorem LsSt.below {g2 g5 g6 g7 L B L' B' Lh Bh : Nat} {A An A' Ah : Option Addr} {c cn c' ch : Nat} {cs : List In} {hs cyc : List Int} {now : Int} {W W' : World} (h : LsSt g2 g5 g6 g7 L B L' B' Lh Bh A An A' Ah c cn c' ch cs hs cyc now W) (hb : Below W.heap.size W W') : LsSt g2 g5 g6 g7 L B L' B' Lh Bh A An A' Ah c cn c' ch cs hs cyc now W' :=
  ⟨CB.below h.b2 hb (CB.lt h.b2), CB.below h.b5 hb h.b5.lt, CB.below h.b6 hb h.b6.lt, CB.below h.b7 hb h.b7.lt, h.pn.below hb h.hB, Nat.le_trans h.hB hb.size, h.ic.below hb h.hB', Nat.le_trans h.hB' hb.size, h.ih.below hb h.hBh, Nat.le_trans h.hBh hb.size⟩
set_option maxHeartbeats 4000000 in
theorem lsChoose_any {g2 g5 g6 g7 L B L' B' Lh Bh : Nat} {A An A' Ah : Option Addr} {c cn c' ch : Nat} {cs : List In} {hs cyc : List Int} {now : Int} {w : World} (h20 : cs.length ≤ 20) (hlh : hs.length = cs.length) (hlc : cyc.length = cs.length) (hok : ∀ i, i < cs.length → NdOk cyc (ndL cs i cs.length)) (h : LsSt g2 g5 g6 g7 L B L' B' Lh Bh A An A' Ah c cn c' ch cs hs cyc now w) :
    Calls Try.prog 153 #[.agg #[.func (.func 148) #[] #[.pointer (some ⟨g5, 0, none⟩), .pointer (some ⟨g2, 0, none⟩), .pointer (some ⟨g7, 0, none⟩)], .func (.func 150) #[] #[.pointer (some ⟨g6, 0, none⟩)]], .slice A cs.length c] w fun e w' => e = .returned (.tuple #[.int .i64 ((chF (lsM cs cyc now) hs cs.length).1 : Int), .bool (chF (lsM cs cyc now) hs cs.length).2]) ∧ Below w.heap.size w w' := by
  have hbx := Lib.hid ((Below.refl w.heap.size w).alloc (Nat.le_refl _) (.cells #[.func (.func 148) #[] #[.pointer (some ⟨g5, 0, none⟩), .pointer (some ⟨g2, 0, none⟩), .pointer (some ⟨g7, 0, none⟩)], .func (.func 150) #[] #[.pointer (some ⟨g6, 0, none⟩)]] 160))
  have hC : Hid (CB 160 (w.alloc (.cells #[.func (.func 148) #[] #[.pointer (some ⟨g5, 0, none⟩), .pointer (some ⟨g2, 0, none⟩), .pointer (some ⟨g7, 0, none⟩)], .func (.func 150) #[] #[.pointer (some ⟨g6, 0, none⟩)]] 160)) w.heap.size [.func (.func 148) #[] #[.pointer (some ⟨g5, 0, none⟩), .pointer (some ⟨g2, 0, none⟩), .pointer (some ⟨g7, 0, none⟩)], .func (.func 150) #[] #[.pointer (some ⟨g6, 0, none⟩)]]) := heap_alloc_new w _
  have hS1 := Lib.hid (h.below hbx.out)
  have hM := Lib.hid fun (i : Nat) (W : World) (hi : i < cs.length) (h : LsSt g2 g5 g6 g7 L B L' B' Lh Bh A An A' Ah c cn c' ch cs hs cyc now W) => lsMay_any g5 g2 g7 L B L' B' A An A' cs.length c cn c' cs cyc now i W h20 hlc hi ((CB.cell h.b5 0).trans rfl) ((CB.cell h.b7 0).trans rfl) h.b2 h.b5.lt h.b7.lt (hok i hi) h.pn h.hB h.ic h.hB'
  have hBt := Lib.hid fun (i j : Nat) (W : World) (hi : i < cs.length) (hj : j < cs.length) (h : LsSt g2 g5 g6 g7 L B L' B' Lh Bh A An A' Ah c cn c' ch cs hs cyc now W) => lsBet_any g6 Lh Bh Ah cs.length ch hs i j W hlh hi hj ((CB.cell h.b6 0).trans rfl) h.ih
  have hN := Lib.hid fun (m : Nat) (h : lsM cs cyc now m = false) => chF_no (hs := hs) h
  have hY := Lib.hid fun (m : Nat) (h : lsM cs cyc now m = true) (h2 : (chF (lsM cs cyc now) hs m).2 = false) => chF_first h h2
  have hW := Lib.hid fun (m : Nat) (h : lsM cs cyc now m = true) (h2 : (chF (lsM cs cyc now) hs m).2 = true) (b : Bool) (h3 : decide (hs.getD (chF (lsM cs cyc now) hs m).1 0 < hs.getD m 0) = b) => chF_more h h2 b h3
  have hLt := Lib.hid fun (m : Nat) (h : (chF (lsM cs cyc now) hs m).2 = true) => (chF_lt m h).1
  have hMd : Hid (∀ i, lsM cs cyc now i = (decide (cyc.getD i 0 = 101) && decide (lcF cyc (ndL cs i cs.length) ≤ now))) := fun _ => rfl
  have h00 : Hid (chF (lsM cs cyc now) hs 0 = (0, false)) := rfl
  clear h hok
  generalize chF (lsM cs cyc now) hs = F at *
  generalize lsM cs cyc now = M at *
  go_enter Try.func153, Try.ntmps153
  go_wp2
  obtain ⟨gc, hgc⟩ : ∃ gc, gc = w.heap.size := ⟨_, rfl⟩
  rw [← hgc] at hC ⊢
  clear hgc
  generalize w.alloc (.cells #[.func (.func 148) #[] #[.pointer (some ⟨g5, 0, none⟩), .pointer (some ⟨g2, 0, none⟩), .pointer (some ⟨g7, 0, none⟩)], .func (.func 150) #[] #[.pointer (some ⟨g6, 0, none⟩)]] 160) = W1 at *
  go_loopw [6, 7, 11] (fun u v q wr => ∃ k : Nat, k ≤ cs.length ∧ q = .int .i64 k ∧ u = .int .i64 ((F k).1 : Int) ∧ v = .bool (F k).2 ∧ Below W1.heap.size W1 wr) (fun _ _ q _ => cs.length - (intOf q).toNat)
  case atStart => exact ⟨0, Nat.zero_le _, rfl, by rw [h00.out]; rfl, by rw [h00.out], Below.refl _ _⟩
  case round =>
    obtain ⟨k, hk, rfl, rfl, rfl, hbel⟩ := hrel
    have hBL := Lib.hid hbel
    clear hbel
    by_cases hlt : k < cs.length
    · have hki : (k : Int) < (cs.length : Int) := by omega
      have hcb := hC.out.below hBL.out hC.out.lt
      have c0 := hcb.cell 0
      have c1 := hcb.cell 1
      simp only [List.getElem?_cons_zero, List.getElem?_cons_succ] at c0 c1
      have hCm := hM.out k wr hlt (hS1.out.below hBL.out)
      rw [← hMd.out] at hCm
      have hCm := Lib.hid hCm
      have hy := Lib.hid (hY.out k)
      have hn := Lib.hid (hN.out k)
      have hw9 := Lib.hid (hW.out k)
      have hl := hLt.out k
      clear hcb
      generalize hFF : F (k + 1) = f1 at *
      have hFh := Lib.hid hFF
      clear hFF
      generalize F k = f at *
      obtain ⟨bst, fnd⟩ := f
      dsimp only at *
      cases hmay : M k
      · rw [hmay] at hCm
        have hf1 := Lib.hid (hn.out hmay)
        clear hmay hy hn hl hw9
        go_wp2_with (fail)
        refine hCm.out.mono ?_
        rintro e w3 ⟨rfl, hb3⟩
        have hB3 := Lib.hid (hBL.out.trans (hb3.mono hBL.out.size))
        clear hb3 c0 c1
        go_wp2
        go_roundw
        case rel => exact ⟨k + 1, by omega, by go_num, by rw [hFh.out, hf1.out], by rw [hFh.out, hf1.out], hB3.out⟩
        case measure => simp [intOf]; omega
      · rw [hmay] at hCm
        cases fnd
        · have hf1 := Lib.hid (hy.out hmay rfl)
          clear hmay hy hn hl hw9
          go_wp2_with (fail)
          refine hCm.out.mono ?_
          rintro e w3 ⟨rfl, hb3⟩
          have hB3 := Lib.hid (hBL.out.trans (hb3.mono hBL.out.size))
          clear hb3 c0 c1
          go_wp2
          go_roundw
          case rel => exact ⟨k + 1, by omega, by go_num, by rw [hFh.out, hf1.out], by rw [hFh.out, hf1.out], hB3.out⟩
          case measure => simp [intOf]; omega
        · have hbl := hl rfl
          have hCC := Lib.hid fun (w3 : World) (hb3 : Below wr.heap.size wr w3) => (hC.out.below (hBL.out.trans (hb3.mono hBL.out.size)) hC.out.lt)
          have hBB := Lib.hid fun (w3 : World) (hb3 : Below wr.heap.size wr w3) => hBt.out k bst w3 hlt (by omega) (hS1.out.below (hBL.out.trans (hb3.mono hBL.out.size)))
          have hw8 := Lib.hid (hw9.out hmay rfl)
          clear hmay hy hn hw9
          generalize decide (hs.getD bst 0 < hs.getD k 0) = db at *
          have hf1 := Lib.hid (hw8.out db rfl)
          cases db
          all_goals
            go_wp2_with (fail)
            refine hCm.out.mono ?_
            rintro e w3 ⟨rfl, hb3⟩
            have hB3 := Lib.hid (hBL.out.trans (hb3.mono hBL.out.size))
            have hcb3 := hCC.out w3 hb3
            have hb9 := Lib.hid (hBB.out w3 hb3)
            have d0 := hcb3.cell 0
            have d1 := hcb3.cell 1
            simp only [List.getElem?_cons_zero, List.getElem?_cons_succ] at d0 d1
            clear hb3 c0 c1 hcb3
            go_wp2_with (fail)
            refine hb9.out.mono ?_
            rintro e w4 ⟨rfl, hb4⟩
            have hB4 := Lib.hid (hB3.out.trans (hb4.mono hB3.out.size))
            clear hb4 d0 d1
            go_wp2
            go_roundw
            case rel => exact ⟨k + 1, by omega, by go_num, by rw [hFh.out, hf1.out]; rfl, by rw [hFh.out, hf1.out]; rfl, hB4.out⟩
            case measure => simp [intOf]; omega
    · obtain rfl : k = cs.length := by omega
      have hfin := Lib.hid (hbx.out.trans (hBL.out.mono hbx.out.size))
      go_wp2
      go_ret2
      exact ⟨rfl, hfin.out⟩
end Go.Proofs.Ytaaloepoegehkaa

/- Chapter 9: FirstOrder, both. -/
namespace Go.Proofs.Ytaaloepoegehkaa
open Go.RowKit
set_option linter.unusedVariables false
set_option maxRecDepth 100000

def idxL (n : Nat) : List Int := (List.range n).map fun (i : Nat) => (i : Int)
theorem idxL_len (n : Nat) : (idxL n).length = n := by simp [idxL]
theorem idxL_succ (n : Nat) : idxL (n + 1) = idxL n ++ [(n : Int)] := by unfold idxL; rw [List.range_succ, List.map_append]; rfl
def idxZ (n k : Nat) : List Int := idxL k ++ List.replicate (n - k) 0
theorem idxZ_len {n k : Nat} (h : k ≤ n) : (idxZ n k).length = n := by unfold idxZ; rw [List.length_append, idxL_len, List.length_replicate]; omega
theorem idxZ_zero (n : Nat) : idxZ n 0 = zeros n := rfl
theorem idxZ_end (n : Nat) : idxZ n n = idxL n := by unfold idxZ; rw [Nat.sub_self]; simp
theorem idxZ_set {n k : Nat} (h : k < n) : (idxZ n k).set k (k : Int) = idxZ n (k + 1) := by
  unfold idxZ
  rw [show n - k = (n - (k + 1)) + 1 by omega, List.replicate_succ, List.set_append_right _ _ (by rw [idxL_len]; exact Nat.le_refl _), idxL_len, Nat.sub_self, idxL_succ, List.append_assoc]; rfl
set_option maxHeartbeats 4000000 in
theorem indicesOf_any (A : Option Addr) (c : Nat) (n : Nat) (w : World) (hl : n ≤ 1000000) :
    Calls Try.prog 90 #[.slice A n c] w (FreshI w (idxL n)) := by
  have hmk := run_make_ints n (by omega)
  have hO0 : Hid (OW (w.alloc (.cells (intCells (zeros n)) 3)) w.heap.size (w.alloc (.cells (intCells (zeros n)) 3)).heap.size (.slice (some ⟨w.heap.size, 0, none⟩) n n) (idxZ n 0)) := by
    have h : IB (w.alloc (.cells (intCells (zeros n)) 3)) w.heap.size 3 (zeros n) := heap_alloc_new w _
    have h2 := OW.ofIB (lo := w.heap.size) (hi := (w.alloc (.cells (intCells (zeros n)) 3)).heap.size) h (by simp [zeros]; exact hl) (Nat.le_refl _) (by simp)
    have hz : (zeros n).length = n := by simp [zeros]
    rw [hz] at h2
    rw [Hid, idxZ_zero]
    exact h2
  have hb2 := Lib.hid ((Below.refl w.heap.size w).alloc (Nat.le_refl _) (.cells (intCells (zeros n)) 3))
  have hSt := Lib.hid fun (k : Nat) (h : k < n) => idxZ_set h
  have hLn := Lib.hid fun (k : Nat) (h : k ≤ n) => idxZ_len h
  have hEn := Lib.hid (idxZ_end n)
  have hIl := Lib.hid (idxL_len n)
  generalize idxZ n = Z at *
  generalize idxL n = I at *
  go_enter Try.func90, Try.ntmps90
  go_wp2_with (fail)
  clear hmk
  generalize hg : w.heap.size = g at hO0 ⊢
  have hG := Lib.hid hg
  clear hg
  generalize w.alloc (.cells (intCells (zeros n)) 3) = W1 at *
  go_loopw [10] (fun q wr => ∃ k : Nat, k ≤ n ∧ q = .int .i64 k ∧ OW wr g wr.heap.size (.slice (some ⟨g, 0, none⟩) n n) (Z k) ∧ Below w.heap.size w wr) (fun q _ => n - (intOf q).toNat)
  case atStart => exact ⟨0, Nat.zero_le _, rfl, hO0.out, hb2.out⟩
  case round =>
    clear hO0 hb2
    obtain ⟨k, hk, rfl, how, hbel⟩ := hrel
    have hO := Lib.hid how
    have hBL := Lib.hid hbel
    clear how hbel
    by_cases hlt : k < n
    · have hki : (k : Int) < (n : Int) := by omega
      have hk0 : (0 : Int) ≤ (k : Int) := by omega
      obtain ⟨ok, fk⟩ := OW.at9 hO.out k (by rw [hLn.out k hk]; exact hlt)
      have hP := hO.out.put9 k (k : Int)
      rw [hSt.out k hlt] at hP
      have hz : (wr.setCell ⟨g, k, none⟩ (.int .i64 k)).heap.size = wr.heap.size := World.size_setCell _ _ _
      have hP2 := Lib.hid (show OW (wr.setCell ⟨g, k, none⟩ (.int .i64 k)) g (wr.setCell ⟨g, k, none⟩ (.int .i64 k)).heap.size (.slice (some ⟨g, 0, none⟩) n n) (Z (k + 1)) from by rw [hz]; exact hP)
      have hBs := Lib.hid (hBL.out.setCell (p := ⟨g, k, none⟩) (by rw [hG.out]; exact Nat.le_refl _) (.int .i64 k))
      clear hP hz
      generalize (Z k).getD k 0 = y at *
      go_wp2
      go_roundw
      case rel => exact ⟨k + 1, by omega, by go_num, hP2.out, hBs.out⟩
      case measure => simp [intOf]; omega
    · obtain rfl : k = n := by omega
      have hO9 := hO.out
      rw [hEn.out] at hO9
      have hlg : w.heap.size ≤ g := by rw [hG.out]; exact Nat.le_refl _
      have hO8 := Lib.hid (hO9.lower hlg)
      clear hO9 hlg
      go_wp2
      go_ret
      exact ⟨_, _, by rw [hIl.out]; rfl, by rw [hIl.out]; exact hO8.out, hBL.out⟩
def foR (cs : List In) : List Int := if orGood cs = true then idxL cs.length else []
theorem foR_yes {cs : List In} (h : orGood cs = true) : foR cs = idxL cs.length := by unfold foR; rw [if_pos h]
theorem foR_no {cs : List In} (h : orGood cs = false) : foR cs = [] := by unfold foR; rw [h]; rfl
theorem foR_len (cs : List In) : (foR cs).length ≤ 1048576 := by
  cases h : orGood cs
  · rw [foR_no h]; simp
  · rw [foR_yes h, idxL_len]; have := (orGood_parts h).1; omega
end Go.Proofs.Ytaaloepoegehkaa

/- Chapter 9: cycles told for code; LengthOf, both. -/
namespace Go.Proofs.Ytaaloepoegehkaa
open Go.RowKit
set_option linter.unusedVariables false
set_option maxRecDepth 100000

theorem isNoCycle_any (x : Int) (w : World) : Calls Try.prog 155 #[.int .i64 x] w fun e w' => e = .returned (.bool (!inR x 0 100)) ∧ w = w' := by
  have H := Lib.hid fun (W : World) => isIndex_any x 101 W
  have h1 : ((101 : Int) - 1) = 100 := by decide
  rw [h1] at H
  go_enter Try.func155, Try.ntmps155
  go_wp2_with (fail)
  refine (H.out _).mono ?_
  rintro e w' ⟨rfl, rfl⟩
  go_wp2
  go_ret
  exact ⟨rfl, rfl⟩
theorem IndexFuncY_any (L B : Nat) (A : Option Addr) (c : Nat) (xs : List Int) (w : World) (hl : xs.length ≤ 1048576) (hx : IS w L B A xs) :
    Calls Try.prog 181 #[.slice A xs.length c, .func (.func 155) #[] #[]] w fun e w' => ∃ k : Int, e = .returned (.int .i64 k) ∧ decide (0 ≤ k) = !allIn xs 0 100 ∧ w = w' := by
  have hX := Lib.hid hx; clear hx
  go_enter Try.func181, Try.ntmps181
  go_wp2
  go_loop [5, 8] (fun _ i => ∃ k : Nat, k ≤ xs.length ∧ i = .int .i64 k ∧ allIn (xs.take k) 0 100 = true) (fun _ i => xs.length - (intOf i).toNat)
  case atStart => exact ⟨0, Nat.zero_le _, rfl, rfl⟩
  case round =>
    obtain ⟨k, hk, rfl, hh⟩ := hrel
    have hH := Lib.hid hh; clear hh
    by_cases hlt : k < xs.length
    · obtain ⟨b, o, rfl, _, hc⟩ := hX.out (by omega)
      have hcell := hc k hlt
      clear hc
      have hS : Hid (allIn (xs.take (k + 1)) 0 100 = (allIn (xs.take k) 0 100 && inR xs[k] 0 100)) := by
        unfold Hid allIn; rw [List.take_succ_eq_append_getElem hlt, List.all_append]; simp
      have hF : Hid (inR xs[k] 0 100 = false → allIn xs 0 100 = false) := fun h => by
        unfold allIn; rw [List.all_eq_false]; exact ⟨_, List.getElem_mem hlt, by rw [h]; simp⟩
      generalize xs[k] = x at *
      have hN := Lib.hid (isNoCycle_any x)
      cases hr : inR x 0 100
      · rw [hr] at hN
        have hF2 := Lib.hid (hF.out hr)
        clear hr hS hF
        go_wp2_with (go_at_call 155; (with_reducible refine (hN.out _).mono ?_); rintro e w3 ⟨rfl, rfl⟩)
        go_ret
        exact ⟨k, rfl, by rw [hF2.out]; simp, rfl⟩
      · rw [hr] at hN hS
        clear hr hF
        have hS2 : Hid (allIn (xs.take (k + 1)) 0 100 = true) := by rw [Hid, hS.out, hH.out]; rfl
        clear hS
        go_wp2_with (go_at_call 155; (with_reducible refine (hN.out _).mono ?_); rintro e w3 ⟨rfl, rfl⟩)
        go_round
        case rel => exact ⟨k + 1, by omega, by go_num, hS2.out⟩
        case measure => simp [intOf]; omega
    · obtain rfl : k = xs.length := by omega
      go_wp2
      go_ret
      exact ⟨-1, rfl, by have := hH.out; rw [List.take_length] at this; rw [this]; rfl, rfl⟩
theorem ContainsFuncY_any (L B : Nat) (A : Option Addr) (c : Nat) (xs : List Int) (w : World) (hl : xs.length ≤ 1048576) (hx : IS w L B A xs) :
    Calls Try.prog 113 #[.slice A xs.length c, .func (.func 155) #[] #[]] w fun e w' => e = .returned (.bool (!allIn xs 0 100)) ∧ w = w' := by
  have H := Lib.hid (IndexFuncY_any L B A c xs w hl hx); clear hx
  go_enter Try.func113, Try.ntmps113
  go_wp2_with (fail)
  refine H.out.mono ?_
  rintro e w' ⟨k, rfl, hk, rfl⟩
  have hK := Lib.hid hk; clear hk
  go_wp2
  go_ret
  exact ⟨ret_bool hK.out, rfl⟩
/-- Cycles that are told for code. -/
def cyB (cs : List In) (xs : List Int) : Bool := orGood cs && (xs.length == cs.length) && allIn xs 0 100
theorem cyB_no1 {cs : List In} (xs : List Int) (h : orGood cs = false) : cyB cs xs = false := by unfold cyB; rw [h]; rfl
theorem cyB_no2 {cs : List In} {xs : List Int} (h : xs.length ≠ cs.length) : cyB cs xs = false := by unfold cyB; rw [beq_eq_false_iff_ne.2 h]; simp
theorem cyB_yes {cs : List In} {xs : List Int} (h : orGood cs = true) (h2 : xs.length = cs.length) : cyB cs xs = allIn xs 0 100 := by unfold cyB; rw [h, beq_iff_eq.2 h2]; rfl
theorem cyB_parts {cs : List In} {xs : List Int} (h : cyB cs xs = true) : orGood cs = true ∧ xs.length = cs.length ∧ allIn xs 0 100 = true := by
  unfold cyB at h
  rw [Bool.and_eq_true, Bool.and_eq_true, beq_iff_eq] at h
  exact ⟨h.1.1, h.1.2, h.2⟩

set_option maxHeartbeats 2000000 in
theorem orCycles_any (L B : Nat) (A : Option Addr) (c : Nat) (cs : List In) (L' B' : Nat) (A' : Option Addr) (c' : Nat) (xs : List Int) (w : World) (hl : cs.length ≤ 1048576) (hes : RS In.enc 5 w L B A cs) (hB : B ≤ w.heap.size) (hn : xs.length ≤ 1048576) (hns : IS w L' B' A' xs) (hB' : B' ≤ w.heap.size) :
    Calls Try.prog 87 #[.slice A cs.length c, .slice A' xs.length c'] w fun e w' => e = .returned (.bool (cyB cs xs)) ∧ Below w.heap.size w w' := by
  have H := Lib.hid (orGood_any L B A c cs w hl hes hB)
  cases hg : orGood cs
  · have hR := Lib.hid (cyB_no1 xs hg)
    rw [hg] at H
    clear hg hes hns
    generalize cyB cs xs = R at *
    go_enter Try.func87, Try.ntmps87
    go_wp2_with (fail)
    refine H.out.mono ?_
    rintro e w1 ⟨rfl, hb1⟩
    have hB1 := Lib.hid hb1
    clear hb1
    go_wp2
    go_ret
    exact ⟨by rw [hR.out]; rfl, hB1.out⟩
  rw [hg] at H
  by_cases hlen : xs.length = cs.length
  · have hR := Lib.hid (cyB_yes hg hlen)
    have e1 : ((xs.length : Int) == (cs.length : Int)) = true := by simp; omega
    have HC := Lib.hid fun (W : World) (hW : Below w.heap.size w W) => l1All_any L' B' A' c' xs 0 100 W hn (hns.below hW hB')
    clear hg hes hns hlen
    generalize cyB cs xs = R at *
    generalize allIn xs 0 100 = a at *
    go_enter Try.func87, Try.ntmps87
    go_wp2_with (fail)
    refine H.out.mono ?_
    rintro e w1 ⟨rfl, hb1⟩
    have hB1 := Lib.hid hb1
    clear hb1
    go_wp2_with (fail)
    refine (HC.out _ hB1.out).mono ?_
    rintro e w2 ⟨rfl, rfl⟩
    go_wp2
    go_ret
    exact ⟨by rw [hR.out]; first | rfl | (cases a <;> rfl), hB1.out⟩
  · have hR := Lib.hid (cyB_no2 (cs := cs) hlen)
    have e1 : ((xs.length : Int) == (cs.length : Int)) = false := by simp; omega
    clear hg hes hns hlen
    generalize cyB cs xs = R at *
    go_enter Try.func87, Try.ntmps87
    go_wp2_with (fail)
    refine H.out.mono ?_
    rintro e w1 ⟨rfl, hb1⟩
    have hB1 := Lib.hid hb1
    clear hb1
    go_wp2
    go_ret
    exact ⟨by rw [hR.out]; rfl, hB1.out⟩

set_option maxHeartbeats 2000000 in
theorem areCyclesOf_any (L B : Nat) (A : Option Addr) (c : Nat) (cs : List In) (L' B' : Nat) (A' : Option Addr) (c' : Nat) (xs : List Int) (w : World) (hl : cs.length ≤ 1048576) (hes : RS In.enc 5 w L B A cs) (hB : B ≤ w.heap.size) (hn : xs.length ≤ 1048576) (hns : IS w L' B' A' xs) (hB' : B' ≤ w.heap.size) :
    Calls Try.prog 89 #[.slice A cs.length c, .slice A' xs.length c'] w fun e w' => e = .returned (.bool (cyB cs xs)) ∧ Below w.heap.size w w' := by
  have H := Lib.hid (isOrderable_any L B A c cs w hl hes hB)
  cases hg : orGood cs
  · have hR := Lib.hid (cyB_no1 xs hg)
    rw [hg] at H
    clear hg hes hns
    generalize cyB cs xs = R at *
    go_enter Try.func89, Try.ntmps89
    go_wp2_with (fail)
    refine H.out.mono ?_
    rintro e w1 ⟨rfl, hb1⟩
    have hB1 := Lib.hid hb1
    clear hb1
    go_wp2
    go_ret
    exact ⟨by rw [hR.out]; rfl, hB1.out⟩
  rw [hg] at H
  by_cases hlen : xs.length = cs.length
  · have hR := Lib.hid (cyB_yes hg hlen)
    have e1 : ((xs.length : Int) == (cs.length : Int)) = true := by simp; omega
    have HC := Lib.hid fun (W : World) (hW : Below w.heap.size w W) => ContainsFuncY_any L' B' A' c' xs W hn (hns.below hW hB')
    clear hg hes hns hlen
    generalize cyB cs xs = R at *
    generalize allIn xs 0 100 = a at *
    go_enter Try.func89, Try.ntmps89
    go_wp2_with (fail)
    refine H.out.mono ?_
    rintro e w1 ⟨rfl, hb1⟩
    have hB1 := Lib.hid hb1
    clear hb1
    go_wp2_with (fail)
    refine (HC.out _ hB1.out).mono ?_
    rintro e w2 ⟨rfl, rfl⟩
    go_wp2
    go_ret
    exact ⟨by rw [hR.out]; first | rfl | (cases a <;> rfl), hB1.out⟩
  · have hR := Lib.hid (cyB_no2 (cs := cs) hlen)
    have e1 : ((xs.length : Int) == (cs.length : Int)) = false := by simp; omega
    clear hg hes hns hlen
    generalize cyB cs xs = R at *
    go_enter Try.func89, Try.ntmps89
    go_wp2_with (fail)
    refine H.out.mono ?_
    rintro e w1 ⟨rfl, hb1⟩
    have hB1 := Lib.hid hb1
    clear hb1
    go_wp2
    go_ret
    exact ⟨by rw [hR.out]; rfl, hB1.out⟩
end Go.Proofs.Ytaaloepoegehkaa

/- Chapter 9: schedules, plain; hasRoom, isWide, orWide. -/
namespace Go.Proofs.Ytaaloepoegehkaa
open Go.RowKit
set_option linter.unusedVariables false
set_option maxRecDepth 100000

def cntE (xs : List Int) (c : Int) : Nat := (xs.filter fun x => x == c).length
theorem cntE_snoc {xs : List Int} {k : Nat} (c : Int) (h : k < xs.length) : cntE (xs.take (k + 1)) c = cntE (xs.take k) c + (if xs[k] = c then 1 else 0) := by
  unfold cntE
  rw [List.take_succ_eq_append_getElem h, List.filter_append, List.length_append]
  congr 1
  by_cases e : xs[k] = c
  · rw [if_pos e]; simp [e]
  · rw [if_neg e]; simp [e]
theorem cntE_le (xs : List Int) (c : Int) : cntE xs c ≤ xs.length := List.length_filter_le _ _
theorem cntE_take (xs : List Int) (c : Int) : ∀ k, k ≤ xs.length → cntE (xs.take k) c ≤ cntE xs c := fun k hk => by
  unfold cntE
  exact ((List.take_sublist k xs).filter _).length_le
theorem hasRoom_any (L B : Nat) (A : Option Addr) (m c' : Nat) (xs : List Int) (c wide : Int) (w : World) (hm : m = xs.length) (hl : xs.length ≤ 1000) (hw : 0 ≤ wide ∧ wide ≤ 1000) (hx : IS w L B A xs) :
    Calls Try.prog 152 #[.slice A m c', .int .i64 c, .int .i64 wide] w fun e w' => e = .returned (.bool (decide ((cntE xs c : Int) < wide))) ∧ w = w' := by
  subst hm
  have hX := Lib.hid hx; clear hx
  have hLe := Lib.hid fun (k : Nat) => cntE_le (xs.take k) c
  go_enter Try.func152, Try.ntmps152
  go_wp2
  go_loop [2, 11] (fun v i => ∃ k : Nat, k ≤ xs.length ∧ i = .int .i64 k ∧ v = .int .i64 (wide - (cntE (xs.take k) c : Int))) (fun _ i => xs.length - (intOf i).toNat)
  case atStart => exact ⟨0, Nat.zero_le _, rfl, by rw [List.take_zero]; show _ = Value.int .i64 (wide - ((0 : Nat) : Int)); simp⟩
  case round =>
    obtain ⟨k, hk, rfl, rfl⟩ := hrel
    by_cases hlt : k < xs.length
    · obtain ⟨b, o, rfl, _, hc⟩ := hX.out (by omega)
      have hcell := hc k hlt
      clear hc
      have hS := Lib.hid (cntE_snoc c hlt)
      have hl1 := hLe.out k
      rw [List.length_take] at hl1
      have hki : (k : Int) < (xs.length : Int) := by omega
      generalize hTT : cntE (xs.take (k + 1)) c = n1 at *
      have hTh := Lib.hid hTT
      clear hTT
      generalize cntE (xs.take k) c = n at *
      generalize xs[k] = x at *
      have hw1 : IntKind.i64.wrap (wide - (n : Int) - 1) = wide - (n : Int) - 1 := IntWalk.i64_in _ (by omega)
      have hn4 : (n : Int) ≤ 1000 := by omega
      by_cases e : x = c
      · have e' : (x == c) = true := by simpa using e
        have hS2 : Hid ((n1 : Int) = n + 1) := by have := hS.out; rw [if_pos e] at this; unfold Hid; omega
        clear e hS
        go_wp2
        go_round
        case rel => exact ⟨k + 1, by omega, by go_num, by rw [hTh.out, hS2.out]; congr 1; omega⟩
        case measure => simp [intOf]; omega
      · have e' : (x == c) = false := by simpa using e
        have hS2 : Hid ((n1 : Int) = n) := by have := hS.out; rw [if_neg e] at this; unfold Hid; omega
        clear e hS
        go_wp2
        go_round
        case rel => exact ⟨k + 1, by omega, by go_num, by rw [hTh.out, hS2.out]⟩
        case measure => simp [intOf]; omega
    · obtain rfl : k = xs.length := by omega
      rw [List.take_length]
      go_wp2
      go_ret
      exact ⟨ret_bool (by first | rfl | (rw [Bool.eq_iff_iff]; done) | (rw [Bool.eq_iff_iff]; simp; omega)), rfl⟩
theorem isWide_any (x : Int) (w : World) : Calls Try.prog 84 #[.int .i64 x] w fun e w' => e = .returned (.bool (inR x 1 3)) ∧ w = w' := by
  by_cases h1 : 1 ≤ x
  · go_enter Try.func84, Try.ntmps84
    go_wp2
    go_ret
    exact ⟨ret_bool (by rw [Bool.eq_iff_iff]; simp [inR]; omega), rfl⟩
  · go_enter Try.func84, Try.ntmps84
    go_wp2
    go_ret
    exact ⟨ret_bool (by rw [Bool.eq_iff_iff]; simp [inR]; omega), rfl⟩
theorem orWide_any (x : Int) (w : World) : Calls Try.prog 81 #[.int .i64 x] w fun e w' => e = .returned (.bool (inR x 1 3)) ∧ w = w' := by
  have H := Lib.hid fun (W : World) => l1In_r x 1 3 W
  go_enter Try.func81, Try.ntmps81
  go_wp2_with (fail)
  refine (H.out _).mono ?_
  rintro e w' ⟨rfl, rfl⟩
  go_wp2
  go_ret
  exact ⟨rfl, rfl⟩

/- Schedules. -/
def scB (cs : List In) (wide : Int) (xs : List Int) (q : Nat) : Bool := inR (xs.getD q 0) 0 100 && decide (lcF xs (ndL cs q cs.length) ≤ xs.getD q 0) && decide ((cntE (xs.take q) (xs.getD q 0) : Int) < wide)
def scP (cs : List In) (wide : Int) (xs : List Int) (k : Nat) : Bool := (List.range k).all (scB cs wide xs)
theorem scP_succ (cs : List In) (wide : Int) (xs : List Int) (k : Nat) : scP cs wide xs (k + 1) = (scP cs wide xs k && scB cs wide xs k) := by
  unfold scP; rw [List.range_succ, List.all_append]; simp
theorem scP_false {cs : List In} {wide : Int} {xs : List Int} {k : Nat} (h : scP cs wide xs k = false) : ∀ {n : Nat}, k ≤ n → scP cs wide xs n = false
  | 0, hn => by obtain rfl : k = 0 := by omega
                exact h
  | n + 1, hn => by
    rcases Nat.lt_or_ge n k with h1 | h1
    · obtain rfl : k = n + 1 := by omega
      exact h
    · rw [scP_succ, scP_false h h1]; rfl
theorem scP_in {cs : List In} {wide : Int} {xs : List Int} {k : Nat} (h : scP cs wide xs k = true) {q : Nat} (hq : q < k) : 0 ≤ xs.getD q 0 ∧ xs.getD q 0 ≤ 100 := by
  unfold scP at h
  rw [List.all_eq_true] at h
  have h1 := h q (by simpa using hq)
  unfold scB at h1
  rw [Bool.and_eq_true, Bool.and_eq_true, inR_iff] at h1
  exact h1.1.1
/-- The model's: what depends on i, up to j. -/
def mdB (cs : List In) (xs : List Int) (i j : Nat) : Bool := !decide (0 ≤ dT cs i j) || decide (xs.getD i 0 + dT cs i j ≤ xs.getD j 0)
def mdP (cs : List In) (xs : List Int) (i m : Nat) : Bool := (List.range m).all (mdB cs xs i)
theorem mdP_succ (cs : List In) (xs : List Int) (i m : Nat) : mdP cs xs i (m + 1) = (mdP cs xs i m && mdB cs xs i m) := by
  unfold mdP; rw [List.range_succ, List.all_append]; simp
theorem mdP_false {cs : List In} {xs : List Int} {i k : Nat} (h : mdP cs xs i k = false) : ∀ {n : Nat}, k ≤ n → mdP cs xs i n = false
  | 0, hn => by obtain rfl : k = 0 := by omega
                exact h
  | n + 1, hn => by
    rcases Nat.lt_or_ge n k with h1 | h1
    · obtain rfl : k = n + 1 := by omega
      exact h
    · rw [mdP_succ, mdP_false h h1]; rfl
def msB (cs : List In) (wide : Int) (xs : List Int) (i : Nat) : Bool := mdP cs xs i cs.length && decide ((cntE xs (xs.getD i 0) : Int) ≤ wide)
def msP (cs : List In) (wide : Int) (xs : List Int) (k : Nat) : Bool := (List.range k).all (msB cs wide xs)
theorem msP_succ (cs : List In) (wide : Int) (xs : List Int) (k : Nat) : msP cs wide xs (k + 1) = (msP cs wide xs k && msB cs wide xs k) := by
  unfold msP; rw [List.range_succ, List.all_append]; simp
theorem msP_false {cs : List In} {wide : Int} {xs : List Int} {k : Nat} (h : msP cs wide xs k = false) : ∀ {n : Nat}, k ≤ n → msP cs wide xs n = false
  | 0, hn => by obtain rfl : k = 0 := by omega
                exact h
  | n + 1, hn => by
    rcases Nat.lt_or_ge n k with h1 | h1
    · obtain rfl : k = n + 1 := by omega
      exact h
    · rw [msP_succ, msP_false h h1]; rfl
theorem lcF_le {cyc : List Int} {b : Int} {ns : List (Int × Int)} : lcF cyc ns ≤ b ↔ 0 ≤ b ∧ ∀ d ∈ ns, cyc.getD d.1.toNat 0 + d.2 ≤ b := by
  constructor
  · intro h
    have key : ∀ (ns : List (Int × Int)) (a : Int), ns.foldl (fun m d => max m (cyc.getD d.1.toNat 0 + d.2)) a ≤ b → a ≤ b ∧ ∀ d ∈ ns, cyc.getD d.1.toNat 0 + d.2 ≤ b := by
      intro ns
      induction ns with
      | nil => intro a h; exact ⟨h, by simp⟩
      | cons d ns ih =>
        intro a h
        have h1 : max a (cyc.getD d.1.toNat 0 + d.2) ≤ b ∧ ∀ e ∈ ns, cyc.getD e.1.toNat 0 + e.2 ≤ b := ih _ h
        refine ⟨by omega, fun e he => ?_⟩
        rcases List.mem_cons.1 he with rfl | he
        · omega
        · exact h1.2 e he
    exact key ns 0 h
  · rintro ⟨h0, h⟩
    exact (lcF_bd h0 h).2
theorem mem_ndL_iff {cs : List In} {j k : Nat} {d : Int × Int} : d ∈ ndL cs j k ↔ ∃ i : Nat, i < k ∧ 0 ≤ dT cs i j ∧ d = ((i : Int), dT cs i j) := by
  constructor
  · intro h
    obtain ⟨i, h1, h2, h3, h4⟩ := mem_ndL h
    exact ⟨i, h2, h3, h4⟩
  · rintro ⟨i, h1, h2, rfl⟩
    unfold ndL
    rw [List.mem_filterMap]
    exact ⟨i, by simpa using h1, by unfold ndEnt; rw [if_pos h2]⟩
theorem cnt_iff {xs : List Int} {wide : Int} (hw : 1 ≤ wide) : (∀ i (h : i < xs.length), (cntE xs xs[i] : Int) ≤ wide) ↔ ∀ q (h : q < xs.length), (cntE (xs.take q) xs[q] : Int) < wide := by
  constructor
  · intro h q hq
    have h1 := h q hq
    have h2 := cntE_snoc xs[q] hq
    rw [if_pos rfl] at h2
    have h3 := cntE_take xs xs[q] (q + 1) (by omega)
    omega
  · intro h i hi
    have key : ∀ k, k ≤ xs.length → (cntE (xs.take k) xs[i] : Int) ≤ wide := by
      intro k
      induction k with
      | zero => intro _; rw [List.take_zero]; show ((0 : Nat) : Int) ≤ wide; omega
      | succ k ih =>
        intro hk
        rw [cntE_snoc xs[i] (by omega)]
        have h1 := ih (by omega)
        by_cases e : xs[k] = xs[i]
        · rw [if_pos e]
          have := h k (by omega)
          rw [e] at this
          omega
        · rw [if_neg e]; simpa using h1
    have := key xs.length (Nat.le_refl _)
    rwa [List.take_length] at this
theorem ms_eq {cs : List In} {wide : Int} {xs : List Int} (hl : xs.length = cs.length) (ha : allIn xs 0 100 = true) (hw : 1 ≤ wide) : msP cs wide xs cs.length = scP cs wide xs cs.length := by
  have hin : ∀ q, q < cs.length → ∀ (h : q < xs.length), xs.getD q 0 = xs[q] ∧ 0 ≤ xs[q] ∧ xs[q] ≤ 100 := fun q hq h => ⟨by rw [List.getD_eq_getElem?_getD, List.getElem?_eq_getElem h]; rfl, allIn_at ha h⟩
  rw [Bool.eq_iff_iff]
  unfold msP scP
  rw [List.all_eq_true, List.all_eq_true]
  simp only [List.mem_range]
  have hc := cnt_iff (xs := xs) hw
  constructor
  · intro h q hq
    have hq' : q < xs.length := by omega
    obtain ⟨e, h0, h1⟩ := hin q hq hq'
    unfold scB
    rw [Bool.and_eq_true, Bool.and_eq_true, inR_iff, decide_eq_true_eq, decide_eq_true_eq, lcF_le]
    refine ⟨⟨by omega, by omega, fun d hd => ?_⟩, ?_⟩
    · obtain ⟨i, hi, hdT, rfl⟩ := mem_ndL_iff.1 hd
      have h2 := h i hi
      unfold msB mdP at h2
      rw [Bool.and_eq_true, List.all_eq_true] at h2
      have h3 := h2.1 q (by simpa using hq)
      unfold mdB at h3
      rw [decide_eq_true hdT] at h3
      simpa using h3
    · rw [e]
      refine hc.1 (fun i hi => ?_) q hq'
      have h2 := h i (by omega)
      unfold msB at h2
      rw [Bool.and_eq_true, decide_eq_true_eq, (hin i (by omega) hi).1] at h2
      exact h2.2
  · intro h i hi
    have hi' : i < xs.length := by omega
    unfold msB mdP
    rw [Bool.and_eq_true, List.all_eq_true, decide_eq_true_eq]
    refine ⟨fun j hj => ?_, ?_⟩
    · have hj : j < cs.length := by simpa using hj
      have h2 := h j hj
      unfold scB at h2
      rw [Bool.and_eq_true, Bool.and_eq_true, decide_eq_true_eq, lcF_le] at h2
      unfold mdB
      by_cases hd : 0 ≤ dT cs i j
      · have h3 := h2.1.2.2 _ (mem_ndL_iff.2 ⟨i, hi, hd, rfl⟩)
        simp only [Int.toNat_natCast] at h3
        rw [decide_eq_true h3]; simp
      · rw [decide_eq_false hd]; rfl
    · rw [(hin i hi hi').1]
      refine hc.2 (fun q hq => ?_) i hi'
      have h2 := h q (by omega)
      unfold scB at h2
      rw [Bool.and_eq_true, decide_eq_true_eq, (hin q (by omega) hq).1] at h2
      exact h2.2
theorem sc_out {cs : List In} {wide : Int} {xs : List Int} (hl : xs.length = cs.length) (ha : allIn xs 0 100 = false) : scP cs wide xs cs.length = false := by
  cases h : scP cs wide xs cs.length
  · rfl
  · have h4 : allIn xs 0 100 = true := by
      unfold allIn; rw [List.all_eq_true]
      intro x hx
      rw [inR_iff]
      obtain ⟨q, hq, rfl⟩ := List.mem_iff_getElem.1 hx
      have := scP_in h (q := q) (by omega)
      rwa [List.getD_eq_getElem?_getD, List.getElem?_eq_getElem hq, Option.getD_some] at this
    rw [ha] at h4; cases h4
end Go.Proofs.Ytaaloepoegehkaa

/- Chapter 9: lengths, both. -/
namespace Go.Proofs.Ytaaloepoegehkaa
open Go.RowKit
set_option linter.unusedVariables false
set_option maxRecDepth 100000

theorem XB.newI9 (w : World) (x : In) : XB (w.alloc (.cells #[.string x.op, .int .i64 x.d, .int .i64 x.a, .int .i64 x.b, .int .i64 x.m] 88)) w.heap.size x := heap_alloc_new w _
def cstA (cs : List In) (i : Nat) : Int := (fm (inAt cs i).op).c
def lenF (cs : List In) (xs : List Int) (k : Nat) : Int := (List.range k).foldl (fun m i => max m (xs.getD i 0 + cstA cs i)) 0
theorem lenF_succ (cs : List In) (xs : List Int) (k : Nat) : lenF cs xs (k + 1) = max (lenF cs xs k) (xs.getD k 0 + cstA cs k) := by
  unfold lenF; rw [List.range_succ, List.foldl_append]; rfl
theorem cstA_bd (cs : List In) (i : Nat) : 0 ≤ cstA cs i ∧ cstA cs i ≤ 4 := fm_c _
theorem lenF_bd {cs : List In} {xs : List Int} (h : ∀ i, xs.getD i 0 ≤ 1000) : ∀ k, 0 ≤ lenF cs xs k ∧ lenF cs xs k ≤ 1004
  | 0 => ⟨Int.le_refl _, by show (0 : Int) ≤ 1004; omega⟩
  | k + 1 => by
    rw [lenF_succ]
    have := lenF_bd (cs := cs) h k
    have := cstA_bd cs k
    have := h k
    omega
theorem getD_bd9 {xs : List Int} (h : ∀ x ∈ xs, 0 ≤ x ∧ x ≤ 1000) (i : Nat) : 0 ≤ xs.getD i 0 ∧ xs.getD i 0 ≤ 1000 := by
  rw [List.getD_eq_getElem?_getD]
  cases hk : xs[i]? with
  | none => simp
  | some x => exact h x (List.mem_of_getElem? hk)
set_option maxHeartbeats 8000000 in
theorem lengthOf_any (L B : Nat) (A : Option Addr) (c : Nat) (cs : List In) (L' B' : Nat) (A' : Option Addr) (c' : Nat) (xs : List Int) (w : World) (hl : cs.length ≤ 20) (hes : RS In.enc 5 w L B A cs) (hB : B ≤ w.heap.size) (hlen : xs.length = cs.length) (hbd : ∀ x ∈ xs, 0 ≤ x ∧ x ≤ 1000) (hns : IS w L' B' A' xs) (hB' : B' ≤ w.heap.size) :
    Calls Try.prog 97 #[.slice A cs.length c, .slice A' cs.length c'] w fun e w' => e = .returned (.int .i64 (lenF cs xs cs.length)) ∧ Below w.heap.size w w' := by
  have hE := Lib.hid fun (W : World) (hW : Below w.heap.size w W) => hes.below hW hB
  have hIS := Lib.hid fun (W : World) (hW : Below w.heap.size w W) => hns.below hW hB'
  have hBB := Lib.hid hB'
  have hLs := Lib.hid (lenF_succ cs xs)
  have hLb := Lib.hid (lenF_bd (cs := cs) fun i => (getD_bd9 hbd i).2)
  have hGb := Lib.hid (getD_bd9 hbd)
  have hLen := Lib.hid hlen
  have h00 : Hid (lenF cs xs 0 = 0) := rfl
  have hCb := Lib.hid (cstA_bd cs)
  have hCe : Hid (∀ i (h : i < cs.length), cstA cs i = (fm cs[i].op).c) := fun i h => by unfold cstA; rw [inAt_eq h]
  have b0 := Lib.hid (Below.refl w.heap.size w)
  clear hes hns hB hB' hlen hbd
  generalize lenF cs xs = F at *
  go_enter Try.func97, Try.ntmps97
  go_wp2
  go_loopw [5, 10] (fun v q wr => ∃ k : Nat, k ≤ cs.length ∧ q = .int .i64 k ∧ v = .int .i64 (F k) ∧ Below w.heap.size w wr) (fun _ q _ => cs.length - (intOf q).toNat)
  case atStart => exact ⟨0, Nat.zero_le _, rfl, by rw [h00.out], b0.out⟩
  case round =>
    obtain ⟨k, hk, rfl, rfl, hbel⟩ := hrel
    have hBL := Lib.hid hbel
    clear hbel
    by_cases hlt : k < cs.length
    · have hki : (k : Int) < (cs.length : Int) := by omega
      have hk0 : (0 : Int) ≤ (k : Int) := by omega
      obtain ⟨b, o, rfl, ⟨_, hbB⟩, hc⟩ := In.cells (hE.out wr hBL.out) (by omega)
      obtain ⟨c1, c2, c3, c4, c5⟩ := hc k hlt
      obtain ⟨xb, xo, rfl, ⟨_, hxb⟩, hxc⟩ := (hIS.out wr hBL.out) (by rw [hLen.out]; omega)
      have x0 := hxc k (by rw [hLen.out]; exact hlt)
      have hgd : xs.getD k 0 = xs[k]'(by rw [hLen.out]; exact hlt) := by rw [List.getD_eq_getElem?_getD, List.getElem?_eq_getElem (by rw [hLen.out]; exact hlt)]; rfl
      rw [← hgd] at x0
      have hLk := hLs.out k
      have h1 := hLb.out k
      have h2 := hGb.out k
      have h3 := hCb.out k
      rw [hCe.out k hlt] at hLk h3
      have hLk := Lib.hid hLk
      clear hc hxc hgd
      generalize hTT : F (k + 1) = z1 at *
      have hTh := Lib.hid hTT
      clear hTT
      generalize F k = z at *
      generalize xs.getD k 0 = y at *
      generalize cs[k] = nd at *
      obtain ⟨op, d, a, bb, m⟩ := nd
      dsimp only at *
      have hC := Lib.hid fun (W : World) => costOf_any op d a bb m W
      generalize (fm op).c = t at *
      have hw : IntKind.i64.wrap (y + t) = y + t := IntWalk.i64_in _ (by omega)
      have hX := Lib.hid (XB.newI9 wr ⟨op, d, a, bb, m⟩)
      have ha := Lib.hid ((Below.refl wr.heap.size wr).alloc (Nat.le_refl _) (.cells #[.string op, .int .i64 d, .int .i64 a, .int .i64 bb, .int .i64 m] 88))
      have x1 := (ha.out.cell (p := ⟨xb, xo + k, none⟩) (show xb < wr.heap.size by have := hBL.out.size; have := hBB.out; omega)).trans x0
      have hB1 := Lib.hid (hBL.out.trans (ha.out.mono hBL.out.size))
      have hxb1 := Lib.hid (show xb < (wr.alloc (.cells #[.string op, .int .i64 d, .int .i64 a, .int .i64 bb, .int .i64 m] 88)).heap.size by have := hBL.out.size; have := hBB.out; have := ha.out.size; omega)
      go_wp2_with (fail)
      clear c1 c2 c3 c4 c5 x0 ha
      generalize wr.alloc (.cells #[.string op, .int .i64 d, .int .i64 a, .int .i64 bb, .int .i64 m] 88) = W1 at *
      generalize wr.heap.size = gx at *
      obtain ⟨m0, m1, m2, m3, m4⟩ := hX.out.cells
      dsimp only at m0 m1 m2 m3 m4
      go_region_law (go_simp; go_at_call 168; (with_reducible refine (hC.out _).mono ?_); rintro e w2 ⟨rfl, hb2⟩; have x2 := (hb2.cell (p := ⟨xb, xo + k, none⟩) hxb1.out).trans x1; have hB2 := Lib.hid (hB1.out.drew.trans (hb2.mono hB1.out.size)); clear hb2)
      all_goals
        go_wp2
        go_roundw
        case rel => exact ⟨k + 1, by omega, by go_num, by rw [hTh.out, hLk.out], hB2.out⟩
        case measure => simp [intOf]; omega
    · obtain rfl : k = cs.length := by omega
      go_wp2
      go_ret
      exact ⟨rfl, hBL.out⟩
set_option maxHeartbeats 8000000 in
theorem orLength_any (L B : Nat) (A : Option Addr) (c : Nat) (cs : List In) (L' B' : Nat) (A' : Option Addr) (c' : Nat) (xs : List Int) (w : World) (hl : cs.length ≤ 20) (hgood : ∀ x ∈ cs, goodIn x = true) (hes : RS In.enc 5 w L B A cs) (hB : B ≤ w.heap.size) (hlen : xs.length = cs.length) (hbd : ∀ x ∈ xs, 0 ≤ x ∧ x ≤ 1000) (hns : IS w L' B' A' xs) (hB' : B' ≤ w.heap.size) :
    Calls Try.prog 96 #[.slice A cs.length c, .slice A' cs.length c'] w fun e w' => e = .returned (.int .i64 (lenF cs xs cs.length)) ∧ Below w.heap.size w w' := by
  have hE := Lib.hid fun (W : World) (hW : Below w.heap.size w W) => hes.below hW hB
  have hIS := Lib.hid fun (W : World) (hW : Below w.heap.size w W) => hns.below hW hB'
  have hBB := Lib.hid hB'
  have hLs := Lib.hid (lenF_succ cs xs)
  have hLb := Lib.hid (lenF_bd (cs := cs) fun i => (getD_bd9 hbd i).2)
  have hGb := Lib.hid (getD_bd9 hbd)
  have hLen := Lib.hid hlen
  have h00 : Hid (lenF cs xs 0 = 0) := rfl
  have hCb := Lib.hid (cstA_bd cs)
  have hCe : Hid (∀ i (h : i < cs.length), cstA cs i = (fm cs[i].op).c) := fun i h => by unfold cstA; rw [inAt_eq h]
  have b0 := Lib.hid (Below.refl w.heap.size w)
  have hGd := Lib.hid hgood
  clear hes hns hB hB' hlen hbd hgood
  generalize lenF cs xs = F at *
  go_enter Try.func96, Try.ntmps96
  go_wp2
  go_loopw [5, 10] (fun v q wr => ∃ k : Nat, k ≤ cs.length ∧ q = .int .i64 k ∧ v = .int .i64 (F k) ∧ Below w.heap.size w wr) (fun _ q _ => cs.length - (intOf q).toNat)
  case atStart => exact ⟨0, Nat.zero_le _, rfl, by rw [h00.out], b0.out⟩
  case round =>
    obtain ⟨k, hk, rfl, rfl, hbel⟩ := hrel
    have hBL := Lib.hid hbel
    clear hbel
    by_cases hlt : k < cs.length
    · have hki : (k : Int) < (cs.length : Int) := by omega
      have hk0 : (0 : Int) ≤ (k : Int) := by omega
      obtain ⟨b, o, rfl, ⟨_, hbB⟩, hc⟩ := In.cells (hE.out wr hBL.out) (by omega)
      obtain ⟨c1, c2, c3, c4, c5⟩ := hc k hlt
      obtain ⟨xb, xo, rfl, ⟨_, hxb⟩, hxc⟩ := (hIS.out wr hBL.out) (by rw [hLen.out]; omega)
      have x0 := hxc k (by rw [hLen.out]; exact hlt)
      have hgd : xs.getD k 0 = xs[k]'(by rw [hLen.out]; exact hlt) := by rw [List.getD_eq_getElem?_getD, List.getElem?_eq_getElem (by rw [hLen.out]; exact hlt)]; rfl
      rw [← hgd] at x0
      have hLk := hLs.out k
      have h1 := hLb.out k
      have h2 := hGb.out k
      have h3 := hCb.out k
      rw [hCe.out k hlt] at hLk h3
      have hLk := Lib.hid hLk
      clear hc hxc hgd
      generalize hTT : F (k + 1) = z1 at *
      have hTh := Lib.hid hTT
      clear hTT
      generalize F k = z at *
      generalize xs.getD k 0 = y at *
      have hok := (good_parts (hGd.out _ (List.getElem_mem hlt))).2.2.2.1
      generalize cs[k] = nd at *
      obtain ⟨op, d, a, bb, m⟩ := nd
      dsimp only at *
      have hC := Lib.hid fun (W : World) => cdCost_any op W hok
      generalize (fm op).c = t at *
      clear hok
      have hw : IntKind.i64.wrap (y + t) = y + t := IntWalk.i64_in _ (by omega)
      have hX := Lib.hid (XB.newI9 wr ⟨op, d, a, bb, m⟩)
      have ha := Lib.hid ((Below.refl wr.heap.size wr).alloc (Nat.le_refl _) (.cells #[.string op, .int .i64 d, .int .i64 a, .int .i64 bb, .int .i64 m] 88))
      have x1 := (ha.out.cell (p := ⟨xb, xo + k, none⟩) (show xb < wr.heap.size by have := hBL.out.size; have := hBB.out; omega)).trans x0
      have hB1 := Lib.hid (hBL.out.trans (ha.out.mono hBL.out.size))
      have hxb1 := Lib.hid (show xb < (wr.alloc (.cells #[.string op, .int .i64 d, .int .i64 a, .int .i64 bb, .int .i64 m] 88)).heap.size by have := hBL.out.size; have := hBB.out; have := ha.out.size; omega)
      go_wp2_with (fail)
      clear c1 c2 c3 c4 c5 x0 ha
      generalize wr.alloc (.cells #[.string op, .int .i64 d, .int .i64 a, .int .i64 bb, .int .i64 m] 88) = W1 at *
      generalize wr.heap.size = gx at *
      obtain ⟨m0, m1, m2, m3, m4⟩ := hX.out.cells
      dsimp only at m0 m1 m2 m3 m4
      go_region_law (first
        | (go_simp; go_at_call 167; (with_reducible refine (hC.out _).mono ?_); rintro e w2 ⟨rfl, rfl⟩)
        | (go_simp; go_at_call 158; (with_reducible refine (l1Most_9 _ _ _).mono ?_); rintro e w2 ⟨rfl, rfl⟩))
      all_goals
        go_wp2
        go_roundw
        case rel => exact ⟨k + 1, by omega, by go_num, by rw [hTh.out, hLk.out], hB1.out.drew⟩
        case measure => simp [intOf]; omega
    · obtain rfl : k = cs.length := by omega
      go_wp2
      go_ret
      exact ⟨rfl, hBL.out⟩

def lnR (cs : List In) (xs : List Int) : Int := if cyB cs xs = true then lenF cs xs cs.length else 0
theorem lnR_yes {cs : List In} {xs : List Int} (h : cyB cs xs = true) : lnR cs xs = lenF cs xs cs.length := by unfold lnR; rw [if_pos h]
theorem lnR_no {cs : List In} {xs : List Int} (h : cyB cs xs = false) : lnR cs xs = 0 := by unfold lnR; rw [h]; rfl
theorem cyB_bd {cs : List In} {xs : List Int} (h : cyB cs xs = true) : ∀ x ∈ xs, 0 ≤ x ∧ x ≤ 1000 := fun x hx => by
  have h2 := (cyB_parts h).2.2
  unfold allIn at h2
  rw [List.all_eq_true] at h2
  have := (inR_iff _ _ _).1 (h2 x hx)
  omega

end Go.Proofs.Ytaaloepoegehkaa

/- Chapter 9: heights, plain. -/
namespace Go.Proofs.Ytaaloepoegehkaa
open Go.RowKit
set_option linter.unusedVariables false

theorem mx_max (l : List Int) : ∀ a b : Int, mx l (max a b) = max (mx l a) b := by
  induction l with
  | nil => intro a b; rfl
  | cons y l ih =>
    intro a b
    show mx l (max (max a b) y) = max (mx l (max a y)) b
    rw [← ih]; congr 1; omega
theorem mapR_set (n : Nat) (f : Nat → Int) (i : Nat) (v : Int) : ((List.range n).map f).set i v = (List.range n).map fun q => if q = i then v else f q := by
  apply List.ext_getElem
  · simp
  · intro k h1 h2
    simp only [List.getElem_set, List.getElem_map, List.getElem_range]
    by_cases e : i = k
    · rw [if_pos e, if_pos e.symm]
    · rw [if_neg e, if_neg fun h => e h.symm]
theorem mapR_at (n : Nat) (f : Nat → Int) {i : Nat} (h : i < n) : ((List.range n).map f).getD i 0 = f i := by
  rw [List.getD_eq_getElem?_getD, List.getElem?_eq_getElem (by simpa using h)]; simp
theorem mapR_eq (n : Nat) {f g : Nat → Int} (h : ∀ q, q < n → f q = g q) : (List.range n).map f = (List.range n).map g :=
  List.map_congr_left fun q hq => h q (by simpa using hq)

def vE (cs : List In) (H : Nat → Int) (i q : Nat) : Option Int := if 0 ≤ dT cs i q then some (dT cs i q + H q) else none
def vL (cs : List In) (H : Nat → Int) (i j : Nat) : List Int := (List.range j).filterMap (vE cs H i)
theorem vL_succ (cs : List In) (H : Nat → Int) (i j : Nat) : vL cs H i (j + 1) = vL cs H i j ++ (vE cs H i j).toList := by
  unfold vL
  rw [List.range_succ, List.filterMap_append]
  cases h : vE cs H i j <;> simp [h]
theorem vL_yes {cs : List In} {H : Nat → Int} {i j : Nat} (h : 0 ≤ dT cs i j) : vL cs H i (j + 1) = vL cs H i j ++ [dT cs i j + H j] := by
  rw [vL_succ]; unfold vE; rw [if_pos h]; rfl
theorem vL_no {cs : List In} {H : Nat → Int} {i j : Nat} (h : ¬ 0 ≤ dT cs i j) : vL cs H i (j + 1) = vL cs H i j := by
  rw [vL_succ]; unfold vE; rw [if_neg h]; simp
theorem vL_start (cs : List In) (H : Nat → Int) (i : Nat) : ∀ j, j ≤ i + 1 → vL cs H i j = []
  | 0, _ => rfl
  | j + 1, h => by rw [vL_no (by rw [dT_ge (by omega)]; omega)]; exact vL_start cs H i j (by omega)
theorem vL_congr {cs : List In} {H H' : Nat → Int} {i : Nat} : ∀ j, (∀ q, i < q → q < j → H q = H' q) → vL cs H i j = vL cs H' i j
  | 0, _ => rfl
  | j + 1, h => by
    have ih : vL cs H i j = vL cs H' i j := vL_congr j fun q h1 h2 => h q h1 (by omega)
    by_cases h0 : 0 ≤ dT cs i j
    · rw [vL_yes h0, vL_yes h0, ih, h j (dT_lt_of h0) (by omega)]
    · rw [vL_no h0, vL_no h0, ih]
theorem mem_vL {cs : List In} {H : Nat → Int} {i j : Nat} {x : Int} : x ∈ vL cs H i j ↔ ∃ q, q < j ∧ 0 ≤ dT cs i q ∧ x = dT cs i q + H q := by
  unfold vL vE
  rw [List.mem_filterMap]
  constructor
  · rintro ⟨q, hq, he⟩
    split at he
    · next h => exact ⟨q, by simpa using hq, h, by simpa using he.symm⟩
    · cases he
  · rintro ⟨q, hq, h, rfl⟩
    exact ⟨q, by simpa using hq, by rw [if_pos h]⟩

def HT (cs : List In) : Nat → (Nat → Int)
  | 0 => fun _ => 0
  | m + 1 => fun q => if q + (m + 1) = cs.length then mx (vL cs (HT cs m) q cs.length) (cstA cs q) else HT cs m q
theorem HT_succ (cs : List In) (m q : Nat) : HT cs (m + 1) q = if q + (m + 1) = cs.length then mx (vL cs (HT cs m) q cs.length) (cstA cs q) else HT cs m q := rfl
theorem HT_bd (cs : List In) : ∀ m q, 0 ≤ HT cs m q ∧ HT cs m q ≤ 4 * (m : Int)
  | 0, q => by show (0 : Int) ≤ 0 ∧ (0 : Int) ≤ _; omega
  | m + 1, q => by
    have ih := HT_bd cs m
    rw [HT_succ]
    split
    · have h1 := cstA_bd cs q
      have h2 := mx_le (vL cs (HT cs m) q cs.length) (cstA cs q)
      refine ⟨by omega, ?_⟩
      rcases mx_in (vL cs (HT cs m) q cs.length) (cstA cs q) with h3 | h3
      · rw [h3]; omega
      · obtain ⟨p, _, _, h4⟩ := mem_vL.1 h3
        rw [h4]
        have := dT_bd cs q p
        have := ih p
        omega
    · have := ih q; omega
theorem HT_keep {cs : List In} {m q : Nat} (h : cs.length ≤ q + m) : ∀ m', m ≤ m' → HT cs m' q = HT cs m q
  | 0, h1 => by obtain rfl : m = 0 := by omega
                rfl
  | m' + 1, h1 => by
    rcases Nat.lt_or_ge m' m with h2 | h2
    · obtain rfl : m = m' + 1 := by omega
      rfl
    · rw [HT_succ, if_neg (by omega)]
      exact HT_keep h m' h2
/-- An instruction's height. -/
def hH (cs : List In) (q : Nat) : Int := HT cs cs.length q
theorem hH_eq {cs : List In} {i : Nat} (h : i < cs.length) : hH cs i = mx (vL cs (hH cs) i cs.length) (cstA cs i) := by
  obtain ⟨m, hm⟩ : ∃ m, i + (m + 1) = cs.length := ⟨cs.length - i - 1, by omega⟩
  have h1 : hH cs i = HT cs (m + 1) i := HT_keep (by omega) cs.length (by omega)
  rw [h1, HT_succ, if_pos hm, vL_congr (H := HT cs m) (H' := hH cs) cs.length fun q h2 h3 => (HT_keep (by omega) cs.length (by omega)).symm]
theorem hH_bd {cs : List In} (h : cs.length ≤ 20) (q : Nat) : 0 ≤ hH cs q ∧ hH cs q ≤ 80 := by
  have := HT_bd cs cs.length q
  unfold hH; omega
def hL (cs : List In) : List Int := (List.range cs.length).map (hH cs)
theorem hL_len (cs : List In) : (hL cs).length = cs.length := by simp [hL]
theorem hL_bd {cs : List In} (h : cs.length ≤ 20) : ∀ x ∈ hL cs, 0 ≤ x ∧ x ≤ 80 := fun x hx => by
  unfold hL at hx
  obtain ⟨q, _, rfl⟩ := List.mem_map.1 hx
  exact hH_bd h q

/- As the model finds them. -/
def hz (cs : List In) (k : Nat) : List Int := (List.range cs.length).map fun q => if k ≤ q then hH cs q else 0
def hzr (cs : List In) (i j : Nat) : List Int := (hz cs (i + 1)).set i (mx (vL cs (hH cs) i j) (cstA cs i))
theorem hz_len (cs : List In) (k : Nat) : (hz cs k).length = cs.length := by simp [hz]
theorem hzr_len (cs : List In) (i j : Nat) : (hzr cs i j).length = cs.length := by unfold hzr; rw [List.length_set, hz_len]
theorem hz_top (cs : List In) : hz cs cs.length = List.replicate cs.length 0 := by
  unfold hz
  rw [mapR_eq cs.length (g := fun _ => 0) fun q hq => if_neg (by omega)]
  apply List.ext_getElem
  · simp
  · intro k h1 h2; simp
theorem hz_bot (cs : List In) : hz cs 0 = hL cs := by
  unfold hz hL
  exact mapR_eq _ fun q hq => if_pos (Nat.zero_le _)
theorem hzr_at {cs : List In} {i j : Nat} (hi : i < cs.length) : (hzr cs i j).getD i 0 = mx (vL cs (hH cs) i j) (cstA cs i) := by
  unfold hzr hz
  rw [mapR_set, mapR_at _ _ hi, if_pos rfl]
theorem hzr_gt {cs : List In} {i j q : Nat} (h1 : i < q) (h2 : q < cs.length) : (hzr cs i j).getD q 0 = hH cs q := by
  unfold hzr hz
  rw [mapR_set, mapR_at _ _ h2, if_neg (by omega), if_pos (by omega)]
theorem hzr_start (cs : List In) (i : Nat) : hzr cs i (i + 1) = (hz cs (i + 1)).set i (cstA cs i) := by
  unfold hzr; rw [vL_start cs (hH cs) i (i + 1) (Nat.le_refl _)]; rfl
theorem hzr_end {cs : List In} {i : Nat} (hi : i < cs.length) : hzr cs i cs.length = hz cs i := by
  unfold hzr
  rw [← hH_eq hi]
  unfold hz
  rw [mapR_set]
  refine mapR_eq _ fun q hq => ?_
  by_cases e : q = i
  · rw [if_pos e, if_pos (by omega), e]
  · rw [if_neg e]
    by_cases h : i ≤ q
    · rw [if_pos h, if_pos (by omega)]
    · rw [if_neg h, if_neg (by omega)]
theorem hzr_yes {cs : List In} {i j : Nat} (hi : i < cs.length) (hij : i < j) (hj : j < cs.length) (h : 0 ≤ dT cs i j) : hzr cs i (j + 1) = (hzr cs i j).set i (max ((hzr cs i j).getD i 0) (dT cs i j + (hzr cs i j).getD j 0)) := by
  rw [hzr_at hi, hzr_gt hij hj]
  unfold hzr
  rw [List.set_set, vL_yes h, mx_snoc]
theorem hzr_no {cs : List In} {i j : Nat} (h : ¬ 0 ≤ dT cs i j) : hzr cs i (j + 1) = hzr cs i j := by
  unfold hzr; rw [vL_no h]
theorem hzr_bd {cs : List In} (h20 : cs.length ≤ 20) {i : Nat} (j : Nat) (hi : i < cs.length) : 0 ≤ (hzr cs i j).getD i 0 ∧ (hzr cs i j).getD i 0 ≤ 100 := by
  rw [hzr_at hi]
  have h1 := cstA_bd cs i
  have h2 := mx_le (vL cs (hH cs) i j) (cstA cs i)
  refine ⟨by omega, ?_⟩
  rcases mx_in (vL cs (hH cs) i j) (cstA cs i) with h3 | h3
  · rw [h3]; omega
  · obtain ⟨p, _, _, h4⟩ := mem_vL.1 h3
    rw [h4]
    have := dT_bd cs i p
    have := hH_bd h20 p
    omega

/- As the program finds them. -/
def uE (cs : List In) (i k q : Nat) : Option Int := if k ≤ q ∧ 0 ≤ dT cs i q then some (dT cs i q + hH cs q) else none
def uL (cs : List In) (i k : Nat) : List Int := (List.range cs.length).filterMap (uE cs i k)
theorem mem_uL {cs : List In} {i k : Nat} {x : Int} : x ∈ uL cs i k ↔ ∃ q, q < cs.length ∧ k ≤ q ∧ 0 ≤ dT cs i q ∧ x = dT cs i q + hH cs q := by
  unfold uL uE
  rw [List.mem_filterMap]
  constructor
  · rintro ⟨q, hq, he⟩
    split at he
    · next h => exact ⟨q, by simpa using hq, h.1, h.2, by simpa using he.symm⟩
    · cases he
  · rintro ⟨q, hq, h1, h2, rfl⟩
    exact ⟨q, by simpa using hq, by rw [if_pos ⟨h1, h2⟩]⟩
def pc (cs : List In) (q k : Nat) : Int := mx (uL cs q k) 0
theorem pc_bd {cs : List In} (h20 : cs.length ≤ 20) (q k : Nat) : 0 ≤ pc cs q k ∧ pc cs q k ≤ 100 := by
  unfold pc
  have h2 := mx_le (uL cs q k) 0
  refine ⟨h2.2, ?_⟩
  rcases mx_in (uL cs q k) 0 with h3 | h3
  · rw [h3]; omega
  · obtain ⟨p, _, _, _, h4⟩ := mem_uL.1 h3
    rw [h4]
    have := dT_bd cs q p
    have := hH_bd h20 p
    omega
theorem pc_top (cs : List In) (q : Nat) : pc cs q cs.length = 0 := by
  unfold pc
  rcases mx_in (uL cs q cs.length) 0 with h | h
  · exact h
  · obtain ⟨p, h1, h2, _⟩ := mem_uL.1 h; omega
theorem pc_yes {cs : List In} {q k : Nat} (hk : k < cs.length) (h : 0 ≤ dT cs q k) : pc cs q k = max (pc cs q (k + 1)) (dT cs q k + hH cs k) := by
  unfold pc
  rw [← mx_snoc]
  refine mx_eq fun x => ?_
  rw [List.mem_append, mem_uL, mem_uL, List.mem_singleton]
  constructor
  · rintro (⟨p, h1, h2, h3, h4⟩ | rfl)
    · by_cases e : p = k
      · subst e; exact .inl (.inr h4)
      · exact .inl (.inl ⟨p, h1, by omega, h3, h4⟩)
    · exact .inr rfl
  · rintro ((⟨p, h1, h2, h3, h4⟩ | rfl) | rfl)
    · exact .inl ⟨p, h1, by omega, h3, h4⟩
    · exact .inl ⟨k, hk, Nat.le_refl _, h, rfl⟩
    · exact .inr rfl
theorem pc_no {cs : List In} {q k : Nat} (h : ¬ 0 ≤ dT cs q k) : pc cs q k = pc cs q (k + 1) := by
  unfold pc
  refine mx_eq fun x => ?_
  rw [mem_uL, mem_uL]
  constructor
  · rintro (⟨p, h1, h2, h3, h4⟩ | rfl)
    · by_cases e : p = k
      · subst e; exact absurd h3 h
      · exact .inl ⟨p, h1, by omega, h3, h4⟩
    · exact .inr rfl
  · rintro (⟨p, h1, h2, h3, h4⟩ | rfl)
    · exact .inl ⟨p, h1, by omega, h3, h4⟩
    · exact .inr rfl
theorem pc_own {cs : List In} {i : Nat} (hi : i < cs.length) : max (pc cs i (i + 1)) (cstA cs i) = hH cs i := by
  have h0 := (cstA_bd cs i).1
  have e : (cstA cs i) = max 0 (cstA cs i) := by omega
  rw [hH_eq hi]
  conv => rhs; rw [e]
  rw [mx_max]
  congr 1
  unfold pc
  refine mx_eq fun x => ?_
  rw [mem_uL, mem_vL]
  constructor
  · rintro (⟨p, h1, h2, h3, h4⟩ | rfl)
    · exact .inl ⟨p, h1, h3, h4⟩
    · exact .inr rfl
  · rintro (⟨p, h1, h3, h4⟩ | rfl)
    · exact .inl ⟨p, h1, by have := dT_lt_of h3; omega, h3, h4⟩
    · exact .inr rfl
def hp (cs : List In) (k : Nat) : List Int := (List.range cs.length).map fun q => if k ≤ q then hH cs q else pc cs q k
def hps (cs : List In) (i : Nat) : List Int := (hp cs (i + 1)).set i (hH cs i)
def hstep (v : Int) (xs : List Int) (d : Int × Int) : List Int := xs.set d.1.toNat (max (xs.getD d.1.toNat 0) (d.2 + v))
def hpr (cs : List In) (i t : Nat) : List Int := ((ndL cs i cs.length).take t).foldl (hstep (hH cs i)) (hps cs i)
theorem hp_len (cs : List In) (k : Nat) : (hp cs k).length = cs.length := by simp [hp]
theorem hps_len (cs : List In) (i : Nat) : (hps cs i).length = cs.length := by unfold hps; rw [List.length_set, hp_len]
theorem hp_top (cs : List In) : hp cs cs.length = List.replicate cs.length 0 := by
  unfold hp
  rw [mapR_eq cs.length (g := fun _ => 0) fun q hq => by rw [if_neg (by omega), pc_top]]
  apply List.ext_getElem
  · simp
  · intro k h1 h2; simp
theorem hp_bot (cs : List In) : hp cs 0 = hL cs := by
  unfold hp hL
  exact mapR_eq _ fun q hq => if_pos (Nat.zero_le _)
theorem hps_eq {cs : List In} {i : Nat} (hi : i < cs.length) : hps cs i = (hp cs (i + 1)).set i (max ((hp cs (i + 1)).getD i 0) (cstA cs i)) := by
  have h : (hp cs (i + 1)).getD i 0 = pc cs i (i + 1) := by unfold hp; rw [mapR_at _ _ hi, if_neg (by omega)]
  rw [h, pc_own hi]; rfl
theorem hp_bd {cs : List In} (h20 : cs.length ≤ 20) (k : Nat) : ∀ x ∈ hp cs k, 0 ≤ x ∧ x ≤ 100 := fun x hx => by
  unfold hp at hx
  obtain ⟨q, _, rfl⟩ := List.mem_map.1 hx
  have := hH_bd h20 q
  have := pc_bd h20 q k
  split <;> omega
theorem hfold_len (v : Int) : ∀ (ns : List (Int × Int)) (xs : List Int), (ns.foldl (hstep v) xs).length = xs.length
  | [], xs => rfl
  | d :: ns, xs => by
    show (ns.foldl (hstep v) (hstep v xs d)).length = _
    rw [hfold_len v ns]; unfold hstep; rw [List.length_set]
theorem hpr_len (cs : List In) (i t : Nat) : (hpr cs i t).length = cs.length := by unfold hpr; rw [hfold_len, hps_len]
theorem hpr_succ {cs : List In} {i t : Nat} (h : t < (ndL cs i cs.length).length) : hpr cs i (t + 1) = hstep (hH cs i) (hpr cs i t) (ndL cs i cs.length)[t] := by
  unfold hpr; rw [List.take_succ_eq_append_getElem h, List.foldl_append]; rfl
theorem hfold_own (v : Int) (i : Nat) : ∀ (ns : List (Int × Int)) (xs : List Int), (∀ d ∈ ns, d.1.toNat < i) → (ns.foldl (hstep v) xs).getD i 0 = xs.getD i 0
  | [], xs, _ => rfl
  | d :: ns, xs, h => by
    show (ns.foldl (hstep v) (hstep v xs d)).getD i 0 = _
    rw [hfold_own v i ns _ fun e he => h e (by simp [he])]
    have h1 := h d (by simp)
    unfold hstep
    rw [List.getD_eq_getElem?_getD, List.getElem?_set_ne (by omega), ← List.getD_eq_getElem?_getD]
theorem hpr_own {cs : List In} {i t : Nat} (hi : i < cs.length) : (hpr cs i t).getD i 0 = hH cs i := by
  unfold hpr
  rw [hfold_own _ i _ _ fun d hd => by
    obtain ⟨q, h1, _, _, rfl⟩ := mem_ndL (List.mem_of_mem_take hd)
    simpa using h1]
  unfold hps hp
  rw [mapR_set, mapR_at _ _ hi, if_pos rfl]
theorem hfold_at {cs : List In} {i : Nat} (hi : i < cs.length) : ∀ k, k ≤ cs.length → (ndL cs i k).foldl (hstep (hH cs i)) (hps cs i) = (List.range cs.length).map fun q => if i ≤ q then hH cs q else if q < k then pc cs q i else pc cs q (i + 1)
  | 0, _ => by
    show hps cs i = _
    unfold hps hp
    rw [mapR_set]
    refine mapR_eq _ fun q hq => ?_
    by_cases e : q = i
    · rw [if_pos e, if_pos (by omega), e]
    · rw [if_neg e]
      by_cases h : i ≤ q
      · rw [if_pos h, if_pos (by omega)]
      · rw [if_neg h, if_neg (by omega), if_neg (by omega)]
  | k + 1, hk => by
    have ih := hfold_at hi k (by omega)
    by_cases h0 : 0 ≤ dT cs k i
    · have hki := dT_lt_of h0
      rw [ndL_yes h0, List.foldl_append, ih]
      show hstep _ _ _ = _
      unfold hstep
      simp only [Int.toNat_natCast]
      rw [mapR_at _ _ (by omega), if_neg (by omega), if_neg (by omega), ← pc_yes hi h0, mapR_set]
      refine mapR_eq _ fun q hq => ?_
      by_cases e : q = k
      · rw [if_pos e, if_neg (by omega), if_pos (by omega), e]
      · rw [if_neg e]
        by_cases h : i ≤ q
        · rw [if_pos h, if_pos h]
        · rw [if_neg h, if_neg h]
          by_cases h2 : q < k
          · rw [if_pos h2, if_pos (by omega)]
          · rw [if_neg h2, if_neg (by omega)]
    · rw [ndL_no h0, ih]
      refine mapR_eq _ fun q hq => ?_
      by_cases h : i ≤ q
      · rw [if_pos h, if_pos h]
      · rw [if_neg h, if_neg h]
        by_cases h2 : q < k
        · rw [if_pos h2, if_pos (by omega)]
        · rw [if_neg h2]
          by_cases h3 : q < k + 1
          · obtain rfl : q = k := by omega
            rw [if_pos h3, pc_no h0]
          · rw [if_neg h3]
theorem hpr_end {cs : List In} {i : Nat} (hi : i < cs.length) : hpr cs i (ndL cs i cs.length).length = hp cs i := by
  unfold hpr
  rw [List.take_length, hfold_at hi cs.length (Nat.le_refl _)]
  unfold hp
  refine mapR_eq _ fun q hq => ?_
  by_cases h : i ≤ q
  · rw [if_pos h, if_pos h]
  · rw [if_neg h, if_neg h, if_pos hq]
theorem hpr_zero (cs : List In) (i : Nat) : hpr cs i 0 = hps cs i := rfl
end Go.Proofs.Ytaaloepoegehkaa
