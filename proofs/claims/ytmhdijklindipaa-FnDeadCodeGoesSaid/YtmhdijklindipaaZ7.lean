/- Texts of this proof, one behind the other: TAi, BH, BI, BL, BM, TAm. -/
import Derived.Test.YtmhdijklindipaaZ8
import Derived.Test.YtmhdijklindipaaCE
import Derived.Test.YtmhdijklindipaaK
import Derived.WalkKit
import Derived.WalkSpells
import Derived.WalkLawsBesides
import Derived.Lib.AppendZeros
import Derived.Lib.Hide
import Derived.Test.YtmhdijklindipaaZ12
import Derived.Test.YtmhdijklindipaaA
import Derived.Test.YtmhdijklindipaaZ13
/- The program's TemporariesOf. -/
namespace Go.Proofs.Ytmhdijklindipaa
open Go.RowKit
set_option linter.unusedVariables false
set_option maxRecDepth 100000

set_option maxHeartbeats 4000000 in
theorem setList_any (g : Nat) (bs : List Bool) (w : World) (hl : bs.length = 6) (hg : BT w g bs) :
    Calls Try.prog 181 #[.pointer (some ⟨g, 0, none⟩)] w (OwnIs w (mkT bs)) := by
  obtain ⟨i0, hi, hz0, hz1, hz2⟩ := info_parts Try.infoInt
  have hI := Lib.hid hi
  have hZ0 := Lib.hid hz0
  have hZ1 := Lib.hid hz1
  have hZ2 := Lib.hid hz2
  clear hi hz0 hz1 hz2
  have hG := Lib.hid hg
  have hgl := hg.lt
  have hL := Lib.hid hl
  clear hg hl
  have b0 := Lib.hid (Below.refl w.heap.size w)
  go_enter Try.func181, Try.ntmps181
  go_wp2
  go_loopw [3, 7] (fun v i wr => ∃ k : Nat, k ≤ 6 ∧ i = .int .i64 k ∧ OW wr w.heap.size wr.heap.size v (mkTo bs k) ∧ Below w.heap.size w wr) (fun _ i _ => 6 - (intOf i).toNat)
  case atStart => exact ⟨0, Nat.zero_le _, rfl, OW.nil _ _ _, b0.out⟩
  case round =>
    obtain ⟨k, hk, rfl, how, hbel⟩ := hrel
    have hO := Lib.hid how
    have hBL := Lib.hid hbel
    obtain ⟨A2, c2, rfl, _⟩ := how.form
    have hTl := Lib.hid (mkTo_len bs k)
    have hgw : g < wr.heap.size := Nat.lt_of_lt_of_le hgl hbel.size
    have hc := (hG.out.next hbel hgl).cell k
    clear how hbel
    by_cases hlt : k < 6
    · have c1 := hc (by rw [hL.out]; exact hlt)
      clear hc
      have hk6 : (k : Int) < 6 := by omega
      have hk0 : (0 : Int) ≤ (k : Int) := by omega
      cases hb : bs.getD k false
      · rw [hb] at c1
        have hS := Lib.hid (mkTo_no hb)
        clear hb
        generalize mkTo bs k = ts at *
        have hd := Lib.hid ((Below.refl wr.heap.size wr).drew)
        have hBd := Lib.hid hBL.out.drew
        go_wp2
        go_region
        all_goals
          go_wp2
          go_roundw
          case rel => exact ⟨k + 1, by omega, by go_num, by rw [hS.out]; exact hO.out.below hd.out (Nat.le_refl _), hBd.out⟩
          case measure => simp [intOf]; omega
      · rw [hb] at c1
        have hS := Lib.hid (mkTo_yes hb)
        clear hb
        have hOd := Lib.hid (show OW wr.drew w.heap.size wr.drew.heap.size (.slice A2 (mkTo bs k).length c2) (mkTo bs k) from hO.out.below ((Below.refl wr.heap.size wr).drew) (Nat.le_refl _))
        generalize mkTo bs k = ts at *
        have hBd := Lib.hid hBL.out.drew
        have hlen : ts.length ≤ 6 := by have := hTl.out; omega
        have ho2 := Lib.hid (hOd.out.1.alloc (.cells #[.int .i64 (k : Int)] 3))
        have hb3 := Lib.hid (hBd.out.alloc hBd.out.size (.cells #[.int .i64 (k : Int)] 3))
        have hlo := Lib.hid hOd.out.lo
        go_wp2
        go_region
        all_goals
          go_wp2_with (at_builtin; go_loud (refine wpList_append_own _ rfl _ _ 27 rfl w.heap.size 3 i0 (.int .i64 0) 1 8 Try.underlying27 hI.out hZ0.out hZ1.out hZ2.out rfl (by decide) _ _ _ rfl ho2.out ⟨wr.drew.heap.size, 0, none⟩ 1 1 [.int .i64 (k : Int)] rfl rfl (new1 rfl) (one1 _) (by unfold maxLen; omega) (by omega) (by have := hBL.out.size; simp; omega) ?_); intro v' w4 hown4 hgr4 _)
          have R1 := Lib.hid (OW.push (by simpa using hown4) : OW w4 w.heap.size w4.heap.size v' (ts ++ [(k : Int)]))
          have R2 := Lib.hid (hb3.out.grown hgr4 hb3.out.size (fun k hk => (hlo.out k hk).1))
          clear hown4 hgr4
          go_wp2
          go_roundw
          case rel => exact ⟨k + 1, by omega, by go_num, by rw [hS.out]; exact R1.out, R2.out⟩
          case measure => simp [intOf]; omega
    · obtain rfl : k = 6 := by omega
      rw [mkTo_all] at hO
      go_wp2
      go_ret
      exact ⟨_, _, rfl, hO.out, hBL.out⟩

end Go.Proofs.Ytmhdijklindipaa

/- (*registerSet).goBack of the program. -/
namespace Go.Proofs.Ytmhdijklindipaa
open Go.RowKit
set_option linter.unusedVariables false
set_option maxRecDepth 100000

theorem BT.chg {w w' : World} {g lo hi : Nat} {bs : List Bool} (h : BT w g bs) (hc : Chg lo hi w w') (hn : g < lo ∨ hi ≤ g) : BT w' g bs := (hc.block g h.lt hn).trans h

set_option maxHeartbeats 4000000 in
theorem goBack_any (g : Nat) (bs : List Bool) (x : In) (w : World) (hl : bs.length = 6) (hx : goodIn x = true) (hg : BT w g bs) :
    Calls Try.prog 176 #[.pointer (some ⟨g, 0, none⟩), .agg #[.string x.op, .int .i64 x.d, .int .i64 x.a, .int .i64 x.b, .int .i64 x.m]] w fun e w' => e = .returned (.tuple #[]) ∧ BT w' g (bkB bs x) ∧ Chg g (g + 1) w w' := by
  have hin := Lib.hid (reads_in hx)
  have hxd := (good_parts hx).1
  have hZ : Hid (bkB bs x = bkTo x bs (readsL x).length) := rfl
  have h0 := Lib.hid (bkTo_zero x bs)
  have hS := Lib.hid fun (k : Nat) (h : k < (readsL x).length) => bkTo_succ (x := x) bs h
  have hLn := Lib.hid fun (k : Nat) => (bkTo_len x bs k).trans hl
  have hr2 := Lib.hid (readsL_len x)
  have hRd := Lib.hid fun (W : World) => readsOf_any x W
  obtain ⟨op, d, a, b, m⟩ := x
  dsimp only at hxd h0 hRd ⊢
  generalize readsL ⟨op, d, a, b, m⟩ = R at *
  generalize bkB bs ⟨op, d, a, b, m⟩ = Z at *
  generalize bkTo ⟨op, d, a, b, m⟩ bs = F at *
  obtain ⟨n, rfl⟩ := Int.eq_ofNat_of_zero_le hxd.1
  rw [Int.toNat_natCast] at h0
  have hn6 : (n : Int) < 6 := by omega
  have hnn : n < 6 := by omega
  have hn0 : (0 : Int) ≤ (n : Int) := by omega
  have hgl := hg.lt
  have ba := (Below.refl w.heap.size w).alloc (Nat.le_refl _) (.cells #[.string op, .int .i64 (n : Int), .int .i64 a, .int .i64 b, .int .i64 m] 56)
  have hb1 := hg.next ba hgl
  have c1 := hb1.cell n (by rw [hl]; exact hnn)
  have f1 := hb1.frozen n
  have nb : CB 56 (w.alloc (.cells #[.string op, .int .i64 (n : Int), .int .i64 a, .int .i64 b, .int .i64 m] 56)) w.heap.size [.string op, .int .i64 (n : Int), .int .i64 a, .int .i64 b, .int .i64 m] := heap_alloc_new w _
  have n1 := nb.cell 1
  simp only [List.getElem?_cons_zero, List.getElem?_cons_succ] at n1
  have hTs := hg.set n false
  have hTf := Lib.hid (hTs.next ((Below.refl (w.setCell ⟨g, n, none⟩ (.bool false)).heap.size _).alloc (Nat.le_refl _) (.cells #[.string op, .int .i64 (n : Int), .int .i64 a, .int .i64 b, .int .i64 m] 56)) hTs.lt)
  have hCf := Lib.hid (((Chg.refl g (g + 1) w).setCell (p := ⟨g, n, none⟩) ⟨Nat.le_refl _, Nat.lt_succ_self _⟩ (.bool false)).alloc (.cells #[.string op, .int .i64 (n : Int), .int .i64 a, .int .i64 b, .int .i64 m] 56))
  generalize bs.getD n false = old at *
  clear nb ba hg hb1 hTs hxd
  go_enter Try.func176, Try.ntmps176
  go_wp2_with (fail)
  go_region
  all_goals
    go_wp2_with (fail)
    have hT1 := Lib.hid (hTf.out.next ((Below.refl _ _).drew) hTf.out.lt)
    have hC1 := Lib.hid hCf.out.drew
    clear hTf hCf c1 f1 n1
    generalize ((w.setCell ⟨g, n, none⟩ (.bool false)).alloc (.cells #[.string op, .int .i64 (n : Int), .int .i64 a, .int .i64 b, .int .i64 m] 56)).drew = W1 at *
    refine (hRd.out _).mono ?_
    rintro e w2 ⟨A2, c2, rfl, ho, hb2⟩
    have hT2 := Lib.hid (hT1.out.next hb2 hT1.out.lt)
    have hC2 := Lib.hid (hC1.out.trans (Chg.ofBelow hb2))
    have hg1 := hT1.out.lt
    have hP := Lib.hid fun (W : World) (hW : Chg g (g + 1) w2 W) => IS.chg ho.rs hW (Nat.le_refl _) (by omega)
    clear hT1 hC1 ho hb2 hg1
    go_wp2_with (fail)
    go_loopw [14] (fun q wr => ∃ k : Nat, k ≤ R.length ∧ q = .int .i64 k ∧ BT wr g (F k) ∧ Chg g (g + 1) w2 wr) (fun q _ => R.length - (intOf q).toNat)
    case atStart => exact ⟨0, Nat.zero_le _, rfl, by rw [h0.out]; exact hT2.out, Chg.refl _ _ _⟩
    case round =>
      obtain ⟨k, hk, rfl, hbt, hch⟩ := hrel
      have hTJ := Lib.hid hbt
      have hCJ := Lib.hid hch
      clear hbt
      by_cases hlt : k < R.length
      · obtain ⟨pb, po, rfl, ⟨_, hpb⟩, hcc⟩ := (hP.out _ hch) (by omega)
        have y1 := hcc k hlt
        have hpt := hin.out R[k] (List.getElem_mem _)
        have hSk := Lib.hid (hS.out k hlt)
        have hLk := Lib.hid (hLn.out k)
        clear hcc hch
        generalize R[k] = pp at *
        obtain ⟨hp0, hp5⟩ := hpt
        obtain ⟨pn, rfl⟩ := Int.eq_ofNat_of_zero_le hp0
        have hpm : (pn : Int) < 6 := by omega
        have hpn : pn < 6 := by omega
        have hpn0 : (0 : Int) ≤ (pn : Int) := by omega
        rw [Int.toNat_natCast] at hSk
        generalize hnx : F (k + 1) = nx at *
        have hnx2 := Lib.hid hnx
        clear hnx
        generalize F k = cj at *
        have y2 := hTJ.out.cell pn (by rw [hLk.out]; exact hpn)
        have y3 := hTJ.out.frozen pn
        generalize cj.getD pn false = old2 at *
        have hIn := Lib.hid (hTJ.out.set pn true)
        have hCn := Lib.hid (hCJ.out.setCell (p := ⟨g, pn, none⟩) ⟨Nat.le_refl _, Nat.lt_succ_self _⟩ (.bool true))
        have hr3 : R.length ≤ 2 := hr2.out
        go_wp2
        go_roundw
        case rel => exact ⟨k + 1, by omega, by go_num, by rw [hnx2.out, hSk.out]; exact hIn.out, hCn.out⟩
        case measure => simp [intOf]; omega
      · obtain rfl : k = R.length := by omega
        clear hch
        go_wp2
        go_end0
        exact ⟨rfl, by rw [hZ.out]; exact hTJ.out, hC2.out.trans hCJ.out⟩
end Go.Proofs.Ytmhdijklindipaa

/- registerSetOf of the program. -/
namespace Go.Proofs.Ytmhdijklindipaa
open Go.RowKit
set_option linter.unusedVariables false
set_option maxRecDepth 100000

def setsTo (xs : List Int) (k : Nat) : List Bool := setsB (List.replicate 6 false) (xs.take k)
theorem setsTo_len (xs : List Int) (k : Nat) : (setsTo xs k).length = 6 := by unfold setsTo; rw [setsB_len]; rfl
theorem setsTo_zero (xs : List Int) : setsTo xs 0 = List.replicate 6 false := rfl
theorem setsTo_succ {xs : List Int} {k : Nat} (h : k < xs.length) : setsTo xs (k + 1) = (setsTo xs k).set xs[k].toNat true := by
  unfold setsTo setsB; rw [List.take_succ_eq_append_getElem h, List.foldl_append]; rfl
theorem six_bools {l : List Bool} (h : l.length = 6) : ∃ b0 b1 b2 b3 b4 b5, l = [b0, b1, b2, b3, b4, b5] := by
  match l, h with
  | [b0, b1, b2, b3, b4, b5], _ => exact ⟨b0, b1, b2, b3, b4, b5, rfl⟩
theorem BT.six {w : World} {g : Nat} {b0 b1 b2 b3 b4 b5 : Bool} (h : BT w g [b0, b1, b2, b3, b4, b5]) : w.cell? ⟨g, 0, none⟩ = some (.bool b0) ∧ w.cell? ⟨g, 1, none⟩ = some (.bool b1) ∧ w.cell? ⟨g, 2, none⟩ = some (.bool b2) ∧ w.cell? ⟨g, 3, none⟩ = some (.bool b3) ∧ w.cell? ⟨g, 4, none⟩ = some (.bool b4) ∧ w.cell? ⟨g, 5, none⟩ = some (.bool b5) :=
  ⟨h.cell 0 (by simp), h.cell 1 (by simp), h.cell 2 (by simp), h.cell 3 (by simp), h.cell 4 (by simp), h.cell 5 (by simp)⟩
theorem set_ret {fn : Func} {Q : Ending → World → Prop} {tmps : Array Value} {w : World} {g : Nat} {bs : List Bool} {s : Tmp} (hr : fn.results = #[.cell s 143]) (hs : tmps.getD s undef = .pointer (some ⟨g, 0, none⟩)) (hl : bs.length = 6)
    (h : BT w g bs) (hq : Q (.returned (.agg (boolCells bs))) w) : bodyPost Try.prog fn Q .ret ⟨tmps, []⟩ w := by
  obtain ⟨b0, b1, b2, b3, b4, b5, rfl⟩ := six_bools hl
  obtain ⟨q0, q1, q2, q3, q4, q5⟩ := h.six
  refine bodyPost_ret (v := .agg (boolCells [b0, b1, b2, b3, b4, b5])) ?_ rfl hq
  have hs' : tmps[s]?.getD undef = .pointer (some ⟨g, 0, none⟩) := by simpa using hs
  simp [results, hr, hs', go_sem, q0, q1, q2, q3, q4, q5, boolCells]

set_option maxHeartbeats 4000000 in
theorem registerSetOf_any (L B : Nat) (A : Option Addr) (c : Nat) (xs : List Int) (w : World) (hl : xs.length ≤ 1048576) (hx : IS w L B A xs) (hB : B ≤ w.heap.size) (hin : ∀ r ∈ xs, In6 r) :
    Calls Try.prog 174 #[.slice A xs.length c] w fun e w' => e = .returned (.agg (boolCells (setsTo xs xs.length))) ∧ Below w.heap.size w w' := by
  have hI := Lib.hid hin
  have hP := Lib.hid fun (W : World) (hW : Below w.heap.size w W) => hx.below hW hB
  have h0 := Lib.hid (setsTo_zero xs)
  have hS := Lib.hid fun (k : Nat) (h : k < xs.length) => setsTo_succ (xs := xs) h
  have hLn := Lib.hid fun (k : Nat) => setsTo_len xs k
  have b1 := (Below.refl w.heap.size w).alloc (Nat.le_refl _) (.cells (boolCells (List.replicate 6 false)) 143)
  have b2 := b1.alloc b1.size (.cells (boolCells (List.replicate 6 false)) 143)
  have t1 : BT (w.alloc (.cells (boolCells (List.replicate 6 false)) 143)) w.heap.size (List.replicate 6 false) := heap_alloc_new w _
  have z1 : (w.alloc (.cells (boolCells (List.replicate 6 false)) 143)).heap.size = w.heap.size + 1 := Array.size_push _
  have t2 : BT ((w.alloc (.cells (boolCells (List.replicate 6 false)) 143)).alloc (.cells (boolCells (List.replicate 6 false)) 143)) (w.heap.size + 1) (List.replicate 6 false) := by
    rw [← z1]; exact heap_alloc_new _ _
  have t3 := t1.next ((Below.refl _ _).alloc (Nat.le_refl _) (.cells (boolCells (List.replicate 6 false)) 143)) t1.lt
  have hT2 := Lib.hid t2
  have hT3 := Lib.hid t3
  have hB2 := Lib.hid b2
  clear b1 b2 t1 t2 t3 z1 hx hin
  generalize setsTo xs = F at *
  go_enter Try.func174, Try.ntmps174
  go_wp2_with (fail)
  go_loopw [8] (fun q wr => ∃ k : Nat, k ≤ xs.length ∧ q = .int .i64 k ∧ BT wr (w.heap.size + 1) (F k) ∧ BT wr w.heap.size (List.replicate 6 false) ∧ Below w.heap.size w wr) (fun q _ => xs.length - (intOf q).toNat)
  case atStart => exact ⟨0, Nat.zero_le _, rfl, by rw [h0.out]; exact hT2.out, hT3.out, hB2.out⟩
  case round =>
    obtain ⟨k, hk, rfl, hbt, hbo, hbel⟩ := hrel
    have hTJ := Lib.hid hbt
    have hTO := Lib.hid hbo
    have hBL := Lib.hid hbel
    have hz := hbt.lt
    clear hbt hbo
    by_cases hlt : k < xs.length
    · obtain ⟨pb, po, rfl, ⟨_, hpb⟩, hcc⟩ := (hP.out _ hbel) (by omega)
      have y1 := hcc k hlt
      have hpt := hI.out xs[k] (List.getElem_mem _)
      have hSk := Lib.hid (hS.out k hlt)
      have hLk := Lib.hid (hLn.out k)
      clear hcc hbel
      generalize xs[k] = pp at *
      obtain ⟨hp0, hp5⟩ := hpt
      obtain ⟨pn, rfl⟩ := Int.eq_ofNat_of_zero_le hp0
      have hpm : (pn : Int) < 6 := by omega
      have hpn : pn < 6 := by omega
      have hpn0 : (0 : Int) ≤ (pn : Int) := by omega
      rw [Int.toNat_natCast] at hSk
      generalize hnx : F (k + 1) = nx at *
      have hnx2 := Lib.hid hnx
      clear hnx
      generalize F k = cj at *
      have y2 := hTJ.out.cell pn (by rw [hLk.out]; exact hpn)
      have y3 := hTJ.out.frozen pn
      generalize cj.getD pn false = old2 at *
      have hIn := Lib.hid (hTJ.out.set pn true)
      have hCn := Lib.hid ((Chg.refl (w.heap.size + 1) (w.heap.size + 2) wr).setCell (p := ⟨w.heap.size + 1, pn, none⟩) ⟨Nat.le_refl _, Nat.lt_succ_self _⟩ (.bool true))
      have hOn := Lib.hid (hTO.out.chg hCn.out (.inl (Nat.lt_succ_self _)))
      have hBn := Lib.hid (below_chg hBL.out hCn.out hBL.out.size (Nat.le_succ _))
      go_wp2
      go_roundw
      case rel => exact ⟨k + 1, by omega, by go_num, by rw [hnx2.out, hSk.out]; exact hIn.out, hOn.out, hBn.out⟩
      case measure => simp [intOf]; omega
    · obtain rfl : k = xs.length := by omega
      have hl6 := hLn.out xs.length
      obtain ⟨b0, b1, b2, b3, b4, b5, hz6⟩ := six_bools hl6
      have hZ6 := Lib.hid hz6
      have hTJ2 := hTJ.out
      rw [hz6] at hTJ2
      clear hz6 hl6
      obtain ⟨q0, q1, q2, q3, q4, q5⟩ := hTJ2.six
      have hTO2 : BT wr w.heap.size [false, false, false, false, false, false] := hTO.out
      obtain ⟨o0, o1, o2, o3, o4, o5⟩ := hTO2.six
      have f0 := hTO2.frozen 0
      have f1 := hTO2.frozen 1
      have f2 := hTO2.frozen 2
      have f3 := hTO2.frozen 3
      have f4 := hTO2.frozen 4
      have f5 := hTO2.frozen 5
      have hF := Lib.hid ((((((hTO2.set 0 b0).set 1 b1).set 2 b2).set 3 b3).set 4 b4).set 5 b5)
      have hin1 : w.heap.size ≤ w.heap.size ∧ w.heap.size < w.heap.size + 1 := ⟨Nat.le_refl _, Nat.lt_succ_self _⟩
      have hC := Lib.hid (((((((Chg.refl w.heap.size (w.heap.size + 1) wr).setCell (p := ⟨w.heap.size, 0, none⟩) hin1 (.bool b0)).setCell (p := ⟨w.heap.size, 1, none⟩) hin1 (.bool b1)).setCell (p := ⟨w.heap.size, 2, none⟩) hin1 (.bool b2)).setCell (p := ⟨w.heap.size, 3, none⟩) hin1 (.bool b3)).setCell (p := ⟨w.heap.size, 4, none⟩) hin1 (.bool b4)).setCell (p := ⟨w.heap.size, 5, none⟩) hin1 (.bool b5))
      have hBn := Lib.hid (below_chg hBL.out hC.out hBL.out.size (Nat.le_refl _))
      clear hbel hTO2 hin1 hC hTJ2
      go_wp2
      exact set_ret rfl rfl rfl hF.out ⟨by rw [hZ6.out]; rfl, hBn.out⟩
end Go.Proofs.Ytmhdijklindipaa

/- What is alive before a code, and the code without what is dead: plain. -/
namespace Go.Proofs.Ytmhdijklindipaa
open Go.RowKit
set_option linter.unusedVariables false

def lvS (bs : List Bool) (cs : List In) : List Bool := cs.foldr (fun x b => bkB b x) bs
def ddStep (x : In) (p : List In × List Bool) : List In × List Bool := if p.2.getD x.d.toNat false = true then (x :: p.1, bkB p.2 x) else p
def ddS (bs : List Bool) (cs : List In) : List In × List Bool := cs.foldr ddStep ([], bs)
theorem lvS_drop (bs : List Bool) {cs : List In} {k : Nat} (h : k < cs.length) : lvS bs (cs.drop k) = bkB (lvS bs (cs.drop (k + 1))) cs[k] := by
  unfold lvS; rw [List.drop_eq_getElem_cons h, List.foldr_cons]
theorem ddS_drop (bs : List Bool) {cs : List In} {k : Nat} (h : k < cs.length) : ddS bs (cs.drop k) = ddStep cs[k] (ddS bs (cs.drop (k + 1))) := by
  unfold ddS; rw [List.drop_eq_getElem_cons h, List.foldr_cons]
theorem lvS_len (bs : List Bool) : ∀ cs : List In, (lvS bs cs).length = bs.length
  | [] => rfl
  | x :: cs => by show (bkB (lvS bs cs) x).length = _; rw [bkB_len, lvS_len bs cs]
theorem ddS_len (bs : List Bool) : ∀ cs : List In, (ddS bs cs).1.length ≤ cs.length ∧ (ddS bs cs).2.length = bs.length
  | [] => ⟨Nat.le_refl _, rfl⟩
  | x :: cs => by
    have ih := ddS_len bs cs
    show (ddStep x (ddS bs cs)).1.length ≤ _ ∧ (ddStep x (ddS bs cs)).2.length = _
    unfold ddStep
    split
    · exact ⟨by simp; omega, by rw [bkB_len]; exact ih.2⟩
    · exact ⟨by simp; omega, ih.2⟩
/-- The model's lists and the program's bits. -/
theorem lvS_bits {bs : List Bool} (hl : bs.length = 6) : ∀ {cs : List In}, (∀ x ∈ cs, goodIn x = true) → cs.foldr (fun x L => lvB x L) (mkT bs) = mkT (lvS bs cs)
  | [], _ => rfl
  | x :: cs, h => by
    rw [List.foldr_cons, lvS_bits hl (fun y hy => h y (by simp [hy])), lvB_bits (h x (by simp)) (by rw [lvS_len]; exact hl)]; rfl
theorem ddS_good (bs : List Bool) : ∀ {cs : List In}, (∀ x ∈ cs, goodIn x = true) → ∀ x ∈ (ddS bs cs).1, goodIn x = true
  | [], _ => by intro x hx; cases hx
  | y :: cs, h => by
    have ih := ddS_good bs (cs := cs) (fun z hz => h z (by simp [hz]))
    show ∀ x ∈ (ddStep y (ddS bs cs)).1, goodIn x = true
    unfold ddStep
    split
    · intro x hx
      rcases List.mem_cons.mp hx with rfl | hx
      · exact h _ (by simp)
      · exact ih x hx
    · exact ih
/-- Two lists of numbers that increase and hold the same are the same. -/
theorem inc_ext : ∀ {a b : List Int}, a.Pairwise (· < ·) → b.Pairwise (· < ·) → (∀ x, x ∈ a ↔ x ∈ b) → a = b
  | [], [], _, _, _ => rfl
  | [], y :: b, _, _, h => absurd ((h y).2 (by simp)) (by simp)
  | x :: a, [], _, _, h => absurd ((h x).1 (by simp)) (by simp)
  | x :: a, y :: b, ha, hb, h => by
    rw [List.pairwise_cons] at ha hb
    have hxy : x = y := by
      rcases List.mem_cons.mp ((h x).1 (by simp)) with e | hx
      · exact e
      · rcases List.mem_cons.mp ((h y).2 (by simp)) with e | hy
        · exact e.symm
        · have := hb.1 x hx; have := ha.1 y hy; omega
    subst hxy
    congr 1
    refine inc_ext ha.2 hb.2 fun z => ⟨fun hz => ?_, fun hz => ?_⟩
    · rcases List.mem_cons.mp ((h z).1 (by simp [hz])) with e | hz'
      · have := ha.1 z hz; omega
      · exact hz'
    · rcases List.mem_cons.mp ((h z).2 (by simp [hz])) with e | hz'
      · have := hb.1 z hz; omega
      · exact hz'
theorem mkT_inc (bs : List Bool) : (mkT bs).Pairwise (· < ·) := by
  unfold mkT
  rw [List.pairwise_map]
  exact ((List.pairwise_lt_range (n := 6)).filter _).imp (fun h => by omega)
theorem rise_bits {xs : List Int} (h : riseB xs = true) : (∀ r ∈ xs, In6 r) ∧ mkT (setsTo xs xs.length) = xs := by
  unfold riseB at h
  rw [Bool.and_eq_true] at h
  have hin : ∀ r ∈ xs, In6 r := fun r hr => by
    have h1 := h.1
    simp [allIn, inR] at h1
    have := h1 r hr
    unfold In6; omega
  refine ⟨hin, inc_ext (mkT_inc _) (of_decide_eq_true h.2) fun z => ?_⟩
  unfold setsTo
  rw [List.take_length]
  have hg := setsB_get xs (List.replicate 6 false) hin rfl
  constructor
  · intro hz
    obtain ⟨z0, z5⟩ := mkT_in z hz
    obtain ⟨i, rfl⟩ := Int.eq_ofNat_of_zero_le z0
    have := (mem_mkT (bs := setsB (List.replicate 6 false) xs) (i := i) (by omega)).1 hz
    rcases (hg i (by omega)).1 this with e | e
    · exfalso
      have : ∀ j, j < 6 → (List.replicate 6 false).getD j false = false := by decide
      rw [this i (by omega)] at e; cases e
    · exact e
  · intro hz
    obtain ⟨z0, z5⟩ := hin z hz
    obtain ⟨i, rfl⟩ := Int.eq_ofNat_of_zero_le z0
    exact (mem_mkT (by omega)).2 ((hg i (by omega)).2 (.inr hz))
end Go.Proofs.Ytmhdijklindipaa

/- cdWanted of the model. -/
namespace Go.Proofs.Ytmhdijklindipaa
open Go.RowKit
set_option linter.unusedVariables false
set_option maxRecDepth 100000

set_option maxHeartbeats 1000000 in
theorem l1Rising_any (L B : Nat) (A : Option Addr) (c : Nat) (xs : List Int) (w : World) (hl : xs.length ≤ 1048576) (hx : IS w L B A xs) :
    Calls Try.prog 245 #[.slice A xs.length c, .int .i64 0, .int .i64 5] w fun e w' => e = .returned (.bool (riseB xs)) ∧ w = w' := by
  have hX := Lib.hid hx; clear hx
  go_enter Try.func245, Try.ntmps245
  go_wp2
  go_loop [11] (fun i => ∃ k : Nat, k ≤ xs.length ∧ i = .int .i64 k ∧ riseB (xs.take k) = true) (fun i => xs.length - (intOf i).toNat)
  case atStart => exact ⟨0, Nat.zero_le _, rfl, rfl⟩
  case round =>
    obtain ⟨k, hk, rfl, hh⟩ := hrel
    have hH := Lib.hid hh; clear hh
    by_cases hlt : k < xs.length
    · obtain ⟨b, o, rfl, _, hc⟩ := hX.out (by omega)
      cases k with
      | zero =>
        have hcell : w.cell? ⟨b, o, none⟩ = _ := hc 0 hlt
        clear hc
        have hNo := Lib.hid (rise_reg hlt)
        have hS := Lib.hid (rise_snoc0 hlt)
        generalize xs[0] = x at *
        have hC := Lib.hid fun (W : World) => (show Calls Try.prog 169 #[.int .i64 x, .int .i64 0, .int .i64 5] W fun e w' => e = .returned (.bool (inR x 0 5)) ∧ W = w' from l1In_any x 0 5 W)
        cases hb : inR x 0 5 <;> rw [hb] at hC
        · have hF := Lib.hid (hNo.out hb)
          go_wp2_with (go_at_call 169; refine (hC.out _).mono ?_; rintro e w' ⟨rfl, rfl⟩)
          go_ret
          exact ⟨ret_bool hF.out.symm, rfl⟩
        · have hS' := Lib.hid (hS.out hb)
          go_wp2_with (go_at_call 169; refine (hC.out _).mono ?_; rintro e w' ⟨rfl, rfl⟩)
          go_round
          case rel => exact ⟨1, by omega, by go_num, hS'.out⟩
          case measure => simp [intOf]; omega
      | succ k =>
        have hcell := hc (k + 1) hlt
        have hcell2 := hc k (by omega)
        clear hc
        have hNo := Lib.hid (rise_reg hlt)
        have hLe := Lib.hid (rise_le hlt)
        have hS := Lib.hid (rise_snoc hlt hH.out)
        generalize xs[k + 1] = x at *
        generalize xs[k] = y at *
        have hC := Lib.hid fun (W : World) => (show Calls Try.prog 169 #[.int .i64 x, .int .i64 0, .int .i64 5] W fun e w' => e = .returned (.bool (inR x 0 5)) ∧ W = w' from l1In_any x 0 5 W)
        cases hb : inR x 0 5 <;> rw [hb] at hC
        · have hF := Lib.hid (hNo.out hb)
          go_wp2_with (go_at_call 169; refine (hC.out _).mono ?_; rintro e w' ⟨rfl, rfl⟩)
          go_ret
          exact ⟨ret_bool hF.out.symm, rfl⟩
        · by_cases hxy : x ≤ y
          · have hF := Lib.hid (hLe.out hxy)
            go_wp2_with (go_at_call 169; refine (hC.out _).mono ?_; rintro e w' ⟨rfl, rfl⟩)
            go_ret
            exact ⟨ret_bool hF.out.symm, rfl⟩
          · have hS' := Lib.hid (hS.out hb (by omega))
            go_wp2_with (go_at_call 169; refine (hC.out _).mono ?_; rintro e w' ⟨rfl, rfl⟩)
            go_round
            case rel => exact ⟨k + 2, by omega, by go_num, hS'.out⟩
            case measure => simp [intOf]; omega
    · obtain rfl : k = xs.length := by omega
      go_wp2
      go_ret
      exact ⟨ret_bool (by have := hH.out; rw [List.take_length] at this; rw [this]), rfl⟩

theorem cdWanted_any (L B : Nat) (A : Option Addr) (c : Nat) (xs : List Int) (w : World) (hl : xs.length ≤ 1048576) (hx : IS w L B A xs) :
    Calls Try.prog 178 #[.slice A xs.length c] w fun e w' => e = .returned (.bool (riseB xs)) ∧ w = w' := by
  have H := Lib.hid (l1Rising_any L B A c xs w hl hx)
  generalize riseB xs = r at *
  clear hx
  go_enter Try.func178, Try.ntmps178
  go_wp2_with (go_at_call 245; refine H.out.mono ?_; rintro e w' ⟨rfl, rfl⟩)
  go_ret
  exact ⟨rfl, rfl⟩
end Go.Proofs.Ytmhdijklindipaa

/- The model's TemporariesOf. -/
namespace Go.Proofs.Ytmhdijklindipaa
open Go.RowKit
set_option linter.unusedVariables false
set_option maxRecDepth 100000

end Go.Proofs.Ytmhdijklindipaa
