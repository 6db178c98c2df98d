import Derived.Test.YtdleiondfhmjdaaTA
import Derived.Test.YtdleiondfhmjdaaCE
import Derived.Test.YtdleiondfhmjdaaK
import Derived.WalkKit
import Derived.WalkSpells
import Derived.WalkLawsBesides
import Derived.Lib.AppendZeros
import Derived.Lib.Hide
/- The program's TemporariesOf. -/
namespace Go.Proofs.Ytdleiondfhmjdaa
open Go.RowKit
set_option linter.unusedVariables false
set_option maxRecDepth 100000

theorem isTemporary_any (r : Int) (w : World) :
    Calls Try.prog 96 #[.int .i64 r] w fun e w' => e = .returned (.bool (decide (2 ≤ r))) ∧ w = w' := by
  by_cases h : 2 ≤ r
  · go_enter Try.func96, Try.ntmps96
    go_wp2
    go_ret
    exact ⟨ret_bool (by simp [h]), rfl⟩
  · go_enter Try.func96, Try.ntmps96
    go_wp2
    go_ret
    exact ⟨ret_bool (by simp [h]), rfl⟩

set_option maxHeartbeats 4000000 in
theorem setList_any (g : Nat) (bs : List Bool) (w : World) (hl : bs.length = 6) (hg : BT w g bs) :
    Calls Try.prog 97 #[.pointer (some ⟨g, 0, none⟩)] w (OwnIs w (mkT bs)) := by
  obtain ⟨i0, hi, hz0, hz1, hz2⟩ := info_parts Try.infoInt
  have hI := Lib.hid hi
  have hZ0 := Lib.hid hz0
  have hZ1 := Lib.hid hz1
  have hZ2 := Lib.hid hz2
  clear hi hz0 hz1 hz2
  have hG := Lib.hid hg
  have hgl := hg.lt
  have hL := Lib.hid hl
  clear hg hl
  have b0 := Lib.hid (Below.refl w.heap.size w)
  go_enter Try.func97, Try.ntmps97
  go_wp2
  go_loopw [3, 7] (fun v i wr => ∃ k : Nat, k ≤ 6 ∧ i = .int .i64 k ∧ OW wr w.heap.size wr.heap.size v (mkTo bs k) ∧ Below w.heap.size w wr) (fun _ i _ => 6 - (intOf i).toNat)
  case atStart => exact ⟨0, Nat.zero_le _, rfl, OW.nil _ _ _, b0.out⟩
  case round =>
    obtain ⟨k, hk, rfl, how, hbel⟩ := hrel
    have hO := Lib.hid how
    have hBL := Lib.hid hbel
    obtain ⟨A2, c2, rfl, _⟩ := how.form
    have hTl := Lib.hid (mkTo_len bs k)
    have hgw : g < wr.heap.size := Nat.lt_of_lt_of_le hgl hbel.size
    have hc := (hG.out.next hbel hgl).cell k
    clear how hbel
    by_cases hlt : k < 6
    · have c1 := hc (by rw [hL.out]; exact hlt)
      clear hc
      have hk6 : (k : Int) < 6 := by omega
      have hk0 : (0 : Int) ≤ (k : Int) := by omega
      cases hb : bs.getD k false
      · rw [hb] at c1
        have hS := Lib.hid (mkTo_no hb)
        clear hb
        generalize mkTo bs k = ts at *
        have hd := Lib.hid ((Below.refl wr.heap.size wr).drew)
        have hBd := Lib.hid hBL.out.drew
        go_wp2
        go_region
        all_goals
          go_wp2
          go_roundw
          case rel => exact ⟨k + 1, by omega, by go_num, by rw [hS.out]; exact hO.out.below hd.out (Nat.le_refl _), hBd.out⟩
          case measure => simp [intOf]; omega
      · rw [hb] at c1
        have hS := Lib.hid (mkTo_yes hb)
        clear hb
        have hOd := Lib.hid (show OW wr.drew w.heap.size wr.drew.heap.size (.slice A2 (mkTo bs k).length c2) (mkTo bs k) from hO.out.below ((Below.refl wr.heap.size wr).drew) (Nat.le_refl _))
        generalize mkTo bs k = ts at *
        have hBd := Lib.hid hBL.out.drew
        have hlen : ts.length ≤ 6 := by have := hTl.out; omega
        have ho2 := Lib.hid (hOd.out.1.alloc (.cells #[.int .i64 (k : Int)] 3))
        have hb3 := Lib.hid (hBd.out.alloc hBd.out.size (.cells #[.int .i64 (k : Int)] 3))
        have hlo := Lib.hid hOd.out.lo
        go_wp2
        go_region
        all_goals
          go_wp2_with (at_builtin; go_loud (refine wpList_append_own _ rfl _ _ 23 rfl w.heap.size 3 i0 (.int .i64 0) 1 8 Try.underlying23 hI.out hZ0.out hZ1.out hZ2.out rfl (by decide) _ _ _ rfl ho2.out ⟨wr.drew.heap.size, 0, none⟩ 1 1 [.int .i64 (k : Int)] rfl rfl (new1 rfl) (one1 _) (by unfold maxLen; omega) (by omega) (by have := hBL.out.size; simp; omega) ?_); intro v' w4 hown4 hgr4 _)
          have R1 := Lib.hid (OW.push (by simpa using hown4) : OW w4 w.heap.size w4.heap.size v' (ts ++ [(k : Int)]))
          have R2 := Lib.hid (hb3.out.grown hgr4 hb3.out.size (fun k hk => (hlo.out k hk).1))
          clear hown4 hgr4
          go_wp2
          go_roundw
          case rel => exact ⟨k + 1, by omega, by go_num, by rw [hS.out]; exact R1.out, R2.out⟩
          case measure => simp [intOf]; omega
    · obtain rfl : k = 6 := by omega
      rw [mkTo_all] at hO
      go_wp2
      go_ret
      exact ⟨_, _, rfl, hO.out, hBL.out⟩

set_option maxHeartbeats 4000000 in
theorem iTemporariesOf_any (L B : Nat) (A : Option Addr) (c : Nat) (cs : List In) (w : World) (hl : cs.length ≤ 1048576) (hcs : RS In.enc 5 w L B A cs) (hB : B ≤ w.heap.size) :
    Calls Try.prog 56 #[.slice A cs.length c] w fun e w' => e = .returned (.tuple #[.int .i64 (tmR cs), .bool (okCode cs)]) ∧ Below w.heap.size w w' := by
  have H := Lib.hid (IsCode_any L B A c cs w hl hcs hB)
  have hE := Lib.hid hcs
  have hBB := Lib.hid hB
  clear hcs hB
  cases hk : okCode cs
  · have hR := Lib.hid (show tmR cs = 0 by unfold tmR; rw [if_neg (by rw [hk]; decide)])
    rw [hk] at H
    clear hk
    go_enter Try.func56, Try.ntmps56
    go_wp2_with (fail)
    refine H.out.mono ?_
    rintro e w1 ⟨rfl, hb⟩
    have b1 := Lib.hid hb; clear hb
    go_wp2_with (fail)
    go_ret2
    exact ⟨by rw [hR.out]; rfl, b1.out⟩
  have hR := Lib.hid (show tmR cs = ((mkT (foT cs)).length : Int) by unfold tmR; rw [if_pos hk])
  have hall := Lib.hid (okCode_all hk)
  have hl40 := okCode_len hk
  have hf0 := Lib.hid (foT_is hall.out cs.length (Nat.le_refl _)).len
  rw [List.take_length] at hf0
  rw [hk] at H
  clear hk
  go_enter Try.func56, Try.ntmps56
  go_wp2_with (fail)
  refine H.out.mono ?_
  rintro e w1 ⟨rfl, hb⟩
  have b1 := Lib.hid hb
  have z1 := hb.size
  have b2 := Lib.hid (hb.alloc z1 (.cells #[.bool false, .bool false, .bool false, .bool false, .bool false, .bool false] 116))
  have hT0 : Hid (BT (w1.alloc (.cells #[.bool false, .bool false, .bool false, .bool false, .bool false, .bool false] 116)) w1.heap.size (foT (cs.take 0))) := heap_alloc_new w1 _
  clear hb
  go_wp2
  go_loopw [12] (fun i wr => ∃ k : Nat, k ≤ cs.length ∧ i = .int .i64 k ∧ BT wr w1.heap.size (foT (cs.take k)) ∧ Below w.heap.size w wr) (fun i _ => cs.length - (intOf i).toNat)
  case atStart => exact ⟨0, Nat.zero_le _, rfl, hT0.out, b2.out⟩
  case round =>
    obtain ⟨k, hkl, rfl, hbt, hbel⟩ := hrel
    by_cases hlt : k < cs.length
    · obtain ⟨b, o, rfl, ⟨_, hbB⟩, hc⟩ := In.cells (hE.out.below hbel hBB.out) (by omega)
      obtain ⟨d1, d2, d3, d4, d5⟩ := hc k hlt
      clear hc
      have hx := (good_parts (hall.out _ (List.getElem_mem hlt))).1
      have hS := Lib.hid (foT_snoc (cs := cs) hlt)
      have hSl := Lib.hid (foT_is hall.out k hkl).len
      have hBL := Lib.hid hbel
      have hT := Lib.hid hbt
      have hgw := hbt.lt
      have hbs := hbel.size
      clear hbt hbel
      generalize foT (cs.take k) = bs at *
      generalize cs[k] = nd at *
      obtain ⟨op, d, a, bb, m⟩ := nd
      simp only at hx d1 d2 d3 d4 d5 hS
      obtain ⟨hx0, hx5⟩ := hx
      obtain ⟨n, rfl⟩ := Int.eq_ofNat_of_zero_le hx0
      have hn6 : (n : Int) < 6 := by omega
      have hnn : n < 6 := by omega
      have hn0 : (0 : Int) ≤ (n : Int) := by omega
      have nb : CB 70 (wr.alloc (.cells #[.string op, .int .i64 (n : Int), .int .i64 a, .int .i64 bb, .int .i64 m] 70)) wr.heap.size [.string op, .int .i64 (n : Int), .int .i64 a, .int .i64 bb, .int .i64 m] := heap_alloc_new wr _
      have n1 := nb.cell 1
      simp only [List.getElem?_cons_zero, List.getElem?_cons_succ] at n1
      have hA := (Below.refl wr.heap.size wr).alloc (Nat.le_refl _) (.cells #[.string op, .int .i64 (n : Int), .int .i64 a, .int .i64 bb, .int .i64 m] 70)
      have hT2 := Lib.hid (hT.out.next hA.drew hgw)
      have cg := hT2.out.cell n (by rw [hSl.out]; exact hnn)
      have fg := hT2.out.frozen n
      have hBd := Lib.hid (hBL.out.trans (hA.drew.mono hbs))
      have hTs := hT.out.set n (decide (2 ≤ (n : Int)))
      have hTf := Lib.hid (hTs.next ((Below.refl (wr.setCell ⟨w1.heap.size, n, none⟩ (.bool (decide (2 ≤ (n : Int))))).heap.size _).alloc (Nat.le_refl _) (.cells #[.string op, .int .i64 (n : Int), .int .i64 a, .int .i64 bb, .int .i64 m] 70)) hTs.lt)
      have hBs := hBL.out.setCell (p := ⟨w1.heap.size, n, none⟩) z1 (.bool (decide (2 ≤ (n : Int))))
      have hBf := Lib.hid (hBs.alloc hBs.size (.cells #[.string op, .int .i64 (n : Int), .int .i64 a, .int .i64 bb, .int .i64 m] 70)).drew
      clear hTs hBs
      have hst : Hid (foT (cs.take (k + 1)) = bs.set n (decide (2 ≤ (n : Int)))) := hS.out
      generalize bs.getD n false = old at *
      clear nb hA
      go_wp2_with (fail)
      go_region_law (go_simp; go_at_call 96; (with_reducible refine (isTemporary_any _ _).mono ?_); rintro e w' ⟨rfl, rfl⟩)
      all_goals
        go_wp2
        go_roundw
        case rel => exact ⟨k + 1, by omega, by go_num, by rw [hst.out]; exact hTf.out, hBf.out⟩
        case measure => simp [intOf]; omega
    · obtain rfl : k = cs.length := by omega
      rw [List.take_length] at hbt
      have hBL := Lib.hid hbel
      have hL := Lib.hid (setList_any w1.heap.size (foT cs) wr hf0.out hbt)
      clear hbt hbel
      go_wp2_with (fail)
      refine hL.out.mono ?_
      rintro e w3 ⟨A3, c3, rfl, ho3, hb3⟩
      have hB3 := Lib.hid (hBL.out.trans (hb3.mono hBL.out.size))
      clear ho3 hb3
      go_wp2
      go_ret2
      exact ⟨by rw [hR.out]; rfl, hB3.out⟩
end Go.Proofs.Ytdleiondfhmjdaa
