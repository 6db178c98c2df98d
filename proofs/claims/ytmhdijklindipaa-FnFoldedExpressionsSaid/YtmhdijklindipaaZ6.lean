/- Texts of this proof, one behind the other: DR5, DR6, SB, SC, SD, HB. -/
import Derived.Test.YtmhdijklindipaaZ7
import Derived.Test.YtmhdijklindipaaZ14
import Derived.WalkKit
import Derived.WalkSpells
import Derived.WalkLawsBesides
import Derived.Deep.AppendLies
import Derived.Lib.Hide
import Derived.Deep.RegionLaw
import Derived.Deep.RegionHeld3
import Derived.Test.YtmhdijklindipaaZ10
import Derived.Test.YtmhdijklindipaaZ12
import Derived.Test.YtmhdijklindipaaKMInstr
import Derived.Laws.StructEq
import Derived.Test.YtmhdijklindipaaLI
import Derived.Test.YtmhdijklindipaaV
/- Drawn registers, drawn lists of registers. -/
namespace Go.Proofs.Ytmhdijklindipaa
open Go.RowKit
set_option linter.unusedVariables false
set_option maxRecDepth 100000

/-- What a draw of a list of ints hands back. -/
def DrL (w : World) (g K N : Nat) (e : Ending) (w' : World) : Prop := ∃ (xs : List Int) (A : Option Addr) (c : Nat), e = .returned (.slice A xs.length c) ∧ xs.length ≤ N ∧ IS w' w.heap.size w'.heap.size A xs ∧ Cur w' g K ∧ Chg g (g + 1) w w'
theorem OW.chgD {w w' : World} {L B lo hi : Nat} {v : Value} {xs : List Int} (h : OW w L B v xs) (hc : Chg lo hi w w') (hd : B ≤ lo ∨ hi ≤ L) : OW w' L B v xs := by
  refine ⟨⟨h.1.1, ?_⟩, h.2⟩
  rcases h.1.2 with hn | ⟨g, cap, cur, rfl, hg, hh, hr⟩
  · exact .inl hn
  · have hB : g < B := h.2 g rfl
    exact .inr ⟨g, cap, cur, rfl, hg, (hc.block g (Array.getElem?_eq_some_iff.1 hh).1 (by omega)).trans hh, hr⟩
theorem OW.someD {w : World} {lo hi n c : Nat} {A : Option Addr} {xs : List Int} (h : OW w lo hi (.slice A n c) xs) (h0 : 0 < xs.length) : ∃ g, A = some ⟨g, 0, none⟩ ∧ lo ≤ g ∧ n = xs.length := by
  rcases h.1.2 with ⟨hv, h1⟩ | ⟨g, cap, cur, hv, hg, _⟩
  · omega
  · injection hv with h1 h2 h3
    exact ⟨g, h1, hg, h2⟩
theorem IS.dropD {w : World} {L B g : Nat} {xs : List Int} (h : IS w L B (some ⟨g, 0, none⟩) xs) : IS w L B (some ⟨g, 1, none⟩) (xs.drop 1) := fun h0 => by
  rw [List.length_drop] at h0
  obtain ⟨b, o, e, hb, hc⟩ := h (by omega)
  injection e with e; injection e with e1 e2
  subst e1; subst e2
  refine ⟨g, 1, rfl, hb, fun i hi => ?_⟩
  rw [List.length_drop] at hi
  rw [List.getElem_drop]
  have := hc (1 + i) (by omega)
  rwa [Nat.zero_add] at this
theorem OW.lenD {w : World} {lo hi n c : Nat} {A : Option Addr} {xs : List Int} (h : OW w lo hi (.slice A n c) xs) : n = xs.length := by
  obtain ⟨A2, c2, hv, _⟩ := h.form
  injection hv
theorem OW.atD {w : World} {lo hi n c g : Nat} {xs : List Int} (h : OW w lo hi (.slice (some ⟨g, 0, none⟩) n c) xs) (k : Nat) (hk : k < xs.length) : w.cell? ⟨g, k, none⟩ = some (.int .i64 (xs.getD k 0)) ∧ w.frozen? ⟨g, k, none⟩ = false := by
  have hl := h.lenD
  subst hl
  have hcell := h.1.cellAt k (by omega)
  have hfr := h.1.frozenAt k
  rw [List.getElem?_map, List.getElem?_eq_getElem hk] at hcell
  rw [List.getD_eq_getElem?_getD, List.getElem?_eq_getElem hk]
  exact ⟨by simpa using hcell, hfr⟩
theorem OW.putD {w : World} {lo hi n c g : Nat} {xs : List Int} (h : OW w lo hi (.slice (some ⟨g, 0, none⟩) n c) xs) (k : Nat) (x : Int) : OW (w.setCell ⟨g, k, none⟩ (.int .i64 x)) lo hi (.slice (some ⟨g, 0, none⟩) n c) (xs.set k x) := by
  have hl := h.lenD
  subst hl
  refine ⟨?_, h.2⟩
  have h1 := (h.1.stored k (.int .i64 x)).1
  rw [← List.map_set] at h1
  rw [List.length_set]; exact h1
def wordsW : List Int := [-1, 0, 6]
set_option maxHeartbeats 8000000 in
theorem regs_any (g K : Nat) (w : World) (hK : K ≤ 400000000) (hc : Cur w g K) :
    Calls Try.prog 155 #[.pointer (some ⟨g, 0, none⟩)] w (DrL w g (K + 40) 6) := by
  obtain ⟨i0, hi', hz0', hz1', hz2'⟩ := info_parts Try.infoInt
  have hI0 := Lib.hid hi'
  have hI1 := Lib.hid hz0'
  have hI2 := Lib.hid hz1'
  have hI3 := Lib.hid hz2'
  clear hi' hz0' hz1' hz2'
  have HW := Lib.hid fun (K : Nat) (W : World) (hK : K ≤ 800000000) (hc : Cur W g K) => word_any g K W hK hc
  have HP := Lib.hid fun (K : Nat) (n : Int) (W : World) (hK : K ≤ 900000000) (hn : n ≤ 10000) (hc : Cur W g K) => pick_any g K n W hK hn hc
  have hgw : Hid (g < w.heap.size) := hc.lt
  have hC0 := Lib.hid hc
  clear hc
  go_enter Try.func155, Try.ntmps155
  go_wp2
  go_loopw [3] (fun v wr => ∃ (xs : List Int), xs.length ≤ 6 ∧ OW wr w.heap.size wr.heap.size v xs ∧ Cur wr g (K + 4 * xs.length) ∧ Chg g (g + 1) w wr) (fun v _ => match v with | .slice _ n _ => 6 - n | _ => 0)
  case atStart => exact ⟨[], by simp, OW.nil _ _ _, hC0.out, Chg.refl _ _ _⟩
  case round =>
    clear hC0
    obtain ⟨xs, hxl, how, hcu, hch⟩ := hrel
    obtain ⟨VA, vc, rfl, _⟩ := how.form
    have hO := Lib.hid how
    have hC := Lib.hid hcu
    have hH := Lib.hid hch
    clear how hcu hch
    by_cases hlt : xs.length < 6
    · have hxi : (xs.length : Int) < 6 := by omega
      have H1 := Lib.hid (HW.out (K + 4 * xs.length) wr (by omega) hC.out)
      go_wp2_with (fail)
      refine H1.out.mono ?_
      rintro e w4 ⟨x, rfl, hx, hcu, hch⟩
      have hO2 : OW w4 w.heap.size w4.heap.size (.slice VA xs.length vc) xs := (hO.out.chgD hch (.inr (by have := hgw.out; omega))).more hch.size
      have hlo := Lib.hid hO2.lo
      have ho2 := Lib.hid (hO2.1.alloc (.cells #[.int .i64 x] 3))
      have hC2 := Lib.hid (hcu.below ((Below.refl w4.heap.size w4).alloc (Nat.le_refl _) (.cells #[.int .i64 x] 3)))
      have hH2 := Lib.hid ((hH.out.trans hch).alloc (.cells #[.int .i64 x] 3))
      have hzw := hH2.out.size
      clear hO2 hcu hch hO hC hH H1
      go_wp2_with (at_builtin; go_loud (refine wpList_append_own _ rfl _ _ 27 rfl w.heap.size 3 i0 (.int .i64 0) 1 8 Try.underlying27 hI0.out hI1.out hI2.out hI3.out rfl (by decide) _ _ _ rfl ho2.out ⟨w4.heap.size, 0, none⟩ 1 1 [.int .i64 x] rfl rfl (new1 rfl) (one1 _) (by unfold maxLen; omega) (by omega) hzw ?_); intro v' w7 hown7 hgr7 _)
      have hX7 := Lib.hid (show OW w7 w.heap.size w7.heap.size v' (xs ++ [x]) from OW.push (by simpa using hown7))
      have hC7 := Lib.hid (hC2.out.grownD hgr7 (fun q hq => by have := (hlo.out q hq).1; have := hgw.out; omega))
      have hH7 := Lib.hid (hH2.out.grownD hgr7 (fun q hq => (hlo.out q hq).1))
      clear hown7 hgr7
      obtain ⟨VA', vc', rfl, _⟩ := hX7.out.form
      go_wp2
      go_roundw
      case rel => exact ⟨_, by simp; omega, hX7.out, by rw [List.length_append, List.length_singleton]; exact hC7.out.more (by omega), hH7.out⟩
      case measure => simp; omega
    · have hx6 : xs.length = 6 := by omega
      have h6 := Lib.hid hx6
      have hxi : ¬ (xs.length : Int) < 6 := by omega
      clear hlt hx6 hxl
      have H1 := Lib.hid (HP.out (K + 4 * xs.length) 16 wr (by have := h6.out; omega) (by omega) hC.out)
      go_wp2_with (fail)
      refine H1.out.mono ?_
      rintro e w4 ⟨p, rfl, hp, hcu, hch⟩
      have hO4 := Lib.hid (show OW w4 w.heap.size w4.heap.size (.slice VA xs.length vc) xs from (hO.out.chgD hch (.inr (by have := hgw.out; omega))).more hch.size)
      have hC4 := Lib.hid hcu
      have hH4 := Lib.hid (hH.out.trans hch)
      clear hcu hch hO hC hH H1
      by_cases q0 : p = 0
      · subst q0
        have H2 := Lib.hid (HP.out (K + 4 * xs.length + 2) (xs.length : Int) w4 (by have := h6.out; omega) (by have := h6.out; omega) hC4.out)
        go_wp2_with (fail)
        refine H2.out.mono ?_
        rintro e w5 ⟨y, rfl, hy, hcu, hch⟩
        have hO5 := (show OW w5 w.heap.size w5.heap.size (.slice VA xs.length vc) xs from (hO4.out.chgD hch (.inr (by have := hgw.out; omega))).more hch.size)
        have al := (Below.refl w5.heap.size w5).alloc (Nat.le_refl _) (.cells (intCells words3) 3)
        have hIS := lit_is w5 words3
        have hM := Lib.hid (among_any g (K + 4 * xs.length + 4) w5.heap.size (w5.heap.size + 1) (some ⟨w5.heap.size, 0, none⟩) 3 3 words3 _ rfl (by have := h6.out; omega) (hcu.below al) (by decide) (by decide) hIS hcu.lt (by simp))
        have hO6 := Lib.hid (show OW (w5.alloc (.cells (intCells words3) 3)) w.heap.size (w5.alloc (.cells (intCells words3) 3)).heap.size (.slice VA xs.length vc) xs from (hO5.below al (Nat.le_refl _)).more al.size)
        have hH6 := Lib.hid ((hH4.out.trans hch).alloc (.cells (intCells words3) 3))
        have hy6 : 0 ≤ y ∧ y < (xs.length : Int) := by have := h6.out; omega
        clear hO5 al hIS hcu hch hO4 hC4 hH4 H2 hy
        go_wp2_with (fail)
        refine hM.out.mono ?_
        rintro e w6 ⟨v, rfl, _, hcu, hch⟩
        have hO7 : OW w6 w.heap.size w6.heap.size (.slice VA xs.length vc) xs := (hO6.out.chgD hch (.inr (by have := hgw.out; omega))).more hch.size
        obtain ⟨ga, rfl, hga, _⟩ := OW.someD hO7 (by have := h6.out; omega)
        obtain ⟨yn, rfl⟩ := Int.eq_ofNat_of_zero_le hy6.1
        have hyn : yn < xs.length := by omega
        have hyi : (yn : Int) < (xs.length : Int) := by omega
        have hy0 : (0 : Int) ≤ (yn : Int) := by omega
        obtain ⟨oz, fz⟩ := hO7.atD yn hyn
        have hP := hO7.putD yn v
        have hRs := Lib.hid (OW.rs (show OW (w6.setCell ⟨ga, yn, none⟩ (.int .i64 v)) w.heap.size (w6.setCell ⟨ga, yn, none⟩ (.int .i64 v)).heap.size (.slice (some ⟨ga, 0, none⟩) xs.length vc) (xs.set yn v) from by rw [World.size_setCell]; exact hP))
        have hgg := hgw.out
        have hC7 := Lib.hid (hcu.far (p := ⟨ga, yn, none⟩) (by show g < ga; omega) (.int .i64 v))
        have hH7 := Lib.hid ((hH6.out.trans hch).newD (p := ⟨ga, yn, none⟩) hga (.int .i64 v))
        clear hP hO7 hcu hch hM hO6 hH6 hgg
        go_wp2
        go_ret
        exact ⟨xs.set yn v, _, vc, by rw [List.length_set]; rfl, by rw [List.length_set]; have := h6.out; omega, hRs.out, hC7.out.more (by have := h6.out; omega), hH7.out⟩
      by_cases q1 : p = 1
      · subst q1
        obtain ⟨ga, rfl, hga, _⟩ := OW.someD hO4.out (by have := h6.out; omega)
        have hcap : xs.length ≤ vc := by
          rcases hO4.out.1.2 with ⟨h0, _⟩ | ⟨g', cap, cur, e, _, _, h1, h2, _⟩
          · cases h0
          · injection e with _ _ e3; omega
        have hIs := Lib.hid (IS.dropD (OW.rs hO4.out))
        have hC7 := Lib.hid (hC4.out.more (show K + 4 * xs.length + 2 ≤ K + 40 by have := h6.out; omega))
        have h1i : (1 : Int) ≤ (xs.length : Int) := by have := h6.out; omega
        have h1n : 1 ≤ xs.length := by omega
        have h1c : (1 : Int) ≤ (vc : Int) := by omega
        have h1d : 1 < vc := by have := h6.out; omega
        have h1e : (1 : Int) < (vc : Int) := by omega
        have hdl : Hid ((xs.drop 1).length = xs.length - 1) := List.length_drop
        clear q0 hO4 hC4
        go_wp2
        go_ret
        exact ⟨xs.drop 1, _, _, by rw [hdl.out]; rfl, by rw [hdl.out]; have := h6.out; omega, hIs.out, hC7.out, hH4.out⟩
      have q0' := Lib.hid q0
      have q1' := Lib.hid q1
      have e0 : (p == 0) = false := by have := q0'.out; simpa using this
      have e1 : (p == 1) = false := by have := q1'.out; simpa using this
      clear q0 q1
      have hRs := Lib.hid (OW.rs hO4.out)
      go_wp2
      go_ret
      exact ⟨xs, VA, vc, rfl, by have := h6.out; omega, hRs.out, hC4.out.more (by have := h6.out; omega), hH4.out⟩

set_option maxHeartbeats 8000000 in
theorem wanted_any (g K : Nat) (w : World) (hK : K ≤ 400000000) (hc : Cur w g K) :
    Calls Try.prog 243 #[.pointer (some ⟨g, 0, none⟩)] w (DrL w g (K + 20) 4) := by
  obtain ⟨i0, hi', hz0', hz1', hz2'⟩ := info_parts Try.infoInt
  have hI0 := Lib.hid hi'
  have hI1 := Lib.hid hz0'
  have hI2 := Lib.hid hz1'
  have hI3 := Lib.hid hz2'
  clear hi' hz0' hz1' hz2'
  have HP := Lib.hid fun (K : Nat) (n : Int) (W : World) (hK : K ≤ 900000000) (hn : n ≤ 10000) (hc : Cur W g K) => pick_any g K n W hK hn hc
  have HO := Lib.hid fun (K : Nat) (n : Int) (W : World) (hK : K ≤ 900000000) (hn : n ≤ 10000) (hc : Cur W g K) => one_any g K n W hK hn hc
  have hgw : Hid (g < w.heap.size) := hc.lt
  have hC0 := Lib.hid hc
  clear hc
  go_enter Try.func243, Try.ntmps243
  go_wp2_with (fail)
  refine (HP.out K 4 w (by omega) (by omega) hC0.out).mono ?_
  rintro e w1 ⟨x, rfl, hx, hcu, hch⟩
  obtain ⟨n, rfl⟩ := Int.eq_ofNat_of_zero_le hx.1
  have hn : n ≤ 3 := by omega
  have hC1 := Lib.hid hcu
  have hH1 := Lib.hid hch
  clear hcu hch hx hC0
  go_wp2
  go_loopw [3, 4] (fun v q wr => ∃ (k : Nat) (xs : List Int), q = .int .i64 k ∧ k ≤ n ∧ xs.length + k ≤ n ∧ OW wr w.heap.size wr.heap.size v xs ∧ Cur wr g (K + 2 + 2 * (n - k)) ∧ Chg g (g + 1) w wr) (fun _ q _ => (intOf q).toNat)
  case atStart => exact ⟨n, [], rfl, Nat.le_refl _, by simp, OW.nil _ _ _, by rw [Nat.sub_self]; exact hC1.out, hH1.out⟩
  case round =>
    clear hC1 hH1
    obtain ⟨k, xs, rfl, hkn, hxk, how, hcu, hch⟩ := hrel
    obtain ⟨VA, vc, rfl, _⟩ := how.form
    have hO := Lib.hid how
    have hC := Lib.hid hcu
    have hH := Lib.hid hch
    clear how hcu hch
    have hxl : xs.length ≤ 3 := by omega
    rcases Nat.eq_zero_or_pos k with rfl | hpos
    · have H1 := Lib.hid (HO.out (K + 2 + 2 * (n - 0)) 14 wr (by omega) (by omega) hC.out)
      go_wp2_with (fail)
      refine H1.out.mono ?_
      rintro e w4 ⟨b, rfl, hcu, hch⟩
      have hO4 := Lib.hid (show OW w4 w.heap.size w4.heap.size (.slice VA xs.length vc) xs from (hO.out.chgD hch (.inr (by have := hgw.out; omega))).more hch.size)
      have hC4 := Lib.hid (hcu.more (show K + 2 + 2 * (n - 0) + 2 ≤ K + 10 by omega))
      have hH4 := Lib.hid (hH.out.trans hch)
      clear hcu hch hO hC hH H1
      cases b
      · have hRs := Lib.hid (OW.rs hO4.out)
        go_wp2
        go_ret
        exact ⟨xs, VA, vc, rfl, by omega, hRs.out, hC4.out.more (by omega), hH4.out⟩
      · have al := (Below.refl w4.heap.size w4).alloc (Nat.le_refl _) (.cells (intCells wordsW) 3)
        have hIS := lit_is w4 wordsW
        have hM := Lib.hid (among_any g (K + 10) w4.heap.size (w4.heap.size + 1) (some ⟨w4.heap.size, 0, none⟩) 3 3 wordsW _ rfl (by omega) (hC4.out.below al) (by decide) (by decide) hIS hC4.out.lt (by simp))
        have hO6 := Lib.hid (show OW (w4.alloc (.cells (intCells wordsW) 3)) w.heap.size (w4.alloc (.cells (intCells wordsW) 3)).heap.size (.slice VA xs.length vc) xs from (hO4.out.below al (Nat.le_refl _)).more al.size)
        have hH6 := Lib.hid (hH4.out.alloc (.cells (intCells wordsW) 3))
        clear al hIS hO4 hC4 hH4
        go_wp2_with (fail)
        refine hM.out.mono ?_
        rintro e w6 ⟨v, rfl, _, hcu, hch⟩
        have hO2 : OW w6 w.heap.size w6.heap.size (.slice VA xs.length vc) xs := (hO6.out.chgD hch (.inr (by have := hgw.out; omega))).more hch.size
        have hlo := Lib.hid hO2.lo
        have ho2 := Lib.hid (hO2.1.alloc (.cells #[.int .i64 v] 3))
        have hC2 := Lib.hid (hcu.below ((Below.refl w6.heap.size w6).alloc (Nat.le_refl _) (.cells #[.int .i64 v] 3)))
        have hH2 := Lib.hid ((hH6.out.trans hch).alloc (.cells #[.int .i64 v] 3))
        have hzw := hH2.out.size
        clear hO2 hcu hch hO6 hH6 hM
        go_wp2_with (at_builtin; go_loud (refine wpList_append_own _ rfl _ _ 27 rfl w.heap.size 3 i0 (.int .i64 0) 1 8 Try.underlying27 hI0.out hI1.out hI2.out hI3.out rfl (by decide) _ _ _ rfl ho2.out ⟨w6.heap.size, 0, none⟩ 1 1 [.int .i64 v] rfl rfl (new1 rfl) (one1 _) (by unfold maxLen; omega) (by omega) hzw ?_); intro v' w7 hown7 hgr7 _)
        have hX7 := Lib.hid (show OW w7 w.heap.size w7.heap.size v' (xs ++ [v]) from OW.push (by simpa using hown7))
        have hC7 := Lib.hid (hC2.out.grownD hgr7 (fun q hq => by have := (hlo.out q hq).1; have := hgw.out; omega))
        have hH7 := Lib.hid (hH2.out.grownD hgr7 (fun q hq => (hlo.out q hq).1))
        clear hown7 hgr7
        obtain ⟨VA', vc', rfl, _⟩ := hX7.out.form
        have hRs := Lib.hid (OW.rs hX7.out)
        go_wp2
        go_ret
        exact ⟨_, VA', vc', rfl, by simp; omega, hRs.out, hC7.out.more (by omega), hH7.out⟩
    · obtain ⟨p, rfl⟩ : ∃ p, k = p + 1 := ⟨k - 1, by omega⟩
      have hp1 : (0 : Int) < ((p + 1 : Nat) : Int) := by omega
      have hpb : p ≤ 3 := by omega
      have hw9 : IntKind.i64.wrap (((p + 1 : Nat) : Int) - 1) = (p : Int) := by rw [IntWalk.i64_in _ (by omega)]; omega
      have H1 := Lib.hid (HP.out (K + 2 + 2 * (n - (p + 1))) 6 wr (by omega) (by omega) hC.out)
      have hkn9 := Lib.hid hkn
      have hxk9 := Lib.hid hxk
      clear hkn hxk
      go_wp2_with (fail)
      refine H1.out.mono ?_
      rintro e w4 ⟨y, rfl, hy, hcu, hch⟩
      have hO4 := (show OW w4 w.heap.size w4.heap.size (.slice VA xs.length vc) xs from (hO.out.chgD hch (.inr (by have := hgw.out; omega))).more hch.size)
      have hL := Lib.hid (l1Put_any w.heap.size w4.heap.size VA xs.length vc xs y w4 rfl (by omega) hO4 (by have := hH.out.size; have := hch.size; omega) (Nat.le_refl _))
      have hC4 := Lib.hid hcu
      have hH4 := Lib.hid (hH.out.trans hch)
      have hpl := Lib.hid (put_len xs y)
      clear hcu hch hO hC hH H1 hO4
      go_wp2_with (fail)
      refine hL.out.mono ?_
      rintro e w5 ⟨A5, c5, rfl, how, hbe⟩
      have hO5 := Lib.hid how
      have hC5 := Lib.hid (hC4.out.below hbe)
      have hH5 := Lib.hid (hH4.out.trans (Chg.ofBelow hbe))
      clear how hbe hL hC4 hH4
      go_wp2
      go_roundw
      case rel => exact ⟨p, _, by go_num, by have := hkn9.out; omega, by have := hpl.out; have := hxk9.out; omega, hO5.out, by have := hkn9.out; exact hC5.out.more (by omega), hH5.out⟩
      case measure => simp [intOf] <;> omega
end Go.Proofs.Ytmhdijklindipaa

/- What the laws of chapter 2 draw. -/
namespace Go.Proofs.Ytmhdijklindipaa
open Go.RowKit
set_option linter.unusedVariables false
set_option maxRecDepth 100000

def GotC (w w' : World) (v : Value) (N : Nat) (xs : List In) : Prop := ∃ (A : Option Addr) (c : Nat), v = .slice A xs.length c ∧ xs.length ≤ N ∧ xs.length ≤ c ∧ (∀ x ∈ xs, x.op.size ≤ 100) ∧ RS In.enc 5 w' w.heap.size w'.heap.size A xs
def GotI (w w' : World) (v : Value) (N : Nat) (xs : List Int) : Prop := ∃ (A : Option Addr) (c : Nat), v = .slice A xs.length c ∧ xs.length ≤ N ∧ IS w' w.heap.size w'.heap.size A xs
theorem OK.rsD {t : TypeId} {w : World} {lo hi n c : Nat} {A : Option Addr} {xs : List In} (h : OK In.enc 5 t w lo hi (.slice A n c) xs) : RS In.enc 5 w lo hi A xs := by
  obtain ⟨A', c', e, hr⟩ := OK.form In.hk h
  injection e with e1 e2 e3
  subst e1; exact hr
/-- The state of a drawing: w as it was, the cursor in g, what is drawn from L on. -/
structure Dd (w : World) (L g K : Nat) (W : World) : Prop where
  cur : Cur W g K
  be : Below w.heap.size w W
  sz : L ≤ W.heap.size
  gl : g + 1 ≤ L
  wg : w.heap.size ≤ g
theorem Dd.step {w W W' : World} {L g K K' : Nat} (h : Dd w L g K W) (hc : Cur W' g K') (hch : Chg g (g + 1) W W') : Dd w L g K' W' :=
  ⟨hc, below_chg h.be hch h.be.size h.wg, Nat.le_trans h.sz hch.size, h.gl, h.wg⟩
theorem Dd.far {w W : World} {L g K : Nat} (h : Dd w L g K W) {p : Addr} (hp : g < p.block) (u : Value) : Dd w L g K (W.setCell p u) :=
  ⟨h.cur.far hp u, h.be.setCell (by have := h.wg; omega) u, by rw [World.size_setCell]; exact h.sz, h.gl, h.wg⟩
theorem RS.stepD {w W W' : World} {L g K : Nat} {A : Option Addr} {xs : List In} (h : RS In.enc 5 W L W.heap.size A xs) (hd : Dd w L g K W) (hch : Chg g (g + 1) W W') : RS In.enc 5 W' L W'.heap.size A xs :=
  (h.chg hch (Nat.le_refl _) (.inr hd.gl)).more (Nat.le_refl _) hch.size
theorem IS.stepD {w W W' : World} {L g K : Nat} {A : Option Addr} {xs : List Int} (h : IS W L W.heap.size A xs) (hd : Dd w L g K W) (hch : Chg g (g + 1) W W') : IS W' L W'.heap.size A xs :=
  (h.chg hch (Nat.le_refl _) (.inr hd.gl)).more (Nat.le_refl _) hch.size
theorem Dd.low {w W : World} {L g K : Nat} (h : Dd w L g K W) : w.heap.size ≤ L := by have := h.gl; have := h.wg; omega
theorem cur_start (w : World) (A : Option Addr) (c : Nat) (bs : List Int) (hl : bs.length ≤ 1048576) (ha : ∀ x ∈ bs, 0 ≤ x ∧ x ≤ 255) (hy : BY w w.heap.size A bs) : Cur (w.alloc (.cells #[.slice A bs.length c, .int .i64 0, .int .u64 0] 101)) w.heap.size 0 :=
  Cur.start (sd := 0) (heap_alloc_new w _) hl ha (hy.keep fun j hj => Below.heap_alloc _ _ _ hj)
theorem dd_start (w : World) (A : Option Addr) (c : Nat) (bs : List Int) (hl : bs.length ≤ 1048576) (ha : ∀ x ∈ bs, 0 ≤ x ∧ x ≤ 255) (hy : BY w w.heap.size A bs) : Dd w (w.heap.size + 1) w.heap.size 0 (w.alloc (.cells #[.slice A bs.length c, .int .i64 0, .int .u64 0] 101)) :=
  ⟨cur_start w A c bs hl ha hy, (Below.refl _ _).alloc (Nat.le_refl _) _, by simp, Nat.le_refl _, Nat.le_refl _⟩
theorem dd_start1 (w : World) (o : Obj) (A : Option Addr) (c : Nat) (bs : List Int) (hl : bs.length ≤ 1048576) (ha : ∀ x ∈ bs, 0 ≤ x ∧ x ≤ 255) (hy : BY w w.heap.size A bs) : Dd w (w.heap.size + 1 + 1) (w.heap.size + 1) 0 ((w.alloc o).alloc (.cells #[.slice A bs.length c, .int .i64 0, .int .u64 0] 101)) := by
  have b1 := (Below.refl w.heap.size w).alloc (Nat.le_refl _) o
  have e1 : (w.alloc o).heap.size = w.heap.size + 1 := World.size_alloc _ _
  have h := cur_start (w.alloc o) A c bs hl ha ((hy.keep fun j hj => b1.block j hj).more (by omega))
  rw [e1] at h
  exact ⟨h, b1.alloc (by omega) _, by rw [World.size_alloc, e1]; exact Nat.le_refl _, Nat.le_refl _, by omega⟩
theorem dd_start2 (w : World) (o o' : Obj) (A : Option Addr) (c : Nat) (bs : List Int) (hl : bs.length ≤ 1048576) (ha : ∀ x ∈ bs, 0 ≤ x ∧ x ≤ 255) (hy : BY w w.heap.size A bs) : Dd w (w.heap.size + 1 + 1 + 1) (w.heap.size + 1 + 1) 0 (((w.alloc o).alloc o').alloc (.cells #[.slice A bs.length c, .int .i64 0, .int .u64 0] 101)) := by
  have b1 := ((Below.refl w.heap.size w).alloc (Nat.le_refl _) o).alloc (by simp) o'
  have e1 : ((w.alloc o).alloc o').heap.size = w.heap.size + 1 + 1 := by rw [World.size_alloc, World.size_alloc]
  have h := cur_start ((w.alloc o).alloc o') A c bs hl ha ((hy.keep fun j hj => b1.block j hj).more (by omega))
  rw [e1] at h
  exact ⟨h, b1.alloc (by omega) _, by rw [World.size_alloc, e1]; exact Nat.le_refl _, Nat.le_refl _, by omega⟩

set_option maxHeartbeats 4000000 in
theorem DrawJoinCode_d (A : Option Addr) (c : Nat) (bs : List Int) (w : World) (hl : bs.length ≤ 1048576) (ha : ∀ x ∈ bs, 0 ≤ x ∧ x ≤ 255) (hy : BY w w.heap.size A bs) :
    Calls Try.prog 27 #[.slice A bs.length c] w fun e w' => ∃ (v1 v2 : Value) (xs ys : List In), e = .returned (.tuple #[v1, v2]) ∧ GotC w w' v1 41 xs ∧ GotC w w' v2 41 ys ∧ Below w.heap.size w w' := by
  have d0 := Lib.hid (dd_start w A c bs hl ha hy)
  clear hy
  go_enter Try.func27, Try.ntmps27
  have H := Lib.hid (anyCode_any w.heap.size 0 9 (w.alloc (.cells #[.slice A bs.length c, .int .i64 0, .int .u64 0] 101)) (by omega) (by omega) d0.out.cur)
  rw [show ((9 : Nat) : Int) = 9 from rfl] at H
  go_wp2_with (fail)
  refine H.out.mono ?_
  rintro e w1 ⟨xs0, A0, c0, rfl, hn0, hcap0', hsz', hok, hcu, hch⟩
  have d1 := Lib.hid (d0.out.step hcu hch)
  have hcap0 := Lib.hid hcap0'
  have hsz0 := Lib.hid hsz'
  have r0 := Lib.hid ((OK.rsD hok).more d0.out.sz (Nat.le_refl _))
  clear hcap0' hsz' hok
  clear hcu hch H d0
  have H := Lib.hid (anyCode_any w.heap.size 1200 9 w1 (by omega) (by omega) d1.out.cur)
  rw [show ((9 : Nat) : Int) = 9 from rfl] at H
  go_wp2_with (fail)
  refine H.out.mono ?_
  rintro e w2 ⟨xs1, A1, c1, rfl, hn1, hcap1', hsz', hok, hcu, hch⟩
  have r0 := Lib.hid (r0.out.stepD d1.out hch)
  have d2 := Lib.hid (d1.out.step hcu hch)
  have hcap1 := Lib.hid hcap1'
  have hsz1 := Lib.hid hsz'
  have r1 := Lib.hid ((OK.rsD hok).more d1.out.sz (Nat.le_refl _))
  clear hcap1' hsz' hok
  clear hcu hch H d1
  go_wp2
  go_ret2
  exact ⟨_, _, xs0, xs1, rfl, ⟨A0, c0, rfl, hn0, hcap0.out, hsz0.out, r0.out.more d2.out.low (Nat.le_refl _)⟩, ⟨A1, c1, rfl, hn1, hcap1.out, hsz1.out, r1.out.more d2.out.low (Nat.le_refl _)⟩, d2.out.be⟩
set_option maxHeartbeats 4000000 in
theorem DrawRunCode_d (A : Option Addr) (c : Nat) (bs : List Int) (w : World) (hl : bs.length ≤ 1048576) (ha : ∀ x ∈ bs, 0 ≤ x ∧ x ≤ 255) (hy : BY w w.heap.size A bs) :
    Calls Try.prog 137 #[.slice A bs.length c] w fun e w' => ∃ (v1 v2 : Value) (xs : List In) (ys : List Int), e = .returned (.tuple #[v1, v2]) ∧ GotC w w' v1 41 xs ∧ GotI w w' v2 6 ys ∧ Below w.heap.size w w' := by
  have d0 := Lib.hid (dd_start w A c bs hl ha hy)
  clear hy
  go_enter Try.func137, Try.ntmps137
  have H := Lib.hid (anyCode_any w.heap.size 0 9 (w.alloc (.cells #[.slice A bs.length c, .int .i64 0, .int .u64 0] 101)) (by omega) (by omega) d0.out.cur)
  rw [show ((9 : Nat) : Int) = 9 from rfl] at H
  go_wp2_with (fail)
  refine H.out.mono ?_
  rintro e w1 ⟨xs0, A0, c0, rfl, hn0, hcap0', hsz', hok, hcu, hch⟩
  have d1 := Lib.hid (d0.out.step hcu hch)
  have hcap0 := Lib.hid hcap0'
  have hsz0 := Lib.hid hsz'
  have r0 := Lib.hid ((OK.rsD hok).more d0.out.sz (Nat.le_refl _))
  clear hcap0' hsz' hok
  clear hcu hch H d0
  have H := Lib.hid (regs_any w.heap.size 1200 w1 (by omega) d1.out.cur)
  go_wp2_with (fail)
  refine H.out.mono ?_
  rintro e w2 ⟨xs1, A1, c1, rfl, hn1, his, hcu, hch⟩
  have r0 := Lib.hid (r0.out.stepD d1.out hch)
  have d2 := Lib.hid (d1.out.step hcu hch)
  have r1 := Lib.hid (his.more d1.out.sz (Nat.le_refl _))
  clear his
  clear hcu hch H d1
  go_wp2
  go_ret2
  exact ⟨_, _, xs0, xs1, rfl, ⟨A0, c0, rfl, hn0, hcap0.out, hsz0.out, r0.out.more d2.out.low (Nat.le_refl _)⟩, ⟨A1, c1, rfl, hn1, r1.out.more d2.out.low (Nat.le_refl _)⟩, d2.out.be⟩
set_option maxHeartbeats 4000000 in
theorem DrawLiveBefore_d (A : Option Addr) (c : Nat) (bs : List Int) (w : World) (hl : bs.length ≤ 1048576) (ha : ∀ x ∈ bs, 0 ≤ x ∧ x ≤ 255) (hy : BY w w.heap.size A bs) :
    Calls Try.prog 172 #[.slice A bs.length c] w fun e w' => ∃ (v1 v2 : Value) (xs : List In) (ys : List Int), e = .returned (.tuple #[v1, v2]) ∧ GotC w w' v1 41 xs ∧ GotI w w' v2 6 ys ∧ Below w.heap.size w w' := by
  have d0 := Lib.hid (dd_start w A c bs hl ha hy)
  clear hy
  go_enter Try.func172, Try.ntmps172
  have H := Lib.hid (anyCode_any w.heap.size 0 9 (w.alloc (.cells #[.slice A bs.length c, .int .i64 0, .int .u64 0] 101)) (by omega) (by omega) d0.out.cur)
  rw [show ((9 : Nat) : Int) = 9 from rfl] at H
  go_wp2_with (fail)
  refine H.out.mono ?_
  rintro e w1 ⟨xs0, A0, c0, rfl, hn0, hcap0', hsz', hok, hcu, hch⟩
  have d1 := Lib.hid (d0.out.step hcu hch)
  have hcap0 := Lib.hid hcap0'
  have hsz0 := Lib.hid hsz'
  have r0 := Lib.hid ((OK.rsD hok).more d0.out.sz (Nat.le_refl _))
  clear hcap0' hsz' hok
  clear hcu hch H d0
  have H := Lib.hid (wanted_any w.heap.size 1200 w1 (by omega) d1.out.cur)
  go_wp2_with (fail)
  refine H.out.mono ?_
  rintro e w2 ⟨xs1, A1, c1, rfl, hn1, his, hcu, hch⟩
  have r0 := Lib.hid (r0.out.stepD d1.out hch)
  have d2 := Lib.hid (d1.out.step hcu hch)
  have r1 := Lib.hid (his.more d1.out.sz (Nat.le_refl _))
  clear his
  clear hcu hch H d1
  have hn1 : xs1.length ≤ 6 := by omega
  go_wp2
  go_ret2
  exact ⟨_, _, xs0, xs1, rfl, ⟨A0, c0, rfl, hn0, hcap0.out, hsz0.out, r0.out.more d2.out.low (Nat.le_refl _)⟩, ⟨A1, c1, rfl, hn1, r1.out.more d2.out.low (Nat.le_refl _)⟩, d2.out.be⟩
set_option maxHeartbeats 4000000 in
theorem DrawTraceOf_d (A : Option Addr) (c : Nat) (bs : List Int) (w : World) (hl : bs.length ≤ 1048576) (ha : ∀ x ∈ bs, 0 ≤ x ∧ x ≤ 255) (hy : BY w w.heap.size A bs) :
    Calls Try.prog 31 #[.slice A bs.length c] w fun e w' => ∃ (v1 v2 : Value) (xs : List In) (ys : List Int), e = .returned (.tuple #[v1, v2]) ∧ GotC w w' v1 41 xs ∧ GotI w w' v2 6 ys ∧ Below w.heap.size w w' := by
  have H := Lib.hid (DrawRunCode_d A c bs w hl ha hy)
  clear hy
  go_enter Try.func31, Try.ntmps31
  go_wp2_with (fail)
  refine H.out.mono ?_
  rintro e w1 ⟨v1, v2, xs, ys, rfl, h1, h2, h3⟩
  have g1 := Lib.hid h1
  have g2 := Lib.hid h2
  have g3 := Lib.hid h3
  clear h1 h2 h3 H
  go_wp2
  go_ret2
  exact ⟨v1, v2, xs, ys, rfl, g1.out, g2.out, g3.out⟩
set_option maxHeartbeats 4000000 in
theorem DrawDropDead_d (A : Option Addr) (c : Nat) (bs : List Int) (w : World) (hl : bs.length ≤ 1048576) (ha : ∀ x ∈ bs, 0 ≤ x ∧ x ≤ 255) (hy : BY w w.heap.size A bs) :
    Calls Try.prog 60 #[.slice A bs.length c] w fun e w' => ∃ (v1 v2 : Value) (xs : List In) (ys : List Int), e = .returned (.tuple #[v1, v2]) ∧ GotC w w' v1 41 xs ∧ GotI w w' v2 6 ys ∧ Below w.heap.size w w' := by
  have H := Lib.hid (DrawLiveBefore_d A c bs w hl ha hy)
  clear hy
  go_enter Try.func60, Try.ntmps60
  go_wp2_with (fail)
  refine H.out.mono ?_
  rintro e w1 ⟨v1, v2, xs, ys, rfl, h1, h2, h3⟩
  have g1 := Lib.hid h1
  have g2 := Lib.hid h2
  have g3 := Lib.hid h3
  clear h1 h2 h3 H
  go_wp2
  go_ret2
  exact ⟨v1, v2, xs, ys, rfl, g1.out, g2.out, g3.out⟩
set_option maxHeartbeats 4000000 in
theorem DrawResultOf_d (A : Option Addr) (c : Nat) (bs : List Int) (w : World) (hl : bs.length ≤ 1048576) (ha : ∀ x ∈ bs, 0 ≤ x ∧ x ≤ 255) (hy : BY w w.heap.size A bs) :
    Calls Try.prog 38 #[.slice A bs.length c] w fun e w' => ∃ (v1 : Value) (xs : List In) (x0 x1 r : Int), e = .returned (.tuple #[v1, .int .i64 x0, .int .i64 x1, .int .i64 r]) ∧ GotC w w' v1 41 xs ∧ Below w.heap.size w w' := by
  have d0 := Lib.hid (dd_start w A c bs hl ha hy)
  clear hy
  go_enter Try.func38, Try.ntmps38
  have H := Lib.hid (anyCode_any w.heap.size 0 9 (w.alloc (.cells #[.slice A bs.length c, .int .i64 0, .int .u64 0] 101)) (by omega) (by omega) d0.out.cur)
  rw [show ((9 : Nat) : Int) = 9 from rfl] at H
  go_wp2_with (fail)
  refine H.out.mono ?_
  rintro e w1 ⟨xs0, A0, c0, rfl, hn0, hcap0', hsz', hok, hcu, hch⟩
  have d1 := Lib.hid (d0.out.step hcu hch)
  have hcap0 := Lib.hid hcap0'
  have hsz0 := Lib.hid hsz'
  have r0 := Lib.hid ((OK.rsD hok).more d0.out.sz (Nat.le_refl _))
  clear hcap0' hsz' hok
  clear hcu hch H d0
  have H := Lib.hid (anyWord_any w.heap.size 1200 w1 (by omega) d1.out.cur)
  go_wp2_with (fail)
  refine H.out.mono ?_
  rintro e w2 ⟨x1, rfl, hx1, hcu, hch⟩
  have r0 := Lib.hid (r0.out.stepD d1.out hch)
  have d2 := Lib.hid (d1.out.step hcu hch)
  clear hcu hch H d1
  have H := Lib.hid (anyWord_any w.heap.size 1206 w2 (by omega) d2.out.cur)
  go_wp2_with (fail)
  refine H.out.mono ?_
  rintro e w3 ⟨x2, rfl, hx2, hcu, hch⟩
  have r0 := Lib.hid (r0.out.stepD d2.out hch)
  have d3 := Lib.hid (d2.out.step hcu hch)
  clear hcu hch H d2
  have H := Lib.hid (pick_any w.heap.size 1212 (8) w3 (by omega) (by omega) d3.out.cur)
  go_wp2_with (fail)
  refine H.out.mono ?_
  rintro e w4 ⟨x3, rfl, hx3, hcu, hch⟩
  have r0 := Lib.hid (r0.out.stepD d3.out hch)
  have d4 := Lib.hid (d3.out.step hcu hch)
  clear hcu hch H d3
  have H := Lib.hid (pick_any w.heap.size 1214 (9) w4 (by omega) (by omega) d4.out.cur)
  go_wp2_with (fail)
  refine H.out.mono ?_
  rintro e w5 ⟨x4, rfl, hx4, hcu, hch⟩
  have r0 := Lib.hid (r0.out.stepD d4.out hch)
  have d5 := Lib.hid (d4.out.step hcu hch)
  clear hcu hch H d4
  have hq : Hid (∃ q : Int, x4 / 8 = q) := ⟨_, rfl⟩
  go_wp2
  exact bodyPost_ret (v := .tuple #[.slice A0 xs0.length c0, .int .i64 x1, .int .i64 x2, .int .i64 (x3 - x4 / 8)]) (by simp [results, Try.results38, go_sem]) rfl ⟨_, xs0, x1, x2, _, rfl, ⟨A0, c0, rfl, hn0, hcap0.out, hsz0.out, r0.out.more d5.out.low (Nat.le_refl _)⟩, d5.out.be⟩
set_option maxHeartbeats 4000000 in
theorem DrawSwapNeighbours_d (A : Option Addr) (c : Nat) (bs : List Int) (w : World) (hl : bs.length ≤ 1048576) (ha : ∀ x ∈ bs, 0 ≤ x ∧ x ≤ 255) (hy : BY w w.heap.size A bs) :
    Calls Try.prog 54 #[.slice A bs.length c] w fun e w' => ∃ (v1 : Value) (xs : List In) (i : Int), e = .returned (.tuple #[v1, .int .i64 i]) ∧ GotC w w' v1 41 xs ∧ Below w.heap.size w w' := by
  have d0 := Lib.hid (dd_start w A c bs hl ha hy)
  clear hy
  go_enter Try.func54, Try.ntmps54
  have H := Lib.hid (anyCode_any w.heap.size 0 9 (w.alloc (.cells #[.slice A bs.length c, .int .i64 0, .int .u64 0] 101)) (by omega) (by omega) d0.out.cur)
  rw [show ((9 : Nat) : Int) = 9 from rfl] at H
  go_wp2_with (fail)
  refine H.out.mono ?_
  rintro e w1 ⟨xs0, A0, c0, rfl, hn0, hcap0', hsz', hok, hcu, hch⟩
  have d1 := Lib.hid (d0.out.step hcu hch)
  have hcap0 := Lib.hid hcap0'
  have hsz0 := Lib.hid hsz'
  have r0 := Lib.hid ((OK.rsD hok).more d0.out.sz (Nat.le_refl _))
  clear hcap0' hsz' hok
  clear hcu hch H d0
  have hwp : IntKind.i64.wrap ((xs0.length : Int) + 1) = (xs0.length : Int) + 1 := IntWalk.i64_in _ (by omega)
  have H := Lib.hid (pick_any w.heap.size 1200 ((xs0.length : Int) + 1) w1 (by omega) (by omega) d1.out.cur)
  go_wp2_with (fail)
  refine H.out.mono ?_
  rintro e w2 ⟨x1, rfl, hx1, hcu, hch⟩
  have r0 := Lib.hid (r0.out.stepD d1.out hch)
  have d2 := Lib.hid (d1.out.step hcu hch)
  clear hcu hch H d1
  have H := Lib.hid (pick_any w.heap.size 1202 (9) w2 (by omega) (by omega) d2.out.cur)
  go_wp2_with (fail)
  refine H.out.mono ?_
  rintro e w3 ⟨x2, rfl, hx2, hcu, hch⟩
  have r0 := Lib.hid (r0.out.stepD d2.out hch)
  have d3 := Lib.hid (d2.out.step hcu hch)
  clear hcu hch H d2
  go_wp2
  go_ret2
  exact ⟨_, xs0, _, rfl, ⟨A0, c0, rfl, hn0, hcap0.out, hsz0.out, r0.out.more d3.out.low (Nat.le_refl _)⟩, d3.out.be⟩
set_option maxHeartbeats 4000000 in
theorem DrawIsInstr_d (A : Option Addr) (c : Nat) (bs : List Int) (w : World) (hl : bs.length ≤ 1048576) (ha : ∀ x ∈ bs, 0 ≤ x ∧ x ≤ 255) (hy : BY w w.heap.size A bs) :
    Calls Try.prog 157 #[.slice A bs.length c] w fun e w' => ∃ x : In, e = .returned (.agg #[.string x.op, .int .i64 x.d, .int .i64 x.a, .int .i64 x.b, .int .i64 x.m]) ∧ x.op.size ≤ 100 ∧ Below w.heap.size w w' := by
  have d0 := Lib.hid (dd_start1 w (.cells #[.string ⟨#[]⟩, .int .i64 0, .int .i64 0, .int .i64 0, .int .i64 0] 56) A c bs hl ha hy)
  have hY0 : Hid (XB ((w.alloc (.cells #[.string ⟨#[]⟩, .int .i64 0, .int .i64 0, .int .i64 0, .int .i64 0] 56)).alloc (.cells #[.slice A bs.length c, .int .i64 0, .int .u64 0] 101)) w.heap.size ⟨ByteArray.empty, 0, 0, 0, 0⟩) := CB.below (show CB 56 (w.alloc (.cells #[.string ⟨#[]⟩, .int .i64 0, .int .i64 0, .int .i64 0, .int .i64 0] 56)) w.heap.size (In.enc ⟨ByteArray.empty, 0, 0, 0, 0⟩) from heap_alloc_new w _) ((Below.refl _ _).alloc (Nat.le_refl _) _) (by simp)
  clear hy
  go_enter Try.func157, Try.ntmps157
  have H := Lib.hid (anyInstr_any (w.heap.size + 1) 0 ((w.alloc (.cells #[.string ⟨#[]⟩, .int .i64 0, .int .i64 0, .int .i64 0, .int .i64 0] 56)).alloc (.cells #[.slice A bs.length c, .int .i64 0, .int .u64 0] 101)) (by omega) d0.out.cur)
  go_wp2_with (fail)
  refine H.out.mono ?_
  rintro e w1 ⟨⟨op0, d0', a0, b0, m0⟩, rfl, hsz', hcu, hch⟩
  have d1 := Lib.hid (d0.out.step hcu hch)
  have hY1 : Hid (XB w1 w.heap.size ⟨ByteArray.empty, 0, 0, 0, 0⟩) := CB.chgD (show CB 56 ((w.alloc (.cells #[.string ⟨#[]⟩, .int .i64 0, .int .i64 0, .int .i64 0, .int .i64 0] 56)).alloc (.cells #[.slice A bs.length c, .int .i64 0, .int .u64 0] 101)) w.heap.size (In.enc ⟨ByteArray.empty, 0, 0, 0, 0⟩) from hY0.out) hch (.inl (by omega))
  have hsz0 := Lib.hid hsz'
  clear hsz'
  dsimp only
  clear hcu hch H d0 hY0
  have p0 := CB.frozen (show CB 56 w1 w.heap.size (In.enc ⟨ByteArray.empty, 0, 0, 0, 0⟩) from hY1.out) 0
  have p1 := CB.frozen (show CB 56 w1 w.heap.size (In.enc ⟨ByteArray.empty, 0, 0, 0, 0⟩) from hY1.out) 1
  have p2 := CB.frozen (show CB 56 w1 w.heap.size (In.enc ⟨ByteArray.empty, 0, 0, 0, 0⟩) from hY1.out) 2
  have p3 := CB.frozen (show CB 56 w1 w.heap.size (In.enc ⟨ByteArray.empty, 0, 0, 0, 0⟩) from hY1.out) 3
  have p4 := CB.frozen (show CB 56 w1 w.heap.size (In.enc ⟨ByteArray.empty, 0, 0, 0, 0⟩) from hY1.out) 4
  obtain ⟨py0, py1, py2, py3, py4⟩ := XB.cells hY1.out
  simp only at py0 py1 py2 py3 py4
  go_wp2
  refine bodyPost_ret (v := .agg #[.string op0, .int .i64 d0', .int .i64 a0, .int .i64 b0, .int .i64 m0]) ?_ rfl ⟨⟨op0, d0', a0, b0, m0⟩, rfl, hsz0.out, ?_⟩
  · obtain ⟨z0, z1, z2, z3, z4⟩ := (XB.five' ⟨op0, d0', a0, b0, m0⟩ hY1.out).cells
    generalize (World.setCell _ ⟨w.heap.size, 4, none⟩ _) = W at z0 z1 z2 z3 z4 ⊢
    simp only at z0 z1 z2 z3 z4
    simp [results, Try.results157, go_sem, z0, z1, z2, z3, z4]
  · exact (((((d1.out.be.setCell (p := ⟨w.heap.size, 0, none⟩) (Nat.le_refl _) _).setCell (p := ⟨w.heap.size, 1, none⟩) (Nat.le_refl _) _).setCell (p := ⟨w.heap.size, 2, none⟩) (Nat.le_refl _) _).setCell (p := ⟨w.heap.size, 3, none⟩) (Nat.le_refl _) _).setCell (p := ⟨w.heap.size, 4, none⟩) (Nat.le_refl _) _)
set_option maxHeartbeats 4000000 in
theorem DrawCostOfInstr_d (A : Option Addr) (c : Nat) (bs : List Int) (w : World) (hl : bs.length ≤ 1048576) (ha : ∀ x ∈ bs, 0 ≤ x ∧ x ≤ 255) (hy : BY w w.heap.size A bs) :
    Calls Try.prog 45 #[.slice A bs.length c] w fun e w' => ∃ x : In, e = .returned (.agg #[.string x.op, .int .i64 x.d, .int .i64 x.a, .int .i64 x.b, .int .i64 x.m]) ∧ x.op.size ≤ 100 ∧ Below w.heap.size w w' := by
  have b0 := Lib.hid ((Below.refl w.heap.size w).alloc (Nat.le_refl _) (.cells #[.string ⟨#[]⟩, .int .i64 0, .int .i64 0, .int .i64 0, .int .i64 0] 56))
  have hY0 := Lib.hid (show XB (w.alloc (.cells #[.string ⟨#[]⟩, .int .i64 0, .int .i64 0, .int .i64 0, .int .i64 0] 56)) w.heap.size ⟨ByteArray.empty, 0, 0, 0, 0⟩ from heap_alloc_new w _)
  have H := Lib.hid (DrawIsInstr_d A c bs (w.alloc (.cells #[.string ⟨#[]⟩, .int .i64 0, .int .i64 0, .int .i64 0, .int .i64 0] 56)) hl ha ((hy.keep fun j hj => b0.out.block j hj).more b0.out.size))
  clear hy
  go_enter Try.func45, Try.ntmps45
  go_wp2_with (fail)
  refine H.out.mono ?_
  rintro e w1 ⟨⟨op0, d0', a0, b0', m0⟩, rfl, hsz', hbe⟩
  have hsz0 := Lib.hid hsz'
  have hbe1 := Lib.hid (b0.out.trans (hbe.mono b0.out.size))
  have hY1 : Hid (XB w1 w.heap.size ⟨ByteArray.empty, 0, 0, 0, 0⟩) := CB.below (show CB 56 (w.alloc (.cells #[.string ⟨#[]⟩, .int .i64 0, .int .i64 0, .int .i64 0, .int .i64 0] 56)) w.heap.size (In.enc ⟨ByteArray.empty, 0, 0, 0, 0⟩) from hY0.out) hbe (by simp)
  clear hsz' hbe H hY0
  dsimp only
  have p0 := CB.frozen (show CB 56 w1 w.heap.size (In.enc ⟨ByteArray.empty, 0, 0, 0, 0⟩) from hY1.out) 0
  have p1 := CB.frozen (show CB 56 w1 w.heap.size (In.enc ⟨ByteArray.empty, 0, 0, 0, 0⟩) from hY1.out) 1
  have p2 := CB.frozen (show CB 56 w1 w.heap.size (In.enc ⟨ByteArray.empty, 0, 0, 0, 0⟩) from hY1.out) 2
  have p3 := CB.frozen (show CB 56 w1 w.heap.size (In.enc ⟨ByteArray.empty, 0, 0, 0, 0⟩) from hY1.out) 3
  have p4 := CB.frozen (show CB 56 w1 w.heap.size (In.enc ⟨ByteArray.empty, 0, 0, 0, 0⟩) from hY1.out) 4
  obtain ⟨py0, py1, py2, py3, py4⟩ := XB.cells hY1.out
  simp only at py0 py1 py2 py3 py4
  go_wp2
  refine bodyPost_ret (v := .agg #[.string op0, .int .i64 d0', .int .i64 a0, .int .i64 b0', .int .i64 m0]) ?_ rfl ⟨⟨op0, d0', a0, b0', m0⟩, rfl, hsz0.out, ?_⟩
  · obtain ⟨z0, z1, z2, z3, z4⟩ := (XB.five' ⟨op0, d0', a0, b0', m0⟩ hY1.out).cells
    generalize (World.setCell _ ⟨w.heap.size, 4, none⟩ _) = W at z0 z1 z2 z3 z4 ⊢
    simp only at z0 z1 z2 z3 z4
    simp [results, Try.results45, go_sem, z0, z1, z2, z3, z4]
  · exact (((((hbe1.out.setCell (p := ⟨w.heap.size, 0, none⟩) (Nat.le_refl _) _).setCell (p := ⟨w.heap.size, 1, none⟩) (Nat.le_refl _) _).setCell (p := ⟨w.heap.size, 2, none⟩) (Nat.le_refl _) _).setCell (p := ⟨w.heap.size, 3, none⟩) (Nat.le_refl _) _).setCell (p := ⟨w.heap.size, 4, none⟩) (Nat.le_refl _) _)
set_option maxHeartbeats 4000000 in
theorem DrawStepInstr_d (A : Option Addr) (c : Nat) (bs : List Int) (w : World) (hl : bs.length ≤ 1048576) (ha : ∀ x ∈ bs, 0 ≤ x ∧ x ≤ 255) (hy : BY w w.heap.size A bs) :
    Calls Try.prog 43 #[.slice A bs.length c] w fun e w' => ∃ (x : In) (v2 : Value) (ys : List Int), e = .returned (.tuple #[.agg #[.string x.op, .int .i64 x.d, .int .i64 x.a, .int .i64 x.b, .int .i64 x.m], v2]) ∧ x.op.size ≤ 100 ∧ GotI w w' v2 6 ys ∧ Below w.heap.size w w' := by
  have d0 := Lib.hid (dd_start1 w (.cells #[.string ⟨#[]⟩, .int .i64 0, .int .i64 0, .int .i64 0, .int .i64 0] 56) A c bs hl ha hy)
  have hY0 : Hid (XB ((w.alloc (.cells #[.string ⟨#[]⟩, .int .i64 0, .int .i64 0, .int .i64 0, .int .i64 0] 56)).alloc (.cells #[.slice A bs.length c, .int .i64 0, .int .u64 0] 101)) w.heap.size ⟨ByteArray.empty, 0, 0, 0, 0⟩) := CB.below (show CB 56 (w.alloc (.cells #[.string ⟨#[]⟩, .int .i64 0, .int .i64 0, .int .i64 0, .int .i64 0] 56)) w.heap.size (In.enc ⟨ByteArray.empty, 0, 0, 0, 0⟩) from heap_alloc_new w _) ((Below.refl _ _).alloc (Nat.le_refl _) _) (by simp)
  clear hy
  go_enter Try.func43, Try.ntmps43
  have H := Lib.hid (anyInstr_any (w.heap.size + 1) 0 ((w.alloc (.cells #[.string ⟨#[]⟩, .int .i64 0, .int .i64 0, .int .i64 0, .int .i64 0] 56)).alloc (.cells #[.slice A bs.length c, .int .i64 0, .int .u64 0] 101)) (by omega) d0.out.cur)
  go_wp2_with (fail)
  refine H.out.mono ?_
  rintro e w1 ⟨⟨op0, d0', a0, b0, m0⟩, rfl, hsz', hcu, hch⟩
  have d1 := Lib.hid (d0.out.step hcu hch)
  have hY1 : Hid (XB w1 w.heap.size ⟨ByteArray.empty, 0, 0, 0, 0⟩) := CB.chgD (show CB 56 ((w.alloc (.cells #[.string ⟨#[]⟩, .int .i64 0, .int .i64 0, .int .i64 0, .int .i64 0] 56)).alloc (.cells #[.slice A bs.length c, .int .i64 0, .int .u64 0] 101)) w.heap.size (In.enc ⟨ByteArray.empty, 0, 0, 0, 0⟩) from hY0.out) hch (.inl (by omega))
  have hsz0 := Lib.hid hsz'
  clear hsz'
  dsimp only
  clear hcu hch H d0 hY0
  have H := Lib.hid (regs_any (w.heap.size + 1) 18 w1 (by omega) d1.out.cur)
  go_wp2_with (fail)
  refine H.out.mono ?_
  rintro e w2 ⟨xs1, A1, c1, rfl, hn1, his, hcu, hch⟩
  have d2 := Lib.hid (d1.out.step hcu hch)
  have hY2 : Hid (XB w2 w.heap.size ⟨ByteArray.empty, 0, 0, 0, 0⟩) := CB.chgD (show CB 56 w1 w.heap.size (In.enc ⟨ByteArray.empty, 0, 0, 0, 0⟩) from hY1.out) hch (.inl (by omega))
  have r1 := Lib.hid (his.more d1.out.sz (Nat.le_refl _))
  clear his
  clear hcu hch H d1 hY1
  have p0 := CB.frozen (show CB 56 w2 w.heap.size (In.enc ⟨ByteArray.empty, 0, 0, 0, 0⟩) from hY2.out) 0
  have p1 := CB.frozen (show CB 56 w2 w.heap.size (In.enc ⟨ByteArray.empty, 0, 0, 0, 0⟩) from hY2.out) 1
  have p2 := CB.frozen (show CB 56 w2 w.heap.size (In.enc ⟨ByteArray.empty, 0, 0, 0, 0⟩) from hY2.out) 2
  have p3 := CB.frozen (show CB 56 w2 w.heap.size (In.enc ⟨ByteArray.empty, 0, 0, 0, 0⟩) from hY2.out) 3
  have p4 := CB.frozen (show CB 56 w2 w.heap.size (In.enc ⟨ByteArray.empty, 0, 0, 0, 0⟩) from hY2.out) 4
  obtain ⟨py0, py1, py2, py3, py4⟩ := XB.cells hY2.out
  simp only at py0 py1 py2 py3 py4
  have hfar : Hid (∀ (W : World) (i : Nat) (u : Value), IS W (w.heap.size + 1 + 1) W.heap.size A1 xs1 → IS (W.setCell ⟨w.heap.size, i, none⟩ u) (w.heap.size + 1 + 1) (W.setCell ⟨w.heap.size, i, none⟩ u).heap.size A1 xs1) := fun W i u h => by
    rw [World.size_setCell]
    exact h.keep fun p h1 h2 => World.cell?_of_block (Below.heap_setCell W ⟨w.heap.size, i, none⟩ u p.block (by show p.block ≠ w.heap.size; omega))
  go_wp2
  refine bodyPost_ret (v := .tuple #[.agg #[.string op0, .int .i64 d0', .int .i64 a0, .int .i64 b0, .int .i64 m0], .slice A1 xs1.length c1]) ?_ rfl ⟨⟨op0, d0', a0, b0, m0⟩, _, xs1, rfl, hsz0.out, ⟨A1, c1, rfl, hn1, ?_⟩, ?_⟩
  · obtain ⟨z0, z1, z2, z3, z4⟩ := (XB.five' ⟨op0, d0', a0, b0, m0⟩ hY2.out).cells
    generalize (World.setCell _ ⟨w.heap.size, 4, none⟩ _) = W at z0 z1 z2 z3 z4 ⊢
    simp only at z0 z1 z2 z3 z4
    simp [results, Try.results43, go_sem, z0, z1, z2, z3, z4]
  · exact IS.more (hfar.out _ 4 _ (hfar.out _ 3 _ (hfar.out _ 2 _ (hfar.out _ 1 _ (hfar.out _ 0 _ r1.out))))) (by omega) (Nat.le_refl _)
  · exact (((((d2.out.be.setCell (p := ⟨w.heap.size, 0, none⟩) (Nat.le_refl _) _).setCell (p := ⟨w.heap.size, 1, none⟩) (Nat.le_refl _) _).setCell (p := ⟨w.heap.size, 2, none⟩) (Nat.le_refl _) _).setCell (p := ⟨w.heap.size, 3, none⟩) (Nat.le_refl _) _).setCell (p := ⟨w.heap.size, 4, none⟩) (Nat.le_refl _) _)
set_option maxHeartbeats 4000000 in
theorem DrawAreIndependent_d (A : Option Addr) (c : Nat) (bs : List Int) (w : World) (hl : bs.length ≤ 1048576) (ha : ∀ x ∈ bs, 0 ≤ x ∧ x ≤ 255) (hy : BY w w.heap.size A bs) :
    Calls Try.prog 57 #[.slice A bs.length c] w fun e w' => ∃ (x y : In), e = .returned (.tuple #[.agg #[.string x.op, .int .i64 x.d, .int .i64 x.a, .int .i64 x.b, .int .i64 x.m], .agg #[.string y.op, .int .i64 y.d, .int .i64 y.a, .int .i64 y.b, .int .i64 y.m]]) ∧ x.op.size ≤ 100 ∧ y.op.size ≤ 100 ∧ Below w.heap.size w w' := by
  have d0 := Lib.hid (dd_start2 w (.cells #[.string ⟨#[]⟩, .int .i64 0, .int .i64 0, .int .i64 0, .int .i64 0] 56) (.cells #[.string ⟨#[]⟩, .int .i64 0, .int .i64 0, .int .i64 0, .int .i64 0] 56) A c bs hl ha hy)
  have hY0 : Hid (XB (((w.alloc (.cells #[.string ⟨#[]⟩, .int .i64 0, .int .i64 0, .int .i64 0, .int .i64 0] 56)).alloc (.cells #[.string ⟨#[]⟩, .int .i64 0, .int .i64 0, .int .i64 0, .int .i64 0] 56)).alloc (.cells #[.slice A bs.length c, .int .i64 0, .int .u64 0] 101)) w.heap.size ⟨ByteArray.empty, 0, 0, 0, 0⟩) := CB.below (CB.below (show CB 56 (w.alloc (.cells #[.string ⟨#[]⟩, .int .i64 0, .int .i64 0, .int .i64 0, .int .i64 0] 56)) w.heap.size (In.enc ⟨ByteArray.empty, 0, 0, 0, 0⟩) from heap_alloc_new w _) ((Below.refl _ _).alloc (Nat.le_refl _) _) (by simp)) ((Below.refl _ _).alloc (Nat.le_refl _) _) (by simp; omega)
  have hV0 : Hid (XB (((w.alloc (.cells #[.string ⟨#[]⟩, .int .i64 0, .int .i64 0, .int .i64 0, .int .i64 0] 56)).alloc (.cells #[.string ⟨#[]⟩, .int .i64 0, .int .i64 0, .int .i64 0, .int .i64 0] 56)).alloc (.cells #[.slice A bs.length c, .int .i64 0, .int .u64 0] 101)) (w.heap.size + 1) ⟨ByteArray.empty, 0, 0, 0, 0⟩) := by
    have h := heap_alloc_new (w.alloc (.cells #[.string ⟨#[]⟩, .int .i64 0, .int .i64 0, .int .i64 0, .int .i64 0] 56)) (.cells #[.string ⟨#[]⟩, .int .i64 0, .int .i64 0, .int .i64 0, .int .i64 0] 56)
    rw [World.size_alloc] at h
    exact CB.below (show CB 56 _ (w.heap.size + 1) (In.enc ⟨ByteArray.empty, 0, 0, 0, 0⟩) from h) ((Below.refl _ _).alloc (Nat.le_refl _) _) (by simp)
  clear hy
  go_enter Try.func57, Try.ntmps57
  have H := Lib.hid (anyInstr_any (w.heap.size + 1 + 1) 0 (((w.alloc (.cells #[.string ⟨#[]⟩, .int .i64 0, .int .i64 0, .int .i64 0, .int .i64 0] 56)).alloc (.cells #[.string ⟨#[]⟩, .int .i64 0, .int .i64 0, .int .i64 0, .int .i64 0] 56)).alloc (.cells #[.slice A bs.length c, .int .i64 0, .int .u64 0] 101)) (by omega) d0.out.cur)
  go_wp2_with (fail)
  refine H.out.mono ?_
  rintro e w1 ⟨⟨op0, d0', a0, b0, m0⟩, rfl, hsz', hcu, hch⟩
  have d1 := Lib.hid (d0.out.step hcu hch)
  have hY1 : Hid (XB w1 w.heap.size ⟨ByteArray.empty, 0, 0, 0, 0⟩) := CB.chgD (show CB 56 (((w.alloc (.cells #[.string ⟨#[]⟩, .int .i64 0, .int .i64 0, .int .i64 0, .int .i64 0] 56)).alloc (.cells #[.string ⟨#[]⟩, .int .i64 0, .int .i64 0, .int .i64 0, .int .i64 0] 56)).alloc (.cells #[.slice A bs.length c, .int .i64 0, .int .u64 0] 101)) w.heap.size (In.enc ⟨ByteArray.empty, 0, 0, 0, 0⟩) from hY0.out) hch (.inl (by omega))
  have hV1 : Hid (XB w1 (w.heap.size + 1) ⟨ByteArray.empty, 0, 0, 0, 0⟩) := CB.chgD (show CB 56 (((w.alloc (.cells #[.string ⟨#[]⟩, .int .i64 0, .int .i64 0, .int .i64 0, .int .i64 0] 56)).alloc (.cells #[.string ⟨#[]⟩, .int .i64 0, .int .i64 0, .int .i64 0, .int .i64 0] 56)).alloc (.cells #[.slice A bs.length c, .int .i64 0, .int .u64 0] 101)) (w.heap.size + 1) (In.enc ⟨ByteArray.empty, 0, 0, 0, 0⟩) from hV0.out) hch (.inl (by omega))
  have hsz0 := Lib.hid hsz'
  clear hsz'
  dsimp only
  clear hcu hch H d0 hY0 hV0
  have H := Lib.hid (anyInstr_any (w.heap.size + 1 + 1) 18 w1 (by omega) d1.out.cur)
  go_wp2_with (fail)
  refine H.out.mono ?_
  rintro e w2 ⟨⟨op1, d1', a1, b1, m1⟩, rfl, hsz', hcu, hch⟩
  have d2 := Lib.hid (d1.out.step hcu hch)
  have hY2 : Hid (XB w2 w.heap.size ⟨ByteArray.empty, 0, 0, 0, 0⟩) := CB.chgD (show CB 56 w1 w.heap.size (In.enc ⟨ByteArray.empty, 0, 0, 0, 0⟩) from hY1.out) hch (.inl (by omega))
  have hV2 : Hid (XB w2 (w.heap.size + 1) ⟨ByteArray.empty, 0, 0, 0, 0⟩) := CB.chgD (show CB 56 w1 (w.heap.size + 1) (In.enc ⟨ByteArray.empty, 0, 0, 0, 0⟩) from hV1.out) hch (.inl (by omega))
  have hsz1 := Lib.hid hsz'
  clear hsz'
  dsimp only
  clear hcu hch H d1 hY1 hV1
  have p0 := CB.frozen (show CB 56 w2 w.heap.size (In.enc ⟨ByteArray.empty, 0, 0, 0, 0⟩) from hY2.out) 0
  have p1 := CB.frozen (show CB 56 w2 w.heap.size (In.enc ⟨ByteArray.empty, 0, 0, 0, 0⟩) from hY2.out) 1
  have p2 := CB.frozen (show CB 56 w2 w.heap.size (In.enc ⟨ByteArray.empty, 0, 0, 0, 0⟩) from hY2.out) 2
  have p3 := CB.frozen (show CB 56 w2 w.heap.size (In.enc ⟨ByteArray.empty, 0, 0, 0, 0⟩) from hY2.out) 3
  have p4 := CB.frozen (show CB 56 w2 w.heap.size (In.enc ⟨ByteArray.empty, 0, 0, 0, 0⟩) from hY2.out) 4
  obtain ⟨py0, py1, py2, py3, py4⟩ := XB.cells hY2.out
  simp only at py0 py1 py2 py3 py4
  have q0 := CB.frozen (show CB 56 w2 (w.heap.size + 1) (In.enc ⟨ByteArray.empty, 0, 0, 0, 0⟩) from hV2.out) 0
  have q1 := CB.frozen (show CB 56 w2 (w.heap.size + 1) (In.enc ⟨ByteArray.empty, 0, 0, 0, 0⟩) from hV2.out) 1
  have q2 := CB.frozen (show CB 56 w2 (w.heap.size + 1) (In.enc ⟨ByteArray.empty, 0, 0, 0, 0⟩) from hV2.out) 2
  have q3 := CB.frozen (show CB 56 w2 (w.heap.size + 1) (In.enc ⟨ByteArray.empty, 0, 0, 0, 0⟩) from hV2.out) 3
  have q4 := CB.frozen (show CB 56 w2 (w.heap.size + 1) (In.enc ⟨ByteArray.empty, 0, 0, 0, 0⟩) from hV2.out) 4
  obtain ⟨qy0, qy1, qy2, qy3, qy4⟩ := XB.cells hV2.out
  simp only at qy0 qy1 qy2 qy3 qy4
  go_wp2
  refine bodyPost_ret (v := .tuple #[.agg #[.string op0, .int .i64 d0', .int .i64 a0, .int .i64 b0, .int .i64 m0], .agg #[.string op1, .int .i64 d1', .int .i64 a1, .int .i64 b1, .int .i64 m1]]) ?_ rfl ⟨⟨op0, d0', a0, b0, m0⟩, ⟨op1, d1', a1, b1, m1⟩, rfl, hsz0.out, hsz1.out, ?_⟩
  · have hA := XB.five' ⟨op0, d0', a0, b0, m0⟩ hY2.out
    have hA5 := (((((hA.other ⟨w.heap.size + 1, 0, none⟩ (.string op1) (by simp)).other ⟨w.heap.size + 1, 1, none⟩ (.int .i64 d1') (by simp)).other ⟨w.heap.size + 1, 2, none⟩ (.int .i64 a1) (by simp)).other ⟨w.heap.size + 1, 3, none⟩ (.int .i64 b1) (by simp)).other ⟨w.heap.size + 1, 4, none⟩ (.int .i64 m1) (by simp)).cells
    have hB := (((((hV2.out.other ⟨w.heap.size, 0, none⟩ (.string op0) (by simp)).other ⟨w.heap.size, 1, none⟩ (.int .i64 d0') (by simp)).other ⟨w.heap.size, 2, none⟩ (.int .i64 a0) (by simp)).other ⟨w.heap.size, 3, none⟩ (.int .i64 b0) (by simp)).other ⟨w.heap.size, 4, none⟩ (.int .i64 m0) (by simp))
    obtain ⟨z0, z1, z2, z3, z4⟩ := hA5
    obtain ⟨y0, y1, y2, y3, y4⟩ := (XB.five' ⟨op1, d1', a1, b1, m1⟩ hB).cells
    generalize (World.setCell _ ⟨w.heap.size + 1, 4, none⟩ _) = W at z0 z1 z2 z3 z4 y0 y1 y2 y3 y4 ⊢
    simp only at z0 z1 z2 z3 z4 y0 y1 y2 y3 y4
    simp [results, Try.results57, go_sem, z0, z1, z2, z3, z4, y0, y1, y2, y3, y4]
  · exact ((((((((((d2.out.be.setCell (p := ⟨w.heap.size, 0, none⟩) (Nat.le_refl _) _).setCell (p := ⟨w.heap.size, 1, none⟩) (Nat.le_refl _) _).setCell (p := ⟨w.heap.size, 2, none⟩) (Nat.le_refl _) _).setCell (p := ⟨w.heap.size, 3, none⟩) (Nat.le_refl _) _).setCell (p := ⟨w.heap.size, 4, none⟩) (Nat.le_refl _) _).setCell (p := ⟨w.heap.size + 1, 0, none⟩) (by show w.heap.size ≤ w.heap.size + 1; omega) _).setCell (p := ⟨w.heap.size + 1, 1, none⟩) (by show w.heap.size ≤ w.heap.size + 1; omega) _).setCell (p := ⟨w.heap.size + 1, 2, none⟩) (by show w.heap.size ≤ w.heap.size + 1; omega) _).setCell (p := ⟨w.heap.size + 1, 3, none⟩) (by show w.heap.size ≤ w.heap.size + 1; omega) _).setCell (p := ⟨w.heap.size + 1, 4, none⟩) (by show w.heap.size ≤ w.heap.size + 1; omega) _)
end Go.Proofs.Ytmhdijklindipaa

namespace Go.Proofs.Ytmhdijklindipaa
open Go.RowKit
set_option linter.unusedVariables false
set_option maxRecDepth 100000

theorem l1In_lit (n lo hi : Int) (r : Bool) (h : inR n lo hi = r) (w : World) : Calls Try.prog 169 #[.int .i64 n, .int .i64 lo, .int .i64 hi] w fun e w' => e = .returned (.bool r) ∧ w = w' := by
  subst h; exact l1In_r n lo hi w
theorem OK.some' {w : World} {lo hi : Nat} {v : Value} {xs : List In} {t : TypeId} (h : OK In.enc 5 t w lo hi v xs) (h0 : 0 < xs.length) : ∃ g cap rest, v = .slice (some ⟨g, 0, none⟩) xs.length cap ∧ lo ≤ g ∧ g < hi ∧ xs.length ≤ cap ∧ cap ≤ maxLen ∧ CB t w g (xs.flatMap In.enc ++ rest) ∧ (xs.flatMap In.enc ++ rest).length = cap * 5 := by
  rcases OK.open h with ⟨_, h1⟩ | ⟨g, cap, h1, h2, h3, h4, h5, rest, h6, h7⟩
  · omega
  · exact ⟨g, cap, rest, h1, h2, h3, h4, h5, h6, h7⟩
theorem code_two {w : World} {L B b o n : Nat} {es : List In} {x y : In} (h : RS In.enc 5 w L B (some ⟨b, o, none⟩) es) (hn : n + 1 < es.length) (hx : es[n] = x) (hy : es[n + 1] = y) :
    (w.cell? ⟨b, o + n * 5, none⟩ = some (.string x.op) ∧ w.cell? ⟨b, o + n * 5 + 1, none⟩ = some (.int .i64 x.d) ∧ w.cell? ⟨b, o + n * 5 + 2, none⟩ = some (.int .i64 x.a) ∧ w.cell? ⟨b, o + n * 5 + 3, none⟩ = some (.int .i64 x.b) ∧ w.cell? ⟨b, o + n * 5 + 4, none⟩ = some (.int .i64 x.m)) ∧
    (w.cell? ⟨b, o + (n + 1) * 5, none⟩ = some (.string y.op) ∧ w.cell? ⟨b, o + (n + 1) * 5 + 1, none⟩ = some (.int .i64 y.d) ∧ w.cell? ⟨b, o + (n + 1) * 5 + 2, none⟩ = some (.int .i64 y.a) ∧ w.cell? ⟨b, o + (n + 1) * 5 + 3, none⟩ = some (.int .i64 y.b) ∧ w.cell? ⟨b, o + (n + 1) * 5 + 4, none⟩ = some (.int .i64 y.m)) := by
  subst hx; subst hy
  obtain ⟨b', o', e, _, hc⟩ := In.cells h (by omega)
  injection e with e; injection e with e1 e2 _; subst e1; subst e2
  exact ⟨hc n (by omega), hc (n + 1) hn⟩
set_option maxHeartbeats 16000000 in
theorem sSwap_any (L B : Nat) (A : Option Addr) (c : Nat) (es : List In) (i : Int) (w : World) (hl : es.length ≤ 1048576) (hes : RS In.enc 5 w L B A es) (hB : B ≤ w.heap.size) :
    Calls Try.prog 56 #[.slice A es.length c, .int .i64 i] w (ResSwapNeighbours (swapR es i) (swOk es i) w) := by
  have H := Lib.hid (cdCode_any L B A c es w.drew hl (hes.below (Below.refl w.heap.size w).drew hB) hB)
  have hE := Lib.hid hes
  have hBB := Lib.hid hB
  have hB0 := Lib.hid ((Below.refl w.heap.size w).drew)
  clear hes hB
  cases hg : okCode es
  · have hK : Hid (swOk es i = false) := by simp [Hid, swOk, hg]
    have hR := Lib.hid (swapR_no hK.out)
    rw [hg] at H
    clear hg
    go_enter Try.func56, Try.ntmps56
    go_wp2_with (fail)
    refine wp_region_any (by kernel_rfl) ?_
    try (change wpAny _ _ _ _ _ _ _ (World.drew _))
    refine wpAny_take (i := 0) (v := ?_) rfl (by kernel_rfl) (by kernel_rfl) (by kernel_rfl) (fun _ _ _ h => h) (Or.inl ⟨by rfl, ?_⟩) ?_
    rotate_left 1
    · (intro w; go_simp; try with_reducible rfl)
    try simp only [Act.put, List.setIfInBounds_toArray, List.set_cons_zero, List.set_cons_succ, List.getElem_toArray, List.getElem_cons_zero, List.getElem_cons_succ]
    refine wpAny_ready (rs := [1]) (by kernel_rfl) (by simp) ?_
    refine AllReady.cons rfl (fun K hK => ?_) (AllReady.nil)
    try simp only [List.setIfInBounds_toArray, List.set_cons_zero, List.set_cons_succ, List.getElem_toArray, List.getElem_cons_zero, List.getElem_cons_succ]
    (go_simp; go_at_call 136; (with_reducible refine H.out.mono ?_); rintro e w2 ⟨rfl, hb2⟩)
    try go_simp
    try (refine hK _ _ ?_; clear hK K)
    refine wpAny_take (i := 2) (v := ?_) rfl (by kernel_rfl) (by kernel_rfl) (by kernel_rfl) (fun _ _ _ h => h) (Or.inl ⟨by rfl, ?_⟩) ?_
    rotate_left 1
    · (intro w; go_simp; try with_reducible rfl)
    try simp only [Act.put, List.setIfInBounds_toArray, List.set_cons_zero, List.set_cons_succ, List.getElem_toArray, List.getElem_cons_zero, List.getElem_cons_succ]
    refine wpAny_take (i := 3) (v := ?_) rfl (by kernel_rfl) (by kernel_rfl) (by kernel_rfl) (fun _ _ _ h => h) (Or.inl ⟨by rfl, ?_⟩) ?_
    rotate_left 1
    · (intro w; go_simp; try with_reducible rfl)
    try simp only [Act.put, List.setIfInBounds_toArray, List.set_cons_zero, List.set_cons_succ, List.getElem_toArray, List.getElem_cons_zero, List.getElem_cons_succ]
    refine wpAny_take (i := 4) (v := undef) rfl (by kernel_rfl) (by kernel_rfl) (by kernel_rfl) (fun _ _ _ h => h) (Or.inr ⟨by rfl, rfl⟩) ?_
    try simp only [Act.put, List.setIfInBounds_toArray, List.set_cons_zero, List.set_cons_succ, List.getElem_toArray, List.getElem_cons_zero, List.getElem_cons_succ]
    refine wpAny_take (i := 5) (v := undef) rfl (by kernel_rfl) (by kernel_rfl) (by kernel_rfl) (fun _ _ _ h => h) (Or.inr ⟨by rfl, rfl⟩) ?_
    try simp only [Act.put, List.setIfInBounds_toArray, List.set_cons_zero, List.set_cons_succ, List.getElem_toArray, List.getElem_cons_zero, List.getElem_cons_succ]
    refine wpAny_take (i := 6) (v := undef) rfl (by kernel_rfl) (by kernel_rfl) (by kernel_rfl) (fun _ _ _ h => h) (Or.inr ⟨by rfl, rfl⟩) ?_
    try simp only [Act.put, List.setIfInBounds_toArray, List.set_cons_zero, List.set_cons_succ, List.getElem_toArray, List.getElem_cons_zero, List.getElem_cons_succ]
    refine wpAny_take (i := 7) (v := undef) rfl (by kernel_rfl) (by kernel_rfl) (by kernel_rfl) (fun _ _ _ h => h) (Or.inr ⟨by rfl, rfl⟩) ?_
    try simp only [Act.put, List.setIfInBounds_toArray, List.set_cons_zero, List.set_cons_succ, List.getElem_toArray, List.getElem_cons_zero, List.getElem_cons_succ]
    refine wpAny_take (i := 8) (v := undef) rfl (by kernel_rfl) (by kernel_rfl) (by kernel_rfl) (fun _ _ _ h => h) (Or.inr ⟨by rfl, rfl⟩) ?_
    try simp only [Act.put, List.setIfInBounds_toArray, List.set_cons_zero, List.set_cons_succ, List.getElem_toArray, List.getElem_cons_zero, List.getElem_cons_succ]
    refine wpAny_take (i := 9) (v := undef) rfl (by kernel_rfl) (by kernel_rfl) (by kernel_rfl) (fun _ _ _ h => h) (Or.inr ⟨by rfl, rfl⟩) ?_
    try simp only [Act.put, List.setIfInBounds_toArray, List.set_cons_zero, List.set_cons_succ, List.getElem_toArray, List.getElem_cons_zero, List.getElem_cons_succ]
    refine wpAny_take (i := 10) (v := ?_) rfl (by kernel_rfl) (by kernel_rfl) (by kernel_rfl) (fun _ _ _ h => h) (Or.inl ⟨by rfl, ?_⟩) ?_
    rotate_left 1
    · (intro w; go_simp; try with_reducible rfl)
    try simp only [Act.put, List.setIfInBounds_toArray, List.set_cons_zero, List.set_cons_succ, List.getElem_toArray, List.getElem_cons_zero, List.getElem_cons_succ]
    refine wpAny_take (i := 11) (v := ?_) rfl (by kernel_rfl) (by kernel_rfl) (by kernel_rfl) (fun _ _ _ h => h) (Or.inl ⟨by rfl, ?_⟩) ?_
    rotate_left 1
    · (intro w; go_simp; try with_reducible rfl)
    try simp only [Act.put, List.setIfInBounds_toArray, List.set_cons_zero, List.set_cons_succ, List.getElem_toArray, List.getElem_cons_zero, List.getElem_cons_succ]
    refine wpAny_take (i := 12) (v := undef) rfl (by kernel_rfl) (by kernel_rfl) (by kernel_rfl) (fun _ _ _ h => h) (Or.inr ⟨by rfl, rfl⟩) ?_
    try simp only [Act.put, List.setIfInBounds_toArray, List.set_cons_zero, List.set_cons_succ, List.getElem_toArray, List.getElem_cons_zero, List.getElem_cons_succ]
    refine wpAny_take (i := 13) (v := undef) rfl (by kernel_rfl) (by kernel_rfl) (by kernel_rfl) (fun _ _ _ h => h) (Or.inr ⟨by rfl, rfl⟩) ?_
    try simp only [Act.put, List.setIfInBounds_toArray, List.set_cons_zero, List.set_cons_succ, List.getElem_toArray, List.getElem_cons_zero, List.getElem_cons_succ]
    refine wpAny_take (i := 14) (v := undef) rfl (by kernel_rfl) (by kernel_rfl) (by kernel_rfl) (fun _ _ _ h => h) (Or.inr ⟨by rfl, rfl⟩) ?_
    try simp only [Act.put, List.setIfInBounds_toArray, List.set_cons_zero, List.set_cons_succ, List.getElem_toArray, List.getElem_cons_zero, List.getElem_cons_succ]
    refine wpAny_take (i := 15) (v := undef) rfl (by kernel_rfl) (by kernel_rfl) (by kernel_rfl) (fun _ _ _ h => h) (Or.inr ⟨by rfl, rfl⟩) ?_
    try simp only [Act.put, List.setIfInBounds_toArray, List.set_cons_zero, List.set_cons_succ, List.getElem_toArray, List.getElem_cons_zero, List.getElem_cons_succ]
    refine wpAny_take (i := 16) (v := undef) rfl (by kernel_rfl) (by kernel_rfl) (by kernel_rfl) (fun _ _ _ h => h) (Or.inr ⟨by rfl, rfl⟩) ?_
    try simp only [Act.put, List.setIfInBounds_toArray, List.set_cons_zero, List.set_cons_succ, List.getElem_toArray, List.getElem_cons_zero, List.getElem_cons_succ]
    refine wpAny_take (i := 17) (v := undef) rfl (by kernel_rfl) (by kernel_rfl) (by kernel_rfl) (fun _ _ _ h => h) (Or.inr ⟨by rfl, rfl⟩) ?_
    try simp only [Act.put, List.setIfInBounds_toArray, List.set_cons_zero, List.set_cons_succ, List.getElem_toArray, List.getElem_cons_zero, List.getElem_cons_succ]
    refine wpAny_take (i := 18) (v := undef) rfl (by kernel_rfl) (by kernel_rfl) (by kernel_rfl) (fun _ _ _ h => h) (Or.inr ⟨by rfl, rfl⟩) ?_
    try simp only [Act.put, List.setIfInBounds_toArray, List.set_cons_zero, List.set_cons_succ, List.getElem_toArray, List.getElem_cons_zero, List.getElem_cons_succ]
    refine wpAny_take (i := 19) (v := undef) rfl (by kernel_rfl) (by kernel_rfl) (by kernel_rfl) (fun _ _ _ h => h) (Or.inr ⟨by rfl, rfl⟩) ?_
    try simp only [Act.put, List.setIfInBounds_toArray, List.set_cons_zero, List.set_cons_succ, List.getElem_toArray, List.getElem_cons_zero, List.getElem_cons_succ]
    refine wpAny_take (i := 20) (v := undef) rfl (by kernel_rfl) (by kernel_rfl) (by kernel_rfl) (fun _ _ _ h => h) (Or.inr ⟨by rfl, rfl⟩) ?_
    try simp only [Act.put, List.setIfInBounds_toArray, List.set_cons_zero, List.set_cons_succ, List.getElem_toArray, List.getElem_cons_zero, List.getElem_cons_succ]
    refine wpAny_take (i := 21) (v := undef) rfl (by kernel_rfl) (by kernel_rfl) (by kernel_rfl) (fun _ _ _ h => h) (Or.inr ⟨by rfl, rfl⟩) ?_
    try simp only [Act.put, List.setIfInBounds_toArray, List.set_cons_zero, List.set_cons_succ, List.getElem_toArray, List.getElem_cons_zero, List.getElem_cons_succ]
    refine wpAny_take (i := 22) (v := undef) rfl (by kernel_rfl) (by kernel_rfl) (by kernel_rfl) (fun _ _ _ h => h) (Or.inr ⟨by rfl, rfl⟩) ?_
    try simp only [Act.put, List.setIfInBounds_toArray, List.set_cons_zero, List.set_cons_succ, List.getElem_toArray, List.getElem_cons_zero, List.getElem_cons_succ]
    refine wpAny_take (i := 23) (v := ?_) rfl (by kernel_rfl) (by kernel_rfl) (by kernel_rfl) (fun _ _ _ h => h) (Or.inl ⟨by rfl, ?_⟩) ?_
    rotate_left 1
    · (intro w; go_simp; try with_reducible rfl)
    try simp only [Act.put, List.setIfInBounds_toArray, List.set_cons_zero, List.set_cons_succ, List.getElem_toArray, List.getElem_cons_zero, List.getElem_cons_succ]
    refine wpAny_done (by kernel_rfl) ?_ _
    rotate_left 1
    all_goals
      go_wp2
      go_ret2
      rw [hR.out, hK.out]; exact ⟨none, 0, rfl, OK.nil _ _ _ _, hB0.out.trans hb2⟩
  have hG := Lib.hid hg
  have hlen := Lib.hid (okCode_len hg)
  have hall := Lib.hid (okCode_all hg)
  rw [hg] at H
  clear hg
  cases hr : inR i 0 ((es.length : Int) - 2)
  · have hK : Hid (swOk es i = false) := by simp [Hid, swOk, hr]
    have hR := Lib.hid (swapR_no hK.out)
    have hX := Lib.hid (l1In_lit _ _ _ _ hr)
    have hwr : IntKind.i64.wrap ((es.length : Int) - 2) = (es.length : Int) - 2 := IntWalk.i64_in _ (by omega)
    clear hr
    go_enter Try.func56, Try.ntmps56
    go_wp2_with (fail)
    refine wp_region_any (by kernel_rfl) ?_
    try (change wpAny _ _ _ _ _ _ _ (World.drew _))
    refine wpAny_take (i := 0) (v := ?_) rfl (by kernel_rfl) (by kernel_rfl) (by kernel_rfl) (fun _ _ _ h => h) (Or.inl ⟨by rfl, ?_⟩) ?_
    rotate_left 1
    · (intro w; go_simp; try with_reducible rfl)
    try simp only [Act.put, List.setIfInBounds_toArray, List.set_cons_zero, List.set_cons_succ, List.getElem_toArray, List.getElem_cons_zero, List.getElem_cons_succ]
    refine wpAny_ready (rs := [1]) (by kernel_rfl) (by simp) ?_
    refine AllReady.cons rfl (fun K hK => ?_) (AllReady.nil)
    try simp only [List.setIfInBounds_toArray, List.set_cons_zero, List.set_cons_succ, List.getElem_toArray, List.getElem_cons_zero, List.getElem_cons_succ]
    (first | (go_simp; go_at_call 136; (with_reducible refine H.out.mono ?_); rintro e w2 ⟨rfl, hb2⟩) | (go_simp; go_at_call 169; (with_reducible refine (hX.out _).mono ?_); rintro e w' ⟨rfl, rfl⟩))
    try go_simp
    try (refine hK _ _ ?_; clear hK K)
    refine wpAny_take (i := 2) (v := ?_) rfl (by kernel_rfl) (by kernel_rfl) (by kernel_rfl) (fun _ _ _ h => h) (Or.inl ⟨by rfl, ?_⟩) ?_
    rotate_left 1
    · (intro w; go_simp; try with_reducible rfl)
    try simp only [Act.put, List.setIfInBounds_toArray, List.set_cons_zero, List.set_cons_succ, List.getElem_toArray, List.getElem_cons_zero, List.getElem_cons_succ]
    refine wpAny_take (i := 3) (v := ?_) rfl (by kernel_rfl) (by kernel_rfl) (by kernel_rfl) (fun _ _ _ h => h) (Or.inl ⟨by rfl, ?_⟩) ?_
    rotate_left 1
    · (intro w; go_simp; try with_reducible rfl)
    try simp only [Act.put, List.setIfInBounds_toArray, List.set_cons_zero, List.set_cons_succ, List.getElem_toArray, List.getElem_cons_zero, List.getElem_cons_succ]
    refine wpAny_take (i := 4) (v := ?_) rfl (by kernel_rfl) (by kernel_rfl) (by kernel_rfl) (fun _ _ _ h => h) (Or.inl ⟨by rfl, ?_⟩) ?_
    rotate_left 1
    · (intro w; go_simp; try with_reducible rfl)
    try simp only [Act.put, List.setIfInBounds_toArray, List.set_cons_zero, List.set_cons_succ, List.getElem_toArray, List.getElem_cons_zero, List.getElem_cons_succ]
    refine wpAny_take (i := 5) (v := ?_) rfl (by kernel_rfl) (by kernel_rfl) (by kernel_rfl) (fun _ _ _ h => h) (Or.inl ⟨by rfl, ?_⟩) ?_
    rotate_left 1
    · (intro w; go_simp; try with_reducible rfl)
    try simp only [Act.put, List.setIfInBounds_toArray, List.set_cons_zero, List.set_cons_succ, List.getElem_toArray, List.getElem_cons_zero, List.getElem_cons_succ]
    refine wpAny_take (i := 6) (v := ?_) rfl (by kernel_rfl) (by kernel_rfl) (by kernel_rfl) (fun _ _ _ h => h) (Or.inl ⟨by rfl, ?_⟩) ?_
    rotate_left 1
    · (intro w; go_simp; try with_reducible rfl)
    try simp only [Act.put, List.setIfInBounds_toArray, List.set_cons_zero, List.set_cons_succ, List.getElem_toArray, List.getElem_cons_zero, List.getElem_cons_succ]
    refine wpAny_take (i := 7) (v := ?_) rfl (by kernel_rfl) (by kernel_rfl) (by kernel_rfl) (fun _ _ _ h => h) (Or.inl ⟨by rfl, ?_⟩) ?_
    rotate_left 1
    · (intro w; go_simp; try with_reducible rfl)
    try simp only [Act.put, List.setIfInBounds_toArray, List.set_cons_zero, List.set_cons_succ, List.getElem_toArray, List.getElem_cons_zero, List.getElem_cons_succ]
    refine wpAny_ready (rs := [8]) (by kernel_rfl) (by simp) ?_
    refine AllReady.cons rfl (fun K hK => ?_) (AllReady.nil)
    try simp only [List.setIfInBounds_toArray, List.set_cons_zero, List.set_cons_succ, List.getElem_toArray, List.getElem_cons_zero, List.getElem_cons_succ]
    (first | (go_simp; go_at_call 136; (with_reducible refine H.out.mono ?_); rintro e w2 ⟨rfl, hb2⟩) | (go_simp; go_at_call 169; (with_reducible refine (hX.out _).mono ?_); rintro e w' ⟨rfl, rfl⟩))
    try go_simp
    try (refine hK _ _ ?_; clear hK K)
    refine wpAny_take (i := 9) (v := ?_) rfl (by kernel_rfl) (by kernel_rfl) (by kernel_rfl) (fun _ _ _ h => h) (Or.inl ⟨by rfl, ?_⟩) ?_
    rotate_left 1
    · (intro w; go_simp; try with_reducible rfl)
    try simp only [Act.put, List.setIfInBounds_toArray, List.set_cons_zero, List.set_cons_succ, List.getElem_toArray, List.getElem_cons_zero, List.getElem_cons_succ]
    refine wpAny_take (i := 10) (v := ?_) rfl (by kernel_rfl) (by kernel_rfl) (by kernel_rfl) (fun _ _ _ h => h) (Or.inl ⟨by rfl, ?_⟩) ?_
    rotate_left 1
    · (intro w; go_simp; try with_reducible rfl)
    try simp only [Act.put, List.setIfInBounds_toArray, List.set_cons_zero, List.set_cons_succ, List.getElem_toArray, List.getElem_cons_zero, List.getElem_cons_succ]
    refine wpAny_take (i := 11) (v := ?_) rfl (by kernel_rfl) (by kernel_rfl) (by kernel_rfl) (fun _ _ _ h => h) (Or.inl ⟨by rfl, ?_⟩) ?_
    rotate_left 1
    · (intro w; go_simp; try with_reducible rfl)
    try simp only [Act.put, List.setIfInBounds_toArray, List.set_cons_zero, List.set_cons_succ, List.getElem_toArray, List.getElem_cons_zero, List.getElem_cons_succ]
    refine wpAny_take (i := 12) (v := undef) rfl (by kernel_rfl) (by kernel_rfl) (by kernel_rfl) (fun _ _ _ h => h) (Or.inr ⟨by rfl, rfl⟩) ?_
    try simp only [Act.put, List.setIfInBounds_toArray, List.set_cons_zero, List.set_cons_succ, List.getElem_toArray, List.getElem_cons_zero, List.getElem_cons_succ]
    refine wpAny_take (i := 13) (v := undef) rfl (by kernel_rfl) (by kernel_rfl) (by kernel_rfl) (fun _ _ _ h => h) (Or.inr ⟨by rfl, rfl⟩) ?_
    try simp only [Act.put, List.setIfInBounds_toArray, List.set_cons_zero, List.set_cons_succ, List.getElem_toArray, List.getElem_cons_zero, List.getElem_cons_succ]
    refine wpAny_take (i := 14) (v := undef) rfl (by kernel_rfl) (by kernel_rfl) (by kernel_rfl) (fun _ _ _ h => h) (Or.inr ⟨by rfl, rfl⟩) ?_
    try simp only [Act.put, List.setIfInBounds_toArray, List.set_cons_zero, List.set_cons_succ, List.getElem_toArray, List.getElem_cons_zero, List.getElem_cons_succ]
    refine wpAny_take (i := 15) (v := undef) rfl (by kernel_rfl) (by kernel_rfl) (by kernel_rfl) (fun _ _ _ h => h) (Or.inr ⟨by rfl, rfl⟩) ?_
    try simp only [Act.put, List.setIfInBounds_toArray, List.set_cons_zero, List.set_cons_succ, List.getElem_toArray, List.getElem_cons_zero, List.getElem_cons_succ]
    refine wpAny_take (i := 16) (v := undef) rfl (by kernel_rfl) (by kernel_rfl) (by kernel_rfl) (fun _ _ _ h => h) (Or.inr ⟨by rfl, rfl⟩) ?_
    try simp only [Act.put, List.setIfInBounds_toArray, List.set_cons_zero, List.set_cons_succ, List.getElem_toArray, List.getElem_cons_zero, List.getElem_cons_succ]
    refine wpAny_take (i := 17) (v := undef) rfl (by kernel_rfl) (by kernel_rfl) (by kernel_rfl) (fun _ _ _ h => h) (Or.inr ⟨by rfl, rfl⟩) ?_
    try simp only [Act.put, List.setIfInBounds_toArray, List.set_cons_zero, List.set_cons_succ, List.getElem_toArray, List.getElem_cons_zero, List.getElem_cons_succ]
    refine wpAny_take (i := 18) (v := undef) rfl (by kernel_rfl) (by kernel_rfl) (by kernel_rfl) (fun _ _ _ h => h) (Or.inr ⟨by rfl, rfl⟩) ?_
    try simp only [Act.put, List.setIfInBounds_toArray, List.set_cons_zero, List.set_cons_succ, List.getElem_toArray, List.getElem_cons_zero, List.getElem_cons_succ]
    refine wpAny_take (i := 19) (v := undef) rfl (by kernel_rfl) (by kernel_rfl) (by kernel_rfl) (fun _ _ _ h => h) (Or.inr ⟨by rfl, rfl⟩) ?_
    try simp only [Act.put, List.setIfInBounds_toArray, List.set_cons_zero, List.set_cons_succ, List.getElem_toArray, List.getElem_cons_zero, List.getElem_cons_succ]
    refine wpAny_take (i := 20) (v := undef) rfl (by kernel_rfl) (by kernel_rfl) (by kernel_rfl) (fun _ _ _ h => h) (Or.inr ⟨by rfl, rfl⟩) ?_
    try simp only [Act.put, List.setIfInBounds_toArray, List.set_cons_zero, List.set_cons_succ, List.getElem_toArray, List.getElem_cons_zero, List.getElem_cons_succ]
    refine wpAny_take (i := 21) (v := undef) rfl (by kernel_rfl) (by kernel_rfl) (by kernel_rfl) (fun _ _ _ h => h) (Or.inr ⟨by rfl, rfl⟩) ?_
    try simp only [Act.put, List.setIfInBounds_toArray, List.set_cons_zero, List.set_cons_succ, List.getElem_toArray, List.getElem_cons_zero, List.getElem_cons_succ]
    refine wpAny_take (i := 22) (v := undef) rfl (by kernel_rfl) (by kernel_rfl) (by kernel_rfl) (fun _ _ _ h => h) (Or.inr ⟨by rfl, rfl⟩) ?_
    try simp only [Act.put, List.setIfInBounds_toArray, List.set_cons_zero, List.set_cons_succ, List.getElem_toArray, List.getElem_cons_zero, List.getElem_cons_succ]
    refine wpAny_take (i := 23) (v := ?_) rfl (by kernel_rfl) (by kernel_rfl) (by kernel_rfl) (fun _ _ _ h => h) (Or.inl ⟨by rfl, ?_⟩) ?_
    rotate_left 1
    · (intro w; go_simp; try with_reducible rfl)
    try simp only [Act.put, List.setIfInBounds_toArray, List.set_cons_zero, List.set_cons_succ, List.getElem_toArray, List.getElem_cons_zero, List.getElem_cons_succ]
    refine wpAny_done (by kernel_rfl) ?_ _
    rotate_left 1
    all_goals
      go_wp2
      go_ret2
      rw [hR.out, hK.out]; exact ⟨none, 0, rfl, OK.nil _ _ _ _, hB0.out.trans hb2⟩
  obtain ⟨n, rfl, hn⟩ := inR_nat hr
  have hr' := Lib.hid hr
  have hX := Lib.hid (l1In_lit _ _ _ _ hr)
  have hwr : IntKind.i64.wrap ((es.length : Int) - 2) = (es.length : Int) - 2 := IntWalk.i64_in _ (by omega)
  have hn' : n < es.length := by omega
  clear hr
  obtain ⟨b, o, rfl, ⟨_, hbB⟩, hc0⟩ := In.cells hE.out (by omega)
  have hC0 := Lib.hid hc0
  clear hc0
  have hg0 : es.getD n zeroIn = es[n] := by rw [List.getD_eq_getElem?_getD, List.getElem?_eq_getElem hn']; rfl
  have hg1 : es.getD (n + 1) zeroIn = es[n + 1] := by rw [List.getD_eq_getElem?_getD, List.getElem?_eq_getElem hn]; rfl
  have hK0 : Hid (swOk es n = freeB es[n] es[n + 1]) := by rw [Hid, swOk, hG.out, hr'.out, Int.toNat_natCast, hg0, hg1]; rfl
  have hR0 : Hid (swOk es n = true → swapR es n = (es.set n es[n + 1]).set (n + 1) es[n]) := by intro h; rw [swapR, if_pos h, Int.toNat_natCast, hg0, hg1]
  have hA := Lib.hid (fun W => cdFree_any es[n] es[n + 1] W)
  clear hg0 hg1
  have hCx := Lib.hid (hC0.out n hn')
  have hCy := Lib.hid (hC0.out (n + 1) hn)
  have i1 : (n : Int) < es.length := by omega
  have i2 : (n : Int) + 1 < es.length := by omega
  have hw1 : IntKind.i64.wrap ((n : Int) + 1) = (n : Int) + 1 := IntWalk.i64_in _ (by omega)
  have hw2 : ((n : Int) + 1).toNat = n + 1 := by omega
  have i0' : (0 : Int) ≤ (n : Int) + 1 := by omega
  generalize hx : es[n] = x at *
  generalize hy : es[n + 1] = y at *
  obtain ⟨op, d, a, b1, m⟩ := x
  obtain ⟨op', d', a', b1', m'⟩ := y
  have hxx := Lib.hid hx
  have hyy := Lib.hid hy
  clear hx hy
  simp only at hA hCx hCy
  generalize hf : freeB ⟨op, d, a, b1, m⟩ ⟨op', d', a', b1', m'⟩ = F at *
  have hbw : b < w.heap.size := by have := hBB.out; omega
  clear hf
  go_enter Try.func56, Try.ntmps56
  go_wp2_with (fail)
  refine wp_region_any (by kernel_rfl) ?_
  try (change wpAny _ _ _ _ _ _ _ (World.drew _))
  refine wpAny_take (i := 0) (v := ?_) rfl (by kernel_rfl) (by kernel_rfl) (by kernel_rfl) (fun _ _ _ h => h) (Or.inl ⟨by rfl, ?_⟩) ?_
  rotate_left 1
  · (intro w; go_simp; try with_reducible rfl)
  try simp only [Act.put, List.setIfInBounds_toArray, List.set_cons_zero, List.set_cons_succ, List.getElem_toArray, List.getElem_cons_zero, List.getElem_cons_succ]
  refine wpAny_ready (rs := [1]) (by kernel_rfl) (by simp) ?_
  refine AllReady.cons rfl (fun K hK => ?_) (AllReady.nil)
  try simp only [List.setIfInBounds_toArray, List.set_cons_zero, List.set_cons_succ, List.getElem_toArray, List.getElem_cons_zero, List.getElem_cons_succ]
  (first | (go_simp; go_at_call 136; (with_reducible refine H.out.mono ?_); rintro e w2 ⟨rfl, hb2⟩; obtain ⟨c1, c2, c3, c4, c5⟩ := hCx.out; obtain ⟨d1, d2, d3, d4, d5⟩ := hCy.out; have c1 := (hb2.cell (by exact hbw)).trans c1; have c2 := (hb2.cell (by exact hbw)).trans c2; have c3 := (hb2.cell (by exact hbw)).trans c3; have c4 := (hb2.cell (by exact hbw)).trans c4; have c5 := (hb2.cell (by exact hbw)).trans c5; have d1 := (hb2.cell (by exact hbw)).trans d1; have d2 := (hb2.cell (by exact hbw)).trans d2; have d3 := (hb2.cell (by exact hbw)).trans d3; have d4 := (hb2.cell (by exact hbw)).trans d4; have d5 := (hb2.cell (by exact hbw)).trans d5) | (go_simp; go_at_call 169; (with_reducible refine (hX.out _).mono ?_); rintro e w' ⟨rfl, rfl⟩) | (go_simp; go_at_call 170; (with_reducible refine (hA.out _).mono ?_); rintro e w3 ⟨rfl, hb3⟩))
  try go_simp
  try (refine hK _ _ ?_; clear hK K)
  refine wpAny_take (i := 2) (v := ?_) rfl (by kernel_rfl) (by kernel_rfl) (by kernel_rfl) (fun _ _ _ h => h) (Or.inl ⟨by rfl, ?_⟩) ?_
  rotate_left 1
  · (intro w; go_simp; try with_reducible rfl)
  try simp only [Act.put, List.setIfInBounds_toArray, List.set_cons_zero, List.set_cons_succ, List.getElem_toArray, List.getElem_cons_zero, List.getElem_cons_succ]
  refine wpAny_take (i := 3) (v := ?_) rfl (by kernel_rfl) (by kernel_rfl) (by kernel_rfl) (fun _ _ _ h => h) (Or.inl ⟨by rfl, ?_⟩) ?_
  rotate_left 1
  · (intro w; go_simp; try with_reducible rfl)
  try simp only [Act.put, List.setIfInBounds_toArray, List.set_cons_zero, List.set_cons_succ, List.getElem_toArray, List.getElem_cons_zero, List.getElem_cons_succ]
  refine wpAny_take (i := 4) (v := ?_) rfl (by kernel_rfl) (by kernel_rfl) (by kernel_rfl) (fun _ _ _ h => h) (Or.inl ⟨by rfl, ?_⟩) ?_
  rotate_left 1
  · (intro w; go_simp; try with_reducible rfl)
  try simp only [Act.put, List.setIfInBounds_toArray, List.set_cons_zero, List.set_cons_succ, List.getElem_toArray, List.getElem_cons_zero, List.getElem_cons_succ]
  refine wpAny_take (i := 5) (v := ?_) rfl (by kernel_rfl) (by kernel_rfl) (by kernel_rfl) (fun _ _ _ h => h) (Or.inl ⟨by rfl, ?_⟩) ?_
  rotate_left 1
  · (intro w; go_simp; try with_reducible rfl)
  try simp only [Act.put, List.setIfInBounds_toArray, List.set_cons_zero, List.set_cons_succ, List.getElem_toArray, List.getElem_cons_zero, List.getElem_cons_succ]
  refine wpAny_take (i := 6) (v := ?_) rfl (by kernel_rfl) (by kernel_rfl) (by kernel_rfl) (fun _ _ _ h => h) (Or.inl ⟨by rfl, ?_⟩) ?_
  rotate_left 1
  · (intro w; go_simp; try with_reducible rfl)
  try simp only [Act.put, List.setIfInBounds_toArray, List.set_cons_zero, List.set_cons_succ, List.getElem_toArray, List.getElem_cons_zero, List.getElem_cons_succ]
  refine wpAny_take (i := 7) (v := ?_) rfl (by kernel_rfl) (by kernel_rfl) (by kernel_rfl) (fun _ _ _ h => h) (Or.inl ⟨by rfl, ?_⟩) ?_
  rotate_left 1
  · (intro w; go_simp; try with_reducible rfl)
  try simp only [Act.put, List.setIfInBounds_toArray, List.set_cons_zero, List.set_cons_succ, List.getElem_toArray, List.getElem_cons_zero, List.getElem_cons_succ]
  refine wpAny_ready (rs := [8]) (by kernel_rfl) (by simp) ?_
  refine AllReady.cons rfl (fun K hK => ?_) (AllReady.nil)
  try simp only [List.setIfInBounds_toArray, List.set_cons_zero, List.set_cons_succ, List.getElem_toArray, List.getElem_cons_zero, List.getElem_cons_succ]
  (first | (go_simp; go_at_call 136; (with_reducible refine H.out.mono ?_); rintro e w2 ⟨rfl, hb2⟩; obtain ⟨c1, c2, c3, c4, c5⟩ := hCx.out; obtain ⟨d1, d2, d3, d4, d5⟩ := hCy.out; have c1 := (hb2.cell (by exact hbw)).trans c1; have c2 := (hb2.cell (by exact hbw)).trans c2; have c3 := (hb2.cell (by exact hbw)).trans c3; have c4 := (hb2.cell (by exact hbw)).trans c4; have c5 := (hb2.cell (by exact hbw)).trans c5; have d1 := (hb2.cell (by exact hbw)).trans d1; have d2 := (hb2.cell (by exact hbw)).trans d2; have d3 := (hb2.cell (by exact hbw)).trans d3; have d4 := (hb2.cell (by exact hbw)).trans d4; have d5 := (hb2.cell (by exact hbw)).trans d5) | (go_simp; go_at_call 169; (with_reducible refine (hX.out _).mono ?_); rintro e w' ⟨rfl, rfl⟩) | (go_simp; go_at_call 170; (with_reducible refine (hA.out _).mono ?_); rintro e w3 ⟨rfl, hb3⟩))
  try go_simp
  try (refine hK _ _ ?_; clear hK K)
  refine wpAny_take (i := 9) (v := ?_) rfl (by kernel_rfl) (by kernel_rfl) (by kernel_rfl) (fun _ _ _ h => h) (Or.inl ⟨by rfl, ?_⟩) ?_
  rotate_left 1
  · (intro w; go_simp; try with_reducible rfl)
  try simp only [Act.put, List.setIfInBounds_toArray, List.set_cons_zero, List.set_cons_succ, List.getElem_toArray, List.getElem_cons_zero, List.getElem_cons_succ]
  refine wpAny_take (i := 10) (v := ?_) rfl (by kernel_rfl) (by kernel_rfl) (by kernel_rfl) (fun _ _ _ h => h) (Or.inl ⟨by rfl, ?_⟩) ?_
  rotate_left 1
  · (intro w; go_simp; try with_reducible rfl)
  try simp only [Act.put, List.setIfInBounds_toArray, List.set_cons_zero, List.set_cons_succ, List.getElem_toArray, List.getElem_cons_zero, List.getElem_cons_succ]
  refine wpAny_take (i := 11) (v := ?_) rfl (by kernel_rfl) (by kernel_rfl) (by kernel_rfl) (fun _ _ _ h => h) (Or.inl ⟨by rfl, ?_⟩) ?_
  rotate_left 1
  · (intro w; go_simp; try with_reducible rfl)
  try simp only [Act.put, List.setIfInBounds_toArray, List.set_cons_zero, List.set_cons_succ, List.getElem_toArray, List.getElem_cons_zero, List.getElem_cons_succ]
  refine wpAny_take (i := 12) (v := ?_) rfl (by kernel_rfl) (by kernel_rfl) (by kernel_rfl) (fun _ _ _ h => h) (Or.inl ⟨by rfl, ?_⟩) ?_
  rotate_left 1
  · (intro w; go_simp; try with_reducible rfl)
  try simp only [Act.put, List.setIfInBounds_toArray, List.set_cons_zero, List.set_cons_succ, List.getElem_toArray, List.getElem_cons_zero, List.getElem_cons_succ]
  refine wpAny_take (i := 13) (v := ?_) rfl (by kernel_rfl) (by kernel_rfl) (by kernel_rfl) (fun _ _ _ h => h) (Or.inl ⟨by rfl, ?_⟩) ?_
  rotate_left 1
  · (intro w; go_simp; try with_reducible rfl)
  try simp only [Act.put, List.setIfInBounds_toArray, List.set_cons_zero, List.set_cons_succ, List.getElem_toArray, List.getElem_cons_zero, List.getElem_cons_succ]
  refine wpAny_take (i := 14) (v := ?_) rfl (by kernel_rfl) (by kernel_rfl) (by kernel_rfl) (fun _ _ _ h => h) (Or.inl ⟨by rfl, ?_⟩) ?_
  rotate_left 1
  · (intro w; go_simp; try with_reducible rfl)
  try simp only [Act.put, List.setIfInBounds_toArray, List.set_cons_zero, List.set_cons_succ, List.getElem_toArray, List.getElem_cons_zero, List.getElem_cons_succ]
  refine wpAny_take (i := 16) (v := ?_) rfl (by kernel_rfl) (by kernel_rfl) (by kernel_rfl) (fun _ _ _ h => h) (Or.inl ⟨by rfl, ?_⟩) ?_
  rotate_left 1
  · (intro w; go_simp; try with_reducible rfl)
  try simp only [Act.put, List.setIfInBounds_toArray, List.set_cons_zero, List.set_cons_succ, List.getElem_toArray, List.getElem_cons_zero, List.getElem_cons_succ]
  refine wpAny_take (i := 17) (v := ?_) rfl (by kernel_rfl) (by kernel_rfl) (by kernel_rfl) (fun _ _ _ h => h) (Or.inl ⟨by rfl, ?_⟩) ?_
  rotate_left 1
  · (intro w; go_simp; try with_reducible rfl)
  try simp only [Act.put, List.setIfInBounds_toArray, List.set_cons_zero, List.set_cons_succ, List.getElem_toArray, List.getElem_cons_zero, List.getElem_cons_succ]
  refine wpAny_take (i := 18) (v := ?_) rfl (by kernel_rfl) (by kernel_rfl) (by kernel_rfl) (fun _ _ _ h => h) (Or.inl ⟨by rfl, ?_⟩) ?_
  rotate_left 1
  · (intro w; go_simp; try with_reducible rfl)
  try simp only [Act.put, List.setIfInBounds_toArray, List.set_cons_zero, List.set_cons_succ, List.getElem_toArray, List.getElem_cons_zero, List.getElem_cons_succ]
  refine wpAny_take (i := 19) (v := ?_) rfl (by kernel_rfl) (by kernel_rfl) (by kernel_rfl) (fun _ _ _ h => h) (Or.inl ⟨by rfl, ?_⟩) ?_
  rotate_left 1
  · (intro w; go_simp; try with_reducible rfl)
  try simp only [Act.put, List.setIfInBounds_toArray, List.set_cons_zero, List.set_cons_succ, List.getElem_toArray, List.getElem_cons_zero, List.getElem_cons_succ]
  refine wpAny_ready (rs := [15, 20]) (by kernel_rfl) (by simp) ?_
  refine AllReady.cons rfl (fun K hK => ?_) (AllReady.cons rfl (fun K hK => ?_) (AllReady.nil))
  try simp only [List.setIfInBounds_toArray, List.set_cons_zero, List.set_cons_succ, List.getElem_toArray, List.getElem_cons_zero, List.getElem_cons_succ]
  go_simp
  try (refine hK _ _ ?_; clear hK K)
  refine wpAny_ready (rs := [20]) (by kernel_rfl) (by simp) ?_
  refine AllReady.cons rfl (fun K hK => ?_) (AllReady.nil)
  try simp only [List.setIfInBounds_toArray, List.set_cons_zero, List.set_cons_succ, List.getElem_toArray, List.getElem_cons_zero, List.getElem_cons_succ]
  go_simp
  try (refine hK _ _ ?_; clear hK K)
  refine wpAny_ready (rs := [21]) (by kernel_rfl) (by simp) ?_
  refine AllReady.cons rfl (fun K hK => ?_) (AllReady.nil)
  try simp only [List.setIfInBounds_toArray, List.set_cons_zero, List.set_cons_succ, List.getElem_toArray, List.getElem_cons_zero, List.getElem_cons_succ]
  (first | (go_simp; go_at_call 136; (with_reducible refine H.out.mono ?_); rintro e w2 ⟨rfl, hb2⟩; obtain ⟨c1, c2, c3, c4, c5⟩ := hCx.out; obtain ⟨d1, d2, d3, d4, d5⟩ := hCy.out; have c1 := (hb2.cell (by exact hbw)).trans c1; have c2 := (hb2.cell (by exact hbw)).trans c2; have c3 := (hb2.cell (by exact hbw)).trans c3; have c4 := (hb2.cell (by exact hbw)).trans c4; have c5 := (hb2.cell (by exact hbw)).trans c5; have d1 := (hb2.cell (by exact hbw)).trans d1; have d2 := (hb2.cell (by exact hbw)).trans d2; have d3 := (hb2.cell (by exact hbw)).trans d3; have d4 := (hb2.cell (by exact hbw)).trans d4; have d5 := (hb2.cell (by exact hbw)).trans d5) | (go_simp; go_at_call 169; (with_reducible refine (hX.out _).mono ?_); rintro e w' ⟨rfl, rfl⟩) | (go_simp; go_at_call 170; (with_reducible refine (hA.out _).mono ?_); rintro e w3 ⟨rfl, hb3⟩))
  try go_simp
  try (refine hK _ _ ?_; clear hK K)
  refine wpAny_take (i := 22) (v := ?_) rfl (by kernel_rfl) (by kernel_rfl) (by kernel_rfl) (fun _ _ _ h => h) (Or.inl ⟨by rfl, ?_⟩) ?_
  rotate_left 1
  · (intro w; go_simp; try with_reducible rfl)
  try simp only [Act.put, List.setIfInBounds_toArray, List.set_cons_zero, List.set_cons_succ, List.getElem_toArray, List.getElem_cons_zero, List.getElem_cons_succ]
  refine wpAny_take (i := 23) (v := ?_) rfl (by kernel_rfl) (by kernel_rfl) (by kernel_rfl) (fun _ _ _ h => h) (Or.inl ⟨by rfl, ?_⟩) ?_
  rotate_left 1
  · (intro w; go_simp; try with_reducible rfl)
  try simp only [Act.put, List.setIfInBounds_toArray, List.set_cons_zero, List.set_cons_succ, List.getElem_toArray, List.getElem_cons_zero, List.getElem_cons_succ]
  refine wpAny_done (by kernel_rfl) ?_ _
  rotate_left 1
  try simp only [List.setIfInBounds_toArray, List.set_cons_zero, List.set_cons_succ, List.getElem_toArray, List.getElem_cons_zero, List.getElem_cons_succ]
  go_simp
  try (refine hK _ _ ?_; clear hK K)
  refine wpAny_ready (rs := [15]) (by kernel_rfl) (by simp) ?_
  refine AllReady.cons rfl (fun K hK => ?_) (AllReady.nil)
  try simp only [List.setIfInBounds_toArray, List.set_cons_zero, List.set_cons_succ, List.getElem_toArray, List.getElem_cons_zero, List.getElem_cons_succ]
  go_simp
  try (refine hK _ _ ?_; clear hK K)
  refine wpAny_ready (rs := [21]) (by kernel_rfl) (by simp) ?_
  refine AllReady.cons rfl (fun K hK => ?_) (AllReady.nil)
  try simp only [List.setIfInBounds_toArray, List.set_cons_zero, List.set_cons_succ, List.getElem_toArray, List.getElem_cons_zero, List.getElem_cons_succ]
  (first | (go_simp; go_at_call 136; (with_reducible refine H.out.mono ?_); rintro e w2 ⟨rfl, hb2⟩; obtain ⟨c1, c2, c3, c4, c5⟩ := hCx.out; obtain ⟨d1, d2, d3, d4, d5⟩ := hCy.out; have c1 := (hb2.cell (by exact hbw)).trans c1; have c2 := (hb2.cell (by exact hbw)).trans c2; have c3 := (hb2.cell (by exact hbw)).trans c3; have c4 := (hb2.cell (by exact hbw)).trans c4; have c5 := (hb2.cell (by exact hbw)).trans c5; have d1 := (hb2.cell (by exact hbw)).trans d1; have d2 := (hb2.cell (by exact hbw)).trans d2; have d3 := (hb2.cell (by exact hbw)).trans d3; have d4 := (hb2.cell (by exact hbw)).trans d4; have d5 := (hb2.cell (by exact hbw)).trans d5) | (go_simp; go_at_call 169; (with_reducible refine (hX.out _).mono ?_); rintro e w' ⟨rfl, rfl⟩) | (go_simp; go_at_call 170; (with_reducible refine (hA.out _).mono ?_); rintro e w3 ⟨rfl, hb3⟩))
  try go_simp
  try (refine hK _ _ ?_; clear hK K)
  refine wpAny_take (i := 22) (v := ?_) rfl (by kernel_rfl) (by kernel_rfl) (by kernel_rfl) (fun _ _ _ h => h) (Or.inl ⟨by rfl, ?_⟩) ?_
  rotate_left 1
  · (intro w; go_simp; try with_reducible rfl)
  try simp only [Act.put, List.setIfInBounds_toArray, List.set_cons_zero, List.set_cons_succ, List.getElem_toArray, List.getElem_cons_zero, List.getElem_cons_succ]
  refine wpAny_take (i := 23) (v := ?_) rfl (by kernel_rfl) (by kernel_rfl) (by kernel_rfl) (fun _ _ _ h => h) (Or.inl ⟨by rfl, ?_⟩) ?_
  rotate_left 1
  · (intro w; go_simp; try with_reducible rfl)
  try simp only [Act.put, List.setIfInBounds_toArray, List.set_cons_zero, List.set_cons_succ, List.getElem_toArray, List.getElem_cons_zero, List.getElem_cons_succ]
  refine wpAny_done (by kernel_rfl) ?_ _
  rotate_left 1
  all_goals
    have hbb2 := Lib.hid (hB0.out.trans hb2)
    have hz2 := hb2.size
    have hz3 := hb3.size
    have hz2' : w.heap.size ≤ w2.heap.size := hz2
    have hbb3 := Lib.hid (hbb2.out.trans (hb3.mono hz2'))
    have hE3 := Lib.hid (hE.out.below hbb3.out hBB.out)
    clear hb2 hb3 c1 c2 c3 c4 c5 d1 d2 d3 d4 d5
    cases F
    · have hK : Hid (swOk es n = false) := hK0.out
      have hR := Lib.hid (swapR_no hK.out)
      go_wp2
      go_ret2
      rw [hR.out, hK.out]; exact ⟨none, 0, rfl, OK.nil _ _ _ _, hbb3.out⟩
    have hK : Hid (swOk es n = true) := hK0.out
    have hR := Lib.hid (hR0.out hK.out)
    obtain ⟨i0, hi, hz0, hz1, hz2x⟩ := info_parts Try.infoInstr
    have hz3' : Hid (w.heap.size ≤ w3.heap.size) := Nat.le_trans hz2' hz3
    have hBz : Hid (B ≤ w3.heap.size) := Nat.le_trans hBB.out hz3'.out
    have hb3w : Hid (b < w3.heap.size) := Nat.lt_of_lt_of_le hbB hBz.out
    have hb0 := Lib.hid ((Below.refl w3.heap.size w3).alloc (Nat.le_refl _) (.cells #[] 56))
    have hnews := Lib.hid ((hE3.out.below hb0.out (by have := hBB.out; omega)).news In.hk)
    have hown := Lib.hid (World.ownsRow_made (base := w3.heap.size) (e := 56) (size := 5) w3 #[] 0 (Nat.le_refl _) (by unfold maxLen; omega) (by simp))
    go_wp2_with (at_builtin; refine wpList_append_src rfl (.tmp 31) (.tmp 32) 42 rfl w3.heap.size 56 i0 _ 5 48 Try.underlying42 hi hz0 hz1 hz2x rfl (by decide) _ 0 [] rfl hown.out (some ⟨b, o, none⟩) es.length c (es.flatMap In.enc) rfl (kflat_len In.hk es) hnews.out (five_ones es) (by unfold maxLen; omega) (by omega) (by simp) ?_; intro v' w4 hown' hgrow _; simp only [Nat.zero_add, List.nil_append] at hown'; have ho4 := OK.ofRow hown' rfl; have hb4 : Below w3.heap.size w3 w4 := (hb0.out.grown hgrow (by simp) (fun k hk => (by cases hk; exact Nat.le_refl _))); have hz4 := hb4.size; have hbb4 := Lib.hid (hbb3.out.trans (hb4.mono hz3'.out)); obtain ⟨⟨c1, c2, c3, c4, c5⟩, ⟨d1, d2, d3, d4, d5⟩⟩ := code_two (hE3.out.below hb4 hBz.out) hn hxx.out hyy.out; simp only at c1 c2 c3 c4 c5 d1 d2 d3 d4 d5; obtain ⟨g, cap, rest, rfl, hgl, hgh, hlc, hcm, hcb, hcl⟩ := OK.some' ho4 (Nat.lt_of_le_of_lt (Nat.zero_le _) hn); have hCB := Lib.hid hcb; have hgl' := Lib.hid hgl; have hcl' := Lib.hid hcl; have hcm' := Lib.hid hcm; have hlc' := Lib.hid hlc; obtain ⟨z0, z1, z2, z3, z4, p1, p2, p3, p4, p5⟩ := In.cellsB hcb n hn'; obtain ⟨y0, y1, y2, y3, y4, q1, q2, q3, q4, q5⟩ := In.cellsB hcb (n + 1) hn; have f1 := hcb.frozen (n * 5); have f2 := hcb.frozen (n * 5 + 1); have f3 := hcb.frozen (n * 5 + 2); have f4 := hcb.frozen (n * 5 + 3); have f5 := hcb.frozen (n * 5 + 4); have g1 := hcb.frozen ((n + 1) * 5); have g2 := hcb.frozen ((n + 1) * 5 + 1); have g3 := hcb.frozen ((n + 1) * 5 + 2); have g4 := hcb.frozen ((n + 1) * 5 + 3); have g5 := hcb.frozen ((n + 1) * 5 + 4); have hne : ¬ b = g := (fun e => by rw [e] at hb3w; exact absurd (Nat.lt_of_lt_of_le hb3w.out hgl) (Nat.lt_irrefl _)); have hne' : ¬ g = b := fun h => hne h.symm; clear hcb ho4 hown' hgrow hcl hcm hgl hgh hb4 hi hz0 hz1 hz2x)
    have hgw : w.heap.size ≤ g := Nat.le_trans hz3'.out hgl'.out
    have h1 := hCB.out.store In.hk n hn' ⟨op', d', a', b1', m'⟩
    have h2 := h1.store In.hk (n + 1) (by rw [List.length_set]; exact hn) ⟨op, d, a, b1, m⟩
    have hle : ((es.set n (⟨op', d', a', b1', m'⟩ : In)).set (n + 1) ⟨op, d, a, b1, m⟩).length = es.length := by rw [List.length_set, List.length_set]
    have h3 := OK.close (lo := w.heap.size) In.hk h2 hgw (CB.lt h2) (by rw [hle]; exact hlc) hcm'.out (by have hcl := hcl'.out; rw [List.length_append, kflat_len In.hk, hle]; rw [List.length_append, kflat_len In.hk] at hcl; exact hcl)
    have hfin := Lib.hid h3
    have hle' := Lib.hid hle
    have hbf := Lib.hid (below_setCells (In.enc ⟨op, d, a, b1, m⟩) g ((n + 1) * 5) (below_setCells (In.enc ⟨op', d', a', b1', m'⟩) g (n * 5) hbb4.out hgw) hgw)
    clear h1 h2 h3 hle
    simp only [setCells, In.enc, Nat.add_assoc, Nat.reduceAdd] at hfin hbf
    clear c1 c2 c3 c4 c5 d1 d2 d3 d4 d5 p1 p2 p3 p4 p5 q1 q2 q3 q4 q5 f1 f2 f3 f4 f5 g1 g2 g3 g4 g5 hCB
    generalize (World.setCell _ _ _) = W at hfin hbf ⊢
    generalize ((es.set n (⟨op', d', a', b1', m'⟩ : In)).set (n + 1) ⟨op, d, a, b1, m⟩) = Z at *
    go_ret2
    rw [hR.out, hK.out]
    refine ⟨some ⟨g, 0, none⟩, cap, by rw [hle'.out]; rfl, ?_, ?_⟩
    · exact hfin.out
    · first | exact hbf.out | exact hbf.out.drew
end Go.Proofs.Ytmhdijklindipaa

/- Swaps of a block: plain. -/
namespace Go.Proofs.Ytmhdijklindipaa
open Go.RowKit
set_option linter.unusedVariables false

theorem getD_in {es : List In} {k : Nat} (h : k < es.length) : es.getD k zeroIn = es[k] := by rw [List.getD_eq_getElem?_getD, List.getElem?_eq_getElem h]; rfl
def blkOk (es : List In) : Bool := decide (es.length ≤ 20) && okCode es
theorem blkOk_parts {es : List In} (h : blkOk es = true) : es.length ≤ 20 ∧ okCode es = true := by
  unfold blkOk at h; rw [Bool.and_eq_true] at h; exact ⟨of_decide_eq_true h.1, h.2⟩
abbrev Mv := List In × List Int
/-- One swap: the code and the path. -/
def mvS (st : Mv) (i : Int) : Option Mv := if swOk st.1 i = true ∧ st.2.length ≠ 100 then some (swapR st.1 i, st.2 ++ [i]) else none
def folS (st : Mv) : List Int → Option Mv
  | [] => some st
  | i :: p => (mvS st i).bind fun s => folS s p
theorem folS_append (q : List Int) : ∀ (p : List Int) (st : Mv), folS st (p ++ q) = (folS st p).bind fun s => folS s q
  | [], st => rfl
  | i :: p, st => by
    show (mvS st i).bind (fun s => folS s (p ++ q)) = ((mvS st i).bind fun s => folS s p).bind fun s => folS s q
    rw [Option.bind_assoc]
    congr 1
    funext s
    exact folS_append q p s
theorem folS_one (st : Mv) (i : Int) : folS st [i] = mvS st i := by
  show (mvS st i).bind (fun s => some s) = mvS st i
  cases mvS st i <;> rfl
theorem folS_succ (st : Mv) {p : List Int} {k : Nat} (h : k < p.length) : folS st (p.take (k + 1)) = (folS st (p.take k)).bind fun s => mvS s p[k] := by
  rw [List.take_succ_eq_append_getElem h, folS_append]
  congr 1
  funext s
  exact folS_one s _
theorem folS_no {st : Mv} {p : List Int} {k : Nat} (h : folS st (p.take k) = none) : folS st p = none := by
  rw [← List.take_append_drop k p, folS_append, h]; rfl

theorem okCode_of {es : List In} (h1 : es.length ≤ 40) (h2 : ∀ x ∈ es, goodIn x = true) : okCode es = true := by
  unfold okCode; rw [Bool.and_eq_true]; exact ⟨decide_eq_true h1, List.all_eq_true.2 h2⟩
theorem swOk_parts {es : List In} {i : Int} (h : swOk es i = true) : okCode es = true ∧ inR i 0 (es.length - 2) = true ∧ freeB (es.getD i.toNat zeroIn) (es.getD (i.toNat + 1) zeroIn) = true := by
  unfold swOk at h; simp only [Bool.and_eq_true] at h; exact ⟨h.1.1, h.1.2, h.2⟩
theorem swapR_inv {es : List In} {i : Int} (h : swOk es i = true) : okCode (swapR es i) = true ∧ (swapR es i).length = es.length := by
  obtain ⟨h1, h2, h3⟩ := swOk_parts h
  obtain ⟨n, rfl, hn⟩ := inR_nat h2
  have e : swapR es n = (es.set n (es.getD (n + 1) zeroIn)).set (n + 1) (es.getD n zeroIn) := by rw [swapR, if_pos h, Int.toNat_natCast]
  have hl : (swapR es n).length = es.length := by rw [e, List.length_set, List.length_set]
  have g : ∀ m, m < es.length → es.getD m zeroIn ∈ es := fun m hm => by rw [List.getD_eq_getElem?_getD, List.getElem?_eq_getElem hm]; exact List.getElem_mem hm
  refine ⟨okCode_of (by rw [hl]; exact okCode_len h1) fun x hx => ?_, hl⟩
  rw [e] at hx
  have ha := okCode_all h1
  rcases List.mem_or_eq_of_mem_set hx with hx | rfl
  · rcases List.mem_or_eq_of_mem_set hx with hx | rfl
    · exact ha x hx
    · exact ha _ (g _ (by omega))
  · exact ha _ (g _ (by omega))
theorem mvS_some {st s : Mv} {i : Int} (h : mvS st i = some s) : swOk st.1 i = true ∧ st.2.length ≠ 100 ∧ s = (swapR st.1 i, st.2 ++ [i]) := by
  unfold mvS at h
  split at h
  · rename_i hc; injection h with h; exact ⟨hc.1, hc.2, h.symm⟩
  · cases h
/-- What every state on the way keeps. -/
structure MvInv (a : List In) (st : Mv) : Prop where
  ok : okCode st.1 = true
  len : st.1.length = a.length
  most : st.2.length ≤ 100
theorem MvInv.step {a : List In} {st s : Mv} {i : Int} (h : MvInv a st) (hm : mvS st i = some s) : MvInv a s ∧ s.2 = st.2 ++ [i] := by
  obtain ⟨h1, h2, rfl⟩ := mvS_some hm
  obtain ⟨h3, h4⟩ := swapR_inv h1
  have := h.most
  exact ⟨⟨h3, by show (swapR st.1 i).length = _; rw [h4]; exact h.len, by show (st.2 ++ [i]).length ≤ 100; rw [List.length_append, List.length_singleton]; omega⟩, rfl⟩
theorem MvInv.fol {a : List In} : ∀ (p : List Int) {st s : Mv}, MvInv a st → folS st p = some s → MvInv a s ∧ s.2 = st.2 ++ p ∧ allIn p 0 ((a.length : Int) - 2) = true
  | [], st, s, h, hm => by
    injection hm with hm; subst hm; exact ⟨h, by simp, rfl⟩
  | i :: p, st, s, h, hm => by
    have hm' : (mvS st i).bind (fun s => folS s p) = some s := hm
    cases e : mvS st i with
    | none => rw [e] at hm'; cases hm'
    | some s1 =>
      rw [e] at hm'
      obtain ⟨h1, h2⟩ := h.step e
      obtain ⟨h3, h4, h5⟩ := MvInv.fol p h1 hm'
      refine ⟨h3, by rw [h4, h2, List.append_assoc]; rfl, ?_⟩
      have hi := (swOk_parts (mvS_some e).1).2.1
      rw [h.len] at hi
      show (inR i 0 ((a.length : Int) - 2) && allIn p 0 ((a.length : Int) - 2)) = true
      rw [hi, h5]; rfl
theorem MvInv.start {a : List In} (h : okCode a = true) : MvInv a (a, []) := ⟨h, rfl, Nat.zero_le _⟩

def folR (es : List In) (path : List Int) : Option Mv := if blkOk es = true then folS (es, []) path else none
def folC (es : List In) (path : List Int) : List In := ((folR es path).map Prod.fst).getD []
def folB (es : List In) (path : List Int) : Bool := (folR es path).isSome
theorem folR_no {es : List In} (path : List Int) (h : blkOk es = false) : folR es path = none := by unfold folR; rw [h]; rfl
theorem folR_yes {es : List In} (path : List Int) (h : blkOk es = true) : folR es path = folS (es, []) path := by unfold folR; rw [if_pos h]
theorem fol_none {es : List In} {path : List Int} (h : folR es path = none) : folC es path = [] ∧ folB es path = false := by unfold folC folB; rw [h]; exact ⟨rfl, rfl⟩
theorem fol_some {es : List In} {path : List Int} {s : Mv} (h : folR es path = some s) : folC es path = s.1 ∧ folB es path = true := by unfold folC folB; rw [h]; exact ⟨rfl, rfl⟩
theorem folR_long {es : List In} {path : List Int} (h : 100 < path.length) : folR es path = none := by
  cases hb : blkOk es
  · exact folR_no path hb
  · rw [folR_yes path hb]
    cases e : folS (es, []) path with
    | none => rfl
    | some s =>
      obtain ⟨h1, h2, _⟩ := MvInv.fol path (MvInv.start (blkOk_parts hb).2) e
      have h3 := h1.most
      rw [h2] at h3
      simp at h3; omega
theorem folR_far {es : List In} {path : List Int} (h : allIn path 0 ((es.length : Int) - 2) = false) : folR es path = none := by
  cases hb : blkOk es
  · exact folR_no path hb
  · rw [folR_yes path hb]
    cases e : folS (es, []) path with
    | none => rfl
    | some s =>
      obtain ⟨_, _, h3⟩ := MvInv.fol path (MvInv.start (blkOk_parts hb).2) e
      rw [h] at h3; cases h3
theorem folC_len (es : List In) (path : List Int) : (folC es path).length ≤ 1048576 := by
  cases e : folR es path with
  | none => rw [(fol_none e).1]; simp
  | some s =>
    rw [(fol_some e).1]
    have hb : blkOk es = true := by
      cases hb : blkOk es
      · rw [folR_no path hb] at e; cases e
      · rfl
    rw [folR_yes path hb] at e
    have h1 := (MvInv.fol path (MvInv.start (blkOk_parts hb).2) e).1
    have := okCode_len h1.ok
    omega

/-- An instruction's first place. -/
def sameI (x y : In) : Bool := x.op.toList == y.op.toList && x.d == y.d && x.a == y.a && x.b == y.b && x.m == y.m
theorem sameI_comm (x y : In) : sameI x y = sameI y x := by
  unfold sameI
  rw [Bool.eq_iff_iff]
  simp only [Bool.and_eq_true, beq_iff_eq]
  constructor <;> rintro ⟨⟨⟨⟨h1, h2⟩, h3⟩, h4⟩, h5⟩ <;> exact ⟨⟨⟨⟨h1.symm, h2.symm⟩, h3.symm⟩, h4.symm⟩, h5.symm⟩
def iidx (xs : List In) (y : In) : Int := firstI (fun k => sameI (xs.getD k zeroIn) y) xs.length
/-- The swaps that bring the instruction at k + n to k. -/
def mvDn (k : Nat) : Nat → Mv → Option Mv
  | 0, st => some st
  | n + 1, st => (mvS st ((k + n : Nat) : Int)).bind (mvDn k n)
def spStep (st : Mv) (k : Nat) (x : In) : Option Mv := if iidx (st.1.drop k) x < 0 then none else mvDn k (iidx (st.1.drop k) x).toNat st
def spTo (a b : List In) : Nat → Option Mv
  | 0 => some (a, [])
  | k + 1 => (spTo a b k).bind fun s => spStep s k (b.getD k zeroIn)
theorem spTo_no {a b : List In} {k : Nat} (h : spTo a b k = none) : ∀ m, k ≤ m → spTo a b m = none := by
  intro m hm
  obtain ⟨d, rfl⟩ := Nat.exists_eq_add_of_le hm
  clear hm
  induction d with
  | zero => exact h
  | succ d ih => show (spTo a b (k + d)).bind _ = none; rw [ih]; rfl
theorem MvInv.dn {a : List In} (k : Nat) : ∀ (n : Nat) {st s : Mv}, MvInv a st → mvDn k n st = some s → MvInv a s
  | 0, st, s, h, hm => by injection hm with hm; subst hm; exact h
  | n + 1, st, s, h, hm => by
    have hm' : (mvS st ((k + n : Nat) : Int)).bind (mvDn k n) = some s := hm
    cases e : mvS st ((k + n : Nat) : Int) with
    | none => rw [e] at hm'; cases hm'
    | some s1 => rw [e] at hm'; exact MvInv.dn k n (h.step e).1 hm'
theorem MvInv.to {a b : List In} (ha : okCode a = true) : ∀ (k : Nat) {s : Mv}, spTo a b k = some s → MvInv a s
  | 0, s, h => by injection h with h; subst h; exact .start ha
  | k + 1, s, h => by
    have h' : (spTo a b k).bind (fun s => spStep s k (b.getD k zeroIn)) = some s := h
    cases e : spTo a b k with
    | none => rw [e] at h'; cases h'
    | some s1 =>
      rw [e] at h'
      have h2 : spStep s1 k (b.getD k zeroIn) = some s := h'
      unfold spStep at h2
      split at h2
      · cases h2
      · exact (MvInv.to ha k e).dn k _ h2
def spOk0 (a b : List In) : Bool := blkOk a && blkOk b && decide (a.length = b.length)
def spR (a b : List In) : Option Mv := if spOk0 a b = true then spTo a b b.length else none
def spP (a b : List In) : List Int := ((spR a b).map Prod.snd).getD []
def spB (a b : List In) : Bool := (spR a b).isSome
theorem sp_none {a b : List In} (h : spR a b = none) : spP a b = [] ∧ spB a b = false := by unfold spP spB; rw [h]; exact ⟨rfl, rfl⟩
theorem sp_some {a b : List In} {s : Mv} (h : spR a b = some s) : spP a b = s.2 ∧ spB a b = true := by unfold spP spB; rw [h]; exact ⟨rfl, rfl⟩
theorem spP_len (a b : List In) : (spP a b).length ≤ 1048576 := by
  cases e : spR a b with
  | none => rw [(sp_none e).1]; simp
  | some s =>
    rw [(sp_some e).1]
    unfold spR at e
    split at e
    · rename_i h
      unfold spOk0 at h
      simp only [Bool.and_eq_true] at h
      have := (MvInv.to (blkOk_parts h.1.1).2 _ e).most
      omega
    · cases e
end Go.Proofs.Ytmhdijklindipaa

/- Instructions compared by '==', and slices.Index of instructions. -/
namespace Go.Proofs.Ytmhdijklindipaa
open Go.RowKit
set_option linter.unusedVariables false
set_option maxRecDepth 100000
theorem in_guard : Try.prog.eqGuardType Try.prog.depth 56 = false := by kernel_rfl
theorem equalIn_in (op op' : ByteArray) (d a b m d' a' b' m' : Int) (w : World) : (Op.equalIn 10000 56 (.agg #[.string op, .int .i64 d, .int .i64 a, .int .i64 b, .int .i64 m]) (.agg #[.string op', .int .i64 d', .int .i64 a', .int .i64 b', .int .i64 m'])).run Try.prog w = .ok (sameI ⟨op, d, a, b, m⟩ ⟨op', d', a', b', m'⟩) w := by
  have u3 := Try.underlying3
  have a3 := Try.isAgg3
  have z3 := Try.sizeOf3
  have u9 := Try.underlying9
  have a9 := Try.isAgg9
  have z9 := Try.sizeOf9
  have hS : Try.prog.underlying 56 = some (.struct (Try.prog.fieldsOf 56)) := by kernel_rfl
  have hp : Try.prog.stoodInHeld 56 = false := by kernel_rfl
  rw [show (10000 : Nat) = 9999 + 1 from rfl, run_equalIn_agg w 9999 56 _ _ hS hp]
  simp only [Program.fieldsOf, Try.underlying56]
  unfold sameI
  go_simp
  by_cases h0 : op.toList = op'.toList <;> by_cases h1 : d = d' <;> by_cases h2 : a = a' <;> by_cases h3 : b = b' <;> by_cases h4 : m = m' <;> simp [h0, h1, h2, h3, h4]
theorem XB.new (w : World) (x : In) : XB (w.alloc (.cells #[.string x.op, .int .i64 x.d, .int .i64 x.a, .int .i64 x.b, .int .i64 x.m] 56)) w.heap.size x := heap_alloc_new w _

end Go.Proofs.Ytmhdijklindipaa

/- Slices of slices of ints. -/
namespace Go.Proofs.Ytmhdijklindipaa
open Go.RowKit
set_option linter.unusedVariables false

def encV (v : Value) : List Value := [v]
/-- A slice of slices of ints, read. -/
def XS (w : World) (L B : Nat) (A : Option Addr) (xss : List (List Int)) : Prop :=
  ∃ vs : List Value, vs.length = xss.length ∧ RS encV 1 w L B A vs ∧ ∀ i (h : i < vs.length) (h' : i < xss.length), ∃ Ai ci, vs[i] = .slice Ai (xss[i]).length ci ∧ IS w L B Ai xss[i]
theorem XS.below {w w' : World} {L B C : Nat} {A : Option Addr} {xss : List (List Int)} (h : XS w L B A xss) (hb : Below C w w') (hC : B ≤ C) : XS w' L B A xss := by
  obtain ⟨vs, hl, hr, hi⟩ := h
  exact ⟨vs, hl, hr.below hb hC, fun i h h' => by obtain ⟨Ai, ci, e, hx⟩ := hi i h h'; exact ⟨Ai, ci, e, hx.below hb hC⟩⟩
theorem XS.at {w : World} {L B : Nat} {A : Option Addr} {xss : List (List Int)} (h : XS w L B A xss) {i : Nat} (hi : i < xss.length) :
    ∃ b o Ai ci, A = some ⟨b, o, none⟩ ∧ b < B ∧ w.cell? ⟨b, o + i, none⟩ = some (.slice Ai (xss[i]).length ci) ∧ IS w L B Ai xss[i] := by
  obtain ⟨vs, hl, hr, hx⟩ := h
  obtain ⟨b, o, e, ⟨_, hb⟩, hc⟩ := hr (by omega)
  obtain ⟨Ai, ci, e2, hI⟩ := hx i (by omega) hi
  have h1 := hc i (by omega) 0 vs[i] rfl
  rw [e2] at h1
  exact ⟨b, o, Ai, ci, e, hb, by simpa using h1, hI⟩

end Go.Proofs.Ytmhdijklindipaa
