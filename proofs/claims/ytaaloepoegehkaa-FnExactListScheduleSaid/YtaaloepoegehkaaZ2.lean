/- Texts of this proof, one behind the other: NBC, NAM, NBB, NBD, NAN, NAQ. -/
import Derived.Test.YtaaloepoegehkaaZ7
import Derived.Test.YtaaloepoegehkaaZ6
import Derived.Test.YtaaloepoegehkaaZ3
import Derived.WalkKit
import Derived.WalkSpells
import Derived.WalkLawsBesides
import Derived.Lib.Hide
import Derived.Test.YtaaloepoegehkaaZ8
import Derived.Deep.RegionLaw
import Derived.Deep.RegionHeld3
import Derived.Deep.DeepCutAuto
import Derived.Deep.LoopGhost
import Derived.Laws.EntriesVeiled
import Derived.Test.YtaaloepoegehkaaZ9
/- Chapter 9: what lies in the boxes of listSchedule. -/
namespace Go.Proofs.Ytaaloepoegehkaa
open Go.RowKit
set_option linter.unusedVariables false
set_option maxRecDepth 100000

theorem CB.chgA {t : TypeId} {w w' : World} {g lo hi : Nat} {cur : List Value} (h : CB t w g cur) (hc : Chg lo hi w w') (hd : g < lo ∨ hi ≤ g) : CB t w' g cur := (hc.block g h.lt hd).trans h
theorem CB.far9 {t : TypeId} {w : World} {g q k : Nat} {v : Value} {cur : List Value} (h : CB t w q cur) (hne : q ≠ g) : CB t (w.setCell ⟨g, k, none⟩ v) q cur :=
  (Below.heap_setCell w ⟨g, k, none⟩ v q (by show q ≠ g; exact hne)).trans h
theorem IS.far9 {w : World} {L B g k : Nat} {v : Value} {A : Option Addr} {xs : List Int} (h : IS w L B A xs) (hd : g < L ∨ B ≤ g) : IS (w.setCell ⟨g, k, none⟩ v) L B A xs :=
  h.keep fun p h1 h2 => World.cell?_of_block (w := w) (Below.heap_setCell w ⟨g, k, none⟩ v p.block (by show p.block ≠ g; omega))
def chB (g2 g5 g6 g7 : Nat) : List Value := [.func (.func 148) #[] #[.pointer (some ⟨g5, 0, none⟩), .pointer (some ⟨g2, 0, none⟩), .pointer (some ⟨g7, 0, none⟩)], .func (.func 150) #[] #[.pointer (some ⟨g6, 0, none⟩)]]
/-- What lies in the boxes of listSchedule. -/
structure LsG (w0 : World) (g2 g5 g6 g7 g8 gx L1 B1 Lh Bh : Nat) (A An Ah : Option Addr) (c cn ch : Nat) (cs : List In) (cyc : List Int) (now : Int) (W : World) : Prop where
  st : LsSt g2 g5 g6 g7 L1 B1 gx (gx + 1) Lh Bh A An (some ⟨gx, 0, none⟩) Ah c cn cs.length ch cs (hL cs) cyc now W
  ib : IB W gx 3 cyc
  b8 : CB 160 W g8 (chB g2 g5 g6 g7)
  be : Below w0.heap.size w0 W
/-- How the boxes lie apart. -/
structure LsA (w0 : World) (g2 g5 g6 g7 g8 gx B1 Lh Bh : Nat) : Prop where
  l7 : w0.heap.size ≤ g7
  lx : w0.heap.size ≤ gx
  b1 : B1 ≤ g7
  bx : B1 ≤ gx
  hx : gx < Lh ∨ Bh ≤ gx
  h7 : g7 < Lh ∨ Bh ≤ g7
  x2 : g2 ≠ gx
  x5 : g5 ≠ gx
  x6 : g6 ≠ gx
  x7 : g7 ≠ gx
  x8 : g8 ≠ gx
  s2 : g2 ≠ g7
  s5 : g5 ≠ g7
  s6 : g6 ≠ g7
  s8 : g8 ≠ g7
theorem LsG.below {w0 : World} {g2 g5 g6 g7 g8 gx L1 B1 Lh Bh : Nat} {A An Ah : Option Addr} {c cn ch : Nat} {cs : List In} {cyc : List Int} {now : Int} {W W' : World} (h : LsG w0 g2 g5 g6 g7 g8 gx L1 B1 Lh Bh A An Ah c cn ch cs cyc now W) (hb : Below W.heap.size W W') :
    LsG w0 g2 g5 g6 g7 g8 gx L1 B1 Lh Bh A An Ah c cn ch cs cyc now W' :=
  ⟨h.st.below hb, h.ib.below hb h.ib.lt, CB.below h.b8 hb h.b8.lt, h.be.trans (hb.mono h.be.size)⟩
theorem LsG.put {w0 : World} {g2 g5 g6 g7 g8 gx L1 B1 Lh Bh : Nat} {A An Ah : Option Addr} {c cn ch : Nat} {cs : List In} {cyc : List Int} {now : Int} {W : World} (ha : LsA w0 g2 g5 g6 g7 g8 gx B1 Lh Bh) (h : LsG w0 g2 g5 g6 g7 g8 gx L1 B1 Lh Bh A An Ah c cn ch cs cyc now W) (i : Nat) (x : Int) :
    LsG w0 g2 g5 g6 g7 g8 gx L1 B1 Lh Bh A An Ah c cn ch cs (cyc.set i x) now (W.setCell ⟨gx, i, none⟩ (.int .i64 x)) := by
  have hs : (W.setCell ⟨gx, i, none⟩ (.int .i64 x)).heap.size = W.heap.size := World.size_setCell _ _ _
  have hi := h.ib.set i x
  have hb : Below gx W (W.setCell ⟨gx, i, none⟩ (.int .i64 x)) := (Below.refl gx W).setCell (p := ⟨gx, i, none⟩) (Nat.le_refl _) _
  exact ⟨⟨CB.far9 h.st.b2 ha.x2, CB.far9 h.st.b5 ha.x5, CB.far9 h.st.b6 ha.x6, CB.far9 h.st.b7 ha.x7, h.st.pn.below hb ha.bx, by rw [hs]; exact h.st.hB, hi.toIS, by rw [hs]; exact h.st.hB', h.st.ih.far9 ha.hx, by rw [hs]; exact h.st.hBh⟩, hi, CB.far9 h.b8 ha.x8, h.be.setCell (p := ⟨gx, i, none⟩) ha.lx _⟩
theorem LsG.tick {w0 : World} {g2 g5 g6 g7 g8 gx L1 B1 Lh Bh : Nat} {A An Ah : Option Addr} {c cn ch : Nat} {cs : List In} {cyc : List Int} {now : Int} {W : World} (ha : LsA w0 g2 g5 g6 g7 g8 gx B1 Lh Bh) (h : LsG w0 g2 g5 g6 g7 g8 gx L1 B1 Lh Bh A An Ah c cn ch cs cyc now W) (x : Int) :
    LsG w0 g2 g5 g6 g7 g8 gx L1 B1 Lh Bh A An Ah c cn ch cs cyc x (W.setCell ⟨g7, 0, none⟩ (.int .i64 x)) := by
  have hs : (W.setCell ⟨g7, 0, none⟩ (.int .i64 x)).heap.size = W.heap.size := World.size_setCell _ _ _
  have hi : IB (W.setCell ⟨g7, 0, none⟩ (.int .i64 x)) gx 3 cyc := (Below.heap_setCell W ⟨g7, 0, none⟩ (.int .i64 x) gx (by show gx ≠ g7; exact fun e => ha.x7 e.symm)).trans h.ib
  have hb : Below g7 W (W.setCell ⟨g7, 0, none⟩ (.int .i64 x)) := (Below.refl g7 W).setCell (p := ⟨g7, 0, none⟩) (Nat.le_refl _) _
  exact ⟨⟨CB.far9 h.st.b2 ha.s2, CB.far9 h.st.b5 ha.s5, CB.far9 h.st.b6 ha.s6, CB.set h.st.b7 0 _, h.st.pn.below hb ha.b1, by rw [hs]; exact h.st.hB, hi.toIS, by rw [hs]; exact h.st.hB', h.st.ih.far9 ha.h7, by rw [hs]; exact h.st.hBh⟩, hi, CB.far9 h.b8 ha.s8, h.be.setCell (p := ⟨g7, 0, none⟩) ha.l7 _⟩
end Go.Proofs.Ytaaloepoegehkaa

/- Chapter 9: heights of the model. -/
namespace Go.Proofs.Ytaaloepoegehkaa
open Go.RowKit
set_option linter.unusedVariables false
set_option maxRecDepth 100000

set_option maxHeartbeats 8000000 in
theorem orHeights_any (L B : Nat) (A : Option Addr) (c : Nat) (cs : List In) (w : World) (hl : cs.length ≤ 20) (hgood : ∀ x ∈ cs, goodIn x = true) (hes : RS In.enc 5 w L B A cs) (hB : B ≤ w.heap.size) :
    Calls Try.prog 141 #[.slice A cs.length c] w (FreshI w (hL cs)) := by
  have H := Lib.hid (orDelays_any L B A c cs w hl hgood hes hB)
  have hmk := run_make_ints cs.length (by omega)
  have hE := Lib.hid fun (W : World) (hW : Below w.heap.size w W) => hes.below hW hB
  have hRl := Lib.hid (dRows_len cs cs.length)
  have hRa := Lib.hid fun (i : Nat) (h : i < (dRows cs cs.length).length) => dRows_at cs cs.length h
  have hTl := Lib.hid (dTab_len cs)
  have hTa := Lib.hid fun (i j : Nat) (h : j < (dTab cs i cs.length).length) => dTab_at cs i cs.length h
  have hZ0 : Hid (zeros cs.length = hz cs cs.length) := (hz_top cs).symm
  have hZb := Lib.hid (hz_bot cs)
  have hZl := Lib.hid (hz_len cs)
  have hIl := Lib.hid (hzr_len cs)
  have hIz := Lib.hid (hzr_start cs)
  have hIe := Lib.hid fun (i : Nat) (h : i < cs.length) => hzr_end h
  have hIy := Lib.hid fun (i j : Nat) (hi : i < cs.length) (hij : i < j) (hj : j < cs.length) (h : 0 ≤ dT cs i j) => hzr_yes hi hij hj h
  have hIn := Lib.hid fun (i j : Nat) (h : ¬ 0 ≤ dT cs i j) => hzr_no h
  have hIb := Lib.hid fun (i j : Nat) (hi : i < cs.length) => hzr_bd hl j hi
  have hIg := Lib.hid fun (i j q : Nat) (h1 : i < q) (h2 : q < cs.length) => hzr_gt (j := j) h1 h2
  have hHb := Lib.hid fun (q : Nat) => hH_bd hl q
  have hDb := Lib.hid fun (i j : Nat) => dT_bd cs i j
  have hLl := Lib.hid (hL_len cs)
  have hGd := Lib.hid hgood
  have hCe : Hid (∀ i (h : i < cs.length), cstA cs i = (fm cs[i].op).c) := fun i h => by unfold cstA; rw [inAt_eq h]
  have hsub : IntKind.i64.wrap ((cs.length : Int) - 1) = (cs.length : Int) - 1 := IntWalk.i64_in _ (by omega)
  clear hes hgood hB
  generalize dRows cs cs.length = TT at *
  generalize dTab cs = T at *
  generalize dT cs = E at *
  generalize hz cs = HZ at *
  generalize hzr cs = HR at *
  generalize hL cs = HL at *
  generalize hH cs = HH at *
  generalize cstA cs = CA at *
  go_enter Try.func141, Try.ntmps141
  go_wp2_with (fail)
  refine H.out.mono ?_
  rintro e w1 ⟨At, ct, rfl, hox, hb1⟩
  have hXT := Lib.hid (OX.rs hox)
  have hB1 := Lib.hid hb1
  have hO0 : Hid (OW (w1.alloc (.cells (intCells (zeros cs.length)) 3)) w1.heap.size (w1.alloc (.cells (intCells (zeros cs.length)) 3)).heap.size (.slice (some ⟨w1.heap.size, 0, none⟩) cs.length cs.length) (HZ cs.length)) := by
    have h : IB (w1.alloc (.cells (intCells (zeros cs.length)) 3)) w1.heap.size 3 (zeros cs.length) := heap_alloc_new w1 _
    have h2 := OW.ofIB (lo := w1.heap.size) (hi := (w1.alloc (.cells (intCells (zeros cs.length)) 3)).heap.size) h (by simp [zeros]; omega) (Nat.le_refl _) (by simp)
    have hz : (zeros cs.length).length = cs.length := by simp [zeros]
    rw [hz, hZ0.out] at h2
    rw [hZ0.out]
    exact h2
  have hb2 := Lib.hid ((Below.refl w1.heap.size w1).alloc (Nat.le_refl _) (.cells (intCells (zeros cs.length)) 3))
  clear hox hb1
  rw [hRl.out]
  go_wp2_with (fail)
  clear hmk
  generalize hg : w1.heap.size = g at hO0 ⊢
  generalize w1.alloc (.cells (intCells (zeros cs.length)) 3) = W2 at *
  have hG := Lib.hid hg
  clear hg
  go_loopw [5] (fun q wr => ∃ k : Nat, k ≤ cs.length ∧ q = .int .i64 ((k : Int) - 1) ∧ OW wr g wr.heap.size (.slice (some ⟨g, 0, none⟩) cs.length cs.length) (HZ k) ∧ Below w1.heap.size w1 wr) (fun q _ => (intOf q + 1).toNat)
  case atStart => exact ⟨cs.length, Nat.le_refl _, rfl, hO0.out, hb2.out⟩
  case round =>
    clear hO0 hb2
    obtain ⟨k, hk, rfl, how, hbel⟩ := hrel
    have hO := Lib.hid how
    have hBL := Lib.hid hbel
    clear how hbel
    rcases Nat.eq_zero_or_pos k with rfl | hpos
    · have hfin := Lib.hid (hB1.out.trans (hBL.out.mono hB1.out.size))
      have hlg : w.heap.size ≤ g := by rw [← hG.out]; exact hB1.out.size
      have hO9 := Lib.hid (hO.out.lower hlg)
      rw [hZb.out] at hO9
      clear hlg
      go_wp2
      go_ret
      exact ⟨_, _, by rw [hLl.out]; rfl, by rw [hLl.out]; exact hO9.out, hfin.out⟩
    · obtain ⟨p, rfl⟩ : ∃ p, k = p + 1 := ⟨k - 1, by omega⟩
      have hp1 : (((p + 1 : Nat) : Int) - 1) = (p : Int) := by omega
      rw [hp1]
      clear hp1
      have hlt : p < cs.length := by omega
      have hji : (p : Int) < (cs.length : Int) := by omega
      have hj0 : (0 : Int) ≤ (p : Int) := by omega
      have hws : IntKind.i64.wrap ((p : Int) - 1) = (p : Int) - 1 := IntWalk.i64_in _ (by omega)
      have hbw := Lib.hid (hB1.out.trans (hBL.out.mono hB1.out.size))
      obtain ⟨b, o, rfl, ⟨_, hbB⟩, hc⟩ := In.cells (hE.out wr hbw.out) (by omega)
      obtain ⟨c1, _⟩ := hc p hlt
      have hok := (good_parts (hGd.out _ (List.getElem_mem hlt))).2.2.2.1
      have hce := hCe.out p hlt
      have hC := Lib.hid fun (W : World) => cdCost_any cs[p].op W hok
      rw [← hce] at hC
      clear hc hok hce
      generalize cs[p].op = op at *
      have hIp := Lib.hid (hIz.out p)
      obtain ⟨_, fp⟩ := OW.at9 hO.out p (by rw [hZl.out]; exact hlt)
      obtain ⟨op0, _⟩ := OW.at9 hO.out p (by rw [hZl.out]; exact hlt)
      have hP3 := hO.out.put9 p (CA p)
      rw [← hIp.out] at hP3
      have hzs : (wr.setCell ⟨g, p, none⟩ (.int .i64 (CA p))).heap.size = wr.heap.size := World.size_setCell _ _ _
      have hO3 := Lib.hid (show OW (wr.setCell ⟨g, p, none⟩ (.int .i64 (CA p))) g (wr.setCell ⟨g, p, none⟩ (.int .i64 (CA p))).heap.size (.slice (some ⟨g, 0, none⟩) cs.length cs.length) (HR p (p + 1)) from by rw [hzs]; exact hP3)
      have hb3 := Lib.hid (hBL.out.setCell (p := ⟨g, p, none⟩) (by rw [hG.out]; exact Nat.le_refl _) (.int .i64 (CA p)))
      clear hP3 hzs
      go_wp2_with (fail)
      refine (hC.out _).mono ?_
      rintro e w3 ⟨rfl, rfl⟩
      go_wp2
      clear c1 fp op0 hO hBL hC
      generalize wr.setCell ⟨g, p, none⟩ (.int .i64 (CA p)) = W3 at *
      go_loopw [6] (fun q wq => ∃ j : Nat, p < j ∧ j ≤ cs.length ∧ q = .int .i64 j ∧ OW wq g wq.heap.size (.slice (some ⟨g, 0, none⟩) cs.length cs.length) (HR p j) ∧ Below w1.heap.size w1 wq) (fun q _ => cs.length - (intOf q).toNat)
      case atStart => exact ⟨p + 1, Nat.lt_succ_self _, hlt, by go_num, hO3.out, hb3.out⟩
      case round =>
        clear hO3 hb3
        obtain ⟨j, hpj, hj, rfl, how, hbel⟩ := hrel
        have hO := Lib.hid how
        have hBL := Lib.hid hbel
        clear how hbel
        by_cases hjn : j < cs.length
        · have hjin : (j : Int) < (cs.length : Int) := by omega
          have hj00 : (0 : Int) ≤ (j : Int) := by omega
          obtain ⟨xb, xo, Ai, ci, rfl, hxb, xc0, hI⟩ := XS.at hXT.out (show p < TT.length by rw [hRl.out]; omega)
          rw [hRa.out p (by rw [hRl.out]; omega)] at xc0 hI
          rw [hTl.out] at xc0
          obtain ⟨rb, ro, rfl, ⟨_, hrb⟩, hcc⟩ := hI (by rw [hTl.out]; omega)
          have rc0 := hcc j (by rw [hTl.out]; exact hjn)
          rw [hTa.out p j (by rw [hTl.out]; exact hjn)] at rc0
          have xc := (hBL.out.cell (p := ⟨xb, xo + p, none⟩) hxb).trans xc0
          have rc := (hBL.out.cell (p := ⟨rb, ro + j, none⟩) hrb).trans rc0
          have hlen := hIl.out p j
          obtain ⟨oj, fj⟩ := OW.at9 hO.out p (by rw [hlen]; exact hlt)
          obtain ⟨oi, _⟩ := OW.at9 hO.out j (by rw [hlen]; omega)
          have hY := Lib.hid (hIy.out p j hlt hpj hjn)
          have hN := Lib.hid (hIn.out p j)
          have hb0 := hIg.out p j j hpj hjn
          have hb00 := hHb.out j
          rw [← hb0] at hb00
          have hb1 := hDb.out p j
          have hPut := Lib.hid fun (x : Int) => hO.out.put9 p x
          clear hcc hI xc0 rc0 hb0
          generalize hTT : HR p (j + 1) = En at *
          have hTh := Lib.hid hTT
          clear hTT
          generalize HR p j = xs at *
          generalize E p j = dd at *
          generalize xs.getD p 0 = yj at *
          generalize xs.getD j 0 = yi at *
          have hw9 : IntKind.i64.wrap (dd + yi) = dd + yi := IntWalk.i64_in _ (by omega)
          by_cases h0 : 0 ≤ dd
          · have hY2 := Lib.hid (hY.out h0)
            clear hY hN
            have hlg : w1.heap.size ≤ g := by rw [hG.out]; exact Nat.le_refl _
            have hBs := Lib.hid ((hBL.out.setCell (p := ⟨g, p, none⟩) hlg (.int .i64 (max yj (dd + yi)))).drew)
            clear hlg
            have hfin := Lib.hid (show OW (wr.setCell ⟨g, p, none⟩ (.int .i64 (max yj (dd + yi)))).drew g (wr.setCell ⟨g, p, none⟩ (.int .i64 (max yj (dd + yi)))).drew.heap.size (.slice (some ⟨g, 0, none⟩) cs.length cs.length) En from by
              rw [hY2.out]
              have hz : (wr.setCell ⟨g, p, none⟩ (.int .i64 (max yj (dd + yi)))).heap.size = wr.heap.size := World.size_setCell _ _ _
              show OW (wr.setCell ⟨g, p, none⟩ (.int .i64 (max yj (dd + yi)))) g (wr.setCell ⟨g, p, none⟩ (.int .i64 (max yj (dd + yi)))).heap.size _ _
              rw [hz]; exact hPut.out _)
            go_wp2_with (fail)
            go_region_law (go_simp; go_at_call 158; (with_reducible refine (l1Most_9 _ _ _).mono ?_); rintro e w' ⟨rfl, rfl⟩)
            all_goals
              go_wp2
              go_roundw
              case rel => exact ⟨j + 1, by omega, by omega, by go_num, by rw [hTh.out]; exact hfin.out, hBs.out⟩
              case measure => simp [intOf]; omega
          · have hN2 := Lib.hid (hN.out (by omega))
            clear hY hN
            go_wp2
            go_roundw
            case rel => exact ⟨j + 1, by omega, by omega, by go_num, by rw [hTh.out, hN2.out]; exact hO.out, hBL.out⟩
            case measure => simp [intOf]; omega
        · obtain rfl : j = cs.length := by omega
          have hE9 := Lib.hid (hIe.out p hlt)
          go_wp2
          go_roundw
          case rel => exact ⟨p, by omega, rfl, by rw [← hE9.out]; exact hO.out, hBL.out⟩
          case measure => simp [intOf] <;> omega
end Go.Proofs.Ytaaloepoegehkaa

/- Chapter 9: the list schedule of the model. -/
namespace Go.Proofs.Ytaaloepoegehkaa
open Go.RowKit
set_option linter.unusedVariables false
set_option maxRecDepth 100000

theorem XS.moreX {w : World} {L B B' : Nat} {A : Option Addr} {xss : List (List Int)} (h : XS w L B A xss) (hB : B ≤ B') : XS w L B' A xss := by
  obtain ⟨vs, hl, hr, hi⟩ := h
  exact ⟨vs, hl, hr.more (Nat.le_refl _) hB, fun i h1 h2 => by
    obtain ⟨Ai, ci, e, hx⟩ := hi i h1 h2
    exact ⟨Ai, ci, e, fun h0 => by obtain ⟨b, o, e2, ⟨hb1, hb2⟩, hc⟩ := hx h0; exact ⟨b, o, e2, ⟨hb1, by omega⟩, hc⟩⟩⟩
theorem XS.lowX {w : World} {L L' B : Nat} {A : Option Addr} {xss : List (List Int)} (h : XS w L B A xss) (hL : L' ≤ L) : XS w L' B A xss := by
  obtain ⟨vs, hl, hr, hi⟩ := h
  exact ⟨vs, hl, hr.more hL (Nat.le_refl _), fun i h1 h2 => by
    obtain ⟨Ai, ci, e, hx⟩ := hi i h1 h2
    exact ⟨Ai, ci, e, fun h0 => by obtain ⟨b, o, e2, ⟨hb1, hb2⟩, hc⟩ := hx h0; exact ⟨b, o, e2, ⟨by omega, hb2⟩, hc⟩⟩⟩
theorem IS.moreI {w : World} {L B B' : Nat} {A : Option Addr} {xs : List Int} (h : IS w L B A xs) (hB : B ≤ B') : IS w L B' A xs := fun h0 => by
  obtain ⟨b, o, e2, ⟨hb1, hb2⟩, hc⟩ := h h0; exact ⟨b, o, e2, ⟨hb1, by omega⟩, hc⟩
theorem IS.lowI {w : World} {L L' B : Nat} {A : Option Addr} {xs : List Int} (h : IS w L B A xs) (hL : L' ≤ L) : IS w L' B A xs := fun h0 => by
  obtain ⟨b, o, e2, ⟨hb1, hb2⟩, hc⟩ := h h0; exact ⟨b, o, e2, ⟨by omega, hb2⟩, hc⟩
theorem OW.someB {w : World} {lo hi n c : Nat} {A : Option Addr} {xs : List Int} (h : OW w lo hi (.slice A n c) xs) (h0 : 0 < n) : ∃ g, A = some ⟨g, 0, none⟩ ∧ lo ≤ g := by
  have hn := OW.len9 h
  rcases h.1.2 with ⟨hv, h1⟩ | ⟨g, cap, cur, hv, hg, _⟩
  · rw [hn] at h0; omega
  · injection hv with h1 h2 h3
    exact ⟨g, h1, hg⟩
def bsV (p : Nat × Bool) : Int := if p.2 = true then (p.1 : Int) else -1
set_option maxHeartbeats 8000000 in
theorem orList_any (L B : Nat) (A : Option Addr) (c : Nat) (cs : List In) (wide : Nat) (w : World) (h20 : cs.length ≤ 20) (hgood : ∀ x ∈ cs, goodIn x = true) (hwd : 1 ≤ wide ∧ wide ≤ 3) (hes : RS In.enc 5 w L B A cs) (hB : B ≤ w.heap.size) :
    Calls Try.prog 82 #[.slice A cs.length c, .int .i64 (wide : Int)] w (FreshI w (lsR cs wide)) := by
  have H1 := Lib.hid fun (W : World) (hW : Below w.heap.size w W) => orDelays_any L B A c cs W h20 hgood (hes.below hW hB) (Nat.le_trans hB hW.size)
  have H2 := Lib.hid fun (W : World) (hW : Below w.heap.size w W) => orHeights_any L B A c cs W h20 hgood (hes.below hW hB) (Nat.le_trans hB hW.size)
  have H3 := Lib.hid fun (W : World) => orNone_any cs.length W (by omega)
  have hRl := Lib.hid (dRows_len cs cs.length)
  have hLl := Lib.hid (hL_len cs)
  have hNl := Lib.hid (noneL_len cs.length)
  have hRd := Lib.hid fun (L B L' B' : Nat) (At A' : Option Addr) (ct c' : Nat) (xs : List Int) (j : Nat) (now : Int) (W : World) (hln : xs.length = cs.length) (hbd : ∀ x ∈ xs, -1 ≤ x ∧ x ≤ 1000) (hj : j < cs.length) (hxt : XS W L B At (dRows cs cs.length)) (hB1 : B ≤ W.heap.size) (hns : IS W L' B' A' xs) (hB' : B' ≤ W.heap.size) => orReady_any L B L' B' At A' ct c' cs xs j now W h20 hln hbd hj hxt hB1 hns hB'
  have hO0 := Lib.hid (OutSt.start cs wide)
  have hOd := Lib.hid fun (xs : List Int) (now : Nat) (h : OutSt cs wide xs now) (hh : hasI xs (-1) = false) => h.done hh
  have hOb := Lib.hid fun (xs : List Int) (now : Nat) (h : OutSt cs wide xs now) (hh : hasI xs (-1) = true) => h.begin h20 hh
  have hOf := Lib.hid fun (xs : List Int) (now : Nat) (h : OutSt cs wide xs now) => h.facts
  have hIf := Lib.hid fun (xs : List Int) (now : Nat) (h : InSt cs wide xs now 0) => h.full hwd.1
  have hIs := Lib.hid fun (xs : List Int) (now r : Nat) (h : InSt cs wide xs now (r + 1)) (hc : (lsCh cs (hL cs) xs now).2 = true) => h.step hc
  have hIn := Lib.hid fun (xs : List Int) (now r : Nat) (h : InSt cs wide xs now (r + 1)) (hc : (lsCh cs (hL cs) xs now).2 = false) => h.none hc
  have hIx := Lib.hid fun (xs : List Int) (now r : Nat) (h : InSt cs wide xs now r) => h.facts
  have hCe : Hid (∀ xs (now : Int), lsCh cs (hL cs) xs now = chF (fun i => rdyB cs xs i now) (hL cs) cs.length) := fun _ _ => rfl
  have hw3 : (wide : Int) ≤ 3 := by omega
  clear hes hgood hB hwd
  generalize OutSt cs wide = OS at *
  generalize InSt cs wide = NS at *
  generalize lsR cs wide = R at *
  generalize hL cs = HL at *
  generalize dRows cs cs.length = TT at *
  have b0 := Lib.hid (Below.refl w.heap.size w)
  go_enter Try.func82, Try.ntmps82
  go_wp2_with (fail)
  refine (H1.out _ b0.out).mono ?_
  rintro e wd ⟨At, ct, rfl, hox, hbd⟩
  have bd := Lib.hid hbd
  have xd := Lib.hid (OX.rs hox)
  clear hox hbd
  go_wp2_with (fail)
  refine (H2.out _ bd.out).mono ?_
  rintro e wc ⟨Ah, ch, rfl, how, hbh⟩
  have hIH := Lib.hid ((OW.rs how).lowI bd.out.size)
  have hXT := Lib.hid ((xd.out.below hbh (Nat.le_refl _)).moreX hbh.size)
  have hB1 := Lib.hid (bd.out.trans (hbh.mono bd.out.size))
  clear how hbh H1 H2 b0 xd bd
  rw [hRl.out, hLl.out]
  go_wp2_with (fail)
  refine (H3.out _).mono ?_
  rintro e w3 ⟨Ax, cx, rfl, how, hb3⟩
  rw [hNl.out] at how ⊢
  have hO := Lib.hid how
  have hB3 := Lib.hid hb3
  clear how hb3 H3
  go_wp2
  go_loopw [8] (fun q wr => ∃ (now : Nat) (xs : List Int), q = .int .i64 now ∧ OS xs now ∧ OW wr wc.heap.size wr.heap.size (.slice Ax cs.length cx) xs ∧ Below wc.heap.size wc wr) (fun q _ => 90 - (intOf q).toNat)
  case atStart => exact ⟨0, _, rfl, hO0.out, hO.out, hB3.out⟩
  case round =>
    clear hO hB3
    obtain ⟨now, xs, rfl, hos, how, hbel⟩ := hrel
    have hOS := Lib.hid hos
    have hO := Lib.hid how
    have hBL := Lib.hid hbel
    clear hos how hbel
    obtain ⟨hxl, hn77, hxb⟩ := hOf.out xs now hOS.out
    have hHas := Lib.hid (l1Has_eq wc.heap.size wr.heap.size Ax cs.length cx xs (-1) wr hxl.symm (by omega) (OW.rs hO.out))
    have hXL := Lib.hid hxl
    have hXB := Lib.hid hxb
    clear hxl hxb
    have hw9 : IntKind.i64.wrap ((now : Int) + 1) = (now : Int) + 1 := IntWalk.i64_in _ (by omega)
    cases hh : hasI xs (-1)
    · have hfin := Lib.hid (hOd.out xs now hOS.out hh)
      rw [hh] at hHas
      clear hh
      go_wp2_with (fail)
      refine hHas.out.mono ?_
      rintro e w4 ⟨rfl, rfl⟩
      go_wp2
      go_ret
      have hRl2 : R.length = cs.length := by rw [← hfin.out]; exact hXL.out
      exact ⟨Ax, cx, by rw [hRl2]; rfl, by rw [hRl2, ← hfin.out]; exact hO.out.lower hB1.out.size, hB1.out.trans (hBL.out.mono hB1.out.size)⟩
    · have hBg := Lib.hid (hOb.out xs now hOS.out hh)
      rw [hh] at hHas
      clear hh
      go_wp2_with (fail)
      refine hHas.out.mono ?_
      rintro e w4 ⟨rfl, rfl⟩
      go_wp2
      go_loopw [9] (fun q wq => ∃ (r : Nat) (ys : List Int), q = .int .i64 r ∧ NS ys now r ∧ OW wq wc.heap.size wq.heap.size (.slice Ax cs.length cx) ys ∧ Below wc.heap.size wc wq) (fun q _ => (intOf q).toNat)
      case atStart => exact ⟨wide, xs, rfl, hBg.out, hO.out, hBL.out⟩
      case round =>
        clear hBg hO hBL hOS hXL hn77 hXB hHas
        obtain ⟨r, ys, rfl, hns, how, hbel⟩ := hrel
        have hNS := Lib.hid hns
        have hO := Lib.hid how
        have hBL := Lib.hid hbel
        clear hns how hbel
        obtain ⟨hyl, hn76, hyb, hcn⟩ := hIx.out ys now r hNS.out
        have hr3 : r ≤ 3 := by omega
        have hYL := Lib.hid hyl
        have hYB := Lib.hid hyb
        clear hyl hyb hcn
        rcases Nat.eq_zero_or_pos r with rfl | hpos
        · have hE := Lib.hid (hIf.out ys now hNS.out)
          go_wp2
          go_roundw
          case rel => exact ⟨now + 1, ys, by go_num, hE.out, hO.out, hBL.out⟩
          case measure => simp [intOf]; omega
        · obtain ⟨p, rfl⟩ : ∃ p, r = p + 1 := ⟨r - 1, by omega⟩
          have hrp : (0 : Int) < ((p + 1 : Nat) : Int) := by omega
          have hw8 : IntKind.i64.wrap (((p + 1 : Nat) : Int) - 1) = (p : Int) := by rw [IntWalk.i64_in _ (by omega)]; omega
          have hSt := Lib.hid (hIs.out ys now p hNS.out)
          have hNo := Lib.hid (hIn.out ys now p hNS.out)
          rw [hCe.out] at hSt hNo
          have hNn := Lib.hid fun (m : Nat) (h : (fun i => rdyB cs ys i now) m = false) => chF_no (may := fun i => rdyB cs ys i now) (hs := HL) h
          have hFs := Lib.hid fun (m : Nat) (h : (fun i => rdyB cs ys i now) m = true) (h2 : (chF (fun i => rdyB cs ys i now) HL m).2 = false) => chF_first (may := fun i => rdyB cs ys i now) h h2
          have hMo := Lib.hid fun (m : Nat) (h : (fun i => rdyB cs ys i now) m = true) (h2 : (chF (fun i => rdyB cs ys i now) HL m).2 = true) (b : Bool) (h3 : decide (HL.getD (chF (fun i => rdyB cs ys i now) HL m).1 0 < HL.getD m 0) = b) => chF_more (may := fun i => rdyB cs ys i now) h h2 b h3
          have hLt := Lib.hid fun (m : Nat) (h : (chF (fun i => rdyB cs ys i now) HL m).2 = true) => (chF_lt (may := fun i => rdyB cs ys i now) m h).1
          have hC0 : Hid (chF (fun i => rdyB cs ys i now) HL 0 = (0, false)) := rfl
          clear hNS
          generalize chF (fun i => rdyB cs ys i now) HL = C at *
          go_wp2
          go_loopw [10, 31] (fun u q wz => ∃ j : Nat, j ≤ cs.length ∧ q = .int .i64 j ∧ u = .int .i64 (bsV (C j)) ∧ Below wr.heap.size wr wz) (fun _ q _ => cs.length - (intOf q).toNat)
          case atStart => exact ⟨0, Nat.zero_le _, rfl, by rw [hC0.out]; rfl, Below.refl _ _⟩
          case round =>
            obtain ⟨j, hj, rfl, rfl, hbz'⟩ := hrel
            have hbz := Lib.hid hbz'
            clear hbz'
            by_cases hjn : j < cs.length
            · have hji : (j : Int) < (cs.length : Int) := by omega
              have hj0 : (0 : Int) ≤ (j : Int) := by omega
              have hbw := Lib.hid (hBL.out.trans (hbz.out.mono hBL.out.size))
              obtain ⟨gh, oh, rfl, ⟨_, hbB⟩, hhc⟩ := (hIH.out.below hbw.out (Nat.le_refl _)) (by rw [hLl.out]; omega)
              have y0 := hhc j (by rw [hLl.out]; exact hjn)
              have y2 := Lib.hid hhc
              have hgd := Lib.hid fun (q : Nat) (hq : q < HL.length) => (show HL.getD q 0 = HL[q] from by rw [List.getD_eq_getElem?_getD, List.getElem?_eq_getElem hq]; rfl)
              have hRdy := Lib.hid (hRd.out w.heap.size wc.heap.size wc.heap.size _ At Ax ct cx ys j now wr hYL.out (fun x hx => by have := hYB.out x hx; omega) hjn (hXT.out.below hbw.out (Nat.le_refl _)) hbw.out.size ((OW.rs hO.out).below hbz.out (Nat.le_refl _)) hbz.out.size)
              have hN1 := Lib.hid (hNn.out j)
              have hF1 := Lib.hid (hFs.out j)
              have hM1 := Lib.hid (hMo.out j)
              have hL1 := Lib.hid (hLt.out j)
              clear hhc
              try dsimp only at hN1 hF1 hM1
              generalize rdyB cs ys j now = rd at *
              generalize hCC : C (j + 1) = C1 at *
              have hC1 := Lib.hid hCC
              clear hCC
              generalize C j = cj at *
              obtain ⟨bi, bf⟩ := cj
              try dsimp only at hF1 hM1 hL1
              cases rd
              · have hX := Lib.hid (hN1.out rfl)
                clear hN1 hF1 hM1 hL1 y2
                generalize hbv : bsV (bi, bf) = bv at *
                have hBV := Lib.hid hbv
                clear hbv
                go_wp2_with (fail)
                refine hRdy.out.mono ?_
                rintro e w5 ⟨rfl, hb5⟩
                all_goals
                  have hb6 := Lib.hid (hbz.out.trans (hb5.mono hbz.out.size))
                  clear hb5
                  go_wp2
                  go_roundw
                  case rel => exact ⟨j + 1, hjn, by go_num, by rw [hC1.out, hX.out, hBV.out], hb6.out⟩
                  case measure => simp [intOf]; omega
              · cases bf
                · have hX := Lib.hid (hF1.out rfl rfl)
                  have hbs : bsV (bi, false) = -1 := rfl
                  rw [hbs]
                  clear hN1 hF1 hM1 hL1 y2 hbs
                  go_wp2_with (fail)
                  refine hRdy.out.mono ?_
                  rintro e w5 ⟨rfl, hb5⟩
                  all_goals
                    have hb6 := Lib.hid (hbz.out.trans (hb5.mono hbz.out.size))
                    clear hb5
                    go_wp2
                    go_roundw
                    case rel => exact ⟨j + 1, hjn, by go_num, by rw [hC1.out, hX.out]; rfl, hb6.out⟩
                    case measure => simp [intOf]; omega
                · have hbl := hL1.out rfl
                  have y1 := y2.out bi (by rw [hLl.out]; omega)
                  have hM2 := hM1.out rfl rfl
                  rw [hgd.out bi (by rw [hLl.out]; omega), hgd.out j (by rw [hLl.out]; omega)] at hM2
                  have hM3 := Lib.hid hM2
                  have hbs : bsV (bi, true) = (bi : Int) := rfl
                  rw [hbs]
                  have hbi0 : decide ((bi : Int) < 0) = false := decide_eq_false (by omega)
                  have hbi1 : (bi : Int) < (cs.length : Int) := by omega
                  have hbi2 : (0 : Int) ≤ (bi : Int) := by omega
                  have hjl : j < HL.length := by rw [hLl.out]; exact hjn
                  have hbl9 : bi < HL.length := by rw [hLl.out]; omega
                  clear hN1 hF1 hM1 hM2 hL1 y2 hbs hgd
                  generalize HL[j] = hv at *
                  generalize HL[bi] = hu at *
                  by_cases hlt : hu < hv
                  · have hX := Lib.hid (hM3.out true (decide_eq_true hlt))
                    rw [if_pos rfl] at hX
                    clear hM3
                    go_wp2_with (fail)
                    refine hRdy.out.mono ?_
                    rintro e w5 ⟨rfl, hb5⟩
                    have y5 := (hb5.cell (p := ⟨gh, oh + bi, none⟩) (show gh < wr.heap.size by have := hbw.out.size; omega)).trans y1
                    all_goals
                      have hb6 := Lib.hid (hbz.out.trans (hb5.mono hbz.out.size))
                      clear hb5 y1 y0
                      go_wp2
                      go_roundw
                      case rel => exact ⟨j + 1, hjn, by go_num, by rw [hC1.out, hX.out]; rfl, hb6.out⟩
                      case measure => simp [intOf]; omega
                  · have hX := Lib.hid (hM3.out false (decide_eq_false hlt))
                    rw [if_neg Bool.false_ne_true] at hX
                    clear hM3
                    go_wp2_with (fail)
                    refine hRdy.out.mono ?_
                    rintro e w5 ⟨rfl, hb5⟩
                    have y5 := (hb5.cell (p := ⟨gh, oh + bi, none⟩) (show gh < wr.heap.size by have := hbw.out.size; omega)).trans y1
                    all_goals
                      have hb6 := Lib.hid (hbz.out.trans (hb5.mono hbz.out.size))
                      clear hb5 y1 y0
                      go_wp2
                      go_roundw
                      case rel => exact ⟨j + 1, hjn, by go_num, by rw [hC1.out, hX.out]; rfl, hb6.out⟩
                      case measure => simp [intOf]; omega
            · obtain rfl : j = cs.length := by omega
              have hL1 := Lib.hid (hLt.out cs.length)
              generalize C cs.length = cj at *
              obtain ⟨bi, bf⟩ := cj
              try dsimp only at hSt hNo hL1
              have hO5 := Lib.hid ((hO.out.below hbz.out (Nat.le_refl _)).more hbz.out.size)
              have hb5 := Lib.hid (hBL.out.trans (hbz.out.mono hBL.out.size))
              cases bf
              · have hE := Lib.hid (hNo.out rfl)
                have hbs : bsV (bi, false) = -1 := rfl
                rw [hbs]
                clear hbs hNo hSt hL1
                go_wp2
                go_roundw
                case rel => exact ⟨now + 1, ys, by go_num, hE.out, hO5.out, hb5.out⟩
                case measure => simp [intOf]; omega
              · have hE := Lib.hid (hSt.out rfl)
                have hbl := hL1.out rfl
                obtain ⟨g, rfl, hg⟩ := OW.someB hO5.out (show 0 < cs.length by omega)
                obtain ⟨_, fz⟩ := OW.at9 hO5.out bi (by rw [hYL.out]; exact hbl)
                obtain ⟨oz, _⟩ := OW.at9 hO5.out bi (by rw [hYL.out]; exact hbl)
                have hP := hO5.out.put9 bi (now : Int)
                have hzs : (wr.setCell ⟨g, bi, none⟩ (.int .i64 now)).heap.size = wr.heap.size := World.size_setCell _ _ _
                have hP2 := Lib.hid (show OW (wr.setCell ⟨g, bi, none⟩ (.int .i64 now)) wc.heap.size (wr.setCell ⟨g, bi, none⟩ (.int .i64 now)).heap.size (.slice (some ⟨g, 0, none⟩) cs.length cx) (ys.set bi now) from by rw [hzs]; exact hP)
                have hb6 := Lib.hid (hb5.out.setCell (p := ⟨g, bi, none⟩) hg (.int .i64 now))
                have hbs : bsV (bi, true) = (bi : Int) := rfl
                rw [hbs]
                have hbi0 : decide ((bi : Int) < 0) = false := decide_eq_false (by omega)
                have hbi1 : (bi : Int) < (cs.length : Int) := by omega
                have hbi2 : (0 : Int) ≤ (bi : Int) := by omega
                clear hbs hNo hSt hL1 hP hzs
                go_wp2
                go_roundw
                case rel => exact ⟨p, _, by go_num, hE.out, hP2.out, hb6.out⟩
                case measure => simp [intOf] <;> omega
end Go.Proofs.Ytaaloepoegehkaa

/- Chapter 9: the list schedule of the program. -/
namespace Go.Proofs.Ytaaloepoegehkaa
open Go.RowKit
set_option linter.unusedVariables false
set_option maxRecDepth 100000

set_option maxHeartbeats 8000000 in
theorem listSchedule_any (L B : Nat) (A : Option Addr) (c : Nat) (cs : List In) (wide : Nat) (L1 B1 : Nat) (An : Option Addr) (cn : Nat) (w : World) (h20 : cs.length ≤ 20) (hwd : 1 ≤ wide ∧ wide ≤ 3) (hes : RS In.enc 5 w L B A cs) (hB : B ≤ w.heap.size) (hpn : PN w L1 B1 An (nds cs)) (hB1 : B1 ≤ w.heap.size) :
    Calls Try.prog 85 #[.agg #[.slice A cs.length c, .slice An cs.length cn], .int .i64 (wide : Int)] w (FreshI w (lsR cs wide)) := by
  have hRep := Lib.hid fun (b cb : Nat) (V : World) (hb : V.cell? ⟨b, 0, none⟩ = some (.int .i64 101)) (hbl : b < V.heap.size) => repeat9_k b cb cs.length V (by omega) hb hbl
  have hHt := Lib.hid fun (W : World) (hW : Below w.heap.size w W) => heights_any L B A c cs L1 B1 An cn W h20 (hes.below hW hB) (Nat.le_trans hB hW.size) (hpn.below hW hB1) (Nat.le_trans hB1 hW.size)
  have hPN := Lib.hid fun (W : World) (hW : Below w.heap.size w W) => hpn.below hW hB1
  have hBn := Lib.hid hB1
  have hLl := Lib.hid (hL_len cs)
  have hO0 := Lib.hid (OutSt.start cs wide)
  have hOd := Lib.hid fun (xs : List Int) (now : Nat) (h : OutSt cs wide xs now) (hh : hasI xs (-1) = false) => h.done hh
  have hOb := Lib.hid fun (xs : List Int) (now : Nat) (h : OutSt cs wide xs now) (hh : hasI xs (-1) = true) => h.begin h20 hh
  have hOf := Lib.hid fun (xs : List Int) (now : Nat) (h : OutSt cs wide xs now) => h.facts
  have hIf := Lib.hid fun (xs : List Int) (now : Nat) (h : InSt cs wide xs now 0) => h.full hwd.1
  have hIs := Lib.hid fun (xs : List Int) (now r : Nat) (h : InSt cs wide xs now (r + 1)) (hc : (lsCh cs (hL cs) xs now).2 = true) => h.step hc
  have hIn := Lib.hid fun (xs : List Int) (now r : Nat) (h : InSt cs wide xs now (r + 1)) (hc : (lsCh cs (hL cs) xs now).2 = false) => h.none hc
  have hIx := Lib.hid fun (xs : List Int) (now r : Nat) (h : InSt cs wide xs now r) => h.facts
  have hIl := Lib.hid fun (xs : List Int) (now : Int) (h : (lsCh cs (hL cs) xs now).2 = true) => (lsCh_lt h).1
  have hUn := Lib.hid (unb_none cs.length)
  have hCh := Lib.hid fun (g2 g5 g6 g7 gx Lh Bh : Nat) (Ah : Option Addr) (ch : Nat) (xs : List Int) (now : Nat) (W : World) (hl : xs.length = cs.length) (hn : now ≤ 76) (hb : ∀ x ∈ xs, -1 ≤ x ∧ x ≤ 76) (h : LsSt g2 g5 g6 g7 L1 B1 gx (gx + 1) Lh Bh A An (some ⟨gx, 0, none⟩) Ah c cn cs.length ch cs (hL cs) (unb xs) now W) => (by
    have h9 := lsChoose_any h20 (hL_len cs) (by rw [unb_len]; exact hl) (unb_ok hl hb) h
    rw [lsM_ch hl hn hb] at h9
    exact h9 : Calls Try.prog 153 #[.agg #[.func (.func 148) #[] #[.pointer (some ⟨g5, 0, none⟩), .pointer (some ⟨g2, 0, none⟩), .pointer (some ⟨g7, 0, none⟩)], .func (.func 150) #[] #[.pointer (some ⟨g6, 0, none⟩)]], .slice A cs.length c] W fun e w' => e = .returned (.tuple #[.int .i64 ((lsCh cs (hL cs) xs now).1 : Int), .bool (lsCh cs (hL cs) xs now).2]) ∧ Below W.heap.size W w')
  have hlb : cs.length ≤ 1048576 := by omega
  clear hes hpn hB hB1
  generalize OutSt cs wide = OS at *
  generalize InSt cs wide = NS at *
  generalize lsR cs wide = R at *
  generalize lsCh cs (hL cs) = CH at *
  have bA := (Below.refl w.heap.size w).alloc (Nat.le_refl _) (.cells #[.slice A cs.length c, .slice An cs.length cn] 97)
  have hbA := Lib.hid bA
  have hP1 := Lib.hid (PB.new w (.slice A cs.length c) (.slice An cs.length cn))
  have hz1 : Hid ((w.alloc (.cells #[.slice A cs.length c, .slice An cs.length cn] 97)).heap.size = w.heap.size + 1) := World.size_alloc _ _
  clear bA
  go_enter Try.func85, Try.ntmps85
  go_upto_region 1 with fail
  obtain ⟨g2, hg2⟩ : ∃ g2, g2 = w.heap.size := ⟨_, rfl⟩
  rw [← hg2] at hP1 ⊢
  have hG2 := Lib.hid hg2
  clear hg2
  generalize w.alloc (.cells #[.slice A cs.length c, .slice An cs.length cn] 97) = W1 at *
  have q0 := PB.c0 hP1.out
  have q1 := PB.c1 hP1.out
  have hl2 := CB.lt hP1.out
  have aA := (Below.refl W1.heap.size W1).alloc (Nat.le_refl _) (.cells #[.int .i64 101] 3)
  have r0 := (aA.cell (p := ⟨g2, 0, none⟩) hl2).trans q0
  have hA2 := Lib.hid aA
  have hc9 : Hid ((W1.alloc (.cells #[.int .i64 101] 3)).cell? ⟨W1.heap.size, 0, none⟩ = some (.int .i64 101)) := by
    have h : CB 3 (W1.alloc (.cells #[.int .i64 101] 3)) W1.heap.size [.int .i64 101] := heap_alloc_new W1 _
    exact (CB.cell h 0).trans rfl
  have hR1 := Lib.hid (hRep.out W1.heap.size 1 (W1.alloc (.cells #[.int .i64 101] 3)) hc9.out (by simp))
  clear aA
  go_wp2_with (fail)
  refine hR1.out.mono ?_
  rintro e w3 ⟨gx, rfl, hgx, hib, hb3⟩
  have hz2 : (W1.alloc (.cells #[.int .i64 101] 3)).heap.size = W1.heap.size + 1 := World.size_alloc _ _
  rw [hz2] at hgx
  have hC5 := Lib.hid (show CB 34 (w3.alloc (.cells #[.slice (some ⟨gx, 0, none⟩) cs.length cs.length] 34)) w3.heap.size [.slice (some ⟨gx, 0, none⟩) cs.length cs.length] from heap_alloc_new w3 _)
  have a5 := (Below.refl w3.heap.size w3).alloc (Nat.le_refl _) (.cells #[.slice (some ⟨gx, 0, none⟩) cs.length cs.length] 34)
  have hI5 := Lib.hid (hib.below a5 hib.lt)
  have hx5 := hib.lt
  have hb14 := Lib.hid (hA2.out.trans ((hb3.trans (a5.mono hb3.size)).mono hA2.out.size))
  have hz5 : Hid ((w3.alloc (.cells #[.slice (some ⟨gx, 0, none⟩) cs.length cs.length] 34)).heap.size = w3.heap.size + 1) := World.size_alloc _ _
  clear a5 hb3 hib q0 q1 r0 hR1 hc9 hz2
  go_upto_region 2 with fail
  generalize w3.alloc (.cells #[.slice (some ⟨gx, 0, none⟩) cs.length cs.length] 34) = W4 at *
  generalize w3.heap.size = g5 at *
  have hP4 := Lib.hid (CB.below hP1.out hb14.out hl2)
  have q0 := PB.c0 hP4.out
  have q1 := PB.c1 hP4.out
  have hb04 := Lib.hid (hbA.out.trans (hb14.out.mono hbA.out.size))
  have hH4 := Lib.hid (hHt.out W4 hb04.out)
  go_wp2_with (fail)
  refine hH4.out.mono ?_
  rintro e w5 ⟨Ah, ch, rfl, how, hb5⟩
  rw [hLl.out] at how ⊢
  have hih := Lib.hid (OW.rs how)
  have hC6 := Lib.hid (show CB 34 (w5.alloc (.cells #[.slice Ah cs.length ch] 34)) w5.heap.size [.slice Ah cs.length ch] from heap_alloc_new w5 _)
  have a6 := (Below.refl w5.heap.size w5).alloc (Nat.le_refl _) (.cells #[.slice Ah cs.length ch] 34)
  have hb46 := Lib.hid (hb5.trans (a6.mono hb5.size))
  have hs5 := hb5.size
  have hz6 : Hid ((w5.alloc (.cells #[.slice Ah cs.length ch] 34)).heap.size = w5.heap.size + 1) := World.size_alloc _ _
  have hih6 := Lib.hid (hih.out.below a6 (Nat.le_refl _))
  clear a6 hb5 how q0 q1 hH4 hih
  go_upto_region 3 with fail
  generalize w5.alloc (.cells #[.slice Ah cs.length ch] 34) = W6 at *
  generalize w5.heap.size = g6 at *
  have hC7 := Lib.hid (show CB 3 (W6.alloc (.cells #[.int .i64 0] 3)) W6.heap.size [.int .i64 0] from heap_alloc_new W6 _)
  have hb67 := Lib.hid ((Below.refl W6.heap.size W6).alloc (Nat.le_refl _) (.cells #[.int .i64 0] 3))
  have hz7 : Hid ((W6.alloc (.cells #[.int .i64 0] 3)).heap.size = W6.heap.size + 1) := World.size_alloc _ _
  go_upto_region 4 with fail
  generalize W6.alloc (.cells #[.int .i64 0] 3) = W7 at *
  have hC8 := Lib.hid (show CB 160 (W7.alloc (.cells #[.func (.func 148) #[] #[.pointer (some ⟨g5, 0, none⟩), .pointer (some ⟨g2, 0, none⟩), .pointer (some ⟨W6.heap.size, 0, none⟩)], .func (.func 150) #[] #[.pointer (some ⟨g6, 0, none⟩)]] 160)) W7.heap.size (chB g2 g5 g6 W6.heap.size) from heap_alloc_new W7 _)
  have hb78 := Lib.hid ((Below.refl W7.heap.size W7).alloc (Nat.le_refl _) (.cells #[.func (.func 148) #[] #[.pointer (some ⟨g5, 0, none⟩), .pointer (some ⟨g2, 0, none⟩), .pointer (some ⟨W6.heap.size, 0, none⟩)], .func (.func 150) #[] #[.pointer (some ⟨g6, 0, none⟩)]] 160))
  go_wp2
  generalize (W7.alloc (.cells #[.func (.func 148) #[] #[.pointer (some ⟨g5, 0, none⟩), .pointer (some ⟨g2, 0, none⟩), .pointer (some ⟨W6.heap.size, 0, none⟩)], .func (.func 150) #[] #[.pointer (some ⟨g6, 0, none⟩)]] 160)) = W8 at *
  have hb48 := Lib.hid (hb46.out.trans ((hb67.out.trans (hb78.out.mono hb67.out.size)).mono hb46.out.size))
  have hb68 := Lib.hid (hb67.out.trans (hb78.out.mono hb67.out.size))
  have hb08 := Lib.hid (hb04.out.trans (hb48.out.mono hb04.out.size))
  have hA : LsA w g2 g5 g6 W6.heap.size W7.heap.size gx B1 W4.heap.size g6 := by
    have e1 := hz1.out
    have e2 := hG2.out
    have e5 := hz5.out
    have e6 := hz6.out
    have e7 := hz7.out
    have eb := hBn.out
    refine ⟨?_, ?_, ?_, ?_, ?_, ?_, ?_, ?_, ?_, ?_, ?_, ?_, ?_, ?_, ?_⟩ <;> omega
  have hA9 := Lib.hid hA
  have hS0 : Hid (LsG w g2 g5 g6 W6.heap.size W7.heap.size gx L1 B1 W4.heap.size g6 A An Ah c cn ch cs (unb (noneL cs.length)) 0 W8) := by
    rw [Hid, hUn.out]
    have hB4 : B1 ≤ W4.heap.size := by have := hBn.out; have := hb04.out.size; omega
    have hi8 := hI5.out.below hb48.out hI5.out.lt
    have h6s := hb46.out.size
    have h68 := hb68.out.size
    have h48 := hb48.out.size
    have e6 := hz6.out
    refine ⟨⟨CB.below hP4.out hb48.out (CB.lt hP4.out), CB.below hC5.out hb48.out (CB.lt hC5.out), CB.below hC6.out hb68.out (CB.lt hC6.out), CB.below hC7.out hb78.out (CB.lt hC7.out), hPN.out _ hb08.out, by omega, hi8.toIS, hi8.lt, hih6.out.below hb68.out (by omega), by omega⟩, hi8, hC8.out, hb08.out⟩
  clear hHt hRep hPN hBn hz1 hG2 hz5 hz6 hz7 hb08 hb48 hb46 hb04 hb14 hb67 hb78 hb68 hP1 hP4 hI5 hC5 hC6 hC7 hC8 hih6 hA hUn hA2 hbA
  generalize W6.heap.size = g7 at *
  generalize W7.heap.size = g8 at *
  generalize W4.heap.size = Lh at *
  clear hl2 hx5 hs5 hgx
  have hUs := Lib.hid unb_set
  have hUc := Lib.hid fun (xs : List Int) (now : Nat) (hn : now ≤ 76) => unb_cnt (xs := xs) hn
  have hUh := Lib.hid fun (xs : List Int) (h : ∀ x ∈ xs, -1 ≤ x ∧ x ≤ 76) => unb_has h
  have hUe := Lib.hid fun (xs : List Int) (h : ∀ x ∈ xs, -1 ≤ x ∧ x ≤ 76) (hh : hasI xs (-1) = false) => unb_eq h hh
  have hUl := Lib.hid unb_len
  have hR7 := Lib.hid fun (xs : List Int) (now : Nat) (W : World) (hw : xs.length = cs.length) (h : IS W gx (gx + 1) (some ⟨gx, 0, none⟩) xs) => hasRoom_any gx (gx + 1) (some ⟨gx, 0, none⟩) cs.length cs.length xs (now : Int) (wide : Int) W hw.symm (by omega) (by omega) h
  have hCn := Lib.hid fun (xs : List Int) (W : World) (hw : xs.length = cs.length) (h : IS W gx (gx + 1) (some ⟨gx, 0, none⟩) xs) => Contains_eq gx (gx + 1) (some ⟨gx, 0, none⟩) cs.length cs.length xs 101 W hw.symm (by omega) h
  have hwi : (wide : Int) ≤ 3 := by omega
  have hnl : (cs.length : Int) ≤ 20 := by omega
  have hcB := Lib.hid (show chB g2 g5 g6 g7 = [.func (.func 148) #[] #[.pointer (some ⟨g5, 0, none⟩), .pointer (some ⟨g2, 0, none⟩), .pointer (some ⟨g7, 0, none⟩)], .func (.func 150) #[] #[.pointer (some ⟨g6, 0, none⟩)]] from rfl)
  have hLx : Hid (w.heap.size ≤ gx) := hA9.out.lx
  generalize unb = U at *
  go_loopg [] 92 (fun gk wr => ∃ (now : Nat) (xs : List Int), gk + now = 92 ∧ OS xs now ∧ LsG w g2 g5 g6 g7 g8 gx L1 B1 Lh g6 A An Ah c cn ch cs (U xs) now wr)
  case atStart => exact ⟨0, _, rfl, hO0.out, hS0.out⟩
  case round =>
    clear hS0 hO0
    obtain ⟨now, xs, hgk, hos, hls⟩ := hrel
    have hGK := Lib.hid hgk
    have hOS := Lib.hid hos
    have hLS := Lib.hid hls
    clear hgk hos hls
    obtain ⟨hxl, hn77, hxb⟩ := hOf.out xs now hOS.out
    have hXL := Lib.hid hxl
    have hXB := Lib.hid hxb
    clear hxl hxb
    have q5 := (CB.cell hLS.out.st.b5 0).trans (rfl : _ = some (Value.slice (some ⟨gx, 0, none⟩) cs.length cs.length))
    have hCt := Lib.hid (hCn.out (U xs) wr (by rw [hUl.out]; exact hXL.out) hLS.out.ib.toIS)
    rw [hUh.out xs hXB.out] at hCt
    cases hh : hasI xs (-1)
    · have hfin := Lib.hid (hOd.out xs now hOS.out hh)
      have hfe := Lib.hid (hUe.out xs hXB.out hh)
      rw [hh] at hCt
      clear hh
      go_wp2_with (fail)
      refine hCt.out.mono ?_
      rintro e w4 ⟨rfl, rfl⟩
      go_wp2
      go_ret
      have hRl : R.length = cs.length := by rw [← hfin.out]; exact hXL.out
      have hib := hLS.out.ib
      rw [hfe.out, hfin.out] at hib
      exact ⟨some ⟨gx, 0, none⟩, cs.length, by rw [hRl]; rfl, by have h := OW.ofIB (lo := w.heap.size) (hi := wr.heap.size) hib (by rw [hRl]; omega) hLx.out hib.lt; rw [hRl] at h ⊢; exact h, hLS.out.be⟩
    · have hBg := Lib.hid (hOb.out xs now hOS.out hh)
      rw [hh] at hCt
      clear hh
      go_wp2_with (fail)
      refine hCt.out.mono ?_
      rintro e w4 ⟨rfl, rfl⟩
      clear q5 hCt
      go_wp2
      go_loopg [] wide (fun gq wq => ∃ (ys : List Int), NS ys now gq ∧ LsG w g2 g5 g6 g7 g8 gx L1 B1 Lh g6 A An Ah c cn ch cs (U ys) now wq)
      case atStart => exact ⟨xs, hBg.out, hLS.out⟩
      case round =>
        clear hBg hLS hOS hXL hn77 hXB
        obtain ⟨ys, hns, hls⟩ := hrel
        have hNS := Lib.hid hns
        have hLS := Lib.hid hls
        clear hns hls
        obtain ⟨hyl, hn76, hyb, hcn⟩ := hIx.out ys now gk hNS.out
        have hYL := Lib.hid hyl
        have hYB := Lib.hid hyb
        clear hyl hyb
        have q5 := (CB.cell hLS.out.st.b5 0).trans (rfl : _ = some (Value.slice (some ⟨gx, 0, none⟩) cs.length cs.length))
        have q7 := (CB.cell hLS.out.st.b7 0).trans (rfl : _ = some (Value.int .i64 now))
        have f7 := CB.frozen hLS.out.st.b7 0
        have hw9 : IntKind.i64.wrap ((now : Int) + 1) = (now : Int) + 1 := IntWalk.i64_in _ (by omega)
        have hRm := Lib.hid (hR7.out (U ys) now wr (by rw [hUl.out]; exact hYL.out) hLS.out.ib.toIS)
        rw [hUc.out ys now hn76] at hRm
        rcases Nat.eq_zero_or_pos gk with hz | hpos
        · have hr : decide ((cntE ys now : Int) < (wide : Int)) = false := decide_eq_false (by omega)
          rw [hr] at hRm
          rw [hz] at hNS
          have hE := Lib.hid (hIf.out ys now hNS.out)
          have hT := Lib.hid (LsG.tick hA9.out hLS.out ((now : Int) + 1))
          clear hr hcn
          go_wp2_with (fail)
          refine hRm.out.mono ?_
          rintro e w4 ⟨rfl, rfl⟩
          go_wp2
          go_roundg (91 - now)
          case measure => have := hGK.out; omega
          case rel => exact ⟨now + 1, ys, by have := hGK.out; omega, hE.out, by rw [show ((now + 1 : Nat) : Int) = (now : Int) + 1 by omega]; exact hT.out⟩
        · obtain ⟨p, hp⟩ : ∃ p, gk = p + 1 := ⟨gk - 1, by omega⟩
          have hr : decide ((cntE ys now : Int) < (wide : Int)) = true := decide_eq_true (by omega)
          rw [hr] at hRm
          rw [hp] at hNS
          have hPk := Lib.hid hp
          have hSt := Lib.hid (hIs.out ys now p hNS.out)
          have hNo := Lib.hid (hIn.out ys now p hNS.out)
          have hLt := Lib.hid (hIl.out ys now)
          have hC9 := Lib.hid (hCh.out g2 g5 g6 g7 gx Lh g6 Ah ch ys now wr hYL.out hn76 hYB.out hLS.out.st)
          have q2 := PB.c0 hLS.out.st.b2
          have q80 := (CB.cell hLS.out.b8 0).trans (by rw [hcB.out]; rfl : _ = some (Value.func (.func 148) #[] #[.pointer (some ⟨g5, 0, none⟩), .pointer (some ⟨g2, 0, none⟩), .pointer (some ⟨g7, 0, none⟩)]))
          have q81 := (CB.cell hLS.out.b8 1).trans (by rw [hcB.out]; rfl : _ = some (Value.func (.func 150) #[] #[.pointer (some ⟨g6, 0, none⟩)]))
          clear hr hcn hp hpos
          generalize CH ys now = c9 at *
          obtain ⟨i, f⟩ := c9
          dsimp only at hSt hNo hLt hC9
          cases f
          · have hE := Lib.hid (hNo.out rfl)
            clear hNo hSt hLt
            go_wp2_with (fail)
            refine hRm.out.mono ?_
            rintro e w4 ⟨rfl, rfl⟩
            go_wp2_with (fail)
            refine hC9.out.mono ?_
            rintro e w5 ⟨rfl, hb5⟩
            have hL5 := Lib.hid (hLS.out.below hb5)
            have r7 := (CB.cell hL5.out.st.b7 0).trans (rfl : _ = some (Value.int .i64 now))
            have s7 := CB.frozen hL5.out.st.b7 0
            have hT := Lib.hid (LsG.tick hA9.out hL5.out ((now : Int) + 1))
            clear hb5 q5 q7 f7 q2 q80 q81
            go_wp2
            go_roundg (91 - now)
            case measure => have := hGK.out; omega
            case rel => exact ⟨now + 1, ys, by have := hGK.out; omega, hE.out, by rw [show ((now + 1 : Nat) : Int) = (now : Int) + 1 by omega]; exact hT.out⟩
          · have hE := Lib.hid (hSt.out rfl)
            have hi := hLt.out rfl
            have hii : (i : Int) < (cs.length : Int) := by omega
            have hi0 : (0 : Int) ≤ (i : Int) := by omega
            clear hNo hSt hLt
            go_wp2_with (fail)
            refine hRm.out.mono ?_
            rintro e w4 ⟨rfl, rfl⟩
            go_wp2_with (fail)
            refine hC9.out.mono ?_
            rintro e w5 ⟨rfl, hb5⟩
            have hL5 := Lib.hid (hLS.out.below hb5)
            have r5 := (CB.cell hL5.out.st.b5 0).trans (rfl : _ = some (Value.slice (some ⟨gx, 0, none⟩) cs.length cs.length))
            have r7 := (CB.cell hL5.out.st.b7 0).trans (rfl : _ = some (Value.int .i64 now))
            have oz := hL5.out.ib.cell i (by rw [hUl.out, hYL.out]; exact hi)
            have fz := hL5.out.ib.frozen i
            have hP := Lib.hid (LsG.put hA9.out hL5.out i (now : Int))
            clear hb5 q5 q7 f7 q2 q80 q81
            go_wp2
            go_roundg p
            case measure => have := hPk.out; omega
            case rel => exact ⟨_, hE.out, by rw [hUs.out _ _ (by omega)]; exact hP.out⟩
end Go.Proofs.Ytaaloepoegehkaa

/- Chapter 9: PathBound of the model. -/
namespace Go.Proofs.Ytaaloepoegehkaa
open Go.RowKit
set_option linter.unusedVariables false
set_option maxRecDepth 100000

theorem mx_take (l : List Int) (a : Int) {k : Nat} (h : k < l.length) : mx (l.take (k + 1)) a = max (mx (l.take k) a) (l.getD k 0) := by
  rw [List.take_succ_eq_append_getElem h, mx_snoc, List.getD_eq_getElem?_getD, List.getElem?_eq_getElem h]; rfl
def pbV (cs : List In) : Int := mx (hL cs) 0
def pbR (cs : List In) : Int := if orGood cs = true then pbV cs else 0
theorem pbR_yes {cs : List In} (h : orGood cs = true) : pbR cs = pbV cs := by unfold pbR; rw [if_pos h]
theorem pbR_no {cs : List In} (h : orGood cs = false) : pbR cs = 0 := by unfold pbR; rw [h]; rfl
set_option maxHeartbeats 4000000 in
theorem orPath_any (L B : Nat) (A : Option Addr) (c : Nat) (cs : List In) (w : World) (hl : cs.length ≤ 20) (hgood : ∀ x ∈ cs, goodIn x = true) (hes : RS In.enc 5 w L B A cs) (hB : B ≤ w.heap.size) :
    Calls Try.prog 159 #[.slice A cs.length c] w fun e w' => e = .returned (.int .i64 (pbV cs)) ∧ Below w.heap.size w w' := by
  have H := Lib.hid (orHeights_any L B A c cs w hl hgood hes hB)
  have hM := Lib.hid fun (k : Nat) (h : k < (hL cs).length) => mx_take (hL cs) 0 h
  have hP : Hid (pbV cs = mx ((hL cs).take (hL cs).length) 0) := by rw [Hid, List.take_length]; rfl
  have h00 : Hid (mx ((hL cs).take 0) 0 = 0) := rfl
  have hLl := Lib.hid (hL_len cs)
  clear hes hgood hB
  generalize pbV cs = P at *
  generalize hMX : (fun k => mx ((hL cs).take k) 0) = M at *
  have hM0 : ∀ k, mx ((hL cs).take k) 0 = M k := fun k => congrFun hMX k
  have hP2 : Hid (P = M (hL cs).length) := by rw [Hid, hP.out, hM0]
  have h02 : Hid (M 0 = 0) := by rw [Hid, ← hM0]; rfl
  have hM2 : Hid (∀ k, k < (hL cs).length → M (k + 1) = max (M k) ((hL cs).getD k 0)) := by
    intro k hk; rw [← hM0, ← hM0]; exact hM.out k hk
  have hl2 : (hL cs).length ≤ 20 := by rw [hLl.out]; exact hl
  clear hM hP h00 hMX hM0
  generalize hL cs = hs at *
  go_enter Try.func159, Try.ntmps159
  go_wp2_with (fail)
  refine H.out.mono ?_
  rintro e w1 ⟨A1, c1, rfl, ho1, hb1⟩
  have hIS := Lib.hid (OW.rs ho1)
  have hB1 := Lib.hid hb1
  clear ho1 hb1 H
  go_wp2
  go_loop [3, 9] (fun v q => ∃ k : Nat, k ≤ hs.length ∧ q = .int .i64 k ∧ v = .int .i64 (M k)) (fun _ q => hs.length - (intOf q).toNat)
  case atStart => exact ⟨0, Nat.zero_le _, rfl, by rw [h02.out]⟩
  case round =>
    obtain ⟨k, hk, rfl, rfl⟩ := hrel
    by_cases hlt : k < hs.length
    · have hki : (k : Int) < (hs.length : Int) := by omega
      have hk0 : (0 : Int) ≤ (k : Int) := by omega
      obtain ⟨xb, xo, rfl, _, hxc⟩ := hIS.out (by omega)
      have x0 := hxc k hlt
      have hgd : hs.getD k 0 = hs[k] := by rw [List.getD_eq_getElem?_getD, List.getElem?_eq_getElem hlt]; rfl
      have hMk := hM2.out k hlt
      rw [hgd] at hMk
      have hMk := Lib.hid hMk
      clear hxc hgd
      generalize hs[k] = y at *
      go_wp2_with (fail)
      refine (l1Most_9 _ _ _).mono ?_
      rintro e w3 ⟨rfl, rfl⟩
      go_wp2
      go_round
      case rel => exact ⟨k + 1, by omega, by go_num, by rw [hMk.out]⟩
      case measure => simp [intOf]; omega
    · obtain rfl : k = hs.length := by omega
      go_wp2
      go_ret
      exact ⟨by rw [hP2.out]; rfl, hB1.out⟩
end Go.Proofs.Ytaaloepoegehkaa

/- Chapter 9: PathBound of the program. -/
namespace Go.Proofs.Ytaaloepoegehkaa
open Go.RowKit
set_option linter.unusedVariables false
set_option maxRecDepth 100000

set_option maxHeartbeats 4000000 in
theorem pathBound_any (L B : Nat) (A : Option Addr) (c : Nat) (cs : List In) (L1 B1 : Nat) (An : Option Addr) (cn : Nat) (w : World) (h20 : cs.length ≤ 20) (hes : RS In.enc 5 w L B A cs) (hB : B ≤ w.heap.size) (hpn : PN w L1 B1 An (nds cs)) (hB1 : B1 ≤ w.heap.size) :
    Calls Try.prog 162 #[.agg #[.slice A cs.length c, .slice An cs.length cn]] w fun e w' => e = .returned (.int .i64 (pbV cs)) ∧ Below w.heap.size w w' := by
  have a1 := (Below.refl w.heap.size w).alloc (Nat.le_refl _) (.cells #[.slice A cs.length c, .slice An cs.length cn] 97)
  have H := Lib.hid (heights_any L B A c cs L1 B1 An cn (w.alloc (.cells #[.slice A cs.length c, .slice An cs.length cn] 97)) h20 (hes.below a1 hB) (Nat.le_trans hB a1.size) (hpn.below a1 hB1) (Nat.le_trans hB1 a1.size))
  have hP1 := Lib.hid (PB.new w (.slice A cs.length c) (.slice An cs.length cn))
  have hA1 := Lib.hid a1
  have hP : Hid (pbV cs = mx ((hL cs).take (hL cs).length) 0) := by rw [Hid, List.take_length]; rfl
  have hM := Lib.hid fun (k : Nat) (h : k < (hL cs).length) => mx_take (hL cs) 0 h
  have h00 : Hid (mx ((hL cs).take 0) 0 = 0) := rfl
  have hl2 : (hL cs).length ≤ 20 := by rw [hL_len]; exact h20
  clear hes hpn hB hB1 a1
  generalize pbV cs = P at *
  generalize hMX : (fun k => mx ((hL cs).take k) 0) = M at *
  have hM0 : ∀ k, mx ((hL cs).take k) 0 = M k := fun k => congrFun hMX k
  have hP2 : Hid (P = M (hL cs).length) := by rw [Hid, hP.out, hM0]
  have h02 : Hid (M 0 = 0) := by rw [Hid, ← hM0]; rfl
  have hM2 : Hid (∀ k, k < (hL cs).length → M (k + 1) = max (M k) ((hL cs).getD k 0)) := by
    intro k hk; rw [← hM0, ← hM0]; exact hM.out k hk
  clear hM hP h00 hMX hM0
  generalize hL cs = hs at *
  have q0 := PB.c0 hP1.out
  have q1 := PB.c1 hP1.out
  go_enter Try.func162, Try.ntmps162
  go_wp2_with (fail)
  refine H.out.mono ?_
  rintro e w1 ⟨A1, c1, rfl, ho1, hb1⟩
  have hIS := Lib.hid (OW.rs ho1)
  have hB1 := Lib.hid (hA1.out.trans (hb1.mono hA1.out.size))
  clear ho1 hb1 H q0 q1
  go_wp2
  go_loop [3, 9] (fun v q => ∃ k : Nat, k ≤ hs.length ∧ q = .int .i64 k ∧ v = .int .i64 (M k)) (fun _ q => hs.length - (intOf q).toNat)
  case atStart => exact ⟨0, Nat.zero_le _, rfl, by rw [h02.out]⟩
  case round =>
    obtain ⟨k, hk, rfl, rfl⟩ := hrel
    by_cases hlt : k < hs.length
    · have hki : (k : Int) < (hs.length : Int) := by omega
      have hk0 : (0 : Int) ≤ (k : Int) := by omega
      obtain ⟨xb, xo, rfl, _, hxc⟩ := hIS.out (by omega)
      have x0 := hxc k hlt
      have hgd : hs.getD k 0 = hs[k] := by rw [List.getD_eq_getElem?_getD, List.getElem?_eq_getElem hlt]; rfl
      have hMk := hM2.out k hlt
      rw [hgd] at hMk
      have hMk := Lib.hid hMk
      clear hxc hgd
      generalize hs[k] = y at *
      go_wp2
      go_round
      case rel => exact ⟨k + 1, by omega, by go_num, by rw [hMk.out]⟩
      case measure => simp [intOf]; omega
    · obtain rfl : k = hs.length := by omega
      go_wp2
      go_ret
      exact ⟨by rw [hP2.out]; rfl, hB1.out⟩
end Go.Proofs.Ytaaloepoegehkaa
