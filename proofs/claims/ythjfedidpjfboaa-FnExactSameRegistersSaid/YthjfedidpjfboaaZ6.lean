/- Texts of this proof, one behind the other: BJ, LawLV, BN, HB, HC, HD. -/
import Derived.Test.YthjfedidpjfboaaZ8
import Derived.Test.YthjfedidpjfboaaZ13
import Derived.Test.YthjfedidpjfboaaZ12
import Derived.Test.YthjfedidpjfboaaZ7
import Derived.WalkKit
import Derived.WalkSpells
import Derived.WalkLawsBesides
import Derived.Lib.Hide
import Derived.Test.YthjfedidpjfboaaLawC
import Derived.Test.YthjfedidpjfboaaCG
import Derived.Test.YthjfedidpjfboaaV3
import Derived.Test.YthjfedidpjfboaaLI
import Derived.Test.YthjfedidpjfboaaV
import Derived.Deep.RegionHeld3
/- What is alive before an instruction: the model. -/
namespace Go.Proofs.Ythjfedidpjfboaa
open Go.RowKit
set_option linter.unusedVariables false
set_option maxRecDepth 100000

set_option maxHeartbeats 4000000 in
theorem cdBefore_any (L0 B0 : Nat) (A : Option Addr) (c : Nat) (x : In) (L : List Int) (w : World) (hl : L.length ≤ 6) (hL : IS w L0 B0 A L) (hB : B0 ≤ w.heap.size) :
    Calls Try.prog 93 #[.agg #[.string x.op, .int .i64 x.d, .int .i64 x.a, .int .i64 x.b, .int .i64 x.m], .slice A L.length c] w (OwnI w.heap.size w (lvB x L)) := by
  have hP := Lib.hid fun (W : World) (hW : Below w.heap.size w W) => hL.below hW hB
  have h0 := Lib.hid (lvTo_zero x L)
  have hZ : Hid (lvB x L = lvTo x L L.length) := rfl
  have hSa := Lib.hid fun (k : Nat) (h : k < L.length) => lvTo_same (x := x) (L := L) h
  have hSp := Lib.hid fun (k : Nat) (h : k < L.length) => lvTo_put (x := x) (L := L) h
  have hLn := Lib.hid fun (k : Nat) => lvTo_len x L k
  have hRd := Lib.hid fun (W : World) => cdReads_any x W
  have ba := (Below.refl w.heap.size w).alloc (Nat.le_refl _) (.cells #[.string x.op, .int .i64 x.d, .int .i64 x.a, .int .i64 x.b, .int .i64 x.m] 90)
  have nb : CB 90 (w.alloc (.cells #[.string x.op, .int .i64 x.d, .int .i64 x.a, .int .i64 x.b, .int .i64 x.m] 90)) w.heap.size [.string x.op, .int .i64 x.d, .int .i64 x.a, .int .i64 x.b, .int .i64 x.m] := heap_alloc_new w _
  have hBa := Lib.hid ba
  have hNb := Lib.hid nb
  clear hL hB ba nb
  obtain ⟨op, d, a, b, m⟩ := x
  dsimp only at hRd hNb hBa hSa hSp ⊢
  generalize readsL ⟨op, d, a, b, m⟩ = R at *
  generalize lvB ⟨op, d, a, b, m⟩ L = Z at *
  generalize lvTo ⟨op, d, a, b, m⟩ L = F at *
  go_enter Try.func93, Try.ntmps93
  go_wp2_with (go_at_call 150; refine (hRd.out _).mono ?_; rintro e w2 ⟨A2, c2, rfl, ho, hb2⟩)
  have hb2h := Lib.hid hb2
  have hO2 := Lib.hid (ho.lower hBa.out.size : OW w2 w.heap.size w2.heap.size (.slice A2 R.length c2) R)
  have hB2 := Lib.hid (hBa.out.trans (hb2.mono hBa.out.size))
  have n1 := CB.cell (CB.below hNb.out hb2 (CB.lt hNb.out)) 1
  simp only [List.getElem?_cons_zero, List.getElem?_cons_succ] at n1
  have hn1 := Lib.hid n1
  have hwl := Lib.hid (show w.heap.size < w2.heap.size from Nat.lt_of_lt_of_le (CB.lt hNb.out) hb2.size)
  clear hb2 ho n1
  go_loopw [5, 12] (fun v i wr => ∃ k : Nat, k ≤ L.length ∧ i = .int .i64 k ∧ OW wr w.heap.size wr.heap.size v (F k) ∧ Below w2.heap.size w2 wr) (fun _ i _ => L.length - (intOf i).toNat)
  case atStart => exact ⟨0, Nat.zero_le _, rfl, by rw [h0.out]; exact hO2.out, Below.refl _ _⟩
  case round =>
    obtain ⟨k, hk, rfl, how, hbel⟩ := hrel
    have hBL := Lib.hid hbel
    have hO := Lib.hid how
    have hBw := Lib.hid (hB2.out.trans (hbel.mono (Nat.le_of_lt hwl.out)))
    have hFl := hLn.out k
    by_cases hlt : k < L.length
    · obtain ⟨A3, c3, rfl, _⟩ := how.form
      obtain ⟨pb, po, rfl, ⟨_, hpb⟩, hcc⟩ := (hP.out _ hBw.out) (by omega)
      have y1 := hcc k hlt
      have m1 := (hbel.cell (p := ⟨w.heap.size, 1, none⟩) hwl.out).trans hn1.out
      have hsa := Lib.hid (hSa.out k hlt)
      have hsp := Lib.hid (hSp.out k hlt)
      clear hcc hbel how
      generalize L[k] = r at *
      generalize hnx : F (k + 1) = nx at *
      have hnx2 := Lib.hid hnx
      clear hnx
      generalize F k = ts at *
      by_cases hrd : r = d
      · have hs := Lib.hid (hsa.out hrd)
        have hq := Lib.hid (show (r == d) = true by simpa using hrd)
        subst hrd
        clear hsa hsp
        go_wp2
        go_roundw
        case rel => exact ⟨k + 1, by omega, by go_num, by rw [hnx2.out, hs.out]; exact hO.out, hBL.out⟩
        case measure => simp [intOf]; omega
      · have hs := Lib.hid (hsp.out hrd)
        have hq : (r == d) = false := by simpa using hrd
        clear hsa hsp
        have hPut := fun (W : World) (hW : Below wr.heap.size wr W) => Lib.hid (l1Put_any w.heap.size W.heap.size A3 ts.length c3 ts r W rfl (by omega) ((hO.out.below hW (Nat.le_refl _)).more hW.size) (Nat.le_trans hBw.out.size hW.size) (Nat.le_refl _))
        go_wp2_with (go_at_call 151; (with_reducible refine (hPut _ (Below.refl _ _)).out.mono ?_); rintro e w3 ⟨A4, c4, rfl, ho3, hb3⟩)
        have hO3 := Lib.hid ho3
        have hB3 := Lib.hid (hBL.out.trans (hb3.mono hBL.out.size))
        clear ho3 hb3
        go_roundw
        case rel => exact ⟨k + 1, by omega, by go_num, by rw [hnx2.out, hs.out]; exact hO3.out, hB3.out⟩
        case measure => simp [intOf]; omega
    · obtain rfl : k = L.length := by omega
      obtain ⟨A3, c3, rfl, _⟩ := how.form
      clear how hbel
      go_wp2
      go_ret
      exact ⟨A3, c3, by rw [hZ.out]; rfl, by rw [hZ.out]; exact hO.out, hBw.out⟩
end Go.Proofs.Ythjfedidpjfboaa

/- The laws of DropDead, LiveBefore, MostAlive are walked in LawC. -/
namespace Go.Proofs.Ythjfedidpjfboaa
end Go.Proofs.Ythjfedidpjfboaa

/- DropDead of the model. -/
namespace Go.Proofs.Ythjfedidpjfboaa
open Go.RowKit
set_option linter.unusedVariables false
set_option maxRecDepth 100000

theorem enc_ones (es : List In) : ∀ u ∈ es.flatMap In.enc, u.oneCell' = true := by
  intro u hu
  obtain ⟨x, _, hx⟩ := List.mem_flatMap.1 hu
  simp [In.enc] at hx
  rcases hx with rfl | rfl | rfl | rfl | rfl <;> rfl
def ddOk (cs : List In) (out : List Int) : Bool := okCode cs && riseB out
def ddR (cs : List In) (out : List Int) : List In := if ddOk cs out = true then (ddS (setsTo out out.length) cs).1 else []
theorem hasI_mkT {bs : List Bool} {n : Nat} (h : n < 6) : hasI (mkT bs) (n : Int) = bs.getD n false := by
  rw [Bool.eq_iff_iff, ← mem_mkT h]; simp [hasI]

set_option maxHeartbeats 4000000 in
theorem sDropDead_any (L B L' B' : Nat) (A A' : Option Addr) (c c' : Nat) (cs : List In) (out : List Int) (w : World) (hl : cs.length ≤ 1048576) (hn : out.length ≤ 1048576) (hes : RS In.enc 5 w L B A cs) (hB : B ≤ w.heap.size) (hns : IS w L' B' A' out) (hB' : B' ≤ w.heap.size) :
    Calls Try.prog 38 #[.slice A cs.length c, .slice A' out.length c'] w (ResDropDead (ddR cs out) (ddOk cs out) w) := by
  obtain ⟨i0, hi', hz0', hz1', hz2'⟩ := info_parts Try.infoInstr
  have hi := Lib.hid hi'
  have hz0 := Lib.hid hz0'
  have hz1 := Lib.hid hz1'
  have hz2 := Lib.hid hz2'
  clear hi' hz0' hz1' hz2'
  have H := Lib.hid (cdCode_any L B A c cs w hl hes hB)
  have H2 := Lib.hid fun (W : World) (hW : Below w.heap.size w W) => cdWanted_any L' B' A' c' out W hn (hns.below hW hB')
  have H3 := Lib.hid fun (W : World) (hW : Below w.heap.size w W) => l1Own_any L' B' A' c' out W hn (hns.below hW hB') (Nat.le_trans hB' hW.size)
  have hE := Lib.hid fun (W : World) (hW : Below w.heap.size w W) => hes.below hW hB
  have hBB := Lib.hid hB
  clear hes hB hns hB'
  cases hk : okCode cs
  · have hR := Lib.hid (show ddR cs out = [] by unfold ddR ddOk; rw [hk]; rfl)
    have hO := Lib.hid (show ddOk cs out = false by unfold ddOk; rw [hk]; rfl)
    rw [hk] at H
    clear hk H2 H3 hE
    go_enter Try.func38, Try.ntmps38
    go_wp2_with (go_at_call 89; refine H.out.mono ?_; rintro e w1 ⟨rfl, hb1⟩; have hbh := Lib.hid hb1; clear hb1)
    go_ret2
    rw [hR.out, hO.out]
    exact ⟨none, 0, rfl, OK.nil _ _ _ _, hbh.out⟩
  cases hr : riseB out
  · have hR := Lib.hid (show ddR cs out = [] by unfold ddR ddOk; rw [hk, hr]; rfl)
    have hO := Lib.hid (show ddOk cs out = false by unfold ddOk; rw [hk, hr]; rfl)
    rw [hk] at H
    rw [hr] at H2
    clear hk H3 hE hr
    go_enter Try.func38, Try.ntmps38
    go_wp2_with (first | (go_at_call 89; refine H.out.mono ?_; rintro e w1 ⟨rfl, hb1⟩; have hbh := Lib.hid hb1; clear hb1) | (go_at_call 90; refine (H2.out _ hbh.out).mono ?_; rintro e w2 ⟨rfl, rfl⟩))
    go_ret2
    rw [hR.out, hO.out]
    exact ⟨none, 0, rfl, OK.nil _ _ _ _, hbh.out⟩
  have hR := Lib.hid (show ddR cs out = (ddS (setsTo out out.length) cs).1 by unfold ddR ddOk; rw [hk, hr]; rfl)
  have hO := Lib.hid (show ddOk cs out = true by unfold ddOk; rw [hk, hr]; rfl)
  have hbits := Lib.hid (rise_bits hr).2
  have hl6 := setsTo_len out out.length
  have hall := Lib.hid (okCode_all hk)
  have hl40 := okCode_len hk
  rw [hk] at H
  rw [hr] at H2
  clear hk hr
  generalize setsTo out out.length = bs at *
  have hD := Lib.hid fun (k : Nat) (h : k < cs.length) => ddS_drop bs h
  have hL1 := Lib.hid fun (k : Nat) => (ddS_len bs (cs.drop k)).1
  have hL2 := Lib.hid fun (k : Nat) => (ddS_len bs (cs.drop k)).2.trans hl6
  have hE0 := Lib.hid (show ddS bs (cs.drop cs.length) = ([], bs) by rw [List.drop_length]; rfl)
  have hEn := Lib.hid (show ddS bs (cs.drop 0) = ddS bs cs by rw [List.drop_zero])
  have hw1 : IntKind.i64.wrap ((cs.length : Int) - 1) = (cs.length : Int) - 1 := by rw [IntKind.wrap_i64]; omega
  go_enter Try.func38, Try.ntmps38
  go_wp2_with (first | (go_at_call 89; refine H.out.mono ?_; rintro e w1 ⟨rfl, hb1⟩; have hbh := Lib.hid hb1; clear hb1) | (go_at_call 90; refine (H2.out _ hbh.out).mono ?_; rintro e w2 ⟨rfl, rfl⟩) | (go_at_call 91; refine (H3.out _ hbh.out).mono ?_; rintro e w3 ⟨A3, c3, rfl, ho3, hb3⟩; have hO3 := Lib.hid (ho3.lower hbh.out.size); have hbj := Lib.hid (hbh.out.trans (hb3.mono hbh.out.size)); clear ho3 hb3))
  go_loopw [6, 7, 8] (fun v a i wr => ∃ r : Nat, r ≤ cs.length ∧ i = .int .i64 ((r : Int) - 1) ∧ OK In.enc 5 90 wr w.heap.size wr.heap.size v (ddS bs (cs.drop r)).1 ∧ OW wr w.heap.size wr.heap.size a (mkT (ddS bs (cs.drop r)).2) ∧ Below w.heap.size w wr) (fun _ _ i _ => (intOf i + 1).toNat)
  case atStart => exact ⟨cs.length, Nat.le_refl _, rfl, by rw [hE0.out]; exact OK.nil _ _ _ _, by rw [hE0.out]; dsimp only; rw [hbits.out]; exact hO3.out, hbj.out⟩
  case round =>
    obtain ⟨r, hr, rfl, hok, how, hbel⟩ := hrel
    obtain ⟨VA, vc, rfl, hrs⟩ := hok.form In.hk
    obtain ⟨A4, c4, rfl, _⟩ := how.form
    have hK := Lib.hid hok
    have hW := Lib.hid how
    have hBL := Lib.hid hbel
    have hSr := Lib.hid hrs
    clear hok how hrs
    cases r with
    | zero =>
      have e0 : ((0 : Nat) : Int) - 1 = -1 := by decide
      rw [e0]
      clear hbel
      go_wp2
      go_ret2
      rw [hR.out, hO.out, ← hEn.out]
      exact ⟨VA, vc, rfl, hK.out, hBL.out⟩
    | succ r =>
      have e0 : ((r + 1 : Nat) : Int) - 1 = (r : Int) := by omega
      rw [e0]
      have hrl : r < cs.length := hr
      have hri : (r : Int) < (cs.length : Int) := by omega
      have hr0 : (0 : Int) ≤ (r : Int) := by omega
      obtain ⟨b, o, rfl, ⟨_, hbB⟩, hc⟩ := In.cells (hE.out _ hbel) (by omega)
      obtain ⟨d1, d2, d3, d4, d5⟩ := hc r hrl
      have hg := Lib.hid (hall.out _ (List.getElem_mem hrl))
      have hst := Lib.hid (hD.out r hrl)
      have hl5 := hL1.out (r + 1)
      have hl7 := hL2.out (r + 1)
      have hlr := hL1.out r
      clear hc hbel
      generalize hP0 : ddS bs (cs.drop r) = P0 at *
      have hp0 := Lib.hid hP0
      clear hP0
      generalize ddS bs (cs.drop (r + 1)) = P1 at *
      obtain ⟨ks, bb⟩ := P1
      dsimp only at hl5 hl7 hK hW hSr hst
      generalize cs[r] = x at *
      obtain ⟨op, d, xa, xb, m⟩ := x
      dsimp only at d1 d2 d3 d4 d5
      obtain ⟨hd0, hd5⟩ := (good_parts hg.out).1
      dsimp only at hd0 hd5
      obtain ⟨n, rfl⟩ := Int.eq_ofNat_of_zero_le hd0
      have hn6 : n < 6 := by omega
      have hw2 : IntKind.i64.wrap ((r : Int) - 1) = (r : Int) - 1 := by rw [IntKind.wrap_i64]; omega
      have hml : (mkT bb).length ≤ 6 := by rw [← mkTo_all]; exact mkTo_len bb 6
      have hmh := Lib.hid hml
      have hHas := Lib.hid (l1Has_any w.heap.size wr.heap.size A4 c4 (mkT bb) (n : Int) wr (by omega) hW.out.rs)
      rw [hasI_mkT hn6] at hHas
      cases hb : bb.getD n false
      · have hs := Lib.hid (show P0 = (ks, bb) by rw [hst.out]; unfold ddStep; rw [if_neg (by dsimp only; rw [Int.toNat_natCast, hb]; decide)])
        rw [hb] at hHas
        clear hst hb hd0 hd5
        go_wp2_with (go_at_call 92; refine hHas.out.mono ?_; rintro e w4 ⟨rfl, rfl⟩)
        go_roundw
        case rel => exact ⟨r, by omega, rfl, by rw [hp0.out, hs.out]; exact hK.out, by rw [hp0.out, hs.out]; exact hW.out, hBL.out⟩
        case measure => first | (simp [intOf]; done) | (simp [intOf]; omega)
      · have hs := Lib.hid (show P0 = (⟨op, (n : Int), xa, xb, m⟩ :: ks, bkB bb ⟨op, (n : Int), xa, xb, m⟩) by rw [hst.out]; unfold ddStep; rw [if_pos (by dsimp only; rw [Int.toNat_natCast, hb])])
        rw [hb] at hHas
        have hlv := Lib.hid (lvB_bits hg.out hl7)
        have hba := (Below.refl wr.heap.size wr).alloc (Nat.le_refl _) (.cells #[.string op, .int .i64 (n : Int), .int .i64 xa, .int .i64 xb, .int .i64 m] 90)
        have hown := Lib.hid (show (wr.alloc (.cells #[.string op, .int .i64 (n : Int), .int .i64 xa, .int .i64 xb, .int .i64 m] 90)).ownsRow w.heap.size 90 5 (.slice (some ⟨wr.heap.size, 0, none⟩) 1 1) 1 (In.enc ⟨op, (n : Int), xa, xb, m⟩) from ⟨by rw [In.hk], .inr ⟨wr.heap.size, 1, _, rfl, hBL.out.size, heap_alloc_new wr _, Nat.le_refl _, by unfold maxLen; omega, by simp, by simp [In.enc]⟩⟩)
        have hnews := Lib.hid ((hSr.out.below hba (Nat.le_refl _)).news In.hk)
        have hbah := Lib.hid hba
        have hbw0 : b < w.heap.size := Nat.lt_of_lt_of_le hbB hBB.out
        have hbwr : b < wr.heap.size := Nat.lt_of_lt_of_le hbw0 hBL.out.size
        clear hst hb hd0 hd5 hba
        have hks : ks.length ≤ 40 := by have := hl5; rw [List.length_drop] at this; omega
        have hCB := Lib.hid fun (A' : Option Addr) (c' : Nat) (W : World) (hW4 : IS W w.heap.size wr.heap.size A' (mkT bb)) (hz : wr.heap.size ≤ W.heap.size) => cdBefore_any w.heap.size wr.heap.size A' c' ⟨op, (n : Int), xa, xb, m⟩ (mkT bb) W hmh.out hW4 hz
        rw [hlv.out] at hCB
        dsimp only at hCB
        generalize hbk : bkB bb ⟨op, (n : Int), xa, xb, m⟩ = nb at *
        generalize mkT bb = ts at *
        go_wp2_with (first
          | (go_at_call 92; refine hHas.out.mono ?_; rintro e w4 ⟨rfl, rfl⟩)
          | (at_builtin; refine wpList_append_src rfl _ _ 34 rfl w.heap.size 90 i0 _ 5 48 Try.underlying34 hi.out hz0.out hz1.out hz2.out rfl (by decide) _ 1 _ rfl hown.out VA ks.length vc (ks.flatMap In.enc) rfl (kflat_len In.hk ks) hnews.out (enc_ones ks) (by unfold maxLen; omega) (by omega) (Nat.le_trans hBL.out.size hbah.out.size) ?_; intro v' w4 hown4 hgr4 _; have hbw := Lib.hid (hbah.out.grown hgr4 hbah.out.size (fun k hk => Nat.le_of_eq (Option.some.inj hk))); have g1 := (hbw.out.cell (p := ⟨b, o + r * 5, none⟩) hbwr).trans d1; have g2 := (hbw.out.cell (p := ⟨b, o + r * 5 + 1, none⟩) hbwr).trans d2; have g3 := (hbw.out.cell (p := ⟨b, o + r * 5 + 2, none⟩) hbwr).trans d3; have g4 := (hbw.out.cell (p := ⟨b, o + r * 5 + 3, none⟩) hbwr).trans d4; have g5 := (hbw.out.cell (p := ⟨b, o + r * 5 + 4, none⟩) hbwr).trans d5; have hOw := Lib.hid hown4; clear hown4 hgr4 d1 d2 d3 d4 d5)
          | (go_at_call 93; refine (hCB.out _ _ _ ((hW.out.below hbw.out (Nat.le_refl _)).rs) hbw.out.size).mono ?_; rintro e w5 ⟨A5, c5, rfl, ho5, hb5⟩; have hO5 := Lib.hid (ho5.lower (Nat.le_trans hBL.out.size hbw.out.size)); have hB5 := Lib.hid (hBL.out.trans ((hbw.out.trans (hb5.mono hbw.out.size)).mono hBL.out.size)); have hb5h := Lib.hid hb5; clear ho5 hb5))
        all_goals
          go_roundw
          case rel => exact ⟨r, by omega, rfl, by rw [hp0.out, hs.out]; exact ((show OK In.enc 5 90 _ w.heap.size _ v' (⟨op, (n : Int), xa, xb, m⟩ :: ks) from by
            have := hOw.out
            exact ⟨by rw [List.length_cons, Nat.add_comm]; simpa using this, fun j hj => (this.lt j hj).2⟩).below hb5h.out (Nat.le_refl _)).more hb5h.out.size, by rw [hp0.out, hs.out]; exact hO5.out, hB5.out⟩
          case measure => first | (simp [intOf]; done) | (simp [intOf]; omega)
end Go.Proofs.Ythjfedidpjfboaa

/- Slices of slices of ints. -/
namespace Go.Proofs.Ythjfedidpjfboaa
open Go.RowKit
set_option linter.unusedVariables false

def encV (v : Value) : List Value := [v]
/-- A slice of slices of ints, read. -/
def XS (w : World) (L B : Nat) (A : Option Addr) (xss : List (List Int)) : Prop :=
  ∃ vs : List Value, vs.length = xss.length ∧ RS encV 1 w L B A vs ∧ ∀ i (h : i < vs.length) (h' : i < xss.length), ∃ Ai ci, vs[i] = .slice Ai (xss[i]).length ci ∧ IS w L B Ai xss[i]
theorem XS.below {w w' : World} {L B C : Nat} {A : Option Addr} {xss : List (List Int)} (h : XS w L B A xss) (hb : Below C w w') (hC : B ≤ C) : XS w' L B A xss := by
  obtain ⟨vs, hl, hr, hi⟩ := h
  exact ⟨vs, hl, hr.below hb hC, fun i h h' => by obtain ⟨Ai, ci, e, hx⟩ := hi i h h'; exact ⟨Ai, ci, e, hx.below hb hC⟩⟩
theorem XS.at {w : World} {L B : Nat} {A : Option Addr} {xss : List (List Int)} (h : XS w L B A xss) {i : Nat} (hi : i < xss.length) :
    ∃ b o Ai ci, A = some ⟨b, o, none⟩ ∧ b < B ∧ w.cell? ⟨b, o + i, none⟩ = some (.slice Ai (xss[i]).length ci) ∧ IS w L B Ai xss[i] := by
  obtain ⟨vs, hl, hr, hx⟩ := h
  obtain ⟨b, o, e, ⟨_, hb⟩, hc⟩ := hr (by omega)
  obtain ⟨Ai, ci, e2, hI⟩ := hx i (by omega) hi
  have h1 := hc i (by omega) 0 vs[i] rfl
  rw [e2] at h1
  exact ⟨b, o, Ai, ci, e, hb, by simpa using h1, hI⟩

set_option maxHeartbeats 4000000 in
theorem eqIntSS_any (L B L' B' : Nat) (A A' : Option Addr) (c c' : Nat) (xss : List (List Int)) (w : World) (hl : xss.length ≤ 1048576) (hls : ∀ xs ∈ xss, xs.length ≤ 1048576) (hx : XS w L B A xss) (hx' : XS w L' B' A' xss) (hB : B ≤ w.heap.size) (hB' : B' ≤ w.heap.size) :
    Calls Try.prog 44 #[.slice A xss.length c, .slice A' xss.length c'] w fun e w' => e = .returned (.bool true) ∧ Below w.heap.size w w' := by
  have hX := Lib.hid hx
  have hY := Lib.hid hx'
  have hL := Lib.hid hls
  clear hx hx' hls
  go_enter Try.func44, Try.ntmps44
  go_wp2
  go_loopw [5] (fun i wr => ∃ k : Nat, k ≤ xss.length ∧ i = .int .i64 k ∧ Below w.heap.size w wr) (fun i _ => xss.length - (intOf i).toNat)
  case atStart => exact ⟨0, Nat.zero_le _, rfl, Below.refl _ _⟩
  case round =>
    obtain ⟨k, hk, rfl, hbel⟩ := hrel
    have hBl := Lib.hid hbel
    by_cases hlt : k < xss.length
    · obtain ⟨b, o, Ai, ci, rfl, z1, c1, hI⟩ := (hX.out.below hbel hB).at hlt
      obtain ⟨b', o', Ai', ci', rfl, z2, d1, hI'⟩ := (hY.out.below hbel hB').at hlt
      have hE := Lib.hid fun (W : World) (hW : Below wr.heap.size wr W) => eqIntS_any L B L' B' Ai Ai' xss[k].length xss[k].length ci ci' xss[k] xss[k] W rfl rfl (hL.out _ (List.getElem_mem _)) (hI.below hW (Nat.le_trans hB hbel.size)) (hI'.below hW (Nat.le_trans hB' hbel.size)) (Nat.le_trans (Nat.le_trans hB hbel.size) hW.size) (Nat.le_trans (Nat.le_trans hB' hbel.size) hW.size) rfl
      have hBd := Lib.hid (Below.refl wr.heap.size wr).drew
      have hz1 : b < wr.heap.size := Nat.lt_of_lt_of_le z1 (Nat.le_trans hB hbel.size)
      have hz2 : b' < wr.heap.size := Nat.lt_of_lt_of_le z2 (Nat.le_trans hB' hbel.size)
      have hki : (k : Int) < (xss.length : Int) := by omega
      have hk0 : (0 : Int) ≤ (k : Int) := by omega
      have hjh := Lib.hid hlt
      clear hI hI' hbel
      generalize (xss[k]).length = m at *
      go_wp2_with (fail)
      go_region_held3 (fun w' => w'.cell? ⟨b, o + k, none⟩ = some (.slice Ai m ci) ∧ w'.cell? ⟨b', o' + k, none⟩ = some (.slice Ai' m ci')) (first | exact ⟨(hb2.cell hz1).trans c1, (hb2.cell hz2).trans d1⟩ | go_keep) ((go_at_call 31; refine (hE.out _ hBd.out).mono ?_; rintro e w2 ⟨rfl, hb2⟩; have hBi := Lib.hid ((hBl.out.trans (hBd.out.mono hBl.out.size)).trans (hb2.mono (Nat.le_trans hBl.out.size hBd.out.size)))))
      clear hb2
      go_wp2
      have := hjh.out
      exact ⟨⟨k + 1, hjh.out, by go_num, hBi.out⟩, by simp [intOf]; omega⟩
    · obtain rfl : k = xss.length := by omega
      go_wp2
      go_ret
      exact ⟨rfl, hBl.out⟩
end Go.Proofs.Ythjfedidpjfboaa

/- Slices of slices of ints: what the marks read. -/
namespace Go.Proofs.Ythjfedidpjfboaa
open Go.RowKit
set_option linter.unusedVariables false

def marksSS : Int → List Nat → List (List Int)
  | _, [] => []
  | k0, n :: ns => marks k0 n :: marksSS (k0 + n) ns
theorem marksSS_len : ∀ (k0 : Int) (ns : List Nat), (marksSS k0 ns).length = ns.length
  | _, [] => rfl
  | k0, n :: ns => by simp [marksSS, marksSS_len]
theorem marksSS_get : ∀ (k0 : Int) (ns : List Nat) (i : Nat) (h : i < (marksSS k0 ns).length) (h' : i < ns.length), (marksSS k0 ns)[i] = marks (k0 + ((ns.take i).sum : Nat)) ns[i]
  | _, [], i, h, h' => by simp at h'
  | k0, n :: ns, 0, h, h' => by simp [marksSS]
  | k0, n :: ns, i + 1, h, h' => by
    have := marksSS_get (k0 + n) ns i (by rw [marksSS_len]; simpa using h') (by simpa using h')
    simp only [marksSS, List.getElem_cons_succ, List.take_succ_cons, List.sum_cons]
    rw [this]; congr 1; omega
theorem sum_take_le : ∀ (ns : List Nat) (i : Nat), (ns.take i).sum ≤ ns.sum
  | [], i => by simp
  | n :: ns, 0 => by simp
  | n :: ns, i + 1 => by simp only [List.take_succ_cons, List.sum_cons]; have := sum_take_le ns i; omega
theorem sum_take_succ (ns : List Nat) {i : Nat} (h : i < ns.length) : (ns.take (i + 1)).sum = (ns.take i).sum + ns[i] := by
  rw [List.take_succ_eq_append_getElem h, List.sum_append]; simp
theorem marks_len (k0 : Int) (n : Nat) : (marks k0 n).length = n := by simp [marks]

set_option maxHeartbeats 4000000 in
theorem heldIntSS_any (L B : Nat) (A : Option Addr) (c : Nat) (ns : List Nat) (k0 : Int) (w : World) (hl : ns.length ≤ 1048576) (hs : ns.sum ≤ 1048576) (hk0 : 0 ≤ k0) (hk1 : k0 ≤ 1000000) (hx : XS w L B A (marksSS k0 ns)) :
    Calls Try.prog 46 #[.slice A ns.length c, .int .i64 k0] w fun e w' => e = .returned (.int .i64 (k0 + (ns.sum : Nat))) ∧ w = w' := by
  have hX := Lib.hid hx
  have hS := Lib.hid hs
  clear hx hs
  go_enter Try.func46, Try.ntmps46
  go_wp2
  go_loop [1, 5] (fun q i => ∃ k : Nat, k ≤ ns.length ∧ i = .int .i64 k ∧ q = .int .i64 (k0 + ((ns.take k).sum : Nat))) (fun _ i => ns.length - (intOf i).toNat)
  case atStart => exact ⟨0, Nat.zero_le _, rfl, by simp⟩
  case round =>
    obtain ⟨k, hk, rfl, rfl⟩ := hrel
    by_cases hlt : k < ns.length
    · obtain ⟨b, o, Ai, ci, rfl, z1, c1, hI⟩ := hX.out.at (by rw [marksSS_len]; exact hlt)
      rw [marksSS_get k0 ns k (by rw [marksSS_len]; exact hlt) hlt] at c1 hI
      rw [marks_len] at c1
      have h1 := sum_take_le ns k
      have h2 := sum_take_le ns (k + 1)
      have h3 := sum_take_succ ns hlt
      have h4 := hS.out
      have hE := Lib.hid (heldIntS_any L B Ai ns[k] ci (k0 + ((ns.take k).sum : Nat)) w (by omega) (by omega) (by omega) hI)
      have hsum := Lib.hid (show k0 + ((ns.take k).sum : Nat) + (ns[k] : Nat) = k0 + (((ns.take (k + 1)).sum : Nat) : Int) by rw [h3]; omega)
      have hge : (0 : Int) ≤ k0 + ((ns.take k).sum : Nat) + (ns[k] : Nat) := by omega
      have hki : (k : Int) < (ns.length : Int) := by omega
      have hjh := Lib.hid hlt
      clear hI h1 h2 h3 h4
      generalize ns[k] = m at *
      generalize k0 + ((ns.take k).sum : Nat) = s at *
      have hng : ¬ (s + (m : Int)) < 0 := by omega
      go_wp2_with (go_at_call 37; refine hE.out.mono ?_; rintro e w2 ⟨rfl, rfl⟩)
      have := hjh.out
      exact ⟨⟨k + 1, hjh.out, by go_num, by rw [hsum.out]⟩, by simp [intOf]; omega⟩
    · obtain rfl : k = ns.length := by omega
      rw [List.take_length]
      go_wp2
      go_ret
      exact ⟨rfl, rfl⟩
end Go.Proofs.Ythjfedidpjfboaa

/- Slices of slices of ints of the call's own: marked. -/
namespace Go.Proofs.Ythjfedidpjfboaa
open Go.RowKit
set_option linter.unusedVariables false

/-- A slice of slices of ints of the call's own: no two of its rows share a block, none lies in the outer slice's. -/
def OX (w : World) (lo hi : Nat) (v : Value) (xss : List (List Int)) : Prop :=
  ∃ vs : List Value, vs.length = xss.length ∧ OK encV 1 32 w lo hi v vs ∧ (∀ i (h : i < vs.length) (h' : i < xss.length), (∃ Ai ci, vs[i] = .slice Ai (xss[i]).length ci) ∧ OW w lo hi vs[i] xss[i]) ∧
    (∀ i j (h : i < vs.length) (h' : j < vs.length), i ≠ j → ∀ b, vs[i].ownBlock = some b → vs[j].ownBlock ≠ some b) ∧ (∀ b, v.ownBlock = some b → ∀ i (h : i < vs.length), vs[i].ownBlock ≠ some b)
theorem okv_rs {w : World} {lo hi n c : Nat} {A : Option Addr} {vs : List Value} (h : OK encV 1 32 w lo hi (.slice A n c) vs) : RS encV 1 w lo hi A vs := by
  obtain ⟨A', c', e, hr⟩ := OK.form (enc := encV) (k := 1) (fun _ => rfl) h
  injection e with e1 e2 e3
  subst e1
  exact hr
theorem OX.rs {w : World} {lo hi n c : Nat} {A : Option Addr} {xss : List (List Int)} (h : OX w lo hi (.slice A n c) xss) : XS w lo hi A xss := by
  obtain ⟨vs, hl, hr, hx, _⟩ := h
  refine ⟨vs, hl, okv_rs hr, fun i h h' => ?_⟩
  obtain ⟨⟨Ai, ci, e⟩, ho⟩ := hx i h h'
  rw [e] at ho
  exact ⟨Ai, ci, e, ho.rs⟩
theorem OW.turned {w w' : World} {lo hi : Nat} {v u : Value} {xs : List Int} (h : OW w lo hi v xs) (hg : w.grownBy w' u.ownBlock) (hne : ∀ b, u.ownBlock = some b → v.ownBlock ≠ some b) : OW w' lo hi v xs :=
  ⟨h.1.kept hg (by
    cases hv : v.ownBlock with
    | none => exact .inl rfl
    | some b => exact .inr (fun e => hne b e.symm (by rw [hv]))), h.2⟩
def markedX (xss : List (List Int)) (k0 : Int) (k i : Nat) : List Int := if i < k then marks (k0 + (((xss.map List.length).take i).sum : Nat)) (xss.getD i []).length else xss.getD i []
theorem markedX_other {xss : List (List Int)} {k0 : Int} {k i : Nat} (h : i ≠ k) : markedX xss k0 (k + 1) i = markedX xss k0 k i := by
  unfold markedX
  by_cases h1 : i < k
  · rw [if_pos (by omega), if_pos h1]
  · rw [if_neg (by omega), if_neg h1]
theorem markedX_at {xss : List (List Int)} {k0 : Int} {k : Nat} : markedX xss k0 (k + 1) k = marks (k0 + (((xss.map List.length).take k).sum : Nat)) (xss.getD k []).length := by unfold markedX; rw [if_pos (by omega)]
theorem markedX_self {xss : List (List Int)} {k0 : Int} {k : Nat} : markedX xss k0 k k = xss.getD k [] := by unfold markedX; rw [if_neg (by omega)]
theorem markedX_len {xss : List (List Int)} {k0 : Int} {k i : Nat} : (markedX xss k0 k i).length = (xss.getD i []).length := by unfold markedX; split <;> simp [marks]
theorem okv_kept {w w' : World} {lo hi : Nat} {v u : Value} {vs : List Value} (h : OK encV 1 32 w lo hi v vs) (hg : w.grownBy w' u.ownBlock) (hne : ∀ b, v.ownBlock = some b → u.ownBlock ≠ some b) : OK encV 1 32 w' lo hi v vs :=
  ⟨h.1.kept hg (by
    cases hv : v.ownBlock with
    | none => exact .inl rfl
    | some b => exact .inr (fun e => hne b hv e.symm)), h.2⟩
def MarkedX (w : World) (lo hi : Nat) (v : Value) (xss : List (List Int)) (k0 : Int) (e : Ending) (w' : World) : Prop :=
  e = .returned (.int .i64 (k0 + ((xss.map List.length).sum : Nat))) ∧ OX w' lo hi v (marksSS k0 (xss.map List.length)) ∧ Chg lo hi w w'

set_option maxHeartbeats 4000000 in
theorem markIntSS_any (lo hi : Nat) (A : Option Addr) (c : Nat) (xss : List (List Int)) (k0 : Int) (w : World) (hl : xss.length ≤ 1048576) (hs : (xss.map List.length).sum ≤ 1048576) (hk0 : 0 ≤ k0) (hk1 : k0 ≤ 1000000) (hx : OX w lo hi (.slice A xss.length c) xss) :
    Calls Try.prog 45 #[.slice A xss.length c, .int .i64 k0] w (MarkedX w lo hi (.slice A xss.length c) xss k0) := by
  obtain ⟨vs, hvl, hr, hx, hd, hA⟩ := hx
  have hDJ := Lib.hid hd
  have hAD := Lib.hid hA
  have hVL := Lib.hid hvl
  have hSM := Lib.hid hs
  have hR0 := Lib.hid hr
  have hX0 : Hid (∀ i (h : i < vs.length), (∃ Ai ci, vs[i] = .slice Ai (markedX xss k0 0 i).length ci) ∧ OW w lo hi vs[i] (markedX xss k0 0 i)) := fun i h => by
    have := hx i h (by omega)
    unfold markedX
    rw [if_neg (by omega), List.getD_eq_getElem?_getD, List.getElem?_eq_getElem (by omega)]
    exact this
  clear hd hA hvl hs hr hx
  go_enter Try.func45, Try.ntmps45
  go_wp2
  go_loopw [1, 5] (fun q i wr => ∃ k : Nat, k ≤ xss.length ∧ i = .int .i64 k ∧ q = .int .i64 (k0 + (((xss.map List.length).take k).sum : Nat)) ∧ OK encV 1 32 wr lo hi (.slice A xss.length c) vs ∧ (∀ i (h : i < vs.length), (∃ Ai ci, vs[i] = .slice Ai (markedX xss k0 k i).length ci) ∧ OW wr lo hi vs[i] (markedX xss k0 k i)) ∧ Chg lo hi w wr) (fun _ i _ => xss.length - (intOf i).toNat)
  case atStart => exact ⟨0, Nat.zero_le _, rfl, by simp, hR0.out, hX0.out, Chg.refl _ _ _⟩
  case round =>
    obtain ⟨k, hk, rfl, rfl, hr, hx, hch⟩ := hrel
    have hRJ := Lib.hid hr
    have hXJ := Lib.hid hx
    have hCJ := Lib.hid hch
    clear hX0 hR0
    by_cases hlt : k < xss.length
    · have hkv : k < vs.length := by rw [hVL.out]; exact hlt
      obtain ⟨⟨Ai, ci, ev⟩, ho⟩ := hx k hkv
      obtain ⟨b, o, rfl, ⟨_, hbB⟩, hc⟩ := (okv_rs hr) (by omega)
      have c1 := hc k hkv 0 vs[k] rfl
      have ho2 := ho
      rw [ev] at c1 ho
      rw [markedX_self] at c1 ho
      simp only [Nat.mul_one, Nat.add_zero] at c1
      have hlen : (xss.map List.length)[k]'(by simpa using hlt) = (xss.getD k []).length := by
        rw [List.getElem_map, List.getD_eq_getElem?_getD, List.getElem?_eq_getElem hlt]; rfl
      have h1 := sum_take_le (xss.map List.length) k
      have h2 := sum_take_le (xss.map List.length) (k + 1)
      have h3 := sum_take_succ (xss.map List.length) (i := k) (by simpa using hlt)
      rw [hlen] at h3
      have h4 := hSM.out
      have hM := Lib.hid (markIntS_any lo hi Ai ci (xss.getD k []) (k0 + (((xss.map List.length).take k).sum : Nat)) wr (by omega) (by omega) (by omega) ho)
      have hev : Hid ((Value.slice Ai (xss.getD k []).length ci) = vs[k]) := by unfold Hid; rw [ev, markedX_self]
      have hsum := Lib.hid (show k0 + (((xss.map List.length).take k).sum : Nat) + ((xss.getD k []).length : Nat) = k0 + ((((xss.map List.length).take (k + 1)).sum : Nat) : Int) by rw [h3]; omega)
      have hma := Lib.hid (markedX_at (xss := xss) (k0 := k0) (k := k))
      have hki : (k : Int) < (xss.length : Int) := by omega
      have hjh := Lib.hid hlt
      clear hc hr hx hch ho ho2 ev h1 h2 h3 h4 hlen
      generalize hxk : xss.getD k [] = xk at *
      have hxkh := Lib.hid hxk
      clear hxk
      generalize k0 + (((xss.map List.length).take k).sum : Nat) = s at *
      go_wp2_with (go_at_call 33; refine hM.out.mono ?_; rintro e w2 ⟨rfl, how, hgr⟩; have hO := Lib.hid how; have hG := Lib.hid hgr; clear how hgr)
      have := hjh.out
      have hg := hG.out
      have hO2 := hO.out
      rw [hev.out] at hg hO2
      refine ⟨⟨k + 1, hjh.out, by go_num, by rw [hsum.out], okv_kept hRJ.out hg (fun b' e => hAD.out b' e k hkv), fun i h => ?_, hCJ.out.trans (Chg.ofGrown hg (fun q e => (hXJ.out k hkv).2.lo q e))⟩, by simp [intOf]; omega⟩
      · by_cases e : i = k
        · subst e
          rw [hma.out]
          refine ⟨⟨Ai, ci, ?_⟩, hO2⟩
          rw [marks_len, hev.out]
        · rw [markedX_other e]
          exact ⟨(hXJ.out i h).1, OW.turned (hXJ.out i h).2 hg (fun b' e2 => hDJ.out k i hkv h (fun e3 => e e3.symm) b' e2)⟩
    · obtain rfl : k = xss.length := by omega
      have hsum := Lib.hid (show ((xss.map List.length).take xss.length).sum = (xss.map List.length).sum by rw [List.take_of_length_le (by simp)])
      rw [hsum.out]
      clear hr hx hch
      go_wp2
      go_ret
      refine ⟨rfl, ⟨vs, by rw [marksSS_len, List.length_map]; exact hVL.out, hRJ.out, fun i h h' => ?_, hDJ.out, hAD.out⟩, hCJ.out⟩
      have hi : i < xss.length := by rw [← hVL.out]; exact h
      rw [marksSS_get k0 _ i h' (by simpa using hi)]
      have := hXJ.out i h
      unfold markedX at this
      rw [if_pos hi, List.getD_eq_getElem?_getD, List.getElem?_eq_getElem hi] at this
      rw [List.getElem_map]
      exact this
end Go.Proofs.Ythjfedidpjfboaa
