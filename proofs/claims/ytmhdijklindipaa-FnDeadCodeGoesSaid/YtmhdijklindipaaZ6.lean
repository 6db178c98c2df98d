/- Texts of this proof, one behind the other: BJ, LawLV, BN, HC, HD, HE. -/
import Derived.Test.YtmhdijklindipaaZ8
import Derived.Test.YtmhdijklindipaaZ12
import Derived.Test.YtmhdijklindipaaZ7
import Derived.WalkKit
import Derived.WalkSpells
import Derived.WalkLawsBesides
import Derived.Lib.Hide
import Derived.Test.YtmhdijklindipaaLawC
import Derived.Test.YtmhdijklindipaaCG
import Derived.Test.YtmhdijklindipaaHI
import Derived.Test.YtmhdijklindipaaV3
import Derived.Test.YtmhdijklindipaaZ9
/- What is alive before an instruction: the model. -/
namespace Go.Proofs.Ytmhdijklindipaa
open Go.RowKit
set_option linter.unusedVariables false
set_option maxRecDepth 100000

set_option maxHeartbeats 4000000 in
theorem cdBefore_any (L0 B0 : Nat) (A : Option Addr) (c : Nat) (x : In) (L : List Int) (w : World) (hl : L.length ≤ 6) (hL : IS w L0 B0 A L) (hB : B0 ≤ w.heap.size) :
    Calls Try.prog 180 #[.agg #[.string x.op, .int .i64 x.d, .int .i64 x.a, .int .i64 x.b, .int .i64 x.m], .slice A L.length c] w (OwnI w.heap.size w (lvB x L)) := by
  have hP := Lib.hid fun (W : World) (hW : Below w.heap.size w W) => hL.below hW hB
  have h0 := Lib.hid (lvTo_zero x L)
  have hZ : Hid (lvB x L = lvTo x L L.length) := rfl
  have hSa := Lib.hid fun (k : Nat) (h : k < L.length) => lvTo_same (x := x) (L := L) h
  have hSp := Lib.hid fun (k : Nat) (h : k < L.length) => lvTo_put (x := x) (L := L) h
  have hLn := Lib.hid fun (k : Nat) => lvTo_len x L k
  have hRd := Lib.hid fun (W : World) => cdReads_any x W
  have ba := (Below.refl w.heap.size w).alloc (Nat.le_refl _) (.cells #[.string x.op, .int .i64 x.d, .int .i64 x.a, .int .i64 x.b, .int .i64 x.m] 56)
  have nb : CB 56 (w.alloc (.cells #[.string x.op, .int .i64 x.d, .int .i64 x.a, .int .i64 x.b, .int .i64 x.m] 56)) w.heap.size [.string x.op, .int .i64 x.d, .int .i64 x.a, .int .i64 x.b, .int .i64 x.m] := heap_alloc_new w _
  have hBa := Lib.hid ba
  have hNb := Lib.hid nb
  clear hL hB ba nb
  obtain ⟨op, d, a, b, m⟩ := x
  dsimp only at hRd hNb hBa hSa hSp ⊢
  generalize readsL ⟨op, d, a, b, m⟩ = R at *
  generalize lvB ⟨op, d, a, b, m⟩ L = Z at *
  generalize lvTo ⟨op, d, a, b, m⟩ L = F at *
  go_enter Try.func180, Try.ntmps180
  go_wp2_with (go_at_call 160; refine (hRd.out _).mono ?_; rintro e w2 ⟨A2, c2, rfl, ho, hb2⟩)
  have hb2h := Lib.hid hb2
  have hO2 := Lib.hid (ho.lower hBa.out.size : OW w2 w.heap.size w2.heap.size (.slice A2 R.length c2) R)
  have hB2 := Lib.hid (hBa.out.trans (hb2.mono hBa.out.size))
  have n1 := CB.cell (CB.below hNb.out hb2 (CB.lt hNb.out)) 1
  simp only [List.getElem?_cons_zero, List.getElem?_cons_succ] at n1
  have hn1 := Lib.hid n1
  have hwl := Lib.hid (show w.heap.size < w2.heap.size from Nat.lt_of_lt_of_le (CB.lt hNb.out) hb2.size)
  clear hb2 ho n1
  go_loopw [5, 12] (fun v i wr => ∃ k : Nat, k ≤ L.length ∧ i = .int .i64 k ∧ OW wr w.heap.size wr.heap.size v (F k) ∧ Below w2.heap.size w2 wr) (fun _ i _ => L.length - (intOf i).toNat)
  case atStart => exact ⟨0, Nat.zero_le _, rfl, by rw [h0.out]; exact hO2.out, Below.refl _ _⟩
  case round =>
    obtain ⟨k, hk, rfl, how, hbel⟩ := hrel
    have hBL := Lib.hid hbel
    have hO := Lib.hid how
    have hBw := Lib.hid (hB2.out.trans (hbel.mono (Nat.le_of_lt hwl.out)))
    have hFl := hLn.out k
    by_cases hlt : k < L.length
    · obtain ⟨A3, c3, rfl, _⟩ := how.form
      obtain ⟨pb, po, rfl, ⟨_, hpb⟩, hcc⟩ := (hP.out _ hBw.out) (by omega)
      have y1 := hcc k hlt
      have m1 := (hbel.cell (p := ⟨w.heap.size, 1, none⟩) hwl.out).trans hn1.out
      have hsa := Lib.hid (hSa.out k hlt)
      have hsp := Lib.hid (hSp.out k hlt)
      clear hcc hbel how
      generalize L[k] = r at *
      generalize hnx : F (k + 1) = nx at *
      have hnx2 := Lib.hid hnx
      clear hnx
      generalize F k = ts at *
      by_cases hrd : r = d
      · have hs := Lib.hid (hsa.out hrd)
        have hq := Lib.hid (show (r == d) = true by simpa using hrd)
        subst hrd
        clear hsa hsp
        go_wp2
        go_roundw
        case rel => exact ⟨k + 1, by omega, by go_num, by rw [hnx2.out, hs.out]; exact hO.out, hBL.out⟩
        case measure => simp [intOf]; omega
      · have hs := Lib.hid (hsp.out hrd)
        have hq : (r == d) = false := by simpa using hrd
        clear hsa hsp
        have hPut := fun (W : World) (hW : Below wr.heap.size wr W) => Lib.hid (l1Put_any w.heap.size W.heap.size A3 ts.length c3 ts r W rfl (by omega) ((hO.out.below hW (Nat.le_refl _)).more hW.size) (Nat.le_trans hBw.out.size hW.size) (Nat.le_refl _))
        go_wp2_with (go_at_call 217; (with_reducible refine (hPut _ (Below.refl _ _)).out.mono ?_); rintro e w3 ⟨A4, c4, rfl, ho3, hb3⟩)
        have hO3 := Lib.hid ho3
        have hB3 := Lib.hid (hBL.out.trans (hb3.mono hBL.out.size))
        clear ho3 hb3
        go_roundw
        case rel => exact ⟨k + 1, by omega, by go_num, by rw [hnx2.out, hs.out]; exact hO3.out, hB3.out⟩
        case measure => simp [intOf]; omega
    · obtain rfl : k = L.length := by omega
      obtain ⟨A3, c3, rfl, _⟩ := how.form
      clear how hbel
      go_wp2
      go_ret
      exact ⟨A3, c3, by rw [hZ.out]; rfl, by rw [hZ.out]; exact hO.out, hBw.out⟩
end Go.Proofs.Ytmhdijklindipaa

/- The laws of DropDead, LiveBefore, MostAlive are walked in LawC. -/
namespace Go.Proofs.Ytmhdijklindipaa
end Go.Proofs.Ytmhdijklindipaa

/- DropDead of the model. -/
namespace Go.Proofs.Ytmhdijklindipaa
open Go.RowKit
set_option linter.unusedVariables false
set_option maxRecDepth 100000

theorem enc_ones (es : List In) : ∀ u ∈ es.flatMap In.enc, u.oneCell' = true := by
  intro u hu
  obtain ⟨x, _, hx⟩ := List.mem_flatMap.1 hu
  simp [In.enc] at hx
  rcases hx with rfl | rfl | rfl | rfl | rfl <;> rfl
def ddOk (cs : List In) (out : List Int) : Bool := okCode cs && riseB out
def ddR (cs : List In) (out : List Int) : List In := if ddOk cs out = true then (ddS (setsTo out out.length) cs).1 else []
theorem hasI_mkT {bs : List Bool} {n : Nat} (h : n < 6) : hasI (mkT bs) (n : Int) = bs.getD n false := by
  rw [Bool.eq_iff_iff, ← mem_mkT h]; simp [hasI]

set_option maxHeartbeats 4000000 in
theorem sDropDead_any (L B L' B' : Nat) (A A' : Option Addr) (c c' : Nat) (cs : List In) (out : List Int) (w : World) (hl : cs.length ≤ 1048576) (hn : out.length ≤ 1048576) (hes : RS In.enc 5 w L B A cs) (hB : B ≤ w.heap.size) (hns : IS w L' B' A' out) (hB' : B' ≤ w.heap.size) :
    Calls Try.prog 62 #[.slice A cs.length c, .slice A' out.length c'] w (ResDropDead (ddR cs out) (ddOk cs out) w) := by
  obtain ⟨i0, hi', hz0', hz1', hz2'⟩ := info_parts Try.infoInstr
  have hi := Lib.hid hi'
  have hz0 := Lib.hid hz0'
  have hz1 := Lib.hid hz1'
  have hz2 := Lib.hid hz2'
  clear hi' hz0' hz1' hz2'
  have H := Lib.hid (cdCode_any L B A c cs w hl hes hB)
  have H2 := Lib.hid fun (W : World) (hW : Below w.heap.size w W) => cdWanted_any L' B' A' c' out W hn (hns.below hW hB')
  have H3 := Lib.hid fun (W : World) (hW : Below w.heap.size w W) => l1Own_any L' B' A' c' out W hn (hns.below hW hB') (Nat.le_trans hB' hW.size)
  have hE := Lib.hid fun (W : World) (hW : Below w.heap.size w W) => hes.below hW hB
  have hBB := Lib.hid hB
  clear hes hB hns hB'
  cases hk : okCode cs
  · have hR := Lib.hid (show ddR cs out = [] by unfold ddR ddOk; rw [hk]; rfl)
    have hO := Lib.hid (show ddOk cs out = false by unfold ddOk; rw [hk]; rfl)
    rw [hk] at H
    clear hk H2 H3 hE
    go_enter Try.func62, Try.ntmps62
    go_wp2_with (go_at_call 136; refine H.out.mono ?_; rintro e w1 ⟨rfl, hb1⟩; have hbh := Lib.hid hb1; clear hb1)
    go_ret2
    rw [hR.out, hO.out]
    exact ⟨none, 0, rfl, OK.nil _ _ _ _, hbh.out⟩
  cases hr : riseB out
  · have hR := Lib.hid (show ddR cs out = [] by unfold ddR ddOk; rw [hk, hr]; rfl)
    have hO := Lib.hid (show ddOk cs out = false by unfold ddOk; rw [hk, hr]; rfl)
    rw [hk] at H
    rw [hr] at H2
    clear hk H3 hE hr
    go_enter Try.func62, Try.ntmps62
    go_wp2_with (first | (go_at_call 136; refine H.out.mono ?_; rintro e w1 ⟨rfl, hb1⟩; have hbh := Lib.hid hb1; clear hb1) | (go_at_call 178; refine (H2.out _ hbh.out).mono ?_; rintro e w2 ⟨rfl, rfl⟩))
    go_ret2
    rw [hR.out, hO.out]
    exact ⟨none, 0, rfl, OK.nil _ _ _ _, hbh.out⟩
  have hR := Lib.hid (show ddR cs out = (ddS (setsTo out out.length) cs).1 by unfold ddR ddOk; rw [hk, hr]; rfl)
  have hO := Lib.hid (show ddOk cs out = true by unfold ddOk; rw [hk, hr]; rfl)
  have hbits := Lib.hid (rise_bits hr).2
  have hl6 := setsTo_len out out.length
  have hall := Lib.hid (okCode_all hk)
  have hl40 := okCode_len hk
  rw [hk] at H
  rw [hr] at H2
  clear hk hr
  generalize setsTo out out.length = bs at *
  have hD := Lib.hid fun (k : Nat) (h : k < cs.length) => ddS_drop bs h
  have hL1 := Lib.hid fun (k : Nat) => (ddS_len bs (cs.drop k)).1
  have hL2 := Lib.hid fun (k : Nat) => (ddS_len bs (cs.drop k)).2.trans hl6
  have hE0 := Lib.hid (show ddS bs (cs.drop cs.length) = ([], bs) by rw [List.drop_length]; rfl)
  have hEn := Lib.hid (show ddS bs (cs.drop 0) = ddS bs cs by rw [List.drop_zero])
  have hw1 : IntKind.i64.wrap ((cs.length : Int) - 1) = (cs.length : Int) - 1 := by rw [IntKind.wrap_i64]; omega
  go_enter Try.func62, Try.ntmps62
  go_wp2_with (first | (go_at_call 136; refine H.out.mono ?_; rintro e w1 ⟨rfl, hb1⟩; have hbh := Lib.hid hb1; clear hb1) | (go_at_call 178; refine (H2.out _ hbh.out).mono ?_; rintro e w2 ⟨rfl, rfl⟩) | (go_at_call 144; refine (H3.out _ hbh.out).mono ?_; rintro e w3 ⟨A3, c3, rfl, ho3, hb3⟩; have hO3 := Lib.hid (ho3.lower hbh.out.size); have hbj := Lib.hid (hbh.out.trans (hb3.mono hbh.out.size)); clear ho3 hb3))
  go_loopw [6, 7, 8] (fun v a i wr => ∃ r : Nat, r ≤ cs.length ∧ i = .int .i64 ((r : Int) - 1) ∧ OK In.enc 5 56 wr w.heap.size wr.heap.size v (ddS bs (cs.drop r)).1 ∧ OW wr w.heap.size wr.heap.size a (mkT (ddS bs (cs.drop r)).2) ∧ Below w.heap.size w wr) (fun _ _ i _ => (intOf i + 1).toNat)
  case atStart => exact ⟨cs.length, Nat.le_refl _, rfl, by rw [hE0.out]; exact OK.nil _ _ _ _, by rw [hE0.out]; dsimp only; rw [hbits.out]; exact hO3.out, hbj.out⟩
  case round =>
    obtain ⟨r, hr, rfl, hok, how, hbel⟩ := hrel
    obtain ⟨VA, vc, rfl, hrs⟩ := hok.form In.hk
    obtain ⟨A4, c4, rfl, _⟩ := how.form
    have hK := Lib.hid hok
    have hW := Lib.hid how
    have hBL := Lib.hid hbel
    have hSr := Lib.hid hrs
    clear hok how hrs
    cases r with
    | zero =>
      have e0 : ((0 : Nat) : Int) - 1 = -1 := by decide
      rw [e0]
      clear hbel
      go_wp2
      go_ret2
      rw [hR.out, hO.out, ← hEn.out]
      exact ⟨VA, vc, rfl, hK.out, hBL.out⟩
    | succ r =>
      have e0 : ((r + 1 : Nat) : Int) - 1 = (r : Int) := by omega
      rw [e0]
      have hrl : r < cs.length := hr
      have hri : (r : Int) < (cs.length : Int) := by omega
      have hr0 : (0 : Int) ≤ (r : Int) := by omega
      obtain ⟨b, o, rfl, ⟨_, hbB⟩, hc⟩ := In.cells (hE.out _ hbel) (by omega)
      obtain ⟨d1, d2, d3, d4, d5⟩ := hc r hrl
      have hg := Lib.hid (hall.out _ (List.getElem_mem hrl))
      have hst := Lib.hid (hD.out r hrl)
      have hl5 := hL1.out (r + 1)
      have hl7 := hL2.out (r + 1)
      have hlr := hL1.out r
      clear hc hbel
      generalize hP0 : ddS bs (cs.drop r) = P0 at *
      have hp0 := Lib.hid hP0
      clear hP0
      generalize ddS bs (cs.drop (r + 1)) = P1 at *
      obtain ⟨ks, bb⟩ := P1
      dsimp only at hl5 hl7 hK hW hSr hst
      generalize cs[r] = x at *
      obtain ⟨op, d, xa, xb, m⟩ := x
      dsimp only at d1 d2 d3 d4 d5
      obtain ⟨hd0, hd5⟩ := (good_parts hg.out).1
      dsimp only at hd0 hd5
      obtain ⟨n, rfl⟩ := Int.eq_ofNat_of_zero_le hd0
      have hn6 : n < 6 := by omega
      have hw2 : IntKind.i64.wrap ((r : Int) - 1) = (r : Int) - 1 := by rw [IntKind.wrap_i64]; omega
      have hml : (mkT bb).length ≤ 6 := by rw [← mkTo_all]; exact mkTo_len bb 6
      have hmh := Lib.hid hml
      have hHas := Lib.hid (l1Has_any w.heap.size wr.heap.size A4 c4 (mkT bb) (n : Int) wr (by omega) hW.out.rs)
      rw [hasI_mkT hn6] at hHas
      cases hb : bb.getD n false
      · have hs := Lib.hid (show P0 = (ks, bb) by rw [hst.out]; unfold ddStep; rw [if_neg (by dsimp only; rw [Int.toNat_natCast, hb]; decide)])
        rw [hb] at hHas
        clear hst hb hd0 hd5
        go_wp2_with (go_at_call 179; refine hHas.out.mono ?_; rintro e w4 ⟨rfl, rfl⟩)
        go_roundw
        case rel => exact ⟨r, by omega, rfl, by rw [hp0.out, hs.out]; exact hK.out, by rw [hp0.out, hs.out]; exact hW.out, hBL.out⟩
        case measure => first | (simp [intOf]; done) | (simp [intOf]; omega)
      · have hs := Lib.hid (show P0 = (⟨op, (n : Int), xa, xb, m⟩ :: ks, bkB bb ⟨op, (n : Int), xa, xb, m⟩) by rw [hst.out]; unfold ddStep; rw [if_pos (by dsimp only; rw [Int.toNat_natCast, hb])])
        rw [hb] at hHas
        have hlv := Lib.hid (lvB_bits hg.out hl7)
        have hba := (Below.refl wr.heap.size wr).alloc (Nat.le_refl _) (.cells #[.string op, .int .i64 (n : Int), .int .i64 xa, .int .i64 xb, .int .i64 m] 56)
        have hown := Lib.hid (show (wr.alloc (.cells #[.string op, .int .i64 (n : Int), .int .i64 xa, .int .i64 xb, .int .i64 m] 56)).ownsRow w.heap.size 56 5 (.slice (some ⟨wr.heap.size, 0, none⟩) 1 1) 1 (In.enc ⟨op, (n : Int), xa, xb, m⟩) from ⟨by rw [In.hk], .inr ⟨wr.heap.size, 1, _, rfl, hBL.out.size, heap_alloc_new wr _, Nat.le_refl _, by unfold maxLen; omega, by simp, by simp [In.enc]⟩⟩)
        have hnews := Lib.hid ((hSr.out.below hba (Nat.le_refl _)).news In.hk)
        have hbah := Lib.hid hba
        have hbw0 : b < w.heap.size := Nat.lt_of_lt_of_le hbB hBB.out
        have hbwr : b < wr.heap.size := Nat.lt_of_lt_of_le hbw0 hBL.out.size
        clear hst hb hd0 hd5 hba
        have hks : ks.length ≤ 40 := by have := hl5; rw [List.length_drop] at this; omega
        have hCB := Lib.hid fun (A' : Option Addr) (c' : Nat) (W : World) (hW4 : IS W w.heap.size wr.heap.size A' (mkT bb)) (hz : wr.heap.size ≤ W.heap.size) => cdBefore_any w.heap.size wr.heap.size A' c' ⟨op, (n : Int), xa, xb, m⟩ (mkT bb) W hmh.out hW4 hz
        rw [hlv.out] at hCB
        dsimp only at hCB
        generalize hbk : bkB bb ⟨op, (n : Int), xa, xb, m⟩ = nb at *
        generalize mkT bb = ts at *
        go_wp2_with (first
          | (go_at_call 179; refine hHas.out.mono ?_; rintro e w4 ⟨rfl, rfl⟩)
          | (at_builtin; refine wpList_append_src rfl _ _ 42 rfl w.heap.size 56 i0 _ 5 48 Try.underlying42 hi.out hz0.out hz1.out hz2.out rfl (by decide) _ 1 _ rfl hown.out VA ks.length vc (ks.flatMap In.enc) rfl (kflat_len In.hk ks) hnews.out (enc_ones ks) (by unfold maxLen; omega) (by omega) (Nat.le_trans hBL.out.size hbah.out.size) ?_; intro v' w4 hown4 hgr4 _; have hbw := Lib.hid (hbah.out.grown hgr4 hbah.out.size (fun k hk => Nat.le_of_eq (Option.some.inj hk))); have g1 := (hbw.out.cell (p := ⟨b, o + r * 5, none⟩) hbwr).trans d1; have g2 := (hbw.out.cell (p := ⟨b, o + r * 5 + 1, none⟩) hbwr).trans d2; have g3 := (hbw.out.cell (p := ⟨b, o + r * 5 + 2, none⟩) hbwr).trans d3; have g4 := (hbw.out.cell (p := ⟨b, o + r * 5 + 3, none⟩) hbwr).trans d4; have g5 := (hbw.out.cell (p := ⟨b, o + r * 5 + 4, none⟩) hbwr).trans d5; have hOw := Lib.hid hown4; clear hown4 hgr4 d1 d2 d3 d4 d5)
          | (go_at_call 180; refine (hCB.out _ _ _ ((hW.out.below hbw.out (Nat.le_refl _)).rs) hbw.out.size).mono ?_; rintro e w5 ⟨A5, c5, rfl, ho5, hb5⟩; have hO5 := Lib.hid (ho5.lower (Nat.le_trans hBL.out.size hbw.out.size)); have hB5 := Lib.hid (hBL.out.trans ((hbw.out.trans (hb5.mono hbw.out.size)).mono hBL.out.size)); have hb5h := Lib.hid hb5; clear ho5 hb5))
        all_goals
          go_roundw
          case rel => exact ⟨r, by omega, rfl, by rw [hp0.out, hs.out]; exact ((show OK In.enc 5 56 _ w.heap.size _ v' (⟨op, (n : Int), xa, xb, m⟩ :: ks) from by
            have := hOw.out
            exact ⟨by rw [List.length_cons, Nat.add_comm]; simpa using this, fun j hj => (this.lt j hj).2⟩).below hb5h.out (Nat.le_refl _)).more hb5h.out.size, by rw [hp0.out, hs.out]; exact hO5.out, hB5.out⟩
          case measure => first | (simp [intOf]; done) | (simp [intOf]; omega)
end Go.Proofs.Ytmhdijklindipaa

/- Slices of slices of ints: what the marks read. -/
namespace Go.Proofs.Ytmhdijklindipaa
open Go.RowKit
set_option linter.unusedVariables false

def marksSS : Int → List Nat → List (List Int)
  | _, [] => []
  | k0, n :: ns => marks k0 n :: marksSS (k0 + n) ns
theorem marksSS_len : ∀ (k0 : Int) (ns : List Nat), (marksSS k0 ns).length = ns.length
  | _, [] => rfl
  | k0, n :: ns => by simp [marksSS, marksSS_len]
theorem marksSS_get : ∀ (k0 : Int) (ns : List Nat) (i : Nat) (h : i < (marksSS k0 ns).length) (h' : i < ns.length), (marksSS k0 ns)[i] = marks (k0 + ((ns.take i).sum : Nat)) ns[i]
  | _, [], i, h, h' => by simp at h'
  | k0, n :: ns, 0, h, h' => by simp [marksSS]
  | k0, n :: ns, i + 1, h, h' => by
    have := marksSS_get (k0 + n) ns i (by rw [marksSS_len]; simpa using h') (by simpa using h')
    simp only [marksSS, List.getElem_cons_succ, List.take_succ_cons, List.sum_cons]
    rw [this]; congr 1; omega
theorem sum_take_le : ∀ (ns : List Nat) (i : Nat), (ns.take i).sum ≤ ns.sum
  | [], i => by simp
  | n :: ns, 0 => by simp
  | n :: ns, i + 1 => by simp only [List.take_succ_cons, List.sum_cons]; have := sum_take_le ns i; omega
theorem sum_take_succ (ns : List Nat) {i : Nat} (h : i < ns.length) : (ns.take (i + 1)).sum = (ns.take i).sum + ns[i] := by
  rw [List.take_succ_eq_append_getElem h, List.sum_append]; simp
theorem marks_len (k0 : Int) (n : Nat) : (marks k0 n).length = n := by simp [marks]

end Go.Proofs.Ytmhdijklindipaa

/- Slices of slices of ints of the call's own: marked. -/
namespace Go.Proofs.Ytmhdijklindipaa
open Go.RowKit
set_option linter.unusedVariables false

/-- A slice of slices of ints of the call's own: no two of its rows share a block, none lies in the outer slice's. -/
def OX (w : World) (lo hi : Nat) (v : Value) (xss : List (List Int)) : Prop :=
  ∃ vs : List Value, vs.length = xss.length ∧ OK encV 1 27 w lo hi v vs ∧ (∀ i (h : i < vs.length) (h' : i < xss.length), (∃ Ai ci, vs[i] = .slice Ai (xss[i]).length ci) ∧ OW w lo hi vs[i] xss[i]) ∧
    (∀ i j (h : i < vs.length) (h' : j < vs.length), i ≠ j → ∀ b, vs[i].ownBlock = some b → vs[j].ownBlock ≠ some b) ∧ (∀ b, v.ownBlock = some b → ∀ i (h : i < vs.length), vs[i].ownBlock ≠ some b)
theorem okv_rs {w : World} {lo hi n c : Nat} {A : Option Addr} {vs : List Value} (h : OK encV 1 27 w lo hi (.slice A n c) vs) : RS encV 1 w lo hi A vs := by
  obtain ⟨A', c', e, hr⟩ := OK.form (enc := encV) (k := 1) (fun _ => rfl) h
  injection e with e1 e2 e3
  subst e1
  exact hr
theorem OX.rs {w : World} {lo hi n c : Nat} {A : Option Addr} {xss : List (List Int)} (h : OX w lo hi (.slice A n c) xss) : XS w lo hi A xss := by
  obtain ⟨vs, hl, hr, hx, _⟩ := h
  refine ⟨vs, hl, okv_rs hr, fun i h h' => ?_⟩
  obtain ⟨⟨Ai, ci, e⟩, ho⟩ := hx i h h'
  rw [e] at ho
  exact ⟨Ai, ci, e, ho.rs⟩
theorem OW.turned {w w' : World} {lo hi : Nat} {v u : Value} {xs : List Int} (h : OW w lo hi v xs) (hg : w.grownBy w' u.ownBlock) (hne : ∀ b, u.ownBlock = some b → v.ownBlock ≠ some b) : OW w' lo hi v xs :=
  ⟨h.1.kept hg (by
    cases hv : v.ownBlock with
    | none => exact .inl rfl
    | some b => exact .inr (fun e => hne b e.symm (by rw [hv]))), h.2⟩
def markedX (xss : List (List Int)) (k0 : Int) (k i : Nat) : List Int := if i < k then marks (k0 + (((xss.map List.length).take i).sum : Nat)) (xss.getD i []).length else xss.getD i []
theorem markedX_other {xss : List (List Int)} {k0 : Int} {k i : Nat} (h : i ≠ k) : markedX xss k0 (k + 1) i = markedX xss k0 k i := by
  unfold markedX
  by_cases h1 : i < k
  · rw [if_pos (by omega), if_pos h1]
  · rw [if_neg (by omega), if_neg h1]
theorem markedX_at {xss : List (List Int)} {k0 : Int} {k : Nat} : markedX xss k0 (k + 1) k = marks (k0 + (((xss.map List.length).take k).sum : Nat)) (xss.getD k []).length := by unfold markedX; rw [if_pos (by omega)]
theorem markedX_self {xss : List (List Int)} {k0 : Int} {k : Nat} : markedX xss k0 k k = xss.getD k [] := by unfold markedX; rw [if_neg (by omega)]
theorem markedX_len {xss : List (List Int)} {k0 : Int} {k i : Nat} : (markedX xss k0 k i).length = (xss.getD i []).length := by unfold markedX; split <;> simp [marks]
theorem okv_kept {w w' : World} {lo hi : Nat} {v u : Value} {vs : List Value} (h : OK encV 1 27 w lo hi v vs) (hg : w.grownBy w' u.ownBlock) (hne : ∀ b, v.ownBlock = some b → u.ownBlock ≠ some b) : OK encV 1 27 w' lo hi v vs :=
  ⟨h.1.kept hg (by
    cases hv : v.ownBlock with
    | none => exact .inl rfl
    | some b => exact .inr (fun e => hne b hv e.symm)), h.2⟩
def MarkedX (w : World) (lo hi : Nat) (v : Value) (xss : List (List Int)) (k0 : Int) (e : Ending) (w' : World) : Prop :=
  e = .returned (.int .i64 (k0 + ((xss.map List.length).sum : Nat))) ∧ OX w' lo hi v (marksSS k0 (xss.map List.length)) ∧ Chg lo hi w w'

end Go.Proofs.Ytmhdijklindipaa

/- Slices of slices of ints, in the form that glawu.py's calls take. -/
namespace Go.Proofs.Ytmhdijklindipaa
open Go.RowKit
set_option linter.unusedVariables false

def SmallX (xss : List (List Int)) : Prop := xss.length ≤ 1048576 ∧ (xss.map List.length).sum ≤ 1048576
theorem le_sum_of_mem {n : Nat} : ∀ {ns : List Nat}, n ∈ ns → n ≤ ns.sum
  | m :: ns, h => by
    rw [List.sum_cons]
    rcases List.mem_cons.1 h with rfl | h
    · omega
    · have := le_sum_of_mem h; omega
theorem SmallX.rows {xss : List (List Int)} (h : SmallX xss) : ∀ xs ∈ xss, xs.length ≤ 1048576 := fun xs hx => Nat.le_trans (le_sum_of_mem (List.mem_map.2 ⟨xs, hx, rfl⟩)) h.2
theorem OX.chg {w w' : World} {L B lo hi : Nat} {v : Value} {xss : List (List Int)} (h : OX w L B v xss) (hc : Chg lo hi w w') (hd : B ≤ lo ∨ hi ≤ L) : OX w' L B v xss := by
  obtain ⟨vs, hl, hr, hx, hD, hA⟩ := h
  exact ⟨vs, hl, hr.chg hc hd, fun i h h' => ⟨(hx i h h').1, (hx i h h').2.chg hc hd⟩, hD, hA⟩
theorem OX.more {w : World} {L B B' : Nat} {v : Value} {xss : List (List Int)} (h : OX w L B v xss) (hB : B ≤ B') : OX w L B' v xss := by
  obtain ⟨vs, hl, hr, hx, hD, hA⟩ := h
  exact ⟨vs, hl, hr.more hB, fun i h h' => ⟨(hx i h h').1, (hx i h h').2.more hB⟩, hD, hA⟩
theorem OX.nil (w : World) (L B : Nat) : OX w L B (.slice none 0 0) [] := ⟨[], rfl, OK.nil _ _ _ _, fun i h => absurd h (by simp), fun i j h => absurd h (by simp), fun _ _ i h => absurd h (by simp)⟩
theorem marksSS_lens : ∀ (k0 : Int) (ns : List Nat), (marksSS k0 ns).map List.length = ns
  | _, [] => rfl
  | k0, n :: ns => by simp [marksSS, marksSS_lens, marks_len]
end Go.Proofs.Ytmhdijklindipaa
