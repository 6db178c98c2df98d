/- Texts of this proof, one behind the other: BN, HC, HD, HE, BR, BS. -/
import Derived.Test.YtmhdijklindipaaZ6
import Derived.Test.YtmhdijklindipaaCG
import Derived.Test.YtmhdijklindipaaHI
import Derived.Test.YtmhdijklindipaaV3
import Derived.WalkKit
import Derived.WalkSpells
import Derived.WalkLawsBesides
import Derived.Lib.Hide
import Derived.Test.YtmhdijklindipaaZ8
import Derived.Test.YtmhdijklindipaaV2
import Derived.Deep.RegionHeld3
import Derived.Deep.RegionLaw
import Derived.Deep.AppendLies
/- DropDead of the model. -/
namespace Go.Proofs.Ytmhdijklindipaa
open Go.RowKit
set_option linter.unusedVariables false
set_option maxRecDepth 100000

theorem enc_ones (es : List In) : ∀ u ∈ es.flatMap In.enc, u.oneCell' = true := by
  intro u hu
  obtain ⟨x, _, hx⟩ := List.mem_flatMap.1 hu
  simp [In.enc] at hx
  rcases hx with rfl | rfl | rfl | rfl | rfl <;> rfl
def ddOk (cs : List In) (out : List Int) : Bool := okCode cs && riseB out
def ddR (cs : List In) (out : List Int) : List In := if ddOk cs out = true then (ddS (setsTo out out.length) cs).1 else []
theorem hasI_mkT {bs : List Bool} {n : Nat} (h : n < 6) : hasI (mkT bs) (n : Int) = bs.getD n false := by
  rw [Bool.eq_iff_iff, ← mem_mkT h]; simp [hasI]

set_option maxHeartbeats 4000000 in
theorem sDropDead_any (L B L' B' : Nat) (A A' : Option Addr) (c c' : Nat) (cs : List In) (out : List Int) (w : World) (hl : cs.length ≤ 1048576) (hn : out.length ≤ 1048576) (hes : RS In.enc 5 w L B A cs) (hB : B ≤ w.heap.size) (hns : IS w L' B' A' out) (hB' : B' ≤ w.heap.size) :
    Calls Try.prog 62 #[.slice A cs.length c, .slice A' out.length c'] w (ResDropDead (ddR cs out) (ddOk cs out) w) := by
  obtain ⟨i0, hi', hz0', hz1', hz2'⟩ := info_parts Try.infoInstr
  have hi := Lib.hid hi'
  have hz0 := Lib.hid hz0'
  have hz1 := Lib.hid hz1'
  have hz2 := Lib.hid hz2'
  clear hi' hz0' hz1' hz2'
  have H := Lib.hid (cdCode_any L B A c cs w hl hes hB)
  have H2 := Lib.hid fun (W : World) (hW : Below w.heap.size w W) => cdWanted_any L' B' A' c' out W hn (hns.below hW hB')
  have H3 := Lib.hid fun (W : World) (hW : Below w.heap.size w W) => l1Own_any L' B' A' c' out W hn (hns.below hW hB') (Nat.le_trans hB' hW.size)
  have hE := Lib.hid fun (W : World) (hW : Below w.heap.size w W) => hes.below hW hB
  have hBB := Lib.hid hB
  clear hes hB hns hB'
  cases hk : okCode cs
  · have hR := Lib.hid (show ddR cs out = [] by unfold ddR ddOk; rw [hk]; rfl)
    have hO := Lib.hid (show ddOk cs out = false by unfold ddOk; rw [hk]; rfl)
    rw [hk] at H
    clear hk H2 H3 hE
    go_enter Try.func62, Try.ntmps62
    go_wp2_with (go_at_call 136; refine H.out.mono ?_; rintro e w1 ⟨rfl, hb1⟩; have hbh := Lib.hid hb1; clear hb1)
    go_ret2
    rw [hR.out, hO.out]
    exact ⟨none, 0, rfl, OK.nil _ _ _ _, hbh.out⟩
  cases hr : riseB out
  · have hR := Lib.hid (show ddR cs out = [] by unfold ddR ddOk; rw [hk, hr]; rfl)
    have hO := Lib.hid (show ddOk cs out = false by unfold ddOk; rw [hk, hr]; rfl)
    rw [hk] at H
    rw [hr] at H2
    clear hk H3 hE hr
    go_enter Try.func62, Try.ntmps62
    go_wp2_with (first | (go_at_call 136; refine H.out.mono ?_; rintro e w1 ⟨rfl, hb1⟩; have hbh := Lib.hid hb1; clear hb1) | (go_at_call 178; refine (H2.out _ hbh.out).mono ?_; rintro e w2 ⟨rfl, rfl⟩))
    go_ret2
    rw [hR.out, hO.out]
    exact ⟨none, 0, rfl, OK.nil _ _ _ _, hbh.out⟩
  have hR := Lib.hid (show ddR cs out = (ddS (setsTo out out.length) cs).1 by unfold ddR ddOk; rw [hk, hr]; rfl)
  have hO := Lib.hid (show ddOk cs out = true by unfold ddOk; rw [hk, hr]; rfl)
  have hbits := Lib.hid (rise_bits hr).2
  have hl6 := setsTo_len out out.length
  have hall := Lib.hid (okCode_all hk)
  have hl40 := okCode_len hk
  rw [hk] at H
  rw [hr] at H2
  clear hk hr
  generalize setsTo out out.length = bs at *
  have hD := Lib.hid fun (k : Nat) (h : k < cs.length) => ddS_drop bs h
  have hL1 := Lib.hid fun (k : Nat) => (ddS_len bs (cs.drop k)).1
  have hL2 := Lib.hid fun (k : Nat) => (ddS_len bs (cs.drop k)).2.trans hl6
  have hE0 := Lib.hid (show ddS bs (cs.drop cs.length) = ([], bs) by rw [List.drop_length]; rfl)
  have hEn := Lib.hid (show ddS bs (cs.drop 0) = ddS bs cs by rw [List.drop_zero])
  have hw1 : IntKind.i64.wrap ((cs.length : Int) - 1) = (cs.length : Int) - 1 := by rw [IntKind.wrap_i64]; omega
  go_enter Try.func62, Try.ntmps62
  go_wp2_with (first | (go_at_call 136; refine H.out.mono ?_; rintro e w1 ⟨rfl, hb1⟩; have hbh := Lib.hid hb1; clear hb1) | (go_at_call 178; refine (H2.out _ hbh.out).mono ?_; rintro e w2 ⟨rfl, rfl⟩) | (go_at_call 144; refine (H3.out _ hbh.out).mono ?_; rintro e w3 ⟨A3, c3, rfl, ho3, hb3⟩; have hO3 := Lib.hid (ho3.lower hbh.out.size); have hbj := Lib.hid (hbh.out.trans (hb3.mono hbh.out.size)); clear ho3 hb3))
  go_loopw [6, 7, 8] (fun v a i wr => ∃ r : Nat, r ≤ cs.length ∧ i = .int .i64 ((r : Int) - 1) ∧ OK In.enc 5 56 wr w.heap.size wr.heap.size v (ddS bs (cs.drop r)).1 ∧ OW wr w.heap.size wr.heap.size a (mkT (ddS bs (cs.drop r)).2) ∧ Below w.heap.size w wr) (fun _ _ i _ => (intOf i + 1).toNat)
  case atStart => exact ⟨cs.length, Nat.le_refl _, rfl, by rw [hE0.out]; exact OK.nil _ _ _ _, by rw [hE0.out]; dsimp only; rw [hbits.out]; exact hO3.out, hbj.out⟩
  case round =>
    obtain ⟨r, hr, rfl, hok, how, hbel⟩ := hrel
    obtain ⟨VA, vc, rfl, hrs⟩ := hok.form In.hk
    obtain ⟨A4, c4, rfl, _⟩ := how.form
    have hK := Lib.hid hok
    have hW := Lib.hid how
    have hBL := Lib.hid hbel
    have hSr := Lib.hid hrs
    clear hok how hrs
    cases r with
    | zero =>
      have e0 : ((0 : Nat) : Int) - 1 = -1 := by decide
      rw [e0]
      clear hbel
      go_wp2
      go_ret2
      rw [hR.out, hO.out, ← hEn.out]
      exact ⟨VA, vc, rfl, hK.out, hBL.out⟩
    | succ r =>
      have e0 : ((r + 1 : Nat) : Int) - 1 = (r : Int) := by omega
      rw [e0]
      have hrl : r < cs.length := hr
      have hri : (r : Int) < (cs.length : Int) := by omega
      have hr0 : (0 : Int) ≤ (r : Int) := by omega
      obtain ⟨b, o, rfl, ⟨_, hbB⟩, hc⟩ := In.cells (hE.out _ hbel) (by omega)
      obtain ⟨d1, d2, d3, d4, d5⟩ := hc r hrl
      have hg := Lib.hid (hall.out _ (List.getElem_mem hrl))
      have hst := Lib.hid (hD.out r hrl)
      have hl5 := hL1.out (r + 1)
      have hl7 := hL2.out (r + 1)
      have hlr := hL1.out r
      clear hc hbel
      generalize hP0 : ddS bs (cs.drop r) = P0 at *
      have hp0 := Lib.hid hP0
      clear hP0
      generalize ddS bs (cs.drop (r + 1)) = P1 at *
      obtain ⟨ks, bb⟩ := P1
      dsimp only at hl5 hl7 hK hW hSr hst
      generalize cs[r] = x at *
      obtain ⟨op, d, xa, xb, m⟩ := x
      dsimp only at d1 d2 d3 d4 d5
      obtain ⟨hd0, hd5⟩ := (good_parts hg.out).1
      dsimp only at hd0 hd5
      obtain ⟨n, rfl⟩ := Int.eq_ofNat_of_zero_le hd0
      have hn6 : n < 6 := by omega
      have hw2 : IntKind.i64.wrap ((r : Int) - 1) = (r : Int) - 1 := by rw [IntKind.wrap_i64]; omega
      have hml : (mkT bb).length ≤ 6 := by rw [← mkTo_all]; exact mkTo_len bb 6
      have hmh := Lib.hid hml
      have hHas := Lib.hid (l1Has_any w.heap.size wr.heap.size A4 c4 (mkT bb) (n : Int) wr (by omega) hW.out.rs)
      rw [hasI_mkT hn6] at hHas
      cases hb : bb.getD n false
      · have hs := Lib.hid (show P0 = (ks, bb) by rw [hst.out]; unfold ddStep; rw [if_neg (by dsimp only; rw [Int.toNat_natCast, hb]; decide)])
        rw [hb] at hHas
        clear hst hb hd0 hd5
        go_wp2_with (go_at_call 179; refine hHas.out.mono ?_; rintro e w4 ⟨rfl, rfl⟩)
        go_roundw
        case rel => exact ⟨r, by omega, rfl, by rw [hp0.out, hs.out]; exact hK.out, by rw [hp0.out, hs.out]; exact hW.out, hBL.out⟩
        case measure => first | (simp [intOf]; done) | (simp [intOf]; omega)
      · have hs := Lib.hid (show P0 = (⟨op, (n : Int), xa, xb, m⟩ :: ks, bkB bb ⟨op, (n : Int), xa, xb, m⟩) by rw [hst.out]; unfold ddStep; rw [if_pos (by dsimp only; rw [Int.toNat_natCast, hb])])
        rw [hb] at hHas
        have hlv := Lib.hid (lvB_bits hg.out hl7)
        have hba := (Below.refl wr.heap.size wr).alloc (Nat.le_refl _) (.cells #[.string op, .int .i64 (n : Int), .int .i64 xa, .int .i64 xb, .int .i64 m] 56)
        have hown := Lib.hid (show (wr.alloc (.cells #[.string op, .int .i64 (n : Int), .int .i64 xa, .int .i64 xb, .int .i64 m] 56)).ownsRow w.heap.size 56 5 (.slice (some ⟨wr.heap.size, 0, none⟩) 1 1) 1 (In.enc ⟨op, (n : Int), xa, xb, m⟩) from ⟨by rw [In.hk], .inr ⟨wr.heap.size, 1, _, rfl, hBL.out.size, heap_alloc_new wr _, Nat.le_refl _, by unfold maxLen; omega, by simp, by simp [In.enc]⟩⟩)
        have hnews := Lib.hid ((hSr.out.below hba (Nat.le_refl _)).news In.hk)
        have hbah := Lib.hid hba
        have hbw0 : b < w.heap.size := Nat.lt_of_lt_of_le hbB hBB.out
        have hbwr : b < wr.heap.size := Nat.lt_of_lt_of_le hbw0 hBL.out.size
        clear hst hb hd0 hd5 hba
        have hks : ks.length ≤ 40 := by have := hl5; rw [List.length_drop] at this; omega
        have hCB := Lib.hid fun (A' : Option Addr) (c' : Nat) (W : World) (hW4 : IS W w.heap.size wr.heap.size A' (mkT bb)) (hz : wr.heap.size ≤ W.heap.size) => cdBefore_any w.heap.size wr.heap.size A' c' ⟨op, (n : Int), xa, xb, m⟩ (mkT bb) W hmh.out hW4 hz
        rw [hlv.out] at hCB
        dsimp only at hCB
        generalize hbk : bkB bb ⟨op, (n : Int), xa, xb, m⟩ = nb at *
        generalize mkT bb = ts at *
        go_wp2_with (first
          | (go_at_call 179; refine hHas.out.mono ?_; rintro e w4 ⟨rfl, rfl⟩)
          | (at_builtin; refine wpList_append_src rfl _ _ 42 rfl w.heap.size 56 i0 _ 5 48 Try.underlying42 hi.out hz0.out hz1.out hz2.out rfl (by decide) _ 1 _ rfl hown.out VA ks.length vc (ks.flatMap In.enc) rfl (kflat_len In.hk ks) hnews.out (enc_ones ks) (by unfold maxLen; omega) (by omega) (Nat.le_trans hBL.out.size hbah.out.size) ?_; intro v' w4 hown4 hgr4 _; have hbw := Lib.hid (hbah.out.grown hgr4 hbah.out.size (fun k hk => Nat.le_of_eq (Option.some.inj hk))); have g1 := (hbw.out.cell (p := ⟨b, o + r * 5, none⟩) hbwr).trans d1; have g2 := (hbw.out.cell (p := ⟨b, o + r * 5 + 1, none⟩) hbwr).trans d2; have g3 := (hbw.out.cell (p := ⟨b, o + r * 5 + 2, none⟩) hbwr).trans d3; have g4 := (hbw.out.cell (p := ⟨b, o + r * 5 + 3, none⟩) hbwr).trans d4; have g5 := (hbw.out.cell (p := ⟨b, o + r * 5 + 4, none⟩) hbwr).trans d5; have hOw := Lib.hid hown4; clear hown4 hgr4 d1 d2 d3 d4 d5)
          | (go_at_call 180; refine (hCB.out _ _ _ ((hW.out.below hbw.out (Nat.le_refl _)).rs) hbw.out.size).mono ?_; rintro e w5 ⟨A5, c5, rfl, ho5, hb5⟩; have hO5 := Lib.hid (ho5.lower (Nat.le_trans hBL.out.size hbw.out.size)); have hB5 := Lib.hid (hBL.out.trans ((hbw.out.trans (hb5.mono hbw.out.size)).mono hBL.out.size)); have hb5h := Lib.hid hb5; clear ho5 hb5))
        all_goals
          go_roundw
          case rel => exact ⟨r, by omega, rfl, by rw [hp0.out, hs.out]; exact ((show OK In.enc 5 56 _ w.heap.size _ v' (⟨op, (n : Int), xa, xb, m⟩ :: ks) from by
            have := hOw.out
            exact ⟨by rw [List.length_cons, Nat.add_comm]; simpa using this, fun j hj => (this.lt j hj).2⟩).below hb5h.out (Nat.le_refl _)).more hb5h.out.size, by rw [hp0.out, hs.out]; exact hO5.out, hB5.out⟩
          case measure => first | (simp [intOf]; done) | (simp [intOf]; omega)
end Go.Proofs.Ytmhdijklindipaa

/- Slices of slices of ints: what the marks read. -/
namespace Go.Proofs.Ytmhdijklindipaa
open Go.RowKit
set_option linter.unusedVariables false

def marksSS : Int → List Nat → List (List Int)
  | _, [] => []
  | k0, n :: ns => marks k0 n :: marksSS (k0 + n) ns
theorem marksSS_len : ∀ (k0 : Int) (ns : List Nat), (marksSS k0 ns).length = ns.length
  | _, [] => rfl
  | k0, n :: ns => by simp [marksSS, marksSS_len]
theorem marksSS_get : ∀ (k0 : Int) (ns : List Nat) (i : Nat) (h : i < (marksSS k0 ns).length) (h' : i < ns.length), (marksSS k0 ns)[i] = marks (k0 + ((ns.take i).sum : Nat)) ns[i]
  | _, [], i, h, h' => by simp at h'
  | k0, n :: ns, 0, h, h' => by simp [marksSS]
  | k0, n :: ns, i + 1, h, h' => by
    have := marksSS_get (k0 + n) ns i (by rw [marksSS_len]; simpa using h') (by simpa using h')
    simp only [marksSS, List.getElem_cons_succ, List.take_succ_cons, List.sum_cons]
    rw [this]; congr 1; omega
theorem sum_take_le : ∀ (ns : List Nat) (i : Nat), (ns.take i).sum ≤ ns.sum
  | [], i => by simp
  | n :: ns, 0 => by simp
  | n :: ns, i + 1 => by simp only [List.take_succ_cons, List.sum_cons]; have := sum_take_le ns i; omega
theorem sum_take_succ (ns : List Nat) {i : Nat} (h : i < ns.length) : (ns.take (i + 1)).sum = (ns.take i).sum + ns[i] := by
  rw [List.take_succ_eq_append_getElem h, List.sum_append]; simp
theorem marks_len (k0 : Int) (n : Nat) : (marks k0 n).length = n := by simp [marks]

end Go.Proofs.Ytmhdijklindipaa

/- Slices of slices of ints of the call's own: marked. -/
namespace Go.Proofs.Ytmhdijklindipaa
open Go.RowKit
set_option linter.unusedVariables false

/-- A slice of slices of ints of the call's own: no two of its rows share a block, none lies in the outer slice's. -/
def OX (w : World) (lo hi : Nat) (v : Value) (xss : List (List Int)) : Prop :=
  ∃ vs : List Value, vs.length = xss.length ∧ OK encV 1 27 w lo hi v vs ∧ (∀ i (h : i < vs.length) (h' : i < xss.length), (∃ Ai ci, vs[i] = .slice Ai (xss[i]).length ci) ∧ OW w lo hi vs[i] xss[i]) ∧
    (∀ i j (h : i < vs.length) (h' : j < vs.length), i ≠ j → ∀ b, vs[i].ownBlock = some b → vs[j].ownBlock ≠ some b) ∧ (∀ b, v.ownBlock = some b → ∀ i (h : i < vs.length), vs[i].ownBlock ≠ some b)
theorem okv_rs {w : World} {lo hi n c : Nat} {A : Option Addr} {vs : List Value} (h : OK encV 1 27 w lo hi (.slice A n c) vs) : RS encV 1 w lo hi A vs := by
  obtain ⟨A', c', e, hr⟩ := OK.form (enc := encV) (k := 1) (fun _ => rfl) h
  injection e with e1 e2 e3
  subst e1
  exact hr
theorem OX.rs {w : World} {lo hi n c : Nat} {A : Option Addr} {xss : List (List Int)} (h : OX w lo hi (.slice A n c) xss) : XS w lo hi A xss := by
  obtain ⟨vs, hl, hr, hx, _⟩ := h
  refine ⟨vs, hl, okv_rs hr, fun i h h' => ?_⟩
  obtain ⟨⟨Ai, ci, e⟩, ho⟩ := hx i h h'
  rw [e] at ho
  exact ⟨Ai, ci, e, ho.rs⟩
theorem OW.turned {w w' : World} {lo hi : Nat} {v u : Value} {xs : List Int} (h : OW w lo hi v xs) (hg : w.grownBy w' u.ownBlock) (hne : ∀ b, u.ownBlock = some b → v.ownBlock ≠ some b) : OW w' lo hi v xs :=
  ⟨h.1.kept hg (by
    cases hv : v.ownBlock with
    | none => exact .inl rfl
    | some b => exact .inr (fun e => hne b e.symm (by rw [hv]))), h.2⟩
def markedX (xss : List (List Int)) (k0 : Int) (k i : Nat) : List Int := if i < k then marks (k0 + (((xss.map List.length).take i).sum : Nat)) (xss.getD i []).length else xss.getD i []
theorem markedX_other {xss : List (List Int)} {k0 : Int} {k i : Nat} (h : i ≠ k) : markedX xss k0 (k + 1) i = markedX xss k0 k i := by
  unfold markedX
  by_cases h1 : i < k
  · rw [if_pos (by omega), if_pos h1]
  · rw [if_neg (by omega), if_neg h1]
theorem markedX_at {xss : List (List Int)} {k0 : Int} {k : Nat} : markedX xss k0 (k + 1) k = marks (k0 + (((xss.map List.length).take k).sum : Nat)) (xss.getD k []).length := by unfold markedX; rw [if_pos (by omega)]
theorem markedX_self {xss : List (List Int)} {k0 : Int} {k : Nat} : markedX xss k0 k k = xss.getD k [] := by unfold markedX; rw [if_neg (by omega)]
theorem markedX_len {xss : List (List Int)} {k0 : Int} {k i : Nat} : (markedX xss k0 k i).length = (xss.getD i []).length := by unfold markedX; split <;> simp [marks]
theorem okv_kept {w w' : World} {lo hi : Nat} {v u : Value} {vs : List Value} (h : OK encV 1 27 w lo hi v vs) (hg : w.grownBy w' u.ownBlock) (hne : ∀ b, v.ownBlock = some b → u.ownBlock ≠ some b) : OK encV 1 27 w' lo hi v vs :=
  ⟨h.1.kept hg (by
    cases hv : v.ownBlock with
    | none => exact .inl rfl
    | some b => exact .inr (fun e => hne b hv e.symm)), h.2⟩
def MarkedX (w : World) (lo hi : Nat) (v : Value) (xss : List (List Int)) (k0 : Int) (e : Ending) (w' : World) : Prop :=
  e = .returned (.int .i64 (k0 + ((xss.map List.length).sum : Nat))) ∧ OX w' lo hi v (marksSS k0 (xss.map List.length)) ∧ Chg lo hi w w'

end Go.Proofs.Ytmhdijklindipaa

/- Slices of slices of ints, in the form that glawu.py's calls take. -/
namespace Go.Proofs.Ytmhdijklindipaa
open Go.RowKit
set_option linter.unusedVariables false

def SmallX (xss : List (List Int)) : Prop := xss.length ≤ 1048576 ∧ (xss.map List.length).sum ≤ 1048576
theorem le_sum_of_mem {n : Nat} : ∀ {ns : List Nat}, n ∈ ns → n ≤ ns.sum
  | m :: ns, h => by
    rw [List.sum_cons]
    rcases List.mem_cons.1 h with rfl | h
    · omega
    · have := le_sum_of_mem h; omega
theorem SmallX.rows {xss : List (List Int)} (h : SmallX xss) : ∀ xs ∈ xss, xs.length ≤ 1048576 := fun xs hx => Nat.le_trans (le_sum_of_mem (List.mem_map.2 ⟨xs, hx, rfl⟩)) h.2
theorem OX.chg {w w' : World} {L B lo hi : Nat} {v : Value} {xss : List (List Int)} (h : OX w L B v xss) (hc : Chg lo hi w w') (hd : B ≤ lo ∨ hi ≤ L) : OX w' L B v xss := by
  obtain ⟨vs, hl, hr, hx, hD, hA⟩ := h
  exact ⟨vs, hl, hr.chg hc hd, fun i h h' => ⟨(hx i h h').1, (hx i h h').2.chg hc hd⟩, hD, hA⟩
theorem OX.more {w : World} {L B B' : Nat} {v : Value} {xss : List (List Int)} (h : OX w L B v xss) (hB : B ≤ B') : OX w L B' v xss := by
  obtain ⟨vs, hl, hr, hx, hD, hA⟩ := h
  exact ⟨vs, hl, hr.more hB, fun i h h' => ⟨(hx i h h').1, (hx i h h').2.more hB⟩, hD, hA⟩
theorem OX.nil (w : World) (L B : Nat) : OX w L B (.slice none 0 0) [] := ⟨[], rfl, OK.nil _ _ _ _, fun i h => absurd h (by simp), fun i j h => absurd h (by simp), fun _ _ i h => absurd h (by simp)⟩
theorem marksSS_lens : ∀ (k0 : Int) (ns : List Nat), (marksSS k0 ns).map List.length = ns
  | _, [] => rfl
  | k0, n :: ns => by simp [marksSS, marksSS_lens, marks_len]
end Go.Proofs.Ytmhdijklindipaa

/- Slices of slices of ints of the call's own: made, laid ahead, laid behind, stored into. -/
namespace Go.Proofs.Ytmhdijklindipaa
open Go.RowKit
set_option linter.unusedVariables false

theorem Try.infoII : (Try.prog.info? 27).map (fun i => (i.zero, i.size, i.bytes)) = some (some (.slice none 0 0), 1, 24) := by kernel_rfl
theorem rowNeX {w : World} {L1 L2 k1 k2 n1 n2 : Nat} {t1 t2 : TypeId} {v1 v2 : Value} {x1 x2 : List Value} (h1 : w.ownsRow L1 t1 k1 v1 n1 x1) (h2 : w.ownsRow L2 t2 k2 v2 n2 x2) (ht : t1 ≠ t2) : ∀ j, v1.ownBlock = some j → v2.ownBlock ≠ some j := by
  intro j e1 e2
  rcases h1.2 with ⟨rfl, _⟩ | ⟨g, cap, cur, rfl, _, hh, _⟩
  · simp [Value.ownBlock] at e1
  · rcases h2.2 with ⟨rfl, _⟩ | ⟨g', cap', cur', rfl, _, hh', _⟩
    · simp [Value.ownBlock] at e2
    · have a1 : g = j := by simpa [Value.ownBlock] using e1
      have a2 : g' = j := by simpa [Value.ownBlock] using e2
      subst a1; subst a2
      rw [hh] at hh'; injection hh' with hh'; injection hh' with _ h9
      exact ht h9
/-- The rows: each of the call's own, no two in one block. -/
structure RowsX (w : World) (lo hi : Nat) (vs : List Value) (xss : List (List Int)) : Prop where
  len : vs.length = xss.length
  row : ∀ i (h : i < vs.length) (h' : i < xss.length), (∃ Ai ci, vs[i] = .slice Ai (xss[i]).length ci) ∧ OW w lo hi vs[i] xss[i]
  apart : ∀ i j (h : i < vs.length) (h' : j < vs.length), i ≠ j → ∀ b, vs[i].ownBlock = some b → vs[j].ownBlock ≠ some b
theorem OX.of {w : World} {lo hi : Nat} {v : Value} {vs : List Value} {xss : List (List Int)} (hO : OK encV 1 27 w lo hi v vs) (h : RowsX w lo hi vs xss) : OX w lo hi v xss :=
  ⟨vs, h.len, hO, h.row, h.apart, fun b hb i hi' => rowNeX hO.1 (h.row i hi' (by rw [← h.len]; exact hi')).2.1 (by decide) b hb⟩
theorem OX.parts {w : World} {lo hi : Nat} {v : Value} {xss : List (List Int)} (h : OX w lo hi v xss) : ∃ vs, OK encV 1 27 w lo hi v vs ∧ RowsX w lo hi vs xss := by
  obtain ⟨vs, hl, hO, hr, hd, _⟩ := h
  exact ⟨vs, hO, hl, hr, hd⟩
theorem RowsX.mk1 {w : World} {lo hi : Nat} {v0 : Value} {xs : List Int} (h : OW w lo hi v0 xs) : RowsX w lo hi [v0] [xs] := by
  refine ⟨rfl, fun i h1 h2 => ?_, fun i j h1 h2 hne => ?_⟩
  · obtain rfl : i = 0 := by simpa using h1
    obtain ⟨A, c, e, _⟩ := h.form
    exact ⟨⟨A, c, e⟩, h⟩
  · simp at h1 h2; omega
theorem OW.fresh {w : World} {lo hi b : Nat} {v : Value} {xs : List Int} (h : OW w lo hi v xs) (e : v.ownBlock = some b) : lo ≤ b ∧ b < hi := h.lo b e
theorem RowsX.cons {w : World} {lo hi hi0 : Nat} {v0 : Value} {xs : List Int} {vs : List Value} {xss : List (List Int)} (h : RowsX w lo hi vs xss) (h0 : OW w hi hi0 v0 xs) (hle : hi ≤ hi0) (hlo : lo ≤ hi) : RowsX w lo hi0 (v0 :: vs) (xs :: xss) := by
  refine ⟨by simp [h.len], fun i h1 h2 => ?_, fun i j h1 h2 hne b hb => ?_⟩
  · cases i with
    | zero =>
      obtain ⟨A, c, e, _⟩ := h0.form
      exact ⟨⟨A, c, e⟩, h0.lower hlo⟩
    | succ i =>
      have hr := h.row i (by simpa using h1) (by simpa using h2)
      exact ⟨hr.1, hr.2.more hle⟩
  · cases i with
    | zero =>
      cases j with
      | zero => omega
      | succ j =>
        intro e
        have h3 : j < vs.length := by simpa using h2
        have := (h.row j h3 (by rw [← h.len]; exact h3)).2.fresh (by simpa using e)
        have := h0.fresh (by simpa using hb)
        omega
    | succ i =>
      have h3 : i < vs.length := by simpa using h1
      cases j with
      | zero =>
        intro e
        have := (h.row i h3 (by rw [← h.len]; exact h3)).2.fresh (by simpa using hb)
        have := h0.fresh (by simpa using e)
        omega
      | succ j => exact h.apart i j h3 (by simpa using h2) (by omega) b (by simpa using hb)
theorem RowsX.set {w : World} {lo hi hi0 : Nat} {v0 : Value} {xs : List Int} {vs : List Value} {xss : List (List Int)} (h : RowsX w lo hi vs xss) (k : Nat) (h0 : OW w hi hi0 v0 xs) (hle : hi ≤ hi0) (hlo : lo ≤ hi) : RowsX w lo hi0 (vs.set k v0) (xss.set k xs) := by
  refine ⟨by simp [h.len], fun i h1 h2 => ?_, fun i j h1 h2 hne b hb => ?_⟩
  · rw [List.length_set] at h1 h2
    rw [List.getElem_set, List.getElem_set]
    by_cases e : k = i
    · rw [if_pos e, if_pos e]
      obtain ⟨A, c, e2, _⟩ := h0.form
      exact ⟨⟨A, c, e2⟩, h0.lower hlo⟩
    · rw [if_neg e, if_neg e]
      have hr := h.row i h1 h2
      exact ⟨hr.1, hr.2.more hle⟩
  · rw [List.length_set] at h1 h2
    rw [List.getElem_set] at hb ⊢
    by_cases e1 : k = i
    · rw [if_pos e1] at hb
      rw [if_neg (by omega)]
      intro e
      have := (h.row j h2 (by rw [← h.len]; exact h2)).2.fresh e
      have := h0.fresh hb
      omega
    · rw [if_neg e1] at hb
      by_cases e2 : k = j
      · rw [if_pos e2]
        intro e
        have := (h.row i h1 (by rw [← h.len]; exact h1)).2.fresh hb
        have := h0.fresh e
        omega
      · rw [if_neg e2]; exact h.apart i j h1 h2 hne b hb
theorem RowsX.snoc {w : World} {lo hi hi0 : Nat} {v0 : Value} {xs : List Int} {vs : List Value} {xss : List (List Int)} (h : RowsX w lo hi vs xss) (h0 : OW w hi hi0 v0 xs) (hle : hi ≤ hi0) (hlo : lo ≤ hi) : RowsX w lo hi0 (vs ++ [v0]) (xss ++ [xs]) := by
  have hl := h.len
  refine ⟨by simp [h.len], fun i h1 h2 => ?_, fun i j h1 h2 hne b hb => ?_⟩
  · by_cases e : i < vs.length
    · rw [List.getElem_append_left e, List.getElem_append_left (by omega)]
      have hr := h.row i e (by omega)
      exact ⟨hr.1, hr.2.more hle⟩
    · have e2 : i = vs.length := by simp at h1; omega
      subst e2
      rw [List.getElem_append_right (Nat.le_refl _), List.getElem_append_right (by omega)]
      obtain ⟨A, c, e2, _⟩ := h0.form
      simp only [hl, Nat.sub_self, List.getElem_cons_zero]
      exact ⟨⟨A, c, e2⟩, h0.lower hlo⟩
  · by_cases e1 : i < vs.length
    · rw [List.getElem_append_left e1] at hb
      by_cases e2 : j < vs.length
      · rw [List.getElem_append_left e2]; exact h.apart i j e1 e2 hne b hb
      · have e3 : j = vs.length := by simp at h2; omega
        subst e3
        rw [List.getElem_append_right (Nat.le_refl _)]
        simp only [Nat.sub_self, List.getElem_cons_zero]
        intro e
        have := (h.row i e1 (by omega)).2.fresh hb
        have := h0.fresh e
        omega
    · have e3 : i = vs.length := by simp at h1; omega
      subst e3
      rw [List.getElem_append_right (Nat.le_refl _)] at hb
      simp only [Nat.sub_self, List.getElem_cons_zero] at hb
      have e2 : j < vs.length := by simp at h2; omega
      rw [List.getElem_append_left e2]
      intro e
      have := (h.row j e2 (by omega)).2.fresh e
      have := h0.fresh hb
      omega
theorem RowsX.more {w : World} {lo hi hi' : Nat} {vs : List Value} {xss : List (List Int)} (h : RowsX w lo hi vs xss) (hh : hi ≤ hi') : RowsX w lo hi' vs xss :=
  ⟨h.len, fun i h1 h2 => ⟨(h.row i h1 h2).1, (h.row i h1 h2).2.more hh⟩, h.apart⟩
theorem RowsX.chg {w w' : World} {L B lo hi : Nat} {vs : List Value} {xss : List (List Int)} (h : RowsX w L B vs xss) (hc : Chg lo hi w w') (hd : B ≤ lo ∨ hi ≤ L) : RowsX w' L B vs xss :=
  ⟨h.len, fun i h1 h2 => ⟨(h.row i h1 h2).1, (h.row i h1 h2).2.chg hc hd⟩, h.apart⟩
/-- A slice of another type grows. -/
theorem RowsX.grown {w w' : World} {lo hi L n : Nat} {u : Value} {xs : List Value} {vs : List Value} {xss : List (List Int)} (h : RowsX w lo hi vs xss) (hu : w.ownsRow L 27 1 u n xs) (hg : w.grownBy w' u.ownBlock) : RowsX w' lo hi vs xss :=
  ⟨h.len, fun i h1 h2 => ⟨(h.row i h1 h2).1, (h.row i h1 h2).2.turned hg (fun b hb => rowNeX hu (h.row i h1 h2).2.1 (by decide) b hb)⟩, h.apart⟩
/-- A block of another type is stored into. -/
theorem RowsX.stored {w : World} {lo hi g k : Nat} {t : TypeId} {cur : List Value} {u : Value} {vs : List Value} {xss : List (List Int)} (h : RowsX w lo hi vs xss) (hb : CB t w g cur) (ht : t ≠ 3) : RowsX (w.setCell ⟨g, k, none⟩ u) lo hi vs xss :=
  ⟨h.len, fun i h1 h2 => ⟨(h.row i h1 h2).1, by
    have hO := (h.row i h1 h2).2
    refine ⟨hO.1.kept (row := some g) ⟨rfl, rfl, rfl, Nat.le_of_eq (World.size_setCell _ _ _).symm, fun k _ hk => Below.heap_setCell _ _ _ k (fun e => hk (by rw [e]))⟩ ?_, hO.2⟩
    rcases hV : vs[i].ownBlock with _ | j
    · exact .inl rfl
    · refine .inr (fun e => ?_)
      injection e with e; subst e
      rcases hO.1.2 with ⟨h0, _⟩ | ⟨g', cap, cur', h0, _, hh, _⟩
      · rw [h0] at hV; simp [Value.ownBlock] at hV
      · rw [h0] at hV
        have e1 : g' = j := by simpa [Value.ownBlock] using hV
        subst e1
        unfold CB at hb
        rw [hb] at hh; injection hh with hh; injection hh with _ h9
        exact ht h9⟩, h.apart⟩
theorem flat_encV (vs : List Value) : vs.flatMap encV = vs := by induction vs with | nil => rfl | cons v vs ih => rw [List.flatMap_cons, ih]; rfl
theorem encV_one (v : Value) : (encV v).length = 1 := rfl
theorem okv_of {w : World} {lo n : Nat} {v : Value} {vs : List Value} (h : w.ownsRow lo 27 1 v n vs) (hn : n = vs.length) : OK encV 1 27 w lo w.heap.size v vs := by
  subst hn; exact ⟨by rw [flat_encV]; exact h, fun j hj => (h.lt j hj).2⟩
theorem okv_row {w : World} {lo hi : Nat} {v : Value} {vs : List Value} (h : OK encV 1 27 w lo hi v vs) : w.ownsRow lo 27 1 v vs.length vs := by
  have := h.1; rwa [flat_encV] at this
theorem rows_one {w : World} {lo hi : Nat} {vs : List Value} {xss : List (List Int)} (h : RowsX w lo hi vs xss) : ∀ u ∈ vs, u.oneCell' = true := by
  intro u hu
  obtain ⟨i, hi', e⟩ := List.mem_iff_getElem.1 hu
  obtain ⟨⟨A, c, e2⟩, _⟩ := h.row i hi' (by rw [← h.len]; exact hi')
  rw [← e, e2]; rfl
/-- One slice in a block. -/
theorem okv_one {w : World} {lo hi g : Nat} {v0 : Value} (h : CB 27 w g [v0]) (hlo : lo ≤ g) (hhi : g < hi) : OK encV 1 27 w lo hi (.slice (some ⟨g, 0, none⟩) 1 1) [v0] :=
  OK.close (enc := encV) (k := 1) (rest := []) encV_one (by simpa [encV] using h) hlo hhi (Nat.le_refl _) (by unfold maxLen; omega) rfl
theorem OX.below {w w' : World} {L B C : Nat} {v : Value} {xss : List (List Int)} (h : OX w L B v xss) (hb : Below C w w') (hC : B ≤ C) : OX w' L B v xss := by
  obtain ⟨vs, hO, hR⟩ := h.parts
  exact OX.of (hO.below hb hC) ⟨hR.len, fun i h1 h2 => ⟨(hR.row i h1 h2).1, (hR.row i h1 h2).2.below hb hC⟩, hR.apart⟩
theorem OX.form {w : World} {L B : Nat} {v : Value} {xss : List (List Int)} (h : OX w L B v xss) : ∃ A c, v = .slice A xss.length c := by
  obtain ⟨vs, hO, hR⟩ := h.parts
  obtain ⟨A, c, e, _⟩ := OK.form (enc := encV) (k := 1) encV_one hO
  exact ⟨A, c, by rw [e, hR.len]⟩
/-- 'append([][]int{v0}, rows...)'. -/
theorem consX {wr w3 : World} {lo b o n c5 : Nat} {v3 : Value} {xs : List Int} {xss : List (List Int)} (hX : OX wr lo wr.heap.size (.slice (some ⟨b, o, none⟩) n c5) xss) (hlo : lo ≤ wr.heap.size) (hw : Below wr.heap.size wr w3) (h3 : OW w3 wr.heap.size w3.heap.size v3 xs) (h0 : 0 < xss.length) :
    ∃ vs, vs.length = n ∧ (w3.alloc (.cells #[v3] 27)).ownsRow lo 27 1 (.slice (some ⟨w3.heap.size, 0, none⟩) 1 1) 1 [v3] ∧
      (∀ j u, vs[j]? = some u → (w3.alloc (.cells #[v3] 27)).cell? ((⟨b, o, none⟩ : Addr).add j) = some u) ∧ (∀ u ∈ vs, u.oneCell' = true) ∧
      (∀ g' cap w5, w5.ownsRow lo 27 1 (.slice (some ⟨g', 0, none⟩) (1 + n) cap) (1 + n) ([v3] ++ vs) → (w3.alloc (.cells #[v3] 27)).grownBy w5 (Value.slice (some ⟨w3.heap.size, 0, none⟩) 1 1).ownBlock →
        OX w5 lo w5.heap.size (.slice (some ⟨g', 0, none⟩) (1 + n) cap) (xs :: xss)) := by
  obtain ⟨vs, hO, hR⟩ := hX.parts
  have hvn : vs.length = n := by
    obtain ⟨A, c, e, _⟩ := OK.form (enc := encV) (k := 1) encV_one hO
    injection e with _ e2 _; exact e2.symm
  have A4 := (Below.refl w3.heap.size w3).alloc (Nat.le_refl _) (.cells #[v3] 27)
  have hcb : CB 27 (w3.alloc (.cells #[v3] 27)) w3.heap.size [v3] := heap_alloc_new w3 _
  have hz3 := hw.size
  have hz4 : (w3.alloc (.cells #[v3] 27)).heap.size = w3.heap.size + 1 := World.size_alloc _ _
  have hlit := okv_one (lo := lo) (hi := w3.heap.size + 1) hcb (by omega) (Nat.lt_succ_self _)
  have hO4 : OK encV 1 27 (w3.alloc (.cells #[v3] 27)) lo wr.heap.size (.slice (some ⟨b, o, none⟩) n c5) vs := (hO.below hw (Nat.le_refl _)).below A4 hz3
  have hR4 : RowsX (w3.alloc (.cells #[v3] 27)) lo wr.heap.size vs xss := ⟨hR.len, fun i h1 h2 => ⟨(hR.row i h1 h2).1, ((hR.row i h1 h2).2.below hw (Nat.le_refl _)).below A4 hz3⟩, hR.apart⟩
  have h34 : OW (w3.alloc (.cells #[v3] 27)) wr.heap.size w3.heap.size v3 xs := h3.below A4 (Nat.le_refl _)
  have hC := hR4.cons h34 hz3 hlo
  refine ⟨vs, hvn, okv_row hlit, fun j u hu => ?_, rows_one hR4, fun g' cap w5 hown hgr => ?_⟩
  · obtain ⟨a, e, h⟩ := (okv_rs hO4).news encV_one (by rw [hR.len]; exact h0)
    injection e with e; subst e
    exact h j u (by rw [flat_encV]; exact hu)
  · have hRf := (hC.more (Nat.le_succ_of_le (Nat.le_refl w3.heap.size))).grown (okv_row hlit) hgr
    have hsz := hgr.size
    exact OX.of (okv_of (by simpa using hown) (by simp [hvn]; omega)) (hRf.more (by omega))
/-- 'append(rows, v0)'. -/
theorem snocX {wr w3 : World} {lo n c5 : Nat} {A : Option Addr} {v3 : Value} {xs : List Int} {xss : List (List Int)} (hX : OX wr lo wr.heap.size (.slice A n c5) xss) (hlo : lo ≤ wr.heap.size) (hw : Below wr.heap.size wr w3) (h3 : OW w3 wr.heap.size w3.heap.size v3 xs) :
    ∃ vs, vs.length = n ∧ (w3.alloc (.cells #[v3] 27)).ownsRow lo 27 1 (.slice A n c5) n vs ∧
      (∀ j u, [v3][j]? = some u → (w3.alloc (.cells #[v3] 27)).cell? ((⟨w3.heap.size, 0, none⟩ : Addr).add j) = some u) ∧ (∀ u ∈ [v3], u.oneCell' = true) ∧
      (∀ g' cap w5, w5.ownsRow lo 27 1 (.slice (some ⟨g', 0, none⟩) (n + 1) cap) (n + 1) (vs ++ [v3]) → (w3.alloc (.cells #[v3] 27)).grownBy w5 (Value.slice A n c5).ownBlock →
        OX w5 lo w5.heap.size (.slice (some ⟨g', 0, none⟩) (n + 1) cap) (xss ++ [xs])) ∧
      (∀ b, (Value.slice A n c5).ownBlock = some b → lo ≤ b) := by
  obtain ⟨vs, hO, hR⟩ := hX.parts
  have hvn : vs.length = n := by
    obtain ⟨A, c, e, _⟩ := OK.form (enc := encV) (k := 1) encV_one hO
    injection e with _ e2 _; exact e2.symm
  have A4 := (Below.refl w3.heap.size w3).alloc (Nat.le_refl _) (.cells #[v3] 27)
  have hcb : CB 27 (w3.alloc (.cells #[v3] 27)) w3.heap.size [v3] := heap_alloc_new w3 _
  have hz3 := hw.size
  have hz4 : (w3.alloc (.cells #[v3] 27)).heap.size = w3.heap.size + 1 := World.size_alloc _ _
  have hO4 : OK encV 1 27 (w3.alloc (.cells #[v3] 27)) lo wr.heap.size (.slice A n c5) vs := (hO.below hw (Nat.le_refl _)).below A4 hz3
  have hR4 : RowsX (w3.alloc (.cells #[v3] 27)) lo wr.heap.size vs xss := ⟨hR.len, fun i h1 h2 => ⟨(hR.row i h1 h2).1, ((hR.row i h1 h2).2.below hw (Nat.le_refl _)).below A4 hz3⟩, hR.apart⟩
  have h34 : OW (w3.alloc (.cells #[v3] 27)) wr.heap.size w3.heap.size v3 xs := h3.below A4 (Nat.le_refl _)
  have hC := hR4.snoc h34 hz3 hlo
  obtain ⟨A3, c3, e3, _⟩ := h3.form
  refine ⟨vs, hvn, by have := okv_row hO4; rwa [hvn] at this, fun j u hu => ?_, fun u hu => by simp at hu; rw [hu, e3]; rfl, fun g' cap w5 hown hgr => ?_, fun b hb => (hO.lo b hb).1⟩
  · rw [addr_add, hcb.cell]; exact hu
  · have hRf := (hC.more (Nat.le_succ_of_le (Nat.le_refl w3.heap.size))).grown (okv_row hO4) hgr
    have hsz := hgr.size
    exact OX.of (okv_of hown (by simp [hvn])) (hRf.more (by omega))
end Go.Proofs.Ytmhdijklindipaa

/- The sets of live registers: plain, and cdSets of the model. -/
namespace Go.Proofs.Ytmhdijklindipaa
open Go.RowKit
set_option linter.unusedVariables false
set_option maxRecDepth 100000

def lvX (bs : List Bool) : List In → List (List Int)
  | [] => [mkT bs]
  | x :: cs => mkT (lvS bs (x :: cs)) :: lvX bs cs
theorem lvX_len (bs : List Bool) : ∀ cs : List In, (lvX bs cs).length = cs.length + 1
  | [] => rfl
  | x :: cs => by show (lvX bs cs).length + 1 = _; rw [lvX_len bs cs]; rfl
theorem lvX_head (bs : List Bool) : ∀ cs : List In, ∃ t, lvX bs cs = mkT (lvS bs cs) :: t
  | [] => ⟨[], rfl⟩
  | x :: cs => ⟨lvX bs cs, rfl⟩
theorem lvX_drop (bs : List Bool) {cs : List In} {k : Nat} (h : k < cs.length) : lvX bs (cs.drop k) = mkT (lvS bs (cs.drop k)) :: lvX bs (cs.drop (k + 1)) := by
  rw [List.drop_eq_getElem_cons h]; rfl
theorem lvX_at (bs : List Bool) : ∀ (cs : List In) (k : Nat), k ≤ cs.length → (lvX bs cs)[k]? = some (mkT (lvS bs (cs.drop k)))
  | [], k, h => by obtain rfl : k = 0 := by simpa using h
                   rfl
  | x :: cs, 0, _ => rfl
  | x :: cs, k + 1, h => by show (lvX bs cs)[k]? = _; rw [lvX_at bs cs k (by simpa using h)]; rfl
theorem mkT_len6 (bs : List Bool) : (mkT bs).length ≤ 6 := by
  unfold mkT
  rw [List.length_map]
  exact Nat.le_trans (List.length_filter_le _ _) (by simp)
def SetsGot (w : World) (xss : List (List Int)) (e : Ending) (w' : World) : Prop := ∃ A0 c0, e = .returned (.slice A0 xss.length c0) ∧ OX w' w.heap.size w'.heap.size (.slice A0 xss.length c0) xss ∧ Below w.heap.size w w'

set_option maxHeartbeats 4000000 in
theorem cdSets_any (L B L' B' : Nat) (A A' : Option Addr) (c c' : Nat) (cs : List In) (bs : List Bool) (w : World) (hl40 : cs.length ≤ 40) (hgood : ∀ x ∈ cs, goodIn x = true) (hb6 : bs.length = 6) (hes : RS In.enc 5 w L B A cs) (hB : B ≤ w.heap.size) (hns : IS w L' B' A' (mkT bs)) (hB' : B' ≤ w.heap.size) :
    Calls Try.prog 182 #[.slice A cs.length c, .slice A' (mkT bs).length c'] w (SetsGot w (lvX bs cs)) := by
  obtain ⟨i0, hi', hz0', hz1', hz2'⟩ := info_parts Try.infoII
  have hJ0 := Lib.hid hi'
  have hJ1 := Lib.hid hz0'
  have hJ2 := Lib.hid hz1'
  have hJ3 := Lib.hid hz2'
  clear hi' hz0' hz1' hz2'
  have hm6 := mkT_len6 bs
  have H3 := Lib.hid (l1Own_any L' B' A' c' (mkT bs) w (by omega) hns hB')
  have hE := Lib.hid fun (W : World) (hW : Below w.heap.size w W) => hes.below hW hB
  have hBB := Lib.hid hB
  have hD := Lib.hid fun (k : Nat) (h : k < cs.length) => lvX_drop bs h
  have hS := Lib.hid fun (k : Nat) (h : k < cs.length) => lvS_drop bs h
  have hXl := Lib.hid fun (k : Nat) => lvX_len bs (cs.drop k)
  have hHd := Lib.hid fun (k : Nat) => lvX_head bs (cs.drop k)
  have hSl := Lib.hid fun (k : Nat) => (lvS_len bs (cs.drop k)).trans hb6
  have hX0 := Lib.hid (show lvX bs (cs.drop cs.length) = [mkT bs] by rw [List.drop_length]; rfl)
  have hXn := Lib.hid (show lvX bs (cs.drop 0) = lvX bs cs by rw [List.drop_zero])
  have hG := Lib.hid hgood
  have hw1 : IntKind.i64.wrap ((cs.length : Int) - 1) = (cs.length : Int) - 1 := by rw [IntKind.wrap_i64]; omega
  clear hes hB hns hB' hgood hb6
  go_enter Try.func182, Try.ntmps182
  go_wp2_with (fail)
  refine H3.out.mono ?_
  rintro e w1 ⟨A1, c1, rfl, ho1, hb1⟩
  have A2 := (Below.refl w1.heap.size w1).alloc (Nat.le_refl _) (.cells #[.slice A1 (mkT bs).length c1] 27)
  have hz1 := hb1.size
  have hX2 : Hid (OX (w1.alloc (.cells #[.slice A1 (mkT bs).length c1] 27)) w.heap.size (w1.alloc (.cells #[.slice A1 (mkT bs).length c1] 27)).heap.size (.slice (some ⟨w1.heap.size, 0, none⟩) 1 1) [mkT bs]) := by
    have hcb : CB 27 (w1.alloc (.cells #[.slice A1 (mkT bs).length c1] 27)) w1.heap.size [.slice A1 (mkT bs).length c1] := heap_alloc_new w1 _
    exact OX.of (okv_one hcb hz1 (by simp)) (RowsX.mk1 ((ho1.below A2 (Nat.le_refl _)).more A2.size))
  have hb2 := Lib.hid (hb1.trans (A2.mono hz1))
  clear A2 ho1 hb1
  go_wp2
  generalize w1.alloc (.cells #[.slice A1 (mkT bs).length c1] 27) = W2 at *
  go_loopw [5, 6] (fun v i wr => ∃ r : Nat, r ≤ cs.length ∧ i = .int .i64 ((r : Int) - 1) ∧ OX wr w.heap.size wr.heap.size v (lvX bs (cs.drop r)) ∧ Below w.heap.size w wr) (fun _ i _ => (intOf i + 1).toNat)
  case atStart => exact ⟨cs.length, Nat.le_refl _, rfl, by rw [hX0.out]; exact hX2.out, hb2.out⟩
  case round =>
    obtain ⟨r, hr, rfl, hox, hbel⟩ := hrel
    obtain ⟨A5, c5, rfl⟩ := hox.form
    have hX := Lib.hid hox
    have hBL := Lib.hid hbel
    clear hox
    cases r with
    | zero =>
      have e0 : ((0 : Nat) : Int) - 1 = -1 := by decide
      rw [e0]
      clear hbel
      rw [hXn.out] at hX ⊢
      go_wp2
      go_ret
      exact ⟨A5, c5, rfl, hX.out, hBL.out⟩
    | succ r =>
      have e0 : ((r + 1 : Nat) : Int) - 1 = (r : Int) := by omega
      rw [e0]
      have hrl : r < cs.length := hr
      have hri : (r : Int) < (cs.length : Int) := by omega
      have hr0 : (0 : Int) ≤ (r : Int) := by omega
      obtain ⟨b, o, rfl, ⟨_, hbB⟩, hc⟩ := In.cells (hE.out _ hbel) (by omega)
      obtain ⟨d1, d2, d3, d4, d5⟩ := hc r hrl
      have hg := Lib.hid (hG.out _ (List.getElem_mem hrl))
      have hXr := Lib.hid (hD.out r hrl)
      have hSr := Lib.hid (hS.out r hrl)
      have hl1 := hXl.out (r + 1)
      have hl6 := Lib.hid (hSl.out (r + 1))
      obtain ⟨t, ht⟩ := hHd.out (r + 1)
      have hlt0 : 0 < (lvX bs (cs.drop (r + 1))).length := by omega
      obtain ⟨xb, xo, Ai, ci, rfl, hxb, xc, hI⟩ := XS.at (OX.rs hX.out) hlt0
      have hx0 : (lvX bs (cs.drop (r + 1)))[0] = mkT (lvS bs (cs.drop (r + 1))) := by simp only [ht, List.getElem_cons_zero]
      rw [hx0] at xc hI
      have hln : (cs.drop (r + 1)).length ≤ 40 := by rw [List.length_drop]; omega
      clear hc hbel ht hx0
      have hbits := Lib.hid (lvB_bits hg.out hl6.out)
      generalize cs[r] = x at *
      generalize hLr : lvX bs (cs.drop r) = Lr at *
      have hLR := Lib.hid hLr
      clear hLr
      generalize lvX bs (cs.drop (r + 1)) = Lx at *
      generalize lvS bs (cs.drop (r + 1)) = lv at *
      generalize lvS bs (cs.drop r) = lv0 at *
      have hCB := Lib.hid (cdBefore_any w.heap.size wr.heap.size Ai ci x (mkT lv) wr.drew (mkT_len6 lv) (hI.below (Below.refl wr.heap.size wr).drew (Nat.le_refl _)) (Nat.le_refl _))
      have hXd := Lib.hid (show OX wr.drew w.heap.size wr.drew.heap.size (.slice (some ⟨xb, xo, none⟩) Lx.length c5) Lx from hX.out.below (Below.refl wr.heap.size wr).drew (Nat.le_refl _))
      have hBd := Lib.hid hBL.out.drew
      rw [hbits.out, ← hSr.out] at hCB
      have hLl : Lx.length ≤ 41 := by omega
      obtain ⟨op, d, a, b1, m⟩ := x
      dsimp only at d1 d2 d3 d4 d5 hCB
      have h6l := mkT_len6 lv
      clear hbits hSr hI hg
      have xc0 : wr.cell? ⟨xb, xo, none⟩ = some (.slice Ai (mkT lv).length ci) := xc
      have h0L : (0 : Int) < (Lx.length : Int) := by omega
      clear xc hl1 hln
      go_wp2_with (fail)
      go_region_law (first
        | (go_simp; go_at_call 180; (with_reducible refine hCB.out.mono ?_); rintro e w3 ⟨A3, c3, rfl, ho3, hb3⟩; obtain ⟨vs, hvn, HL, HN, H1, HK⟩ := consX hXd.out hBd.out.size hb3 ho3 hlt0; have hB3 := Lib.hid (hBd.out.trans (hb3.mono hBd.out.size)); have HL := Lib.hid HL; have HN := Lib.hid HN; have H1 := Lib.hid H1; have HK := Lib.hid HK; have hz3 := Lib.hid hB3.out.size; clear ho3 hb3)
        | (refine step_append_lies _ rfl _ _ 50 rfl w.heap.size 27 i0 _ 1 24 Try.underlying50 hJ0.out hJ1.out hJ2.out hJ3.out rfl (by decide) _ 1 _ (by rfl) HL.out ⟨xb, xo, none⟩ Lx.length c5 vs (by rfl) (by omega) HN.out H1.out hlt0 (by unfold maxLen; omega) (by omega) (by have := hz3.out; simp; omega) (w3.heap.size + 1) (by simp) ?_; intro g' cap w5 hown5 hgr5 _ _))
      all_goals
        have hX5 := HK.out g' cap w5 hown5 hgr5
        have hB5 := Lib.hid ((hB3.out.alloc hz3.out (.cells #[.slice A3 (mkT lv0).length c3] 27)).grown hgr5 (by have := hz3.out; simp; omega) (fun k hk => by simp [Value.ownBlock] at hk; have := hz3.out; omega))
        have hX6 := Lib.hid (show OX w5 w.heap.size w5.heap.size (.slice (some ⟨g', 0, none⟩) (1 + Lx.length) cap) Lr from by rw [hXr.out]; exact hX5)
        clear hX5 hown5 hgr5
        go_wp2
        go_roundw
        case rel => exact ⟨r, by omega, rfl, by rw [hLR.out]; exact hX6.out, hB5.out⟩
        case measure => first | (simp [intOf]; done) | (simp [intOf]; omega)
end Go.Proofs.Ytmhdijklindipaa
