/- Texts of this proof, one behind the other: GK, GL. -/
import Derived.Test.YtgcbfiamhpfkhaaZ6
import Derived.Test.YtgcbfiamhpfkhaaZ9
import Derived.Test.YtgcbfiamhpfkhaaZ14
import Derived.WalkKit
import Derived.WalkSpells
import Derived.WalkLawsBesides
import Derived.Lib.Hide
/- The model's cover, walked. -/
namespace Go.Proofs.Ytgcbfiamhpfkhaa
open Go.RowKit
set_option linter.unusedVariables false
set_option maxRecDepth 100000

def NeedGot (w : World) (n : Nat) (o : Option (List Int × List Ti)) (e : Ending) (w' : World) : Prop :=
  match o with
  | some s => ∃ g, e = .returned (.tuple #[.slice (some ⟨g, 0, none⟩) n n, .bool true]) ∧ BB w' g (ndB s.1) ∧ w.heap.size ≤ g ∧ Below w.heap.size w w'
  | none => e = .returned (.tuple #[.slice none 0 0, .bool false]) ∧ Below w.heap.size w w'

theorem BB.below {w w' : World} {g C : Nat} {bs : List Bool} (h : BB w g bs) (hb : Below C w w') (hg : g < C) : BB w' g bs := (hb.block g hg).trans h
theorem tOf_at {es : List Nd} (ht : treeR es = true) {k : Nat} (hk : k < es.length) {t : Nat} (h : t < 13) : tOf es (k : Int) (t : Int) = mt es es[k] t := by
  have hi : inR (k : Int) 0 ((es.length : Int) - 1) = true := (inR_iff _ _ _).2 (by omega)
  have hj : inR (t : Int) 0 12 = true := (inR_iff _ _ _).2 (by omega)
  unfold tOf tAt tileO
  rw [ht, hi, hj, nodeAt_nat hk, Int.toNat_natCast]; rfl
theorem tOf_out {es : List Nd} {i t : Int} (h : inR t 0 12 = false) : tOf es i t = none := by
  have := tok_no (es := es) (i := i) (t := t) (.inr (.inr h))
  unfold tokR at this
  cases ho : tOf es i t with
  | none => rfl
  | some x => rw [ho] at this; cases this
theorem bb_start (w : World) (n : Nat) : BB (w.alloc (.cells ((boolCells (List.replicate n false)).setIfInBounds (n - 1) (.bool true)) 4)) w.heap.size (ndB (opn n)) := by
  have e : (boolCells (List.replicate n false)).setIfInBounds (n - 1) (.bool true) = boolCells (ndB (opn n)) := by unfold boolCells; rw [ndB_opn, List.map_set, List.setIfInBounds_toArray]
  rw [e]
  exact heap_alloc_new w _
set_option maxHeartbeats 8000000 in
theorem cvNeeded_any (L B L' B' : Nat) (A A' : Option Addr) (c c' : Nat) (es : List Nd) (nums : List Int) (w : World) (ht : treeR es = true) (hn : nums.length = es.length) (hes : NS w L B A es) (hB : B ≤ w.heap.size) (hns : IS w L' B' A' nums) (hB' : B' ≤ w.heap.size) :
    Calls Try.prog 166 #[.slice A es.length c, .slice A' es.length c'] w (NeedGot w es.length (cvSt es nums es.length)) := by
  have hg : good es = true := by unfold treeR at ht; simp only [Bool.and_eq_true] at ht; exact ht.1
  obtain ⟨hl1, hl24, hok⟩ := good_len hg
  have H3 := Lib.hid fun (k : Nat) (hk : k < es.length) (t : Nat) (htt : t < 13) (W : World) (hW : Below w.heap.size w W) => (show Calls Try.prog 73 #[.slice A es.length c, .int .i64 (k : Int), .int .i64 (t : Int)] W (TileM W (tOf es (k : Int) (t : Int))) from by rw [tOf_at ht hk htt]; exact cvTile_n L B A c es k hk t htt W (hes.below hW hB) (Nat.le_trans hB hW.size) hok)
  have HN := Lib.hid fun (W : World) (hW : Below w.heap.size w W) => hns.below hW hB'
  have hBn := Lib.hid hB'
  have hskip := Lib.hid fun j cs out => @cvSt_skip es nums j cs out
  have hlay := Lib.hid fun j cs out x => @cvSt_lay es nums j cs out x
  have hfail := Lib.hid fun j cs out => @cvSt_fail es nums j cs out
  have hnone := Lib.hid fun j => @cvSt_none es nums j
  have hlenS := Lib.hid fun j cs out => @cvSt_len es nums j cs out
  have hinv := Lib.hid fun j cs out (hj : j ≤ es.length) (h : cvSt es nums j = some (cs, out)) => (cvSt_inv hj h).lo
  have hout := Lib.hid fun (k : Nat) (t : Int) => @tOf_out es (k : Int) t
  have hps := Lib.hid fun (k : Nat) (t : Int) (x : Ti) => @tOf_ps es k t x
  have hSt0 := Lib.hid (show cvSt es nums 0 = some (opn es.length, []) from rfl)
  have hmk := run_make_bools es.length (by omega)
  have b1 := Lib.hid ((Below.refl w.heap.size w).alloc (Nat.le_refl _) (.cells ((boolCells (List.replicate es.length false)).setIfInBounds (es.length - 1) (.bool true)) 4))
  have hT0 : Hid (BB (w.alloc (.cells (boolCells (List.replicate es.length false)) 4)) w.heap.size (List.replicate es.length false)) := heap_alloc_new w _
  have hT1 := Lib.hid (bb_start w es.length)
  have hw1 : IntKind.i64.wrap ((es.length : Int) - 1) = (es.length : Int) - 1 := by rw [IntKind.wrap_i64]; omega
  have hm1 : ((es.length : Int) - 1) = ((es.length - 1 : Nat) : Int) := by omega
  have hm2 : ((es.length - 1 : Nat) : Int) < (es.length : Int) := by omega
  have hm0 : (0 : Int) ≤ ((es.length - 1 : Nat) : Int) := by omega
  have hnl := Lib.hid hn
  clear hes hB hns hB' hg ht hok hn
  have y0 := hT0.out.cell (es.length - 1) (by simp; omega)
  have f0 := hT0.out.frozen (es.length - 1)
  generalize cvSt es nums = CS at *
  generalize tOf es = TO at *
  generalize es.length = n at *
  go_enter Try.func166, Try.ntmps166
  go_wp2_with (fail)
  obtain ⟨g, hg0⟩ : ∃ g, g = w.heap.size := ⟨_, rfl⟩
  rw [← hg0] at hT1 ⊢
  have hgw := Lib.hid (show w.heap.size ≤ g by omega)
  clear hg0 y0 f0 hT0 hmk
  generalize w.alloc (.cells ((boolCells (List.replicate n false)).setIfInBounds (n - 1) (.bool true)) 4) = W1 at *
  go_loopw [7] (fun i wr => ∃ (j : Nat) (cs : List Int) (out : List Ti), j ≤ n ∧ i = .int .i64 ((n : Int) - 1 - (j : Int)) ∧ CS j = some (cs, out) ∧ BB wr g (ndB cs) ∧ Below w.heap.size w wr) (fun i _ => (intOf i + 1).toNat)
  case atStart => exact ⟨0, _, _, Nat.zero_le _, by rw [← hm1]; simp, hSt0.out, hT1.out, b1.out⟩
  case round =>
    obtain ⟨j, cs, out, hj, rfl, hst, hib, hbel⟩ := hrel
    have hIB := Lib.hid hib
    have hBL := Lib.hid hbel
    have hgl := hib.lt
    have hlen := (hlenS.out j cs out hst).1
    clear hw1 hm1 hm2 hm0
    by_cases hlt : j < n
    · obtain ⟨k, hk⟩ : ∃ k, k = n - 1 - j := ⟨_, rfl⟩
      have e1 : (n : Int) - 1 - (j : Int) = (k : Int) := by omega
      have e2 := Lib.hid (show (k : Int) - 1 = (n : Int) - 1 - ((j + 1 : Nat) : Int) by omega)
      rw [e1]
      have hkn : k < n := by omega
      have hk0 : (0 : Int) ≤ (k : Int) := by omega
      have hki : (k : Int) < (n : Int) := by omega
      have hwd : IntKind.i64.wrap ((k : Int) - 1) = (k : Int) - 1 := by rw [IntKind.wrap_i64]; omega
      have y := hib.cell k (by rw [ndB_len]; omega)
      rw [ndB_get (by omega)] at y
      have hS1 := Lib.hid (hskip.out j cs out hst)
      have hS2 := Lib.hid (fun x => hlay.out j cs out x hst)
      have hS3 := Lib.hid (hfail.out j cs out hst)
      rw [← hk] at hS1 hS2 hS3
      have hjh := Lib.hid hlt
      rcases hinv.out j cs out hj hst k (by omega) with hc | hc
      · rw [hc, show ((-1 : Int) != -1) = false from rfl] at y
        have hN := Lib.hid (hS1.out (by rw [hc]; decide))
        clear hst hib hbel hc hk e1 hinv hskip hlay hfail hlenS
        go_wp2
        have := hjh.out
        exact ⟨⟨j + 1, cs, out, hjh.out, by rw [e2.out], hN.out, hIB.out, hBL.out⟩, by simp [intOf] <;> omega⟩
      · rw [hc, show ((-2 : Int) != -1) = true from rfl] at y
        obtain ⟨nb, no, rfl, ⟨_, hnb⟩, hcc⟩ := HN.out wr hbel (by rw [hnl.out]; omega)
        have x1 := hcc k (by rw [hnl.out]; exact hkn)
        rw [show nums[k]'(by rw [hnl.out]; exact hkn) = nums.getD k 0 from (getD_get (by rw [hnl.out]; exact hkn)).symm] at x1
        have hL2 := Lib.hid (fun x => hS2.out x hc)
        have hF2 := Lib.hid (hS3.out hc)
        have ho1 := Lib.hid (hout.out k (nums.getD k 0))
        have hp1 := Lib.hid (hps.out k (nums.getD k 0))
        clear hcc hS1 hS2 hS3
        generalize nums.getD k 0 = t at *
        have HI := Lib.hid fun (W : World) => l1In_r t 0 12 W
        cases hin : inR t 0 12
        · rw [hin] at HI
          have hN := Lib.hid (hnone.out (j + 1) (hF2.out (ho1.out hin)) n (by omega))
          clear hst hib hbel hc hk e1 hinv hskip hlay hfail hlenS
          go_wp2_with (go_at_call 153; (with_reducible refine (HI.out _).mono ?_); rintro e w' ⟨rfl, rfl⟩)
          go_ret2
          unfold NeedGot
          rw [hN.out]
          exact ⟨rfl, hBL.out⟩
        · rw [hin] at HI
          have hin2 := (inR_iff _ _ _).1 hin
          obtain ⟨tn, rfl⟩ := Int.eq_ofNat_of_zero_le hin2.1
          have hT := Lib.hid (H3.out k hkn tn (by omega))
          cases ho : TO (k : Int) (tn : Int) with
          | none =>
            rw [ho] at hT
            have hN := Lib.hid (hnone.out (j + 1) (hF2.out ho) n (by omega))
            clear hst hib hbel hc hk e1 hinv hskip hlay hfail hlenS
            go_wp2_with (first | (go_at_call 153; (with_reducible refine (HI.out _).mono ?_); rintro e w' ⟨rfl, rfl⟩) | (go_at_call 73; (with_reducible refine (hT.out _ hBL.out).mono ?_); rintro e w2 ⟨PA, pc, QA, qc, rfl, _, _, hb2⟩; have hbi := Lib.hid (hBL.out.trans (hb2.mono hBL.out.size)); clear hb2; dsimp only [Option.map_none, Option.getD_none, Option.isSome_none]))
            go_ret2
            unfold NeedGot
            rw [hN.out]
            exact ⟨rfl, hbi.out⟩
          | some x =>
            rw [ho] at hT
            have hN := Lib.hid (hL2.out x ho)
            have hpx := Lib.hid (hp1.out x ho)
            have hcm := Lib.hid hc
            clear hst hib hbel hc hk e1 hinv hskip hlay hfail hlenS
            go_wp2_with (first | (go_at_call 153; (with_reducible refine (HI.out _).mono ?_); rintro e w' ⟨rfl, rfl⟩) | fail)
            refine (hT.out _ hBL.out).mono ?_
            rintro e w2 ⟨PA, pc, QA, qc, rfl, hp, _, hb2⟩
            dsimp only [Option.map_some, Option.getD_some, Option.isSome_some] at hp ⊢
            have hpr := Lib.hid hp.rs
            have hB2 := Lib.hid (hBL.out.trans (hb2.mono hBL.out.size))
            have hI2 := Lib.hid (hIB.out.below hb2 hgl)
            obtain ⟨xn, ps, ins, xc⟩ := x
            dsimp only at hpx hpr ⊢
            have hst0 := Lib.hid (ndB_lay0 (x := xn) (by omega) hcm.out hpx.out.2.2.1)
            have hpl := hpx.out.2.1
            clear hp hb2 y x1 hwd hT HI
            go_wp2_with (fail)
            go_loopw [54] (fun q wi => ∃ t : Nat, t ≤ ps.length ∧ q = .int .i64 t ∧ BB wi g (ndB (layTo cs k xn ps t)) ∧ Chg g (g + 1) w2 wi) (fun q _ => ps.length - (intOf q).toNat)
            case atStart => exact ⟨0, Nat.zero_le _, rfl, by rw [layTo_zero, hst0.out]; exact hI2.out, Chg.refl _ _ _⟩
            case round =>
              obtain ⟨t, htl, rfl, hib, hch⟩ := hrel
              have hIJ := Lib.hid hib
              have hCJ := Lib.hid hch
              have hgr := hib.lt
              clear hib hch
              by_cases hltt : t < ps.length
              · obtain ⟨pb, po, rfl, ⟨_, hpb⟩, hcc⟩ := (hpr.out.chg hCJ.out (Nat.le_refl _) (.inr hgl)) (by omega)
                have y1 := hcc t hltt
                have hpt := hpx.out.1 ps[t] (List.getElem_mem _)
                have hS := Lib.hid (layTo_succ cs k xn hltt)
                have hli := layTo_len cs k xn ps t
                clear hcc
                generalize ps[t] = pp at *
                obtain ⟨pn, rfl⟩ := Int.eq_ofNat_of_zero_le hpt.1
                rw [Int.toNat_natCast] at hS
                have hpm : (pn : Int) < (n : Int) := by omega
                have hpn0 : (0 : Int) ≤ (pn : Int) := by omega
                have y2 := hIJ.out.cell pn (by rw [ndB_len]; omega)
                have yf := hIJ.out.frozen pn
                have hIs := Lib.hid (hIJ.out.set pn true)
                have hCs := Lib.hid (hCJ.out.setCell (p := ⟨g, pn, none⟩) ⟨Nat.le_refl _, Nat.lt_succ_self _⟩ (.bool true))
                have hth := Lib.hid hltt
                generalize (ndB (layTo cs k xn ps t)).getD pn false = bb at *
                go_wp2
                have := hth.out
                exact ⟨⟨t + 1, hth.out, by go_num, by rw [hS.out, ndB_set]; exact hIs.out, hCs.out⟩, by simp [intOf]; omega⟩
              · obtain rfl : t = ps.length := by omega
                have hB3 := Lib.hid (below_chg hB2.out hCJ.out hB2.out.size hgw.out)
                have hwd : IntKind.i64.wrap ((k : Int) - 1) = (k : Int) - 1 := by rw [IntKind.wrap_i64]; omega
                go_wp2
                have := hjh.out
                exact ⟨⟨j + 1, _, _, hjh.out, by rw [e2.out], hN.out, hIJ.out, hB3.out⟩, by simp [intOf] <;> omega⟩
    · obtain rfl : j = n := by omega
      have e1 : (j : Int) - 1 - (j : Int) = -1 := by omega
      rw [e1]
      clear hib hbel
      go_wp2
      go_ret2
      unfold NeedGot
      rw [hst]
      exact ⟨g, rfl, hIB.out, hgw.out, hBL.out⟩
end Go.Proofs.Ytgcbfiamhpfkhaa

/- The model's IsCover. -/
namespace Go.Proofs.Ytgcbfiamhpfkhaa
open Go.RowKit
set_option linter.unusedVariables false
set_option maxRecDepth 100000

theorem tocR_len_ne {es : List Nd} {nums : List Int} (h : ¬ nums.length = es.length) : tocR es nums = none := by unfold tocR; rw [if_neg (fun e => h e.2)]
theorem tocR_st_none {es : List Nd} {nums : List Int} (h : cvSt es nums es.length = none) : tocR es nums = none := by
  unfold tocR; split
  · rw [h]
  · rfl
set_option maxHeartbeats 8000000 in
theorem cvIs_any (L B L' B' : Nat) (A A' : Option Addr) (c c' : Nat) (es : List Nd) (nums : List Int) (w : World) (ht : treeR es = true) (hn : nums.length ≤ 1048576) (hes : NS w L B A es) (hB : B ≤ w.heap.size) (hns : IS w L' B' A' nums) (hB' : B' ≤ w.heap.size) :
    Calls Try.prog 132 #[.slice A es.length c, .slice A' nums.length c'] w (BoolB w (tocR es nums).isSome) := by
  have hg : good es = true := by unfold treeR at ht; simp only [Bool.and_eq_true] at ht; exact ht.1
  obtain ⟨hl1, hl24, hok⟩ := good_len hg
  by_cases hln : nums.length = es.length
  rotate_left
  · have hN := Lib.hid (tocR_len_ne hln)
    have hne : ((nums.length : Int) != (es.length : Int)) = true := by simp; omega
    generalize tocR es nums = R at *
    clear hes hns hB hB' ht hg hok
    generalize es.length = n at *
    generalize nums.length = m at *
    go_enter Try.func132, Try.ntmps132
    go_wp2
    go_ret
    exact ⟨by rw [hN.out]; rfl, Below.refl _ _⟩
  have H := Lib.hid (cvNeeded_any L B L' B' A A' c c' es nums w ht hln hes hB hns hB')
  cases hs : cvSt es nums es.length with
  | none =>
    rw [hs] at H
    have hN := Lib.hid (tocR_st_none hs)
    have hnh := Lib.hid hln
    rw [hln]
    clear hs hes hns hB hB' ht hg hok hln hn
    generalize tocR es nums = R at *
    generalize es.length = n at *
    go_enter Try.func132, Try.ntmps132
    go_wp2_with (go_at_call 166; refine H.out.mono ?_; rintro e w1 ⟨rfl, hb1⟩; have hbh := Lib.hid hb1; clear hb1)
    go_ret
    exact ⟨by rw [hN.out]; rfl, hbh.out⟩
  | some s =>
    obtain ⟨cs, out⟩ := s
    rw [hs] at H
    have hR := Lib.hid (tocR_iff ht hln hs)
    have hE := Lib.hid (cv_eq hln hs)
    have hcl := Lib.hid (cvSt_len hs).1
    have hnl := Lib.hid hln
    have HN := Lib.hid fun (W : World) (hW : Below w.heap.size w W) => hns.below hW hB'
    rw [hln]
    generalize (tocR es nums).isSome = R at *
    clear hs hes hns hB hB' ht hg hok hln hn
    generalize es.length = n at *
    go_enter Try.func132, Try.ntmps132
    go_wp2_with (fail)
    refine H.out.mono ?_
    rintro e w1 ⟨g, rfl, hib, hgw, hb1⟩
    have hIB := Lib.hid hib
    have hBL := Lib.hid hb1
    dsimp only at hIB
    clear hib hb1 H
    go_wp2_with (fail)
    go_loop [24] (fun i => ∃ k : Nat, k ≤ n ∧ i = .int .i64 k ∧ ∀ j, j < k → cs.getD j 0 = -1 → nums.getD j 0 = -1) (fun i => n - (intOf i).toNat)
    case atStart => exact ⟨0, Nat.zero_le _, rfl, fun j hj => absurd hj (Nat.not_lt_zero _)⟩
    case round =>
      obtain ⟨k, hk, rfl, hh⟩ := hrel
      have hH := Lib.hid hh; clear hh
      by_cases hlt : k < n
      · have hki : (k : Int) < (n : Int) := by omega
        obtain ⟨nb, no, rfl, ⟨_, hnb⟩, hcc⟩ := HN.out w1 hBL.out (by rw [hnl.out]; omega)
        have x1 := hcc k (by rw [hnl.out]; exact hlt)
        rw [show nums[k]'(by rw [hnl.out]; exact hlt) = nums.getD k 0 from (getD_get (by rw [hnl.out]; exact hlt)).symm] at x1
        have y := hIB.out.cell k (by rw [ndB_len, hcl.out]; exact hlt)
        rw [ndB_get (by rw [hcl.out]; exact hlt)] at y
        have hlth := Lib.hid hlt
        clear hcc
        by_cases hc : cs.getD k 0 = -1
        · rw [hc, show ((-1 : Int) != -1) = false from rfl] at y
          by_cases ht : nums.getD k 0 = -1
          · have hS : Hid (∀ j, j < k + 1 → cs.getD j 0 = -1 → nums.getD j 0 = -1) := fun j hj => by
              by_cases e : j = k
              · rw [e]; exact fun _ => ht
              · exact hH.out j (by omega)
            rw [ht] at x1
            clear hc ht
            go_wp2
            have := hlth.out
            exact ⟨⟨k + 1, hlth.out, by go_num, hS.out⟩, by simp [intOf] <;> omega⟩
          · have hS : Hid (¬ cs = nums) := fun e => ht (hE.out.1 e k hlt hc)
            have htb : (nums.getD k 0 != -1) = true := by simpa using ht
            clear ht hc
            generalize nums.getD k 0 = t at *
            go_wp2
            go_ret
            exact ⟨by rw [hR.out, decide_eq_false hS.out]; rfl, hBL.out⟩
        · have hcb : (cs.getD k 0 != -1) = true := by simpa using hc
          have hS : Hid (∀ j, j < k + 1 → cs.getD j 0 = -1 → nums.getD j 0 = -1) := fun j hj => by
              by_cases e : j = k
              · rw [e]; exact fun e => absurd e hc
              · exact hH.out j (by omega)
          rw [hcb] at y
          clear hc hcb
          generalize nums.getD k 0 = t at *
          go_wp2
          have := hlth.out
          exact ⟨⟨k + 1, hlth.out, by go_num, hS.out⟩, by simp [intOf] <;> omega⟩
      · obtain rfl : k = n := by omega
        have hS : Hid (cs = nums) := hE.out.2 hH.out
        go_wp2
        go_ret
        exact ⟨by rw [hR.out, decide_eq_true hS.out]; rfl, hBL.out⟩

end Go.Proofs.Ytgcbfiamhpfkhaa
