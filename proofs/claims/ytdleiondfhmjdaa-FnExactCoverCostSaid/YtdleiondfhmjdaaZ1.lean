/- Texts of this proof, one behind the other: GK, GL, GM, GO, OC, ON. -/
import Derived.Test.YtdleiondfhmjdaaZ2
import Derived.Test.YtdleiondfhmjdaaZ5
import Derived.Test.YtdleiondfhmjdaaZ10
import Derived.WalkKit
import Derived.WalkSpells
import Derived.WalkLawsBesides
import Derived.Lib.Hide
import Derived.Test.YtdleiondfhmjdaaZ6
import Derived.Test.YtdleiondfhmjdaaLawEB
import Derived.Test.YtdleiondfhmjdaaZ13
import Derived.ProofKit
import Derived.OpenShut
import Derived.ShutString
import Derived.ChangeOld
import Derived.Below
import Derived.Deep.Slices
import Derived.Deep.Fields
import Derived.Test.YtdleiondfhmjdaaKMNode
/- The model's cover, walked. -/
namespace Go.Proofs.Ytdleiondfhmjdaa
open Go.RowKit
set_option linter.unusedVariables false
set_option maxRecDepth 100000

def NeedGot (w : World) (n : Nat) (o : Option (List Int × List Ti)) (e : Ending) (w' : World) : Prop :=
  match o with
  | some s => ∃ g, e = .returned (.tuple #[.slice (some ⟨g, 0, none⟩) n n, .bool true]) ∧ BB w' g (ndB s.1) ∧ w.heap.size ≤ g ∧ Below w.heap.size w w'
  | none => e = .returned (.tuple #[.slice none 0 0, .bool false]) ∧ Below w.heap.size w w'

theorem BB.below {w w' : World} {g C : Nat} {bs : List Bool} (h : BB w g bs) (hb : Below C w w') (hg : g < C) : BB w' g bs := (hb.block g hg).trans h
theorem tOf_at {es : List Nd} (ht : treeR es = true) {k : Nat} (hk : k < es.length) {t : Nat} (h : t < 13) : tOf es (k : Int) (t : Int) = mt es es[k] t := by
  have hi : inR (k : Int) 0 ((es.length : Int) - 1) = true := (inR_iff _ _ _).2 (by omega)
  have hj : inR (t : Int) 0 12 = true := (inR_iff _ _ _).2 (by omega)
  unfold tOf tAt tileO
  rw [ht, hi, hj, nodeAt_nat hk, Int.toNat_natCast]; rfl
theorem tOf_out {es : List Nd} {i t : Int} (h : inR t 0 12 = false) : tOf es i t = none := by
  have := tok_no (es := es) (i := i) (t := t) (.inr (.inr h))
  unfold tokR at this
  cases ho : tOf es i t with
  | none => rfl
  | some x => rw [ho] at this; cases this
theorem bb_start (w : World) (n : Nat) : BB (w.alloc (.cells ((boolCells (List.replicate n false)).setIfInBounds (n - 1) (.bool true)) 4)) w.heap.size (ndB (opn n)) := by
  have e : (boolCells (List.replicate n false)).setIfInBounds (n - 1) (.bool true) = boolCells (ndB (opn n)) := by unfold boolCells; rw [ndB_opn, List.map_set, List.setIfInBounds_toArray]
  rw [e]
  exact heap_alloc_new w _
set_option maxHeartbeats 8000000 in
theorem cvNeeded_any (L B L' B' : Nat) (A A' : Option Addr) (c c' : Nat) (es : List Nd) (nums : List Int) (w : World) (ht : treeR es = true) (hn : nums.length = es.length) (hes : NS w L B A es) (hB : B ≤ w.heap.size) (hns : IS w L' B' A' nums) (hB' : B' ≤ w.heap.size) :
    Calls Try.prog 120 #[.slice A es.length c, .slice A' es.length c'] w (NeedGot w es.length (cvSt es nums es.length)) := by
  have hg : good es = true := by unfold treeR at ht; simp only [Bool.and_eq_true] at ht; exact ht.1
  obtain ⟨hl1, hl24, hok⟩ := good_len hg
  have H3 := Lib.hid fun (k : Nat) (hk : k < es.length) (t : Nat) (htt : t < 13) (W : World) (hW : Below w.heap.size w W) => (show Calls Try.prog 73 #[.slice A es.length c, .int .i64 (k : Int), .int .i64 (t : Int)] W (TileM W (tOf es (k : Int) (t : Int))) from by rw [tOf_at ht hk htt]; exact cvTile_n L B A c es k hk t htt W (hes.below hW hB) (Nat.le_trans hB hW.size) hok)
  have HN := Lib.hid fun (W : World) (hW : Below w.heap.size w W) => hns.below hW hB'
  have hBn := Lib.hid hB'
  have hskip := Lib.hid fun j cs out => @cvSt_skip es nums j cs out
  have hlay := Lib.hid fun j cs out x => @cvSt_lay es nums j cs out x
  have hfail := Lib.hid fun j cs out => @cvSt_fail es nums j cs out
  have hnone := Lib.hid fun j => @cvSt_none es nums j
  have hlenS := Lib.hid fun j cs out => @cvSt_len es nums j cs out
  have hinv := Lib.hid fun j cs out (hj : j ≤ es.length) (h : cvSt es nums j = some (cs, out)) => (cvSt_inv hj h).lo
  have hout := Lib.hid fun (k : Nat) (t : Int) => @tOf_out es (k : Int) t
  have hps := Lib.hid fun (k : Nat) (t : Int) (x : Ti) => @tOf_ps es k t x
  have hSt0 := Lib.hid (show cvSt es nums 0 = some (opn es.length, []) from rfl)
  have hmk := run_make_bools es.length (by omega)
  have b1 := Lib.hid ((Below.refl w.heap.size w).alloc (Nat.le_refl _) (.cells ((boolCells (List.replicate es.length false)).setIfInBounds (es.length - 1) (.bool true)) 4))
  have hT0 : Hid (BB (w.alloc (.cells (boolCells (List.replicate es.length false)) 4)) w.heap.size (List.replicate es.length false)) := heap_alloc_new w _
  have hT1 := Lib.hid (bb_start w es.length)
  have hw1 : IntKind.i64.wrap ((es.length : Int) - 1) = (es.length : Int) - 1 := by rw [IntKind.wrap_i64]; omega
  have hm1 : ((es.length : Int) - 1) = ((es.length - 1 : Nat) : Int) := by omega
  have hm2 : ((es.length - 1 : Nat) : Int) < (es.length : Int) := by omega
  have hm0 : (0 : Int) ≤ ((es.length - 1 : Nat) : Int) := by omega
  have hnl := Lib.hid hn
  clear hes hB hns hB' hg ht hok hn
  have y0 := hT0.out.cell (es.length - 1) (by simp; omega)
  have f0 := hT0.out.frozen (es.length - 1)
  generalize cvSt es nums = CS at *
  generalize tOf es = TO at *
  generalize es.length = n at *
  go_enter Try.func120, Try.ntmps120
  go_wp2_with (fail)
  obtain ⟨g, hg0⟩ : ∃ g, g = w.heap.size := ⟨_, rfl⟩
  rw [← hg0] at hT1 ⊢
  have hgw := Lib.hid (show w.heap.size ≤ g by omega)
  clear hg0 y0 f0 hT0 hmk
  generalize w.alloc (.cells ((boolCells (List.replicate n false)).setIfInBounds (n - 1) (.bool true)) 4) = W1 at *
  go_loopw [7] (fun i wr => ∃ (j : Nat) (cs : List Int) (out : List Ti), j ≤ n ∧ i = .int .i64 ((n : Int) - 1 - (j : Int)) ∧ CS j = some (cs, out) ∧ BB wr g (ndB cs) ∧ Below w.heap.size w wr) (fun i _ => (intOf i + 1).toNat)
  case atStart => exact ⟨0, _, _, Nat.zero_le _, by rw [← hm1]; simp, hSt0.out, hT1.out, b1.out⟩
  case round =>
    obtain ⟨j, cs, out, hj, rfl, hst, hib, hbel⟩ := hrel
    have hIB := Lib.hid hib
    have hBL := Lib.hid hbel
    have hgl := hib.lt
    have hlen := (hlenS.out j cs out hst).1
    clear hw1 hm1 hm2 hm0
    by_cases hlt : j < n
    · obtain ⟨k, hk⟩ : ∃ k, k = n - 1 - j := ⟨_, rfl⟩
      have e1 : (n : Int) - 1 - (j : Int) = (k : Int) := by omega
      have e2 := Lib.hid (show (k : Int) - 1 = (n : Int) - 1 - ((j + 1 : Nat) : Int) by omega)
      rw [e1]
      have hkn : k < n := by omega
      have hk0 : (0 : Int) ≤ (k : Int) := by omega
      have hki : (k : Int) < (n : Int) := by omega
      have hwd : IntKind.i64.wrap ((k : Int) - 1) = (k : Int) - 1 := by rw [IntKind.wrap_i64]; omega
      have y := hib.cell k (by rw [ndB_len]; omega)
      rw [ndB_get (by omega)] at y
      have hS1 := Lib.hid (hskip.out j cs out hst)
      have hS2 := Lib.hid (fun x => hlay.out j cs out x hst)
      have hS3 := Lib.hid (hfail.out j cs out hst)
      rw [← hk] at hS1 hS2 hS3
      have hjh := Lib.hid hlt
      rcases hinv.out j cs out hj hst k (by omega) with hc | hc
      · rw [hc, show ((-1 : Int) != -1) = false from rfl] at y
        have hN := Lib.hid (hS1.out (by rw [hc]; decide))
        clear hst hib hbel hc hk e1 hinv hskip hlay hfail hlenS
        go_wp2
        have := hjh.out
        exact ⟨⟨j + 1, cs, out, hjh.out, by rw [e2.out], hN.out, hIB.out, hBL.out⟩, by simp [intOf] <;> omega⟩
      · rw [hc, show ((-2 : Int) != -1) = true from rfl] at y
        obtain ⟨nb, no, rfl, ⟨_, hnb⟩, hcc⟩ := HN.out wr hbel (by rw [hnl.out]; omega)
        have x1 := hcc k (by rw [hnl.out]; exact hkn)
        rw [show nums[k]'(by rw [hnl.out]; exact hkn) = nums.getD k 0 from (getD_get (by rw [hnl.out]; exact hkn)).symm] at x1
        have hL2 := Lib.hid (fun x => hS2.out x hc)
        have hF2 := Lib.hid (hS3.out hc)
        have ho1 := Lib.hid (hout.out k (nums.getD k 0))
        have hp1 := Lib.hid (hps.out k (nums.getD k 0))
        clear hcc hS1 hS2 hS3
        generalize nums.getD k 0 = t at *
        have HI := Lib.hid fun (W : World) => l1In_r t 0 12 W
        cases hin : inR t 0 12
        · rw [hin] at HI
          have hN := Lib.hid (hnone.out (j + 1) (hF2.out (ho1.out hin)) n (by omega))
          clear hst hib hbel hc hk e1 hinv hskip hlay hfail hlenS
          go_wp2_with (go_at_call 79; (with_reducible refine (HI.out _).mono ?_); rintro e w' ⟨rfl, rfl⟩)
          go_ret2
          unfold NeedGot
          rw [hN.out]
          exact ⟨rfl, hBL.out⟩
        · rw [hin] at HI
          have hin2 := (inR_iff _ _ _).1 hin
          obtain ⟨tn, rfl⟩ := Int.eq_ofNat_of_zero_le hin2.1
          have hT := Lib.hid (H3.out k hkn tn (by omega))
          cases ho : TO (k : Int) (tn : Int) with
          | none =>
            rw [ho] at hT
            have hN := Lib.hid (hnone.out (j + 1) (hF2.out ho) n (by omega))
            clear hst hib hbel hc hk e1 hinv hskip hlay hfail hlenS
            go_wp2_with (first | (go_at_call 79; (with_reducible refine (HI.out _).mono ?_); rintro e w' ⟨rfl, rfl⟩) | (go_at_call 73; (with_reducible refine (hT.out _ hBL.out).mono ?_); rintro e w2 ⟨PA, pc, QA, qc, rfl, _, _, hb2⟩; have hbi := Lib.hid (hBL.out.trans (hb2.mono hBL.out.size)); clear hb2; dsimp only [Option.map_none, Option.getD_none, Option.isSome_none]))
            go_ret2
            unfold NeedGot
            rw [hN.out]
            exact ⟨rfl, hbi.out⟩
          | some x =>
            rw [ho] at hT
            have hN := Lib.hid (hL2.out x ho)
            have hpx := Lib.hid (hp1.out x ho)
            have hcm := Lib.hid hc
            clear hst hib hbel hc hk e1 hinv hskip hlay hfail hlenS
            go_wp2_with (first | (go_at_call 79; (with_reducible refine (HI.out _).mono ?_); rintro e w' ⟨rfl, rfl⟩) | fail)
            refine (hT.out _ hBL.out).mono ?_
            rintro e w2 ⟨PA, pc, QA, qc, rfl, hp, _, hb2⟩
            dsimp only [Option.map_some, Option.getD_some, Option.isSome_some] at hp ⊢
            have hpr := Lib.hid hp.rs
            have hB2 := Lib.hid (hBL.out.trans (hb2.mono hBL.out.size))
            have hI2 := Lib.hid (hIB.out.below hb2 hgl)
            obtain ⟨xn, ps, ins, xc⟩ := x
            dsimp only at hpx hpr ⊢
            have hst0 := Lib.hid (ndB_lay0 (x := xn) (by omega) hcm.out hpx.out.2.2.1)
            have hpl := hpx.out.2.1
            clear hp hb2 y x1 hwd hT HI
            go_wp2_with (fail)
            go_loopw [54] (fun q wi => ∃ t : Nat, t ≤ ps.length ∧ q = .int .i64 t ∧ BB wi g (ndB (layTo cs k xn ps t)) ∧ Chg g (g + 1) w2 wi) (fun q _ => ps.length - (intOf q).toNat)
            case atStart => exact ⟨0, Nat.zero_le _, rfl, by rw [layTo_zero, hst0.out]; exact hI2.out, Chg.refl _ _ _⟩
            case round =>
              obtain ⟨t, htl, rfl, hib, hch⟩ := hrel
              have hIJ := Lib.hid hib
              have hCJ := Lib.hid hch
              have hgr := hib.lt
              clear hib hch
              by_cases hltt : t < ps.length
              · obtain ⟨pb, po, rfl, ⟨_, hpb⟩, hcc⟩ := (hpr.out.chg hCJ.out (Nat.le_refl _) (.inr hgl)) (by omega)
                have y1 := hcc t hltt
                have hpt := hpx.out.1 ps[t] (List.getElem_mem _)
                have hS := Lib.hid (layTo_succ cs k xn hltt)
                have hli := layTo_len cs k xn ps t
                clear hcc
                generalize ps[t] = pp at *
                obtain ⟨pn, rfl⟩ := Int.eq_ofNat_of_zero_le hpt.1
                rw [Int.toNat_natCast] at hS
                have hpm : (pn : Int) < (n : Int) := by omega
                have hpn0 : (0 : Int) ≤ (pn : Int) := by omega
                have y2 := hIJ.out.cell pn (by rw [ndB_len]; omega)
                have yf := hIJ.out.frozen pn
                have hIs := Lib.hid (hIJ.out.set pn true)
                have hCs := Lib.hid (hCJ.out.setCell (p := ⟨g, pn, none⟩) ⟨Nat.le_refl _, Nat.lt_succ_self _⟩ (.bool true))
                have hth := Lib.hid hltt
                generalize (ndB (layTo cs k xn ps t)).getD pn false = bb at *
                go_wp2
                have := hth.out
                exact ⟨⟨t + 1, hth.out, by go_num, by rw [hS.out, ndB_set]; exact hIs.out, hCs.out⟩, by simp [intOf]; omega⟩
              · obtain rfl : t = ps.length := by omega
                have hB3 := Lib.hid (below_chg hB2.out hCJ.out hB2.out.size hgw.out)
                have hwd : IntKind.i64.wrap ((k : Int) - 1) = (k : Int) - 1 := by rw [IntKind.wrap_i64]; omega
                go_wp2
                have := hjh.out
                exact ⟨⟨j + 1, _, _, hjh.out, by rw [e2.out], hN.out, hIJ.out, hB3.out⟩, by simp [intOf] <;> omega⟩
    · obtain rfl : j = n := by omega
      have e1 : (j : Int) - 1 - (j : Int) = -1 := by omega
      rw [e1]
      clear hib hbel
      go_wp2
      go_ret2
      unfold NeedGot
      rw [hst]
      exact ⟨g, rfl, hIB.out, hgw.out, hBL.out⟩
end Go.Proofs.Ytdleiondfhmjdaa

/- The model's IsCover. -/
namespace Go.Proofs.Ytdleiondfhmjdaa
open Go.RowKit
set_option linter.unusedVariables false
set_option maxRecDepth 100000

theorem tocR_len_ne {es : List Nd} {nums : List Int} (h : ¬ nums.length = es.length) : tocR es nums = none := by unfold tocR; rw [if_neg (fun e => h e.2)]
theorem tocR_st_none {es : List Nd} {nums : List Int} (h : cvSt es nums es.length = none) : tocR es nums = none := by
  unfold tocR; split
  · rw [h]
  · rfl
set_option maxHeartbeats 8000000 in
theorem cvIs_any (L B L' B' : Nat) (A A' : Option Addr) (c c' : Nat) (es : List Nd) (nums : List Int) (w : World) (ht : treeR es = true) (hn : nums.length ≤ 1048576) (hes : NS w L B A es) (hB : B ≤ w.heap.size) (hns : IS w L' B' A' nums) (hB' : B' ≤ w.heap.size) :
    Calls Try.prog 84 #[.slice A es.length c, .slice A' nums.length c'] w (BoolB w (tocR es nums).isSome) := by
  have hg : good es = true := by unfold treeR at ht; simp only [Bool.and_eq_true] at ht; exact ht.1
  obtain ⟨hl1, hl24, hok⟩ := good_len hg
  by_cases hln : nums.length = es.length
  rotate_left
  · have hN := Lib.hid (tocR_len_ne hln)
    have hne : ((nums.length : Int) != (es.length : Int)) = true := by simp; omega
    generalize tocR es nums = R at *
    clear hes hns hB hB' ht hg hok
    generalize es.length = n at *
    generalize nums.length = m at *
    go_enter Try.func84, Try.ntmps84
    go_wp2
    go_ret
    exact ⟨by rw [hN.out]; rfl, Below.refl _ _⟩
  have H := Lib.hid (cvNeeded_any L B L' B' A A' c c' es nums w ht hln hes hB hns hB')
  cases hs : cvSt es nums es.length with
  | none =>
    rw [hs] at H
    have hN := Lib.hid (tocR_st_none hs)
    have hnh := Lib.hid hln
    rw [hln]
    clear hs hes hns hB hB' ht hg hok hln hn
    generalize tocR es nums = R at *
    generalize es.length = n at *
    go_enter Try.func84, Try.ntmps84
    go_wp2_with (go_at_call 120; refine H.out.mono ?_; rintro e w1 ⟨rfl, hb1⟩; have hbh := Lib.hid hb1; clear hb1)
    go_ret
    exact ⟨by rw [hN.out]; rfl, hbh.out⟩
  | some s =>
    obtain ⟨cs, out⟩ := s
    rw [hs] at H
    have hR := Lib.hid (tocR_iff ht hln hs)
    have hE := Lib.hid (cv_eq hln hs)
    have hcl := Lib.hid (cvSt_len hs).1
    have hnl := Lib.hid hln
    have HN := Lib.hid fun (W : World) (hW : Below w.heap.size w W) => hns.below hW hB'
    rw [hln]
    generalize (tocR es nums).isSome = R at *
    clear hs hes hns hB hB' ht hg hok hln hn
    generalize es.length = n at *
    go_enter Try.func84, Try.ntmps84
    go_wp2_with (fail)
    refine H.out.mono ?_
    rintro e w1 ⟨g, rfl, hib, hgw, hb1⟩
    have hIB := Lib.hid hib
    have hBL := Lib.hid hb1
    dsimp only at hIB
    clear hib hb1 H
    go_wp2_with (fail)
    go_loop [24] (fun i => ∃ k : Nat, k ≤ n ∧ i = .int .i64 k ∧ ∀ j, j < k → cs.getD j 0 = -1 → nums.getD j 0 = -1) (fun i => n - (intOf i).toNat)
    case atStart => exact ⟨0, Nat.zero_le _, rfl, fun j hj => absurd hj (Nat.not_lt_zero _)⟩
    case round =>
      obtain ⟨k, hk, rfl, hh⟩ := hrel
      have hH := Lib.hid hh; clear hh
      by_cases hlt : k < n
      · have hki : (k : Int) < (n : Int) := by omega
        obtain ⟨nb, no, rfl, ⟨_, hnb⟩, hcc⟩ := HN.out w1 hBL.out (by rw [hnl.out]; omega)
        have x1 := hcc k (by rw [hnl.out]; exact hlt)
        rw [show nums[k]'(by rw [hnl.out]; exact hlt) = nums.getD k 0 from (getD_get (by rw [hnl.out]; exact hlt)).symm] at x1
        have y := hIB.out.cell k (by rw [ndB_len, hcl.out]; exact hlt)
        rw [ndB_get (by rw [hcl.out]; exact hlt)] at y
        have hlth := Lib.hid hlt
        clear hcc
        by_cases hc : cs.getD k 0 = -1
        · rw [hc, show ((-1 : Int) != -1) = false from rfl] at y
          by_cases ht : nums.getD k 0 = -1
          · have hS : Hid (∀ j, j < k + 1 → cs.getD j 0 = -1 → nums.getD j 0 = -1) := fun j hj => by
              by_cases e : j = k
              · rw [e]; exact fun _ => ht
              · exact hH.out j (by omega)
            rw [ht] at x1
            clear hc ht
            go_wp2
            have := hlth.out
            exact ⟨⟨k + 1, hlth.out, by go_num, hS.out⟩, by simp [intOf] <;> omega⟩
          · have hS : Hid (¬ cs = nums) := fun e => ht (hE.out.1 e k hlt hc)
            have htb : (nums.getD k 0 != -1) = true := by simpa using ht
            clear ht hc
            generalize nums.getD k 0 = t at *
            go_wp2
            go_ret
            exact ⟨by rw [hR.out, decide_eq_false hS.out]; rfl, hBL.out⟩
        · have hcb : (cs.getD k 0 != -1) = true := by simpa using hc
          have hS : Hid (∀ j, j < k + 1 → cs.getD j 0 = -1 → nums.getD j 0 = -1) := fun j hj => by
              by_cases e : j = k
              · rw [e]; exact fun e => absurd e hc
              · exact hH.out j (by omega)
          rw [hcb] at y
          clear hc hcb
          generalize nums.getD k 0 = t at *
          go_wp2
          have := hlth.out
          exact ⟨⟨k + 1, hlth.out, by go_num, hS.out⟩, by simp [intOf] <;> omega⟩
      · obtain rfl : k = n := by omega
        have hS : Hid (cs = nums) := hE.out.2 hH.out
        go_wp2
        go_ret
        exact ⟨by rw [hR.out, decide_eq_true hS.out]; rfl, hBL.out⟩

set_option maxHeartbeats 4000000 in
theorem sIsCover_any (L B L' B' : Nat) (A A' : Option Addr) (c c' : Nat) (es : List Nd) (nums : List Int) (w : World) (hl : es.length ≤ 1048576) (hn : nums.length ≤ 1048576) (hes : NS w L B A es) (hB : B ≤ w.heap.size) (hns : IS w L' B' A' nums) (hB' : B' ≤ w.heap.size) :
    Calls Try.prog 41 #[.slice A es.length c, .slice A' nums.length c'] w fun e w' => e = .returned (.tuple #[.bool (tocR es nums).isSome, .bool (treeR es)]) ∧ Below w.heap.size w w' := by
  have H := Lib.hid (cvTree_any L B A c es w hl hes hB)
  have H2 := Lib.hid fun (ht : treeR es = true) (W : World) (hW : Below w.heap.size w W) => cvIs_any L B L' B' A A' c c' es nums W ht hn (hes.below hW hB) (Nat.le_trans hB hW.size) (hns.below hW hB') (Nat.le_trans hB' hW.size)
  clear hes hB hns hB'
  cases ht : treeR es
  · have hR : Hid (tocR es nums = none) := by unfold Hid tocR; rw [if_neg (by rw [ht]; simp)]
    rw [ht] at H
    clear ht H2
    go_enter Try.func41, Try.ntmps41
    go_wp2_with (go_at_call 78; refine H.out.mono ?_; rintro e w1 ⟨rfl, hb1⟩; have hbh := Lib.hid hb1; clear hb1)
    go_ret2
    exact ⟨by rw [hR.out]; rfl, hbh.out⟩
  rw [ht] at H
  have H3 := Lib.hid (H2.out ht)
  clear ht H2
  generalize (tocR es nums).isSome = o at *
  go_enter Try.func41, Try.ntmps41
  go_wp2_with (first | (go_at_call 78; refine H.out.mono ?_; rintro e w1 ⟨rfl, hb1⟩; have hbh := Lib.hid hb1; clear hb1) | (go_at_call 84; refine (H3.out _ hbh.out).mono ?_; rintro e w2 ⟨rfl, hb2⟩; have hbi := Lib.hid (hbh.out.trans (hb2.mono hbh.out.size)); clear hb2))
  go_ret2
  exact ⟨rfl, hbi.out⟩
end Go.Proofs.Ytdleiondfhmjdaa

/- The model's CoverCost and TileUses. -/
namespace Go.Proofs.Ytdleiondfhmjdaa
open Go.RowKit
set_option linter.unusedVariables false
set_option maxRecDepth 100000

theorem mst_bd {es : List Nd} {nums : List Int} {out : List Ti} (h : tocR es nums = some out) {k : Nat} (hk : k ≤ es.length) : ∀ x ∈ mst es nums k, TiB x := by
  intro x hx
  unfold mst at hx
  rw [List.mem_map] at hx
  obtain ⟨i, hi, rfl⟩ := hx
  rw [List.mem_filter, List.mem_range] at hi
  obtain ⟨y, hy⟩ := (tocR_mst h).2 i (by omega) (by simpa using hi.2)
  unfold tD; rw [hy]
  exact tOf_bd hy
/-- A place that bears a tile: its number, its cost. -/
theorem mst_at {es : List Nd} {nums : List Int} {out : List Ti} (h : tocR es nums = some out) {k : Nat} (hk : k < es.length) (h0 : 0 ≤ nums.getD k 0) :
    ∃ n : Nat, nums.getD k 0 = (n : Int) ∧ n < 13 ∧ (tD es nums k).num = (n : Int) ∧ (tD es nums k).c = ctN n es[k] := by
  obtain ⟨y, hy⟩ := (tocR_mst h).2 k hk h0
  obtain ⟨n, hk', e, hn, hm⟩ := tOf_mt hy
  have hD : tD es nums k = y := by unfold tD; rw [hy]; rfl
  rw [hD]
  exact ⟨n, e, hn, mt_num hm, mt_c hm⟩
set_option maxHeartbeats 8000000 in
theorem cvSum_any (L B L' B' : Nat) (A A' : Option Addr) (c c' : Nat) (es : List Nd) (nums : List Int) (out : List Ti) (w : World) (h : tocR es nums = some out) (hes : NS w L B A es) (hns : IS w L' B' A' nums) :
    Calls Try.prog 86 #[.slice A es.length c, .slice A' nums.length c'] w fun e w' => e = .returned (.int .i64 (ccostR es nums)) ∧ w = w' := by
  obtain ⟨ht, hln, _⟩ := tocR_some h
  have hg : good es = true := by unfold treeR at ht; simp only [Bool.and_eq_true] at ht; exact ht.1
  obtain ⟨hl1, hl24, hok⟩ := good_len hg
  have HN := Lib.hid hns
  have hnl := Lib.hid hln
  have hR := Lib.hid (tocR_sum h)
  have hbd := Lib.hid fun k (hk : k ≤ es.length) => sumK_bd (mst_bd h hk)
  have hml := Lib.hid fun k => mst_len es nums k
  have hat := Lib.hid fun k (hk : k < es.length) (h0 : 0 ≤ nums.getD k 0) => (show ∃ t : Nat, nums.getD k 0 = (t : Int) ∧ t < 13 ∧ (tD es nums k).num = (t : Int) ∧ Calls Try.prog 77 #[.slice A es.length c, .int .i64 (k : Int), .int .i64 (t : Int)] w fun e w' => e = .returned (.int .i64 (tD es nums k).c) ∧ w = w' from by
    obtain ⟨t, e1, e2, e3, e4⟩ := mst_at h hk h0
    exact ⟨t, e1, e2, e3, by rw [e4]; exact cvCost_any L B A c es k t hk w hes⟩)
  have hcb := Lib.hid fun k (hk : k < es.length) (h0 : 0 ≤ nums.getD k 0) => (show TiB (tD es nums k) from by
    obtain ⟨t, e1, e2, e3, e4⟩ := mst_at h hk h0
    have := ctN_bd t es[k]
    exact ⟨by omega, by omega, by omega, by omega⟩)
  have hsk := Lib.hid fun k => @mst_skip es nums k
  have htk := Lib.hid fun k => @mst_take es nums k
  have hz := Lib.hid (mst_zero es nums)
  rw [hln]
  clear hes hns hg hok ht hln
  clear h
  generalize ccostR es nums = R at *
  generalize mst es nums = M at *
  generalize tD es nums = TD at *
  generalize es.length = n at *
  go_enter Try.func86, Try.ntmps86
  go_wp2_with (fail)
  go_loop [5, 10] (fun q i => ∃ k : Nat, k ≤ n ∧ i = .int .i64 k ∧ q = .int .i64 (sumK (M k))) (fun _ i => n - (intOf i).toNat)
  case atStart => exact ⟨0, Nat.zero_le _, rfl, by rw [hz.out]; rfl⟩
  case round =>
    obtain ⟨k, hk, rfl, rfl⟩ := hrel
    by_cases hlt : k < n
    · have hki : (k : Int) < (n : Int) := by omega
      obtain ⟨nb, no, rfl, _, hcc⟩ := HN.out (by rw [hnl.out]; omega)
      have x1 := hcc k (by rw [hnl.out]; exact hlt)
      rw [show nums[k]'(by rw [hnl.out]; exact hlt) = nums.getD k 0 from (getD_get (by rw [hnl.out]; exact hlt)).symm] at x1
      have hlth := Lib.hid hlt
      clear hcc
      by_cases h0 : 0 ≤ nums.getD k 0
      · obtain ⟨t, e1, e2, e3, hc⟩ := hat.out k hlt h0
        have hCC := Lib.hid hc
        have hS := Lib.hid (htk.out k h0)
        have hb1 := hbd.out k hk
        have hb2 := hml.out k
        have hb3 := hcb.out k hlt h0
        unfold TiB at hb3
        rw [e1] at x1
        have ht0 : (0 : Int) ≤ (t : Int) := by omega
        have hs2 := Lib.hid (sumK_snoc (M k) (TD k))
        have hw : IntKind.i64.wrap (sumK (M k) + (TD k).c) = sumK (M k) + (TD k).c := by rw [IntKind.wrap_i64]; omega
        clear hc h0 e1 e2 e3 hb1 hb2 hb3
        generalize (TD k).c = tc at *
        generalize sumK (M k) = s at *
        go_wp2_with (go_at_call 77; refine hCC.out.mono ?_; rintro e w1 ⟨rfl, rfl⟩)
        have := hlth.out
        exact ⟨⟨k + 1, hlth.out, by go_num, by rw [hS.out, hs2.out]⟩, by simp [intOf] <;> omega⟩
      · have hS := Lib.hid (hsk.out k (by omega))
        generalize nums.getD k 0 = t at *
        have hneg : ¬ (0 : Int) ≤ t := h0
        go_wp2
        have := hlth.out
        exact ⟨⟨k + 1, hlth.out, by go_num, by rw [hS.out]⟩, by simp [intOf] <;> omega⟩
    · obtain rfl : k = n := by omega
      generalize sumK (M k) = s at *
      go_wp2
      go_ret
      exact ⟨by rw [hR.out]; rfl, rfl⟩

theorem ccostR_none {es : List Nd} {nums : List Int} (h : tocR es nums = none) : ccostR es nums = 0 := by unfold ccostR; rw [h]; rfl
theorem tuseR_none {es : List Nd} {nums : List Int} (h : tocR es nums = none) : tuseR es nums = [] := by unfold tuseR; rw [h]; rfl
set_option maxHeartbeats 4000000 in
theorem sCoverCost_any (L B L' B' : Nat) (A A' : Option Addr) (c c' : Nat) (es : List Nd) (nums : List Int) (w : World) (hl : es.length ≤ 1048576) (hn : nums.length ≤ 1048576) (hes : NS w L B A es) (hB : B ≤ w.heap.size) (hns : IS w L' B' A' nums) (hB' : B' ≤ w.heap.size) :
    Calls Try.prog 43 #[.slice A es.length c, .slice A' nums.length c'] w (IntRes w (ccostR es nums) (tocR es nums).isSome) := by
  have H := Lib.hid (cvTree_any L B A c es w hl hes hB)
  have H2 := Lib.hid fun (ht : treeR es = true) (W : World) (hW : Below w.heap.size w W) => cvIs_any L B L' B' A A' c c' es nums W ht hn (hes.below hW hB) (Nat.le_trans hB hW.size) (hns.below hW hB') (Nat.le_trans hB' hW.size)
  have H4 := Lib.hid fun (out : List Ti) (h : tocR es nums = some out) (W : World) (hW : Below w.heap.size w W) => cvSum_any L B L' B' A A' c c' es nums out W h (hes.below hW hB) (hns.below hW hB')
  clear hes hB hns hB'
  cases ht : treeR es
  · have hR : Hid (tocR es nums = none) := by unfold Hid tocR; rw [if_neg (by rw [ht]; simp)]
    have hR2 := Lib.hid (ccostR_none hR.out)
    rw [ht] at H
    clear ht H2 H4
    go_enter Try.func43, Try.ntmps43
    go_wp2_with (go_at_call 78; refine H.out.mono ?_; rintro e w1 ⟨rfl, hb1⟩; have hbh := Lib.hid hb1; clear hb1)
    go_ret2
    exact ⟨by rw [hR.out, hR2.out]; rfl, hbh.out⟩
  rw [ht] at H
  have H3 := Lib.hid (H2.out ht)
  clear ht H2
  cases ho : tocR es nums with
  | none =>
    have hR2 := Lib.hid (ccostR_none ho)
    rw [ho] at H3
    clear ho H4
    go_enter Try.func43, Try.ntmps43
    go_wp2_with (first | (go_at_call 78; refine H.out.mono ?_; rintro e w1 ⟨rfl, hb1⟩; have hbh := Lib.hid hb1; clear hb1) | (go_at_call 84; refine (H3.out _ hbh.out).mono ?_; rintro e w2 ⟨rfl, hb2⟩; have hbi := Lib.hid (hbh.out.trans (hb2.mono hbh.out.size)); clear hb2))
    go_ret2
    exact ⟨by rw [hR2.out]; rfl, hbi.out⟩
  | some out =>
    rw [ho] at H3
    have H5 := Lib.hid (H4.out out ho)
    clear ho H4
    generalize ccostR es nums = R at *
    go_enter Try.func43, Try.ntmps43
    go_wp2_with (first | (go_at_call 78; refine H.out.mono ?_; rintro e w1 ⟨rfl, hb1⟩; have hbh := Lib.hid hb1; clear hb1) | (go_at_call 84; refine (H3.out _ hbh.out).mono ?_; rintro e w2 ⟨rfl, hb2⟩; have hbi := Lib.hid (hbh.out.trans (hb2.mono hbh.out.size)); clear hb2) | (go_at_call 86; refine (H5.out _ hbi.out).mono ?_; rintro e w3 ⟨rfl, rfl⟩))
    go_ret2
    exact ⟨rfl, hbi.out⟩
end Go.Proofs.Ytdleiondfhmjdaa

/- IsCover, CoverCost: the contracts as the laws take them. -/
namespace Go.Proofs.Ytdleiondfhmjdaa
open Go.RowKit
theorem sIsCover_k (L B : Nat) (A : Option Addr) (c : Nat) (es : List Nd) (L' B' : Nat) (A' : Option Addr) (c' : Nat) (nums : List Int) (w : World) (hl : es.length ≤ 1048576) (hes : RS Nd.enc 4 w L B A es) (hB : B ≤ w.heap.size) (hn : nums.length ≤ 1048576) (hns : IS w L' B' A' nums) (hB' : B' ≤ w.heap.size) :
    Calls Try.prog 41 #[.slice A es.length c, .slice A' nums.length c'] w (ResIsCover (tocR es nums).isSome (treeR es) w) := sIsCover_any L B L' B' A A' c c' es nums w hl hn hes.ns hB hns hB'
theorem iIsCover_k (L B : Nat) (A : Option Addr) (c : Nat) (es : List Nd) (L' B' : Nat) (A' : Option Addr) (c' : Nat) (nums : List Int) (w : World) (hl : es.length ≤ 1048576) (hes : RS Nd.enc 4 w L B A es) (hB : B ≤ w.heap.size) (hn : nums.length ≤ 1048576) (hns : IS w L' B' A' nums) (hB' : B' ≤ w.heap.size) :
    Calls Try.prog 42 #[.slice A es.length c, .slice A' nums.length c'] w (ResIsCover (tocR es nums).isSome (treeR es) w) := iIsCover_any L B L' B' A A' c c' es nums w hl hn hes.ns hB hns hB'
theorem sCoverCost_k (L B : Nat) (A : Option Addr) (c : Nat) (es : List Nd) (L' B' : Nat) (A' : Option Addr) (c' : Nat) (nums : List Int) (w : World) (hl : es.length ≤ 1048576) (hes : RS Nd.enc 4 w L B A es) (hB : B ≤ w.heap.size) (hn : nums.length ≤ 1048576) (hns : IS w L' B' A' nums) (hB' : B' ≤ w.heap.size) :
    Calls Try.prog 43 #[.slice A es.length c, .slice A' nums.length c'] w (ResCoverCost (ccostR es nums) (tocR es nums).isSome w) := sCoverCost_any L B L' B' A A' c c' es nums w hl hn hes.ns hB hns hB'
theorem iCoverCost_k (L B : Nat) (A : Option Addr) (c : Nat) (es : List Nd) (L' B' : Nat) (A' : Option Addr) (c' : Nat) (nums : List Int) (w : World) (hl : es.length ≤ 1048576) (hes : RS Nd.enc 4 w L B A es) (hB : B ≤ w.heap.size) (hn : nums.length ≤ 1048576) (hns : IS w L' B' A' nums) (hB' : B' ≤ w.heap.size) :
    Calls Try.prog 44 #[.slice A es.length c, .slice A' nums.length c'] w (ResCoverCost (ccostR es nums) (tocR es nums).isSome w) := iCoverCost_any L B L' B' A A' c c' es nums w hl hn hes.ns hB hns hB'
end Go.Proofs.Ytdleiondfhmjdaa

/- Arguments of the types []laws.Instr, laws.Instr and []int opened. -/
namespace Go.Proofs.Ytdleiondfhmjdaa
open Go.ChangeShapes Go.WideShapes Go.ChangeAt Go.RowKit Go.Deep
open Go.ChangeMaps (open_string shut_string)
set_option linter.unusedVariables false

theorem cellsIn : Try.prog.cellsOf 67 = 5 := by kernel_rfl
theorem cellsStr : Try.prog.cellsOf 9 = 1 := by kernel_rfl
theorem cellsInt : Try.prog.cellsOf 3 = 1 := by kernel_rfl

set_option maxRecDepth 100000 in
theorem in_of_trod {H : Type} {enc : TypeId × Value → H} {w : World} {base : Nat} {spare : Nat → Bool} {held : Bool} {n : Nat} {cs : List Value} {x : DataW H × List MemPlace}
    (h : DataW.trod enc Try.prog w base spare held n 67 cs = some x) : ∃ nd : In, cs = nd.enc ∧ nd.op.size ≤ maxLen := by
  obtain ⟨xs, m, _, _, hlen, hxl, hf⟩ := DataW.trod_struct Try.underlying67 h
  rw [cellsIn] at hlen
  match cs, hlen with
  | [c0, c1, c2, c3, c4], _ =>
    match xs, hxl with
    | [y0, y1, y2, y3, y4], _ =>
      have h0 := hf 0 _ rfl
      change DataW.trod enc Try.prog w base spare held m 9 (([c0, c1, c2, c3, c4].drop 0).take (Try.prog.cellsOf 9)) = _ at h0
      rw [cellsStr] at h0
      have h1 := hf 1 _ rfl
      change DataW.trod enc Try.prog w base spare held m 3 (([c0, c1, c2, c3, c4].drop 1).take (Try.prog.cellsOf 3)) = _ at h1
      rw [cellsInt] at h1
      have h2 := hf 2 _ rfl
      change DataW.trod enc Try.prog w base spare held m 3 (([c0, c1, c2, c3, c4].drop 2).take (Try.prog.cellsOf 3)) = _ at h2
      rw [cellsInt] at h2
      have h3 := hf 3 _ rfl
      change DataW.trod enc Try.prog w base spare held m 3 (([c0, c1, c2, c3, c4].drop 3).take (Try.prog.cellsOf 3)) = _ at h3
      rw [cellsInt] at h3
      have h4 := hf 4 _ rfl
      change DataW.trod enc Try.prog w base spare held m 3 (([c0, c1, c2, c3, c4].drop 4).take (Try.prog.cellsOf 3)) = _ at h4
      rw [cellsInt] at h4
      obtain ⟨s, e0, _, hs⟩ := DataW.trod_string Try.underlying9 h0
      obtain ⟨d, e1, _, _⟩ := DataW.trod_int Try.underlying3 h1
      obtain ⟨a, e2, _, _⟩ := DataW.trod_int Try.underlying3 h2
      obtain ⟨b, e3, _, _⟩ := DataW.trod_int Try.underlying3 h3
      obtain ⟨m, e4, _, _⟩ := DataW.trod_int Try.underlying3 h4
      have e0 : c0 = .string s := by simpa using e0
      have e1 : c1 = .int .i64 d := by simpa using e1
      have e2 : c2 = .int .i64 a := by simpa using e2
      have e3 : c3 = .int .i64 b := by simpa using e3
      have e4 : c4 = .int .i64 m := by simpa using e4
      exact ⟨⟨s, d, a, b, m⟩, by rw [e0, e1, e2, e3, e4]; rfl, hs⟩

theorem cell_lt_heap {w : World} {a : Addr} {v : Value} (h : w.cell? a = some v) : a.block < w.heap.size := by
  rcases Nat.lt_or_ge a.block w.heap.size with hlt | hge
  · exact hlt
  · unfold World.cell? at h; rw [Array.getElem?_eq_none hge] at h; simp at h

set_option maxRecDepth 100000 in
theorem x_of_trod {H : Type} {enc : TypeId × Value → H} {w : World} {r : Reach} {b0 : Nat} {spare : Nat → Bool} {held : Bool} {v : Value} {d : DataW H} {p : List MemPlace}
    (hv : Value.okWide Try.prog w r b0 67 v) (h : DataW.Trod enc Try.prog w 0 spare held 67 v d p) :
    ∃ x : In, v = .agg #[.string x.op, .int .i64 x.d, .int .i64 x.a, .int .i64 x.b, .int .i64 x.m] ∧ x.op.size ≤ 9223372036854775807 := by
  obtain ⟨cs, rfl, hsz⟩ := okWide_struct Try.underlying67 hv
  obtain ⟨fuel, hf⟩ := h
  obtain ⟨x, hx, hs⟩ := in_of_trod hf
  refine ⟨x, ?_, by unfold maxLen at hs; omega⟩
  obtain ⟨l⟩ := cs
  have hx' : l = x.enc := by simpa [Value.cells] using hx
  subst hx'; rfl

set_option maxRecDepth 100000 in
theorem ins_of_trod {H : Type} {enc : TypeId × Value → H} {w : World} {spare : Nat → Bool} {held : Bool} {A : Option Addr} {len cap : Nat} {d : DataW H} {p : List MemPlace}
    (h : DataW.Trod enc Try.prog w 0 spare held 22 (.slice A len cap) d p) :
    ∃ es : List In, es.length = len ∧ RS In.enc 5 w 0 w.heap.size A es ∧ (∀ n ∈ es, n.op.size ≤ 9223372036854775807) ∧ len ≤ 9223372036854775807 := by
  obtain ⟨fuel, hf⟩ := h
  rcases open_slice Try.underlying22 hf with ⟨hcs, _⟩ | ⟨a, l, c, m, n, D, Pl, hcs, _, hl, hm, hmm, _, hi⟩
  · simp [Value.cells] at hcs
    obtain ⟨rfl, rfl, rfl⟩ := hcs
    exact ⟨[], rfl, fun h => absurd h (by simp), (fun n hn => by cases hn), by omega⟩
  · simp [Value.cells] at hcs
    obtain ⟨rfl, rfl, rfl⟩ := hcs
    have hlm : len ≤ m := by rw [hmm]; split <;> omega
    have hex : ∀ i, i < len → ∃ nd : In, (∀ j v, nd.enc[j]? = some v → w.cell? (a.add (i * 5 + j)) = some v) ∧ nd.op.size ≤ maxLen := by
      intro i hil
      obtain ⟨cs', hc, ht⟩ := hi i (by omega)
      rw [cellsIn] at hc
      obtain ⟨nd, rfl, hs⟩ := in_of_trod ht
      obtain ⟨_, _, hat⟩ := World.cells?_some hc
      refine ⟨nd, fun j v hv => ?_, hs⟩
      have hj : j < 5 := kflat_lt In.hk hv
      have := hat j hj
      rw [add_add, hv] at this; exact this
    obtain ⟨f, hf2⟩ := Classical.axiomOfChoice (fun i : {i // i < len} => hex i.1 i.2)
    have hget : ∀ i (h : i < (List.ofFn fun i : Fin len => f ⟨i.1, i.2⟩).length), (List.ofFn fun i : Fin len => f ⟨i.1, i.2⟩)[i] = f ⟨i, by simpa using h⟩ := fun i h => by simp
    refine ⟨List.ofFn fun i : Fin len => f ⟨i.1, i.2⟩, by simp, ?_, ?_, by unfold maxLen at hm; omega⟩
    · intro hpos
      have hpos' : 0 < len := by simpa using hpos
      have h0 := (hf2 ⟨0, hpos'⟩).1 0 _ rfl
      obtain ⟨b, o, spot⟩ := a
      have hspot : spot = none := by have := World.cell?_spot h0; simpa [Addr.add] using this
      subst hspot
      have hadd : ∀ k, (⟨b, o, none⟩ : Addr).add k = ⟨b, o + k, none⟩ := fun k => by simp [Addr.add]
      refine ⟨b, o, rfl, ⟨Nat.zero_le _, ?_⟩, fun i hi j v hv => ?_⟩
      · rw [hadd] at h0
        exact cell_lt_heap h0
      · have hi' : i < len := by simpa using hi
        rw [hget i hi] at hv
        have := (hf2 ⟨i, hi'⟩).1 j v hv
        simp only [hadd, ← Nat.add_assoc] at this
        exact this
    · intro n hn
      obtain ⟨i, rfl⟩ := List.mem_ofFn.1 hn
      have := (hf2 ⟨i.1, i.2⟩).2
      unfold maxLen at this; omega

set_option maxRecDepth 100000 in
theorem ints_of_trod {H : Type} {enc : TypeId × Value → H} {w : World} {spare : Nat → Bool} {held : Bool} {A : Option Addr} {len cap : Nat} {d : DataW H} {p : List MemPlace}
    (h : DataW.Trod enc Try.prog w 0 spare held 23 (.slice A len cap) d p) :
    ∃ xs : List Int, xs.length = len ∧ IS w 0 w.heap.size A xs ∧ len ≤ 9223372036854775807 := by
  obtain ⟨fuel, hf⟩ := h
  rcases open_slice Try.underlying23 hf with ⟨hcs, _⟩ | ⟨a, l, c, m, n, D, Pl, hcs, _, hl, hm, hmm, _, hi⟩
  · simp [Value.cells] at hcs
    obtain ⟨rfl, rfl, rfl⟩ := hcs
    exact ⟨[], rfl, fun h => absurd h (by simp), by omega⟩
  · simp [Value.cells] at hcs
    obtain ⟨rfl, rfl, rfl⟩ := hcs
    have hlm : len ≤ m := by rw [hmm]; split <;> omega
    have hex : ∀ i, i < len → ∃ x : Int, w.cell? (a.add i) = some (.int .i64 x) := by
      intro i hil
      obtain ⟨cs', hc, ht⟩ := hi i (by omega)
      rw [cellsInt, Nat.mul_one] at hc
      obtain ⟨x, hx, _, _⟩ := DataW.trod_int Try.underlying3 ht
      obtain ⟨_, _, hat⟩ := World.cells?_some hc
      have := hat 0 (by omega)
      rw [add_add, hx] at this
      exact ⟨x, by simpa using this⟩
    obtain ⟨f, hf2⟩ := Classical.axiomOfChoice (fun i : {i // i < len} => hex i.1 i.2)
    have hget : ∀ i (h : i < (List.ofFn fun i : Fin len => f ⟨i.1, i.2⟩).length), (List.ofFn fun i : Fin len => f ⟨i.1, i.2⟩)[i] = f ⟨i, by simpa using h⟩ := fun i h => by simp
    refine ⟨List.ofFn fun i : Fin len => f ⟨i.1, i.2⟩, by simp, ?_, by unfold maxLen at hm; omega⟩
    intro hpos
    have hpos' : 0 < len := by simpa using hpos
    have h0 := hf2 ⟨0, hpos'⟩
    obtain ⟨b, o, spot⟩ := a
    have hspot : spot = none := by have := World.cell?_spot h0; simpa [Addr.add] using this
    subst hspot
    have hadd : ∀ k, (⟨b, o, none⟩ : Addr).add k = ⟨b, o + k, none⟩ := fun k => by simp [Addr.add]
    refine ⟨b, o, rfl, ⟨Nat.zero_le _, ?_⟩, fun i hi => ?_⟩
    · rw [hadd] at h0
      exact cell_lt_heap h0
    · have hi' : i < len := by simpa using hi
      rw [hget i hi]
      have := hf2 ⟨i, hi'⟩
      simp only [hadd] at this
      exact this
end Go.Proofs.Ytdleiondfhmjdaa

/- An argument of type []laws.Node opened as a list of nodes. -/
namespace Go.Proofs.Ytdleiondfhmjdaa
open Go.ChangeShapes Go.WideShapes Go.ChangeAt Go.RowKit Go.Deep
open Go.ChangeMaps (open_string shut_string)
set_option linter.unusedVariables false
set_option maxRecDepth 100000

theorem cellsNode : Try.prog.cellsOf 84 = 4 := by kernel_rfl

theorem node_of_trod {H : Type} {enc : TypeId × Value → H} {w : World} {base : Nat} {spare : Nat → Bool} {held : Bool} {n : Nat} {cs : List Value} {x : DataW H × List MemPlace}
    (h : DataW.trod enc Try.prog w base spare held n 84 cs = some x) : ∃ nd : Nd, cs = nd.cells ∧ nd.op.size ≤ maxLen := by
  obtain ⟨xs, m, _, _, hlen, hxl, hf⟩ := DataW.trod_struct Try.underlying84 h
  rw [cellsNode] at hlen
  match cs, hlen with
  | [c0, c1, c2, c3], _ =>
    match xs, hxl with
    | [y0, y1, y2, y3], _ =>
      have h0 := hf 0 _ rfl
      change DataW.trod enc Try.prog w base spare held m 9 (([c0, c1, c2, c3].drop 0).take (Try.prog.cellsOf 9)) = _ at h0
      rw [cellsStr] at h0
      have h1 := hf 1 _ rfl
      change DataW.trod enc Try.prog w base spare held m 3 (([c0, c1, c2, c3].drop 1).take (Try.prog.cellsOf 3)) = _ at h1
      rw [cellsInt] at h1
      have h2 := hf 2 _ rfl
      change DataW.trod enc Try.prog w base spare held m 3 (([c0, c1, c2, c3].drop 2).take (Try.prog.cellsOf 3)) = _ at h2
      rw [cellsInt] at h2
      have h3 := hf 3 _ rfl
      change DataW.trod enc Try.prog w base spare held m 3 (([c0, c1, c2, c3].drop 3).take (Try.prog.cellsOf 3)) = _ at h3
      rw [cellsInt] at h3
      obtain ⟨s, e0, _, hs⟩ := DataW.trod_string Try.underlying9 h0
      obtain ⟨a, e1, _, _⟩ := DataW.trod_int Try.underlying3 h1
      obtain ⟨b, e2, _, _⟩ := DataW.trod_int Try.underlying3 h2
      obtain ⟨v, e3, _, _⟩ := DataW.trod_int Try.underlying3 h3
      have e0 : c0 = .string s := by simpa using e0
      have e1 : c1 = .int .i64 a := by simpa using e1
      have e2 : c2 = .int .i64 b := by simpa using e2
      have e3 : c3 = .int .i64 v := by simpa using e3
      exact ⟨⟨s, a, b, v⟩, by rw [e0, e1, e2, e3]; rfl, hs⟩

theorem nodes_of_trod_ns {H : Type} {enc : TypeId × Value → H} {w : World} {spare : Nat → Bool} {held : Bool} {A : Option Addr} {len cap : Nat} {d : DataW H} {p : List MemPlace}
    (h : DataW.Trod enc Try.prog w 0 spare held 38 (.slice A len cap) d p) :
    ∃ es : List Nd, es.length = len ∧ NS w 0 w.heap.size A es ∧ (∀ n ∈ es, n.op.size ≤ 9223372036854775807) ∧ len ≤ 9223372036854775807 := by
  obtain ⟨fuel, hf⟩ := h
  rcases open_slice Try.underlying38 hf with ⟨hcs, _⟩ | ⟨a, l, c, m, n, D, Pl, hcs, _, hl, hm, hmm, _, hi⟩
  · simp [Value.cells] at hcs
    obtain ⟨rfl, rfl, rfl⟩ := hcs
    exact ⟨[], rfl, fun h => absurd h (by simp), (fun n hn => by cases hn), by omega⟩
  · simp [Value.cells] at hcs
    obtain ⟨rfl, rfl, rfl⟩ := hcs
    have hlm : len ≤ m := by rw [hmm]; split <;> omega
    have hex : ∀ i, i < len → ∃ nd : Nd, (w.cell? (a.add (i * 4)) = some (.string nd.op) ∧ w.cell? (a.add (i * 4 + 1)) = some (.int .i64 nd.a) ∧ w.cell? (a.add (i * 4 + 2)) = some (.int .i64 nd.b) ∧ w.cell? (a.add (i * 4 + 3)) = some (.int .i64 nd.v)) ∧ nd.op.size ≤ maxLen := by
      intro i hil
      obtain ⟨cs', hc, ht⟩ := hi i (by omega)
      rw [cellsNode] at hc
      obtain ⟨nd, rfl, hs⟩ := node_of_trod ht
      obtain ⟨_, _, hat⟩ := World.cells?_some hc
      refine ⟨nd, ⟨?_, ?_, ?_, ?_⟩, hs⟩
      · have := hat 0 (by omega); rw [add_add] at this; exact this
      · have := hat 1 (by omega); rw [add_add] at this; exact this
      · have := hat 2 (by omega); rw [add_add] at this; exact this
      · have := hat 3 (by omega); rw [add_add] at this; exact this
    obtain ⟨f, hf2⟩ := Classical.axiomOfChoice (fun i : {i // i < len} => hex i.1 i.2)
    have hget : ∀ i (h : i < (List.ofFn fun i : Fin len => f ⟨i.1, i.2⟩).length), (List.ofFn fun i : Fin len => f ⟨i.1, i.2⟩)[i] = f ⟨i, by simpa using h⟩ := fun i h => by simp
    refine ⟨List.ofFn fun i : Fin len => f ⟨i.1, i.2⟩, by simp, ?_, ?_, by unfold maxLen at hm; omega⟩
    · intro hpos
      have hpos' : 0 < len := by simpa using hpos
      have h0 := (hf2 ⟨0, hpos'⟩).1.1
      obtain ⟨b, o, spot⟩ := a
      have hspot : spot = none := by have := World.cell?_spot h0; simpa [Addr.add] using this
      subst hspot
      have hadd : ∀ k, (⟨b, o, none⟩ : Addr).add k = ⟨b, o + k, none⟩ := fun k => by simp [Addr.add]
      refine ⟨b, o, rfl, ⟨Nat.zero_le _, ?_⟩, fun i hi => ?_⟩
      · rw [hadd] at h0
        exact cell_lt_heap h0
      · have hi' : i < len := by simpa using hi
        rw [hget i hi]
        have := (hf2 ⟨i, hi'⟩).1
        simp only [hadd, ← Nat.add_assoc] at this
        exact this
    · intro n hn
      obtain ⟨i, rfl⟩ := List.mem_ofFn.1 hn
      have := (hf2 ⟨i.1, i.2⟩).2
      unfold maxLen at this; omega
theorem nodes_of_trod {H : Type} {enc : TypeId × Value → H} {w : World} {spare : Nat → Bool} {held : Bool} {A : Option Addr} {len cap : Nat} {d : DataW H} {p : List MemPlace}
    (h : DataW.Trod enc Try.prog w 0 spare held 38 (.slice A len cap) d p) :
    ∃ es : List Nd, es.length = len ∧ RS Nd.enc 4 w 0 w.heap.size A es ∧ (∀ n ∈ es, n.op.size ≤ 9223372036854775807) ∧ len ≤ 9223372036854775807 := by
  obtain ⟨es, h1, h2, h3⟩ := nodes_of_trod_ns h
  exact ⟨es, h1, h2.rs, h3⟩
end Go.Proofs.Ytdleiondfhmjdaa
