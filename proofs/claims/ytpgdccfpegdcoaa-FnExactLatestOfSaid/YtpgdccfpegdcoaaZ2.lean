/- Texts of this proof, one behind the other: NAN, NAQ, NAR, NAS, N9S, N9T. -/
import Derived.Test.YtpgdccfpegdcoaaZ3
import Derived.Test.YtpgdccfpegdcoaaLawN9A
import Derived.WalkKit
import Derived.WalkSpells
import Derived.WalkLawsBesides
import Derived.Deep.RegionLaw
import Derived.Deep.RegionHeld3
import Derived.Lib.Hide
import Derived.Test.YtpgdccfpegdcoaaZ7
import Derived.Test.YtpgdccfpegdcoaaZ8
import Derived.Test.YtpgdccfpegdcoaaZ9
import Derived.Test.YtpgdccfpegdcoaaZ12
/- Chapter 9: PathBound of the model. -/
namespace Go.Proofs.Ytpgdccfpegdcoaa
open Go.RowKit
set_option linter.unusedVariables false
set_option maxRecDepth 100000

theorem mx_take (l : List Int) (a : Int) {k : Nat} (h : k < l.length) : mx (l.take (k + 1)) a = max (mx (l.take k) a) (l.getD k 0) := by
  rw [List.take_succ_eq_append_getElem h, mx_snoc, List.getD_eq_getElem?_getD, List.getElem?_eq_getElem h]; rfl
def pbV (cs : List In) : Int := mx (hL cs) 0
def pbR (cs : List In) : Int := if orGood cs = true then pbV cs else 0
theorem pbR_yes {cs : List In} (h : orGood cs = true) : pbR cs = pbV cs := by unfold pbR; rw [if_pos h]
theorem pbR_no {cs : List In} (h : orGood cs = false) : pbR cs = 0 := by unfold pbR; rw [h]; rfl
set_option maxHeartbeats 4000000 in
theorem orPath_any (L B : Nat) (A : Option Addr) (c : Nat) (cs : List In) (w : World) (hl : cs.length ≤ 20) (hgood : ∀ x ∈ cs, goodIn x = true) (hes : RS In.enc 5 w L B A cs) (hB : B ≤ w.heap.size) :
    Calls Try.prog 114 #[.slice A cs.length c] w fun e w' => e = .returned (.int .i64 (pbV cs)) ∧ Below w.heap.size w w' := by
  have H := Lib.hid (orHeights_any L B A c cs w hl hgood hes hB)
  have hM := Lib.hid fun (k : Nat) (h : k < (hL cs).length) => mx_take (hL cs) 0 h
  have hP : Hid (pbV cs = mx ((hL cs).take (hL cs).length) 0) := by rw [Hid, List.take_length]; rfl
  have h00 : Hid (mx ((hL cs).take 0) 0 = 0) := rfl
  have hLl := Lib.hid (hL_len cs)
  clear hes hgood hB
  generalize pbV cs = P at *
  generalize hMX : (fun k => mx ((hL cs).take k) 0) = M at *
  have hM0 : ∀ k, mx ((hL cs).take k) 0 = M k := fun k => congrFun hMX k
  have hP2 : Hid (P = M (hL cs).length) := by rw [Hid, hP.out, hM0]
  have h02 : Hid (M 0 = 0) := by rw [Hid, ← hM0]; rfl
  have hM2 : Hid (∀ k, k < (hL cs).length → M (k + 1) = max (M k) ((hL cs).getD k 0)) := by
    intro k hk; rw [← hM0, ← hM0]; exact hM.out k hk
  have hl2 : (hL cs).length ≤ 20 := by rw [hLl.out]; exact hl
  clear hM hP h00 hMX hM0
  generalize hL cs = hs at *
  go_enter Try.func114, Try.ntmps114
  go_wp2_with (fail)
  refine H.out.mono ?_
  rintro e w1 ⟨A1, c1, rfl, ho1, hb1⟩
  have hIS := Lib.hid (OW.rs ho1)
  have hB1 := Lib.hid hb1
  clear ho1 hb1 H
  go_wp2
  go_loop [3, 9] (fun v q => ∃ k : Nat, k ≤ hs.length ∧ q = .int .i64 k ∧ v = .int .i64 (M k)) (fun _ q => hs.length - (intOf q).toNat)
  case atStart => exact ⟨0, Nat.zero_le _, rfl, by rw [h02.out]⟩
  case round =>
    obtain ⟨k, hk, rfl, rfl⟩ := hrel
    by_cases hlt : k < hs.length
    · have hki : (k : Int) < (hs.length : Int) := by omega
      have hk0 : (0 : Int) ≤ (k : Int) := by omega
      obtain ⟨xb, xo, rfl, _, hxc⟩ := hIS.out (by omega)
      have x0 := hxc k hlt
      have hgd : hs.getD k 0 = hs[k] := by rw [List.getD_eq_getElem?_getD, List.getElem?_eq_getElem hlt]; rfl
      have hMk := hM2.out k hlt
      rw [hgd] at hMk
      have hMk := Lib.hid hMk
      clear hxc hgd
      generalize hs[k] = y at *
      go_wp2_with (fail)
      refine (l1Most_9 _ _ _).mono ?_
      rintro e w3 ⟨rfl, rfl⟩
      go_wp2
      go_round
      case rel => exact ⟨k + 1, by omega, by go_num, by rw [hMk.out]⟩
      case measure => simp [intOf]; omega
    · obtain rfl : k = hs.length := by omega
      go_wp2
      go_ret
      exact ⟨by rw [hP2.out]; rfl, hB1.out⟩
set_option maxHeartbeats 4000000 in
theorem sPathBound_k (L B : Nat) (A : Option Addr) (c : Nat) (cs : List In) (w : World) (hl : cs.length ≤ 1048576) (hes : RS In.enc 5 w L B A cs) (hB : B ≤ w.heap.size) :
    Calls Try.prog 56 #[.slice A cs.length c] w (ResPathBound (pbR cs) (orGood cs) w) := by
  have H := Lib.hid (orGood_any L B A c cs w hl hes hB)
  cases hg : orGood cs
  · have hR := Lib.hid (pbR_no hg)
    rw [hg] at H
    clear hg hes
    generalize pbR cs = R at *
    go_enter Try.func56, Try.ntmps56
    go_wp2_with (fail)
    refine H.out.mono ?_
    rintro e w1 ⟨rfl, hb1⟩
    have hB1 := Lib.hid hb1
    clear hb1
    go_wp2
    go_ret2
    rw [hR.out]
    exact ⟨rfl, hB1.out⟩
  · have hR := Lib.hid (pbR_yes hg)
    have hGp := orGood_parts hg
    have HE := Lib.hid fun (W : World) (hW : Below w.heap.size w W) => orPath_any L B A c cs W hGp.1 hGp.2 (hes.below hW hB) (Nat.le_trans hB hW.size)
    rw [hg] at H
    clear hg hes hGp
    generalize pbR cs = R at *
    generalize pbV cs = E at *
    go_enter Try.func56, Try.ntmps56
    go_wp2_with (fail)
    refine H.out.mono ?_
    rintro e w1 ⟨rfl, hb1⟩
    have hB1 := Lib.hid hb1
    clear hb1
    go_wp2_with (fail)
    refine (HE.out _ hB1.out).mono ?_
    rintro e w2 ⟨rfl, hb2⟩
    have hB2 := Lib.hid (hB1.out.trans (hb2.mono hB1.out.size))
    clear hb2
    go_wp2
    go_ret2
    rw [hR.out]
    exact ⟨rfl, hB2.out⟩
end Go.Proofs.Ytpgdccfpegdcoaa

/- Chapter 9: PathBound of the program. -/
namespace Go.Proofs.Ytpgdccfpegdcoaa
open Go.RowKit
set_option linter.unusedVariables false
set_option maxRecDepth 100000

set_option maxHeartbeats 4000000 in
theorem pathBound_any (L B : Nat) (A : Option Addr) (c : Nat) (cs : List In) (L1 B1 : Nat) (An : Option Addr) (cn : Nat) (w : World) (h20 : cs.length ≤ 20) (hes : RS In.enc 5 w L B A cs) (hB : B ≤ w.heap.size) (hpn : PN w L1 B1 An (nds cs)) (hB1 : B1 ≤ w.heap.size) :
    Calls Try.prog 112 #[.agg #[.slice A cs.length c, .slice An cs.length cn]] w fun e w' => e = .returned (.int .i64 (pbV cs)) ∧ Below w.heap.size w w' := by
  have a1 := (Below.refl w.heap.size w).alloc (Nat.le_refl _) (.cells #[.slice A cs.length c, .slice An cs.length cn] 77)
  have H := Lib.hid (heights_any L B A c cs L1 B1 An cn (w.alloc (.cells #[.slice A cs.length c, .slice An cs.length cn] 77)) h20 (hes.below a1 hB) (Nat.le_trans hB a1.size) (hpn.below a1 hB1) (Nat.le_trans hB1 a1.size))
  have hP1 := Lib.hid (PB.new w (.slice A cs.length c) (.slice An cs.length cn))
  have hA1 := Lib.hid a1
  have hP : Hid (pbV cs = mx ((hL cs).take (hL cs).length) 0) := by rw [Hid, List.take_length]; rfl
  have hM := Lib.hid fun (k : Nat) (h : k < (hL cs).length) => mx_take (hL cs) 0 h
  have h00 : Hid (mx ((hL cs).take 0) 0 = 0) := rfl
  have hl2 : (hL cs).length ≤ 20 := by rw [hL_len]; exact h20
  clear hes hpn hB hB1 a1
  generalize pbV cs = P at *
  generalize hMX : (fun k => mx ((hL cs).take k) 0) = M at *
  have hM0 : ∀ k, mx ((hL cs).take k) 0 = M k := fun k => congrFun hMX k
  have hP2 : Hid (P = M (hL cs).length) := by rw [Hid, hP.out, hM0]
  have h02 : Hid (M 0 = 0) := by rw [Hid, ← hM0]; rfl
  have hM2 : Hid (∀ k, k < (hL cs).length → M (k + 1) = max (M k) ((hL cs).getD k 0)) := by
    intro k hk; rw [← hM0, ← hM0]; exact hM.out k hk
  clear hM hP h00 hMX hM0
  generalize hL cs = hs at *
  have q0 := PB.c0 hP1.out
  have q1 := PB.c1 hP1.out
  go_enter Try.func112, Try.ntmps112
  go_wp2_with (fail)
  refine H.out.mono ?_
  rintro e w1 ⟨A1, c1, rfl, ho1, hb1⟩
  have hIS := Lib.hid (OW.rs ho1)
  have hB1 := Lib.hid (hA1.out.trans (hb1.mono hA1.out.size))
  clear ho1 hb1 H q0 q1
  go_wp2
  go_loop [3, 9] (fun v q => ∃ k : Nat, k ≤ hs.length ∧ q = .int .i64 k ∧ v = .int .i64 (M k)) (fun _ q => hs.length - (intOf q).toNat)
  case atStart => exact ⟨0, Nat.zero_le _, rfl, by rw [h02.out]⟩
  case round =>
    obtain ⟨k, hk, rfl, rfl⟩ := hrel
    by_cases hlt : k < hs.length
    · have hki : (k : Int) < (hs.length : Int) := by omega
      have hk0 : (0 : Int) ≤ (k : Int) := by omega
      obtain ⟨xb, xo, rfl, _, hxc⟩ := hIS.out (by omega)
      have x0 := hxc k hlt
      have hgd : hs.getD k 0 = hs[k] := by rw [List.getD_eq_getElem?_getD, List.getElem?_eq_getElem hlt]; rfl
      have hMk := hM2.out k hlt
      rw [hgd] at hMk
      have hMk := Lib.hid hMk
      clear hxc hgd
      generalize hs[k] = y at *
      go_wp2
      go_round
      case rel => exact ⟨k + 1, by omega, by go_num, by rw [hMk.out]⟩
      case measure => simp [intOf]; omega
    · obtain rfl : k = hs.length := by omega
      go_wp2
      go_ret
      exact ⟨by rw [hP2.out]; rfl, hB1.out⟩
set_option maxHeartbeats 4000000 in
theorem iPathBound_k (L B : Nat) (A : Option Addr) (c : Nat) (cs : List In) (w : World) (hl : cs.length ≤ 1048576) (hes : RS In.enc 5 w L B A cs) (hB : B ≤ w.heap.size) (hcap : cs.length ≤ c) :
    Calls Try.prog 57 #[.slice A cs.length c] w (ResPathBound (pbR cs) (orGood cs) w) := by
  cases hg : orGood cs
  · have H := Lib.hid (planOf_no L B A c cs w hg hl hes hB hcap)
    have hR := Lib.hid (pbR_no hg)
    clear hg hes
    generalize pbR cs = R at *
    go_enter Try.func57, Try.ntmps57
    go_wp2_with (fail)
    refine H.out.mono ?_
    rintro e w1 ⟨rfl, hb1⟩
    have hB1 := Lib.hid (hb1.alloc hb1.size (.cells #[.slice none 0 0, .slice none 0 0] 77))
    clear hb1
    go_wp2
    go_ret2
    rw [hR.out]
    exact ⟨rfl, hB1.out⟩
  have H := Lib.hid (planOf_yes L B A c cs w hg hl hes hB hcap)
  have hR := Lib.hid (pbR_yes hg)
  have h20 := (orGood_parts hg).1
  have HE := Lib.hid fun (L1 B1 : Nat) (An : Option Addr) (cn : Nat) (W : World) (hW : Below w.heap.size w W) (hpn : PN W L1 B1 An (nds cs)) (hB1 : B1 ≤ W.heap.size) => pathBound_any L B A c cs L1 B1 An cn W h20 (hes.below hW hB) (Nat.le_trans hB hW.size) hpn hB1
  clear hg hes
  generalize pbR cs = R at *
  generalize pbV cs = E at *
  go_enter Try.func57, Try.ntmps57
  go_wp2_with (fail)
  refine H.out.mono ?_
  rintro e w1 ⟨An, cn, rfl, hpn, hb1⟩
  have a1 := (Below.refl w1.heap.size w1).alloc (Nat.le_refl _) (.cells #[.slice A cs.length c, .slice An cs.length cn] 77)
  have hB1 := Lib.hid (hb1.trans (a1.mono hb1.size))
  have hP1 := Lib.hid (PB.new w1 (.slice A cs.length c) (.slice An cs.length cn))
  have H2 := Lib.hid (HE.out _ _ An cn _ hB1.out (hpn.below a1 (Nat.le_refl _)) a1.size)
  clear a1 hb1 hpn
  have q0 := PB.c0 hP1.out
  have q1 := PB.c1 hP1.out
  go_wp2_with (fail)
  refine H2.out.mono ?_
  rintro e w3 ⟨rfl, hb3⟩
  have hB3 := Lib.hid (hB1.out.trans (hb3.mono hB1.out.size))
  clear hb3 q0 q1
  go_wp2
  go_ret2
  rw [hR.out]
  exact ⟨rfl, hB3.out⟩
end Go.Proofs.Ytpgdccfpegdcoaa

/- Chapter 9: latest cycles: plain, program. -/
namespace Go.Proofs.Ytpgdccfpegdcoaa
open Go.RowKit
set_option linter.unusedVariables false
set_option maxRecDepth 100000

def latL (cs : List In) (len : Int) : List Int := (List.range cs.length).map fun q => len - hH cs q
def latK (cs : List In) (len : Int) : Bool := orGood cs && (inR len 0 100 && decide (pbV cs ≤ len))
def latR (cs : List In) (len : Int) : List Int := if latK cs len = true then latL cs len else []
theorem latL_len (cs : List In) (len : Int) : (latL cs len).length = cs.length := by simp [latL]
theorem latK_no1 {cs : List In} (len : Int) (h : orGood cs = false) : latK cs len = false := by unfold latK; rw [h]; rfl
theorem latK_no2 (cs : List In) {len : Int} (h : inR len 0 100 = false) : latK cs len = false := by unfold latK; rw [h]; simp
theorem latK_no3 {cs : List In} {len : Int} (h : ¬ pbV cs ≤ len) : latK cs len = false := by unfold latK; rw [decide_eq_false h]; simp
theorem latK_yes {cs : List In} {len : Int} (h : orGood cs = true) (h2 : inR len 0 100 = true) (h3 : pbV cs ≤ len) : latK cs len = true := by unfold latK; rw [h, h2, decide_eq_true h3]; rfl
theorem latR_no {cs : List In} {len : Int} (h : latK cs len = false) : latR cs len = [] := by unfold latR; rw [h]; rfl
theorem latR_yes {cs : List In} {len : Int} (h : latK cs len = true) : latR cs len = latL cs len := by unfold latR; rw [if_pos h]
theorem latR_len (cs : List In) (len : Int) : (latR cs len).length ≤ 1048576 := by
  cases h : latK cs len
  · rw [latR_no h]; simp
  · rw [latR_yes h, latL_len]
    have hg : orGood cs = true := by unfold latK at h; rw [Bool.and_eq_true] at h; exact h.1
    have := (orGood_parts hg).1; omega
theorem pbV_ge {cs : List In} {q : Nat} (h : q < cs.length) : hH cs q ≤ pbV cs := by
  unfold pbV
  refine (mx_le (hL cs) 0).1 _ ?_
  unfold hL
  exact List.mem_map.2 ⟨q, by simpa using h, rfl⟩
theorem pbV_le {cs : List In} {len : Int} (h0 : 0 ≤ len) (h : ∀ q, q < cs.length → hH cs q ≤ len) : pbV cs ≤ len := by
  unfold pbV
  rcases mx_in (hL cs) 0 with e | e
  · rw [e]; exact h0
  · unfold hL at e ⊢
    obtain ⟨q, hq, hq2⟩ := List.mem_map.1 e
    rw [← hq2]; exact h q (by simpa using hq)
def lts (cs : List In) (len : Int) (k : Nat) : List Int := (List.range cs.length).map fun q => if q < k then len - hH cs q else hH cs q
theorem lts_len (cs : List In) (len : Int) (k : Nat) : (lts cs len k).length = cs.length := by simp [lts]
theorem lts_zero (cs : List In) (len : Int) : lts cs len 0 = hL cs := by
  unfold lts hL
  exact mapR_eq _ fun q hq => if_neg (by omega)
theorem lts_end (cs : List In) (len : Int) : lts cs len cs.length = latL cs len := by
  unfold lts latL
  exact mapR_eq _ fun q hq => if_pos hq
theorem lts_at {cs : List In} (len : Int) {k : Nat} (h : k < cs.length) : (lts cs len k).getD k 0 = hH cs k := by
  unfold lts; rw [mapR_at _ _ h, if_neg (by omega)]
theorem lts_set {cs : List In} (len : Int) {k : Nat} (h : k < cs.length) : (lts cs len k).set k (len - hH cs k) = lts cs len (k + 1) := by
  unfold lts
  rw [mapR_set]
  refine mapR_eq _ fun q hq => ?_
  by_cases e : q = k
  · rw [if_pos e, if_pos (by omega), e]
  · rw [if_neg e]
    by_cases h2 : q < k
    · rw [if_pos h2, if_pos (by omega)]
    · rw [if_neg h2, if_neg (by omega)]
theorem OW.some9 {w : World} {lo hi n c : Nat} {A : Option Addr} {xs : List Int} (h : OW w lo hi (.slice A n c) xs) (h0 : 0 < n) : ∃ g, A = some ⟨g, 0, none⟩ ∧ lo ≤ g := by
  have hn := OW.len9 h
  rcases h.1.2 with ⟨hv, h1⟩ | ⟨g, cap, cur, hv, hg, _⟩
  · rw [hn] at h0; omega
  · injection hv with h1 h2 h3
    exact ⟨g, h1, hg⟩
set_option maxHeartbeats 4000000 in
theorem latest_any (L B : Nat) (A : Option Addr) (c : Nat) (cs : List In) (len : Int) (L1 B1 : Nat) (An : Option Addr) (cn : Nat) (w : World) (h20 : cs.length ≤ 20) (hlen : 0 ≤ len ∧ len ≤ 100) (hes : RS In.enc 5 w L B A cs) (hB : B ≤ w.heap.size) (hpn : PN w L1 B1 An (nds cs)) (hB1 : B1 ≤ w.heap.size) :
    Calls Try.prog 113 #[.agg #[.slice A cs.length c, .slice An cs.length cn], .int .i64 len] w (FreshI w (latL cs len)) := by
  have a1 := (Below.refl w.heap.size w).alloc (Nat.le_refl _) (.cells #[.slice A cs.length c, .slice An cs.length cn] 77)
  have H := Lib.hid (heights_any L B A c cs L1 B1 An cn (w.alloc (.cells #[.slice A cs.length c, .slice An cs.length cn] 77)) h20 (hes.below a1 hB) (Nat.le_trans hB a1.size) (hpn.below a1 hB1) (Nat.le_trans hB1 a1.size))
  have hP1 := Lib.hid (PB.new w (.slice A cs.length c) (.slice An cs.length cn))
  have hA1 := Lib.hid a1
  have hHl := Lib.hid (hL_len cs)
  have hT0 := Lib.hid (lts_zero cs len)
  have hTe := Lib.hid (lts_end cs len)
  have hTa := Lib.hid fun (k : Nat) (h : k < cs.length) => lts_at len h
  have hTs := Lib.hid fun (k : Nat) (h : k < cs.length) => lts_set len h
  have hTl := Lib.hid (lts_len cs len)
  have hLl := Lib.hid (latL_len cs len)
  have hHb := Lib.hid (hH_bd h20)
  clear hes hpn hB hB1 a1
  generalize lts cs len = T at *
  generalize latL cs len = LL at *
  generalize hH cs = HH at *
  generalize hL cs = hs at *
  have q0 := PB.c0 hP1.out
  have q1 := PB.c1 hP1.out
  go_enter Try.func113, Try.ntmps113
  go_wp2_with (fail)
  refine H.out.mono ?_
  rintro e w1 ⟨A1, c1, rfl, ho1, hb1⟩
  rw [← hT0.out, hTl.out] at ho1 ⊢
  have hO1 := Lib.hid (ho1.lower hA1.out.size)
  have hB1 := Lib.hid (hA1.out.trans (hb1.mono hA1.out.size))
  clear ho1 hb1 H q0 q1
  go_wp2
  go_loopw [12] (fun q wr => ∃ k : Nat, k ≤ cs.length ∧ q = .int .i64 k ∧ OW wr w.heap.size wr.heap.size (.slice A1 cs.length c1) (T k) ∧ Below w.heap.size w wr) (fun q _ => cs.length - (intOf q).toNat)
  case atStart => exact ⟨0, Nat.zero_le _, rfl, hO1.out, hB1.out⟩
  case round =>
    clear hO1 hB1
    obtain ⟨k, hk, rfl, how, hbel⟩ := hrel
    have hO := Lib.hid how
    have hBL := Lib.hid hbel
    clear how hbel
    by_cases hlt : k < cs.length
    · have hki : (k : Int) < (cs.length : Int) := by omega
      have hk0 : (0 : Int) ≤ (k : Int) := by omega
      obtain ⟨g, rfl, hgl⟩ := OW.some9 hO.out (by omega)
      obtain ⟨ok, fk⟩ := OW.at9 hO.out k (by rw [hTl.out]; exact hlt)
      rw [hTa.out k hlt] at ok
      have hbd := hHb.out k
      have hP := hO.out.put9 k (len - HH k)
      rw [hTs.out k hlt] at hP
      generalize HH k = y at *
      have hw9 : IntKind.i64.wrap (len - y) = len - y := IntWalk.i64_in _ (by omega)
      have hz : (wr.setCell ⟨g, k, none⟩ (.int .i64 (len - y))).heap.size = wr.heap.size := World.size_setCell _ _ _
      have hP2 := Lib.hid (show OW (wr.setCell ⟨g, k, none⟩ (.int .i64 (len - y))) w.heap.size (wr.setCell ⟨g, k, none⟩ (.int .i64 (len - y))).heap.size (.slice (some ⟨g, 0, none⟩) cs.length c1) (T (k + 1)) from by rw [hz]; exact hP)
      have hBs := Lib.hid (hBL.out.setCell (p := ⟨g, k, none⟩) hgl (.int .i64 (len - y)))
      clear hP hz
      go_wp2
      go_roundw
      case rel => exact ⟨k + 1, by omega, by go_num, hP2.out, hBs.out⟩
      case measure => simp [intOf]; omega
    · obtain rfl : k = cs.length := by omega
      have hO9 := hO.out
      rw [hTe.out] at hO9
      have hO8 := Lib.hid hO9
      clear hO9
      go_wp2
      go_ret
      exact ⟨_, _, by rw [hLl.out]; rfl, by rw [hLl.out]; exact hO8.out, hBL.out⟩
end Go.Proofs.Ytpgdccfpegdcoaa

/- Chapter 9: LatestOf of the program. -/
namespace Go.Proofs.Ytpgdccfpegdcoaa
open Go.RowKit
set_option linter.unusedVariables false
set_option maxRecDepth 100000

set_option maxHeartbeats 4000000 in
theorem iLatestOf_k (L B : Nat) (A : Option Addr) (c : Nat) (cs : List In) (len : Int) (w : World) (hl : cs.length ≤ 1048576) (hes : RS In.enc 5 w L B A cs) (hB : B ≤ w.heap.size) (hcap : cs.length ≤ c) :
    Calls Try.prog 55 #[.slice A cs.length c, .int .i64 len] w (ResLatestOf (latR cs len) (latK cs len) w) := by
  cases hg : orGood cs
  · have H := Lib.hid (planOf_no L B A c cs w hg hl hes hB hcap)
    have hK := Lib.hid (latK_no1 len hg)
    have hR := Lib.hid (latR_no hK.out)
    clear hg hes
    generalize latR cs len = R at *
    generalize latK cs len = K at *
    go_enter Try.func55, Try.ntmps55
    go_wp2_with (fail)
    refine H.out.mono ?_
    rintro e w1 ⟨rfl, hb1⟩
    have hB1 := Lib.hid (hb1.alloc hb1.size (.cells #[.slice none 0 0, .slice none 0 0] 77))
    clear hb1
    go_wp2
    go_ret2
    rw [hR.out, hK.out]
    exact ⟨none, 0, rfl, OW.nil _ _ _, hB1.out⟩
  have H := Lib.hid (planOf_yes L B A c cs w hg hl hes hB hcap)
  have h20 := (orGood_parts hg).1
  have HN := Lib.hid (isNoCycle_any len)
  cases hr : inR len 0 100
  · have hK := Lib.hid (latK_no2 cs hr)
    have hR := Lib.hid (latR_no hK.out)
    rw [hr] at HN
    clear hg hes hr
    generalize latR cs len = R at *
    generalize latK cs len = K at *
    go_enter Try.func55, Try.ntmps55
    go_wp2_with (fail)
    refine H.out.mono ?_
    rintro e w1 ⟨An, cn, rfl, hpn, hb1⟩
    have hB1 := Lib.hid (hb1.alloc hb1.size (.cells #[.slice A cs.length c, .slice An cs.length cn] 77))
    clear hb1 hpn
    go_wp2_with (fail)
    refine (HN.out _).mono ?_
    rintro e w3 ⟨rfl, rfl⟩
    go_wp2
    go_ret2
    rw [hR.out, hK.out]
    exact ⟨none, 0, rfl, OW.nil _ _ _, hB1.out⟩
  have hlen : 0 ≤ len ∧ len ≤ 100 := (inR_iff _ _ _).1 hr
  have HE := Lib.hid fun (L1 B1 : Nat) (An : Option Addr) (cn : Nat) (W : World) (hW : Below w.heap.size w W) (hpn : PN W L1 B1 An (nds cs)) (hB1 : B1 ≤ W.heap.size) => pathBound_any L B A c cs L1 B1 An cn W h20 (hes.below hW hB) (Nat.le_trans hB hW.size) hpn hB1
  have HL := Lib.hid fun (L1 B1 : Nat) (An : Option Addr) (cn : Nat) (W : World) (hW : Below w.heap.size w W) (hpn : PN W L1 B1 An (nds cs)) (hB1 : B1 ≤ W.heap.size) => latest_any L B A c cs len L1 B1 An cn W h20 hlen (hes.below hW hB) (Nat.le_trans hB hW.size) hpn hB1
  have hLl := Lib.hid (latL_len cs len)
  by_cases hpb : pbV cs ≤ len
  · have hK := Lib.hid (latK_yes hg hr hpb)
    have hR := Lib.hid (latR_yes hK.out)
    rw [hr] at HN
    clear hg hes hr
    generalize latR cs len = R at *
    generalize latK cs len = K at *
    generalize latL cs len = LL at *
    generalize pbV cs = E at *
    go_enter Try.func55, Try.ntmps55
    go_wp2_with (fail)
    refine H.out.mono ?_
    rintro e w1 ⟨An, cn, rfl, hpn, hb1⟩
    have a1 := (Below.refl w1.heap.size w1).alloc (Nat.le_refl _) (.cells #[.slice A cs.length c, .slice An cs.length cn] 77)
    have hB1 := Lib.hid (hb1.trans (a1.mono hb1.size))
    have hP1 := Lib.hid (PB.new w1 (.slice A cs.length c) (.slice An cs.length cn))
    have hN1 := Lib.hid (hpn.below a1 (Nat.le_refl _))
    have hz1 := Lib.hid a1.size
    have H2 := Lib.hid (HE.out _ _ An cn _ hB1.out (hpn.below a1 (Nat.le_refl _)) a1.size)
    clear a1 hb1 hpn
    have q0 := PB.c0 hP1.out
    have q1 := PB.c1 hP1.out
    go_wp2_with (fail)
    refine (HN.out _).mono ?_
    rintro e w3 ⟨rfl, rfl⟩
    go_wp2_with (fail)
    refine H2.out.mono ?_
    rintro e w3 ⟨rfl, hb3⟩
    have hB3 := Lib.hid (hB1.out.trans (hb3.mono hB1.out.size))
    have hP3 := CB.below hP1.out hb3 (CB.lt hP1.out)
    have r0 := PB.c0 hP3
    have r1 := PB.c1 hP3
    have H3 := Lib.hid (HL.out _ _ An cn _ hB3.out (hN1.out.below hb3 hz1.out) (Nat.le_trans hz1.out hb3.size))
    clear hb3 q0 q1 hP3
    go_wp2_with (fail)
    refine H3.out.mono ?_
    rintro e w4 ⟨A4, c4, rfl, ho4, hb4⟩
    have hO4 := Lib.hid (ho4.lower hB3.out.size)
    have hB4 := Lib.hid (hB3.out.trans (hb4.mono hB3.out.size))
    clear ho4 hb4 r0 r1
    go_wp2
    go_ret2
    rw [hR.out, hK.out]
    exact ⟨A4, c4, rfl, hO4.out, hB4.out⟩
  · have hK := Lib.hid (latK_no3 hpb)
    have hR := Lib.hid (latR_no hK.out)
    rw [hr] at HN
    have hpb' : len < pbV cs := by omega
    clear hg hes hr hpb
    generalize latR cs len = R at *
    generalize latK cs len = K at *
    generalize latL cs len = LL at *
    generalize pbV cs = E at *
    go_enter Try.func55, Try.ntmps55
    go_wp2_with (fail)
    refine H.out.mono ?_
    rintro e w1 ⟨An, cn, rfl, hpn, hb1⟩
    have a1 := (Below.refl w1.heap.size w1).alloc (Nat.le_refl _) (.cells #[.slice A cs.length c, .slice An cs.length cn] 77)
    have hB1 := Lib.hid (hb1.trans (a1.mono hb1.size))
    have hP1 := Lib.hid (PB.new w1 (.slice A cs.length c) (.slice An cs.length cn))
    have H2 := Lib.hid (HE.out _ _ An cn _ hB1.out (hpn.below a1 (Nat.le_refl _)) a1.size)
    clear a1 hb1 hpn
    have q0 := PB.c0 hP1.out
    have q1 := PB.c1 hP1.out
    go_wp2_with (fail)
    refine (HN.out _).mono ?_
    rintro e w3 ⟨rfl, rfl⟩
    go_wp2_with (fail)
    refine H2.out.mono ?_
    rintro e w3 ⟨rfl, hb3⟩
    have hB3 := Lib.hid (hB1.out.trans (hb3.mono hB1.out.size))
    clear hb3 q0 q1
    go_wp2
    go_ret2
    rw [hR.out, hK.out]
    exact ⟨none, 0, rfl, OW.nil _ _ _, hB3.out⟩
end Go.Proofs.Ytpgdccfpegdcoaa

/- Chapter 9: IsOrder of the program. -/
namespace Go.Proofs.Ytpgdccfpegdcoaa
open Go.RowKit
set_option linter.unusedVariables false
set_option maxRecDepth 100000

set_option maxHeartbeats 4000000 in
theorem iIsOrder_k (L B : Nat) (A : Option Addr) (c : Nat) (cs : List In) (L' B' : Nat) (A' : Option Addr) (c' : Nat) (xs : List Int) (w : World) (hl : cs.length ≤ 1048576) (hes : RS In.enc 5 w L B A cs) (hB : B ≤ w.heap.size) (hcap : cs.length ≤ c) (hn : xs.length ≤ 1048576) (hns : IS w L' B' A' xs) (hB' : B' ≤ w.heap.size) (hcap' : xs.length ≤ c') :
    Calls Try.prog 35 #[.slice A cs.length c, .slice A' xs.length c'] w (ResIsOrder (isoB cs xs) (orGood cs) w) := by
  have hbr : isoB cs xs = (orGood cs && ordB cs xs) := rfl
  cases hg : orGood cs
  · have H := Lib.hid (planOf_no L B A c cs w hg hl hes hB hcap)
    have hR : Hid (isoB cs xs = false) := by rw [Hid, hbr, hg]; rfl
    clear hg hes hns hbr
    generalize isoB cs xs = R at *
    go_enter Try.func35, Try.ntmps35
    go_wp2_with (fail)
    refine H.out.mono ?_
    rintro e w1 ⟨rfl, hb1⟩
    have hB1 := Lib.hid (hb1.alloc hb1.size (.cells #[.slice none 0 0, .slice none 0 0] 77))
    clear hb1
    go_wp2
    go_ret2
    rw [hR.out]
    exact ⟨rfl, hB1.out⟩
  · have H := Lib.hid (planOf_yes L B A c cs w hg hl hes hB hcap)
    have hR : Hid (isoB cs xs = ordB cs xs) := by rw [Hid, hbr, hg]; rfl
    have hO : Hid (ordB cs xs = ((xs.length == cs.length) && ordP cs xs xs.length)) := rfl
    have h20 := (orGood_parts hg).1
    have hPs := Lib.hid (ordP_succ cs xs)
    have hPf := Lib.hid fun (k : Nat) (hk : k ≤ xs.length) (h : ordP cs xs k = false) => ordP_false h hk
    have hPi := Lib.hid fun (k : Nat) (hk : k ≤ xs.length) (h : ordP cs xs k = true) => ordP_in hk h
    have hMc := Lib.hid fun (An : Option Addr) (cn L1 B1 i : Nat) (ys : List Int) (W : World) (hi : i < cs.length) (hxs : ∀ x ∈ ys, 0 ≤ x ∧ x < 20) (hp : PN W L1 B1 An (nds cs)) (hB1 : B1 ≤ W.heap.size) => mayCome_any A cs.length c L1 B1 An cn cs i ys W h20 hi hxs hp hB1
    have hSt : Hid (∀ ys j, stpB cs ys j = (inR j 0 ((cs.length : Int) - 1) && mayB cs ys j.toNat)) := fun ys j => rfl
    have hSo := Lib.hid fun (k : Nat) (h : k < xs.length) => setOf_snoc h
    have hP0 : Hid (ordP cs xs 0 = true) := rfl
    have hIS := Lib.hid fun (W : World) (hW : Below w.heap.size w W) => hns.below hW hB'
    clear hg hes hns hbr
    generalize isoB cs xs = R at *
    generalize ordB cs xs = O at *
    generalize ordP cs xs = P at *
    go_enter Try.func35, Try.ntmps35
    go_wp2_with (fail)
    refine H.out.mono ?_
    rintro e w1 ⟨An, cn, rfl, hpn, hb1⟩
    obtain ⟨g1, hg1⟩ : ∃ g1, g1 = w1.heap.size := ⟨_, rfl⟩
    have a1 := (Below.refl w1.heap.size w1).alloc (Nat.le_refl _) (.cells #[.slice A cs.length c, .slice An cs.length cn] 77)
    have hB1 := Lib.hid (hb1.trans (a1.mono hb1.size))
    have hP1 := Lib.hid (PB.new w1 (.slice A cs.length c) (.slice An cs.length cn))
    have hN1 := Lib.hid (hpn.below a1 (Nat.le_refl _))
    have hz1 : w1.heap.size < (w1.alloc (.cells #[.slice A cs.length c, .slice An cs.length cn] 77)).heap.size := by simp
    clear a1 hb1 hpn
    go_wp2_with (fail)
    rw [← hg1] at hP1 hN1 hz1 ⊢
    have hG1 := Lib.hid hg1
    clear hg1
    generalize w1.alloc (.cells #[.slice A cs.length c, .slice An cs.length cn] 77) = W1 at *
    go_loopw [8, 20] (fun v q wr => ∃ k : Nat, k ≤ xs.length ∧ q = .int .i64 k ∧ v = .int .u64 ((setOf (xs.take k) : Nat) : Int) ∧ P k = true ∧ Below W1.heap.size W1 wr) (fun _ q _ => xs.length - (intOf q).toNat)
    case atStart => exact ⟨0, Nat.zero_le _, rfl, rfl, hP0.out, Below.refl _ _⟩
    case round =>
      obtain ⟨k, hk, rfl, rfl, hpk, hbel⟩ := hrel
      have hPk := Lib.hid hpk
      have hBL := Lib.hid hbel
      clear hbel hpk
      by_cases hlt : k < xs.length
      · have hki : (k : Int) < (xs.length : Int) := by omega
        have hbw := Lib.hid (hB1.out.trans (hBL.out.mono hB1.out.size))
        obtain ⟨xb, xo, rfl, _, hxc⟩ := (hIS.out wr hbw.out) (by omega)
        have x0 := hxc k hlt
        have hPn := Lib.hid (hPs.out k)
        have hgd : Hid (xs.getD k 0 = xs[k]) := by rw [Hid, List.getD_eq_getElem?_getD, List.getElem?_eq_getElem hlt]; rfl
        rw [hgd.out] at hPn
        have hFn := Lib.hid (hPf.out (k + 1) hlt)
        have hin := Lib.hid (hPi.out k hk hPk.out)
        have hso := Lib.hid (hSo.out k hlt)
        have hst := Lib.hid (hSt.out (xs.take k) xs[k])
        have p0 := PB.c0 (CB.below hP1.out hBL.out hz1)
        have p1 := PB.c1 (CB.below hP1.out hBL.out hz1)
        clear hxc hgd
        generalize xs[k] = j at *
        generalize hs1 : setOf (xs.take (k + 1)) = s1 at *
        have hS1 := Lib.hid hs1
        clear hs1
        generalize hps : P (k + 1) = pk1 at *
        have hPs1 := Lib.hid hps
        clear hps
        generalize stpB cs (xs.take k) j = st at *
        by_cases hj : 0 ≤ j ∧ j < cs.length
        · have hir : inR j 0 ((cs.length : Int) - 1) = true := (inR_iff _ _ _).2 (by omega)
          rw [hir, Bool.true_and] at hst
          obtain ⟨t, rfl⟩ := Int.eq_ofNat_of_zero_le hj.1
          rw [Int.toNat_natCast] at hst hso
          have htn : t < cs.length := by omega
          have hC := Lib.hid (hMc.out An cn w.heap.size g1 t (xs.take k) wr htn (fun x hx => by have := hin.out x hx; omega) (hN1.out.below hBL.out (Nat.le_of_lt hz1)) (Nat.le_trans (Nat.le_of_lt hz1) hBL.out.size))
          have hs20 : setOf (xs.take k) < 1048576 := setOf_lt fun x hx => by have := hin.out x hx; omega
          have hWi := Lib.hid fun (W : World) => with_any (setOf (xs.take k)) t W hs20 (by omega)
          have hii := Lib.hid fun (W : World) => isIndex_any (t : Int) (cs.length : Int) W
          rw [hir] at hii
          rw [← hso.out] at hWi
          clear hj hir hin hs20
          generalize setOf (xs.take k) = s0 at *
          generalize mayB cs (xs.take k) t = mb at *
          cases mb
          · have hF : Hid (O = false) := by
              have h1 : pk1 = false := by rw [hPn.out, hst.out]; simp
              rw [Hid, hO.out, hFn.out h1]; simp
            go_wp2_with (fail)
            refine (hii.out _).mono ?_
            rintro e w3 ⟨rfl, rfl⟩
            go_wp2_with (fail)
            refine hC.out.mono ?_
            rintro e w3 ⟨rfl, hb3⟩
            have hfin := Lib.hid (hbw.out.trans (hb3.mono hbw.out.size))
            clear hb3
            go_wp2
            go_ret2
            rw [hR.out, hF.out]
            exact ⟨rfl, hfin.out⟩
          · have hT : Hid (pk1 = true) := by rw [Hid, hPn.out, hst.out, hPk.out]; rfl
            go_wp2_with (fail)
            refine (hii.out _).mono ?_
            rintro e w3 ⟨rfl, rfl⟩
            go_wp2_with (fail)
            refine hC.out.mono ?_
            rintro e w3 ⟨rfl, hb3⟩
            have hfin := Lib.hid (hBL.out.trans (hb3.mono hBL.out.size))
            clear hb3 p0 p1
            go_wp2_with (fail)
            refine (hWi.out _).mono ?_
            rintro e w4 ⟨rfl, rfl⟩
            go_wp2
            go_roundw
            case rel => exact ⟨k + 1, by omega, by go_num, by rw [hS1.out], by rw [hPs1.out]; exact hT.out, hfin.out⟩
            case measure => simp [intOf]; omega
        · have hir : inR j 0 ((cs.length : Int) - 1) = false := by
            cases h : inR j 0 ((cs.length : Int) - 1)
            · rfl
            · have := (inR_iff _ _ _).1 h; omega
          have hii := Lib.hid fun (W : World) => isIndex_any j (cs.length : Int) W
          rw [hir] at hii hst
          have hF : Hid (O = false) := by
            have h1 : pk1 = false := by rw [hPn.out, hst.out]; simp
            rw [Hid, hO.out, hFn.out h1]; simp
          clear hj hir hin
          go_wp2_with (fail)
          refine (hii.out _).mono ?_
          rintro e w3 ⟨rfl, rfl⟩
          go_wp2
          go_ret2
          rw [hR.out, hF.out]
          exact ⟨rfl, hbw.out⟩
      · obtain rfl : k = xs.length := by omega
        have hF : Hid (O = (xs.length == cs.length)) := by rw [Hid, hO.out, hPk.out, Bool.and_true]
        have hfin := Lib.hid (hB1.out.trans (hBL.out.mono hB1.out.size))
        have hbb : Hid (((xs.length : Int) == (cs.length : Int)) = (xs.length == cs.length)) := by rw [Hid, Bool.eq_iff_iff]; simp; omega
        go_wp2
        go_ret2
        rw [hR.out, hF.out]
        exact ⟨by rw [← hbb.out]; rfl, hfin.out⟩
end Go.Proofs.Ytpgdccfpegdcoaa

/- Chapter 9: IsOrder of the model. -/
namespace Go.Proofs.Ytpgdccfpegdcoaa
open Go.RowKit
set_option linter.unusedVariables false
set_option maxRecDepth 100000

theorem ordB_len {cs : List In} {xs : List Int} (h : xs.length ≠ cs.length) : ordB cs xs = false := by
  unfold ordB; rw [beq_eq_false_iff_ne.2 h]; rfl
theorem ordB_all {cs : List In} {xs : List Int} (h : allIn xs 0 ((cs.length : Int) - 1) = false) : ordB cs xs = false := by
  cases h2 : ordP cs xs xs.length
  · unfold ordB; rw [h2]; simp
  · have h3 := ordP_in (Nat.le_refl _) h2
    rw [List.take_length] at h3
    have h4 : allIn xs 0 ((cs.length : Int) - 1) = true := by
      unfold allIn; rw [List.all_eq_true]
      intro x hx
      rw [inR_iff]
      have := h3 x hx
      omega
    rw [h] at h4; cases h4
theorem allIn_at {xs : List Int} {lo hi : Int} (h : allIn xs lo hi = true) {k : Nat} (hk : k < xs.length) : lo ≤ xs[k] ∧ xs[k] ≤ hi := by
  unfold allIn at h
  rw [List.all_eq_true] at h
  exact (inR_iff _ _ _).1 (h _ (List.getElem_mem hk))

set_option maxHeartbeats 8000000 in
theorem orOrder_any (L B : Nat) (A : Option Addr) (c : Nat) (cs : List In) (L' B' : Nat) (A' : Option Addr) (c' : Nat) (xs : List Int) (w : World) (hl : cs.length ≤ 20) (hgood : ∀ x ∈ cs, goodIn x = true) (hes : RS In.enc 5 w L B A cs) (hB : B ≤ w.heap.size) (hn : xs.length ≤ 1048576) (hns : IS w L' B' A' xs) (hB' : B' ≤ w.heap.size) (hcap : xs.length ≤ c') :
    Calls Try.prog 87 #[.slice A cs.length c, .slice A' xs.length c'] w fun e w' => e = .returned (.bool (ordB cs xs)) ∧ Below w.heap.size w w' := by
  have b0 := Lib.hid (Below.refl w.heap.size w)
  by_cases hlen : xs.length = cs.length
  · have hAll := Lib.hid (l1All_any L' B' A' c' xs 0 ((cs.length : Int) - 1) w hn hns)
    have e1 : ((xs.length : Int) != (cs.length : Int)) = false := by simp; omega
    have hsub : IntKind.i64.wrap ((cs.length : Int) - 1) = (cs.length : Int) - 1 := IntWalk.i64_in _ (by omega)
    cases ha : allIn xs 0 ((cs.length : Int) - 1)
    · have hF := Lib.hid (ordB_all ha)
      rw [ha] at hAll
      clear ha hes hns hgood hlen
      generalize ordB cs xs = O at *
      go_enter Try.func87, Try.ntmps87
      go_wp2_with (fail)
      refine hAll.out.mono ?_
      rintro e w3 ⟨rfl, rfl⟩
      go_wp2
      go_ret
      exact ⟨by rw [hF.out]; rfl, b0.out⟩
    · have hIn := Lib.hid fun (k : Nat) (h : k < xs.length) => allIn_at ha h
      have H := Lib.hid (orDelays_any L B A c cs w hl hgood hes hB)
      have hO : Hid (ordB cs xs = ordP cs xs xs.length) := by unfold Hid ordB; rw [beq_iff_eq.2 hlen]; rfl
      have hPs := Lib.hid (ordP_succ cs xs)
      have hPf := Lib.hid fun (k : Nat) (hk : k ≤ xs.length) (h : ordP cs xs k = false) => ordP_false h hk
      have hP0 : Hid (ordP cs xs 0 = true) := rfl
      have hSt : Hid (∀ ys j, stpB cs ys j = (inR j 0 ((cs.length : Int) - 1) && (ndIn cs ys j.toNat cs.length && !hasI ys j.toNat))) := fun ys j => rfl
      have hNy := Lib.hid fun (ys : List Int) (j k : Nat) (h : 0 ≤ dT cs k j) => ndIn_yes (xs := ys) h
      have hNn := Lib.hid fun (ys : List Int) (j k : Nat) (h : ¬ 0 ≤ dT cs k j) => ndIn_no (xs := ys) h
      have hNf := Lib.hid fun (ys : List Int) (j k : Nat) (h : ndIn cs ys j k = false) (hk : k ≤ cs.length) => ndIn_false h hk
      have hN0 : Hid (∀ ys j, ndIn cs ys j 0 = true) := fun _ _ => rfl
      have hIS := Lib.hid fun (W : World) (hW : Below w.heap.size w W) => hns.below hW hB'
      have hHa := Lib.hid fun (b o k : Nat) (n : Int) (W : World) (h : IS W L' B' (some ⟨b, o, none⟩) xs) (hk : k ≤ xs.length) => l1Has_eq L' B' (some ⟨b, o, none⟩) k c' (xs.take k) n W (by rw [List.length_take]; omega) (by rw [List.length_take]; omega) (h.take k)
      have hRl := Lib.hid (dRows_len cs cs.length)
      have hRa := Lib.hid fun (i : Nat) (h : i < (dRows cs cs.length).length) => dRows_at cs cs.length h
      have hTl := Lib.hid (dTab_len cs)
      have hTa := Lib.hid fun (i j : Nat) (h : j < (dTab cs i cs.length).length) => dTab_at cs i cs.length h
      rw [ha] at hAll
      have hLen := Lib.hid hlen
      clear ha hes hns hgood hB
      generalize ordB cs xs = O at *
      generalize ordP cs xs = P at *
      generalize dRows cs cs.length = TT at *
      generalize dTab cs = T at *
      generalize dT cs = E at *
      generalize ndIn cs = NI at *
      have hcc' : (xs.length : Int) ≤ (c' : Int) := by omega
      clear hlen
      go_enter Try.func87, Try.ntmps87
      go_wp2_with (fail)
      refine hAll.out.mono ?_
      rintro e w3 ⟨rfl, rfl⟩
      go_wp2_with (fail)
      refine H.out.mono ?_
      rintro e w1 ⟨At, ct, rfl, hox, hb1⟩
      have hXT := Lib.hid (OX.rs hox)
      have hB1 := Lib.hid hb1
      have hT1 := Lib.hid (hIS.out w1 hb1)
      clear hox hb1
      rw [hRl.out]
      go_wp2
      go_loop [26] (fun q => ∃ k : Nat, k ≤ xs.length ∧ q = .int .i64 k ∧ P k = true) (fun q => xs.length - (intOf q).toNat)
      case atStart => exact ⟨0, Nat.zero_le _, rfl, hP0.out⟩
      case round =>
        obtain ⟨k, hk, rfl, hpk⟩ := hrel
        have hPk := Lib.hid hpk
        clear hpk
        by_cases hlt : k < xs.length
        · have hki : (k : Int) < (xs.length : Int) := by omega
          have hkc : (k : Int) ≤ (c' : Int) := by omega
          have hk0 : (0 : Int) ≤ (k : Int) := by omega
          obtain ⟨b9, o9, rfl, _, hxc⟩ := hT1.out (by omega)
          have x0 := hxc k hlt
          have hPn := Lib.hid (hPs.out k)
          have hgd : Hid (xs.getD k 0 = xs[k]) := by rw [Hid, List.getD_eq_getElem?_getD, List.getElem?_eq_getElem hlt]; rfl
          rw [hgd.out] at hPn
          have hFn := Lib.hid (hPf.out (k + 1) hlt)
          have hst := Lib.hid (hSt.out (xs.take k) xs[k])
          have hin := hIn.out k hlt
          have hHk := Lib.hid fun (n : Int) => hHa.out b9 o9 k n w1 hT1.out hk
          have hir : inR xs[k] 0 ((cs.length : Int) - 1) = true := (inR_iff _ _ _).2 hin
          rw [hir, Bool.true_and] at hst
          clear hxc hgd hir
          generalize xs[k] = j at *
          generalize xs.take k = ys at *
          generalize hps : P (k + 1) = pk1 at *
          have hPs1 := Lib.hid hps
          clear hps
          generalize stpB cs ys j = st at *
          obtain ⟨t, rfl⟩ := Int.eq_ofNat_of_zero_le hin.1
          rw [Int.toNat_natCast] at hst
          have htn : t < cs.length := by omega
          have hti : (t : Int) < (cs.length : Int) := by omega
          have ht0 : (0 : Int) ≤ (t : Int) := by omega
          have hHt := Lib.hid (hHk.out (t : Int))
          clear hin
          cases hh : hasI ys (t : Int)
          · rw [hh] at hHt hst
            have hst2 : Hid (st = NI ys t cs.length) := by rw [Hid, hst.out]; simp
            clear hh hst
            go_wp2_with (fail)
            refine hHt.out.mono ?_
            rintro e w3 ⟨rfl, rfl⟩
            go_wp2
            go_loop [38] (fun q => ∃ i : Nat, i ≤ cs.length ∧ q = .int .i64 i ∧ NI ys t i = true) (fun q => cs.length - (intOf q).toNat)
            case atStart => exact ⟨0, Nat.zero_le _, rfl, hN0.out _ _⟩
            case round =>
              obtain ⟨i, hi, rfl, hni⟩ := hrel
              have hNi := Lib.hid hni
              clear hni
              by_cases hij : i < cs.length
              · have hii : (i : Int) < (cs.length : Int) := by omega
                have hi0 : (0 : Int) ≤ (i : Int) := by omega
                obtain ⟨xb, xo, Ai, ci, rfl, hxb, xc, hI⟩ := XS.at hXT.out (show i < TT.length by rw [hRl.out]; omega)
                rw [hRa.out i (by rw [hRl.out]; omega)] at xc hI
                rw [hTl.out] at xc
                obtain ⟨rb, ro, rfl, ⟨_, hrb⟩, hcc⟩ := hI (by rw [hTl.out]; omega)
                have rc := hcc t (by rw [hTl.out]; exact htn)
                rw [hTa.out i t (by rw [hTl.out]; exact htn)] at rc
                have hY := Lib.hid (hNy.out ys t i)
                have hN := Lib.hid (hNn.out ys t i)
                have hNF := Lib.hid (hNf.out ys t (i + 1))
                have hHi := Lib.hid (hHk.out (i : Int))
                clear hcc hI
                generalize hn1 : NI ys t (i + 1) = n1 at *
                have hN1 := Lib.hid hn1
                clear hn1
                generalize E i t = dd at *
                by_cases h0 : 0 ≤ dd
                · have hY2 := Lib.hid (hY.out h0)
                  have h0d : decide (0 ≤ dd) = true := decide_eq_true h0
                  clear hY hN
                  cases hh : hasI ys (i : Int)
                  · rw [hh] at hHi hY2
                    have hF : Hid (O = false) := by
                      have h1 : NI ys t cs.length = false := hNF.out (by rw [hY2.out]; simp) (by omega)
                      have h2 : pk1 = false := by rw [hPn.out, hst2.out, h1]; simp
                      rw [Hid, hO.out]; exact hFn.out h2
                    clear hh
                    go_wp2_with (fail)
                    refine hHi.out.mono ?_
                    rintro e w3 ⟨rfl, rfl⟩
                    go_wp2
                    go_ret
                    exact ⟨by rw [hF.out]; rfl, hB1.out⟩
                  · rw [hh] at hHi hY2
                    have hT : Hid (n1 = true) := by rw [Hid, hY2.out, hNi.out]; rfl
                    clear hh
                    go_wp2_with (fail)
                    refine hHi.out.mono ?_
                    rintro e w3 ⟨rfl, rfl⟩
                    go_wp2
                    go_round
                    case rel => exact ⟨i + 1, by omega, by go_num, by rw [hN1.out]; exact hT.out⟩
                    case measure => simp [intOf]; omega
                · have hN2 := Lib.hid (hN.out (by omega))
                  have hT : Hid (n1 = true) := by rw [Hid, hN2.out, hNi.out]
                  have h0d : decide (0 ≤ dd) = false := decide_eq_false h0
                  clear hY hN
                  go_wp2
                  go_round
                  case rel => exact ⟨i + 1, by omega, by go_num, by rw [hN1.out]; exact hT.out⟩
                  case measure => simp [intOf]; omega
              · obtain rfl : i = cs.length := by omega
                have hT : Hid (pk1 = true) := by rw [Hid, hPn.out, hst2.out, hPk.out, hNi.out]; rfl
                go_wp2
                go_round
                case rel => exact ⟨k + 1, by omega, by go_num, by rw [hPs1.out]; exact hT.out⟩
                case measure => simp [intOf]; omega
          · rw [hh] at hHt hst
            have hF : Hid (O = false) := by
              have h1 : pk1 = false := by rw [hPn.out, hst.out]; simp
              rw [Hid, hO.out]; exact hFn.out h1
            clear hh hst
            go_wp2_with (fail)
            refine hHt.out.mono ?_
            rintro e w3 ⟨rfl, rfl⟩
            go_wp2
            go_ret
            exact ⟨by rw [hF.out]; rfl, hB1.out⟩
        · obtain rfl : k = xs.length := by omega
          go_wp2
          go_ret
          exact ⟨by rw [hO.out, hPk.out]; rfl, hB1.out⟩
  · have hF := Lib.hid (ordB_len hlen)
    have e1 : ((xs.length : Int) != (cs.length : Int)) = true := by simp; omega
    clear hes hns hgood
    generalize ordB cs xs = O at *
    go_enter Try.func87, Try.ntmps87
    go_wp2
    go_ret
    exact ⟨by rw [hF.out]; rfl, b0.out⟩
end Go.Proofs.Ytpgdccfpegdcoaa
