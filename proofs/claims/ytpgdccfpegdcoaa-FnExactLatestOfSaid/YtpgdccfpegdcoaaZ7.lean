/- Texts of this proof, one behind the other: N9M, N9N, N9O, N9W, N9X, N9Y. -/
import Derived.Test.YtpgdccfpegdcoaaZ8
import Derived.Test.YtpgdccfpegdcoaaCK
import Derived.WalkKit
import Derived.WalkSpells
import Derived.WalkLawsBesides
import Derived.Deep.RegionLaw
import Derived.Deep.RegionHeld3
import Derived.Deep.QuietTactic
import Derived.BigQuiet
import Derived.Lib.Hide
import Derived.Test.YtpgdccfpegdcoaaLawN9A
import Derived.Test.YtpgdccfpegdcoaaZ9
import Derived.Deep.DeepCutAuto
/- Chapter 9: the least cycle of an instruction, of the program. -/
namespace Go.Proofs.Ytpgdccfpegdcoaa
open Go.RowKit
set_option linter.unusedVariables false
set_option maxRecDepth 100000

theorem box2_9 (w : World) (a b : Value) (t : TypeId) : (w.alloc (.cells #[a, b] t)).cell? ⟨w.heap.size, 0, none⟩ = some a ∧ (w.alloc (.cells #[a, b] t)).cell? ⟨w.heap.size, 1, none⟩ = some b := by
  have h := fun i => cell_of_row _ w.heap.size i #[a, b] t (0, 0) (heap_alloc_new w _)
  exact ⟨h 0, h 1⟩
/-- Needs whose cycles can be reckoned with. -/
def NdOk (cyc : List Int) (ns : List (Int × Int)) : Prop := ∀ d ∈ ns, (0 ≤ d.1 ∧ d.1.toNat < cyc.length) ∧ (0 ≤ d.2 ∧ d.2 ≤ 4) ∧ (0 ≤ cyc.getD d.1.toNat 0 ∧ cyc.getD d.1.toNat 0 ≤ 1000)
set_option maxHeartbeats 4000000 in
theorem leastCycle_any (A : Option Addr) (m c : Nat) (L B : Nat) (An : Option Addr) (cn : Nat) (nss : List (List (Int × Int))) (i : Nat) (L' B' : Nat) (A' : Option Addr) (c' : Nat) (cyc : List Int) (w : World) (hi : i < nss.length) (hl : (nss[i]).length ≤ 1000) (hok : NdOk cyc nss[i])
    (hn : PN w L B An nss) (hB : B ≤ w.heap.size) (hx : IS w L' B' A' cyc) (hB' : B' ≤ w.heap.size) :
    Calls Try.prog 101 #[.agg #[.slice A m c, .slice An nss.length cn], .int .i64 i, .slice A' cyc.length c'] w fun e w' => e = .returned (.int .i64 (lcF cyc nss[i])) ∧ Below w.heap.size w w' := by
  obtain ⟨b, rfl, ⟨_, hbB⟩, hcells⟩ := hn (by omega)
  obtain ⟨Ai, ci, r0, hrs⟩ := hcells i hi
  have hbx := (Below.refl w.heap.size w).alloc (Nat.le_refl _) (.cells #[.slice A m c, .slice (some ⟨b, 0, none⟩) nss.length cn] 77)
  have hP := PB.new w (.slice A m c) (.slice (some ⟨b, 0, none⟩) nss.length cn)
  have r1 := (hbx.cell (p := ⟨b, i, none⟩) (show b < _ by omega)).trans r0
  have hRS := Lib.hid fun (W : World) (hW : Below w.heap.size w W) => hrs.below hW hB
  have hIS := Lib.hid fun (W : World) (hW : Below w.heap.size w W) => hx.below hW hB'
  have hii : (i : Int) < (nss.length : Int) := by omega
  have hi0 : (0 : Int) ≤ (i : Int) := by omega
  have hBB := Lib.hid hB'
  have hOk := Lib.hid hok
  have hBx := Lib.hid hbx
  have hTk := Lib.hid fun (k : Nat) (h : k < (nss[i]).length) => lcF_take cyc h
  have hBd := Lib.hid fun (k : Nat) => lcF_bd (cyc := cyc) (b := 1004) (ns := (nss[i]).take k) (by omega) (fun d hd => by
    have := hok d (List.mem_of_mem_take hd)
    omega)
  clear hcells hrs hx hn hB hB' hok hbx
  generalize nss[i] = ns at *
  obtain ⟨q0, q1⟩ := And.intro hP.c0 hP.c1
  clear hP
  go_enter Try.func101, Try.ntmps101
  go_wp2_with (fail)
  clear q0 q1 r1
  go_loopw [7, 16] (fun v q wr => ∃ k : Nat, k ≤ ns.length ∧ q = .int .i64 k ∧ v = .int .i64 (lcF cyc (ns.take k)) ∧ Below w.heap.size w wr) (fun _ q _ => ns.length - (intOf q).toNat)
  case atStart => exact ⟨0, Nat.zero_le _, rfl, rfl, hBx.out⟩
  case round =>
    obtain ⟨k, hk, rfl, rfl, hbel⟩ := hrel
    have hBL := Lib.hid hbel
    clear hbel
    by_cases hlt : k < ns.length
    · obtain ⟨rb, ro, rfl, hrb, c0, c1⟩ := nd_cells (hRS.out wr hBL.out) hlt
      obtain ⟨⟨h1, h2⟩, ⟨h3, h4⟩, h5, h6⟩ := hOk.out _ (List.getElem_mem hlt)
      obtain ⟨xb, xo, rfl, ⟨_, hxb⟩, hxc⟩ := (hIS.out wr hBL.out) (by omega)
      have x0 := hxc _ h2
      have hTkk := Lib.hid (hTk.out k hlt)
      have hB1 := hBd.out k
      have hB2 := hBd.out (k + 1)
      obtain ⟨t, ht⟩ := Int.eq_ofNat_of_zero_le h1
      rw [ht] at c0 h2
      simp only [ht, Int.toNat_natCast] at x0 h5 h6
      rw [Hid, ht, Int.toNat_natCast] at hTkk
      have hTk2 := Lib.hid hTkk
      have hgd : cyc.getD t 0 = cyc[t]'(by simpa using h2) := by rw [List.getD_eq_getElem?_getD, List.getElem?_eq_getElem (by simpa using h2)]; rfl
      rw [← hgd] at x0
      have ht2 : (t : Int) < (cyc.length : Int) := by simp at h2; omega
      have ht0 : (0 : Int) ≤ (t : Int) := by omega
      have hki : (k : Int) < (ns.length : Int) := by omega
      have hBn := Lib.hid (hBL.out.alloc hBL.out.size (.cells #[.int .i64 t, .int .i64 ns[k].2] 117))
      clear hxc h1 h2 hgd hTkk
      generalize ns[k].2 = dd at *
      generalize ns[k].1 = dk at *
      subst ht
      generalize cyc.getD t 0 = y at *
      generalize hTT : lcF cyc (ns.take (k + 1)) = z1 at *
      have hTh := Lib.hid hTT
      clear hTT
      generalize lcF cyc (ns.take k) = z at *
      have hz1 : z1 = max z (y + dd) := hTk2.out
      have hw : IntKind.i64.wrap (y + dd) = y + dd := IntWalk.i64_in _ (by omega)
      have hZ := Lib.hid hz1
      clear hz1 hTk2 hB1 hB2
      obtain ⟨wb, hwb⟩ : ∃ wb : World, wb = wr.alloc (.cells #[.int .i64 t, .int .i64 dd] 117) := ⟨_, rfl⟩
      obtain ⟨n0, n1⟩ := box2_9 wr (.int .i64 t) (.int .i64 dd) 117
      have x1 := (((Below.refl wr.heap.size wr).alloc (Nat.le_refl _) (.cells #[.int .i64 t, .int .i64 dd] 117)).cell (p := ⟨xb, xo + t, none⟩) (show xb < wr.heap.size by have := hBL.out.size; have := hBB.out; omega)).trans x0
      go_wp2_with (fail)
      rw [← hwb] at n0 n1 x1 hBn ⊢
      clear hwb x0
      generalize wr.heap.size = gx at *
      go_quiet (fail)
      go_wp2
      go_roundw
      case rel => exact ⟨k + 1, by omega, by go_num, by rw [hTh.out, hZ.out], below_drewN hBn.out _⟩
      case measure => simp [intOf]; omega
    · obtain rfl : k = ns.length := by omega
      rw [List.take_length]
      go_wp2
      go_ret
      exact ⟨rfl, hBL.out⟩
end Go.Proofs.Ytpgdccfpegdcoaa

/- Chapter 9: EarliestOf of the program. -/
namespace Go.Proofs.Ytpgdccfpegdcoaa
open Go.RowKit
set_option linter.unusedVariables false
set_option maxRecDepth 100000

theorem er_ok {cs : List In} {k : Nat} (h20 : cs.length ≤ 20) (hk : k < cs.length) : NdOk (er cs k) (ndL cs k cs.length) := by
  intro d hd
  obtain ⟨i, h1, h2, h3, rfl⟩ := mem_ndL hd
  have h4 := dT_bd cs i k
  have h5 : i < (er cs k).length := by rw [er_len]; exact h1
  have h6 := er_bd cs k _ (List.getElem_mem h5)
  refine ⟨⟨by simp, by simpa using h5⟩, ⟨h3, h4.2⟩, ?_⟩
  simp only [Int.toNat_natCast]
  rw [List.getD_eq_getElem?_getD, List.getElem?_eq_getElem h5, Option.getD_some]
  omega
set_option maxHeartbeats 4000000 in
theorem earliest_any (A : Option Addr) (c : Nat) (L B : Nat) (An : Option Addr) (cn : Nat) (cs : List In) (w : World) (h20 : cs.length ≤ 20) (hn : PN w L B An (nds cs)) (hB : B ≤ w.heap.size) :
    Calls Try.prog 108 #[.agg #[.slice A cs.length c, .slice An cs.length cn]] w (FreshI w (er cs cs.length)) := by
  obtain ⟨i1, hi', hz0', hz1', hz2'⟩ := info_parts Try.infoInt
  have hI0 := Lib.hid hi'
  have hI1 := Lib.hid hz0'
  have hI2 := Lib.hid hz1'
  have hI3 := Lib.hid hz2'
  clear hi' hz0' hz1' hz2'
  have hbx := Lib.hid ((Below.refl w.heap.size w).alloc (Nat.le_refl _) (.cells #[.slice A cs.length c, .slice An cs.length cn] 77))
  have hP := Lib.hid (PB.new w (.slice A cs.length c) (.slice An cs.length cn))
  have hLC := Lib.hid fun (k : Nat) (hk : k < cs.length) (A' : Option Addr) (c' lo : Nat) (W : World) (hW : Below w.heap.size w W) (hx : IS W lo W.heap.size A' (er cs k)) => (show Calls Try.prog 101 #[.agg #[.slice A cs.length c, .slice An cs.length cn], .int .i64 k, .slice A' k c'] W fun e w' => e = .returned (.int .i64 (lcF (er cs k) (ndL cs k cs.length))) ∧ Below W.heap.size W w' from by
    have hk2 : k < (nds cs).length := by rw [nds_len]; exact hk
    have h := leastCycle_any A cs.length c L B An cn (nds cs) k lo W.heap.size A' c' (er cs k) W hk2 (by rw [nds_at]; exact Nat.le_trans (ndL_len _ _ _) (by omega)) (by rw [nds_at]; exact er_ok h20 hk) (hn.below hW hB) (Nat.le_trans hB hW.size) hx (Nat.le_refl _)
    rw [nds_at, nds_len, er_len] at h
    exact h)
  have hEs := Lib.hid fun (k : Nat) => (show er cs (k + 1) = er cs k ++ [lcF (er cs k) (ndL cs k cs.length)] from rfl)
  have hEl := Lib.hid (er_len cs)
  have hE0 : Hid (er cs 0 = []) := rfl
  clear hn hB
  generalize hEE : er cs cs.length = EE at *
  have hEEh := Lib.hid hEE
  clear hEE
  have hEEl : EE.length = cs.length := by rw [← hEEh.out]; exact hEl.out _
  generalize (fun k => lcF (er cs k) (ndL cs k cs.length)) = lc at *
  go_enter Try.func108, Try.ntmps108
  go_wp2_with (fail)
  have hP1 := hP.out.c0
  have hP2 := hP.out.c1
  go_wp2_with (fail)
  clear hP1 hP2
  obtain ⟨g1, hg1⟩ : ∃ g1, g1 = w.heap.size := ⟨_, rfl⟩
  have hlt1 : g1 < (w.alloc (.cells #[.slice A cs.length c, .slice An cs.length cn] 77)).heap.size := by rw [hg1]; simp
  rw [← hg1] at hP ⊢
  have hG1 := Lib.hid hg1
  clear hg1
  generalize w.alloc (.cells #[.slice A cs.length c, .slice An cs.length cn] 77) = W1 at *
  go_loopw [3, 8] (fun v q wr => ∃ k : Nat, k ≤ cs.length ∧ q = .int .i64 k ∧ OW wr W1.heap.size wr.heap.size v (er cs k) ∧ Below W1.heap.size W1 wr) (fun _ q _ => cs.length - (intOf q).toNat)
  case atStart => exact ⟨0, Nat.zero_le _, rfl, by rw [hE0.out]; exact OW.nil _ _ _, Below.refl _ _⟩
  case round =>
    obtain ⟨k, hk, rfl, how, hbel⟩ := hrel
    obtain ⟨V, cv, rfl, hIS⟩ := how.form
    have hO := Lib.hid how
    have hBL := Lib.hid hbel
    clear how hbel
    rw [hEl.out] at hO ⊢
    by_cases hlt : k < cs.length
    · have hki : (k : Int) < (cs.length : Int) := by omega
      have hC := Lib.hid (hLC.out k hlt V cv W1.heap.size wr (hbx.out.trans (hBL.out.mono hbx.out.size)) hIS)
      have hPr := CB.below hP.out hBL.out hlt1
      have hEk := Lib.hid (hEs.out k)
      have hEkl := hEl.out k
      have p0 := PB.c0 hPr
      have p1 := PB.c1 hPr
      clear hIS hPr
      generalize hTT : er cs (k + 1) = En at *
      have hTh := Lib.hid hTT
      clear hTT
      generalize lcF (er cs k) (ndL cs k cs.length) = y at *
      generalize er cs k = xs at *
      have hlo := Lib.hid hO.out.lo
      have hzw := hBL.out.size
      go_wp2_with (fail)
      refine hC.out.mono ?_
      rintro e w2 ⟨rfl, hb2⟩
      have hB2 := Lib.hid (hBL.out.trans (hb2.mono hBL.out.size))
      have ho2 := Lib.hid (((hO.out.below hb2 (Nat.le_refl _)).more hb2.size).1.alloc (.cells #[.int .i64 y] 3))
      have hb3 := Lib.hid (hB2.out.alloc hB2.out.size (.cells #[.int .i64 y] 3))
      clear hb2 p0 p1
      go_wp2_with (at_builtin; go_loud (refine wpList_append_own _ rfl _ _ 38 rfl W1.heap.size 3 i1 (.int .i64 0) 1 8 Try.underlying38 hI0.out hI1.out hI2.out hI3.out rfl (by decide) _ _ _ rfl ho2.out ⟨w2.heap.size, 0, none⟩ 1 1 [.int .i64 y] rfl rfl (new1 rfl) (one1 _) (by unfold maxLen; omega) (by omega) (by have := hB2.out.size; simp; omega) ?_); intro v' w4 hown4 hgr4 _)
      have R1 := Lib.hid (show OW w4 W1.heap.size w4.heap.size v' En from by rw [hEk.out]; exact OW.push (by simpa using hown4))
      have R2 := Lib.hid (hb3.out.grown hgr4 hb3.out.size (fun k hk => (hlo.out k hk).1))
      clear hown4 hgr4
      go_wp2
      go_roundw
      case rel => exact ⟨k + 1, by omega, by go_num, by rw [hTh.out]; exact R1.out, R2.out⟩
      case measure => simp [intOf]; omega
    · obtain rfl : k = cs.length := by omega
      have hfin := Lib.hid (hbx.out.trans (hBL.out.mono hbx.out.size))
      have hO9 := Lib.hid (hO.out.lower hbx.out.size)
      rw [hEEh.out] at hO9
      clear hIS
      go_wp2
      go_ret
      exact ⟨V, cv, by rw [hEEl]; rfl, by rw [hEEl]; exact hO9.out, hfin.out⟩

def erR (cs : List In) : List Int := if orGood cs = true then er cs cs.length else []
theorem erR_yes {cs : List In} (h : orGood cs = true) : erR cs = er cs cs.length := by unfold erR; rw [if_pos h]
theorem erR_no {cs : List In} (h : orGood cs = false) : erR cs = [] := by unfold erR; rw [h]; rfl
theorem erR_len (cs : List In) : (erR cs).length ≤ 1048576 := by
  cases h : orGood cs
  · rw [erR_no h]; simp
  · rw [erR_yes h, er_len]; have := (orGood_parts h).1; omega

set_option maxHeartbeats 4000000 in
theorem iEarliestOf_k (L B : Nat) (A : Option Addr) (c : Nat) (cs : List In) (w : World) (hl : cs.length ≤ 1048576) (hes : RS In.enc 5 w L B A cs) (hB : B ≤ w.heap.size) (hcap : cs.length ≤ c) :
    Calls Try.prog 53 #[.slice A cs.length c] w (ResEarliestOf (erR cs) (orGood cs) w) := by
  cases hg : orGood cs
  · have H := Lib.hid (planOf_no L B A c cs w hg hl hes hB hcap)
    have hR := Lib.hid (erR_no hg)
    clear hg hes
    generalize erR cs = R at *
    go_enter Try.func53, Try.ntmps53
    go_wp2_with (fail)
    refine H.out.mono ?_
    rintro e w1 ⟨rfl, hb1⟩
    have hB1 := Lib.hid (hb1.alloc hb1.size (.cells #[.slice none 0 0, .slice none 0 0] 77))
    clear hb1
    go_wp2
    go_ret2
    rw [hR.out]
    exact ⟨none, 0, rfl, OW.nil _ _ _, hB1.out⟩
  · have H := Lib.hid (planOf_yes L B A c cs w hg hl hes hB hcap)
    have hR := Lib.hid (erR_yes hg)
    have h20 := (orGood_parts hg).1
    clear hg hes
    generalize erR cs = R at *
    go_enter Try.func53, Try.ntmps53
    go_wp2_with (fail)
    refine H.out.mono ?_
    rintro e w1 ⟨An, cn, rfl, hpn, hb1⟩
    have a1 := (Below.refl w1.heap.size w1).alloc (Nat.le_refl _) (.cells #[.slice A cs.length c, .slice An cs.length cn] 77)
    have hB1 := Lib.hid (hb1.trans (a1.mono hb1.size))
    have hE := Lib.hid (earliest_any A c w.heap.size w1.heap.size An cn cs (w1.alloc (.cells #[.slice A cs.length c, .slice An cs.length cn] 77)) h20 (hpn.below a1 (Nat.le_refl _)) a1.size)
    have hP := PB.new w1 (.slice A cs.length c) (.slice An cs.length cn)
    have p0 := hP.c0
    have p1 := hP.c1
    clear a1 hb1 hpn hP
    generalize er cs cs.length = E at *
    go_wp2_with (fail)
    refine hE.out.mono ?_
    rintro e w2 ⟨A2, c2, rfl, ho2, hb2⟩
    have hO2 := Lib.hid (ho2.lower hB1.out.size)
    have hB2 := Lib.hid (hB1.out.trans (hb2.mono hB1.out.size))
    clear ho2 hb2 p0 p1
    go_wp2
    go_ret2
    rw [hR.out]
    exact ⟨A2, c2, rfl, hO2.out, hB2.out⟩
end Go.Proofs.Ytpgdccfpegdcoaa

/- Chapter 9: EarliestOf of the model. -/
namespace Go.Proofs.Ytpgdccfpegdcoaa
open Go.RowKit
set_option linter.unusedVariables false
set_option maxRecDepth 100000

theorem OW.len9 {w : World} {lo hi n c : Nat} {A : Option Addr} {xs : List Int} (h : OW w lo hi (.slice A n c) xs) : n = xs.length := by
  obtain ⟨A2, c2, hv, _⟩ := h.form
  injection hv with a b d
theorem OW.at9 {w : World} {lo hi n c g : Nat} {xs : List Int} (h : OW w lo hi (.slice (some ⟨g, 0, none⟩) n c) xs) (k : Nat) (hk : k < xs.length) : w.cell? ⟨g, k, none⟩ = some (.int .i64 (xs.getD k 0)) ∧ w.frozen? ⟨g, k, none⟩ = false := by
  have hl := h.len9
  subst hl
  have hcell := h.1.cellAt k (by omega)
  have hfr := h.1.frozenAt k
  rw [List.getElem?_map, List.getElem?_eq_getElem hk] at hcell
  rw [List.getD_eq_getElem?_getD, List.getElem?_eq_getElem hk]
  exact ⟨by simpa using hcell, hfr⟩
theorem OW.put9 {w : World} {lo hi n c g : Nat} {xs : List Int} (h : OW w lo hi (.slice (some ⟨g, 0, none⟩) n c) xs) (k : Nat) (x : Int) : OW (w.setCell ⟨g, k, none⟩ (.int .i64 x)) lo hi (.slice (some ⟨g, 0, none⟩) n c) (xs.set k x) := by
  have hl := h.len9
  subst hl
  refine ⟨?_, h.2⟩
  have h1 := (h.1.stored k (.int .i64 x)).1
  rw [← List.map_set] at h1
  rw [List.length_set]; exact h1
def eo (cs : List In) (j : Nat) : List Int := er cs j ++ List.replicate (cs.length - j) 0
def ei (cs : List In) (j i : Nat) : List Int := (eo cs j).set j (lcF (er cs j) (ndL cs j i))
theorem eo_len {cs : List In} {j : Nat} (h : j ≤ cs.length) : (eo cs j).length = cs.length := by unfold eo; rw [List.length_append, er_len, List.length_replicate]; omega
theorem ei_len {cs : List In} {j : Nat} (i : Nat) (h : j ≤ cs.length) : (ei cs j i).length = cs.length := by unfold ei; rw [List.length_set, eo_len h]
theorem eo_zero (cs : List In) : eo cs 0 = List.replicate cs.length 0 := rfl
theorem eo_end (cs : List In) : eo cs cs.length = er cs cs.length := by unfold eo; rw [Nat.sub_self]; simp
theorem eo_at_lt {cs : List In} {i j : Nat} (h : i < j) : (eo cs j).getD i 0 = (er cs j).getD i 0 := by
  unfold eo
  rw [List.getD_eq_getElem?_getD, List.getElem?_append_left (by rw [er_len]; exact h), ← List.getD_eq_getElem?_getD]
theorem eo_split {cs : List In} {j : Nat} (h : j < cs.length) : eo cs j = er cs j ++ 0 :: List.replicate (cs.length - (j + 1)) 0 := by
  unfold eo
  rw [show cs.length - j = (cs.length - (j + 1)) + 1 by omega, List.replicate_succ]
theorem ei_split {cs : List In} {j : Nat} (i : Nat) (h : j < cs.length) : ei cs j i = er cs j ++ lcF (er cs j) (ndL cs j i) :: List.replicate (cs.length - (j + 1)) 0 := by
  unfold ei
  rw [eo_split h, List.set_append_right _ _ (by rw [er_len]; exact Nat.le_refl _), er_len, Nat.sub_self]; rfl
theorem ei_zero {cs : List In} {j : Nat} (h : j < cs.length) : ei cs j 0 = eo cs j := by
  rw [ei_split 0 h, eo_split h]; rfl
theorem ei_end {cs : List In} {j : Nat} (h : j < cs.length) : ei cs j j = eo cs (j + 1) := by
  rw [ei_split j h]
  unfold eo
  rw [er, ndL_stop cs j cs.length (by omega), List.append_assoc]; rfl
theorem ei_at {cs : List In} {j : Nat} (i : Nat) (h : j < cs.length) : (ei cs j i).getD j 0 = lcF (er cs j) (ndL cs j i) := by
  rw [ei_split i h, List.getD_eq_getElem?_getD, List.getElem?_append_right (by rw [er_len]; exact Nat.le_refl _), er_len]; simp
theorem ei_lt {cs : List In} {j k : Nat} (i : Nat) (h : j < cs.length) (hk : k < j) : (ei cs j i).getD k 0 = (er cs j).getD k 0 := by
  rw [ei_split i h, List.getD_eq_getElem?_getD, List.getElem?_append_left (by rw [er_len]; exact hk), ← List.getD_eq_getElem?_getD]
theorem ei_yes {cs : List In} {j i : Nat} (hj : j < cs.length) (hi : i < j) (h : 0 ≤ dT cs i j) : ei cs j (i + 1) = (ei cs j i).set j (max ((ei cs j i).getD j 0) ((ei cs j i).getD i 0 + dT cs i j)) := by
  rw [ei_at i hj, ei_lt i hj hi]
  unfold ei
  rw [List.set_set, ndL_yes h, lcF_snoc]; rfl
theorem ei_no {cs : List In} {j i : Nat} (h : ¬ 0 ≤ dT cs i j) : ei cs j (i + 1) = ei cs j i := by
  unfold ei; rw [ndL_no h]
theorem ei_bd {cs : List In} {j : Nat} (i k : Nat) (h20 : cs.length ≤ 20) (hj : j < cs.length) (hi : i ≤ j) : 0 ≤ (ei cs j i).getD k 0 ∧ (ei cs j i).getD k 0 ≤ 1000 := by
  have hok := er_ok h20 hj
  have hl : 0 ≤ lcF (er cs j) (ndL cs j i) ∧ lcF (er cs j) (ndL cs j i) ≤ 1000 := by
    have := lcF_bd (cyc := er cs j) (b := 100) (ns := ndL cs j i) (by omega) (fun d hd => by
      obtain ⟨q, h1, h2, h3, rfl⟩ := mem_ndL hd
      have h4 := dT_bd cs q j
      have h5 : q < (er cs j).length := by rw [er_len]; exact h1
      have h6 := er_bd cs j _ (List.getElem_mem h5)
      simp only [Int.toNat_natCast]
      rw [List.getD_eq_getElem?_getD, List.getElem?_eq_getElem h5, Option.getD_some]
      omega)
    omega
  rw [ei_split i hj, List.getD_eq_getElem?_getD]
  cases hk : (er cs j ++ lcF (er cs j) (ndL cs j i) :: List.replicate (cs.length - (j + 1)) 0)[k]? with
  | none => simp
  | some x =>
    have hx := List.mem_of_getElem? hk
    rw [Option.getD_some]
    rcases List.mem_append.1 hx with hx | hx
    · have := er_bd cs j x hx; omega
    · rcases List.mem_cons.1 hx with rfl | hx
      · exact hl
      · have := (List.mem_replicate.1 hx).2; omega

set_option maxHeartbeats 8000000 in
theorem orEarliest_any (L B : Nat) (A : Option Addr) (c : Nat) (cs : List In) (w : World) (hl : cs.length ≤ 20) (hgood : ∀ x ∈ cs, goodIn x = true) (hes : RS In.enc 5 w L B A cs) (hB : B ≤ w.heap.size) :
    Calls Try.prog 107 #[.slice A cs.length c] w (FreshI w (er cs cs.length)) := by
  have H := Lib.hid (orDelays_any L B A c cs w hl hgood hes hB)
  have hmk := run_make_ints cs.length (by omega)
  have hRl := Lib.hid (dRows_len cs cs.length)
  have hRa := Lib.hid fun (i : Nat) (h : i < (dRows cs cs.length).length) => dRows_at cs cs.length h
  have hTl := Lib.hid (dTab_len cs)
  have hTa := Lib.hid fun (i j : Nat) (h : j < (dTab cs i cs.length).length) => dTab_at cs i cs.length h
  have hE0 : Hid (zeros cs.length = eo cs 0) := (eo_zero cs).symm
  have hEe := Lib.hid (eo_end cs)
  have hEl := Lib.hid fun (j : Nat) (h : j ≤ cs.length) => eo_len h
  have hIl := Lib.hid fun (j i : Nat) (h : j ≤ cs.length) => ei_len i h
  have hIz := Lib.hid fun (j : Nat) (h : j < cs.length) => ei_zero h
  have hIe := Lib.hid fun (j : Nat) (h : j < cs.length) => ei_end h
  have hIy := Lib.hid fun (j i : Nat) (hj : j < cs.length) (hi : i < j) (h : 0 ≤ dT cs i j) => ei_yes hj hi h
  have hIn := Lib.hid fun (j i : Nat) (h : ¬ 0 ≤ dT cs i j) => ei_no h
  have hIb := Lib.hid fun (j i k : Nat) (hj : j < cs.length) (hi : i ≤ j) => ei_bd i k hl hj hi
  have hDb := Lib.hid fun (i j : Nat) => dT_bd cs i j
  have hEr := Lib.hid (er_len cs cs.length)
  clear hes hgood hB
  generalize dRows cs cs.length = TT at *
  generalize dTab cs = T at *
  generalize dT cs = E at *
  generalize eo cs = EO at *
  generalize ei cs = EI at *
  generalize er cs cs.length = ER at *
  go_enter Try.func107, Try.ntmps107
  go_wp2_with (fail)
  refine H.out.mono ?_
  rintro e w1 ⟨At, ct, rfl, hox, hb1⟩
  have hXT := Lib.hid (OX.rs hox)
  have hB1 := Lib.hid hb1
  have hO0 : Hid (OW (w1.alloc (.cells (intCells (zeros cs.length)) 3)) w1.heap.size (w1.alloc (.cells (intCells (zeros cs.length)) 3)).heap.size (.slice (some ⟨w1.heap.size, 0, none⟩) cs.length cs.length) (EO 0)) := by
    have h : IB (w1.alloc (.cells (intCells (zeros cs.length)) 3)) w1.heap.size 3 (zeros cs.length) := heap_alloc_new w1 _
    have h2 := OW.ofIB (lo := w1.heap.size) (hi := (w1.alloc (.cells (intCells (zeros cs.length)) 3)).heap.size) h (by simp [zeros]; omega) (Nat.le_refl _) (by simp)
    have hz : (zeros cs.length).length = cs.length := by simp [zeros]
    rw [hz, hE0.out] at h2
    rw [hE0.out]
    exact h2
  have hb2 := Lib.hid ((Below.refl w1.heap.size w1).alloc (Nat.le_refl _) (.cells (intCells (zeros cs.length)) 3))
  clear hox hb1
  rw [hRl.out]
  go_wp2_with (fail)
  clear hmk
  generalize hg : w1.heap.size = g at hO0 ⊢
  generalize w1.alloc (.cells (intCells (zeros cs.length)) 3) = W2 at *
  have hG := Lib.hid hg
  clear hg
  go_loopw [14] (fun q wr => ∃ j : Nat, j ≤ cs.length ∧ q = .int .i64 j ∧ OW wr g wr.heap.size (.slice (some ⟨g, 0, none⟩) cs.length cs.length) (EO j) ∧ Below w1.heap.size w1 wr) (fun q _ => cs.length - (intOf q).toNat)
  case atStart => exact ⟨0, Nat.zero_le _, rfl, hO0.out, hb2.out⟩
  case round =>
    clear hO0 hb2
    obtain ⟨j, hj, rfl, how, hbel⟩ := hrel
    have hO := Lib.hid how
    have hBL := Lib.hid hbel
    clear how hbel
    by_cases hlt : j < cs.length
    · have hji : (j : Int) < (cs.length : Int) := by omega
      have hj0 : (0 : Int) ≤ (j : Int) := by omega
      go_wp2
      go_loopw [6] (fun q wq => ∃ i : Nat, i ≤ j ∧ q = .int .i64 i ∧ OW wq g wq.heap.size (.slice (some ⟨g, 0, none⟩) cs.length cs.length) (EI j i) ∧ Below w1.heap.size w1 wq) (fun q _ => j - (intOf q).toNat)
      case atStart => exact ⟨0, Nat.zero_le _, rfl, by rw [hIz.out j hlt]; exact hO.out, hBL.out⟩
      case round =>
        clear hO hBL
        obtain ⟨i, hi, rfl, how, hbel⟩ := hrel
        have hO := Lib.hid how
        have hBL := Lib.hid hbel
        clear how hbel
        by_cases hij : i < j
        · have hiji : (i : Int) < (j : Int) := by omega
          have hi0 : (0 : Int) ≤ (i : Int) := by omega
          have hin : (i : Int) < (cs.length : Int) := by omega
          obtain ⟨xb, xo, Ai, ci, rfl, hxb, xc0, hI⟩ := XS.at hXT.out (show i < TT.length by rw [hRl.out]; omega)
          rw [hRa.out i (by rw [hRl.out]; omega)] at xc0 hI
          rw [hTl.out] at xc0
          obtain ⟨rb, ro, rfl, ⟨_, hrb⟩, hcc⟩ := hI (by rw [hTl.out]; omega)
          have rc0 := hcc j (by rw [hTl.out]; exact hlt)
          rw [hTa.out i j (by rw [hTl.out]; exact hlt)] at rc0
          have xc := (hBL.out.cell (p := ⟨xb, xo + i, none⟩) hxb).trans xc0
          have rc := (hBL.out.cell (p := ⟨rb, ro + j, none⟩) hrb).trans rc0
          have hlen := hIl.out j i hj
          obtain ⟨oj, fj⟩ := OW.at9 hO.out j (by rw [hlen]; exact hlt)
          obtain ⟨oi, _⟩ := OW.at9 hO.out i (by rw [hlen]; omega)
          have hY := Lib.hid (hIy.out j i hlt hij)
          have hN := Lib.hid (hIn.out j i)
          have hb0 := hIb.out j i i hlt hi
          have hb1 := hDb.out i j
          have hPut := Lib.hid fun (x : Int) => hO.out.put9 j x
          clear hcc hI xc0 rc0
          generalize hTT : EI j (i + 1) = En at *
          have hTh := Lib.hid hTT
          clear hTT
          generalize EI j i = xs at *
          generalize E i j = dd at *
          generalize xs.getD j 0 = yj at *
          generalize xs.getD i 0 = yi at *
          have hw9 : IntKind.i64.wrap (yi + dd) = yi + dd := IntWalk.i64_in _ (by omega)
          by_cases h0 : 0 ≤ dd
          · have hY2 := Lib.hid (hY.out h0)
            clear hY hN
            have hlg : w1.heap.size ≤ g := by rw [hG.out]; exact Nat.le_refl _
            have hBs := Lib.hid ((hBL.out.setCell (p := ⟨g, j, none⟩) hlg (.int .i64 (max yj (yi + dd)))).drew)
            clear hlg
            go_wp2_with (fail)
            have hfin := Lib.hid (show OW (wr.setCell ⟨g, j, none⟩ (.int .i64 (max yj (yi + dd)))).drew g (wr.setCell ⟨g, j, none⟩ (.int .i64 (max yj (yi + dd)))).drew.heap.size (.slice (some ⟨g, 0, none⟩) cs.length cs.length) En from by
              rw [hY2.out]
              have hz : (wr.setCell ⟨g, j, none⟩ (.int .i64 (max yj (yi + dd)))).heap.size = wr.heap.size := World.size_setCell _ _ _
              show OW (wr.setCell ⟨g, j, none⟩ (.int .i64 (max yj (yi + dd)))) g (wr.setCell ⟨g, j, none⟩ (.int .i64 (max yj (yi + dd)))).heap.size _ _
              rw [hz]; exact hPut.out _)
            go_region_law (go_simp; go_at_call 141; (with_reducible refine (l1Most_9 _ _ _).mono ?_); rintro e w' ⟨rfl, rfl⟩)
            all_goals
              go_wp2
              go_roundw
              case rel => exact ⟨i + 1, by omega, by go_num, by rw [hTh.out]; exact hfin.out, hBs.out⟩
              case measure => simp [intOf]; omega
          · have hN2 := Lib.hid (hN.out (by omega))
            clear hY hN
            go_wp2
            go_roundw
            case rel => exact ⟨i + 1, by omega, by go_num, by rw [hTh.out, hN2.out]; exact hO.out, hBL.out⟩
            case measure => simp [intOf]; omega
        · obtain rfl : i = j := by omega
          have hE9 := Lib.hid (hIe.out i hlt)
          go_wp2
          go_roundw
          case rel => exact ⟨i + 1, by omega, by go_num, by rw [← hE9.out]; exact hO.out, hBL.out⟩
          case measure => simp [intOf]; omega
    · obtain rfl : j = cs.length := by omega
      have hfin := Lib.hid (hB1.out.trans (hBL.out.mono hB1.out.size))
      have hlg : w.heap.size ≤ g := by rw [← hG.out]; exact hB1.out.size
      have hO9 := Lib.hid (hO.out.lower hlg)
      rw [hEe.out] at hO9
      clear hlg
      go_wp2
      go_ret
      exact ⟨_, _, by rw [hEr.out]; rfl, by rw [hEr.out]; exact hO9.out, hfin.out⟩

set_option maxHeartbeats 4000000 in
theorem sEarliestOf_k (L B : Nat) (A : Option Addr) (c : Nat) (cs : List In) (w : World) (hl : cs.length ≤ 1048576) (hes : RS In.enc 5 w L B A cs) (hB : B ≤ w.heap.size) :
    Calls Try.prog 52 #[.slice A cs.length c] w (ResEarliestOf (erR cs) (orGood cs) w) := by
  have H := Lib.hid (orGood_any L B A c cs w hl hes hB)
  cases hg : orGood cs
  · have hR := Lib.hid (erR_no hg)
    rw [hg] at H
    clear hg hes
    generalize erR cs = R at *
    go_enter Try.func52, Try.ntmps52
    go_wp2_with (fail)
    refine H.out.mono ?_
    rintro e w1 ⟨rfl, hb1⟩
    have hB1 := Lib.hid hb1
    clear hb1
    go_wp2
    go_ret2
    rw [hR.out]
    exact ⟨none, 0, rfl, OW.nil _ _ _, hB1.out⟩
  · have hR := Lib.hid (erR_yes hg)
    have hGp := orGood_parts hg
    have HE := Lib.hid fun (W : World) (hW : Below w.heap.size w W) => orEarliest_any L B A c cs W hGp.1 hGp.2 (hes.below hW hB) (Nat.le_trans hB hW.size)
    rw [hg] at H
    clear hg hes hGp
    generalize erR cs = R at *
    generalize er cs cs.length = E at *
    go_enter Try.func52, Try.ntmps52
    go_wp2_with (fail)
    refine H.out.mono ?_
    rintro e w1 ⟨rfl, hb1⟩
    have hB1 := Lib.hid hb1
    clear hb1
    go_wp2_with (fail)
    refine (HE.out _ hB1.out).mono ?_
    rintro e w2 ⟨A2, c2, rfl, ho2, hb2⟩
    have hO2 := Lib.hid (ho2.lower hB1.out.size)
    have hB2 := Lib.hid (hB1.out.trans (hb2.mono hB1.out.size))
    clear ho2 hb2
    go_wp2
    go_ret2
    rw [hR.out]
    exact ⟨A2, c2, rfl, hO2.out, hB2.out⟩
end Go.Proofs.Ytpgdccfpegdcoaa

/- Chapter 9: FirstOrder, both. -/
namespace Go.Proofs.Ytpgdccfpegdcoaa
open Go.RowKit
set_option linter.unusedVariables false
set_option maxRecDepth 100000

def idxL (n : Nat) : List Int := (List.range n).map fun (i : Nat) => (i : Int)
theorem idxL_len (n : Nat) : (idxL n).length = n := by simp [idxL]
theorem idxL_succ (n : Nat) : idxL (n + 1) = idxL n ++ [(n : Int)] := by unfold idxL; rw [List.range_succ, List.map_append]; rfl
def idxZ (n k : Nat) : List Int := idxL k ++ List.replicate (n - k) 0
theorem idxZ_len {n k : Nat} (h : k ≤ n) : (idxZ n k).length = n := by unfold idxZ; rw [List.length_append, idxL_len, List.length_replicate]; omega
theorem idxZ_zero (n : Nat) : idxZ n 0 = zeros n := rfl
theorem idxZ_end (n : Nat) : idxZ n n = idxL n := by unfold idxZ; rw [Nat.sub_self]; simp
theorem idxZ_set {n k : Nat} (h : k < n) : (idxZ n k).set k (k : Int) = idxZ n (k + 1) := by
  unfold idxZ
  rw [show n - k = (n - (k + 1)) + 1 by omega, List.replicate_succ, List.set_append_right _ _ (by rw [idxL_len]; exact Nat.le_refl _), idxL_len, Nat.sub_self, idxL_succ, List.append_assoc]; rfl
set_option maxHeartbeats 4000000 in
theorem indicesOf_any (A : Option Addr) (c : Nat) (n : Nat) (w : World) (hl : n ≤ 1000000) :
    Calls Try.prog 92 #[.slice A n c] w (FreshI w (idxL n)) := by
  have hmk := run_make_ints n (by omega)
  have hO0 : Hid (OW (w.alloc (.cells (intCells (zeros n)) 3)) w.heap.size (w.alloc (.cells (intCells (zeros n)) 3)).heap.size (.slice (some ⟨w.heap.size, 0, none⟩) n n) (idxZ n 0)) := by
    have h : IB (w.alloc (.cells (intCells (zeros n)) 3)) w.heap.size 3 (zeros n) := heap_alloc_new w _
    have h2 := OW.ofIB (lo := w.heap.size) (hi := (w.alloc (.cells (intCells (zeros n)) 3)).heap.size) h (by simp [zeros]; exact hl) (Nat.le_refl _) (by simp)
    have hz : (zeros n).length = n := by simp [zeros]
    rw [hz] at h2
    rw [Hid, idxZ_zero]
    exact h2
  have hb2 := Lib.hid ((Below.refl w.heap.size w).alloc (Nat.le_refl _) (.cells (intCells (zeros n)) 3))
  have hSt := Lib.hid fun (k : Nat) (h : k < n) => idxZ_set h
  have hLn := Lib.hid fun (k : Nat) (h : k ≤ n) => idxZ_len h
  have hEn := Lib.hid (idxZ_end n)
  have hIl := Lib.hid (idxL_len n)
  generalize idxZ n = Z at *
  generalize idxL n = I at *
  go_enter Try.func92, Try.ntmps92
  go_wp2_with (fail)
  clear hmk
  generalize hg : w.heap.size = g at hO0 ⊢
  have hG := Lib.hid hg
  clear hg
  generalize w.alloc (.cells (intCells (zeros n)) 3) = W1 at *
  go_loopw [10] (fun q wr => ∃ k : Nat, k ≤ n ∧ q = .int .i64 k ∧ OW wr g wr.heap.size (.slice (some ⟨g, 0, none⟩) n n) (Z k) ∧ Below w.heap.size w wr) (fun q _ => n - (intOf q).toNat)
  case atStart => exact ⟨0, Nat.zero_le _, rfl, hO0.out, hb2.out⟩
  case round =>
    clear hO0 hb2
    obtain ⟨k, hk, rfl, how, hbel⟩ := hrel
    have hO := Lib.hid how
    have hBL := Lib.hid hbel
    clear how hbel
    by_cases hlt : k < n
    · have hki : (k : Int) < (n : Int) := by omega
      have hk0 : (0 : Int) ≤ (k : Int) := by omega
      obtain ⟨ok, fk⟩ := OW.at9 hO.out k (by rw [hLn.out k hk]; exact hlt)
      have hP := hO.out.put9 k (k : Int)
      rw [hSt.out k hlt] at hP
      have hz : (wr.setCell ⟨g, k, none⟩ (.int .i64 k)).heap.size = wr.heap.size := World.size_setCell _ _ _
      have hP2 := Lib.hid (show OW (wr.setCell ⟨g, k, none⟩ (.int .i64 k)) g (wr.setCell ⟨g, k, none⟩ (.int .i64 k)).heap.size (.slice (some ⟨g, 0, none⟩) n n) (Z (k + 1)) from by rw [hz]; exact hP)
      have hBs := Lib.hid (hBL.out.setCell (p := ⟨g, k, none⟩) (by rw [hG.out]; exact Nat.le_refl _) (.int .i64 k))
      clear hP hz
      generalize (Z k).getD k 0 = y at *
      go_wp2
      go_roundw
      case rel => exact ⟨k + 1, by omega, by go_num, hP2.out, hBs.out⟩
      case measure => simp [intOf]; omega
    · obtain rfl : k = n := by omega
      have hO9 := hO.out
      rw [hEn.out] at hO9
      have hlg : w.heap.size ≤ g := by rw [hG.out]; exact Nat.le_refl _
      have hO8 := Lib.hid (hO9.lower hlg)
      clear hO9 hlg
      go_wp2
      go_ret
      exact ⟨_, _, by rw [hIl.out]; rfl, by rw [hIl.out]; exact hO8.out, hBL.out⟩
def foR (cs : List In) : List Int := if orGood cs = true then idxL cs.length else []
theorem foR_yes {cs : List In} (h : orGood cs = true) : foR cs = idxL cs.length := by unfold foR; rw [if_pos h]
theorem foR_no {cs : List In} (h : orGood cs = false) : foR cs = [] := by unfold foR; rw [h]; rfl
theorem foR_len (cs : List In) : (foR cs).length ≤ 1048576 := by
  cases h : orGood cs
  · rw [foR_no h]; simp
  · rw [foR_yes h, idxL_len]; have := (orGood_parts h).1; omega
set_option maxHeartbeats 4000000 in
theorem iFirstOrder_k (L B : Nat) (A : Option Addr) (c : Nat) (cs : List In) (w : World) (hl : cs.length ≤ 1048576) (hes : RS In.enc 5 w L B A cs) (hB : B ≤ w.heap.size) :
    Calls Try.prog 44 #[.slice A cs.length c] w (ResFirstOrder (foR cs) (orGood cs) w) := by
  have H := Lib.hid (isOrderable_any L B A c cs w hl hes hB)
  cases hg : orGood cs
  · have hR := Lib.hid (foR_no hg)
    rw [hg] at H
    clear hg hes
    generalize foR cs = R at *
    go_enter Try.func44, Try.ntmps44
    go_wp2_with (fail)
    refine H.out.mono ?_
    rintro e w1 ⟨rfl, hb1⟩
    have hB1 := Lib.hid hb1
    clear hb1
    go_wp2
    go_ret2
    rw [hR.out]
    exact ⟨none, 0, rfl, OW.nil _ _ _, hB1.out⟩
  · have hR := Lib.hid (foR_yes hg)
    have h20 := (orGood_parts hg).1
    have HI := Lib.hid fun (W : World) => indicesOf_any A c cs.length W (by omega)
    rw [hg] at H
    clear hg hes
    generalize foR cs = R at *
    generalize idxL cs.length = I at *
    go_enter Try.func44, Try.ntmps44
    go_wp2_with (fail)
    refine H.out.mono ?_
    rintro e w1 ⟨rfl, hb1⟩
    have hB1 := Lib.hid hb1
    clear hb1
    go_wp2_with (fail)
    refine (HI.out _).mono ?_
    rintro e w2 ⟨A2, c2, rfl, ho2, hb2⟩
    have hO2 := Lib.hid (ho2.lower hB1.out.size)
    have hB2 := Lib.hid (hB1.out.trans (hb2.mono hB1.out.size))
    clear ho2 hb2
    go_wp2
    go_ret2
    rw [hR.out]
    exact ⟨A2, c2, rfl, hO2.out, hB2.out⟩
set_option maxHeartbeats 4000000 in
theorem sFirstOrder_k (L B : Nat) (A : Option Addr) (c : Nat) (cs : List In) (w : World) (hl : cs.length ≤ 1048576) (hes : RS In.enc 5 w L B A cs) (hB : B ≤ w.heap.size) :
    Calls Try.prog 43 #[.slice A cs.length c] w (ResFirstOrder (foR cs) (orGood cs) w) := by
  obtain ⟨i1, hi', hz0', hz1', hz2'⟩ := info_parts Try.infoInt
  have hI0 := Lib.hid hi'
  have hI1 := Lib.hid hz0'
  have hI2 := Lib.hid hz1'
  have hI3 := Lib.hid hz2'
  clear hi' hz0' hz1' hz2'
  have H := Lib.hid (orGood_any L B A c cs w hl hes hB)
  cases hg : orGood cs
  · have hR := Lib.hid (foR_no hg)
    rw [hg] at H
    clear hg hes
    generalize foR cs = R at *
    go_enter Try.func43, Try.ntmps43
    go_wp2_with (fail)
    refine H.out.mono ?_
    rintro e w1 ⟨rfl, hb1⟩
    have hB1 := Lib.hid hb1
    clear hb1
    go_wp2
    go_ret2
    rw [hR.out]
    exact ⟨none, 0, rfl, OW.nil _ _ _, hB1.out⟩
  · have hR := Lib.hid (foR_yes hg)
    have h20 := (orGood_parts hg).1
    have hSu := Lib.hid idxL_succ
    have hLe := Lib.hid idxL_len
    have h00 : Hid (idxL 0 = []) := rfl
    rw [hg] at H
    clear hg hes
    generalize foR cs = R at *
    generalize idxL = I at *
    go_enter Try.func43, Try.ntmps43
    go_wp2_with (fail)
    refine H.out.mono ?_
    rintro e w1 ⟨rfl, hb1⟩
    have hB1 := Lib.hid hb1
    clear hb1
    go_wp2
    go_loopw [4, 11] (fun v q wr => ∃ k : Nat, k ≤ cs.length ∧ q = .int .i64 k ∧ OW wr w1.heap.size wr.heap.size v (I k) ∧ Below w1.heap.size w1 wr) (fun _ q _ => cs.length - (intOf q).toNat)
    case atStart => exact ⟨0, Nat.zero_le _, rfl, by rw [h00.out]; exact OW.nil _ _ _, Below.refl _ _⟩
    case round =>
      obtain ⟨k, hk, rfl, how, hbel⟩ := hrel
      obtain ⟨V, cv, rfl, _⟩ := how.form
      have hO := Lib.hid how
      have hBL := Lib.hid hbel
      clear how hbel
      rw [hLe.out] at hO ⊢
      by_cases hlt : k < cs.length
      · have hki : (k : Int) < (cs.length : Int) := by omega
        have hS := Lib.hid (hSu.out k)
        have hxl := hLe.out k
        generalize hII : I (k + 1) = In1 at *
        have hIh := Lib.hid hII
        clear hII
        generalize I k = xs at *
        have ho2 := Lib.hid (hO.out.1.alloc (.cells #[.int .i64 k] 3))
        have hb3 := Lib.hid (hBL.out.alloc hBL.out.size (.cells #[.int .i64 k] 3))
        have hlo := Lib.hid hO.out.lo
        have hzw := hBL.out.size
        go_wp2_with (at_builtin; go_loud (refine wpList_append_own _ rfl _ _ 38 rfl w1.heap.size 3 i1 (.int .i64 0) 1 8 Try.underlying38 hI0.out hI1.out hI2.out hI3.out rfl (by decide) _ _ _ rfl ho2.out ⟨wr.heap.size, 0, none⟩ 1 1 [.int .i64 k] rfl rfl (new1 rfl) (one1 _) (by unfold maxLen; omega) (by omega) (by simp; omega) ?_); intro v' w4 hown4 hgr4 _)
        have R1 := Lib.hid (show OW w4 w1.heap.size w4.heap.size v' In1 from by rw [hS.out]; exact OW.push (by simpa using hown4))
        have R2 := Lib.hid (hb3.out.grown hgr4 hb3.out.size (fun k hk => (hlo.out k hk).1))
        clear hown4 hgr4
        go_wp2
        go_roundw
        case rel => exact ⟨k + 1, by omega, by go_num, by rw [hIh.out]; exact R1.out, R2.out⟩
        case measure => simp [intOf]; omega
      · obtain rfl : k = cs.length := by omega
        have hO2 := Lib.hid (hO.out.lower hB1.out.size)
        have hB2 := Lib.hid (hB1.out.trans (hBL.out.mono hB1.out.size))
        go_wp2
        go_ret2
        rw [hR.out]
        exact ⟨V, cv, by rw [hLe.out]; rfl, by rw [hLe.out]; exact hO2.out, hB2.out⟩
end Go.Proofs.Ytpgdccfpegdcoaa

/- Chapter 9: cycles told for code; LengthOf, both. -/
namespace Go.Proofs.Ytpgdccfpegdcoaa
open Go.RowKit
set_option linter.unusedVariables false
set_option maxRecDepth 100000

theorem isNoCycle_any (x : Int) (w : World) : Calls Try.prog 100 #[.int .i64 x] w fun e w' => e = .returned (.bool (!inR x 0 100)) ∧ w = w' := by
  have H := Lib.hid fun (W : World) => isIndex_any x 101 W
  have h1 : ((101 : Int) - 1) = 100 := by decide
  rw [h1] at H
  go_enter Try.func100, Try.ntmps100
  go_wp2_with (fail)
  refine (H.out _).mono ?_
  rintro e w' ⟨rfl, rfl⟩
  go_wp2
  go_ret
  exact ⟨rfl, rfl⟩
theorem IndexFuncY_any (L B : Nat) (A : Option Addr) (c : Nat) (xs : List Int) (w : World) (hl : xs.length ≤ 1048576) (hx : IS w L B A xs) :
    Calls Try.prog 158 #[.slice A xs.length c, .func (.func 100) #[] #[]] w fun e w' => ∃ k : Int, e = .returned (.int .i64 k) ∧ decide (0 ≤ k) = !allIn xs 0 100 ∧ w = w' := by
  have hX := Lib.hid hx; clear hx
  go_enter Try.func158, Try.ntmps158
  go_wp2
  go_loop [5, 8] (fun _ i => ∃ k : Nat, k ≤ xs.length ∧ i = .int .i64 k ∧ allIn (xs.take k) 0 100 = true) (fun _ i => xs.length - (intOf i).toNat)
  case atStart => exact ⟨0, Nat.zero_le _, rfl, rfl⟩
  case round =>
    obtain ⟨k, hk, rfl, hh⟩ := hrel
    have hH := Lib.hid hh; clear hh
    by_cases hlt : k < xs.length
    · obtain ⟨b, o, rfl, _, hc⟩ := hX.out (by omega)
      have hcell := hc k hlt
      clear hc
      have hS : Hid (allIn (xs.take (k + 1)) 0 100 = (allIn (xs.take k) 0 100 && inR xs[k] 0 100)) := by
        unfold Hid allIn; rw [List.take_succ_eq_append_getElem hlt, List.all_append]; simp
      have hF : Hid (inR xs[k] 0 100 = false → allIn xs 0 100 = false) := fun h => by
        unfold allIn; rw [List.all_eq_false]; exact ⟨_, List.getElem_mem hlt, by rw [h]; simp⟩
      generalize xs[k] = x at *
      have hN := Lib.hid (isNoCycle_any x)
      cases hr : inR x 0 100
      · rw [hr] at hN
        have hF2 := Lib.hid (hF.out hr)
        clear hr hS hF
        go_wp2_with (go_at_call 100; (with_reducible refine (hN.out _).mono ?_); rintro e w3 ⟨rfl, rfl⟩)
        go_ret
        exact ⟨k, rfl, by rw [hF2.out]; simp, rfl⟩
      · rw [hr] at hN hS
        clear hr hF
        have hS2 : Hid (allIn (xs.take (k + 1)) 0 100 = true) := by rw [Hid, hS.out, hH.out]; rfl
        clear hS
        go_wp2_with (go_at_call 100; (with_reducible refine (hN.out _).mono ?_); rintro e w3 ⟨rfl, rfl⟩)
        go_round
        case rel => exact ⟨k + 1, by omega, by go_num, hS2.out⟩
        case measure => simp [intOf]; omega
    · obtain rfl : k = xs.length := by omega
      go_wp2
      go_ret
      exact ⟨-1, rfl, by have := hH.out; rw [List.take_length] at this; rw [this]; rfl, rfl⟩
theorem ContainsFuncY_any (L B : Nat) (A : Option Addr) (c : Nat) (xs : List Int) (w : World) (hl : xs.length ≤ 1048576) (hx : IS w L B A xs) :
    Calls Try.prog 129 #[.slice A xs.length c, .func (.func 100) #[] #[]] w fun e w' => e = .returned (.bool (!allIn xs 0 100)) ∧ w = w' := by
  have H := Lib.hid (IndexFuncY_any L B A c xs w hl hx); clear hx
  go_enter Try.func129, Try.ntmps129
  go_wp2_with (fail)
  refine H.out.mono ?_
  rintro e w' ⟨k, rfl, hk, rfl⟩
  have hK := Lib.hid hk; clear hk
  go_wp2
  go_ret
  exact ⟨ret_bool hK.out, rfl⟩
/-- Cycles that are told for code. -/
def cyB (cs : List In) (xs : List Int) : Bool := orGood cs && (xs.length == cs.length) && allIn xs 0 100
theorem cyB_no1 {cs : List In} (xs : List Int) (h : orGood cs = false) : cyB cs xs = false := by unfold cyB; rw [h]; rfl
theorem cyB_no2 {cs : List In} {xs : List Int} (h : xs.length ≠ cs.length) : cyB cs xs = false := by unfold cyB; rw [beq_eq_false_iff_ne.2 h]; simp
theorem cyB_yes {cs : List In} {xs : List Int} (h : orGood cs = true) (h2 : xs.length = cs.length) : cyB cs xs = allIn xs 0 100 := by unfold cyB; rw [h, beq_iff_eq.2 h2]; rfl
theorem cyB_parts {cs : List In} {xs : List Int} (h : cyB cs xs = true) : orGood cs = true ∧ xs.length = cs.length ∧ allIn xs 0 100 = true := by
  unfold cyB at h
  rw [Bool.and_eq_true, Bool.and_eq_true, beq_iff_eq] at h
  exact ⟨h.1.1, h.1.2, h.2⟩

set_option maxHeartbeats 2000000 in
theorem orCycles_any (L B : Nat) (A : Option Addr) (c : Nat) (cs : List In) (L' B' : Nat) (A' : Option Addr) (c' : Nat) (xs : List Int) (w : World) (hl : cs.length ≤ 1048576) (hes : RS In.enc 5 w L B A cs) (hB : B ≤ w.heap.size) (hn : xs.length ≤ 1048576) (hns : IS w L' B' A' xs) (hB' : B' ≤ w.heap.size) :
    Calls Try.prog 103 #[.slice A cs.length c, .slice A' xs.length c'] w fun e w' => e = .returned (.bool (cyB cs xs)) ∧ Below w.heap.size w w' := by
  have H := Lib.hid (orGood_any L B A c cs w hl hes hB)
  cases hg : orGood cs
  · have hR := Lib.hid (cyB_no1 xs hg)
    rw [hg] at H
    clear hg hes hns
    generalize cyB cs xs = R at *
    go_enter Try.func103, Try.ntmps103
    go_wp2_with (fail)
    refine H.out.mono ?_
    rintro e w1 ⟨rfl, hb1⟩
    have hB1 := Lib.hid hb1
    clear hb1
    go_wp2
    go_ret
    exact ⟨by rw [hR.out]; rfl, hB1.out⟩
  rw [hg] at H
  by_cases hlen : xs.length = cs.length
  · have hR := Lib.hid (cyB_yes hg hlen)
    have e1 : ((xs.length : Int) == (cs.length : Int)) = true := by simp; omega
    have HC := Lib.hid fun (W : World) (hW : Below w.heap.size w W) => l1All_any L' B' A' c' xs 0 100 W hn (hns.below hW hB')
    clear hg hes hns hlen
    generalize cyB cs xs = R at *
    generalize allIn xs 0 100 = a at *
    go_enter Try.func103, Try.ntmps103
    go_wp2_with (fail)
    refine H.out.mono ?_
    rintro e w1 ⟨rfl, hb1⟩
    have hB1 := Lib.hid hb1
    clear hb1
    go_wp2_with (fail)
    refine (HC.out _ hB1.out).mono ?_
    rintro e w2 ⟨rfl, rfl⟩
    go_wp2
    go_ret
    exact ⟨by rw [hR.out]; first | rfl | (cases a <;> rfl), hB1.out⟩
  · have hR := Lib.hid (cyB_no2 (cs := cs) hlen)
    have e1 : ((xs.length : Int) == (cs.length : Int)) = false := by simp; omega
    clear hg hes hns hlen
    generalize cyB cs xs = R at *
    go_enter Try.func103, Try.ntmps103
    go_wp2_with (fail)
    refine H.out.mono ?_
    rintro e w1 ⟨rfl, hb1⟩
    have hB1 := Lib.hid hb1
    clear hb1
    go_wp2
    go_ret
    exact ⟨by rw [hR.out]; rfl, hB1.out⟩

set_option maxHeartbeats 2000000 in
theorem areCyclesOf_any (L B : Nat) (A : Option Addr) (c : Nat) (cs : List In) (L' B' : Nat) (A' : Option Addr) (c' : Nat) (xs : List Int) (w : World) (hl : cs.length ≤ 1048576) (hes : RS In.enc 5 w L B A cs) (hB : B ≤ w.heap.size) (hn : xs.length ≤ 1048576) (hns : IS w L' B' A' xs) (hB' : B' ≤ w.heap.size) :
    Calls Try.prog 105 #[.slice A cs.length c, .slice A' xs.length c'] w fun e w' => e = .returned (.bool (cyB cs xs)) ∧ Below w.heap.size w w' := by
  have H := Lib.hid (isOrderable_any L B A c cs w hl hes hB)
  cases hg : orGood cs
  · have hR := Lib.hid (cyB_no1 xs hg)
    rw [hg] at H
    clear hg hes hns
    generalize cyB cs xs = R at *
    go_enter Try.func105, Try.ntmps105
    go_wp2_with (fail)
    refine H.out.mono ?_
    rintro e w1 ⟨rfl, hb1⟩
    have hB1 := Lib.hid hb1
    clear hb1
    go_wp2
    go_ret
    exact ⟨by rw [hR.out]; rfl, hB1.out⟩
  rw [hg] at H
  by_cases hlen : xs.length = cs.length
  · have hR := Lib.hid (cyB_yes hg hlen)
    have e1 : ((xs.length : Int) == (cs.length : Int)) = true := by simp; omega
    have HC := Lib.hid fun (W : World) (hW : Below w.heap.size w W) => ContainsFuncY_any L' B' A' c' xs W hn (hns.below hW hB')
    clear hg hes hns hlen
    generalize cyB cs xs = R at *
    generalize allIn xs 0 100 = a at *
    go_enter Try.func105, Try.ntmps105
    go_wp2_with (fail)
    refine H.out.mono ?_
    rintro e w1 ⟨rfl, hb1⟩
    have hB1 := Lib.hid hb1
    clear hb1
    go_wp2_with (fail)
    refine (HC.out _ hB1.out).mono ?_
    rintro e w2 ⟨rfl, rfl⟩
    go_wp2
    go_ret
    exact ⟨by rw [hR.out]; first | rfl | (cases a <;> rfl), hB1.out⟩
  · have hR := Lib.hid (cyB_no2 (cs := cs) hlen)
    have e1 : ((xs.length : Int) == (cs.length : Int)) = false := by simp; omega
    clear hg hes hns hlen
    generalize cyB cs xs = R at *
    go_enter Try.func105, Try.ntmps105
    go_wp2_with (fail)
    refine H.out.mono ?_
    rintro e w1 ⟨rfl, hb1⟩
    have hB1 := Lib.hid hb1
    clear hb1
    go_wp2
    go_ret
    exact ⟨by rw [hR.out]; rfl, hB1.out⟩
end Go.Proofs.Ytpgdccfpegdcoaa

/- Chapter 9: lengths, both. -/
namespace Go.Proofs.Ytpgdccfpegdcoaa
open Go.RowKit
set_option linter.unusedVariables false
set_option maxRecDepth 100000

theorem XB.newI9 (w : World) (x : In) : XB (w.alloc (.cells #[.string x.op, .int .i64 x.d, .int .i64 x.a, .int .i64 x.b, .int .i64 x.m] 65)) w.heap.size x := heap_alloc_new w _
def cstA (cs : List In) (i : Nat) : Int := (fm (inAt cs i).op).c
def lenF (cs : List In) (xs : List Int) (k : Nat) : Int := (List.range k).foldl (fun m i => max m (xs.getD i 0 + cstA cs i)) 0
theorem lenF_succ (cs : List In) (xs : List Int) (k : Nat) : lenF cs xs (k + 1) = max (lenF cs xs k) (xs.getD k 0 + cstA cs k) := by
  unfold lenF; rw [List.range_succ, List.foldl_append]; rfl
theorem cstA_bd (cs : List In) (i : Nat) : 0 ≤ cstA cs i ∧ cstA cs i ≤ 4 := fm_c _
theorem lenF_bd {cs : List In} {xs : List Int} (h : ∀ i, xs.getD i 0 ≤ 1000) : ∀ k, 0 ≤ lenF cs xs k ∧ lenF cs xs k ≤ 1004
  | 0 => ⟨Int.le_refl _, by show (0 : Int) ≤ 1004; omega⟩
  | k + 1 => by
    rw [lenF_succ]
    have := lenF_bd (cs := cs) h k
    have := cstA_bd cs k
    have := h k
    omega
theorem getD_bd9 {xs : List Int} (h : ∀ x ∈ xs, 0 ≤ x ∧ x ≤ 1000) (i : Nat) : 0 ≤ xs.getD i 0 ∧ xs.getD i 0 ≤ 1000 := by
  rw [List.getD_eq_getElem?_getD]
  cases hk : xs[i]? with
  | none => simp
  | some x => exact h x (List.mem_of_getElem? hk)
set_option maxHeartbeats 8000000 in
theorem lengthOf_any (L B : Nat) (A : Option Addr) (c : Nat) (cs : List In) (L' B' : Nat) (A' : Option Addr) (c' : Nat) (xs : List Int) (w : World) (hl : cs.length ≤ 20) (hes : RS In.enc 5 w L B A cs) (hB : B ≤ w.heap.size) (hlen : xs.length = cs.length) (hbd : ∀ x ∈ xs, 0 ≤ x ∧ x ≤ 1000) (hns : IS w L' B' A' xs) (hB' : B' ≤ w.heap.size) :
    Calls Try.prog 106 #[.slice A cs.length c, .slice A' cs.length c'] w fun e w' => e = .returned (.int .i64 (lenF cs xs cs.length)) ∧ Below w.heap.size w w' := by
  have hE := Lib.hid fun (W : World) (hW : Below w.heap.size w W) => hes.below hW hB
  have hIS := Lib.hid fun (W : World) (hW : Below w.heap.size w W) => hns.below hW hB'
  have hBB := Lib.hid hB'
  have hLs := Lib.hid (lenF_succ cs xs)
  have hLb := Lib.hid (lenF_bd (cs := cs) fun i => (getD_bd9 hbd i).2)
  have hGb := Lib.hid (getD_bd9 hbd)
  have hLen := Lib.hid hlen
  have h00 : Hid (lenF cs xs 0 = 0) := rfl
  have hCb := Lib.hid (cstA_bd cs)
  have hCe : Hid (∀ i (h : i < cs.length), cstA cs i = (fm cs[i].op).c) := fun i h => by unfold cstA; rw [inAt_eq h]
  have b0 := Lib.hid (Below.refl w.heap.size w)
  clear hes hns hB hB' hlen hbd
  generalize lenF cs xs = F at *
  go_enter Try.func106, Try.ntmps106
  go_wp2
  go_loopw [5, 10] (fun v q wr => ∃ k : Nat, k ≤ cs.length ∧ q = .int .i64 k ∧ v = .int .i64 (F k) ∧ Below w.heap.size w wr) (fun _ q _ => cs.length - (intOf q).toNat)
  case atStart => exact ⟨0, Nat.zero_le _, rfl, by rw [h00.out], b0.out⟩
  case round =>
    obtain ⟨k, hk, rfl, rfl, hbel⟩ := hrel
    have hBL := Lib.hid hbel
    clear hbel
    by_cases hlt : k < cs.length
    · have hki : (k : Int) < (cs.length : Int) := by omega
      have hk0 : (0 : Int) ≤ (k : Int) := by omega
      obtain ⟨b, o, rfl, ⟨_, hbB⟩, hc⟩ := In.cells (hE.out wr hBL.out) (by omega)
      obtain ⟨c1, c2, c3, c4, c5⟩ := hc k hlt
      obtain ⟨xb, xo, rfl, ⟨_, hxb⟩, hxc⟩ := (hIS.out wr hBL.out) (by rw [hLen.out]; omega)
      have x0 := hxc k (by rw [hLen.out]; exact hlt)
      have hgd : xs.getD k 0 = xs[k]'(by rw [hLen.out]; exact hlt) := by rw [List.getD_eq_getElem?_getD, List.getElem?_eq_getElem (by rw [hLen.out]; exact hlt)]; rfl
      rw [← hgd] at x0
      have hLk := hLs.out k
      have h1 := hLb.out k
      have h2 := hGb.out k
      have h3 := hCb.out k
      rw [hCe.out k hlt] at hLk h3
      have hLk := Lib.hid hLk
      clear hc hxc hgd
      generalize hTT : F (k + 1) = z1 at *
      have hTh := Lib.hid hTT
      clear hTT
      generalize F k = z at *
      generalize xs.getD k 0 = y at *
      generalize cs[k] = nd at *
      obtain ⟨op, d, a, bb, m⟩ := nd
      dsimp only at *
      have hC := Lib.hid fun (W : World) => costOf_any op d a bb m W
      generalize (fm op).c = t at *
      have hw : IntKind.i64.wrap (y + t) = y + t := IntWalk.i64_in _ (by omega)
      have hX := Lib.hid (XB.newI9 wr ⟨op, d, a, bb, m⟩)
      have ha := Lib.hid ((Below.refl wr.heap.size wr).alloc (Nat.le_refl _) (.cells #[.string op, .int .i64 d, .int .i64 a, .int .i64 bb, .int .i64 m] 65))
      have x1 := (ha.out.cell (p := ⟨xb, xo + k, none⟩) (show xb < wr.heap.size by have := hBL.out.size; have := hBB.out; omega)).trans x0
      have hB1 := Lib.hid (hBL.out.trans (ha.out.mono hBL.out.size))
      have hxb1 := Lib.hid (show xb < (wr.alloc (.cells #[.string op, .int .i64 d, .int .i64 a, .int .i64 bb, .int .i64 m] 65)).heap.size by have := hBL.out.size; have := hBB.out; have := ha.out.size; omega)
      go_wp2_with (fail)
      clear c1 c2 c3 c4 c5 x0 ha
      generalize wr.alloc (.cells #[.string op, .int .i64 d, .int .i64 a, .int .i64 bb, .int .i64 m] 65) = W1 at *
      generalize wr.heap.size = gx at *
      obtain ⟨m0, m1, m2, m3, m4⟩ := hX.out.cells
      dsimp only at m0 m1 m2 m3 m4
      go_region_law (go_simp; go_at_call 139; (with_reducible refine (hC.out _).mono ?_); rintro e w2 ⟨rfl, hb2⟩; have x2 := (hb2.cell (p := ⟨xb, xo + k, none⟩) hxb1.out).trans x1; have hB2 := Lib.hid (hB1.out.drew.trans (hb2.mono hB1.out.size)); clear hb2)
      all_goals
        go_wp2
        go_roundw
        case rel => exact ⟨k + 1, by omega, by go_num, by rw [hTh.out, hLk.out], hB2.out⟩
        case measure => simp [intOf]; omega
    · obtain rfl : k = cs.length := by omega
      go_wp2
      go_ret
      exact ⟨rfl, hBL.out⟩
set_option maxHeartbeats 8000000 in
theorem orLength_any (L B : Nat) (A : Option Addr) (c : Nat) (cs : List In) (L' B' : Nat) (A' : Option Addr) (c' : Nat) (xs : List Int) (w : World) (hl : cs.length ≤ 20) (hgood : ∀ x ∈ cs, goodIn x = true) (hes : RS In.enc 5 w L B A cs) (hB : B ≤ w.heap.size) (hlen : xs.length = cs.length) (hbd : ∀ x ∈ xs, 0 ≤ x ∧ x ≤ 1000) (hns : IS w L' B' A' xs) (hB' : B' ≤ w.heap.size) :
    Calls Try.prog 104 #[.slice A cs.length c, .slice A' cs.length c'] w fun e w' => e = .returned (.int .i64 (lenF cs xs cs.length)) ∧ Below w.heap.size w w' := by
  have hE := Lib.hid fun (W : World) (hW : Below w.heap.size w W) => hes.below hW hB
  have hIS := Lib.hid fun (W : World) (hW : Below w.heap.size w W) => hns.below hW hB'
  have hBB := Lib.hid hB'
  have hLs := Lib.hid (lenF_succ cs xs)
  have hLb := Lib.hid (lenF_bd (cs := cs) fun i => (getD_bd9 hbd i).2)
  have hGb := Lib.hid (getD_bd9 hbd)
  have hLen := Lib.hid hlen
  have h00 : Hid (lenF cs xs 0 = 0) := rfl
  have hCb := Lib.hid (cstA_bd cs)
  have hCe : Hid (∀ i (h : i < cs.length), cstA cs i = (fm cs[i].op).c) := fun i h => by unfold cstA; rw [inAt_eq h]
  have b0 := Lib.hid (Below.refl w.heap.size w)
  have hGd := Lib.hid hgood
  clear hes hns hB hB' hlen hbd hgood
  generalize lenF cs xs = F at *
  go_enter Try.func104, Try.ntmps104
  go_wp2
  go_loopw [5, 10] (fun v q wr => ∃ k : Nat, k ≤ cs.length ∧ q = .int .i64 k ∧ v = .int .i64 (F k) ∧ Below w.heap.size w wr) (fun _ q _ => cs.length - (intOf q).toNat)
  case atStart => exact ⟨0, Nat.zero_le _, rfl, by rw [h00.out], b0.out⟩
  case round =>
    obtain ⟨k, hk, rfl, rfl, hbel⟩ := hrel
    have hBL := Lib.hid hbel
    clear hbel
    by_cases hlt : k < cs.length
    · have hki : (k : Int) < (cs.length : Int) := by omega
      have hk0 : (0 : Int) ≤ (k : Int) := by omega
      obtain ⟨b, o, rfl, ⟨_, hbB⟩, hc⟩ := In.cells (hE.out wr hBL.out) (by omega)
      obtain ⟨c1, c2, c3, c4, c5⟩ := hc k hlt
      obtain ⟨xb, xo, rfl, ⟨_, hxb⟩, hxc⟩ := (hIS.out wr hBL.out) (by rw [hLen.out]; omega)
      have x0 := hxc k (by rw [hLen.out]; exact hlt)
      have hgd : xs.getD k 0 = xs[k]'(by rw [hLen.out]; exact hlt) := by rw [List.getD_eq_getElem?_getD, List.getElem?_eq_getElem (by rw [hLen.out]; exact hlt)]; rfl
      rw [← hgd] at x0
      have hLk := hLs.out k
      have h1 := hLb.out k
      have h2 := hGb.out k
      have h3 := hCb.out k
      rw [hCe.out k hlt] at hLk h3
      have hLk := Lib.hid hLk
      clear hc hxc hgd
      generalize hTT : F (k + 1) = z1 at *
      have hTh := Lib.hid hTT
      clear hTT
      generalize F k = z at *
      generalize xs.getD k 0 = y at *
      have hok := (good_parts (hGd.out _ (List.getElem_mem hlt))).2.2.2.1
      generalize cs[k] = nd at *
      obtain ⟨op, d, a, bb, m⟩ := nd
      dsimp only at *
      have hC := Lib.hid fun (W : World) => cdCost_any op W hok
      generalize (fm op).c = t at *
      clear hok
      have hw : IntKind.i64.wrap (y + t) = y + t := IntWalk.i64_in _ (by omega)
      have hX := Lib.hid (XB.newI9 wr ⟨op, d, a, bb, m⟩)
      have ha := Lib.hid ((Below.refl wr.heap.size wr).alloc (Nat.le_refl _) (.cells #[.string op, .int .i64 d, .int .i64 a, .int .i64 bb, .int .i64 m] 65))
      have x1 := (ha.out.cell (p := ⟨xb, xo + k, none⟩) (show xb < wr.heap.size by have := hBL.out.size; have := hBB.out; omega)).trans x0
      have hB1 := Lib.hid (hBL.out.trans (ha.out.mono hBL.out.size))
      have hxb1 := Lib.hid (show xb < (wr.alloc (.cells #[.string op, .int .i64 d, .int .i64 a, .int .i64 bb, .int .i64 m] 65)).heap.size by have := hBL.out.size; have := hBB.out; have := ha.out.size; omega)
      go_wp2_with (fail)
      clear c1 c2 c3 c4 c5 x0 ha
      generalize wr.alloc (.cells #[.string op, .int .i64 d, .int .i64 a, .int .i64 bb, .int .i64 m] 65) = W1 at *
      generalize wr.heap.size = gx at *
      obtain ⟨m0, m1, m2, m3, m4⟩ := hX.out.cells
      dsimp only at m0 m1 m2 m3 m4
      go_region_law (first
        | (go_simp; go_at_call 110; (with_reducible refine (hC.out _).mono ?_); rintro e w2 ⟨rfl, rfl⟩)
        | (go_simp; go_at_call 141; (with_reducible refine (l1Most_9 _ _ _).mono ?_); rintro e w2 ⟨rfl, rfl⟩))
      all_goals
        go_wp2
        go_roundw
        case rel => exact ⟨k + 1, by omega, by go_num, by rw [hTh.out, hLk.out], hB1.out.drew⟩
        case measure => simp [intOf]; omega
    · obtain rfl : k = cs.length := by omega
      go_wp2
      go_ret
      exact ⟨rfl, hBL.out⟩

def lnR (cs : List In) (xs : List Int) : Int := if cyB cs xs = true then lenF cs xs cs.length else 0
theorem lnR_yes {cs : List In} {xs : List Int} (h : cyB cs xs = true) : lnR cs xs = lenF cs xs cs.length := by unfold lnR; rw [if_pos h]
theorem lnR_no {cs : List In} {xs : List Int} (h : cyB cs xs = false) : lnR cs xs = 0 := by unfold lnR; rw [h]; rfl
theorem cyB_bd {cs : List In} {xs : List Int} (h : cyB cs xs = true) : ∀ x ∈ xs, 0 ≤ x ∧ x ≤ 1000 := fun x hx => by
  have h2 := (cyB_parts h).2.2
  unfold allIn at h2
  rw [List.all_eq_true] at h2
  have := (inR_iff _ _ _).1 (h2 x hx)
  omega

set_option maxHeartbeats 2000000 in
theorem iLengthOf_k (L B : Nat) (A : Option Addr) (c : Nat) (cs : List In) (L' B' : Nat) (A' : Option Addr) (c' : Nat) (xs : List Int) (w : World) (hl : cs.length ≤ 1048576) (hes : RS In.enc 5 w L B A cs) (hB : B ≤ w.heap.size) (hn : xs.length ≤ 1048576) (hns : IS w L' B' A' xs) (hB' : B' ≤ w.heap.size) :
    Calls Try.prog 51 #[.slice A cs.length c, .slice A' xs.length c'] w (ResLengthOf (lnR cs xs) (cyB cs xs) w) := by
  have H := Lib.hid (areCyclesOf_any L B A c cs L' B' A' c' xs w hl hes hB hn hns hB')
  cases hg : cyB cs xs
  · have hR := Lib.hid (lnR_no hg)
    rw [hg] at H
    clear hg hes hns
    generalize lnR cs xs = R at *
    go_enter Try.func51, Try.ntmps51
    go_wp2_with (fail)
    refine H.out.mono ?_
    rintro e w1 ⟨rfl, hb1⟩
    have hB1 := Lib.hid hb1
    clear hb1
    go_wp2
    go_ret2
    rw [hR.out]
    exact ⟨rfl, hB1.out⟩
  · have hR := Lib.hid (lnR_yes hg)
    obtain ⟨hG, hlen, _⟩ := cyB_parts hg
    have hGp := orGood_parts hG
    have HL := fun (W : World) (hW : Below w.heap.size w W) => lengthOf_any L B A c cs L' B' A' c' xs W hGp.1 (hes.below hW hB) (Nat.le_trans hB hW.size) hlen (cyB_bd hg) (hns.below hW hB') (Nat.le_trans hB' hW.size)
    rw [← hlen] at HL
    have HL := Lib.hid HL
    rw [← hlen] at hR
    have hcs := Lib.hid hlen
    rw [hg] at H
    rw [← hlen] at H
    clear hg hes hns hGp hG
    generalize lnR cs xs = R at *
    generalize lenF cs xs xs.length = F at *
    rw [← hlen]
    clear hlen
    go_enter Try.func51, Try.ntmps51
    go_wp2_with (fail)
    refine H.out.mono ?_
    rintro e w1 ⟨rfl, hb1⟩
    have hB1 := Lib.hid hb1
    clear hb1
    go_wp2_with (fail)
    refine (HL.out _ hB1.out).mono ?_
    rintro e w2 ⟨rfl, hb2⟩
    have hB2 := Lib.hid (hB1.out.trans (hb2.mono hB1.out.size))
    clear hb2
    go_wp2
    go_ret2
    rw [hR.out]
    exact ⟨rfl, hB2.out⟩

set_option maxHeartbeats 2000000 in
theorem sLengthOf_k (L B : Nat) (A : Option Addr) (c : Nat) (cs : List In) (L' B' : Nat) (A' : Option Addr) (c' : Nat) (xs : List Int) (w : World) (hl : cs.length ≤ 1048576) (hes : RS In.enc 5 w L B A cs) (hB : B ≤ w.heap.size) (hn : xs.length ≤ 1048576) (hns : IS w L' B' A' xs) (hB' : B' ≤ w.heap.size) :
    Calls Try.prog 50 #[.slice A cs.length c, .slice A' xs.length c'] w (ResLengthOf (lnR cs xs) (cyB cs xs) w) := by
  have H := Lib.hid (orCycles_any L B A c cs L' B' A' c' xs w hl hes hB hn hns hB')
  cases hg : cyB cs xs
  · have hR := Lib.hid (lnR_no hg)
    rw [hg] at H
    clear hg hes hns
    generalize lnR cs xs = R at *
    go_enter Try.func50, Try.ntmps50
    go_wp2_with (fail)
    refine H.out.mono ?_
    rintro e w1 ⟨rfl, hb1⟩
    have hB1 := Lib.hid hb1
    clear hb1
    go_wp2
    go_ret2
    rw [hR.out]
    exact ⟨rfl, hB1.out⟩
  · have hR := Lib.hid (lnR_yes hg)
    obtain ⟨hG, hlen, _⟩ := cyB_parts hg
    have hGp := orGood_parts hG
    have HL := fun (W : World) (hW : Below w.heap.size w W) => orLength_any L B A c cs L' B' A' c' xs W hGp.1 hGp.2 (hes.below hW hB) (Nat.le_trans hB hW.size) hlen (cyB_bd hg) (hns.below hW hB') (Nat.le_trans hB' hW.size)
    rw [← hlen] at HL
    have HL := Lib.hid HL
    rw [← hlen] at hR
    have hcs := Lib.hid hlen
    rw [hg] at H
    rw [← hlen] at H
    clear hg hes hns hGp hG
    generalize lnR cs xs = R at *
    generalize lenF cs xs xs.length = F at *
    rw [← hlen]
    clear hlen
    go_enter Try.func50, Try.ntmps50
    go_wp2_with (fail)
    refine H.out.mono ?_
    rintro e w1 ⟨rfl, hb1⟩
    have hB1 := Lib.hid hb1
    clear hb1
    go_wp2_with (fail)
    refine (HL.out _ hB1.out).mono ?_
    rintro e w2 ⟨rfl, hb2⟩
    have hB2 := Lib.hid (hB1.out.trans (hb2.mono hB1.out.size))
    clear hb2
    go_wp2
    go_ret2
    rw [hR.out]
    exact ⟨rfl, hB2.out⟩
end Go.Proofs.Ytpgdccfpegdcoaa
