/- Texts of this proof, one behind the other: N9M, N9N, N9O, NAF, NAG, OC. -/
import Derived.Test.YtpgdccfpegdcoaaZ3
import Derived.Test.YtpgdccfpegdcoaaCK
import Derived.WalkKit
import Derived.WalkSpells
import Derived.WalkLawsBesides
import Derived.Deep.RegionLaw
import Derived.Deep.RegionHeld3
import Derived.Deep.QuietTactic
import Derived.BigQuiet
import Derived.Lib.Hide
import Derived.Test.YtpgdccfpegdcoaaZ2
import Derived.Test.YtpgdccfpegdcoaaZ4
import Derived.Deep.DeepCutAuto
import Derived.Test.YtpgdccfpegdcoaaKMInstr
import Derived.ProofKit
import Derived.OpenShut
import Derived.ShutString
import Derived.ChangeOld
import Derived.Below
import Derived.Deep.Slices
import Derived.Deep.Fields
/- Chapter 9: the least cycle of an instruction, of the program. -/
namespace Go.Proofs.Ytpgdccfpegdcoaa
open Go.RowKit
set_option linter.unusedVariables false
set_option maxRecDepth 100000

theorem box2_9 (w : World) (a b : Value) (t : TypeId) : (w.alloc (.cells #[a, b] t)).cell? ⟨w.heap.size, 0, none⟩ = some a ∧ (w.alloc (.cells #[a, b] t)).cell? ⟨w.heap.size, 1, none⟩ = some b := by
  have h := fun i => cell_of_row _ w.heap.size i #[a, b] t (0, 0) (heap_alloc_new w _)
  exact ⟨h 0, h 1⟩
/-- Needs whose cycles can be reckoned with. -/
def NdOk (cyc : List Int) (ns : List (Int × Int)) : Prop := ∀ d ∈ ns, (0 ≤ d.1 ∧ d.1.toNat < cyc.length) ∧ (0 ≤ d.2 ∧ d.2 ≤ 4) ∧ (0 ≤ cyc.getD d.1.toNat 0 ∧ cyc.getD d.1.toNat 0 ≤ 1000)
set_option maxHeartbeats 4000000 in
theorem leastCycle_any (A : Option Addr) (m c : Nat) (L B : Nat) (An : Option Addr) (cn : Nat) (nss : List (List (Int × Int))) (i : Nat) (L' B' : Nat) (A' : Option Addr) (c' : Nat) (cyc : List Int) (w : World) (hi : i < nss.length) (hl : (nss[i]).length ≤ 1000) (hok : NdOk cyc nss[i])
    (hn : PN w L B An nss) (hB : B ≤ w.heap.size) (hx : IS w L' B' A' cyc) (hB' : B' ≤ w.heap.size) :
    Calls Try.prog 101 #[.agg #[.slice A m c, .slice An nss.length cn], .int .i64 i, .slice A' cyc.length c'] w fun e w' => e = .returned (.int .i64 (lcF cyc nss[i])) ∧ Below w.heap.size w w' := by
  obtain ⟨b, rfl, ⟨_, hbB⟩, hcells⟩ := hn (by omega)
  obtain ⟨Ai, ci, r0, hrs⟩ := hcells i hi
  have hbx := (Below.refl w.heap.size w).alloc (Nat.le_refl _) (.cells #[.slice A m c, .slice (some ⟨b, 0, none⟩) nss.length cn] 77)
  have hP := PB.new w (.slice A m c) (.slice (some ⟨b, 0, none⟩) nss.length cn)
  have r1 := (hbx.cell (p := ⟨b, i, none⟩) (show b < _ by omega)).trans r0
  have hRS := Lib.hid fun (W : World) (hW : Below w.heap.size w W) => hrs.below hW hB
  have hIS := Lib.hid fun (W : World) (hW : Below w.heap.size w W) => hx.below hW hB'
  have hii : (i : Int) < (nss.length : Int) := by omega
  have hi0 : (0 : Int) ≤ (i : Int) := by omega
  have hBB := Lib.hid hB'
  have hOk := Lib.hid hok
  have hBx := Lib.hid hbx
  have hTk := Lib.hid fun (k : Nat) (h : k < (nss[i]).length) => lcF_take cyc h
  have hBd := Lib.hid fun (k : Nat) => lcF_bd (cyc := cyc) (b := 1004) (ns := (nss[i]).take k) (by omega) (fun d hd => by
    have := hok d (List.mem_of_mem_take hd)
    omega)
  clear hcells hrs hx hn hB hB' hok hbx
  generalize nss[i] = ns at *
  obtain ⟨q0, q1⟩ := And.intro hP.c0 hP.c1
  clear hP
  go_enter Try.func101, Try.ntmps101
  go_wp2_with (fail)
  clear q0 q1 r1
  go_loopw [7, 16] (fun v q wr => ∃ k : Nat, k ≤ ns.length ∧ q = .int .i64 k ∧ v = .int .i64 (lcF cyc (ns.take k)) ∧ Below w.heap.size w wr) (fun _ q _ => ns.length - (intOf q).toNat)
  case atStart => exact ⟨0, Nat.zero_le _, rfl, rfl, hBx.out⟩
  case round =>
    obtain ⟨k, hk, rfl, rfl, hbel⟩ := hrel
    have hBL := Lib.hid hbel
    clear hbel
    by_cases hlt : k < ns.length
    · obtain ⟨rb, ro, rfl, hrb, c0, c1⟩ := nd_cells (hRS.out wr hBL.out) hlt
      obtain ⟨⟨h1, h2⟩, ⟨h3, h4⟩, h5, h6⟩ := hOk.out _ (List.getElem_mem hlt)
      obtain ⟨xb, xo, rfl, ⟨_, hxb⟩, hxc⟩ := (hIS.out wr hBL.out) (by omega)
      have x0 := hxc _ h2
      have hTkk := Lib.hid (hTk.out k hlt)
      have hB1 := hBd.out k
      have hB2 := hBd.out (k + 1)
      obtain ⟨t, ht⟩ := Int.eq_ofNat_of_zero_le h1
      rw [ht] at c0 h2
      simp only [ht, Int.toNat_natCast] at x0 h5 h6
      rw [Hid, ht, Int.toNat_natCast] at hTkk
      have hTk2 := Lib.hid hTkk
      have hgd : cyc.getD t 0 = cyc[t]'(by simpa using h2) := by rw [List.getD_eq_getElem?_getD, List.getElem?_eq_getElem (by simpa using h2)]; rfl
      rw [← hgd] at x0
      have ht2 : (t : Int) < (cyc.length : Int) := by simp at h2; omega
      have ht0 : (0 : Int) ≤ (t : Int) := by omega
      have hki : (k : Int) < (ns.length : Int) := by omega
      have hBn := Lib.hid (hBL.out.alloc hBL.out.size (.cells #[.int .i64 t, .int .i64 ns[k].2] 117))
      clear hxc h1 h2 hgd hTkk
      generalize ns[k].2 = dd at *
      generalize ns[k].1 = dk at *
      subst ht
      generalize cyc.getD t 0 = y at *
      generalize hTT : lcF cyc (ns.take (k + 1)) = z1 at *
      have hTh := Lib.hid hTT
      clear hTT
      generalize lcF cyc (ns.take k) = z at *
      have hz1 : z1 = max z (y + dd) := hTk2.out
      have hw : IntKind.i64.wrap (y + dd) = y + dd := IntWalk.i64_in _ (by omega)
      have hZ := Lib.hid hz1
      clear hz1 hTk2 hB1 hB2
      obtain ⟨wb, hwb⟩ : ∃ wb : World, wb = wr.alloc (.cells #[.int .i64 t, .int .i64 dd] 117) := ⟨_, rfl⟩
      obtain ⟨n0, n1⟩ := box2_9 wr (.int .i64 t) (.int .i64 dd) 117
      have x1 := (((Below.refl wr.heap.size wr).alloc (Nat.le_refl _) (.cells #[.int .i64 t, .int .i64 dd] 117)).cell (p := ⟨xb, xo + t, none⟩) (show xb < wr.heap.size by have := hBL.out.size; have := hBB.out; omega)).trans x0
      go_wp2_with (fail)
      rw [← hwb] at n0 n1 x1 hBn ⊢
      clear hwb x0
      generalize wr.heap.size = gx at *
      go_quiet (fail)
      go_wp2
      go_roundw
      case rel => exact ⟨k + 1, by omega, by go_num, by rw [hTh.out, hZ.out], below_drewN hBn.out _⟩
      case measure => simp [intOf]; omega
    · obtain rfl : k = ns.length := by omega
      rw [List.take_length]
      go_wp2
      go_ret
      exact ⟨rfl, hBL.out⟩
end Go.Proofs.Ytpgdccfpegdcoaa

/- Chapter 9: EarliestOf of the program. -/
namespace Go.Proofs.Ytpgdccfpegdcoaa
open Go.RowKit
set_option linter.unusedVariables false
set_option maxRecDepth 100000

theorem er_ok {cs : List In} {k : Nat} (h20 : cs.length ≤ 20) (hk : k < cs.length) : NdOk (er cs k) (ndL cs k cs.length) := by
  intro d hd
  obtain ⟨i, h1, h2, h3, rfl⟩ := mem_ndL hd
  have h4 := dT_bd cs i k
  have h5 : i < (er cs k).length := by rw [er_len]; exact h1
  have h6 := er_bd cs k _ (List.getElem_mem h5)
  refine ⟨⟨by simp, by simpa using h5⟩, ⟨h3, h4.2⟩, ?_⟩
  simp only [Int.toNat_natCast]
  rw [List.getD_eq_getElem?_getD, List.getElem?_eq_getElem h5, Option.getD_some]
  omega
set_option maxHeartbeats 4000000 in
theorem earliest_any (A : Option Addr) (c : Nat) (L B : Nat) (An : Option Addr) (cn : Nat) (cs : List In) (w : World) (h20 : cs.length ≤ 20) (hn : PN w L B An (nds cs)) (hB : B ≤ w.heap.size) :
    Calls Try.prog 108 #[.agg #[.slice A cs.length c, .slice An cs.length cn]] w (FreshI w (er cs cs.length)) := by
  obtain ⟨i1, hi', hz0', hz1', hz2'⟩ := info_parts Try.infoInt
  have hI0 := Lib.hid hi'
  have hI1 := Lib.hid hz0'
  have hI2 := Lib.hid hz1'
  have hI3 := Lib.hid hz2'
  clear hi' hz0' hz1' hz2'
  have hbx := Lib.hid ((Below.refl w.heap.size w).alloc (Nat.le_refl _) (.cells #[.slice A cs.length c, .slice An cs.length cn] 77))
  have hP := Lib.hid (PB.new w (.slice A cs.length c) (.slice An cs.length cn))
  have hLC := Lib.hid fun (k : Nat) (hk : k < cs.length) (A' : Option Addr) (c' lo : Nat) (W : World) (hW : Below w.heap.size w W) (hx : IS W lo W.heap.size A' (er cs k)) => (show Calls Try.prog 101 #[.agg #[.slice A cs.length c, .slice An cs.length cn], .int .i64 k, .slice A' k c'] W fun e w' => e = .returned (.int .i64 (lcF (er cs k) (ndL cs k cs.length))) ∧ Below W.heap.size W w' from by
    have hk2 : k < (nds cs).length := by rw [nds_len]; exact hk
    have h := leastCycle_any A cs.length c L B An cn (nds cs) k lo W.heap.size A' c' (er cs k) W hk2 (by rw [nds_at]; exact Nat.le_trans (ndL_len _ _ _) (by omega)) (by rw [nds_at]; exact er_ok h20 hk) (hn.below hW hB) (Nat.le_trans hB hW.size) hx (Nat.le_refl _)
    rw [nds_at, nds_len, er_len] at h
    exact h)
  have hEs := Lib.hid fun (k : Nat) => (show er cs (k + 1) = er cs k ++ [lcF (er cs k) (ndL cs k cs.length)] from rfl)
  have hEl := Lib.hid (er_len cs)
  have hE0 : Hid (er cs 0 = []) := rfl
  clear hn hB
  generalize hEE : er cs cs.length = EE at *
  have hEEh := Lib.hid hEE
  clear hEE
  have hEEl : EE.length = cs.length := by rw [← hEEh.out]; exact hEl.out _
  generalize (fun k => lcF (er cs k) (ndL cs k cs.length)) = lc at *
  go_enter Try.func108, Try.ntmps108
  go_wp2_with (fail)
  have hP1 := hP.out.c0
  have hP2 := hP.out.c1
  go_wp2_with (fail)
  clear hP1 hP2
  obtain ⟨g1, hg1⟩ : ∃ g1, g1 = w.heap.size := ⟨_, rfl⟩
  have hlt1 : g1 < (w.alloc (.cells #[.slice A cs.length c, .slice An cs.length cn] 77)).heap.size := by rw [hg1]; simp
  rw [← hg1] at hP ⊢
  have hG1 := Lib.hid hg1
  clear hg1
  generalize w.alloc (.cells #[.slice A cs.length c, .slice An cs.length cn] 77) = W1 at *
  go_loopw [3, 8] (fun v q wr => ∃ k : Nat, k ≤ cs.length ∧ q = .int .i64 k ∧ OW wr W1.heap.size wr.heap.size v (er cs k) ∧ Below W1.heap.size W1 wr) (fun _ q _ => cs.length - (intOf q).toNat)
  case atStart => exact ⟨0, Nat.zero_le _, rfl, by rw [hE0.out]; exact OW.nil _ _ _, Below.refl _ _⟩
  case round =>
    obtain ⟨k, hk, rfl, how, hbel⟩ := hrel
    obtain ⟨V, cv, rfl, hIS⟩ := how.form
    have hO := Lib.hid how
    have hBL := Lib.hid hbel
    clear how hbel
    rw [hEl.out] at hO ⊢
    by_cases hlt : k < cs.length
    · have hki : (k : Int) < (cs.length : Int) := by omega
      have hC := Lib.hid (hLC.out k hlt V cv W1.heap.size wr (hbx.out.trans (hBL.out.mono hbx.out.size)) hIS)
      have hPr := CB.below hP.out hBL.out hlt1
      have hEk := Lib.hid (hEs.out k)
      have hEkl := hEl.out k
      have p0 := PB.c0 hPr
      have p1 := PB.c1 hPr
      clear hIS hPr
      generalize hTT : er cs (k + 1) = En at *
      have hTh := Lib.hid hTT
      clear hTT
      generalize lcF (er cs k) (ndL cs k cs.length) = y at *
      generalize er cs k = xs at *
      have hlo := Lib.hid hO.out.lo
      have hzw := hBL.out.size
      go_wp2_with (fail)
      refine hC.out.mono ?_
      rintro e w2 ⟨rfl, hb2⟩
      have hB2 := Lib.hid (hBL.out.trans (hb2.mono hBL.out.size))
      have ho2 := Lib.hid (((hO.out.below hb2 (Nat.le_refl _)).more hb2.size).1.alloc (.cells #[.int .i64 y] 3))
      have hb3 := Lib.hid (hB2.out.alloc hB2.out.size (.cells #[.int .i64 y] 3))
      clear hb2 p0 p1
      go_wp2_with (at_builtin; go_loud (refine wpList_append_own _ rfl _ _ 38 rfl W1.heap.size 3 i1 (.int .i64 0) 1 8 Try.underlying38 hI0.out hI1.out hI2.out hI3.out rfl (by decide) _ _ _ rfl ho2.out ⟨w2.heap.size, 0, none⟩ 1 1 [.int .i64 y] rfl rfl (new1 rfl) (one1 _) (by unfold maxLen; omega) (by omega) (by have := hB2.out.size; simp; omega) ?_); intro v' w4 hown4 hgr4 _)
      have R1 := Lib.hid (show OW w4 W1.heap.size w4.heap.size v' En from by rw [hEk.out]; exact OW.push (by simpa using hown4))
      have R2 := Lib.hid (hb3.out.grown hgr4 hb3.out.size (fun k hk => (hlo.out k hk).1))
      clear hown4 hgr4
      go_wp2
      go_roundw
      case rel => exact ⟨k + 1, by omega, by go_num, by rw [hTh.out]; exact R1.out, R2.out⟩
      case measure => simp [intOf]; omega
    · obtain rfl : k = cs.length := by omega
      have hfin := Lib.hid (hbx.out.trans (hBL.out.mono hbx.out.size))
      have hO9 := Lib.hid (hO.out.lower hbx.out.size)
      rw [hEEh.out] at hO9
      clear hIS
      go_wp2
      go_ret
      exact ⟨V, cv, by rw [hEEl]; rfl, by rw [hEEl]; exact hO9.out, hfin.out⟩

def erR (cs : List In) : List Int := if orGood cs = true then er cs cs.length else []
theorem erR_yes {cs : List In} (h : orGood cs = true) : erR cs = er cs cs.length := by unfold erR; rw [if_pos h]
theorem erR_no {cs : List In} (h : orGood cs = false) : erR cs = [] := by unfold erR; rw [h]; rfl
theorem erR_len (cs : List In) : (erR cs).length ≤ 1048576 := by
  cases h : orGood cs
  · rw [erR_no h]; simp
  · rw [erR_yes h, er_len]; have := (orGood_parts h).1; omega

set_option maxHeartbeats 4000000 in
theorem iEarliestOf_k (L B : Nat) (A : Option Addr) (c : Nat) (cs : List In) (w : World) (hl : cs.length ≤ 1048576) (hes : RS In.enc 5 w L B A cs) (hB : B ≤ w.heap.size) (hcap : cs.length ≤ c) :
    Calls Try.prog 53 #[.slice A cs.length c] w (ResEarliestOf (erR cs) (orGood cs) w) := by
  cases hg : orGood cs
  · have H := Lib.hid (planOf_no L B A c cs w hg hl hes hB hcap)
    have hR := Lib.hid (erR_no hg)
    clear hg hes
    generalize erR cs = R at *
    go_enter Try.func53, Try.ntmps53
    go_wp2_with (fail)
    refine H.out.mono ?_
    rintro e w1 ⟨rfl, hb1⟩
    have hB1 := Lib.hid (hb1.alloc hb1.size (.cells #[.slice none 0 0, .slice none 0 0] 77))
    clear hb1
    go_wp2
    go_ret2
    rw [hR.out]
    exact ⟨none, 0, rfl, OW.nil _ _ _, hB1.out⟩
  · have H := Lib.hid (planOf_yes L B A c cs w hg hl hes hB hcap)
    have hR := Lib.hid (erR_yes hg)
    have h20 := (orGood_parts hg).1
    clear hg hes
    generalize erR cs = R at *
    go_enter Try.func53, Try.ntmps53
    go_wp2_with (fail)
    refine H.out.mono ?_
    rintro e w1 ⟨An, cn, rfl, hpn, hb1⟩
    have a1 := (Below.refl w1.heap.size w1).alloc (Nat.le_refl _) (.cells #[.slice A cs.length c, .slice An cs.length cn] 77)
    have hB1 := Lib.hid (hb1.trans (a1.mono hb1.size))
    have hE := Lib.hid (earliest_any A c w.heap.size w1.heap.size An cn cs (w1.alloc (.cells #[.slice A cs.length c, .slice An cs.length cn] 77)) h20 (hpn.below a1 (Nat.le_refl _)) a1.size)
    have hP := PB.new w1 (.slice A cs.length c) (.slice An cs.length cn)
    have p0 := hP.c0
    have p1 := hP.c1
    clear a1 hb1 hpn hP
    generalize er cs cs.length = E at *
    go_wp2_with (fail)
    refine hE.out.mono ?_
    rintro e w2 ⟨A2, c2, rfl, ho2, hb2⟩
    have hO2 := Lib.hid (ho2.lower hB1.out.size)
    have hB2 := Lib.hid (hB1.out.trans (hb2.mono hB1.out.size))
    clear ho2 hb2 p0 p1
    go_wp2
    go_ret2
    rw [hR.out]
    exact ⟨A2, c2, rfl, hO2.out, hB2.out⟩
end Go.Proofs.Ytpgdccfpegdcoaa

/- Chapter 9: EarliestOf of the model. -/
namespace Go.Proofs.Ytpgdccfpegdcoaa
open Go.RowKit
set_option linter.unusedVariables false
set_option maxRecDepth 100000

theorem OW.len9 {w : World} {lo hi n c : Nat} {A : Option Addr} {xs : List Int} (h : OW w lo hi (.slice A n c) xs) : n = xs.length := by
  obtain ⟨A2, c2, hv, _⟩ := h.form
  injection hv with a b d
theorem OW.at9 {w : World} {lo hi n c g : Nat} {xs : List Int} (h : OW w lo hi (.slice (some ⟨g, 0, none⟩) n c) xs) (k : Nat) (hk : k < xs.length) : w.cell? ⟨g, k, none⟩ = some (.int .i64 (xs.getD k 0)) ∧ w.frozen? ⟨g, k, none⟩ = false := by
  have hl := h.len9
  subst hl
  have hcell := h.1.cellAt k (by omega)
  have hfr := h.1.frozenAt k
  rw [List.getElem?_map, List.getElem?_eq_getElem hk] at hcell
  rw [List.getD_eq_getElem?_getD, List.getElem?_eq_getElem hk]
  exact ⟨by simpa using hcell, hfr⟩
theorem OW.put9 {w : World} {lo hi n c g : Nat} {xs : List Int} (h : OW w lo hi (.slice (some ⟨g, 0, none⟩) n c) xs) (k : Nat) (x : Int) : OW (w.setCell ⟨g, k, none⟩ (.int .i64 x)) lo hi (.slice (some ⟨g, 0, none⟩) n c) (xs.set k x) := by
  have hl := h.len9
  subst hl
  refine ⟨?_, h.2⟩
  have h1 := (h.1.stored k (.int .i64 x)).1
  rw [← List.map_set] at h1
  rw [List.length_set]; exact h1
def eo (cs : List In) (j : Nat) : List Int := er cs j ++ List.replicate (cs.length - j) 0
def ei (cs : List In) (j i : Nat) : List Int := (eo cs j).set j (lcF (er cs j) (ndL cs j i))
theorem eo_len {cs : List In} {j : Nat} (h : j ≤ cs.length) : (eo cs j).length = cs.length := by unfold eo; rw [List.length_append, er_len, List.length_replicate]; omega
theorem ei_len {cs : List In} {j : Nat} (i : Nat) (h : j ≤ cs.length) : (ei cs j i).length = cs.length := by unfold ei; rw [List.length_set, eo_len h]
theorem eo_zero (cs : List In) : eo cs 0 = List.replicate cs.length 0 := rfl
theorem eo_end (cs : List In) : eo cs cs.length = er cs cs.length := by unfold eo; rw [Nat.sub_self]; simp
theorem eo_at_lt {cs : List In} {i j : Nat} (h : i < j) : (eo cs j).getD i 0 = (er cs j).getD i 0 := by
  unfold eo
  rw [List.getD_eq_getElem?_getD, List.getElem?_append_left (by rw [er_len]; exact h), ← List.getD_eq_getElem?_getD]
theorem eo_split {cs : List In} {j : Nat} (h : j < cs.length) : eo cs j = er cs j ++ 0 :: List.replicate (cs.length - (j + 1)) 0 := by
  unfold eo
  rw [show cs.length - j = (cs.length - (j + 1)) + 1 by omega, List.replicate_succ]
theorem ei_split {cs : List In} {j : Nat} (i : Nat) (h : j < cs.length) : ei cs j i = er cs j ++ lcF (er cs j) (ndL cs j i) :: List.replicate (cs.length - (j + 1)) 0 := by
  unfold ei
  rw [eo_split h, List.set_append_right _ _ (by rw [er_len]; exact Nat.le_refl _), er_len, Nat.sub_self]; rfl
theorem ei_zero {cs : List In} {j : Nat} (h : j < cs.length) : ei cs j 0 = eo cs j := by
  rw [ei_split 0 h, eo_split h]; rfl
theorem ei_end {cs : List In} {j : Nat} (h : j < cs.length) : ei cs j j = eo cs (j + 1) := by
  rw [ei_split j h]
  unfold eo
  rw [er, ndL_stop cs j cs.length (by omega), List.append_assoc]; rfl
theorem ei_at {cs : List In} {j : Nat} (i : Nat) (h : j < cs.length) : (ei cs j i).getD j 0 = lcF (er cs j) (ndL cs j i) := by
  rw [ei_split i h, List.getD_eq_getElem?_getD, List.getElem?_append_right (by rw [er_len]; exact Nat.le_refl _), er_len]; simp
theorem ei_lt {cs : List In} {j k : Nat} (i : Nat) (h : j < cs.length) (hk : k < j) : (ei cs j i).getD k 0 = (er cs j).getD k 0 := by
  rw [ei_split i h, List.getD_eq_getElem?_getD, List.getElem?_append_left (by rw [er_len]; exact hk), ← List.getD_eq_getElem?_getD]
theorem ei_yes {cs : List In} {j i : Nat} (hj : j < cs.length) (hi : i < j) (h : 0 ≤ dT cs i j) : ei cs j (i + 1) = (ei cs j i).set j (max ((ei cs j i).getD j 0) ((ei cs j i).getD i 0 + dT cs i j)) := by
  rw [ei_at i hj, ei_lt i hj hi]
  unfold ei
  rw [List.set_set, ndL_yes h, lcF_snoc]; rfl
theorem ei_no {cs : List In} {j i : Nat} (h : ¬ 0 ≤ dT cs i j) : ei cs j (i + 1) = ei cs j i := by
  unfold ei; rw [ndL_no h]
theorem ei_bd {cs : List In} {j : Nat} (i k : Nat) (h20 : cs.length ≤ 20) (hj : j < cs.length) (hi : i ≤ j) : 0 ≤ (ei cs j i).getD k 0 ∧ (ei cs j i).getD k 0 ≤ 1000 := by
  have hok := er_ok h20 hj
  have hl : 0 ≤ lcF (er cs j) (ndL cs j i) ∧ lcF (er cs j) (ndL cs j i) ≤ 1000 := by
    have := lcF_bd (cyc := er cs j) (b := 100) (ns := ndL cs j i) (by omega) (fun d hd => by
      obtain ⟨q, h1, h2, h3, rfl⟩ := mem_ndL hd
      have h4 := dT_bd cs q j
      have h5 : q < (er cs j).length := by rw [er_len]; exact h1
      have h6 := er_bd cs j _ (List.getElem_mem h5)
      simp only [Int.toNat_natCast]
      rw [List.getD_eq_getElem?_getD, List.getElem?_eq_getElem h5, Option.getD_some]
      omega)
    omega
  rw [ei_split i hj, List.getD_eq_getElem?_getD]
  cases hk : (er cs j ++ lcF (er cs j) (ndL cs j i) :: List.replicate (cs.length - (j + 1)) 0)[k]? with
  | none => simp
  | some x =>
    have hx := List.mem_of_getElem? hk
    rw [Option.getD_some]
    rcases List.mem_append.1 hx with hx | hx
    · have := er_bd cs j x hx; omega
    · rcases List.mem_cons.1 hx with rfl | hx
      · exact hl
      · have := (List.mem_replicate.1 hx).2; omega

set_option maxHeartbeats 8000000 in
theorem orEarliest_any (L B : Nat) (A : Option Addr) (c : Nat) (cs : List In) (w : World) (hl : cs.length ≤ 20) (hgood : ∀ x ∈ cs, goodIn x = true) (hes : RS In.enc 5 w L B A cs) (hB : B ≤ w.heap.size) :
    Calls Try.prog 107 #[.slice A cs.length c] w (FreshI w (er cs cs.length)) := by
  have H := Lib.hid (orDelays_any L B A c cs w hl hgood hes hB)
  have hmk := run_make_ints cs.length (by omega)
  have hRl := Lib.hid (dRows_len cs cs.length)
  have hRa := Lib.hid fun (i : Nat) (h : i < (dRows cs cs.length).length) => dRows_at cs cs.length h
  have hTl := Lib.hid (dTab_len cs)
  have hTa := Lib.hid fun (i j : Nat) (h : j < (dTab cs i cs.length).length) => dTab_at cs i cs.length h
  have hE0 : Hid (zeros cs.length = eo cs 0) := (eo_zero cs).symm
  have hEe := Lib.hid (eo_end cs)
  have hEl := Lib.hid fun (j : Nat) (h : j ≤ cs.length) => eo_len h
  have hIl := Lib.hid fun (j i : Nat) (h : j ≤ cs.length) => ei_len i h
  have hIz := Lib.hid fun (j : Nat) (h : j < cs.length) => ei_zero h
  have hIe := Lib.hid fun (j : Nat) (h : j < cs.length) => ei_end h
  have hIy := Lib.hid fun (j i : Nat) (hj : j < cs.length) (hi : i < j) (h : 0 ≤ dT cs i j) => ei_yes hj hi h
  have hIn := Lib.hid fun (j i : Nat) (h : ¬ 0 ≤ dT cs i j) => ei_no h
  have hIb := Lib.hid fun (j i k : Nat) (hj : j < cs.length) (hi : i ≤ j) => ei_bd i k hl hj hi
  have hDb := Lib.hid fun (i j : Nat) => dT_bd cs i j
  have hEr := Lib.hid (er_len cs cs.length)
  clear hes hgood hB
  generalize dRows cs cs.length = TT at *
  generalize dTab cs = T at *
  generalize dT cs = E at *
  generalize eo cs = EO at *
  generalize ei cs = EI at *
  generalize er cs cs.length = ER at *
  go_enter Try.func107, Try.ntmps107
  go_wp2_with (fail)
  refine H.out.mono ?_
  rintro e w1 ⟨At, ct, rfl, hox, hb1⟩
  have hXT := Lib.hid (OX.rs hox)
  have hB1 := Lib.hid hb1
  have hO0 : Hid (OW (w1.alloc (.cells (intCells (zeros cs.length)) 3)) w1.heap.size (w1.alloc (.cells (intCells (zeros cs.length)) 3)).heap.size (.slice (some ⟨w1.heap.size, 0, none⟩) cs.length cs.length) (EO 0)) := by
    have h : IB (w1.alloc (.cells (intCells (zeros cs.length)) 3)) w1.heap.size 3 (zeros cs.length) := heap_alloc_new w1 _
    have h2 := OW.ofIB (lo := w1.heap.size) (hi := (w1.alloc (.cells (intCells (zeros cs.length)) 3)).heap.size) h (by simp [zeros]; omega) (Nat.le_refl _) (by simp)
    have hz : (zeros cs.length).length = cs.length := by simp [zeros]
    rw [hz, hE0.out] at h2
    rw [hE0.out]
    exact h2
  have hb2 := Lib.hid ((Below.refl w1.heap.size w1).alloc (Nat.le_refl _) (.cells (intCells (zeros cs.length)) 3))
  clear hox hb1
  rw [hRl.out]
  go_wp2_with (fail)
  clear hmk
  generalize hg : w1.heap.size = g at hO0 ⊢
  generalize w1.alloc (.cells (intCells (zeros cs.length)) 3) = W2 at *
  have hG := Lib.hid hg
  clear hg
  go_loopw [14] (fun q wr => ∃ j : Nat, j ≤ cs.length ∧ q = .int .i64 j ∧ OW wr g wr.heap.size (.slice (some ⟨g, 0, none⟩) cs.length cs.length) (EO j) ∧ Below w1.heap.size w1 wr) (fun q _ => cs.length - (intOf q).toNat)
  case atStart => exact ⟨0, Nat.zero_le _, rfl, hO0.out, hb2.out⟩
  case round =>
    clear hO0 hb2
    obtain ⟨j, hj, rfl, how, hbel⟩ := hrel
    have hO := Lib.hid how
    have hBL := Lib.hid hbel
    clear how hbel
    by_cases hlt : j < cs.length
    · have hji : (j : Int) < (cs.length : Int) := by omega
      have hj0 : (0 : Int) ≤ (j : Int) := by omega
      go_wp2
      go_loopw [6] (fun q wq => ∃ i : Nat, i ≤ j ∧ q = .int .i64 i ∧ OW wq g wq.heap.size (.slice (some ⟨g, 0, none⟩) cs.length cs.length) (EI j i) ∧ Below w1.heap.size w1 wq) (fun q _ => j - (intOf q).toNat)
      case atStart => exact ⟨0, Nat.zero_le _, rfl, by rw [hIz.out j hlt]; exact hO.out, hBL.out⟩
      case round =>
        clear hO hBL
        obtain ⟨i, hi, rfl, how, hbel⟩ := hrel
        have hO := Lib.hid how
        have hBL := Lib.hid hbel
        clear how hbel
        by_cases hij : i < j
        · have hiji : (i : Int) < (j : Int) := by omega
          have hi0 : (0 : Int) ≤ (i : Int) := by omega
          have hin : (i : Int) < (cs.length : Int) := by omega
          obtain ⟨xb, xo, Ai, ci, rfl, hxb, xc0, hI⟩ := XS.at hXT.out (show i < TT.length by rw [hRl.out]; omega)
          rw [hRa.out i (by rw [hRl.out]; omega)] at xc0 hI
          rw [hTl.out] at xc0
          obtain ⟨rb, ro, rfl, ⟨_, hrb⟩, hcc⟩ := hI (by rw [hTl.out]; omega)
          have rc0 := hcc j (by rw [hTl.out]; exact hlt)
          rw [hTa.out i j (by rw [hTl.out]; exact hlt)] at rc0
          have xc := (hBL.out.cell (p := ⟨xb, xo + i, none⟩) hxb).trans xc0
          have rc := (hBL.out.cell (p := ⟨rb, ro + j, none⟩) hrb).trans rc0
          have hlen := hIl.out j i hj
          obtain ⟨oj, fj⟩ := OW.at9 hO.out j (by rw [hlen]; exact hlt)
          obtain ⟨oi, _⟩ := OW.at9 hO.out i (by rw [hlen]; omega)
          have hY := Lib.hid (hIy.out j i hlt hij)
          have hN := Lib.hid (hIn.out j i)
          have hb0 := hIb.out j i i hlt hi
          have hb1 := hDb.out i j
          have hPut := Lib.hid fun (x : Int) => hO.out.put9 j x
          clear hcc hI xc0 rc0
          generalize hTT : EI j (i + 1) = En at *
          have hTh := Lib.hid hTT
          clear hTT
          generalize EI j i = xs at *
          generalize E i j = dd at *
          generalize xs.getD j 0 = yj at *
          generalize xs.getD i 0 = yi at *
          have hw9 : IntKind.i64.wrap (yi + dd) = yi + dd := IntWalk.i64_in _ (by omega)
          by_cases h0 : 0 ≤ dd
          · have hY2 := Lib.hid (hY.out h0)
            clear hY hN
            have hlg : w1.heap.size ≤ g := by rw [hG.out]; exact Nat.le_refl _
            have hBs := Lib.hid ((hBL.out.setCell (p := ⟨g, j, none⟩) hlg (.int .i64 (max yj (yi + dd)))).drew)
            clear hlg
            go_wp2_with (fail)
            have hfin := Lib.hid (show OW (wr.setCell ⟨g, j, none⟩ (.int .i64 (max yj (yi + dd)))).drew g (wr.setCell ⟨g, j, none⟩ (.int .i64 (max yj (yi + dd)))).drew.heap.size (.slice (some ⟨g, 0, none⟩) cs.length cs.length) En from by
              rw [hY2.out]
              have hz : (wr.setCell ⟨g, j, none⟩ (.int .i64 (max yj (yi + dd)))).heap.size = wr.heap.size := World.size_setCell _ _ _
              show OW (wr.setCell ⟨g, j, none⟩ (.int .i64 (max yj (yi + dd)))) g (wr.setCell ⟨g, j, none⟩ (.int .i64 (max yj (yi + dd)))).heap.size _ _
              rw [hz]; exact hPut.out _)
            go_region_law (go_simp; go_at_call 141; (with_reducible refine (l1Most_9 _ _ _).mono ?_); rintro e w' ⟨rfl, rfl⟩)
            all_goals
              go_wp2
              go_roundw
              case rel => exact ⟨i + 1, by omega, by go_num, by rw [hTh.out]; exact hfin.out, hBs.out⟩
              case measure => simp [intOf]; omega
          · have hN2 := Lib.hid (hN.out (by omega))
            clear hY hN
            go_wp2
            go_roundw
            case rel => exact ⟨i + 1, by omega, by go_num, by rw [hTh.out, hN2.out]; exact hO.out, hBL.out⟩
            case measure => simp [intOf]; omega
        · obtain rfl : i = j := by omega
          have hE9 := Lib.hid (hIe.out i hlt)
          go_wp2
          go_roundw
          case rel => exact ⟨i + 1, by omega, by go_num, by rw [← hE9.out]; exact hO.out, hBL.out⟩
          case measure => simp [intOf]; omega
    · obtain rfl : j = cs.length := by omega
      have hfin := Lib.hid (hB1.out.trans (hBL.out.mono hB1.out.size))
      have hlg : w.heap.size ≤ g := by rw [← hG.out]; exact hB1.out.size
      have hO9 := Lib.hid (hO.out.lower hlg)
      rw [hEe.out] at hO9
      clear hlg
      go_wp2
      go_ret
      exact ⟨_, _, by rw [hEr.out]; rfl, by rw [hEr.out]; exact hO9.out, hfin.out⟩

set_option maxHeartbeats 4000000 in
theorem sEarliestOf_k (L B : Nat) (A : Option Addr) (c : Nat) (cs : List In) (w : World) (hl : cs.length ≤ 1048576) (hes : RS In.enc 5 w L B A cs) (hB : B ≤ w.heap.size) :
    Calls Try.prog 52 #[.slice A cs.length c] w (ResEarliestOf (erR cs) (orGood cs) w) := by
  have H := Lib.hid (orGood_any L B A c cs w hl hes hB)
  cases hg : orGood cs
  · have hR := Lib.hid (erR_no hg)
    rw [hg] at H
    clear hg hes
    generalize erR cs = R at *
    go_enter Try.func52, Try.ntmps52
    go_wp2_with (fail)
    refine H.out.mono ?_
    rintro e w1 ⟨rfl, hb1⟩
    have hB1 := Lib.hid hb1
    clear hb1
    go_wp2
    go_ret2
    rw [hR.out]
    exact ⟨none, 0, rfl, OW.nil _ _ _, hB1.out⟩
  · have hR := Lib.hid (erR_yes hg)
    have hGp := orGood_parts hg
    have HE := Lib.hid fun (W : World) (hW : Below w.heap.size w W) => orEarliest_any L B A c cs W hGp.1 hGp.2 (hes.below hW hB) (Nat.le_trans hB hW.size)
    rw [hg] at H
    clear hg hes hGp
    generalize erR cs = R at *
    generalize er cs cs.length = E at *
    go_enter Try.func52, Try.ntmps52
    go_wp2_with (fail)
    refine H.out.mono ?_
    rintro e w1 ⟨rfl, hb1⟩
    have hB1 := Lib.hid hb1
    clear hb1
    go_wp2_with (fail)
    refine (HE.out _ hB1.out).mono ?_
    rintro e w2 ⟨A2, c2, rfl, ho2, hb2⟩
    have hO2 := Lib.hid (ho2.lower hB1.out.size)
    have hB2 := Lib.hid (hB1.out.trans (hb2.mono hB1.out.size))
    clear ho2 hb2
    go_wp2
    go_ret2
    rw [hR.out]
    exact ⟨A2, c2, rfl, hO2.out, hB2.out⟩
end Go.Proofs.Ytpgdccfpegdcoaa

/- Chapter 9: counts of orders, plain; CountOrders of the program. -/
namespace Go.Proofs.Ytpgdccfpegdcoaa
open Go.RowKit
set_option linter.unusedVariables false
set_option maxRecDepth 100000

/-- A set of indices as a list. -/
def bitsL (s : Nat) : List Int := ((List.range 20).filter fun i => s.testBit i).map fun (i : Nat) => (i : Int)
theorem bitsL_in (s : Nat) : ∀ x ∈ bitsL s, 0 ≤ x ∧ x < 20 := by
  intro x hx
  unfold bitsL at hx
  rw [List.mem_map] at hx
  obtain ⟨i, hi, rfl⟩ := hx
  have := (List.mem_filter.1 hi).1
  have : i < 20 := by simpa using this
  omega
theorem bitsL_has {s i : Nat} (hs : s < 1048576) : hasI (bitsL s) i = s.testBit i := by
  rw [Bool.eq_iff_iff]
  unfold hasI
  rw [List.any_eq_true]
  constructor
  · rintro ⟨x, hx, he⟩
    unfold bitsL at hx
    rw [List.mem_map] at hx
    obtain ⟨q, hq, rfl⟩ := hx
    have h2 := (List.mem_filter.1 hq).2
    have : q = i := by have := beq_iff_eq.1 he; omega
    rw [← this]; exact h2
  · intro h
    refine ⟨(i : Int), ?_, by simp⟩
    unfold bitsL
    rw [List.mem_map]
    refine ⟨i, List.mem_filter.2 ⟨?_, h⟩, rfl⟩
    have : i < 20 := by
      rcases Nat.lt_or_ge i 20 with h1 | h1
      · exact h1
      · have h2 : s < 2 ^ i := Nat.lt_of_lt_of_le hs ((show 1048576 ≤ 2 ^ i from Nat.pow_le_pow_right (show 0 < 2 by omega) (show 20 ≤ i from h1)))
        rw [Nat.testBit_lt_two_pow h2] at h; cases h
    simpa using this
theorem bitsL_set {s : Nat} (hs : s < 1048576) : setOf (bitsL s) = s := by
  apply Nat.eq_of_testBit_eq
  intro i
  rw [setOf_bit i (bitsL_in s), bitsL_has hs]
def mayS (cs : List In) (s j : Nat) : Bool := (ndL cs j cs.length).all (fun d => s.testBit d.1.toNat) && !s.testBit j
theorem mayS_eq {cs : List In} {s j : Nat} (hs : s < 1048576) : mayB cs (bitsL s) j = mayS cs s j := by
  unfold mayB mayS ndIn
  rw [bitsL_has hs]
  congr 1
  rw [Bool.eq_iff_iff, List.all_eq_true, List.all_eq_true]
  have key : ∀ d ∈ ndL cs j cs.length, hasI (bitsL s) d.1 = s.testBit d.1.toNat := fun d hd => by
    obtain ⟨i, _, _, _, rfl⟩ := mem_ndL hd
    simp only [Int.toNat_natCast]
    exact bitsL_has hs
  exact ⟨fun h d hd => by rw [← key d hd]; exact h d hd, fun h d hd => by rw [key d hd]; exact h d hd⟩
def bitOn (s j : Nat) : Nat := s ||| (1 <<< j)
theorem bitOn_lt {n s j : Nat} (hs : s < 2 ^ n) (hj : j < n) : bitOn s j < 2 ^ n :=
  Nat.or_lt_two_pow hs (by rw [Nat.one_shiftLeft]; exact Nat.pow_lt_pow_right (by omega) hj)
theorem bitOn_ne {s j : Nat} (h : s.testBit j = false) : bitOn s j ≠ s := by
  intro e
  have h2 : (bitOn s j).testBit j = true := by
    unfold bitOn
    rw [Nat.testBit_or, Nat.one_shiftLeft, Nat.testBit_two_pow_self, Bool.or_true]
  rw [e, h] at h2; cases h2
def cstep (cs : List In) (s : Nat) (c : List Int) (j : Nat) : List Int := if mayS cs s j = true then c.set (bitOn s j) (wrap64 (c.getD (bitOn s j) 0 + c.getD s 0)) else c
def crow (cs : List In) (s : Nat) (c : List Int) (m : Nat) : List Int := (List.range m).foldl (cstep cs s) c
def call9 (cs : List In) (k : Nat) : List Int := (List.range k).foldl (fun c s => crow cs s c cs.length) ((zeros (2 ^ cs.length)).set 0 1)
theorem cstep_len (cs : List In) (s : Nat) (c : List Int) (j : Nat) : (cstep cs s c j).length = c.length := by unfold cstep; split <;> simp
theorem crow_succ (cs : List In) (s : Nat) (c : List Int) (m : Nat) : crow cs s c (m + 1) = cstep cs s (crow cs s c m) m := by unfold crow; rw [List.range_succ, List.foldl_append]; rfl
theorem crow_len (cs : List In) (s : Nat) (c : List Int) : ∀ m, (crow cs s c m).length = c.length
  | 0 => rfl
  | m + 1 => by rw [crow_succ, cstep_len]; exact crow_len cs s c m
theorem call9_succ (cs : List In) (k : Nat) : call9 cs (k + 1) = crow cs k (call9 cs k) cs.length := by unfold call9; rw [List.range_succ, List.foldl_append]; rfl
theorem call9_len (cs : List In) : ∀ k, (call9 cs k).length = 2 ^ cs.length
  | 0 => by show ((zeros (2 ^ cs.length)).set 0 1).length = _; simp [zeros]
  | k + 1 => by rw [call9_succ, crow_len]; exact call9_len cs k
theorem crow_yes {cs : List In} {s m : Nat} {c : List Int} (h : mayS cs s m = true) : crow cs s c (m + 1) = (crow cs s c m).set (bitOn s m) (wrap64 ((crow cs s c m).getD (bitOn s m) 0 + (crow cs s c m).getD s 0)) := by
  rw [crow_succ]; unfold cstep; rw [if_pos h]
theorem crow_no {cs : List In} {s m : Nat} {c : List Int} (h : mayS cs s m = false) : crow cs s c (m + 1) = crow cs s c m := by
  rw [crow_succ]; unfold cstep; rw [h]; rfl
theorem crow_at {cs : List In} {s : Nat} {c : List Int} : ∀ m, (crow cs s c m).getD s 0 = c.getD s 0
  | 0 => rfl
  | m + 1 => by
    have ih := crow_at (cs := cs) (s := s) (c := c) m
    cases h : mayS cs s m
    · rw [crow_no h]; exact ih
    · rw [crow_yes h, ← ih]
      have hb : s.testBit m = false := by
        unfold mayS at h
        rw [Bool.and_eq_true] at h
        simpa using h.2
      have hne := bitOn_ne hb
      rw [List.getD_eq_getElem?_getD, List.getElem?_set_ne hne, ← List.getD_eq_getElem?_getD]
def coK (cs : List In) : Bool := orGood cs && decide (cs.length ≤ 12)
def coR (cs : List In) : Int := if coK cs = true then (call9 cs (2 ^ cs.length)).getD (2 ^ cs.length - 1) 0 else 0
theorem coK_no1 {cs : List In} (h : orGood cs = false) : coK cs = false := by unfold coK; rw [h]; rfl
theorem coK_no2 {cs : List In} (h : ¬ cs.length ≤ 12) : coK cs = false := by unfold coK; rw [decide_eq_false h]; simp
theorem coK_yes {cs : List In} (h : orGood cs = true) (h2 : cs.length ≤ 12) : coK cs = true := by unfold coK; rw [h, decide_eq_true h2]; rfl
theorem coR_no {cs : List In} (h : coK cs = false) : coR cs = 0 := by unfold coR; rw [h]; rfl
theorem coR_yes {cs : List In} (h : coK cs = true) : coR cs = (call9 cs (2 ^ cs.length)).getD (2 ^ cs.length - 1) 0 := by unfold coR; rw [if_pos h]

set_option maxHeartbeats 8000000 in
theorem iCountOrders_k (L B : Nat) (A : Option Addr) (c : Nat) (cs : List In) (w : World) (hl : cs.length ≤ 1048576) (hes : RS In.enc 5 w L B A cs) (hB : B ≤ w.heap.size) (hcap : cs.length ≤ c) :
    Calls Try.prog 42 #[.slice A cs.length c] w (ResCountOrders (coR cs) (coK cs) w) := by
  cases hg : orGood cs
  · have H := Lib.hid (planOf_no L B A c cs w hg hl hes hB hcap)
    have hK := Lib.hid (coK_no1 hg)
    have hR := Lib.hid (coR_no hK.out)
    clear hg hes
    generalize coR cs = R at *
    generalize coK cs = K at *
    go_enter Try.func42, Try.ntmps42
    go_wp2_with (fail)
    refine H.out.mono ?_
    rintro e w1 ⟨rfl, hb1⟩
    have hB1 := Lib.hid (hb1.alloc hb1.size (.cells #[.slice none 0 0, .slice none 0 0] 77))
    clear hb1
    go_wp2
    go_ret2
    rw [hR.out, hK.out]
    exact ⟨rfl, hB1.out⟩
  have H := Lib.hid (planOf_yes L B A c cs w hg hl hes hB hcap)
  by_cases h12 : cs.length ≤ 12
  · have hK := Lib.hid (coK_yes hg h12)
    have hR := Lib.hid (coR_yes hK.out)
    have h20 := (orGood_parts hg).1
    obtain ⟨N, hN⟩ : ∃ N, N = 2 ^ cs.length := ⟨_, rfl⟩
    have hN1 : 1 ≤ N := by rw [hN]; exact Nat.one_le_two_pow
    have hN2 : N ≤ 4096 := by rw [hN]; exact (show 2 ^ cs.length ≤ 4096 from Nat.pow_le_pow_right (show 0 < 2 by omega) (show cs.length ≤ 12 from h12))
    obtain ⟨p, hp⟩ : ∃ p, N = p + 1 := ⟨N - 1, by omega⟩
    have hsh : IntKind.i64.wrap (2 ^ cs.length) = (N : Int) := by
      have e : ((2 : Int) ^ cs.length) = ((2 ^ cs.length : Nat) : Int) := by rw [Int.natCast_pow]; rfl
      rw [e, ← hN, IntWalk.i64_in _ (by omega)]
    have hmk := run_make_ints N (by omega)
    have hMc := Lib.hid fun (An : Option Addr) (cn L1 B1 i s : Nat) (W : World) (hi : i < cs.length) (hs : s < 1048576) (hpn : PN W L1 B1 An (nds cs)) (hB1 : B1 ≤ W.heap.size) => (show Calls Try.prog 90 #[.agg #[.slice A cs.length c, .slice An cs.length cn], .int .i64 i, .int .u64 s] W (fun e w' => e = .returned (.bool (mayS cs s i)) ∧ Below W.heap.size W w') from by
      have h := mayCome_any A cs.length c L1 B1 An cn cs i (bitsL s) W h20 hi (bitsL_in s) hpn hB1
      rw [bitsL_set hs, mayS_eq hs] at h
      exact h)
    have hCl := Lib.hid fun (k : Nat) => (call9_len cs k).trans hN.symm
    have hCs := Lib.hid (call9_succ cs)
    have hC0 : Hid (call9 cs 0 = (zeros N).set 0 1) := by rw [Hid, hN]; rfl
    have hRl := Lib.hid fun (s m : Nat) (c : List Int) => crow_len cs s c m
    have hRy := Lib.hid fun (s m : Nat) (c : List Int) (h : mayS cs s m = true) => crow_yes (c := c) h
    have hRn := Lib.hid fun (s m : Nat) (c : List Int) (h : mayS cs s m = false) => crow_no (c := c) h
    have hR0 : Hid (∀ s c, crow cs s c 0 = c) := fun _ _ => rfl
    have hOn := Lib.hid fun (s j : Nat) (hs : s < N) (hj : j < cs.length) => (show bitOn s j < N by rw [hN] at hs ⊢; exact bitOn_lt hs hj)
    rw [← hN] at hR
    have hR2 : Hid (coR cs = (call9 cs N).getD p 0) := by rw [Hid, hR.out, hp]; rfl
    clear hg hes hR
    have hNh := Lib.hid hN
    clear hN
    generalize coR cs = R at *
    generalize coK cs = K at *
    generalize call9 cs = C at *
    generalize crow cs = CR at *
    generalize mayS cs = MS at *
    go_enter Try.func42, Try.ntmps42
    go_wp2_with (fail)
    refine H.out.mono ?_
    rintro e w1 ⟨An, cn, rfl, hpn, hb1⟩
    obtain ⟨g1, hg1⟩ : ∃ g1, g1 = w1.heap.size := ⟨_, rfl⟩
    have a1 := (Below.refl w1.heap.size w1).alloc (Nat.le_refl _) (.cells #[.slice A cs.length c, .slice An cs.length cn] 77)
    have hB1 := Lib.hid (hb1.trans (a1.mono hb1.size))
    have hP1 := Lib.hid (PB.new w1 (.slice A cs.length c) (.slice An cs.length cn))
    have hN1 := Lib.hid (hpn.below a1 (Nat.le_refl _))
    have hz1 : w1.heap.size < (w1.alloc (.cells #[.slice A cs.length c, .slice An cs.length cn] 77)).heap.size := by simp
    clear a1 hb1 hpn
    have hpN : Hid (N = p + 1) := hp
    clear hp
    have hO0 : Hid (OW ((w1.alloc (.cells #[.slice A cs.length c, .slice An cs.length cn] 77)).alloc (.cells (intCells (zeros N)) 3)) (g1 + 1) ((w1.alloc (.cells #[.slice A cs.length c, .slice An cs.length cn] 77)).alloc (.cells (intCells (zeros N)) 3)).heap.size (.slice (some ⟨g1 + 1, 0, none⟩) N N) (zeros N)) := by
      have h : IB ((w1.alloc (.cells #[.slice A cs.length c, .slice An cs.length cn] 77)).alloc (.cells (intCells (zeros N)) 3)) (w1.alloc (.cells #[.slice A cs.length c, .slice An cs.length cn] 77)).heap.size 3 (zeros N) := heap_alloc_new _ _
      have h2 := OW.ofIB (lo := g1 + 1) (hi := ((w1.alloc (.cells #[.slice A cs.length c, .slice An cs.length cn] 77)).alloc (.cells (intCells (zeros N)) 3)).heap.size) h (by simp [zeros]; omega) (by rw [World.size_alloc, hg1]; exact Nat.le_refl _) (by simp)
      have hz : (zeros N).length = N := by simp [zeros]
      have hsz : (w1.alloc (.cells #[.slice A cs.length c, .slice An cs.length cn] 77)).heap.size = g1 + 1 := by rw [World.size_alloc, hg1]
      rw [hz, hsz] at h2
      exact h2
    have hb2 := Lib.hid ((Below.refl (w1.alloc (.cells #[.slice A cs.length c, .slice An cs.length cn] 77)).heap.size (w1.alloc (.cells #[.slice A cs.length c, .slice An cs.length cn] 77))).alloc (Nat.le_refl _) (.cells (intCells (zeros N)) 3))
    go_upto_region 5 with fail
    rw [← hg1] at hP1 hN1 hz1 ⊢
    generalize hW1 : w1.alloc (.cells #[.slice A cs.length c, .slice An cs.length cn] 77) = W1 at *
    have hzz : W1.heap.size = g1 + 1 := by rw [← hW1, World.size_alloc, hg1]
    clear hW1 hmk
    generalize W1.alloc (.cells (intCells (zeros N)) 3) = W2 at *
    have hG1 := Lib.hid hg1
    have hZz := Lib.hid hzz
    clear hg1 hzz
    obtain ⟨z0, zf⟩ := OW.at9 hO0.out 0 (by simp [zeros]; omega)
    generalize (zeros N).getD 0 0 = y0 at *
    have hP3 := hO0.out.put9 0 1
    rw [← hC0.out] at hP3
    have hzs : (W2.setCell ⟨g1 + 1, 0, none⟩ (.int .i64 1)).heap.size = W2.heap.size := World.size_setCell _ _ _
    have hO3 := Lib.hid (show OW (W2.setCell ⟨g1 + 1, 0, none⟩ (.int .i64 1)) (g1 + 1) (W2.setCell ⟨g1 + 1, 0, none⟩ (.int .i64 1)).heap.size (.slice (some ⟨g1 + 1, 0, none⟩) N N) (C 0) from by rw [hzs]; exact hP3)
    have hb3 := Lib.hid (hb2.out.setCell (p := ⟨g1 + 1, 0, none⟩) (by rw [hZz.out]; exact Nat.le_refl _) (.int .i64 1))
    have hNi : (0 : Int) < (N : Int) := by omega
    clear hP3 hzs hb2 hO0
    go_wp2
    generalize W2.setCell ⟨g1 + 1, 0, none⟩ (.int .i64 1) = W3 at *
    clear z0 zf
    generalize g1 + 1 = gB at *
    go_loopw [30] (fun q wr => ∃ k : Nat, k ≤ N ∧ q = .int .i64 k ∧ OW wr gB wr.heap.size (.slice (some ⟨gB, 0, none⟩) N N) (C k) ∧ Below W1.heap.size W1 wr) (fun q _ => N - (intOf q).toNat)
    case atStart => exact ⟨0, Nat.zero_le _, rfl, hO3.out, hb3.out⟩
    case round =>
      clear hO3 hb3
      obtain ⟨k, hk, rfl, how, hbel⟩ := hrel
      have hO := Lib.hid how
      have hBL := Lib.hid hbel
      clear how hbel
      by_cases hlt : k < N
      · have hki : (k : Int) < (N : Int) := by omega
        have hk0 : (0 : Int) ≤ (k : Int) := by omega
        have hku : IntKind.u64.wrap (k : Int) = (k : Int) := u64_nat (by omega)
        go_wp2
        go_loopw [35] (fun q wq => ∃ m : Nat, m ≤ cs.length ∧ q = .int .i64 m ∧ OW wq gB wq.heap.size (.slice (some ⟨gB, 0, none⟩) N N) (CR k (C k) m) ∧ Below W1.heap.size W1 wq) (fun q _ => cs.length - (intOf q).toNat)
        case atStart => exact ⟨0, Nat.zero_le _, rfl, by rw [hR0.out]; exact hO.out, hBL.out⟩
        case round =>
          clear hO hBL
          obtain ⟨m, hm, rfl, how, hbel⟩ := hrel
          have hO := Lib.hid how
          have hBL := Lib.hid hbel
          clear how hbel
          by_cases hmt : m < cs.length
          · have hmi : (m : Int) < (cs.length : Int) := by omega
            have hm0 : (0 : Int) ≤ (m : Int) := by omega
            have hs20 : k < 1048576 := by omega
            have hPr := CB.below hP1.out hBL.out hz1
            have p0 := PB.c0 hPr
            have p1 := PB.c1 hPr
            have hCm := Lib.hid (hMc.out An cn w.heap.size g1 m k wr hmt hs20 (hN1.out.below hBL.out (Nat.le_of_lt hz1)) (Nat.le_trans (Nat.le_of_lt hz1) hBL.out.size))
            have hxl : (CR k (C k) m).length = N := by rw [hRl.out]; exact hCl.out k
            have hy := Lib.hid (hRy.out k m (C k))
            have hn := Lib.hid (hRn.out k m (C k))
            clear hPr
            generalize hTT : CR k (C k) (m + 1) = X1 at *
            have hTh := Lib.hid hTT
            clear hTT
            generalize CR k (C k) m = X at *
            cases hmay : MS k m
            · rw [hmay] at hCm
              have hX1 := Lib.hid (hn.out hmay)
              clear hmay hy hn
              go_wp2_with (fail)
              refine hCm.out.mono ?_
              rintro e w3 ⟨rfl, hb3⟩
              have hB3 := Lib.hid (hBL.out.trans (hb3.mono hBL.out.size))
              have hO3 := Lib.hid ((hO.out.below hb3 (Nat.le_refl _)).more hb3.size)
              clear hb3 p0 p1
              go_wp2
              go_roundw
              case rel => exact ⟨m + 1, by omega, by go_num, by rw [hTh.out, hX1.out]; exact hO3.out, hB3.out⟩
              case measure => simp [intOf]; omega
            · rw [hmay] at hCm
              have hX1 := Lib.hid (hy.out hmay)
              clear hmay hy hn
              go_wp2_with (fail)
              refine hCm.out.mono ?_
              rintro e w3 ⟨rfl, hb3⟩
              have hB3 := Lib.hid (hBL.out.trans (hb3.mono hBL.out.size))
              have hO3 := Lib.hid ((hO.out.below hb3 (Nat.le_refl _)).more hb3.size)
              clear hb3 p0 p1
              have hWi := Lib.hid fun (W : World) => with_any k m W hs20 (by omega)
              have hb9 := hOn.out k m hlt hmt
              have hb9i : ((bitOn k m : Nat) : Int) < (N : Int) := by omega
              have hb90 : (0 : Int) ≤ ((bitOn k m : Nat) : Int) := by omega
              have hWi2 : Hid (∀ W, Calls Try.prog 91 #[.int .u64 k, .int .i64 m] W fun e w' => e = .returned (.int .u64 ((bitOn k m : Nat) : Int)) ∧ W = w') := hWi.out
              clear hWi
              obtain ⟨o1, f1⟩ := OW.at9 hO3.out (bitOn k m) (by rw [hxl]; exact hb9)
              obtain ⟨o2, _⟩ := OW.at9 hO3.out k (by rw [hxl]; exact hlt)
              have hPut := hO3.out.put9 (bitOn k m) (wrap64 (X.getD (bitOn k m) 0 + X.getD k 0))
              rw [← hX1.out] at hPut
              generalize X.getD (bitOn k m) 0 = v1 at *
              generalize X.getD k 0 = v2 at *
              generalize bitOn k m = bb at *
              have hzs : (w3.setCell ⟨gB, bb, none⟩ (.int .i64 (wrap64 (v1 + v2)))).heap.size = w3.heap.size := World.size_setCell _ _ _
              have hO4 := Lib.hid (show OW (w3.setCell ⟨gB, bb, none⟩ (.int .i64 (wrap64 (v1 + v2)))).drew gB (w3.setCell ⟨gB, bb, none⟩ (.int .i64 (wrap64 (v1 + v2)))).drew.heap.size (.slice (some ⟨gB, 0, none⟩) N N) X1 from by
                show OW (w3.setCell ⟨gB, bb, none⟩ (.int .i64 (wrap64 (v1 + v2)))) gB (w3.setCell ⟨gB, bb, none⟩ (.int .i64 (wrap64 (v1 + v2)))).heap.size _ _
                rw [hzs]; exact hPut)
              have hB4 := Lib.hid ((hB3.out.setCell (p := ⟨gB, bb, none⟩) (by rw [hZz.out]; exact Nat.le_refl _) (.int .i64 (wrap64 (v1 + v2)))).drew)
              clear hPut hzs
              go_wp2_with (fail)
              go_region_law (go_simp; go_at_call 91; (with_reducible refine (hWi2.out _).mono ?_); rintro e w4 ⟨rfl, rfl⟩)
              all_goals
                go_wp2
                go_roundw
                case rel => exact ⟨m + 1, by omega, by go_num, by rw [hTh.out]; exact hO4.out, hB4.out⟩
                case measure => simp [intOf]; omega
          · obtain rfl : m = cs.length := by omega
            have hCk := Lib.hid (hCs.out k)
            go_wp2
            go_roundw
            case rel => exact ⟨k + 1, by omega, by go_num, by rw [hCk.out]; exact hO.out, hBL.out⟩
            case measure => simp [intOf]; omega
      · obtain rfl : k = N := by omega
        have hfin := Lib.hid (hB1.out.trans (hBL.out.mono hB1.out.size))
        obtain ⟨o1, _⟩ := OW.at9 hO.out p (by rw [hCl.out, hpN.out]; exact Nat.lt_succ_self _)
        rw [← hR2.out] at o1
        have hw9 : IntKind.i64.wrap ((k : Int) - 1) = (p : Int) := by have := hpN.out; rw [IntWalk.i64_in _ (by omega)]; omega
        have hp0 : (0 : Int) ≤ (p : Int) := by omega
        have hpk : (p : Int) < (k : Int) := by have := hpN.out; omega
        go_wp2
        go_ret2
        rw [hK.out]
        exact ⟨rfl, hfin.out⟩
  · have hK := Lib.hid (coK_no2 h12)
    have hR := Lib.hid (coR_no hK.out)
    have h12' : (12 : Int) < (cs.length : Int) := by omega
    clear hg hes h12
    generalize coR cs = R at *
    generalize coK cs = K at *
    go_enter Try.func42, Try.ntmps42
    go_wp2_with (fail)
    refine H.out.mono ?_
    rintro e w1 ⟨An, cn, rfl, hpn, hb1⟩
    have hB1 := Lib.hid (hb1.alloc hb1.size (.cells #[.slice A cs.length c, .slice An cs.length cn] 77))
    clear hb1 hpn
    go_wp2
    go_ret2
    rw [hR.out, hK.out]
    exact ⟨rfl, hB1.out⟩
end Go.Proofs.Ytpgdccfpegdcoaa

/- Chapter 9: CountOrders of the model. -/
namespace Go.Proofs.Ytpgdccfpegdcoaa
open Go.RowKit
set_option linter.unusedVariables false
set_option maxRecDepth 100000

/-- Whether j may come, by the first i instructions. -/
def rdS (cs : List In) (s j i : Nat) : Bool := !s.testBit j && (ndL cs j i).all (fun d => s.testBit d.1.toNat)
theorem rdS_zero (cs : List In) (s j : Nat) : rdS cs s j 0 = !s.testBit j := by unfold rdS; simp [ndL]
theorem rdS_yes {cs : List In} {s j i : Nat} (h : 0 ≤ dT cs i j) : rdS cs s j (i + 1) = (rdS cs s j i && s.testBit i) := by
  unfold rdS; rw [ndL_yes h, List.all_append]; simp [Bool.and_assoc]
theorem rdS_no {cs : List In} {s j i : Nat} (h : ¬ 0 ≤ dT cs i j) : rdS cs s j (i + 1) = rdS cs s j i := by
  unfold rdS; rw [ndL_no h]
theorem rdS_end (cs : List In) (s j : Nat) : rdS cs s j cs.length = mayS cs s j := by
  unfold rdS mayS; rw [Bool.and_comm]
theorem bit_mod (s i : Nat) : (((s : Int) / 2 ^ i).tmod 2 == 0) = !s.testBit i ∧ (((s : Int) / 2 ^ i).tmod 2 == 1) = s.testBit i := by
  have e : ((s : Int) / 2 ^ i) = ((s / 2 ^ i : Nat) : Int) := by rw [Int.natCast_ediv, Int.natCast_pow]; rfl
  rw [e, Nat.testBit_eq_decide_div_mod_eq, show (2 : Int) = ((2 : Nat) : Int) from rfl, ← Int.ofNat_tmod]
  generalize s / 2 ^ i = q
  have : q % 2 = 0 ∨ q % 2 = 1 := by omega
  rcases this with h | h <;> simp [h]
theorem i_or {a b : Nat} (ha : a < 4611686018427387904) (hb : b < 4611686018427387904) : bits .or .i64 (a : Int) (b : Int) = ((a ||| b : Nat) : Int) := by
  show IntKind.i64.wrap (((BitVec.ofInt 64 (a : Int) ||| BitVec.ofInt 64 (b : Int)).toNat : Nat) : Int) = _
  rw [BitVec.toNat_or, BitVec.ofInt_natCast, BitVec.ofInt_natCast, BitVec.toNat_ofNat, BitVec.toNat_ofNat, Nat.mod_eq_of_lt (by omega), Nat.mod_eq_of_lt (by omega)]
  have := Nat.or_lt_two_pow (n := 62) ha hb
  exact IntWalk.i64_in _ (by omega)
theorem or_on {s j : Nat} (hs : s < 4096) (hj : j < 20) : bits .or .i64 (s : Int) (2 ^ j) = ((bitOn s j : Nat) : Int) ∧ IntKind.i64.wrap (2 ^ j) = 2 ^ j := by
  have h0 : 2 ^ j < 1048576 := Nat.pow_lt_pow_right (m := j) (n := 20) (a := 2) (by omega) hj
  have e : ((2 : Int) ^ j) = ((2 ^ j : Nat) : Int) := by rw [Int.natCast_pow]; rfl
  refine ⟨?_, ?_⟩
  · rw [e, i_or (by omega) (by omega)]; unfold bitOn; rw [Nat.one_shiftLeft]
  · rw [e]
    obtain ⟨q, hq⟩ : ∃ q, q = 2 ^ j := ⟨_, rfl⟩
    rw [← hq] at h0 ⊢
    exact IntWalk.i64_in _ (by omega)
set_option maxHeartbeats 8000000 in
theorem sCountOrders_k (L B : Nat) (A : Option Addr) (c : Nat) (cs : List In) (w : World) (hl : cs.length ≤ 1048576) (hes : RS In.enc 5 w L B A cs) (hB : B ≤ w.heap.size) :
    Calls Try.prog 41 #[.slice A cs.length c] w (ResCountOrders (coR cs) (coK cs) w) := by
  have H := Lib.hid (orGood_any L B A c cs w hl hes hB)
  cases hg : orGood cs
  · have hK := Lib.hid (coK_no1 hg)
    have hR := Lib.hid (coR_no hK.out)
    rw [hg] at H
    clear hg hes
    generalize coR cs = R at *
    generalize coK cs = K at *
    go_enter Try.func41, Try.ntmps41
    go_wp2_with (fail)
    refine H.out.mono ?_
    rintro e w1 ⟨rfl, hb1⟩
    have hB1 := Lib.hid hb1
    clear hb1
    go_wp2
    go_ret2
    rw [hR.out, hK.out]
    exact ⟨rfl, hB1.out⟩
  rw [hg] at H
  by_cases h12 : cs.length ≤ 12
  · have hK := Lib.hid (coK_yes hg h12)
    have hR := Lib.hid (coR_yes hK.out)
    have hGp := orGood_parts hg
    have HD := Lib.hid fun (W : World) (hW : Below w.heap.size w W) => orDelays_any L B A c cs W hGp.1 hGp.2 (hes.below hW hB) (Nat.le_trans hB hW.size)
    obtain ⟨N, hN⟩ : ∃ N, N = 2 ^ cs.length := ⟨_, rfl⟩
    have hN1 : 1 ≤ N := by rw [hN]; exact Nat.one_le_two_pow
    have hN2 : N ≤ 4096 := by rw [hN]; exact (show 2 ^ cs.length ≤ 4096 from Nat.pow_le_pow_right (show 0 < 2 by omega) (show cs.length ≤ 12 from h12))
    obtain ⟨p, hp⟩ : ∃ p, N = p + 1 := ⟨N - 1, by omega⟩
    have hsh : IntKind.i64.wrap (2 ^ cs.length) = (N : Int) := by
      have e : ((2 : Int) ^ cs.length) = ((2 ^ cs.length : Nat) : Int) := by rw [Int.natCast_pow]; rfl
      rw [e, ← hN, IntWalk.i64_in _ (by omega)]
    have hmk := run_make_ints N (by omega)
    have hCl := Lib.hid fun (k : Nat) => (call9_len cs k).trans hN.symm
    have hCs := Lib.hid (call9_succ cs)
    have hC0 : Hid (call9 cs 0 = (zeros N).set 0 1) := by rw [Hid, hN]; rfl
    have hRl := Lib.hid fun (s m : Nat) (c : List Int) => crow_len cs s c m
    have hRy := Lib.hid fun (s m : Nat) (c : List Int) (h : mayS cs s m = true) => crow_yes (c := c) h
    have hRn := Lib.hid fun (s m : Nat) (c : List Int) (h : mayS cs s m = false) => crow_no (c := c) h
    have hRt := Lib.hid fun (s m : Nat) (c : List Int) => crow_at (cs := cs) (s := s) (c := c) m
    have hR0 : Hid (∀ s c, crow cs s c 0 = c) := fun _ _ => rfl
    have hOn := Lib.hid fun (s j : Nat) (hs : s < N) (hj : j < cs.length) => (show bitOn s j < N by rw [hN] at hs ⊢; exact bitOn_lt hs hj)
    have hD0 := Lib.hid (rdS_zero cs)
    have hDy := Lib.hid fun (s j i : Nat) (h : 0 ≤ dT cs i j) => rdS_yes (s := s) h
    have hDn := Lib.hid fun (s j i : Nat) (h : ¬ 0 ≤ dT cs i j) => rdS_no (s := s) h
    have hDe := Lib.hid (rdS_end cs)
    have hRRl := Lib.hid (dRows_len cs cs.length)
    have hRa := Lib.hid fun (i : Nat) (h : i < (dRows cs cs.length).length) => dRows_at cs cs.length h
    have hTl := Lib.hid (dTab_len cs)
    have hTa := Lib.hid fun (i j : Nat) (h : j < (dTab cs i cs.length).length) => dTab_at cs i cs.length h
    rw [← hN] at hR
    have hR2 : Hid (coR cs = (call9 cs N).getD p 0) := by rw [Hid, hR.out, hp]; rfl
    clear hg hes hR hGp
    have hNh := Lib.hid hN
    have hpN : Hid (N = p + 1) := hp
    clear hN hp
    generalize coR cs = R at *
    generalize coK cs = K at *
    generalize call9 cs = C at *
    generalize crow cs = CR at *
    generalize mayS cs = MS at *
    generalize rdS cs = RD at *
    generalize dRows cs cs.length = TT at *
    generalize dTab cs = T at *
    generalize dT cs = E at *
    go_enter Try.func41, Try.ntmps41
    go_wp2_with (fail)
    refine H.out.mono ?_
    rintro e w0 ⟨rfl, hb0⟩
    have hB0 := Lib.hid hb0
    clear hb0
    go_wp2_with (fail)
    refine (HD.out _ hB0.out).mono ?_
    rintro e w1 ⟨At, ct, rfl, hox, hb1⟩
    have hXT := Lib.hid (OX.rs hox)
    have hB1 := Lib.hid (hB0.out.trans (hb1.mono hB0.out.size))
    clear hox hb1
    rw [hRRl.out]
    obtain ⟨gB, hgB⟩ : ∃ gB, gB = w1.heap.size := ⟨_, rfl⟩
    have hO0 : Hid (OW (w1.alloc (.cells (intCells (zeros N)) 3)) gB (w1.alloc (.cells (intCells (zeros N)) 3)).heap.size (.slice (some ⟨gB, 0, none⟩) N N) (zeros N)) := by
      have h : IB (w1.alloc (.cells (intCells (zeros N)) 3)) w1.heap.size 3 (zeros N) := heap_alloc_new _ _
      have h2 := OW.ofIB (lo := gB) (hi := (w1.alloc (.cells (intCells (zeros N)) 3)).heap.size) h (by simp [zeros]; omega) (by rw [hgB]; exact Nat.le_refl _) (by simp)
      have hz : (zeros N).length = N := by simp [zeros]
      rw [hz, ← hgB] at h2
      exact h2
    have hb2 := Lib.hid ((Below.refl w1.heap.size w1).alloc (Nat.le_refl _) (.cells (intCells (zeros N)) 3))
    go_upto_region 5 with fail
    rw [← hgB]
    clear hmk
    generalize w1.alloc (.cells (intCells (zeros N)) 3) = W2 at *
    have hG1 := Lib.hid hgB
    clear hgB
    obtain ⟨z0, zf⟩ := OW.at9 hO0.out 0 (by simp [zeros]; omega)
    generalize (zeros N).getD 0 0 = y0 at *
    have hP3 := hO0.out.put9 0 1
    rw [← hC0.out] at hP3
    have hzs : (W2.setCell ⟨gB, 0, none⟩ (.int .i64 1)).heap.size = W2.heap.size := World.size_setCell _ _ _
    have hO3 := Lib.hid (show OW (W2.setCell ⟨gB, 0, none⟩ (.int .i64 1)) gB (W2.setCell ⟨gB, 0, none⟩ (.int .i64 1)).heap.size (.slice (some ⟨gB, 0, none⟩) N N) (C 0) from by rw [hzs]; exact hP3)
    have hlg : Hid (w1.heap.size ≤ gB) := by rw [Hid, hG1.out]; exact Nat.le_refl _
    have hb3 := Lib.hid (hb2.out.setCell (p := ⟨gB, 0, none⟩) hlg.out (.int .i64 1))
    have hNi : (0 : Int) < (N : Int) := by omega
    clear hP3 hzs hb2 hO0
    go_wp2
    generalize W2.setCell ⟨gB, 0, none⟩ (.int .i64 1) = W3 at *
    clear z0 zf
    go_loopw [29] (fun q wr => ∃ k : Nat, k ≤ N ∧ q = .int .i64 k ∧ OW wr gB wr.heap.size (.slice (some ⟨gB, 0, none⟩) N N) (C k) ∧ Below w1.heap.size w1 wr) (fun q _ => N - (intOf q).toNat)
    case atStart => exact ⟨0, Nat.zero_le _, rfl, hO3.out, hb3.out⟩
    case round =>
      clear hO3 hb3
      obtain ⟨k, hk, rfl, how, hbel⟩ := hrel
      have hO := Lib.hid how
      have hBL := Lib.hid hbel
      clear how hbel
      by_cases hlt : k < N
      · have hki : (k : Int) < (N : Int) := by omega
        have hk0 : (0 : Int) ≤ (k : Int) := by omega
        obtain ⟨oc, _⟩ := OW.at9 hO.out k (by rw [hCl.out]; exact hlt)
        have hRtk := Lib.hid fun (m : Nat) => hRt.out k m (C k)
        generalize (C k).getD k 0 = cv at *
        go_wp2
        clear oc
        go_loopw [36] (fun q wq => ∃ m : Nat, m ≤ cs.length ∧ q = .int .i64 m ∧ OW wq gB wq.heap.size (.slice (some ⟨gB, 0, none⟩) N N) (CR k (C k) m) ∧ Below w1.heap.size w1 wq) (fun q _ => cs.length - (intOf q).toNat)
        case atStart => exact ⟨0, Nat.zero_le _, rfl, by rw [hR0.out]; exact hO.out, hBL.out⟩
        case round =>
          clear hO hBL
          obtain ⟨m, hm, rfl, how, hbel⟩ := hrel
          have hO := Lib.hid how
          have hBL := Lib.hid hbel
          clear how hbel
          by_cases hmt : m < cs.length
          · have hmi : (m : Int) < (cs.length : Int) := by omega
            have hm0 : (0 : Int) ≤ (m : Int) := by omega
            have hm64 : (m : Int) < 64 := by omega
            have hxl : (CR k (C k) m).length = N := by rw [hRl.out]; exact hCl.out k
            have hxk := hRtk.out m
            have hy := Lib.hid (hRy.out k m (C k))
            have hn := Lib.hid (hRn.out k m (C k))
            have hbm := (bit_mod k m).1
            have hd0 := Lib.hid (hD0.out k m)
            have hde := Lib.hid (hDe.out k m)
            have hDyk := Lib.hid fun (i : Nat) => hDy.out k m i
            have hDnk := Lib.hid fun (i : Nat) => hDn.out k m i
            generalize hTT : CR k (C k) (m + 1) = X1 at *
            have hTh := Lib.hid hTT
            clear hTT
            generalize CR k (C k) m = X at *
            generalize RD k m = RM at *
            obtain ⟨wo, hwo⟩ : ∃ wo : World, wo = wr := ⟨_, rfl⟩
            rw [← hwo] at hO hBL ⊢
            clear hwo
            go_wp2
            clear hbm
            go_loop [9, 46] (fun u q => ∃ i : Nat, i ≤ cs.length ∧ q = .int .i64 i ∧ u = .bool (RM i)) (fun _ q => cs.length - (intOf q).toNat)
            case atStart => exact ⟨0, Nat.zero_le _, rfl, by rw [hd0.out]⟩
            case round =>
              obtain ⟨i, hi, rfl, rfl⟩ := hrel
              by_cases hij : i < cs.length
              · have hii : (i : Int) < (cs.length : Int) := by omega
                have hi0 : (0 : Int) ≤ (i : Int) := by omega
                have hi64 : (i : Int) < 64 := by omega
                obtain ⟨xb, xo, Ai, ci, rfl, hxb, xc0, hI⟩ := XS.at hXT.out (show i < TT.length by rw [hRRl.out]; omega)
                have xc := (hBL.out.cell (p := ⟨xb, xo + i, none⟩) hxb).trans xc0
                rw [hRa.out i (by rw [hRRl.out]; omega)] at xc hI
                rw [hTl.out] at xc
                obtain ⟨rb, ro, rfl, ⟨_, hrb⟩, hcc⟩ := hI (by rw [hTl.out]; omega)
                have rc := (hBL.out.cell (p := ⟨rb, ro + m, none⟩) hrb).trans (hcc m (by rw [hTl.out]; exact hmt))
                rw [hTa.out i m (by rw [hTl.out]; exact hmt)] at rc
                have hbi := (bit_mod k i).2
                have hY := Lib.hid (hDyk.out i)
                have hN' := Lib.hid (hDnk.out i)
                clear hcc hI xc0
                generalize hr1 : RM (i + 1) = r1 at *
                have hR1 := Lib.hid hr1
                clear hr1
                generalize RM i = r at *
                generalize E i m = dd at *
                generalize k.testBit i = tb at *
                cases r
                · have hF : Hid (r1 = false) := by
                    by_cases h0 : 0 ≤ dd
                    · rw [Hid, hY.out h0]; rfl
                    · rw [Hid, hN'.out (by omega)]
                  go_wp2
                  go_round
                  case rel => exact ⟨i + 1, by omega, by go_num, by rw [hR1.out, hF.out]⟩
                  case measure => simp [intOf]; omega
                · by_cases h0 : 0 ≤ dd
                  · have hF : Hid (r1 = tb) := by rw [Hid, hY.out h0, Bool.true_and]
                    have h0d : decide (dd < 0) = false := decide_eq_false (by omega)
                    go_wp2
                    go_round
                    case rel => exact ⟨i + 1, by omega, by go_num, by rw [hR1.out, hF.out]⟩
                    case measure => simp [intOf]; omega
                  · have hF : Hid (r1 = true) := by rw [Hid, hN'.out (by omega)]
                    have h0d : decide (dd < 0) = true := decide_eq_true (by omega)
                    go_wp2
                    go_round
                    case rel => exact ⟨i + 1, by omega, by go_num, by rw [hR1.out, hF.out]⟩
                    case measure => simp [intOf]; omega
              · obtain rfl : i = cs.length := by omega
                rw [hde.out]
                cases hmay : MS k m
                · have hX1 := Lib.hid (hn.out hmay)
                  clear hmay hy hn
                  go_wp2
                  go_roundw
                  case rel => exact ⟨m + 1, by omega, by go_num, by rw [hTh.out, hX1.out]; exact hO.out, hBL.out⟩
                  case measure => simp [intOf]; omega
                · have hX1 := hy.out hmay
                  rw [hxk] at hX1
                  have hX1 := Lib.hid hX1
                  clear hmay hy hn
                  have hb9 := hOn.out k m hlt hmt
                  have hb9i : ((bitOn k m : Nat) : Int) < (N : Int) := by omega
                  have hb90 : (0 : Int) ≤ ((bitOn k m : Nat) : Int) := by omega
                  obtain ⟨hor, hpw⟩ := or_on (s := k) (j := m) (by omega) (by omega)
                  obtain ⟨o1, f1⟩ := OW.at9 hO.out (bitOn k m) (by rw [hxl]; exact hb9)
                  have hPut := hO.out.put9 (bitOn k m) (wrap64 (X.getD (bitOn k m) 0 + cv))
                  rw [← hX1.out] at hPut
                  generalize X.getD (bitOn k m) 0 = v1 at *
                  generalize bitOn k m = bb at *
                  have hzs : (wo.setCell ⟨gB, bb, none⟩ (.int .i64 (wrap64 (v1 + cv)))).heap.size = wo.heap.size := World.size_setCell _ _ _
                  have hO4 := Lib.hid (show OW (wo.setCell ⟨gB, bb, none⟩ (.int .i64 (wrap64 (v1 + cv)))) gB (wo.setCell ⟨gB, bb, none⟩ (.int .i64 (wrap64 (v1 + cv)))).heap.size (.slice (some ⟨gB, 0, none⟩) N N) X1 from by rw [hzs]; exact hPut)
                  have hB4 := Lib.hid (hBL.out.setCell (p := ⟨gB, bb, none⟩) hlg.out (.int .i64 (wrap64 (v1 + cv))))
                  clear hPut hzs hxk
                  go_wp2
                  go_roundw
                  case rel => exact ⟨m + 1, by omega, by go_num, by rw [hTh.out]; exact hO4.out, hB4.out⟩
                  case measure => simp [intOf]; omega
          · obtain rfl : m = cs.length := by omega
            have hCk := Lib.hid (hCs.out k)
            go_wp2
            go_roundw
            case rel => exact ⟨k + 1, by omega, by go_num, by rw [hCk.out]; exact hO.out, hBL.out⟩
            case measure => simp [intOf]; omega
      · obtain rfl : k = N := by omega
        have hfin := Lib.hid (hB1.out.trans (hBL.out.mono hB1.out.size))
        obtain ⟨o1, _⟩ := OW.at9 hO.out p (by rw [hCl.out, hpN.out]; exact Nat.lt_succ_self _)
        rw [← hR2.out] at o1
        have hw9 : IntKind.i64.wrap ((k : Int) - 1) = (p : Int) := by have := hpN.out; rw [IntWalk.i64_in _ (by omega)]; omega
        have hp0 : (0 : Int) ≤ (p : Int) := by omega
        have hpk : (p : Int) < (k : Int) := by have := hpN.out; omega
        go_wp2
        go_ret2
        rw [hK.out]
        exact ⟨rfl, hfin.out⟩
  · have hK := Lib.hid (coK_no2 h12)
    have hR := Lib.hid (coR_no hK.out)
    have h12' : (12 : Int) < (cs.length : Int) := by omega
    clear hg hes h12
    generalize coR cs = R at *
    generalize coK cs = K at *
    go_enter Try.func41, Try.ntmps41
    go_wp2_with (fail)
    refine H.out.mono ?_
    rintro e w1 ⟨rfl, hb1⟩
    have hB1 := Lib.hid hb1
    clear hb1
    go_wp2
    go_ret2
    rw [hR.out, hK.out]
    exact ⟨rfl, hB1.out⟩
end Go.Proofs.Ytpgdccfpegdcoaa

/- Arguments of the types []laws.Instr, laws.Instr and []int opened. -/
namespace Go.Proofs.Ytpgdccfpegdcoaa
open Go.ChangeShapes Go.WideShapes Go.ChangeAt Go.RowKit Go.Deep
open Go.ChangeMaps (open_string shut_string)
set_option linter.unusedVariables false

theorem cellsIn : Try.prog.cellsOf 59 = 5 := by kernel_rfl
theorem cellsStr : Try.prog.cellsOf 9 = 1 := by kernel_rfl
theorem cellsInt : Try.prog.cellsOf 3 = 1 := by kernel_rfl

set_option maxRecDepth 100000 in
theorem in_of_trod {H : Type} {enc : TypeId × Value → H} {w : World} {base : Nat} {spare : Nat → Bool} {held : Bool} {n : Nat} {cs : List Value} {x : DataW H × List MemPlace}
    (h : DataW.trod enc Try.prog w base spare held n 59 cs = some x) : ∃ nd : In, cs = nd.enc ∧ nd.op.size ≤ maxLen := by
  obtain ⟨xs, m, _, _, hlen, hxl, hf⟩ := DataW.trod_struct Try.underlying59 h
  rw [cellsIn] at hlen
  match cs, hlen with
  | [c0, c1, c2, c3, c4], _ =>
    match xs, hxl with
    | [y0, y1, y2, y3, y4], _ =>
      have h0 := hf 0 _ rfl
      change DataW.trod enc Try.prog w base spare held m 9 (([c0, c1, c2, c3, c4].drop 0).take (Try.prog.cellsOf 9)) = _ at h0
      rw [cellsStr] at h0
      have h1 := hf 1 _ rfl
      change DataW.trod enc Try.prog w base spare held m 3 (([c0, c1, c2, c3, c4].drop 1).take (Try.prog.cellsOf 3)) = _ at h1
      rw [cellsInt] at h1
      have h2 := hf 2 _ rfl
      change DataW.trod enc Try.prog w base spare held m 3 (([c0, c1, c2, c3, c4].drop 2).take (Try.prog.cellsOf 3)) = _ at h2
      rw [cellsInt] at h2
      have h3 := hf 3 _ rfl
      change DataW.trod enc Try.prog w base spare held m 3 (([c0, c1, c2, c3, c4].drop 3).take (Try.prog.cellsOf 3)) = _ at h3
      rw [cellsInt] at h3
      have h4 := hf 4 _ rfl
      change DataW.trod enc Try.prog w base spare held m 3 (([c0, c1, c2, c3, c4].drop 4).take (Try.prog.cellsOf 3)) = _ at h4
      rw [cellsInt] at h4
      obtain ⟨s, e0, _, hs⟩ := DataW.trod_string Try.underlying9 h0
      obtain ⟨d, e1, _, _⟩ := DataW.trod_int Try.underlying3 h1
      obtain ⟨a, e2, _, _⟩ := DataW.trod_int Try.underlying3 h2
      obtain ⟨b, e3, _, _⟩ := DataW.trod_int Try.underlying3 h3
      obtain ⟨m, e4, _, _⟩ := DataW.trod_int Try.underlying3 h4
      have e0 : c0 = .string s := by simpa using e0
      have e1 : c1 = .int .i64 d := by simpa using e1
      have e2 : c2 = .int .i64 a := by simpa using e2
      have e3 : c3 = .int .i64 b := by simpa using e3
      have e4 : c4 = .int .i64 m := by simpa using e4
      exact ⟨⟨s, d, a, b, m⟩, by rw [e0, e1, e2, e3, e4]; rfl, hs⟩

theorem cell_lt_heap {w : World} {a : Addr} {v : Value} (h : w.cell? a = some v) : a.block < w.heap.size := by
  rcases Nat.lt_or_ge a.block w.heap.size with hlt | hge
  · exact hlt
  · unfold World.cell? at h; rw [Array.getElem?_eq_none hge] at h; simp at h

set_option maxRecDepth 100000 in
theorem x_of_trod {H : Type} {enc : TypeId × Value → H} {w : World} {r : Reach} {b0 : Nat} {spare : Nat → Bool} {held : Bool} {v : Value} {d : DataW H} {p : List MemPlace}
    (hv : Value.okWide Try.prog w r b0 59 v) (h : DataW.Trod enc Try.prog w 0 spare held 59 v d p) :
    ∃ x : In, v = .agg #[.string x.op, .int .i64 x.d, .int .i64 x.a, .int .i64 x.b, .int .i64 x.m] ∧ x.op.size ≤ 9223372036854775807 := by
  obtain ⟨cs, rfl, hsz⟩ := okWide_struct Try.underlying59 hv
  obtain ⟨fuel, hf⟩ := h
  obtain ⟨x, hx, hs⟩ := in_of_trod hf
  refine ⟨x, ?_, by unfold maxLen at hs; omega⟩
  obtain ⟨l⟩ := cs
  have hx' : l = x.enc := by simpa [Value.cells] using hx
  subst hx'; rfl

set_option maxRecDepth 100000 in
theorem ins_of_trod {H : Type} {enc : TypeId × Value → H} {w : World} {spare : Nat → Bool} {held : Bool} {A : Option Addr} {len cap : Nat} {d : DataW H} {p : List MemPlace}
    (h : DataW.Trod enc Try.prog w 0 spare held 22 (.slice A len cap) d p) :
    ∃ es : List In, es.length = len ∧ RS In.enc 5 w 0 w.heap.size A es ∧ (∀ n ∈ es, n.op.size ≤ 9223372036854775807) ∧ len ≤ 9223372036854775807 := by
  obtain ⟨fuel, hf⟩ := h
  rcases open_slice Try.underlying22 hf with ⟨hcs, _⟩ | ⟨a, l, c, m, n, D, Pl, hcs, _, hl, hm, hmm, _, hi⟩
  · simp [Value.cells] at hcs
    obtain ⟨rfl, rfl, rfl⟩ := hcs
    exact ⟨[], rfl, fun h => absurd h (by simp), (fun n hn => by cases hn), by omega⟩
  · simp [Value.cells] at hcs
    obtain ⟨rfl, rfl, rfl⟩ := hcs
    have hlm : len ≤ m := by rw [hmm]; split <;> omega
    have hex : ∀ i, i < len → ∃ nd : In, (∀ j v, nd.enc[j]? = some v → w.cell? (a.add (i * 5 + j)) = some v) ∧ nd.op.size ≤ maxLen := by
      intro i hil
      obtain ⟨cs', hc, ht⟩ := hi i (by omega)
      rw [cellsIn] at hc
      obtain ⟨nd, rfl, hs⟩ := in_of_trod ht
      obtain ⟨_, _, hat⟩ := World.cells?_some hc
      refine ⟨nd, fun j v hv => ?_, hs⟩
      have hj : j < 5 := kflat_lt In.hk hv
      have := hat j hj
      rw [add_add, hv] at this; exact this
    obtain ⟨f, hf2⟩ := Classical.axiomOfChoice (fun i : {i // i < len} => hex i.1 i.2)
    have hget : ∀ i (h : i < (List.ofFn fun i : Fin len => f ⟨i.1, i.2⟩).length), (List.ofFn fun i : Fin len => f ⟨i.1, i.2⟩)[i] = f ⟨i, by simpa using h⟩ := fun i h => by simp
    refine ⟨List.ofFn fun i : Fin len => f ⟨i.1, i.2⟩, by simp, ?_, ?_, by unfold maxLen at hm; omega⟩
    · intro hpos
      have hpos' : 0 < len := by simpa using hpos
      have h0 := (hf2 ⟨0, hpos'⟩).1 0 _ rfl
      obtain ⟨b, o, spot⟩ := a
      have hspot : spot = none := by have := World.cell?_spot h0; simpa [Addr.add] using this
      subst hspot
      have hadd : ∀ k, (⟨b, o, none⟩ : Addr).add k = ⟨b, o + k, none⟩ := fun k => by simp [Addr.add]
      refine ⟨b, o, rfl, ⟨Nat.zero_le _, ?_⟩, fun i hi j v hv => ?_⟩
      · rw [hadd] at h0
        exact cell_lt_heap h0
      · have hi' : i < len := by simpa using hi
        rw [hget i hi] at hv
        have := (hf2 ⟨i, hi'⟩).1 j v hv
        simp only [hadd, ← Nat.add_assoc] at this
        exact this
    · intro n hn
      obtain ⟨i, rfl⟩ := List.mem_ofFn.1 hn
      have := (hf2 ⟨i.1, i.2⟩).2
      unfold maxLen at this; omega

set_option maxRecDepth 100000 in
theorem ints_of_trod {H : Type} {enc : TypeId × Value → H} {w : World} {spare : Nat → Bool} {held : Bool} {A : Option Addr} {len cap : Nat} {d : DataW H} {p : List MemPlace}
    (h : DataW.Trod enc Try.prog w 0 spare held 38 (.slice A len cap) d p) :
    ∃ xs : List Int, xs.length = len ∧ IS w 0 w.heap.size A xs ∧ len ≤ 9223372036854775807 := by
  obtain ⟨fuel, hf⟩ := h
  rcases open_slice Try.underlying38 hf with ⟨hcs, _⟩ | ⟨a, l, c, m, n, D, Pl, hcs, _, hl, hm, hmm, _, hi⟩
  · simp [Value.cells] at hcs
    obtain ⟨rfl, rfl, rfl⟩ := hcs
    exact ⟨[], rfl, fun h => absurd h (by simp), by omega⟩
  · simp [Value.cells] at hcs
    obtain ⟨rfl, rfl, rfl⟩ := hcs
    have hlm : len ≤ m := by rw [hmm]; split <;> omega
    have hex : ∀ i, i < len → ∃ x : Int, w.cell? (a.add i) = some (.int .i64 x) := by
      intro i hil
      obtain ⟨cs', hc, ht⟩ := hi i (by omega)
      rw [cellsInt, Nat.mul_one] at hc
      obtain ⟨x, hx, _, _⟩ := DataW.trod_int Try.underlying3 ht
      obtain ⟨_, _, hat⟩ := World.cells?_some hc
      have := hat 0 (by omega)
      rw [add_add, hx] at this
      exact ⟨x, by simpa using this⟩
    obtain ⟨f, hf2⟩ := Classical.axiomOfChoice (fun i : {i // i < len} => hex i.1 i.2)
    have hget : ∀ i (h : i < (List.ofFn fun i : Fin len => f ⟨i.1, i.2⟩).length), (List.ofFn fun i : Fin len => f ⟨i.1, i.2⟩)[i] = f ⟨i, by simpa using h⟩ := fun i h => by simp
    refine ⟨List.ofFn fun i : Fin len => f ⟨i.1, i.2⟩, by simp, ?_, by unfold maxLen at hm; omega⟩
    intro hpos
    have hpos' : 0 < len := by simpa using hpos
    have h0 := hf2 ⟨0, hpos'⟩
    obtain ⟨b, o, spot⟩ := a
    have hspot : spot = none := by have := World.cell?_spot h0; simpa [Addr.add] using this
    subst hspot
    have hadd : ∀ k, (⟨b, o, none⟩ : Addr).add k = ⟨b, o + k, none⟩ := fun k => by simp [Addr.add]
    refine ⟨b, o, rfl, ⟨Nat.zero_le _, ?_⟩, fun i hi => ?_⟩
    · rw [hadd] at h0
      exact cell_lt_heap h0
    · have hi' : i < len := by simpa using hi
      rw [hget i hi]
      have := hf2 ⟨i, hi'⟩
      simp only [hadd] at this
      exact this
end Go.Proofs.Ytpgdccfpegdcoaa
