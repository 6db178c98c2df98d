/- Texts of this proof, one behind the other: N9M, N9N, N9O, NAV, NAW, NAX. -/
import Derived.Test.YtaaloepoegehkaaZ9
import Derived.Test.YtaaloepoegehkaaCK
import Derived.WalkKit
import Derived.WalkSpells
import Derived.WalkLawsBesides
import Derived.Deep.RegionLaw
import Derived.Deep.RegionHeld3
import Derived.Deep.QuietTactic
import Derived.BigQuiet
import Derived.Lib.Hide
import Derived.Test.YtaaloepoegehkaaZ8
import Derived.Test.YtaaloepoegehkaaZ10
import Derived.Deep.DeepCutAuto
/- Chapter 9: the least cycle of an instruction, of the program. -/
namespace Go.Proofs.Ytaaloepoegehkaa
open Go.RowKit
set_option linter.unusedVariables false
set_option maxRecDepth 100000

theorem box2_9 (w : World) (a b : Value) (t : TypeId) : (w.alloc (.cells #[a, b] t)).cell? ⟨w.heap.size, 0, none⟩ = some a ∧ (w.alloc (.cells #[a, b] t)).cell? ⟨w.heap.size, 1, none⟩ = some b := by
  have h := fun i => cell_of_row _ w.heap.size i #[a, b] t (0, 0) (heap_alloc_new w _)
  exact ⟨h 0, h 1⟩
/-- Needs whose cycles can be reckoned with. -/
def NdOk (cyc : List Int) (ns : List (Int × Int)) : Prop := ∀ d ∈ ns, (0 ≤ d.1 ∧ d.1.toNat < cyc.length) ∧ (0 ≤ d.2 ∧ d.2 ≤ 4) ∧ (0 ≤ cyc.getD d.1.toNat 0 ∧ cyc.getD d.1.toNat 0 ≤ 1000)
set_option maxHeartbeats 4000000 in
theorem leastCycle_any (A : Option Addr) (m c : Nat) (L B : Nat) (An : Option Addr) (cn : Nat) (nss : List (List (Int × Int))) (i : Nat) (L' B' : Nat) (A' : Option Addr) (c' : Nat) (cyc : List Int) (w : World) (hi : i < nss.length) (hl : (nss[i]).length ≤ 1000) (hok : NdOk cyc nss[i])
    (hn : PN w L B An nss) (hB : B ≤ w.heap.size) (hx : IS w L' B' A' cyc) (hB' : B' ≤ w.heap.size) :
    Calls Try.prog 149 #[.agg #[.slice A m c, .slice An nss.length cn], .int .i64 i, .slice A' cyc.length c'] w fun e w' => e = .returned (.int .i64 (lcF cyc nss[i])) ∧ Below w.heap.size w w' := by
  obtain ⟨b, rfl, ⟨_, hbB⟩, hcells⟩ := hn (by omega)
  obtain ⟨Ai, ci, r0, hrs⟩ := hcells i hi
  have hbx := (Below.refl w.heap.size w).alloc (Nat.le_refl _) (.cells #[.slice A m c, .slice (some ⟨b, 0, none⟩) nss.length cn] 97)
  have hP := PB.new w (.slice A m c) (.slice (some ⟨b, 0, none⟩) nss.length cn)
  have r1 := (hbx.cell (p := ⟨b, i, none⟩) (show b < _ by omega)).trans r0
  have hRS := Lib.hid fun (W : World) (hW : Below w.heap.size w W) => hrs.below hW hB
  have hIS := Lib.hid fun (W : World) (hW : Below w.heap.size w W) => hx.below hW hB'
  have hii : (i : Int) < (nss.length : Int) := by omega
  have hi0 : (0 : Int) ≤ (i : Int) := by omega
  have hBB := Lib.hid hB'
  have hOk := Lib.hid hok
  have hBx := Lib.hid hbx
  have hTk := Lib.hid fun (k : Nat) (h : k < (nss[i]).length) => lcF_take cyc h
  have hBd := Lib.hid fun (k : Nat) => lcF_bd (cyc := cyc) (b := 1004) (ns := (nss[i]).take k) (by omega) (fun d hd => by
    have := hok d (List.mem_of_mem_take hd)
    omega)
  clear hcells hrs hx hn hB hB' hok hbx
  generalize nss[i] = ns at *
  obtain ⟨q0, q1⟩ := And.intro hP.c0 hP.c1
  clear hP
  go_enter Try.func149, Try.ntmps149
  go_wp2_with (fail)
  clear q0 q1 r1
  go_loopw [7, 16] (fun v q wr => ∃ k : Nat, k ≤ ns.length ∧ q = .int .i64 k ∧ v = .int .i64 (lcF cyc (ns.take k)) ∧ Below w.heap.size w wr) (fun _ q _ => ns.length - (intOf q).toNat)
  case atStart => exact ⟨0, Nat.zero_le _, rfl, rfl, hBx.out⟩
  case round =>
    obtain ⟨k, hk, rfl, rfl, hbel⟩ := hrel
    have hBL := Lib.hid hbel
    clear hbel
    by_cases hlt : k < ns.length
    · obtain ⟨rb, ro, rfl, hrb, c0, c1⟩ := nd_cells (hRS.out wr hBL.out) hlt
      obtain ⟨⟨h1, h2⟩, ⟨h3, h4⟩, h5, h6⟩ := hOk.out _ (List.getElem_mem hlt)
      obtain ⟨xb, xo, rfl, ⟨_, hxb⟩, hxc⟩ := (hIS.out wr hBL.out) (by omega)
      have x0 := hxc _ h2
      have hTkk := Lib.hid (hTk.out k hlt)
      have hB1 := hBd.out k
      have hB2 := hBd.out (k + 1)
      obtain ⟨t, ht⟩ := Int.eq_ofNat_of_zero_le h1
      rw [ht] at c0 h2
      simp only [ht, Int.toNat_natCast] at x0 h5 h6
      rw [Hid, ht, Int.toNat_natCast] at hTkk
      have hTk2 := Lib.hid hTkk
      have hgd : cyc.getD t 0 = cyc[t]'(by simpa using h2) := by rw [List.getD_eq_getElem?_getD, List.getElem?_eq_getElem (by simpa using h2)]; rfl
      rw [← hgd] at x0
      have ht2 : (t : Int) < (cyc.length : Int) := by simp at h2; omega
      have ht0 : (0 : Int) ≤ (t : Int) := by omega
      have hki : (k : Int) < (ns.length : Int) := by omega
      have hBn := Lib.hid (hBL.out.alloc hBL.out.size (.cells #[.int .i64 t, .int .i64 ns[k].2] 155))
      clear hxc h1 h2 hgd hTkk
      generalize ns[k].2 = dd at *
      generalize ns[k].1 = dk at *
      subst ht
      generalize cyc.getD t 0 = y at *
      generalize hTT : lcF cyc (ns.take (k + 1)) = z1 at *
      have hTh := Lib.hid hTT
      clear hTT
      generalize lcF cyc (ns.take k) = z at *
      have hz1 : z1 = max z (y + dd) := hTk2.out
      have hw : IntKind.i64.wrap (y + dd) = y + dd := IntWalk.i64_in _ (by omega)
      have hZ := Lib.hid hz1
      clear hz1 hTk2 hB1 hB2
      obtain ⟨wb, hwb⟩ : ∃ wb : World, wb = wr.alloc (.cells #[.int .i64 t, .int .i64 dd] 155) := ⟨_, rfl⟩
      obtain ⟨n0, n1⟩ := box2_9 wr (.int .i64 t) (.int .i64 dd) 155
      have x1 := (((Below.refl wr.heap.size wr).alloc (Nat.le_refl _) (.cells #[.int .i64 t, .int .i64 dd] 155)).cell (p := ⟨xb, xo + t, none⟩) (show xb < wr.heap.size by have := hBL.out.size; have := hBB.out; omega)).trans x0
      go_wp2_with (fail)
      rw [← hwb] at n0 n1 x1 hBn ⊢
      clear hwb x0
      generalize wr.heap.size = gx at *
      go_quiet (fail)
      go_wp2
      go_roundw
      case rel => exact ⟨k + 1, by omega, by go_num, by rw [hTh.out, hZ.out], below_drewN hBn.out _⟩
      case measure => simp [intOf]; omega
    · obtain rfl : k = ns.length := by omega
      rw [List.take_length]
      go_wp2
      go_ret
      exact ⟨rfl, hBL.out⟩
end Go.Proofs.Ytaaloepoegehkaa

/- Chapter 9: EarliestOf of the program. -/
namespace Go.Proofs.Ytaaloepoegehkaa
open Go.RowKit
set_option linter.unusedVariables false
set_option maxRecDepth 100000

theorem er_ok {cs : List In} {k : Nat} (h20 : cs.length ≤ 20) (hk : k < cs.length) : NdOk (er cs k) (ndL cs k cs.length) := by
  intro d hd
  obtain ⟨i, h1, h2, h3, rfl⟩ := mem_ndL hd
  have h4 := dT_bd cs i k
  have h5 : i < (er cs k).length := by rw [er_len]; exact h1
  have h6 := er_bd cs k _ (List.getElem_mem h5)
  refine ⟨⟨by simp, by simpa using h5⟩, ⟨h3, h4.2⟩, ?_⟩
  simp only [Int.toNat_natCast]
  rw [List.getD_eq_getElem?_getD, List.getElem?_eq_getElem h5, Option.getD_some]
  omega
set_option maxHeartbeats 4000000 in
theorem earliest_any (A : Option Addr) (c : Nat) (L B : Nat) (An : Option Addr) (cn : Nat) (cs : List In) (w : World) (h20 : cs.length ≤ 20) (hn : PN w L B An (nds cs)) (hB : B ≤ w.heap.size) :
    Calls Try.prog 202 #[.agg #[.slice A cs.length c, .slice An cs.length cn]] w (FreshI w (er cs cs.length)) := by
  obtain ⟨i1, hi', hz0', hz1', hz2'⟩ := info_parts Try.infoInt
  have hI0 := Lib.hid hi'
  have hI1 := Lib.hid hz0'
  have hI2 := Lib.hid hz1'
  have hI3 := Lib.hid hz2'
  clear hi' hz0' hz1' hz2'
  have hbx := Lib.hid ((Below.refl w.heap.size w).alloc (Nat.le_refl _) (.cells #[.slice A cs.length c, .slice An cs.length cn] 97))
  have hP := Lib.hid (PB.new w (.slice A cs.length c) (.slice An cs.length cn))
  have hLC := Lib.hid fun (k : Nat) (hk : k < cs.length) (A' : Option Addr) (c' lo : Nat) (W : World) (hW : Below w.heap.size w W) (hx : IS W lo W.heap.size A' (er cs k)) => (show Calls Try.prog 149 #[.agg #[.slice A cs.length c, .slice An cs.length cn], .int .i64 k, .slice A' k c'] W fun e w' => e = .returned (.int .i64 (lcF (er cs k) (ndL cs k cs.length))) ∧ Below W.heap.size W w' from by
    have hk2 : k < (nds cs).length := by rw [nds_len]; exact hk
    have h := leastCycle_any A cs.length c L B An cn (nds cs) k lo W.heap.size A' c' (er cs k) W hk2 (by rw [nds_at]; exact Nat.le_trans (ndL_len _ _ _) (by omega)) (by rw [nds_at]; exact er_ok h20 hk) (hn.below hW hB) (Nat.le_trans hB hW.size) hx (Nat.le_refl _)
    rw [nds_at, nds_len, er_len] at h
    exact h)
  have hEs := Lib.hid fun (k : Nat) => (show er cs (k + 1) = er cs k ++ [lcF (er cs k) (ndL cs k cs.length)] from rfl)
  have hEl := Lib.hid (er_len cs)
  have hE0 : Hid (er cs 0 = []) := rfl
  clear hn hB
  generalize hEE : er cs cs.length = EE at *
  have hEEh := Lib.hid hEE
  clear hEE
  have hEEl : EE.length = cs.length := by rw [← hEEh.out]; exact hEl.out _
  generalize (fun k => lcF (er cs k) (ndL cs k cs.length)) = lc at *
  go_enter Try.func202, Try.ntmps202
  go_wp2_with (fail)
  have hP1 := hP.out.c0
  have hP2 := hP.out.c1
  go_wp2_with (fail)
  clear hP1 hP2
  obtain ⟨g1, hg1⟩ : ∃ g1, g1 = w.heap.size := ⟨_, rfl⟩
  have hlt1 : g1 < (w.alloc (.cells #[.slice A cs.length c, .slice An cs.length cn] 97)).heap.size := by rw [hg1]; simp
  rw [← hg1] at hP ⊢
  have hG1 := Lib.hid hg1
  clear hg1
  generalize w.alloc (.cells #[.slice A cs.length c, .slice An cs.length cn] 97) = W1 at *
  go_loopw [3, 8] (fun v q wr => ∃ k : Nat, k ≤ cs.length ∧ q = .int .i64 k ∧ OW wr W1.heap.size wr.heap.size v (er cs k) ∧ Below W1.heap.size W1 wr) (fun _ q _ => cs.length - (intOf q).toNat)
  case atStart => exact ⟨0, Nat.zero_le _, rfl, by rw [hE0.out]; exact OW.nil _ _ _, Below.refl _ _⟩
  case round =>
    obtain ⟨k, hk, rfl, how, hbel⟩ := hrel
    obtain ⟨V, cv, rfl, hIS⟩ := how.form
    have hO := Lib.hid how
    have hBL := Lib.hid hbel
    clear how hbel
    rw [hEl.out] at hO ⊢
    by_cases hlt : k < cs.length
    · have hki : (k : Int) < (cs.length : Int) := by omega
      have hC := Lib.hid (hLC.out k hlt V cv W1.heap.size wr (hbx.out.trans (hBL.out.mono hbx.out.size)) hIS)
      have hPr := CB.below hP.out hBL.out hlt1
      have hEk := Lib.hid (hEs.out k)
      have hEkl := hEl.out k
      have p0 := PB.c0 hPr
      have p1 := PB.c1 hPr
      clear hIS hPr
      generalize hTT : er cs (k + 1) = En at *
      have hTh := Lib.hid hTT
      clear hTT
      generalize lcF (er cs k) (ndL cs k cs.length) = y at *
      generalize er cs k = xs at *
      have hlo := Lib.hid hO.out.lo
      have hzw := hBL.out.size
      go_wp2_with (fail)
      refine hC.out.mono ?_
      rintro e w2 ⟨rfl, hb2⟩
      have hB2 := Lib.hid (hBL.out.trans (hb2.mono hBL.out.size))
      have ho2 := Lib.hid (((hO.out.below hb2 (Nat.le_refl _)).more hb2.size).1.alloc (.cells #[.int .i64 y] 3))
      have hb3 := Lib.hid (hB2.out.alloc hB2.out.size (.cells #[.int .i64 y] 3))
      clear hb2 p0 p1
      go_wp2_with (at_builtin; go_loud (refine wpList_append_own _ rfl _ _ 34 rfl W1.heap.size 3 i1 (.int .i64 0) 1 8 Try.underlying34 hI0.out hI1.out hI2.out hI3.out rfl (by decide) _ _ _ rfl ho2.out ⟨w2.heap.size, 0, none⟩ 1 1 [.int .i64 y] rfl rfl (new1 rfl) (one1 _) (by unfold maxLen; omega) (by omega) (by have := hB2.out.size; simp; omega) ?_); intro v' w4 hown4 hgr4 _)
      have R1 := Lib.hid (show OW w4 W1.heap.size w4.heap.size v' En from by rw [hEk.out]; exact OW.push (by simpa using hown4))
      have R2 := Lib.hid (hb3.out.grown hgr4 hb3.out.size (fun k hk => (hlo.out k hk).1))
      clear hown4 hgr4
      go_wp2
      go_roundw
      case rel => exact ⟨k + 1, by omega, by go_num, by rw [hTh.out]; exact R1.out, R2.out⟩
      case measure => simp [intOf]; omega
    · obtain rfl : k = cs.length := by omega
      have hfin := Lib.hid (hbx.out.trans (hBL.out.mono hbx.out.size))
      have hO9 := Lib.hid (hO.out.lower hbx.out.size)
      rw [hEEh.out] at hO9
      clear hIS
      go_wp2
      go_ret
      exact ⟨V, cv, by rw [hEEl]; rfl, by rw [hEEl]; exact hO9.out, hfin.out⟩

def erR (cs : List In) : List Int := if orGood cs = true then er cs cs.length else []
theorem erR_yes {cs : List In} (h : orGood cs = true) : erR cs = er cs cs.length := by unfold erR; rw [if_pos h]
theorem erR_no {cs : List In} (h : orGood cs = false) : erR cs = [] := by unfold erR; rw [h]; rfl
theorem erR_len (cs : List In) : (erR cs).length ≤ 1048576 := by
  cases h : orGood cs
  · rw [erR_no h]; simp
  · rw [erR_yes h, er_len]; have := (orGood_parts h).1; omega

end Go.Proofs.Ytaaloepoegehkaa

/- Chapter 9: EarliestOf of the model. -/
namespace Go.Proofs.Ytaaloepoegehkaa
open Go.RowKit
set_option linter.unusedVariables false
set_option maxRecDepth 100000

theorem OW.len9 {w : World} {lo hi n c : Nat} {A : Option Addr} {xs : List Int} (h : OW w lo hi (.slice A n c) xs) : n = xs.length := by
  obtain ⟨A2, c2, hv, _⟩ := h.form
  injection hv with a b d
theorem OW.at9 {w : World} {lo hi n c g : Nat} {xs : List Int} (h : OW w lo hi (.slice (some ⟨g, 0, none⟩) n c) xs) (k : Nat) (hk : k < xs.length) : w.cell? ⟨g, k, none⟩ = some (.int .i64 (xs.getD k 0)) ∧ w.frozen? ⟨g, k, none⟩ = false := by
  have hl := h.len9
  subst hl
  have hcell := h.1.cellAt k (by omega)
  have hfr := h.1.frozenAt k
  rw [List.getElem?_map, List.getElem?_eq_getElem hk] at hcell
  rw [List.getD_eq_getElem?_getD, List.getElem?_eq_getElem hk]
  exact ⟨by simpa using hcell, hfr⟩
theorem OW.put9 {w : World} {lo hi n c g : Nat} {xs : List Int} (h : OW w lo hi (.slice (some ⟨g, 0, none⟩) n c) xs) (k : Nat) (x : Int) : OW (w.setCell ⟨g, k, none⟩ (.int .i64 x)) lo hi (.slice (some ⟨g, 0, none⟩) n c) (xs.set k x) := by
  have hl := h.len9
  subst hl
  refine ⟨?_, h.2⟩
  have h1 := (h.1.stored k (.int .i64 x)).1
  rw [← List.map_set] at h1
  rw [List.length_set]; exact h1
def eo (cs : List In) (j : Nat) : List Int := er cs j ++ List.replicate (cs.length - j) 0
def ei (cs : List In) (j i : Nat) : List Int := (eo cs j).set j (lcF (er cs j) (ndL cs j i))
theorem eo_len {cs : List In} {j : Nat} (h : j ≤ cs.length) : (eo cs j).length = cs.length := by unfold eo; rw [List.length_append, er_len, List.length_replicate]; omega
theorem ei_len {cs : List In} {j : Nat} (i : Nat) (h : j ≤ cs.length) : (ei cs j i).length = cs.length := by unfold ei; rw [List.length_set, eo_len h]
theorem eo_zero (cs : List In) : eo cs 0 = List.replicate cs.length 0 := rfl
theorem eo_end (cs : List In) : eo cs cs.length = er cs cs.length := by unfold eo; rw [Nat.sub_self]; simp
theorem eo_at_lt {cs : List In} {i j : Nat} (h : i < j) : (eo cs j).getD i 0 = (er cs j).getD i 0 := by
  unfold eo
  rw [List.getD_eq_getElem?_getD, List.getElem?_append_left (by rw [er_len]; exact h), ← List.getD_eq_getElem?_getD]
theorem eo_split {cs : List In} {j : Nat} (h : j < cs.length) : eo cs j = er cs j ++ 0 :: List.replicate (cs.length - (j + 1)) 0 := by
  unfold eo
  rw [show cs.length - j = (cs.length - (j + 1)) + 1 by omega, List.replicate_succ]
theorem ei_split {cs : List In} {j : Nat} (i : Nat) (h : j < cs.length) : ei cs j i = er cs j ++ lcF (er cs j) (ndL cs j i) :: List.replicate (cs.length - (j + 1)) 0 := by
  unfold ei
  rw [eo_split h, List.set_append_right _ _ (by rw [er_len]; exact Nat.le_refl _), er_len, Nat.sub_self]; rfl
theorem ei_zero {cs : List In} {j : Nat} (h : j < cs.length) : ei cs j 0 = eo cs j := by
  rw [ei_split 0 h, eo_split h]; rfl
theorem ei_end {cs : List In} {j : Nat} (h : j < cs.length) : ei cs j j = eo cs (j + 1) := by
  rw [ei_split j h]
  unfold eo
  rw [er, ndL_stop cs j cs.length (by omega), List.append_assoc]; rfl
theorem ei_at {cs : List In} {j : Nat} (i : Nat) (h : j < cs.length) : (ei cs j i).getD j 0 = lcF (er cs j) (ndL cs j i) := by
  rw [ei_split i h, List.getD_eq_getElem?_getD, List.getElem?_append_right (by rw [er_len]; exact Nat.le_refl _), er_len]; simp
theorem ei_lt {cs : List In} {j k : Nat} (i : Nat) (h : j < cs.length) (hk : k < j) : (ei cs j i).getD k 0 = (er cs j).getD k 0 := by
  rw [ei_split i h, List.getD_eq_getElem?_getD, List.getElem?_append_left (by rw [er_len]; exact hk), ← List.getD_eq_getElem?_getD]
theorem ei_yes {cs : List In} {j i : Nat} (hj : j < cs.length) (hi : i < j) (h : 0 ≤ dT cs i j) : ei cs j (i + 1) = (ei cs j i).set j (max ((ei cs j i).getD j 0) ((ei cs j i).getD i 0 + dT cs i j)) := by
  rw [ei_at i hj, ei_lt i hj hi]
  unfold ei
  rw [List.set_set, ndL_yes h, lcF_snoc]; rfl
theorem ei_no {cs : List In} {j i : Nat} (h : ¬ 0 ≤ dT cs i j) : ei cs j (i + 1) = ei cs j i := by
  unfold ei; rw [ndL_no h]
theorem ei_bd {cs : List In} {j : Nat} (i k : Nat) (h20 : cs.length ≤ 20) (hj : j < cs.length) (hi : i ≤ j) : 0 ≤ (ei cs j i).getD k 0 ∧ (ei cs j i).getD k 0 ≤ 1000 := by
  have hok := er_ok h20 hj
  have hl : 0 ≤ lcF (er cs j) (ndL cs j i) ∧ lcF (er cs j) (ndL cs j i) ≤ 1000 := by
    have := lcF_bd (cyc := er cs j) (b := 100) (ns := ndL cs j i) (by omega) (fun d hd => by
      obtain ⟨q, h1, h2, h3, rfl⟩ := mem_ndL hd
      have h4 := dT_bd cs q j
      have h5 : q < (er cs j).length := by rw [er_len]; exact h1
      have h6 := er_bd cs j _ (List.getElem_mem h5)
      simp only [Int.toNat_natCast]
      rw [List.getD_eq_getElem?_getD, List.getElem?_eq_getElem h5, Option.getD_some]
      omega)
    omega
  rw [ei_split i hj, List.getD_eq_getElem?_getD]
  cases hk : (er cs j ++ lcF (er cs j) (ndL cs j i) :: List.replicate (cs.length - (j + 1)) 0)[k]? with
  | none => simp
  | some x =>
    have hx := List.mem_of_getElem? hk
    rw [Option.getD_some]
    rcases List.mem_append.1 hx with hx | hx
    · have := er_bd cs j x hx; omega
    · rcases List.mem_cons.1 hx with rfl | hx
      · exact hl
      · have := (List.mem_replicate.1 hx).2; omega

set_option maxHeartbeats 8000000 in
theorem orEarliest_any (L B : Nat) (A : Option Addr) (c : Nat) (cs : List In) (w : World) (hl : cs.length ≤ 20) (hgood : ∀ x ∈ cs, goodIn x = true) (hes : RS In.enc 5 w L B A cs) (hB : B ≤ w.heap.size) :
    Calls Try.prog 200 #[.slice A cs.length c] w (FreshI w (er cs cs.length)) := by
  have H := Lib.hid (orDelays_any L B A c cs w hl hgood hes hB)
  have hmk := run_make_ints cs.length (by omega)
  have hRl := Lib.hid (dRows_len cs cs.length)
  have hRa := Lib.hid fun (i : Nat) (h : i < (dRows cs cs.length).length) => dRows_at cs cs.length h
  have hTl := Lib.hid (dTab_len cs)
  have hTa := Lib.hid fun (i j : Nat) (h : j < (dTab cs i cs.length).length) => dTab_at cs i cs.length h
  have hE0 : Hid (zeros cs.length = eo cs 0) := (eo_zero cs).symm
  have hEe := Lib.hid (eo_end cs)
  have hEl := Lib.hid fun (j : Nat) (h : j ≤ cs.length) => eo_len h
  have hIl := Lib.hid fun (j i : Nat) (h : j ≤ cs.length) => ei_len i h
  have hIz := Lib.hid fun (j : Nat) (h : j < cs.length) => ei_zero h
  have hIe := Lib.hid fun (j : Nat) (h : j < cs.length) => ei_end h
  have hIy := Lib.hid fun (j i : Nat) (hj : j < cs.length) (hi : i < j) (h : 0 ≤ dT cs i j) => ei_yes hj hi h
  have hIn := Lib.hid fun (j i : Nat) (h : ¬ 0 ≤ dT cs i j) => ei_no h
  have hIb := Lib.hid fun (j i k : Nat) (hj : j < cs.length) (hi : i ≤ j) => ei_bd i k hl hj hi
  have hDb := Lib.hid fun (i j : Nat) => dT_bd cs i j
  have hEr := Lib.hid (er_len cs cs.length)
  clear hes hgood hB
  generalize dRows cs cs.length = TT at *
  generalize dTab cs = T at *
  generalize dT cs = E at *
  generalize eo cs = EO at *
  generalize ei cs = EI at *
  generalize er cs cs.length = ER at *
  go_enter Try.func200, Try.ntmps200
  go_wp2_with (fail)
  refine H.out.mono ?_
  rintro e w1 ⟨At, ct, rfl, hox, hb1⟩
  have hXT := Lib.hid (OX.rs hox)
  have hB1 := Lib.hid hb1
  have hO0 : Hid (OW (w1.alloc (.cells (intCells (zeros cs.length)) 3)) w1.heap.size (w1.alloc (.cells (intCells (zeros cs.length)) 3)).heap.size (.slice (some ⟨w1.heap.size, 0, none⟩) cs.length cs.length) (EO 0)) := by
    have h : IB (w1.alloc (.cells (intCells (zeros cs.length)) 3)) w1.heap.size 3 (zeros cs.length) := heap_alloc_new w1 _
    have h2 := OW.ofIB (lo := w1.heap.size) (hi := (w1.alloc (.cells (intCells (zeros cs.length)) 3)).heap.size) h (by simp [zeros]; omega) (Nat.le_refl _) (by simp)
    have hz : (zeros cs.length).length = cs.length := by simp [zeros]
    rw [hz, hE0.out] at h2
    rw [hE0.out]
    exact h2
  have hb2 := Lib.hid ((Below.refl w1.heap.size w1).alloc (Nat.le_refl _) (.cells (intCells (zeros cs.length)) 3))
  clear hox hb1
  rw [hRl.out]
  go_wp2_with (fail)
  clear hmk
  generalize hg : w1.heap.size = g at hO0 ⊢
  generalize w1.alloc (.cells (intCells (zeros cs.length)) 3) = W2 at *
  have hG := Lib.hid hg
  clear hg
  go_loopw [14] (fun q wr => ∃ j : Nat, j ≤ cs.length ∧ q = .int .i64 j ∧ OW wr g wr.heap.size (.slice (some ⟨g, 0, none⟩) cs.length cs.length) (EO j) ∧ Below w1.heap.size w1 wr) (fun q _ => cs.length - (intOf q).toNat)
  case atStart => exact ⟨0, Nat.zero_le _, rfl, hO0.out, hb2.out⟩
  case round =>
    clear hO0 hb2
    obtain ⟨j, hj, rfl, how, hbel⟩ := hrel
    have hO := Lib.hid how
    have hBL := Lib.hid hbel
    clear how hbel
    by_cases hlt : j < cs.length
    · have hji : (j : Int) < (cs.length : Int) := by omega
      have hj0 : (0 : Int) ≤ (j : Int) := by omega
      go_wp2
      go_loopw [6] (fun q wq => ∃ i : Nat, i ≤ j ∧ q = .int .i64 i ∧ OW wq g wq.heap.size (.slice (some ⟨g, 0, none⟩) cs.length cs.length) (EI j i) ∧ Below w1.heap.size w1 wq) (fun q _ => j - (intOf q).toNat)
      case atStart => exact ⟨0, Nat.zero_le _, rfl, by rw [hIz.out j hlt]; exact hO.out, hBL.out⟩
      case round =>
        clear hO hBL
        obtain ⟨i, hi, rfl, how, hbel⟩ := hrel
        have hO := Lib.hid how
        have hBL := Lib.hid hbel
        clear how hbel
        by_cases hij : i < j
        · have hiji : (i : Int) < (j : Int) := by omega
          have hi0 : (0 : Int) ≤ (i : Int) := by omega
          have hin : (i : Int) < (cs.length : Int) := by omega
          obtain ⟨xb, xo, Ai, ci, rfl, hxb, xc0, hI⟩ := XS.at hXT.out (show i < TT.length by rw [hRl.out]; omega)
          rw [hRa.out i (by rw [hRl.out]; omega)] at xc0 hI
          rw [hTl.out] at xc0
          obtain ⟨rb, ro, rfl, ⟨_, hrb⟩, hcc⟩ := hI (by rw [hTl.out]; omega)
          have rc0 := hcc j (by rw [hTl.out]; exact hlt)
          rw [hTa.out i j (by rw [hTl.out]; exact hlt)] at rc0
          have xc := (hBL.out.cell (p := ⟨xb, xo + i, none⟩) hxb).trans xc0
          have rc := (hBL.out.cell (p := ⟨rb, ro + j, none⟩) hrb).trans rc0
          have hlen := hIl.out j i hj
          obtain ⟨oj, fj⟩ := OW.at9 hO.out j (by rw [hlen]; exact hlt)
          obtain ⟨oi, _⟩ := OW.at9 hO.out i (by rw [hlen]; omega)
          have hY := Lib.hid (hIy.out j i hlt hij)
          have hN := Lib.hid (hIn.out j i)
          have hb0 := hIb.out j i i hlt hi
          have hb1 := hDb.out i j
          have hPut := Lib.hid fun (x : Int) => hO.out.put9 j x
          clear hcc hI xc0 rc0
          generalize hTT : EI j (i + 1) = En at *
          have hTh := Lib.hid hTT
          clear hTT
          generalize EI j i = xs at *
          generalize E i j = dd at *
          generalize xs.getD j 0 = yj at *
          generalize xs.getD i 0 = yi at *
          have hw9 : IntKind.i64.wrap (yi + dd) = yi + dd := IntWalk.i64_in _ (by omega)
          by_cases h0 : 0 ≤ dd
          · have hY2 := Lib.hid (hY.out h0)
            clear hY hN
            have hlg : w1.heap.size ≤ g := by rw [hG.out]; exact Nat.le_refl _
            have hBs := Lib.hid ((hBL.out.setCell (p := ⟨g, j, none⟩) hlg (.int .i64 (max yj (yi + dd)))).drew)
            clear hlg
            go_wp2_with (fail)
            have hfin := Lib.hid (show OW (wr.setCell ⟨g, j, none⟩ (.int .i64 (max yj (yi + dd)))).drew g (wr.setCell ⟨g, j, none⟩ (.int .i64 (max yj (yi + dd)))).drew.heap.size (.slice (some ⟨g, 0, none⟩) cs.length cs.length) En from by
              rw [hY2.out]
              have hz : (wr.setCell ⟨g, j, none⟩ (.int .i64 (max yj (yi + dd)))).heap.size = wr.heap.size := World.size_setCell _ _ _
              show OW (wr.setCell ⟨g, j, none⟩ (.int .i64 (max yj (yi + dd)))) g (wr.setCell ⟨g, j, none⟩ (.int .i64 (max yj (yi + dd)))).heap.size _ _
              rw [hz]; exact hPut.out _)
            go_region_law (go_simp; go_at_call 158; (with_reducible refine (l1Most_9 _ _ _).mono ?_); rintro e w' ⟨rfl, rfl⟩)
            all_goals
              go_wp2
              go_roundw
              case rel => exact ⟨i + 1, by omega, by go_num, by rw [hTh.out]; exact hfin.out, hBs.out⟩
              case measure => simp [intOf]; omega
          · have hN2 := Lib.hid (hN.out (by omega))
            clear hY hN
            go_wp2
            go_roundw
            case rel => exact ⟨i + 1, by omega, by go_num, by rw [hTh.out, hN2.out]; exact hO.out, hBL.out⟩
            case measure => simp [intOf]; omega
        · obtain rfl : i = j := by omega
          have hE9 := Lib.hid (hIe.out i hlt)
          go_wp2
          go_roundw
          case rel => exact ⟨i + 1, by omega, by go_num, by rw [← hE9.out]; exact hO.out, hBL.out⟩
          case measure => simp [intOf]; omega
    · obtain rfl : j = cs.length := by omega
      have hfin := Lib.hid (hB1.out.trans (hBL.out.mono hB1.out.size))
      have hlg : w.heap.size ≤ g := by rw [← hG.out]; exact hB1.out.size
      have hO9 := Lib.hid (hO.out.lower hlg)
      rw [hEe.out] at hO9
      clear hlg
      go_wp2
      go_ret
      exact ⟨_, _, by rw [hEr.out]; rfl, by rw [hEr.out]; exact hO9.out, hfin.out⟩

end Go.Proofs.Ytaaloepoegehkaa

/- Chapter 9: the list schedule of the model: what is ready; cycles of instructions that have not begun. -/
namespace Go.Proofs.Ytaaloepoegehkaa
open Go.RowKit
set_option linter.unusedVariables false
set_option maxRecDepth 100000

theorem below_drewN9 {B : Nat} {a w : World} (h : Below B a w) (n : Nat) : Below B a (w.drewN n) := ⟨h.os, h.tape, h.output, h.size, h.block⟩
/-- What an instruction q asks of j: that it has begun early enough. -/
def rqB (cs : List In) (xs : List Int) (j : Nat) (now : Int) (q : Nat) : Bool := !(decide (0 ≤ dT cs q j) && (decide (xs.getD q 0 < 0) || decide (now < xs.getD q 0 + dT cs q j)))
def rqP (cs : List In) (xs : List Int) (j : Nat) (now : Int) (k : Nat) : Bool := (List.range k).all (rqB cs xs j now)
theorem rqP_succ (cs : List In) (xs : List Int) (j : Nat) (now : Int) (k : Nat) : rqP cs xs j now (k + 1) = (rqP cs xs j now k && rqB cs xs j now k) := by
  unfold rqP; rw [List.range_succ, List.all_append]; simp
theorem rqP_off {cs : List In} {xs : List Int} {j : Nat} {now : Int} {k : Nat} (h : rqP cs xs j now k = false) : ∀ {n : Nat}, k ≤ n → rqP cs xs j now n = false
  | 0, hn => by obtain rfl : k = 0 := by omega
                exact h
  | n + 1, hn => by
    rcases Nat.lt_or_ge n k with h1 | h1
    · obtain rfl : k = n + 1 := by omega
      exact h
    · rw [rqP_succ, rqP_off h h1]; rfl
/-- Whether j may begin now. -/
def rdyB (cs : List In) (xs : List Int) (j : Nat) (now : Int) : Bool := !decide (0 ≤ xs.getD j 0) && rqP cs xs j now cs.length

set_option maxHeartbeats 4000000 in
theorem orReady_any (L1 B1 L' B' : Nat) (At A' : Option Addr) (ct c' : Nat) (cs : List In) (xs : List Int) (j : Nat) (now : Int) (w : World) (h20 : cs.length ≤ 20) (hln : xs.length = cs.length) (hbd : ∀ x ∈ xs, -1 ≤ x ∧ x ≤ 1000) (hj : j < cs.length)
    (hxt : XS w L1 B1 At (dRows cs cs.length)) (hB1 : B1 ≤ w.heap.size) (hns : IS w L' B' A' xs) (hB' : B' ≤ w.heap.size) :
    Calls Try.prog 144 #[.slice At cs.length ct, .slice A' cs.length c', .int .i64 j, .int .i64 now] w fun e w' => e = .returned (.bool (rdyB cs xs j now)) ∧ Below w.heap.size w w' := by
  have hX := Lib.hid fun (W : World) (hW : Below w.heap.size w W) => hxt.below hW hB1
  have hI := Lib.hid fun (W : World) (hW : Below w.heap.size w W) => hns.below hW hB'
  have hRl := Lib.hid (dRows_len cs cs.length)
  have hRa := Lib.hid fun (i : Nat) (h : i < (dRows cs cs.length).length) => dRows_at cs cs.length h
  have hTl := Lib.hid (dTab_len cs)
  have hTa := Lib.hid fun (i j : Nat) (h : j < (dTab cs i cs.length).length) => dTab_at cs i cs.length h
  have hPs := Lib.hid (rqP_succ cs xs j now)
  have hPo := Lib.hid fun (k : Nat) (hk : k ≤ cs.length) (h : rqP cs xs j now k = false) => rqP_off h hk
  have hP0 : Hid (rqP cs xs j now 0 = true) := rfl
  have hQ : Hid (∀ q, rqB cs xs j now q = !(decide (0 ≤ dT cs q j) && (decide (xs.getD q 0 < 0) || decide (now < xs.getD q 0 + dT cs q j)))) := fun _ => rfl
  have hR : Hid (rdyB cs xs j now = (!decide (0 ≤ xs.getD j 0) && rqP cs xs j now cs.length)) := rfl
  have hDb := Lib.hid fun (i j : Nat) => dT_bd cs i j
  have hgb : ∀ q, q < cs.length → -1 ≤ xs.getD q 0 ∧ xs.getD q 0 ≤ 1000 := fun q hq => by
    rw [List.getD_eq_getElem?_getD, List.getElem?_eq_getElem (by omega)]
    exact hbd _ (List.getElem_mem _)
  have hGb := Lib.hid hgb
  have hLn := Lib.hid hln
  have hji : (j : Int) < (cs.length : Int) := by omega
  have hj0 : (0 : Int) ≤ (j : Int) := by omega
  have b0 := Lib.hid (Below.refl w.heap.size w)
  obtain ⟨xb, xo, hA', _, hxc⟩ := (hI.out w b0.out) (by omega)
  have hcx := Lib.hid fun (W : World) (hW : Below w.heap.size w W) (q : Nat) (hq : q < cs.length) => (show W.cell? ⟨xb, xo + q, none⟩ = some (.int .i64 (xs.getD q 0)) from by
    obtain ⟨xb', xo', hA2, _, hxc2⟩ := (hI.out W hW) (by omega)
    rw [hA'] at hA2
    injection hA2 with hA2
    injection hA2 with e1 e2 e3
    subst e1; subst e2
    rw [hxc2 q (by omega), List.getD_eq_getElem?_getD, List.getElem?_eq_getElem (by omega)]; rfl)
  subst hA'
  have x0 := hcx.out w b0.out j hj
  clear hxt hB1 hns hB' hbd hgb hln hxc
  generalize dRows cs cs.length = TT at *
  generalize dTab cs = T at *
  generalize dT cs = E at *
  generalize rdyB cs xs j now = R at *
  generalize rqP cs xs j now = P at *
  generalize rqB cs xs j now = Q at *
  by_cases hneg : 0 ≤ xs.getD j 0
  · have hR2 : Hid (R = false) := by rw [Hid, hR.out, decide_eq_true hneg]; rfl
    generalize xs.getD j 0 = y at *
    go_enter Try.func144, Try.ntmps144
    go_wp2
    go_ret
    exact ⟨by rw [hR2.out]; rfl, b0.out⟩
  have hR2 : Hid (R = P cs.length) := by rw [Hid, hR.out, decide_eq_false hneg]; rfl
  have hneg' : xs.getD j 0 < 0 := by omega
  generalize hyy : xs.getD j 0 = y at *
  clear hyy hR
  go_enter Try.func144, Try.ntmps144
  go_wp2
  clear x0
  go_loopw [18] (fun q wr => ∃ i : Nat, i ≤ cs.length ∧ q = .int .i64 i ∧ P i = true ∧ Below w.heap.size w wr) (fun q _ => cs.length - (intOf q).toNat)
  case atStart => exact ⟨0, Nat.zero_le _, rfl, hP0.out, b0.out⟩
  case round =>
    obtain ⟨i, hi, rfl, hp, hbel⟩ := hrel
    have hPi := Lib.hid hp
    have hBL := Lib.hid hbel
    clear hp hbel
    by_cases hlt : i < cs.length
    · have hii : (i : Int) < (cs.length : Int) := by omega
      have hi0 : (0 : Int) ≤ (i : Int) := by omega
      obtain ⟨tb, tof, Ai, ci, rfl, hxb, xc, hI2⟩ := XS.at (hX.out wr hBL.out) (show i < TT.length by rw [hRl.out]; omega)
      rw [hRa.out i (by rw [hRl.out]; omega)] at xc hI2
      rw [hTl.out] at xc
      obtain ⟨rb, ro, rfl, ⟨_, hrb⟩, hcc⟩ := hI2 (by rw [hTl.out]; omega)
      have rc := hcc j (by rw [hTl.out]; exact hj)
      rw [hTa.out i j (by rw [hTl.out]; exact hj)] at rc
      have x1 := hcx.out wr hBL.out i hlt
      have hq := Lib.hid (hQ.out i)
      have hps := Lib.hid (hPs.out i)
      have hpo := Lib.hid (hPo.out (i + 1) hlt)
      have hb1 := hDb.out i j
      have hb2 := hGb.out i hlt
      clear hcc hI2
      generalize hP1 : P (i + 1) = pi at *
      have hPh := Lib.hid hP1
      clear hP1
      generalize Q i = qi at *
      generalize E i j = dd at *
      generalize xs.getD i 0 = yi at *
      have hw9 : IntKind.i64.wrap (yi + dd) = yi + dd := IntWalk.i64_in _ (by omega)
      by_cases h0 : 0 ≤ dd
      · by_cases h1 : yi < 0
        · have hF : Hid (R = false) := by
            rw [Hid, hR2.out]; apply hpo.out; rw [hps.out, hq.out, decide_eq_true h0, decide_eq_true h1]; simp
          go_wp2_with (fail)
          go_quiet (fail)
          all_goals go_wp2
          all_goals go_ret
          all_goals exact ⟨by rw [hF.out]; rfl, below_drewN9 hBL.out _⟩
        · by_cases h2 : now < yi + dd
          · have hF : Hid (R = false) := by
              rw [Hid, hR2.out]; apply hpo.out; rw [hps.out, hq.out, decide_eq_true h0, decide_eq_true h2]; simp
            go_wp2_with (fail)
            go_quiet (fail)
            all_goals go_wp2
            all_goals go_ret
            all_goals exact ⟨by rw [hF.out]; rfl, below_drewN9 hBL.out _⟩
          · have hT : Hid (pi = true) := by rw [Hid, hps.out, hPi.out, hq.out, decide_eq_false h1, decide_eq_false h2]; simp
            go_wp2_with (fail)
            go_quiet (fail)
            all_goals go_wp2
            all_goals go_roundw
            case rel => exact ⟨i + 1, by omega, by go_num, by rw [hPh.out]; exact hT.out, below_drewN9 hBL.out _⟩
            case measure => simp [intOf]; omega
      · have hT : Hid (pi = true) := by rw [Hid, hps.out, hPi.out, hq.out, decide_eq_false h0]; simp
        have h0d : decide (0 ≤ dd) = false := decide_eq_false h0
        go_wp2_with (fail)
        go_quiet (fail)
        all_goals go_wp2
        all_goals go_roundw
        case rel => exact ⟨i + 1, by omega, by go_num, by rw [hPh.out]; exact hT.out, below_drewN9 hBL.out _⟩
        case measure => simp [intOf]; omega
    · obtain rfl : i = cs.length := by omega
      go_wp2
      go_ret
      exact ⟨by rw [hR2.out, hPi.out]; rfl, hBL.out⟩
end Go.Proofs.Ytaaloepoegehkaa

/- Chapter 9: cycles of instructions that have not begun (the model's). -/
namespace Go.Proofs.Ytaaloepoegehkaa
open Go.RowKit
set_option linter.unusedVariables false
set_option maxRecDepth 100000

def noneL (n : Nat) : List Int := List.replicate n (-1)
theorem noneL_len (n : Nat) : (noneL n).length = n := by unfold noneL; exact List.length_replicate ..
theorem noneL_succ (n : Nat) : noneL (n + 1) = noneL n ++ [-1] := by unfold noneL; exact List.replicate_succ' ..
set_option maxHeartbeats 4000000 in
theorem orNone_any (n : Nat) (w : World) (hl : n ≤ 1000) :
    Calls Try.prog 142 #[.int .i64 n] w (FreshI w (noneL n)) := by
  obtain ⟨i1, hi', hz0', hz1', hz2'⟩ := info_parts Try.infoInt
  have hI0 := Lib.hid hi'
  have hI1 := Lib.hid hz0'
  have hI2 := Lib.hid hz1'
  have hI3 := Lib.hid hz2'
  clear hi' hz0' hz1' hz2'
  have hLe := Lib.hid noneL_len
  have hSu := Lib.hid noneL_succ
  have h00 : Hid (noneL 0 = []) := rfl
  generalize noneL = I at *
  go_enter Try.func142, Try.ntmps142
  go_wp2
  go_loopw [0, 3] (fun q u wr => ∃ k : Nat, k ≤ n ∧ q = .int .i64 ((n : Int) - (k : Int)) ∧ OW wr w.heap.size wr.heap.size u (I k) ∧ Below w.heap.size w wr) (fun q _ _ => (intOf q).toNat)
  case atStart => exact ⟨0, Nat.zero_le _, by simp, by rw [h00.out]; exact OW.nil _ _ _, Below.refl _ _⟩
  case round =>
    obtain ⟨k, hk, rfl, how, hbel⟩ := hrel
    obtain ⟨V, cv, rfl, _⟩ := how.form
    have hO := Lib.hid how
    have hBL := Lib.hid hbel
    clear how hbel
    rw [hLe.out] at hO ⊢
    by_cases hlt : k < n
    · have hki : (0 : Int) < (n : Int) - (k : Int) := by omega
      have hw9 : IntKind.i64.wrap ((n : Int) - (k : Int) - 1) = (n : Int) - (k : Int) - 1 := IntWalk.i64_in _ (by omega)
      have hn9 : (n : Int) - (k : Int) - 1 = (n : Int) - ((k + 1 : Nat) : Int) := by omega
      have hS := Lib.hid (hSu.out k)
      have hxl := hLe.out k
      generalize hII : I (k + 1) = In1 at *
      have hIh := Lib.hid hII
      clear hII
      generalize I k = xs at *
      generalize hm9 : (n : Int) - (k : Int) = r9 at *
      have hM9 := Lib.hid hm9
      have hN9 := Lib.hid hn9
      clear hm9 hn9
      have ho2 := Lib.hid (hO.out.1.alloc (.cells #[.int .i64 (-1)] 3))
      have hb3 := Lib.hid (hBL.out.alloc hBL.out.size (.cells #[.int .i64 (-1)] 3))
      have hlo := Lib.hid hO.out.lo
      have hzw := hBL.out.size
      go_wp2_with (at_builtin; go_loud (refine wpList_append_own _ rfl _ _ 34 rfl w.heap.size 3 i1 (.int .i64 0) 1 8 Try.underlying34 hI0.out hI1.out hI2.out hI3.out rfl (by decide) _ _ _ rfl ho2.out ⟨wr.heap.size, 0, none⟩ 1 1 [.int .i64 (-1)] rfl rfl (new1 rfl) (one1 _) (by unfold maxLen; omega) (by omega) (by simp; omega) ?_); intro v' w4 hown4 hgr4 _)
      have R1 := Lib.hid (show OW w4 w.heap.size w4.heap.size v' In1 from by rw [hS.out]; exact OW.push (by simpa using hown4))
      have R2 := Lib.hid (hb3.out.grown hgr4 hb3.out.size (fun k hk => (hlo.out k hk).1))
      clear hown4 hgr4
      go_wp2
      go_roundw
      case rel => exact ⟨k + 1, hlt, by rw [← hN9.out], by rw [hIh.out]; exact R1.out, R2.out⟩
      case measure => simp [intOf]; omega
    · obtain rfl : k = n := by omega
      have e0 : (k : Int) - (k : Int) = 0 := by omega
      rw [e0]
      go_wp2
      go_ret
      exact ⟨V, cv, by rw [hLe.out]; rfl, by rw [hLe.out]; exact hO.out, hBL.out⟩
end Go.Proofs.Ytaaloepoegehkaa

/- Chapter 9: the list schedule of the program: its closures. -/
namespace Go.Proofs.Ytaaloepoegehkaa
open Go.RowKit
set_option linter.unusedVariables false
set_option maxRecDepth 100000

set_option maxHeartbeats 2000000 in
theorem lsBet_any (g6 L B : Nat) (A : Option Addr) (n c : Nat) (hs : List Int) (i j : Nat) (W : World) (hn : hs.length = n) (hi : i < n) (hj : j < n) (h6 : W.cell? ⟨g6, 0, none⟩ = some (.slice A n c)) (hns : IS W L B A hs) :
    Calls Try.prog 150 #[.int .i64 i, .int .i64 j, .pointer (some ⟨g6, 0, none⟩)] W fun e w' => e = .returned (.bool (decide (hs.getD j 0 < hs.getD i 0))) ∧ Below W.heap.size W w' := by
  obtain ⟨b, o, rfl, _, hc⟩ := hns (by omega)
  have c1 := hc i (by omega)
  have c2 := hc j (by omega)
  have e1 : hs.getD i 0 = hs[i] := by rw [List.getD_eq_getElem?_getD, List.getElem?_eq_getElem (by omega)]; rfl
  have e2 : hs.getD j 0 = hs[j] := by rw [List.getD_eq_getElem?_getD, List.getElem?_eq_getElem (by omega)]; rfl
  have hii : (i : Int) < (n : Int) := by omega
  have hi0 : (0 : Int) ≤ (i : Int) := by omega
  have hji : (j : Int) < (n : Int) := by omega
  have hj0 : (0 : Int) ≤ (j : Int) := by omega
  rw [e1, e2]
  clear hc e1 e2 hns
  generalize hs[i] = x at *
  generalize hs[j] = y at *
  clear hn
  have b0 := Lib.hid (Below.refl W.heap.size W)
  go_enter Try.func150, Try.ntmps150
  go_wp2_with (fail)
  go_quiet (fail)
  all_goals go_wp2
  all_goals go_ret
  all_goals exact ⟨rfl, below_drewN9 b0.out _⟩
set_option maxHeartbeats 8000000 in
theorem lsMay_any (g5 g2 g7 L B L' B' : Nat) (A An A' : Option Addr) (m c cn c' : Nat) (cs : List In) (cyc : List Int) (now : Int) (i : Nat) (W : World) (h20 : cs.length ≤ 20) (hn : cyc.length = cs.length) (hi : i < cs.length)
    (h5 : W.cell? ⟨g5, 0, none⟩ = some (.slice A' cs.length c')) (h7 : W.cell? ⟨g7, 0, none⟩ = some (.int .i64 now)) (hp : PB W g2 (.slice A m c) (.slice An cs.length cn)) (hg5 : g5 < W.heap.size) (hg7 : g7 < W.heap.size) (hok : NdOk cyc (ndL cs i cs.length))
    (hpn : PN W L B An (nds cs)) (hB : B ≤ W.heap.size) (hns : IS W L' B' A' cyc) (hB' : B' ≤ W.heap.size) :
    Calls Try.prog 148 #[.int .i64 i, .pointer (some ⟨g5, 0, none⟩), .pointer (some ⟨g2, 0, none⟩), .pointer (some ⟨g7, 0, none⟩)] W fun e w' => e = .returned (.bool (decide (cyc.getD i 0 = 101) && decide (lcF cyc (ndL cs i cs.length) ≤ now))) ∧ Below W.heap.size W w' := by
  have hi2 : i < (nds cs).length := by rw [nds_len]; exact hi
  have hC := Lib.hid fun (V : World) (hV : Below W.heap.size W V) => leastCycle_any A m c L B An cn (nds cs) i L' B' A' c' cyc V hi2 (by rw [nds_at]; have := ndL_len cs i cs.length; omega) (by rw [nds_at]; exact hok) (hpn.below hV hB) (Nat.le_trans hB hV.size) (hns.below hV hB') (Nat.le_trans hB' hV.size)
  rw [nds_at, nds_len, hn] at hC
  obtain ⟨b, o, rfl, hbb, hc⟩ := hns (by omega)
  have c1 := hc i (by omega)
  have e1 : cyc.getD i 0 = cyc[i] := by rw [List.getD_eq_getElem?_getD, List.getElem?_eq_getElem (by omega)]; rfl
  have hii : (i : Int) < (cs.length : Int) := by omega
  have hi0 : (0 : Int) ≤ (i : Int) := by omega
  have p0 := PB.c0 hp
  have p1 := PB.c1 hp
  have hp2 := CB.lt hp
  rw [e1]
  clear hc e1 hns hpn hok hp hi2
  generalize cyc[i] = x at *
  generalize lcF cyc (ndL cs i cs.length) = lc at *
  clear hn
  have b0 := Lib.hid (Below.refl W.heap.size W)
  by_cases hx : x = 101
  · subst hx
    have hCb := Lib.hid fun (k : Nat) => hC.out (W.drewN k) (below_drewN9 b0.out k)
    have hC1 := Lib.hid (hC.out W.drew b0.out.drew)
    clear hC hCb
    go_enter Try.func148, Try.ntmps148
    go_wp2_with (fail)
    go_region_law (go_simp; go_at_call 149; (with_reducible refine (hC1.out).mono ?_); rintro e w3 ⟨rfl, hb3⟩; have x7 := (hb3.cell (p := ⟨g7, 0, none⟩) hg7).trans h7; have hB3 := Lib.hid (b0.out.drew.trans hb3); clear hb3)
    all_goals
      go_wp2
      go_ret
      exact ⟨by first | rfl | (rw [Bool.true_and]; rfl) | (simp; rfl), hB3.out⟩
  · have hxd : (x == 101) = false := by simp; exact hx
    have hxe : decide (x = 101) = false := decide_eq_false hx
    clear hC
    go_enter Try.func148, Try.ntmps148
    go_wp2_with (fail)
    go_quiet (fail)
    all_goals go_wp2
    all_goals go_ret
    all_goals exact ⟨by rw [hxe]; rfl, below_drewN9 b0.out _⟩
end Go.Proofs.Ytaaloepoegehkaa
