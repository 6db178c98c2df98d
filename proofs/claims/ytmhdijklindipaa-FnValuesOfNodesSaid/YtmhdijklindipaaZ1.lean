/- Texts of this proof, one behind the other: XV, LawY, TV, LawFV, OC, OB. -/
import Derived.Test.YtmhdijklindipaaZ2
import Derived.Test.YtmhdijklindipaaZ3
import Derived.Test.YtmhdijklindipaaZ8
import Derived.Test.YtmhdijklindipaaZ7
import Derived.Test.YtmhdijklindipaaZ9
import Derived.Test.YtmhdijklindipaaLI
import Derived.WalkKit
import Derived.WalkSpells
import Derived.WalkLawsBesides
import Derived.Lib.Hide
import Derived.Deep.QuietTactic
import Derived.BigQuiet
import Derived.Deep.RegionLaw
import Derived.Deep.RegionHeld3
import Derived.Test.YtmhdijklindipaaKMInstr
import Derived.ProofKit
import Derived.OpenShut
import Derived.ShutString
import Derived.ChangeOld
import Derived.Below
import Derived.Deep.Slices
import Derived.Deep.Fields
import Derived.Test.YtmhdijklindipaaRows
import Derived.Test.YtmhdijklindipaaDR1
/- Plain facts of FnValuesOfNodes. -/
namespace Go.Proofs.Ytmhdijklindipaa
open Go.RowKit
set_option linter.unusedVariables false

theorem ap_good {s : ByteArray} {a b : Int} (ha : 0 ≤ a ∧ a ≤ 63) (hb : 0 ≤ b ∧ b ≤ 63) (hs : isOne s = true ∨ isTwo s = true) (h0 : isOne s = true → b = 0) : apOk s a b = true ∧ apR s a b = ap s a b := by
  have h : apOk s a b = true := by
    unfold apOk
    rw [(isW_iff a).2 ha, (isW_iff b).2 hb]
    cases h1 : isOne s
    · rcases hs with h | h
      · rw [h1] at h; cases h
      · rw [h]; rfl
    · rw [h0 h1]; simp
  exact ⟨h, by unfold apR; rw [if_pos h]⟩
theorem vv_facts {es : List Nd} {x0 x1 : Int} (h : valsOk es x0 x1 = true) : good es = true ∧ (vals es x0 x1).length = es.length ∧ 1 ≤ es.length ∧ es.length ≤ 24 ∧ valsR es x0 x1 = vals es x0 x1 ∧ evalR es x0 x1 = (vals es x0 x1).getD (es.length - 1) 0 ∧ (0 ≤ x0 ∧ x0 ≤ 63) ∧ (0 ≤ x1 ∧ x1 ≤ 63) ∧ tabR es = tab es ∧ (tab es).length = 4096 ∧ (tab es).getD (64 * x0 + x1).toNat 0 = evalR es x0 x1 := by
  have h0 := h
  unfold valsOk at h0
  simp only [Bool.and_eq_true] at h0
  obtain ⟨⟨hg, w0⟩, w1⟩ := h0
  have w0 := (isW_iff _).1 w0
  have w1 := (isW_iff _).1 w1
  obtain ⟨l1, l24, ok⟩ := good_len hg
  have hE : evalR es x0 x1 = (vals es x0 x1).getD (es.length - 1) 0 := by unfold evalR; rw [if_pos h]
  refine ⟨hg, by unfold vals; rw [valsAt_len], l1, l24, by unfold valsR; rw [if_pos h], hE, w0, w1, by unfold tabR; rw [if_pos hg], by unfold tab; rw [tabTo_len], ?_⟩
  rw [hE]
  unfold tab
  rw [tabTo_get _ (by omega)]
  unfold at2
  rw [show (((64 * x0 + x1).toNat / 64 : Nat) : Int) = x0 by omega, show (((64 * x0 + x1).toNat % 64 : Nat) : Int) = x1 by omega]
theorem vv_node {es : List Nd} {x0 x1 : Int} (h : valsOk es x0 x1 = true) {k : Nat} (hk : k < es.length) :
    (es[k].op.toList = [105,110] ∧ es[k].v = 0 ∧ (vals es x0 x1).getD k 0 = x0) ∨ (es[k].op.toList = [105,110] ∧ es[k].v = 1 ∧ (vals es x0 x1).getD k 0 = x1) ∨
    ((es[k].op.toList == [105,110]) = false ∧ es[k].op.toList = [99,111,110,115,116] ∧ (vals es x0 x1).getD k 0 = es[k].v) ∨
    ((es[k].op.toList == [105,110]) = false ∧ (es[k].op.toList == [99,111,110,115,116]) = false ∧ (es[k].op.toList = [110,111,116] ∨ ((es[k].op.toList == [110,111,116]) = false ∧ es[k].op.toList = [110,101,103])) ∧ ∃ a : Nat, es[k].a = a ∧ a < es.length ∧ apOk es[k].op ((vals es x0 x1).getD a 0) 0 = true ∧ apR es[k].op ((vals es x0 x1).getD a 0) 0 = (vals es x0 x1).getD k 0) ∨
    ((es[k].op.toList == [105,110]) = false ∧ (es[k].op.toList == [99,111,110,115,116]) = false ∧ (es[k].op.toList == [110,111,116]) = false ∧ (es[k].op.toList == [110,101,103]) = false ∧ ∃ a b : Nat, es[k].a = a ∧ es[k].b = b ∧ a < es.length ∧ b < es.length ∧ apOk es[k].op ((vals es x0 x1).getD a 0) ((vals es x0 x1).getD b 0) = true ∧ apR es[k].op ((vals es x0 x1).getD a 0) ((vals es x0 x1).getD b 0) = (vals es x0 x1).getD k 0) := by
  obtain ⟨hg, _, _, _, _, _, w0, w1, _⟩ := vv_facts h
  obtain ⟨l1, l24, ok⟩ := good_len hg
  have hV := fun {i : Nat} (hi : i < es.length) => vals_tm ok x0 x1 hi
  have hW := valsAt_W ok w0 w1 (Nat.le_refl _)
  have hW : ∀ i, 0 ≤ (vals es x0 x1).getD i 0 ∧ (vals es x0 x1).getD i 0 ≤ 63 := hW
  have hnd := ok_get ok hk
  have hc := tmE_cases ok hk
  rcases node_kinds hnd with ⟨e, _⟩ | ⟨e, e', hv⟩ | ⟨e, e', k1, k2, ha0, ha1, hb⟩ | ⟨e, e', k1, k2, ha0, ha1, hb0, hb1⟩
  · right; right; left
    refine ⟨by rw [e]; rfl, e, ?_⟩
    have h0 : ar es[k].op = 0 := by unfold ar isConst; rw [e]; simp
    rcases hc with ⟨_, _, _, et⟩ | ⟨g, _⟩ | ⟨g, _⟩
    · rw [hV hk, et]; unfold Tm.ev; rw [if_pos (by unfold isConst; rw [e]; rfl)]
    · omega
    · omega
  · have h0 : ar es[k].op = 0 := by unfold ar isIn; rw [e]; simp
    have hcf : isConst es[k].op = false := by unfold isConst; exact e'
    rcases hc with ⟨_, _, _, et⟩ | ⟨g, _⟩ | ⟨g, _⟩
    · rcases hv with hv | hv
      · left; refine ⟨e, hv, ?_⟩
        rw [hV hk, et]; unfold Tm.ev; rw [hcf, hv]; rfl
      · right; left; refine ⟨e, hv, ?_⟩
        rw [hV hk, et]; unfold Tm.ev; rw [hcf, hv]; rfl
    · omega
    · omega
  · right; right; right; left
    refine ⟨e', e, ?_, ?_⟩
    · unfold isOne at k1
      cases h9 : (es[k].op.toList == [110,111,116])
      · right; rw [h9] at k1; exact ⟨rfl, by simpa using k1⟩
      · left; simpa using h9
    · rcases hc with ⟨g, _⟩ | ⟨_, _, a, ea, ha, _, et⟩ | ⟨_, g, _⟩
      · have : ar es[k].op = 1 := by unfold ar isIn isConst; rw [e', e, k1]; rfl
        omega
      · refine ⟨a, ea, by omega, ?_⟩
        obtain ⟨g1, g2⟩ := ap_good (s := es[k].op) (hW a) (b := 0) ⟨by omega, by omega⟩ (.inl k1) (fun _ => rfl)
        refine ⟨g1, ?_⟩
        rw [g2, hV hk, et, hV (show a < es.length by omega)]; rfl
      · rw [k1] at g; cases g
  · right; right; right; right
    refine ⟨e', e, ?_, ?_, ?_⟩
    · unfold isOne at k1; simp only [Bool.or_eq_false_iff] at k1; exact k1.1
    · unfold isOne at k1; simp only [Bool.or_eq_false_iff] at k1; exact k1.2
    · rcases hc with ⟨g, _⟩ | ⟨_, g, _⟩ | ⟨_, _, _, a, b, ea, eb, ha, hb', et⟩
      · have : ar es[k].op = 2 := by unfold ar isIn isConst; rw [e', e, k1, k2]; rfl
        omega
      · rw [k1] at g; cases g
      · refine ⟨a, b, ea, eb, by omega, by omega, ?_⟩
        obtain ⟨g1, g2⟩ := ap_good (s := es[k].op) (hW a) (hW b) (.inr k2) (fun h => by rw [k1] at h; cases h)
        refine ⟨g1, ?_⟩
        rw [g2, hV hk, et, hV (show a < es.length by omega), hV (show b < es.length by omega)]; rfl
end Go.Proofs.Ytmhdijklindipaa

namespace Go.Proofs.Ytmhdijklindipaa
open Go.RowKit
set_option linter.unusedVariables false

def ResEvalExpr (R0 : Int) (R1 : Bool) (w : World) (e : Ending) (w' : World) : Prop := e = .returned (.tuple #[.int .i64 R0, .bool R1]) ∧ Below w.heap.size w w'
def ResValuesOf (R0 : List (Int)) (R1 : Bool) (w : World) (e : Ending) (w' : World) : Prop := ∃ (A0 : Option Addr) (c0 : Nat), e = .returned (.tuple #[.slice A0 R0.length c0, .bool R1]) ∧ OW w' w.heap.size w'.heap.size (.slice A0 R0.length c0) R0 ∧ Below w.heap.size w w'
end Go.Proofs.Ytmhdijklindipaa

namespace Go.Proofs.Ytmhdijklindipaa
open Go.RowKit
theorem iEvalExpr_k (L B : Nat) (A : Option Addr) (c : Nat) (es : List Nd) (x0 x1 : Int) (w : World) (hl : es.length ≤ 1048576) (hes : RS Nd.enc 4 w L B A es) (hB : B ≤ w.heap.size) :
    Calls Try.prog 17 #[.slice A es.length c, .int .i64 x0, .int .i64 x1] w (ResEvalExpr (evalR es x0 x1) (valsOk es x0 x1) w) := iEvalExpr_any L B A c es x0 x1 w hl hes.ns hB
theorem sValuesOf_k (L B : Nat) (A : Option Addr) (c : Nat) (es : List Nd) (x0 x1 : Int) (w : World) (hl : es.length ≤ 1048576) (hes : RS Nd.enc 4 w L B A es) (hB : B ≤ w.heap.size) :
    Calls Try.prog 16 #[.slice A es.length c, .int .i64 x0, .int .i64 x1] w (ResValuesOf (valsR es x0 x1) (valsOk es x0 x1) w) := sValuesOf_any L B A c es x0 x1 w hl hes.ns hB
theorem iValuesOf_k (L B : Nat) (A : Option Addr) (c : Nat) (es : List Nd) (x0 x1 : Int) (w : World) (hl : es.length ≤ 1048576) (hes : RS Nd.enc 4 w L B A es) (hB : B ≤ w.heap.size) :
    Calls Try.prog 15 #[.slice A es.length c, .int .i64 x0, .int .i64 x1] w (ResValuesOf (valsR es x0 x1) (valsOk es x0 x1) w) := iValuesOf_any L B A c es x0 x1 w hl hes.ns hB
end Go.Proofs.Ytmhdijklindipaa

/- FnValuesOfNodes: the values of nodes are made of those of their operands. -/
namespace Go.Proofs.Ytmhdijklindipaa
open Go.RowKit
set_option linter.unusedVariables false
set_option maxRecDepth 100000

theorem valsR_len9 (es : List Nd) (x0 x1 : Int) : (valsR es x0 x1).length ≤ 1048576 := by
  cases h : valsOk es x0 x1
  · unfold valsR; rw [h]; simp
  · obtain ⟨_, h1, _, h2, h3, _⟩ := vv_facts h
    rw [h3, h1]; omega

set_option maxHeartbeats 16000000 in
theorem fnValuesOfNodes_go (A A' : Option Addr) (c c' : Nat) (bs bs' : List Int) (w : World) (hbl : bs.length + bs'.length ≤ 1048576) (ha : ∀ x ∈ bs, 0 ≤ x ∧ x ≤ 255) (ha' : ∀ x ∈ bs', 0 ≤ x ∧ x ≤ 255) (hy : BY w w.heap.size A bs) (hy' : BY w w.heap.size A' bs') :
    Calls Try.prog 3 #[.slice A bs.length c, .slice A' bs'.length c'] w fun e w' => e = .returned (.bool true) ∧ Below w.heap.size w w' := by
  have hB := Lib.hid (Below.refl w.heap.size w)
  have hBY := Lib.hid fun (W : World) (hW : Below w.heap.size w W) => ((hy.keep fun j hj => hW.block j hj).more hW.size : BY W W.heap.size A bs)
  have hBY' := Lib.hid fun (W : World) (hW : Below w.heap.size w W) => ((hy'.keep fun j hj => hW.block j hj).more hW.size : BY W W.heap.size A' bs')
  have HBig := Lib.hid (big_no A A' bs.length bs'.length c c' w (by omega) (by omega) hbl)
  have HAp := Lib.hid fun (s : ByteArray) (p q : Int) (W : World) => iApplyOp_any s p q W
  have hA := Lib.hid ha
  have hA' := Lib.hid ha'
  clear hy hy' ha ha'
  go_enter Try.func3, Try.ntmps3
  go_wp2_with (fail)
  refine HBig.out.mono ?_
  rintro e w0 ⟨rfl, rfl⟩
  clear HBig
  have H := Lib.hid (DrawValuesOf_d A c bs w (by omega) hA.out (hBY.out w hB.out))
  go_wp2_with (fail)
  refine (H.out).mono ?_
  rintro e w1 ⟨_, xe, x0, x1, rfl, ⟨Ae, ce, rfl, ne, ke, re⟩, hx0, hx1, hbe⟩
  replace hB := Lib.hid (hB.out.trans (hbe.mono hB.out.size))
  have h_e := Lib.hid (re.more (Nat.zero_le _) (Nat.le_refl _))
  clear hbe H
  clear re ke hx0 hx1
  have hF : ∃ F, valsOk xe x0 x1 = F := ⟨_, rfl⟩
  obtain ⟨F, hF⟩ := hF
  replace hF := Lib.hid hF
  have hvl := Lib.hid (valsR_len9 xe x0 x1)
  have hq9 := iValuesOf_k 0 w1.heap.size Ae ce xe x0 x1 w1 (by omega) h_e.out (Nat.le_refl _)
  rw [hF.out] at hq9
  have H := Lib.hid hq9
  clear hq9
  go_wp2_with (fail)
  refine (H.out).mono ?_
  rintro e w2 ⟨Av, cv, rfl, ou, hbe⟩
  replace h_e := Lib.hid (h_e.out.upE hbe)
  replace hB := Lib.hid (hB.out.trans (hbe.mono hB.out.size))
  have h_v := Lib.hid (IS.more (OW.rs ou) (Nat.zero_le _) (Nat.le_refl _))
  clear hbe H
  clear ou
  have hq9 := sValuesOf_k 0 w2.heap.size Ae ce xe x0 x1 w2 (by omega) h_e.out (Nat.le_refl _)
  rw [hF.out] at hq9
  have H := Lib.hid hq9
  clear hq9
  go_wp2_with (fail)
  refine (H.out).mono ?_
  rintro e w3 ⟨Ar, cr, rfl, ou, hbe⟩
  replace h_e := Lib.hid (h_e.out.upE hbe)
  replace h_v := Lib.hid (h_v.out.upD hbe)
  replace hB := Lib.hid (hB.out.trans (hbe.mono hB.out.size))
  have h_r := Lib.hid (IS.more (OW.rs ou) (Nat.zero_le _) (Nat.le_refl _))
  clear hbe H
  clear ou
  have hq9 := iEvalExpr_k 0 w3.heap.size Ae ce xe x0 x1 w3 (by omega) h_e.out (Nat.le_refl _)
  rw [hF.out] at hq9
  have H := Lib.hid hq9
  clear hq9
  go_wp2_with (fail)
  refine (H.out).mono ?_
  rintro e w4 ⟨rfl, hbe⟩
  replace h_e := Lib.hid (h_e.out.upE hbe)
  replace h_v := Lib.hid (h_v.out.upD hbe)
  replace h_r := Lib.hid (h_r.out.upD hbe)
  replace hB := Lib.hid (hB.out.trans (hbe.mono hB.out.size))
  clear hbe H
  have e1 : (F != F) = false := by simp
  have H := Lib.hid (pSame_eq 0 w4.heap.size 0 w4.heap.size Av Ar _ _ cv cr (valsR xe x0 x1) w4 rfl rfl hvl.out h_v.out h_r.out)
  go_wp2_with (fail)
  refine (H.out).mono ?_
  rintro e w5 ⟨rfl, n, hn⟩
  have hbe := yes_below hn
  clear hn n
  replace h_e := Lib.hid (h_e.out.upE hbe)
  replace h_v := Lib.hid (h_v.out.upD hbe)
  replace h_r := Lib.hid (h_r.out.upD hbe)
  replace hB := Lib.hid (hB.out.trans (hbe.mono hB.out.size))
  clear hbe H
  clear h_r
  obtain rfl | rfl : F = false ∨ F = true := by cases F <;> simp
  · have H := Lib.hid (DrawTableOf_d A' c' bs' w5 (by omega) hA'.out (hBY'.out _ hB.out))
    go_wp2_with (fail)
    refine (H.out).mono ?_
    rintro e w6 ⟨_, xf, rfl, ⟨Af, cf, rfl, nf, kf, rf⟩, hbe⟩
    replace h_e := Lib.hid (h_e.out.upE hbe)
    replace h_v := Lib.hid (h_v.out.upD hbe)
    replace hB := Lib.hid (hB.out.trans (hbe.mono hB.out.size))
    have h_f := Lib.hid (rf.more (Nat.zero_le _) (Nat.le_refl _))
    clear hbe H
    clear rf kf
    have hG : ∃ G, good xf = G := ⟨_, rfl⟩
    obtain ⟨G, hG⟩ := hG
    replace hG := Lib.hid hG
    have htl := Lib.hid (tabR_len xf)
    have hq9 := iTableOf_any 0 w6.heap.size Af cf xf w6 (by omega) h_f.out.ns (Nat.le_refl _)
    rw [hG.out] at hq9
    have H := Lib.hid hq9
    clear hq9
    go_wp2_with (fail)
    refine (H.out).mono ?_
    rintro e w7 ⟨At, ct, rfl, ou, hbe⟩
    replace h_e := Lib.hid (h_e.out.upE hbe)
    replace h_v := Lib.hid (h_v.out.upD hbe)
    replace h_f := Lib.hid (h_f.out.upE hbe)
    replace hB := Lib.hid (hB.out.trans (hbe.mono hB.out.size))
    have h_t := Lib.hid (IS.more (OW.rs ou) (Nat.zero_le _) (Nat.le_refl _))
    clear hbe H
    clear ou
    have hq9 := sTableOf_any 0 w7.heap.size Af cf xf w7 (by omega) h_f.out.ns (Nat.le_refl _)
    rw [hG.out] at hq9
    have H := Lib.hid hq9
    clear hq9
    go_wp2_with (fail)
    refine (H.out).mono ?_
    rintro e w8 ⟨Au, cu, rfl, ou, hbe⟩
    replace h_e := Lib.hid (h_e.out.upE hbe)
    replace h_v := Lib.hid (h_v.out.upD hbe)
    replace h_f := Lib.hid (h_f.out.upE hbe)
    replace h_t := Lib.hid (h_t.out.upD hbe)
    replace hB := Lib.hid (hB.out.trans (hbe.mono hB.out.size))
    have h_u := Lib.hid (IS.more (OW.rs ou) (Nat.zero_le _) (Nat.le_refl _))
    clear hbe H
    clear ou
    have e2 : (G != G) = false := by simp
    have H := Lib.hid (pSame_eq 0 w8.heap.size 0 w8.heap.size At Au _ _ ct cu (tabR xf) w8 rfl rfl htl.out h_t.out h_u.out)
    go_wp2_with (fail)
    refine (H.out).mono ?_
    rintro e w9 ⟨rfl, n, hn⟩
    have hbe := yes_below hn
    clear hn n
    replace h_e := Lib.hid (h_e.out.upE hbe)
    replace h_v := Lib.hid (h_v.out.upD hbe)
    replace h_f := Lib.hid (h_f.out.upE hbe)
    replace h_t := Lib.hid (h_t.out.upD hbe)
    replace h_u := Lib.hid (h_u.out.upD hbe)
    replace hB := Lib.hid (hB.out.trans (hbe.mono hB.out.size))
    clear hbe H
    clear h_t h_u
    have hq9 := IsExpr_any 0 w9.heap.size Af cf xf w9 (by omega) h_f.out.ns (Nat.le_refl _)
    rw [hG.out] at hq9
    have H := Lib.hid hq9
    clear hq9
    go_wp2_with (fail)
    refine (H.out).mono ?_
    rintro e w10 ⟨rfl, hbe⟩
    replace h_e := Lib.hid (h_e.out.upE hbe)
    replace h_v := Lib.hid (h_v.out.upD hbe)
    replace h_f := Lib.hid (h_f.out.upE hbe)
    replace hB := Lib.hid (hB.out.trans (hbe.mono hB.out.size))
    clear hbe H
    clear h_f
    have H := Lib.hid (DrawApplyOp_d A' c' bs' w10 (by omega) hA'.out (hBY'.out _ hB.out))
    go_wp2_with (fail)
    refine (H.out).mono ?_
    rintro e w11 ⟨op, pa, pb, rfl, hbe⟩
    replace h_e := Lib.hid (h_e.out.upE hbe)
    replace h_v := Lib.hid (h_v.out.upD hbe)
    replace hB := Lib.hid (hB.out.trans (hbe.mono hB.out.size))
    clear hbe H
    have hQ : ∃ Q, apOk op pa pb = Q := ⟨_, rfl⟩
    obtain ⟨Q, hQ⟩ := hQ
    replace hQ := Lib.hid hQ
    have hq9 := HAp.out op pa pb w11
    rw [hQ.out] at hq9
    have H := Lib.hid hq9
    clear hq9
    go_wp2_with (fail)
    refine H.out.mono ?_
    rintro e wq ⟨rfl, rfl⟩
    clear H
    have hq9 := sApplyOp_any op pa pb w11
    rw [hQ.out] at hq9
    have H := Lib.hid hq9
    clear hq9
    go_wp2_with (fail)
    refine (H.out).mono ?_
    rintro e w12 ⟨rfl, hbe⟩
    replace h_e := Lib.hid (h_e.out.upE hbe)
    replace h_v := Lib.hid (h_v.out.upD hbe)
    replace hB := Lib.hid (hB.out.trans (hbe.mono hB.out.size))
    clear hbe H
    have e3 : (Q != Q) = false := by simp
    go_wp2
    go_ret
    exact ⟨rfl, hB.out⟩
  · obtain ⟨t1, t2, t3, t4, t5, t6, w0, w1, t9, t10, t11⟩ := vv_facts hF.out
    have hN9 := Lib.hid fun (k : Nat) (hk : k < xe.length) => vv_node hF.out hk
    rw [t5] at h_v hvl
    rw [t5, t2]
    clear t5 t1
    obtain ⟨vb0, vo0, hAv, _, hvc⟩ := h_v.out (by omega)
    have cl := hvc (xe.length - 1) (by omega)
    have hgl : (vals xe x0 x1)[xe.length - 1]'(by omega) = evalR xe x0 x1 := by rw [t6, List.getD_eq_getElem?_getD, List.getElem?_eq_getElem (by omega)]; rfl
    rw [hgl] at cl
    clear hgl hvc t6
    subst hAv
    obtain ⟨m, hm⟩ : ∃ m, xe.length = m + 1 := ⟨xe.length - 1, by omega⟩
    rw [show xe.length - 1 = m by omega] at cl
    replace t2 := Lib.hid t2
    replace t9 := Lib.hid t9
    replace t10 := Lib.hid t10
    replace t11 := Lib.hid t11
    replace w0 := Lib.hid w0
    replace w1 := Lib.hid w1
    have hM := Lib.hid hm
    have hw1 : IntKind.i64.wrap ((xe.length : Int) - 1) = (m : Int) := by rw [IntWalk.i64_in _ (by omega)]; omega
    have hm1 : (m : Int) < (xe.length : Int) := by omega
    have hm0 : (0 : Int) ≤ (m : Int) := by omega
    clear hm
    have H := Lib.hid (DrawTableOf_d A' c' bs' w5 (by omega) hA'.out (hBY'.out _ hB.out))
    go_wp2_with (fail)
    refine (H.out).mono ?_
    rintro e w6 ⟨_, xf, rfl, ⟨Af, cf, rfl, nf, kf, rf⟩, hbe⟩
    replace h_e := Lib.hid (h_e.out.upE hbe)
    replace h_v := Lib.hid (h_v.out.upD hbe)
    replace hB := Lib.hid (hB.out.trans (hbe.mono hB.out.size))
    have h_f := Lib.hid (rf.more (Nat.zero_le _) (Nat.le_refl _))
    clear hbe H
    clear rf kf
    have hG : ∃ G, good xf = G := ⟨_, rfl⟩
    obtain ⟨G, hG⟩ := hG
    replace hG := Lib.hid hG
    have htl := Lib.hid (tabR_len xf)
    have hq9 := iTableOf_any 0 w6.heap.size Af cf xf w6 (by omega) h_f.out.ns (Nat.le_refl _)
    rw [hG.out] at hq9
    have H := Lib.hid hq9
    clear hq9
    go_wp2_with (fail)
    refine (H.out).mono ?_
    rintro e w7 ⟨At, ct, rfl, ou, hbe⟩
    replace h_e := Lib.hid (h_e.out.upE hbe)
    replace h_v := Lib.hid (h_v.out.upD hbe)
    replace h_f := Lib.hid (h_f.out.upE hbe)
    replace hB := Lib.hid (hB.out.trans (hbe.mono hB.out.size))
    have h_t := Lib.hid (IS.more (OW.rs ou) (Nat.zero_le _) (Nat.le_refl _))
    clear hbe H
    clear ou
    have hq9 := sTableOf_any 0 w7.heap.size Af cf xf w7 (by omega) h_f.out.ns (Nat.le_refl _)
    rw [hG.out] at hq9
    have H := Lib.hid hq9
    clear hq9
    go_wp2_with (fail)
    refine (H.out).mono ?_
    rintro e w8 ⟨Au, cu, rfl, ou, hbe⟩
    replace h_e := Lib.hid (h_e.out.upE hbe)
    replace h_v := Lib.hid (h_v.out.upD hbe)
    replace h_f := Lib.hid (h_f.out.upE hbe)
    replace h_t := Lib.hid (h_t.out.upD hbe)
    replace hB := Lib.hid (hB.out.trans (hbe.mono hB.out.size))
    have h_u := Lib.hid (IS.more (OW.rs ou) (Nat.zero_le _) (Nat.le_refl _))
    clear hbe H
    clear ou
    have e2 : (G != G) = false := by simp
    have H := Lib.hid (pSame_eq 0 w8.heap.size 0 w8.heap.size At Au _ _ ct cu (tabR xf) w8 rfl rfl htl.out h_t.out h_u.out)
    go_wp2_with (fail)
    refine (H.out).mono ?_
    rintro e w9 ⟨rfl, n, hn⟩
    have hbe := yes_below hn
    clear hn n
    replace h_e := Lib.hid (h_e.out.upE hbe)
    replace h_v := Lib.hid (h_v.out.upD hbe)
    replace h_f := Lib.hid (h_f.out.upE hbe)
    replace h_t := Lib.hid (h_t.out.upD hbe)
    replace h_u := Lib.hid (h_u.out.upD hbe)
    replace hB := Lib.hid (hB.out.trans (hbe.mono hB.out.size))
    clear hbe H
    clear h_t h_u
    have hq9 := IsExpr_any 0 w9.heap.size Af cf xf w9 (by omega) h_f.out.ns (Nat.le_refl _)
    rw [hG.out] at hq9
    have H := Lib.hid hq9
    clear hq9
    go_wp2_with (fail)
    refine (H.out).mono ?_
    rintro e w10 ⟨rfl, hbe⟩
    replace h_e := Lib.hid (h_e.out.upE hbe)
    replace h_v := Lib.hid (h_v.out.upD hbe)
    replace h_f := Lib.hid (h_f.out.upE hbe)
    replace hB := Lib.hid (hB.out.trans (hbe.mono hB.out.size))
    clear hbe H
    clear h_f
    have H := Lib.hid (DrawApplyOp_d A' c' bs' w10 (by omega) hA'.out (hBY'.out _ hB.out))
    go_wp2_with (fail)
    refine (H.out).mono ?_
    rintro e w11 ⟨op, pa, pb, rfl, hbe⟩
    replace h_e := Lib.hid (h_e.out.upE hbe)
    replace h_v := Lib.hid (h_v.out.upD hbe)
    replace hB := Lib.hid (hB.out.trans (hbe.mono hB.out.size))
    clear hbe H
    have hQ : ∃ Q, apOk op pa pb = Q := ⟨_, rfl⟩
    obtain ⟨Q, hQ⟩ := hQ
    replace hQ := Lib.hid hQ
    have hq9 := HAp.out op pa pb w11
    rw [hQ.out] at hq9
    have H := Lib.hid hq9
    clear hq9
    go_wp2_with (fail)
    refine H.out.mono ?_
    rintro e wq ⟨rfl, rfl⟩
    clear H
    have hq9 := sApplyOp_any op pa pb w11
    rw [hQ.out] at hq9
    have H := Lib.hid hq9
    clear hq9
    go_wp2_with (fail)
    refine (H.out).mono ?_
    rintro e w12 ⟨rfl, hbe⟩
    replace h_e := Lib.hid (h_e.out.upE hbe)
    replace h_v := Lib.hid (h_v.out.upD hbe)
    replace hB := Lib.hid (hB.out.trans (hbe.mono hB.out.size))
    clear hbe H
    have e3 : (Q != Q) = false := by simp
    go_wp2
    clear e2 e3
    go_loopw [148] (fun i wr => ∃ k : Nat, k ≤ xe.length ∧ i = .int .i64 k ∧ Below w12.heap.size w12 wr) (fun i _ => xe.length - (intOf i).toNat)
    case atStart => exact ⟨0, Nat.zero_le _, rfl, Below.refl _ _⟩
    case round =>
      obtain ⟨k, hk, rfl, hbe⟩ := hrel
      generalize hQo : wr = wo at *
      clear hQo
      have hBL := Lib.hid hbe
      replace h_e := Lib.hid (h_e.out.upE hbe)
      replace h_v := Lib.hid (h_v.out.upD hbe)
      replace hB := Lib.hid (hB.out.trans (hbe.mono hB.out.size))
      clear hbe
      by_cases hkt : k < xe.length
      · obtain ⟨eb, eo, rfl, ⟨_, heb⟩, hc⟩ := h_e.out.ns (by omega)
        obtain ⟨c1, c2, c3, c4⟩ := hc k hkt
        clear hc
        have hnode := hN9.out k hkt
        obtain ⟨vb, vo, hve, ⟨_, hvb⟩, hvc⟩ := h_v.out (by have := t2.out; omega)
        injection hve with hve; injection hve with hx1 hx2; subst hx1; subst hx2
        have hVg : ∀ i (hi : i < xe.length), wo.cell? ⟨vb0, vo0 + i, none⟩ = some (.int .i64 ((vals xe x0 x1).getD i 0)) := fun i hi => by
          have h := hvc i (by have := t2.out; omega)
          rw [h, List.getD_eq_getElem?_getD, List.getElem?_eq_getElem (by have := t2.out; omega)]; rfl
        clear hvc
        have hki : (k : Int) < (xe.length : Int) := by omega
        have hk0 : (0 : Int) ≤ (k : Int) := by omega
        generalize hz : xe[k] = z at *
        clear hz
        obtain ⟨op9, za, zb, zv⟩ := z
        dsimp only at c1 c2 c3 c4 hnode
        have X1 : XN (wo.alloc (.cells #[.string op9, .int .i64 za, .int .i64 zb, .int .i64 zv] 40)) wo.heap.size ⟨op9, za, zb, zv⟩ := xn_new wo ⟨op9, za, zb, zv⟩
        obtain ⟨m1, m2, m3, m4⟩ := X1.cells
        simp only at m1 m2 m3 m4
        have hfin : Hid (Below w12.heap.size w12 (wo.alloc (.cells #[.string op9, .int .i64 za, .int .i64 zb, .int .i64 zv] 40))) := hBL.out.alloc (by have := hBL.out.size; omega) _
        have hVa := Lib.hid fun (i : Nat) (hi : i < xe.length) => (World.cell?_alloc_lt wo (.cells #[.string op9, .int .i64 za, .int .i64 zb, .int .i64 zv] 40) ⟨vb0, vo0 + i, none⟩ hvb).trans (hVg i hi)
        clear hVg X1 hBL
        have ck := hVa.out k hkt
        rcases hnode with ⟨n1, n2, n3⟩ | ⟨n1, n2, n3⟩ | ⟨n1, n2, n3⟩ | ⟨n1, n2, n3, qa, n4, n5, n6, n7⟩ | ⟨n1, n2, n3, n4, qa, qb, n5, n6, n7, n8, n9, n10⟩
        · subst n2
          rw [n3] at ck
          clear n3
          go_wp2
          go_roundw
          case rel => exact ⟨k + 1, by omega, by go_num, hfin.out⟩
          case measure => simp [intOf]; omega
        · subst n2
          rw [n3] at ck
          clear n3
          go_wp2
          go_roundw
          case rel => exact ⟨k + 1, by omega, by go_num, hfin.out⟩
          case measure => simp [intOf]; omega
        · rw [n3] at ck
          clear n3
          go_wp2_with (fail)
          go_quiet (fail)
          all_goals go_wp2
          all_goals go_roundw
          case rel => exact ⟨k + 1, by omega, by go_num, below_drewD hfin.out _⟩
          case measure => simp [intOf]; omega
        · subst n4
          have ca := hVa.out qa n5
          have i1 : (qa : Int) < (xe.length : Int) := by omega
          have i2 : (0 : Int) ≤ (qa : Int) := by omega
          generalize (vals xe x0 x1).getD k 0 = vk at *
          generalize (vals xe x0 x1).getD qa 0 = va at *
          have k6 := Lib.hid n6
          have k7 := Lib.hid n7
          clear n6 n7
          rcases n3 with n3 | ⟨n3, n3'⟩
          · go_wp2_with (fail)
            go_quiet ((go_at_call 24; exact Calls.quiet_of_same (same_flip (HAp.out _ _ _ _))))
            rw [k6.out, k7.out]
            have cz := (show ((wo.alloc (.cells #[.string op9, .int .i64 (qa : Int), .int .i64 zb, .int .i64 zv] 40)).drewN nq).cell? _ = _ from ck)
            clear ck
            go_wp2
            go_roundw
            case rel => exact ⟨k + 1, by omega, by go_num, below_drewD hfin.out _⟩
            case measure => simp [intOf]; omega
          · go_wp2_with (fail)
            go_quiet ((go_at_call 24; exact Calls.quiet_of_same (same_flip (HAp.out _ _ _ _))))
            rw [k6.out, k7.out]
            have cz := (show ((wo.alloc (.cells #[.string op9, .int .i64 (qa : Int), .int .i64 zb, .int .i64 zv] 40)).drewN nq).cell? _ = _ from ck)
            clear ck
            go_wp2
            go_roundw
            case rel => exact ⟨k + 1, by omega, by go_num, below_drewD hfin.out _⟩
            case measure => simp [intOf]; omega
        · subst n5
          subst n6
          have ca := hVa.out qa n7
          have cb := hVa.out qb n8
          have i1 : (qa : Int) < (xe.length : Int) := by omega
          have i2 : (0 : Int) ≤ (qa : Int) := by omega
          have i3 : (qb : Int) < (xe.length : Int) := by omega
          have i4 : (0 : Int) ≤ (qb : Int) := by omega
          generalize (vals xe x0 x1).getD k 0 = vk at *
          generalize (vals xe x0 x1).getD qa 0 = va at *
          generalize (vals xe x0 x1).getD qb 0 = vb9 at *
          have k6 := Lib.hid n9
          have k7 := Lib.hid n10
          clear n9 n10
          go_wp2_with (fail)
          go_quiet ((go_at_call 24; exact Calls.quiet_of_same (same_flip (HAp.out _ _ _ _))))
          rw [k6.out, k7.out]
          have cz := (show ((wo.alloc (.cells #[.string op9, .int .i64 (qa : Int), .int .i64 (qb : Int), .int .i64 zv] 40)).drewN nq).cell? _ = _ from ck)
          clear ck
          go_wp2
          go_roundw
          case rel => exact ⟨k + 1, by omega, by go_num, below_drewD hfin.out _⟩
          case measure => simp [intOf]; omega
      · obtain rfl : k = xe.length := by omega
        clear hBL hkt hk hN9
        have hq9 := pTable_any 0 wo.heap.size Ae ce xe wo (by omega) h_e.out (Nat.le_refl _)
        rw [t9.out] at hq9
        have H := Lib.hid hq9
        clear hq9
        go_wp2_with (fail)
        refine (H.out).mono ?_
        rintro e w61 ⟨Ab, cb, rfl, ou, hbe⟩
        replace h_e := Lib.hid (h_e.out.upE hbe)
        replace h_v := Lib.hid (h_v.out.upD hbe)
        replace hB := Lib.hid (hB.out.trans (hbe.mono hB.out.size))
        have h_b := Lib.hid (IS.more (OW.rs ou) (Nat.zero_le _) (Nat.le_refl _))
        clear hbe H
        clear ou
        obtain ⟨tb, tO, rfl, _, htc⟩ := h_b.out (by have := t10.out; omega)
        obtain ⟨p, hp⟩ := Int.eq_ofNat_of_zero_le (show 0 ≤ 64 * x0 + x1 by have := w0.out; have := w1.out; omega)
        have hp4 : p < 4096 := by have := w0.out; have := w1.out; omega
        have c1 := htc p (by rw [t10.out]; exact hp4)
        have hgq : (tab xe)[p]'(by rw [t10.out]; exact hp4) = evalR xe x0 x1 := by have h := t11.out; rw [hp, Int.toNat_natCast, List.getD_eq_getElem?_getD, List.getElem?_eq_getElem (by rw [t10.out]; exact hp4)] at h; exact h
        rw [hgq] at c1
        clear hgq htc
        have hw1 : IntKind.i64.wrap (64 * x0) = 64 * x0 := IntWalk.i64_in _ (by have := w0.out; omega)
        have hw2 : IntKind.i64.wrap (64 * x0 + x1) = (p : Int) := by rw [← hp]; exact IntWalk.i64_in _ (by omega)
        have hp9 := Lib.hid hp
        clear hp
        have hpi : (p : Int) < 4096 := by omega
        have hp0 : (0 : Int) ≤ (p : Int) := by omega
        rw [t10.out]
        generalize evalR xe x0 x1 = ev at *
        go_wp2
        go_ret
        exact ⟨by first | rfl | simp, hB.out⟩
end Go.Proofs.Ytmhdijklindipaa

/- Arguments of the types []laws.Instr, laws.Instr and []int opened. -/
namespace Go.Proofs.Ytmhdijklindipaa
open Go.ChangeShapes Go.WideShapes Go.ChangeAt Go.RowKit Go.Deep
open Go.ChangeMaps (open_string shut_string)
set_option linter.unusedVariables false

theorem cellsStr : Try.prog.cellsOf 9 = 1 := by kernel_rfl
theorem cellsInt : Try.prog.cellsOf 3 = 1 := by kernel_rfl

theorem cell_lt_heap {w : World} {a : Addr} {v : Value} (h : w.cell? a = some v) : a.block < w.heap.size := by
  rcases Nat.lt_or_ge a.block w.heap.size with hlt | hge
  · exact hlt
  · unfold World.cell? at h; rw [Array.getElem?_eq_none hge] at h; simp at h

set_option maxRecDepth 100000 in
theorem ints_of_trod {H : Type} {enc : TypeId × Value → H} {w : World} {spare : Nat → Bool} {held : Bool} {A : Option Addr} {len cap : Nat} {d : DataW H} {p : List MemPlace}
    (h : DataW.Trod enc Try.prog w 0 spare held 27 (.slice A len cap) d p) :
    ∃ xs : List Int, xs.length = len ∧ IS w 0 w.heap.size A xs ∧ len ≤ 9223372036854775807 := by
  obtain ⟨fuel, hf⟩ := h
  rcases open_slice Try.underlying27 hf with ⟨hcs, _⟩ | ⟨a, l, c, m, n, D, Pl, hcs, _, hl, hm, hmm, _, hi⟩
  · simp [Value.cells] at hcs
    obtain ⟨rfl, rfl, rfl⟩ := hcs
    exact ⟨[], rfl, fun h => absurd h (by simp), by omega⟩
  · simp [Value.cells] at hcs
    obtain ⟨rfl, rfl, rfl⟩ := hcs
    have hlm : len ≤ m := by rw [hmm]; split <;> omega
    have hex : ∀ i, i < len → ∃ x : Int, w.cell? (a.add i) = some (.int .i64 x) := by
      intro i hil
      obtain ⟨cs', hc, ht⟩ := hi i (by omega)
      rw [cellsInt, Nat.mul_one] at hc
      obtain ⟨x, hx, _, _⟩ := DataW.trod_int Try.underlying3 ht
      obtain ⟨_, _, hat⟩ := World.cells?_some hc
      have := hat 0 (by omega)
      rw [add_add, hx] at this
      exact ⟨x, by simpa using this⟩
    obtain ⟨f, hf2⟩ := Classical.axiomOfChoice (fun i : {i // i < len} => hex i.1 i.2)
    have hget : ∀ i (h : i < (List.ofFn fun i : Fin len => f ⟨i.1, i.2⟩).length), (List.ofFn fun i : Fin len => f ⟨i.1, i.2⟩)[i] = f ⟨i, by simpa using h⟩ := fun i h => by simp
    refine ⟨List.ofFn fun i : Fin len => f ⟨i.1, i.2⟩, by simp, ?_, by unfold maxLen at hm; omega⟩
    intro hpos
    have hpos' : 0 < len := by simpa using hpos
    have h0 := hf2 ⟨0, hpos'⟩
    obtain ⟨b, o, spot⟩ := a
    have hspot : spot = none := by have := World.cell?_spot h0; simpa [Addr.add] using this
    subst hspot
    have hadd : ∀ k, (⟨b, o, none⟩ : Addr).add k = ⟨b, o + k, none⟩ := fun k => by simp [Addr.add]
    refine ⟨b, o, rfl, ⟨Nat.zero_le _, ?_⟩, fun i hi => ?_⟩
    · rw [hadd] at h0
      exact cell_lt_heap h0
    · have hi' : i < len := by simpa using hi
      rw [hget i hi]
      have := hf2 ⟨i, hi'⟩
      simp only [hadd] at this
      exact this
end Go.Proofs.Ytmhdijklindipaa

/- A []byte argument opened. -/
namespace Go.Proofs.Ytmhdijklindipaa
open Go.ChangeShapes Go.WideShapes Go.ChangeAt Go.RowKit Go.Deep
set_option linter.unusedVariables false
theorem cellsByte : Try.prog.cellsOf 5 = 1 := by kernel_rfl
theorem bytes_of_trod {H : Type} {enc : TypeId × Value → H} {w : World} {spare : Nat → Bool} {held : Bool} {A : Option Addr} {len cap : Nat} {d : DataW H} {p : List MemPlace}
    (h : DataW.Trod enc Try.prog w 0 spare held 22 (.slice A len cap) d p) :
    ∃ xs : List Int, xs.length = len ∧ BY w w.heap.size A xs ∧ (∀ x ∈ xs, 0 ≤ x ∧ x ≤ 255) ∧ len ≤ 9223372036854775807 := by
  obtain ⟨fuel, hf⟩ := h
  rcases open_slice Try.underlying22 hf with ⟨hcs, _⟩ | ⟨a, l, c, m, n, D, Pl, hcs, _, hl, hm, hmm, _, hi⟩
  · simp [Value.cells] at hcs
    obtain ⟨rfl, rfl, rfl⟩ := hcs
    exact ⟨[], rfl, fun h => absurd h (by simp), fun x hx => by simp at hx, by omega⟩
  · simp [Value.cells] at hcs
    obtain ⟨rfl, rfl, rfl⟩ := hcs
    have hlm : len ≤ m := by rw [hmm]; split <;> omega
    have hex : ∀ i, i < len → ∃ x : Int, w.cell? (a.add i) = some (.int .u8 x) ∧ 0 ≤ x ∧ x ≤ 255 := by
      intro i hil
      obtain ⟨cs', hc, ht⟩ := hi i (by omega)
      rw [cellsByte, Nat.mul_one] at hc
      obtain ⟨x, hx, hb, hz⟩ := DataW.trod_int Try.underlying5 ht
      obtain ⟨_, _, hat⟩ := World.cells?_some hc
      have := hat 0 (by omega)
      rw [add_add, hx] at this
      refine ⟨x, by simpa using this, ?_⟩
      have hz2 : (decide (IntKind.u8.min ≤ x) && decide (x ≤ IntKind.u8.max)) = true := hz
      rw [show IntKind.u8.min = 0 from rfl, show IntKind.u8.max = 255 from rfl, Bool.and_eq_true, decide_eq_true_iff, decide_eq_true_iff] at hz2
      exact hz2
    obtain ⟨f, hf2⟩ := Classical.axiomOfChoice (fun i : {i // i < len} => hex i.1 i.2)
    have hget : ∀ i (h : i < (List.ofFn fun i : Fin len => f ⟨i.1, i.2⟩).length), (List.ofFn fun i : Fin len => f ⟨i.1, i.2⟩)[i] = f ⟨i, by simpa using h⟩ := fun i h => by simp
    refine ⟨List.ofFn fun i : Fin len => f ⟨i.1, i.2⟩, by simp, ?_, ?_, by unfold maxLen at hm; omega⟩
    · intro hpos
      have hpos' : 0 < len := by simpa using hpos
      have h0 := (hf2 ⟨0, hpos'⟩).1
      obtain ⟨b, o, spot⟩ := a
      have hspot : spot = none := by have := World.cell?_spot h0; simpa [Addr.add] using this
      subst hspot
      have hadd : ∀ k, (⟨b, o, none⟩ : Addr).add k = ⟨b, o + k, none⟩ := fun k => by simp [Addr.add]
      refine ⟨b, o, rfl, ?_, fun i hi => ?_⟩
      · rw [hadd] at h0
        exact cell_lt_heap h0
      · have hi' : i < len := by simpa using hi
        rw [hget i hi]
        have := (hf2 ⟨i, hi'⟩).1
        simp only [hadd] at this
        exact this
    · intro x hx
      rw [List.mem_ofFn] at hx
      obtain ⟨i, rfl⟩ := hx
      exact (hf2 ⟨i.1, i.2⟩).2
end Go.Proofs.Ytmhdijklindipaa
