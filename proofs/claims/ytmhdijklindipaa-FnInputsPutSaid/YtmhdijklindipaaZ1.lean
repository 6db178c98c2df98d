/- Texts of this proof, one behind the other: XM, LawY, TV, LawFQ, OC, OB. -/
import Derived.Test.YtmhdijklindipaaZ2
import Derived.Test.YtmhdijklindipaaZ10
import Derived.WalkKit
import Derived.WalkSpells
import Derived.WalkLawsBesides
import Derived.Deep.RegionLaw
import Derived.Deep.AppendLies
import Derived.Lib.Hide
import Derived.Test.YtmhdijklindipaaZ8
import Derived.Test.YtmhdijklindipaaLI
import Derived.Test.YtmhdijklindipaaZ4
import Derived.Test.YtmhdijklindipaaZ3
import Derived.Deep.QuietTactic
import Derived.BigQuiet
import Derived.Deep.RegionHeld3
import Derived.Test.YtmhdijklindipaaKMInstr
import Derived.ProofKit
import Derived.OpenShut
import Derived.ShutString
import Derived.ChangeOld
import Derived.Below
import Derived.Deep.Slices
import Derived.Deep.Fields
import Derived.Test.YtmhdijklindipaaRows
import Derived.Test.YtmhdijklindipaaDR1
/- PutInput: the model. -/
namespace Go.Proofs.Ytmhdijklindipaa
open Go.RowKit
set_option linter.unusedVariables false
set_option maxRecDepth 100000

/-- An own slice of nodes that lies not in the block g. -/
def NO (L g : Nat) (xs : List Nd) (v : Value) (w : World) : Prop := w.ownsRow L 40 4 v xs.length (xs.flatMap Nd.enc) ∧ v.ownBlock ≠ some g
theorem NO.keep {L g : Nat} {xs : List Nd} {v : Value} {w w' : World} (h : NO L g xs v w) (hr : ∀ j, v.ownBlock = some j → w'.heap[j]? = w.heap[j]?) : NO L g xs v w' := by
  refine ⟨⟨h.1.1, ?_⟩, h.2⟩
  rcases h.1.2 with hn | ⟨b, cap, cur, rfl, hg, hh, hrest⟩
  · exact .inl hn
  · exact .inr ⟨b, cap, cur, rfl, hg, (hr b rfl).trans hh, hrest⟩
theorem NO.next {L g : Nat} {xs : List Nd} {v : Value} {w w' : World} (h : NO L g xs v w) (hb : Below w.heap.size w w') : NO L g xs v w' := h.keep fun j hj => hb.block j (h.1.lt j hj).2
theorem NO.set {L g : Nat} {xs : List Nd} {v : Value} {w : World} (h : NO L g xs v w) (i : Nat) (u : Value) : NO L g xs v (w.setCell ⟨g, i, none⟩ u) := h.keep fun j hj => Below.heap_setCell w ⟨g, i, none⟩ u j (fun e => h.2 (by rw [hj]; exact congrArg some e))
theorem NO.form {L g : Nat} {xs : List Nd} {v : Value} {w : World} (h : NO L g xs v w) : ∃ A c, v = .slice A xs.length c := by
  rcases h.1.2 with ⟨rfl, h0⟩ | ⟨g, cap, cur, rfl, _⟩
  · rw [h0]; exact ⟨_, _, rfl⟩
  · exact ⟨_, _, rfl⟩
theorem NO.ok {L g : Nat} {xs : List Nd} {v : Value} {w : World} (h : NO L g xs v w) : OK Nd.enc 4 40 w L w.heap.size v xs := ⟨h.1, fun j hj => (h.1.lt j hj).2⟩

set_option maxHeartbeats 8000000 in
theorem sPutInput_k (L0 B0 : Nat) (A0 : Option Addr) (c0 : Nat) (es : List Nd) (k : Int) (L2 B2 : Nat) (A2 : Option Addr) (c2 : Nat) (fs : List Nd) (w : World) (hl : es.length ≤ 1048576) (hes : RS Nd.enc 4 w L0 B0 A0 es) (hB0 : B0 ≤ w.heap.size) (hl2 : fs.length ≤ 1048576) (hfs : RS Nd.enc 4 w L2 B2 A2 fs) (hB2 : B2 ≤ w.heap.size) :
    Calls Try.prog 108 #[.slice A0 es.length c0, .int .i64 k, .slice A2 fs.length c2] w (ResPutInput (putR es k fs) (putOk es k fs) w) := by
  have H := Lib.hid (exGood_any L0 B0 A0 c0 es w hl hes.ns hB0)
  have HF := Lib.hid fun (W : World) (hW : Below w.heap.size w W) => exGood_any L2 B2 A2 c2 fs W hl2 (hfs.ns.below hW hB2) (Nat.le_trans hB2 hW.size)
  have hE := Lib.hid fun (W : World) (hW : Below w.heap.size w W) => hes.below hW hB0
  have hF := Lib.hid fun (W : World) (hW : Below w.heap.size w W) => hfs.below hW hB2
  have hIn := Lib.hid fun W => l1In_r k 0 1 W
  clear hes hfs
  cases hg : good es
  · have hK : Hid (putOk es k fs = false) := by simp [Hid, putOk, hg]
    have hR := Lib.hid (putR_no hK.out)
    rw [hg] at H
    clear hg
    go_enter Try.func108, Try.ntmps108
    go_wp2_with (fail)
    refine H.out.mono ?_
    rintro e w2 ⟨rfl, hb⟩
    have hbb := Lib.hid hb
    clear hb
    go_wp2_with (fail)
    go_ret2
    rw [hR.out, hK.out]
    exact ⟨none, 0, rfl, OK.nil _ _ _ _, hbb.out⟩
  rw [hg] at H
  cases hgf : good fs
  · have hK : Hid (putOk es k fs = false) := by simp [Hid, putOk, hgf]
    have hR := Lib.hid (putR_no hK.out)
    rw [hgf] at HF
    clear hg hgf
    go_enter Try.func108, Try.ntmps108
    go_wp2_with (fail)
    refine H.out.mono ?_
    rintro e w2 ⟨rfl, hb⟩
    have hbb := Lib.hid hb
    clear hb
    go_wp2_with (fail)
    refine (HF.out w2 hbb.out).mono ?_
    rintro e w3 ⟨rfl, hb⟩
    have hbc := Lib.hid (hbb.out.trans (hb.mono hbb.out.size))
    clear hb
    go_wp2_with (fail)
    go_ret2
    rw [hR.out, hK.out]
    exact ⟨none, 0, rfl, OK.nil _ _ _ _, hbc.out⟩
  rw [hgf] at HF
  obtain ⟨hl1, hl24, hok⟩ := good_len hg
  obtain ⟨hf1, hf24, hokf⟩ := good_len hgf
  cases hr : inR k 0 1
  · have hK : Hid (putOk es k fs = false) := by simp [Hid, putOk, hr]
    have hR := Lib.hid (putR_no hK.out)
    rw [hr] at hIn
    clear hg hgf hok hokf hr
    go_enter Try.func108, Try.ntmps108
    go_wp2_with (fail)
    refine H.out.mono ?_
    rintro e w2 ⟨rfl, hb⟩
    have hbb := Lib.hid hb
    clear hb
    go_wp2_with (fail)
    refine (HF.out w2 hbb.out).mono ?_
    rintro e w3 ⟨rfl, hb⟩
    have hbc := Lib.hid (hbb.out.trans (hb.mono hbb.out.size))
    clear hb
    go_wp2_with (fail)
    refine (hIn.out _).mono ?_
    rintro e w4 ⟨rfl, rfl⟩
    go_wp2_with (fail)
    go_ret2
    rw [hR.out, hK.out]
    exact ⟨none, 0, rfl, OK.nil _ _ _ _, hbc.out⟩
  rw [hr] at hIn
  have hK0 : Hid (hasIn es k = false → putOk es k fs = true) := by intro h; simp [putOk, hg, hgf, hr, h]
  have hR0 : Hid (hasIn es k = false → putR es k fs = es) := by intro h; unfold putR; rw [if_pos (hK0.out h), h]; rfl
  have hK : Hid (hasIn es k = true → putOk es k fs = decide ((po es fs k es.length).length ≤ 24)) := by intro h; simp [putOk, hg, hgf, hr, h]
  have hR : Hid (hasIn es k = true → putOk es k fs = true → putR es k fs = po es fs k es.length) := by intro h h'; unfold putR; rw [if_pos h', if_pos h]
  have hRn : Hid (putOk es k fs = false → putR es k fs = []) := putR_no
  have hOk := Lib.hid hok
  have hmi := run_make_ints es.length hl
  have hPl := Lib.hid (pq_len es fs k)
  have hPo := Lib.hid (po_len es fs k)
  have hPy := Lib.hid fun j (hj : j < es.length) => pst_yes (es := es) (f := fs) (k := k) (i := j) hj
  have hPn := Lib.hid fun j (hj : j < es.length) => pst_no (es := es) (f := fs) (k := k) (i := j) hj
  have hpo0 : po es fs k 0 = fs := rfl
  have hpq0 : pq es fs k 0 = zeros es.length := rfl
  obtain ⟨i0, hi0, hi1, hi2, hi3⟩ := info_parts Try.infoNode
  have hJ0 := Lib.hid hi0
  have hJ1 := Lib.hid hi1
  have hJ2 := Lib.hid hi2
  have hJ3 := Lib.hid hi3
  have hSn := Lib.hid fun j (hj : j < es.length) => hasIn_snoc (es := es) (k := j) hj k
  have hEnd := Lib.hid (show hasIn (es.take es.length) k = hasIn es k by rw [List.take_length])
  have h00 : hasIn (es.take 0) k = false := rfl
  clear hg hgf hok hokf hr hi0 hi1 hi2 hi3
  go_enter Try.func108, Try.ntmps108
  go_wp2_with (fail)
  refine H.out.mono ?_
  rintro e w2 ⟨rfl, hb⟩
  have hbb := Lib.hid hb
  clear hb
  go_wp2_with (fail)
  refine (HF.out w2 hbb.out).mono ?_
  rintro e w3 ⟨rfl, hb⟩
  have hbc := Lib.hid (hbb.out.trans (hb.mono hbb.out.size))
  clear hb
  go_wp2_with (fail)
  refine (hIn.out _).mono ?_
  rintro e w4 ⟨rfl, rfl⟩
  go_wp2
  go_loopw [8, 30] (fun u i wr => ∃ j : Nat, j ≤ es.length ∧ i = .int .i64 j ∧ u = .bool (hasIn (es.take j) k) ∧ Below w.heap.size w wr) (fun _ i _ => es.length - (intOf i).toNat)
  case atStart => exact ⟨0, Nat.zero_le _, rfl, rfl, hbc.out⟩
  case round =>
    obtain ⟨j, hj, rfl, rfl, hbel⟩ := hrel
    have hBe := Lib.hid hbel
    clear hbel
    by_cases hlt : j < es.length
    · obtain ⟨b', o', hA, ⟨_, hbB⟩, hcc⟩ := ((hE.out wr hBe.out).ns) (by omega)
      obtain ⟨c1, c2', c3, c4⟩ := hcc j hlt
      subst hA
      have k0 : (0 : Int) ≤ (j : Int) := by omega
      have k1 : (j : Int) < (es.length : Int) := by omega
      have hS := Lib.hid (hSn.out j hlt)
      have hX := xn_new wr es[j]
      have hXb := (Below.refl wr.heap.size wr).alloc (Nat.le_refl _) (.cells #[.string es[j].op, .int .i64 es[j].a, .int .i64 es[j].b, .int .i64 es[j].v] 40)
      have xB := Lib.hid (hBe.out.trans (hXb.mono hBe.out.size))
      obtain ⟨m0, m1, m2, m3⟩ := hX.cells
      clear hX hXb hcc
      generalize hgu : hasIn (es.take (j + 1)) k = u' at *
      have HU := Lib.hid hgu
      clear hgu
      generalize es[j] = nd at *
      obtain ⟨op, a, b, x⟩ := nd
      dsimp only at *
      cases hu : hasIn (es.take j) k
      · rw [hu] at hS
        clear hu
        cases h : isIn op
        · have hs' : Hid (u' = false) := by rw [Hid, hS.out]; simp [isInp, h]
          have h' : (op.toList == [105, 110]) = false := h
          clear h hS
          go_wp2
          go_roundw
          case rel => exact ⟨j + 1, by omega, by go_num, by rw [HU.out, hs'.out], xB.out⟩
          case measure => simp [intOf]; omega
        · have h' : op.toList = [105, 110] := by simpa [isIn] using h
          have hs' : Hid (u' = (x == k)) := by rw [Hid, hS.out]; simp [isInp, h]
          clear h hS
          by_cases hv : x = k
          · subst hv
            have hs2 : Hid (u' = true) := by rw [Hid, hs'.out]; simp
            clear hs'
            go_wp2
            go_roundw
            case rel => exact ⟨j + 1, by omega, by go_num, by rw [HU.out, hs2.out]; try simp [hv], xB.out⟩
            case measure => simp [intOf]; omega
          · have hs2 : Hid (u' = false) := by rw [Hid, hs'.out]; simp [hv]
            clear hs'
            go_wp2
            go_roundw
            case rel => exact ⟨j + 1, by omega, by go_num, by rw [HU.out, hs2.out]; try simp [hv], xB.out⟩
            case measure => simp [intOf]; omega
      · rw [hu] at hS
        have hs' : Hid (u' = true) := by rw [Hid, hS.out]; rfl
        clear hu hS
        go_wp2
        go_roundw
        case rel => exact ⟨j + 1, by omega, by go_num, by rw [HU.out, hs'.out], xB.out⟩
        case measure => simp [intOf]; omega
    · obtain rfl : j = es.length := by omega
      rw [hEnd.out]
      have hzw := hBe.out.size
      have hb0 := Lib.hid ((Below.refl wr.heap.size wr).alloc (Nat.le_refl _) (.cells #[] 40))
      have hown := Lib.hid (World.ownsRow_made (base := wr.heap.size) (e := 40) (size := 4) wr #[] 0 (Nat.le_refl _) (by unfold maxLen; omega) (by simp))
      have hsz0 := Lib.hid hb0.out.size
      cases hi : hasIn es k
      · have hnews := Lib.hid (((hE.out wr hBe.out).below hb0.out (Nat.le_trans hB0 hzw)).news Nd.hk)
        have hK2 := Lib.hid (hK0.out hi)
        have hR2 := Lib.hid (hR0.out hi)
        clear hi
        go_wp2_with (at_builtin; refine wpList_append_src rfl _ _ 24 rfl wr.heap.size 40 i0 _ 4 40 Try.underlying24 hJ0.out hJ1.out hJ2.out hJ3.out rfl (by decide) _ 0 [] rfl hown.out A0 es.length c0 (es.flatMap Nd.enc) rfl (kflat_len Nd.hk es) hnews.out (nd_ones es) (by unfold maxLen; omega) (by omega) hsz0.out ?_; intro v4 w4 hown4 hgrow4 _; simp only [Nat.zero_add, List.nil_append] at hown4; have hb4 := Lib.hid (hb0.out.grown hgrow4 hsz0.out (fun k hk => (by cases hk; exact Nat.le_refl _))); have hO4 := Lib.hid (show OK Nd.enc 4 40 w4 wr.heap.size w4.heap.size v4 es from ⟨hown4, fun j hj => (hown4.lt j hj).2⟩); clear hown4 hgrow4)
        obtain ⟨A5, c5, rfl, _⟩ := OK.form Nd.hk hO4.out
        go_ret2
        rw [hR2.out, hK2.out]
        exact ⟨A5, c5, rfl, hO4.out.lower hzw, hBe.out.trans (hb4.out.mono hzw)⟩
      · have hnews := Lib.hid (((hF.out wr hBe.out).below hb0.out (Nat.le_trans hB2 hzw)).news Nd.hk)
        have hK2 := Lib.hid (hK.out hi)
        have hR2 : Hid (putOk es k fs = true → putR es k fs = po es fs k es.length) := fun h => hR.out hi h
        clear hi hSn hEnd h00 hK0 hR0 hK hR H HF
        go_wp2_with (at_builtin; refine wpList_append_src rfl _ _ 24 rfl wr.heap.size 40 i0 _ 4 40 Try.underlying24 hJ0.out hJ1.out hJ2.out hJ3.out rfl (by decide) _ 0 [] rfl hown.out A2 fs.length c2 (fs.flatMap Nd.enc) rfl (kflat_len Nd.hk fs) hnews.out (nd_ones fs) (by unfold maxLen; omega) (by omega) hsz0.out ?_; intro v4 w4 hown4 hgrow4 _; simp only [Nat.zero_add, List.nil_append] at hown4; have hb4 := Lib.hid (hb0.out.grown hgrow4 hsz0.out (fun k hk => (by cases hk; exact Nat.le_refl _))); have hO4 := Lib.hid (show OK Nd.enc 4 40 w4 wr.heap.size w4.heap.size v4 fs from ⟨hown4, fun j hj => (hown4.lt j hj).2⟩); clear hown4 hgrow4)
        obtain ⟨A5, c5, rfl, _⟩ := OK.form Nd.hk hO4.out
        have B4 := Lib.hid (hBe.out.trans (hb4.out.mono hzw))
        have z4 := B4.out.size
        have aI := (Below.refl w4.heap.size w4).alloc (Nat.le_refl _) (.cells (intCells (zeros es.length)) 3)
        have iI : Hid (IB (w4.alloc (.cells (intCells (zeros es.length)) 3)) w4.heap.size 3 (zeros es.length)) := by unfold Hid; exact heap_alloc_new w4 _
        have nI : Hid (NO w.heap.size w4.heap.size fs (.slice A5 fs.length c5) (w4.alloc (.cells (intCells (zeros es.length)) 3))) := by
          unfold Hid
          refine NO.next ⟨(hO4.out.lower hzw).1, fun e => ?_⟩ aI
          have := (hO4.out.lo _ e).2; omega
        have bI := Lib.hid (B4.out.trans (aI.mono z4))
        have zI : (w4.alloc (.cells (intCells (zeros es.length)) 3)).heap.size = w4.heap.size + 1 := by simp
        clear aI hb4 hO4 hnews hown hb0 hsz0
        go_wp2_with (fail)
        generalize w4.alloc (.cells (intCells (zeros es.length)) 3) = W5 at *
        clear hmi
        generalize w4.heap.size = g at *
        go_loopw [11, 60] (fun v i wi => ∃ j : Nat, j ≤ es.length ∧ i = .int .i64 j ∧ IB wi g 3 (pq es fs k j) ∧ NO w.heap.size g (po es fs k j) v wi ∧ Below w.heap.size w wi) (fun _ i _ => es.length - (intOf i).toNat)
        case atStart =>
          refine ⟨0, Nat.zero_le _, rfl, ?_, ?_, bI.out⟩
          · rw [hpq0]; exact iI.out
          · rw [hpo0]; exact nI.out
        case round =>
          obtain ⟨j, hj', rfl, hi, hno, hbel⟩ := hrel
          rename_i wr
          obtain ⟨AV, cv, rfl⟩ := hno.form
          have hI := Lib.hid hi
          have hN := Lib.hid hno
          have hBq := Lib.hid hbel
          clear hi hno hbel iI nI bI
          by_cases hlt' : j < es.length
          · obtain ⟨b', o', hA, ⟨_, hbB⟩, hcc⟩ := ((hE.out wr hBq.out).ns) (by omega)
            obtain ⟨c1, c2', c3, c4⟩ := hcc j hlt'
            subst hA
            have k0 : (0 : Int) ≤ (j : Int) := by omega
            have k1 : (j : Int) < (es.length : Int) := by omega
            have hnd := ok_get hOk.out hlt'
            have hYe := hPy.out j hlt'
            have hNe := hPn.out j hlt'
            have hX := xn_new wr es[j]
            have hXb := (Below.refl wr.heap.size wr).alloc (Nat.le_refl _) (.cells #[.string es[j].op, .int .i64 es[j].a, .int .i64 es[j].b, .int .i64 es[j].v] 40)
            obtain ⟨X, hXe⟩ : ∃ X, X = wr.alloc (.cells #[.string es[j].op, .int .i64 es[j].a, .int .i64 es[j].b, .int .i64 es[j].v] 40) := ⟨_, rfl⟩
            rw [← hXe] at hX hXb
            have xB := Lib.hid (hBq.out.trans (hXb.mono hBq.out.size))
            have xI := Lib.hid (hI.out.below hXb hI.out.lt)
            have xN := Lib.hid (hN.out.next hXb)
            have xX := Lib.hid hX
            have HX := Lib.hid hXe
            have xz := hXb.size
            obtain ⟨m0, m1, m2, m3⟩ := hX.cells
            have hpl := hPl.out j
            have hpl' := hPl.out (j + 1)
            have hpo := (hPo.out j).2
            have hic := xI.out.cell j (by rw [hpl]; exact hlt')
            have hif := xI.out.frozen j
            have hgw := xI.out.lt
            cases hp : isInp es[j] k
            · obtain ⟨y1, y2⟩ := hNe hp
              have Y1 := Lib.hid y1
              have Y2 := Lib.hid y2
              obtain ⟨W2, hW2⟩ : ∃ W2, W2 = X.setCell ⟨g, j, none⟩ (.int .i64 ((po es fs k j).length : Int)) := ⟨_, rfl⟩
              have hjx : g ≠ wr.heap.size := by have := hI.out.lt; omega
              have x2 : Hid (XN W2 wr.heap.size es[j]) := by unfold Hid; rw [hW2]; exact xX.out.other (q := g) j _ hjx
              have i2 : Hid (IB W2 g 3 (pq es fs k (j + 1))) := by unfold Hid; rw [hW2, Y2.out]; exact xI.out.set j _
              have n2 : Hid (NO w.heap.size g (po es fs k j) (.slice AV (po es fs k j).length cv) W2) := by unfold Hid; rw [hW2]; exact xN.out.set j _
              have e2 : Hid (Below w.heap.size w W2) := by unfold Hid; rw [hW2]; exact xB.out.setCell (p := ⟨g, j, none⟩) (by simp; omega) _
              have z2 : W2.heap.size = X.heap.size := by rw [hW2]; simp [World.setCell]
              have hEx := Lib.hid (exMoved_any g (g + 1) (some ⟨g, 0, none⟩) es.length es.length j es[j] (pq es fs k (j + 1)) W2 hpl' hnd hlt' i2.out.toIS (by rw [z2]; omega))
              have hmv : moved es[j] (pq es fs k (j + 1)) = moved es[j] (pq es fs k j) := by rw [y2]; exact moved_set hnd _ _
              rw [hmv] at hEx
              have HW2 := Lib.hid hW2
              obtain ⟨d0, d1, d2, d3⟩ := x2.out.cells
              rw [hW2, hXe] at d0 d1 d2 d3
              have hp1 : isIn es[j].op = true → es[j].v ≠ k := by
                intro h e; unfold isInp at hp; rw [h, e] at hp; simp at hp
              rw [hXe] at m0 m1 m2 m3 hic hif
              clear hYe hNe hp y1 y2 hX hXb hXe hW2 hcc hmv
              generalize moved es[j] (pq es fs k j) = mv at *
              generalize es[j] = nd at *
              obtain ⟨op, a, b, x⟩ := nd
              dsimp only at *
              have hStep : True := trivial
              cases hin : isIn op
              · have h' : (op.toList == [105, 110]) = false := hin
                clear hp1 hin
                go_wp2_with (fail)
                rw [← HX.out, ← HW2.out]
                refine hEx.out.mono ?_
                rintro e w3 ⟨rfl, hb3⟩
                have b3 := Lib.hid (e2.out.trans (hb3.mono e2.out.size))
                have i3 := Lib.hid (i2.out.below hb3 i2.out.lt)
                have n3 := Lib.hid (n2.out.next hb3)
                have hz3 := hb3.size
                have hz4 : w.heap.size ≤ w3.heap.size := b3.out.size
                clear hb3 c1 c2' c3 c4 hic hif m0 m1 m2 m3 d0 d1 d2 d3
                have hal := fun o => (Below.refl w3.heap.size w3).alloc (Nat.le_refl _) o
                have hO4 := fun o => Lib.hid (n3.out.next (hal o)).1
                have hgl := i3.out.lt
                go_wp2_with (at_builtin; go_loud (refine wpList_append_lies _ rfl _ _ 24 rfl w.heap.size 40 i0 _ 4 40 Try.underlying24 hJ0.out hJ1.out hJ2.out hJ3.out rfl (by decide) _ (po es fs k j).length _ rfl (hO4 _).out ⟨w3.heap.size, 0, none⟩ 1 1 (Nd.enc mv) rfl rfl (four_new mv rfl) (four_one _) (by omega) (by unfold maxLen; omega) (by omega) (by simp; omega) (w3.heap.size + 1) (by simp) ?_); intro gg cap w1 hown1 hgr1 hat1 _)
                go_roundw
                case rel =>
                  have hgq : gg ≠ g := by
                    intro e; subst e
                    rcases hat1 with e | e
                    · exact n3.out.2 e
                    · omega
                  have hblk : ∀ q, q < w3.heap.size → some q ≠ (Value.slice AV (po es fs k j).length cv).ownBlock → w1.heap[q]? = w3.heap[q]? := fun q hq hne => (hgr1.block q (by simp; omega) hne).trans ((hal (.cells #[.string mv.op, .int .i64 mv.a, .int .i64 mv.b, .int .i64 mv.v] 40)).block q hq)
                  have hb1 : Below w.heap.size w3 w1 := ((hal (.cells #[.string mv.op, .int .i64 mv.a, .int .i64 mv.b, .int .i64 mv.v] 40)).mono hz4).grown hgr1 (by simp; omega) (fun q hq => (n3.out.1.lt q hq).1)
                  refine ⟨j + 1, by omega, by go_num, (hblk g hgl (fun e => n3.out.2 e.symm)).trans i3.out, ?_, b3.out.trans hb1⟩
                  rw [Y1.out]
                  refine ⟨?_, fun e => hgq (by simpa [Value.ownBlock] using e)⟩
                  rw [nflat_snoc, List.length_append]; exact hown1
                case measure => simp [intOf]; omega
              · have h' : op.toList = [105, 110] := by simpa [isIn] using hin
                have hv : ¬ x = k := hp1 hin
                clear hp1 hin
                go_wp2_with (fail)
                rw [← HX.out, ← HW2.out]
                refine hEx.out.mono ?_
                rintro e w3 ⟨rfl, hb3⟩
                have b3 := Lib.hid (e2.out.trans (hb3.mono e2.out.size))
                have i3 := Lib.hid (i2.out.below hb3 i2.out.lt)
                have n3 := Lib.hid (n2.out.next hb3)
                have hz3 := hb3.size
                have hz4 : w.heap.size ≤ w3.heap.size := b3.out.size
                clear hb3 c1 c2' c3 c4 hic hif m0 m1 m2 m3 d0 d1 d2 d3
                have hal := fun o => (Below.refl w3.heap.size w3).alloc (Nat.le_refl _) o
                have hO4 := fun o => Lib.hid (n3.out.next (hal o)).1
                have hgl := i3.out.lt
                go_wp2_with (at_builtin; go_loud (refine wpList_append_lies _ rfl _ _ 24 rfl w.heap.size 40 i0 _ 4 40 Try.underlying24 hJ0.out hJ1.out hJ2.out hJ3.out rfl (by decide) _ (po es fs k j).length _ rfl (hO4 _).out ⟨w3.heap.size, 0, none⟩ 1 1 (Nd.enc mv) rfl rfl (four_new mv rfl) (four_one _) (by omega) (by unfold maxLen; omega) (by omega) (by simp; omega) (w3.heap.size + 1) (by simp) ?_); intro gg cap w1 hown1 hgr1 hat1 _)
                go_roundw
                case rel =>
                  have hgq : gg ≠ g := by
                    intro e; subst e
                    rcases hat1 with e | e
                    · exact n3.out.2 e
                    · omega
                  have hblk : ∀ q, q < w3.heap.size → some q ≠ (Value.slice AV (po es fs k j).length cv).ownBlock → w1.heap[q]? = w3.heap[q]? := fun q hq hne => (hgr1.block q (by simp; omega) hne).trans ((hal (.cells #[.string mv.op, .int .i64 mv.a, .int .i64 mv.b, .int .i64 mv.v] 40)).block q hq)
                  have hb1 : Below w.heap.size w3 w1 := ((hal (.cells #[.string mv.op, .int .i64 mv.a, .int .i64 mv.b, .int .i64 mv.v] 40)).mono hz4).grown hgr1 (by simp; omega) (fun q hq => (n3.out.1.lt q hq).1)
                  refine ⟨j + 1, by omega, by go_num, (hblk g hgl (fun e => n3.out.2 e.symm)).trans i3.out, ?_, b3.out.trans hb1⟩
                  rw [Y1.out]
                  refine ⟨?_, fun e => hgq (by simpa [Value.ownBlock] using e)⟩
                  rw [nflat_snoc, List.length_append]; exact hown1
                case measure => simp [intOf]; omega
            · obtain ⟨y1, y2⟩ := hYe hp
              have Y1 := Lib.hid y1
              have Y2 := Lib.hid y2
              obtain ⟨W2, hW2⟩ : ∃ W2, W2 = X.setCell ⟨g, j, none⟩ (.int .i64 ((fs.length : Int) - 1)) := ⟨_, rfl⟩
              have i2 : Hid (IB W2 g 3 (pq es fs k (j + 1))) := by unfold Hid; rw [hW2, Y2.out]; exact xI.out.set j _
              have n2 : Hid (NO w.heap.size g (po es fs k (j + 1)) (.slice AV (po es fs k j).length cv) W2) := by unfold Hid; rw [hW2, Y1.out]; exact xN.out.set j _
              have e2 : Hid (Below w.heap.size w W2) := by unfold Hid; rw [hW2]; exact xB.out.setCell (p := ⟨g, j, none⟩) (by simp; omega) _
              have hin : isIn es[j].op = true ∧ es[j].v = k := by unfold isInp at hp; simpa using hp
              have HW2 := Lib.hid hW2
              rw [hXe] at m0 m1 m2 m3 hic hif
              clear hYe hNe hp y1 y2 hX hXb hXe hW2 hcc
              generalize es[j] = nd at *
              obtain ⟨op, a, b, x⟩ := nd
              dsimp only at *
              obtain ⟨hin, hv⟩ := hin
              have h' : op.toList = [105, 110] := by simpa [isIn] using hin
              subst hv
              clear hin
              go_wp2
              go_roundw
              case rel =>
                rw [← HX.out, ← HW2.out]
                exact ⟨j + 1, by omega, by go_num, i2.out, n2.out, e2.out⟩
              case measure => simp [intOf]; omega
          · obtain rfl : j = es.length := by omega
            have hpo := (hPo.out es.length).2
            by_cases hbig : (po es fs k es.length).length ≤ 24
            · have hk2 : putOk es k fs = true := by rw [hK2.out]; exact decide_eq_true hbig
              have hR3 := Lib.hid (hR2.out hk2)
              have hK3 := Lib.hid hk2
              have hb' : ((po es fs k es.length).length : Int) ≤ 24 := by omega
              clear hk2
              go_wp2
              go_ret2
              rw [hK3.out, hR3.out]
              exact ⟨AV, cv, rfl, hN.out.ok, hBq.out⟩
            · have hk2 : putOk es k fs = false := by rw [hK2.out]; exact decide_eq_false hbig
              have hR3 := Lib.hid (hRn.out hk2)
              have hK3 := Lib.hid hk2
              have hb' : (24 : Int) < ((po es fs k es.length).length : Int) := by omega
              clear hk2
              go_wp2
              go_ret2
              rw [hK3.out, hR3.out]
              exact ⟨none, 0, rfl, OK.nil _ _ _ _, hBq.out⟩
theorem putR_len (es : List Nd) (k : Int) (fs : List Nd) : (putR es k fs).length ≤ 1048576 := by
  unfold putR; split
  · rename_i h
    unfold putOk at h
    simp only [Bool.and_eq_true] at h
    obtain ⟨⟨⟨h1, h2⟩, h3⟩, h4⟩ := h
    have h5 := (good_len h1).2.1
    split
    · rename_i h6
      rw [h6] at h4
      simp at h4; omega
    · omega
  · simp
end Go.Proofs.Ytmhdijklindipaa

namespace Go.Proofs.Ytmhdijklindipaa
open Go.RowKit
set_option linter.unusedVariables false

def ResEvalExpr (R0 : Int) (R1 : Bool) (w : World) (e : Ending) (w' : World) : Prop := e = .returned (.tuple #[.int .i64 R0, .bool R1]) ∧ Below w.heap.size w w'
def ResValuesOf (R0 : List (Int)) (R1 : Bool) (w : World) (e : Ending) (w' : World) : Prop := ∃ (A0 : Option Addr) (c0 : Nat), e = .returned (.tuple #[.slice A0 R0.length c0, .bool R1]) ∧ OW w' w.heap.size w'.heap.size (.slice A0 R0.length c0) R0 ∧ Below w.heap.size w w'
end Go.Proofs.Ytmhdijklindipaa

namespace Go.Proofs.Ytmhdijklindipaa
open Go.RowKit
theorem iEvalExpr_k (L B : Nat) (A : Option Addr) (c : Nat) (es : List Nd) (x0 x1 : Int) (w : World) (hl : es.length ≤ 1048576) (hes : RS Nd.enc 4 w L B A es) (hB : B ≤ w.heap.size) :
    Calls Try.prog 17 #[.slice A es.length c, .int .i64 x0, .int .i64 x1] w (ResEvalExpr (evalR es x0 x1) (valsOk es x0 x1) w) := iEvalExpr_any L B A c es x0 x1 w hl hes.ns hB
theorem sValuesOf_k (L B : Nat) (A : Option Addr) (c : Nat) (es : List Nd) (x0 x1 : Int) (w : World) (hl : es.length ≤ 1048576) (hes : RS Nd.enc 4 w L B A es) (hB : B ≤ w.heap.size) :
    Calls Try.prog 16 #[.slice A es.length c, .int .i64 x0, .int .i64 x1] w (ResValuesOf (valsR es x0 x1) (valsOk es x0 x1) w) := sValuesOf_any L B A c es x0 x1 w hl hes.ns hB
theorem iValuesOf_k (L B : Nat) (A : Option Addr) (c : Nat) (es : List Nd) (x0 x1 : Int) (w : World) (hl : es.length ≤ 1048576) (hes : RS Nd.enc 4 w L B A es) (hB : B ≤ w.heap.size) :
    Calls Try.prog 15 #[.slice A es.length c, .int .i64 x0, .int .i64 x1] w (ResValuesOf (valsR es x0 x1) (valsOk es x0 x1) w) := iValuesOf_any L B A c es x0 x1 w hl hes.ns hB
end Go.Proofs.Ytmhdijklindipaa

/- FnInputsPut: an expression in place of an input is evaluated first. -/
namespace Go.Proofs.Ytmhdijklindipaa
open Go.RowKit
set_option linter.unusedVariables false
set_option maxRecDepth 100000

theorem putR_len9 (es fs : List Nd) (k : Int) : (putR es k fs).length ≤ 24 := by
  cases h : putOk es k fs
  · unfold putR; rw [h]; simp
  · exact (good_len (put_ev h).1).2.1
theorem uses_law (es : List Nd) : ∀ i, i < (usesR es).length → (i + 1 < (usesR es).length → (usesR es).getD i 0 ≠ 0) ∧ (treeR es = true → (usesR es).getD i 0 ≤ 1) ∧ (i + 1 = (usesR es).length → (usesR es).getD i 0 = 0) := by
  intro i hi
  cases hg : good es
  · unfold usesR at hi; rw [hg] at hi; simp at hi
  · have e : usesR es = uses es := by unfold usesR; rw [if_pos hg]
    rw [e] at hi ⊢
    obtain ⟨u1, u2, u3, u4⟩ := good_used hg
    rw [u1] at hi ⊢
    refine ⟨u2 i, fun ht => u4 ?_ i, fun h => ?_⟩
    · unfold treeR at ht; rw [hg] at ht; simpa using ht
    · rw [show i = es.length - 1 by omega]; exact u3
theorem eval_bd {es : List Nd} {x0 x1 : Int} (h : valsOk es x0 x1 = true) : 0 ≤ evalR es x0 x1 ∧ evalR es x0 x1 ≤ 63 := by
  have h0 := h
  unfold valsOk at h0
  simp only [Bool.and_eq_true] at h0
  obtain ⟨⟨hg, h1⟩, h2⟩ := h0
  unfold evalR; rw [if_pos h]
  exact valsAt_W (good_len hg).2.2 ((isW_iff _).1 h1) ((isW_iff _).1 h2) (Nat.le_refl _) _
theorem eval_ev {es : List Nd} (hg : good es = true) {x0 x1 : Int} (h0 : 0 ≤ x0 ∧ x0 ≤ 63) (h1 : 0 ≤ x1 ∧ x1 ≤ 63) : valsOk es x0 x1 = true ∧ evalR es x0 x1 = (tmE es (es.length - 1)).ev x0 x1 := by
  have k : valsOk es x0 x1 = true := by unfold valsOk; rw [hg, (isW_iff x0).2 h0, (isW_iff x1).2 h1]; rfl
  obtain ⟨l1, _, ok⟩ := good_len hg
  exact ⟨k, by unfold evalR; rw [if_pos k, vals_tm ok x0 x1 (by omega)]⟩
theorem ip_facts {es fs : List Nd} {k : Int} (h : putOk es k fs = true) {x0 x1 : Int} (h0 : 0 ≤ x0 ∧ x0 ≤ 63) (h1 : 0 ≤ x1 ∧ x1 ≤ 63) :
    valsOk fs x0 x1 = true ∧ valsOk (putR es k fs) x0 x1 = true ∧ (k = 0 → valsOk es (evalR fs x0 x1) x1 = true ∧ evalR es (evalR fs x0 x1) x1 = evalR (putR es k fs) x0 x1) ∧ (k = 1 → valsOk es x0 (evalR fs x0 x1) = true ∧ evalR es x0 (evalR fs x0 x1) = evalR (putR es k fs) x0 x1) := by
  obtain ⟨g1, g2, g3, g4, g5⟩ := put_ev h
  obtain ⟨a1, a2⟩ := eval_ev g3 h0 h1
  obtain ⟨b1, b2⟩ := eval_ev g1 h0 h1
  have hb := eval_bd a1
  refine ⟨a1, b1, fun hk => ?_, fun hk => ?_⟩
  · obtain ⟨c1, c2⟩ := eval_ev g2 hb h1
    refine ⟨c1, ?_⟩
    rw [c2, b2, g5 x0 x1, if_neg (by omega), if_neg (by omega), a2]
  · obtain ⟨c1, c2⟩ := eval_ev g2 h0 hb
    refine ⟨c1, ?_⟩
    rw [c2, b2, g5 x0 x1, if_pos hk, if_pos hk, a2]

set_option maxHeartbeats 16000000 in
theorem fnInputsPut_go (A A' : Option Addr) (c c' : Nat) (bs bs' : List Int) (w : World) (hbl : bs.length + bs'.length ≤ 1048576) (ha : ∀ x ∈ bs, 0 ≤ x ∧ x ≤ 255) (ha' : ∀ x ∈ bs', 0 ≤ x ∧ x ≤ 255) (hy : BY w w.heap.size A bs) (hy' : BY w w.heap.size A' bs') :
    Calls Try.prog 12 #[.slice A bs.length c, .slice A' bs'.length c'] w fun e w' => e = .returned (.bool true) ∧ Below w.heap.size w w' := by
  have hB := Lib.hid (Below.refl w.heap.size w)
  have hBY := Lib.hid fun (W : World) (hW : Below w.heap.size w W) => ((hy.keep fun j hj => hW.block j hj).more hW.size : BY W W.heap.size A bs)
  have hBY' := Lib.hid fun (W : World) (hW : Below w.heap.size w W) => ((hy'.keep fun j hj => hW.block j hj).more hW.size : BY W W.heap.size A' bs')
  have HBig := Lib.hid (big_no A A' bs.length bs'.length c c' w (by omega) (by omega) hbl)
  have hA := Lib.hid ha
  have hA' := Lib.hid ha'
  clear hy hy' ha ha'
  go_enter Try.func12, Try.ntmps12
  go_wp2_with (fail)
  refine HBig.out.mono ?_
  rintro e w0 ⟨rfl, rfl⟩
  clear HBig
  have H := Lib.hid (DrawPutInput_d A c bs w (by omega) hA.out (hBY.out w hB.out))
  go_wp2_with (fail)
  refine (H.out).mono ?_
  rintro e w1 ⟨_, _, xe, xf, k, rfl, ⟨Ae, ce, rfl, ne, ke, re⟩, ⟨Af, cf, rfl, nf, kf, rf⟩, hk9, hbe⟩
  replace hB := Lib.hid (hB.out.trans (hbe.mono hB.out.size))
  have h_e := Lib.hid (re.more (Nat.zero_le _) (Nat.le_refl _))
  have h_f := Lib.hid (rf.more (Nat.zero_le _) (Nat.le_refl _))
  clear hbe H
  have hke := Lib.hid ke
  have hkf := Lib.hid kf
  clear re ke rf kf hk9
  have hP : ∃ P, putOk xe k xf = P := ⟨_, rfl⟩
  obtain ⟨P, hP⟩ := hP
  replace hP := Lib.hid hP
  have hpl := Lib.hid (putR_len9 xe xf k)
  have hq9 := iPutInput_k 0 w1.heap.size Ae ce xe k 0 w1.heap.size Af cf xf w1 (by omega) h_e.out (Nat.le_refl _) hke.out (by omega) h_f.out (Nat.le_refl _) hkf.out
  rw [hP.out] at hq9
  have H := Lib.hid hq9
  clear hq9
  go_wp2_with (fail)
  refine (H.out).mono ?_
  rintro e w2 ⟨Ao, co, rfl, o9, hbe⟩
  replace h_e := Lib.hid (h_e.out.upE hbe)
  replace h_f := Lib.hid (h_f.out.upE hbe)
  replace hB := Lib.hid (hB.out.trans (hbe.mono hB.out.size))
  have h_o := Lib.hid ((OK.rsN o9).more (Nat.zero_le _) (Nat.le_refl _))
  clear hbe H
  clear o9
  have hq9 := sPutInput_k 0 w2.heap.size Ae ce xe k 0 w2.heap.size Af cf xf w2 (by omega) h_e.out (Nat.le_refl _) (by omega) h_f.out (Nat.le_refl _)
  rw [hP.out] at hq9
  have H := Lib.hid hq9
  clear hq9
  go_wp2_with (fail)
  refine (H.out).mono ?_
  rintro e w3 ⟨Aq, cq, rfl, o9, hbe⟩
  replace h_e := Lib.hid (h_e.out.upE hbe)
  replace h_f := Lib.hid (h_f.out.upE hbe)
  replace h_o := Lib.hid (h_o.out.upE hbe)
  replace hB := Lib.hid (hB.out.trans (hbe.mono hB.out.size))
  have h_q := Lib.hid ((OK.rsN o9).more (Nat.zero_le _) (Nat.le_refl _))
  clear hbe H
  clear o9
  have e1 : (P != P) = false := by simp
  have H := Lib.hid (pSameExpr_eq 0 w3.heap.size 0 w3.heap.size Ao Aq _ _ co cq (putR xe k xf) w3 rfl rfl (by have := hpl.out; omega) h_o.out h_q.out)
  go_wp2_with (fail)
  refine (H.out).mono ?_
  rintro e w4 ⟨rfl, n, hn⟩
  have hbe := yes_below hn
  clear hn n
  replace h_e := Lib.hid (h_e.out.upE hbe)
  replace h_f := Lib.hid (h_f.out.upE hbe)
  replace h_o := Lib.hid (h_o.out.upE hbe)
  replace h_q := Lib.hid (h_q.out.upE hbe)
  replace hB := Lib.hid (hB.out.trans (hbe.mono hB.out.size))
  clear hbe H
  clear h_q
  have H := Lib.hid (DrawUsesOf_d A' c' bs' w4 (by omega) hA'.out (hBY'.out _ hB.out))
  go_wp2_with (fail)
  refine (H.out).mono ?_
  rintro e w5 ⟨_, xg, rfl, ⟨Ag, cg, rfl, ng, kg, rg⟩, hbe⟩
  replace h_e := Lib.hid (h_e.out.upE hbe)
  replace h_f := Lib.hid (h_f.out.upE hbe)
  replace h_o := Lib.hid (h_o.out.upE hbe)
  replace hB := Lib.hid (hB.out.trans (hbe.mono hB.out.size))
  have h_g := Lib.hid (rg.more (Nat.zero_le _) (Nat.le_refl _))
  clear hbe H
  clear rg kg
  have hG : ∃ G, good xg = G := ⟨_, rfl⟩
  obtain ⟨G, hG⟩ := hG
  replace hG := Lib.hid hG
  have hTr : ∃ Tr, treeR xg = Tr := ⟨_, rfl⟩
  obtain ⟨Tr, hTr⟩ := hTr
  replace hTr := Lib.hid hTr
  have hul := Lib.hid (usesR_len xg)
  have hlaw := uses_law xg
  rw [hTr.out] at hlaw
  have hLaw := Lib.hid hlaw
  clear hlaw
  have hq9 := iUsesOf_any 0 w5.heap.size Ag cg xg w5 (by omega) h_g.out.ns (Nat.le_refl _)
  rw [hG.out] at hq9
  have H := Lib.hid hq9
  clear hq9
  go_wp2_with (fail)
  refine (H.out).mono ?_
  rintro e w6 ⟨Au, cu, rfl, ou, hbe⟩
  replace h_e := Lib.hid (h_e.out.upE hbe)
  replace h_f := Lib.hid (h_f.out.upE hbe)
  replace h_o := Lib.hid (h_o.out.upE hbe)
  replace h_g := Lib.hid (h_g.out.upE hbe)
  replace hB := Lib.hid (hB.out.trans (hbe.mono hB.out.size))
  have h_u := Lib.hid (IS.more (OW.rs ou) (Nat.zero_le _) (Nat.le_refl _))
  clear hbe H
  clear ou
  have hq9 := sUsesOf_any 0 w6.heap.size Ag cg xg w6 (by omega) h_g.out.ns (Nat.le_refl _)
  rw [hG.out] at hq9
  have H := Lib.hid hq9
  clear hq9
  go_wp2_with (fail)
  refine (H.out).mono ?_
  rintro e w7 ⟨Av, cv, rfl, ou, hbe⟩
  replace h_e := Lib.hid (h_e.out.upE hbe)
  replace h_f := Lib.hid (h_f.out.upE hbe)
  replace h_o := Lib.hid (h_o.out.upE hbe)
  replace h_g := Lib.hid (h_g.out.upE hbe)
  replace h_u := Lib.hid (h_u.out.upD hbe)
  replace hB := Lib.hid (hB.out.trans (hbe.mono hB.out.size))
  have h_v := Lib.hid (IS.more (OW.rs ou) (Nat.zero_le _) (Nat.le_refl _))
  clear hbe H
  clear ou
  have hq9 := iIsTree_any 0 w7.heap.size Ag cg xg w7 (by omega) h_g.out.ns (Nat.le_refl _)
  rw [hG.out] at hq9
  rw [hTr.out] at hq9
  have H := Lib.hid hq9
  clear hq9
  go_wp2_with (fail)
  refine (H.out).mono ?_
  rintro e w8 ⟨rfl, hbe⟩
  replace h_e := Lib.hid (h_e.out.upE hbe)
  replace h_f := Lib.hid (h_f.out.upE hbe)
  replace h_o := Lib.hid (h_o.out.upE hbe)
  replace h_g := Lib.hid (h_g.out.upE hbe)
  replace h_u := Lib.hid (h_u.out.upD hbe)
  replace h_v := Lib.hid (h_v.out.upD hbe)
  replace hB := Lib.hid (hB.out.trans (hbe.mono hB.out.size))
  clear hbe H
  have hq9 := sIsTree_any 0 w8.heap.size Ag cg xg w8 (by omega) h_g.out.ns (Nat.le_refl _)
  rw [hG.out] at hq9
  rw [hTr.out] at hq9
  have H := Lib.hid hq9
  clear hq9
  go_wp2_with (fail)
  refine (H.out).mono ?_
  rintro e w9 ⟨rfl, hbe⟩
  replace h_e := Lib.hid (h_e.out.upE hbe)
  replace h_f := Lib.hid (h_f.out.upE hbe)
  replace h_o := Lib.hid (h_o.out.upE hbe)
  replace h_g := Lib.hid (h_g.out.upE hbe)
  replace h_u := Lib.hid (h_u.out.upD hbe)
  replace h_v := Lib.hid (h_v.out.upD hbe)
  replace hB := Lib.hid (hB.out.trans (hbe.mono hB.out.size))
  clear hbe H
  have e2 : (G != G) = false := by simp
  have e3 : (Tr != Tr) = false := by simp
  have H := Lib.hid (pSame_eq 0 w9.heap.size 0 w9.heap.size Au Av _ _ cu cv (usesR xg) w9 rfl rfl hul.out h_u.out h_v.out)
  go_wp2_with (fail)
  refine (H.out).mono ?_
  rintro e w10 ⟨rfl, n, hn⟩
  have hbe := yes_below hn
  clear hn n
  replace h_e := Lib.hid (h_e.out.upE hbe)
  replace h_f := Lib.hid (h_f.out.upE hbe)
  replace h_o := Lib.hid (h_o.out.upE hbe)
  replace h_g := Lib.hid (h_g.out.upE hbe)
  replace h_u := Lib.hid (h_u.out.upD hbe)
  replace h_v := Lib.hid (h_v.out.upD hbe)
  replace hB := Lib.hid (hB.out.trans (hbe.mono hB.out.size))
  clear hbe H
  clear h_v h_g
  generalize usesR xg = U at *
  have hUl := hul.out
  have hw1 : IntKind.i64.wrap ((U.length : Int) - 1) = (U.length : Int) - 1 := IntWalk.i64_in _ (by omega)
  go_wp2
  go_loop [114] (fun i => ∃ j : Nat, j ≤ U.length ∧ i = .int .i64 j) (fun i => U.length - (intOf i).toNat)
  case atStart => exact ⟨0, Nat.zero_le _, rfl⟩
  case round =>
    obtain ⟨j, hj, rfl⟩ := hrel
    by_cases hjl : j < U.length
    · obtain ⟨ub, uo, rfl, _, huc⟩ := h_u.out (by omega)
      have c1 := huc j hjl
      have hgq : U[j] = U.getD j 0 := by rw [List.getD_eq_getElem?_getD, List.getElem?_eq_getElem hjl]; rfl
      rw [hgq] at c1
      clear huc hgq
      obtain ⟨l1, l2, l3⟩ := hLaw.out j hjl
      generalize U.getD j 0 = u at *
      have hji : (j : Int) < (U.length : Int) := by omega
      have hj0 : (0 : Int) ≤ (j : Int) := by omega
      by_cases hlast : j + 1 = U.length
      · have hu := l3 hlast
        subst hu
        clear l1 l2 l3
        have q1 : ¬ (j : Int) < (U.length : Int) - 1 := by omega
        have q2 : ((j : Int) == (U.length : Int) - 1) = true := by rw [beq_iff_eq]; omega
        have q3 := Lib.hid hlast
        clear hlast
        cases Tr
        all_goals go_wp2
        all_goals go_round
        case rel => exact ⟨j + 1, by omega, by go_num⟩
        case measure => simp [intOf]; omega
        case rel => exact ⟨j + 1, by omega, by go_num⟩
        case measure => simp [intOf]; omega
      · have hu := l1 (by omega)
        clear l1 l3
        have hub : (u == 0) = false := by simpa using hu
        have q1 : (j : Int) < (U.length : Int) - 1 := by omega
        have q2 : ((j : Int) == (U.length : Int) - 1) = false := by rw [beq_eq_false_iff_ne]; omega
        have q3 := Lib.hid hlast
        clear hlast
        cases Tr
        · clear l2
          go_wp2
          go_round
          case rel => exact ⟨j + 1, by omega, by go_num⟩
          case measure => simp [intOf]; omega
        · have hu2 : ¬ 1 < u := by have := l2 rfl; omega
          clear l2
          go_wp2
          go_round
          case rel => exact ⟨j + 1, by omega, by go_num⟩
          case measure => simp [intOf]; omega
    · obtain rfl : j = U.length := by omega
      clear hj hjl hLaw hw1
      clear h_u
      cases P
      · go_wp2
        go_ret
        exact ⟨rfl, hB.out⟩
      · have hk01 := (put_ev hP.out).2.2.2.1
        have hgo := Lib.hid (put_ev hP.out).1
        have hL1 : bs.length ≤ 1048576 := by omega
        have hL2 : bs'.length ≤ 1048576 := by omega
        have hIP := Lib.hid fun (x0 x1 : Int) (h0 : 0 ≤ x0 ∧ x0 ≤ 63) (h1 : 0 ≤ x1 ∧ x1 ≤ 63) => ip_facts hP.out h0 h1
        rcases hk01 with rfl | rfl
        · go_wp2
          go_loopw [23] (fun i wr => ∃ j : Nat, j ≤ 64 ∧ i = .int .i64 j ∧ Below w10.heap.size w10 wr) (fun i _ => 64 - (intOf i).toNat)
          case atStart => exact ⟨0, Nat.zero_le _, rfl, Below.refl _ _⟩
          case round =>
            obtain ⟨j, hj, rfl, hbe⟩ := hrel
            generalize hQo : wr = wo at *
            clear hQo
            have hBL := Lib.hid hbe
            replace h_e := Lib.hid (h_e.out.upE hbe)
            replace h_f := Lib.hid (h_f.out.upE hbe)
            replace h_o := Lib.hid (h_o.out.upE hbe)
            replace hB := Lib.hid (hB.out.trans (hbe.mono hB.out.size))
            clear hbe
            by_cases hj64 : j < 64
            · have hji : (j : Int) < 64 := by omega
              have v1 : IntKind.i64.wrap ((j : Int) * 37) = (j : Int) * 37 := IntWalk.i64_in _ (by omega)
              have v2 : IntKind.i64.wrap ((j : Int) * 37 + (bs.length : Int)) = (j : Int) * 37 + (bs.length : Int) := IntWalk.i64_in _ (by omega)
              have v3 : IntKind.i64.wrap ((j : Int) * 11) = (j : Int) * 11 := IntWalk.i64_in _ (by omega)
              have v4 : IntKind.i64.wrap ((j : Int) * 11 + (bs'.length : Int)) = (j : Int) * 11 + (bs'.length : Int) := IntWalk.i64_in _ (by omega)
              obtain ⟨i1, i2, i3, i4⟩ := hIP.out (((j : Int) * 37 + (bs.length : Int)) % 64) (((j : Int) * 11 + (bs'.length : Int)) % 64) (by omega) (by omega)
              obtain ⟨i5, i6⟩ := i3 (by first | trivial | rfl)
              clear i3 i4
              replace i1 := Lib.hid i1
              replace i2 := Lib.hid i2
              replace i5 := Lib.hid i5
              replace i6 := Lib.hid i6
              have hq9 := iEvalExpr_k 0 wo.heap.size Af cf xf (((j : Int) * 37 + (bs.length : Int)) % 64) (((j : Int) * 11 + (bs'.length : Int)) % 64) wo (by omega) h_f.out (Nat.le_refl _)
              rw [i1.out] at hq9
              have H := Lib.hid hq9
              clear hq9
              go_wp2_with (fail)
              refine (H.out).mono ?_
              rintro e w61 ⟨rfl, hbe⟩
              replace h_e := Lib.hid (h_e.out.upE hbe)
              replace h_f := Lib.hid (h_f.out.upE hbe)
              replace h_o := Lib.hid (h_o.out.upE hbe)
              replace hB := Lib.hid (hB.out.trans (hbe.mono hB.out.size))
              replace hBL := Lib.hid (hBL.out.trans (hbe.mono hBL.out.size))
              clear hbe H
              generalize evalR xf (((j : Int) * 37 + (bs.length : Int)) % 64) (((j : Int) * 11 + (bs'.length : Int)) % 64) = v at *
              have hq9 := iEvalExpr_k 0 w61.heap.size Ao co (putR xe 0 xf) (((j : Int) * 37 + (bs.length : Int)) % 64) (((j : Int) * 11 + (bs'.length : Int)) % 64) w61 (by have := hpl.out; omega) h_o.out (Nat.le_refl _)
              rw [i2.out] at hq9
              rw [← i6.out] at hq9
              have H := Lib.hid hq9
              clear hq9
              go_wp2_with (fail)
              refine (H.out).mono ?_
              rintro e w62 ⟨rfl, hbe⟩
              replace h_e := Lib.hid (h_e.out.upE hbe)
              replace h_f := Lib.hid (h_f.out.upE hbe)
              replace h_o := Lib.hid (h_o.out.upE hbe)
              replace hB := Lib.hid (hB.out.trans (hbe.mono hB.out.size))
              replace hBL := Lib.hid (hBL.out.trans (hbe.mono hBL.out.size))
              clear hbe H
              have hq9 := iEvalExpr_k 0 w62.heap.size Ae ce xe v (((j : Int) * 11 + (bs'.length : Int)) % 64) w62 (by omega) h_e.out (Nat.le_refl _)
              rw [i5.out] at hq9
              have H := Lib.hid hq9
              clear hq9
              go_wp2_with (fail)
              refine (H.out).mono ?_
              rintro e w63 ⟨rfl, hbe⟩
              replace h_e := Lib.hid (h_e.out.upE hbe)
              replace h_f := Lib.hid (h_f.out.upE hbe)
              replace h_o := Lib.hid (h_o.out.upE hbe)
              replace hB := Lib.hid (hB.out.trans (hbe.mono hB.out.size))
              replace hBL := Lib.hid (hBL.out.trans (hbe.mono hBL.out.size))
              clear hbe H
              go_wp2
              go_roundw
              case rel => exact ⟨j + 1, by omega, by go_num, hBL.out⟩
              case measure => simp [intOf]; omega
            · obtain rfl : j = 64 := by omega
              have hq9 := IsExpr_any 0 wo.heap.size Ao co (putR xe 0 xf) wo (by have := hpl.out; omega) h_o.out.ns (Nat.le_refl _)
              rw [hgo.out] at hq9
              have H := Lib.hid hq9
              clear hq9
              go_wp2_with (fail)
              refine (H.out).mono ?_
              rintro e w71 ⟨rfl, hbe⟩
              replace h_e := Lib.hid (h_e.out.upE hbe)
              replace h_f := Lib.hid (h_f.out.upE hbe)
              replace h_o := Lib.hid (h_o.out.upE hbe)
              replace hB := Lib.hid (hB.out.trans (hbe.mono hB.out.size))
              clear hbe H
              go_wp2
              go_ret
              exact ⟨rfl, hB.out⟩
        · go_wp2
          go_loopw [23] (fun i wr => ∃ j : Nat, j ≤ 64 ∧ i = .int .i64 j ∧ Below w10.heap.size w10 wr) (fun i _ => 64 - (intOf i).toNat)
          case atStart => exact ⟨0, Nat.zero_le _, rfl, Below.refl _ _⟩
          case round =>
            obtain ⟨j, hj, rfl, hbe⟩ := hrel
            generalize hQo : wr = wo at *
            clear hQo
            have hBL := Lib.hid hbe
            replace h_e := Lib.hid (h_e.out.upE hbe)
            replace h_f := Lib.hid (h_f.out.upE hbe)
            replace h_o := Lib.hid (h_o.out.upE hbe)
            replace hB := Lib.hid (hB.out.trans (hbe.mono hB.out.size))
            clear hbe
            by_cases hj64 : j < 64
            · have hji : (j : Int) < 64 := by omega
              have v1 : IntKind.i64.wrap ((j : Int) * 37) = (j : Int) * 37 := IntWalk.i64_in _ (by omega)
              have v2 : IntKind.i64.wrap ((j : Int) * 37 + (bs.length : Int)) = (j : Int) * 37 + (bs.length : Int) := IntWalk.i64_in _ (by omega)
              have v3 : IntKind.i64.wrap ((j : Int) * 11) = (j : Int) * 11 := IntWalk.i64_in _ (by omega)
              have v4 : IntKind.i64.wrap ((j : Int) * 11 + (bs'.length : Int)) = (j : Int) * 11 + (bs'.length : Int) := IntWalk.i64_in _ (by omega)
              obtain ⟨i1, i2, i3, i4⟩ := hIP.out (((j : Int) * 37 + (bs.length : Int)) % 64) (((j : Int) * 11 + (bs'.length : Int)) % 64) (by omega) (by omega)
              obtain ⟨i5, i6⟩ := i4 (by first | trivial | rfl)
              clear i3 i4
              replace i1 := Lib.hid i1
              replace i2 := Lib.hid i2
              replace i5 := Lib.hid i5
              replace i6 := Lib.hid i6
              have hq9 := iEvalExpr_k 0 wo.heap.size Af cf xf (((j : Int) * 37 + (bs.length : Int)) % 64) (((j : Int) * 11 + (bs'.length : Int)) % 64) wo (by omega) h_f.out (Nat.le_refl _)
              rw [i1.out] at hq9
              have H := Lib.hid hq9
              clear hq9
              go_wp2_with (fail)
              refine (H.out).mono ?_
              rintro e w61 ⟨rfl, hbe⟩
              replace h_e := Lib.hid (h_e.out.upE hbe)
              replace h_f := Lib.hid (h_f.out.upE hbe)
              replace h_o := Lib.hid (h_o.out.upE hbe)
              replace hB := Lib.hid (hB.out.trans (hbe.mono hB.out.size))
              replace hBL := Lib.hid (hBL.out.trans (hbe.mono hBL.out.size))
              clear hbe H
              generalize evalR xf (((j : Int) * 37 + (bs.length : Int)) % 64) (((j : Int) * 11 + (bs'.length : Int)) % 64) = v at *
              have hq9 := iEvalExpr_k 0 w61.heap.size Ao co (putR xe 1 xf) (((j : Int) * 37 + (bs.length : Int)) % 64) (((j : Int) * 11 + (bs'.length : Int)) % 64) w61 (by have := hpl.out; omega) h_o.out (Nat.le_refl _)
              rw [i2.out] at hq9
              rw [← i6.out] at hq9
              have H := Lib.hid hq9
              clear hq9
              go_wp2_with (fail)
              refine (H.out).mono ?_
              rintro e w62 ⟨rfl, hbe⟩
              replace h_e := Lib.hid (h_e.out.upE hbe)
              replace h_f := Lib.hid (h_f.out.upE hbe)
              replace h_o := Lib.hid (h_o.out.upE hbe)
              replace hB := Lib.hid (hB.out.trans (hbe.mono hB.out.size))
              replace hBL := Lib.hid (hBL.out.trans (hbe.mono hBL.out.size))
              clear hbe H
              have hq9 := iEvalExpr_k 0 w62.heap.size Ae ce xe (((j : Int) * 37 + (bs.length : Int)) % 64) v w62 (by omega) h_e.out (Nat.le_refl _)
              rw [i5.out] at hq9
              have H := Lib.hid hq9
              clear hq9
              go_wp2_with (fail)
              refine (H.out).mono ?_
              rintro e w63 ⟨rfl, hbe⟩
              replace h_e := Lib.hid (h_e.out.upE hbe)
              replace h_f := Lib.hid (h_f.out.upE hbe)
              replace h_o := Lib.hid (h_o.out.upE hbe)
              replace hB := Lib.hid (hB.out.trans (hbe.mono hB.out.size))
              replace hBL := Lib.hid (hBL.out.trans (hbe.mono hBL.out.size))
              clear hbe H
              go_wp2
              go_roundw
              case rel => exact ⟨j + 1, by omega, by go_num, hBL.out⟩
              case measure => simp [intOf]; omega
            · obtain rfl : j = 64 := by omega
              have hq9 := IsExpr_any 0 wo.heap.size Ao co (putR xe 1 xf) wo (by have := hpl.out; omega) h_o.out.ns (Nat.le_refl _)
              rw [hgo.out] at hq9
              have H := Lib.hid hq9
              clear hq9
              go_wp2_with (fail)
              refine (H.out).mono ?_
              rintro e w71 ⟨rfl, hbe⟩
              replace h_e := Lib.hid (h_e.out.upE hbe)
              replace h_f := Lib.hid (h_f.out.upE hbe)
              replace h_o := Lib.hid (h_o.out.upE hbe)
              replace hB := Lib.hid (hB.out.trans (hbe.mono hB.out.size))
              clear hbe H
              go_wp2
              go_ret
              exact ⟨rfl, hB.out⟩
end Go.Proofs.Ytmhdijklindipaa

/- Arguments of the types []laws.Instr, laws.Instr and []int opened. -/
namespace Go.Proofs.Ytmhdijklindipaa
open Go.ChangeShapes Go.WideShapes Go.ChangeAt Go.RowKit Go.Deep
open Go.ChangeMaps (open_string shut_string)
set_option linter.unusedVariables false

theorem cellsStr : Try.prog.cellsOf 9 = 1 := by kernel_rfl
theorem cellsInt : Try.prog.cellsOf 3 = 1 := by kernel_rfl

theorem cell_lt_heap {w : World} {a : Addr} {v : Value} (h : w.cell? a = some v) : a.block < w.heap.size := by
  rcases Nat.lt_or_ge a.block w.heap.size with hlt | hge
  · exact hlt
  · unfold World.cell? at h; rw [Array.getElem?_eq_none hge] at h; simp at h

set_option maxRecDepth 100000 in
theorem ints_of_trod {H : Type} {enc : TypeId × Value → H} {w : World} {spare : Nat → Bool} {held : Bool} {A : Option Addr} {len cap : Nat} {d : DataW H} {p : List MemPlace}
    (h : DataW.Trod enc Try.prog w 0 spare held 27 (.slice A len cap) d p) :
    ∃ xs : List Int, xs.length = len ∧ IS w 0 w.heap.size A xs ∧ len ≤ 9223372036854775807 := by
  obtain ⟨fuel, hf⟩ := h
  rcases open_slice Try.underlying27 hf with ⟨hcs, _⟩ | ⟨a, l, c, m, n, D, Pl, hcs, _, hl, hm, hmm, _, hi⟩
  · simp [Value.cells] at hcs
    obtain ⟨rfl, rfl, rfl⟩ := hcs
    exact ⟨[], rfl, fun h => absurd h (by simp), by omega⟩
  · simp [Value.cells] at hcs
    obtain ⟨rfl, rfl, rfl⟩ := hcs
    have hlm : len ≤ m := by rw [hmm]; split <;> omega
    have hex : ∀ i, i < len → ∃ x : Int, w.cell? (a.add i) = some (.int .i64 x) := by
      intro i hil
      obtain ⟨cs', hc, ht⟩ := hi i (by omega)
      rw [cellsInt, Nat.mul_one] at hc
      obtain ⟨x, hx, _, _⟩ := DataW.trod_int Try.underlying3 ht
      obtain ⟨_, _, hat⟩ := World.cells?_some hc
      have := hat 0 (by omega)
      rw [add_add, hx] at this
      exact ⟨x, by simpa using this⟩
    obtain ⟨f, hf2⟩ := Classical.axiomOfChoice (fun i : {i // i < len} => hex i.1 i.2)
    have hget : ∀ i (h : i < (List.ofFn fun i : Fin len => f ⟨i.1, i.2⟩).length), (List.ofFn fun i : Fin len => f ⟨i.1, i.2⟩)[i] = f ⟨i, by simpa using h⟩ := fun i h => by simp
    refine ⟨List.ofFn fun i : Fin len => f ⟨i.1, i.2⟩, by simp, ?_, by unfold maxLen at hm; omega⟩
    intro hpos
    have hpos' : 0 < len := by simpa using hpos
    have h0 := hf2 ⟨0, hpos'⟩
    obtain ⟨b, o, spot⟩ := a
    have hspot : spot = none := by have := World.cell?_spot h0; simpa [Addr.add] using this
    subst hspot
    have hadd : ∀ k, (⟨b, o, none⟩ : Addr).add k = ⟨b, o + k, none⟩ := fun k => by simp [Addr.add]
    refine ⟨b, o, rfl, ⟨Nat.zero_le _, ?_⟩, fun i hi => ?_⟩
    · rw [hadd] at h0
      exact cell_lt_heap h0
    · have hi' : i < len := by simpa using hi
      rw [hget i hi]
      have := hf2 ⟨i, hi'⟩
      simp only [hadd] at this
      exact this
end Go.Proofs.Ytmhdijklindipaa

/- A []byte argument opened. -/
namespace Go.Proofs.Ytmhdijklindipaa
open Go.ChangeShapes Go.WideShapes Go.ChangeAt Go.RowKit Go.Deep
set_option linter.unusedVariables false
theorem cellsByte : Try.prog.cellsOf 5 = 1 := by kernel_rfl
theorem bytes_of_trod {H : Type} {enc : TypeId × Value → H} {w : World} {spare : Nat → Bool} {held : Bool} {A : Option Addr} {len cap : Nat} {d : DataW H} {p : List MemPlace}
    (h : DataW.Trod enc Try.prog w 0 spare held 22 (.slice A len cap) d p) :
    ∃ xs : List Int, xs.length = len ∧ BY w w.heap.size A xs ∧ (∀ x ∈ xs, 0 ≤ x ∧ x ≤ 255) ∧ len ≤ 9223372036854775807 := by
  obtain ⟨fuel, hf⟩ := h
  rcases open_slice Try.underlying22 hf with ⟨hcs, _⟩ | ⟨a, l, c, m, n, D, Pl, hcs, _, hl, hm, hmm, _, hi⟩
  · simp [Value.cells] at hcs
    obtain ⟨rfl, rfl, rfl⟩ := hcs
    exact ⟨[], rfl, fun h => absurd h (by simp), fun x hx => by simp at hx, by omega⟩
  · simp [Value.cells] at hcs
    obtain ⟨rfl, rfl, rfl⟩ := hcs
    have hlm : len ≤ m := by rw [hmm]; split <;> omega
    have hex : ∀ i, i < len → ∃ x : Int, w.cell? (a.add i) = some (.int .u8 x) ∧ 0 ≤ x ∧ x ≤ 255 := by
      intro i hil
      obtain ⟨cs', hc, ht⟩ := hi i (by omega)
      rw [cellsByte, Nat.mul_one] at hc
      obtain ⟨x, hx, hb, hz⟩ := DataW.trod_int Try.underlying5 ht
      obtain ⟨_, _, hat⟩ := World.cells?_some hc
      have := hat 0 (by omega)
      rw [add_add, hx] at this
      refine ⟨x, by simpa using this, ?_⟩
      have hz2 : (decide (IntKind.u8.min ≤ x) && decide (x ≤ IntKind.u8.max)) = true := hz
      rw [show IntKind.u8.min = 0 from rfl, show IntKind.u8.max = 255 from rfl, Bool.and_eq_true, decide_eq_true_iff, decide_eq_true_iff] at hz2
      exact hz2
    obtain ⟨f, hf2⟩ := Classical.axiomOfChoice (fun i : {i // i < len} => hex i.1 i.2)
    have hget : ∀ i (h : i < (List.ofFn fun i : Fin len => f ⟨i.1, i.2⟩).length), (List.ofFn fun i : Fin len => f ⟨i.1, i.2⟩)[i] = f ⟨i, by simpa using h⟩ := fun i h => by simp
    refine ⟨List.ofFn fun i : Fin len => f ⟨i.1, i.2⟩, by simp, ?_, ?_, by unfold maxLen at hm; omega⟩
    · intro hpos
      have hpos' : 0 < len := by simpa using hpos
      have h0 := (hf2 ⟨0, hpos'⟩).1
      obtain ⟨b, o, spot⟩ := a
      have hspot : spot = none := by have := World.cell?_spot h0; simpa [Addr.add] using this
      subst hspot
      have hadd : ∀ k, (⟨b, o, none⟩ : Addr).add k = ⟨b, o + k, none⟩ := fun k => by simp [Addr.add]
      refine ⟨b, o, rfl, ?_, fun i hi => ?_⟩
      · rw [hadd] at h0
        exact cell_lt_heap h0
      · have hi' : i < len := by simpa using hi
        rw [hget i hi]
        have := (hf2 ⟨i, hi'⟩).1
        simp only [hadd] at this
        exact this
    · intro x hx
      rw [List.mem_ofFn] at hx
      obtain ⟨i, rfl⟩ := hx
      exact (hf2 ⟨i.1, i.2⟩).2
end Go.Proofs.Ytmhdijklindipaa
