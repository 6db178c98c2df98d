import Derived.Test.YtieljgfocgdngaaXL
import Derived.Test.YtieljgfocgdngaaWD

import Derived.WalkKit
import Derived.WalkSpells
import Derived.WalkLawsBesides
import Derived.Deep.RegionLaw
import Derived.Deep.AppendLies
import Derived.Lib.Hide
/- PutInput: the model. -/
namespace Go.Proofs.Ytieljgfocgdngaa
open Go.RowKit
set_option linter.unusedVariables false
set_option maxRecDepth 100000

/-- An own slice of nodes that lies not in the block g. -/
def NO (L g : Nat) (xs : List Nd) (v : Value) (w : World) : Prop := w.ownsRow L 62 4 v xs.length (xs.flatMap Nd.enc) ∧ v.ownBlock ≠ some g
theorem NO.keep {L g : Nat} {xs : List Nd} {v : Value} {w w' : World} (h : NO L g xs v w) (hr : ∀ j, v.ownBlock = some j → w'.heap[j]? = w.heap[j]?) : NO L g xs v w' := by
  refine ⟨⟨h.1.1, ?_⟩, h.2⟩
  rcases h.1.2 with hn | ⟨b, cap, cur, rfl, hg, hh, hrest⟩
  · exact .inl hn
  · exact .inr ⟨b, cap, cur, rfl, hg, (hr b rfl).trans hh, hrest⟩
theorem NO.next {L g : Nat} {xs : List Nd} {v : Value} {w w' : World} (h : NO L g xs v w) (hb : Below w.heap.size w w') : NO L g xs v w' := h.keep fun j hj => hb.block j (h.1.lt j hj).2
theorem NO.set {L g : Nat} {xs : List Nd} {v : Value} {w : World} (h : NO L g xs v w) (i : Nat) (u : Value) : NO L g xs v (w.setCell ⟨g, i, none⟩ u) := h.keep fun j hj => Below.heap_setCell w ⟨g, i, none⟩ u j (fun e => h.2 (by rw [hj]; exact congrArg some e))
theorem NO.form {L g : Nat} {xs : List Nd} {v : Value} {w : World} (h : NO L g xs v w) : ∃ A c, v = .slice A xs.length c := by
  rcases h.1.2 with ⟨rfl, h0⟩ | ⟨g, cap, cur, rfl, _⟩
  · rw [h0]; exact ⟨_, _, rfl⟩
  · exact ⟨_, _, rfl⟩
theorem NO.ok {L g : Nat} {xs : List Nd} {v : Value} {w : World} (h : NO L g xs v w) : OK Nd.enc 4 62 w L w.heap.size v xs := ⟨h.1, fun j hj => (h.1.lt j hj).2⟩

set_option maxHeartbeats 8000000 in
theorem sPutInput_k (L0 B0 : Nat) (A0 : Option Addr) (c0 : Nat) (es : List Nd) (k : Int) (L2 B2 : Nat) (A2 : Option Addr) (c2 : Nat) (fs : List Nd) (w : World) (hl : es.length ≤ 1048576) (hes : RS Nd.enc 4 w L0 B0 A0 es) (hB0 : B0 ≤ w.heap.size) (hl2 : fs.length ≤ 1048576) (hfs : RS Nd.enc 4 w L2 B2 A2 fs) (hB2 : B2 ≤ w.heap.size) :
    Calls Try.prog 30 #[.slice A0 es.length c0, .int .i64 k, .slice A2 fs.length c2] w (ResPutInput (putR es k fs) (putOk es k fs) w) := by
  have H := Lib.hid (exGood_any L0 B0 A0 c0 es w hl hes.ns hB0)
  have HF := Lib.hid fun (W : World) (hW : Below w.heap.size w W) => exGood_any L2 B2 A2 c2 fs W hl2 (hfs.ns.below hW hB2) (Nat.le_trans hB2 hW.size)
  have hE := Lib.hid fun (W : World) (hW : Below w.heap.size w W) => hes.below hW hB0
  have hF := Lib.hid fun (W : World) (hW : Below w.heap.size w W) => hfs.below hW hB2
  have hIn := Lib.hid fun W => l1In_r k 0 1 W
  clear hes hfs
  cases hg : good es
  · have hK : Hid (putOk es k fs = false) := by simp [Hid, putOk, hg]
    have hR := Lib.hid (putR_no hK.out)
    rw [hg] at H
    clear hg
    go_enter Try.func30, Try.ntmps30
    go_wp2_with (fail)
    refine H.out.mono ?_
    rintro e w2 ⟨rfl, hb⟩
    have hbb := Lib.hid hb
    clear hb
    go_wp2_with (fail)
    go_ret2
    rw [hR.out, hK.out]
    exact ⟨none, 0, rfl, OK.nil _ _ _ _, hbb.out⟩
  rw [hg] at H
  cases hgf : good fs
  · have hK : Hid (putOk es k fs = false) := by simp [Hid, putOk, hgf]
    have hR := Lib.hid (putR_no hK.out)
    rw [hgf] at HF
    clear hg hgf
    go_enter Try.func30, Try.ntmps30
    go_wp2_with (fail)
    refine H.out.mono ?_
    rintro e w2 ⟨rfl, hb⟩
    have hbb := Lib.hid hb
    clear hb
    go_wp2_with (fail)
    refine (HF.out w2 hbb.out).mono ?_
    rintro e w3 ⟨rfl, hb⟩
    have hbc := Lib.hid (hbb.out.trans (hb.mono hbb.out.size))
    clear hb
    go_wp2_with (fail)
    go_ret2
    rw [hR.out, hK.out]
    exact ⟨none, 0, rfl, OK.nil _ _ _ _, hbc.out⟩
  rw [hgf] at HF
  obtain ⟨hl1, hl24, hok⟩ := good_len hg
  obtain ⟨hf1, hf24, hokf⟩ := good_len hgf
  cases hr : inR k 0 1
  · have hK : Hid (putOk es k fs = false) := by simp [Hid, putOk, hr]
    have hR := Lib.hid (putR_no hK.out)
    rw [hr] at hIn
    clear hg hgf hok hokf hr
    go_enter Try.func30, Try.ntmps30
    go_wp2_with (fail)
    refine H.out.mono ?_
    rintro e w2 ⟨rfl, hb⟩
    have hbb := Lib.hid hb
    clear hb
    go_wp2_with (fail)
    refine (HF.out w2 hbb.out).mono ?_
    rintro e w3 ⟨rfl, hb⟩
    have hbc := Lib.hid (hbb.out.trans (hb.mono hbb.out.size))
    clear hb
    go_wp2_with (fail)
    refine (hIn.out _).mono ?_
    rintro e w4 ⟨rfl, rfl⟩
    go_wp2_with (fail)
    go_ret2
    rw [hR.out, hK.out]
    exact ⟨none, 0, rfl, OK.nil _ _ _ _, hbc.out⟩
  rw [hr] at hIn
  have hK0 : Hid (hasIn es k = false → putOk es k fs = true) := by intro h; simp [putOk, hg, hgf, hr, h]
  have hR0 : Hid (hasIn es k = false → putR es k fs = es) := by intro h; unfold putR; rw [if_pos (hK0.out h), h]; rfl
  have hK : Hid (hasIn es k = true → putOk es k fs = decide ((po es fs k es.length).length ≤ 24)) := by intro h; simp [putOk, hg, hgf, hr, h]
  have hR : Hid (hasIn es k = true → putOk es k fs = true → putR es k fs = po es fs k es.length) := by intro h h'; unfold putR; rw [if_pos h', if_pos h]
  have hRn : Hid (putOk es k fs = false → putR es k fs = []) := putR_no
  have hOk := Lib.hid hok
  have hmi := run_make_ints es.length hl
  have hPl := Lib.hid (pq_len es fs k)
  have hPo := Lib.hid (po_len es fs k)
  have hPy := Lib.hid fun j (hj : j < es.length) => pst_yes (es := es) (f := fs) (k := k) (i := j) hj
  have hPn := Lib.hid fun j (hj : j < es.length) => pst_no (es := es) (f := fs) (k := k) (i := j) hj
  have hpo0 : po es fs k 0 = fs := rfl
  have hpq0 : pq es fs k 0 = zeros es.length := rfl
  obtain ⟨i0, hi0, hi1, hi2, hi3⟩ := info_parts Try.infoNode
  have hJ0 := Lib.hid hi0
  have hJ1 := Lib.hid hi1
  have hJ2 := Lib.hid hi2
  have hJ3 := Lib.hid hi3
  have hSn := Lib.hid fun j (hj : j < es.length) => hasIn_snoc (es := es) (k := j) hj k
  have hEnd := Lib.hid (show hasIn (es.take es.length) k = hasIn es k by rw [List.take_length])
  have h00 : hasIn (es.take 0) k = false := rfl
  clear hg hgf hok hokf hr hi0 hi1 hi2 hi3
  go_enter Try.func30, Try.ntmps30
  go_wp2_with (fail)
  refine H.out.mono ?_
  rintro e w2 ⟨rfl, hb⟩
  have hbb := Lib.hid hb
  clear hb
  go_wp2_with (fail)
  refine (HF.out w2 hbb.out).mono ?_
  rintro e w3 ⟨rfl, hb⟩
  have hbc := Lib.hid (hbb.out.trans (hb.mono hbb.out.size))
  clear hb
  go_wp2_with (fail)
  refine (hIn.out _).mono ?_
  rintro e w4 ⟨rfl, rfl⟩
  go_wp2
  go_loopw [8, 30] (fun u i wr => ∃ j : Nat, j ≤ es.length ∧ i = .int .i64 j ∧ u = .bool (hasIn (es.take j) k) ∧ Below w.heap.size w wr) (fun _ i _ => es.length - (intOf i).toNat)
  case atStart => exact ⟨0, Nat.zero_le _, rfl, rfl, hbc.out⟩
  case round =>
    obtain ⟨j, hj, rfl, rfl, hbel⟩ := hrel
    have hBe := Lib.hid hbel
    clear hbel
    by_cases hlt : j < es.length
    · obtain ⟨b', o', hA, ⟨_, hbB⟩, hcc⟩ := ((hE.out wr hBe.out).ns) (by omega)
      obtain ⟨c1, c2', c3, c4⟩ := hcc j hlt
      subst hA
      have k0 : (0 : Int) ≤ (j : Int) := by omega
      have k1 : (j : Int) < (es.length : Int) := by omega
      have hS := Lib.hid (hSn.out j hlt)
      have hX := xn_new wr es[j]
      have hXb := (Below.refl wr.heap.size wr).alloc (Nat.le_refl _) (.cells #[.string es[j].op, .int .i64 es[j].a, .int .i64 es[j].b, .int .i64 es[j].v] 62)
      have xB := Lib.hid (hBe.out.trans (hXb.mono hBe.out.size))
      obtain ⟨m0, m1, m2, m3⟩ := hX.cells
      clear hX hXb hcc
      generalize hgu : hasIn (es.take (j + 1)) k = u' at *
      have HU := Lib.hid hgu
      clear hgu
      generalize es[j] = nd at *
      obtain ⟨op, a, b, x⟩ := nd
      dsimp only at *
      cases hu : hasIn (es.take j) k
      · rw [hu] at hS
        clear hu
        cases h : isIn op
        · have hs' : Hid (u' = false) := by rw [Hid, hS.out]; simp [isInp, h]
          have h' : (op.toList == [105, 110]) = false := h
          clear h hS
          go_wp2
          go_roundw
          case rel => exact ⟨j + 1, by omega, by go_num, by rw [HU.out, hs'.out], xB.out⟩
          case measure => simp [intOf]; omega
        · have h' : op.toList = [105, 110] := by simpa [isIn] using h
          have hs' : Hid (u' = (x == k)) := by rw [Hid, hS.out]; simp [isInp, h]
          clear h hS
          by_cases hv : x = k
          · subst hv
            have hs2 : Hid (u' = true) := by rw [Hid, hs'.out]; simp
            clear hs'
            go_wp2
            go_roundw
            case rel => exact ⟨j + 1, by omega, by go_num, by rw [HU.out, hs2.out]; try simp [hv], xB.out⟩
            case measure => simp [intOf]; omega
          · have hs2 : Hid (u' = false) := by rw [Hid, hs'.out]; simp [hv]
            clear hs'
            go_wp2
            go_roundw
            case rel => exact ⟨j + 1, by omega, by go_num, by rw [HU.out, hs2.out]; try simp [hv], xB.out⟩
            case measure => simp [intOf]; omega
      · rw [hu] at hS
        have hs' : Hid (u' = true) := by rw [Hid, hS.out]; rfl
        clear hu hS
        go_wp2
        go_roundw
        case rel => exact ⟨j + 1, by omega, by go_num, by rw [HU.out, hs'.out], xB.out⟩
        case measure => simp [intOf]; omega
    · obtain rfl : j = es.length := by omega
      rw [hEnd.out]
      have hzw := hBe.out.size
      have hb0 := Lib.hid ((Below.refl wr.heap.size wr).alloc (Nat.le_refl _) (.cells #[] 62))
      have hown := Lib.hid (World.ownsRow_made (base := wr.heap.size) (e := 62) (size := 4) wr #[] 0 (Nat.le_refl _) (by unfold maxLen; omega) (by simp))
      have hsz0 := Lib.hid hb0.out.size
      cases hi : hasIn es k
      · have hnews := Lib.hid (((hE.out wr hBe.out).below hb0.out (Nat.le_trans hB0 hzw)).news Nd.hk)
        have hK2 := Lib.hid (hK0.out hi)
        have hR2 := Lib.hid (hR0.out hi)
        clear hi
        go_wp2_with (at_builtin; refine wpList_append_src rfl _ _ 24 rfl wr.heap.size 62 i0 _ 4 40 Try.underlying24 hJ0.out hJ1.out hJ2.out hJ3.out rfl (by decide) _ 0 [] rfl hown.out A0 es.length c0 (es.flatMap Nd.enc) rfl (kflat_len Nd.hk es) hnews.out (nd_ones es) (by unfold maxLen; omega) (by omega) hsz0.out ?_; intro v4 w4 hown4 hgrow4 _; simp only [Nat.zero_add, List.nil_append] at hown4; have hb4 := Lib.hid (hb0.out.grown hgrow4 hsz0.out (fun k hk => (by cases hk; exact Nat.le_refl _))); have hO4 := Lib.hid (show OK Nd.enc 4 62 w4 wr.heap.size w4.heap.size v4 es from ⟨hown4, fun j hj => (hown4.lt j hj).2⟩); clear hown4 hgrow4)
        obtain ⟨A5, c5, rfl, _⟩ := OK.form Nd.hk hO4.out
        go_ret2
        rw [hR2.out, hK2.out]
        exact ⟨A5, c5, rfl, hO4.out.lower hzw, hBe.out.trans (hb4.out.mono hzw)⟩
      · have hnews := Lib.hid (((hF.out wr hBe.out).below hb0.out (Nat.le_trans hB2 hzw)).news Nd.hk)
        have hK2 := Lib.hid (hK.out hi)
        have hR2 : Hid (putOk es k fs = true → putR es k fs = po es fs k es.length) := fun h => hR.out hi h
        clear hi hSn hEnd h00 hK0 hR0 hK hR H HF
        go_wp2_with (at_builtin; refine wpList_append_src rfl _ _ 24 rfl wr.heap.size 62 i0 _ 4 40 Try.underlying24 hJ0.out hJ1.out hJ2.out hJ3.out rfl (by decide) _ 0 [] rfl hown.out A2 fs.length c2 (fs.flatMap Nd.enc) rfl (kflat_len Nd.hk fs) hnews.out (nd_ones fs) (by unfold maxLen; omega) (by omega) hsz0.out ?_; intro v4 w4 hown4 hgrow4 _; simp only [Nat.zero_add, List.nil_append] at hown4; have hb4 := Lib.hid (hb0.out.grown hgrow4 hsz0.out (fun k hk => (by cases hk; exact Nat.le_refl _))); have hO4 := Lib.hid (show OK Nd.enc 4 62 w4 wr.heap.size w4.heap.size v4 fs from ⟨hown4, fun j hj => (hown4.lt j hj).2⟩); clear hown4 hgrow4)
        obtain ⟨A5, c5, rfl, _⟩ := OK.form Nd.hk hO4.out
        have B4 := Lib.hid (hBe.out.trans (hb4.out.mono hzw))
        have z4 := B4.out.size
        have aI := (Below.refl w4.heap.size w4).alloc (Nat.le_refl _) (.cells (intCells (zeros es.length)) 3)
        have iI : Hid (IB (w4.alloc (.cells (intCells (zeros es.length)) 3)) w4.heap.size 3 (zeros es.length)) := by unfold Hid; exact heap_alloc_new w4 _
        have nI : Hid (NO w.heap.size w4.heap.size fs (.slice A5 fs.length c5) (w4.alloc (.cells (intCells (zeros es.length)) 3))) := by
          unfold Hid
          refine NO.next ⟨(hO4.out.lower hzw).1, fun e => ?_⟩ aI
          have := (hO4.out.lo _ e).2; omega
        have bI := Lib.hid (B4.out.trans (aI.mono z4))
        have zI : (w4.alloc (.cells (intCells (zeros es.length)) 3)).heap.size = w4.heap.size + 1 := by simp
        clear aI hb4 hO4 hnews hown hb0 hsz0
        go_wp2_with (fail)
        generalize w4.alloc (.cells (intCells (zeros es.length)) 3) = W5 at *
        clear hmi
        generalize w4.heap.size = g at *
        go_loopw [11, 60] (fun v i wi => ∃ j : Nat, j ≤ es.length ∧ i = .int .i64 j ∧ IB wi g 3 (pq es fs k j) ∧ NO w.heap.size g (po es fs k j) v wi ∧ Below w.heap.size w wi) (fun _ i _ => es.length - (intOf i).toNat)
        case atStart =>
          refine ⟨0, Nat.zero_le _, rfl, ?_, ?_, bI.out⟩
          · rw [hpq0]; exact iI.out
          · rw [hpo0]; exact nI.out
        case round =>
          obtain ⟨j, hj', rfl, hi, hno, hbel⟩ := hrel
          rename_i wr
          obtain ⟨AV, cv, rfl⟩ := hno.form
          have hI := Lib.hid hi
          have hN := Lib.hid hno
          have hBq := Lib.hid hbel
          clear hi hno hbel iI nI bI
          by_cases hlt' : j < es.length
          · obtain ⟨b', o', hA, ⟨_, hbB⟩, hcc⟩ := ((hE.out wr hBq.out).ns) (by omega)
            obtain ⟨c1, c2', c3, c4⟩ := hcc j hlt'
            subst hA
            have k0 : (0 : Int) ≤ (j : Int) := by omega
            have k1 : (j : Int) < (es.length : Int) := by omega
            have hnd := ok_get hOk.out hlt'
            have hYe := hPy.out j hlt'
            have hNe := hPn.out j hlt'
            have hX := xn_new wr es[j]
            have hXb := (Below.refl wr.heap.size wr).alloc (Nat.le_refl _) (.cells #[.string es[j].op, .int .i64 es[j].a, .int .i64 es[j].b, .int .i64 es[j].v] 62)
            obtain ⟨X, hXe⟩ : ∃ X, X = wr.alloc (.cells #[.string es[j].op, .int .i64 es[j].a, .int .i64 es[j].b, .int .i64 es[j].v] 62) := ⟨_, rfl⟩
            rw [← hXe] at hX hXb
            have xB := Lib.hid (hBq.out.trans (hXb.mono hBq.out.size))
            have xI := Lib.hid (hI.out.below hXb hI.out.lt)
            have xN := Lib.hid (hN.out.next hXb)
            have xX := Lib.hid hX
            have HX := Lib.hid hXe
            have xz := hXb.size
            obtain ⟨m0, m1, m2, m3⟩ := hX.cells
            have hpl := hPl.out j
            have hpl' := hPl.out (j + 1)
            have hpo := (hPo.out j).2
            have hic := xI.out.cell j (by rw [hpl]; exact hlt')
            have hif := xI.out.frozen j
            have hgw := xI.out.lt
            cases hp : isInp es[j] k
            · obtain ⟨y1, y2⟩ := hNe hp
              have Y1 := Lib.hid y1
              have Y2 := Lib.hid y2
              obtain ⟨W2, hW2⟩ : ∃ W2, W2 = X.setCell ⟨g, j, none⟩ (.int .i64 ((po es fs k j).length : Int)) := ⟨_, rfl⟩
              have hjx : g ≠ wr.heap.size := by have := hI.out.lt; omega
              have x2 : Hid (XN W2 wr.heap.size es[j]) := by unfold Hid; rw [hW2]; exact xX.out.other (q := g) j _ hjx
              have i2 : Hid (IB W2 g 3 (pq es fs k (j + 1))) := by unfold Hid; rw [hW2, Y2.out]; exact xI.out.set j _
              have n2 : Hid (NO w.heap.size g (po es fs k j) (.slice AV (po es fs k j).length cv) W2) := by unfold Hid; rw [hW2]; exact xN.out.set j _
              have e2 : Hid (Below w.heap.size w W2) := by unfold Hid; rw [hW2]; exact xB.out.setCell (p := ⟨g, j, none⟩) (by simp; omega) _
              have z2 : W2.heap.size = X.heap.size := by rw [hW2]; simp [World.setCell]
              have hEx := Lib.hid (exMoved_any g (g + 1) (some ⟨g, 0, none⟩) es.length es.length j es[j] (pq es fs k (j + 1)) W2 hpl' hnd hlt' i2.out.toIS (by rw [z2]; omega))
              have hmv : moved es[j] (pq es fs k (j + 1)) = moved es[j] (pq es fs k j) := by rw [y2]; exact moved_set hnd _ _
              rw [hmv] at hEx
              have HW2 := Lib.hid hW2
              obtain ⟨d0, d1, d2, d3⟩ := x2.out.cells
              rw [hW2, hXe] at d0 d1 d2 d3
              have hp1 : isIn es[j].op = true → es[j].v ≠ k := by
                intro h e; unfold isInp at hp; rw [h, e] at hp; simp at hp
              rw [hXe] at m0 m1 m2 m3 hic hif
              clear hYe hNe hp y1 y2 hX hXb hXe hW2 hcc hmv
              generalize moved es[j] (pq es fs k j) = mv at *
              generalize es[j] = nd at *
              obtain ⟨op, a, b, x⟩ := nd
              dsimp only at *
              have hStep : True := trivial
              cases hin : isIn op
              · have h' : (op.toList == [105, 110]) = false := hin
                clear hp1 hin
                go_wp2_with (fail)
                rw [← HX.out, ← HW2.out]
                refine hEx.out.mono ?_
                rintro e w3 ⟨rfl, hb3⟩
                have b3 := Lib.hid (e2.out.trans (hb3.mono e2.out.size))
                have i3 := Lib.hid (i2.out.below hb3 i2.out.lt)
                have n3 := Lib.hid (n2.out.next hb3)
                have hz3 := hb3.size
                have hz4 : w.heap.size ≤ w3.heap.size := b3.out.size
                clear hb3 c1 c2' c3 c4 hic hif m0 m1 m2 m3 d0 d1 d2 d3
                have hal := fun o => (Below.refl w3.heap.size w3).alloc (Nat.le_refl _) o
                have hO4 := fun o => Lib.hid (n3.out.next (hal o)).1
                have hgl := i3.out.lt
                go_wp2_with (at_builtin; go_loud (refine wpList_append_lies _ rfl _ _ 24 rfl w.heap.size 62 i0 _ 4 40 Try.underlying24 hJ0.out hJ1.out hJ2.out hJ3.out rfl (by decide) _ (po es fs k j).length _ rfl (hO4 _).out ⟨w3.heap.size, 0, none⟩ 1 1 (Nd.enc mv) rfl rfl (four_new mv rfl) (four_one _) (by omega) (by unfold maxLen; omega) (by omega) (by simp; omega) (w3.heap.size + 1) (by simp) ?_); intro gg cap w1 hown1 hgr1 hat1 _)
                go_roundw
                case rel =>
                  have hgq : gg ≠ g := by
                    intro e; subst e
                    rcases hat1 with e | e
                    · exact n3.out.2 e
                    · omega
                  have hblk : ∀ q, q < w3.heap.size → some q ≠ (Value.slice AV (po es fs k j).length cv).ownBlock → w1.heap[q]? = w3.heap[q]? := fun q hq hne => (hgr1.block q (by simp; omega) hne).trans ((hal (.cells #[.string mv.op, .int .i64 mv.a, .int .i64 mv.b, .int .i64 mv.v] 62)).block q hq)
                  have hb1 : Below w.heap.size w3 w1 := ((hal (.cells #[.string mv.op, .int .i64 mv.a, .int .i64 mv.b, .int .i64 mv.v] 62)).mono hz4).grown hgr1 (by simp; omega) (fun q hq => (n3.out.1.lt q hq).1)
                  refine ⟨j + 1, by omega, by go_num, (hblk g hgl (fun e => n3.out.2 e.symm)).trans i3.out, ?_, b3.out.trans hb1⟩
                  rw [Y1.out]
                  refine ⟨?_, fun e => hgq (by simpa [Value.ownBlock] using e)⟩
                  rw [nflat_snoc, List.length_append]; exact hown1
                case measure => simp [intOf]; omega
              · have h' : op.toList = [105, 110] := by simpa [isIn] using hin
                have hv : ¬ x = k := hp1 hin
                clear hp1 hin
                go_wp2_with (fail)
                rw [← HX.out, ← HW2.out]
                refine hEx.out.mono ?_
                rintro e w3 ⟨rfl, hb3⟩
                have b3 := Lib.hid (e2.out.trans (hb3.mono e2.out.size))
                have i3 := Lib.hid (i2.out.below hb3 i2.out.lt)
                have n3 := Lib.hid (n2.out.next hb3)
                have hz3 := hb3.size
                have hz4 : w.heap.size ≤ w3.heap.size := b3.out.size
                clear hb3 c1 c2' c3 c4 hic hif m0 m1 m2 m3 d0 d1 d2 d3
                have hal := fun o => (Below.refl w3.heap.size w3).alloc (Nat.le_refl _) o
                have hO4 := fun o => Lib.hid (n3.out.next (hal o)).1
                have hgl := i3.out.lt
                go_wp2_with (at_builtin; go_loud (refine wpList_append_lies _ rfl _ _ 24 rfl w.heap.size 62 i0 _ 4 40 Try.underlying24 hJ0.out hJ1.out hJ2.out hJ3.out rfl (by decide) _ (po es fs k j).length _ rfl (hO4 _).out ⟨w3.heap.size, 0, none⟩ 1 1 (Nd.enc mv) rfl rfl (four_new mv rfl) (four_one _) (by omega) (by unfold maxLen; omega) (by omega) (by simp; omega) (w3.heap.size + 1) (by simp) ?_); intro gg cap w1 hown1 hgr1 hat1 _)
                go_roundw
                case rel =>
                  have hgq : gg ≠ g := by
                    intro e; subst e
                    rcases hat1 with e | e
                    · exact n3.out.2 e
                    · omega
                  have hblk : ∀ q, q < w3.heap.size → some q ≠ (Value.slice AV (po es fs k j).length cv).ownBlock → w1.heap[q]? = w3.heap[q]? := fun q hq hne => (hgr1.block q (by simp; omega) hne).trans ((hal (.cells #[.string mv.op, .int .i64 mv.a, .int .i64 mv.b, .int .i64 mv.v] 62)).block q hq)
                  have hb1 : Below w.heap.size w3 w1 := ((hal (.cells #[.string mv.op, .int .i64 mv.a, .int .i64 mv.b, .int .i64 mv.v] 62)).mono hz4).grown hgr1 (by simp; omega) (fun q hq => (n3.out.1.lt q hq).1)
                  refine ⟨j + 1, by omega, by go_num, (hblk g hgl (fun e => n3.out.2 e.symm)).trans i3.out, ?_, b3.out.trans hb1⟩
                  rw [Y1.out]
                  refine ⟨?_, fun e => hgq (by simpa [Value.ownBlock] using e)⟩
                  rw [nflat_snoc, List.length_append]; exact hown1
                case measure => simp [intOf]; omega
            · obtain ⟨y1, y2⟩ := hYe hp
              have Y1 := Lib.hid y1
              have Y2 := Lib.hid y2
              obtain ⟨W2, hW2⟩ : ∃ W2, W2 = X.setCell ⟨g, j, none⟩ (.int .i64 ((fs.length : Int) - 1)) := ⟨_, rfl⟩
              have i2 : Hid (IB W2 g 3 (pq es fs k (j + 1))) := by unfold Hid; rw [hW2, Y2.out]; exact xI.out.set j _
              have n2 : Hid (NO w.heap.size g (po es fs k (j + 1)) (.slice AV (po es fs k j).length cv) W2) := by unfold Hid; rw [hW2, Y1.out]; exact xN.out.set j _
              have e2 : Hid (Below w.heap.size w W2) := by unfold Hid; rw [hW2]; exact xB.out.setCell (p := ⟨g, j, none⟩) (by simp; omega) _
              have hin : isIn es[j].op = true ∧ es[j].v = k := by unfold isInp at hp; simpa using hp
              have HW2 := Lib.hid hW2
              rw [hXe] at m0 m1 m2 m3 hic hif
              clear hYe hNe hp y1 y2 hX hXb hXe hW2 hcc
              generalize es[j] = nd at *
              obtain ⟨op, a, b, x⟩ := nd
              dsimp only at *
              obtain ⟨hin, hv⟩ := hin
              have h' : op.toList = [105, 110] := by simpa [isIn] using hin
              subst hv
              clear hin
              go_wp2
              go_roundw
              case rel =>
                rw [← HX.out, ← HW2.out]
                exact ⟨j + 1, by omega, by go_num, i2.out, n2.out, e2.out⟩
              case measure => simp [intOf]; omega
          · obtain rfl : j = es.length := by omega
            have hpo := (hPo.out es.length).2
            by_cases hbig : (po es fs k es.length).length ≤ 24
            · have hk2 : putOk es k fs = true := by rw [hK2.out]; exact decide_eq_true hbig
              have hR3 := Lib.hid (hR2.out hk2)
              have hK3 := Lib.hid hk2
              have hb' : ((po es fs k es.length).length : Int) ≤ 24 := by omega
              clear hk2
              go_wp2
              go_ret2
              rw [hK3.out, hR3.out]
              exact ⟨AV, cv, rfl, hN.out.ok, hBq.out⟩
            · have hk2 : putOk es k fs = false := by rw [hK2.out]; exact decide_eq_false hbig
              have hR3 := Lib.hid (hRn.out hk2)
              have hK3 := Lib.hid hk2
              have hb' : (24 : Int) < ((po es fs k es.length).length : Int) := by omega
              clear hk2
              go_wp2
              go_ret2
              rw [hK3.out, hR3.out]
              exact ⟨none, 0, rfl, OK.nil _ _ _ _, hBq.out⟩
theorem putR_len (es : List Nd) (k : Int) (fs : List Nd) : (putR es k fs).length ≤ 1048576 := by
  unfold putR; split
  · rename_i h
    unfold putOk at h
    simp only [Bool.and_eq_true] at h
    obtain ⟨⟨⟨h1, h2⟩, h3⟩, h4⟩ := h
    have h5 := (good_len h1).2.1
    split
    · rename_i h6
      rw [h6] at h4
      simp at h4; omega
    · omega
  · simp
end Go.Proofs.Ytieljgfocgdngaa
