import Derived.Test.YtieljgfocgdngaaXK
import Derived.Test.YtieljgfocgdngaaLawP
import Derived.Test.YtieljgfocgdngaaMN
import Derived.WalkKit
import Derived.WalkSpells
import Derived.WalkLawsBesides
import Derived.Lib.Hide
/- PutInput: the program. -/
namespace Go.Proofs.Ytieljgfocgdngaa
open Go.RowKit
set_option linter.unusedVariables false
set_option maxRecDepth 100000

/-- The program's state. -/
def pps (es f : List Nd) (k : Int) : Nat → (List Nd × Bool) × List Int
  | 0 => ((f, false), zeros es.length)
  | i + 1 => if isInp (es.getD i zeroNd) k = true then ((pps es f k i).1, (pps es f k i).2.set i ((f.length : Int) - 1)) else ((bp (pps es f k i).1 (moved (es.getD i zeroNd) (pps es f k i).2)).1, (pps es f k i).2.set i (bp (pps es f k i).1 (moved (es.getD i zeroNd) (pps es f k i).2)).2)
theorem pps_len (es f : List Nd) (k : Int) : ∀ i, (pps es f k i).2.length = es.length := by
  intro i
  induction i with
  | zero => simp [pps, zeros]
  | succ i ih =>
    rw [pps]; split
    · simp only [List.length_set]; exact ih
    · simp only [List.length_set]; exact ih
theorem pps_yes {es f : List Nd} {k : Int} {i : Nat} (hi : i < es.length) (h : isInp es[i] k = true) : (pps es f k (i + 1)).1 = (pps es f k i).1 ∧ (pps es f k (i + 1)).2 = (pps es f k i).2.set i ((f.length : Int) - 1) := by
  rw [pps, getD_nd hi, if_pos h]; exact ⟨rfl, rfl⟩
theorem pps_no {es f : List Nd} {k : Int} {i : Nat} (hi : i < es.length) (h : isInp es[i] k = false) : (pps es f k (i + 1)).1 = (bp (pps es f k i).1 (moved es[i] (pps es f k i).2)).1 ∧ (pps es f k (i + 1)).2 = (pps es f k i).2.set i (bp (pps es f k i).1 (moved es[i] (pps es f k i).2)).2 := by
  rw [pps, getD_nd hi, if_neg (by rw [h]; decide)]; exact ⟨rfl, rfl⟩
theorem pps_po {es f : List Nd} {k : Int} (hf : f.length ≤ 24) : ∀ i, i ≤ es.length → ((po es f k i).length ≤ 24 ∧ pps es f k i = ((po es f k i, false), pq es f k i)) ∨ (24 < (po es f k i).length ∧ (pps es f k i).1.2 = true) := by
  intro i
  induction i with
  | zero => intro _; left; exact ⟨hf, rfl⟩
  | succ i ih =>
    intro hi
    have hie : i < es.length := by omega
    rcases ih (by omega) with ⟨h1, h2⟩ | ⟨h1, h2⟩
    · cases hp : isInp es[i] k
      · obtain ⟨a1, a2⟩ := pst_no (f := f) hie hp
        obtain ⟨b1, b2⟩ := pps_no (f := f) hie hp
        rw [h2] at b1 b2
        dsimp only at b1 b2
        by_cases h3 : (po es f k i).length < 24
        · rw [bp_room _ h3] at b1 b2
          left
          refine ⟨by rw [a1]; simp; omega, ?_⟩
          exact Prod.ext (by rw [b1, a1]) (by rw [b2, a2])
        · rw [bp_full _ _ (by omega)] at b1
          right
          exact ⟨by rw [a1]; simp; omega, by rw [b1]⟩
      · obtain ⟨a1, a2⟩ := pst_yes (f := f) hie hp
        obtain ⟨b1, b2⟩ := pps_yes (f := f) hie hp
        rw [h2] at b1 b2
        left
        refine ⟨by rw [a1]; exact h1, ?_⟩
        exact Prod.ext (by rw [b1, a1]) (by rw [b2, a2])
    · right
      have h4 : 24 < (po es f k (i + 1)).length := by have := po_mono es f k i 1; omega
      refine ⟨h4, ?_⟩
      cases hp : isInp es[i] k
      · rw [(pps_no (f := f) hie hp).1]
        generalize pps es f k i = r at *
        obtain ⟨⟨xs, fl⟩, ps⟩ := r
        dsimp only at h2; subst h2
        unfold bp; split <;> simp_all
      · rw [(pps_yes (f := f) hie hp).1]; exact h2

set_option maxHeartbeats 4000000 in
theorem iPutInput_k (L0 B0 : Nat) (A0 : Option Addr) (c0 : Nat) (es : List Nd) (k : Int) (L2 B2 : Nat) (A2 : Option Addr) (c2 : Nat) (fs : List Nd) (w : World) (hl : es.length ≤ 1048576) (hes : RS Nd.enc 4 w L0 B0 A0 es) (hB0 : B0 ≤ w.heap.size) (hc0 : es.length ≤ c0) (hl2 : fs.length ≤ 1048576) (hfs : RS Nd.enc 4 w L2 B2 A2 fs) (hB2 : B2 ≤ w.heap.size) (hc2 : fs.length ≤ c2) :
    Calls Try.prog 31 #[.slice A0 es.length c0, .int .i64 k, .slice A2 fs.length c2] w (ResPutInput (putR es k fs) (putOk es k fs) w) := by
  have H := Lib.hid (IsExpr_any L0 B0 A0 c0 es w hl hes.ns hB0)
  have HF := Lib.hid fun (W : World) (hW : Below w.heap.size w W) => IsExpr_any L2 B2 A2 c2 fs W hl2 (hfs.ns.below hW hB2) (Nat.le_trans hB2 hW.size)
  have hE := Lib.hid fun (W : World) (hW : Below w.heap.size w W) => hes.below hW hB0
  have hF := Lib.hid fun (W : World) (hW : Below w.heap.size w W) => hfs.below hW hB2
  clear hes hfs
  cases hg : good es
  · have hK : Hid (putOk es k fs = false) := by simp [Hid, putOk, hg]
    have hR := Lib.hid (putR_no hK.out)
    rw [hg] at H
    clear hg
    go_enter Try.func31, Try.ntmps31
    go_wp2_with (fail)
    refine H.out.mono ?_
    rintro e w2 ⟨rfl, hb⟩
    have hbb := Lib.hid hb
    clear hb
    go_wp2_with (fail)
    go_ret2
    rw [hR.out, hK.out]
    exact ⟨none, 0, rfl, OK.nil _ _ _ _, hbb.out⟩
  rw [hg] at H
  cases hgf : good fs
  · have hK : Hid (putOk es k fs = false) := by simp [Hid, putOk, hgf]
    have hR := Lib.hid (putR_no hK.out)
    rw [hgf] at HF
    clear hg hgf
    go_enter Try.func31, Try.ntmps31
    go_wp2_with (fail)
    refine H.out.mono ?_
    rintro e w2 ⟨rfl, hb⟩
    have hbb := Lib.hid hb
    clear hb
    go_wp2_with (fail)
    refine (HF.out w2 hbb.out).mono ?_
    rintro e w3 ⟨rfl, hb⟩
    have hbc := Lib.hid (hbb.out.trans (hb.mono hbb.out.size))
    clear hb
    go_wp2_with (fail)
    go_ret2
    rw [hR.out, hK.out]
    exact ⟨none, 0, rfl, OK.nil _ _ _ _, hbc.out⟩
  rw [hgf] at HF
  obtain ⟨hl1, hl24, hok⟩ := good_len hg
  obtain ⟨hf1, hf24, hokf⟩ := good_len hgf
  cases hr : inR k 0 1
  · have hK : Hid (putOk es k fs = false) := by simp [Hid, putOk, hr]
    have hR := Lib.hid (putR_no hK.out)
    clear hg hgf hok hokf
    by_cases h0 : k < 0
    · go_enter Try.func31, Try.ntmps31
      go_wp2_with (fail)
      refine H.out.mono ?_
      rintro e w2 ⟨rfl, hb⟩
      have hbb := Lib.hid hb
      clear hb
      go_wp2_with (fail)
      refine (HF.out w2 hbb.out).mono ?_
      rintro e w3 ⟨rfl, hb⟩
      have hbc := Lib.hid (hbb.out.trans (hb.mono hbb.out.size))
      clear hb
      go_wp2_with (fail)
      go_ret2
      rw [hR.out, hK.out]
      exact ⟨none, 0, rfl, OK.nil _ _ _ _, hbc.out⟩
    · have h1 : 1 < k := by
        rcases Int.lt_or_le 1 k with h | h
        · exact h
        · have := (inR_iff k 0 1).2 ⟨by omega, h⟩; rw [this] at hr; cases hr
      have h0' : 0 ≤ k := by omega
      clear hr h0
      go_enter Try.func31, Try.ntmps31
      go_wp2_with (fail)
      refine H.out.mono ?_
      rintro e w2 ⟨rfl, hb⟩
      have hbb := Lib.hid hb
      clear hb
      go_wp2_with (fail)
      refine (HF.out w2 hbb.out).mono ?_
      rintro e w3 ⟨rfl, hb⟩
      have hbc := Lib.hid (hbb.out.trans (hb.mono hbb.out.size))
      clear hb
      go_wp2_with (fail)
      go_ret2
      rw [hR.out, hK.out]
      exact ⟨none, 0, rfl, OK.nil _ _ _ _, hbc.out⟩
  have hkr := (inR_iff _ _ _).1 hr
  obtain ⟨kn0, kn1⟩ := hkr
  have HI := Lib.hid fun (W : World) (hW : Below w.heap.size w W) => hasInput_any L0 B0 A0 c0 es k W hl (hE.out W hW).ns (Nat.le_trans hB0 hW.size)
  obtain ⟨b0, o0, hA0, ⟨_, hbB0⟩, _⟩ := (hE.out w (Below.refl _ _)) (by omega)
  subst hA0
  cases hi : hasIn es k
  · have hK : Hid (putOk es k fs = true) := by simp [Hid, putOk, hg, hgf, hr, hi]
    have hR : Hid (putR es k fs = es) := by unfold Hid putR; rw [hK.out, hi]; rfl
    have hCl := Lib.hid fun (W : World) (hW : Below w.heap.size w W) => CloneN_any b0 o0 c0 es L0 B0 W hl (hE.out W hW) (Nat.le_trans hB0 hW.size)
    rw [hi] at HI
    clear hg hgf hok hokf hr hi
    go_enter Try.func31, Try.ntmps31
    go_wp2_with (fail)
    refine H.out.mono ?_
    rintro e w2 ⟨rfl, hb⟩
    have hbb := Lib.hid hb
    clear hb
    go_wp2_with (fail)
    refine (HF.out w2 hbb.out).mono ?_
    rintro e w3 ⟨rfl, hb⟩
    have hbc := Lib.hid (hbb.out.trans (hb.mono hbb.out.size))
    clear hb
    go_wp2_with (fail)
    refine (HI.out w3 hbc.out).mono ?_
    rintro e w4 ⟨rfl, hb⟩
    have hbd := Lib.hid (hbc.out.trans (hb.mono hbc.out.size))
    clear hb
    go_wp2_with (fail)
    refine (hCl.out w4 hbd.out).mono ?_
    rintro e w5 ⟨A5, c5, rfl, ho, hb⟩
    have hO := Lib.hid ho
    have hbe := Lib.hid (hbd.out.trans (hb.mono hbd.out.size))
    clear hb ho
    go_wp2_with (fail)
    go_ret2
    rw [hR.out, hK.out]
    exact ⟨A5, c5, rfl, hO.out.lower hbd.out.size, hbe.out⟩
  have hK : Hid (putOk es k fs = decide ((po es fs k es.length).length ≤ 24)) := by simp [Hid, putOk, hg, hgf, hr, hi]
  have hR : Hid (putOk es k fs = true → putR es k fs = po es fs k es.length) := by intro h; unfold putR; rw [if_pos h, if_pos hi]
  have hRn : Hid (putOk es k fs = false → putR es k fs = []) := putR_no
  rw [hi] at HI
  obtain ⟨bf, of, hA2, ⟨_, hbBf⟩, _⟩ := (hF.out w (Below.refl _ _)) (by omega)
  subst hA2
  have hCl := Lib.hid fun (W : World) (hW : Below w.heap.size w W) => CloneN_any bf of c2 fs L2 B2 W hl2 (hF.out W hW) (Nat.le_trans hB2 hW.size)
  have hOk := Lib.hid hok
  have hmi := run_make_ints es.length hl
  have hPP := Lib.hid (pps_po (es := es) (f := fs) (k := k) hf24 es.length (Nat.le_refl _))
  have hPl := Lib.hid (pps_len es fs k)
  have hPy := Lib.hid fun j (hj : j < es.length) => pps_yes (es := es) (f := fs) (k := k) (i := j) hj
  have hPn := Lib.hid fun j (hj : j < es.length) => pps_no (es := es) (f := fs) (k := k) (i := j) hj
  have hp0 : pps es fs k 0 = ((fs, false), zeros es.length) := rfl
  have hII := Lib.hid fun (n : Nd) W => isInput_any n.op n.a n.b n.v k W
  clear hg hgf hok hokf hr hi
  generalize pps es fs k = PP at *
  go_enter Try.func31, Try.ntmps31
  go_wp2_with (fail)
  refine H.out.mono ?_
  rintro e w2 ⟨rfl, hb⟩
  have hbb := Lib.hid hb
  clear hb
  go_wp2_with (fail)
  refine (HF.out w2 hbb.out).mono ?_
  rintro e w3 ⟨rfl, hb⟩
  have hbc := Lib.hid (hbb.out.trans (hb.mono hbb.out.size))
  clear hb
  go_wp2_with (fail)
  refine (HI.out w3 hbc.out).mono ?_
  rintro e w4 ⟨rfl, hb⟩
  have hbd := Lib.hid (hbc.out.trans (hb.mono hbc.out.size))
  clear hb
  obtain ⟨WQ, hWQ⟩ : ∃ WQ, WQ = (w4.alloc (.cells (intCells (zeros es.length)) 3)).alloc (.cells #[.slice none 0 0, .bool false, .slice (some ⟨w4.heap.size, 0, none⟩) es.length es.length] 84) := ⟨_, rfl⟩
  have aI := (Below.refl w4.heap.size w4).alloc (Nat.le_refl _) (.cells (intCells (zeros es.length)) 3)
  have iI : IB (w4.alloc (.cells (intCells (zeros es.length)) 3)) w4.heap.size 3 (zeros es.length) := heap_alloc_new w4 _
  have zI : (w4.alloc (.cells (intCells (zeros es.length)) 3)).heap.size = w4.heap.size + 1 := by simp
  have aQ := (Below.refl (w4.alloc (.cells (intCells (zeros es.length)) 3)).heap.size (w4.alloc (.cells (intCells (zeros es.length)) 3))).alloc (Nat.le_refl _) (.cells #[.slice none 0 0, .bool false, .slice (some ⟨w4.heap.size, 0, none⟩) es.length es.length] 84)
  rw [← hWQ] at aQ
  have iQ := Lib.hid (iI.below aQ iI.lt)
  have bQ := Lib.hid (hbd.out.trans ((aI.trans (aQ.mono aI.size)).mono hbd.out.size))
  have mQ : Hid (WQ.heap[w4.heap.size + 1]? = some (.cells #[.slice none 0 0, .bool false, .slice (some ⟨w4.heap.size, 0, none⟩) es.length es.length] 84 (0, 0))) := by
    unfold Hid; rw [← zI, hWQ]; exact heap_alloc_new _ _
  have zQ : WQ.heap.size = w4.heap.size + 2 := by rw [hWQ]; simp
  have HWQ := Lib.hid hWQ
  clear hWQ aI iI zI aQ
  go_wp2_with (fail)
  rw [← HWQ.out]
  refine (hCl.out WQ bQ.out).mono ?_
  rintro e w5 ⟨A5, c5, rfl, ho, hb⟩
  have m5 : w5.heap[w4.heap.size + 1]? = some (.cells #[.slice none 0 0, .bool false, .slice (some ⟨w4.heap.size, 0, none⟩) es.length es.length] 84 (0, 0)) := (hb.block _ (by omega)).trans mQ.out
  have k5 : w5.cell? ⟨w4.heap.size + 1, 0, none⟩ = some (.slice none 0 0) := by simp [World.cell?, m5]
  have f5 : w5.frozen? ⟨w4.heap.size + 1, 0, none⟩ = false := by simp [World.frozen?, m5]
  have B5 := Lib.hid (bQ.out.trans (hb.mono bQ.out.size))
  have z5 := hb.size
  obtain ⟨W6, hW6⟩ : ∃ W6, W6 = w5.setCell ⟨w4.heap.size + 1, 0, none⟩ (.slice A5 fs.length c5) := ⟨_, rfl⟩
  have s6 : W6.heap.size = w5.heap.size := by rw [hW6]; simp [World.setCell]
  have zd := hbd.out.size
  have i6 : Hid (IB W6 w4.heap.size 3 (zeros es.length)) := by
    unfold Hid; rw [hW6]
    exact (Below.heap_setCell w5 ⟨w4.heap.size + 1, 0, none⟩ _ w4.heap.size (by simp)).trans ((hb.block _ (by omega)).trans iQ.out)
  have g6 : Hid (GS 84 [.slice (some ⟨w4.heap.size, 0, none⟩) es.length es.length] (w4.heap.size + 1) (w4.heap.size + 2) fs false (.slice A5 fs.length c5) W6) := by
    unfold Hid
    have hlo := fun j hj => (ho.lo j hj).1
    refine ⟨?_, ?_, fun e => by have := hlo _ e; omega⟩
    · rw [hW6]; simp [World.setCell, Array.getElem?_modify, m5]
    · have h8 := (ho.lower (lo' := w4.heap.size + 2) (by omega)).1
      refine ⟨h8.1, ?_⟩
      rcases h8.2 with hn | ⟨gg, cap, cur, e, hg, hh, hrest⟩
      · exact .inl hn
      · refine .inr ⟨gg, cap, cur, e, hg, ?_, hrest⟩
        rw [hW6]; exact (Below.heap_setCell w5 ⟨w4.heap.size + 1, 0, none⟩ _ gg (by simp; omega)).trans hh
  have B6 : Hid (Below w.heap.size w W6) := by unfold Hid; rw [hW6]; exact B5.out.setCell (p := ⟨w4.heap.size + 1, 0, none⟩) (by simp; omega) _
  have HW6 := Lib.hid hW6
  clear hb ho m5 hW6 hmi
  go_wp2
  rw [← HW6.out]
  clear HW6 k5 f5
  generalize w4.heap.size = g at *
  go_loopw [43] (fun i wi => ∃ (j : Nat) (v : Value), j ≤ es.length ∧ i = .int .i64 j ∧ IB wi g 3 (PP j).2 ∧ GS 84 [.slice (some ⟨g, 0, none⟩) es.length es.length] (g + 1) (g + 2) (PP j).1.1 (PP j).1.2 v wi ∧ g + 2 ≤ wi.heap.size ∧ Below w.heap.size w wi) (fun i _ => es.length - (intOf i).toNat)
  case atStart =>
    refine ⟨0, .slice A5 fs.length c5, Nat.zero_le _, rfl, ?_, ?_, by omega, B6.out⟩
    · rw [hp0]; exact i6.out
    · rw [hp0]; exact g6.out
  case round =>
    obtain ⟨j, v, hj, rfl, hi, hgs, hsz, hbel⟩ := hrel
    have hI := Lib.hid hi
    have hG := Lib.hid hgs
    have hBe := Lib.hid hbel
    clear hi hgs hbel i6 g6 iQ mQ
    by_cases hlt : j < es.length
    · obtain ⟨b', o', hA, ⟨_, hbB⟩, hcc⟩ := ((hE.out wr hBe.out).ns) (by omega)
      obtain ⟨c1, c2, c3, c4⟩ := hcc j hlt
      injection hA with hA
      injection hA with hA1 hA2
      subst hA1; subst hA2
      have k0 : (0 : Int) ≤ (j : Int) := by omega
      have k1 : (j : Int) < (es.length : Int) := by omega
      have hnd := ok_get hOk.out hlt
      have hY := hPy.out j hlt
      have hN := hPn.out j hlt
      have hpl := hPl.out j
      have hX := xn_new wr es[j]
      have hXb := (Below.refl wr.heap.size wr).alloc (Nat.le_refl _) (.cells #[.string es[j].op, .int .i64 es[j].a, .int .i64 es[j].b, .int .i64 es[j].v] 62)
      obtain ⟨X, hXe⟩ : ∃ X, X = wr.alloc (.cells #[.string es[j].op, .int .i64 es[j].a, .int .i64 es[j].b, .int .i64 es[j].v] 62) := ⟨_, rfl⟩
      rw [← hXe] at hX hXb
      have HX := Lib.hid hXe
      have xX := Lib.hid hX
      have xG := Lib.hid (hG.out.next hXb)
      have xI := Lib.hid (hI.out.below hXb hI.out.lt)
      have xB := Lib.hid (hBe.out.trans (hXb.mono hBe.out.size))
      have hII2 := hII.out es[j]
      have xz : wr.heap.size ≤ X.heap.size := hXb.size
      obtain ⟨m0, m1, m2, m3⟩ := hX.cells
      rw [hXe] at m0 m1 m2 m3
      cases hp : isInp es[j] k
      · have hp' : (isIn es[j].op && es[j].v == k) = false := hp
        rw [hp'] at hII2
        have hN2 := Lib.hid (hN hp)
        clear hY hN hp hp' hcc hX hXb hXe
        generalize es[j] = nd at *
        obtain ⟨op, a, b, x⟩ := nd
        dsimp only at *
        go_wp2_with (fail)
        rw [← HX.out]
        refine (hII2 X).mono ?_
        rintro e w7 ⟨rfl, hb7⟩
        have xX7 := Lib.hid (xX.out.next hb7)
        have xG7 := Lib.hid (xG.out.next hb7)
        have xI7 := Lib.hid (xI.out.below hb7 xI.out.lt)
        have xB7 := Lib.hid (xB.out.trans (hb7.mono xB.out.size))
        have x7z := hb7.size
        clear hb7 m0 m1 m2 m3 c1 c2 c3 c4
        obtain ⟨m0, m1, m2, m3⟩ := xX7.out.cells
        have hM := Lib.hid (move_gen (g + 1) g (g + 2) w.heap.size es.length j es.length (PP j).1 v (PP j).2 ⟨op, a, b, x⟩ w7 hnd hlt hpl (by omega) (by omega) (by omega) (by omega) (by omega) (by omega) xG7.out xI7.out)
        go_wp2_with (fail)
        refine hM.out.mono ?_
        rintro e w8 ⟨rfl, v8, g8, i8, b8⟩
        have G8 := Lib.hid g8
        have I8 := Lib.hid i8
        have B8 := Lib.hid (xB7.out.trans b8)
        have z8 := b8.size
        clear g8 i8 b8 m0 m1 m2 m3
        go_wp2
        go_roundw
        case rel =>
          refine ⟨j + 1, v8, by omega, by go_num, ?_, ?_, by omega, B8.out⟩
          · rw [hN2.out.2]; exact I8.out
          · rw [hN2.out.1]; exact G8.out
        case measure => simp [intOf]; omega
      · have hp' : (isIn es[j].op && es[j].v == k) = true := hp
        rw [hp'] at hII2
        have hY2 := Lib.hid (hY hp)
        clear hY hN hp hp' hcc hX hXb hXe
        generalize es[j] = nd at *
        obtain ⟨op, a, b, x⟩ := nd
        dsimp only at *
        have hq2 := Lib.hid fun (W : World) (hW : Below X.heap.size X W) => (xG.out.next hW).c2
        go_wp2_with (fail)
        rw [← HX.out]
        refine (hII2 X).mono ?_
        rintro e w7 ⟨rfl, hb7⟩
        have xG7 := Lib.hid (xG.out.next hb7)
        have xI7 := Lib.hid (xI.out.below hb7 xI.out.lt)
        have xB7 := Lib.hid (xB.out.trans (hb7.mono xB.out.size))
        have x7z := hb7.size
        clear hb7 m0 m1 m2 m3 c1 c2 c3 c4
        have q2 := xG7.out.c2
        have s1 := xI7.out.cell j (by rw [hpl]; exact hlt)
        have s2 := xI7.out.frozen j
        have hvg : Hid (v.ownBlock ≠ some g) := fun e => by have := (xG7.out.own _ e).1; omega
        go_wp2
        go_roundw
        case rel =>
          refine ⟨j + 1, v, by omega, by go_num, ?_, ?_, ?_, ?_⟩
          · rw [hY2.out.2]; exact xI7.out.set j _
          · rw [hY2.out.1]; exact xG7.out.other (p := ⟨g, j, none⟩) (by simp) hvg.out _
          · simp [World.setCell]; omega
          · exact xB7.out.setCell (p := ⟨g, j, none⟩) (by simp; omega) _
        case measure => simp [intOf]; omega
    · obtain rfl : j = es.length := by omega
      rcases hPP.out with ⟨h1, h2⟩ | ⟨h1, h2⟩
      · have hk2 : putOk es k fs = true := by rw [hK.out]; exact decide_eq_true h1
        have hR2 := Lib.hid (hR.out hk2)
        have hK2 := Lib.hid hk2
        rw [h2] at hG
        clear h1 h2 hk2
        dsimp only at hG
        have hBu := Lib.hid (built_any _ _ _ _ _ _ _ hG.out)
        go_wp2_with (fail)
        refine hBu.out.mono ?_
        rintro e w9 ⟨rfl, rfl⟩
        obtain ⟨A9, c9, rfl⟩ := hG.out.form
        go_wp2_with (fail)
        go_ret2
        rw [hK2.out, hR2.out]
        exact ⟨A9, c9, rfl, hG.out.ok.lower (by omega), hBe.out⟩
      · have hk2 : putOk es k fs = false := by rw [hK.out]; exact decide_eq_false (by omega)
        have hR2 := Lib.hid (hRn.out hk2)
        have hK2 := Lib.hid hk2
        rw [h2] at hG
        clear h1 h2 hk2
        have hBu := Lib.hid (built_failed _ _ _ _ _ _ _ hG.out)
        go_wp2_with (fail)
        refine hBu.out.mono ?_
        rintro e w9 ⟨rfl, rfl⟩
        go_wp2_with (fail)
        go_ret2
        rw [hK2.out, hR2.out]
        exact ⟨none, 0, rfl, OK.nil _ _ _ _, hBe.out⟩
end Go.Proofs.Ytieljgfocgdngaa
