import Derived.Test.YtcfmfbgnfpgpgaaQA
import Derived.Test.YtcfmfbgnfpgpgaaCG
import Derived.Test.YtcfmfbgnfpgpgaaK4
import Derived.WalkKit
import Derived.WalkSpells
import Derived.WalkLawsBesides
import Derived.Deep.RegionLaw
import Derived.Lib.Hide
/- The model's value where one node has another one. -/
namespace Go.Proofs.Ytcfmfbgnfpgpgaa
open Go.RowKit
set_option linter.unusedVariables false
set_option maxRecDepth 100000

theorem OW.len_ {w : World} {lo hi n c : Nat} {A : Option Addr} {xs : List Int} (h : OW w lo hi (.slice A n c) xs) : n = xs.length := by
  obtain ⟨A2, c2, hv, _⟩ := h.form
  injection hv with a b d
theorem OW.some_ {w : World} {lo hi n c : Nat} {A : Option Addr} {xs : List Int} (h : OW w lo hi (.slice A n c) xs) (h0 : 0 < n) : ∃ g, A = some ⟨g, 0, none⟩ ∧ lo ≤ g ∧ g < hi := by
  rcases h.1.2 with ⟨hv, h1⟩ | ⟨g, cap, cur, hv, hg, _⟩
  · injection hv with a b d; omega
  · have h2 := h.2 g (by rw [hv]; rfl)
    injection hv with a b d; exact ⟨g, a, hg, h2⟩
theorem OW.at_ {w : World} {lo hi n c g : Nat} {xs : List Int} (h : OW w lo hi (.slice (some ⟨g, 0, none⟩) n c) xs) (k : Nat) (hk : k < xs.length) : w.cell? ⟨g, k, none⟩ = some (.int .i64 (xs.getD k 0)) ∧ w.frozen? ⟨g, k, none⟩ = false := by
  have hl := h.len_
  subst hl
  have hcell := h.1.cellAt k (by omega)
  have hfr := h.1.frozenAt k
  rw [List.getElem?_map, List.getElem?_eq_getElem hk] at hcell
  rw [getD_get hk]
  exact ⟨by simpa using hcell, hfr⟩
theorem OW.put_ {w : World} {lo hi n c g : Nat} {xs : List Int} (h : OW w lo hi (.slice (some ⟨g, 0, none⟩) n c) xs) (k : Nat) (x : Int) : OW (w.setCell ⟨g, k, none⟩ (.int .i64 x)) lo hi (.slice (some ⟨g, 0, none⟩) n c) (xs.set k x) := by
  have hl := h.len_
  subst hl
  refine ⟨?_, h.2⟩
  have h1 := (h.1.stored k (.int .i64 x)).1
  rw [← List.map_set] at h1
  rw [List.length_set]; exact h1
theorem l1Own_n (L B : Nat) (A : Option Addr) (c n : Nat) (xs : List Int) (w : World) (hn : xs.length = n) (hl : n ≤ 1048576) (hx : IS w L B A xs) (hB : B ≤ w.heap.size) :
    Calls Try.prog 119 #[.slice A n c] w fun e w' => ∃ V v, e = .returned (.slice V n v) ∧ OW w' w.heap.size w'.heap.size (.slice V n v) xs ∧ Below w.heap.size w w' := by
  subst hn
  exact (l1Own_any L B A c xs w hl hx hB).mono fun e w' h => h

set_option maxHeartbeats 16000000 in
theorem eqChanged_any (L B L' B' : Nat) (A V : Option Addr) (c v n i : Nat) (es : List Nd) (x0 x1 wd : Int) (w : World) (hn : es.length = n) (hl : n ≤ 24) (hi : i < n) (hes : NS w L B A es) (hB : B ≤ w.heap.size) (hvs : IS w L' B' V (vals es x0 x1)) (hB' : B' ≤ w.heap.size)
    (hok : okFrom es 0 = true) (h0 : 0 ≤ x0 ∧ x0 ≤ 63) (h1 : 0 ≤ x1 ∧ x1 ≤ 63) (hwd : 0 ≤ wd ∧ wd ≤ 63) :
    Calls Try.prog 100 #[.slice A n c, .slice V n v, .int .i64 i, .int .i64 wd] w fun e w' => e = .returned (.int .i64 (askR es i x0 x1 wd)) ∧ Below w.heap.size w w' := by
  have hvl : (vals es x0 x1).length = n := by rw [← hn]; exact valsAt_len _ _ _ _
  have HO := Lib.hid (l1Own_n L' B' V v n (vals es x0 x1) w hvl (by omega) hvs hB')
  have hE := Lib.hid fun (W : World) (hW : Below w.heap.size w W) => hes.below hW hB
  have hOk := Lib.hid hok
  have hX := Lib.hid (And.intro h0 h1)
  have hN := Lib.hid hn
  have hVL := Lib.hid hvl
  have hWW : Hid (AllW ((vals es x0 x1).set i wd)) := AllW.set (valsAt_W hok h0 h1 (Nat.le_refl _)) hwd
  have hFL := Lib.hid fun m => fillG_len es x0 x1 (i + 1) ((vals es x0 x1).set i wd) m
  have hFW := Lib.hid fun m (h : i + 1 + m ≤ es.length) => fillG_W (f := i + 1) (n := m) hWW.out hok h0 h1 h
  have hFS := Lib.hid fun m (h : i + 1 + m < es.length) => fillG_succ (x0 := x0) (x1 := x1) (f := i + 1) (xs := (vals es x0 x1).set i wd) (n := m) h
  have hLf := Lib.hid fun m (h : i + 1 + m < es.length) hl => fill_leaf (es := es) (x0 := x0) (x1 := x1) (i := i) (m := m) (wd := wd) h hl
  have hR : Hid (askR es i x0 x1 wd = (fillG es x0 x1 (i + 1) ((vals es x0 x1).set i wd) (n - (i + 1))).getD (n - 1) 0) := by unfold Hid askR; rw [hn]
  have hB0 := Lib.hid (Below.refl w.heap.size w)
  rw [hR.out]
  clear hes hB hvs hB' hok h0 h1 hn hvl hR
  go_enter Try.func100, Try.ntmps100
  go_wp2_with (fail)
  refine HO.out.mono ?_
  rintro e w1 ⟨A1, c1, rfl, ho, hb⟩
  have b1 := Lib.hid hb
  have o1 := Lib.hid ho
  obtain ⟨g, rfl, hg0, hg1⟩ := ho.some_ (by omega)
  obtain ⟨d0, f0⟩ := ho.at_ i (by rw [hVL.out]; exact hi)
  have o2 := Lib.hid (ho.put_ i wd)
  have b2 := Lib.hid (hb.setCell (p := ⟨g, i, none⟩) hg0 (.int .i64 wd))
  have hG := Lib.hid hg0
  clear ho hb hg0 hg1
  have q1 : (0 : Int) ≤ (i : Int) := by omega
  have q2 : (i : Int) < (n : Int) := by omega
  generalize (vals es x0 x1).getD i 0 = old at *
  have hSL : Hid (((vals es x0 x1).set i wd).length = n) := by unfold Hid; rw [List.length_set, hVL.out]
  generalize hS : (vals es x0 x1).set i wd = ss at *
  have HSS := Lib.hid hS
  clear hS
  go_wp2
  have o3 : Hid (OW (w1.setCell ⟨g, i, none⟩ (.int .i64 wd)) w.heap.size (w1.setCell ⟨g, i, none⟩ (.int .i64 wd)).heap.size (.slice (some ⟨g, 0, none⟩) n c1) ss) := o2.out.more (by simp [World.setCell])
  generalize w1.setCell ⟨g, i, none⟩ (.int .i64 wd) = W1 at *
  go_loopw [10] (fun k wr => ∃ m kk : Nat, kk = i + 1 + m ∧ kk ≤ n ∧ k = .int .i64 kk ∧ OW wr w.heap.size wr.heap.size (.slice (some ⟨g, 0, none⟩) n c1) (fillG es x0 x1 (i + 1) ss m) ∧ Below w.heap.size w wr) (fun k _ => n - (intOf k).toNat)
  case atStart => exact ⟨0, i + 1, rfl, by omega, by go_num, o3.out, b2.out⟩
  case round =>
    obtain ⟨m, k, hkm, hk, rfl, how, hbel⟩ := hrel
    have hOW := Lib.hid how
    have hBL := Lib.hid hbel
    have hKM := Lib.hid hkm
    have hGL := how.2 g rfl
    have hsz := hbel.size
    by_cases hlt : k < n
    · have hke : k < es.length := by rw [hN.out]; exact hlt
      obtain ⟨b, o, rfl, ⟨_, hbB⟩, hc⟩ := (hE.out wr hbel) (by omega)
      obtain ⟨c1', c2', c3', c4'⟩ := hc k hke
      clear hc how hbel
      have hNd := ok_get hOk.out hke
      have hW := Lib.hid (hFW.out m (by omega))
      have hSx : Hid (fillG es x0 x1 (i + 1) ss (m + 1) = (fillG es x0 x1 (i + 1) ss m).set k (nodeVal es[k] (fillG es x0 x1 (i + 1) ss m) x0 x1)) := by subst hkm; exact hFS.out m (by omega)
      have hLx : Hid ((isConst es[k].op = true ∨ isIn es[k].op = true) → fillG es x0 x1 (i + 1) ss (m + 1) = fillG es x0 x1 (i + 1) ss m) := by subst hkm; exact hLf.out m (by omega)
      have hln : Hid ((fillG es x0 x1 (i + 1) ss m).length = n) := by unfold Hid; rw [hFL.out, hSL.out]
      generalize hgv : fillG es x0 x1 (i + 1) ss (m + 1) = vs' at *
      have HV := Lib.hid hgv
      clear hgv
      generalize fillG es x0 x1 (i + 1) ss m = vs at *
      generalize es[k] = nd at *
      clear hkm
      have hst : Hid (∀ (wa : World) (x : Int), Below wr.heap.size wr wa → nodeVal nd vs x0 x1 = x → OW (wa.setCell ⟨g, k, none⟩ (.int .i64 x)) w.heap.size (wa.setCell ⟨g, k, none⟩ (.int .i64 x)).heap.size (.slice (some ⟨g, 0, none⟩) n c1) vs' ∧ Below w.heap.size w (wa.setCell ⟨g, k, none⟩ (.int .i64 x))) := by
        intro wa x hwa hx
        have h1 := (hOW.out.below hwa (Nat.le_refl _)).put_ k x
        rw [← hx, ← hSx.out] at h1
        refine ⟨?_, (hBL.out.trans (hwa.mono hBL.out.size)).setCell (p := ⟨g, k, none⟩) hG.out _⟩
        rw [hx] at h1
        exact h1.more (by simp [World.setCell]; exact hwa.size)
      have hkp : Hid (∀ (wa : World), Below wr.heap.size wr wa → (isConst nd.op = true ∨ isIn nd.op = true) → OW wa w.heap.size wa.heap.size (.slice (some ⟨g, 0, none⟩) n c1) vs' ∧ Below w.heap.size w wa) := by
        intro wa hwa hx
        rw [hLx.out hx]
        exact ⟨(hOW.out.below hwa (Nat.le_refl _)).more hwa.size, hBL.out.trans (hwa.mono hBL.out.size)⟩
      have hcl := Lib.hid fun q (h : q < n) => hOW.out.at_ q (by rw [hln.out]; exact h)
      obtain ⟨s, a, bb, nv⟩ := nd
      have q3 : (0 : Int) ≤ (k : Int) := by omega
      have q4 : (k : Int) < (n : Int) := by omega
      have hB1 := Lib.hid ((Below.refl wr.heap.size wr).alloc (Nat.le_refl _) (.cells #[.string s, .int .i64 a, .int .i64 bb, .int .i64 nv] 75))
      have hB2 := Lib.hid (hB1.out.alloc (by simp) (.cells opArr 9))
      have hleaf : Hid (isOne s = false → isTwo s = false → (isConst s = true ∨ isIn s = true) → True) := fun _ _ _ => trivial
      rcases node_kinds hNd with ⟨e, _⟩ | ⟨e, e', hv⟩ | ⟨e, e', k1, k2, ha0, ha1, hbz⟩ | ⟨e, e', k1, k2, ha0, ha1, hb0, hb1x⟩
      · have e2 : s.toList = [99,111,110,115,116] := e
        have h1 : isOne s = false := by simp [isOne, e2]
        have h2 : isTwo s = false := by simp [isTwo, twoOps, e2]
        have R := Lib.hid (hkp.out _ hB2.out (.inl (by simp [isConst, e2])))
        have H1 := Lib.hid fun W => exOne_any s W
        have H2 := Lib.hid fun W => exTwo_any s W
        rw [h1] at H1
        rw [h2] at H2
        clear hNd e h1 h2 hst hkp
        go_wp2_with (first | (go_at_call 117; refine (H1.out _).mono ?_; rintro e w' ⟨rfl, rfl⟩) | (go_at_call 120; refine (H2.out _).mono ?_; rintro e w' ⟨rfl, rfl⟩))
        go_roundw
        case rel => exact ⟨m + 1, k + 1, by have := hKM.out; omega, by omega, by go_num, by rw [HV.out]; exact R.out.1, R.out.2⟩
        case measure => simp [intOf]; omega
      · have e2 : s.toList = [105,110] := e
        have h1 : isOne s = false := by simp [isOne, e2]
        have h2 : isTwo s = false := by simp [isTwo, twoOps, e2]
        have R := Lib.hid (hkp.out _ hB2.out (.inr (by simp [isIn, e2])))
        have H1 := Lib.hid fun W => exOne_any s W
        have H2 := Lib.hid fun W => exTwo_any s W
        rw [h1] at H1
        rw [h2] at H2
        clear hNd e e' hv h1 h2 hst hkp
        go_wp2_with (first | (go_at_call 117; refine (H1.out _).mono ?_; rintro e w' ⟨rfl, rfl⟩) | (go_at_call 120; refine (H2.out _).mono ?_; rintro e w' ⟨rfl, rfl⟩))
        go_roundw
        case rel => exact ⟨m + 1, k + 1, by have := hKM.out; omega, by omega, by go_num, by rw [HV.out]; exact R.out.1, R.out.2⟩
        case measure => simp [intOf]; omega
      · have hbz' : bb = 0 := hbz
        subst hbz'
        have e1 : (s.toList == [99,111,110,115,116]) = false := e
        have e2 : (s.toList == [105,110]) = false := e'
        have hop : Hid (isOp s = true) := by simp [Hid, isOp, show isOne s = true from k1]
        have ha0' : 0 ≤ a := ha0
        have ha1' : a < k := ha1
        obtain ⟨q, rfl⟩ := Int.eq_ofNat_of_zero_le ha0'
        obtain ⟨hya, _⟩ := hcl.out q (by omega)
        obtain ⟨hy0, hy1⟩ := hW.out q
        skip
        skip
        skip
        skip
        skip
        have hx := Lib.hid (show nodeVal ⟨s, (q : Int), 0, nv⟩ vs x0 x1 = ap s (vs.getD q 0) 0 by
          unfold nodeVal; rw [if_neg (by simpa [isConst] using e1), if_neg (by simpa [isIn] using e2), if_pos k1]; rfl)
        generalize vs.getD q 0 = ya at *
        skip
        obtain ⟨wz, hwz⟩ : ∃ wz, wz = wr.alloc (.cells #[.string s, .int .i64 (q : Int), .int .i64 0, .int .i64 nv] 75) := ⟨_, rfl⟩
        obtain ⟨m1, m2, m3, m4⟩ := node4 wr (.string s) (.int .i64 (q : Int)) (.int .i64 0) (.int .i64 nv) 75
        skip
        skip
        skip
        skip
        skip
        have hBz : Below wr.heap.size wr wz := by rw [hwz]; exact hB1.out
        skip
        rw [← hwz] at m1 m2 m3 m4
        have hca := (hBz.cell (p := ⟨g, q, none⟩) hGL).trans hya
        skip
        obtain ⟨hck, hfk⟩ := ((hOW.out.below hBz (Nat.le_refl _))).at_ k (by rw [hln.out]; exact hlt)
        generalize vs.getD k 0 = oldk at *
        have R := Lib.hid (hst.out wz.drew _ hBz.drew hx.out)
        have H1 := Lib.hid fun W => exOne_any s W
        skip
        rw [show isOne s = true from k1] at H1
        skip
        have i1 : (q : Int) < (n : Int) := by omega
        have i0 : (0 : Int) ≤ (q : Int) := by omega
        skip
        skip
        have HZ := Lib.hid hwz
        clear hNd e e' k1 k2 ha0 ha1 hst hkp hcl hwz hBz hya hbz
        go_wp2_with (fail)
        refine (H1.out _).mono ?_
        rintro e w' ⟨rfl, rfl⟩
        skip
        skip
        skip
        go_wp2_with (fail)
        rw [← HZ.out]
        clear HZ
        go_region_law (go_simp; go_at_call 118; refine (exApply_any s ya 0 _ hy0 hy1 (by omega) (by omega) hop.out).mono ?_; rintro e w' ⟨rfl, rfl⟩)
        all_goals
          go_wp2
          go_roundw
          case rel => exact ⟨m + 1, k + 1, by have := hKM.out; omega, by omega, by go_num, by rw [HV.out]; exact R.out.1, R.out.2⟩
          case measure => simp [intOf]; omega
      · have e4 : isOne s = false := k1
        have e5 : isTwo s = true := k2
        have e1 : (s.toList == [99,111,110,115,116]) = false := e
        have e2 : (s.toList == [105,110]) = false := e'
        have hop : Hid (isOp s = true) := by simp [Hid, isOp, e4, e5]
        have ha0' : 0 ≤ a := ha0
        have ha1' : a < k := ha1
        obtain ⟨q, rfl⟩ := Int.eq_ofNat_of_zero_le ha0'
        obtain ⟨hya, _⟩ := hcl.out q (by omega)
        obtain ⟨hy0, hy1⟩ := hW.out q
        have hb0' : 0 ≤ bb := hb0
        have hb1' : bb < k := hb1x
        obtain ⟨r, rfl⟩ := Int.eq_ofNat_of_zero_le hb0'
        obtain ⟨hyb, _⟩ := hcl.out r (by omega)
        obtain ⟨hy2, hy3⟩ := hW.out r
        have hx := Lib.hid (show nodeVal ⟨s, (q : Int), (r : Int), nv⟩ vs x0 x1 = ap s (vs.getD q 0) (vs.getD r 0) by
          unfold nodeVal; rw [if_neg (by simpa [isConst] using e1), if_neg (by simpa [isIn] using e2), if_neg (by rw [e4]; decide)]; rfl)
        generalize vs.getD q 0 = ya at *
        generalize vs.getD r 0 = yb at *
        obtain ⟨wz, hwz⟩ : ∃ wz, wz = (wr.alloc (.cells #[.string s, .int .i64 (q : Int), .int .i64 (r : Int), .int .i64 nv] 75)).alloc (.cells opArr 9) := ⟨_, rfl⟩
        obtain ⟨m1, m2, m3, m4⟩ := node4 wr (.string s) (.int .i64 (q : Int)) (.int .i64 (r : Int)) (.int .i64 nv) 75
        have hup := (Below.refl (wr.alloc (.cells #[.string s, .int .i64 (q : Int), .int .i64 (r : Int), .int .i64 nv] 75)).heap.size _).alloc (Nat.le_refl _) (.cells opArr 9)
        replace m1 := (hup.cell (p := ⟨wr.heap.size, 0, none⟩) (by simp)).trans m1
        replace m2 := (hup.cell (p := ⟨wr.heap.size, 1, none⟩) (by simp)).trans m2
        replace m3 := (hup.cell (p := ⟨wr.heap.size, 2, none⟩) (by simp)).trans m3
        replace m4 := (hup.cell (p := ⟨wr.heap.size, 3, none⟩) (by simp)).trans m4
        have hBz : Below wr.heap.size wr wz := by rw [hwz]; exact hB2.out
        clear hup
        rw [← hwz] at m1 m2 m3 m4
        have hca := (hBz.cell (p := ⟨g, q, none⟩) hGL).trans hya
        have hcb := (hBz.cell (p := ⟨g, r, none⟩) hGL).trans hyb
        obtain ⟨hck, hfk⟩ := ((hOW.out.below hBz (Nat.le_refl _))).at_ k (by rw [hln.out]; exact hlt)
        generalize vs.getD k 0 = oldk at *
        have R := Lib.hid (hst.out wz.drew _ hBz.drew hx.out)
        have H1 := Lib.hid fun W => exOne_any s W
        have H2 := Lib.hid fun W => exTwo_any s W
        rw [e4] at H1
        rw [e5] at H2
        have i1 : (q : Int) < (n : Int) := by omega
        have i0 : (0 : Int) ≤ (q : Int) := by omega
        have i3 : (r : Int) < (n : Int) := by omega
        have i2 : (0 : Int) ≤ (r : Int) := by omega
        have HZ := Lib.hid hwz
        clear hNd e e' k1 k2 ha0 ha1 hst hkp hcl hwz hBz hya hb0 hb1x hyb e4 e5
        go_wp2_with (fail)
        refine (H1.out _).mono ?_
        rintro e w' ⟨rfl, rfl⟩
        go_wp2_with (fail)
        refine (H2.out _).mono ?_
        rintro e w' ⟨rfl, rfl⟩
        go_wp2_with (fail)
        rw [← HZ.out]
        clear HZ
        go_region_law (go_simp; go_at_call 118; refine (exApply_any s ya yb _ hy0 hy1 hy2 hy3 hop.out).mono ?_; rintro e w' ⟨rfl, rfl⟩)
        all_goals
          go_wp2
          go_roundw
          case rel => exact ⟨m + 1, k + 1, by have := hKM.out; omega, by omega, by go_num, by rw [HV.out]; exact R.out.1, R.out.2⟩
          case measure => simp [intOf]; omega
    · obtain rfl : k = n := by omega
      have hkm2 : m = k - (i + 1) := by omega
      subst hkm2
      have hln : (fillG es x0 x1 (i + 1) ss (k - (i + 1))).length = k := by rw [hFL.out, hSL.out]
      obtain ⟨d1, _⟩ := how.at_ (k - 1) (by rw [hln]; omega)
      have b3 := Lib.hid hbel
      have hkk : ((k - 1 : Nat) : Int) = (k : Int) - 1 := by omega
      clear how hbel hln
      generalize hrr : (fillG es x0 x1 (i + 1) ss (k - (i + 1))).getD (k - 1) 0 = r at *
      have HRR := Lib.hid hrr
      clear hrr
      have hkz : (0 : Int) ≤ (k : Int) - 1 := by omega
      have hkl : (k : Int) - 1 < (k : Int) := by omega
      have hkn : ((k : Int) - 1).toNat = k - 1 := by omega
      clear hkk hkm
      go_wp2
      go_ret
      exact ⟨by rw [HSS.out, HRR.out]; rfl, b3.out⟩
end Go.Proofs.Ytcfmfbgnfpgpgaa
