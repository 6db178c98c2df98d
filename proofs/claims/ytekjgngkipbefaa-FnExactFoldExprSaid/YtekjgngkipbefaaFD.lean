import Derived.Test.YtekjgngkipbefaaFA
import Derived.Test.YtekjgngkipbefaaWD
import Derived.Test.YtekjgngkipbefaaV3
import Derived.Test.YtekjgngkipbefaaG
import Derived.Test.YtekjgngkipbefaaLawU
import Derived.WalkKit
import Derived.WalkSpells
import Derived.WalkLawsBesides
import Derived.Deep.RegionLaw
import Derived.Lib.Hide
/- FoldExpr: the model. -/
namespace Go.Proofs.Ytekjgngkipbefaa
open Go.RowKit
set_option linter.unusedVariables false
set_option maxRecDepth 100000

theorem four_ones (xs : List Nd) : ∀ u ∈ xs.flatMap Nd.enc, u.oneCell' = true := by
  intro u hu
  simp only [List.mem_flatMap] at hu
  obtain ⟨y, _, hy⟩ := hu
  exact four_one y u hy
theorem cb_ns {t : TypeId} {w : World} {g : Nat} {es : List Nd} {rest : List Value} (h : CB t w g (es.flatMap Nd.enc ++ rest)) : NS w g (g + 1) (some ⟨g, 0, none⟩) es :=
  fun _ => ⟨g, 0, rfl, by omega, fun i hi => by
    simp only [Nat.zero_add]
    exact ⟨h.at Nd.hk i hi 0 _ rfl, h.at Nd.hk i hi 1 _ rfl, h.at Nd.hk i hi 2 _ rfl, h.at Nd.hk i hi 3 _ rfl⟩⟩
theorem cb_v {t : TypeId} {w : World} {g q : Nat} {es : List Nd} {rest : List Value} (h : CB t w g (es.flatMap Nd.enc ++ rest)) (hq : q < es.length) : w.cell? ⟨g, q * 4, none⟩ = some (.string (es.getD q zeroNd).op) ∧ w.cell? ⟨g, q * 4 + 3, none⟩ = some (.int .i64 (es.getD q zeroNd).v) := by
  have e : es.getD q zeroNd = es[q] := by rw [List.getD_eq_getElem?_getD, List.getElem?_eq_getElem hq]; rfl
  rw [e]; exact ⟨h.at Nd.hk q hq 0 _ rfl, h.at Nd.hk q hq 3 _ rfl⟩

set_option maxHeartbeats 16000000 in
theorem exFold_any (L B : Nat) (A : Option Addr) (c : Nat) (es : List Nd) (w : World) (hl1 : 1 ≤ es.length) (hl24 : es.length ≤ 24) (hes : NS w L B A es) (hrs : RS Nd.enc 4 w L B A es) (hB : B ≤ w.heap.size) (hok : okFrom es 0 = true) :
    Calls Try.prog 67 #[.slice A es.length c] w fun e w' => ∃ A' c', e = .returned (.slice A' (keepL (foldOf es) (es.length - 1)).length c') ∧ OK Nd.enc 4 62 w' w.heap.size w'.heap.size (.slice A' (keepL (foldOf es) (es.length - 1)).length c') (keepL (foldOf es) (es.length - 1)) ∧ Below w.heap.size w w' := by
  have hOk := Lib.hid hok
  have hOkF := Lib.hid (fo_ok hok (Nat.le_refl es.length))
  have hFl := Lib.hid (fo_len es)
  have hFv := Lib.hid fun k (hk : k ≤ es.length) => fo_v hok hk
  have hFs := Lib.hid fun k (hk : k < es.length) => (show (fo es k).set k (fnode (fo es k) es[k]) = fo es (k + 1) by rw [fo, List.getD_eq_getElem?_getD, List.getElem?_eq_getElem hk]; rfl)
  have hFr := Lib.hid fun k (hk : k < es.length) => (show (fo es k)[k]? = some es[k] by rw [fo_rest es (Nat.le_refl k), List.getElem?_eq_getElem hk])
  obtain ⟨i0, hi, hz0, hz1, hz2⟩ := info_parts Try.infoNode
  have hb0 := Lib.hid ((Below.refl w.heap.size w).alloc (Nat.le_refl _) (.cells #[] 62))
  have hown := Lib.hid (World.ownsRow_made (base := w.heap.size) (e := 62) (size := 4) w #[] 0 (Nat.le_refl _) (by unfold maxLen; omega) (by simp))
  have hsz0 := Lib.hid hb0.out.size
  have hnews := Lib.hid ((hrs.below hb0.out hB).news Nd.hk)
  clear hes hrs hok
  go_enter Try.func67, Try.ntmps67
  go_wp2_with (at_builtin; refine wpList_append_src rfl (.tmp 11) (.tmp 12) 24 rfl w.heap.size 62 i0 _ 4 40 Try.underlying24 hi hz0 hz1 hz2 rfl (by decide) _ 0 [] rfl hown.out A es.length c (es.flatMap Nd.enc) rfl (kflat_len Nd.hk es) hnews.out (four_ones es) (by unfold maxLen; omega) (by omega) hsz0.out ?_; intro v4 w4 hown4 hgrow4 _; simp only [Nat.zero_add, List.nil_append] at hown4; have hb4 := Lib.hid (hb0.out.grown hgrow4 hsz0.out (fun k hk => (by cases hk; exact Nat.le_refl _))); have hO4 := Lib.hid (show OK Nd.enc 4 62 w4 w.heap.size w4.heap.size v4 es from ⟨hown4, fun j hj => (hown4.lt j hj).2⟩); clear hown4 hgrow4; obtain ⟨g, cap, rfl, hg1, hg2, hcap, hcm, rest, hCB, hCL⟩ : ∃ g cap, v4 = .slice (some ⟨g, 0, none⟩) es.length cap ∧ w.heap.size ≤ g ∧ g < w4.heap.size ∧ es.length ≤ cap ∧ cap ≤ maxLen ∧ ∃ rest, CB 62 w4 g (es.flatMap Nd.enc ++ rest) ∧ (es.flatMap Nd.enc ++ rest).length = cap * 4 := (by rcases hO4.out.open with ⟨_, h0⟩ | h; exact absurd h0 (by omega); exact h))
  have hC0 : Hid (CB 62 w4 g ((fo es 0).flatMap Nd.enc ++ rest)) := hCB
  clear hCB hCL hcm hO4 hnews hown
  go_loopw [16] (fun i wi => ∃ k : Nat, k ≤ es.length ∧ i = .int .i64 k ∧ CB 62 wi g ((fo es k).flatMap Nd.enc ++ rest) ∧ Below w.heap.size w wi) (fun i _ => es.length - (intOf i).toNat)
  case atStart => exact ⟨0, Nat.zero_le _, rfl, hC0.out, hb4.out⟩
  case round =>
    obtain ⟨k, hk, rfl, hc, hbel⟩ := hrel
    have hC := Lib.hid hc
    have hBe := Lib.hid hbel
    clear hc hbel hC0 hb4
    by_cases hlt : k < es.length
    · have k0 : (0 : Int) ≤ (k : Int) := by omega
      have k1 : (k : Int) < (es.length : Int) := by omega
      have hnd := ok_get hOk.out hlt
      have hfl := hFl.out k
      have hfv := hFv.out k (by omega)
      have hkl : k < (fo es k).length := by omega
      have hget : (fo es k)[k] = es[k] := by have := hFr.out k hlt; rw [List.getElem?_eq_getElem hkl] at this; injection this
      have c1 := hC.out.at Nd.hk k hkl 0 _ rfl
      have c2 := hC.out.at Nd.hk k hkl 1 _ rfl
      have c3 := hC.out.at Nd.hk k hkl 2 _ rfl
      have c4 := hC.out.at Nd.hk k hkl 3 _ rfl
      rw [hget] at c1 c2 c3 c4
      rw [Nat.add_zero] at c1
      have hSt := Lib.hid (hFs.out k hlt)
      have hSelf : Hid ((fo es k).set k es[k] = fo es k) := by unfold Hid; rw [← hget]; exact List.set_getElem_self hkl
      have hX := xn_new wr es[k]
      have hXb := (Below.refl wr.heap.size wr).alloc (Nat.le_refl _) (.cells #[.string es[k].op, .int .i64 es[k].a, .int .i64 es[k].b, .int .i64 es[k].v] 62)
      obtain ⟨X, hXe⟩ : ∃ X, X = wr.alloc (.cells #[.string es[k].op, .int .i64 es[k].a, .int .i64 es[k].b, .int .i64 es[k].v] 62) := ⟨_, rfl⟩
      rw [← hXe] at hX hXb
      have HX := Lib.hid hXe
      obtain ⟨m0, m1, m2, m3⟩ := hX.cells
      rw [hXe] at m0 m1 m2 m3
      have xC := Lib.hid (hC.out.below hXb hC.out.lt)
      have xE := Lib.hid (hBe.out.trans (hXb.mono hBe.out.size))
      have xX := Lib.hid hX
      have hps := parts_in hnd
      have hpl : (parts es[k]).length ≤ 2 := parts_len es[k]
      have h2 := Lib.hid (parts_two hnd)
      have hgv := Lib.hid fun i => getD_v hfv i
      have hno := Lib.hid (fun (hh : (decide (0 < (parts (es[k]'hlt)).length) && fall (fo es k) (parts (es[k]'hlt))) = false) => fnode_no hh)
      have hyes := Lib.hid (fun (hh : (decide (0 < (parts (es[k]'hlt)).length) && fall (fo es k) (parts (es[k]'hlt))) = true) => fnode_yes hh)
      have hgk := hC.out.lt
      clear hX hXe hnd hfv hXb
      generalize fnode (fo es k) es[k] = m at *
      obtain ⟨fs, hfs⟩ : ∃ fs, fs = fo es k := ⟨_, rfl⟩
      rw [← hfs] at hfl hkl hSt hSelf xC hgv hno hyes hC
      have HFS := Lib.hid hfs
      clear hget hfs
      generalize es[k] = nd at *
      obtain ⟨op, a, b, v⟩ := nd
      dsimp only at c1 c2 c3 c4 m0 m1 m2 m3
      have hPt := Lib.hid fun (W : World) => exParts_any op a b v W
      obtain ⟨ps, hP⟩ : ∃ ps, ps = parts ⟨op, a, b, v⟩ := ⟨_, rfl⟩
      rw [← hP] at hps hpl h2 hno hyes hPt
      have HP := Lib.hid hP
      clear hP
      go_wp2_with (fail)
      rw [← HX.out]
      refine (hPt.out _).mono ?_
      rintro e w3 ⟨A3, c3', rfl, hIS, hb3⟩
      have b3 := Lib.hid (xE.out.trans (hb3.mono xE.out.size))
      have C3 := Lib.hid (xC.out.below hb3 xC.out.lt)
      have x3 := Lib.hid (xX.out.next hb3)
      have hI3 := Lib.hid hIS
      have z3 := hb3.size
      have zX := xE.out.size
      clear hb3 hIS c1 c2 c3 c4 m0 m1 m2 m3 hC hBe xC xE xX HX
      obtain ⟨d0, d1, d2, d3⟩ := x3.out.cells
      dsimp only at d0 d1 d2 d3
      go_wp2_with (fail)
      go_loopw [7, 28] (fun q i wi => ∃ j : Nat, j ≤ ps.length ∧ i = .int .i64 j ∧ q = .bool (decide (0 < ps.length) && fall fs (ps.take j)) ∧ wi = w3) (fun _ i _ => ps.length - (intOf i).toNat)
      case atStart => exact ⟨0, Nat.zero_le _, rfl, by simp [fall], rfl⟩
      case round =>
        obtain ⟨j, hj, rfl, rfl, rfl⟩ := hrel
        by_cases hjt : j < ps.length
        · obtain ⟨b2, o2, rfl, hbb, hc⟩ := hI3.out (by omega)
          have hcj := hc j hjt
          obtain ⟨hq0, hq1⟩ := hps _ (List.getElem_mem hjt)
          have hTk := Lib.hid (fall_take (fs := fs) hjt)
          obtain ⟨q, hq⟩ := Int.eq_ofNat_of_zero_le hq0
          rw [hq] at hcj hq1 hTk
          rw [Int.toNat_natCast] at hq1 hTk
          have q0 : (0 : Int) ≤ (q : Int) := by omega
          have q1 : (q : Int) < (es.length : Int) := by omega
          obtain ⟨f1, _⟩ := cb_v C3.out (q := q) (by omega)
          have hD : Hid (decide (0 < ps.length) = true) := decide_eq_true (by omega)
          rw [hD.out, Bool.true_and]
          clear hc hq hq0
          cases hy : fall fs (ps.take j)
          · have hT2 := Lib.hid (show fall fs (ps.take (j + 1)) = false by rw [hTk.out, hy, Bool.false_and])
            clear hTk hy f1
            go_wp2
            go_roundw
            case rel => exact ⟨j + 1, by omega, by go_num, by (try rw [hD.out]); rw [hT2.out]; rfl, by first | rfl | trivial⟩
            case measure => simp [intOf]; omega
          · have hT2 := Lib.hid (show fall fs (ps.take (j + 1)) = isConst (fs.getD q zeroNd).op by rw [hTk.out, hy, Bool.true_and])
            clear hTk hy
            generalize (fs.getD q zeroNd).op = s at *
            cases hcs : isConst s
            · have hse : (s.toList == [99,111,110,115,116]) = false := hcs
              rw [hcs] at hT2
              clear hcs
              go_wp2
              go_roundw
              case rel => exact ⟨j + 1, by omega, by go_num, by (try rw [hD.out]); rw [hT2.out]; first | rfl | (simp [hse]; done) | trace_state, by first | rfl | trivial⟩
              case measure => simp [intOf]; omega
            · have hse : (s.toList == [99,111,110,115,116]) = true := hcs
              have hse' : s.toList = [99,111,110,115,116] := by simpa using hse
              rw [hcs] at hT2
              clear hcs
              go_wp2
              go_roundw
              case rel => exact ⟨j + 1, by omega, by go_num, by (try rw [hD.out]); rw [hT2.out]; first | rfl | (simp [hse]; done) | trace_state, by first | rfl | trivial⟩
              case measure => simp [intOf]; omega
        · obtain rfl : j = ps.length := by omega
          rw [List.take_length]
          cases hy : (decide (0 < ps.length) && fall fs ps)
          · have hM := hno.out hy
            rw [hM] at hSt
            have hCk : Hid (CB 62 wr g ((fo es (k + 1)).flatMap Nd.enc ++ rest)) := by unfold Hid; rw [← hSt.out, hSelf.out]; exact C3.out
            clear hno hyes hps h2 HP hy
            go_wp2
            go_roundw
            case rel => exact ⟨k + 1, by omega, by go_num, hCk.out, b3.out⟩
            case measure => simp [intOf]; omega
          · have hM := hyes.out hy
            have hy2 := hy
            rw [Bool.and_eq_true, decide_eq_true_eq] at hy2
            obtain ⟨q, va, vb, rfl, hq, hop, hfv, ha0, ha1, hb0', hb1', hva, hvb⟩ : ∃ (q : Nat) (va vb : Int), a = q ∧ q < k ∧ isOp op = true ∧ fval fs ⟨op, a, b, v⟩ = ap op va vb ∧ 0 ≤ va ∧ va ≤ 63 ∧ 0 ≤ vb ∧ vb ≤ 63 ∧ va = (fs.getD q zeroNd).v ∧ ((ps.length ≤ 1 ∧ vb = 0) ∨ (1 < ps.length ∧ ∃ p : Nat, b = p ∧ p < k ∧ vb = (fs.getD p zeroNd).v)) := by
              rcases h2.out with ⟨h9, _⟩ | ⟨h9, k1, k2, k3, rfl⟩ | ⟨h9, k1, k1', k2, k3, k4, k5⟩
              · rw [h9] at hy2; exact absurd hy2.1 (by simp)
              · obtain ⟨q, rfl⟩ := Int.eq_ofNat_of_zero_le k2
                rw [Int.toNat_natCast] at k3
                obtain ⟨y0, y1⟩ := hgv.out q
                refine ⟨q, _, 0, rfl, k3, by simp [isOp, k1], ?_, y0, y1, by decide, by decide, rfl, Or.inl ⟨by rw [h9]; simp, rfl⟩⟩
                unfold fval; rw [ap_one k1 _ (fB _ _)]; rfl
              · obtain ⟨q, rfl⟩ := Int.eq_ofNat_of_zero_le k2
                obtain ⟨p, rfl⟩ := Int.eq_ofNat_of_zero_le k4
                rw [Int.toNat_natCast] at k3 k5
                obtain ⟨y0, y1⟩ := hgv.out q
                obtain ⟨y2, y3⟩ := hgv.out p
                refine ⟨q, _, _, rfl, k3, by simp [isOp, k1'], ?_, y0, y1, y2, y3, rfl, Or.inr ⟨by rw [h9]; simp, p, rfl, k5, rfl⟩⟩
                unfold fval fB; rw [if_pos (by rw [← HP.out, h9]; exact (by simp : 1 < [(q : Int), (p : Int)].length))]; rfl
            rw [hfv] at hM
            have hop := Lib.hid hop
            have q0 : (0 : Int) ≤ (q : Int) := by omega
            have q1 : (q : Int) < (es.length : Int) := by omega
            obtain ⟨_, f2⟩ := cb_v C3.out (q := q) (by omega)
            rw [← hva] at f2
            have hEx := Lib.hid fun W => exApply_any op va vb W ha0 ha1 hb0' hb1' hop.out
            have w1 := C3.out.frozen (k * 4)
            have w2 := C3.out.frozen (k * 4 + 1)
            have w3 := C3.out.frozen (k * 4 + 2)
            have w4 := C3.out.frozen (k * 4 + 3)
            obtain ⟨z0, z1, z2, z3', t1, t2, t3, t4⟩ := Nd.cellsB C3.out k hkl
            have hst : Hid (CB 62 (setCells wr g (k * 4) (Nd.enc m)) g ((fo es (k + 1)).flatMap Nd.enc ++ rest)) := by
              have h1 := C3.out.store Nd.hk k hkl m
              rw [hSt.out] at h1; exact h1
            have hsb : Hid (Below w.heap.size w (setCells wr g (k * 4) (Nd.enc m))) := by
              have hc9 := chg_setCells (Nd.enc m) g (k * 4) (Chg.refl g (g + 1) wr) (by omega)
              exact below_chg b3.out hc9 b3.out.size hg1
            have hsb' : Hid (Below w.heap.size w (setCells wr.drew g (k * 4) (Nd.enc m))) := by
              have hc9 := chg_setCells (Nd.enc m) g (k * 4) (Chg.refl g (g + 1) wr.drew) (by omega)
              exact below_chg b3.out.drew hc9 b3.out.size hg1
            have hst' : Hid (CB 62 (setCells wr.drew g (k * 4) (Nd.enc m)) g ((fo es (k + 1)).flatMap Nd.enc ++ rest)) := by
              have h9 : CB 62 wr.drew g (fs.flatMap Nd.enc ++ rest) := C3.out
              have h1 := h9.store Nd.hk k hkl m
              rw [hSt.out] at h1; exact h1
            subst hM
            have hTrue : Hid ((decide (0 < ps.length) && fall fs ps) = true) := hy
            clear hno hyes hps h2 HP hy hfv hgv hI3 hva hSt hSelf hPt
            rcases hvb with ⟨hp1, rfl⟩ | ⟨hp1, p, rfl, hp, hvb⟩
            · have hp2 : (ps.length : Int) ≤ 1 := by omega
              clear C3 b3 x3 hst hsb
              go_wp2_with (fail)
              go_region_law (go_simp; go_at_call 106; refine (hEx.out _).mono ?_; rintro e w' ⟨rfl, rfl⟩)
              all_goals
                go_wp2
                go_roundw
                case rel => exact ⟨k + 1, by omega, by go_num, hst'.out, hsb'.out⟩
                case measure => simp [intOf]; omega
            · have hp2 : (1 : Int) < (ps.length : Int) := by omega
              have q2 : (0 : Int) ≤ (p : Int) := by omega
              have q3 : (p : Int) < (es.length : Int) := by omega
              obtain ⟨_, f3⟩ := cb_v C3.out (q := p) (by omega)
              rw [← hvb] at f3
              clear C3 b3 x3 hvb hst hsb
              go_wp2_with (fail)
              go_region_law (go_simp; go_at_call 106; refine (hEx.out _).mono ?_; rintro e w' ⟨rfl, rfl⟩)
              all_goals
                go_wp2
                go_roundw
                case rel => exact ⟨k + 1, by omega, by go_num, hst'.out, hsb'.out⟩
                case measure => simp [intOf]; omega
    · obtain rfl : k = es.length := by omega
      have hgz := hC.out.lt
      have hS := exKeep_any g (g + 1) (some ⟨g, 0, none⟩) cap (es.length - 1) (fo es es.length) wr (by rw [hFl.out]; exact hl24) (by rw [hFl.out]; omega) (cb_ns hC.out) (by omega) hOkF.out
      rw [hFl.out, show ((es.length - 1 : Nat) : Int) = (es.length : Int) - 1 by omega] at hS
      have HS := Lib.hid hS
      clear hS
      go_wp2_with (fail)
      refine HS.out.mono ?_
      rintro e w4 ⟨A', c', rfl, ho, hb4⟩
      have ho4 := Lib.hid ho
      have hb5 := Lib.hid (hBe.out.trans (hb4.mono hBe.out.size))
      have hz := hBe.out.size
      clear ho hb4
      go_wp2_with (fail)
      go_ret
      exact ⟨A', c', rfl, ho4.out.lower hz, hb5.out⟩
end Go.Proofs.Ytekjgngkipbefaa
