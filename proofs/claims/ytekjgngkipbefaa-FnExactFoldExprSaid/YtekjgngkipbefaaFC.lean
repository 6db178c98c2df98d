import Derived.Test.YtekjgngkipbefaaFB
import Derived.Test.YtekjgngkipbefaaWI
import Derived.Test.YtekjgngkipbefaaG
import Derived.Test.YtekjgngkipbefaaLawU
import Derived.WalkKit
import Derived.WalkSpells
import Derived.WalkLawsBesides
import Derived.Lib.Hide
/- FoldExpr: the program. -/
namespace Go.Proofs.Ytekjgngkipbefaa
open Go.RowKit
set_option linter.unusedVariables false
set_option maxRecDepth 100000

set_option maxHeartbeats 4000000 in
theorem iFoldExpr_any (L B : Nat) (A : Option Addr) (c : Nat) (es : List Nd) (w : World) (hl : es.length ≤ 1048576) (hes : NS w L B A es) (hB : B ≤ w.heap.size) :
    Calls Try.prog 29 #[.slice A es.length c] w (ResFoldExpr (foldR es) (good es) w) := by
  have H := Lib.hid (IsExpr_any L B A c es w hl hes hB)
  have hE := Lib.hid fun (W : World) (hW : Below w.heap.size w W) => hes.below hW hB
  clear hes
  cases hg : good es
  · have hR : Hid (foldR es = []) := by simp [Hid, foldR, hg]
    rw [hg] at H
    clear hg
    go_enter Try.func29, Try.ntmps29
    go_wp2_with (fail)
    refine H.out.mono ?_
    rintro e w2 ⟨rfl, hb⟩
    have hbb := Lib.hid hb
    clear hb
    go_wp2_with (fail)
    go_ret2
    rw [hR.out]
    exact ⟨none, 0, rfl, OK.nil _ _ _ _, hbb.out⟩
  · obtain ⟨hl1, hl24, hok⟩ := good_len hg
    have hR : Hid (foldR es = keepL (fp es es.length) (es.length - 1)) := by unfold Hid foldR foldOf; rw [if_pos hg, fp_all hok]
    have hOkF : Hid (okFrom (fp es es.length) 0 = true) := by unfold Hid; rw [fp_all hok]; exact fo_ok hok (Nat.le_refl _)
    have hOk := Lib.hid hok
    have hFl := Lib.hid (fp_len es)
    have hFv := Lib.hid fun k (hk : k ≤ es.length) => fp_v hok hk
    have hFs := Lib.hid fun k (hk : k < es.length) => (show (fp es k).set k (fnode (fp es k) es[k]) = fp es (k + 1) by rw [fp, List.getD_eq_getElem?_getD, List.getElem?_eq_getElem hk]; rfl)
    have hmk := run_make_Node es.length hl
    rw [hg] at H
    clear hg hok
    go_enter Try.func29, Try.ntmps29
    go_wp2_with (fail)
    refine H.out.mono ?_
    rintro e w2 ⟨rfl, hb⟩
    have hb2 := Lib.hid hb
    clear hb
    obtain ⟨WP, hWP⟩ : ∃ WP, WP = w2.alloc (.cells ((List.replicate es.length zeroNd).flatMap Nd.enc).toArray 62) := ⟨_, rfl⟩
    have bP : Hid (Below w.heap.size w WP) := by unfold Hid; rw [hWP]; exact hb2.out.alloc hb2.out.size _
    have cP : Hid (CB 62 WP w2.heap.size ((fp es 0).flatMap Nd.enc ++ [])) := by
      unfold Hid; rw [hWP, List.append_nil]; exact heap_alloc_new w2 _
    have zP := Lib.hid hb2.out.size
    have HWP := Lib.hid hWP
    clear hWP
    go_wp2_with (fail)
    rw [← HWP.out]
    clear HWP
    generalize w2.heap.size = g at *
    have hgw : w.heap.size ≤ g := zP.out
    go_loopw [15] (fun i wi => ∃ k : Nat, k ≤ es.length ∧ i = .int .i64 k ∧ CB 62 wi g ((fp es k).flatMap Nd.enc ++ []) ∧ Below w.heap.size w wi) (fun i _ => es.length - (intOf i).toNat)
    case atStart => exact ⟨0, Nat.zero_le _, rfl, cP.out, bP.out⟩
    case round =>
      obtain ⟨k, hk, rfl, hc, hbel⟩ := hrel
      have hC := Lib.hid hc
      have hBe := Lib.hid hbel
      clear hc hbel cP bP
      by_cases hlt : k < es.length
      · obtain ⟨b, o, rfl, ⟨_, hbB⟩, hcc⟩ := (hE.out wr hBe.out) (by omega)
        obtain ⟨c1, c2, c3, c4⟩ := hcc k hlt
        have k0 : (0 : Int) ≤ (k : Int) := by omega
        have k1 : (k : Int) < (es.length : Int) := by omega
        have hnd := ok_get hOk.out hlt
        have hSt := Lib.hid (hFs.out k hlt)
        have hfl := hFl.out k
        have hfv := hFv.out k (by omega)
        have hX := xn_new wr es[k]
        have hXb := (Below.refl wr.heap.size wr).alloc (Nat.le_refl _) (.cells #[.string es[k].op, .int .i64 es[k].a, .int .i64 es[k].b, .int .i64 es[k].v] 62)
        obtain ⟨X, hXe⟩ : ∃ X, X = wr.alloc (.cells #[.string es[k].op, .int .i64 es[k].a, .int .i64 es[k].b, .int .i64 es[k].v] 62) := ⟨_, rfl⟩
        rw [← hXe] at hX hXb
        have xC := Lib.hid (hC.out.below hXb hC.out.lt)
        have xE := Lib.hid (hBe.out.trans (hXb.mono hBe.out.size))
        have hglt := hC.out.lt
        have hKB : KB Nd.enc 62 X g (fp es k) := cb_nilNd xC.out
        have hFN := foldNode_any g (g + 1) (some ⟨g, 0, none⟩) es.length k (fp es k) es[k] X (by omega) (by omega) hnd (hKB.toRS Nd.hk).ns (by have := xC.out.lt; omega) hfv
        rw [hfl] at hFN
        have HFN := Lib.hid hFN
        have HX := Lib.hid hXe
        obtain ⟨m0, m1, m2, m3⟩ := hX.cells
        rw [hXe] at m0 m1 m2 m3
        clear hFN hcc hX hXe hKB hfv
        generalize fnode (fp es k) es[k] = m at *
        generalize es[k] = nd at *
        go_wp2_with (fail)
        rw [← HX.out]
        refine HFN.out.mono ?_
        rintro e w3 ⟨rfl, hb3⟩
        have b3 := Lib.hid (xE.out.trans (hb3.mono xE.out.size))
        have C3 := Lib.hid (xC.out.below hb3 xC.out.lt)
        clear hb3 c1 c2 c3 c4 m0 m1 m2 m3 hC hBe xC xE HX HFN
        obtain ⟨z0, z1, z2, z3, d1, d2, d3, d4⟩ := Nd.cellsB C3.out k (by rw [hfl]; exact hlt)
        have f1 := C3.out.frozen (k * 4)
        have f2 := C3.out.frozen (k * 4 + 1)
        have f3 := C3.out.frozen (k * 4 + 2)
        have f4 := C3.out.frozen (k * 4 + 3)
        have hst : Hid (CB 62 (setCells w3 g (k * 4) (Nd.enc m)) g ((fp es (k + 1)).flatMap Nd.enc ++ [])) := by
          have h1 := C3.out.store Nd.hk k (by rw [hfl]; exact hlt) m
          rw [hSt.out] at h1; exact h1
        have hsb : Hid (Below w.heap.size w (setCells w3 g (k * 4) (Nd.enc m))) := by
          have hc9 := chg_setCells (Nd.enc m) g (k * 4) (Chg.refl g (g + 1) w3) (by omega)
          exact below_chg b3.out hc9 b3.out.size hgw
        clear C3 b3
        go_wp2
        go_roundw
        case rel => exact ⟨k + 1, by omega, by go_num, hst.out, hsb.out⟩
        case measure => simp [intOf]; omega
      · obtain rfl : k = es.length := by omega
        have hKB : KB Nd.enc 62 wr g (fp es es.length) := cb_nilNd hC.out
        have hgz := hC.out.lt
        have hS := subExpr_any g (g + 1) (some ⟨g, 0, none⟩) es.length (es.length - 1) (fp es es.length) wr (by rw [hFl.out]; exact hl24) (by rw [hFl.out]; exact Nat.le_refl _) (by rw [hFl.out]; omega) (hKB.toRS Nd.hk).ns (by omega) hOkF.out
        rw [hFl.out, show ((es.length - 1 : Nat) : Int) = (es.length : Int) - 1 by omega] at hS
        have HS := Lib.hid hS
        clear hS hKB
        go_wp2_with (fail)
        refine HS.out.mono ?_
        rintro e w4 ⟨A', c', rfl, ho, hb4⟩
        have ho4 := Lib.hid ho
        have hb5 := Lib.hid (hBe.out.trans (hb4.mono hBe.out.size))
        have hz := hBe.out.size
        clear ho hb4
        go_wp2_with (fail)
        go_ret2
        rw [hR.out]
        exact ⟨A', c', rfl, ho4.out.lower hz, hb5.out⟩
end Go.Proofs.Ytekjgngkipbefaa
