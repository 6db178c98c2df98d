import Derived.Test.YtjnbgnnlpeoaoaaRQ
import Derived.WalkKit
import Derived.WalkSpells
import Derived.WalkLawsBesides
import Derived.Deep.RegionHeld3
import Derived.Lib.Hide
namespace Go.Proofs.Ytjnbgnnlpeoaoaa
open Go.RowKit
set_option linter.unusedVariables false
set_option maxRecDepth 100000

theorem five_one (y : In) : ∀ u ∈ In.enc y, u.oneCell' = true := by intro u hu; simp [In.enc] at hu; rcases hu with rfl | rfl | rfl | rfl | rfl <;> rfl
theorem five_new {w : World} {g : Nat} (y : In) (hg : w.heap.size = g) {t : TypeId} : ∀ j u, (In.enc y)[j]? = some u → (w.alloc (.cells #[.string y.op, .int .i64 y.d, .int .i64 y.a, .int .i64 y.b, .int .i64 y.m] t)).cell? ((⟨g, 0, none⟩ : Addr).add j) = some u := by
  subst hg
  intro j u hu
  rw [addr_add]
  have : CB t (w.alloc (.cells #[.string y.op, .int .i64 y.d, .int .i64 y.a, .int .i64 y.b, .int .i64 y.m] t)) w.heap.size (In.enc y) := heap_alloc_new w _
  rw [this.cell]; exact hu
theorem five_newd {w : World} {g : Nat} (y : In) (hg : w.heap.size = g) {t : TypeId} : ∀ j u, (In.enc y)[j]? = some u → (w.alloc (.cells #[.string y.op, .int .i64 y.d, .int .i64 y.a, .int .i64 y.b, .int .i64 y.m] t)).drew.cell? ((⟨g, 0, none⟩ : Addr).add j) = some u := five_new y hg
theorem map_snoc (f : In → In) {es : List In} {k : Nat} (h : k < es.length) : (es.take (k + 1)).map f = (es.take k).map f ++ [f es[k]] := by
  rw [List.take_succ_eq_append_getElem h, List.map_append]; rfl
theorem flat_snoc (l : List In) (y : In) : (l ++ [y]).flatMap In.enc = l.flatMap In.enc ++ In.enc y := by simp
set_option maxHeartbeats 8000000 in
theorem sRenameCode_any (L B : Nat) (A : Option Addr) (c : Nat) (es : List In) (L' B' : Nat) (A' : Option Addr) (c' : Nat) (ns : List Int) (w : World) (hl : es.length ≤ 1048576) (hes : RS In.enc 5 w L B A es) (hB : B ≤ w.heap.size) (hl' : ns.length ≤ 1048576) (hI : IS w L' B' A' ns) (hB' : B' ≤ w.heap.size) (hcap : ns.length ≤ c') :
    Calls Try.prog 58 #[.slice A es.length c, .slice A' ns.length c'] w (ResRenameCode (renR es ns) (okCode es && namesOk ns) w) := by
  obtain ⟨i0, hi0, hi1, hi2, hi3⟩ := info_parts Try.infoInstr
  have hJ0 := Lib.hid hi0
  have hJ1 := Lib.hid hi1
  have hJ2 := Lib.hid hi2
  have hJ3 := Lib.hid hi3
  clear hi0 hi1 hi2 hi3
  have H := Lib.hid (cdCode_any L B A c es w hl hes hB)
  have hE := Lib.hid hes
  have hE' := Lib.hid hI
  have hBB := Lib.hid hB
  have hBB' := Lib.hid hB'
  have hCap := Lib.hid hcap
  clear hes hI hB hB' hcap
  go_enter Try.func58, Try.ntmps58
  go_wp2_with (fail)
  refine H.out.mono ?_
  rintro e w2 ⟨rfl, hb⟩
  have hbb := Lib.hid hb
  have hz := hb.size
  have hE2' := Lib.hid (hE'.out.below hb hBB'.out)
  have hE2 := Lib.hid (hE.out.below hb hBB.out)
  clear hb
  cases hg : okCode es
  · have hR := Lib.hid (renR_no1 ns hg)
    have hK : Hid ((okCode es && namesOk ns) = false) := by simp [Hid, hg]
    go_wp2
    go_ret2
    rw [hR.out, hK.out]; exact ⟨none, 0, rfl, OK.nil _ _ _ _, hbb.out⟩
  · have hG := Lib.hid hg
    have hC := Lib.hid (cdNames_any L' B' A' c' ns w2 hl' hE2'.out hCap.out)
    cases hr : namesOk ns
    · have hR := Lib.hid (renR_no2 es hr)
      have hK : Hid ((okCode es && namesOk ns) = false) := by simp [Hid, hr]
      rw [hr] at hC
      go_wp2_with (fail)
      refine hC.out.mono ?_
      rintro e w3 ⟨rfl, rfl⟩
      go_wp2
      go_ret2
      rw [hR.out, hK.out]; exact ⟨none, 0, rfl, OK.nil _ _ _ _, hbb.out⟩
    · have hR : Hid (renR es ns = es.map (ren ns)) := by simp [Hid, renR, hr, hg]
      have hK : Hid ((okCode es && namesOk ns) = true) := by simp [Hid, hr, hg]
      have h6 := names6 hr
      have hall := Lib.hid (okCode_all hg)
      have hlen := Lib.hid (okCode_len hg)
      rw [hr] at hC
      obtain ⟨b', o', rfl, _, _⟩ := hE2'.out.six h6
      rw [h6] at hC
      have h6' := Lib.hid h6
      have hS2 := Lib.hid (hE2'.out.six' h6)
      clear hr hg
      go_wp2_with (fail)
      refine hC.out.mono ?_
      rintro e w3 ⟨rfl, rfl⟩
      go_wp2
      go_loopw [6, 25] (fun v i wr => ∃ k : Nat, k ≤ es.length ∧ i = .int .i64 k ∧ OK In.enc 5 26 wr w2.heap.size wr.heap.size v ((es.take k).map (ren ns)) ∧ Below w2.heap.size w2 wr) (fun _ i _ => es.length - (intOf i).toNat)
      case atStart => exact ⟨0, Nat.zero_le _, rfl, OK.nil _ _ _ _, Below.refl _ _⟩
      case round =>
        obtain ⟨k, hk, rfl, ho, hbel⟩ := hrel
        rename_i u6
        have hO := Lib.hid ho
        have hbelH := Lib.hid hbel
        clear ho
        by_cases hlt : k < es.length
        · obtain ⟨b, o, rfl, ⟨_, hbB⟩, hc⟩ := In.cells (hE2.out.below hbel (by have := hBB.out; omega)) (by omega)
          obtain ⟨c1, c2, c3, c4, c5⟩ := hc k hlt
          clear hc
          have hsn := Lib.hid (map_snoc (ren ns) hlt)
          have hgood := Lib.hid (hall.out _ (List.getElem_mem hlt))
          generalize hnd : es[k] = nd at *
          obtain ⟨hd, ha, hb, hok, hm⟩ := good_parts hgood.out
          obtain ⟨op, d, a, bb, m⟩ := nd
          obtain ⟨nd, rfl⟩ := Int.eq_ofNat_of_zero_le hd.1
          obtain ⟨na, rfl⟩ := Int.eq_ofNat_of_zero_le ha.1
          obtain ⟨nb, rfl⟩ := Int.eq_ofNat_of_zero_le hb.1
          simp only at hd ha hb
          have hRR : Hid (ren ns ⟨op, nd, na, nb, m⟩ = ⟨op, ns.getD nd 0, if (fm op).a = true then ns.getD na 0 else 0, if (fm op).b = true then ns.getD nb 0 else 0, m⟩) := by simp [Hid, ren]
          generalize ren ns ⟨op, nd, na, nb, m⟩ = R at *
          have hzr := hbel.size
          have hbl : b' < wr.heap.size := by have := hS2.out.1; have := hBB'.out; omega
          have hs2 := hS2.out.2.below hbel (by have := hS2.out.1; have := hBB'.out; omega)
          have q1 := hs2 nd (by omega)
          have q2 := hs2 na (by omega)
          have q3 := hs2 nb (by omega)
          have i1 : (nd : Int) < 6 := by omega
          have i2 : (na : Int) < 6 := by omega
          have i3 : (nb : Int) < 6 := by omega
          generalize ns.getD nd 0 = vd at *
          generalize ns.getD na 0 = va at *
          generalize ns.getD nb 0 = vb at *
          have hF := Lib.hid (fun W => cdShape_any op W)
          generalize fm op = f at *
          obtain ⟨ok, fa, fb, lo, hi, cc⟩ := f
          simp only at hF hRR c1 c2 c3 c4 c5
          have hlk : ((es.take k).map (ren ns)).length = k := by simp; omega
          have hO3 := fun o1 o2 o3 => Lib.hid (show ((((wr.alloc o1).alloc o2).alloc o3).drew).ownsRow w2.heap.size 26 5 u6 k (((es.take k).map (ren ns)).flatMap In.enc) from by
            have h := (hO.out.below (((((Below.refl wr.heap.size wr).alloc (Nat.le_refl _) o1).alloc (by simp) o2).alloc (by simp; omega) o3).drew) (Nat.le_refl _)).1
            rw [hlk] at h; exact h)
          have hB3 := fun o1 o2 o3 => Lib.hid (show Below w2.heap.size w2 ((((wr.alloc o1).alloc o2).alloc o3).drew) from (((hbelH.out.alloc hzr o1).alloc (by simp; omega) o2).alloc (by simp; omega) o3).drew)
          have hk40 : k < 40 := by have := hlen.out; omega
          clear hnd hs2 hd ha hb hok hm hbel hlk
          go_wp2_with (fail)
          refine (hF.out _).mono ?_
          rintro e w' ⟨rfl, rfl⟩
          go_wp2_with (fail)
          go_region_held3 (fun w' => w'.cell? ⟨wr.heap.size, 0, none⟩ = some (.string op) ∧ w'.cell? ⟨wr.heap.size, 1, none⟩ = some (.int .i64 nd) ∧ w'.cell? ⟨wr.heap.size, 4, none⟩ = some (.int .i64 m) ∧ w'.cell? ⟨b', o' + nd, none⟩ = some (.int .i64 vd))
            (go_keep)
            (fail)
          all_goals
            cases fa <;> cases fb
            · go_wp2_with (at_builtin; refine wpList_append_own _ rfl _ _ 32 rfl w2.heap.size 26 i0 _ 5 48 Try.underlying32 hJ0.out hJ1.out hJ2.out hJ3.out rfl (by decide) _ k _ rfl (hO3 _ _ _).out ⟨wr.heap.size + 1 + 1, 0, none⟩ 1 1 (In.enc ⟨op, vd, 0, 0, m⟩) rfl rfl (five_newd ⟨op, vd, 0, 0, m⟩ (by simp)) (five_one _) (by unfold maxLen; omega) (by omega) (by simp; omega) ?_; intro v' w1 hown1 hgr1 _)
              have hown1 := Lib.hid hown1
              have hbel1 := Lib.hid ((hB3 _ _ _).out.grown hgr1 (by simp; omega) (fun j hj => (hO.out.lo j hj).1))
              have hnew : Hid (OK In.enc 5 26 w1 w2.heap.size w1.heap.size v' ((es.take (k + 1)).map (ren ns))) := by
                have hl1 : ((es.take (k + 1)).map (ren ns)).length = k + 1 := by simp; omega
                refine ⟨?_, fun j hj => (hown1.out.lt j hj).2⟩
                rw [hl1, hsn.out, flat_snoc, hRR.out]; exact hown1.out
              clear hgr1
              go_wp2
              go_roundw
              case rel => exact ⟨k + 1, by omega, by go_num, hnew.out, hbel1.out⟩
              case measure => simp [intOf]; omega
            · go_wp2_with (at_builtin; refine wpList_append_own _ rfl _ _ 32 rfl w2.heap.size 26 i0 _ 5 48 Try.underlying32 hJ0.out hJ1.out hJ2.out hJ3.out rfl (by decide) _ k _ rfl (hO3 _ _ _).out ⟨wr.heap.size + 1 + 1, 0, none⟩ 1 1 (In.enc ⟨op, vd, 0, vb, m⟩) rfl rfl (five_newd ⟨op, vd, 0, vb, m⟩ (by simp)) (five_one _) (by unfold maxLen; omega) (by omega) (by simp; omega) ?_; intro v' w1 hown1 hgr1 _)
              have hown1 := Lib.hid hown1
              have hbel1 := Lib.hid ((hB3 _ _ _).out.grown hgr1 (by simp; omega) (fun j hj => (hO.out.lo j hj).1))
              have hnew : Hid (OK In.enc 5 26 w1 w2.heap.size w1.heap.size v' ((es.take (k + 1)).map (ren ns))) := by
                have hl1 : ((es.take (k + 1)).map (ren ns)).length = k + 1 := by simp; omega
                refine ⟨?_, fun j hj => (hown1.out.lt j hj).2⟩
                rw [hl1, hsn.out, flat_snoc, hRR.out]; exact hown1.out
              clear hgr1
              go_wp2
              go_roundw
              case rel => exact ⟨k + 1, by omega, by go_num, hnew.out, hbel1.out⟩
              case measure => simp [intOf]; omega
            · go_wp2_with (at_builtin; refine wpList_append_own _ rfl _ _ 32 rfl w2.heap.size 26 i0 _ 5 48 Try.underlying32 hJ0.out hJ1.out hJ2.out hJ3.out rfl (by decide) _ k _ rfl (hO3 _ _ _).out ⟨wr.heap.size + 1 + 1, 0, none⟩ 1 1 (In.enc ⟨op, vd, va, 0, m⟩) rfl rfl (five_newd ⟨op, vd, va, 0, m⟩ (by simp)) (five_one _) (by unfold maxLen; omega) (by omega) (by simp; omega) ?_; intro v' w1 hown1 hgr1 _)
              have hown1 := Lib.hid hown1
              have hbel1 := Lib.hid ((hB3 _ _ _).out.grown hgr1 (by simp; omega) (fun j hj => (hO.out.lo j hj).1))
              have hnew : Hid (OK In.enc 5 26 w1 w2.heap.size w1.heap.size v' ((es.take (k + 1)).map (ren ns))) := by
                have hl1 : ((es.take (k + 1)).map (ren ns)).length = k + 1 := by simp; omega
                refine ⟨?_, fun j hj => (hown1.out.lt j hj).2⟩
                rw [hl1, hsn.out, flat_snoc, hRR.out]; exact hown1.out
              clear hgr1
              go_wp2
              go_roundw
              case rel => exact ⟨k + 1, by omega, by go_num, hnew.out, hbel1.out⟩
              case measure => simp [intOf]; omega
            · go_wp2_with (at_builtin; refine wpList_append_own _ rfl _ _ 32 rfl w2.heap.size 26 i0 _ 5 48 Try.underlying32 hJ0.out hJ1.out hJ2.out hJ3.out rfl (by decide) _ k _ rfl (hO3 _ _ _).out ⟨wr.heap.size + 1 + 1, 0, none⟩ 1 1 (In.enc ⟨op, vd, va, vb, m⟩) rfl rfl (five_newd ⟨op, vd, va, vb, m⟩ (by simp)) (five_one _) (by unfold maxLen; omega) (by omega) (by simp; omega) ?_; intro v' w1 hown1 hgr1 _)
              have hown1 := Lib.hid hown1
              have hbel1 := Lib.hid ((hB3 _ _ _).out.grown hgr1 (by simp; omega) (fun j hj => (hO.out.lo j hj).1))
              have hnew : Hid (OK In.enc 5 26 w1 w2.heap.size w1.heap.size v' ((es.take (k + 1)).map (ren ns))) := by
                have hl1 : ((es.take (k + 1)).map (ren ns)).length = k + 1 := by simp; omega
                refine ⟨?_, fun j hj => (hown1.out.lt j hj).2⟩
                rw [hl1, hsn.out, flat_snoc, hRR.out]; exact hown1.out
              clear hgr1
              go_wp2
              go_roundw
              case rel => exact ⟨k + 1, by omega, by go_num, hnew.out, hbel1.out⟩
              case measure => simp [intOf]; omega
        · obtain rfl : k = es.length := by omega
          go_wp2
          go_ret2
          rw [hR.out, hK.out]
          have h1 := hO.out
          rw [List.take_length] at h1
          obtain ⟨A1, c1, rfl, _⟩ := OK.form In.hk h1
          exact ⟨_, _, rfl, h1.lower hz, hbb.out.trans (hbelH.out.mono hz)⟩
end Go.Proofs.Ytjnbgnnlpeoaoaa
