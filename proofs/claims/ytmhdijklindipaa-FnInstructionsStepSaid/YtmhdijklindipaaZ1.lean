/- Texts of this proof, one behind the other: TY, FNA, B3, LawFI, OC, OB. -/
import Derived.Test.YtmhdijklindipaaZ2
import Derived.Test.YtmhdijklindipaaZ3
import Derived.Test.YtmhdijklindipaaZ8
import Derived.WalkKit
import Derived.WalkSpells
import Derived.WalkLawsBesides
import Derived.Deep.RegionLaw
import Derived.Deep.RegionHeld3
import Derived.Deep.AppendLies
import Derived.Lib.Hide
import Derived.Test.YtmhdijklindipaaZ9
import Derived.Test.YtmhdijklindipaaZ11
import Derived.Test.YtmhdijklindipaaZ13
import Derived.Test.YtmhdijklindipaaB2
import Derived.Test.YtmhdijklindipaaZ7
import Derived.Test.YtmhdijklindipaaZ12
import Derived.Test.YtmhdijklindipaaCF
import Derived.Deep.QuietTactic
import Derived.BigQuiet
import Derived.Test.YtmhdijklindipaaKMInstr
import Derived.ProofKit
import Derived.OpenShut
import Derived.ShutString
import Derived.ChangeOld
import Derived.Below
import Derived.Deep.Slices
import Derived.Deep.Fields
import Derived.Test.YtmhdijklindipaaRows
import Derived.Test.YtmhdijklindipaaDR1
/- TraceOf: plain, and the model. -/
namespace Go.Proofs.Ytmhdijklindipaa
open Go.RowKit
set_option linter.unusedVariables false
set_option maxRecDepth 100000

def trL (es : List In) (rs : List Int) (k : Nat) : List (List Int) := (List.range (k + 1)).map fun i => runL (es.take i) rs
theorem trL_len (es : List In) (rs : List Int) (k : Nat) : (trL es rs k).length = k + 1 := by simp [trL]
theorem trL_zero (es : List In) (rs : List Int) : trL es rs 0 = [rs] := rfl
theorem trL_succ (es : List In) (rs : List Int) (k : Nat) : trL es rs (k + 1) = trL es rs k ++ [runL (es.take (k + 1)) rs] := by
  unfold trL; rw [List.range_succ, List.map_append]; rfl
theorem trL_last (es : List In) (rs : List Int) (k : Nat) (h : k < (trL es rs k).length) : (trL es rs k)[k] = runL (es.take k) rs := by simp [trL]
def trOk (es : List In) (rs : List Int) : Bool := okCode es && regsOk rs
def trR (es : List In) (rs : List Int) : List (List Int) := if trOk es rs = true then trL es rs es.length else []
theorem trOk_no1 {es : List In} (rs : List Int) (h : okCode es = false) : trOk es rs = false ∧ trR es rs = [] := by
  have h1 : trOk es rs = false := by unfold trOk; rw [h]; rfl
  exact ⟨h1, by unfold trR; rw [h1]; rfl⟩
theorem trOk_no2 (es : List In) {rs : List Int} (h : regsOk rs = false) : trOk es rs = false ∧ trR es rs = [] := by
  have h1 : trOk es rs = false := by unfold trOk; rw [h]; simp
  exact ⟨h1, by unfold trR; rw [h1]; rfl⟩
theorem trOk_yes {es : List In} {rs : List Int} (h1 : okCode es = true) (h2 : regsOk rs = true) : trOk es rs = true ∧ trR es rs = trL es rs es.length := by
  have h3 : trOk es rs = true := by unfold trOk; rw [h1, h2]; rfl
  exact ⟨h3, by unfold trR; rw [if_pos h3]⟩
theorem regsOk_words {rs : List Int} (h : regsOk rs = true) : words6 rs := by
  unfold regsOk at h
  rw [Bool.and_eq_true] at h
  exact ⟨by simpa using h.1, h.2⟩
theorem trR_small (es : List In) (rs : List Int) : SmallX (trR es rs) := by
  unfold trR
  split
  · rename_i h
    unfold trOk at h
    rw [Bool.and_eq_true] at h
    have h1 := okCode_len h.1
    have h6 := regsOk_words h.2
    have hall := okCode_all h.1
    have hs : ∀ k, ((trL es rs k).map List.length).sum = 6 * (k + 1) := by
      intro k
      induction k with
      | zero => simp [trL_zero, h6.1]
      | succ k ih => rw [trL_succ, List.map_append, List.sum_append, ih]; simp [(runL_words_take hall h6 (k + 1)).1]; omega
    exact ⟨by rw [trL_len]; omega, by rw [hs]; omega⟩
  · exact ⟨by simp, by simp⟩

set_option maxHeartbeats 4000000 in
theorem sTraceOf_k (L B : Nat) (A : Option Addr) (c : Nat) (es : List In) (L' B' : Nat) (A' : Option Addr) (c' : Nat) (rs : List Int) (w : World) (hl : es.length ≤ 1048576) (hes : RS In.enc 5 w L B A es) (hB : B ≤ w.heap.size) (hn : rs.length ≤ 1048576) (hns : IS w L' B' A' rs) (hB' : B' ≤ w.heap.size) :
    Calls Try.prog 33 #[.slice A es.length c, .slice A' rs.length c'] w (ResTraceOf (trR es rs) (trOk es rs) w) := by
  have H := Lib.hid (cdCode_any L B A c es w hl hes hB)
  cases hk : okCode es
  · have hR := Lib.hid (trOk_no1 rs hk)
    rw [hk] at H
    clear hk hes hns
    go_enter Try.func33, Try.ntmps33
    go_wp2_with (fail)
    refine H.out.mono ?_
    rintro e w1 ⟨rfl, hb1⟩
    have hbh := Lib.hid hb1
    clear hb1
    go_wp2
    go_ret2
    rw [hR.out.1, hR.out.2]
    exact ⟨none, 0, rfl, OX.nil _ _ _, hbh.out⟩
  have H2 := Lib.hid fun (W : World) (hW : Below w.heap.size w W) => cdRegs_any L' B' A' c' rs W hn (hns.below hW hB')
  cases hr : regsOk rs
  · have hR := Lib.hid (trOk_no2 es hr)
    rw [hk] at H
    rw [hr] at H2
    clear hk hr hes hns
    go_enter Try.func33, Try.ntmps33
    go_wp2_with (fail)
    refine H.out.mono ?_
    rintro e w1 ⟨rfl, hb1⟩
    have hbh := Lib.hid hb1
    clear hb1
    go_wp2_with (fail)
    refine (H2.out _ hbh.out).mono ?_
    rintro e w2 ⟨rfl, rfl⟩
    go_wp2
    go_ret2
    rw [hR.out.1, hR.out.2]
    exact ⟨none, 0, rfl, OX.nil _ _ _, hbh.out⟩
  have hR := Lib.hid (trOk_yes hk hr)
  have h6 := regsOk_words hr
  have hall := Lib.hid (okCode_all hk)
  have hl40 := okCode_len hk
  have hW6 := Lib.hid fun (k : Nat) => runL_words_take hall.out h6 k
  have hRs := Lib.hid fun (k : Nat) (h : k < es.length) => runL_snoc (rs := rs) h
  have hTs := Lib.hid (trL_succ es rs)
  have hTl := Lib.hid (trL_len es rs)
  have hTa := Lib.hid (trL_last es rs)
  have hT0 := Lib.hid (trL_zero es rs)
  have H3 := Lib.hid fun (W : World) (hW : Below w.heap.size w W) => l1Own_any L' B' A' c' rs W hn (hns.below hW hB') (Nat.le_trans hB' hW.size)
  have hE := Lib.hid fun (W : World) (hW : Below w.heap.size w W) => hes.below hW hB
  have hBB := Lib.hid hB
  rw [hk] at H
  rw [hr] at H2
  clear hk hr hes hns hB hB'
  generalize trL es rs = T at *
  obtain ⟨i0, hi', hz0', hz1', hz2'⟩ := info_parts Try.infoII
  have hJ0 := Lib.hid hi'
  have hJ1 := Lib.hid hz0'
  have hJ2 := Lib.hid hz1'
  have hJ3 := Lib.hid hz2'
  clear hi' hz0' hz1' hz2'
  go_enter Try.func33, Try.ntmps33
  go_wp2_with (fail)
  refine H.out.mono ?_
  rintro e w1 ⟨rfl, hb1⟩
  have hbh := Lib.hid hb1
  clear hb1
  go_wp2_with (fail)
  refine (H2.out _ hbh.out).mono ?_
  rintro e w2 ⟨rfl, rfl⟩
  go_wp2_with (fail)
  refine (H3.out _ hbh.out).mono ?_
  rintro e w3 ⟨A3, c3, rfl, ho3, hb3⟩
  have hz1 := hbh.out.size
  have hz3 := hb3.size
  have A4 := (Below.refl w3.heap.size w3).alloc (Nat.le_refl _) (.cells #[.slice A3 rs.length c3] 27)
  have hX4 : Hid (OX (w3.alloc (.cells #[.slice A3 rs.length c3] 27)) w.heap.size (w3.alloc (.cells #[.slice A3 rs.length c3] 27)).heap.size (.slice (some ⟨w3.heap.size, 0, none⟩) 1 1) [rs]) := by
    have hcb : CB 27 (w3.alloc (.cells #[.slice A3 rs.length c3] 27)) w3.heap.size [.slice A3 rs.length c3] := heap_alloc_new w3 _
    exact OX.of (okv_one hcb (by omega) (by simp)) (RowsX.mk1 (((ho3.lower hz1).below A4 (Nat.le_refl _)).more A4.size))
  have hb4 := Lib.hid ((hbh.out.trans (hb3.mono hz1)).trans (A4.mono (by omega)))
  clear A4 ho3 hb3
  go_wp2
  generalize w3.alloc (.cells #[.slice A3 rs.length c3] 27) = W4 at *
  go_loopw [6, 22] (fun v i wr => ∃ k : Nat, k ≤ es.length ∧ i = .int .i64 k ∧ OX wr w.heap.size wr.heap.size v (T k) ∧ Below w.heap.size w wr) (fun _ i _ => es.length - (intOf i).toNat)
  case atStart => exact ⟨0, Nat.zero_le _, rfl, by rw [hT0.out]; exact hX4.out, hb4.out⟩
  case round =>
    obtain ⟨k, hk, rfl, hox, hbel⟩ := hrel
    obtain ⟨A5, c5, rfl⟩ := hox.form
    have hX := Lib.hid hox
    have hBL := Lib.hid hbel
    clear hox
    by_cases hlt : k < es.length
    · obtain ⟨b, o, rfl, ⟨_, hbB⟩, hc⟩ := In.cells (hE.out _ hbel) (by omega)
      obtain ⟨d1, d2, d3, d4, d5⟩ := hc k hlt
      have hg := Lib.hid (hall.out _ (List.getElem_mem hlt))
      have hT1 := Lib.hid (hTs.out k)
      have hRk := Lib.hid (hRs.out k hlt)
      have hw6 := Lib.hid (hW6.out k)
      have hlk := hTl.out k
      have hla := hTa.out k (by omega)
      obtain ⟨xb, xo, Ai, ci, rfl, xc, hOW⟩ := hX.out.at (i := k) (by omega)
      rw [hla, hw6.out.1] at xc
      rw [hla] at hOW
      rw [hw6.out.1] at hOW
      obtain ⟨yb, yo, rfl, ⟨_, hyb⟩, _⟩ := IS.six hOW.rs hw6.out.1
      clear hc hbel hla
      rw [hlk] at hX ⊢
      generalize es[k] = x at *
      generalize hRR : runL (es.take (k + 1)) rs = Rn at *
      generalize runL (es.take k) rs = Rk at *
      generalize hTT : T (k + 1) = Tn at *
      have hTTh := Lib.hid hTT
      clear hTT hRR hlk
      generalize T k = Tk at *
      obtain ⟨n, hn1⟩ : ∃ n, n = k + 1 := ⟨_, rfl⟩
      rw [← hn1] at hX ⊢
      have e0 : (n : Int) - 1 = (k : Int) := by omega
      have hkn : (k : Int) < (n : Int) := by omega
      have hn41 : (n : Int) ≤ 41 := by omega
      have hwk : IntKind.i64.wrap (k : Int) = (k : Int) := IntWalk.i64_in _ (by omega)
      have hn41' : n ≤ 41 := by omega
      have hN1 := Lib.hid hn1
      obtain ⟨W5, hW5⟩ : ∃ W5, W5 = wr.alloc (.cells #[.string x.op, .int .i64 x.d, .int .i64 x.a, .int .i64 x.b, .int .i64 x.m] 56) := ⟨_, rfl⟩
      have A5 : Below wr.heap.size wr W5 := by rw [hW5]; exact (Below.refl wr.heap.size wr).alloc (Nat.le_refl _) _
      have X5 : XB W5 wr.heap.size x := by rw [hW5]; exact XB.new wr x
      have hX5 := Lib.hid (show OX W5.drew w.heap.size W5.drew.heap.size (.slice (some ⟨xb, xo, none⟩) n c5) Tk from ((hX.out.below A5 (Nat.le_refl _)).more A5.size).below (Below.refl W5.heap.size W5).drew (Nat.le_refl _))
      have hB5 := Lib.hid (hBL.out.trans (A5.mono hBL.out.size))
      have hSt := Lib.hid (cdStep_any x yb yo ci Rk w.heap.size wr.heap.size W5.drew hg.out hw6.out ((hOW.rs.below A5 (Nat.le_refl _)).below (Below.refl W5.heap.size W5).drew A5.size) A5.size)
      have hBd := Lib.hid hB5.out.drew
      rw [← hRk.out] at hSt
      have xc5 := Lib.hid ((A5.cell (p := ⟨xb, xo + k, none⟩) (by
        rcases Nat.lt_or_ge xb wr.heap.size with h9 | h9
        · exact h9
        · simp [World.cell?, Array.getElem?_eq_none h9] at xc)).trans xc)
      have hW5h := Lib.hid hW5.symm
      clear hOW hn1 hg hRk hw6 A5 hW5 xc hX
      obtain ⟨op, d, a, b1, m⟩ := x
      dsimp only at d1 d2 d3 d4 d5 hSt hW5h
      go_wp2
      rw [hW5h.out]
      obtain ⟨xg, hxg⟩ : ∃ xg, xg = wr.heap.size := ⟨_, rfl⟩
      rw [← hxg] at X5 ⊢
      obtain ⟨n0, n1, n2, n3, n4⟩ := XB.cells X5
      dsimp only at n0 n1 n2 n3 n4
      have xcc := xc5.out
      have e1 : (0 : Int) ≤ (k : Int) := by omega
      clear d1 d2 d3 d4 d5 hW5h hxg X5 xc5 hBL
      go_region_law (first
        | (go_simp; go_at_call 145; (with_reducible refine hSt.out.mono ?_); rintro e w6 ⟨g6, c6, rfl, hg6, ho6, hb6⟩; have hO6 := (ho6.lower hg6).more (ho6.lo g6 rfl |>.2 |> fun _ => (ho6.1.lt g6 rfl).2); obtain ⟨vs, hvn, HL, HN, H1, HK, Hlo⟩ := snocX hX5.out hBd.out.size hb6 hO6; have hB6 := Lib.hid (hBd.out.trans (hb6.mono hBd.out.size)); have HL := Lib.hid HL; have HN := Lib.hid HN; have H1 := Lib.hid H1; have HK := Lib.hid HK; have Hlo := Lib.hid Hlo; have hz6 := Lib.hid hB6.out.size; clear ho6 hb6 hO6 hg6)
        | (refine step_append_lies _ rfl _ _ 50 rfl w.heap.size 27 i0 _ 1 24 Try.underlying50 hJ0.out hJ1.out hJ2.out hJ3.out rfl (by decide) _ n _ (by rfl) HL.out ⟨w6.heap.size, 0, none⟩ 1 1 _ (by rfl) rfl HN.out H1.out (by omega) (by unfold maxLen; omega) (by omega) (by have := hz6.out; simp; omega) (w6.heap.size + 1) (by simp) ?_; intro g' cap w7 hown7 hgr7 _ _))
      all_goals
        have hX7 := HK.out g' cap w7 hown7 hgr7
        have hB7 := Lib.hid ((hB6.out.alloc hz6.out (.cells #[.slice (some ⟨g6, 0, none⟩) 6 c6] 27)).grown hgr7 (by have := hz6.out; simp; omega) (fun j hj => Hlo.out j hj))
        have hX8 := Lib.hid (show OX w7 w.heap.size w7.heap.size (.slice (some ⟨g', 0, none⟩) (n + 1) cap) Tn from by rw [hT1.out]; exact hX7)
        clear hX7 hown7 hgr7 xcc n0 n1 n2 n3 n4
        go_wp2
        go_roundw
        case rel => exact ⟨k + 1, by omega, by go_num, by rw [hTTh.out]; exact hX8.out, hB7.out⟩
        case measure => simp [intOf]; omega
    · obtain rfl : k = es.length := by omega
      clear hbel
      go_wp2
      go_ret2
      rw [hR.out.1, hR.out.2]
      exact ⟨A5, c5, rfl, hX.out, hBL.out⟩
end Go.Proofs.Ytmhdijklindipaa

/- Chapter 2, plain: swapped neighbours, renamed registers, dead code. -/
namespace Go.Proofs.Ytmhdijklindipaa
open Go.RowKit
set_option linter.unusedVariables false
set_option maxRecDepth 100000

theorem mem_put1 (a b r : Int) : r ∈ put (put [] a) b ↔ r = a ∨ r = b := by
  rw [put_nil]
  unfold put
  by_cases h1 : a < b
  · simp [h1]
  · by_cases h2 : a = b
    · subst h2; simp
    · simp [h1, h2]; exact or_comm
theorem mem_reads {x : In} {r : Int} : r ∈ readsL x ↔ ((fm x.op).a = true ∧ r = x.a) ∨ ((fm x.op).b = true ∧ r = x.b) := by
  cases ha : (fm x.op).a <;> cases hb : (fm x.op).b
  · rw [reads_ff x (a := true) (b := true) ha hb]; simp
  · rw [reads_ft x ha hb, put_nil]; simp
  · rw [reads_tf x ha hb, put_nil]; simp
  · rw [reads_tt x ha hb, mem_put1]; simp
theorem vOf_a {s : ByteArray} (hok : (fm s).ok = true) (h : (fm s).a = false) (m a a' b : Int) : vOf s m a b = vOf s m a' b := by
  rcases cop_cases s with h1|h1|h1|h1|h1|h1|h1|h1|h1|h1|h1|h1|h1|h1|h1|h1|h1|h1|h1|h1|h1
  all_goals first | (simp [vOf, h1]; done) | (simp [fm, h1] at h; done) | (rw [fm_no h1] at hok; cases hok)
theorem vOf_b {s : ByteArray} (hok : (fm s).ok = true) (h : (fm s).b = false) (m a b b' : Int) : vOf s m a b = vOf s m a b' := by
  rcases cop_cases s with h1|h1|h1|h1|h1|h1|h1|h1|h1|h1|h1|h1|h1|h1|h1|h1|h1|h1|h1|h1|h1
  all_goals first | (simp [vOf, ap, h1]; done) | (simp [fm, h1] at h; done) | (rw [fm_no h1] at hok; cases hok)
theorem vOf_reads {x : In} {rs rs' : List Int} (hx : goodIn x = true) (h : ∀ r ∈ readsL x, rs.getD r.toNat 0 = rs'.getD r.toNat 0) :
    vOf x.op x.m (rs.getD x.a.toNat 0) (rs.getD x.b.toNat 0) = vOf x.op x.m (rs'.getD x.a.toNat 0) (rs'.getD x.b.toNat 0) := by
  have hok := (good_parts hx).2.2.2.1
  have e1 : vOf x.op x.m (rs.getD x.a.toNat 0) (rs.getD x.b.toNat 0) = vOf x.op x.m (rs'.getD x.a.toNat 0) (rs.getD x.b.toNat 0) := by
    cases ha : (fm x.op).a
    · exact vOf_a hok ha _ _ _ _
    · rw [h x.a (mem_reads.2 (.inl ⟨ha, rfl⟩))]
  have e2 : vOf x.op x.m (rs'.getD x.a.toNat 0) (rs.getD x.b.toNat 0) = vOf x.op x.m (rs'.getD x.a.toNat 0) (rs'.getD x.b.toNat 0) := by
    cases hb : (fm x.op).b
    · exact vOf_b hok hb _ _ _ _
    · rw [h x.b (mem_reads.2 (.inr ⟨hb, rfl⟩))]
  rw [e1, e2]
theorem getD_set9 {xs : List Int} {k i : Nat} (v : Int) (hk : k < xs.length) : (xs.set k v).getD i 0 = if k = i then v else xs.getD i 0 := by
  rw [List.getD_eq_getElem?_getD, List.getElem?_set]
  by_cases e : k = i
  · subst e; simp [hk]
  · rw [if_neg e, if_neg e, ← List.getD_eq_getElem?_getD]
theorem stepL_len (x : In) (rs : List Int) : (stepL x rs).length = rs.length := by unfold stepL; rw [List.length_set]
theorem runL_len (es : List In) : ∀ rs, (runL es rs).length = rs.length := by
  induction es with
  | nil => intro rs; rfl
  | cons x l ih => intro rs; show (runL l (stepL x rs)).length = _; rw [ih, stepL_len]
theorem runL_app (a b : List In) (rs : List Int) : runL (a ++ b) rs = runL b (runL a rs) := by unfold runL; rw [List.foldl_append]
theorem runL_cons (x : In) (l : List In) (rs : List Int) : runL (x :: l) rs = runL l (stepL x rs) := rfl
theorem sumC_from (es : List In) : ∀ n, es.foldl (fun n x => n + (fm x.op).c) n = n + sumC es := by
  unfold sumC
  induction es with
  | nil => intro n; simp
  | cons x l ih => intro n; rw [List.foldl_cons, List.foldl_cons, ih, ih (0 + _)]; omega
theorem sumC_cons (x : In) (l : List In) : sumC (x :: l) = (fm x.op).c + sumC l := by
  show (x :: l).foldl _ 0 = _
  rw [List.foldl_cons, sumC_from]; omega
theorem sumC_app (a b : List In) : sumC (a ++ b) = sumC a + sumC b := by
  induction a with
  | nil => simp [sumC]
  | cons x l ih => rw [List.cons_append, sumC_cons, sumC_cons, ih]; omega
theorem step_get {x : In} {rs : List Int} (hx : goodIn x = true) (hl : rs.length = 6) (i : Nat) : (stepL x rs).getD i 0 = if x.d.toNat = i then vOf x.op x.m (rs.getD x.a.toNat 0) (rs.getD x.b.toNat 0) else rs.getD i 0 := by
  have hd := (good_parts hx).1
  exact getD_set9 _ (by omega)

/- Independent neighbours. -/
theorem step_swap {x y : In} {rs : List Int} (hx : goodIn x = true) (hy : goodIn y = true) (hf : freeB x y = true) (hl : rs.length = 6) : stepL y (stepL x rs) = stepL x (stepL y rs) := by
  have hdx := (good_parts hx).1
  have hdy := (good_parts hy).1
  unfold freeB at hf
  simp only [Bool.and_eq_true, Bool.not_eq_true'] at hf
  obtain ⟨⟨h1, h2⟩, h3⟩ := hf
  have hne : x.d ≠ y.d := by simpa using h1
  have hmem : ∀ {l : List Int} {n : Int}, hasI l n = false → ∀ r ∈ l, r ≠ n := fun {l n} h r hr e => by
    unfold hasI at h
    rw [List.any_eq_false] at h
    exact h r hr (by simpa using e)
  have hr1 := hmem h2
  have hr2 := hmem h3
  have e1 := vOf_reads (rs := stepL x rs) (rs' := rs) hy (fun r hr => by
    rw [step_get hx hl, if_neg]
    have hi := reads_in hy r hr
    have := hr2 r hr
    unfold In6 at hi; omega)
  have e2 := vOf_reads (rs := stepL y rs) (rs' := rs) hx (fun r hr => by
    rw [step_get hy hl, if_neg]
    have hi := reads_in hx r hr
    have := hr1 r hr
    unfold In6 at hi; omega)
  have g1 : stepL y (stepL x rs) = (stepL x rs).set y.d.toNat (vOf y.op y.m (rs.getD y.a.toNat 0) (rs.getD y.b.toNat 0)) := by rw [← e1]; rfl
  have g2 : stepL x (stepL y rs) = (stepL y rs).set x.d.toNat (vOf x.op x.m (rs.getD x.a.toNat 0) (rs.getD x.b.toNat 0)) := by rw [← e2]; rfl
  rw [g1, g2]
  unfold stepL
  exact List.set_comm _ _ (by omega)
theorem swap_split {es : List In} {k : Nat} (h : k + 1 < es.length) : es = es.take k ++ es[k] :: es[k + 1] :: es.drop (k + 2) := by
  rw [← List.drop_eq_getElem_cons (by omega), ← List.drop_eq_getElem_cons (by omega), List.take_append_drop]
theorem swap_list {es : List In} {k : Nat} (h : k + 1 < es.length) : (es.set k es[k + 1]).set (k + 1) es[k] = es.take k ++ es[k + 1] :: es[k] :: es.drop (k + 2) := by
  apply List.ext_getElem
  · simp; omega
  · intro i h1 h2
    simp only [List.getElem_set, List.getElem_append, List.length_take, List.getElem_take, List.getElem_cons, List.getElem_drop]
    repeat' split
    all_goals first | rfl | omega | skip
    all_goals congr 1; omega
theorem swap_run {es : List In} {k : Nat} (h : k + 1 < es.length) (hg : ∀ x ∈ es, goodIn x = true) (hf : freeB es[k] es[k + 1] = true) {rs : List Int} (hl : rs.length = 6) : runL ((es.set k es[k + 1]).set (k + 1) es[k]) rs = runL es rs := by
  rw [swap_list h]
  conv => rhs; rw [swap_split h]
  rw [runL_app, runL_app, runL_cons, runL_cons, runL_cons, runL_cons]
  congr 1
  exact (step_swap (hg _ (List.getElem_mem _)) (hg _ (List.getElem_mem _)) hf (by rw [runL_len]; exact hl)).symm
theorem freeB_comm (x y : In) : freeB x y = freeB y x := by
  rw [free_touch, free_touch, Bool.and_comm]
theorem getD_in9 {es : List In} {k : Nat} (h : k < es.length) : es.getD k zeroIn = es[k] := by rw [List.getD_eq_getElem?_getD, List.getElem?_eq_getElem h]; rfl
theorem swOk_parts9 {es : List In} {i : Int} (h : swOk es i = true) : ∃ k : Nat, i = k ∧ ∃ hk : k + 1 < es.length, okCode es = true ∧ freeB es[k] es[k + 1] = true ∧ swapR es i = (es.set k es[k + 1]).set (k + 1) es[k] := by
  have h0 := h
  simp only [swOk, Bool.and_eq_true] at h0
  obtain ⟨⟨h1, h2⟩, h3⟩ := h0
  obtain ⟨k, rfl, hk⟩ := inR_nat h2
  rw [Int.toNat_natCast, getD_in9 (by omega), getD_in9 hk] at h3
  refine ⟨k, rfl, hk, h1, h3, ?_⟩
  unfold swapR
  rw [if_pos h, Int.toNat_natCast, getD_in9 (k := k) (by omega), getD_in9 (k := k + 1) hk]
theorem swapR_ok {es : List In} {i : Int} (h : swOk es i = true) : okCode (swapR es i) = true ∧ (swapR es i).length = es.length := by
  obtain ⟨k, rfl, hk, h1, h2, e⟩ := swOk_parts9 h
  rw [e]
  refine ⟨?_, by simp⟩
  have hl := okCode_len h1
  have ha := okCode_all h1
  unfold okCode
  rw [Bool.and_eq_true, List.all_eq_true]
  refine ⟨decide_eq_true (by simpa using hl), fun x hx => ?_⟩
  rcases List.mem_or_eq_of_mem_set hx with hx | rfl
  · rcases List.mem_or_eq_of_mem_set hx with hx | rfl
    · exact ha _ hx
    · exact ha _ (List.getElem_mem _)
  · exact ha _ (List.getElem_mem _)
theorem swap_swap {es : List In} {i : Int} (h : swOk es i = true) : swOk (swapR es i) i = true ∧ swapR (swapR es i) i = es := by
  obtain ⟨hok, hln⟩ := swapR_ok h
  obtain ⟨k, rfl, hk, h1, h2, e⟩ := swOk_parts9 h
  have a1 : (swapR es k).getD k zeroIn = es[k + 1] := by rw [e, List.getD_eq_getElem?_getD, List.getElem?_set_ne (by omega), List.getElem?_set_self (by omega)]; rfl
  have a2 : (swapR es k).getD (k + 1) zeroIn = es[k] := by rw [e, List.getD_eq_getElem?_getD, List.getElem?_set_self (by simp; exact hk)]; rfl
  have g : swOk (swapR es k) k = true := by
    unfold swOk
    rw [hok, Int.toNat_natCast, a1, a2, freeB_comm, h2, (inR_iff _ _ _).2 (by rw [hln]; omega)]; rfl
  refine ⟨g, ?_⟩
  rw [show swapR (swapR es k) k = if swOk (swapR es k) k = true then ((swapR es k).set (k : Int).toNat ((swapR es k).getD ((k : Int).toNat + 1) zeroIn)).set ((k : Int).toNat + 1) ((swapR es k).getD (k : Int).toNat zeroIn) else [] from rfl, if_pos g, Int.toNat_natCast, a1, a2, e]
  apply List.ext_getElem
  · simp
  · intro i h1 h2
    simp only [List.getElem_set]
    repeat' split
    all_goals first | rfl | (subst_vars; rfl) | omega

/- Renamed registers. -/
def relN (ns rs rs' : List Int) : Prop := rs'.length = 6 ∧ ∀ r, r < 6 → rs'.getD (ns.getD r 0).toNat 0 = rs.getD r 0
theorem names_parts {ns : List Int} (h : namesOk ns = true) : ns.length = 6 ∧ (∀ r, r < 6 → 0 ≤ ns.getD r 0 ∧ ns.getD r 0 ≤ 5) ∧ ∀ r q, r < 6 → q < 6 → ns.getD r 0 = ns.getD q 0 → r = q := by
  have hl := names6 h
  unfold namesOk onceB at h
  rw [Bool.and_eq_true, Bool.and_eq_true] at h
  obtain ⟨⟨_, h2⟩, h3⟩ := h
  have h3 := of_decide_eq_true h3
  have gd : ∀ r (hr : r < ns.length), ns.getD r 0 = ns[r] := fun r hr => by rw [List.getD_eq_getElem?_getD, List.getElem?_eq_getElem hr]; rfl
  refine ⟨hl, fun r hr => ?_, fun r q hr hq e => ?_⟩
  · rw [gd r (by omega)]
    unfold allIn at h2
    rw [List.all_eq_true] at h2
    exact (inR_iff _ _ _).1 (h2 _ (List.getElem_mem _))
  · rw [gd r (by omega), gd q (by omega)] at e
    have hp := List.pairwise_iff_getElem.1 h3
    rcases Nat.lt_trichotomy r q with h | h | h
    · exact absurd e (hp r q (by omega) (by omega) h)
    · exact h
    · exact absurd e.symm (hp q r (by omega) (by omega) h)
theorem ren_step {ns : List Int} (hn : namesOk ns = true) {x : In} (hx : goodIn x = true) {rs rs' : List Int} (hl : rs.length = 6) (h : relN ns rs rs') : relN ns (stepL x rs) (stepL (ren ns x) rs') := by
  obtain ⟨hl', hr⟩ := h
  obtain ⟨n6, nb, ni⟩ := names_parts hn
  obtain ⟨hd, ha, hb, hok, _⟩ := good_parts hx
  have hv : vOf x.op x.m (rs'.getD (ren ns x).a.toNat 0) (rs'.getD (ren ns x).b.toNat 0) = vOf x.op x.m (rs.getD x.a.toNat 0) (rs.getD x.b.toNat 0) := by
    have e1 : vOf x.op x.m (rs'.getD (ren ns x).a.toNat 0) (rs'.getD (ren ns x).b.toNat 0) = vOf x.op x.m (rs.getD x.a.toNat 0) (rs'.getD (ren ns x).b.toNat 0) := by
      cases h1 : (fm x.op).a
      · exact vOf_a hok h1 _ _ _ _
      · have : (ren ns x).a = ns.getD x.a.toNat 0 := by unfold ren; simp only; rw [if_pos h1]
        rw [this, hr _ (by omega)]
    rw [e1]
    cases h1 : (fm x.op).b
    · exact vOf_b hok h1 _ _ _ _
    · have : (ren ns x).b = ns.getD x.b.toNat 0 := by unfold ren; simp only; rw [if_pos h1]
      rw [this, hr _ (by omega)]
  have hdb := nb x.d.toNat (by omega)
  refine ⟨by rw [stepL_len, hl'], fun r hr6 => ?_⟩
  have hnb := nb r hr6
  have s1 : stepL (ren ns x) rs' = rs'.set (ns.getD x.d.toNat 0).toNat (vOf x.op x.m (rs.getD x.a.toNat 0) (rs.getD x.b.toNat 0)) := by rw [← hv]; rfl
  rw [s1, step_get hx hl, getD_set9 _ (by omega)]
  by_cases e : x.d.toNat = r
  · rw [if_pos e, if_pos (by rw [e])]
  · rw [if_neg e, if_neg, hr r hr6]
    intro e2
    exact e (ni _ _ (by omega) hr6 (by omega))
theorem ren_run {ns : List Int} (hn : namesOk ns = true) : ∀ {es : List In}, (∀ x ∈ es, goodIn x = true) → ∀ {rs rs' : List Int}, rs.length = 6 → relN ns rs rs' → relN ns (runL es rs) (runL (es.map (ren ns)) rs')
  | [], _, rs, rs', _, h => h
  | x :: l, hg, rs, rs', hl, h => by
    rw [List.map_cons, runL_cons, runL_cons]
    exact ren_run hn (fun y hy => hg y (by simp [hy])) (by rw [stepL_len]; exact hl) (ren_step hn (hg x (by simp)) hl h)
theorem ren_cost (ns : List Int) (es : List In) : sumC (es.map (ren ns)) = sumC es := by
  induction es with
  | nil => rfl
  | cons x l ih => rw [List.map_cons, sumC_cons, sumC_cons, ih]; rfl
/-- The words under their names. -/
def mvN (ns rs : List Int) (k : Nat) : List Int := (List.range k).foldl (fun m r => m.set (ns.getD r 0).toNat (rs.getD r 0)) (List.replicate 6 0)
theorem mvN_succ (ns rs : List Int) (k : Nat) : mvN ns rs (k + 1) = (mvN ns rs k).set (ns.getD k 0).toNat (rs.getD k 0) := by unfold mvN; rw [List.range_succ, List.foldl_append]; rfl
theorem mvN_len (ns rs : List Int) : ∀ k, (mvN ns rs k).length = 6
  | 0 => by simp [mvN]
  | k + 1 => by rw [mvN_succ, List.length_set, mvN_len ns rs k]
theorem mvN_get {ns : List Int} (hn : namesOk ns = true) (rs : List Int) : ∀ k, k ≤ 6 → ∀ r, r < k → (mvN ns rs k).getD (ns.getD r 0).toNat 0 = rs.getD r 0
  | 0, _, r, hr => by omega
  | k + 1, hk, r, hr => by
    obtain ⟨n6, nb, ni⟩ := names_parts hn
    have h1 := nb k (by omega)
    have h2 := nb r (by omega)
    rw [mvN_succ, getD_set9 _ (by rw [mvN_len]; omega)]
    by_cases e : k = r
    · subst e; rw [if_pos rfl]
    · rw [if_neg fun e2 => e (ni _ _ (by omega) (by omega) (by omega))]
      exact mvN_get hn rs k (by omega) r (by omega)
theorem mvN_rel {ns : List Int} (hn : namesOk ns = true) (rs : List Int) : relN ns rs (mvN ns rs 6) := ⟨mvN_len _ _ _, fun r hr => mvN_get hn rs 6 (by omega) r hr⟩

/- Dead code. -/
def agr (bs : List Bool) (rs rs' : List Int) : Prop := ∀ i, i < 6 → bs.getD i false = true → rs.getD i 0 = rs'.getD i 0
theorem bkB_get {bs : List Bool} (hb : bs.length = 6) {x : In} (hx : goodIn x = true) {i : Nat} (hi : i < 6) : (bkB bs x).getD i false = true ↔ (((i : Int) ∈ readsL x) ∨ (x.d.toNat ≠ i ∧ bs.getD i false = true)) := by
  have hd := (good_parts hx).1
  have h := setsB_get (readsL x) (bs.set x.d.toNat false) (reads_in hx) (by rw [List.length_set]; exact hb) i hi
  have e : bkB bs x = setsB (bs.set x.d.toNat false) (readsL x) := by unfold bkB bkTo setsB; rw [List.take_length]
  rw [e, h, getDB_set _ _ _ (by omega)]
  by_cases e2 : x.d.toNat = i
  · rw [if_pos e2]; simp [e2]
  · rw [if_neg e2]; simp [e2, or_comm]
theorem agr_step {bs : List Bool} (hb : bs.length = 6) {x : In} (hx : goodIn x = true) {rs rs' : List Int} (hl : rs.length = 6) (hl' : rs'.length = 6) (h : agr (bkB bs x) rs rs') : agr bs (stepL x rs) (stepL x rs') := by
  intro i hi hbi
  rw [step_get hx hl, step_get hx hl']
  by_cases e : x.d.toNat = i
  · rw [if_pos e, if_pos e]
    refine vOf_reads hx fun r hr => ?_
    have h6 := reads_in hx r hr
    unfold In6 at h6
    obtain ⟨q, rfl⟩ := Int.eq_ofNat_of_zero_le h6.1
    rw [Int.toNat_natCast]
    exact h q (by omega) ((bkB_get hb hx (by omega)).2 (.inl hr))
  · rw [if_neg e, if_neg e]
    exact h i hi ((bkB_get hb hx hi).2 (.inr ⟨e, hbi⟩))
theorem agr_dead {bs : List Bool} {x : In} (hx : goodIn x = true) {rs rs' : List Int} (hl : rs.length = 6) (hd : bs.getD x.d.toNat false = false) (h : agr bs rs rs') : agr bs (stepL x rs) rs' := by
  intro i hi hbi
  rw [step_get hx hl, if_neg]
  · exact h i hi hbi
  · intro e; rw [e, hbi] at hd; cases hd
theorem ddS_cons (bs : List Bool) (x : In) (cs : List In) : ddS bs (x :: cs) = ddStep x (ddS bs cs) := rfl
theorem dd_run {bs : List Bool} (hb : bs.length = 6) : ∀ {cs : List In}, (∀ x ∈ cs, goodIn x = true) → ∀ {rs rs' : List Int}, rs.length = 6 → rs'.length = 6 → agr (ddS bs cs).2 rs rs' → agr bs (runL cs rs) (runL (ddS bs cs).1 rs')
  | [], _, rs, rs', _, _, h => h
  | x :: cs, hg, rs, rs', hl, hl', h => by
    have hx := hg x (by simp)
    have hg' : ∀ y ∈ cs, goodIn y = true := fun y hy => hg y (by simp [hy])
    have hl2 : (ddS bs cs).2.length = 6 := by rw [(ddS_len bs cs).2]; exact hb
    rw [ddS_cons] at h ⊢
    unfold ddStep at h ⊢
    rw [runL_cons]
    cases hk : (ddS bs cs).2.getD x.d.toNat false
    · rw [hk] at h
      simp only [Bool.false_eq_true, if_false] at h ⊢
      exact dd_run hb hg' (by rw [stepL_len]; exact hl) hl' (agr_dead hx hl hk h)
    · rw [hk] at h
      simp only [if_true] at h ⊢
      rw [runL_cons]
      exact dd_run hb hg' (by rw [stepL_len]; exact hl) (by rw [stepL_len]; exact hl') (agr_step hl2 hx hl hl' h)
theorem dd_sub {bs : List Bool} (hb : bs.length = 6) : ∀ {cs : List In}, (∀ x ∈ cs, goodIn x = true) → ∀ i, i < 6 → (ddS bs cs).2.getD i false = true → (lvS bs cs).getD i false = true
  | [], _, i, hi, h => h
  | x :: cs, hg, i, hi, h => by
    have hx := hg x (by simp)
    have ih := dd_sub hb (cs := cs) fun y hy => hg y (by simp [hy])
    have hl2 : (ddS bs cs).2.length = 6 := by rw [(ddS_len bs cs).2]; exact hb
    have hl3 : (lvS bs cs).length = 6 := by rw [lvS_len]; exact hb
    show (bkB (lvS bs cs) x).getD i false = true
    rw [bkB_get hl3 hx hi]
    rw [ddS_cons] at h
    unfold ddStep at h
    cases hk : (ddS bs cs).2.getD x.d.toNat false
    · rw [hk] at h
      simp only [Bool.false_eq_true, if_false] at h
      refine .inr ⟨fun e => ?_, ih i hi h⟩
      rw [e, h] at hk; cases hk
    · rw [hk] at h
      simp only [if_true] at h
      rcases (bkB_get hl2 hx hi).1 h with h1 | ⟨h1, h2⟩
      · exact .inl h1
      · exact .inr ⟨h1, ih i hi h2⟩
theorem dd_idem (bs : List Bool) : ∀ cs : List In, ddS bs (ddS bs cs).1 = ddS bs cs
  | [] => rfl
  | x :: cs => by
    have ih := dd_idem bs cs
    rw [ddS_cons]
    unfold ddStep
    cases hk : (ddS bs cs).2.getD x.d.toNat false
    · simp only [Bool.false_eq_true, if_false]; exact ih
    · simp only [if_true]
      rw [ddS_cons, ih]
      unfold ddStep
      rw [hk]; rfl
end Go.Proofs.Ytmhdijklindipaa

namespace Go.Proofs.Ytmhdijklindipaa
open Go.RowKit

def apOk (s : ByteArray) (a b : Int) : Bool := isW a && isW b && (isOne s || isTwo s) && !(isOne s && b != 0)
def apR (s : ByteArray) (a b : Int) : Int := if apOk s a b = true then ap s a b else 0

set_option maxHeartbeats 1000000 in
theorem sApplyOp_any (s : ByteArray) (a b : Int) (w : World) :
    Calls Try.prog 25 #[.string s, .int .i64 a, .int .i64 b] w fun e w' => e = .returned (.tuple #[.int .i64 (apR s a b), .bool (apOk s a b)]) ∧ Below w.heap.size w w' := by
  have hB := Below.refl w.heap.size w
  have hB2 := hB.alloc (Nat.le_refl _) (.cells opArr 9)
  cases h1 : isW a
  · have hr : Hid (apOk s a b = false) := by simp [Hid, apOk, h1]
    go_enter Try.func25, Try.ntmps25
    go_wp2_with (go_at_call 118; refine (exWord_w _ _).mono ?_; rintro e w' ⟨rfl, rfl⟩)
    go_ret2
    exact ⟨by rw [apR, hr.out]; rfl, hB⟩
  cases h2 : isW b
  · have hr : Hid (apOk s a b = false) := by simp [Hid, apOk, h2]
    go_enter Try.func25, Try.ntmps25
    go_wp2_with (go_at_call 118; refine (exWord_w _ _).mono ?_; rintro e w' ⟨rfl, rfl⟩)
    go_ret2
    exact ⟨by rw [apR, hr.out]; rfl, hB⟩
  have ha := (isW_iff a).1 h1
  have hb := (isW_iff b).1 h2
  obtain ⟨ha1, ha2⟩ := ha
  obtain ⟨hb1, hb2⟩ := hb
  by_cases h3 : isOne s = true
  · have hop : Hid (isOp s = true) := by simp [Hid, isOp, h3]
    by_cases h4 : b = 0
    · subst h4
      have hr : Hid (apOk s a 0 = true) := by simp [Hid, apOk, h1, h2, h3]
      go_enter Try.func25, Try.ntmps25
      go_wp2_with (first | (go_at_call 118; refine (exWord_w _ _).mono ?_; rintro e w' ⟨rfl, rfl⟩) | (go_at_call 127; refine (exOne_any _ _).mono ?_; rintro e w' ⟨rfl, rfl⟩) | (go_at_call 133; refine (exApply_any s a 0 _ ha1 ha2 hb1 hb2 hop.out).mono ?_; rintro e w' ⟨rfl, rfl⟩))
      go_ret2
      exact ⟨by rw [apR, hr.out]; rfl, hB⟩
    · have hr : Hid (apOk s a b = false) := by simp [Hid, apOk, h1, h2, h3, h4]
      go_enter Try.func25, Try.ntmps25
      go_wp2_with (first | (go_at_call 118; refine (exWord_w _ _).mono ?_; rintro e w' ⟨rfl, rfl⟩) | (go_at_call 127; refine (exOne_any _ _).mono ?_; rintro e w' ⟨rfl, rfl⟩))
      go_ret2
      exact ⟨by rw [apR, hr.out]; rfl, hB⟩
  · simp at h3
    by_cases h4 : isTwo s = true
    · have hop : Hid (isOp s = true) := by simp [Hid, isOp, h4]
      have hr : Hid (apOk s a b = true) := by simp [Hid, apOk, h1, h2, h3, h4]
      go_enter Try.func25, Try.ntmps25
      go_wp2_with (first | (go_at_call 118; refine (exWord_w _ _).mono ?_; rintro e w' ⟨rfl, rfl⟩) | (go_at_call 127; refine (exOne_any _ _).mono ?_; rintro e w' ⟨rfl, rfl⟩) | (go_at_call 132; refine (exTwo_any _ _).mono ?_; rintro e w' ⟨rfl, rfl⟩) | (go_at_call 133; refine (exApply_any s a b _ ha1 ha2 hb1 hb2 hop.out).mono ?_; rintro e w' ⟨rfl, rfl⟩))
      go_ret2
      exact ⟨by rw [apR, hr.out]; rfl, hB2⟩
    · have hr : Hid (apOk s a b = false) := by simp [Hid, apOk, h3, h4]
      simp at h4
      go_enter Try.func25, Try.ntmps25
      go_wp2_with (first | (go_at_call 118; refine (exWord_w _ _).mono ?_; rintro e w' ⟨rfl, rfl⟩) | (go_at_call 127; refine (exOne_any _ _).mono ?_; rintro e w' ⟨rfl, rfl⟩) | (go_at_call 132; refine (exTwo_any _ _).mono ?_; rintro e w' ⟨rfl, rfl⟩))
      go_ret2
      exact ⟨by rw [apR, hr.out]; rfl, hB2⟩

set_option maxHeartbeats 1000000 in
theorem iApplyOp_any (s : ByteArray) (a b : Int) (w : World) :
    Calls Try.prog 24 #[.string s, .int .i64 a, .int .i64 b] w fun e w' => e = .returned (.tuple #[.int .i64 (apR s a b), .bool (apOk s a b)]) ∧ w = w' := by
  rcases ar_cases s with ⟨har, h3, h4⟩|⟨har, h3, h4⟩|⟨har, h3, h4⟩|⟨har, h3, h4⟩
  · have hr : Hid (apOk s a b = false) := by simp [Hid, apOk, h3, h4]
    go_enter Try.func24, Try.ntmps24
    go_wp2_with (first | (go_at_call 130; refine (operandCount_any _ _).mono ?_; rintro e w' ⟨rfl, rfl⟩))
    go_ret2
    exact ⟨by rw [apR, hr.out]; rfl, rfl⟩
  · have hop : Hid (isOp s = true) := by simp [Hid, isOp, h3]
    by_cases h5 : b = 0
    · subst h5
      by_cases h1 : isW a = true
      · have hr : Hid (apOk s a 0 = true) := by simp [Hid, apOk, h1, h3, h4, show isW 0 = true from rfl]
        have h2 : isW 0 = true := rfl
        obtain ⟨ha1, ha2⟩ := (isW_iff a).1 h1
        go_enter Try.func24, Try.ntmps24
        go_wp2_with (first | (go_at_call 130; refine (operandCount_any _ _).mono ?_; rintro e w' ⟨rfl, rfl⟩) | (go_at_call 115; refine (isWord_any _ _).mono ?_; rintro e w' ⟨rfl, rfl⟩) | (go_at_call 131; refine (valueOfOp_any s a 0 _ ha1 ha2 (by omega) (by omega) hop.out).mono ?_; rintro e w' ⟨rfl, rfl⟩))
        go_ret2
        exact ⟨by rw [apR, hr.out]; rfl, rfl⟩
      · have hr : Hid (apOk s a 0 = false) := by simp [Hid, apOk, h1]
        simp at h1
        go_enter Try.func24, Try.ntmps24
        go_wp2_with (first | (go_at_call 130; refine (operandCount_any _ _).mono ?_; rintro e w' ⟨rfl, rfl⟩) | (go_at_call 115; refine (isWord_any _ _).mono ?_; rintro e w' ⟨rfl, rfl⟩))
        go_ret2
        exact ⟨by rw [apR, hr.out]; rfl, rfl⟩
    · have hr : Hid (apOk s a b = false) := by simp [Hid, apOk, h3, h5]
      go_enter Try.func24, Try.ntmps24
      go_wp2_with (first | (go_at_call 130; refine (operandCount_any _ _).mono ?_; rintro e w' ⟨rfl, rfl⟩))
      go_ret2
      exact ⟨by rw [apR, hr.out]; rfl, rfl⟩
  · have hop : Hid (isOp s = true) := by simp [Hid, isOp, h4]
    cases h1 : isW a
    · have hr : Hid (apOk s a b = false) := by simp [Hid, apOk, h1]
      go_enter Try.func24, Try.ntmps24
      go_wp2_with (first | (go_at_call 130; refine (operandCount_any _ _).mono ?_; rintro e w' ⟨rfl, rfl⟩) | (go_at_call 115; refine (isWord_any _ _).mono ?_; rintro e w' ⟨rfl, rfl⟩))
      go_ret2
      exact ⟨by rw [apR, hr.out]; rfl, rfl⟩
    cases h2 : isW b
    · have hr : Hid (apOk s a b = false) := by simp [Hid, apOk, h2]
      go_enter Try.func24, Try.ntmps24
      go_wp2_with (first | (go_at_call 130; refine (operandCount_any _ _).mono ?_; rintro e w' ⟨rfl, rfl⟩) | (go_at_call 115; refine (isWord_any _ _).mono ?_; rintro e w' ⟨rfl, rfl⟩))
      go_ret2
      exact ⟨by rw [apR, hr.out]; rfl, rfl⟩
    have hr : Hid (apOk s a b = true) := by simp [Hid, apOk, h1, h2, h3, h4]
    obtain ⟨ha1, ha2⟩ := (isW_iff a).1 h1
    obtain ⟨hb1, hb2⟩ := (isW_iff b).1 h2
    go_enter Try.func24, Try.ntmps24
    go_wp2_with (first | (go_at_call 130; refine (operandCount_any _ _).mono ?_; rintro e w' ⟨rfl, rfl⟩) | (go_at_call 115; refine (isWord_any _ _).mono ?_; rintro e w' ⟨rfl, rfl⟩) | (go_at_call 131; refine (valueOfOp_any s a b _ ha1 ha2 hb1 hb2 hop.out).mono ?_; rintro e w' ⟨rfl, rfl⟩))
    go_ret2
    exact ⟨by rw [apR, hr.out]; rfl, rfl⟩
  · have hr : Hid (apOk s a b = false) := by simp [Hid, apOk, h3, h4]
    go_enter Try.func24, Try.ntmps24
    go_wp2_with (first | (go_at_call 130; refine (operandCount_any _ _).mono ?_; rintro e w' ⟨rfl, rfl⟩))
    go_ret2
    exact ⟨by rw [apR, hr.out]; rfl, rfl⟩

end Go.Proofs.Ytmhdijklindipaa

/- FnInstructionsStep: an instruction writes one register, and its cost is told; ops with a word stand for ops with two registers. -/
namespace Go.Proofs.Ytmhdijklindipaa
open Go.RowKit
set_option linter.unusedVariables false
set_option maxRecDepth 100000

theorem XB.upD {W W' : World} {g : Nat} {x : In} (h : XB W g x) (hb : Below W.heap.size W W') : XB W' g x := CB.below h hb (CB.lt h)
theorem step_val {x : In} {rs : List Int} (h : (goodIn x && regsOk rs) = true) : goodIn x = true ∧ rs.length = 6 ∧ (stepR x rs).length = 6 ∧ (stepR x rs).getD x.d.toNat 0 = vOf x.op x.m (rs.getD x.a.toNat 0) (rs.getD x.b.toNat 0) ∧ (∀ i, 0 ≤ rs.getD i 0 ∧ rs.getD i 0 ≤ 63) := by
  have h0 := h
  rw [Bool.and_eq_true] at h0
  have hw := regsOk_words h0.2
  have e : stepR x rs = stepL x rs := by unfold stepR; rw [if_pos h]
  rw [e, stepL_len, step_get h0.1 hw.1, if_pos rfl]
  exact ⟨h0.1, hw.1, hw.1, rfl, fun i => getD_bd hw.2 i⟩
theorem readsR_len9 (x : In) : (readsR x).length ≤ 1048576 := readsR_len x
theorem ap_yes {s : ByteArray} {a b : Int} (ha : 0 ≤ a ∧ a ≤ 63) (hb : 0 ≤ b ∧ b ≤ 63) (hs : (isOne s || isTwo s) = true) (h1 : isOne s = true → b = 0) : apOk s a b = true ∧ apR s a b = ap s a b := by
  have k : apOk s a b = true := by
    unfold apOk
    rw [(isW_iff a).2 ha, (isW_iff b).2 hb, hs]
    cases h : isOne s
    · rfl
    · rw [h1 h]; rfl
  exact ⟨k, by unfold apR; rw [if_pos k]⟩

set_option maxHeartbeats 16000000 in
theorem fnInstructionsStep_go (A A' : Option Addr) (c c' : Nat) (bs bs' : List Int) (w : World) (hbl : bs.length + bs'.length ≤ 1048576) (ha : ∀ x ∈ bs, 0 ≤ x ∧ x ≤ 255) (ha' : ∀ x ∈ bs', 0 ≤ x ∧ x ≤ 255) (hy : BY w w.heap.size A bs) (hy' : BY w w.heap.size A' bs') :
    Calls Try.prog 5 #[.slice A bs.length c, .slice A' bs'.length c'] w fun e w' => e = .returned (.bool true) ∧ Below w.heap.size w w' := by
  have hB := Lib.hid (Below.refl w.heap.size w)
  have hBY := Lib.hid fun (W : World) (hW : Below w.heap.size w W) => ((hy.keep fun j hj => hW.block j hj).more hW.size : BY W W.heap.size A bs)
  have hBY' := Lib.hid fun (W : World) (hW : Below w.heap.size w W) => ((hy'.keep fun j hj => hW.block j hj).more hW.size : BY W W.heap.size A' bs')
  have HBig := Lib.hid (big_no A A' bs.length bs'.length c c' w (by omega) (by omega) hbl)
  have HAp := Lib.hid fun (s : ByteArray) (p q : Int) (W : World) => iApplyOp_any s p q W
  have hA := Lib.hid ha
  have hA' := Lib.hid ha'
  clear hy hy' ha ha'
  go_enter Try.func5, Try.ntmps5
  go_wp2_with (fail)
  refine HBig.out.mono ?_
  rintro e w0 ⟨rfl, rfl⟩
  clear HBig
  have H := Lib.hid (DrawStepInstr_d A c bs w (by omega) hA.out (hBY.out w hB.out))
  go_wp2_with (fail)
  refine (H.out).mono ?_
  rintro e w1 ⟨⟨op, d, a, b, m⟩, _, rs, rfl, hsz, ⟨Ar, cr, rfl, nr, rr⟩, hbe⟩
  replace hB := Lib.hid (hB.out.trans (hbe.mono hB.out.size))
  have h_r := Lib.hid (rr.more (Nat.zero_le _) (Nat.le_refl _))
  clear hbe H
  clear rr hsz
  dsimp only
  have hbe := (Below.refl w1.heap.size w1).alloc (Nat.le_refl _) (.cells #[.string op, .int .i64 d, .int .i64 a, .int .i64 b, .int .i64 m] 56)
  replace h_r := Lib.hid (h_r.out.upD hbe)
  replace hB := Lib.hid (hB.out.trans (hbe.mono hB.out.size))
  have h_x := Lib.hid (show XB (w1.alloc (.cells #[.string op, .int .i64 d, .int .i64 a, .int .i64 b, .int .i64 m] 56)) w1.heap.size ⟨op, d, a, b, m⟩ from heap_alloc_new w1 _)
  clear hbe
  obtain ⟨x0, x1, x2, x3, x4⟩ := XB.cells h_x.out
  simp only at x0 x1 x2 x3 x4
  go_wp2_with (fail)
  generalize w1.alloc (.cells #[.string op, .int .i64 d, .int .i64 a, .int .i64 b, .int .i64 m] 56) = w2 at *
  clear x0 x1 x2 x3 x4
  have hJ : ∃ J, (goodIn ⟨op, d, a, b, m⟩ && regsOk rs) = J := ⟨_, rfl⟩
  obtain ⟨J, hJ⟩ := hJ
  replace hJ := Lib.hid hJ
  have hq9 := iStepInstr_any ⟨op, d, a, b, m⟩ 0 w2.heap.size Ar cr rs w2 (by omega) h_r.out (Nat.le_refl _)
  rw [hJ.out] at hq9
  have H := Lib.hid hq9
  clear hq9
  refine (H.out).mono ?_
  rintro e w3 ⟨An, cn, rfl, on, hbe⟩
  replace h_r := Lib.hid (h_r.out.upD hbe)
  replace h_x := Lib.hid (h_x.out.upD hbe)
  replace hB := Lib.hid (hB.out.trans (hbe.mono hB.out.size))
  have h_n := Lib.hid ((OW.rs on).more (Nat.zero_le _) (Nat.le_refl _))
  clear hbe H
  clear on
  obtain ⟨x0, x1, x2, x3, x4⟩ := XB.cells h_x.out
  simp only at x0 x1 x2 x3 x4
  have hq9 := sStepInstr_any ⟨op, d, a, b, m⟩ 0 w3.heap.size Ar cr rs w3 (by omega) h_r.out (Nat.le_refl _)
  rw [hJ.out] at hq9
  have H := Lib.hid hq9
  clear hq9
  go_wp2_with (fail)
  clear x0 x1 x2 x3 x4
  refine (H.out).mono ?_
  rintro e w4 ⟨Aq, cq, rfl, oq, hbe⟩
  replace h_r := Lib.hid (h_r.out.upD hbe)
  replace h_x := Lib.hid (h_x.out.upD hbe)
  replace h_n := Lib.hid (h_n.out.upD hbe)
  replace hB := Lib.hid (hB.out.trans (hbe.mono hB.out.size))
  have h_q := Lib.hid ((OW.rs oq).more (Nat.zero_le _) (Nat.le_refl _))
  clear hbe H
  clear oq
  have e1 : (J != J) = false := by simp
  have hsl := Lib.hid (stepR_len ⟨op, d, a, b, m⟩ rs)
  have H := Lib.hid (pSame_eq 0 w4.heap.size 0 w4.heap.size An Aq _ _ cn cq (stepR ⟨op, d, a, b, m⟩ rs) w4 rfl rfl hsl.out h_n.out h_q.out)
  go_wp2_with (fail)
  refine (H.out).mono ?_
  rintro e w5 ⟨rfl, n, hn⟩
  have hbe := yes_below hn
  clear hn n
  replace h_r := Lib.hid (h_r.out.upD hbe)
  replace h_x := Lib.hid (h_x.out.upD hbe)
  replace h_n := Lib.hid (h_n.out.upD hbe)
  replace h_q := Lib.hid (h_q.out.upD hbe)
  replace hB := Lib.hid (hB.out.trans (hbe.mono hB.out.size))
  clear hbe H
  clear h_q
  have H := Lib.hid (DrawCostOfInstr_d A' c' bs' w5 (by omega) hA'.out (hBY'.out _ hB.out))
  go_wp2_with (fail)
  refine (H.out).mono ?_
  rintro e w6 ⟨⟨op', d', a', b', m'⟩, rfl, hsz, hbe⟩
  replace h_r := Lib.hid (h_r.out.upD hbe)
  replace h_x := Lib.hid (h_x.out.upD hbe)
  replace h_n := Lib.hid (h_n.out.upD hbe)
  replace hB := Lib.hid (hB.out.trans (hbe.mono hB.out.size))
  clear hbe H
  clear hsz
  dsimp only
  have hbe := (Below.refl w6.heap.size w6).alloc (Nat.le_refl _) (.cells #[.string op', .int .i64 d', .int .i64 a', .int .i64 b', .int .i64 m'] 56)
  replace h_r := Lib.hid (h_r.out.upD hbe)
  replace h_x := Lib.hid (h_x.out.upD hbe)
  replace h_n := Lib.hid (h_n.out.upD hbe)
  replace hB := Lib.hid (hB.out.trans (hbe.mono hB.out.size))
  have h_y := Lib.hid (show XB (w6.alloc (.cells #[.string op', .int .i64 d', .int .i64 a', .int .i64 b', .int .i64 m'] 56)) w6.heap.size ⟨op', d', a', b', m'⟩ from heap_alloc_new w6 _)
  clear hbe
  obtain ⟨x0, x1, x2, x3, x4⟩ := XB.cells h_y.out
  simp only at x0 x1 x2 x3 x4
  go_wp2_with (fail)
  generalize w6.alloc (.cells #[.string op', .int .i64 d', .int .i64 a', .int .i64 b', .int .i64 m'] 56) = w7 at *
  clear x0 x1 x2 x3 x4
  have hK : ∃ K, goodIn ⟨op', d', a', b', m'⟩ = K := ⟨_, rfl⟩
  obtain ⟨K, hK⟩ := hK
  replace hK := Lib.hid hK
  have hq9 := iCostOfInstr_any ⟨op', d', a', b', m'⟩ w7
  rw [hK.out] at hq9
  have H := Lib.hid hq9
  clear hq9
  refine (H.out).mono ?_
  rintro e w8 ⟨rfl, hbe⟩
  replace h_r := Lib.hid (h_r.out.upD hbe)
  replace h_x := Lib.hid (h_x.out.upD hbe)
  replace h_n := Lib.hid (h_n.out.upD hbe)
  replace h_y := Lib.hid (h_y.out.upD hbe)
  replace hB := Lib.hid (hB.out.trans (hbe.mono hB.out.size))
  clear hbe H
  obtain ⟨x0, x1, x2, x3, x4⟩ := XB.cells h_y.out
  simp only at x0 x1 x2 x3 x4
  have hq9 := sCostOfInstr_any ⟨op', d', a', b', m'⟩ w8
  rw [hK.out] at hq9
  have H := Lib.hid hq9
  clear hq9
  go_wp2_with (fail)
  clear x0 x1 x2 x3 x4
  refine (H.out).mono ?_
  rintro e w9 ⟨rfl, hbe⟩
  replace h_r := Lib.hid (h_r.out.upD hbe)
  replace h_x := Lib.hid (h_x.out.upD hbe)
  replace h_n := Lib.hid (h_n.out.upD hbe)
  replace h_y := Lib.hid (h_y.out.upD hbe)
  replace hB := Lib.hid (hB.out.trans (hbe.mono hB.out.size))
  clear hbe H
  obtain ⟨x0, x1, x2, x3, x4⟩ := XB.cells h_y.out
  simp only at x0 x1 x2 x3 x4
  have hq9 := iReadsOf_any ⟨op', d', a', b', m'⟩ w9
  rw [hK.out] at hq9
  have H := Lib.hid hq9
  clear hq9
  go_wp2_with (fail)
  clear x0 x1 x2 x3 x4
  refine (H.out).mono ?_
  rintro e w10 ⟨A3, c3, rfl, o3, hbe⟩
  replace h_r := Lib.hid (h_r.out.upD hbe)
  replace h_x := Lib.hid (h_x.out.upD hbe)
  replace h_n := Lib.hid (h_n.out.upD hbe)
  replace h_y := Lib.hid (h_y.out.upD hbe)
  replace hB := Lib.hid (hB.out.trans (hbe.mono hB.out.size))
  have h_u := Lib.hid ((OW.rs o3).more (Nat.zero_le _) (Nat.le_refl _))
  clear hbe H
  clear o3
  obtain ⟨x0, x1, x2, x3, x4⟩ := XB.cells h_y.out
  simp only at x0 x1 x2 x3 x4
  have hq9 := sReadsOf_any ⟨op', d', a', b', m'⟩ w10
  rw [hK.out] at hq9
  have H := Lib.hid hq9
  clear hq9
  go_wp2_with (fail)
  clear x0 x1 x2 x3 x4
  refine (H.out).mono ?_
  rintro e w11 ⟨A4, c4, rfl, o4, hbe⟩
  replace h_r := Lib.hid (h_r.out.upD hbe)
  replace h_x := Lib.hid (h_x.out.upD hbe)
  replace h_n := Lib.hid (h_n.out.upD hbe)
  replace h_y := Lib.hid (h_y.out.upD hbe)
  replace h_u := Lib.hid (h_u.out.upD hbe)
  replace hB := Lib.hid (hB.out.trans (hbe.mono hB.out.size))
  have h_v := Lib.hid ((OW.rs o4).more (Nat.zero_le _) (Nat.le_refl _))
  clear hbe H
  clear o4
  have e2 : (K != K) = false := by simp
  have hrl := Lib.hid (readsR_len9 ⟨op', d', a', b', m'⟩)
  have H := Lib.hid (pSame_eq 0 w11.heap.size 0 w11.heap.size A3 A4 _ _ c3 c4 (readsR ⟨op', d', a', b', m'⟩) w11 rfl rfl hrl.out h_u.out h_v.out)
  go_wp2_with (fail)
  refine (H.out).mono ?_
  rintro e w12 ⟨rfl, n, hn⟩
  have hbe := yes_below hn
  clear hn n
  replace h_r := Lib.hid (h_r.out.upD hbe)
  replace h_x := Lib.hid (h_x.out.upD hbe)
  replace h_n := Lib.hid (h_n.out.upD hbe)
  replace h_y := Lib.hid (h_y.out.upD hbe)
  replace h_u := Lib.hid (h_u.out.upD hbe)
  replace h_v := Lib.hid (h_v.out.upD hbe)
  replace hB := Lib.hid (hB.out.trans (hbe.mono hB.out.size))
  clear hbe H
  clear h_u
  clear h_v
  obtain ⟨x0, x1, x2, x3, x4⟩ := XB.cells h_y.out
  simp only at x0 x1 x2 x3 x4
  have hq9 := iIsInstr_any ⟨op', d', a', b', m'⟩ w12
  rw [hK.out] at hq9
  have H := Lib.hid hq9
  clear hq9
  go_wp2_with (fail)
  clear x0 x1 x2 x3 x4
  refine (H.out).mono ?_
  rintro e w13 ⟨rfl, hbe⟩
  replace h_r := Lib.hid (h_r.out.upD hbe)
  replace h_x := Lib.hid (h_x.out.upD hbe)
  replace h_n := Lib.hid (h_n.out.upD hbe)
  replace h_y := Lib.hid (h_y.out.upD hbe)
  replace hB := Lib.hid (hB.out.trans (hbe.mono hB.out.size))
  clear hbe H
  clear h_y hK hrl
  cases J
  · go_wp2
    go_ret
    exact ⟨rfl, hB.out⟩
  · obtain ⟨hgx, hr6, hs6, hsv, hbd⟩ := step_val hJ.out
    obtain ⟨⟨hd0, hd5⟩, ⟨ha0, ha5⟩, ⟨hb0, hb5⟩, hok, hml, hmh⟩ := good_parts hgx
    dsimp only at *
    obtain ⟨nd, rfl⟩ := Int.eq_ofNat_of_zero_le hd0
    obtain ⟨na, rfl⟩ := Int.eq_ofNat_of_zero_le ha0
    obtain ⟨nb, rfl⟩ := Int.eq_ofNat_of_zero_le hb0
    simp only [Int.toNat_natCast] at hsv
    obtain ⟨rb1, ro1, rfl, _, rc1⟩ := h_r.out (by omega)
    obtain ⟨rb2, ro2, rfl, _, rc2⟩ := h_n.out (by omega)
    have q1 := rc1 na (by omega)
    have q2 := rc1 nb (by omega)
    have q3 := rc2 nd (by omega)
    have ga : rs[na]'(by omega) = rs.getD na 0 := by rw [List.getD_eq_getElem?_getD, List.getElem?_eq_getElem (by omega)]; rfl
    have gb : rs[nb]'(by omega) = rs.getD nb 0 := by rw [List.getD_eq_getElem?_getD, List.getElem?_eq_getElem (by omega)]; rfl
    have gd : (stepR ⟨op, nd, na, nb, m⟩ rs)[nd]'(by omega) = vOf op m (rs.getD na 0) (rs.getD nb 0) := by rw [← hsv, List.getD_eq_getElem?_getD, List.getElem?_eq_getElem (by omega)]; rfl
    rw [ga] at q1
    rw [gb] at q2
    rw [gd] at q3
    have hba := hbd na
    have hbb := hbd nb
    have i1 : (na : Int) < (rs.length : Int) := by omega
    have i2 : (nb : Int) < (rs.length : Int) := by omega
    have i3 : (nd : Int) < ((stepR ⟨op, nd, na, nb, m⟩ rs).length : Int) := by omega
    have j1 : (0 : Int) ≤ (na : Int) := by omega
    have j2 : (0 : Int) ≤ (nb : Int) := by omega
    have j3 : (0 : Int) ≤ (nd : Int) := by omega
    have hVV := Lib.hid (show ∃ v, vOf op m (rs.getD na 0) (rs.getD nb 0) = v from ⟨_, rfl⟩)
    obtain ⟨v, hv⟩ := hVV.out
    rw [hv] at q3
    replace hv := Lib.hid hv
    clear hVV rc1 rc2 ga gb gd hsv hbd hgx hJ hr6 hs6 hsl e1 e2
    generalize (stepR ⟨op, nd, na, nb, m⟩ rs).length = ln at *
    generalize rs.length = lr at *
    generalize rs.getD na 0 = va at *
    generalize rs.getD nb 0 = vb at *
    obtain ⟨x0, x1, x2, x3, x4⟩ := XB.cells h_x.out
    simp only at x0 x1 x2 x3 x4
    replace hok := Lib.hid hok
    replace hml := Lib.hid hml
    replace hmh := Lib.hid hmh
    replace hba := Lib.hid hba
    replace hbb := Lib.hid hbb
    go_wp2_with (fail)
    go_quiet (fail)
    replace x0 := (show ((w13.drewN nq)).cell? _ = _ from x0)
    replace x1 := (show ((w13.drewN nq)).cell? _ = _ from x1)
    replace x2 := (show ((w13.drewN nq)).cell? _ = _ from x2)
    replace x3 := (show ((w13.drewN nq)).cell? _ = _ from x3)
    replace x4 := (show ((w13.drewN nq)).cell? _ = _ from x4)
    replace q3 := (show ((w13.drewN nq)).cell? _ = _ from q3)
    replace hB := Lib.hid (below_drewD hB.out nq : Below w.heap.size w (w13.drewN nq))
    clear q1 q2 h_r h_n h_x
    generalize (w13.drewN nq) = wz at *
    have hmb : 0 ≤ m ∧ m ≤ 63 := by have h1 := (fm_lohi op); have h2 := hml.out; have h3 := hmh.out; omega
    replace hmb := Lib.hid hmb
    rcases val_cases hok.out with h|h|h|h|h|h|h|h|⟨hpl, hop, _, _⟩
    · have e := hv.out
      rw [vOf_set h] at e
      subst e
      go_wp2
      all_goals go_ret
      all_goals exact ⟨by simp, by first | exact hB.out | exact below_drewD hB.out _⟩
    · have e := hv.out
      rw [vOf_mov h] at e
      subst e
      go_wp2
      all_goals go_ret
      all_goals exact ⟨by simp, by first | exact hB.out | exact below_drewD hB.out _⟩
    · have e := hv.out
      rw [vOf_addi h] at e
      obtain ⟨k1, k2⟩ := ap_yes (s := ⟨#[97,100,100]⟩) hba.out hmb.out (by decide +kernel) (fun h => absurd h (by rw [show isOne ⟨#[97,100,100]⟩ = false from by decide +kernel]; decide))
      rw [e] at k2
      obtain rfl := bytes_of h
      go_wp2_with (fail)
      go_quiet ((go_at_call 24; exact Calls.quiet_of_same (same_flip (HAp.out _ _ _ _))))
      rw [show (⟨#[97,100,100,105]⟩ : ByteArray).extract 0 3 = ⟨#[97,100,100]⟩ from by decide +kernel, k1, k2]
      go_wp2
      all_goals go_ret
      all_goals exact ⟨by simp, by first | exact hB.out | exact below_drewD hB.out _⟩
    · have e := hv.out
      rw [vOf_andi h] at e
      obtain ⟨k1, k2⟩ := ap_yes (s := ⟨#[97,110,100]⟩) hba.out hmb.out (by decide +kernel) (fun h => absurd h (by rw [show isOne ⟨#[97,110,100]⟩ = false from by decide +kernel]; decide))
      rw [e] at k2
      obtain rfl := bytes_of h
      go_wp2_with (fail)
      go_quiet ((go_at_call 24; exact Calls.quiet_of_same (same_flip (HAp.out _ _ _ _))))
      rw [show (⟨#[97,110,100,105]⟩ : ByteArray).extract 0 3 = ⟨#[97,110,100]⟩ from by decide +kernel, k1, k2]
      go_wp2
      all_goals go_ret
      all_goals exact ⟨by simp, by first | exact hB.out | exact below_drewD hB.out _⟩
    · have e := hv.out
      rw [vOf_xori h] at e
      obtain ⟨k1, k2⟩ := ap_yes (s := ⟨#[120,111,114]⟩) hba.out hmb.out (by decide +kernel) (fun h => absurd h (by rw [show isOne ⟨#[120,111,114]⟩ = false from by decide +kernel]; decide))
      rw [e] at k2
      obtain rfl := bytes_of h
      go_wp2_with (fail)
      go_quiet ((go_at_call 24; exact Calls.quiet_of_same (same_flip (HAp.out _ _ _ _))))
      rw [show (⟨#[120,111,114,105]⟩ : ByteArray).extract 0 3 = ⟨#[120,111,114]⟩ from by decide +kernel, k1, k2]
      go_wp2
      all_goals go_ret
      all_goals exact ⟨by simp, by first | exact hB.out | exact below_drewD hB.out _⟩
    · have e := hv.out
      rw [vOf_shli h] at e
      obtain ⟨k1, k2⟩ := ap_yes (s := ⟨#[115,104,108]⟩) hba.out hmb.out (by decide +kernel) (fun h => absurd h (by rw [show isOne ⟨#[115,104,108]⟩ = false from by decide +kernel]; decide))
      rw [e] at k2
      obtain rfl := bytes_of h
      go_wp2_with (fail)
      go_quiet ((go_at_call 24; exact Calls.quiet_of_same (same_flip (HAp.out _ _ _ _))))
      rw [show (⟨#[115,104,108,105]⟩ : ByteArray).extract 0 3 = ⟨#[115,104,108]⟩ from by decide +kernel, k1, k2]
      go_wp2
      all_goals go_ret
      all_goals exact ⟨by simp, by first | exact hB.out | exact below_drewD hB.out _⟩
    · have e := hv.out
      rw [vOf_shri h] at e
      obtain ⟨k1, k2⟩ := ap_yes (s := ⟨#[115,104,114]⟩) hba.out hmb.out (by decide +kernel) (fun h => absurd h (by rw [show isOne ⟨#[115,104,114]⟩ = false from by decide +kernel]; decide))
      rw [e] at k2
      obtain rfl := bytes_of h
      go_wp2_with (fail)
      go_quiet ((go_at_call 24; exact Calls.quiet_of_same (same_flip (HAp.out _ _ _ _))))
      rw [show (⟨#[115,104,114,105]⟩ : ByteArray).extract 0 3 = ⟨#[115,104,114]⟩ from by decide +kernel, k1, k2]
      go_wp2
      all_goals go_ret
      all_goals exact ⟨by simp, by first | exact hB.out | exact below_drewD hB.out _⟩
    · have e := hv.out
      rw [vOf_lea h] at e
      have hs1 := ap_bd ⟨#[115,104,108]⟩ vb m hbb.out.1 hbb.out.2 hmb.out.1 hmb.out.2
      obtain ⟨k1, k2⟩ := ap_yes (s := ⟨#[115,104,108]⟩) hbb.out hmb.out (by decide +kernel) (fun h => absurd h (by rw [show isOne ⟨#[115,104,108]⟩ = false from by decide +kernel]; decide))
      obtain ⟨k3, k4⟩ := ap_yes (s := ⟨#[97,100,100]⟩) hba.out hs1 (by decide +kernel) (fun h => absurd h (by rw [show isOne ⟨#[97,100,100]⟩ = false from by decide +kernel]; decide))
      rw [e] at k4
      clear e
      generalize ap ⟨#[115,104,108]⟩ vb m = sv at *
      have H1 := Lib.hid fun (W : World) => HAp.out ⟨#[115,104,108]⟩ vb m W
      have H2 := Lib.hid fun (W : World) => HAp.out ⟨#[97,100,100]⟩ va sv W
      rw [k1, k2] at H1
      rw [k3, k4] at H2
      clear k1 k2 k3 k4 hs1
      go_wp2_with (fail)
      refine (H1.out _).mono ?_
      rintro e w20 ⟨rfl, rfl⟩
      go_wp2_with (fail)
      refine (H2.out _).mono ?_
      rintro e w21 ⟨rfl, rfl⟩
      go_wp2
      all_goals go_ret
      all_goals exact ⟨by simp, by first | exact hB.out | exact below_drewD hB.out _⟩
    · have e := hv.out
      rw [vOf_plain hpl] at e
      unfold plainOp at hpl
      obtain ⟨p1, p2, p3, p4, p5, p6, p7, p8⟩ := hpl
      unfold isOp at hop
      by_cases h1 : op.toList = [110,111,116]
      · obtain ⟨k1, k2⟩ := ap_yes (s := op) (b := 0) hba.out (by omega) hop (fun _ => rfl)
        rw [ap_not h1] at e k2
        rw [e] at k2
        have H1 := Lib.hid fun (W : World) => HAp.out op va 0 W
        rw [k1, k2] at H1
        clear k1 k2 e
        go_wp2_with (fail)
        refine (H1.out _).mono ?_
        rintro e w20 ⟨rfl, rfl⟩
        go_wp2
        all_goals go_ret
        all_goals exact ⟨by simp, by first | exact hB.out | exact below_drewD hB.out _⟩
      by_cases h2 : op.toList = [110,101,103]
      · obtain ⟨k1, k2⟩ := ap_yes (s := op) (b := 0) hba.out (by omega) hop (fun _ => rfl)
        rw [ap_neg h2] at e k2
        rw [e] at k2
        have H1 := Lib.hid fun (W : World) => HAp.out op va 0 W
        rw [k1, k2] at H1
        clear k1 k2 e
        go_wp2_with (fail)
        refine (H1.out _).mono ?_
        rintro e w20 ⟨rfl, rfl⟩
        go_wp2
        all_goals go_ret
        all_goals exact ⟨by simp, by first | exact hB.out | exact below_drewD hB.out _⟩
      obtain ⟨k1, k2⟩ := ap_yes (s := op) hba.out hbb.out hop (fun h => by simp [isOne, h1, h2] at h)
      replace h1 : (op.toList == [110,111,116]) = false := by simp [h1]
      replace h2 : (op.toList == [110,101,103]) = false := by simp [h2]
      rw [e] at k2
      have H1 := Lib.hid fun (W : World) => HAp.out op va vb W
      rw [k1, k2] at H1
      clear k1 k2 e
      go_wp2_with (fail)
      refine (H1.out _).mono ?_
      rintro e w20 ⟨rfl, rfl⟩
      go_wp2
      all_goals go_ret
      all_goals exact ⟨by simp, by first | exact hB.out | exact below_drewD hB.out _⟩
end Go.Proofs.Ytmhdijklindipaa

/- Arguments of the types []laws.Instr, laws.Instr and []int opened. -/
namespace Go.Proofs.Ytmhdijklindipaa
open Go.ChangeShapes Go.WideShapes Go.ChangeAt Go.RowKit Go.Deep
open Go.ChangeMaps (open_string shut_string)
set_option linter.unusedVariables false

theorem cellsStr : Try.prog.cellsOf 9 = 1 := by kernel_rfl
theorem cellsInt : Try.prog.cellsOf 3 = 1 := by kernel_rfl

theorem cell_lt_heap {w : World} {a : Addr} {v : Value} (h : w.cell? a = some v) : a.block < w.heap.size := by
  rcases Nat.lt_or_ge a.block w.heap.size with hlt | hge
  · exact hlt
  · unfold World.cell? at h; rw [Array.getElem?_eq_none hge] at h; simp at h

set_option maxRecDepth 100000 in
theorem ints_of_trod {H : Type} {enc : TypeId × Value → H} {w : World} {spare : Nat → Bool} {held : Bool} {A : Option Addr} {len cap : Nat} {d : DataW H} {p : List MemPlace}
    (h : DataW.Trod enc Try.prog w 0 spare held 27 (.slice A len cap) d p) :
    ∃ xs : List Int, xs.length = len ∧ IS w 0 w.heap.size A xs ∧ len ≤ 9223372036854775807 := by
  obtain ⟨fuel, hf⟩ := h
  rcases open_slice Try.underlying27 hf with ⟨hcs, _⟩ | ⟨a, l, c, m, n, D, Pl, hcs, _, hl, hm, hmm, _, hi⟩
  · simp [Value.cells] at hcs
    obtain ⟨rfl, rfl, rfl⟩ := hcs
    exact ⟨[], rfl, fun h => absurd h (by simp), by omega⟩
  · simp [Value.cells] at hcs
    obtain ⟨rfl, rfl, rfl⟩ := hcs
    have hlm : len ≤ m := by rw [hmm]; split <;> omega
    have hex : ∀ i, i < len → ∃ x : Int, w.cell? (a.add i) = some (.int .i64 x) := by
      intro i hil
      obtain ⟨cs', hc, ht⟩ := hi i (by omega)
      rw [cellsInt, Nat.mul_one] at hc
      obtain ⟨x, hx, _, _⟩ := DataW.trod_int Try.underlying3 ht
      obtain ⟨_, _, hat⟩ := World.cells?_some hc
      have := hat 0 (by omega)
      rw [add_add, hx] at this
      exact ⟨x, by simpa using this⟩
    obtain ⟨f, hf2⟩ := Classical.axiomOfChoice (fun i : {i // i < len} => hex i.1 i.2)
    have hget : ∀ i (h : i < (List.ofFn fun i : Fin len => f ⟨i.1, i.2⟩).length), (List.ofFn fun i : Fin len => f ⟨i.1, i.2⟩)[i] = f ⟨i, by simpa using h⟩ := fun i h => by simp
    refine ⟨List.ofFn fun i : Fin len => f ⟨i.1, i.2⟩, by simp, ?_, by unfold maxLen at hm; omega⟩
    intro hpos
    have hpos' : 0 < len := by simpa using hpos
    have h0 := hf2 ⟨0, hpos'⟩
    obtain ⟨b, o, spot⟩ := a
    have hspot : spot = none := by have := World.cell?_spot h0; simpa [Addr.add] using this
    subst hspot
    have hadd : ∀ k, (⟨b, o, none⟩ : Addr).add k = ⟨b, o + k, none⟩ := fun k => by simp [Addr.add]
    refine ⟨b, o, rfl, ⟨Nat.zero_le _, ?_⟩, fun i hi => ?_⟩
    · rw [hadd] at h0
      exact cell_lt_heap h0
    · have hi' : i < len := by simpa using hi
      rw [hget i hi]
      have := hf2 ⟨i, hi'⟩
      simp only [hadd] at this
      exact this
end Go.Proofs.Ytmhdijklindipaa

/- A []byte argument opened. -/
namespace Go.Proofs.Ytmhdijklindipaa
open Go.ChangeShapes Go.WideShapes Go.ChangeAt Go.RowKit Go.Deep
set_option linter.unusedVariables false
theorem cellsByte : Try.prog.cellsOf 5 = 1 := by kernel_rfl
theorem bytes_of_trod {H : Type} {enc : TypeId × Value → H} {w : World} {spare : Nat → Bool} {held : Bool} {A : Option Addr} {len cap : Nat} {d : DataW H} {p : List MemPlace}
    (h : DataW.Trod enc Try.prog w 0 spare held 22 (.slice A len cap) d p) :
    ∃ xs : List Int, xs.length = len ∧ BY w w.heap.size A xs ∧ (∀ x ∈ xs, 0 ≤ x ∧ x ≤ 255) ∧ len ≤ 9223372036854775807 := by
  obtain ⟨fuel, hf⟩ := h
  rcases open_slice Try.underlying22 hf with ⟨hcs, _⟩ | ⟨a, l, c, m, n, D, Pl, hcs, _, hl, hm, hmm, _, hi⟩
  · simp [Value.cells] at hcs
    obtain ⟨rfl, rfl, rfl⟩ := hcs
    exact ⟨[], rfl, fun h => absurd h (by simp), fun x hx => by simp at hx, by omega⟩
  · simp [Value.cells] at hcs
    obtain ⟨rfl, rfl, rfl⟩ := hcs
    have hlm : len ≤ m := by rw [hmm]; split <;> omega
    have hex : ∀ i, i < len → ∃ x : Int, w.cell? (a.add i) = some (.int .u8 x) ∧ 0 ≤ x ∧ x ≤ 255 := by
      intro i hil
      obtain ⟨cs', hc, ht⟩ := hi i (by omega)
      rw [cellsByte, Nat.mul_one] at hc
      obtain ⟨x, hx, hb, hz⟩ := DataW.trod_int Try.underlying5 ht
      obtain ⟨_, _, hat⟩ := World.cells?_some hc
      have := hat 0 (by omega)
      rw [add_add, hx] at this
      refine ⟨x, by simpa using this, ?_⟩
      have hz2 : (decide (IntKind.u8.min ≤ x) && decide (x ≤ IntKind.u8.max)) = true := hz
      rw [show IntKind.u8.min = 0 from rfl, show IntKind.u8.max = 255 from rfl, Bool.and_eq_true, decide_eq_true_iff, decide_eq_true_iff] at hz2
      exact hz2
    obtain ⟨f, hf2⟩ := Classical.axiomOfChoice (fun i : {i // i < len} => hex i.1 i.2)
    have hget : ∀ i (h : i < (List.ofFn fun i : Fin len => f ⟨i.1, i.2⟩).length), (List.ofFn fun i : Fin len => f ⟨i.1, i.2⟩)[i] = f ⟨i, by simpa using h⟩ := fun i h => by simp
    refine ⟨List.ofFn fun i : Fin len => f ⟨i.1, i.2⟩, by simp, ?_, ?_, by unfold maxLen at hm; omega⟩
    · intro hpos
      have hpos' : 0 < len := by simpa using hpos
      have h0 := (hf2 ⟨0, hpos'⟩).1
      obtain ⟨b, o, spot⟩ := a
      have hspot : spot = none := by have := World.cell?_spot h0; simpa [Addr.add] using this
      subst hspot
      have hadd : ∀ k, (⟨b, o, none⟩ : Addr).add k = ⟨b, o + k, none⟩ := fun k => by simp [Addr.add]
      refine ⟨b, o, rfl, ?_, fun i hi => ?_⟩
      · rw [hadd] at h0
        exact cell_lt_heap h0
      · have hi' : i < len := by simpa using hi
        rw [hget i hi]
        have := (hf2 ⟨i, hi'⟩).1
        simp only [hadd] at this
        exact this
    · intro x hx
      rw [List.mem_ofFn] at hx
      obtain ⟨i, rfl⟩ := hx
      exact (hf2 ⟨i.1, i.2⟩).2
end Go.Proofs.Ytmhdijklindipaa
