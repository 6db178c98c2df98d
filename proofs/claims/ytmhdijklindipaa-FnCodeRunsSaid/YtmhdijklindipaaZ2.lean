/- Texts of this proof, one behind the other: TY, FNA, TVO, TVP, TZ, TW. -/
import Derived.Test.YtmhdijklindipaaZ3
import Derived.Test.YtmhdijklindipaaZ4
import Derived.Test.YtmhdijklindipaaZ9
import Derived.WalkKit
import Derived.WalkSpells
import Derived.WalkLawsBesides
import Derived.Deep.RegionLaw
import Derived.Deep.RegionHeld3
import Derived.Deep.AppendLies
import Derived.Lib.Hide
import Derived.Test.YtmhdijklindipaaZ10
import Derived.Test.YtmhdijklindipaaZ12
import Derived.Test.YtmhdijklindipaaZ14
import Derived.Test.YtmhdijklindipaaCV
import Derived.Test.YtmhdijklindipaaCD
import Derived.Deep.QuietTactic
import Derived.BigQuiet
/- TraceOf: plain, and the model. -/
namespace Go.Proofs.Ytmhdijklindipaa
open Go.RowKit
set_option linter.unusedVariables false
set_option maxRecDepth 100000

def trL (es : List In) (rs : List Int) (k : Nat) : List (List Int) := (List.range (k + 1)).map fun i => runL (es.take i) rs
theorem trL_len (es : List In) (rs : List Int) (k : Nat) : (trL es rs k).length = k + 1 := by simp [trL]
theorem trL_zero (es : List In) (rs : List Int) : trL es rs 0 = [rs] := rfl
theorem trL_succ (es : List In) (rs : List Int) (k : Nat) : trL es rs (k + 1) = trL es rs k ++ [runL (es.take (k + 1)) rs] := by
  unfold trL; rw [List.range_succ, List.map_append]; rfl
theorem trL_last (es : List In) (rs : List Int) (k : Nat) (h : k < (trL es rs k).length) : (trL es rs k)[k] = runL (es.take k) rs := by simp [trL]
def trOk (es : List In) (rs : List Int) : Bool := okCode es && regsOk rs
def trR (es : List In) (rs : List Int) : List (List Int) := if trOk es rs = true then trL es rs es.length else []
theorem trOk_no1 {es : List In} (rs : List Int) (h : okCode es = false) : trOk es rs = false ∧ trR es rs = [] := by
  have h1 : trOk es rs = false := by unfold trOk; rw [h]; rfl
  exact ⟨h1, by unfold trR; rw [h1]; rfl⟩
theorem trOk_no2 (es : List In) {rs : List Int} (h : regsOk rs = false) : trOk es rs = false ∧ trR es rs = [] := by
  have h1 : trOk es rs = false := by unfold trOk; rw [h]; simp
  exact ⟨h1, by unfold trR; rw [h1]; rfl⟩
theorem trOk_yes {es : List In} {rs : List Int} (h1 : okCode es = true) (h2 : regsOk rs = true) : trOk es rs = true ∧ trR es rs = trL es rs es.length := by
  have h3 : trOk es rs = true := by unfold trOk; rw [h1, h2]; rfl
  exact ⟨h3, by unfold trR; rw [if_pos h3]⟩
theorem regsOk_words {rs : List Int} (h : regsOk rs = true) : words6 rs := by
  unfold regsOk at h
  rw [Bool.and_eq_true] at h
  exact ⟨by simpa using h.1, h.2⟩
theorem trR_small (es : List In) (rs : List Int) : SmallX (trR es rs) := by
  unfold trR
  split
  · rename_i h
    unfold trOk at h
    rw [Bool.and_eq_true] at h
    have h1 := okCode_len h.1
    have h6 := regsOk_words h.2
    have hall := okCode_all h.1
    have hs : ∀ k, ((trL es rs k).map List.length).sum = 6 * (k + 1) := by
      intro k
      induction k with
      | zero => simp [trL_zero, h6.1]
      | succ k ih => rw [trL_succ, List.map_append, List.sum_append, ih]; simp [(runL_words_take hall h6 (k + 1)).1]; omega
    exact ⟨by rw [trL_len]; omega, by rw [hs]; omega⟩
  · exact ⟨by simp, by simp⟩

set_option maxHeartbeats 4000000 in
theorem sTraceOf_k (L B : Nat) (A : Option Addr) (c : Nat) (es : List In) (L' B' : Nat) (A' : Option Addr) (c' : Nat) (rs : List Int) (w : World) (hl : es.length ≤ 1048576) (hes : RS In.enc 5 w L B A es) (hB : B ≤ w.heap.size) (hn : rs.length ≤ 1048576) (hns : IS w L' B' A' rs) (hB' : B' ≤ w.heap.size) :
    Calls Try.prog 33 #[.slice A es.length c, .slice A' rs.length c'] w (ResTraceOf (trR es rs) (trOk es rs) w) := by
  have H := Lib.hid (cdCode_any L B A c es w hl hes hB)
  cases hk : okCode es
  · have hR := Lib.hid (trOk_no1 rs hk)
    rw [hk] at H
    clear hk hes hns
    go_enter Try.func33, Try.ntmps33
    go_wp2_with (fail)
    refine H.out.mono ?_
    rintro e w1 ⟨rfl, hb1⟩
    have hbh := Lib.hid hb1
    clear hb1
    go_wp2
    go_ret2
    rw [hR.out.1, hR.out.2]
    exact ⟨none, 0, rfl, OX.nil _ _ _, hbh.out⟩
  have H2 := Lib.hid fun (W : World) (hW : Below w.heap.size w W) => cdRegs_any L' B' A' c' rs W hn (hns.below hW hB')
  cases hr : regsOk rs
  · have hR := Lib.hid (trOk_no2 es hr)
    rw [hk] at H
    rw [hr] at H2
    clear hk hr hes hns
    go_enter Try.func33, Try.ntmps33
    go_wp2_with (fail)
    refine H.out.mono ?_
    rintro e w1 ⟨rfl, hb1⟩
    have hbh := Lib.hid hb1
    clear hb1
    go_wp2_with (fail)
    refine (H2.out _ hbh.out).mono ?_
    rintro e w2 ⟨rfl, rfl⟩
    go_wp2
    go_ret2
    rw [hR.out.1, hR.out.2]
    exact ⟨none, 0, rfl, OX.nil _ _ _, hbh.out⟩
  have hR := Lib.hid (trOk_yes hk hr)
  have h6 := regsOk_words hr
  have hall := Lib.hid (okCode_all hk)
  have hl40 := okCode_len hk
  have hW6 := Lib.hid fun (k : Nat) => runL_words_take hall.out h6 k
  have hRs := Lib.hid fun (k : Nat) (h : k < es.length) => runL_snoc (rs := rs) h
  have hTs := Lib.hid (trL_succ es rs)
  have hTl := Lib.hid (trL_len es rs)
  have hTa := Lib.hid (trL_last es rs)
  have hT0 := Lib.hid (trL_zero es rs)
  have H3 := Lib.hid fun (W : World) (hW : Below w.heap.size w W) => l1Own_any L' B' A' c' rs W hn (hns.below hW hB') (Nat.le_trans hB' hW.size)
  have hE := Lib.hid fun (W : World) (hW : Below w.heap.size w W) => hes.below hW hB
  have hBB := Lib.hid hB
  rw [hk] at H
  rw [hr] at H2
  clear hk hr hes hns hB hB'
  generalize trL es rs = T at *
  obtain ⟨i0, hi', hz0', hz1', hz2'⟩ := info_parts Try.infoII
  have hJ0 := Lib.hid hi'
  have hJ1 := Lib.hid hz0'
  have hJ2 := Lib.hid hz1'
  have hJ3 := Lib.hid hz2'
  clear hi' hz0' hz1' hz2'
  go_enter Try.func33, Try.ntmps33
  go_wp2_with (fail)
  refine H.out.mono ?_
  rintro e w1 ⟨rfl, hb1⟩
  have hbh := Lib.hid hb1
  clear hb1
  go_wp2_with (fail)
  refine (H2.out _ hbh.out).mono ?_
  rintro e w2 ⟨rfl, rfl⟩
  go_wp2_with (fail)
  refine (H3.out _ hbh.out).mono ?_
  rintro e w3 ⟨A3, c3, rfl, ho3, hb3⟩
  have hz1 := hbh.out.size
  have hz3 := hb3.size
  have A4 := (Below.refl w3.heap.size w3).alloc (Nat.le_refl _) (.cells #[.slice A3 rs.length c3] 27)
  have hX4 : Hid (OX (w3.alloc (.cells #[.slice A3 rs.length c3] 27)) w.heap.size (w3.alloc (.cells #[.slice A3 rs.length c3] 27)).heap.size (.slice (some ⟨w3.heap.size, 0, none⟩) 1 1) [rs]) := by
    have hcb : CB 27 (w3.alloc (.cells #[.slice A3 rs.length c3] 27)) w3.heap.size [.slice A3 rs.length c3] := heap_alloc_new w3 _
    exact OX.of (okv_one hcb (by omega) (by simp)) (RowsX.mk1 (((ho3.lower hz1).below A4 (Nat.le_refl _)).more A4.size))
  have hb4 := Lib.hid ((hbh.out.trans (hb3.mono hz1)).trans (A4.mono (by omega)))
  clear A4 ho3 hb3
  go_wp2
  generalize w3.alloc (.cells #[.slice A3 rs.length c3] 27) = W4 at *
  go_loopw [6, 22] (fun v i wr => ∃ k : Nat, k ≤ es.length ∧ i = .int .i64 k ∧ OX wr w.heap.size wr.heap.size v (T k) ∧ Below w.heap.size w wr) (fun _ i _ => es.length - (intOf i).toNat)
  case atStart => exact ⟨0, Nat.zero_le _, rfl, by rw [hT0.out]; exact hX4.out, hb4.out⟩
  case round =>
    obtain ⟨k, hk, rfl, hox, hbel⟩ := hrel
    obtain ⟨A5, c5, rfl⟩ := hox.form
    have hX := Lib.hid hox
    have hBL := Lib.hid hbel
    clear hox
    by_cases hlt : k < es.length
    · obtain ⟨b, o, rfl, ⟨_, hbB⟩, hc⟩ := In.cells (hE.out _ hbel) (by omega)
      obtain ⟨d1, d2, d3, d4, d5⟩ := hc k hlt
      have hg := Lib.hid (hall.out _ (List.getElem_mem hlt))
      have hT1 := Lib.hid (hTs.out k)
      have hRk := Lib.hid (hRs.out k hlt)
      have hw6 := Lib.hid (hW6.out k)
      have hlk := hTl.out k
      have hla := hTa.out k (by omega)
      obtain ⟨xb, xo, Ai, ci, rfl, xc, hOW⟩ := hX.out.at (i := k) (by omega)
      rw [hla, hw6.out.1] at xc
      rw [hla] at hOW
      rw [hw6.out.1] at hOW
      obtain ⟨yb, yo, rfl, ⟨_, hyb⟩, _⟩ := IS.six hOW.rs hw6.out.1
      clear hc hbel hla
      rw [hlk] at hX ⊢
      generalize es[k] = x at *
      generalize hRR : runL (es.take (k + 1)) rs = Rn at *
      generalize runL (es.take k) rs = Rk at *
      generalize hTT : T (k + 1) = Tn at *
      have hTTh := Lib.hid hTT
      clear hTT hRR hlk
      generalize T k = Tk at *
      obtain ⟨n, hn1⟩ : ∃ n, n = k + 1 := ⟨_, rfl⟩
      rw [← hn1] at hX ⊢
      have e0 : (n : Int) - 1 = (k : Int) := by omega
      have hkn : (k : Int) < (n : Int) := by omega
      have hn41 : (n : Int) ≤ 41 := by omega
      have hwk : IntKind.i64.wrap (k : Int) = (k : Int) := IntWalk.i64_in _ (by omega)
      have hn41' : n ≤ 41 := by omega
      have hN1 := Lib.hid hn1
      obtain ⟨W5, hW5⟩ : ∃ W5, W5 = wr.alloc (.cells #[.string x.op, .int .i64 x.d, .int .i64 x.a, .int .i64 x.b, .int .i64 x.m] 56) := ⟨_, rfl⟩
      have A5 : Below wr.heap.size wr W5 := by rw [hW5]; exact (Below.refl wr.heap.size wr).alloc (Nat.le_refl _) _
      have X5 : XB W5 wr.heap.size x := by rw [hW5]; exact XB.new wr x
      have hX5 := Lib.hid (show OX W5.drew w.heap.size W5.drew.heap.size (.slice (some ⟨xb, xo, none⟩) n c5) Tk from ((hX.out.below A5 (Nat.le_refl _)).more A5.size).below (Below.refl W5.heap.size W5).drew (Nat.le_refl _))
      have hB5 := Lib.hid (hBL.out.trans (A5.mono hBL.out.size))
      have hSt := Lib.hid (cdStep_any x yb yo ci Rk w.heap.size wr.heap.size W5.drew hg.out hw6.out ((hOW.rs.below A5 (Nat.le_refl _)).below (Below.refl W5.heap.size W5).drew A5.size) A5.size)
      have hBd := Lib.hid hB5.out.drew
      rw [← hRk.out] at hSt
      have xc5 := Lib.hid ((A5.cell (p := ⟨xb, xo + k, none⟩) (by
        rcases Nat.lt_or_ge xb wr.heap.size with h9 | h9
        · exact h9
        · simp [World.cell?, Array.getElem?_eq_none h9] at xc)).trans xc)
      have hW5h := Lib.hid hW5.symm
      clear hOW hn1 hg hRk hw6 A5 hW5 xc hX
      obtain ⟨op, d, a, b1, m⟩ := x
      dsimp only at d1 d2 d3 d4 d5 hSt hW5h
      go_wp2
      rw [hW5h.out]
      obtain ⟨xg, hxg⟩ : ∃ xg, xg = wr.heap.size := ⟨_, rfl⟩
      rw [← hxg] at X5 ⊢
      obtain ⟨n0, n1, n2, n3, n4⟩ := XB.cells X5
      dsimp only at n0 n1 n2 n3 n4
      have xcc := xc5.out
      have e1 : (0 : Int) ≤ (k : Int) := by omega
      clear d1 d2 d3 d4 d5 hW5h hxg X5 xc5 hBL
      go_region_law (first
        | (go_simp; go_at_call 145; (with_reducible refine hSt.out.mono ?_); rintro e w6 ⟨g6, c6, rfl, hg6, ho6, hb6⟩; have hO6 := (ho6.lower hg6).more (ho6.lo g6 rfl |>.2 |> fun _ => (ho6.1.lt g6 rfl).2); obtain ⟨vs, hvn, HL, HN, H1, HK, Hlo⟩ := snocX hX5.out hBd.out.size hb6 hO6; have hB6 := Lib.hid (hBd.out.trans (hb6.mono hBd.out.size)); have HL := Lib.hid HL; have HN := Lib.hid HN; have H1 := Lib.hid H1; have HK := Lib.hid HK; have Hlo := Lib.hid Hlo; have hz6 := Lib.hid hB6.out.size; clear ho6 hb6 hO6 hg6)
        | (refine step_append_lies _ rfl _ _ 50 rfl w.heap.size 27 i0 _ 1 24 Try.underlying50 hJ0.out hJ1.out hJ2.out hJ3.out rfl (by decide) _ n _ (by rfl) HL.out ⟨w6.heap.size, 0, none⟩ 1 1 _ (by rfl) rfl HN.out H1.out (by omega) (by unfold maxLen; omega) (by omega) (by have := hz6.out; simp; omega) (w6.heap.size + 1) (by simp) ?_; intro g' cap w7 hown7 hgr7 _ _))
      all_goals
        have hX7 := HK.out g' cap w7 hown7 hgr7
        have hB7 := Lib.hid ((hB6.out.alloc hz6.out (.cells #[.slice (some ⟨g6, 0, none⟩) 6 c6] 27)).grown hgr7 (by have := hz6.out; simp; omega) (fun j hj => Hlo.out j hj))
        have hX8 := Lib.hid (show OX w7 w.heap.size w7.heap.size (.slice (some ⟨g', 0, none⟩) (n + 1) cap) Tn from by rw [hT1.out]; exact hX7)
        clear hX7 hown7 hgr7 xcc n0 n1 n2 n3 n4
        go_wp2
        go_roundw
        case rel => exact ⟨k + 1, by omega, by go_num, by rw [hTTh.out]; exact hX8.out, hB7.out⟩
        case measure => simp [intOf]; omega
    · obtain rfl : k = es.length := by omega
      clear hbel
      go_wp2
      go_ret2
      rw [hR.out.1, hR.out.2]
      exact ⟨A5, c5, rfl, hX.out, hBL.out⟩
end Go.Proofs.Ytmhdijklindipaa

/- Chapter 2, plain: swapped neighbours, renamed registers, dead code. -/
namespace Go.Proofs.Ytmhdijklindipaa
open Go.RowKit
set_option linter.unusedVariables false
set_option maxRecDepth 100000

theorem mem_put1 (a b r : Int) : r ∈ put (put [] a) b ↔ r = a ∨ r = b := by
  rw [put_nil]
  unfold put
  by_cases h1 : a < b
  · simp [h1]
  · by_cases h2 : a = b
    · subst h2; simp
    · simp [h1, h2]; exact or_comm
theorem mem_reads {x : In} {r : Int} : r ∈ readsL x ↔ ((fm x.op).a = true ∧ r = x.a) ∨ ((fm x.op).b = true ∧ r = x.b) := by
  cases ha : (fm x.op).a <;> cases hb : (fm x.op).b
  · rw [reads_ff x (a := true) (b := true) ha hb]; simp
  · rw [reads_ft x ha hb, put_nil]; simp
  · rw [reads_tf x ha hb, put_nil]; simp
  · rw [reads_tt x ha hb, mem_put1]; simp
theorem vOf_a {s : ByteArray} (hok : (fm s).ok = true) (h : (fm s).a = false) (m a a' b : Int) : vOf s m a b = vOf s m a' b := by
  rcases cop_cases s with h1|h1|h1|h1|h1|h1|h1|h1|h1|h1|h1|h1|h1|h1|h1|h1|h1|h1|h1|h1|h1
  all_goals first | (simp [vOf, h1]; done) | (simp [fm, h1] at h; done) | (rw [fm_no h1] at hok; cases hok)
theorem vOf_b {s : ByteArray} (hok : (fm s).ok = true) (h : (fm s).b = false) (m a b b' : Int) : vOf s m a b = vOf s m a b' := by
  rcases cop_cases s with h1|h1|h1|h1|h1|h1|h1|h1|h1|h1|h1|h1|h1|h1|h1|h1|h1|h1|h1|h1|h1
  all_goals first | (simp [vOf, ap, h1]; done) | (simp [fm, h1] at h; done) | (rw [fm_no h1] at hok; cases hok)
theorem vOf_reads {x : In} {rs rs' : List Int} (hx : goodIn x = true) (h : ∀ r ∈ readsL x, rs.getD r.toNat 0 = rs'.getD r.toNat 0) :
    vOf x.op x.m (rs.getD x.a.toNat 0) (rs.getD x.b.toNat 0) = vOf x.op x.m (rs'.getD x.a.toNat 0) (rs'.getD x.b.toNat 0) := by
  have hok := (good_parts hx).2.2.2.1
  have e1 : vOf x.op x.m (rs.getD x.a.toNat 0) (rs.getD x.b.toNat 0) = vOf x.op x.m (rs'.getD x.a.toNat 0) (rs.getD x.b.toNat 0) := by
    cases ha : (fm x.op).a
    · exact vOf_a hok ha _ _ _ _
    · rw [h x.a (mem_reads.2 (.inl ⟨ha, rfl⟩))]
  have e2 : vOf x.op x.m (rs'.getD x.a.toNat 0) (rs.getD x.b.toNat 0) = vOf x.op x.m (rs'.getD x.a.toNat 0) (rs'.getD x.b.toNat 0) := by
    cases hb : (fm x.op).b
    · exact vOf_b hok hb _ _ _ _
    · rw [h x.b (mem_reads.2 (.inr ⟨hb, rfl⟩))]
  rw [e1, e2]
theorem getD_set9 {xs : List Int} {k i : Nat} (v : Int) (hk : k < xs.length) : (xs.set k v).getD i 0 = if k = i then v else xs.getD i 0 := by
  rw [List.getD_eq_getElem?_getD, List.getElem?_set]
  by_cases e : k = i
  · subst e; simp [hk]
  · rw [if_neg e, if_neg e, ← List.getD_eq_getElem?_getD]
theorem stepL_len (x : In) (rs : List Int) : (stepL x rs).length = rs.length := by unfold stepL; rw [List.length_set]
theorem runL_len (es : List In) : ∀ rs, (runL es rs).length = rs.length := by
  induction es with
  | nil => intro rs; rfl
  | cons x l ih => intro rs; show (runL l (stepL x rs)).length = _; rw [ih, stepL_len]
theorem runL_app (a b : List In) (rs : List Int) : runL (a ++ b) rs = runL b (runL a rs) := by unfold runL; rw [List.foldl_append]
theorem runL_cons (x : In) (l : List In) (rs : List Int) : runL (x :: l) rs = runL l (stepL x rs) := rfl
theorem sumC_from (es : List In) : ∀ n, es.foldl (fun n x => n + (fm x.op).c) n = n + sumC es := by
  unfold sumC
  induction es with
  | nil => intro n; simp
  | cons x l ih => intro n; rw [List.foldl_cons, List.foldl_cons, ih, ih (0 + _)]; omega
theorem sumC_cons (x : In) (l : List In) : sumC (x :: l) = (fm x.op).c + sumC l := by
  show (x :: l).foldl _ 0 = _
  rw [List.foldl_cons, sumC_from]; omega
theorem sumC_app (a b : List In) : sumC (a ++ b) = sumC a + sumC b := by
  induction a with
  | nil => simp [sumC]
  | cons x l ih => rw [List.cons_append, sumC_cons, sumC_cons, ih]; omega
theorem step_get {x : In} {rs : List Int} (hx : goodIn x = true) (hl : rs.length = 6) (i : Nat) : (stepL x rs).getD i 0 = if x.d.toNat = i then vOf x.op x.m (rs.getD x.a.toNat 0) (rs.getD x.b.toNat 0) else rs.getD i 0 := by
  have hd := (good_parts hx).1
  exact getD_set9 _ (by omega)

/- Independent neighbours. -/
theorem step_swap {x y : In} {rs : List Int} (hx : goodIn x = true) (hy : goodIn y = true) (hf : freeB x y = true) (hl : rs.length = 6) : stepL y (stepL x rs) = stepL x (stepL y rs) := by
  have hdx := (good_parts hx).1
  have hdy := (good_parts hy).1
  unfold freeB at hf
  simp only [Bool.and_eq_true, Bool.not_eq_true'] at hf
  obtain ⟨⟨h1, h2⟩, h3⟩ := hf
  have hne : x.d ≠ y.d := by simpa using h1
  have hmem : ∀ {l : List Int} {n : Int}, hasI l n = false → ∀ r ∈ l, r ≠ n := fun {l n} h r hr e => by
    unfold hasI at h
    rw [List.any_eq_false] at h
    exact h r hr (by simpa using e)
  have hr1 := hmem h2
  have hr2 := hmem h3
  have e1 := vOf_reads (rs := stepL x rs) (rs' := rs) hy (fun r hr => by
    rw [step_get hx hl, if_neg]
    have hi := reads_in hy r hr
    have := hr2 r hr
    unfold In6 at hi; omega)
  have e2 := vOf_reads (rs := stepL y rs) (rs' := rs) hx (fun r hr => by
    rw [step_get hy hl, if_neg]
    have hi := reads_in hx r hr
    have := hr1 r hr
    unfold In6 at hi; omega)
  have g1 : stepL y (stepL x rs) = (stepL x rs).set y.d.toNat (vOf y.op y.m (rs.getD y.a.toNat 0) (rs.getD y.b.toNat 0)) := by rw [← e1]; rfl
  have g2 : stepL x (stepL y rs) = (stepL y rs).set x.d.toNat (vOf x.op x.m (rs.getD x.a.toNat 0) (rs.getD x.b.toNat 0)) := by rw [← e2]; rfl
  rw [g1, g2]
  unfold stepL
  exact List.set_comm _ _ (by omega)
theorem swap_split {es : List In} {k : Nat} (h : k + 1 < es.length) : es = es.take k ++ es[k] :: es[k + 1] :: es.drop (k + 2) := by
  rw [← List.drop_eq_getElem_cons (by omega), ← List.drop_eq_getElem_cons (by omega), List.take_append_drop]
theorem swap_list {es : List In} {k : Nat} (h : k + 1 < es.length) : (es.set k es[k + 1]).set (k + 1) es[k] = es.take k ++ es[k + 1] :: es[k] :: es.drop (k + 2) := by
  apply List.ext_getElem
  · simp; omega
  · intro i h1 h2
    simp only [List.getElem_set, List.getElem_append, List.length_take, List.getElem_take, List.getElem_cons, List.getElem_drop]
    repeat' split
    all_goals first | rfl | omega | skip
    all_goals congr 1; omega
theorem swap_run {es : List In} {k : Nat} (h : k + 1 < es.length) (hg : ∀ x ∈ es, goodIn x = true) (hf : freeB es[k] es[k + 1] = true) {rs : List Int} (hl : rs.length = 6) : runL ((es.set k es[k + 1]).set (k + 1) es[k]) rs = runL es rs := by
  rw [swap_list h]
  conv => rhs; rw [swap_split h]
  rw [runL_app, runL_app, runL_cons, runL_cons, runL_cons, runL_cons]
  congr 1
  exact (step_swap (hg _ (List.getElem_mem _)) (hg _ (List.getElem_mem _)) hf (by rw [runL_len]; exact hl)).symm
theorem freeB_comm (x y : In) : freeB x y = freeB y x := by
  rw [free_touch, free_touch, Bool.and_comm]
theorem getD_in9 {es : List In} {k : Nat} (h : k < es.length) : es.getD k zeroIn = es[k] := by rw [List.getD_eq_getElem?_getD, List.getElem?_eq_getElem h]; rfl
theorem swOk_parts9 {es : List In} {i : Int} (h : swOk es i = true) : ∃ k : Nat, i = k ∧ ∃ hk : k + 1 < es.length, okCode es = true ∧ freeB es[k] es[k + 1] = true ∧ swapR es i = (es.set k es[k + 1]).set (k + 1) es[k] := by
  have h0 := h
  simp only [swOk, Bool.and_eq_true] at h0
  obtain ⟨⟨h1, h2⟩, h3⟩ := h0
  obtain ⟨k, rfl, hk⟩ := inR_nat h2
  rw [Int.toNat_natCast, getD_in9 (by omega), getD_in9 hk] at h3
  refine ⟨k, rfl, hk, h1, h3, ?_⟩
  unfold swapR
  rw [if_pos h, Int.toNat_natCast, getD_in9 (k := k) (by omega), getD_in9 (k := k + 1) hk]
theorem swapR_ok {es : List In} {i : Int} (h : swOk es i = true) : okCode (swapR es i) = true ∧ (swapR es i).length = es.length := by
  obtain ⟨k, rfl, hk, h1, h2, e⟩ := swOk_parts9 h
  rw [e]
  refine ⟨?_, by simp⟩
  have hl := okCode_len h1
  have ha := okCode_all h1
  unfold okCode
  rw [Bool.and_eq_true, List.all_eq_true]
  refine ⟨decide_eq_true (by simpa using hl), fun x hx => ?_⟩
  rcases List.mem_or_eq_of_mem_set hx with hx | rfl
  · rcases List.mem_or_eq_of_mem_set hx with hx | rfl
    · exact ha _ hx
    · exact ha _ (List.getElem_mem _)
  · exact ha _ (List.getElem_mem _)
theorem swap_swap {es : List In} {i : Int} (h : swOk es i = true) : swOk (swapR es i) i = true ∧ swapR (swapR es i) i = es := by
  obtain ⟨hok, hln⟩ := swapR_ok h
  obtain ⟨k, rfl, hk, h1, h2, e⟩ := swOk_parts9 h
  have a1 : (swapR es k).getD k zeroIn = es[k + 1] := by rw [e, List.getD_eq_getElem?_getD, List.getElem?_set_ne (by omega), List.getElem?_set_self (by omega)]; rfl
  have a2 : (swapR es k).getD (k + 1) zeroIn = es[k] := by rw [e, List.getD_eq_getElem?_getD, List.getElem?_set_self (by simp; exact hk)]; rfl
  have g : swOk (swapR es k) k = true := by
    unfold swOk
    rw [hok, Int.toNat_natCast, a1, a2, freeB_comm, h2, (inR_iff _ _ _).2 (by rw [hln]; omega)]; rfl
  refine ⟨g, ?_⟩
  rw [show swapR (swapR es k) k = if swOk (swapR es k) k = true then ((swapR es k).set (k : Int).toNat ((swapR es k).getD ((k : Int).toNat + 1) zeroIn)).set ((k : Int).toNat + 1) ((swapR es k).getD (k : Int).toNat zeroIn) else [] from rfl, if_pos g, Int.toNat_natCast, a1, a2, e]
  apply List.ext_getElem
  · simp
  · intro i h1 h2
    simp only [List.getElem_set]
    repeat' split
    all_goals first | rfl | (subst_vars; rfl) | omega

/- Renamed registers. -/
def relN (ns rs rs' : List Int) : Prop := rs'.length = 6 ∧ ∀ r, r < 6 → rs'.getD (ns.getD r 0).toNat 0 = rs.getD r 0
theorem names_parts {ns : List Int} (h : namesOk ns = true) : ns.length = 6 ∧ (∀ r, r < 6 → 0 ≤ ns.getD r 0 ∧ ns.getD r 0 ≤ 5) ∧ ∀ r q, r < 6 → q < 6 → ns.getD r 0 = ns.getD q 0 → r = q := by
  have hl := names6 h
  unfold namesOk onceB at h
  rw [Bool.and_eq_true, Bool.and_eq_true] at h
  obtain ⟨⟨_, h2⟩, h3⟩ := h
  have h3 := of_decide_eq_true h3
  have gd : ∀ r (hr : r < ns.length), ns.getD r 0 = ns[r] := fun r hr => by rw [List.getD_eq_getElem?_getD, List.getElem?_eq_getElem hr]; rfl
  refine ⟨hl, fun r hr => ?_, fun r q hr hq e => ?_⟩
  · rw [gd r (by omega)]
    unfold allIn at h2
    rw [List.all_eq_true] at h2
    exact (inR_iff _ _ _).1 (h2 _ (List.getElem_mem _))
  · rw [gd r (by omega), gd q (by omega)] at e
    have hp := List.pairwise_iff_getElem.1 h3
    rcases Nat.lt_trichotomy r q with h | h | h
    · exact absurd e (hp r q (by omega) (by omega) h)
    · exact h
    · exact absurd e.symm (hp q r (by omega) (by omega) h)
theorem ren_step {ns : List Int} (hn : namesOk ns = true) {x : In} (hx : goodIn x = true) {rs rs' : List Int} (hl : rs.length = 6) (h : relN ns rs rs') : relN ns (stepL x rs) (stepL (ren ns x) rs') := by
  obtain ⟨hl', hr⟩ := h
  obtain ⟨n6, nb, ni⟩ := names_parts hn
  obtain ⟨hd, ha, hb, hok, _⟩ := good_parts hx
  have hv : vOf x.op x.m (rs'.getD (ren ns x).a.toNat 0) (rs'.getD (ren ns x).b.toNat 0) = vOf x.op x.m (rs.getD x.a.toNat 0) (rs.getD x.b.toNat 0) := by
    have e1 : vOf x.op x.m (rs'.getD (ren ns x).a.toNat 0) (rs'.getD (ren ns x).b.toNat 0) = vOf x.op x.m (rs.getD x.a.toNat 0) (rs'.getD (ren ns x).b.toNat 0) := by
      cases h1 : (fm x.op).a
      · exact vOf_a hok h1 _ _ _ _
      · have : (ren ns x).a = ns.getD x.a.toNat 0 := by unfold ren; simp only; rw [if_pos h1]
        rw [this, hr _ (by omega)]
    rw [e1]
    cases h1 : (fm x.op).b
    · exact vOf_b hok h1 _ _ _ _
    · have : (ren ns x).b = ns.getD x.b.toNat 0 := by unfold ren; simp only; rw [if_pos h1]
      rw [this, hr _ (by omega)]
  have hdb := nb x.d.toNat (by omega)
  refine ⟨by rw [stepL_len, hl'], fun r hr6 => ?_⟩
  have hnb := nb r hr6
  have s1 : stepL (ren ns x) rs' = rs'.set (ns.getD x.d.toNat 0).toNat (vOf x.op x.m (rs.getD x.a.toNat 0) (rs.getD x.b.toNat 0)) := by rw [← hv]; rfl
  rw [s1, step_get hx hl, getD_set9 _ (by omega)]
  by_cases e : x.d.toNat = r
  · rw [if_pos e, if_pos (by rw [e])]
  · rw [if_neg e, if_neg, hr r hr6]
    intro e2
    exact e (ni _ _ (by omega) hr6 (by omega))
theorem ren_run {ns : List Int} (hn : namesOk ns = true) : ∀ {es : List In}, (∀ x ∈ es, goodIn x = true) → ∀ {rs rs' : List Int}, rs.length = 6 → relN ns rs rs' → relN ns (runL es rs) (runL (es.map (ren ns)) rs')
  | [], _, rs, rs', _, h => h
  | x :: l, hg, rs, rs', hl, h => by
    rw [List.map_cons, runL_cons, runL_cons]
    exact ren_run hn (fun y hy => hg y (by simp [hy])) (by rw [stepL_len]; exact hl) (ren_step hn (hg x (by simp)) hl h)
theorem ren_cost (ns : List Int) (es : List In) : sumC (es.map (ren ns)) = sumC es := by
  induction es with
  | nil => rfl
  | cons x l ih => rw [List.map_cons, sumC_cons, sumC_cons, ih]; rfl
/-- The words under their names. -/
def mvN (ns rs : List Int) (k : Nat) : List Int := (List.range k).foldl (fun m r => m.set (ns.getD r 0).toNat (rs.getD r 0)) (List.replicate 6 0)
theorem mvN_succ (ns rs : List Int) (k : Nat) : mvN ns rs (k + 1) = (mvN ns rs k).set (ns.getD k 0).toNat (rs.getD k 0) := by unfold mvN; rw [List.range_succ, List.foldl_append]; rfl
theorem mvN_len (ns rs : List Int) : ∀ k, (mvN ns rs k).length = 6
  | 0 => by simp [mvN]
  | k + 1 => by rw [mvN_succ, List.length_set, mvN_len ns rs k]
theorem mvN_get {ns : List Int} (hn : namesOk ns = true) (rs : List Int) : ∀ k, k ≤ 6 → ∀ r, r < k → (mvN ns rs k).getD (ns.getD r 0).toNat 0 = rs.getD r 0
  | 0, _, r, hr => by omega
  | k + 1, hk, r, hr => by
    obtain ⟨n6, nb, ni⟩ := names_parts hn
    have h1 := nb k (by omega)
    have h2 := nb r (by omega)
    rw [mvN_succ, getD_set9 _ (by rw [mvN_len]; omega)]
    by_cases e : k = r
    · subst e; rw [if_pos rfl]
    · rw [if_neg fun e2 => e (ni _ _ (by omega) (by omega) (by omega))]
      exact mvN_get hn rs k (by omega) r (by omega)
theorem mvN_rel {ns : List Int} (hn : namesOk ns = true) (rs : List Int) : relN ns rs (mvN ns rs 6) := ⟨mvN_len _ _ _, fun r hr => mvN_get hn rs 6 (by omega) r hr⟩

/- Dead code. -/
def agr (bs : List Bool) (rs rs' : List Int) : Prop := ∀ i, i < 6 → bs.getD i false = true → rs.getD i 0 = rs'.getD i 0
theorem bkB_get {bs : List Bool} (hb : bs.length = 6) {x : In} (hx : goodIn x = true) {i : Nat} (hi : i < 6) : (bkB bs x).getD i false = true ↔ (((i : Int) ∈ readsL x) ∨ (x.d.toNat ≠ i ∧ bs.getD i false = true)) := by
  have hd := (good_parts hx).1
  have h := setsB_get (readsL x) (bs.set x.d.toNat false) (reads_in hx) (by rw [List.length_set]; exact hb) i hi
  have e : bkB bs x = setsB (bs.set x.d.toNat false) (readsL x) := by unfold bkB bkTo setsB; rw [List.take_length]
  rw [e, h, getDB_set _ _ _ (by omega)]
  by_cases e2 : x.d.toNat = i
  · rw [if_pos e2]; simp [e2]
  · rw [if_neg e2]; simp [e2, or_comm]
theorem agr_step {bs : List Bool} (hb : bs.length = 6) {x : In} (hx : goodIn x = true) {rs rs' : List Int} (hl : rs.length = 6) (hl' : rs'.length = 6) (h : agr (bkB bs x) rs rs') : agr bs (stepL x rs) (stepL x rs') := by
  intro i hi hbi
  rw [step_get hx hl, step_get hx hl']
  by_cases e : x.d.toNat = i
  · rw [if_pos e, if_pos e]
    refine vOf_reads hx fun r hr => ?_
    have h6 := reads_in hx r hr
    unfold In6 at h6
    obtain ⟨q, rfl⟩ := Int.eq_ofNat_of_zero_le h6.1
    rw [Int.toNat_natCast]
    exact h q (by omega) ((bkB_get hb hx (by omega)).2 (.inl hr))
  · rw [if_neg e, if_neg e]
    exact h i hi ((bkB_get hb hx hi).2 (.inr ⟨e, hbi⟩))
theorem agr_dead {bs : List Bool} {x : In} (hx : goodIn x = true) {rs rs' : List Int} (hl : rs.length = 6) (hd : bs.getD x.d.toNat false = false) (h : agr bs rs rs') : agr bs (stepL x rs) rs' := by
  intro i hi hbi
  rw [step_get hx hl, if_neg]
  · exact h i hi hbi
  · intro e; rw [e, hbi] at hd; cases hd
theorem ddS_cons (bs : List Bool) (x : In) (cs : List In) : ddS bs (x :: cs) = ddStep x (ddS bs cs) := rfl
theorem dd_run {bs : List Bool} (hb : bs.length = 6) : ∀ {cs : List In}, (∀ x ∈ cs, goodIn x = true) → ∀ {rs rs' : List Int}, rs.length = 6 → rs'.length = 6 → agr (ddS bs cs).2 rs rs' → agr bs (runL cs rs) (runL (ddS bs cs).1 rs')
  | [], _, rs, rs', _, _, h => h
  | x :: cs, hg, rs, rs', hl, hl', h => by
    have hx := hg x (by simp)
    have hg' : ∀ y ∈ cs, goodIn y = true := fun y hy => hg y (by simp [hy])
    have hl2 : (ddS bs cs).2.length = 6 := by rw [(ddS_len bs cs).2]; exact hb
    rw [ddS_cons] at h ⊢
    unfold ddStep at h ⊢
    rw [runL_cons]
    cases hk : (ddS bs cs).2.getD x.d.toNat false
    · rw [hk] at h
      simp only [Bool.false_eq_true, if_false] at h ⊢
      exact dd_run hb hg' (by rw [stepL_len]; exact hl) hl' (agr_dead hx hl hk h)
    · rw [hk] at h
      simp only [if_true] at h ⊢
      rw [runL_cons]
      exact dd_run hb hg' (by rw [stepL_len]; exact hl) (by rw [stepL_len]; exact hl') (agr_step hl2 hx hl hl' h)
theorem dd_sub {bs : List Bool} (hb : bs.length = 6) : ∀ {cs : List In}, (∀ x ∈ cs, goodIn x = true) → ∀ i, i < 6 → (ddS bs cs).2.getD i false = true → (lvS bs cs).getD i false = true
  | [], _, i, hi, h => h
  | x :: cs, hg, i, hi, h => by
    have hx := hg x (by simp)
    have ih := dd_sub hb (cs := cs) fun y hy => hg y (by simp [hy])
    have hl2 : (ddS bs cs).2.length = 6 := by rw [(ddS_len bs cs).2]; exact hb
    have hl3 : (lvS bs cs).length = 6 := by rw [lvS_len]; exact hb
    show (bkB (lvS bs cs) x).getD i false = true
    rw [bkB_get hl3 hx hi]
    rw [ddS_cons] at h
    unfold ddStep at h
    cases hk : (ddS bs cs).2.getD x.d.toNat false
    · rw [hk] at h
      simp only [Bool.false_eq_true, if_false] at h
      refine .inr ⟨fun e => ?_, ih i hi h⟩
      rw [e, h] at hk; cases hk
    · rw [hk] at h
      simp only [if_true] at h
      rcases (bkB_get hl2 hx hi).1 h with h1 | ⟨h1, h2⟩
      · exact .inl h1
      · exact .inr ⟨h1, ih i hi h2⟩
theorem dd_idem (bs : List Bool) : ∀ cs : List In, ddS bs (ddS bs cs).1 = ddS bs cs
  | [] => rfl
  | x :: cs => by
    have ih := dd_idem bs cs
    rw [ddS_cons]
    unfold ddStep
    cases hk : (ddS bs cs).2.getD x.d.toNat false
    · simp only [Bool.false_eq_true, if_false]; exact ih
    · simp only [if_true]
      rw [ddS_cons, ih]
      unfold ddStep
      rw [hk]; rfl
end Go.Proofs.Ytmhdijklindipaa

namespace Go.Proofs.Ytmhdijklindipaa
open Go.RowKit
set_option linter.unusedVariables false
set_option maxRecDepth 100000

set_option maxHeartbeats 2000000 in
theorem valueOfO_set (op : ByteArray) (d m : Int) (na nb : Nat) (b o : Nat) (u v : Int) (w : World) (ha : na < 6) (hb : nb < 6) (hbb : b < w.heap.size) (ca : w.cell? ⟨b, o + na, none⟩ = some (.int .i64 u)) (cb : w.cell? ⟨b, o + nb, none⟩ = some (.int .i64 v)) (hu0 : 0 ≤ u) (hu1 : u ≤ 63) (hv0 : 0 ≤ v) (hv1 : v ≤ 63) (h : op.toList = [115,101,116]) (hm0 : 0 ≤ m) (hm1 : m ≤ 63) :
    Calls Try.prog 238 #[.pointer (some ⟨b, o, none⟩), .agg #[.string op, .int .i64 d, .int .i64 na, .int .i64 nb, .int .i64 m]] w fun e w' => e = .returned (.int .i64 (vOf op m u v)) ∧ Below w.heap.size w w' := by
  have hR := Lib.hid (vOf_set h m u v)
  have hB1 := fun o => Lib.hid ((Below.refl w.heap.size w).alloc (Nat.le_refl _) o)
  have i0 : (0 : Int) ≤ (na : Int) := by omega
  have i1 : (na : Int) < 6 := by omega
  have j0 : (0 : Int) ≤ (nb : Int) := by omega
  have j1 : (nb : Int) < 6 := by omega
  go_enter Try.func238, Try.ntmps238
  go_wp2_with (fail)
  go_quiet (fail)
  go_wp2_with (fail)
  go_ret
  exact ⟨ret_int (by rw [hR.out]), below_drewN (hB1 _).out _⟩

set_option maxHeartbeats 2000000 in
theorem valueOfO_mov (op : ByteArray) (d m : Int) (na nb : Nat) (b o : Nat) (u v : Int) (w : World) (ha : na < 6) (hb : nb < 6) (hbb : b < w.heap.size) (ca : w.cell? ⟨b, o + na, none⟩ = some (.int .i64 u)) (cb : w.cell? ⟨b, o + nb, none⟩ = some (.int .i64 v)) (hu0 : 0 ≤ u) (hu1 : u ≤ 63) (hv0 : 0 ≤ v) (hv1 : v ≤ 63) (h : op.toList = [109,111,118]) (hm0 : 0 ≤ m) (hm1 : m ≤ 0) :
    Calls Try.prog 238 #[.pointer (some ⟨b, o, none⟩), .agg #[.string op, .int .i64 d, .int .i64 na, .int .i64 nb, .int .i64 m]] w fun e w' => e = .returned (.int .i64 (vOf op m u v)) ∧ Below w.heap.size w w' := by
  have hR := Lib.hid (vOf_mov h m u v)
  have hB1 := fun o => Lib.hid ((Below.refl w.heap.size w).alloc (Nat.le_refl _) o)
  have i0 : (0 : Int) ≤ (na : Int) := by omega
  have i1 : (na : Int) < 6 := by omega
  have j0 : (0 : Int) ≤ (nb : Int) := by omega
  have j1 : (nb : Int) < 6 := by omega
  go_enter Try.func238, Try.ntmps238
  go_wp2_with (fail)
  go_quiet (fail)
  go_wp2_with (fail)
  go_ret
  exact ⟨ret_int (by rw [hR.out]), below_drewN (hB1 _).out _⟩

set_option maxHeartbeats 2000000 in
theorem valueOfO_addi (op : ByteArray) (d m : Int) (na nb : Nat) (b o : Nat) (u v : Int) (w : World) (ha : na < 6) (hb : nb < 6) (hbb : b < w.heap.size) (ca : w.cell? ⟨b, o + na, none⟩ = some (.int .i64 u)) (cb : w.cell? ⟨b, o + nb, none⟩ = some (.int .i64 v)) (hu0 : 0 ≤ u) (hu1 : u ≤ 63) (hv0 : 0 ≤ v) (hv1 : v ≤ 63) (h : op.toList = [97,100,100,105]) (hm0 : 0 ≤ m) (hm1 : m ≤ 63) :
    Calls Try.prog 238 #[.pointer (some ⟨b, o, none⟩), .agg #[.string op, .int .i64 d, .int .i64 na, .int .i64 nb, .int .i64 m]] w fun e w' => e = .returned (.int .i64 (vOf op m u v)) ∧ Below w.heap.size w w' := by
  have hR := Lib.hid (vOf_addi h m u v)
  have hB1 := fun o => Lib.hid ((Below.refl w.heap.size w).alloc (Nat.le_refl _) o)
  have i0 : (0 : Int) ≤ (na : Int) := by omega
  have i1 : (na : Int) < 6 := by omega
  have j0 : (0 : Int) ≤ (nb : Int) := by omega
  have j1 : (nb : Int) < 6 := by omega
  obtain rfl := bytes_of h
  go_enter Try.func238, Try.ntmps238
  go_wp2_with (fail)
  go_quiet (fail)
  go_wp2_with (fail)
  obtain ⟨wq, hwq⟩ : ∃ wq : World, wq = (w.alloc (.cells #[.string ⟨#[97,100,100,105]⟩, .int .i64 d, .int .i64 na, .int .i64 nb, .int .i64 m] 56)).drewN nq := ⟨_, rfl⟩
  rw [← hwq]
  have hb1 : Hid (Below w.heap.size w wq) := by rw [hwq]; exact below_drewN (hB1 _).out _
  obtain ⟨xa, _, _, _, xe⟩ := In.old (x := ⟨⟨#[97,100,100,105]⟩, d, na, nb, m⟩) (w2 := wq) (t := 56) rfl (by rw [hwq]; exact below_drewN (Below.refl _ _) _)
  clear hwq
  go_quiet ((first | (go_at_call 260; exact Calls.quiet_of_same (same_flip (trim_addi _))) | (go_at_call 131; exact Calls.quiet_of_same (same_flip (valueOfOp_any _ _ _ _ (by omega) (by omega) (by omega) (by omega) op_add)))))
  go_wp2
  go_ret
  exact ⟨ret_int (by rw [hR.out]), below_drewN hb1.out _⟩

set_option maxHeartbeats 2000000 in
theorem valueOfO_andi (op : ByteArray) (d m : Int) (na nb : Nat) (b o : Nat) (u v : Int) (w : World) (ha : na < 6) (hb : nb < 6) (hbb : b < w.heap.size) (ca : w.cell? ⟨b, o + na, none⟩ = some (.int .i64 u)) (cb : w.cell? ⟨b, o + nb, none⟩ = some (.int .i64 v)) (hu0 : 0 ≤ u) (hu1 : u ≤ 63) (hv0 : 0 ≤ v) (hv1 : v ≤ 63) (h : op.toList = [97,110,100,105]) (hm0 : 0 ≤ m) (hm1 : m ≤ 63) :
    Calls Try.prog 238 #[.pointer (some ⟨b, o, none⟩), .agg #[.string op, .int .i64 d, .int .i64 na, .int .i64 nb, .int .i64 m]] w fun e w' => e = .returned (.int .i64 (vOf op m u v)) ∧ Below w.heap.size w w' := by
  have hR := Lib.hid (vOf_andi h m u v)
  have hB1 := fun o => Lib.hid ((Below.refl w.heap.size w).alloc (Nat.le_refl _) o)
  have i0 : (0 : Int) ≤ (na : Int) := by omega
  have i1 : (na : Int) < 6 := by omega
  have j0 : (0 : Int) ≤ (nb : Int) := by omega
  have j1 : (nb : Int) < 6 := by omega
  obtain rfl := bytes_of h
  go_enter Try.func238, Try.ntmps238
  go_wp2_with (fail)
  go_quiet (fail)
  go_wp2_with (fail)
  obtain ⟨wq, hwq⟩ : ∃ wq : World, wq = (w.alloc (.cells #[.string ⟨#[97,110,100,105]⟩, .int .i64 d, .int .i64 na, .int .i64 nb, .int .i64 m] 56)).drewN nq := ⟨_, rfl⟩
  rw [← hwq]
  have hb1 : Hid (Below w.heap.size w wq) := by rw [hwq]; exact below_drewN (hB1 _).out _
  obtain ⟨xa, _, _, _, xe⟩ := In.old (x := ⟨⟨#[97,110,100,105]⟩, d, na, nb, m⟩) (w2 := wq) (t := 56) rfl (by rw [hwq]; exact below_drewN (Below.refl _ _) _)
  clear hwq
  go_quiet ((first | (go_at_call 260; exact Calls.quiet_of_same (same_flip (trim_andi _))) | (go_at_call 131; exact Calls.quiet_of_same (same_flip (valueOfOp_any _ _ _ _ (by omega) (by omega) (by omega) (by omega) op_and)))))
  go_wp2
  go_ret
  exact ⟨ret_int (by rw [hR.out]), below_drewN hb1.out _⟩

set_option maxHeartbeats 2000000 in
theorem valueOfO_xori (op : ByteArray) (d m : Int) (na nb : Nat) (b o : Nat) (u v : Int) (w : World) (ha : na < 6) (hb : nb < 6) (hbb : b < w.heap.size) (ca : w.cell? ⟨b, o + na, none⟩ = some (.int .i64 u)) (cb : w.cell? ⟨b, o + nb, none⟩ = some (.int .i64 v)) (hu0 : 0 ≤ u) (hu1 : u ≤ 63) (hv0 : 0 ≤ v) (hv1 : v ≤ 63) (h : op.toList = [120,111,114,105]) (hm0 : 0 ≤ m) (hm1 : m ≤ 63) :
    Calls Try.prog 238 #[.pointer (some ⟨b, o, none⟩), .agg #[.string op, .int .i64 d, .int .i64 na, .int .i64 nb, .int .i64 m]] w fun e w' => e = .returned (.int .i64 (vOf op m u v)) ∧ Below w.heap.size w w' := by
  have hR := Lib.hid (vOf_xori h m u v)
  have hB1 := fun o => Lib.hid ((Below.refl w.heap.size w).alloc (Nat.le_refl _) o)
  have i0 : (0 : Int) ≤ (na : Int) := by omega
  have i1 : (na : Int) < 6 := by omega
  have j0 : (0 : Int) ≤ (nb : Int) := by omega
  have j1 : (nb : Int) < 6 := by omega
  obtain rfl := bytes_of h
  go_enter Try.func238, Try.ntmps238
  go_wp2_with (fail)
  go_quiet (fail)
  go_wp2_with (fail)
  obtain ⟨wq, hwq⟩ : ∃ wq : World, wq = (w.alloc (.cells #[.string ⟨#[120,111,114,105]⟩, .int .i64 d, .int .i64 na, .int .i64 nb, .int .i64 m] 56)).drewN nq := ⟨_, rfl⟩
  rw [← hwq]
  have hb1 : Hid (Below w.heap.size w wq) := by rw [hwq]; exact below_drewN (hB1 _).out _
  obtain ⟨xa, _, _, _, xe⟩ := In.old (x := ⟨⟨#[120,111,114,105]⟩, d, na, nb, m⟩) (w2 := wq) (t := 56) rfl (by rw [hwq]; exact below_drewN (Below.refl _ _) _)
  clear hwq
  go_quiet ((first | (go_at_call 260; exact Calls.quiet_of_same (same_flip (trim_xori _))) | (go_at_call 131; exact Calls.quiet_of_same (same_flip (valueOfOp_any _ _ _ _ (by omega) (by omega) (by omega) (by omega) op_xor)))))
  go_wp2
  go_ret
  exact ⟨ret_int (by rw [hR.out]), below_drewN hb1.out _⟩

set_option maxHeartbeats 2000000 in
theorem valueOfO_shli (op : ByteArray) (d m : Int) (na nb : Nat) (b o : Nat) (u v : Int) (w : World) (ha : na < 6) (hb : nb < 6) (hbb : b < w.heap.size) (ca : w.cell? ⟨b, o + na, none⟩ = some (.int .i64 u)) (cb : w.cell? ⟨b, o + nb, none⟩ = some (.int .i64 v)) (hu0 : 0 ≤ u) (hu1 : u ≤ 63) (hv0 : 0 ≤ v) (hv1 : v ≤ 63) (h : op.toList = [115,104,108,105]) (hm0 : 1 ≤ m) (hm1 : m ≤ 5) :
    Calls Try.prog 238 #[.pointer (some ⟨b, o, none⟩), .agg #[.string op, .int .i64 d, .int .i64 na, .int .i64 nb, .int .i64 m]] w fun e w' => e = .returned (.int .i64 (vOf op m u v)) ∧ Below w.heap.size w w' := by
  have hR := Lib.hid (vOf_shli h m u v)
  have hB1 := fun o => Lib.hid ((Below.refl w.heap.size w).alloc (Nat.le_refl _) o)
  have i0 : (0 : Int) ≤ (na : Int) := by omega
  have i1 : (na : Int) < 6 := by omega
  have j0 : (0 : Int) ≤ (nb : Int) := by omega
  have j1 : (nb : Int) < 6 := by omega
  obtain rfl := bytes_of h
  go_enter Try.func238, Try.ntmps238
  go_wp2_with (fail)
  go_quiet (fail)
  go_wp2_with (fail)
  obtain ⟨wq, hwq⟩ : ∃ wq : World, wq = (w.alloc (.cells #[.string ⟨#[115,104,108,105]⟩, .int .i64 d, .int .i64 na, .int .i64 nb, .int .i64 m] 56)).drewN nq := ⟨_, rfl⟩
  rw [← hwq]
  have hb1 : Hid (Below w.heap.size w wq) := by rw [hwq]; exact below_drewN (hB1 _).out _
  obtain ⟨xa, _, _, _, xe⟩ := In.old (x := ⟨⟨#[115,104,108,105]⟩, d, na, nb, m⟩) (w2 := wq) (t := 56) rfl (by rw [hwq]; exact below_drewN (Below.refl _ _) _)
  clear hwq
  go_quiet ((first | (go_at_call 260; exact Calls.quiet_of_same (same_flip (trim_shli _))) | (go_at_call 131; exact Calls.quiet_of_same (same_flip (valueOfOp_any _ _ _ _ (by omega) (by omega) (by omega) (by omega) op_shl)))))
  go_wp2
  go_ret
  exact ⟨ret_int (by rw [hR.out]), below_drewN hb1.out _⟩

set_option maxHeartbeats 2000000 in
theorem valueOfO_shri (op : ByteArray) (d m : Int) (na nb : Nat) (b o : Nat) (u v : Int) (w : World) (ha : na < 6) (hb : nb < 6) (hbb : b < w.heap.size) (ca : w.cell? ⟨b, o + na, none⟩ = some (.int .i64 u)) (cb : w.cell? ⟨b, o + nb, none⟩ = some (.int .i64 v)) (hu0 : 0 ≤ u) (hu1 : u ≤ 63) (hv0 : 0 ≤ v) (hv1 : v ≤ 63) (h : op.toList = [115,104,114,105]) (hm0 : 1 ≤ m) (hm1 : m ≤ 5) :
    Calls Try.prog 238 #[.pointer (some ⟨b, o, none⟩), .agg #[.string op, .int .i64 d, .int .i64 na, .int .i64 nb, .int .i64 m]] w fun e w' => e = .returned (.int .i64 (vOf op m u v)) ∧ Below w.heap.size w w' := by
  have hR := Lib.hid (vOf_shri h m u v)
  have hB1 := fun o => Lib.hid ((Below.refl w.heap.size w).alloc (Nat.le_refl _) o)
  have i0 : (0 : Int) ≤ (na : Int) := by omega
  have i1 : (na : Int) < 6 := by omega
  have j0 : (0 : Int) ≤ (nb : Int) := by omega
  have j1 : (nb : Int) < 6 := by omega
  obtain rfl := bytes_of h
  go_enter Try.func238, Try.ntmps238
  go_wp2_with (fail)
  go_quiet (fail)
  go_wp2_with (fail)
  obtain ⟨wq, hwq⟩ : ∃ wq : World, wq = (w.alloc (.cells #[.string ⟨#[115,104,114,105]⟩, .int .i64 d, .int .i64 na, .int .i64 nb, .int .i64 m] 56)).drewN nq := ⟨_, rfl⟩
  rw [← hwq]
  have hb1 : Hid (Below w.heap.size w wq) := by rw [hwq]; exact below_drewN (hB1 _).out _
  obtain ⟨xa, _, _, _, xe⟩ := In.old (x := ⟨⟨#[115,104,114,105]⟩, d, na, nb, m⟩) (w2 := wq) (t := 56) rfl (by rw [hwq]; exact below_drewN (Below.refl _ _) _)
  clear hwq
  go_quiet ((first | (go_at_call 260; exact Calls.quiet_of_same (same_flip (trim_shri _))) | (go_at_call 131; exact Calls.quiet_of_same (same_flip (valueOfOp_any _ _ _ _ (by omega) (by omega) (by omega) (by omega) op_shr)))))
  go_wp2
  go_ret
  exact ⟨ret_int (by rw [hR.out]), below_drewN hb1.out _⟩

set_option maxHeartbeats 2000000 in
theorem valueOfO_lea (op : ByteArray) (d m : Int) (na nb : Nat) (b o : Nat) (u v : Int) (w : World) (ha : na < 6) (hb : nb < 6) (hbb : b < w.heap.size) (ca : w.cell? ⟨b, o + na, none⟩ = some (.int .i64 u)) (cb : w.cell? ⟨b, o + nb, none⟩ = some (.int .i64 v)) (hu0 : 0 ≤ u) (hu1 : u ≤ 63) (hv0 : 0 ≤ v) (hv1 : v ≤ 63) (h : op.toList = [108,101,97]) (hm0 : 1 ≤ m) (hm1 : m ≤ 3) :
    Calls Try.prog 238 #[.pointer (some ⟨b, o, none⟩), .agg #[.string op, .int .i64 d, .int .i64 na, .int .i64 nb, .int .i64 m]] w fun e w' => e = .returned (.int .i64 (vOf op m u v)) ∧ Below w.heap.size w w' := by
  have hR := Lib.hid (vOf_lea h m u v)
  have hB1 := fun o => Lib.hid ((Below.refl w.heap.size w).alloc (Nat.le_refl _) o)
  have i0 : (0 : Int) ≤ (na : Int) := by omega
  have i1 : (na : Int) < 6 := by omega
  have j0 : (0 : Int) ≤ (nb : Int) := by omega
  have j1 : (nb : Int) < 6 := by omega
  go_enter Try.func238, Try.ntmps238
  go_wp2_with (fail)
  go_quiet (fail)
  obtain ⟨hq0, hq1⟩ := ap_bd ⟨#[115,104,108]⟩ v m hv0 hv1 (by omega) (by omega)
  have hb1 := Lib.hid (below_drewN (hB1 (.cells #[.string op, .int .i64 d, .int .i64 na, .int .i64 nb, .int .i64 m] 56)).out nq)
  go_wp2_with (fail)
  refine (valueOfOp_any _ _ _ _ (by omega) (by omega) (by omega) (by omega) op_shl).mono ?_
  rintro e w' ⟨rfl, rfl⟩
  go_wp2_with (fail)
  refine (valueOfOp_any _ _ _ _ (by omega) (by omega) hq0 hq1 op_add).mono ?_
  rintro e w' ⟨rfl, rfl⟩
  go_wp2
  go_ret
  exact ⟨ret_int (by rw [hR.out]), hb1.out⟩

set_option maxHeartbeats 2000000 in
theorem valueOfO_plain (op : ByteArray) (d m : Int) (na nb : Nat) (b o : Nat) (u v : Int) (w : World) (ha : na < 6) (hb : nb < 6) (hbb : b < w.heap.size) (ca : w.cell? ⟨b, o + na, none⟩ = some (.int .i64 u)) (cb : w.cell? ⟨b, o + nb, none⟩ = some (.int .i64 v)) (hu0 : 0 ≤ u) (hu1 : u ≤ 63) (hv0 : 0 ≤ v) (hv1 : v ≤ 63) (h : plainOp op) (hop : isOp op = true) :
    Calls Try.prog 238 #[.pointer (some ⟨b, o, none⟩), .agg #[.string op, .int .i64 d, .int .i64 na, .int .i64 nb, .int .i64 m]] w fun e w' => e = .returned (.int .i64 (vOf op m u v)) ∧ Below w.heap.size w w' := by
  have hR := Lib.hid (vOf_plain h m u v)
  have hB1 := fun o => Lib.hid ((Below.refl w.heap.size w).alloc (Nat.le_refl _) o)
  have i0 : (0 : Int) ≤ (na : Int) := by omega
  have i1 : (na : Int) < 6 := by omega
  have j0 : (0 : Int) ≤ (nb : Int) := by omega
  have j1 : (nb : Int) < 6 := by omega
  obtain ⟨q0, q1, q2, q3, q4, q5, q6, q7⟩ := h
  go_enter Try.func238, Try.ntmps238
  go_wp2_with (fail)
  go_quiet (fail)
  go_wp2_with (go_at_call 131; refine (valueOfOp_any _ _ _ _ (by omega) (by omega) (by omega) (by omega) hop).mono ?_; rintro e w' ⟨rfl, rfl⟩)
  go_ret
  exact ⟨ret_int (by rw [hR.out]), below_drewN (hB1 _).out _⟩
end Go.Proofs.Ytmhdijklindipaa

/- A machine that lies within a greater block. -/
namespace Go.Proofs.Ytmhdijklindipaa
open Go.RowKit
set_option linter.unusedVariables false
set_option maxRecDepth 100000

theorem valueOfO_any (x : In) (b o : Nat) (rs : List Int) (w : World) (hx : goodIn x = true) (h6 : words6 rs) (hbb : b < w.heap.size) (hc : Six w b o rs) :
    Calls Try.prog 238 #[.pointer (some ⟨b, o, none⟩), .agg #[.string x.op, .int .i64 x.d, .int .i64 x.a, .int .i64 x.b, .int .i64 x.m]] w fun e w' => e = .returned (.int .i64 (vOf x.op x.m (rs.getD x.a.toNat 0) (rs.getD x.b.toNat 0))) ∧ Below w.heap.size w w' := by
  obtain ⟨hd, ha, hb, hok, hm⟩ := good_parts hx
  obtain ⟨op, d, a, b', m⟩ := x
  obtain ⟨na, rfl⟩ := Int.eq_ofNat_of_zero_le ha.1
  obtain ⟨nb, rfl⟩ := Int.eq_ofNat_of_zero_le hb.1
  have hu := getD_bd h6.2 na
  have hv := getD_bd h6.2 nb
  have hc' := hc
  simp only at ha hb hm hok
  simp only [Int.toNat_natCast]
  rcases val_cases hok with h|h|h|h|h|h|h|h|⟨h, hop, _, _⟩
  · rw [fm_set h] at hm; exact valueOfO_set op d m na nb b o _ _ w (by omega) (by omega) hbb (hc' na (by omega)) (hc' nb (by omega)) hu.1 hu.2 hv.1 hv.2 h hm.1 hm.2
  · rw [fm_mov h] at hm; exact valueOfO_mov op d m na nb b o _ _ w (by omega) (by omega) hbb (hc' na (by omega)) (hc' nb (by omega)) hu.1 hu.2 hv.1 hv.2 h hm.1 hm.2
  · rw [fm_addi h] at hm; exact valueOfO_addi op d m na nb b o _ _ w (by omega) (by omega) hbb (hc' na (by omega)) (hc' nb (by omega)) hu.1 hu.2 hv.1 hv.2 h hm.1 hm.2
  · rw [fm_andi h] at hm; exact valueOfO_andi op d m na nb b o _ _ w (by omega) (by omega) hbb (hc' na (by omega)) (hc' nb (by omega)) hu.1 hu.2 hv.1 hv.2 h hm.1 hm.2
  · rw [fm_xori h] at hm; exact valueOfO_xori op d m na nb b o _ _ w (by omega) (by omega) hbb (hc' na (by omega)) (hc' nb (by omega)) hu.1 hu.2 hv.1 hv.2 h hm.1 hm.2
  · rw [fm_shli h] at hm; exact valueOfO_shli op d m na nb b o _ _ w (by omega) (by omega) hbb (hc' na (by omega)) (hc' nb (by omega)) hu.1 hu.2 hv.1 hv.2 h hm.1 hm.2
  · rw [fm_shri h] at hm; exact valueOfO_shri op d m na nb b o _ _ w (by omega) (by omega) hbb (hc' na (by omega)) (hc' nb (by omega)) hu.1 hu.2 hv.1 hv.2 h hm.1 hm.2
  · rw [fm_lea h] at hm; exact valueOfO_lea op d m na nb b o _ _ w (by omega) (by omega) hbb (hc' na (by omega)) (hc' nb (by omega)) hu.1 hu.2 hv.1 hv.2 h hm.1 hm.2
  · exact valueOfO_plain op d m na nb b o _ _ w (by omega) (by omega) hbb (hc' na (by omega)) (hc' nb (by omega)) hu.1 hu.2 hv.1 hv.2 h hop

/-- A step's store: one word of the machine at g, o. -/
def StepO (w : World) (g o : Nat) (x : In) (rs : List Int) (e : Ending) (w' : World) : Prop :=
  e = .returned (.tuple #[]) ∧ ∃ w1, Below w.heap.size w w1 ∧ w' = w1.setCell ⟨g, o + x.d.toNat, none⟩ (.int .i64 (vOf x.op x.m (rs.getD x.a.toNat 0) (rs.getD x.b.toNat 0)))
set_option maxHeartbeats 4000000 in
theorem stepO_any (x : In) (g o : Nat) (rs : List Int) (w : World) (hx : goodIn x = true) (h6 : words6 rs) (hgl : g < w.heap.size) (hS6 : Six w g o rs) (hfz : ∀ i, i < 6 → w.frozen? ⟨g, o + i, none⟩ = false) :
    Calls Try.prog 146 #[.pointer (some ⟨g, o, none⟩), .agg #[.string x.op, .int .i64 x.d, .int .i64 x.a, .int .i64 x.b, .int .i64 x.m]] w (StepO w g o x rs) := by
  have hG := Lib.hid hx
  have hW := Lib.hid h6
  obtain ⟨hd, _⟩ := good_parts hx
  obtain ⟨op, d, a, b', m⟩ := x
  obtain ⟨nd, rfl⟩ := Int.eq_ofNat_of_zero_le hd.1
  have hb0 := Lib.hid ((Below.refl w.heap.size w).alloc (Nat.le_refl _) (.cells #[.string op, .int .i64 nd, .int .i64 a, .int .i64 b', .int .i64 m] 56))
  obtain ⟨y, hy⟩ : ∃ y, vOf op m (rs.getD a.toNat 0) (rs.getD b'.toNat 0) = y := ⟨_, rfl⟩
  have hV := Lib.hid (fun w' (h1 : g < w'.heap.size) (h2 : Six w' g o rs) => (show Calls Try.prog 238 #[.pointer (some ⟨g, o, none⟩), .agg #[.string op, .int .i64 nd, .int .i64 a, .int .i64 b', .int .i64 m]] w' (fun e w'' => e = .returned (.int .i64 y) ∧ Below w'.heap.size w' w'') from by have := valueOfO_any ⟨op, nd, a, b', m⟩ g o rs w' hG.out hW.out h1 h2; simp only at this; rw [hy] at this; exact this))
  have hY := Lib.hid hy
  clear hy
  have hd' : nd < 6 := by simp only at hd; omega
  have hS0 := Lib.hid hS6
  have hF0 := Lib.hid hfz
  clear hx h6 hd hS6 hfz
  go_enter Try.func146, Try.ntmps146
  go_wp2_with (fail)
  obtain ⟨w1, hw1⟩ : ∃ w1 : World, w1 = w.alloc (.cells #[.string op, .int .i64 nd, .int .i64 a, .int .i64 b', .int .i64 m] 56) := ⟨_, rfl⟩
  rw [← hw1] at hb0 ⊢
  obtain ⟨xa, xb, xc, xd, xe⟩ := In.old (x := ⟨op, nd, a, b', m⟩) (w2 := w1) (t := 56) rfl (by rw [hw1]; exact Below.refl _ _)
  have hz : w.heap.size < w1.heap.size := by rw [hw1]; simp
  have hgz : g < w1.heap.size := by omega
  have hne : g ≠ w.heap.size := by omega
  have hS1 := Lib.hid (hS0.out.below hb0.out hgl)
  have hF1 : Hid (∀ i, i < 6 → w1.frozen? ⟨g, o + i, none⟩ = false) := fun i hi => (hb0.out.frozen (p := ⟨g, o + i, none⟩) hgl).trans (hF0.out i hi)
  clear hw1
  have i0 : (0 : Int) ≤ (nd : Int) := by omega
  have i1 : (nd : Int) < 6 := by omega
  have hb1 := Lib.hid hgz
  go_region_with (go_at_call 238; refine (hV.out _ (by exact hb1.out) (by exact Six.heap rfl hS1.out)).mono ?_; rintro e w2 ⟨rfl, hb2⟩; have hb3 := Lib.hid ((Below.refl w1.heap.size w1).drew.trans hb2); have c1 := (hS1.out.below hb3.out hgz) nd hd'; have f1 : w2.frozen? ⟨g, o + nd, none⟩ = false := (hb3.out.frozen (p := ⟨g, o + nd, none⟩) hgz).trans (hF1.out nd hd'); have xb2 := (hb3.out.cell (p := ⟨w.heap.size, 1, none⟩) hz).trans xb)
  all_goals
    have hfin := Lib.hid (hb0.out.trans (hb3.out.mono (Nat.le_of_lt hz)))
    go_wp2
    go_end0
    refine ⟨rfl, w2, hfin.out, ?_⟩
    dsimp only
    rw [hY.out, Int.toNat_natCast]
theorem words_gen (g : Nat) (rs : List Int) (w : World) (h6 : rs.length = 6) (hI : IS w g (g + 1) (some ⟨g, 0, none⟩) rs) (hg : g < w.heap.size) :
    Calls Try.prog 147 #[.pointer (some ⟨g, 0, none⟩)] w (Own6 w rs) := by
  have hC := Lib.hid ((CloneI_any g 0 6 rs g (g + 1) w (by omega) hI hg).mono fun _ _ => own6_of h6)
  rw [h6] at hC
  clear hI
  go_enter Try.func147, Try.ntmps147
  go_wp2_with (fail)
  refine hC.out.mono ?_
  rintro e w1 ⟨g1, c1, rfl, hg1, ho1, hb1⟩
  have hO1 := Lib.hid ho1
  go_wp2
  go_ret
  exact ⟨g1, c1, rfl, hg1, hO1.out, hb1⟩
end Go.Proofs.Ytmhdijklindipaa

/- TraceOf of the program. -/
namespace Go.Proofs.Ytmhdijklindipaa
open Go.RowKit
set_option linter.unusedVariables false
set_option maxRecDepth 100000

/-- The tracer's box: a machine's six words, and what was noted. -/
structure TrSt (w0 : World) (g : Nat) (rs : List Int) (V : Value) (xss : List (List Int)) (W : World) : Prop where
  hg : w0.heap.size ≤ g
  h6 : words6 rs
  bx : CB 118 W g (rs.map (Value.int .i64) ++ [V])
  ox : OX W (g + 1) W.heap.size V xss
  be : Below w0.heap.size w0 W
theorem TrSt.cellW {w0 W : World} {g : Nat} {rs : List Int} {V : Value} {xss : List (List Int)} (h : TrSt w0 g rs V xss W) {i : Nat} (hi : i < 6) : W.cell? ⟨g, i, none⟩ = some (.int .i64 (rs.getD i 0)) := by
  have hl := h.h6.1
  rw [h.bx.cell, List.getElem?_append_left (by simp; omega), List.getElem?_map, List.getD_eq_getElem?_getD, List.getElem?_eq_getElem (by omega)]; rfl
theorem TrSt.six {w0 W : World} {g : Nat} {rs : List Int} {V : Value} {xss : List (List Int)} (h : TrSt w0 g rs V xss W) : Six W g 0 rs := fun i hi => by rw [Nat.zero_add]; exact h.cellW hi
theorem TrSt.noted {w0 W : World} {g : Nat} {rs : List Int} {V : Value} {xss : List (List Int)} (h : TrSt w0 g rs V xss W) : W.cell? ⟨g, 6, none⟩ = some V := by
  have hl := h.h6.1
  rw [h.bx.cell, List.getElem?_append_right (by simp; omega)]; simp [hl]
theorem TrSt.words {w0 W : World} {g : Nat} {rs : List Int} {V : Value} {xss : List (List Int)} (h : TrSt w0 g rs V xss W) : IS W g (g + 1) (some ⟨g, 0, none⟩) rs := fun _ =>
  ⟨g, 0, rfl, ⟨Nat.le_refl _, Nat.lt_succ_self _⟩, fun i hi => by have := h.cellW (i := i) (by have := h.h6.1; omega); rw [Nat.zero_add, this, List.getD_eq_getElem?_getD, List.getElem?_eq_getElem hi]; rfl⟩
theorem TrSt.below {w0 W W' : World} {g : Nat} {rs : List Int} {V : Value} {xss : List (List Int)} (h : TrSt w0 g rs V xss W) (hb : Below W.heap.size W W') : TrSt w0 g rs V xss W' :=
  ⟨h.hg, h.h6, h.bx.below hb h.bx.lt, (h.ox.below hb (Nat.le_refl _)).more hb.size, h.be.trans (hb.mono h.be.size)⟩
/-- A word is written. -/
theorem TrSt.step {w0 W : World} {g n : Nat} {rs : List Int} {V : Value} {xss : List (List Int)} {y : Int} (h : TrSt w0 g rs V xss W) (hn : n < 6) (h6 : words6 (rs.set n y)) : TrSt w0 g (rs.set n y) V xss (W.setCell ⟨g, n, none⟩ (.int .i64 y)) := by
  have hl := h.h6.1
  have hz : (W.setCell ⟨g, n, none⟩ (.int .i64 y)).heap.size = W.heap.size := World.size_setCell _ _ _
  refine ⟨h.hg, h6, ?_, ?_, h.be.setCell (p := ⟨g, n, none⟩) h.hg _⟩
  · have := h.bx.set n (.int .i64 y)
    rw [List.set_append_left _ _ (by simp; omega), ← List.map_set] at this
    exact this
  · rw [hz]; exact h.ox.chg ((Chg.refl g (g + 1) W).setCell (p := ⟨g, n, none⟩) ⟨Nat.le_refl _, Nat.lt_succ_self _⟩ _) (.inr (Nat.le_refl _))
theorem tr_row {w0 W W7 : World} {g : Nat} {rs : List Int} {V V' : Value} {xss yss : List (List Int)} (h : TrSt w0 g rs V xss W) (hgr : W.grownBy W7 V.ownBlock) (ho : OX W7 (g + 1) W7.heap.size V' yss) (hlo : ∀ b, V.ownBlock = some b → g + 1 ≤ b) : TrSt w0 g rs V' yss (W7.setCell ⟨g, 6, none⟩ V') := by
  have hl := h.h6.1
  have hz : (W7.setCell ⟨g, 6, none⟩ V').heap.size = W7.heap.size := World.size_setCell _ _ _
  have hb : CB 118 W7 g (rs.map (Value.int .i64) ++ [V]) := (hgr.block g h.bx.lt (fun e => by have := hlo g e.symm; omega)).trans h.bx
  refine ⟨h.hg, h.h6, ?_, ?_, (h.be.grown hgr h.be.size (fun b e => by have := hlo b e; have := h.hg; omega)).setCell (p := ⟨g, 6, none⟩) h.hg _⟩
  · have := hb.set 6 V'
    rw [List.set_append_right _ _ (by simp; omega)] at this
    simpa [hl] using this
  · rw [hz]; exact ho.chg ((Chg.refl g (g + 1) W7).setCell (p := ⟨g, 6, none⟩) ⟨Nat.le_refl _, Nat.lt_succ_self _⟩ _) (.inr (Nat.le_refl _))

set_option maxHeartbeats 4000000 in
theorem note_any (w0 : World) (g : Nat) (rs : List Int) (V : Value) (xss : List (List Int)) (W : World) (hxl : xss.length ≤ 41) (h : TrSt w0 g rs V xss W) :
    Calls Try.prog 140 #[.pointer (some ⟨g, 0, none⟩)] W fun e w' => e = .returned (.tuple #[]) ∧ ∃ V', TrSt w0 g rs V' (xss ++ [rs]) w' := by
  obtain ⟨i0, hi', hz0', hz1', hz2'⟩ := info_parts Try.infoII
  have hJ0 := Lib.hid hi'
  have hJ1 := Lib.hid hz0'
  have hJ2 := Lib.hid hz1'
  have hJ3 := Lib.hid hz2'
  clear hi' hz0' hz1' hz2'
  obtain ⟨A5, c5, rfl⟩ := h.ox.form
  have hSt := Lib.hid (h.below (Below.refl W.heap.size W).drew)
  have hW := Lib.hid (words_gen g rs W.drew h.h6.1 hSt.out.words hSt.out.bx.lt)
  have hgW := Lib.hid h.bx.lt
  have u6 := h.noted
  clear h
  go_enter Try.func140, Try.ntmps140
  go_wp2_with (fail)
  go_region_law (first
    | (go_simp; go_at_call 147; (with_reducible refine hW.out.mono ?_); rintro e w6 ⟨g6, c6, rfl, hg6, ho6, hb6⟩; have hO6 := (ho6.lower hg6).more (ho6.1.lt g6 rfl).2; have hS6 := Lib.hid (hSt.out.below hb6); obtain ⟨vs, hvn, HL, HN, H1, HK, Hlo⟩ := snocX hSt.out.ox hSt.out.bx.lt hb6 hO6; have HL := Lib.hid HL; have HN := Lib.hid HN; have H1 := Lib.hid H1; have HK := Lib.hid HK; have Hlo := Lib.hid Hlo; have v6 := hS6.out.noted; have hz6 := Lib.hid hb6.size; have hS7 := Lib.hid (hS6.out.below ((Below.refl w6.heap.size w6).alloc (Nat.le_refl _) (.cells #[.slice (some ⟨g6, 0, none⟩) 6 c6] 27))); have v7 := hS7.out.noted; have hgz : Hid (g + 1 ≤ (w6.alloc (.cells #[.slice (some ⟨g6, 0, none⟩) 6 c6] 27)).heap.size) := hS7.out.bx.lt; clear ho6 hb6 hO6 hg6)
    | (refine step_append_lies _ rfl _ _ 50 rfl (g + 1) 27 i0 _ 1 24 Try.underlying50 hJ0.out hJ1.out hJ2.out hJ3.out rfl (by decide) _ xss.length _ (by rfl) HL.out ⟨w6.heap.size, 0, none⟩ 1 1 _ (by rfl) rfl HN.out H1.out (by omega) (by unfold maxLen; omega) (by omega) hgz.out (w6.heap.size + 1) (by simp) ?_; intro g' cap w7 hown7 hgr7 _ _; have hb7 : CB 118 w7 g (rs.map (Value.int .i64) ++ [.slice A5 xss.length c5]) := (hgr7.block g hS7.out.bx.lt (fun e => by have := Hlo.out g e.symm; omega)).trans hS7.out.bx; have f7 := hb7.frozen 6; have k7 : w7.cell? ⟨g, 6, none⟩ = some (.slice A5 xss.length c5) := (by rw [hb7.cell, ← hS7.out.bx.cell]; exact hS7.out.noted)))
  all_goals
    have hX7 := HK.out g' cap w7 hown7 hgr7
    have hfin := Lib.hid (tr_row hS7.out hgr7 hX7 Hlo.out)
    clear hX7 hown7 hgr7
    go_wp2
    go_end0
    exact ⟨rfl, _, hfin.out⟩
set_option maxHeartbeats 4000000 in
theorem trStep_any (w0 : World) (g : Nat) (x : In) (rs : List Int) (V : Value) (xss : List (List Int)) (W : World) (hx : goodIn x = true) (hxl : xss.length ≤ 41) (h : TrSt w0 g rs V xss W) :
    Calls Try.prog 142 #[.pointer (some ⟨g, 0, none⟩), .agg #[.string x.op, .int .i64 x.d, .int .i64 x.a, .int .i64 x.b, .int .i64 x.m]] W fun e w' => e = .returned (.tuple #[]) ∧ ∃ V', TrSt w0 g (stepL x rs) V' (xss ++ [stepL x rs]) w' := by
  have hd := (good_parts hx).1
  have h6s := Lib.hid (stepL_words hx h.h6)
  obtain ⟨nd, hnd⟩ := Int.eq_ofNat_of_zero_le hd.1
  have hSet : Hid (stepL x rs = rs.set nd (vOf x.op x.m (rs.getD x.a.toNat 0) (rs.getD x.b.toNat 0))) := by rw [Hid, stepL, hnd, Int.toNat_natCast]
  obtain ⟨W1, hW1⟩ : ∃ W1, W1 = W.alloc (.cells #[.string x.op, .int .i64 x.d, .int .i64 x.a, .int .i64 x.b, .int .i64 x.m] 56) := ⟨_, rfl⟩
  have A1 : Below W.heap.size W W1 := by rw [hW1]; exact (Below.refl W.heap.size W).alloc (Nat.le_refl _) _
  have X1 : XB W1 W.heap.size x := by rw [hW1]; exact XB.new W x
  have hS1 := Lib.hid ((h.below A1).below (Below.refl W1.heap.size W1).drew)
  have hSt := Lib.hid (stepO_any x g 0 rs W1.drew hx h.h6 hS1.out.bx.lt hS1.out.six (fun i hi => by rw [Nat.zero_add]; exact hS1.out.bx.frozen i))
  have hd6 : nd < 6 := by omega
  have hN := Lib.hid hnd
  have hW1h := Lib.hid hW1.symm
  have hstp := Lib.hid fun (w1 : World) (hb : Below W1.drew.heap.size W1.drew w1) => (hS1.out.below hb).step (n := nd) (y := vOf x.op x.m (rs.getD x.a.toNat 0) (rs.getD x.b.toNat 0)) hd6 (by rw [← hSet.out]; exact h6s.out)
  have hNt := Lib.hid fun (V : Value) (W : World) (h : TrSt w0 g (stepL x rs) V xss W) => note_any w0 g (stepL x rs) V xss W hxl h
  clear hx h A1 hW1 hd hnd
  rw [← hSet.out] at hstp
  have hStO := Lib.hid (hSt.out.mono (R' := fun e w' => e = .returned (.tuple #[]) ∧ TrSt w0 g (stepL x rs) V xss w') fun e w' he => by
    obtain ⟨h1, w1, hb, rfl⟩ := he
    refine ⟨h1, ?_⟩
    have := hstp.out w1 hb
    rw [hN.out, Int.toNat_natCast, Nat.zero_add]
    exact this)
  clear hSt hstp h6s hSet
  generalize stepL x rs = R at *
  obtain ⟨op, d, a, b, m⟩ := x
  dsimp only at *
  go_enter Try.func142, Try.ntmps142
  go_wp2_with (fail)
  rw [hW1h.out]
  obtain ⟨xg, hxg⟩ : ∃ xg, xg = W.heap.size := ⟨_, rfl⟩
  rw [← hxg] at X1 ⊢
  obtain ⟨n0, n1, n2, n3, n4⟩ := XB.cells X1
  dsimp only at n0 n1 n2 n3 n4
  clear hW1h hxg X1
  go_region_law (go_simp; go_at_call 146; (with_reducible refine hStO.out.mono ?_); rintro e w2 ⟨rfl, h2⟩)
  all_goals
    have hT2 := Lib.hid (hNt.out V _ h2)
    clear h2 n0 n1 n2 n3 n4
    go_wp2_with (fail)
    refine hT2.out.mono ?_
    rintro e w3 ⟨rfl, V', h3⟩
    have hF := Lib.hid h3
    clear h3 hT2
    go_wp2
    go_end0
    exact ⟨rfl, V', hF.out⟩
end Go.Proofs.Ytmhdijklindipaa

/- TraceOf of the program, whole. -/
namespace Go.Proofs.Ytmhdijklindipaa
open Go.RowKit
set_option linter.unusedVariables false
set_option maxRecDepth 100000

set_option maxHeartbeats 4000000 in
theorem runStepsT_any (w0 : World) (L B : Nat) (A : Option Addr) (c : Nat) (es : List In) (g : Nat) (rs : List Int) (V : Value) (w : World) (hok : okCode es = true) (hes : RS In.enc 5 w0 L B A es) (hB : B ≤ w0.heap.size) (h0 : TrSt w0 g rs V [rs] w) :
    Calls Try.prog 141 #[.slice A es.length c, .func (.func 142) #[.pointer (some ⟨g, 0, none⟩)] #[]] w fun e w' => e = .returned (.tuple #[]) ∧ ∃ V', TrSt w0 g (runL es rs) V' (trL es rs es.length) w' := by
  have hl := okCode_len hok
  have hall := Lib.hid (okCode_all hok)
  have hE := Lib.hid fun (W : World) (hW : Below w0.heap.size w0 W) => hes.below hW hB
  have hTs := Lib.hid (trL_succ es rs)
  have hTl := Lib.hid (trL_len es rs)
  have hT0 := Lib.hid (trL_zero es rs)
  have hR0 : Hid (runL (es.take 0) rs = rs) := rfl
  have hRn : Hid (runL (es.take es.length) rs = runL es rs) := by rw [Hid, List.take_length]
  have hRs := Lib.hid fun (k : Nat) (h : k < es.length) => runL_snoc (rs := rs) h
  have hS0 := Lib.hid h0
  clear hes hB hok h0
  generalize trL es rs = T at *
  go_enter Try.func141, Try.ntmps141
  go_wp2
  go_loopw [8] (fun i wr => ∃ (k : Nat) (V' : Value), k ≤ es.length ∧ i = .int .i64 k ∧ TrSt w0 g (runL (es.take k) rs) V' (T k) wr) (fun i _ => es.length - (intOf i).toNat)
  case atStart => exact ⟨0, V, Nat.zero_le _, rfl, by rw [hT0.out, hR0.out]; exact hS0.out⟩
  case round =>
    obtain ⟨k, V', hk, rfl, hst⟩ := hrel
    have hS := Lib.hid hst
    by_cases hlt : k < es.length
    · obtain ⟨b, o, rfl, ⟨_, hbB⟩, hc⟩ := In.cells (hE.out _ hst.be) (by omega)
      obtain ⟨d1, d2, d3, d4, d5⟩ := hc k hlt
      clear hc hst
      have hx := Lib.hid (hall.out _ (List.getElem_mem hlt))
      have hSn := Lib.hid (hRs.out k hlt)
      have hTn := Lib.hid (hTs.out k)
      have hTk := hTl.out k
      rw [hSn.out] at hTn
      have hTn2 := Lib.hid hTn.out
      have hStep := Lib.hid fun (W : World) (hW : Below wr.heap.size wr W) => trStep_any w0 g es[k] _ V' _ W hx.out (by omega) (hS.out.below hW)
      rw [← hSn.out] at hStep
      clear hx hTk hTn
      generalize es[k] = nd at *
      generalize hRr : runL (es.take (k + 1)) rs = Rn at *
      have hRR := Lib.hid hRr
      clear hRr
      generalize hTT : T (k + 1) = Tn at *
      have hTTh := Lib.hid hTT
      clear hTT
      obtain ⟨op, d, a, bb, m⟩ := nd
      dsimp only at d1 d2 d3 d4 d5 hStep
      have A1 := Lib.hid ((Below.refl wr.heap.size wr).alloc (Nat.le_refl _) (.cells #[.string op, .int .i64 d, .int .i64 a, .int .i64 bb, .int .i64 m] 56))
      go_wp2_with (fail)
      refine (hStep.out _ A1.out).mono ?_
      rintro e w3 ⟨rfl, V3, h3⟩
      have hF := Lib.hid h3
      clear h3 d1 d2 d3 d4 d5
      go_wp2
      go_roundw
      case rel => exact ⟨k + 1, V3, by omega, by go_num, by rw [hRR.out, hTTh.out, hTn2.out, ← hSn.out]; exact hF.out⟩
      case measure => simp [intOf]; omega
    · obtain rfl : k = es.length := by omega
      rw [hRn.out] at hS
      clear hst
      go_wp2
      go_end0
      exact ⟨rfl, V', hS.out⟩
set_option maxHeartbeats 4000000 in
theorem iTraceOf_k (L B : Nat) (A : Option Addr) (c : Nat) (es : List In) (L' B' : Nat) (A' : Option Addr) (c' : Nat) (rs : List Int) (w : World) (hl : es.length ≤ 1048576) (hes : RS In.enc 5 w L B A es) (hB : B ≤ w.heap.size) (hn : rs.length ≤ 1048576) (hns : IS w L' B' A' rs) (hB' : B' ≤ w.heap.size) :
    Calls Try.prog 32 #[.slice A es.length c, .slice A' rs.length c'] w (ResTraceOf (trR es rs) (trOk es rs) w) := by
  have H := Lib.hid (IsCode_any L B A c es w hl hes hB)
  cases hk : okCode es
  · have hR := Lib.hid (trOk_no1 rs hk)
    rw [hk] at H
    clear hk hes hns
    go_enter Try.func32, Try.ntmps32
    go_wp2_with (fail)
    refine H.out.mono ?_
    rintro e w1 ⟨rfl, hb1⟩
    have hbh := Lib.hid hb1
    clear hb1
    go_wp2
    go_ret2
    rw [hR.out.1, hR.out.2]
    exact ⟨none, 0, rfl, OX.nil _ _ _, hbh.out⟩
  have H2 := Lib.hid fun (W : World) (hW : Below w.heap.size w W) => areWords_any L' B' A' c' rs W hn (hns.below hW hB')
  cases hr : regsOk rs
  · have hR := Lib.hid (trOk_no2 es hr)
    rw [hk] at H
    rw [hr] at H2
    clear hk hr hes hns
    go_enter Try.func32, Try.ntmps32
    go_wp2_with (fail)
    refine H.out.mono ?_
    rintro e w1 ⟨rfl, hb1⟩
    have hbh := Lib.hid hb1
    clear hb1
    go_wp2_with (fail)
    refine (H2.out _ hbh.out).mono ?_
    rintro e w2 ⟨rfl, rfl⟩
    go_wp2
    go_ret2
    rw [hR.out.1, hR.out.2]
    exact ⟨none, 0, rfl, OX.nil _ _ _, hbh.out⟩
  have hR := Lib.hid (trOk_yes hk hr)
  have h6 := regsOk_words hr
  have hW6 := Lib.hid h6
  obtain ⟨b', o', rfl, ⟨_, hbb⟩, _⟩ := hns.six h6.1
  obtain ⟨r0, r1, r2, r3, r4, r5, rfl⟩ := six_list h6.1
  have hM := Lib.hid fun (W : World) (hW : Below w.heap.size w W) => machineOf_any b' o' c' r0 r1 r2 r3 r4 r5 W L' B' (hns.below hW hB') (Nat.le_trans hB' hW.size)
  have hRun := Lib.hid fun (g : Nat) (V : Value) (W : World) (h0 : TrSt w g [r0, r1, r2, r3, r4, r5] V [[r0, r1, r2, r3, r4, r5]] W) => runStepsT_any w L B A c es g [r0, r1, r2, r3, r4, r5] V W hk hes hB h0
  have hX := Lib.hid (show (trL es [r0, r1, r2, r3, r4, r5] es.length).length = es.length + 1 from trL_len _ _ _)
  rw [hk] at H
  rw [hr] at H2
  clear hk hr hes hns h6
  generalize trL es [r0, r1, r2, r3, r4, r5] es.length = T at *
  generalize runL es [r0, r1, r2, r3, r4, r5] = Rf at *
  go_enter Try.func32, Try.ntmps32
  go_wp2_with (fail)
  refine H.out.mono ?_
  rintro e w1 ⟨rfl, hb1⟩
  have hbh := Lib.hid hb1
  clear hb1
  go_wp2_with (fail)
  refine (H2.out _ hbh.out).mono ?_
  rintro e w2 ⟨rfl, rfl⟩
  go_wp2_with (fail)
  refine (hM.out _ hbh.out).mono ?_
  rintro e w3 ⟨rfl, hb3⟩
  have hB3 := hbh.out.trans (hb3.mono hbh.out.size)
  have hT0 : Hid (TrSt w w3.heap.size [r0, r1, r2, r3, r4, r5] (.slice none 0 0) [] (w3.alloc (.cells #[.int .i64 r0, .int .i64 r1, .int .i64 r2, .int .i64 r3, .int .i64 r4, .int .i64 r5, .slice none 0 0] 118))) :=
    ⟨hB3.size, hW6.out, heap_alloc_new w3 _, OX.nil _ _ _, hB3.alloc hB3.size _⟩
  have hNt := Lib.hid (note_any w w3.heap.size [r0, r1, r2, r3, r4, r5] (.slice none 0 0) [] _ (by simp) hT0.out)
  clear hb3 hB3
  go_wp2_with (fail)
  refine hNt.out.mono ?_
  rintro e w4 ⟨rfl, V4, h4⟩
  have hRn := Lib.hid (hRun.out w3.heap.size V4 w4 h4)
  clear h4 hNt hRun hT0
  go_wp2_with (fail)
  refine hRn.out.mono ?_
  rintro e w5 ⟨rfl, V5, h5⟩
  obtain ⟨A5, c5, rfl⟩ := h5.ox.form
  have u6 := h5.noted
  have hO := Lib.hid (h5.ox.lower (Nat.le_trans h5.hg (Nat.le_succ _)))
  have hBe := Lib.hid h5.be
  clear h5 hRn
  go_wp2
  go_ret2
  rw [hR.out.1, hR.out.2]
  exact ⟨A5, c5, rfl, hO.out, hBe.out⟩
end Go.Proofs.Ytmhdijklindipaa
