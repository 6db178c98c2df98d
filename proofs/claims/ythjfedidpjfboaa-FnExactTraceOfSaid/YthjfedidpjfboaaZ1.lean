/- Texts of this proof, one behind the other: TY, TVO, TVP, TZ, TW, OC. -/
import Derived.Test.YthjfedidpjfboaaLawTR
import Derived.Test.YthjfedidpjfboaaZ3
import Derived.Test.YthjfedidpjfboaaZ2
import Derived.WalkKit
import Derived.WalkSpells
import Derived.WalkLawsBesides
import Derived.Deep.RegionLaw
import Derived.Deep.RegionHeld3
import Derived.Deep.AppendLies
import Derived.Lib.Hide
import Derived.Test.YthjfedidpjfboaaCV
import Derived.Test.YthjfedidpjfboaaCD
import Derived.Test.YthjfedidpjfboaaZ11
import Derived.Deep.QuietTactic
import Derived.BigQuiet
import Derived.Test.YthjfedidpjfboaaKMInstr
import Derived.ProofKit
import Derived.OpenShut
import Derived.ShutString
import Derived.ChangeOld
import Derived.Below
import Derived.Deep.Slices
import Derived.Deep.Fields
/- TraceOf: plain, and the model. -/
namespace Go.Proofs.Ythjfedidpjfboaa
open Go.RowKit
set_option linter.unusedVariables false
set_option maxRecDepth 100000

def trL (es : List In) (rs : List Int) (k : Nat) : List (List Int) := (List.range (k + 1)).map fun i => runL (es.take i) rs
theorem trL_len (es : List In) (rs : List Int) (k : Nat) : (trL es rs k).length = k + 1 := by simp [trL]
theorem trL_zero (es : List In) (rs : List Int) : trL es rs 0 = [rs] := rfl
theorem trL_succ (es : List In) (rs : List Int) (k : Nat) : trL es rs (k + 1) = trL es rs k ++ [runL (es.take (k + 1)) rs] := by
  unfold trL; rw [List.range_succ, List.map_append]; rfl
theorem trL_last (es : List In) (rs : List Int) (k : Nat) (h : k < (trL es rs k).length) : (trL es rs k)[k] = runL (es.take k) rs := by simp [trL]
def trOk (es : List In) (rs : List Int) : Bool := okCode es && regsOk rs
def trR (es : List In) (rs : List Int) : List (List Int) := if trOk es rs = true then trL es rs es.length else []
theorem trOk_no1 {es : List In} (rs : List Int) (h : okCode es = false) : trOk es rs = false ∧ trR es rs = [] := by
  have h1 : trOk es rs = false := by unfold trOk; rw [h]; rfl
  exact ⟨h1, by unfold trR; rw [h1]; rfl⟩
theorem trOk_no2 (es : List In) {rs : List Int} (h : regsOk rs = false) : trOk es rs = false ∧ trR es rs = [] := by
  have h1 : trOk es rs = false := by unfold trOk; rw [h]; simp
  exact ⟨h1, by unfold trR; rw [h1]; rfl⟩
theorem trOk_yes {es : List In} {rs : List Int} (h1 : okCode es = true) (h2 : regsOk rs = true) : trOk es rs = true ∧ trR es rs = trL es rs es.length := by
  have h3 : trOk es rs = true := by unfold trOk; rw [h1, h2]; rfl
  exact ⟨h3, by unfold trR; rw [if_pos h3]⟩
theorem regsOk_words {rs : List Int} (h : regsOk rs = true) : words6 rs := by
  unfold regsOk at h
  rw [Bool.and_eq_true] at h
  exact ⟨by simpa using h.1, h.2⟩
theorem trR_small (es : List In) (rs : List Int) : SmallX (trR es rs) := by
  unfold trR
  split
  · rename_i h
    unfold trOk at h
    rw [Bool.and_eq_true] at h
    have h1 := okCode_len h.1
    have h6 := regsOk_words h.2
    have hall := okCode_all h.1
    have hs : ∀ k, ((trL es rs k).map List.length).sum = 6 * (k + 1) := by
      intro k
      induction k with
      | zero => simp [trL_zero, h6.1]
      | succ k ih => rw [trL_succ, List.map_append, List.sum_append, ih]; simp [(runL_words_take hall h6 (k + 1)).1]; omega
    exact ⟨by rw [trL_len]; omega, by rw [hs]; omega⟩
  · exact ⟨by simp, by simp⟩

set_option maxHeartbeats 4000000 in
theorem sTraceOf_k (L B : Nat) (A : Option Addr) (c : Nat) (es : List In) (L' B' : Nat) (A' : Option Addr) (c' : Nat) (rs : List Int) (w : World) (hl : es.length ≤ 1048576) (hes : RS In.enc 5 w L B A es) (hB : B ≤ w.heap.size) (hn : rs.length ≤ 1048576) (hns : IS w L' B' A' rs) (hB' : B' ≤ w.heap.size) :
    Calls Try.prog 49 #[.slice A es.length c, .slice A' rs.length c'] w (ResTraceOf (trR es rs) (trOk es rs) w) := by
  have H := Lib.hid (cdCode_any L B A c es w hl hes hB)
  cases hk : okCode es
  · have hR := Lib.hid (trOk_no1 rs hk)
    rw [hk] at H
    clear hk hes hns
    go_enter Try.func49, Try.ntmps49
    go_wp2_with (fail)
    refine H.out.mono ?_
    rintro e w1 ⟨rfl, hb1⟩
    have hbh := Lib.hid hb1
    clear hb1
    go_wp2
    go_ret2
    rw [hR.out.1, hR.out.2]
    exact ⟨none, 0, rfl, OX.nil _ _ _, hbh.out⟩
  have H2 := Lib.hid fun (W : World) (hW : Below w.heap.size w W) => cdRegs_any L' B' A' c' rs W hn (hns.below hW hB')
  cases hr : regsOk rs
  · have hR := Lib.hid (trOk_no2 es hr)
    rw [hk] at H
    rw [hr] at H2
    clear hk hr hes hns
    go_enter Try.func49, Try.ntmps49
    go_wp2_with (fail)
    refine H.out.mono ?_
    rintro e w1 ⟨rfl, hb1⟩
    have hbh := Lib.hid hb1
    clear hb1
    go_wp2_with (fail)
    refine (H2.out _ hbh.out).mono ?_
    rintro e w2 ⟨rfl, rfl⟩
    go_wp2
    go_ret2
    rw [hR.out.1, hR.out.2]
    exact ⟨none, 0, rfl, OX.nil _ _ _, hbh.out⟩
  have hR := Lib.hid (trOk_yes hk hr)
  have h6 := regsOk_words hr
  have hall := Lib.hid (okCode_all hk)
  have hl40 := okCode_len hk
  have hW6 := Lib.hid fun (k : Nat) => runL_words_take hall.out h6 k
  have hRs := Lib.hid fun (k : Nat) (h : k < es.length) => runL_snoc (rs := rs) h
  have hTs := Lib.hid (trL_succ es rs)
  have hTl := Lib.hid (trL_len es rs)
  have hTa := Lib.hid (trL_last es rs)
  have hT0 := Lib.hid (trL_zero es rs)
  have H3 := Lib.hid fun (W : World) (hW : Below w.heap.size w W) => l1Own_any L' B' A' c' rs W hn (hns.below hW hB') (Nat.le_trans hB' hW.size)
  have hE := Lib.hid fun (W : World) (hW : Below w.heap.size w W) => hes.below hW hB
  have hBB := Lib.hid hB
  rw [hk] at H
  rw [hr] at H2
  clear hk hr hes hns hB hB'
  generalize trL es rs = T at *
  obtain ⟨i0, hi', hz0', hz1', hz2'⟩ := info_parts Try.infoII
  have hJ0 := Lib.hid hi'
  have hJ1 := Lib.hid hz0'
  have hJ2 := Lib.hid hz1'
  have hJ3 := Lib.hid hz2'
  clear hi' hz0' hz1' hz2'
  go_enter Try.func49, Try.ntmps49
  go_wp2_with (fail)
  refine H.out.mono ?_
  rintro e w1 ⟨rfl, hb1⟩
  have hbh := Lib.hid hb1
  clear hb1
  go_wp2_with (fail)
  refine (H2.out _ hbh.out).mono ?_
  rintro e w2 ⟨rfl, rfl⟩
  go_wp2_with (fail)
  refine (H3.out _ hbh.out).mono ?_
  rintro e w3 ⟨A3, c3, rfl, ho3, hb3⟩
  have hz1 := hbh.out.size
  have hz3 := hb3.size
  have A4 := (Below.refl w3.heap.size w3).alloc (Nat.le_refl _) (.cells #[.slice A3 rs.length c3] 32)
  have hX4 : Hid (OX (w3.alloc (.cells #[.slice A3 rs.length c3] 32)) w.heap.size (w3.alloc (.cells #[.slice A3 rs.length c3] 32)).heap.size (.slice (some ⟨w3.heap.size, 0, none⟩) 1 1) [rs]) := by
    have hcb : CB 32 (w3.alloc (.cells #[.slice A3 rs.length c3] 32)) w3.heap.size [.slice A3 rs.length c3] := heap_alloc_new w3 _
    exact OX.of (okv_one hcb (by omega) (by simp)) (RowsX.mk1 (((ho3.lower hz1).below A4 (Nat.le_refl _)).more A4.size))
  have hb4 := Lib.hid ((hbh.out.trans (hb3.mono hz1)).trans (A4.mono (by omega)))
  clear A4 ho3 hb3
  go_wp2
  generalize w3.alloc (.cells #[.slice A3 rs.length c3] 32) = W4 at *
  go_loopw [6, 22] (fun v i wr => ∃ k : Nat, k ≤ es.length ∧ i = .int .i64 k ∧ OX wr w.heap.size wr.heap.size v (T k) ∧ Below w.heap.size w wr) (fun _ i _ => es.length - (intOf i).toNat)
  case atStart => exact ⟨0, Nat.zero_le _, rfl, by rw [hT0.out]; exact hX4.out, hb4.out⟩
  case round =>
    obtain ⟨k, hk, rfl, hox, hbel⟩ := hrel
    obtain ⟨A5, c5, rfl⟩ := hox.form
    have hX := Lib.hid hox
    have hBL := Lib.hid hbel
    clear hox
    by_cases hlt : k < es.length
    · obtain ⟨b, o, rfl, ⟨_, hbB⟩, hc⟩ := In.cells (hE.out _ hbel) (by omega)
      obtain ⟨d1, d2, d3, d4, d5⟩ := hc k hlt
      have hg := Lib.hid (hall.out _ (List.getElem_mem hlt))
      have hT1 := Lib.hid (hTs.out k)
      have hRk := Lib.hid (hRs.out k hlt)
      have hw6 := Lib.hid (hW6.out k)
      have hlk := hTl.out k
      have hla := hTa.out k (by omega)
      obtain ⟨xb, xo, Ai, ci, rfl, xc, hOW⟩ := hX.out.at (i := k) (by omega)
      rw [hla, hw6.out.1] at xc
      rw [hla] at hOW
      rw [hw6.out.1] at hOW
      obtain ⟨yb, yo, rfl, ⟨_, hyb⟩, _⟩ := IS.six hOW.rs hw6.out.1
      clear hc hbel hla
      rw [hlk] at hX ⊢
      generalize es[k] = x at *
      generalize hRR : runL (es.take (k + 1)) rs = Rn at *
      generalize runL (es.take k) rs = Rk at *
      generalize hTT : T (k + 1) = Tn at *
      have hTTh := Lib.hid hTT
      clear hTT hRR hlk
      generalize T k = Tk at *
      obtain ⟨n, hn1⟩ : ∃ n, n = k + 1 := ⟨_, rfl⟩
      rw [← hn1] at hX ⊢
      have e0 : (n : Int) - 1 = (k : Int) := by omega
      have hkn : (k : Int) < (n : Int) := by omega
      have hn41 : (n : Int) ≤ 41 := by omega
      have hwk : IntKind.i64.wrap (k : Int) = (k : Int) := IntWalk.i64_in _ (by omega)
      have hn41' : n ≤ 41 := by omega
      have hN1 := Lib.hid hn1
      obtain ⟨W5, hW5⟩ : ∃ W5, W5 = wr.alloc (.cells #[.string x.op, .int .i64 x.d, .int .i64 x.a, .int .i64 x.b, .int .i64 x.m] 90) := ⟨_, rfl⟩
      have A5 : Below wr.heap.size wr W5 := by rw [hW5]; exact (Below.refl wr.heap.size wr).alloc (Nat.le_refl _) _
      have X5 : XB W5 wr.heap.size x := by rw [hW5]; exact XB.new wr x
      have hX5 := Lib.hid (show OX W5.drew w.heap.size W5.drew.heap.size (.slice (some ⟨xb, xo, none⟩) n c5) Tk from ((hX.out.below A5 (Nat.le_refl _)).more A5.size).below (Below.refl W5.heap.size W5).drew (Nat.le_refl _))
      have hB5 := Lib.hid (hBL.out.trans (A5.mono hBL.out.size))
      have hSt := Lib.hid (cdStep_any x yb yo ci Rk w.heap.size wr.heap.size W5.drew hg.out hw6.out ((hOW.rs.below A5 (Nat.le_refl _)).below (Below.refl W5.heap.size W5).drew A5.size) A5.size)
      have hBd := Lib.hid hB5.out.drew
      rw [← hRk.out] at hSt
      have xc5 := Lib.hid ((A5.cell (p := ⟨xb, xo + k, none⟩) (by
        rcases Nat.lt_or_ge xb wr.heap.size with h9 | h9
        · exact h9
        · simp [World.cell?, Array.getElem?_eq_none h9] at xc)).trans xc)
      have hW5h := Lib.hid hW5.symm
      clear hOW hn1 hg hRk hw6 A5 hW5 xc hX
      obtain ⟨op, d, a, b1, m⟩ := x
      dsimp only at d1 d2 d3 d4 d5 hSt hW5h
      go_wp2
      rw [hW5h.out]
      obtain ⟨xg, hxg⟩ : ∃ xg, xg = wr.heap.size := ⟨_, rfl⟩
      rw [← hxg] at X5 ⊢
      obtain ⟨n0, n1, n2, n3, n4⟩ := XB.cells X5
      dsimp only at n0 n1 n2 n3 n4
      have xcc := xc5.out
      have e1 : (0 : Int) ≤ (k : Int) := by omega
      clear d1 d2 d3 d4 d5 hW5h hxg X5 xc5 hBL
      go_region_law (first
        | (go_simp; go_at_call 104; (with_reducible refine hSt.out.mono ?_); rintro e w6 ⟨g6, c6, rfl, hg6, ho6, hb6⟩; have hO6 := (ho6.lower hg6).more (ho6.lo g6 rfl |>.2 |> fun _ => (ho6.1.lt g6 rfl).2); obtain ⟨vs, hvn, HL, HN, H1, HK, Hlo⟩ := snocX hX5.out hBd.out.size hb6 hO6; have hB6 := Lib.hid (hBd.out.trans (hb6.mono hBd.out.size)); have HL := Lib.hid HL; have HN := Lib.hid HN; have H1 := Lib.hid H1; have HK := Lib.hid HK; have Hlo := Lib.hid Hlo; have hz6 := Lib.hid hB6.out.size; clear ho6 hb6 hO6 hg6)
        | (refine step_append_lies _ rfl _ _ 48 rfl w.heap.size 32 i0 _ 1 24 Try.underlying48 hJ0.out hJ1.out hJ2.out hJ3.out rfl (by decide) _ n _ (by rfl) HL.out ⟨w6.heap.size, 0, none⟩ 1 1 _ (by rfl) rfl HN.out H1.out (by omega) (by unfold maxLen; omega) (by omega) (by have := hz6.out; simp; omega) (w6.heap.size + 1) (by simp) ?_; intro g' cap w7 hown7 hgr7 _ _))
      all_goals
        have hX7 := HK.out g' cap w7 hown7 hgr7
        have hB7 := Lib.hid ((hB6.out.alloc hz6.out (.cells #[.slice (some ⟨g6, 0, none⟩) 6 c6] 32)).grown hgr7 (by have := hz6.out; simp; omega) (fun j hj => Hlo.out j hj))
        have hX8 := Lib.hid (show OX w7 w.heap.size w7.heap.size (.slice (some ⟨g', 0, none⟩) (n + 1) cap) Tn from by rw [hT1.out]; exact hX7)
        clear hX7 hown7 hgr7 xcc n0 n1 n2 n3 n4
        go_wp2
        go_roundw
        case rel => exact ⟨k + 1, by omega, by go_num, by rw [hTTh.out]; exact hX8.out, hB7.out⟩
        case measure => simp [intOf]; omega
    · obtain rfl : k = es.length := by omega
      clear hbel
      go_wp2
      go_ret2
      rw [hR.out.1, hR.out.2]
      exact ⟨A5, c5, rfl, hX.out, hBL.out⟩
end Go.Proofs.Ythjfedidpjfboaa

namespace Go.Proofs.Ythjfedidpjfboaa
open Go.RowKit
set_option linter.unusedVariables false
set_option maxRecDepth 100000

set_option maxHeartbeats 2000000 in
theorem valueOfO_set (op : ByteArray) (d m : Int) (na nb : Nat) (b o : Nat) (u v : Int) (w : World) (ha : na < 6) (hb : nb < 6) (hbb : b < w.heap.size) (ca : w.cell? ⟨b, o + na, none⟩ = some (.int .i64 u)) (cb : w.cell? ⟨b, o + nb, none⟩ = some (.int .i64 v)) (hu0 : 0 ≤ u) (hu1 : u ≤ 63) (hv0 : 0 ≤ v) (hv1 : v ≤ 63) (h : op.toList = [115,101,116]) (hm0 : 0 ≤ m) (hm1 : m ≤ 63) :
    Calls Try.prog 187 #[.pointer (some ⟨b, o, none⟩), .agg #[.string op, .int .i64 d, .int .i64 na, .int .i64 nb, .int .i64 m]] w fun e w' => e = .returned (.int .i64 (vOf op m u v)) ∧ Below w.heap.size w w' := by
  have hR := Lib.hid (vOf_set h m u v)
  have hB1 := fun o => Lib.hid ((Below.refl w.heap.size w).alloc (Nat.le_refl _) o)
  have i0 : (0 : Int) ≤ (na : Int) := by omega
  have i1 : (na : Int) < 6 := by omega
  have j0 : (0 : Int) ≤ (nb : Int) := by omega
  have j1 : (nb : Int) < 6 := by omega
  go_enter Try.func187, Try.ntmps187
  go_wp2_with (fail)
  go_quiet (fail)
  go_wp2_with (fail)
  go_ret
  exact ⟨ret_int (by rw [hR.out]), below_drewN (hB1 _).out _⟩

set_option maxHeartbeats 2000000 in
theorem valueOfO_mov (op : ByteArray) (d m : Int) (na nb : Nat) (b o : Nat) (u v : Int) (w : World) (ha : na < 6) (hb : nb < 6) (hbb : b < w.heap.size) (ca : w.cell? ⟨b, o + na, none⟩ = some (.int .i64 u)) (cb : w.cell? ⟨b, o + nb, none⟩ = some (.int .i64 v)) (hu0 : 0 ≤ u) (hu1 : u ≤ 63) (hv0 : 0 ≤ v) (hv1 : v ≤ 63) (h : op.toList = [109,111,118]) (hm0 : 0 ≤ m) (hm1 : m ≤ 0) :
    Calls Try.prog 187 #[.pointer (some ⟨b, o, none⟩), .agg #[.string op, .int .i64 d, .int .i64 na, .int .i64 nb, .int .i64 m]] w fun e w' => e = .returned (.int .i64 (vOf op m u v)) ∧ Below w.heap.size w w' := by
  have hR := Lib.hid (vOf_mov h m u v)
  have hB1 := fun o => Lib.hid ((Below.refl w.heap.size w).alloc (Nat.le_refl _) o)
  have i0 : (0 : Int) ≤ (na : Int) := by omega
  have i1 : (na : Int) < 6 := by omega
  have j0 : (0 : Int) ≤ (nb : Int) := by omega
  have j1 : (nb : Int) < 6 := by omega
  go_enter Try.func187, Try.ntmps187
  go_wp2_with (fail)
  go_quiet (fail)
  go_wp2_with (fail)
  go_ret
  exact ⟨ret_int (by rw [hR.out]), below_drewN (hB1 _).out _⟩

set_option maxHeartbeats 2000000 in
theorem valueOfO_addi (op : ByteArray) (d m : Int) (na nb : Nat) (b o : Nat) (u v : Int) (w : World) (ha : na < 6) (hb : nb < 6) (hbb : b < w.heap.size) (ca : w.cell? ⟨b, o + na, none⟩ = some (.int .i64 u)) (cb : w.cell? ⟨b, o + nb, none⟩ = some (.int .i64 v)) (hu0 : 0 ≤ u) (hu1 : u ≤ 63) (hv0 : 0 ≤ v) (hv1 : v ≤ 63) (h : op.toList = [97,100,100,105]) (hm0 : 0 ≤ m) (hm1 : m ≤ 63) :
    Calls Try.prog 187 #[.pointer (some ⟨b, o, none⟩), .agg #[.string op, .int .i64 d, .int .i64 na, .int .i64 nb, .int .i64 m]] w fun e w' => e = .returned (.int .i64 (vOf op m u v)) ∧ Below w.heap.size w w' := by
  have hR := Lib.hid (vOf_addi h m u v)
  have hB1 := fun o => Lib.hid ((Below.refl w.heap.size w).alloc (Nat.le_refl _) o)
  have i0 : (0 : Int) ≤ (na : Int) := by omega
  have i1 : (na : Int) < 6 := by omega
  have j0 : (0 : Int) ≤ (nb : Int) := by omega
  have j1 : (nb : Int) < 6 := by omega
  obtain rfl := bytes_of h
  go_enter Try.func187, Try.ntmps187
  go_wp2_with (fail)
  go_quiet (fail)
  go_wp2_with (fail)
  obtain ⟨wq, hwq⟩ : ∃ wq : World, wq = (w.alloc (.cells #[.string ⟨#[97,100,100,105]⟩, .int .i64 d, .int .i64 na, .int .i64 nb, .int .i64 m] 90)).drewN nq := ⟨_, rfl⟩
  rw [← hwq]
  have hb1 : Hid (Below w.heap.size w wq) := by rw [hwq]; exact below_drewN (hB1 _).out _
  obtain ⟨xa, _, _, _, xe⟩ := In.old (x := ⟨⟨#[97,100,100,105]⟩, d, na, nb, m⟩) (w2 := wq) (t := 90) rfl (by rw [hwq]; exact below_drewN (Below.refl _ _) _)
  clear hwq
  go_quiet ((first | (go_at_call 205; exact Calls.quiet_of_same (same_flip (trim_addi _))) | (go_at_call 204; exact Calls.quiet_of_same (same_flip (valueOfOp_any _ _ _ _ (by omega) (by omega) (by omega) (by omega) op_add)))))
  go_wp2
  go_ret
  exact ⟨ret_int (by rw [hR.out]), below_drewN hb1.out _⟩

set_option maxHeartbeats 2000000 in
theorem valueOfO_andi (op : ByteArray) (d m : Int) (na nb : Nat) (b o : Nat) (u v : Int) (w : World) (ha : na < 6) (hb : nb < 6) (hbb : b < w.heap.size) (ca : w.cell? ⟨b, o + na, none⟩ = some (.int .i64 u)) (cb : w.cell? ⟨b, o + nb, none⟩ = some (.int .i64 v)) (hu0 : 0 ≤ u) (hu1 : u ≤ 63) (hv0 : 0 ≤ v) (hv1 : v ≤ 63) (h : op.toList = [97,110,100,105]) (hm0 : 0 ≤ m) (hm1 : m ≤ 63) :
    Calls Try.prog 187 #[.pointer (some ⟨b, o, none⟩), .agg #[.string op, .int .i64 d, .int .i64 na, .int .i64 nb, .int .i64 m]] w fun e w' => e = .returned (.int .i64 (vOf op m u v)) ∧ Below w.heap.size w w' := by
  have hR := Lib.hid (vOf_andi h m u v)
  have hB1 := fun o => Lib.hid ((Below.refl w.heap.size w).alloc (Nat.le_refl _) o)
  have i0 : (0 : Int) ≤ (na : Int) := by omega
  have i1 : (na : Int) < 6 := by omega
  have j0 : (0 : Int) ≤ (nb : Int) := by omega
  have j1 : (nb : Int) < 6 := by omega
  obtain rfl := bytes_of h
  go_enter Try.func187, Try.ntmps187
  go_wp2_with (fail)
  go_quiet (fail)
  go_wp2_with (fail)
  obtain ⟨wq, hwq⟩ : ∃ wq : World, wq = (w.alloc (.cells #[.string ⟨#[97,110,100,105]⟩, .int .i64 d, .int .i64 na, .int .i64 nb, .int .i64 m] 90)).drewN nq := ⟨_, rfl⟩
  rw [← hwq]
  have hb1 : Hid (Below w.heap.size w wq) := by rw [hwq]; exact below_drewN (hB1 _).out _
  obtain ⟨xa, _, _, _, xe⟩ := In.old (x := ⟨⟨#[97,110,100,105]⟩, d, na, nb, m⟩) (w2 := wq) (t := 90) rfl (by rw [hwq]; exact below_drewN (Below.refl _ _) _)
  clear hwq
  go_quiet ((first | (go_at_call 205; exact Calls.quiet_of_same (same_flip (trim_andi _))) | (go_at_call 204; exact Calls.quiet_of_same (same_flip (valueOfOp_any _ _ _ _ (by omega) (by omega) (by omega) (by omega) op_and)))))
  go_wp2
  go_ret
  exact ⟨ret_int (by rw [hR.out]), below_drewN hb1.out _⟩

set_option maxHeartbeats 2000000 in
theorem valueOfO_xori (op : ByteArray) (d m : Int) (na nb : Nat) (b o : Nat) (u v : Int) (w : World) (ha : na < 6) (hb : nb < 6) (hbb : b < w.heap.size) (ca : w.cell? ⟨b, o + na, none⟩ = some (.int .i64 u)) (cb : w.cell? ⟨b, o + nb, none⟩ = some (.int .i64 v)) (hu0 : 0 ≤ u) (hu1 : u ≤ 63) (hv0 : 0 ≤ v) (hv1 : v ≤ 63) (h : op.toList = [120,111,114,105]) (hm0 : 0 ≤ m) (hm1 : m ≤ 63) :
    Calls Try.prog 187 #[.pointer (some ⟨b, o, none⟩), .agg #[.string op, .int .i64 d, .int .i64 na, .int .i64 nb, .int .i64 m]] w fun e w' => e = .returned (.int .i64 (vOf op m u v)) ∧ Below w.heap.size w w' := by
  have hR := Lib.hid (vOf_xori h m u v)
  have hB1 := fun o => Lib.hid ((Below.refl w.heap.size w).alloc (Nat.le_refl _) o)
  have i0 : (0 : Int) ≤ (na : Int) := by omega
  have i1 : (na : Int) < 6 := by omega
  have j0 : (0 : Int) ≤ (nb : Int) := by omega
  have j1 : (nb : Int) < 6 := by omega
  obtain rfl := bytes_of h
  go_enter Try.func187, Try.ntmps187
  go_wp2_with (fail)
  go_quiet (fail)
  go_wp2_with (fail)
  obtain ⟨wq, hwq⟩ : ∃ wq : World, wq = (w.alloc (.cells #[.string ⟨#[120,111,114,105]⟩, .int .i64 d, .int .i64 na, .int .i64 nb, .int .i64 m] 90)).drewN nq := ⟨_, rfl⟩
  rw [← hwq]
  have hb1 : Hid (Below w.heap.size w wq) := by rw [hwq]; exact below_drewN (hB1 _).out _
  obtain ⟨xa, _, _, _, xe⟩ := In.old (x := ⟨⟨#[120,111,114,105]⟩, d, na, nb, m⟩) (w2 := wq) (t := 90) rfl (by rw [hwq]; exact below_drewN (Below.refl _ _) _)
  clear hwq
  go_quiet ((first | (go_at_call 205; exact Calls.quiet_of_same (same_flip (trim_xori _))) | (go_at_call 204; exact Calls.quiet_of_same (same_flip (valueOfOp_any _ _ _ _ (by omega) (by omega) (by omega) (by omega) op_xor)))))
  go_wp2
  go_ret
  exact ⟨ret_int (by rw [hR.out]), below_drewN hb1.out _⟩

set_option maxHeartbeats 2000000 in
theorem valueOfO_shli (op : ByteArray) (d m : Int) (na nb : Nat) (b o : Nat) (u v : Int) (w : World) (ha : na < 6) (hb : nb < 6) (hbb : b < w.heap.size) (ca : w.cell? ⟨b, o + na, none⟩ = some (.int .i64 u)) (cb : w.cell? ⟨b, o + nb, none⟩ = some (.int .i64 v)) (hu0 : 0 ≤ u) (hu1 : u ≤ 63) (hv0 : 0 ≤ v) (hv1 : v ≤ 63) (h : op.toList = [115,104,108,105]) (hm0 : 1 ≤ m) (hm1 : m ≤ 5) :
    Calls Try.prog 187 #[.pointer (some ⟨b, o, none⟩), .agg #[.string op, .int .i64 d, .int .i64 na, .int .i64 nb, .int .i64 m]] w fun e w' => e = .returned (.int .i64 (vOf op m u v)) ∧ Below w.heap.size w w' := by
  have hR := Lib.hid (vOf_shli h m u v)
  have hB1 := fun o => Lib.hid ((Below.refl w.heap.size w).alloc (Nat.le_refl _) o)
  have i0 : (0 : Int) ≤ (na : Int) := by omega
  have i1 : (na : Int) < 6 := by omega
  have j0 : (0 : Int) ≤ (nb : Int) := by omega
  have j1 : (nb : Int) < 6 := by omega
  obtain rfl := bytes_of h
  go_enter Try.func187, Try.ntmps187
  go_wp2_with (fail)
  go_quiet (fail)
  go_wp2_with (fail)
  obtain ⟨wq, hwq⟩ : ∃ wq : World, wq = (w.alloc (.cells #[.string ⟨#[115,104,108,105]⟩, .int .i64 d, .int .i64 na, .int .i64 nb, .int .i64 m] 90)).drewN nq := ⟨_, rfl⟩
  rw [← hwq]
  have hb1 : Hid (Below w.heap.size w wq) := by rw [hwq]; exact below_drewN (hB1 _).out _
  obtain ⟨xa, _, _, _, xe⟩ := In.old (x := ⟨⟨#[115,104,108,105]⟩, d, na, nb, m⟩) (w2 := wq) (t := 90) rfl (by rw [hwq]; exact below_drewN (Below.refl _ _) _)
  clear hwq
  go_quiet ((first | (go_at_call 205; exact Calls.quiet_of_same (same_flip (trim_shli _))) | (go_at_call 204; exact Calls.quiet_of_same (same_flip (valueOfOp_any _ _ _ _ (by omega) (by omega) (by omega) (by omega) op_shl)))))
  go_wp2
  go_ret
  exact ⟨ret_int (by rw [hR.out]), below_drewN hb1.out _⟩

set_option maxHeartbeats 2000000 in
theorem valueOfO_shri (op : ByteArray) (d m : Int) (na nb : Nat) (b o : Nat) (u v : Int) (w : World) (ha : na < 6) (hb : nb < 6) (hbb : b < w.heap.size) (ca : w.cell? ⟨b, o + na, none⟩ = some (.int .i64 u)) (cb : w.cell? ⟨b, o + nb, none⟩ = some (.int .i64 v)) (hu0 : 0 ≤ u) (hu1 : u ≤ 63) (hv0 : 0 ≤ v) (hv1 : v ≤ 63) (h : op.toList = [115,104,114,105]) (hm0 : 1 ≤ m) (hm1 : m ≤ 5) :
    Calls Try.prog 187 #[.pointer (some ⟨b, o, none⟩), .agg #[.string op, .int .i64 d, .int .i64 na, .int .i64 nb, .int .i64 m]] w fun e w' => e = .returned (.int .i64 (vOf op m u v)) ∧ Below w.heap.size w w' := by
  have hR := Lib.hid (vOf_shri h m u v)
  have hB1 := fun o => Lib.hid ((Below.refl w.heap.size w).alloc (Nat.le_refl _) o)
  have i0 : (0 : Int) ≤ (na : Int) := by omega
  have i1 : (na : Int) < 6 := by omega
  have j0 : (0 : Int) ≤ (nb : Int) := by omega
  have j1 : (nb : Int) < 6 := by omega
  obtain rfl := bytes_of h
  go_enter Try.func187, Try.ntmps187
  go_wp2_with (fail)
  go_quiet (fail)
  go_wp2_with (fail)
  obtain ⟨wq, hwq⟩ : ∃ wq : World, wq = (w.alloc (.cells #[.string ⟨#[115,104,114,105]⟩, .int .i64 d, .int .i64 na, .int .i64 nb, .int .i64 m] 90)).drewN nq := ⟨_, rfl⟩
  rw [← hwq]
  have hb1 : Hid (Below w.heap.size w wq) := by rw [hwq]; exact below_drewN (hB1 _).out _
  obtain ⟨xa, _, _, _, xe⟩ := In.old (x := ⟨⟨#[115,104,114,105]⟩, d, na, nb, m⟩) (w2 := wq) (t := 90) rfl (by rw [hwq]; exact below_drewN (Below.refl _ _) _)
  clear hwq
  go_quiet ((first | (go_at_call 205; exact Calls.quiet_of_same (same_flip (trim_shri _))) | (go_at_call 204; exact Calls.quiet_of_same (same_flip (valueOfOp_any _ _ _ _ (by omega) (by omega) (by omega) (by omega) op_shr)))))
  go_wp2
  go_ret
  exact ⟨ret_int (by rw [hR.out]), below_drewN hb1.out _⟩

set_option maxHeartbeats 2000000 in
theorem valueOfO_lea (op : ByteArray) (d m : Int) (na nb : Nat) (b o : Nat) (u v : Int) (w : World) (ha : na < 6) (hb : nb < 6) (hbb : b < w.heap.size) (ca : w.cell? ⟨b, o + na, none⟩ = some (.int .i64 u)) (cb : w.cell? ⟨b, o + nb, none⟩ = some (.int .i64 v)) (hu0 : 0 ≤ u) (hu1 : u ≤ 63) (hv0 : 0 ≤ v) (hv1 : v ≤ 63) (h : op.toList = [108,101,97]) (hm0 : 1 ≤ m) (hm1 : m ≤ 3) :
    Calls Try.prog 187 #[.pointer (some ⟨b, o, none⟩), .agg #[.string op, .int .i64 d, .int .i64 na, .int .i64 nb, .int .i64 m]] w fun e w' => e = .returned (.int .i64 (vOf op m u v)) ∧ Below w.heap.size w w' := by
  have hR := Lib.hid (vOf_lea h m u v)
  have hB1 := fun o => Lib.hid ((Below.refl w.heap.size w).alloc (Nat.le_refl _) o)
  have i0 : (0 : Int) ≤ (na : Int) := by omega
  have i1 : (na : Int) < 6 := by omega
  have j0 : (0 : Int) ≤ (nb : Int) := by omega
  have j1 : (nb : Int) < 6 := by omega
  go_enter Try.func187, Try.ntmps187
  go_wp2_with (fail)
  go_quiet (fail)
  obtain ⟨hq0, hq1⟩ := ap_bd ⟨#[115,104,108]⟩ v m hv0 hv1 (by omega) (by omega)
  have hb1 := Lib.hid (below_drewN (hB1 (.cells #[.string op, .int .i64 d, .int .i64 na, .int .i64 nb, .int .i64 m] 90)).out nq)
  go_wp2_with (fail)
  refine (valueOfOp_any _ _ _ _ (by omega) (by omega) (by omega) (by omega) op_shl).mono ?_
  rintro e w' ⟨rfl, rfl⟩
  go_wp2_with (fail)
  refine (valueOfOp_any _ _ _ _ (by omega) (by omega) hq0 hq1 op_add).mono ?_
  rintro e w' ⟨rfl, rfl⟩
  go_wp2
  go_ret
  exact ⟨ret_int (by rw [hR.out]), hb1.out⟩

set_option maxHeartbeats 2000000 in
theorem valueOfO_plain (op : ByteArray) (d m : Int) (na nb : Nat) (b o : Nat) (u v : Int) (w : World) (ha : na < 6) (hb : nb < 6) (hbb : b < w.heap.size) (ca : w.cell? ⟨b, o + na, none⟩ = some (.int .i64 u)) (cb : w.cell? ⟨b, o + nb, none⟩ = some (.int .i64 v)) (hu0 : 0 ≤ u) (hu1 : u ≤ 63) (hv0 : 0 ≤ v) (hv1 : v ≤ 63) (h : plainOp op) (hop : isOp op = true) :
    Calls Try.prog 187 #[.pointer (some ⟨b, o, none⟩), .agg #[.string op, .int .i64 d, .int .i64 na, .int .i64 nb, .int .i64 m]] w fun e w' => e = .returned (.int .i64 (vOf op m u v)) ∧ Below w.heap.size w w' := by
  have hR := Lib.hid (vOf_plain h m u v)
  have hB1 := fun o => Lib.hid ((Below.refl w.heap.size w).alloc (Nat.le_refl _) o)
  have i0 : (0 : Int) ≤ (na : Int) := by omega
  have i1 : (na : Int) < 6 := by omega
  have j0 : (0 : Int) ≤ (nb : Int) := by omega
  have j1 : (nb : Int) < 6 := by omega
  obtain ⟨q0, q1, q2, q3, q4, q5, q6, q7⟩ := h
  go_enter Try.func187, Try.ntmps187
  go_wp2_with (fail)
  go_quiet (fail)
  go_wp2_with (go_at_call 204; refine (valueOfOp_any _ _ _ _ (by omega) (by omega) (by omega) (by omega) hop).mono ?_; rintro e w' ⟨rfl, rfl⟩)
  go_ret
  exact ⟨ret_int (by rw [hR.out]), below_drewN (hB1 _).out _⟩
end Go.Proofs.Ythjfedidpjfboaa

/- A machine that lies within a greater block. -/
namespace Go.Proofs.Ythjfedidpjfboaa
open Go.RowKit
set_option linter.unusedVariables false
set_option maxRecDepth 100000

theorem valueOfO_any (x : In) (b o : Nat) (rs : List Int) (w : World) (hx : goodIn x = true) (h6 : words6 rs) (hbb : b < w.heap.size) (hc : Six w b o rs) :
    Calls Try.prog 187 #[.pointer (some ⟨b, o, none⟩), .agg #[.string x.op, .int .i64 x.d, .int .i64 x.a, .int .i64 x.b, .int .i64 x.m]] w fun e w' => e = .returned (.int .i64 (vOf x.op x.m (rs.getD x.a.toNat 0) (rs.getD x.b.toNat 0))) ∧ Below w.heap.size w w' := by
  obtain ⟨hd, ha, hb, hok, hm⟩ := good_parts hx
  obtain ⟨op, d, a, b', m⟩ := x
  obtain ⟨na, rfl⟩ := Int.eq_ofNat_of_zero_le ha.1
  obtain ⟨nb, rfl⟩ := Int.eq_ofNat_of_zero_le hb.1
  have hu := getD_bd h6.2 na
  have hv := getD_bd h6.2 nb
  have hc' := hc
  simp only at ha hb hm hok
  simp only [Int.toNat_natCast]
  rcases val_cases hok with h|h|h|h|h|h|h|h|⟨h, hop, _, _⟩
  · rw [fm_set h] at hm; exact valueOfO_set op d m na nb b o _ _ w (by omega) (by omega) hbb (hc' na (by omega)) (hc' nb (by omega)) hu.1 hu.2 hv.1 hv.2 h hm.1 hm.2
  · rw [fm_mov h] at hm; exact valueOfO_mov op d m na nb b o _ _ w (by omega) (by omega) hbb (hc' na (by omega)) (hc' nb (by omega)) hu.1 hu.2 hv.1 hv.2 h hm.1 hm.2
  · rw [fm_addi h] at hm; exact valueOfO_addi op d m na nb b o _ _ w (by omega) (by omega) hbb (hc' na (by omega)) (hc' nb (by omega)) hu.1 hu.2 hv.1 hv.2 h hm.1 hm.2
  · rw [fm_andi h] at hm; exact valueOfO_andi op d m na nb b o _ _ w (by omega) (by omega) hbb (hc' na (by omega)) (hc' nb (by omega)) hu.1 hu.2 hv.1 hv.2 h hm.1 hm.2
  · rw [fm_xori h] at hm; exact valueOfO_xori op d m na nb b o _ _ w (by omega) (by omega) hbb (hc' na (by omega)) (hc' nb (by omega)) hu.1 hu.2 hv.1 hv.2 h hm.1 hm.2
  · rw [fm_shli h] at hm; exact valueOfO_shli op d m na nb b o _ _ w (by omega) (by omega) hbb (hc' na (by omega)) (hc' nb (by omega)) hu.1 hu.2 hv.1 hv.2 h hm.1 hm.2
  · rw [fm_shri h] at hm; exact valueOfO_shri op d m na nb b o _ _ w (by omega) (by omega) hbb (hc' na (by omega)) (hc' nb (by omega)) hu.1 hu.2 hv.1 hv.2 h hm.1 hm.2
  · rw [fm_lea h] at hm; exact valueOfO_lea op d m na nb b o _ _ w (by omega) (by omega) hbb (hc' na (by omega)) (hc' nb (by omega)) hu.1 hu.2 hv.1 hv.2 h hm.1 hm.2
  · exact valueOfO_plain op d m na nb b o _ _ w (by omega) (by omega) hbb (hc' na (by omega)) (hc' nb (by omega)) hu.1 hu.2 hv.1 hv.2 h hop

/-- A step's store: one word of the machine at g, o. -/
def StepO (w : World) (g o : Nat) (x : In) (rs : List Int) (e : Ending) (w' : World) : Prop :=
  e = .returned (.tuple #[]) ∧ ∃ w1, Below w.heap.size w w1 ∧ w' = w1.setCell ⟨g, o + x.d.toNat, none⟩ (.int .i64 (vOf x.op x.m (rs.getD x.a.toNat 0) (rs.getD x.b.toNat 0)))
set_option maxHeartbeats 4000000 in
theorem stepO_any (x : In) (g o : Nat) (rs : List Int) (w : World) (hx : goodIn x = true) (h6 : words6 rs) (hgl : g < w.heap.size) (hS6 : Six w g o rs) (hfz : ∀ i, i < 6 → w.frozen? ⟨g, o + i, none⟩ = false) :
    Calls Try.prog 157 #[.pointer (some ⟨g, o, none⟩), .agg #[.string x.op, .int .i64 x.d, .int .i64 x.a, .int .i64 x.b, .int .i64 x.m]] w (StepO w g o x rs) := by
  have hG := Lib.hid hx
  have hW := Lib.hid h6
  obtain ⟨hd, _⟩ := good_parts hx
  obtain ⟨op, d, a, b', m⟩ := x
  obtain ⟨nd, rfl⟩ := Int.eq_ofNat_of_zero_le hd.1
  have hb0 := Lib.hid ((Below.refl w.heap.size w).alloc (Nat.le_refl _) (.cells #[.string op, .int .i64 nd, .int .i64 a, .int .i64 b', .int .i64 m] 90))
  obtain ⟨y, hy⟩ : ∃ y, vOf op m (rs.getD a.toNat 0) (rs.getD b'.toNat 0) = y := ⟨_, rfl⟩
  have hV := Lib.hid (fun w' (h1 : g < w'.heap.size) (h2 : Six w' g o rs) => (show Calls Try.prog 187 #[.pointer (some ⟨g, o, none⟩), .agg #[.string op, .int .i64 nd, .int .i64 a, .int .i64 b', .int .i64 m]] w' (fun e w'' => e = .returned (.int .i64 y) ∧ Below w'.heap.size w' w'') from by have := valueOfO_any ⟨op, nd, a, b', m⟩ g o rs w' hG.out hW.out h1 h2; simp only at this; rw [hy] at this; exact this))
  have hY := Lib.hid hy
  clear hy
  have hd' : nd < 6 := by simp only at hd; omega
  have hS0 := Lib.hid hS6
  have hF0 := Lib.hid hfz
  clear hx h6 hd hS6 hfz
  go_enter Try.func157, Try.ntmps157
  go_wp2_with (fail)
  obtain ⟨w1, hw1⟩ : ∃ w1 : World, w1 = w.alloc (.cells #[.string op, .int .i64 nd, .int .i64 a, .int .i64 b', .int .i64 m] 90) := ⟨_, rfl⟩
  rw [← hw1] at hb0 ⊢
  obtain ⟨xa, xb, xc, xd, xe⟩ := In.old (x := ⟨op, nd, a, b', m⟩) (w2 := w1) (t := 90) rfl (by rw [hw1]; exact Below.refl _ _)
  have hz : w.heap.size < w1.heap.size := by rw [hw1]; simp
  have hgz : g < w1.heap.size := by omega
  have hne : g ≠ w.heap.size := by omega
  have hS1 := Lib.hid (hS0.out.below hb0.out hgl)
  have hF1 : Hid (∀ i, i < 6 → w1.frozen? ⟨g, o + i, none⟩ = false) := fun i hi => (hb0.out.frozen (p := ⟨g, o + i, none⟩) hgl).trans (hF0.out i hi)
  clear hw1
  have i0 : (0 : Int) ≤ (nd : Int) := by omega
  have i1 : (nd : Int) < 6 := by omega
  have hb1 := Lib.hid hgz
  go_region_with (go_at_call 187; refine (hV.out _ (by exact hb1.out) (by exact Six.heap rfl hS1.out)).mono ?_; rintro e w2 ⟨rfl, hb2⟩; have hb3 := Lib.hid ((Below.refl w1.heap.size w1).drew.trans hb2); have c1 := (hS1.out.below hb3.out hgz) nd hd'; have f1 : w2.frozen? ⟨g, o + nd, none⟩ = false := (hb3.out.frozen (p := ⟨g, o + nd, none⟩) hgz).trans (hF1.out nd hd'); have xb2 := (hb3.out.cell (p := ⟨w.heap.size, 1, none⟩) hz).trans xb)
  all_goals
    have hfin := Lib.hid (hb0.out.trans (hb3.out.mono (Nat.le_of_lt hz)))
    go_wp2
    go_end0
    refine ⟨rfl, w2, hfin.out, ?_⟩
    dsimp only
    rw [hY.out, Int.toNat_natCast]
theorem words_gen (g : Nat) (rs : List Int) (w : World) (h6 : rs.length = 6) (hI : IS w g (g + 1) (some ⟨g, 0, none⟩) rs) (hg : g < w.heap.size) :
    Calls Try.prog 156 #[.pointer (some ⟨g, 0, none⟩)] w (Own6 w rs) := by
  have hC := Lib.hid ((CloneI_any g 0 6 rs g (g + 1) w (by omega) hI hg).mono fun _ _ => own6_of h6)
  rw [h6] at hC
  clear hI
  go_enter Try.func156, Try.ntmps156
  go_wp2_with (fail)
  refine hC.out.mono ?_
  rintro e w1 ⟨g1, c1, rfl, hg1, ho1, hb1⟩
  have hO1 := Lib.hid ho1
  go_wp2
  go_ret
  exact ⟨g1, c1, rfl, hg1, hO1.out, hb1⟩
end Go.Proofs.Ythjfedidpjfboaa

/- TraceOf of the program. -/
namespace Go.Proofs.Ythjfedidpjfboaa
open Go.RowKit
set_option linter.unusedVariables false
set_option maxRecDepth 100000

/-- The tracer's box: a machine's six words, and what was noted. -/
structure TrSt (w0 : World) (g : Nat) (rs : List Int) (V : Value) (xss : List (List Int)) (W : World) : Prop where
  hg : w0.heap.size ≤ g
  h6 : words6 rs
  bx : CB 117 W g (rs.map (Value.int .i64) ++ [V])
  ox : OX W (g + 1) W.heap.size V xss
  be : Below w0.heap.size w0 W
theorem TrSt.cellW {w0 W : World} {g : Nat} {rs : List Int} {V : Value} {xss : List (List Int)} (h : TrSt w0 g rs V xss W) {i : Nat} (hi : i < 6) : W.cell? ⟨g, i, none⟩ = some (.int .i64 (rs.getD i 0)) := by
  have hl := h.h6.1
  rw [h.bx.cell, List.getElem?_append_left (by simp; omega), List.getElem?_map, List.getD_eq_getElem?_getD, List.getElem?_eq_getElem (by omega)]; rfl
theorem TrSt.six {w0 W : World} {g : Nat} {rs : List Int} {V : Value} {xss : List (List Int)} (h : TrSt w0 g rs V xss W) : Six W g 0 rs := fun i hi => by rw [Nat.zero_add]; exact h.cellW hi
theorem TrSt.noted {w0 W : World} {g : Nat} {rs : List Int} {V : Value} {xss : List (List Int)} (h : TrSt w0 g rs V xss W) : W.cell? ⟨g, 6, none⟩ = some V := by
  have hl := h.h6.1
  rw [h.bx.cell, List.getElem?_append_right (by simp; omega)]; simp [hl]
theorem TrSt.words {w0 W : World} {g : Nat} {rs : List Int} {V : Value} {xss : List (List Int)} (h : TrSt w0 g rs V xss W) : IS W g (g + 1) (some ⟨g, 0, none⟩) rs := fun _ =>
  ⟨g, 0, rfl, ⟨Nat.le_refl _, Nat.lt_succ_self _⟩, fun i hi => by have := h.cellW (i := i) (by have := h.h6.1; omega); rw [Nat.zero_add, this, List.getD_eq_getElem?_getD, List.getElem?_eq_getElem hi]; rfl⟩
theorem TrSt.below {w0 W W' : World} {g : Nat} {rs : List Int} {V : Value} {xss : List (List Int)} (h : TrSt w0 g rs V xss W) (hb : Below W.heap.size W W') : TrSt w0 g rs V xss W' :=
  ⟨h.hg, h.h6, h.bx.below hb h.bx.lt, (h.ox.below hb (Nat.le_refl _)).more hb.size, h.be.trans (hb.mono h.be.size)⟩
/-- A word is written. -/
theorem TrSt.step {w0 W : World} {g n : Nat} {rs : List Int} {V : Value} {xss : List (List Int)} {y : Int} (h : TrSt w0 g rs V xss W) (hn : n < 6) (h6 : words6 (rs.set n y)) : TrSt w0 g (rs.set n y) V xss (W.setCell ⟨g, n, none⟩ (.int .i64 y)) := by
  have hl := h.h6.1
  have hz : (W.setCell ⟨g, n, none⟩ (.int .i64 y)).heap.size = W.heap.size := World.size_setCell _ _ _
  refine ⟨h.hg, h6, ?_, ?_, h.be.setCell (p := ⟨g, n, none⟩) h.hg _⟩
  · have := h.bx.set n (.int .i64 y)
    rw [List.set_append_left _ _ (by simp; omega), ← List.map_set] at this
    exact this
  · rw [hz]; exact h.ox.chg ((Chg.refl g (g + 1) W).setCell (p := ⟨g, n, none⟩) ⟨Nat.le_refl _, Nat.lt_succ_self _⟩ _) (.inr (Nat.le_refl _))
theorem tr_row {w0 W W7 : World} {g : Nat} {rs : List Int} {V V' : Value} {xss yss : List (List Int)} (h : TrSt w0 g rs V xss W) (hgr : W.grownBy W7 V.ownBlock) (ho : OX W7 (g + 1) W7.heap.size V' yss) (hlo : ∀ b, V.ownBlock = some b → g + 1 ≤ b) : TrSt w0 g rs V' yss (W7.setCell ⟨g, 6, none⟩ V') := by
  have hl := h.h6.1
  have hz : (W7.setCell ⟨g, 6, none⟩ V').heap.size = W7.heap.size := World.size_setCell _ _ _
  have hb : CB 117 W7 g (rs.map (Value.int .i64) ++ [V]) := (hgr.block g h.bx.lt (fun e => by have := hlo g e.symm; omega)).trans h.bx
  refine ⟨h.hg, h.h6, ?_, ?_, (h.be.grown hgr h.be.size (fun b e => by have := hlo b e; have := h.hg; omega)).setCell (p := ⟨g, 6, none⟩) h.hg _⟩
  · have := hb.set 6 V'
    rw [List.set_append_right _ _ (by simp; omega)] at this
    simpa [hl] using this
  · rw [hz]; exact ho.chg ((Chg.refl g (g + 1) W7).setCell (p := ⟨g, 6, none⟩) ⟨Nat.le_refl _, Nat.lt_succ_self _⟩ _) (.inr (Nat.le_refl _))

set_option maxHeartbeats 4000000 in
theorem note_any (w0 : World) (g : Nat) (rs : List Int) (V : Value) (xss : List (List Int)) (W : World) (hxl : xss.length ≤ 41) (h : TrSt w0 g rs V xss W) :
    Calls Try.prog 107 #[.pointer (some ⟨g, 0, none⟩)] W fun e w' => e = .returned (.tuple #[]) ∧ ∃ V', TrSt w0 g rs V' (xss ++ [rs]) w' := by
  obtain ⟨i0, hi', hz0', hz1', hz2'⟩ := info_parts Try.infoII
  have hJ0 := Lib.hid hi'
  have hJ1 := Lib.hid hz0'
  have hJ2 := Lib.hid hz1'
  have hJ3 := Lib.hid hz2'
  clear hi' hz0' hz1' hz2'
  obtain ⟨A5, c5, rfl⟩ := h.ox.form
  have hSt := Lib.hid (h.below (Below.refl W.heap.size W).drew)
  have hW := Lib.hid (words_gen g rs W.drew h.h6.1 hSt.out.words hSt.out.bx.lt)
  have hgW := Lib.hid h.bx.lt
  have u6 := h.noted
  clear h
  go_enter Try.func107, Try.ntmps107
  go_wp2_with (fail)
  go_region_law (first
    | (go_simp; go_at_call 156; (with_reducible refine hW.out.mono ?_); rintro e w6 ⟨g6, c6, rfl, hg6, ho6, hb6⟩; have hO6 := (ho6.lower hg6).more (ho6.1.lt g6 rfl).2; have hS6 := Lib.hid (hSt.out.below hb6); obtain ⟨vs, hvn, HL, HN, H1, HK, Hlo⟩ := snocX hSt.out.ox hSt.out.bx.lt hb6 hO6; have HL := Lib.hid HL; have HN := Lib.hid HN; have H1 := Lib.hid H1; have HK := Lib.hid HK; have Hlo := Lib.hid Hlo; have v6 := hS6.out.noted; have hz6 := Lib.hid hb6.size; have hS7 := Lib.hid (hS6.out.below ((Below.refl w6.heap.size w6).alloc (Nat.le_refl _) (.cells #[.slice (some ⟨g6, 0, none⟩) 6 c6] 32))); have v7 := hS7.out.noted; have hgz : Hid (g + 1 ≤ (w6.alloc (.cells #[.slice (some ⟨g6, 0, none⟩) 6 c6] 32)).heap.size) := hS7.out.bx.lt; clear ho6 hb6 hO6 hg6)
    | (refine step_append_lies _ rfl _ _ 48 rfl (g + 1) 32 i0 _ 1 24 Try.underlying48 hJ0.out hJ1.out hJ2.out hJ3.out rfl (by decide) _ xss.length _ (by rfl) HL.out ⟨w6.heap.size, 0, none⟩ 1 1 _ (by rfl) rfl HN.out H1.out (by omega) (by unfold maxLen; omega) (by omega) hgz.out (w6.heap.size + 1) (by simp) ?_; intro g' cap w7 hown7 hgr7 _ _; have hb7 : CB 117 w7 g (rs.map (Value.int .i64) ++ [.slice A5 xss.length c5]) := (hgr7.block g hS7.out.bx.lt (fun e => by have := Hlo.out g e.symm; omega)).trans hS7.out.bx; have f7 := hb7.frozen 6; have k7 : w7.cell? ⟨g, 6, none⟩ = some (.slice A5 xss.length c5) := (by rw [hb7.cell, ← hS7.out.bx.cell]; exact hS7.out.noted)))
  all_goals
    have hX7 := HK.out g' cap w7 hown7 hgr7
    have hfin := Lib.hid (tr_row hS7.out hgr7 hX7 Hlo.out)
    clear hX7 hown7 hgr7
    go_wp2
    go_end0
    exact ⟨rfl, _, hfin.out⟩
set_option maxHeartbeats 4000000 in
theorem trStep_any (w0 : World) (g : Nat) (x : In) (rs : List Int) (V : Value) (xss : List (List Int)) (W : World) (hx : goodIn x = true) (hxl : xss.length ≤ 41) (h : TrSt w0 g rs V xss W) :
    Calls Try.prog 109 #[.pointer (some ⟨g, 0, none⟩), .agg #[.string x.op, .int .i64 x.d, .int .i64 x.a, .int .i64 x.b, .int .i64 x.m]] W fun e w' => e = .returned (.tuple #[]) ∧ ∃ V', TrSt w0 g (stepL x rs) V' (xss ++ [stepL x rs]) w' := by
  have hd := (good_parts hx).1
  have h6s := Lib.hid (stepL_words hx h.h6)
  obtain ⟨nd, hnd⟩ := Int.eq_ofNat_of_zero_le hd.1
  have hSet : Hid (stepL x rs = rs.set nd (vOf x.op x.m (rs.getD x.a.toNat 0) (rs.getD x.b.toNat 0))) := by rw [Hid, stepL, hnd, Int.toNat_natCast]
  obtain ⟨W1, hW1⟩ : ∃ W1, W1 = W.alloc (.cells #[.string x.op, .int .i64 x.d, .int .i64 x.a, .int .i64 x.b, .int .i64 x.m] 90) := ⟨_, rfl⟩
  have A1 : Below W.heap.size W W1 := by rw [hW1]; exact (Below.refl W.heap.size W).alloc (Nat.le_refl _) _
  have X1 : XB W1 W.heap.size x := by rw [hW1]; exact XB.new W x
  have hS1 := Lib.hid ((h.below A1).below (Below.refl W1.heap.size W1).drew)
  have hSt := Lib.hid (stepO_any x g 0 rs W1.drew hx h.h6 hS1.out.bx.lt hS1.out.six (fun i hi => by rw [Nat.zero_add]; exact hS1.out.bx.frozen i))
  have hd6 : nd < 6 := by omega
  have hN := Lib.hid hnd
  have hW1h := Lib.hid hW1.symm
  have hstp := Lib.hid fun (w1 : World) (hb : Below W1.drew.heap.size W1.drew w1) => (hS1.out.below hb).step (n := nd) (y := vOf x.op x.m (rs.getD x.a.toNat 0) (rs.getD x.b.toNat 0)) hd6 (by rw [← hSet.out]; exact h6s.out)
  have hNt := Lib.hid fun (V : Value) (W : World) (h : TrSt w0 g (stepL x rs) V xss W) => note_any w0 g (stepL x rs) V xss W hxl h
  clear hx h A1 hW1 hd hnd
  rw [← hSet.out] at hstp
  have hStO := Lib.hid (hSt.out.mono (R' := fun e w' => e = .returned (.tuple #[]) ∧ TrSt w0 g (stepL x rs) V xss w') fun e w' he => by
    obtain ⟨h1, w1, hb, rfl⟩ := he
    refine ⟨h1, ?_⟩
    have := hstp.out w1 hb
    rw [hN.out, Int.toNat_natCast, Nat.zero_add]
    exact this)
  clear hSt hstp h6s hSet
  generalize stepL x rs = R at *
  obtain ⟨op, d, a, b, m⟩ := x
  dsimp only at *
  go_enter Try.func109, Try.ntmps109
  go_wp2_with (fail)
  rw [hW1h.out]
  obtain ⟨xg, hxg⟩ : ∃ xg, xg = W.heap.size := ⟨_, rfl⟩
  rw [← hxg] at X1 ⊢
  obtain ⟨n0, n1, n2, n3, n4⟩ := XB.cells X1
  dsimp only at n0 n1 n2 n3 n4
  clear hW1h hxg X1
  go_region_law (go_simp; go_at_call 157; (with_reducible refine hStO.out.mono ?_); rintro e w2 ⟨rfl, h2⟩)
  all_goals
    have hT2 := Lib.hid (hNt.out V _ h2)
    clear h2 n0 n1 n2 n3 n4
    go_wp2_with (fail)
    refine hT2.out.mono ?_
    rintro e w3 ⟨rfl, V', h3⟩
    have hF := Lib.hid h3
    clear h3 hT2
    go_wp2
    go_end0
    exact ⟨rfl, V', hF.out⟩
end Go.Proofs.Ythjfedidpjfboaa

/- TraceOf of the program, whole. -/
namespace Go.Proofs.Ythjfedidpjfboaa
open Go.RowKit
set_option linter.unusedVariables false
set_option maxRecDepth 100000

set_option maxHeartbeats 4000000 in
theorem runStepsT_any (w0 : World) (L B : Nat) (A : Option Addr) (c : Nat) (es : List In) (g : Nat) (rs : List Int) (V : Value) (w : World) (hok : okCode es = true) (hes : RS In.enc 5 w0 L B A es) (hB : B ≤ w0.heap.size) (h0 : TrSt w0 g rs V [rs] w) :
    Calls Try.prog 108 #[.slice A es.length c, .func (.func 109) #[.pointer (some ⟨g, 0, none⟩)] #[]] w fun e w' => e = .returned (.tuple #[]) ∧ ∃ V', TrSt w0 g (runL es rs) V' (trL es rs es.length) w' := by
  have hl := okCode_len hok
  have hall := Lib.hid (okCode_all hok)
  have hE := Lib.hid fun (W : World) (hW : Below w0.heap.size w0 W) => hes.below hW hB
  have hTs := Lib.hid (trL_succ es rs)
  have hTl := Lib.hid (trL_len es rs)
  have hT0 := Lib.hid (trL_zero es rs)
  have hR0 : Hid (runL (es.take 0) rs = rs) := rfl
  have hRn : Hid (runL (es.take es.length) rs = runL es rs) := by rw [Hid, List.take_length]
  have hRs := Lib.hid fun (k : Nat) (h : k < es.length) => runL_snoc (rs := rs) h
  have hS0 := Lib.hid h0
  clear hes hB hok h0
  generalize trL es rs = T at *
  go_enter Try.func108, Try.ntmps108
  go_wp2
  go_loopw [8] (fun i wr => ∃ (k : Nat) (V' : Value), k ≤ es.length ∧ i = .int .i64 k ∧ TrSt w0 g (runL (es.take k) rs) V' (T k) wr) (fun i _ => es.length - (intOf i).toNat)
  case atStart => exact ⟨0, V, Nat.zero_le _, rfl, by rw [hT0.out, hR0.out]; exact hS0.out⟩
  case round =>
    obtain ⟨k, V', hk, rfl, hst⟩ := hrel
    have hS := Lib.hid hst
    by_cases hlt : k < es.length
    · obtain ⟨b, o, rfl, ⟨_, hbB⟩, hc⟩ := In.cells (hE.out _ hst.be) (by omega)
      obtain ⟨d1, d2, d3, d4, d5⟩ := hc k hlt
      clear hc hst
      have hx := Lib.hid (hall.out _ (List.getElem_mem hlt))
      have hSn := Lib.hid (hRs.out k hlt)
      have hTn := Lib.hid (hTs.out k)
      have hTk := hTl.out k
      rw [hSn.out] at hTn
      have hTn2 := Lib.hid hTn.out
      have hStep := Lib.hid fun (W : World) (hW : Below wr.heap.size wr W) => trStep_any w0 g es[k] _ V' _ W hx.out (by omega) (hS.out.below hW)
      rw [← hSn.out] at hStep
      clear hx hTk hTn
      generalize es[k] = nd at *
      generalize hRr : runL (es.take (k + 1)) rs = Rn at *
      have hRR := Lib.hid hRr
      clear hRr
      generalize hTT : T (k + 1) = Tn at *
      have hTTh := Lib.hid hTT
      clear hTT
      obtain ⟨op, d, a, bb, m⟩ := nd
      dsimp only at d1 d2 d3 d4 d5 hStep
      have A1 := Lib.hid ((Below.refl wr.heap.size wr).alloc (Nat.le_refl _) (.cells #[.string op, .int .i64 d, .int .i64 a, .int .i64 bb, .int .i64 m] 90))
      go_wp2_with (fail)
      refine (hStep.out _ A1.out).mono ?_
      rintro e w3 ⟨rfl, V3, h3⟩
      have hF := Lib.hid h3
      clear h3 d1 d2 d3 d4 d5
      go_wp2
      go_roundw
      case rel => exact ⟨k + 1, V3, by omega, by go_num, by rw [hRR.out, hTTh.out, hTn2.out, ← hSn.out]; exact hF.out⟩
      case measure => simp [intOf]; omega
    · obtain rfl : k = es.length := by omega
      rw [hRn.out] at hS
      clear hst
      go_wp2
      go_end0
      exact ⟨rfl, V', hS.out⟩
set_option maxHeartbeats 4000000 in
theorem iTraceOf_k (L B : Nat) (A : Option Addr) (c : Nat) (es : List In) (L' B' : Nat) (A' : Option Addr) (c' : Nat) (rs : List Int) (w : World) (hl : es.length ≤ 1048576) (hes : RS In.enc 5 w L B A es) (hB : B ≤ w.heap.size) (hn : rs.length ≤ 1048576) (hns : IS w L' B' A' rs) (hB' : B' ≤ w.heap.size) :
    Calls Try.prog 50 #[.slice A es.length c, .slice A' rs.length c'] w (ResTraceOf (trR es rs) (trOk es rs) w) := by
  have H := Lib.hid (IsCode_any L B A c es w hl hes hB)
  cases hk : okCode es
  · have hR := Lib.hid (trOk_no1 rs hk)
    rw [hk] at H
    clear hk hes hns
    go_enter Try.func50, Try.ntmps50
    go_wp2_with (fail)
    refine H.out.mono ?_
    rintro e w1 ⟨rfl, hb1⟩
    have hbh := Lib.hid hb1
    clear hb1
    go_wp2
    go_ret2
    rw [hR.out.1, hR.out.2]
    exact ⟨none, 0, rfl, OX.nil _ _ _, hbh.out⟩
  have H2 := Lib.hid fun (W : World) (hW : Below w.heap.size w W) => areWords_any L' B' A' c' rs W hn (hns.below hW hB')
  cases hr : regsOk rs
  · have hR := Lib.hid (trOk_no2 es hr)
    rw [hk] at H
    rw [hr] at H2
    clear hk hr hes hns
    go_enter Try.func50, Try.ntmps50
    go_wp2_with (fail)
    refine H.out.mono ?_
    rintro e w1 ⟨rfl, hb1⟩
    have hbh := Lib.hid hb1
    clear hb1
    go_wp2_with (fail)
    refine (H2.out _ hbh.out).mono ?_
    rintro e w2 ⟨rfl, rfl⟩
    go_wp2
    go_ret2
    rw [hR.out.1, hR.out.2]
    exact ⟨none, 0, rfl, OX.nil _ _ _, hbh.out⟩
  have hR := Lib.hid (trOk_yes hk hr)
  have h6 := regsOk_words hr
  have hW6 := Lib.hid h6
  obtain ⟨b', o', rfl, ⟨_, hbb⟩, _⟩ := hns.six h6.1
  obtain ⟨r0, r1, r2, r3, r4, r5, rfl⟩ := six_list h6.1
  have hM := Lib.hid fun (W : World) (hW : Below w.heap.size w W) => machineOf_any b' o' c' r0 r1 r2 r3 r4 r5 W L' B' (hns.below hW hB') (Nat.le_trans hB' hW.size)
  have hRun := Lib.hid fun (g : Nat) (V : Value) (W : World) (h0 : TrSt w g [r0, r1, r2, r3, r4, r5] V [[r0, r1, r2, r3, r4, r5]] W) => runStepsT_any w L B A c es g [r0, r1, r2, r3, r4, r5] V W hk hes hB h0
  have hX := Lib.hid (show (trL es [r0, r1, r2, r3, r4, r5] es.length).length = es.length + 1 from trL_len _ _ _)
  rw [hk] at H
  rw [hr] at H2
  clear hk hr hes hns h6
  generalize trL es [r0, r1, r2, r3, r4, r5] es.length = T at *
  generalize runL es [r0, r1, r2, r3, r4, r5] = Rf at *
  go_enter Try.func50, Try.ntmps50
  go_wp2_with (fail)
  refine H.out.mono ?_
  rintro e w1 ⟨rfl, hb1⟩
  have hbh := Lib.hid hb1
  clear hb1
  go_wp2_with (fail)
  refine (H2.out _ hbh.out).mono ?_
  rintro e w2 ⟨rfl, rfl⟩
  go_wp2_with (fail)
  refine (hM.out _ hbh.out).mono ?_
  rintro e w3 ⟨rfl, hb3⟩
  have hB3 := hbh.out.trans (hb3.mono hbh.out.size)
  have hT0 : Hid (TrSt w w3.heap.size [r0, r1, r2, r3, r4, r5] (.slice none 0 0) [] (w3.alloc (.cells #[.int .i64 r0, .int .i64 r1, .int .i64 r2, .int .i64 r3, .int .i64 r4, .int .i64 r5, .slice none 0 0] 117))) :=
    ⟨hB3.size, hW6.out, heap_alloc_new w3 _, OX.nil _ _ _, hB3.alloc hB3.size _⟩
  have hNt := Lib.hid (note_any w w3.heap.size [r0, r1, r2, r3, r4, r5] (.slice none 0 0) [] _ (by simp) hT0.out)
  clear hb3 hB3
  go_wp2_with (fail)
  refine hNt.out.mono ?_
  rintro e w4 ⟨rfl, V4, h4⟩
  have hRn := Lib.hid (hRun.out w3.heap.size V4 w4 h4)
  clear h4 hNt hRun hT0
  go_wp2_with (fail)
  refine hRn.out.mono ?_
  rintro e w5 ⟨rfl, V5, h5⟩
  obtain ⟨A5, c5, rfl⟩ := h5.ox.form
  have u6 := h5.noted
  have hO := Lib.hid (h5.ox.lower (Nat.le_trans h5.hg (Nat.le_succ _)))
  have hBe := Lib.hid h5.be
  clear h5 hRn
  go_wp2
  go_ret2
  rw [hR.out.1, hR.out.2]
  exact ⟨A5, c5, rfl, hO.out, hBe.out⟩
end Go.Proofs.Ythjfedidpjfboaa

/- Arguments of the types []laws.Instr, laws.Instr and []int opened. -/
namespace Go.Proofs.Ythjfedidpjfboaa
open Go.ChangeShapes Go.WideShapes Go.ChangeAt Go.RowKit Go.Deep
open Go.ChangeMaps (open_string shut_string)
set_option linter.unusedVariables false

theorem cellsIn : Try.prog.cellsOf 86 = 5 := by kernel_rfl
theorem cellsStr : Try.prog.cellsOf 9 = 1 := by kernel_rfl
theorem cellsInt : Try.prog.cellsOf 3 = 1 := by kernel_rfl

set_option maxRecDepth 100000 in
theorem in_of_trod {H : Type} {enc : TypeId × Value → H} {w : World} {base : Nat} {spare : Nat → Bool} {held : Bool} {n : Nat} {cs : List Value} {x : DataW H × List MemPlace}
    (h : DataW.trod enc Try.prog w base spare held n 86 cs = some x) : ∃ nd : In, cs = nd.enc ∧ nd.op.size ≤ maxLen := by
  obtain ⟨xs, m, _, _, hlen, hxl, hf⟩ := DataW.trod_struct Try.underlying86 h
  rw [cellsIn] at hlen
  match cs, hlen with
  | [c0, c1, c2, c3, c4], _ =>
    match xs, hxl with
    | [y0, y1, y2, y3, y4], _ =>
      have h0 := hf 0 _ rfl
      change DataW.trod enc Try.prog w base spare held m 9 (([c0, c1, c2, c3, c4].drop 0).take (Try.prog.cellsOf 9)) = _ at h0
      rw [cellsStr] at h0
      have h1 := hf 1 _ rfl
      change DataW.trod enc Try.prog w base spare held m 3 (([c0, c1, c2, c3, c4].drop 1).take (Try.prog.cellsOf 3)) = _ at h1
      rw [cellsInt] at h1
      have h2 := hf 2 _ rfl
      change DataW.trod enc Try.prog w base spare held m 3 (([c0, c1, c2, c3, c4].drop 2).take (Try.prog.cellsOf 3)) = _ at h2
      rw [cellsInt] at h2
      have h3 := hf 3 _ rfl
      change DataW.trod enc Try.prog w base spare held m 3 (([c0, c1, c2, c3, c4].drop 3).take (Try.prog.cellsOf 3)) = _ at h3
      rw [cellsInt] at h3
      have h4 := hf 4 _ rfl
      change DataW.trod enc Try.prog w base spare held m 3 (([c0, c1, c2, c3, c4].drop 4).take (Try.prog.cellsOf 3)) = _ at h4
      rw [cellsInt] at h4
      obtain ⟨s, e0, _, hs⟩ := DataW.trod_string Try.underlying9 h0
      obtain ⟨d, e1, _, _⟩ := DataW.trod_int Try.underlying3 h1
      obtain ⟨a, e2, _, _⟩ := DataW.trod_int Try.underlying3 h2
      obtain ⟨b, e3, _, _⟩ := DataW.trod_int Try.underlying3 h3
      obtain ⟨m, e4, _, _⟩ := DataW.trod_int Try.underlying3 h4
      have e0 : c0 = .string s := by simpa using e0
      have e1 : c1 = .int .i64 d := by simpa using e1
      have e2 : c2 = .int .i64 a := by simpa using e2
      have e3 : c3 = .int .i64 b := by simpa using e3
      have e4 : c4 = .int .i64 m := by simpa using e4
      exact ⟨⟨s, d, a, b, m⟩, by rw [e0, e1, e2, e3, e4]; rfl, hs⟩

theorem cell_lt_heap {w : World} {a : Addr} {v : Value} (h : w.cell? a = some v) : a.block < w.heap.size := by
  rcases Nat.lt_or_ge a.block w.heap.size with hlt | hge
  · exact hlt
  · unfold World.cell? at h; rw [Array.getElem?_eq_none hge] at h; simp at h

set_option maxRecDepth 100000 in
theorem x_of_trod {H : Type} {enc : TypeId × Value → H} {w : World} {r : Reach} {b0 : Nat} {spare : Nat → Bool} {held : Bool} {v : Value} {d : DataW H} {p : List MemPlace}
    (hv : Value.okWide Try.prog w r b0 86 v) (h : DataW.Trod enc Try.prog w 0 spare held 86 v d p) :
    ∃ x : In, v = .agg #[.string x.op, .int .i64 x.d, .int .i64 x.a, .int .i64 x.b, .int .i64 x.m] ∧ x.op.size ≤ 9223372036854775807 := by
  obtain ⟨cs, rfl, hsz⟩ := okWide_struct Try.underlying86 hv
  obtain ⟨fuel, hf⟩ := h
  obtain ⟨x, hx, hs⟩ := in_of_trod hf
  refine ⟨x, ?_, by unfold maxLen at hs; omega⟩
  obtain ⟨l⟩ := cs
  have hx' : l = x.enc := by simpa [Value.cells] using hx
  subst hx'; rfl

set_option maxRecDepth 100000 in
theorem ins_of_trod {H : Type} {enc : TypeId × Value → H} {w : World} {spare : Nat → Bool} {held : Bool} {A : Option Addr} {len cap : Nat} {d : DataW H} {p : List MemPlace}
    (h : DataW.Trod enc Try.prog w 0 spare held 31 (.slice A len cap) d p) :
    ∃ es : List In, es.length = len ∧ RS In.enc 5 w 0 w.heap.size A es ∧ (∀ n ∈ es, n.op.size ≤ 9223372036854775807) ∧ len ≤ 9223372036854775807 := by
  obtain ⟨fuel, hf⟩ := h
  rcases open_slice Try.underlying31 hf with ⟨hcs, _⟩ | ⟨a, l, c, m, n, D, Pl, hcs, _, hl, hm, hmm, _, hi⟩
  · simp [Value.cells] at hcs
    obtain ⟨rfl, rfl, rfl⟩ := hcs
    exact ⟨[], rfl, fun h => absurd h (by simp), (fun n hn => by cases hn), by omega⟩
  · simp [Value.cells] at hcs
    obtain ⟨rfl, rfl, rfl⟩ := hcs
    have hlm : len ≤ m := by rw [hmm]; split <;> omega
    have hex : ∀ i, i < len → ∃ nd : In, (∀ j v, nd.enc[j]? = some v → w.cell? (a.add (i * 5 + j)) = some v) ∧ nd.op.size ≤ maxLen := by
      intro i hil
      obtain ⟨cs', hc, ht⟩ := hi i (by omega)
      rw [cellsIn] at hc
      obtain ⟨nd, rfl, hs⟩ := in_of_trod ht
      obtain ⟨_, _, hat⟩ := World.cells?_some hc
      refine ⟨nd, fun j v hv => ?_, hs⟩
      have hj : j < 5 := kflat_lt In.hk hv
      have := hat j hj
      rw [add_add, hv] at this; exact this
    obtain ⟨f, hf2⟩ := Classical.axiomOfChoice (fun i : {i // i < len} => hex i.1 i.2)
    have hget : ∀ i (h : i < (List.ofFn fun i : Fin len => f ⟨i.1, i.2⟩).length), (List.ofFn fun i : Fin len => f ⟨i.1, i.2⟩)[i] = f ⟨i, by simpa using h⟩ := fun i h => by simp
    refine ⟨List.ofFn fun i : Fin len => f ⟨i.1, i.2⟩, by simp, ?_, ?_, by unfold maxLen at hm; omega⟩
    · intro hpos
      have hpos' : 0 < len := by simpa using hpos
      have h0 := (hf2 ⟨0, hpos'⟩).1 0 _ rfl
      obtain ⟨b, o, spot⟩ := a
      have hspot : spot = none := by have := World.cell?_spot h0; simpa [Addr.add] using this
      subst hspot
      have hadd : ∀ k, (⟨b, o, none⟩ : Addr).add k = ⟨b, o + k, none⟩ := fun k => by simp [Addr.add]
      refine ⟨b, o, rfl, ⟨Nat.zero_le _, ?_⟩, fun i hi j v hv => ?_⟩
      · rw [hadd] at h0
        exact cell_lt_heap h0
      · have hi' : i < len := by simpa using hi
        rw [hget i hi] at hv
        have := (hf2 ⟨i, hi'⟩).1 j v hv
        simp only [hadd, ← Nat.add_assoc] at this
        exact this
    · intro n hn
      obtain ⟨i, rfl⟩ := List.mem_ofFn.1 hn
      have := (hf2 ⟨i.1, i.2⟩).2
      unfold maxLen at this; omega

set_option maxRecDepth 100000 in
theorem ints_of_trod {H : Type} {enc : TypeId × Value → H} {w : World} {spare : Nat → Bool} {held : Bool} {A : Option Addr} {len cap : Nat} {d : DataW H} {p : List MemPlace}
    (h : DataW.Trod enc Try.prog w 0 spare held 32 (.slice A len cap) d p) :
    ∃ xs : List Int, xs.length = len ∧ IS w 0 w.heap.size A xs ∧ len ≤ 9223372036854775807 := by
  obtain ⟨fuel, hf⟩ := h
  rcases open_slice Try.underlying32 hf with ⟨hcs, _⟩ | ⟨a, l, c, m, n, D, Pl, hcs, _, hl, hm, hmm, _, hi⟩
  · simp [Value.cells] at hcs
    obtain ⟨rfl, rfl, rfl⟩ := hcs
    exact ⟨[], rfl, fun h => absurd h (by simp), by omega⟩
  · simp [Value.cells] at hcs
    obtain ⟨rfl, rfl, rfl⟩ := hcs
    have hlm : len ≤ m := by rw [hmm]; split <;> omega
    have hex : ∀ i, i < len → ∃ x : Int, w.cell? (a.add i) = some (.int .i64 x) := by
      intro i hil
      obtain ⟨cs', hc, ht⟩ := hi i (by omega)
      rw [cellsInt, Nat.mul_one] at hc
      obtain ⟨x, hx, _, _⟩ := DataW.trod_int Try.underlying3 ht
      obtain ⟨_, _, hat⟩ := World.cells?_some hc
      have := hat 0 (by omega)
      rw [add_add, hx] at this
      exact ⟨x, by simpa using this⟩
    obtain ⟨f, hf2⟩ := Classical.axiomOfChoice (fun i : {i // i < len} => hex i.1 i.2)
    have hget : ∀ i (h : i < (List.ofFn fun i : Fin len => f ⟨i.1, i.2⟩).length), (List.ofFn fun i : Fin len => f ⟨i.1, i.2⟩)[i] = f ⟨i, by simpa using h⟩ := fun i h => by simp
    refine ⟨List.ofFn fun i : Fin len => f ⟨i.1, i.2⟩, by simp, ?_, by unfold maxLen at hm; omega⟩
    intro hpos
    have hpos' : 0 < len := by simpa using hpos
    have h0 := hf2 ⟨0, hpos'⟩
    obtain ⟨b, o, spot⟩ := a
    have hspot : spot = none := by have := World.cell?_spot h0; simpa [Addr.add] using this
    subst hspot
    have hadd : ∀ k, (⟨b, o, none⟩ : Addr).add k = ⟨b, o + k, none⟩ := fun k => by simp [Addr.add]
    refine ⟨b, o, rfl, ⟨Nat.zero_le _, ?_⟩, fun i hi => ?_⟩
    · rw [hadd] at h0
      exact cell_lt_heap h0
    · have hi' : i < len := by simpa using hi
      rw [hget i hi]
      have := hf2 ⟨i, hi'⟩
      simp only [hadd] at this
      exact this
end Go.Proofs.Ythjfedidpjfboaa
