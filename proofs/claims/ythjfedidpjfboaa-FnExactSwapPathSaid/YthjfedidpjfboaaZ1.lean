/- Texts of this proof, one behind the other: SJ, SK, SG, SI, SL, OC. -/
import Derived.Test.YthjfedidpjfboaaZ2
import Derived.WalkKit
import Derived.WalkSpells
import Derived.WalkLawsBesides
import Derived.Deep.RegionHeld3
import Derived.Deep.RegionLaw
import Derived.Lib.Hide
import Derived.Test.YthjfedidpjfboaaCG
import Derived.Deep.QuietTactic
import Derived.BigQuiet
import Derived.Test.YthjfedidpjfboaaKMInstr
import Derived.ProofKit
import Derived.OpenShut
import Derived.ShutString
import Derived.ChangeOld
import Derived.Below
import Derived.Deep.Slices
import Derived.Deep.Fields
/- moveBack, SwapPath of the program. -/
namespace Go.Proofs.Ythjfedidpjfboaa
open Go.RowKit
set_option linter.unusedVariables false
set_option maxRecDepth 100000

def MbRet (w0 : World) (g : Nat) (o : Option Mv) (e : Ending) (w' : World) : Prop := e = .returned (.bool o.isSome) ∧ Below w0.heap.size w0 w' ∧ ∀ s, o = some s → ∃ (q : Bool) (V' P' : Value), SwSt w0 g q V' P' s.1 s.2 w'
theorem mvDn_succ (k n : Nat) (st : Mv) : mvDn k (n + 1) st = (mvS st ((k + n : Nat) : Int)).bind (mvDn k n) := rfl
set_option maxHeartbeats 4000000 in
theorem moveBack_any (w0 : World) (g : Nat) (q : Bool) (V P : Value) (a : List In) (st : Mv) (k n m : Nat) (w : World) (ha : a.length ≤ 40) (hm : m = k + n) (hmn : m ≤ 1000) (hI : MvInv a st) (h : SwSt w0 g q V P st.1 st.2 w) :
    Calls Try.prog 88 #[.pointer (some ⟨g, 0, none⟩), .int .i64 (m : Int), .int .i64 (k : Int)] w (MbRet w0 g (mvDn k n st)) := by
  have hS := Lib.hid h
  have hII := Lib.hid hI
  have hM := Lib.hid hm
  have hD := Lib.hid (mvDn_succ k)
  have hZ : Hid (∀ s, mvDn k 0 s = some s) := fun s => rfl
  clear h hI hm
  generalize mvDn k = F at *
  go_enter Try.func88, Try.ntmps88
  go_wp2
  go_loopw [7] (fun i wr => ∃ (r j : Nat) (s : Mv) (q' : Bool) (V' P' : Value), j = k + r ∧ r ≤ n ∧ i = .int .i64 ((j : Int) - 1) ∧ F r s = F n st ∧ MvInv a s ∧ SwSt w0 g q' V' P' s.1 s.2 wr) (fun i _ => (intOf i + 1).toNat)
  case atStart => exact ⟨n, m, st, q, V, P, hM.out, Nat.le_refl _, rfl, rfl, hII.out, hS.out⟩
  case round =>
    obtain ⟨r, j, s, q', V', P', hj, hr, rfl, hF, hI, hst⟩ := hrel
    have hFh := Lib.hid hF
    have hIh := Lib.hid hI
    have hSh := Lib.hid hst
    have hJ := Lib.hid hj
    clear hF hI hst
    cases r with
    | zero =>
      obtain rfl : j = k := by omega
      have hz := Lib.hid (hFh.out.symm.trans (hZ.out s))
      have hlt : ¬ ((j : Int) ≤ (j : Int) - 1) := by omega
      clear hj
      go_wp2
      go_ret
      exact ⟨by rw [hz.out]; rfl, hSh.out.be, fun s' e => by rw [hz.out] at e; injection e with e; subst e; exact ⟨_, _, _, hSh.out⟩⟩
    | succ r =>
      obtain ⟨i, hi⟩ : ∃ i, i = k + r := ⟨_, rfl⟩
      have e0 : ((j : Int) - 1) = (i : Int) := by omega
      have hki : (k : Int) ≤ (i : Int) := by omega
      have hi1 : i ≤ 1000 := by have := hM.out; omega
      have hd := hD.out r s
      rw [← hi, hFh.out] at hd
      have hdh := Lib.hid hd
      obtain ⟨cs, p⟩ := s
      have hSw := Lib.hid (swap_any w0 g q' V' P' cs p i wr (by have := hIh.out.len; dsimp only at this; omega) hIh.out.most hSh.out)
      have hIx := Lib.hid hi
      rw [e0]
      clear hj hd e0 hi
      go_wp2_with (fail)
      refine hSw.out.mono ?_
      rintro e w4 ⟨rfl, hb4, hnx⟩
      have hN4 := Lib.hid hnx
      have hB4 := Lib.hid hb4
      clear hnx hb4 hSw
      cases hm2 : mvS (cs, p) i with
      | none =>
        have hz : Hid (F n st = none) := by rw [Hid, hdh.out, hm2]; rfl
        clear hm2
        dsimp only [Option.isSome_none]
        go_wp2
        go_ret
        exact ⟨by rw [hz.out]; rfl, hB4.out, fun s' e => by rw [hz.out] at e; cases e⟩
      | some s2 =>
        have hz : Hid (F r s2 = F n st) := by rw [Hid, hdh.out, hm2]; rfl
        obtain ⟨V2, P2, h2⟩ := hN4.out s2 hm2
        have H2 := Lib.hid h2
        have hI2 := Lib.hid (hIh.out.step hm2).1
        clear h2 hm2 hN4
        dsimp only [Option.isSome_some]
        go_wp2
        go_roundw
        case rel => exact ⟨r, i, s2, true, V2, P2, hIx.out, by omega, rfl, hz.out, hI2.out, H2.out⟩
        case measure => simp [intOf]
end Go.Proofs.Ythjfedidpjfboaa

/- SwapPath of the program. -/
namespace Go.Proofs.Ythjfedidpjfboaa
open Go.RowKit
set_option linter.unusedVariables false
set_option maxRecDepth 100000

theorem RS.drop {w : World} {L B b o k : Nat} {es : List In} (h : RS In.enc 5 w L B (some ⟨b, o, none⟩) es) (hk : k < es.length) : RS In.enc 5 w L B (some ⟨b, o + k * 5, none⟩) (es.drop k) := by
  intro _
  obtain ⟨b', o', e, hb, hc⟩ := h (by omega)
  injection e with e; injection e with e1 e2 _; subst e1; subst e2
  refine ⟨b, o + k * 5, rfl, hb, fun i hi j v hv => ?_⟩
  rw [List.length_drop] at hi
  have h2 := hc (k + i) (by omega) j v (by rw [← hv]; congr 1; rw [List.getElem_drop])
  rw [← h2]; congr 2; rw [Nat.add_mul]; omega
theorem spTo_succ (a b : List In) (k : Nat) : spTo a b (k + 1) = (spTo a b k).bind fun s => spStep s k (b.getD k zeroIn) := rfl
set_option maxHeartbeats 4000000 in
theorem iSwapPath_go (L B : Nat) (A : Option Addr) (c : Nat) (a : List In) (L' B' : Nat) (A' : Option Addr) (c' : Nat) (b : List In) (w : World) (hca : a.length ≤ c) (hk : spOk0 a b = true) (hes : RS In.enc 5 w L B A a) (hB : B ≤ w.heap.size) (hns : RS In.enc 5 w L' B' A' b) (hB' : B' ≤ w.heap.size) :
    Calls Try.prog 36 #[.slice A a.length c, .slice A' b.length c'] w (ResSwapPath (spP a b) (spB a b) w) := by
  have hk0 := hk
  unfold spOk0 at hk0
  simp only [Bool.and_eq_true] at hk0
  obtain ⟨⟨hka, hkb⟩, hkl⟩ := hk0
  have hlen : a.length = b.length := of_decide_eq_true hkl
  obtain ⟨ha20, hoa⟩ := blkOk_parts hka
  have H := Lib.hid (isBlock_any L B A c a w (by omega) hes hB)
  have H2 := Lib.hid fun (W : World) (hW : Below w.heap.size w W) => isBlock_any L' B' A' c' b W (by omega) (hns.below hW hB') (Nat.le_trans hB' hW.size)
  rw [hka] at H
  rw [hkb] at H2
  have hSP : Hid (spR a b = spTo a b b.length) := by unfold Hid spR; rw [if_pos hk]
  have hNo := Lib.hid fun (k : Nat) (hk : k ≤ b.length) (h : spTo a b k = none) => spTo_no h b.length hk
  have hSucc := Lib.hid (spTo_succ a b)
  have hInv := Lib.hid fun (k : Nat) (s : Mv) (h : spTo a b k = some s) => MvInv.to hoa k h
  have hbR := Lib.hid fun (W : World) (hW : Below w.heap.size w W) => hns.below hW hB'
  have hBB' := Lib.hid hB'
  have hne : ((a.length : Int) != (b.length : Int)) = false := by rw [hlen]; simp
  have hS0 : Hid (spTo a b 0 = some (a, [])) := rfl
  have hLen := Lib.hid hlen
  have haR := Lib.hid fun (W : World) (hW : Below w.heap.size w W) => (hes.below hW hB).more (Nat.zero_le _) hB
  have hca' := Lib.hid hca
  clear hk hka hkb hkl hes hns hB hB' hlen hca
  generalize spTo a b = T at *
  go_enter Try.func36, Try.ntmps36
  go_wp2_with (fail)
  refine H.out.mono ?_
  rintro e w1 ⟨rfl, hb1⟩
  have hb1h := Lib.hid hb1
  clear hb1
  go_wp2_with (fail)
  refine (H2.out _ hb1h.out).mono ?_
  rintro e w2 ⟨rfl, hb2⟩
  have hB2 := hb1h.out.trans (hb2.mono hb1h.out.size)
  have A3 := (Below.refl w2.heap.size w2).alloc (Nat.le_refl _) (.cells #[.slice A a.length c, .slice none 0 0] 94)
  have B3 := hB2.trans (A3.mono hB2.size)
  have S0 : Hid (SwSt w w2.heap.size false (.slice A a.length c) (.slice none 0 0) a [] (w2.alloc (.cells #[.slice A a.length c, .slice none 0 0] 94))) :=
    ⟨hB2.size, heap_alloc_new w2 _, ⟨A, c, rfl, hca'.out, .inl ⟨rfl, haR.out _ B3⟩⟩, OW.nil _ _ _, B3⟩
  clear A3 hb2 hB2 B3 H H2 hb1h haR
  go_wp2
  obtain ⟨W3, hW3⟩ : ∃ W3, W3 = w2.alloc (.cells #[.slice A a.length c, .slice none 0 0] 94) := ⟨_, rfl⟩
  rw [← hW3] at S0 ⊢
  obtain ⟨g, hg⟩ : ∃ g, g = w2.heap.size := ⟨_, rfl⟩
  rw [← hg] at S0 ⊢
  clear hW3 hg
  go_loopw [29] (fun i wr => ∃ (k : Nat) (s : Mv) (q : Bool) (V P : Value), k ≤ b.length ∧ i = .int .i64 k ∧ T k = some s ∧ SwSt w g q V P s.1 s.2 wr) (fun i _ => b.length - (intOf i).toNat)
  case atStart => exact ⟨0, (a, []), false, _, _, Nat.zero_le _, rfl, hS0.out, S0.out⟩
  case round =>
    obtain ⟨k, s, q, V, P, hk, rfl, hs, hst⟩ := hrel
    have hI := hInv.out k s hs
    have hIh := Lib.hid hI
    have hSS := Lib.hid hst
    have hS := Lib.hid hs
    clear hs
    by_cases hlt : k < b.length
    · obtain ⟨pb, po, rfl, ⟨_, hpb⟩, hcc⟩ := In.cells (hbR.out _ hst.be) (by omega)
      obtain ⟨y1, y2, y3, y4, y5⟩ := hcc k hlt
      have hsu := hSucc.out k
      rw [hS.out, getD_in hlt] at hsu
      have hsu2 : Hid (T (k + 1) = spStep s k b[k]) := hsu
      clear hcc hsu
      generalize b[k] = x at *
      obtain ⟨cs, p⟩ := s
      obtain ⟨op, d, xa, xb, m⟩ := x
      dsimp only at hst
      dsimp only at y1 y2 y3 y4 y5
      obtain ⟨VA, vc, rfl, hrs, hvcap⟩ := hst.code.form hst.be.size
      have hlc : cs.length = a.length := hI.len
      obtain ⟨vb, vo, rfl, ⟨_, hvb⟩, _⟩ := In.cells hrs (by have := hLen.out; omega)
      have A4 := (Below.refl wr.heap.size wr).alloc (Nat.le_refl _) (.cells #[.string op, .int .i64 d, .int .i64 xa, .int .i64 xb, .int .i64 m] 90)
      have hS4 := Lib.hid (hst.below A4)
      have X4 := XB.new wr ⟨op, d, xa, xb, m⟩
      dsimp only at X4
      obtain ⟨n0, n1, n2, n3, n4⟩ := XB.cells X4
      dsimp only at n0 n1 n2 n3 n4
      have u0 := hS4.out.bx.cell 0
      simp only [List.getElem?_cons_zero] at u0
      have hki : (k : Int) < (b.length : Int) := by omega
      have hk0 : (0 : Int) ≤ (k : Int) := by omega
      have hkc : k ≤ cs.length := by have := hLen.out; omega
      have hkv : ¬ vc = k := by have := hLen.out; omega
      have hLC := Lib.hid hlc
      clear hlc hvcap
      have hXX := Lib.hid X4
      have hIx := Lib.hid fun (W : World) (hW : Below wr.heap.size wr W) => (show Calls Try.prog 87 #[.slice (some ⟨vb, vo + k * 5, none⟩) (cs.length - k) (vc - k), .agg #[.string op, .int .i64 d, .int .i64 xa, .int .i64 xb, .int .i64 m]] W fun e w' => e = .returned (.int .i64 (iidx (cs.drop k) ⟨op, d, xa, xb, m⟩)) ∧ Below W.heap.size W w' from by
        have h := indexI_any 0 wr.heap.size (some ⟨vb, vo + k * 5, none⟩) (vc - k) (cs.drop k) ⟨op, d, xa, xb, m⟩ W (by rw [List.length_drop]; have := hLC.out; omega) ((RS.drop hrs (by have := hLC.out; have := hLen.out; omega)).below hW (Nat.le_refl _)) hW.size
        rw [List.length_drop] at h
        exact h)
      have hbd := Lib.hid (firstI_bd (fun i => sameI ((cs.drop k).getD i zeroIn) ⟨op, d, xa, xb, m⟩) (cs.drop k).length)
      have hbd2 : Hid (iidx (cs.drop k) ⟨op, d, xa, xb, m⟩ < ((cs.drop k).length : Int)) := hbd.out.2
      have hst2 : Hid (T (k + 1) = if iidx (cs.drop k) ⟨op, d, xa, xb, m⟩ < 0 then none else mvDn k (iidx (cs.drop k) ⟨op, d, xa, xb, m⟩).toNat (cs, p)) := hsu2.out
      have hA4 := Lib.hid A4.drew
      have hA4' := Lib.hid ((Below.refl (wr.alloc (.cells #[.string op, .int .i64 d, .int .i64 xa, .int .i64 xb, .int .i64 m] 90)).heap.size (wr.alloc (.cells #[.string op, .int .i64 d, .int .i64 xa, .int .i64 xb, .int .i64 m] 90))).drew)
      have hz4 : Hid (wr.heap.size ≤ (wr.alloc (.cells #[.string op, .int .i64 d, .int .i64 xa, .int .i64 xb, .int .i64 m] 90)).heap.size) := A4.size
      rw [List.length_drop] at hbd2
      clear hst hI A4 X4 hrs hbd hsu2
      generalize iidx (cs.drop k) ⟨op, d, xa, xb, m⟩ = j at *
      go_wp2
      go_region_law (go_simp; go_at_call 87; (with_reducible refine (hIx.out _ hA4.out).mono ?_); rintro e w5 ⟨rfl, hb5⟩)
      all_goals
        have hS5 := Lib.hid (hS4.out.below (hA4'.out.trans hb5))
        clear hb5 n0 n1 n2 n3 n4 u0 y1 y2 y3 y4 y5 hA4 hA4' hS4 hXX hIx
        by_cases hj : j < 0
        · rw [if_pos hj] at hst2
          have hN := Lib.hid (sp_none (hSP.out.trans (hNo.out (k + 1) hlt hst2.out)))
          clear hst2
          go_wp2
          go_ret2
          rw [hN.out.1, hN.out.2]
          exact ⟨none, 0, rfl, OW.nil _ _ _, hS5.out.be⟩
        · rw [if_neg hj] at hst2
          obtain ⟨e, rfl⟩ := Int.eq_ofNat_of_zero_le (show 0 ≤ j by omega)
          rw [Int.toNat_natCast] at hst2
          have he : e ≤ 20 := by have := hbd2.out; have := hLC.out; omega
          have he' : (e : Int) ≤ 20 := by omega
          have hk20 : (k : Int) ≤ 20 := by have := hLen.out; omega
          have hMb := Lib.hid (show Calls Try.prog 88 #[.pointer (some ⟨g, 0, none⟩), .int .i64 ((k : Int) + (e : Int)), .int .i64 (k : Int)] w5 (MbRet w g (mvDn k e (cs, p))) from by
            have h := moveBack_any w g q _ P a (cs, p) k e (k + e) w5 (by omega) rfl (by omega) hIh.out hS5.out
            rw [Int.natCast_add] at h
            exact h)
          go_wp2_with (fail)
          refine hMb.out.mono ?_
          rintro e6 w6 ⟨rfl, hb6, hnx⟩
          have hN6 := Lib.hid hnx
          have hB6 := Lib.hid hb6
          clear hnx hb6 hMb
          cases hm : mvDn k e (cs, p) with
          | none =>
            rw [hm] at hst2
            have hN := Lib.hid (sp_none (hSP.out.trans (hNo.out (k + 1) hlt hst2.out)))
            clear hst2 hm hN6
            dsimp only [Option.isSome_none]
            go_wp2
            go_ret2
            rw [hN.out.1, hN.out.2]
            exact ⟨none, 0, rfl, OW.nil _ _ _, hB6.out⟩
          | some s2 =>
            rw [hm] at hst2
            obtain ⟨q2, V2, P2, h2⟩ := hN6.out s2 hm
            have H2 := Lib.hid h2
            clear h2 hm hN6
            dsimp only [Option.isSome_some]
            go_wp2
            go_roundw
            case rel => exact ⟨k + 1, s2, q2, V2, P2, by omega, by go_num, hst2.out, H2.out⟩
            case measure => simp [intOf]; omega
    · obtain rfl : k = b.length := by omega
      have hF := Lib.hid (sp_some (hSP.out.trans hS.out))
      obtain ⟨PA, pc, rfl, _⟩ := hst.path.form
      have u1 := hst.bx.cell 1
      simp only [List.getElem?_cons_zero, List.getElem?_cons_succ] at u1
      have hO := Lib.hid (hst.path.lower (Nat.le_trans hst.hg (Nat.le_succ _)))
      clear hst
      go_wp2
      go_ret2
      rw [hF.out.1, hF.out.2]
      exact ⟨PA, pc, rfl, hO.out, hSS.out.be⟩
set_option maxHeartbeats 4000000 in
theorem iSwapPath_k (L B : Nat) (A : Option Addr) (c : Nat) (a : List In) (L' B' : Nat) (A' : Option Addr) (c' : Nat) (b : List In) (w : World) (hl : a.length ≤ 1048576) (hes : RS In.enc 5 w L B A a) (hB : B ≤ w.heap.size) (hca : a.length ≤ c) (hl' : b.length ≤ 1048576) (hns : RS In.enc 5 w L' B' A' b) (hB' : B' ≤ w.heap.size) :
    Calls Try.prog 36 #[.slice A a.length c, .slice A' b.length c'] w (ResSwapPath (spP a b) (spB a b) w) := by
  cases hk : spOk0 a b
  rotate_left
  · exact iSwapPath_go L B A c a L' B' A' c' b w hca hk hes hB hns hB'
  have hN := Lib.hid (sp_none (a := a) (b := b) (by unfold spR; rw [hk]; rfl))
  have H := Lib.hid (isBlock_any L B A c a w hl hes hB)
  cases hka : blkOk a
  · rw [hka] at H
    clear hk hes hns hka
    go_enter Try.func36, Try.ntmps36
    go_wp2_with (fail)
    refine H.out.mono ?_
    rintro e w1 ⟨rfl, hb1⟩
    have hbh := Lib.hid hb1
    clear hb1
    go_wp2
    go_ret2
    rw [hN.out.1, hN.out.2]
    exact ⟨none, 0, rfl, OW.nil _ _ _, hbh.out⟩
  have H2 := Lib.hid fun (W : World) (hW : Below w.heap.size w W) => isBlock_any L' B' A' c' b W hl' (hns.below hW hB') (Nat.le_trans hB' hW.size)
  rw [hka] at H
  cases hkb : blkOk b
  · rw [hkb] at H2
    clear hk hes hns hka hkb
    go_enter Try.func36, Try.ntmps36
    go_wp2_with (fail)
    refine H.out.mono ?_
    rintro e w1 ⟨rfl, hb1⟩
    have hbh := Lib.hid hb1
    clear hb1
    go_wp2_with (fail)
    refine (H2.out _ hbh.out).mono ?_
    rintro e w2 ⟨rfl, hb2⟩
    have hb2h := Lib.hid (hbh.out.trans (hb2.mono hbh.out.size))
    clear hb2
    go_wp2
    go_ret2
    rw [hN.out.1, hN.out.2]
    exact ⟨none, 0, rfl, OW.nil _ _ _, hb2h.out⟩
  have hne : a.length ≠ b.length := by
    intro e
    unfold spOk0 at hk
    rw [hka, hkb, decide_eq_true e] at hk
    cases hk
  have hnb : ((a.length : Int) != (b.length : Int)) = true := by simp; omega
  rw [hkb] at H2
  clear hk hes hns hka hkb hne
  go_enter Try.func36, Try.ntmps36
  go_wp2_with (fail)
  refine H.out.mono ?_
  rintro e w1 ⟨rfl, hb1⟩
  have hbh := Lib.hid hb1
  clear hb1
  go_wp2_with (fail)
  refine (H2.out _ hbh.out).mono ?_
  rintro e w2 ⟨rfl, hb2⟩
  have hb2h := Lib.hid (hbh.out.trans (hb2.mono hbh.out.size))
  clear hb2
  go_wp2
  go_ret2
  rw [hN.out.1, hN.out.2]
  exact ⟨none, 0, rfl, OW.nil _ _ _, hb2h.out⟩
end Go.Proofs.Ythjfedidpjfboaa

/- vaSwap, FollowPath of the model. -/
namespace Go.Proofs.Ythjfedidpjfboaa
open Go.RowKit
set_option linter.unusedVariables false
set_option maxRecDepth 100000

def ResSw (R0 : List In) (R1 : Bool) (w : World) (e : Ending) (w' : World) : Prop := ∃ (A0 : Option Addr) (c0 : Nat), e = .returned (.tuple #[.slice A0 R0.length c0, .bool R1]) ∧ OK In.enc 5 90 w' w.heap.size w'.heap.size (.slice A0 R0.length c0) R0 ∧ Below w.heap.size w w'
set_option maxHeartbeats 8000000 in
theorem vaSwap_any (L B : Nat) (A : Option Addr) (c : Nat) (es : List In) (n : Nat) (w : World) (hk : okCode es = true) (hn : n + 1 < es.length) (hes : RS In.enc 5 w L B A es) (hB : B ≤ w.heap.size) :
    Calls Try.prog 81 #[.slice A es.length c, .int .i64 (n : Int)] w (ResSw (swapR es n) (swOk es n) w) := by
  have hl : es.length ≤ 1048576 := by have := okCode_len hk; omega
  have hE := Lib.hid hes
  have hBB := Lib.hid hB
  have hG := Lib.hid hk
  have hall := Lib.hid (okCode_all hk)
  have hlen := Lib.hid (okCode_len hk)
  have hr' : Hid (inR (n : Int) 0 ((es.length : Int) - 2) = true) := by rw [Hid, inR_iff]; omega
  have hn' : n < es.length := by omega
  obtain ⟨b, o, rfl, ⟨_, hbB⟩, hc⟩ := In.cells hes (by omega)
  obtain ⟨c1, c2, c3, c4, c5⟩ := hc n hn'
  obtain ⟨d1, d2, d3, d4, d5⟩ := hc (n + 1) hn
  have hg0 : es.getD n zeroIn = es[n] := by rw [List.getD_eq_getElem?_getD, List.getElem?_eq_getElem hn']; rfl
  have hg1 : es.getD (n + 1) zeroIn = es[n + 1] := by rw [List.getD_eq_getElem?_getD, List.getElem?_eq_getElem hn]; rfl
  have hK0 : Hid (swOk es n = freeB es[n] es[n + 1]) := by rw [Hid, swOk, hG.out, hr'.out, Int.toNat_natCast, hg0, hg1]; rfl
  have hR0 : Hid (swOk es n = true → swapR es n = (es.set n es[n + 1]).set (n + 1) es[n]) := by intro h; rw [swapR, if_pos h, Int.toNat_natCast, hg0, hg1]
  have hA := Lib.hid (fun W => cdFree_any es[n] es[n + 1] W)
  clear hg0 hg1 hc hes hB hk
  have i1 : (n : Int) < es.length := by omega
  have i2 : (n : Int) + 1 < es.length := by omega
  have hw1 : IntKind.i64.wrap ((n : Int) + 1) = (n : Int) + 1 := IntWalk.i64_in _ (by omega)
  have hw2 : ((n : Int) + 1).toNat = n + 1 := by omega
  have i0' : (0 : Int) ≤ (n : Int) + 1 := by omega
  generalize hx : es[n] = x at *
  generalize hy : es[n + 1] = y at *
  obtain ⟨op, d, a, b1, m⟩ := x
  obtain ⟨op', d', a', b1', m'⟩ := y
  have hxx := Lib.hid hx
  have hyy := Lib.hid hy
  clear hx hy
  simp only at c1 c2 c3 c4 c5 d1 d2 d3 d4 d5 hA
  generalize hf : freeB ⟨op, d, a, b1, m⟩ ⟨op', d', a', b1', m'⟩ = F at *
  clear hf
  go_enter Try.func81, Try.ntmps81
  go_wp2_with (fail)
  go_region_law (go_simp; go_at_call 146; (with_reducible refine (hA.out _).mono ?_); rintro e w3 ⟨rfl, hb3⟩)
  all_goals
    have hb3' := Lib.hid ((Below.refl w.heap.size w).drew.trans hb3)
    have hbb3 := hb3'
    have hz3 := hb3'.out.size
    have hz2' : w.heap.size ≤ w.heap.size := Nat.le_refl _
    have hE3 := Lib.hid (hE.out.below hbb3.out hBB.out)
    clear hb3 c1 c2 c3 c4 c5 d1 d2 d3 d4 d5
    cases F
    · have hK : Hid (swOk es n = false) := hK0.out
      have hR := Lib.hid (swapR_no hK.out)
      go_wp2
      go_ret2
      rw [hR.out, hK.out]; exact ⟨none, 0, rfl, OK.nil _ _ _ _, hbb3.out⟩
    have hK : Hid (swOk es n = true) := hK0.out
    have hR := Lib.hid (hR0.out hK.out)
    obtain ⟨i0, hi, hz0, hz1, hz2x⟩ := info_parts Try.infoInstr
    have hz3' : Hid (w.heap.size ≤ w3.heap.size) := Nat.le_trans hz2' hz3
    have hBz : Hid (B ≤ w3.heap.size) := Nat.le_trans hBB.out hz3'.out
    have hb3w : Hid (b < w3.heap.size) := Nat.lt_of_lt_of_le hbB hBz.out
    have hb0 := Lib.hid ((Below.refl w3.heap.size w3).alloc (Nat.le_refl _) (.cells #[] 90))
    have hnews := Lib.hid ((hE3.out.below hb0.out (by have := hBB.out; omega)).news In.hk)
    have hown := Lib.hid (World.ownsRow_made (base := w3.heap.size) (e := 90) (size := 5) w3 #[] 0 (Nat.le_refl _) (by unfold maxLen; omega) (by simp))
    go_wp2_with (at_builtin; refine wpList_append_src rfl _ _ 34 rfl w3.heap.size 90 i0 _ 5 48 Try.underlying34 hi hz0 hz1 hz2x rfl (by decide) _ 0 [] rfl hown.out (some ⟨b, o, none⟩) es.length c (es.flatMap In.enc) rfl (kflat_len In.hk es) hnews.out (five_ones es) (by unfold maxLen; omega) (by omega) (by simp) ?_; intro v' w4 hown' hgrow _; simp only [Nat.zero_add, List.nil_append] at hown'; have ho4 := OK.ofRow hown' rfl; have hb4 : Below w3.heap.size w3 w4 := (hb0.out.grown hgrow (by simp) (fun k hk => (by cases hk; exact Nat.le_refl _))); have hz4 := hb4.size; have hbb4 := Lib.hid (hbb3.out.trans (hb4.mono hz3'.out)); obtain ⟨⟨c1, c2, c3, c4, c5⟩, ⟨d1, d2, d3, d4, d5⟩⟩ := code_two (hE3.out.below hb4 hBz.out) hn hxx.out hyy.out; simp only at c1 c2 c3 c4 c5 d1 d2 d3 d4 d5; obtain ⟨g, cap, rest, rfl, hgl, hgh, hlc, hcm, hcb, hcl⟩ := OK.some' ho4 (Nat.lt_of_le_of_lt (Nat.zero_le _) hn); have hCB := Lib.hid hcb; have hgl' := Lib.hid hgl; have hcl' := Lib.hid hcl; have hcm' := Lib.hid hcm; have hlc' := Lib.hid hlc; obtain ⟨z0, z1, z2, z3, z4, p1, p2, p3, p4, p5⟩ := In.cellsB hcb n hn'; obtain ⟨y0, y1, y2, y3, y4, q1, q2, q3, q4, q5⟩ := In.cellsB hcb (n + 1) hn; have f1 := hcb.frozen (n * 5); have f2 := hcb.frozen (n * 5 + 1); have f3 := hcb.frozen (n * 5 + 2); have f4 := hcb.frozen (n * 5 + 3); have f5 := hcb.frozen (n * 5 + 4); have g1 := hcb.frozen ((n + 1) * 5); have g2 := hcb.frozen ((n + 1) * 5 + 1); have g3 := hcb.frozen ((n + 1) * 5 + 2); have g4 := hcb.frozen ((n + 1) * 5 + 3); have g5 := hcb.frozen ((n + 1) * 5 + 4); have hne : ¬ b = g := (fun e => by rw [e] at hb3w; exact absurd (Nat.lt_of_lt_of_le hb3w.out hgl) (Nat.lt_irrefl _)); have hne' : ¬ g = b := fun h => hne h.symm; clear hcb ho4 hown' hgrow hcl hcm hgl hgh hb4 hi hz0 hz1 hz2x)
    have hgw : w.heap.size ≤ g := Nat.le_trans hz3'.out hgl'.out
    have h1 := hCB.out.store In.hk n hn' ⟨op', d', a', b1', m'⟩
    have h2 := h1.store In.hk (n + 1) (by rw [List.length_set]; exact hn) ⟨op, d, a, b1, m⟩
    have hle : ((es.set n (⟨op', d', a', b1', m'⟩ : In)).set (n + 1) ⟨op, d, a, b1, m⟩).length = es.length := by rw [List.length_set, List.length_set]
    have h3 := OK.close (lo := w.heap.size) In.hk h2 hgw (CB.lt h2) (by rw [hle]; exact hlc) hcm'.out (by have hcl := hcl'.out; rw [List.length_append, kflat_len In.hk, hle]; rw [List.length_append, kflat_len In.hk] at hcl; exact hcl)
    have hfin := Lib.hid h3
    have hle' := Lib.hid hle
    have hbf := Lib.hid (below_setCells (In.enc ⟨op, d, a, b1, m⟩) g ((n + 1) * 5) (below_setCells (In.enc ⟨op', d', a', b1', m'⟩) g (n * 5) hbb4.out hgw) hgw)
    clear h1 h2 h3 hle
    simp only [setCells, In.enc, Nat.add_assoc, Nat.reduceAdd] at hfin hbf
    clear c1 c2 c3 c4 c5 d1 d2 d3 d4 d5 p1 p2 p3 p4 p5 q1 q2 q3 q4 q5 f1 f2 f3 f4 f5 g1 g2 g3 g4 g5 hCB
    generalize (World.setCell _ _ _) = W at hfin hbf ⊢
    generalize ((es.set n (⟨op', d', a', b1', m'⟩ : In)).set (n + 1) ⟨op, d, a, b1, m⟩) = Z at *
    go_ret2
    rw [hR.out, hK.out]
    refine ⟨some ⟨g, 0, none⟩, cap, by rw [hle'.out]; rfl, ?_, ?_⟩
    · exact hfin.out
    · first | exact hbf.out | exact hbf.out.drew

theorem vaGood_any (L B : Nat) (A : Option Addr) (c : Nat) (es : List In) (w : World) (hl : es.length ≤ 1048576) (hes : RS In.enc 5 w L B A es) (hB : B ≤ w.heap.size) :
    Calls Try.prog 79 #[.slice A es.length c] w fun e w' => e = .returned (.bool (blkOk es)) ∧ Below w.heap.size w w' := by
  have H := Lib.hid (cdCode_any L B A c es w hl hes hB)
  have hk : Hid (blkOk es = (decide (es.length ≤ 20) && okCode es)) := rfl
  have b0 := Lib.hid (Below.refl w.heap.size w)
  clear hes
  generalize blkOk es = r at *
  generalize okCode es = q at *
  by_cases h20 : es.length ≤ 20
  · have h1 : (es.length : Int) ≤ 20 := by omega
    have h2 : decide (es.length ≤ 20) = true := decide_eq_true h20
    rw [h2] at hk
    clear h2
    go_enter Try.func79, Try.ntmps79
    go_wp2_with (fail)
    refine H.out.mono ?_
    rintro e w1 ⟨rfl, hb⟩
    have hbh := Lib.hid hb
    clear hb
    go_wp2
    go_ret
    exact ⟨by rw [hk.out]; rfl, hbh.out⟩
  · have h1 : ¬ (es.length : Int) ≤ 20 := by omega
    have h2 : decide (es.length ≤ 20) = false := decide_eq_false h20
    rw [h2] at hk
    clear h2
    go_enter Try.func79, Try.ntmps79
    go_wp2
    go_ret
    exact ⟨by rw [hk.out]; rfl, b0.out⟩
end Go.Proofs.Ythjfedidpjfboaa

/- FollowPath of the model. -/
namespace Go.Proofs.Ythjfedidpjfboaa
open Go.RowKit
set_option linter.unusedVariables false
set_option maxRecDepth 100000

theorem allIn_at {xs : List Int} {lo hi : Int} (h : allIn xs lo hi = true) {k : Nat} (hk : k < xs.length) : inR xs[k] lo hi = true := by
  unfold allIn at h; rw [List.all_eq_true] at h; exact h _ (List.getElem_mem hk)
theorem fol_len {a : List In} {path : List Int} {k : Nat} {s : Mv} (h : MvInv a (a, [])) (hk : k ≤ path.length) (hs : folS (a, []) (path.take k) = some s) : s.2.length = k := by
  have := (MvInv.fol _ h hs).2.1
  rw [this]; simp; omega
set_option maxHeartbeats 4000000 in
theorem sFollowPath_any (L B : Nat) (A : Option Addr) (c : Nat) (es : List In) (L' B' : Nat) (A' : Option Addr) (c' : Nat) (path : List Int) (w : World) (hl : es.length ≤ 1048576) (hes : RS In.enc 5 w L B A es) (hB : B ≤ w.heap.size) (hn : path.length ≤ 1048576) (hns : IS w L' B' A' path) (hB' : B' ≤ w.heap.size) :
    Calls Try.prog 26 #[.slice A es.length c, .slice A' path.length c'] w (ResFollowPath (folC es path) (folB es path) w) := by
  have H := Lib.hid (vaGood_any L B A c es w hl hes hB)
  cases hb : blkOk es
  · have hN := Lib.hid (fol_none (folR_no path hb))
    rw [hb] at H
    clear hb hes hns
    go_enter Try.func26, Try.ntmps26
    go_wp2_with (fail)
    refine H.out.mono ?_
    rintro e w1 ⟨rfl, hb1⟩
    have hbh := Lib.hid hb1
    clear hb1
    go_wp2
    go_ret2
    rw [hN.out.1, hN.out.2]
    exact ⟨none, 0, rfl, OK.nil _ _ _ _, hbh.out⟩
  by_cases h100 : 100 < path.length
  · have hN := Lib.hid (fol_none (folR_long (es := es) h100))
    have hq : (100 : Int) < (path.length : Int) := by omega
    rw [hb] at H
    clear hb hes hns h100
    go_enter Try.func26, Try.ntmps26
    go_wp2_with (fail)
    refine H.out.mono ?_
    rintro e w1 ⟨rfl, hb1⟩
    have hbh := Lib.hid hb1
    clear hb1
    go_wp2
    go_ret2
    rw [hN.out.1, hN.out.2]
    exact ⟨none, 0, rfl, OK.nil _ _ _ _, hbh.out⟩
  have hq : ¬ (100 : Int) < (path.length : Int) := by omega
  have hAl := Lib.hid fun (W : World) (hW : Below w.heap.size w W) => l1All_any L' B' A' c' path 0 ((es.length : Int) - 2) W hn (hns.below hW hB')
  have hL20 := (blkOk_parts hb).1
  have hwr : IntKind.i64.wrap ((es.length : Int) - 2) = (es.length : Int) - 2 := IntWalk.i64_in _ (by omega)
  cases ha : allIn path 0 ((es.length : Int) - 2)
  · have hN := Lib.hid (fol_none (folR_far (es := es) ha))
    rw [hb] at H
    rw [ha] at hAl
    clear hb hes hns h100 ha
    go_enter Try.func26, Try.ntmps26
    go_wp2_with (fail)
    refine H.out.mono ?_
    rintro e w1 ⟨rfl, hb1⟩
    have hbh := Lib.hid hb1
    clear hb1
    go_wp2_with (fail)
    refine (hAl.out _ hbh.out).mono ?_
    rintro e w2 ⟨rfl, rfl⟩
    go_wp2
    go_ret2
    rw [hN.out.1, hN.out.2]
    exact ⟨none, 0, rfl, OK.nil _ _ _ _, hbh.out⟩
  have hFR := Lib.hid (folR_yes path hb)
  have hok := (blkOk_parts hb).2
  have hSt := Lib.hid (MvInv.start hok)
  have hSucc := Lib.hid fun (k : Nat) (h : k < path.length) => folS_succ (es, []) h
  have hNo := Lib.hid fun (k : Nat) (h : folS (es, []) (path.take k) = none) => folS_no h
  have hInv := Lib.hid fun (k : Nat) (s : Mv) (h : folS (es, []) (path.take k) = some s) => (MvInv.fol _ hSt.out h).1
  have hFl := Lib.hid fun (k : Nat) (s : Mv) (hk : k ≤ path.length) (h : folS (es, []) (path.take k) = some s) => fol_len hSt.out hk h
  have hAt := Lib.hid fun (k : Nat) (hk : k < path.length) => allIn_at ha hk
  have hPa := Lib.hid fun (W : World) (hW : Below w.heap.size w W) => hns.below hW hB'
  have hBB' := Lib.hid hB'
  have hE := Lib.hid hes
  have hBB := Lib.hid hB
  have h100' : path.length ≤ 100 := by omega
  rw [hb] at H
  rw [ha] at hAl
  clear hb hes hns hok h100 ha hB hB'
  obtain ⟨i0, hi, hz0, hz1, hz2⟩ := info_parts Try.infoInstr
  have hJ0 := Lib.hid hi
  have hJ1 := Lib.hid hz0
  have hJ2 := Lib.hid hz1
  have hJ3 := Lib.hid hz2
  clear hi hz0 hz1 hz2
  go_enter Try.func26, Try.ntmps26
  go_wp2_with (fail)
  refine H.out.mono ?_
  rintro e w1 ⟨rfl, hb1⟩
  have hbh := Lib.hid hb1
  clear hb1
  go_wp2_with (fail)
  refine (hAl.out _ hbh.out).mono ?_
  rintro e w2 ⟨rfl, rfl⟩
  have hE1 := Lib.hid (hE.out.below hbh.out hBB.out)
  have hb0 := Lib.hid ((Below.refl w1.heap.size w1).alloc (Nat.le_refl _) (.cells #[] 90))
  have hz1 := hbh.out.size
  have hnews := Lib.hid ((hE1.out.below hb0.out (Nat.le_trans hBB.out hz1)).news In.hk)
  have hown := Lib.hid (World.ownsRow_made (base := w1.heap.size) (e := 90) (size := 5) w1 #[] 0 (Nat.le_refl _) (by unfold maxLen; omega) (by simp))
  go_wp2_with (at_builtin; refine wpList_append_src rfl _ _ 34 rfl w1.heap.size 90 i0 _ 5 48 Try.underlying34 hJ0.out hJ1.out hJ2.out hJ3.out rfl (by decide) _ 0 [] rfl hown.out A es.length c (es.flatMap In.enc) rfl (kflat_len In.hk es) hnews.out (five_ones es) (by unfold maxLen; omega) (by omega) (by simp) ?_; intro v' w4 hown' hgrow _; simp only [Nat.zero_add, List.nil_append] at hown'; have ho4 := Lib.hid (OK.ofRow hown' rfl); have hb4 := Lib.hid (hbh.out.trans ((hb0.out.grown hgrow (by simp) (fun k hk => (by cases hk; exact Nat.le_refl _))).mono hz1)); clear hown' hgrow)
  have hO0 := Lib.hid (ho4.out.lower hz1)
  clear hown hnews ho4
  go_loopw [6, 32] (fun v i wr => ∃ (k : Nat) (s : Mv), k ≤ path.length ∧ i = .int .i64 k ∧ folS (es, []) (path.take k) = some s ∧ OK In.enc 5 90 wr w.heap.size wr.heap.size v s.1 ∧ Below w.heap.size w wr) (fun _ i _ => path.length - (intOf i).toNat)
  case atStart => exact ⟨0, (es, []), Nat.zero_le _, rfl, rfl, hO0.out, hb4.out⟩
  case round =>
    obtain ⟨k, s, hk, rfl, hs, hok, hbel⟩ := hrel
    have hI := hInv.out k s hs
    have hsl := hFl.out k s hk hs
    obtain ⟨cs, p⟩ := s
    have hS := Lib.hid hs
    have hlc := Lib.hid hI.len
    have hokc := Lib.hid hI.ok
    have hsl' := Lib.hid hsl
    obtain ⟨VA, vc, rfl, hrs⟩ := hok.form In.hk
    have hO := Lib.hid hok
    have hR := Lib.hid hrs
    have hBL := Lib.hid hbel
    dsimp only at hlc hokc hsl' hO hR
    clear hI hs hsl hok hrs
    by_cases hlt : k < path.length
    · obtain ⟨pb, po, rfl, ⟨_, hpb⟩, hcc⟩ := (hPa.out _ hbel) (by omega)
      have y1 := hcc k hlt
      have hsu := hSucc.out k hlt
      have hat := hAt.out k hlt
      clear hcc hbel
      generalize path[k] = pk at *
      obtain ⟨n, rfl, hn1⟩ := inR_nat hat
      have hsu2 : Hid (folS (es, []) (path.take (k + 1)) = mvS (cs, p) n) := by rw [Hid, hsu, hS.out]; rfl
      have hSw := Lib.hid (vaSwap_any w.heap.size wr.heap.size VA vc cs n wr hokc.out (by have := hlc.out; omega) hR.out (Nat.le_refl _))
      clear hsu hat hn1
      go_wp2_with (fail)
      refine hSw.out.mono ?_
      rintro e w5 ⟨A5, c5, rfl, ho5, hb5⟩
      have hO5 := Lib.hid (ho5.lower hBL.out.size)
      have hB5 := Lib.hid (hBL.out.trans (hb5.mono hBL.out.size))
      clear ho5 hb5 hSw
      cases hsw : swOk cs n
      · rw [mvS_no (st := (cs, p)) hsw] at hsu2
        have hF := Lib.hid (fol_none (hFR.out.trans (hNo.out _ hsu2.out)))
        clear hsw
        go_wp2
        go_ret2
        rw [hF.out.1, hF.out.2]
        exact ⟨none, 0, rfl, OK.nil _ _ _ _, hB5.out⟩
      · rw [mvS_yes (st := (cs, p)) hsw (by have := hsl'.out; dsimp only; omega)] at hsu2
        clear hsw
        go_wp2
        go_roundw
        case rel => exact ⟨k + 1, (swapR cs n, p ++ [(n : Int)]), by omega, by go_num, hsu2.out, hO5.out, hB5.out⟩
        case measure => simp [intOf]; omega
    · obtain rfl : k = path.length := by omega
      have hF := Lib.hid (fol_some (hFR.out.trans (by rw [← hS.out, List.take_length])))
      dsimp only at hF
      go_wp2
      go_ret2
      rw [hF.out.1, hF.out.2]
      exact ⟨VA, vc, rfl, hO.out, hBL.out⟩
end Go.Proofs.Ythjfedidpjfboaa

/- SwapPath of the model. -/
namespace Go.Proofs.Ythjfedidpjfboaa
open Go.RowKit
set_option linter.unusedVariables false
set_option maxRecDepth 100000

/-- The first place from k on, as the model finds it. -/
theorem iidx_at {cs : List In} {x : In} {k j : Nat} (hkj : k ≤ j) (hj : j < cs.length) (hno : ∀ i, k ≤ i → i < j → sameI (cs.getD i zeroIn) x = false) (hyes : sameI (cs.getD j zeroIn) x = true) : iidx (cs.drop k) x = ((j - k : Nat) : Int) := by
  unfold iidx
  refine firstI_some (k := j - k) (by rw [List.length_drop]; omega) ?_ fun i hi => ?_
  · rw [show (cs.drop k).getD (j - k) zeroIn = cs.getD j zeroIn by rw [List.getD_eq_getElem?_getD, List.getD_eq_getElem?_getD, List.getElem?_drop]; congr 2; omega]; exact hyes
  · rw [show (cs.drop k).getD i zeroIn = cs.getD (k + i) zeroIn by rw [List.getD_eq_getElem?_getD, List.getD_eq_getElem?_getD, List.getElem?_drop]]; exact hno (k + i) (by omega) (by omega)
theorem iidx_no {cs : List In} {x : In} {k : Nat} (hno : ∀ i, k ≤ i → i < cs.length → sameI (cs.getD i zeroIn) x = false) : iidx (cs.drop k) x = -1 := by
  unfold iidx
  refine firstI_none fun i hi => ?_
  rw [List.length_drop] at hi
  rw [show (cs.drop k).getD i zeroIn = cs.getD (k + i) zeroIn by rw [List.getD_eq_getElem?_getD, List.getD_eq_getElem?_getD, List.getElem?_drop]]; exact hno (k + i) (by omega) (by omega)
theorem own_row2 {w : World} {L1 L2 n1 n2 : Nat} {v1 v2 : Value} {x1 x2 : List Value} (h1 : w.ownsRow L1 90 5 v1 n1 x1) (h2 : w.ownsRow L2 3 1 v2 n2 x2) : v1.ownBlock = none ∨ v1.ownBlock ≠ v2.ownBlock := by
  rcases hV : v1.ownBlock with _ | j
  · exact .inl rfl
  · exact .inr (fun e => row_ne2 h1 h2 (by decide) j hV e.symm)
theorem below_dn {B : Nat} {a w : World} (n : Nat) (h : Below B a w) : Below B a (w.drewN n) := ⟨h.os, h.tape, h.output, h.size, h.block⟩
theorem notEqual_in (op op' : ByteArray) (d a b m d' a' b' m' : Int) : sameI ⟨op, d, a, b, m⟩ ⟨op', d', a', b', m'⟩ = sameI ⟨op', d', a', b', m'⟩ ⟨op, d, a, b, m⟩ := sameI_comm _ _

set_option maxHeartbeats 8000000 in
theorem sSwapPath_go (L B : Nat) (A : Option Addr) (c : Nat) (a : List In) (L' B' : Nat) (A' : Option Addr) (c' : Nat) (b : List In) (w : World) (hk : spOk0 a b = true) (hes : RS In.enc 5 w L B A a) (hB : B ≤ w.heap.size) (hns : RS In.enc 5 w L' B' A' b) (hB' : B' ≤ w.heap.size) :
    Calls Try.prog 35 #[.slice A a.length c, .slice A' b.length c'] w (ResSwapPath (spP a b) (spB a b) w) := by
  have hk0 := hk
  unfold spOk0 at hk0
  simp only [Bool.and_eq_true] at hk0
  obtain ⟨⟨hka, hkb⟩, hkl⟩ := hk0
  have hlen : a.length = b.length := of_decide_eq_true hkl
  obtain ⟨ha20, hoa⟩ := blkOk_parts hka
  have H := Lib.hid (vaGood_any L B A c a w (by omega) hes hB)
  have H2 := Lib.hid fun (W : World) (hW : Below w.heap.size w W) => vaGood_any L' B' A' c' b W (by omega) (hns.below hW hB') (Nat.le_trans hB' hW.size)
  rw [hka] at H
  rw [hkb] at H2
  have hSP : Hid (spR a b = spTo a b b.length) := by unfold Hid spR; rw [if_pos hk]
  have hNo := Lib.hid fun (k : Nat) (hk : k ≤ b.length) (h : spTo a b k = none) => spTo_no h b.length hk
  have hSucc := Lib.hid (spTo_succ a b)
  have hInv := Lib.hid fun (k : Nat) (s : Mv) (h : spTo a b k = some s) => MvInv.to hoa k h
  have hbR := Lib.hid fun (W : World) (hW : Below w.heap.size w W) => hns.below hW hB'
  have hE := Lib.hid hes
  have hBB := Lib.hid hB
  have hne : ((a.length : Int) != (b.length : Int)) = false := by rw [hlen]; simp
  have hS0 : Hid (spTo a b 0 = some (a, [])) := rfl
  have hLen := Lib.hid hlen
  clear hk hka hkb hkl hes hns hB hB' hlen
  generalize spTo a b = T at *
  obtain ⟨i0, hi, hz0, hz1, hz2⟩ := info_parts Try.infoInstr
  have hJ0 := Lib.hid hi
  have hJ1 := Lib.hid hz0
  have hJ2 := Lib.hid hz1
  have hJ3 := Lib.hid hz2
  clear hi hz0 hz1 hz2
  obtain ⟨i1, hi, hz0, hz1, hz2⟩ := info_parts Try.infoInt
  have hI0 := Lib.hid hi
  have hI1 := Lib.hid hz0
  have hI2 := Lib.hid hz1
  have hI3 := Lib.hid hz2
  clear hi hz0 hz1 hz2
  go_enter Try.func35, Try.ntmps35
  go_wp2_with (fail)
  refine H.out.mono ?_
  rintro e w1 ⟨rfl, hb1⟩
  have hb1h := Lib.hid hb1
  clear hb1
  go_wp2_with (fail)
  refine (H2.out _ hb1h.out).mono ?_
  rintro e w2 ⟨rfl, hb2⟩
  have hB2 := Lib.hid (hb1h.out.trans (hb2.mono hb1h.out.size))
  have hz2 := hB2.out.size
  have hE2 := Lib.hid (hE.out.below hB2.out hBB.out)
  clear hb2 hb1h H H2
  have hb0 := Lib.hid ((Below.refl w2.heap.size w2).alloc (Nat.le_refl _) (.cells #[] 90))
  have hnews := Lib.hid ((hE2.out.below hb0.out (Nat.le_trans hBB.out hz2)).news In.hk)
  have hown := Lib.hid (World.ownsRow_made (base := w2.heap.size) (e := 90) (size := 5) w2 #[] 0 (Nat.le_refl _) (by unfold maxLen; omega) (by simp))
  go_wp2_with (at_builtin; refine wpList_append_src rfl _ _ 34 rfl w2.heap.size 90 i0 _ 5 48 Try.underlying34 hJ0.out hJ1.out hJ2.out hJ3.out rfl (by decide) _ 0 [] rfl hown.out A a.length c (a.flatMap In.enc) rfl (kflat_len In.hk a) hnews.out (five_ones a) (by unfold maxLen; omega) (by omega) (by simp) ?_; intro v' w4 hown' hgrow _; simp only [Nat.zero_add, List.nil_append] at hown'; have ho4 := Lib.hid (OK.ofRow hown' rfl); have hb4 := Lib.hid (hB2.out.trans ((hb0.out.grown hgrow (by simp) (fun k hk => (by cases hk; exact Nat.le_refl _))).mono hz2)); clear hown' hgrow)
  have hO0 := Lib.hid (ho4.out.lower hz2)
  clear hown hnews ho4 hb0 hE2
  go_loopw [6, 7, 33] (fun v p i wr => ∃ (k : Nat) (s : Mv), k ≤ b.length ∧ i = .int .i64 k ∧ T k = some s ∧ OK In.enc 5 90 wr w.heap.size wr.heap.size v s.1 ∧ OW wr w.heap.size wr.heap.size p s.2 ∧ Below w.heap.size w wr) (fun _ _ i _ => b.length - (intOf i).toNat)
  case atStart => exact ⟨0, (a, []), Nat.zero_le _, rfl, hS0.out, hO0.out, OW.nil _ _ _, hb4.out⟩
  case round =>
    obtain ⟨k, s, hk, rfl, hs, hok, how, hbel⟩ := hrel
    have hI := hInv.out k s hs
    have hIh := Lib.hid hI
    have hS := Lib.hid hs
    clear hs
    by_cases hlt : k < b.length
    · obtain ⟨pb, po, rfl, ⟨_, hpb⟩, hcc⟩ := In.cells (hbR.out _ hbel) (by omega)
      obtain ⟨y1, y2, y3, y4, y5⟩ := hcc k hlt
      have hsu := hSucc.out k
      rw [hS.out, getD_in hlt] at hsu
      have hsu2 : Hid (T (k + 1) = spStep s k b[k]) := hsu
      clear hcc hsu
      generalize b[k] = x at *
      obtain ⟨cs, p⟩ := s
      obtain ⟨op, d, xa, xb, m⟩ := x
      dsimp only at hok how
      dsimp only at y1 y2 y3 y4 y5
      obtain ⟨VA, vc, rfl, hrs⟩ := hok.form In.hk
      obtain ⟨PA, pc, rfl, _⟩ := how.form
      have hlc : cs.length = a.length := hI.len
      have hLC := Lib.hid hlc
      have hc20 : cs.length ≤ 20 := by omega
      obtain ⟨W4, hW4⟩ : ∃ W4, W4 = wr.alloc (.cells #[.string op, .int .i64 d, .int .i64 xa, .int .i64 xb, .int .i64 m] 90) := ⟨_, rfl⟩
      have A4 : Below wr.heap.size wr W4 := by rw [hW4]; exact (Below.refl wr.heap.size wr).alloc (Nat.le_refl _) _
      have X4 : XB W4 wr.heap.size ⟨op, d, xa, xb, m⟩ := by rw [hW4]; exact XB.new wr ⟨op, d, xa, xb, m⟩
      have hO4 := Lib.hid ((hok.below A4 (Nat.le_refl _)).more A4.size)
      have hP4 := Lib.hid ((how.below A4 (Nat.le_refl _)).more A4.size)
      have hB4 := Lib.hid (hbel.trans (A4.mono hbel.size))
      have hR4 := Lib.hid (hrs.below A4 (Nat.le_refl _))
      have hX4 := Lib.hid X4
      have hz4 := Lib.hid A4.size
      have hW4h := Lib.hid hW4.symm
      have hki : (k : Int) < (b.length : Int) := by omega
      have hk0 : (0 : Int) ≤ (k : Int) := by omega
      clear hok how hbel hrs hI hlc A4 X4 hW4
      go_wp2
      rw [hW4h.out]
      clear y1 y2 y3 y4 y5 hW4h
      obtain ⟨xg, hxg⟩ : ∃ xg, xg = wr.heap.size := ⟨_, rfl⟩
      rw [← hxg] at hX4 hz4 hR4 ⊢
      clear hxg
      go_loopw [10] (fun at' W => ∃ j : Nat, k ≤ j ∧ j ≤ cs.length ∧ at' = .int .i64 j ∧ (∀ i, k ≤ i → i < j → sameI (cs.getD i zeroIn) ⟨op, d, xa, xb, m⟩ = false) ∧ Below W4.heap.size W4 W) (fun at' _ => cs.length - (intOf at').toNat)
      case atStart => exact ⟨k, Nat.le_refl _, by have := hLC.out; have := hLen.out; omega, rfl, fun i h1 h2 => by omega, Below.refl _ _⟩
      case round =>
        obtain ⟨j, hkj, hjl, rfl, hno, hbel⟩ := hrel
        have hNoj := Lib.hid hno
        have hBl := Lib.hid hbel
        have hXj := Lib.hid (show XB wr xg ⟨op, d, xa, xb, m⟩ from CB.below hX4.out hbel (CB.lt hX4.out))
        obtain ⟨n0, n1, n2, n3, n4⟩ := XB.cells hXj.out
        dsimp only at n0 n1 n2 n3 n4
        have hgd := in_guard
        clear hno
        by_cases hjlt : j < cs.length
        · obtain ⟨vb, vo, rfl, ⟨_, hvb⟩, hcc⟩ := In.cells (hR4.out.below hbel hz4.out) (by omega)
          obtain ⟨c1, c2, c3, c4, c5⟩ := hcc j hjlt
          have hgj := Lib.hid (getD_in hjlt)
          have hj0 : (0 : Int) ≤ (j : Int) := by omega
          have hj1 : (j : Int) < (cs.length : Int) := by omega
          have hjd : decide ((j : Int) < (cs.length : Int)) = true := decide_eq_true hj1
          clear hcc hbel
          generalize hz : cs[j] = z at *
          clear hz
          obtain ⟨op', d', a', b', m'⟩ := z
          dsimp only at c1 c2 c3 c4 c5
          have hEq := fun W => equalIn_in op' op d' a' b' m' d xa xb m W
          cases hs : sameI ⟨op', d', a', b', m'⟩ ⟨op, d, xa, xb, m⟩
          · rw [hs] at hEq
            have hNn := Lib.hid (show ∀ i, k ≤ i → i < j + 1 → sameI (cs.getD i zeroIn) ⟨op, d, xa, xb, m⟩ = false from fun i h1 h2 => by
              by_cases e : i = j
              · subst e; rw [hgj.out]; exact hs
              · exact hNoj.out i h1 (by omega))
            clear hs
            go_wp2_with (fail)
            go_quiet (fail)
            all_goals go_wp2
            all_goals go_roundw
            case rel => exact ⟨j + 1, by omega, by omega, by go_num, hNn.out, below_dn _ hBl.out⟩
            case measure => simp [intOf]; omega
          · rw [hs] at hEq
            have hix := Lib.hid (iidx_at hkj hjlt hNoj.out (by rw [hgj.out]; exact hs))
            have hok1 : iidx (cs.drop k) ⟨op, d, xa, xb, m⟩ = ((j - k : Nat) : Int) := hix.out
            have hst2 : Hid (T (k + 1) = mvDn k (j - k) (cs, p)) := by
              rw [Hid, hsu2.out]; unfold spStep; dsimp only; rw [hok1, if_neg (by omega), Int.toNat_natCast]
            have hje : ((j : Int) == (cs.length : Int)) = false := by simp; omega
            have hO5 := Lib.hid ((hO4.out.below hBl.out (Nat.le_refl _)).more hBl.out.size)
            have hP5 := Lib.hid ((hP4.out.below hBl.out (Nat.le_refl _)).more hBl.out.size)
            have hB5 := Lib.hid (hB4.out.trans (hBl.out.mono hB4.out.size))
            clear hs hok1
            go_wp2_with (fail)
            go_quiet (fail)
            all_goals
              have hO6 := Lib.hid (show OK In.enc 5 90 (wr.drewN nq) w.heap.size (wr.drewN nq).heap.size (.slice (some ⟨vb, vo, none⟩) cs.length vc) cs from hO5.out.below (below_dn nq (Below.refl wr.heap.size wr)) (Nat.le_refl _))
              have hP6 := Lib.hid (show OW (wr.drewN nq) w.heap.size (wr.drewN nq).heap.size (.slice PA p.length pc) p from hP5.out.below (below_dn nq (Below.refl wr.heap.size wr)) (Nat.le_refl _))
              have hB6 := Lib.hid (below_dn nq hB5.out)
              generalize wr.drewN nq = W6 at *
              clear n0 n1 n2 n3 n4 c1 c2 c3 c4 c5 hEq hBl hXj hO5 hP5 hB5 hO4 hP4 hB4 hR4 hX4
              go_wp2
              go_loopw [6, 7, 10] (fun v q at' W => ∃ (r t : Nat) (s : Mv), t = k + r ∧ r ≤ j - k ∧ at' = .int .i64 t ∧ mvDn k r s = mvDn k (j - k) (cs, p) ∧ MvInv a s ∧ OK In.enc 5 90 W w.heap.size W.heap.size v s.1 ∧ OW W w.heap.size W.heap.size q s.2 ∧ Below w.heap.size w W) (fun _ _ at' _ => (intOf at').toNat)
              case atStart => exact ⟨j - k, j, (cs, p), by omega, Nat.le_refl _, rfl, rfl, hIh.out, hO6.out, hP6.out, hB6.out⟩
              case round =>
                obtain ⟨r, t, s, ht, hr, rfl, hF, hI, hok, how, hbel⟩ := hrel
                have hFh := Lib.hid hF
                have hIh2 := Lib.hid hI
                have hO7 := Lib.hid hok
                have hP7 := Lib.hid how
                have hB7 := Lib.hid hbel
                clear hF hI
                cases r with
                | zero =>
                  obtain rfl : t = k := by omega
                  have hz : Hid (T (t + 1) = some s) := hst2.out.trans hFh.out.symm
                  have hlt2 : ¬ ((t : Int) < (t : Int)) := by omega
                  obtain ⟨VA2, vc2, rfl, _⟩ := hok.form In.hk
                  obtain ⟨PA2, pc2, rfl, _⟩ := how.form
                  clear ht hok how hbel
                  go_wp2
                  go_roundw
                  case rel => exact ⟨t + 1, s, by omega, by go_num, hz.out, hO7.out, hP7.out, hB7.out⟩
                  case measure => simp [intOf]; omega
                | succ r =>
                  obtain ⟨n, hn⟩ : ∃ n, n = k + r := ⟨_, rfl⟩
                  have e0 : (t : Int) - 1 = (n : Int) := by omega
                  have hkt : (k : Int) < (t : Int) := by omega
                  have ht1 : (1 : Int) ≤ (t : Int) := by omega
                  have ht20 : (t : Int) ≤ 20 := by omega
                  have hd := mvDn_succ k r s
                  rw [hFh.out, ← hn] at hd
                  have hdh := Lib.hid hd
                  have hnx := Lib.hid hn
                  have hT := Lib.hid ht
                  obtain ⟨ds, p2⟩ := s
                  have hlc2 : ds.length = a.length := hIh2.out.len
                  have hlp2 := hIh2.out.most
                  dsimp only at hok how hlp2
                  obtain ⟨VA2, vc2, rfl, hrs2⟩ := hok.form In.hk
                  obtain ⟨PA2, pc2, rfl, _⟩ := how.form
                  have hnlt : n + 1 < ds.length := by have := hLC.out; omega
                  have hSw := Lib.hid (vaSwap_any w.heap.size wr.heap.size VA2 vc2 ds n wr hIh2.out.ok hnlt hrs2 (Nat.le_refl _))
                  have hLC2 := Lib.hid hlc2
                  clear ht hd hn hok how hbel hrs2 hlc2
                  go_wp2_with (fail)
                  refine hSw.out.mono ?_
                  rintro e w8 ⟨A8, c8, rfl, ho8, hb8⟩
                  have hO8 := Lib.hid (ho8.lower hB7.out.size)
                  have hB8 := Lib.hid (hB7.out.trans (hb8.mono hB7.out.size))
                  have hP8 := Lib.hid ((hP7.out.below hb8 (Nat.le_refl _)).more hb8.size)
                  clear ho8 hb8 hSw hO7 hP7 hB7
                  cases hsw : swOk ds n
                  · have hN := Lib.hid (sp_none (hSP.out.trans (hNo.out (k + 1) hlt (hst2.out.trans (hdh.out.trans (by rw [mvS_no (st := (ds, p2)) hsw]; rfl))))))
                    clear hsw
                    go_wp2
                    go_ret2
                    rw [hN.out.1, hN.out.2]
                    exact ⟨none, 0, rfl, OW.nil _ _ _, hB8.out⟩
                  by_cases h100 : p2.length = 100
                  · have hN := Lib.hid (sp_none (hSP.out.trans (hNo.out (k + 1) hlt (hst2.out.trans (hdh.out.trans (by rw [mvS_full (st := (ds, p2)) h100]; rfl))))))
                    have hq : ((p2.length : Int) == 100) = true := by simp; omega
                    clear hsw h100
                    go_wp2
                    go_ret2
                    rw [hN.out.1, hN.out.2]
                    exact ⟨none, 0, rfl, OW.nil _ _ _, hB8.out⟩
                  have hmv := mvS_yes (st := (ds, p2)) hsw h100
                  have hI9 := Lib.hid (hIh2.out.step hmv).1
                  have hF9 : Hid (mvDn k r (swapR ds n, p2 ++ [(n : Int)]) = mvDn k (j - k) (cs, p)) := by rw [Hid, hdh.out, hmv]; rfl
                  have hq : ((p2.length : Int) == 100) = false := by simp; omega
                  have hp100 : p2.length < 100 := by omega
                  have A9 := (Below.refl w8.heap.size w8).alloc (Nat.le_refl _) (.cells #[.int .i64 (n : Int)] 3)
                  have hO9 := Lib.hid ((hO8.out.below A9 (Nat.le_refl _)).more A9.size)
                  have hP9 := Lib.hid ((hP8.out.below A9 (Nat.le_refl _)).more A9.size)
                  have hB9 := Lib.hid (hB8.out.trans (A9.mono hB8.out.size))
                  clear hsw h100 hmv A9
                  go_wp2_with (at_builtin; go_loud (refine wpList_append_own _ rfl _ _ 32 rfl w.heap.size 3 i1 (.int .i64 0) 1 8 Try.underlying32 hI0.out hI1.out hI2.out hI3.out rfl (by decide) _ p2.length _ rfl hP9.out.1 ⟨w8.heap.size, 0, none⟩ 1 1 [.int .i64 (n : Int)] rfl rfl (new1 rfl) (one1 _) (by unfold maxLen; omega) (by omega) hB9.out.size ?_); intro v' w10 hown4 hgr4 _; have hP10 := Lib.hid (OW.push (by simpa using hown4) : OW w10 w.heap.size w10.heap.size v' (p2 ++ [(n : Int)])); have hB10 := Lib.hid (hB9.out.grown hgr4 hB9.out.size (fun q hq => (hP9.out.lo q hq).1)); have hO10 := Lib.hid (OK.more ⟨hO9.out.1.kept hgr4 (own_row2 hO9.out.1 hP9.out.1), hO9.out.2⟩ hgr4.size); clear hown4 hgr4)
                  go_roundw
                  case rel => exact ⟨r, n, (swapR ds n, p2 ++ [(n : Int)]), hnx.out, by omega, rfl, hF9.out, hI9.out, hO10.out, hP10.out, hB10.out⟩
                  case measure => simp [intOf]; have := hT.out; have := hnx.out; omega
        · obtain rfl : j = cs.length := by omega
          have hix := Lib.hid (iidx_no (x := ⟨op, d, xa, xb, m⟩) hNoj.out)
          have hj1 : ¬ (cs.length : Int) < (cs.length : Int) := by omega
          have hjd : decide ((cs.length : Int) < (cs.length : Int)) = false := decide_eq_false hj1
          have hst2 : Hid (T (k + 1) = none) := by rw [Hid, hsu2.out]; unfold spStep; dsimp only; rw [hix.out]; rfl
          have hN := Lib.hid (sp_none (hSP.out.trans (hNo.out (k + 1) hlt hst2.out)))
          have hBf := Lib.hid (hB4.out.trans (hBl.out.mono hB4.out.size))
          clear hbel
          go_wp2_with (fail)
          go_quiet (fail)
          all_goals go_wp2
          all_goals go_ret2
          rw [hN.out.1, hN.out.2]
          exact ⟨none, 0, rfl, OW.nil _ _ _, below_dn _ hBf.out⟩
    · obtain rfl : k = b.length := by omega
      have hF := Lib.hid (sp_some (hSP.out.trans hS.out))
      obtain ⟨PA, pc, rfl, _⟩ := how.form
      have hO := Lib.hid how
      have hB := Lib.hid hbel
      clear how hok hbel
      go_wp2
      go_ret2
      rw [hF.out.1, hF.out.2]
      exact ⟨PA, pc, rfl, hO.out, hB.out⟩
set_option maxHeartbeats 4000000 in
theorem sSwapPath_k (L B : Nat) (A : Option Addr) (c : Nat) (a : List In) (L' B' : Nat) (A' : Option Addr) (c' : Nat) (b : List In) (w : World) (hl : a.length ≤ 1048576) (hes : RS In.enc 5 w L B A a) (hB : B ≤ w.heap.size) (hl' : b.length ≤ 1048576) (hns : RS In.enc 5 w L' B' A' b) (hB' : B' ≤ w.heap.size) :
    Calls Try.prog 35 #[.slice A a.length c, .slice A' b.length c'] w (ResSwapPath (spP a b) (spB a b) w) := by
  cases hk : spOk0 a b
  rotate_left
  · exact sSwapPath_go L B A c a L' B' A' c' b w hk hes hB hns hB'
  have hN := Lib.hid (sp_none (a := a) (b := b) (by unfold spR; rw [hk]; rfl))
  have H := Lib.hid (vaGood_any L B A c a w hl hes hB)
  cases hka : blkOk a
  · rw [hka] at H
    clear hk hes hns hka
    go_enter Try.func35, Try.ntmps35
    go_wp2_with (fail)
    refine H.out.mono ?_
    rintro e w1 ⟨rfl, hb1⟩
    have hbh := Lib.hid hb1
    clear hb1
    go_wp2
    go_ret2
    rw [hN.out.1, hN.out.2]
    exact ⟨none, 0, rfl, OW.nil _ _ _, hbh.out⟩
  have H2 := Lib.hid fun (W : World) (hW : Below w.heap.size w W) => vaGood_any L' B' A' c' b W hl' (hns.below hW hB') (Nat.le_trans hB' hW.size)
  rw [hka] at H
  cases hkb : blkOk b
  · rw [hkb] at H2
    clear hk hes hns hka hkb
    go_enter Try.func35, Try.ntmps35
    go_wp2_with (fail)
    refine H.out.mono ?_
    rintro e w1 ⟨rfl, hb1⟩
    have hbh := Lib.hid hb1
    clear hb1
    go_wp2_with (fail)
    refine (H2.out _ hbh.out).mono ?_
    rintro e w2 ⟨rfl, hb2⟩
    have hb2h := Lib.hid (hbh.out.trans (hb2.mono hbh.out.size))
    clear hb2
    go_wp2
    go_ret2
    rw [hN.out.1, hN.out.2]
    exact ⟨none, 0, rfl, OW.nil _ _ _, hb2h.out⟩
  have hne : a.length ≠ b.length := by
    intro e
    unfold spOk0 at hk
    rw [hka, hkb, decide_eq_true e] at hk
    cases hk
  have hnb : ((a.length : Int) != (b.length : Int)) = true := by simp; omega
  rw [hkb] at H2
  clear hk hes hns hka hkb hne
  go_enter Try.func35, Try.ntmps35
  go_wp2_with (fail)
  refine H.out.mono ?_
  rintro e w1 ⟨rfl, hb1⟩
  have hbh := Lib.hid hb1
  clear hb1
  go_wp2_with (fail)
  refine (H2.out _ hbh.out).mono ?_
  rintro e w2 ⟨rfl, hb2⟩
  have hb2h := Lib.hid (hbh.out.trans (hb2.mono hbh.out.size))
  clear hb2
  go_wp2
  go_ret2
  rw [hN.out.1, hN.out.2]
  exact ⟨none, 0, rfl, OW.nil _ _ _, hb2h.out⟩
end Go.Proofs.Ythjfedidpjfboaa

/- Arguments of the types []laws.Instr, laws.Instr and []int opened. -/
namespace Go.Proofs.Ythjfedidpjfboaa
open Go.ChangeShapes Go.WideShapes Go.ChangeAt Go.RowKit Go.Deep
open Go.ChangeMaps (open_string shut_string)
set_option linter.unusedVariables false

theorem cellsIn : Try.prog.cellsOf 86 = 5 := by kernel_rfl
theorem cellsStr : Try.prog.cellsOf 9 = 1 := by kernel_rfl
theorem cellsInt : Try.prog.cellsOf 3 = 1 := by kernel_rfl

set_option maxRecDepth 100000 in
theorem in_of_trod {H : Type} {enc : TypeId × Value → H} {w : World} {base : Nat} {spare : Nat → Bool} {held : Bool} {n : Nat} {cs : List Value} {x : DataW H × List MemPlace}
    (h : DataW.trod enc Try.prog w base spare held n 86 cs = some x) : ∃ nd : In, cs = nd.enc ∧ nd.op.size ≤ maxLen := by
  obtain ⟨xs, m, _, _, hlen, hxl, hf⟩ := DataW.trod_struct Try.underlying86 h
  rw [cellsIn] at hlen
  match cs, hlen with
  | [c0, c1, c2, c3, c4], _ =>
    match xs, hxl with
    | [y0, y1, y2, y3, y4], _ =>
      have h0 := hf 0 _ rfl
      change DataW.trod enc Try.prog w base spare held m 9 (([c0, c1, c2, c3, c4].drop 0).take (Try.prog.cellsOf 9)) = _ at h0
      rw [cellsStr] at h0
      have h1 := hf 1 _ rfl
      change DataW.trod enc Try.prog w base spare held m 3 (([c0, c1, c2, c3, c4].drop 1).take (Try.prog.cellsOf 3)) = _ at h1
      rw [cellsInt] at h1
      have h2 := hf 2 _ rfl
      change DataW.trod enc Try.prog w base spare held m 3 (([c0, c1, c2, c3, c4].drop 2).take (Try.prog.cellsOf 3)) = _ at h2
      rw [cellsInt] at h2
      have h3 := hf 3 _ rfl
      change DataW.trod enc Try.prog w base spare held m 3 (([c0, c1, c2, c3, c4].drop 3).take (Try.prog.cellsOf 3)) = _ at h3
      rw [cellsInt] at h3
      have h4 := hf 4 _ rfl
      change DataW.trod enc Try.prog w base spare held m 3 (([c0, c1, c2, c3, c4].drop 4).take (Try.prog.cellsOf 3)) = _ at h4
      rw [cellsInt] at h4
      obtain ⟨s, e0, _, hs⟩ := DataW.trod_string Try.underlying9 h0
      obtain ⟨d, e1, _, _⟩ := DataW.trod_int Try.underlying3 h1
      obtain ⟨a, e2, _, _⟩ := DataW.trod_int Try.underlying3 h2
      obtain ⟨b, e3, _, _⟩ := DataW.trod_int Try.underlying3 h3
      obtain ⟨m, e4, _, _⟩ := DataW.trod_int Try.underlying3 h4
      have e0 : c0 = .string s := by simpa using e0
      have e1 : c1 = .int .i64 d := by simpa using e1
      have e2 : c2 = .int .i64 a := by simpa using e2
      have e3 : c3 = .int .i64 b := by simpa using e3
      have e4 : c4 = .int .i64 m := by simpa using e4
      exact ⟨⟨s, d, a, b, m⟩, by rw [e0, e1, e2, e3, e4]; rfl, hs⟩

theorem cell_lt_heap {w : World} {a : Addr} {v : Value} (h : w.cell? a = some v) : a.block < w.heap.size := by
  rcases Nat.lt_or_ge a.block w.heap.size with hlt | hge
  · exact hlt
  · unfold World.cell? at h; rw [Array.getElem?_eq_none hge] at h; simp at h

set_option maxRecDepth 100000 in
theorem x_of_trod {H : Type} {enc : TypeId × Value → H} {w : World} {r : Reach} {b0 : Nat} {spare : Nat → Bool} {held : Bool} {v : Value} {d : DataW H} {p : List MemPlace}
    (hv : Value.okWide Try.prog w r b0 86 v) (h : DataW.Trod enc Try.prog w 0 spare held 86 v d p) :
    ∃ x : In, v = .agg #[.string x.op, .int .i64 x.d, .int .i64 x.a, .int .i64 x.b, .int .i64 x.m] ∧ x.op.size ≤ 9223372036854775807 := by
  obtain ⟨cs, rfl, hsz⟩ := okWide_struct Try.underlying86 hv
  obtain ⟨fuel, hf⟩ := h
  obtain ⟨x, hx, hs⟩ := in_of_trod hf
  refine ⟨x, ?_, by unfold maxLen at hs; omega⟩
  obtain ⟨l⟩ := cs
  have hx' : l = x.enc := by simpa [Value.cells] using hx
  subst hx'; rfl

set_option maxRecDepth 100000 in
theorem ins_of_trod {H : Type} {enc : TypeId × Value → H} {w : World} {spare : Nat → Bool} {held : Bool} {A : Option Addr} {len cap : Nat} {d : DataW H} {p : List MemPlace}
    (h : DataW.Trod enc Try.prog w 0 spare held 31 (.slice A len cap) d p) :
    ∃ es : List In, es.length = len ∧ RS In.enc 5 w 0 w.heap.size A es ∧ (∀ n ∈ es, n.op.size ≤ 9223372036854775807) ∧ len ≤ 9223372036854775807 := by
  obtain ⟨fuel, hf⟩ := h
  rcases open_slice Try.underlying31 hf with ⟨hcs, _⟩ | ⟨a, l, c, m, n, D, Pl, hcs, _, hl, hm, hmm, _, hi⟩
  · simp [Value.cells] at hcs
    obtain ⟨rfl, rfl, rfl⟩ := hcs
    exact ⟨[], rfl, fun h => absurd h (by simp), (fun n hn => by cases hn), by omega⟩
  · simp [Value.cells] at hcs
    obtain ⟨rfl, rfl, rfl⟩ := hcs
    have hlm : len ≤ m := by rw [hmm]; split <;> omega
    have hex : ∀ i, i < len → ∃ nd : In, (∀ j v, nd.enc[j]? = some v → w.cell? (a.add (i * 5 + j)) = some v) ∧ nd.op.size ≤ maxLen := by
      intro i hil
      obtain ⟨cs', hc, ht⟩ := hi i (by omega)
      rw [cellsIn] at hc
      obtain ⟨nd, rfl, hs⟩ := in_of_trod ht
      obtain ⟨_, _, hat⟩ := World.cells?_some hc
      refine ⟨nd, fun j v hv => ?_, hs⟩
      have hj : j < 5 := kflat_lt In.hk hv
      have := hat j hj
      rw [add_add, hv] at this; exact this
    obtain ⟨f, hf2⟩ := Classical.axiomOfChoice (fun i : {i // i < len} => hex i.1 i.2)
    have hget : ∀ i (h : i < (List.ofFn fun i : Fin len => f ⟨i.1, i.2⟩).length), (List.ofFn fun i : Fin len => f ⟨i.1, i.2⟩)[i] = f ⟨i, by simpa using h⟩ := fun i h => by simp
    refine ⟨List.ofFn fun i : Fin len => f ⟨i.1, i.2⟩, by simp, ?_, ?_, by unfold maxLen at hm; omega⟩
    · intro hpos
      have hpos' : 0 < len := by simpa using hpos
      have h0 := (hf2 ⟨0, hpos'⟩).1 0 _ rfl
      obtain ⟨b, o, spot⟩ := a
      have hspot : spot = none := by have := World.cell?_spot h0; simpa [Addr.add] using this
      subst hspot
      have hadd : ∀ k, (⟨b, o, none⟩ : Addr).add k = ⟨b, o + k, none⟩ := fun k => by simp [Addr.add]
      refine ⟨b, o, rfl, ⟨Nat.zero_le _, ?_⟩, fun i hi j v hv => ?_⟩
      · rw [hadd] at h0
        exact cell_lt_heap h0
      · have hi' : i < len := by simpa using hi
        rw [hget i hi] at hv
        have := (hf2 ⟨i, hi'⟩).1 j v hv
        simp only [hadd, ← Nat.add_assoc] at this
        exact this
    · intro n hn
      obtain ⟨i, rfl⟩ := List.mem_ofFn.1 hn
      have := (hf2 ⟨i.1, i.2⟩).2
      unfold maxLen at this; omega

set_option maxRecDepth 100000 in
theorem ints_of_trod {H : Type} {enc : TypeId × Value → H} {w : World} {spare : Nat → Bool} {held : Bool} {A : Option Addr} {len cap : Nat} {d : DataW H} {p : List MemPlace}
    (h : DataW.Trod enc Try.prog w 0 spare held 32 (.slice A len cap) d p) :
    ∃ xs : List Int, xs.length = len ∧ IS w 0 w.heap.size A xs ∧ len ≤ 9223372036854775807 := by
  obtain ⟨fuel, hf⟩ := h
  rcases open_slice Try.underlying32 hf with ⟨hcs, _⟩ | ⟨a, l, c, m, n, D, Pl, hcs, _, hl, hm, hmm, _, hi⟩
  · simp [Value.cells] at hcs
    obtain ⟨rfl, rfl, rfl⟩ := hcs
    exact ⟨[], rfl, fun h => absurd h (by simp), by omega⟩
  · simp [Value.cells] at hcs
    obtain ⟨rfl, rfl, rfl⟩ := hcs
    have hlm : len ≤ m := by rw [hmm]; split <;> omega
    have hex : ∀ i, i < len → ∃ x : Int, w.cell? (a.add i) = some (.int .i64 x) := by
      intro i hil
      obtain ⟨cs', hc, ht⟩ := hi i (by omega)
      rw [cellsInt, Nat.mul_one] at hc
      obtain ⟨x, hx, _, _⟩ := DataW.trod_int Try.underlying3 ht
      obtain ⟨_, _, hat⟩ := World.cells?_some hc
      have := hat 0 (by omega)
      rw [add_add, hx] at this
      exact ⟨x, by simpa using this⟩
    obtain ⟨f, hf2⟩ := Classical.axiomOfChoice (fun i : {i // i < len} => hex i.1 i.2)
    have hget : ∀ i (h : i < (List.ofFn fun i : Fin len => f ⟨i.1, i.2⟩).length), (List.ofFn fun i : Fin len => f ⟨i.1, i.2⟩)[i] = f ⟨i, by simpa using h⟩ := fun i h => by simp
    refine ⟨List.ofFn fun i : Fin len => f ⟨i.1, i.2⟩, by simp, ?_, by unfold maxLen at hm; omega⟩
    intro hpos
    have hpos' : 0 < len := by simpa using hpos
    have h0 := hf2 ⟨0, hpos'⟩
    obtain ⟨b, o, spot⟩ := a
    have hspot : spot = none := by have := World.cell?_spot h0; simpa [Addr.add] using this
    subst hspot
    have hadd : ∀ k, (⟨b, o, none⟩ : Addr).add k = ⟨b, o + k, none⟩ := fun k => by simp [Addr.add]
    refine ⟨b, o, rfl, ⟨Nat.zero_le _, ?_⟩, fun i hi => ?_⟩
    · rw [hadd] at h0
      exact cell_lt_heap h0
    · have hi' : i < len := by simpa using hi
      rw [hget i hi]
      have := hf2 ⟨i, hi'⟩
      simp only [hadd] at this
      exact this
end Go.Proofs.Ythjfedidpjfboaa
