import Derived.Test.YtekjgngkipbefaaFA
import Derived.Test.YtekjgngkipbefaaWB
import Derived.Test.YtekjgngkipbefaaD2
import Derived.Test.YtekjgngkipbefaaCV
import Derived.WalkKit
import Derived.WalkSpells
import Derived.WalkLawsBesides
import Derived.Deep.RegionLaw
import Derived.Deep.RegionHeld3
import Derived.Lib.Hide
/- The program's folded node. -/
namespace Go.Proofs.Ytekjgngkipbefaa
open Go.RowKit
set_option linter.unusedVariables false
set_option maxRecDepth 100000

theorem ns_get {w : World} {L B : Nat} {A : Option Addr} {fs : List Nd} (h : NS w L B A fs) {q : Nat} (hq : q < fs.length) : ∃ b o, A = some ⟨b, o, none⟩ ∧ L ≤ b ∧ b < B ∧ w.cell? ⟨b, o + q * 4, none⟩ = some (.string (fs.getD q zeroNd).op) ∧ w.cell? ⟨b, o + q * 4 + 3, none⟩ = some (.int .i64 (fs.getD q zeroNd).v) := by
  obtain ⟨b, o, hA, ⟨hL, hB⟩, hc⟩ := h (by omega)
  obtain ⟨c1, _, _, c4⟩ := hc q hq
  refine ⟨b, o, hA, hL, hB, ?_, ?_⟩
  · rw [c1, List.getD_eq_getElem?_getD, List.getElem?_eq_getElem hq]; rfl
  · rw [c4, List.getD_eq_getElem?_getD, List.getElem?_eq_getElem hq]; rfl

set_option maxHeartbeats 16000000 in
theorem foldNode_any (L B : Nat) (A : Option Addr) (c k : Nat) (fs : List Nd) (n : Nd) (w : World) (hl : fs.length ≤ 24) (hk : k < fs.length) (hn : isNode n k = true) (hfs : NS w L B A fs) (hB : B ≤ w.heap.size) (hv : ∀ n ∈ fs, 0 ≤ n.v ∧ n.v ≤ 63) :
    Calls Try.prog 68 #[.agg #[.string n.op, .int .i64 n.a, .int .i64 n.b, .int .i64 n.v], .slice A fs.length c] w fun e w' => e = .returned (.agg #[.string (fnode fs n).op, .int .i64 (fnode fs n).a, .int .i64 (fnode fs n).b, .int .i64 (fnode fs n).v]) ∧ Below w.heap.size w w' := by
  have hF := Lib.hid fun (W : World) (hW : Below w.heap.size w W) => hfs.below hW hB
  obtain ⟨W1, hW1⟩ : ∃ W1, W1 = w.alloc (.cells #[.string n.op, .int .i64 n.a, .int .i64 n.b, .int .i64 n.v] 62) := ⟨_, rfl⟩
  have b1 : Below w.heap.size w W1 := by rw [hW1]; exact (Below.refl _ _).alloc (Nat.le_refl _) _
  have x1 : XN W1 w.heap.size n := by rw [hW1]; exact xn_new _ n
  have z1 : W1.heap.size = w.heap.size + 1 := by rw [hW1]; simp
  obtain ⟨W2, hW2⟩ : ∃ W2, W2 = W1.alloc (.cells #[.string ⟨#[]⟩, .int .i64 0, .int .i64 0, .int .i64 0] 62) := ⟨_, rfl⟩
  have c2 : Below W1.heap.size W1 W2 := by rw [hW2]; exact (Below.refl _ _).alloc (Nat.le_refl _) _
  have x2 := Lib.hid (x1.next c2)
  have r2 : Hid (XN W2 (w.heap.size + 1) zeroNd) := by unfold Hid; rw [hW2, ← z1]; exact xn_new _ zeroNd
  have b2 := Lib.hid (b1.trans (c2.mono b1.size))
  have e2 : Hid (W2 = (w.alloc (.cells #[.string n.op, .int .i64 n.a, .int .i64 n.b, .int .i64 n.v] 62)).alloc (.cells #[.string ⟨#[]⟩, .int .i64 0, .int .i64 0, .int .i64 0] 62)) := by unfold Hid; rw [hW2, hW1]
  have z2 : W2.heap.size = w.heap.size + 2 := by rw [hW2]; simp; omega
  clear hW1 hW2 b1 x1 z1 c2 hfs
  have hps := parts_in hn
  have hpl : (parts n).length ≤ 2 := parts_len n
  have h2 := Lib.hid (parts_two hn)
  have hgv := Lib.hid fun i => getD_v hv i
  have hfb := Lib.hid (fval_bd (n := n) hv)
  have hno := Lib.hid fun h => fnode_no (fs := fs) (n := n) h
  have hyes := Lib.hid fun h => fnode_yes (fs := fs) (n := n) h
  generalize fnode fs n = m at *
  obtain ⟨op, a, b, v⟩ := n
  dsimp only at x2 e2 h2 ⊢
  obtain ⟨d0, d1, d2, d3⟩ := x2.out.cells
  dsimp only at d0 d1 d2 d3
  have hPt := Lib.hid fun (W : World) => operandsOf_any op a b v W
  obtain ⟨ps, hP⟩ : ∃ ps, ps = parts ⟨op, a, b, v⟩ := ⟨_, rfl⟩
  rw [← hP] at hps hpl h2 hno hyes hPt
  have HP := Lib.hid hP
  clear hP hv hn
  go_enter Try.func68, Try.ntmps68
  go_wp2_with (fail)
  rw [← e2.out]
  refine (hPt.out _).mono ?_
  rintro e w3 ⟨A3, c3, rfl, hIS, hb3⟩
  have b3 := Lib.hid (b2.out.trans (hb3.mono b2.out.size))
  have x3 := Lib.hid (x2.out.next hb3)
  have r3 := Lib.hid (r2.out.next hb3)
  have z3 := hb3.size
  have hI3 := Lib.hid hIS
  have hF3 := Lib.hid (hF.out w3 b3.out)
  clear hb3 hIS d0 d1 d2 d3 e2 hF x2 r2 b2
  obtain ⟨d0, d1, d2, d3⟩ := x3.out.cells
  have g0 := r3.out.fz 0
  have g1 := r3.out.fz 1
  have g2 := r3.out.fz 2
  have g3 := r3.out.fz 3
  have R := Lib.hid (r3.out.put4 m)
  have RB := Lib.hid (below_put4 b3.out (g := w.heap.size + 1) (by omega) m)
  obtain ⟨l0, l1, l2, l3⟩ := r3.out.cells
  go_wp2_with (fail)
  go_loopw [12] (fun i wi => ∃ j : Nat, j ≤ ps.length ∧ i = .int .i64 j ∧ fall fs (ps.take j) = true ∧ wi = w3) (fun i _ => ps.length - (intOf i).toNat)
  case atStart => exact ⟨0, Nat.zero_le _, rfl, rfl, rfl⟩
  case round =>
    obtain ⟨j, hj, rfl, hfa, rfl⟩ := hrel
    have hFA := Lib.hid hfa
    clear hfa
    by_cases hjt : j < ps.length
    · obtain ⟨b2, o2, rfl, hbb, hc⟩ := hI3.out (by omega)
      have hcj := hc j hjt
      obtain ⟨hq0, hq1⟩ := hps _ (List.getElem_mem hjt)
      have hTk := Lib.hid (fall_take (fs := fs) hjt)
      obtain ⟨q, hq⟩ := Int.eq_ofNat_of_zero_le hq0
      rw [hq] at hcj hq1 hTk
      rw [Int.toNat_natCast] at hq1 hTk
      have q0 : (0 : Int) ≤ (q : Int) := by omega
      have q1 : (q : Int) < (fs.length : Int) := by omega
      obtain ⟨bf, of, hA, _, _, f1, f2⟩ := ns_get hF3.out (q := q) (by omega)
      subst hA
      clear hc hq hq0
      have hx : (fs.getD q zeroNd).op.toList = [99,111,110,115,116] ↔ isConst (fs.getD q zeroNd).op = true := by simp [isConst]
      generalize (fs.getD q zeroNd).op = s at *
      cases hcs : isConst s
      · have hM := hno.out (by rw [fall_pre (j := j + 1) (by rw [hTk.out, hcs, Bool.and_false])]; simp)
        have hse : (s.toList == [99,111,110,115,116]) = false := hcs
        clear hno hyes hx hcs hps hpl h2 hTk HP
        subst hM
        go_wp2
        exact node_ret rfl rfl R.out ⟨rfl, RB.out⟩
      · have hse : (s.toList == [99,111,110,115,116]) = true := hcs
        have hse' : s.toList = [99,111,110,115,116] := by simpa using hse
        have hfa' := Lib.hid (show fall fs (ps.take (j + 1)) = true by rw [hTk.out, hFA.out, hcs]; rfl)
        clear hno hyes hx hcs hps h2 hTk HP
        go_wp2
        go_roundw
        case rel => exact ⟨j + 1, by omega, by go_num, hfa'.out, by first | rfl | trivial⟩
        case measure => simp [intOf]; omega
    · obtain rfl : j = ps.length := by omega
      have hall : fall fs ps = true := by have := hFA.out; rwa [List.take_length] at this
      by_cases hp0 : ps.length = 0
      · have hM := hno.out (by rw [hp0]; rfl)
        have hp1 : (ps.length : Int) = 0 := by omega
        clear hno hyes hps hpl h2 HP hall
        subst hM
        go_wp2
        exact node_ret rfl rfl R.out ⟨rfl, RB.out⟩
      · have hM := hyes.out (by rw [hall, Bool.and_true]; exact decide_eq_true (by omega))
        obtain ⟨q, p, rfl, rfl, hq, hp, hop, hfv⟩ : ∃ q p : Nat, a = q ∧ b = p ∧ q < k ∧ p < k ∧ isOp op = true ∧ fval fs ⟨op, (q : Int), (p : Int), v⟩ = ap op (fs.getD q zeroNd).v (fs.getD p zeroNd).v := by
          rcases h2.out with ⟨h9, _⟩ | ⟨h9, k1, k2, k3, rfl⟩ | ⟨h9, k1, k1', k2, k3, k4, k5⟩
          · rw [h9] at hp0; exact absurd rfl hp0
          · obtain ⟨q, rfl⟩ := Int.eq_ofNat_of_zero_le k2
            rw [Int.toNat_natCast] at k3
            refine ⟨q, 0, rfl, rfl, k3, by omega, by simp [isOp, k1], ?_⟩
            unfold fval; rw [ap_one k1 _ (fs.getD 0 zeroNd).v, ap_one k1 _ (fB _ _)]; rfl
          · obtain ⟨q, rfl⟩ := Int.eq_ofNat_of_zero_le k2
            obtain ⟨p, rfl⟩ := Int.eq_ofNat_of_zero_le k4
            rw [Int.toNat_natCast] at k3 k5
            refine ⟨q, p, rfl, rfl, k3, k5, by simp [isOp, k1'], ?_⟩
            unfold fval fB; rw [if_pos (by rw [← HP.out, h9]; exact (by omega : 1 < 2))]; rfl
        rw [hfv] at hM
        have hop := Lib.hid hop
        obtain ⟨bf, of, hA, _, _, _, f2⟩ := ns_get hF3.out (q := q) (by omega)
        obtain ⟨bf', of', hA', _, _, _, f2'⟩ := ns_get hF3.out (q := p) (by omega)
        subst hA
        injection hA' with hA'
        injection hA' with hA1 hA2 _
        subst hA1; subst hA2
        obtain ⟨y0, y1⟩ := hgv.out q
        obtain ⟨y2, y3⟩ := hgv.out p
        have hpz : (ps.length : Int) ≠ 0 := by omega
        clear hno hyes hps hpl h2 HP hall hfv hgv hfb hFA hF3 hI3 hj hp0
        generalize (fs.getD q zeroNd).v = ya at *
        generalize (fs.getD p zeroNd).v = yb at *
        have q0 : (0 : Int) ≤ (q : Int) := by omega
        have q1 : (q : Int) < (fs.length : Int) := by omega
        have q2 : (0 : Int) ≤ (p : Int) := by omega
        have q3 : (p : Int) < (fs.length : Int) := by omega
        subst hM
        clear hq hp hl hk hB z2 z3 b3 x3 r3
        go_wp2_with (fail)
        go_region_law (go_simp; go_at_call 107; refine (valueOfOp_any op ya yb _ y0 y1 y2 y3 hop.out).mono ?_; rintro e w' ⟨rfl, rfl⟩)
        all_goals
          go_wp2
          exact node_ret rfl rfl R.out ⟨rfl, RB.out.drew⟩
end Go.Proofs.Ytekjgngkipbefaa
