/- Texts of this proof, one behind the other: VC, LawP, XI, XJ, UF, DT1. -/
import Derived.Test.YtmhdijklindipaaV
import Derived.Test.YtmhdijklindipaaZ9
import Derived.Test.YtmhdijklindipaaZ11
import Derived.Test.YtmhdijklindipaaLI
import Derived.WalkKit
import Derived.WalkSpells
import Derived.WalkLawsBesides
import Derived.Lib.Hide
import Derived.Test.YtmhdijklindipaaZ10
import Derived.Deep.RegionLaw
import Derived.Deep.RegionHeld3
import Derived.Deep.AppendLies
import Derived.Test.YtmhdijklindipaaZ12
import Derived.Test.YtmhdijklindipaaF
import Derived.Deep.DeepCutAuto
/- An own slice's length is within its capacity. -/
namespace Go.Proofs.Ytmhdijklindipaa
open Go.RowKit
theorem OK.cap {α : Type} {enc : α → List Value} {k : Nat} {t : TypeId} {w : World} {lo hi n c : Nat} {A : Option Addr} {xs : List α} (h : OK enc k t w lo hi (.slice A n c) xs) : n ≤ c := by
  rcases h.1.2 with ⟨hv, _⟩ | ⟨g, cap, cur, hv, _, _, h1, _⟩
  · injection hv with _ h2 h3; omega
  · injection hv with _ h2 h3; omega
end Go.Proofs.Ytmhdijklindipaa

namespace Go.Proofs.Ytmhdijklindipaa
open Go.RowKit
set_option linter.unusedVariables false

def ResExpandExpr (R0 : List (Nd)) (R1 : Bool) (w : World) (e : Ending) (w' : World) : Prop := ∃ (A0 : Option Addr) (c0 : Nat), e = .returned (.tuple #[.slice A0 R0.length c0, .bool R1]) ∧ OK Nd.enc 4 40 w' w.heap.size w'.heap.size (.slice A0 R0.length c0) R0 ∧ Below w.heap.size w w'
def ResShareExpr (R0 : List (Nd)) (R1 : Bool) (w : World) (e : Ending) (w' : World) : Prop := ∃ (A0 : Option Addr) (c0 : Nat), e = .returned (.tuple #[.slice A0 R0.length c0, .bool R1]) ∧ OK Nd.enc 4 40 w' w.heap.size w'.heap.size (.slice A0 R0.length c0) R0 ∧ Below w.heap.size w w'
def ResPutInput (R0 : List (Nd)) (R1 : Bool) (w : World) (e : Ending) (w' : World) : Prop := ∃ (A0 : Option Addr) (c0 : Nat), e = .returned (.tuple #[.slice A0 R0.length c0, .bool R1]) ∧ OK Nd.enc 4 40 w' w.heap.size w'.heap.size (.slice A0 R0.length c0) R0 ∧ Below w.heap.size w w'
end Go.Proofs.Ytmhdijklindipaa

/- ExpandExpr: the model. -/
namespace Go.Proofs.Ytmhdijklindipaa
open Go.RowKit
set_option linter.unusedVariables false
set_option maxRecDepth 100000

set_option maxHeartbeats 4000000 in
theorem sput_new (t : TypeId) (rest : List Value) (q L : Nat) (xs : List Nd) (v : Value) (y : Nd) (w : World) (hx : xs.length < 100000) (hL : L ≤ w.heap.size) (hs : GS t rest q L xs false v w) :
    Calls Try.prog 254 #[.pointer (some ⟨q, 0, none⟩), .agg #[.string y.op, .int .i64 y.a, .int .i64 y.b, .int .i64 y.v]] w fun e w' => e = .returned (.int .i64 xs.length) ∧ GP t rest q L v w (xs ++ [y], false) w' := by
  obtain ⟨i0, hi0, hi1, hi2, hi3⟩ := info_parts Try.infoNode
  have hJ0 := Lib.hid hi0
  have hJ1 := Lib.hid hi1
  have hJ2 := Lib.hid hi2
  have hJ3 := Lib.hid hi3
  clear hi0 hi1 hi2 hi3
  obtain ⟨AV, cv, rfl⟩ := hs.form
  have hq0 : q < w.heap.size := hs.lt
  have hal := fun o => (Below.refl w.heap.size w).alloc (Nat.le_refl _) o
  have g0 := fun o => ((hal o).cell (p := ⟨q, 0, none⟩) hq0).trans hs.c0
  have g1 := fun o => ((hal o).cell (p := ⟨q, 1, none⟩) hq0).trans hs.c1
  have x24 : (xs.length : Int) < 100000 := by omega
  have hf := hs.fz 0
  have HS := Lib.hid hs
  clear hs
  go_enter Try.func254, Try.ntmps254
  go_wp2_with (fail)
  obtain ⟨w1, hw1⟩ : ∃ w1, w1 = w.alloc (.cells #[.string y.op, .int .i64 y.a, .int .i64 y.b, .int .i64 y.v] 40) := ⟨_, rfl⟩
  have X1 : XN w1 w.heap.size y := by rw [hw1]; exact xn_new _ y
  have B1 : Hid (Below w.heap.size w w1) := by unfold Hid; rw [hw1]; exact hal _
  have k0 : w1.cell? ⟨q, 0, none⟩ = some (.slice AV xs.length cv) := by rw [hw1]; exact g0 _
  have S1 : Hid (GS t rest q L xs false (.slice AV xs.length cv) w1) := HS.out.next B1.out
  have Z1 : w1.heap.size = w.heap.size + 1 := by rw [hw1]; simp
  obtain ⟨m0, m1, m2, m3⟩ := X1.cells
  have O2 := fun o => Lib.hid (show ((w1.alloc o).drew).ownsRow L 40 4 (.slice AV xs.length cv) xs.length (xs.flatMap Nd.enc) from (S1.out.next (((Below.refl w1.heap.size w1).alloc (Nat.le_refl _) o).drew)).2.1)
  have HF1 : Hid (w1.frozen? ⟨q, 0, none⟩ = false) := S1.out.fz 0
  have hq1 : Hid (q < w1.heap.size) := S1.out.lt
  rw [← hw1]
  have HW1 := Lib.hid hw1
  have hL1 : L ≤ w1.heap.size := by omega
  clear hw1 hal g0 g1 X1
  go_region_law (first | (refine step_append_lies _ rfl _ _ 24 rfl L 40 i0 _ 4 40 Try.underlying24 hJ0.out hJ1.out hJ2.out hJ3.out rfl (by decide) _ _ _ (by rfl) (O2 _).out ⟨w.heap.size + 1, 0, none⟩ 1 1 (Nd.enc y) (by rfl) rfl (four_new y Z1) (four_one _) (by omega) (by unfold maxLen; omega) (by omega) (by simp; omega) (w1.heap.size + 1) (by simp) ?_; intro gg cap w2 hown1 hgr1 hat1 _; obtain ⟨j0, j1, j2, j3, j4⟩ := put_facts2 hq1.out HS.out.2.2 k0 HF1.out hgr1))
  all_goals
    have h1' := Lib.hid hown1
    have J3 := Lib.hid j3
    have J4 := Lib.hid j4
    have HA := Lib.hid hat1
    clear hown1 hgr1 j4 hat1 j3
    go_wp2
    go_ret
    have hgq : gg ≠ q := by
      intro e; subst e
      rcases HA.out with e | e
      · exact HS.out.2.2 e
      · have := hq1.out; omega
    refine ⟨rfl, .slice (some ⟨gg, 0, none⟩) (xs.length + 1) cap, ⟨?_, ?_, ?_⟩, ((Fr.ofBelow B1.out).trans J4.out (fun j hj => .inl hj)).set 0 _, ?_⟩
    · have h7 := J3.out.trans S1.out.1
      simp [World.setCell, Array.getElem?_modify, h7]
    · have h8 := h1'.out
      rw [nflat_snoc, List.length_append]
      refine ⟨h8.1, ?_⟩
      rcases h8.2 with hn | ⟨g, cp, cur, e, hg, hh, hrest⟩
      · exact .inl hn
      · refine .inr ⟨g, cp, cur, e, hg, ?_, hrest⟩
        have e' := e
        simp only [Value.slice.injEq, Option.some.injEq, Addr.mk.injEq] at e'
        exact (Below.heap_setCell w2 ⟨q, 0, none⟩ _ g (by rw [← e'.1.1]; exact hgq)).trans hh
    · intro e; exact hgq (by simpa [Value.ownBlock] using e)
    · intro j hj
      have hj' : gg = j := by simpa [Value.ownBlock] using hj
      subst hj'
      rcases HA.out with e | e
      · exact .inl e
      · exact .inr (by omega)
end Go.Proofs.Ytmhdijklindipaa

/- ExpandExpr: the model's walk. -/
namespace Go.Proofs.Ytmhdijklindipaa
open Go.RowKit
set_option linter.unusedVariables false
set_option maxRecDepth 100000

theorem GS.drew {t : TypeId} {rest : List Value} {q L : Nat} {xs : List Nd} {fl : Bool} {v : Value} {w : World} (h : GS t rest q L xs fl v w) : GS t rest q L xs fl v w.drew := h
/-- The state and a cell of one's own, behind a call that may change the state. -/
theorem gp_step {q g : Nat} {v v3 : Value} {W w3 : World} {n : Nd} (hx : XN W g n) (hgq : g ≠ q) (hvg : v.ownBlock ≠ some g) (f3 : Fr q v.ownBlock W w3) (o3 : ∀ j, v3.ownBlock = some j → v.ownBlock = some j ∨ W.heap.size ≤ j) : XN w3 g n ∧ v3.ownBlock ≠ some g := by
  refine ⟨xn_fr hx f3 hgq hvg, fun e => ?_⟩
  rcases o3 _ e with e' | e'
  · exact hvg e'
  · have := hx.lt; omega

set_option maxHeartbeats 2000000 in
theorem sWalk_any (L0 B q L C : Nat) (A : Option Addr) (c : Nat) (es : List Nd) (w0 : World) (hl : es.length ≤ 24) (hok : okFrom es 0 = true) (hes : NS w0 L0 B A es) (hBC : B ≤ C) (hC : C ≤ w0.heap.size) (hCq : C ≤ q) (hCL : C ≤ L) (hL : L ≤ w0.heap.size) :
    ∀ (F i : Nat) (xs : List Nd) (v : Value) (W : World), F ≤ 24 → i < F → i < es.length → xs.length ≤ 50 → Below C w0 W → GS 174 [] q L xs false v W →
    Calls Try.prog 208 #[.pointer (some ⟨q, 0, none⟩), .slice A es.length c, .int .i64 i] W fun e w' => e = .returned (.int .i64 (mw es F i xs).2) ∧ GP 174 [] q L v W ((mw es F i xs).1, false) w' := by
  intro F
  induction F with
  | zero => intro i s v W _ hi; omega
  | succ F ih =>
    intro i xs v W hF hi hie hx hb hs
    have hnd := ok_get hok hie
    obtain ⟨b, o, hA, ⟨_, hbB⟩, hcc⟩ := (hes.below hb hBC) (by omega)
    obtain ⟨c1, c2, c3, c4⟩ := hcc i hie
    subst hA
    have k0 : (0 : Int) ≤ (i : Int) := by omega
    have k1 : (i : Int) < (es.length : Int) := by omega
    have hbs := hb.size
    obtain ⟨AV, cv, rfl⟩ := hs.form
    have hG := Lib.hid hs
    have hq := hs.lt
    have c0 := fun u => ((Below.refl W.heap.size W).alloc (Nat.le_refl _) u).cell (p := ⟨q, 0, none⟩) hs.lt |>.trans hs.c0
    have hbW : b < W.heap.size := by omega
    have hbC : b < C := by omega
    have hE : mw es (F + 1) i xs = if 24 < xs.length then (xs, 0) else ((woM (mw es F) es[i] xs).1 ++ [(woM (mw es F) es[i] xs).2], ((woM (mw es F) es[i] xs).1.length : Int)) := by rw [mw, getD_nd hie]
    have hml := fun j (h : xs.length ≤ 24) => mw_len (es := es) F j xs h
    have hml2 := fun j (ys : List Nd) (h : ys.length ≤ 24) => mw_len (es := es) F j ys h
    rw [hE]
    clear hE hcc hs
    generalize es[i] = nd at *
    obtain ⟨op, a, bb, x⟩ := nd
    dsimp only at c1 c2 c3 c4 ⊢
    have c1' := fun u => (((Below.refl W.heap.size W).alloc (Nat.le_refl _) u).cell (p := ⟨b, o + i * 4, none⟩) hbW).trans c1
    have c2' := fun u => (((Below.refl W.heap.size W).alloc (Nat.le_refl _) u).cell (p := ⟨b, o + i * 4 + 1, none⟩) hbW).trans c2
    have c3' := fun u => (((Below.refl W.heap.size W).alloc (Nat.le_refl _) u).cell (p := ⟨b, o + i * 4 + 2, none⟩) hbW).trans c3
    have c4' := fun u => (((Below.refl W.heap.size W).alloc (Nat.le_refl _) u).cell (p := ⟨b, o + i * 4 + 3, none⟩) hbW).trans c4
    have hcell := Lib.hid fun (W' : World) (h : Below C w0 W') => (show W'.cell? ⟨b, o + i * 4, none⟩ = some (.string op) ∧ W'.cell? ⟨b, o + i * 4 + 1, none⟩ = some (.int .i64 a) ∧ W'.cell? ⟨b, o + i * 4 + 2, none⟩ = some (.int .i64 bb) ∧ W'.cell? ⟨b, o + i * 4 + 3, none⟩ = some (.int .i64 x) from
      ⟨(h.cell (p := ⟨b, _, none⟩) hbC).trans ((hb.cell (p := ⟨b, _, none⟩) hbC).symm.trans c1), (h.cell (p := ⟨b, _, none⟩) hbC).trans ((hb.cell (p := ⟨b, _, none⟩) hbC).symm.trans c2), (h.cell (p := ⟨b, _, none⟩) hbC).trans ((hb.cell (p := ⟨b, _, none⟩) hbC).symm.trans c3), (h.cell (p := ⟨b, _, none⟩) hbC).trans ((hb.cell (p := ⟨b, _, none⟩) hbC).symm.trans c4)⟩)
    obtain ⟨W1, hW1⟩ : ∃ W1, W1 = (W.alloc (.cells #[.string op, .int .i64 0, .int .i64 0, .int .i64 x] 40)).drew := ⟨_, rfl⟩
    have b1 : Hid (Below W.heap.size W W1) := by unfold Hid; rw [hW1]; exact ((Below.refl _ _).alloc (Nat.le_refl _) _).drew
    have x1 : Hid (XN W1 W.heap.size ⟨op, 0, 0, x⟩) := by unfold Hid; rw [hW1]; exact xn_new W ⟨op, 0, 0, x⟩
    have e1 := Lib.hid hW1
    have g1 := Lib.hid (hG.out.next b1.out)
    have B1 := Lib.hid (hb.trans (b1.out.mono (by omega)))
    clear hW1
    by_cases hbig : 24 < xs.length
    · rw [if_pos hbig]
      have x24 : (24 : Int) < (xs.length : Int) := by omega
      clear ih hes
      go_enter Try.func208, Try.ntmps208
      go_wp2_with (fail)
      go_region
      go_wp2
      go_ret
      rw [← e1.out]
      exact ⟨rfl, _, g1.out, Fr.ofBelow b1.out, fun j hj => .inl hj⟩
    rw [if_neg hbig]
    have x24 : (xs.length : Int) ≤ 24 := by omega
    have hgq : W.heap.size ≠ q := by omega
    have hvg : (Value.slice AV xs.length cv).ownBlock ≠ some W.heap.size := fun e => by have := (hG.out.own _ e).2; omega
    have HP := Lib.hid fun W' => exParts_any op a bb x W'
    have hPut := Lib.hid fun (ys : List Nd) (v' : Value) (y : Nd) (W' : World) (hy : ys.length < 100000) (hz : w0.heap.size ≤ W'.heap.size) (h' : GS 174 [] q L ys false v' W') => sput_new 174 [] q L ys v' y W' hy (by omega) h'
    rcases ar_cases_nd hnd with ⟨h1, h2, h3, h4, h5⟩ | ⟨h1, h2, h3, h4, h5, h6⟩ | ⟨h1, h2, h3, h4, h5, h6, h7⟩
    · dsimp only at h1 h2 h3 h4 h5
      subst h4; subst h5
      have hmv : woM (mw es F) ⟨op, 0, 0, x⟩ xs = (xs, ⟨op, 0, 0, x⟩) := by unfold woM; simp [h1]
      have hp : parts ⟨op, 0, 0, x⟩ = [] := by simp [parts, h2, h3]
      rw [hmv]; rw [hp] at HP
      dsimp only
      clear ih hes hmv hp h1 h2 h3 hnd hml hml2
      go_enter Try.func208, Try.ntmps208
      go_wp2_with (fail)
      go_region
      go_wp2_with (fail)
      rw [← e1.out]
      (with_reducible refine (HP.out _).mono ?_)
      rintro e w2 ⟨A2, cc2, rfl, _, hb2⟩
      have B2 := Lib.hid (B1.out.trans (hb2.mono (by have := B1.out.size; omega)))
      have x2 := Lib.hid (x1.out.next hb2)
      have g2 := Lib.hid (g1.out.next hb2)
      have bb2 := Lib.hid (b1.out.trans (hb2.mono b1.out.size))
      clear hb2 c1' c2' c3' c4' c0 c1 c2 c3 c4
      obtain ⟨m0, m1, m2, m3⟩ := hcell.out w2 B2.out
      go_wp2_with (fail)
      (with_reducible refine (HP.out _).mono ?_)
      rintro e w3 ⟨A3, cc3, rfl, _, hb3⟩
      have x3 := Lib.hid (x2.out.next hb3)
      have g3 := Lib.hid (g2.out.next hb3)
      have bb3 := Lib.hid (bb2.out.trans (hb3.mono bb2.out.size))
      have z3 : w0.heap.size ≤ w3.heap.size := by have := bb3.out.size; omega
      clear hb3 m0 m1 m2 m3
      obtain ⟨m0, m1, m2, m3⟩ := x3.out.cells
      go_wp2_with (fail)
      refine (hPut.out xs _ ⟨op, 0, 0, x⟩ w3 (by omega) z3 g3.out).mono ?_
      rintro e w4 ⟨rfl, h4⟩
      have H4 := Lib.hid (GP.trans (Fr.ofBelow bb3.out) (fun j hj => .inl hj) h4)
      clear h4
      go_wp2
      go_ret
      exact ⟨rfl, H4.out⟩
    · dsimp only at h1 h2 h3 h4 h5 h6
      obtain ⟨pa, rfl⟩ := Int.eq_ofNat_of_zero_le h4
      subst h6
      have hmv : woM (mw es F) ⟨op, (pa : Int), 0, x⟩ xs = ((mw es F pa xs).1, ⟨op, (mw es F pa xs).2, 0, x⟩) := by unfold woM; simp [h1]
      have hp : parts ⟨op, (pa : Int), 0, x⟩ = [(pa : Int)] := by simp [parts, h2]
      rw [hmv]; rw [hp] at HP
      dsimp only
      have HA := Lib.hid fun (W' : World) (h' : Below C w0 W') (g' : GS 174 [] q L xs false (.slice AV xs.length cv) W') => ih pa xs _ W' (by omega) (by omega) (by omega) (by omega) h' g'
      have hla := (hml pa (by omega)).1
      clear ih hes hmv hp h1 h2 h3 hnd hml hml2
      generalize mw es F pa xs = ra at *
      obtain ⟨ya, va⟩ := ra
      dsimp only at HA hla ⊢
      go_enter Try.func208, Try.ntmps208
      go_wp2_with (fail)
      go_region
      go_wp2_with (fail)
      rw [← e1.out]
      (with_reducible refine (HP.out _).mono ?_)
      rintro e w2 ⟨A2, cc2, rfl, _, hb2⟩
      have B2 := Lib.hid (B1.out.trans (hb2.mono (by have := B1.out.size; omega)))
      have x2 := Lib.hid (x1.out.next hb2)
      have g2 := Lib.hid (g1.out.next hb2)
      have bb2 := Lib.hid (b1.out.trans (hb2.mono b1.out.size))
      clear hb2 c1' c2' c3' c4' c0 c1 c2 c3 c4
      obtain ⟨m0, m1, m2, m3⟩ := hcell.out w2 B2.out
      go_wp2_with (fail)
      refine (HA.out w2 B2.out g2.out).mono ?_
      rintro e w3 ⟨rfl, v3, g3, f3, o3⟩
      obtain ⟨x3, hv3⟩ := gp_step x2.out hgq hvg f3 o3
      have f1' := x3.fz 1
      have x4 := Lib.hid (x3.setA va)
      have g4 := Lib.hid (g3.other (p := ⟨W.heap.size, 1, none⟩) hgq hv3 (.int .i64 va))
      have F3 := Lib.hid ((Fr.ofBelow (q := q) (r := (Value.slice AV xs.length cv).ownBlock) bb2.out).trans f3 (fun j hj => .inl hj))
      have F4 := Lib.hid (F3.out.far (p := ⟨W.heap.size, 1, none⟩) (Nat.le_refl _) (.int .i64 va))
      have O3 : Hid (∀ j, v3.ownBlock = some j → (Value.slice AV xs.length cv).ownBlock = some j ∨ W.heap.size ≤ j) := fun j hj => by
        rcases o3 j hj with e | e
        · exact .inl e
        · exact .inr (Nat.le_trans bb2.out.size e)
      have B4 : Hid (Below C w0 (w3.setCell ⟨W.heap.size, 1, none⟩ (.int .i64 va))) := by
        unfold Hid
        exact hb.trans (F4.out.below (B := C) (by omega) hCq (fun j hj => Nat.le_trans hCL (hG.out.own j hj).1))
      obtain ⟨W4, hW4⟩ : ∃ W4, W4 = w3.setCell ⟨W.heap.size, 1, none⟩ (.int .i64 va) := ⟨_, rfl⟩
      have p1 := x3.cells.2.1
      have q1 := hcell.out _ B4.out
      rw [← hW4] at x4 g4 F4 B4
      have e4 := Lib.hid hW4
      clear m0 m1 m2 m3 x3 g3 f3 o3 hW4
      obtain ⟨m0, m1, m2, m3⟩ := q1
      go_wp2_with (fail)
      rw [← e4.out]
      (with_reducible refine (HP.out _).mono ?_)
      rintro e w5 ⟨A5, cc5, rfl, _, hb5⟩
      have x5 := Lib.hid (x4.out.next hb5)
      have g5 := Lib.hid (g4.out.next hb5)
      have F5 := Lib.hid (F4.out.trans (r' := none) (Fr.ofBelow hb5) (fun j hj => by cases hj))
      have z5 : w0.heap.size ≤ w5.heap.size := by have := F5.out.size; omega
      clear hb5 m0 m1 m2 m3 p1 f1'
      obtain ⟨m0, m1, m2, m3⟩ := x5.out.cells
      go_wp2_with (fail)
      refine (hPut.out ya _ ⟨op, va, 0, x⟩ w5 (by omega) z5 g5.out).mono ?_
      rintro e w6 ⟨rfl, h6⟩
      have H6 := Lib.hid (GP.trans F5.out O3.out h6)
      clear h6
      go_wp2
      go_ret
      exact ⟨rfl, H6.out⟩
    · dsimp only at h1 h2 h3 h4 h5 h6 h7
      obtain ⟨pa, rfl⟩ := Int.eq_ofNat_of_zero_le h4
      obtain ⟨pb, rfl⟩ := Int.eq_ofNat_of_zero_le h6
      have hmv : woM (mw es F) ⟨op, (pa : Int), (pb : Int), x⟩ xs = ((mw es F pb (mw es F pa xs).1).1, ⟨op, (mw es F pa xs).2, (mw es F pb (mw es F pa xs).1).2, x⟩) := by unfold woM; simp [h1]
      have hp : parts ⟨op, (pa : Int), (pb : Int), x⟩ = [(pa : Int), (pb : Int)] := by simp [parts, h2, h3]
      rw [hmv]; rw [hp] at HP
      dsimp only
      have HA := Lib.hid fun (W' : World) (h' : Below C w0 W') (g' : GS 174 [] q L xs false (.slice AV xs.length cv) W') => ih pa xs _ W' (by omega) (by omega) (by omega) (by omega) h' g'
      have hla := (hml pa (by omega)).1
      have HB := Lib.hid fun (ys : List Nd) (v' : Value) (W' : World) (hy : ys.length ≤ 50) (h' : Below C w0 W') (g' : GS 174 [] q L ys false v' W') => ih pb ys v' W' (by omega) (by omega) (by omega) hy h' g'
      have hlb : (mw es F pb (mw es F pa xs).1).1.length ≤ 50 := by
        by_cases h9 : (mw es F pa xs).1.length ≤ 24
        · have := (hml2 pb _ h9).1; omega
        · rw [mw_big es F pb _ (by omega)]; dsimp only; omega
      clear ih hes hmv hp h1 h2 h3 hnd hml hml2
      generalize mw es F pa xs = ra at *
      obtain ⟨ya, va⟩ := ra
      dsimp only at HA hla hlb ⊢
      have HB1 := Lib.hid fun (v' : Value) (W' : World) => HB.out ya v' W' (by omega)
      clear HB
      generalize mw es F pb ya = rb at *
      obtain ⟨yb, vb⟩ := rb
      dsimp only at HB1 hlb ⊢
      go_enter Try.func208, Try.ntmps208
      go_wp2_with (fail)
      go_region
      go_wp2_with (fail)
      rw [← e1.out]
      (with_reducible refine (HP.out _).mono ?_)
      rintro e w2 ⟨A2, cc2, rfl, _, hb2⟩
      have B2 := Lib.hid (B1.out.trans (hb2.mono (by have := B1.out.size; omega)))
      have x2 := Lib.hid (x1.out.next hb2)
      have g2 := Lib.hid (g1.out.next hb2)
      have bb2 := Lib.hid (b1.out.trans (hb2.mono b1.out.size))
      clear hb2 c1' c2' c3' c4' c0 c1 c2 c3 c4
      obtain ⟨m0, m1, m2, m3⟩ := hcell.out w2 B2.out
      go_wp2_with (fail)
      refine (HA.out w2 B2.out g2.out).mono ?_
      rintro e w3 ⟨rfl, v3, g3, f3, o3⟩
      obtain ⟨x3, hv3⟩ := gp_step x2.out hgq hvg f3 o3
      have f1' := x3.fz 1
      have x4 := Lib.hid (x3.setA va)
      have g4 := Lib.hid (g3.other (p := ⟨W.heap.size, 1, none⟩) hgq hv3 (.int .i64 va))
      have F3 := Lib.hid ((Fr.ofBelow (q := q) (r := (Value.slice AV xs.length cv).ownBlock) bb2.out).trans f3 (fun j hj => .inl hj))
      have F4 := Lib.hid (F3.out.far (p := ⟨W.heap.size, 1, none⟩) (Nat.le_refl _) (.int .i64 va))
      have O3 : Hid (∀ j, v3.ownBlock = some j → (Value.slice AV xs.length cv).ownBlock = some j ∨ W.heap.size ≤ j) := fun j hj => by
        rcases o3 j hj with e | e
        · exact .inl e
        · exact .inr (Nat.le_trans bb2.out.size e)
      have B4 : Hid (Below C w0 (w3.setCell ⟨W.heap.size, 1, none⟩ (.int .i64 va))) := by
        unfold Hid
        exact hb.trans (F4.out.below (B := C) (by omega) hCq (fun j hj => Nat.le_trans hCL (hG.out.own j hj).1))
      obtain ⟨W4, hW4⟩ : ∃ W4, W4 = w3.setCell ⟨W.heap.size, 1, none⟩ (.int .i64 va) := ⟨_, rfl⟩
      have p1 := x3.cells.2.1
      have q1 := hcell.out _ B4.out
      rw [← hW4] at x4 g4 F4 B4
      have e4 := Lib.hid hW4
      clear m0 m1 m2 m3 x3 g3 f3 o3 hW4
      obtain ⟨m0, m1, m2, m3⟩ := q1
      go_wp2_with (fail)
      rw [← e4.out]
      (with_reducible refine (HP.out _).mono ?_)
      rintro e w5 ⟨A5, cc5, rfl, _, hb5⟩
      have x5 := Lib.hid (x4.out.next hb5)
      have g5 := Lib.hid (g4.out.next hb5)
      have F5 := Lib.hid (F4.out.trans (r' := none) (Fr.ofBelow hb5) (fun j hj => by cases hj))
      have B5 := Lib.hid (B4.out.trans (hb5.mono (by have := B4.out.size; omega)))
      clear hb5 m0 m1 m2 m3 p1 f1'
      obtain ⟨m0, m1, m2, m3⟩ := hcell.out w5 B5.out
      go_wp2_with (fail)
      refine (HB1.out v3 w5 B5.out g5.out).mono ?_
      rintro e w6 ⟨rfl, v6, g6, f6, o6⟩
      obtain ⟨x6, hv6⟩ := gp_step x5.out hgq hv3 f6 o6
      have f2' := x6.fz 2
      have x7 := Lib.hid (x6.setB vb)
      have g7 := Lib.hid (g6.other (p := ⟨W.heap.size, 2, none⟩) hgq hv6 (.int .i64 vb))
      have F7 := Lib.hid ((F5.out.trans f6 O3.out).far (p := ⟨W.heap.size, 2, none⟩) (Nat.le_refl _) (.int .i64 vb))
      have O6 : Hid (∀ j, v6.ownBlock = some j → (Value.slice AV xs.length cv).ownBlock = some j ∨ W.heap.size ≤ j) := fun j hj => by
        rcases o6 j hj with e | e
        · exact O3.out j e
        · exact .inr (Nat.le_trans F5.out.size e)
      have z7 : w0.heap.size ≤ (w6.setCell ⟨W.heap.size, 2, none⟩ (.int .i64 vb)).heap.size := by have := F7.out.size; omega
      have p2 := x6.cells.2.2.1
      obtain ⟨n0, n1, n2, n3⟩ := x7.out.cells
      obtain ⟨W7, hW7⟩ : ∃ W7, W7 = w6.setCell ⟨W.heap.size, 2, none⟩ (.int .i64 vb) := ⟨_, rfl⟩
      rw [← hW7] at x7 g7 F7 z7
      have e7 := Lib.hid hW7
      clear m0 m1 m2 m3 x6 g6 f6 o6 hW7
      go_wp2_with (fail)
      rw [← e7.out]
      refine (hPut.out yb _ ⟨op, va, vb, x⟩ W7 (by omega) z7 g7.out).mono ?_
      rintro e w8 ⟨rfl, h8⟩
      have H8 := Lib.hid (GP.trans F7.out O6.out h8)
      clear h8
      go_wp2
      go_ret
      exact ⟨rfl, H8.out⟩

set_option maxHeartbeats 4000000 in
theorem sExpandExpr_any (L B : Nat) (A : Option Addr) (c : Nat) (es : List Nd) (w : World) (hl : es.length ≤ 1048576) (hes : NS w L B A es) (hB : B ≤ w.heap.size) :
    Calls Try.prog 90 #[.slice A es.length c] w (ResExpandExpr (expandR es) (expandOk es) w) := by
  have H := Lib.hid (exGood_any L B A c es w hl hes hB)
  cases hg : good es
  · have hK : Hid (expandOk es = false) := by simp [Hid, expandOk, hg]
    have hR : Hid (expandR es = []) := by simp [Hid, expandR, hK.out]
    rw [hg] at H
    clear hg hes
    go_enter Try.func90, Try.ntmps90
    go_wp2_with (fail)
    refine H.out.mono ?_
    rintro e w2 ⟨rfl, hb⟩
    have hbb := Lib.hid hb
    clear hb
    go_wp2_with (fail)
    go_ret2
    rw [hR.out, hK.out]
    exact ⟨none, 0, rfl, OK.nil _ _ _ _, hbb.out⟩
  · obtain ⟨hl1, hl24, hok⟩ := good_len hg
    have hX := Lib.hid (expand_mw hg)
    have hE := Lib.hid hes
    have hOk := Lib.hid hok
    have hml := Lib.hid (mw_len (es := es) es.length (es.length - 1) [] (by simp)).1
    rw [hg] at H
    clear hg hes hok
    obtain ⟨m, hm⟩ : ∃ m, es.length = m + 1 := ⟨es.length - 1, by omega⟩
    have hM := Lib.hid hm
    have hm0 : (0 : Int) ≤ (es.length : Int) - 1 := by omega
    have hmi : (es.length : Int) - 1 = (m : Int) := by omega
    have hMI := Lib.hid hmi
    clear hm hmi
    go_enter Try.func90, Try.ntmps90
    go_wp2_with (fail)
    refine H.out.mono ?_
    rintro e w2 ⟨rfl, hb⟩
    have hb2 := Lib.hid hb
    obtain ⟨W3, hW3⟩ : ∃ W3, W3 = w2.alloc (.cells #[.slice none 0 0, .bool false] 174) := ⟨_, rfl⟩
    have b3 : Below w2.heap.size w2 W3 := by rw [hW3]; exact (Below.refl _ _).alloc (Nat.le_refl _) _
    have G3 : Hid (GS 174 [] w2.heap.size (w2.heap.size + 1) [] false (.slice none 0 0) W3) := by
      unfold Hid; rw [hW3]; exact GS.nil _ _ _ _ _
    have z3 : W3.heap.size = w2.heap.size + 1 := by rw [hW3]; simp
    have zb := hb.size
    have B3 := Lib.hid (hb.trans (b3.mono zb))
    have hW := Lib.hid (sWalk_any L B w2.heap.size (w2.heap.size + 1) w.heap.size A c es W3 hl24 hOk.out (hE.out.below B3.out hB) hB (by omega) zb (by omega) (by omega) es.length (es.length - 1) [] (.slice none 0 0) W3 hl24 (by omega) (by omega) (by simp) (Below.refl _ _) G3.out)
    have hmm : es.length - 1 = m := by have := hM.out; omega
    rw [hmm] at hW hX hml
    have E3 := Lib.hid hW3
    clear hb hW3 b3
    generalize mw es es.length m [] = r at *
    obtain ⟨ys, r⟩ := r
    dsimp only at hW hX hml
    go_wp2_with (fail)
    rw [hMI.out]
    rw [← E3.out]
    refine hW.out.mono ?_
    rintro e w4 ⟨rfl, v4, g4, f4, o4⟩
    have bb4 := Lib.hid (B3.out.trans (f4.below (B := w.heap.size) (by omega) zb (fun j hj => by simp [Value.ownBlock] at hj)))
    have z4 := f4.size
    have G4 := Lib.hid g4
    have hy48 : (ys.length : Int) ≤ 48 := by have := hml.out; omega
    obtain ⟨A5, c5, rfl⟩ := G4.out.form
    have q0 := G4.out.c0
    clear g4 f4 o4
    rcases hX.out with ⟨hk, hx, hy⟩ | ⟨hk, hr, hy⟩
    · have hK := Lib.hid hk
      have hX2 := Lib.hid hx
      have hy' : (ys.length : Int) ≤ 24 := by rw [hx]; omega
      clear hk hx hy hX
      go_wp2
      go_ret2
      rw [hK.out, ← hX2.out]
      exact ⟨A5, c5, rfl, G4.out.ok.lower (by omega), bb4.out⟩
    · have hK := Lib.hid hk
      have hR := Lib.hid hr
      have hy' : (24 : Int) < (ys.length : Int) := by omega
      clear hk hr hy hX
      go_wp2
      go_ret2
      rw [hK.out, hR.out]
      exact ⟨none, 0, rfl, OK.nil _ _ _ _, bb4.out⟩
theorem sExpandExpr_k (L B : Nat) (A : Option Addr) (c : Nat) (es : List Nd) (w : World) (hl : es.length ≤ 1048576) (hes : RS Nd.enc 4 w L B A es) (hB : B ≤ w.heap.size) :
    Calls Try.prog 90 #[.slice A es.length c] w (ResExpandExpr (expandR es) (expandOk es) w) := sExpandExpr_any L B A c es w hl hes.ns hB
end Go.Proofs.Ytmhdijklindipaa

/- ShareExpr: the model's builder that shares. -/
namespace Go.Proofs.Ytmhdijklindipaa
open Go.RowKit
set_option linter.unusedVariables false
set_option maxRecDepth 100000

set_option maxHeartbeats 4000000 in
theorem sput_share (t : TypeId) (rest : List Value) (q L : Nat) (xs : List Nd) (v : Value) (y : Nd) (w : World) (hx : xs.length < 100000) (hL : L ≤ w.heap.size) (hs : GS t rest q L xs true v w) :
    Calls Try.prog 254 #[.pointer (some ⟨q, 0, none⟩), .agg #[.string y.op, .int .i64 y.a, .int .i64 y.b, .int .i64 y.v]] w fun e w' => e = .returned (.int .i64 (po1 xs y).2) ∧ GP t rest q L v w ((po1 xs y).1, true) w' := by
  obtain ⟨i0, hi0, hi1, hi2, hi3⟩ := info_parts Try.infoNode
  have hJ0 := Lib.hid hi0
  have hJ1 := Lib.hid hi1
  have hJ2 := Lib.hid hi2
  have hJ3 := Lib.hid hi3
  clear hi0 hi1 hi2 hi3
  obtain ⟨AV, cv, rfl⟩ := hs.form
  have hgd := nd_guard
  have hq0 : q < w.heap.size := hs.lt
  obtain ⟨op, ya, yb, yv⟩ := y
  dsimp only
  obtain ⟨w1, hw1⟩ : ∃ w1, w1 = w.alloc (.cells #[.string op, .int .i64 ya, .int .i64 yb, .int .i64 yv] 40) := ⟨_, rfl⟩
  have b1 : Hid (Below w.heap.size w w1) := by unfold Hid; rw [hw1]; exact (Below.refl _ _).alloc (Nat.le_refl _) _
  have x1 : Hid (XN w1 w.heap.size ⟨op, ya, yb, yv⟩) := by unfold Hid; rw [hw1]; exact xn_new _ ⟨op, ya, yb, yv⟩
  have s1 := Lib.hid (hs.next b1.out)
  have e1 := Lib.hid hw1
  have z1 : w1.heap.size = w.heap.size + 1 := by rw [hw1]; simp
  have k0 := s1.out.c0
  have k1 := s1.out.c1
  rw [hw1] at k0 k1
  clear hw1 hs
  have hfi : Hid (nidx xs ⟨op, ya, yb, yv⟩ = firstI (fun k => sameN (xs.getD k zeroNd) ⟨op, ya, yb, yv⟩) xs.length) := rfl
  have hYes : Hid (0 ≤ nidx xs ⟨op, ya, yb, yv⟩ → po1 xs ⟨op, ya, yb, yv⟩ = (xs, nidx xs ⟨op, ya, yb, yv⟩)) := po1_yes
  have hNo : Hid (¬ 0 ≤ nidx xs ⟨op, ya, yb, yv⟩ → po1 xs ⟨op, ya, yb, yv⟩ = (xs ++ [⟨op, ya, yb, yv⟩], (xs.length : Int))) := po1_no
  generalize hp : po1 xs ⟨op, ya, yb, yv⟩ = pr at *
  clear hp
  obtain ⟨pl, pi⟩ := pr
  dsimp only
  go_enter Try.func254, Try.ntmps254
  go_wp2
  rw [← e1.out]
  clear e1 k0 k1
  go_loopw [16] (fun i wr => ∃ k : Nat, k ≤ xs.length ∧ i = .int .i64 k ∧ (∀ j, j < k → sameN (xs.getD j zeroNd) ⟨op, ya, yb, yv⟩ = false) ∧ Below w1.heap.size w1 wr) (fun i _ => xs.length - (intOf i).toNat)
  case atStart => exact ⟨0, Nat.zero_le _, rfl, fun j hj => by omega, Below.refl _ _⟩
  case round =>
    obtain ⟨k, hk, rfl, hall, hbel⟩ := hrel
    have hAll := Lib.hid hall
    have hBe := Lib.hid hbel
    have hXN := Lib.hid (XN.next x1.out hbel)
    have hSr := Lib.hid (s1.out.next hbel)
    have hzr := hbel.size
    clear hall hbel
    by_cases hlt : k < xs.length
    · have hns := hSr.out.ok.form Nd.hk
      obtain ⟨A', c', hv, hrs⟩ := hns
      injection hv with hv1 hv2 hv3
      subst hv1
      obtain ⟨b9, o9, rfl, ⟨hb9l, hb9u⟩, hc⟩ := hrs.ns (by omega)
      obtain ⟨c1, c2, c3, c4⟩ := hc k hlt
      have i0 : (0 : Int) ≤ (k : Int) := by omega
      have i1 : (k : Int) < (xs.length : Int) := by omega
      have hg1 := getD_nd hlt
      have hYs := Lib.hid (show sameN xs[k] ⟨op, ya, yb, yv⟩ = true → nidx xs ⟨op, ya, yb, yv⟩ = (k : Int) from fun h => by
        rw [hfi.out]; exact firstI_some hlt (by show sameN (xs.getD k zeroNd) _ = true; rw [hg1]; exact h) hAll.out)
      have hNx := Lib.hid (show sameN xs[k] ⟨op, ya, yb, yv⟩ = false → ∀ j, j < k + 1 → sameN (xs.getD j zeroNd) ⟨op, ya, yb, yv⟩ = false from fun h j hj => by
        by_cases e : j = k
        · subst e; rw [hg1]; exact h
        · exact hAll.out j (by omega))
      have hXx := xn_new wr xs[k]
      have hXb := (Below.refl wr.heap.size wr).alloc (Nat.le_refl _) (.cells #[.string xs[k].op, .int .i64 xs[k].a, .int .i64 xs[k].b, .int .i64 xs[k].v] 40)
      have xB := Lib.hid (hBe.out.trans (hXb.mono hBe.out.size))
      have xS := Lib.hid (hSr.out.next hXb)
      obtain ⟨m0, m1, m2, m3⟩ := hXx.cells
      obtain ⟨n0, n1, n2, n3⟩ := (XN.next hXN.out hXb).cells
      clear hc hg1 hXx hXb hrs
      generalize xs[k] = z at *
      obtain ⟨op', a', b', x'⟩ := z
      dsimp only at *
      have hEq := fun W => equalIn_nd op' op a' b' x' ya yb yv W
      cases hs : sameN ⟨op', a', b', x'⟩ ⟨op, ya, yb, yv⟩
      · have hn := Lib.hid (hNx.out hs)
        rw [hs] at hEq
        clear hs hNx hYs
        go_wp2
        go_roundw
        case rel => exact ⟨k + 1, by omega, by go_num, hn.out, xB.out⟩
        case measure => simp [intOf]; omega
      · have hy := hYs.out hs
        have hE := Lib.hid (hYes.out (by rw [hy]; omega))
        have hY := Lib.hid hy
        rw [hs] at hEq
        clear hs hNx hYs hy
        go_wp2
        go_ret
        have h1 := congrArg Prod.fst hE.out
        have h2 := congrArg Prod.snd hE.out
        dsimp only at h1 h2
        subst h1
        rw [hY.out] at h2
        subst h2
        exact ⟨rfl, _, xS.out, Fr.ofBelow (b1.out.trans (xB.out.mono b1.out.size)), fun j hj => .inl hj⟩
    · obtain rfl : k = xs.length := by omega
      have hE := Lib.hid (hNo.out (by rw [hfi.out, firstI_none hAll.out]; decide))
      have k0 : wr.cell? ⟨q, 0, none⟩ = some (.slice AV xs.length cv) := hSr.out.c0
      obtain ⟨m0, m1, m2, m3⟩ := hXN.out.cells
      have O2 := fun o => Lib.hid (show ((wr.alloc o).drew).ownsRow L 40 4 (.slice AV xs.length cv) xs.length (xs.flatMap Nd.enc) from (hSr.out.next (((Below.refl wr.heap.size wr).alloc (Nat.le_refl _) o).drew)).2.1)
      have hf : wr.frozen? ⟨q, 0, none⟩ = false := hSr.out.fz 0
      have HF1 := Lib.hid hf
      have hq1' : Hid (q < wr.heap.size) := hSr.out.lt
      have hL1 : L ≤ wr.heap.size := by omega
      have k0' := fun o => (((Below.refl wr.heap.size wr).alloc (Nat.le_refl _) o).cell (p := ⟨q, 0, none⟩) hq1'.out).trans k0
      go_wp2_with (fail)
      go_region_law (first | (refine step_append_lies _ rfl _ _ 24 rfl L 40 i0 _ 4 40 Try.underlying24 hJ0.out hJ1.out hJ2.out hJ3.out rfl (by decide) _ _ _ (by rfl) (O2 _).out ⟨wr.heap.size, 0, none⟩ 1 1 (Nd.enc ⟨op, ya, yb, yv⟩) (by rfl) rfl (four_new ⟨op, ya, yb, yv⟩ rfl) (four_one _) (by omega) (by unfold maxLen; omega) (by omega) (by simp; omega) (wr.heap.size + 1) (by simp) ?_; intro gg cap w2 hown1 hgr1 hat1 _; obtain ⟨j0, j1, j2, j3, j4⟩ := put_facts2 hq1'.out hSr.out.2.2 k0 HF1.out hgr1))
      all_goals
        have h1' := Lib.hid hown1
        have J3 := Lib.hid j3
        have J4 := Lib.hid j4
        have HA := Lib.hid hat1
        clear hown1 hgr1 j4 hat1 j3
        go_wp2
        go_ret
        have h1 := congrArg Prod.fst hE.out
        have h2 := congrArg Prod.snd hE.out
        dsimp only at h1 h2
        subst h1; subst h2
        have hgq : gg ≠ q := by
          intro e; subst e
          rcases HA.out with e | e
          · exact hSr.out.2.2 e
          · have := hq1'.out; omega
        refine ⟨rfl, .slice (some ⟨gg, 0, none⟩) (xs.length + 1) cap, ⟨?_, ?_, ?_⟩, ((Fr.ofBelow (b1.out.trans (hBe.out.mono b1.out.size))).trans J4.out (fun j hj => .inl hj)).set 0 _, ?_⟩
        · have h7 := J3.out.trans hSr.out.1
          simp [World.setCell, Array.getElem?_modify, h7]
        · have h8 := h1'.out
          rw [nflat_snoc, List.length_append]
          refine ⟨h8.1, ?_⟩
          rcases h8.2 with hn | ⟨g, cp, cur, e, hg, hh, hrest⟩
          · exact .inl hn
          · refine .inr ⟨g, cp, cur, e, hg, ?_, hrest⟩
            have e' := e
            simp only [Value.slice.injEq, Option.some.injEq, Addr.mk.injEq] at e'
            exact (Below.heap_setCell w2 ⟨q, 0, none⟩ _ g (by rw [← e'.1.1]; exact hgq)).trans hh
        · intro e; exact hgq (by simpa [Value.ownBlock] using e)
        · intro j hj
          have hj' : gg = j := by simpa [Value.ownBlock] using hj
          subst hj'
          rcases HA.out with e | e
          · exact .inl e
          · exact .inr (by omega)
end Go.Proofs.Ytmhdijklindipaa

/- Drawn nodes, drawn trees: what a builder and the cursor are behind a draw. -/
namespace Go.Proofs.Ytmhdijklindipaa
open Go.RowKit
set_option linter.unusedVariables false
set_option maxRecDepth 100000

theorem XN.chgD {w w' : World} {b lo hi : Nat} {n : Nd} (h : XN w b n) (hc : Chg lo hi w w') (hd : b < lo ∨ hi ≤ b) : XN w' b n := (hc.block b h.lt hd).trans h
/-- What a draw of a node hands back. -/
def DrN (w : World) (g K : Nat) (e : Ending) (w' : World) : Prop := ∃ n : Nd, e = .returned (.agg #[.string n.op, .int .i64 n.a, .int .i64 n.b, .int .i64 n.v]) ∧ Cur w' g K ∧ Chg g (g + 1) w w'
set_option maxHeartbeats 4000000 in
theorem leaf_any (g K : Nat) (w : World) (hK : K ≤ 700000000) (hc : Cur w g K) :
    Calls Try.prog 270 #[.pointer (some ⟨g, 0, none⟩)] w (DrN w g (K + 6)) := by
  have HO := Lib.hid fun (K : Nat) (n : Int) (W : World) (hK : K ≤ 900000000) (hn : n ≤ 10000) (hc : Cur W g K) => one_any g K n W hK hn hc
  have HP := Lib.hid fun (K : Nat) (n : Int) (W : World) (hK : K ≤ 900000000) (hn : n ≤ 10000) (hc : Cur W g K) => pick_any g K n W hK hn hc
  have HW := Lib.hid fun (K : Nat) (W : World) (hK : K ≤ 800000000) (hc : Cur W g K) => word_any g K W hK hc
  have a0 := (Below.refl w.heap.size w).alloc (Nat.le_refl _) (.cells #[.string ⟨#[]⟩, .int .i64 0, .int .i64 0, .int .i64 0] 40)
  have hgw := hc.lt
  obtain ⟨gR, hgR⟩ : ∃ x, x = w.heap.size := ⟨_, rfl⟩
  have hY0 : Hid (XN (w.alloc (.cells #[.string ⟨#[]⟩, .int .i64 0, .int .i64 0, .int .i64 0] 40)) gR ⟨ByteArray.empty, 0, 0, 0⟩) := by unfold Hid; rw [hgR]; exact heap_alloc_new w _
  have hc0 := Lib.hid (hc.below a0)
  have hh0 : Hid (Chg g (g + 1) w (w.alloc (.cells #[.string ⟨#[]⟩, .int .i64 0, .int .i64 0, .int .i64 0] 40))) := (Chg.refl _ _ _).alloc _
  have hgg : Hid (g < gR) := by unfold Hid; omega
  have hRw : Hid (w.heap.size ≤ gR) := by unfold Hid; omega
  have eW : w.heap.size = gR := hgR.symm
  clear hgR a0 hc hgw
  go_enter Try.func270, Try.ntmps270
  go_upto_region 1 with fail
  generalize w.alloc (.cells #[.string ⟨#[]⟩, .int .i64 0, .int .i64 0, .int .i64 0] 40) = W0 at *
  try rw [eW]
  clear eW
  go_wp2_with (fail)
  refine (HO.out K 3 W0 (by omega) (by omega) hc0.out).mono ?_
  rintro e w2 ⟨b, rfl, hc2, hch2⟩
  have hY2 := Lib.hid (hY0.out.chgD hch2 (.inr (by have := hgg.out; omega)))
  have hC2 := Lib.hid hc2
  have hH2 := Lib.hid (hh0.out.trans hch2)
  clear hc2 hch2 hY0 hc0 hh0
  cases b
  · go_wp2_with (fail)
    refine (HP.out (K + 2) 2 w2 (by omega) (by omega) hC2.out).mono ?_
    rintro e w3 ⟨x, rfl, _, hc3, hch3⟩
    have hY3 := hY2.out.chgD hch3 (.inr (by have := hgg.out; omega))
    have hC3 := Lib.hid (hc3.more (show K + 2 + 2 ≤ K + 6 by omega))
    have hH3 := Lib.hid (hH2.out.trans hch3)
    clear hc3 hch3 hY2 hC2 hH2
    obtain ⟨y0, y1, y2, y3⟩ := hY3.cells
    have p0 := hY3.fz 0
    have p1 := hY3.fz 1
    have p2 := hY3.fz 2
    have p3 := hY3.fz 3
    have hZ := Lib.hid (hY3.put4 ⟨⟨#[105, 110]⟩, 0, 0, x⟩)
    have hCz : Hid (Cur (put4 w3 gR ⟨⟨#[105, 110]⟩, 0, 0, x⟩) g (K + 6)) := (((hC3.out.far (p := ⟨gR, 0, none⟩) hgg.out _).far (p := ⟨gR, 1, none⟩) hgg.out _).far (p := ⟨gR, 2, none⟩) hgg.out _).far (p := ⟨gR, 3, none⟩) hgg.out _
    have hHz : Hid (Chg g (g + 1) w (put4 w3 gR ⟨⟨#[105, 110]⟩, 0, 0, x⟩)) := (((hH3.out.newD (p := ⟨gR, 0, none⟩) hRw.out _).newD (p := ⟨gR, 1, none⟩) hRw.out _).newD (p := ⟨gR, 2, none⟩) hRw.out _).newD (p := ⟨gR, 3, none⟩) hRw.out _
    clear hY3
    go_wp2
    refine node_ret (n := ⟨⟨#[105, 110]⟩, 0, 0, x⟩) (g := gR) rfl (by rfl) hZ.out ⟨⟨⟨#[105, 110]⟩, 0, 0, x⟩, rfl, hCz.out, hHz.out⟩
  · go_wp2_with (fail)
    refine (HW.out (K + 2) w2 (by omega) hC2.out).mono ?_
    rintro e w3 ⟨x, rfl, _, hc3, hch3⟩
    have hY3 := hY2.out.chgD hch3 (.inr (by have := hgg.out; omega))
    have hC3 := Lib.hid (hc3.more (show K + 2 + 4 ≤ K + 6 by omega))
    have hH3 := Lib.hid (hH2.out.trans hch3)
    clear hc3 hch3 hY2 hC2 hH2
    obtain ⟨y0, y1, y2, y3⟩ := hY3.cells
    have p0 := hY3.fz 0
    have p1 := hY3.fz 1
    have p2 := hY3.fz 2
    have p3 := hY3.fz 3
    have hZ := Lib.hid (hY3.put4 ⟨⟨#[99, 111, 110, 115, 116]⟩, 0, 0, x⟩)
    have hCz : Hid (Cur (put4 w3 gR ⟨⟨#[99, 111, 110, 115, 116]⟩, 0, 0, x⟩) g (K + 6)) := (((hC3.out.far (p := ⟨gR, 0, none⟩) hgg.out _).far (p := ⟨gR, 1, none⟩) hgg.out _).far (p := ⟨gR, 2, none⟩) hgg.out _).far (p := ⟨gR, 3, none⟩) hgg.out _
    have hHz : Hid (Chg g (g + 1) w (put4 w3 gR ⟨⟨#[99, 111, 110, 115, 116]⟩, 0, 0, x⟩)) := (((hH3.out.newD (p := ⟨gR, 0, none⟩) hRw.out _).newD (p := ⟨gR, 1, none⟩) hRw.out _).newD (p := ⟨gR, 2, none⟩) hRw.out _).newD (p := ⟨gR, 3, none⟩) hRw.out _
    clear hY3
    go_wp2
    refine node_ret (n := ⟨⟨#[99, 111, 110, 115, 116]⟩, 0, 0, x⟩) (g := gR) rfl (by rfl) hZ.out ⟨⟨⟨#[99, 111, 110, 115, 116]⟩, 0, 0, x⟩, rfl, hCz.out, hHz.out⟩

/-- A builder and a cursor, behind draws that began in w with the nodes xs in v0. -/
structure TS9 (w W : World) (g q L K N : Nat) (v0 v : Value) (xs ys : List Nd) (fl : Bool) : Prop where
  gs : GS 174 [] q L ys fl v W
  cu : Cur W g K
  fr : FrK (fun j => j = g ∨ j = q) v0.ownBlock w W
  ow : ∀ j, v.ownBlock = some j → v0.ownBlock = some j ∨ w.heap.size ≤ j
  le : xs.length ≤ ys.length ∧ ys.length ≤ xs.length + N
  lt : g < q ∧ g < L ∧ L ≤ w.heap.size
theorem FrK.ofChgD {K : Nat → Prop} {r : Option Nat} {g : Nat} {w w' : World} (h : Chg g (g + 1) w w') (hg : K g) : FrK K r w w' :=
  ⟨h.os, h.tape, h.output, h.size, fun j hj h1 _ => h.block j hj (by rcases Nat.lt_trichotomy j g with h | h | h; exact .inl h; exact absurd (h ▸ hg) h1; exact .inr h)⟩
theorem TS9.refl {w : World} {g q L K : Nat} {v : Value} {xs : List Nd} {fl : Bool} (h : GS 174 [] q L xs fl v w) (hc : Cur w g K) (hl : g < q ∧ g < L ∧ L ≤ w.heap.size) : TS9 w w g q L K 0 v v xs xs fl :=
  ⟨h, hc, FrK.refl _ _ _, fun j hj => .inl hj, ⟨Nat.le_refl _, Nat.le_refl _⟩, hl⟩
theorem TS9.draw {w W W' : World} {g q L K K' N : Nat} {v0 v : Value} {xs ys : List Nd} {fl : Bool} (h : TS9 w W g q L K N v0 v xs ys fl) (hc : Cur W' g K') (hch : Chg g (g + 1) W W') : TS9 w W' g q L K' N v0 v xs ys fl := by
  obtain ⟨l1, l2, l3⟩ := h.lt
  refine ⟨h.gs.keep (hch.block q h.gs.lt (.inr (by omega))) (fun j hj => hch.block j (h.gs.own j hj).2 (.inr (by have := (h.gs.own j hj).1; omega))), hc, h.fr.trans (r' := none) (FrK.ofChgD hch (.inl rfl)) (fun j hj => by cases hj), h.ow, h.le, h.lt⟩
theorem TS9.low {w W : World} {g q L K N : Nat} {v0 v : Value} {xs ys : List Nd} {fl : Bool} (h : TS9 w W g q L K N v0 v xs ys fl) : L ≤ W.heap.size := Nat.le_trans h.lt.2.2 h.fr.size
theorem TS9.more {w W : World} {g q L K K' N N' : Nat} {v0 v : Value} {xs ys : List Nd} {fl : Bool} (h : TS9 w W g q L K N v0 v xs ys fl) (hK : K ≤ K') (hN : N ≤ N') : TS9 w W g q L K' N' v0 v xs ys fl :=
  ⟨h.gs, h.cu.more hK, h.fr, h.ow, ⟨h.le.1, by have := h.le.2; omega⟩, h.lt⟩
theorem TS9.below {w W W' : World} {g q L K N : Nat} {v0 v : Value} {xs ys : List Nd} {fl : Bool} (h : TS9 w W g q L K N v0 v xs ys fl) (hb : Below W.heap.size W W') : TS9 w W' g q L K N v0 v xs ys fl :=
  ⟨h.gs.next hb, h.cu.below hb, h.fr.trans (r' := none) (FrK.ofBelow hb) (fun j hj => by cases hj), h.ow, h.le, h.lt⟩
theorem TS9.trans {w W W' : World} {g q L K K' N N' : Nat} {v0 v v' : Value} {xs ys zs : List Nd} {fl : Bool} (h : TS9 w W g q L K N v0 v xs ys fl) (k : TS9 W W' g q L K' N' v v' ys zs fl) : TS9 w W' g q L K' (N + N') v0 v' xs zs fl :=
  ⟨k.gs, k.cu, h.fr.trans k.fr (fun j hj => h.ow j hj), fun j hj => by
    rcases k.ow j hj with e | e
    · exact h.ow j e
    · exact .inr (Nat.le_trans h.fr.size e), ⟨Nat.le_trans h.le.1 k.le.1, by have := h.le.2; have := k.le.2; omega⟩, h.lt⟩
/-- A node in a box of its own, written while the builder stays. -/
theorem TS9.far {w W : World} {g q L K N b : Nat} {v0 v : Value} {xs ys : List Nd} {fl : Bool} (h : TS9 w W g q L K N v0 v xs ys fl) (hb : w.heap.size ≤ b) (hq : q < b) (hv : v.ownBlock ≠ some b) (i : Nat) (u : Value) : TS9 w (W.setCell ⟨b, i, none⟩ u) g q L K N v0 v xs ys fl :=
  ⟨h.gs.other (p := ⟨b, i, none⟩) (by show b ≠ q; omega) hv u, h.cu.far (p := ⟨b, i, none⟩) (by show g < b; have := h.lt.1; omega) u, h.fr.far (p := ⟨b, i, none⟩) hb u, h.ow, h.le, h.lt⟩
theorem TS9.put {w W W' : World} {g q L K N : Nat} {v0 v : Value} {xs ys zs : List Nd} {fl : Bool} (h : TS9 w W g q L K N v0 v xs ys fl) (k : GP 174 [] q L v W (zs, fl) W') (hz : ys.length ≤ zs.length ∧ zs.length ≤ ys.length + 1) : ∃ v', TS9 w W' g q L K (N + 1) v0 v' xs zs fl := by
  obtain ⟨v', g', f', o'⟩ := k
  have hl := h.lt
  have hgr : ∀ j, v.ownBlock = some j → g < j := fun j hj => by have := (h.gs.own j hj).1; omega
  exact ⟨v', g', h.cu.keep fun j hj => f'.block j (Nat.lt_of_le_of_lt hj h.cu.lt) (by omega) (fun e => by have := hgr j e; omega), h.fr.trans (FrK.ofFr f' (.inr rfl)) (fun j hj => h.ow j hj), fun j hj => by
    rcases o' j hj with e | e
    · exact h.ow j e
    · exact .inr (Nat.le_trans h.fr.size e), ⟨Nat.le_trans h.le.1 hz.1, by have := h.le.2; omega⟩, h.lt⟩
/-- What a draw of a tree leaves. -/
def DrT (w : World) (g q L K N : Nat) (v0 : Value) (xs : List Nd) (fl : Bool) (e : Ending) (w' : World) : Prop := ∃ (x : Int) (v : Value) (ys : List Nd), e = .returned (.int .i64 x) ∧ TS9 w w' g q L K N v0 v xs ys fl
/-- A node is put, whatever the flag. -/
theorem sput_any (q L : Nat) (xs : List Nd) (fl : Bool) (v : Value) (y : Nd) (w : World) (hx : xs.length < 100000) (hL : L ≤ w.heap.size) (hs : GS 174 [] q L xs fl v w) :
    Calls Try.prog 254 #[.pointer (some ⟨q, 0, none⟩), .agg #[.string y.op, .int .i64 y.a, .int .i64 y.b, .int .i64 y.v]] w fun e w' => ∃ (x : Int) (ys : List Nd), e = .returned (.int .i64 x) ∧ (xs.length ≤ ys.length ∧ ys.length ≤ xs.length + 1) ∧ GP 174 [] q L v w (ys, fl) w' := by
  cases fl
  · refine (sput_new _ _ q L xs v y w hx hL hs).mono ?_
    rintro e w' ⟨rfl, h⟩
    exact ⟨_, _, rfl, ⟨by simp, by simp⟩, h⟩
  · refine (sput_share _ _ q L xs v y w hx hL hs).mono ?_
    rintro e w' ⟨rfl, h⟩
    refine ⟨_, _, rfl, ⟨?_, (po1_idx xs y).2⟩, h⟩
    unfold po1; split <;> simp
def tN : Nat → Nat
  | 0 => 1
  | d + 1 => 2 * tN d + 1
theorem tN_pos : ∀ d, 1 ≤ tN d
  | 0 => Nat.le_refl _
  | d + 1 => by unfold tN; omega
def ops2 : List ByteArray := [⟨#[110, 111, 116]⟩, ⟨#[110, 101, 103]⟩]
theorem ops2_cells : (ops2.flatMap encD).toArray = #[.string ⟨#[110, 111, 116]⟩, .string ⟨#[110, 101, 103]⟩] := rfl
theorem opsT_cells : (opList.flatMap encD).toArray = opArr := rfl

set_option maxHeartbeats 16000000 in
theorem tree_any : ∀ (d : Nat) (g q L K : Nat) (xs : List Nd) (fl : Bool) (v : Value) (w : World), d ≤ 100 → K + 40 * tN d ≤ 700000000 → xs.length + tN d ≤ 90000 → TS9 w w g q L K 0 v v xs xs fl →
    Calls Try.prog 258 #[.pointer (some ⟨g, 0, none⟩), .pointer (some ⟨q, 0, none⟩), .int .i64 (d : Int)] w (DrT w g q L (K + 40 * tN d) (tN d) v xs fl) := by
  intro d
  induction d with
  | zero =>
    intro g q L K xs fl v w _ hK hx hs
    go_enter Try.func258, Try.ntmps258
    have HL := Lib.hid (leaf_any g (K) w (by omega) hs.cu)
    have HS := Lib.hid hs
    clear hs
    go_wp2_with (fail)
    refine HL.out.mono ?_
    rintro e wl ⟨n, rfl, hcl, hchl⟩
    have HT := Lib.hid (HS.out.draw hcl hchl)
    have HP := Lib.hid (sput_any q L xs fl v n wl (by omega) HT.out.low HT.out.gs)
    clear hcl hchl HL HS
    go_wp2_with (fail)
    refine HP.out.mono ?_
    rintro e wp ⟨x, ys, rfl, hz, hg⟩
    obtain ⟨v', h'⟩ := HT.out.put hg hz
    have HF := Lib.hid (h'.more (show K + 6 ≤ K + 40 * tN 0 by unfold tN; omega) (show 0 + 1 ≤ tN 0 by have := tN_pos 0; omega))
    clear h' hg hz HT HP
    go_wp2
    go_ret
    exact ⟨x, v', ys, rfl, HF.out⟩
  | succ d ih =>
    intro g q L K xs fl v w hd hK hx hs
    have hK : K + 40 * (2 * tN d + 1) ≤ 700000000 := hK
    have hx : xs.length + (2 * tN d + 1) ≤ 90000 := hx
    have hd1 : ((d + 1 : Nat) : Int) ≠ 0 := by omega
    have hd0 : (((d + 1 : Nat) : Int) == 0) = false := by simpa using hd1
    have hw1 : IntKind.i64.wrap (((d + 1 : Nat) : Int) - 1) = (d : Int) := by rw [IntWalk.i64_in _ (by omega)]; omega
    obtain ⟨VA, vc, rfl⟩ := hs.gs.form
    have hp1 := tN_pos d
    have k0 := hs.gs.c0
    by_cases h16 : 16 < xs.length
    · have h16i : (16 : Int) < (xs.length : Int) := by omega
      go_enter Try.func258, Try.ntmps258
      have HL := Lib.hid (leaf_any g (K) w (by omega) hs.cu)
      have HS := Lib.hid hs
      clear hs
      go_wp2_with (fail)
      refine HL.out.mono ?_
      rintro e wl ⟨n, rfl, hcl, hchl⟩
      have HT := Lib.hid (HS.out.draw hcl hchl)
      have HP := Lib.hid (sput_any q L xs fl _ n wl (by omega) HT.out.low HT.out.gs)
      clear hcl hchl HL HS
      go_wp2_with (fail)
      refine HP.out.mono ?_
      rintro e wp ⟨x, ys, rfl, hz, hg⟩
      obtain ⟨v', h'⟩ := HT.out.put hg hz
      have HF := Lib.hid (h'.more (show K + 6 ≤ K + 40 * tN (d + 1) by show _ ≤ K + 40 * (2 * tN d + 1); omega) (show 0 + 1 ≤ tN (d + 1) by have := tN_pos (d + 1); omega))
      clear h' hg hz HT HP
      go_wp2
      go_ret
      exact ⟨x, v', ys, rfl, HF.out⟩
    · have h16i : ¬ (16 : Int) < (xs.length : Int) := by omega
      have HO := Lib.hid (one_any g K 4 w (by omega) (by omega) hs.cu)
      have HO2 := Lib.hid fun (K : Nat) (W : World) (hK : K ≤ 900000000) (hc : Cur W g K) => one_any g K 5 W hK (by omega) hc
      have HS0 := Lib.hid hs
      clear hs
      go_enter Try.func258, Try.ntmps258
      go_wp2_with (fail)
      refine HO.out.mono ?_
      rintro e w1 ⟨b, rfl, hc1, hch1⟩
      have hs := HS0.out.draw hc1 hch1
      clear hc1 hch1 HS0 HO k0
      cases b
      rotate_left 1
      · have HL := Lib.hid (leaf_any g (K + 2) w1 (by omega) hs.cu)
        have HS := Lib.hid hs
        clear hs
        go_wp2_with (fail)
        refine HL.out.mono ?_
        rintro e wl ⟨n, rfl, hcl, hchl⟩
        have HT := Lib.hid (HS.out.draw hcl hchl)
        have HP := Lib.hid (sput_any q L xs fl _ n wl (by omega) HT.out.low HT.out.gs)
        clear hcl hchl HL HS
        go_wp2_with (fail)
        refine HP.out.mono ?_
        rintro e wp ⟨x, ys, rfl, hz, hg⟩
        obtain ⟨v', h'⟩ := HT.out.put hg hz
        have HF := Lib.hid (h'.more (show K + 2 + 6 ≤ K + 40 * tN (d + 1) by show _ ≤ K + 40 * (2 * tN d + 1); omega) (show 0 + 1 ≤ tN (d + 1) by have := tN_pos (d + 1); omega))
        clear h' hg hz HT HP
        go_wp2
        go_ret
        exact ⟨x, v', ys, rfl, HF.out⟩
      · have HT1 := Lib.hid hs
        clear hs
        go_wp2_with (fail)
        refine (HO2.out (K + 2) w1 (by omega) HT1.out.cu).mono ?_
        rintro e w2 ⟨b, rfl, hc2, hch2⟩
        have HT2 := Lib.hid (HT1.out.draw hc2 hch2)
        clear hc2 hch2 HT1 HO2
        cases b
        · obtain ⟨k1, k2, k3, k4⟩ := lit_cur HT2.out.cu (Chg.refl g (g + 1) w2) (.cells (opList.flatMap encD).toArray 9)
          have hO := Lib.hid (of_any g (K + 4) w2.heap.size (w2.heap.size + 1) (some ⟨w2.heap.size, 0, none⟩) 10 10 opList _ rfl (by omega) k1 (by decide) (by decide) (lit_ss w2 opList) k3 k4)
          have HB2 := Lib.hid ((Below.refl w2.heap.size w2).alloc (Nat.le_refl _) (.cells (opList.flatMap encD).toArray 9))
          clear k1 k2 k3 k4
          rw [opsT_cells] at hO HB2
          have HT3 := Lib.hid (HT2.out.below HB2.out)
          clear HT2 HB2
          go_wp2_with (fail)
          refine (exOps_any w2).mono ?_
          rintro e wo ⟨rfl, rfl⟩
          go_wp2_with (fail)
          refine hO.out.mono ?_
          rintro e w3 ⟨s, rfl, _, hc3, hch3⟩
          have HT4 := Lib.hid (HT3.out.draw hc3 hch3)
          clear hc3 hch3 HT3 hO
          have B5 := (Below.refl w3.heap.size w3).alloc (Nat.le_refl _) (.cells #[.string s, .int .i64 0, .int .i64 0, .int .i64 0] 40)
          have HT5 := Lib.hid (HT4.out.below B5)
          have hX5 : Hid (XN (w3.alloc (.cells #[.string s, .int .i64 0, .int .i64 0, .int .i64 0] 40)) w3.heap.size ⟨s, 0, 0, 0⟩) := xn_new w3 ⟨s, 0, 0, 0⟩
          have hq3 := Lib.hid HT4.out.gs.lt
          have hs3 := Lib.hid HT4.out.fr.size
          have hgq := Lib.hid HT4.out.lt.1
          have ho3 : Hid ((Value.slice VA xs.length vc).ownBlock ≠ some w3.heap.size) := fun e => by have := (HT4.out.gs.own _ e).2; omega
          clear B5 HT4
          go_upto_region 7 with fail
          generalize w3.alloc (.cells #[.string s, .int .i64 0, .int .i64 0, .int .i64 0] 40) = W5 at *
          have HC := Lib.hid (ih g q L (K + 4 + 2) xs fl (Value.slice VA xs.length vc) W5 (by omega) (by omega) (by have := HT5.out.le.2; omega) (TS9.refl HT5.out.gs HT5.out.cu ⟨HT5.out.lt.1, HT5.out.lt.2.1, HT5.out.low⟩))
          go_wp2_with (fail)
          refine HC.out.mono ?_
          rintro e w6 ⟨x1, v1, ys1, rfl, h6⟩
          clear HC
          have hX6 := Lib.hid (xn_frK hX5.out h6.fr (fun e => by have := hq3.out; have := hgq.out; omega) ho3.out)
          have ho6 : Hid (v1.ownBlock ≠ some w3.heap.size) := fun e => by
            rcases h6.ow _ e with e2 | e2
            · exact ho3.out e2
            · have := hX5.out.lt; omega
          have HT6 := Lib.hid (HT5.out.trans h6)
          clear h6 HT5 hX5 ho3
          obtain ⟨y0, y1, y2, y3⟩ := hX6.out.cells
          have p1 := hX6.out.fz 1
          have hX7 := Lib.hid (hX6.out.setA x1)
          have HT7 := Lib.hid (HT6.out.far hs3.out hq3.out ho6.out 1 (.int .i64 x1))
          clear HT6 hX6
          have hle7 := Lib.hid HT7.out.le.2
          have HC := Lib.hid (ih g q L (K + 4 + 2 + 40 * tN d) ys1 fl v1 (w6.setCell ⟨w3.heap.size, 1, none⟩ (.int .i64 x1)) (by omega) (by omega) (by have := HT7.out.le.2; omega) (TS9.refl HT7.out.gs HT7.out.cu ⟨HT7.out.lt.1, HT7.out.lt.2.1, HT7.out.low⟩))
          go_wp2_with (fail)
          refine HC.out.mono ?_
          rintro e w8 ⟨x2, v2, ys2, rfl, h8⟩
          clear HC
          have hX8 := Lib.hid (xn_frK hX7.out h8.fr (fun e => by have := hq3.out; have := hgq.out; omega) ho6.out)
          have ho8 : Hid (v2.ownBlock ≠ some w3.heap.size) := fun e => by
            rcases h8.ow _ e with e2 | e2
            · exact ho6.out e2
            · have := hX7.out.lt; omega
          have HT8 := Lib.hid (HT7.out.trans h8)
          clear h8 HT7 hX7 ho6 y0 y1 y2 y3 p1
          obtain ⟨y0, y1, y2, y3⟩ := hX8.out.cells
          have p1 := hX8.out.fz 2
          have hX9 := Lib.hid (hX8.out.setB x2)
          have HT9 := Lib.hid (HT8.out.far hs3.out hq3.out ho8.out 2 (.int .i64 x2))
          clear HT8 hX8
          obtain ⟨z0, z1, z2, z3⟩ := hX9.out.cells
          simp only at z0 z1 z2 z3
          have hle9 := HT9.out.le.2
          have HP := Lib.hid (sput_any q L ys2 fl v2 ⟨s, x1, x2, 0⟩ (w8.setCell ⟨w3.heap.size, 2, none⟩ (.int .i64 x2)) (by omega) HT9.out.low HT9.out.gs)
          clear hle9
          go_wp2_with (fail)
          refine HP.out.mono ?_
          rintro e wp ⟨x, ys, rfl, hz, hg⟩
          obtain ⟨v', h'⟩ := HT9.out.put hg hz
          have HF := Lib.hid (h'.more (show _ ≤ K + 40 * (2 * tN d + 1) by omega) (show _ ≤ 2 * tN d + 1 by omega))
          clear h' hg hz HT9 HP
          go_wp2
          go_ret
          exact ⟨x, v', ys, rfl, HF.out⟩
        · obtain ⟨k1, k2, k3, k4⟩ := lit_cur HT2.out.cu (Chg.refl g (g + 1) w2) (.cells (ops2.flatMap encD).toArray 9)
          have hO := Lib.hid (of_any g (K + 4) w2.heap.size (w2.heap.size + 1) (some ⟨w2.heap.size, 0, none⟩) 2 2 ops2 _ rfl (by omega) k1 (by decide) (by decide) (lit_ss w2 ops2) k3 k4)
          have HB2 := Lib.hid ((Below.refl w2.heap.size w2).alloc (Nat.le_refl _) (.cells (ops2.flatMap encD).toArray 9))
          clear k1 k2 k3 k4
          rw [ops2_cells] at hO HB2
          have HT3 := Lib.hid (HT2.out.below HB2.out)
          clear HT2 HB2
          go_wp2_with (fail)
          refine hO.out.mono ?_
          rintro e w3 ⟨s, rfl, _, hc3, hch3⟩
          have HT4 := Lib.hid (HT3.out.draw hc3 hch3)
          clear hc3 hch3 HT3 hO
          have hq3 := Lib.hid HT4.out.gs.lt
          have HC := Lib.hid (ih g q L (K + 4 + 2) xs fl (Value.slice VA xs.length vc) w3 (by omega) (by omega) (by have := HT4.out.le.2; omega) (TS9.refl HT4.out.gs HT4.out.cu ⟨HT4.out.lt.1, HT4.out.lt.2.1, HT4.out.low⟩))
          go_wp2_with (fail)
          refine HC.out.mono ?_
          rintro e w6 ⟨x1, v1, ys1, rfl, h6⟩
          clear HC
          have HT6 := Lib.hid (HT4.out.trans h6)
          clear h6 HT4
          have HT7 := Lib.hid (HT6.out.below ((Below.refl w6.heap.size w6).alloc (Nat.le_refl _) (.cells #[.string s, .int .i64 x1, .int .i64 0, .int .i64 0] 40)))
          have hX7 : Hid (XN (w6.alloc (.cells #[.string s, .int .i64 x1, .int .i64 0, .int .i64 0] 40)) w6.heap.size ⟨s, x1, 0, 0⟩) := xn_new w6 ⟨s, x1, 0, 0⟩
          obtain ⟨z0, z1, z2, z3⟩ := hX7.out.cells
          simp only at z0 z1 z2 z3
          have hle9 := HT7.out.le.2
          have HP := Lib.hid (sput_any q L ys1 fl v1 ⟨s, x1, 0, 0⟩ (w6.alloc (.cells #[.string s, .int .i64 x1, .int .i64 0, .int .i64 0] 40)) (by omega) HT7.out.low HT7.out.gs)
          clear hle9 HT6
          go_wp2_with (fail)
          refine HP.out.mono ?_
          rintro e wp ⟨x, ys, rfl, hz, hg⟩
          obtain ⟨v', h'⟩ := HT7.out.put hg hz
          have HF := Lib.hid (h'.more (show _ ≤ K + 40 * (2 * tN d + 1) by omega) (show _ ≤ 2 * tN d + 1 by omega))
          clear h' hg hz HT7 HP
          go_wp2
          go_ret
          exact ⟨x, v', ys, rfl, HF.out⟩
end Go.Proofs.Ytmhdijklindipaa
