/- Texts of this proof, one behind the other: UF, DT1, DR3, CZ3, DA, SA. -/
import Derived.Test.YtmhdijklindipaaZ8
import Derived.WalkKit
import Derived.WalkSpells
import Derived.WalkLawsBesides
import Derived.Deep.RegionLaw
import Derived.Deep.AppendLies
import Derived.Lib.Hide
import Derived.Test.YtmhdijklindipaaZ12
import Derived.Test.YtmhdijklindipaaF
import Derived.Deep.DeepCutAuto
import Derived.Test.YtmhdijklindipaaZ13
import Derived.Deep.RegionHeld3
/- ShareExpr: the model's builder that shares. -/
namespace Go.Proofs.Ytmhdijklindipaa
open Go.RowKit
set_option linter.unusedVariables false
set_option maxRecDepth 100000

set_option maxHeartbeats 4000000 in
theorem sput_share (t : TypeId) (rest : List Value) (q L : Nat) (xs : List Nd) (v : Value) (y : Nd) (w : World) (hx : xs.length < 100000) (hL : L ≤ w.heap.size) (hs : GS t rest q L xs true v w) :
    Calls Try.prog 254 #[.pointer (some ⟨q, 0, none⟩), .agg #[.string y.op, .int .i64 y.a, .int .i64 y.b, .int .i64 y.v]] w fun e w' => e = .returned (.int .i64 (po1 xs y).2) ∧ GP t rest q L v w ((po1 xs y).1, true) w' := by
  obtain ⟨i0, hi0, hi1, hi2, hi3⟩ := info_parts Try.infoNode
  have hJ0 := Lib.hid hi0
  have hJ1 := Lib.hid hi1
  have hJ2 := Lib.hid hi2
  have hJ3 := Lib.hid hi3
  clear hi0 hi1 hi2 hi3
  obtain ⟨AV, cv, rfl⟩ := hs.form
  have hgd := nd_guard
  have hq0 : q < w.heap.size := hs.lt
  obtain ⟨op, ya, yb, yv⟩ := y
  dsimp only
  obtain ⟨w1, hw1⟩ : ∃ w1, w1 = w.alloc (.cells #[.string op, .int .i64 ya, .int .i64 yb, .int .i64 yv] 40) := ⟨_, rfl⟩
  have b1 : Hid (Below w.heap.size w w1) := by unfold Hid; rw [hw1]; exact (Below.refl _ _).alloc (Nat.le_refl _) _
  have x1 : Hid (XN w1 w.heap.size ⟨op, ya, yb, yv⟩) := by unfold Hid; rw [hw1]; exact xn_new _ ⟨op, ya, yb, yv⟩
  have s1 := Lib.hid (hs.next b1.out)
  have e1 := Lib.hid hw1
  have z1 : w1.heap.size = w.heap.size + 1 := by rw [hw1]; simp
  have k0 := s1.out.c0
  have k1 := s1.out.c1
  rw [hw1] at k0 k1
  clear hw1 hs
  have hfi : Hid (nidx xs ⟨op, ya, yb, yv⟩ = firstI (fun k => sameN (xs.getD k zeroNd) ⟨op, ya, yb, yv⟩) xs.length) := rfl
  have hYes : Hid (0 ≤ nidx xs ⟨op, ya, yb, yv⟩ → po1 xs ⟨op, ya, yb, yv⟩ = (xs, nidx xs ⟨op, ya, yb, yv⟩)) := po1_yes
  have hNo : Hid (¬ 0 ≤ nidx xs ⟨op, ya, yb, yv⟩ → po1 xs ⟨op, ya, yb, yv⟩ = (xs ++ [⟨op, ya, yb, yv⟩], (xs.length : Int))) := po1_no
  generalize hp : po1 xs ⟨op, ya, yb, yv⟩ = pr at *
  clear hp
  obtain ⟨pl, pi⟩ := pr
  dsimp only
  go_enter Try.func254, Try.ntmps254
  go_wp2
  rw [← e1.out]
  clear e1 k0 k1
  go_loopw [16] (fun i wr => ∃ k : Nat, k ≤ xs.length ∧ i = .int .i64 k ∧ (∀ j, j < k → sameN (xs.getD j zeroNd) ⟨op, ya, yb, yv⟩ = false) ∧ Below w1.heap.size w1 wr) (fun i _ => xs.length - (intOf i).toNat)
  case atStart => exact ⟨0, Nat.zero_le _, rfl, fun j hj => by omega, Below.refl _ _⟩
  case round =>
    obtain ⟨k, hk, rfl, hall, hbel⟩ := hrel
    have hAll := Lib.hid hall
    have hBe := Lib.hid hbel
    have hXN := Lib.hid (XN.next x1.out hbel)
    have hSr := Lib.hid (s1.out.next hbel)
    have hzr := hbel.size
    clear hall hbel
    by_cases hlt : k < xs.length
    · have hns := hSr.out.ok.form Nd.hk
      obtain ⟨A', c', hv, hrs⟩ := hns
      injection hv with hv1 hv2 hv3
      subst hv1
      obtain ⟨b9, o9, rfl, ⟨hb9l, hb9u⟩, hc⟩ := hrs.ns (by omega)
      obtain ⟨c1, c2, c3, c4⟩ := hc k hlt
      have i0 : (0 : Int) ≤ (k : Int) := by omega
      have i1 : (k : Int) < (xs.length : Int) := by omega
      have hg1 := getD_nd hlt
      have hYs := Lib.hid (show sameN xs[k] ⟨op, ya, yb, yv⟩ = true → nidx xs ⟨op, ya, yb, yv⟩ = (k : Int) from fun h => by
        rw [hfi.out]; exact firstI_some hlt (by show sameN (xs.getD k zeroNd) _ = true; rw [hg1]; exact h) hAll.out)
      have hNx := Lib.hid (show sameN xs[k] ⟨op, ya, yb, yv⟩ = false → ∀ j, j < k + 1 → sameN (xs.getD j zeroNd) ⟨op, ya, yb, yv⟩ = false from fun h j hj => by
        by_cases e : j = k
        · subst e; rw [hg1]; exact h
        · exact hAll.out j (by omega))
      have hXx := xn_new wr xs[k]
      have hXb := (Below.refl wr.heap.size wr).alloc (Nat.le_refl _) (.cells #[.string xs[k].op, .int .i64 xs[k].a, .int .i64 xs[k].b, .int .i64 xs[k].v] 40)
      have xB := Lib.hid (hBe.out.trans (hXb.mono hBe.out.size))
      have xS := Lib.hid (hSr.out.next hXb)
      obtain ⟨m0, m1, m2, m3⟩ := hXx.cells
      obtain ⟨n0, n1, n2, n3⟩ := (XN.next hXN.out hXb).cells
      clear hc hg1 hXx hXb hrs
      generalize xs[k] = z at *
      obtain ⟨op', a', b', x'⟩ := z
      dsimp only at *
      have hEq := fun W => equalIn_nd op' op a' b' x' ya yb yv W
      cases hs : sameN ⟨op', a', b', x'⟩ ⟨op, ya, yb, yv⟩
      · have hn := Lib.hid (hNx.out hs)
        rw [hs] at hEq
        clear hs hNx hYs
        go_wp2
        go_roundw
        case rel => exact ⟨k + 1, by omega, by go_num, hn.out, xB.out⟩
        case measure => simp [intOf]; omega
      · have hy := hYs.out hs
        have hE := Lib.hid (hYes.out (by rw [hy]; omega))
        have hY := Lib.hid hy
        rw [hs] at hEq
        clear hs hNx hYs hy
        go_wp2
        go_ret
        have h1 := congrArg Prod.fst hE.out
        have h2 := congrArg Prod.snd hE.out
        dsimp only at h1 h2
        subst h1
        rw [hY.out] at h2
        subst h2
        exact ⟨rfl, _, xS.out, Fr.ofBelow (b1.out.trans (xB.out.mono b1.out.size)), fun j hj => .inl hj⟩
    · obtain rfl : k = xs.length := by omega
      have hE := Lib.hid (hNo.out (by rw [hfi.out, firstI_none hAll.out]; decide))
      have k0 : wr.cell? ⟨q, 0, none⟩ = some (.slice AV xs.length cv) := hSr.out.c0
      obtain ⟨m0, m1, m2, m3⟩ := hXN.out.cells
      have O2 := fun o => Lib.hid (show ((wr.alloc o).drew).ownsRow L 40 4 (.slice AV xs.length cv) xs.length (xs.flatMap Nd.enc) from (hSr.out.next (((Below.refl wr.heap.size wr).alloc (Nat.le_refl _) o).drew)).2.1)
      have hf : wr.frozen? ⟨q, 0, none⟩ = false := hSr.out.fz 0
      have HF1 := Lib.hid hf
      have hq1' : Hid (q < wr.heap.size) := hSr.out.lt
      have hL1 : L ≤ wr.heap.size := by omega
      have k0' := fun o => (((Below.refl wr.heap.size wr).alloc (Nat.le_refl _) o).cell (p := ⟨q, 0, none⟩) hq1'.out).trans k0
      go_wp2_with (fail)
      go_region_law (first | (refine step_append_lies _ rfl _ _ 24 rfl L 40 i0 _ 4 40 Try.underlying24 hJ0.out hJ1.out hJ2.out hJ3.out rfl (by decide) _ _ _ (by rfl) (O2 _).out ⟨wr.heap.size, 0, none⟩ 1 1 (Nd.enc ⟨op, ya, yb, yv⟩) (by rfl) rfl (four_new ⟨op, ya, yb, yv⟩ rfl) (four_one _) (by omega) (by unfold maxLen; omega) (by omega) (by simp; omega) (wr.heap.size + 1) (by simp) ?_; intro gg cap w2 hown1 hgr1 hat1 _; obtain ⟨j0, j1, j2, j3, j4⟩ := put_facts2 hq1'.out hSr.out.2.2 k0 HF1.out hgr1))
      all_goals
        have h1' := Lib.hid hown1
        have J3 := Lib.hid j3
        have J4 := Lib.hid j4
        have HA := Lib.hid hat1
        clear hown1 hgr1 j4 hat1 j3
        go_wp2
        go_ret
        have h1 := congrArg Prod.fst hE.out
        have h2 := congrArg Prod.snd hE.out
        dsimp only at h1 h2
        subst h1; subst h2
        have hgq : gg ≠ q := by
          intro e; subst e
          rcases HA.out with e | e
          · exact hSr.out.2.2 e
          · have := hq1'.out; omega
        refine ⟨rfl, .slice (some ⟨gg, 0, none⟩) (xs.length + 1) cap, ⟨?_, ?_, ?_⟩, ((Fr.ofBelow (b1.out.trans (hBe.out.mono b1.out.size))).trans J4.out (fun j hj => .inl hj)).set 0 _, ?_⟩
        · have h7 := J3.out.trans hSr.out.1
          simp [World.setCell, Array.getElem?_modify, h7]
        · have h8 := h1'.out
          rw [nflat_snoc, List.length_append]
          refine ⟨h8.1, ?_⟩
          rcases h8.2 with hn | ⟨g, cp, cur, e, hg, hh, hrest⟩
          · exact .inl hn
          · refine .inr ⟨g, cp, cur, e, hg, ?_, hrest⟩
            have e' := e
            simp only [Value.slice.injEq, Option.some.injEq, Addr.mk.injEq] at e'
            exact (Below.heap_setCell w2 ⟨q, 0, none⟩ _ g (by rw [← e'.1.1]; exact hgq)).trans hh
        · intro e; exact hgq (by simpa [Value.ownBlock] using e)
        · intro j hj
          have hj' : gg = j := by simpa [Value.ownBlock] using hj
          subst hj'
          rcases HA.out with e | e
          · exact .inl e
          · exact .inr (by omega)
end Go.Proofs.Ytmhdijklindipaa

/- Drawn nodes, drawn trees: what a builder and the cursor are behind a draw. -/
namespace Go.Proofs.Ytmhdijklindipaa
open Go.RowKit
set_option linter.unusedVariables false
set_option maxRecDepth 100000

theorem XN.chgD {w w' : World} {b lo hi : Nat} {n : Nd} (h : XN w b n) (hc : Chg lo hi w w') (hd : b < lo ∨ hi ≤ b) : XN w' b n := (hc.block b h.lt hd).trans h
/-- What a draw of a node hands back. -/
def DrN (w : World) (g K : Nat) (e : Ending) (w' : World) : Prop := ∃ n : Nd, e = .returned (.agg #[.string n.op, .int .i64 n.a, .int .i64 n.b, .int .i64 n.v]) ∧ Cur w' g K ∧ Chg g (g + 1) w w'
set_option maxHeartbeats 4000000 in
theorem leaf_any (g K : Nat) (w : World) (hK : K ≤ 700000000) (hc : Cur w g K) :
    Calls Try.prog 270 #[.pointer (some ⟨g, 0, none⟩)] w (DrN w g (K + 6)) := by
  have HO := Lib.hid fun (K : Nat) (n : Int) (W : World) (hK : K ≤ 900000000) (hn : n ≤ 10000) (hc : Cur W g K) => one_any g K n W hK hn hc
  have HP := Lib.hid fun (K : Nat) (n : Int) (W : World) (hK : K ≤ 900000000) (hn : n ≤ 10000) (hc : Cur W g K) => pick_any g K n W hK hn hc
  have HW := Lib.hid fun (K : Nat) (W : World) (hK : K ≤ 800000000) (hc : Cur W g K) => word_any g K W hK hc
  have a0 := (Below.refl w.heap.size w).alloc (Nat.le_refl _) (.cells #[.string ⟨#[]⟩, .int .i64 0, .int .i64 0, .int .i64 0] 40)
  have hgw := hc.lt
  obtain ⟨gR, hgR⟩ : ∃ x, x = w.heap.size := ⟨_, rfl⟩
  have hY0 : Hid (XN (w.alloc (.cells #[.string ⟨#[]⟩, .int .i64 0, .int .i64 0, .int .i64 0] 40)) gR ⟨ByteArray.empty, 0, 0, 0⟩) := by unfold Hid; rw [hgR]; exact heap_alloc_new w _
  have hc0 := Lib.hid (hc.below a0)
  have hh0 : Hid (Chg g (g + 1) w (w.alloc (.cells #[.string ⟨#[]⟩, .int .i64 0, .int .i64 0, .int .i64 0] 40))) := (Chg.refl _ _ _).alloc _
  have hgg : Hid (g < gR) := by unfold Hid; omega
  have hRw : Hid (w.heap.size ≤ gR) := by unfold Hid; omega
  have eW : w.heap.size = gR := hgR.symm
  clear hgR a0 hc hgw
  go_enter Try.func270, Try.ntmps270
  go_upto_region 1 with fail
  generalize w.alloc (.cells #[.string ⟨#[]⟩, .int .i64 0, .int .i64 0, .int .i64 0] 40) = W0 at *
  try rw [eW]
  clear eW
  go_wp2_with (fail)
  refine (HO.out K 3 W0 (by omega) (by omega) hc0.out).mono ?_
  rintro e w2 ⟨b, rfl, hc2, hch2⟩
  have hY2 := Lib.hid (hY0.out.chgD hch2 (.inr (by have := hgg.out; omega)))
  have hC2 := Lib.hid hc2
  have hH2 := Lib.hid (hh0.out.trans hch2)
  clear hc2 hch2 hY0 hc0 hh0
  cases b
  · go_wp2_with (fail)
    refine (HP.out (K + 2) 2 w2 (by omega) (by omega) hC2.out).mono ?_
    rintro e w3 ⟨x, rfl, _, hc3, hch3⟩
    have hY3 := hY2.out.chgD hch3 (.inr (by have := hgg.out; omega))
    have hC3 := Lib.hid (hc3.more (show K + 2 + 2 ≤ K + 6 by omega))
    have hH3 := Lib.hid (hH2.out.trans hch3)
    clear hc3 hch3 hY2 hC2 hH2
    obtain ⟨y0, y1, y2, y3⟩ := hY3.cells
    have p0 := hY3.fz 0
    have p1 := hY3.fz 1
    have p2 := hY3.fz 2
    have p3 := hY3.fz 3
    have hZ := Lib.hid (hY3.put4 ⟨⟨#[105, 110]⟩, 0, 0, x⟩)
    have hCz : Hid (Cur (put4 w3 gR ⟨⟨#[105, 110]⟩, 0, 0, x⟩) g (K + 6)) := (((hC3.out.far (p := ⟨gR, 0, none⟩) hgg.out _).far (p := ⟨gR, 1, none⟩) hgg.out _).far (p := ⟨gR, 2, none⟩) hgg.out _).far (p := ⟨gR, 3, none⟩) hgg.out _
    have hHz : Hid (Chg g (g + 1) w (put4 w3 gR ⟨⟨#[105, 110]⟩, 0, 0, x⟩)) := (((hH3.out.newD (p := ⟨gR, 0, none⟩) hRw.out _).newD (p := ⟨gR, 1, none⟩) hRw.out _).newD (p := ⟨gR, 2, none⟩) hRw.out _).newD (p := ⟨gR, 3, none⟩) hRw.out _
    clear hY3
    go_wp2
    refine node_ret (n := ⟨⟨#[105, 110]⟩, 0, 0, x⟩) (g := gR) rfl (by rfl) hZ.out ⟨⟨⟨#[105, 110]⟩, 0, 0, x⟩, rfl, hCz.out, hHz.out⟩
  · go_wp2_with (fail)
    refine (HW.out (K + 2) w2 (by omega) hC2.out).mono ?_
    rintro e w3 ⟨x, rfl, _, hc3, hch3⟩
    have hY3 := hY2.out.chgD hch3 (.inr (by have := hgg.out; omega))
    have hC3 := Lib.hid (hc3.more (show K + 2 + 4 ≤ K + 6 by omega))
    have hH3 := Lib.hid (hH2.out.trans hch3)
    clear hc3 hch3 hY2 hC2 hH2
    obtain ⟨y0, y1, y2, y3⟩ := hY3.cells
    have p0 := hY3.fz 0
    have p1 := hY3.fz 1
    have p2 := hY3.fz 2
    have p3 := hY3.fz 3
    have hZ := Lib.hid (hY3.put4 ⟨⟨#[99, 111, 110, 115, 116]⟩, 0, 0, x⟩)
    have hCz : Hid (Cur (put4 w3 gR ⟨⟨#[99, 111, 110, 115, 116]⟩, 0, 0, x⟩) g (K + 6)) := (((hC3.out.far (p := ⟨gR, 0, none⟩) hgg.out _).far (p := ⟨gR, 1, none⟩) hgg.out _).far (p := ⟨gR, 2, none⟩) hgg.out _).far (p := ⟨gR, 3, none⟩) hgg.out _
    have hHz : Hid (Chg g (g + 1) w (put4 w3 gR ⟨⟨#[99, 111, 110, 115, 116]⟩, 0, 0, x⟩)) := (((hH3.out.newD (p := ⟨gR, 0, none⟩) hRw.out _).newD (p := ⟨gR, 1, none⟩) hRw.out _).newD (p := ⟨gR, 2, none⟩) hRw.out _).newD (p := ⟨gR, 3, none⟩) hRw.out _
    clear hY3
    go_wp2
    refine node_ret (n := ⟨⟨#[99, 111, 110, 115, 116]⟩, 0, 0, x⟩) (g := gR) rfl (by rfl) hZ.out ⟨⟨⟨#[99, 111, 110, 115, 116]⟩, 0, 0, x⟩, rfl, hCz.out, hHz.out⟩

/-- A builder and a cursor, behind draws that began in w with the nodes xs in v0. -/
structure TS9 (w W : World) (g q L K N : Nat) (v0 v : Value) (xs ys : List Nd) (fl : Bool) : Prop where
  gs : GS 174 [] q L ys fl v W
  cu : Cur W g K
  fr : FrK (fun j => j = g ∨ j = q) v0.ownBlock w W
  ow : ∀ j, v.ownBlock = some j → v0.ownBlock = some j ∨ w.heap.size ≤ j
  le : xs.length ≤ ys.length ∧ ys.length ≤ xs.length + N
  lt : g < q ∧ g < L ∧ L ≤ w.heap.size
theorem FrK.ofChgD {K : Nat → Prop} {r : Option Nat} {g : Nat} {w w' : World} (h : Chg g (g + 1) w w') (hg : K g) : FrK K r w w' :=
  ⟨h.os, h.tape, h.output, h.size, fun j hj h1 _ => h.block j hj (by rcases Nat.lt_trichotomy j g with h | h | h; exact .inl h; exact absurd (h ▸ hg) h1; exact .inr h)⟩
theorem TS9.refl {w : World} {g q L K : Nat} {v : Value} {xs : List Nd} {fl : Bool} (h : GS 174 [] q L xs fl v w) (hc : Cur w g K) (hl : g < q ∧ g < L ∧ L ≤ w.heap.size) : TS9 w w g q L K 0 v v xs xs fl :=
  ⟨h, hc, FrK.refl _ _ _, fun j hj => .inl hj, ⟨Nat.le_refl _, Nat.le_refl _⟩, hl⟩
theorem TS9.draw {w W W' : World} {g q L K K' N : Nat} {v0 v : Value} {xs ys : List Nd} {fl : Bool} (h : TS9 w W g q L K N v0 v xs ys fl) (hc : Cur W' g K') (hch : Chg g (g + 1) W W') : TS9 w W' g q L K' N v0 v xs ys fl := by
  obtain ⟨l1, l2, l3⟩ := h.lt
  refine ⟨h.gs.keep (hch.block q h.gs.lt (.inr (by omega))) (fun j hj => hch.block j (h.gs.own j hj).2 (.inr (by have := (h.gs.own j hj).1; omega))), hc, h.fr.trans (r' := none) (FrK.ofChgD hch (.inl rfl)) (fun j hj => by cases hj), h.ow, h.le, h.lt⟩
theorem TS9.low {w W : World} {g q L K N : Nat} {v0 v : Value} {xs ys : List Nd} {fl : Bool} (h : TS9 w W g q L K N v0 v xs ys fl) : L ≤ W.heap.size := Nat.le_trans h.lt.2.2 h.fr.size
theorem TS9.more {w W : World} {g q L K K' N N' : Nat} {v0 v : Value} {xs ys : List Nd} {fl : Bool} (h : TS9 w W g q L K N v0 v xs ys fl) (hK : K ≤ K') (hN : N ≤ N') : TS9 w W g q L K' N' v0 v xs ys fl :=
  ⟨h.gs, h.cu.more hK, h.fr, h.ow, ⟨h.le.1, by have := h.le.2; omega⟩, h.lt⟩
theorem TS9.below {w W W' : World} {g q L K N : Nat} {v0 v : Value} {xs ys : List Nd} {fl : Bool} (h : TS9 w W g q L K N v0 v xs ys fl) (hb : Below W.heap.size W W') : TS9 w W' g q L K N v0 v xs ys fl :=
  ⟨h.gs.next hb, h.cu.below hb, h.fr.trans (r' := none) (FrK.ofBelow hb) (fun j hj => by cases hj), h.ow, h.le, h.lt⟩
theorem TS9.trans {w W W' : World} {g q L K K' N N' : Nat} {v0 v v' : Value} {xs ys zs : List Nd} {fl : Bool} (h : TS9 w W g q L K N v0 v xs ys fl) (k : TS9 W W' g q L K' N' v v' ys zs fl) : TS9 w W' g q L K' (N + N') v0 v' xs zs fl :=
  ⟨k.gs, k.cu, h.fr.trans k.fr (fun j hj => h.ow j hj), fun j hj => by
    rcases k.ow j hj with e | e
    · exact h.ow j e
    · exact .inr (Nat.le_trans h.fr.size e), ⟨Nat.le_trans h.le.1 k.le.1, by have := h.le.2; have := k.le.2; omega⟩, h.lt⟩
/-- A node in a box of its own, written while the builder stays. -/
theorem TS9.far {w W : World} {g q L K N b : Nat} {v0 v : Value} {xs ys : List Nd} {fl : Bool} (h : TS9 w W g q L K N v0 v xs ys fl) (hb : w.heap.size ≤ b) (hq : q < b) (hv : v.ownBlock ≠ some b) (i : Nat) (u : Value) : TS9 w (W.setCell ⟨b, i, none⟩ u) g q L K N v0 v xs ys fl :=
  ⟨h.gs.other (p := ⟨b, i, none⟩) (by show b ≠ q; omega) hv u, h.cu.far (p := ⟨b, i, none⟩) (by show g < b; have := h.lt.1; omega) u, h.fr.far (p := ⟨b, i, none⟩) hb u, h.ow, h.le, h.lt⟩
theorem TS9.put {w W W' : World} {g q L K N : Nat} {v0 v : Value} {xs ys zs : List Nd} {fl : Bool} (h : TS9 w W g q L K N v0 v xs ys fl) (k : GP 174 [] q L v W (zs, fl) W') (hz : ys.length ≤ zs.length ∧ zs.length ≤ ys.length + 1) : ∃ v', TS9 w W' g q L K (N + 1) v0 v' xs zs fl := by
  obtain ⟨v', g', f', o'⟩ := k
  have hl := h.lt
  have hgr : ∀ j, v.ownBlock = some j → g < j := fun j hj => by have := (h.gs.own j hj).1; omega
  exact ⟨v', g', h.cu.keep fun j hj => f'.block j (Nat.lt_of_le_of_lt hj h.cu.lt) (by omega) (fun e => by have := hgr j e; omega), h.fr.trans (FrK.ofFr f' (.inr rfl)) (fun j hj => h.ow j hj), fun j hj => by
    rcases o' j hj with e | e
    · exact h.ow j e
    · exact .inr (Nat.le_trans h.fr.size e), ⟨Nat.le_trans h.le.1 hz.1, by have := h.le.2; omega⟩, h.lt⟩
/-- What a draw of a tree leaves. -/
def DrT (w : World) (g q L K N : Nat) (v0 : Value) (xs : List Nd) (fl : Bool) (e : Ending) (w' : World) : Prop := ∃ (x : Int) (v : Value) (ys : List Nd), e = .returned (.int .i64 x) ∧ TS9 w w' g q L K N v0 v xs ys fl
/-- A node is put, whatever the flag. -/
theorem sput_any (q L : Nat) (xs : List Nd) (fl : Bool) (v : Value) (y : Nd) (w : World) (hx : xs.length < 100000) (hL : L ≤ w.heap.size) (hs : GS 174 [] q L xs fl v w) :
    Calls Try.prog 254 #[.pointer (some ⟨q, 0, none⟩), .agg #[.string y.op, .int .i64 y.a, .int .i64 y.b, .int .i64 y.v]] w fun e w' => ∃ (x : Int) (ys : List Nd), e = .returned (.int .i64 x) ∧ (xs.length ≤ ys.length ∧ ys.length ≤ xs.length + 1) ∧ GP 174 [] q L v w (ys, fl) w' := by
  cases fl
  · refine (sput_new _ _ q L xs v y w hx hL hs).mono ?_
    rintro e w' ⟨rfl, h⟩
    exact ⟨_, _, rfl, ⟨by simp, by simp⟩, h⟩
  · refine (sput_share _ _ q L xs v y w hx hL hs).mono ?_
    rintro e w' ⟨rfl, h⟩
    refine ⟨_, _, rfl, ⟨?_, (po1_idx xs y).2⟩, h⟩
    unfold po1; split <;> simp
def tN : Nat → Nat
  | 0 => 1
  | d + 1 => 2 * tN d + 1
theorem tN_pos : ∀ d, 1 ≤ tN d
  | 0 => Nat.le_refl _
  | d + 1 => by unfold tN; omega
def ops2 : List ByteArray := [⟨#[110, 111, 116]⟩, ⟨#[110, 101, 103]⟩]
theorem ops2_cells : (ops2.flatMap encD).toArray = #[.string ⟨#[110, 111, 116]⟩, .string ⟨#[110, 101, 103]⟩] := rfl
theorem opsT_cells : (opList.flatMap encD).toArray = opArr := rfl

set_option maxHeartbeats 16000000 in
theorem tree_any : ∀ (d : Nat) (g q L K : Nat) (xs : List Nd) (fl : Bool) (v : Value) (w : World), d ≤ 100 → K + 40 * tN d ≤ 700000000 → xs.length + tN d ≤ 90000 → TS9 w w g q L K 0 v v xs xs fl →
    Calls Try.prog 258 #[.pointer (some ⟨g, 0, none⟩), .pointer (some ⟨q, 0, none⟩), .int .i64 (d : Int)] w (DrT w g q L (K + 40 * tN d) (tN d) v xs fl) := by
  intro d
  induction d with
  | zero =>
    intro g q L K xs fl v w _ hK hx hs
    go_enter Try.func258, Try.ntmps258
    have HL := Lib.hid (leaf_any g (K) w (by omega) hs.cu)
    have HS := Lib.hid hs
    clear hs
    go_wp2_with (fail)
    refine HL.out.mono ?_
    rintro e wl ⟨n, rfl, hcl, hchl⟩
    have HT := Lib.hid (HS.out.draw hcl hchl)
    have HP := Lib.hid (sput_any q L xs fl v n wl (by omega) HT.out.low HT.out.gs)
    clear hcl hchl HL HS
    go_wp2_with (fail)
    refine HP.out.mono ?_
    rintro e wp ⟨x, ys, rfl, hz, hg⟩
    obtain ⟨v', h'⟩ := HT.out.put hg hz
    have HF := Lib.hid (h'.more (show K + 6 ≤ K + 40 * tN 0 by unfold tN; omega) (show 0 + 1 ≤ tN 0 by have := tN_pos 0; omega))
    clear h' hg hz HT HP
    go_wp2
    go_ret
    exact ⟨x, v', ys, rfl, HF.out⟩
  | succ d ih =>
    intro g q L K xs fl v w hd hK hx hs
    have hK : K + 40 * (2 * tN d + 1) ≤ 700000000 := hK
    have hx : xs.length + (2 * tN d + 1) ≤ 90000 := hx
    have hd1 : ((d + 1 : Nat) : Int) ≠ 0 := by omega
    have hd0 : (((d + 1 : Nat) : Int) == 0) = false := by simpa using hd1
    have hw1 : IntKind.i64.wrap (((d + 1 : Nat) : Int) - 1) = (d : Int) := by rw [IntWalk.i64_in _ (by omega)]; omega
    obtain ⟨VA, vc, rfl⟩ := hs.gs.form
    have hp1 := tN_pos d
    have k0 := hs.gs.c0
    by_cases h16 : 16 < xs.length
    · have h16i : (16 : Int) < (xs.length : Int) := by omega
      go_enter Try.func258, Try.ntmps258
      have HL := Lib.hid (leaf_any g (K) w (by omega) hs.cu)
      have HS := Lib.hid hs
      clear hs
      go_wp2_with (fail)
      refine HL.out.mono ?_
      rintro e wl ⟨n, rfl, hcl, hchl⟩
      have HT := Lib.hid (HS.out.draw hcl hchl)
      have HP := Lib.hid (sput_any q L xs fl _ n wl (by omega) HT.out.low HT.out.gs)
      clear hcl hchl HL HS
      go_wp2_with (fail)
      refine HP.out.mono ?_
      rintro e wp ⟨x, ys, rfl, hz, hg⟩
      obtain ⟨v', h'⟩ := HT.out.put hg hz
      have HF := Lib.hid (h'.more (show K + 6 ≤ K + 40 * tN (d + 1) by show _ ≤ K + 40 * (2 * tN d + 1); omega) (show 0 + 1 ≤ tN (d + 1) by have := tN_pos (d + 1); omega))
      clear h' hg hz HT HP
      go_wp2
      go_ret
      exact ⟨x, v', ys, rfl, HF.out⟩
    · have h16i : ¬ (16 : Int) < (xs.length : Int) := by omega
      have HO := Lib.hid (one_any g K 4 w (by omega) (by omega) hs.cu)
      have HO2 := Lib.hid fun (K : Nat) (W : World) (hK : K ≤ 900000000) (hc : Cur W g K) => one_any g K 5 W hK (by omega) hc
      have HS0 := Lib.hid hs
      clear hs
      go_enter Try.func258, Try.ntmps258
      go_wp2_with (fail)
      refine HO.out.mono ?_
      rintro e w1 ⟨b, rfl, hc1, hch1⟩
      have hs := HS0.out.draw hc1 hch1
      clear hc1 hch1 HS0 HO k0
      cases b
      rotate_left 1
      · have HL := Lib.hid (leaf_any g (K + 2) w1 (by omega) hs.cu)
        have HS := Lib.hid hs
        clear hs
        go_wp2_with (fail)
        refine HL.out.mono ?_
        rintro e wl ⟨n, rfl, hcl, hchl⟩
        have HT := Lib.hid (HS.out.draw hcl hchl)
        have HP := Lib.hid (sput_any q L xs fl _ n wl (by omega) HT.out.low HT.out.gs)
        clear hcl hchl HL HS
        go_wp2_with (fail)
        refine HP.out.mono ?_
        rintro e wp ⟨x, ys, rfl, hz, hg⟩
        obtain ⟨v', h'⟩ := HT.out.put hg hz
        have HF := Lib.hid (h'.more (show K + 2 + 6 ≤ K + 40 * tN (d + 1) by show _ ≤ K + 40 * (2 * tN d + 1); omega) (show 0 + 1 ≤ tN (d + 1) by have := tN_pos (d + 1); omega))
        clear h' hg hz HT HP
        go_wp2
        go_ret
        exact ⟨x, v', ys, rfl, HF.out⟩
      · have HT1 := Lib.hid hs
        clear hs
        go_wp2_with (fail)
        refine (HO2.out (K + 2) w1 (by omega) HT1.out.cu).mono ?_
        rintro e w2 ⟨b, rfl, hc2, hch2⟩
        have HT2 := Lib.hid (HT1.out.draw hc2 hch2)
        clear hc2 hch2 HT1 HO2
        cases b
        · obtain ⟨k1, k2, k3, k4⟩ := lit_cur HT2.out.cu (Chg.refl g (g + 1) w2) (.cells (opList.flatMap encD).toArray 9)
          have hO := Lib.hid (of_any g (K + 4) w2.heap.size (w2.heap.size + 1) (some ⟨w2.heap.size, 0, none⟩) 10 10 opList _ rfl (by omega) k1 (by decide) (by decide) (lit_ss w2 opList) k3 k4)
          have HB2 := Lib.hid ((Below.refl w2.heap.size w2).alloc (Nat.le_refl _) (.cells (opList.flatMap encD).toArray 9))
          clear k1 k2 k3 k4
          rw [opsT_cells] at hO HB2
          have HT3 := Lib.hid (HT2.out.below HB2.out)
          clear HT2 HB2
          go_wp2_with (fail)
          refine (exOps_any w2).mono ?_
          rintro e wo ⟨rfl, rfl⟩
          go_wp2_with (fail)
          refine hO.out.mono ?_
          rintro e w3 ⟨s, rfl, _, hc3, hch3⟩
          have HT4 := Lib.hid (HT3.out.draw hc3 hch3)
          clear hc3 hch3 HT3 hO
          have B5 := (Below.refl w3.heap.size w3).alloc (Nat.le_refl _) (.cells #[.string s, .int .i64 0, .int .i64 0, .int .i64 0] 40)
          have HT5 := Lib.hid (HT4.out.below B5)
          have hX5 : Hid (XN (w3.alloc (.cells #[.string s, .int .i64 0, .int .i64 0, .int .i64 0] 40)) w3.heap.size ⟨s, 0, 0, 0⟩) := xn_new w3 ⟨s, 0, 0, 0⟩
          have hq3 := Lib.hid HT4.out.gs.lt
          have hs3 := Lib.hid HT4.out.fr.size
          have hgq := Lib.hid HT4.out.lt.1
          have ho3 : Hid ((Value.slice VA xs.length vc).ownBlock ≠ some w3.heap.size) := fun e => by have := (HT4.out.gs.own _ e).2; omega
          clear B5 HT4
          go_upto_region 7 with fail
          generalize w3.alloc (.cells #[.string s, .int .i64 0, .int .i64 0, .int .i64 0] 40) = W5 at *
          have HC := Lib.hid (ih g q L (K + 4 + 2) xs fl (Value.slice VA xs.length vc) W5 (by omega) (by omega) (by have := HT5.out.le.2; omega) (TS9.refl HT5.out.gs HT5.out.cu ⟨HT5.out.lt.1, HT5.out.lt.2.1, HT5.out.low⟩))
          go_wp2_with (fail)
          refine HC.out.mono ?_
          rintro e w6 ⟨x1, v1, ys1, rfl, h6⟩
          clear HC
          have hX6 := Lib.hid (xn_frK hX5.out h6.fr (fun e => by have := hq3.out; have := hgq.out; omega) ho3.out)
          have ho6 : Hid (v1.ownBlock ≠ some w3.heap.size) := fun e => by
            rcases h6.ow _ e with e2 | e2
            · exact ho3.out e2
            · have := hX5.out.lt; omega
          have HT6 := Lib.hid (HT5.out.trans h6)
          clear h6 HT5 hX5 ho3
          obtain ⟨y0, y1, y2, y3⟩ := hX6.out.cells
          have p1 := hX6.out.fz 1
          have hX7 := Lib.hid (hX6.out.setA x1)
          have HT7 := Lib.hid (HT6.out.far hs3.out hq3.out ho6.out 1 (.int .i64 x1))
          clear HT6 hX6
          have hle7 := Lib.hid HT7.out.le.2
          have HC := Lib.hid (ih g q L (K + 4 + 2 + 40 * tN d) ys1 fl v1 (w6.setCell ⟨w3.heap.size, 1, none⟩ (.int .i64 x1)) (by omega) (by omega) (by have := HT7.out.le.2; omega) (TS9.refl HT7.out.gs HT7.out.cu ⟨HT7.out.lt.1, HT7.out.lt.2.1, HT7.out.low⟩))
          go_wp2_with (fail)
          refine HC.out.mono ?_
          rintro e w8 ⟨x2, v2, ys2, rfl, h8⟩
          clear HC
          have hX8 := Lib.hid (xn_frK hX7.out h8.fr (fun e => by have := hq3.out; have := hgq.out; omega) ho6.out)
          have ho8 : Hid (v2.ownBlock ≠ some w3.heap.size) := fun e => by
            rcases h8.ow _ e with e2 | e2
            · exact ho6.out e2
            · have := hX7.out.lt; omega
          have HT8 := Lib.hid (HT7.out.trans h8)
          clear h8 HT7 hX7 ho6 y0 y1 y2 y3 p1
          obtain ⟨y0, y1, y2, y3⟩ := hX8.out.cells
          have p1 := hX8.out.fz 2
          have hX9 := Lib.hid (hX8.out.setB x2)
          have HT9 := Lib.hid (HT8.out.far hs3.out hq3.out ho8.out 2 (.int .i64 x2))
          clear HT8 hX8
          obtain ⟨z0, z1, z2, z3⟩ := hX9.out.cells
          simp only at z0 z1 z2 z3
          have hle9 := HT9.out.le.2
          have HP := Lib.hid (sput_any q L ys2 fl v2 ⟨s, x1, x2, 0⟩ (w8.setCell ⟨w3.heap.size, 2, none⟩ (.int .i64 x2)) (by omega) HT9.out.low HT9.out.gs)
          clear hle9
          go_wp2_with (fail)
          refine HP.out.mono ?_
          rintro e wp ⟨x, ys, rfl, hz, hg⟩
          obtain ⟨v', h'⟩ := HT9.out.put hg hz
          have HF := Lib.hid (h'.more (show _ ≤ K + 40 * (2 * tN d + 1) by omega) (show _ ≤ 2 * tN d + 1 by omega))
          clear h' hg hz HT9 HP
          go_wp2
          go_ret
          exact ⟨x, v', ys, rfl, HF.out⟩
        · obtain ⟨k1, k2, k3, k4⟩ := lit_cur HT2.out.cu (Chg.refl g (g + 1) w2) (.cells (ops2.flatMap encD).toArray 9)
          have hO := Lib.hid (of_any g (K + 4) w2.heap.size (w2.heap.size + 1) (some ⟨w2.heap.size, 0, none⟩) 2 2 ops2 _ rfl (by omega) k1 (by decide) (by decide) (lit_ss w2 ops2) k3 k4)
          have HB2 := Lib.hid ((Below.refl w2.heap.size w2).alloc (Nat.le_refl _) (.cells (ops2.flatMap encD).toArray 9))
          clear k1 k2 k3 k4
          rw [ops2_cells] at hO HB2
          have HT3 := Lib.hid (HT2.out.below HB2.out)
          clear HT2 HB2
          go_wp2_with (fail)
          refine hO.out.mono ?_
          rintro e w3 ⟨s, rfl, _, hc3, hch3⟩
          have HT4 := Lib.hid (HT3.out.draw hc3 hch3)
          clear hc3 hch3 HT3 hO
          have hq3 := Lib.hid HT4.out.gs.lt
          have HC := Lib.hid (ih g q L (K + 4 + 2) xs fl (Value.slice VA xs.length vc) w3 (by omega) (by omega) (by have := HT4.out.le.2; omega) (TS9.refl HT4.out.gs HT4.out.cu ⟨HT4.out.lt.1, HT4.out.lt.2.1, HT4.out.low⟩))
          go_wp2_with (fail)
          refine HC.out.mono ?_
          rintro e w6 ⟨x1, v1, ys1, rfl, h6⟩
          clear HC
          have HT6 := Lib.hid (HT4.out.trans h6)
          clear h6 HT4
          have HT7 := Lib.hid (HT6.out.below ((Below.refl w6.heap.size w6).alloc (Nat.le_refl _) (.cells #[.string s, .int .i64 x1, .int .i64 0, .int .i64 0] 40)))
          have hX7 : Hid (XN (w6.alloc (.cells #[.string s, .int .i64 x1, .int .i64 0, .int .i64 0] 40)) w6.heap.size ⟨s, x1, 0, 0⟩) := xn_new w6 ⟨s, x1, 0, 0⟩
          obtain ⟨z0, z1, z2, z3⟩ := hX7.out.cells
          simp only at z0 z1 z2 z3
          have hle9 := HT7.out.le.2
          have HP := Lib.hid (sput_any q L ys1 fl v1 ⟨s, x1, 0, 0⟩ (w6.alloc (.cells #[.string s, .int .i64 x1, .int .i64 0, .int .i64 0] 40)) (by omega) HT7.out.low HT7.out.gs)
          clear hle9 HT6
          go_wp2_with (fail)
          refine HP.out.mono ?_
          rintro e wp ⟨x, ys, rfl, hz, hg⟩
          obtain ⟨v', h'⟩ := HT7.out.put hg hz
          have HF := Lib.hid (h'.more (show _ ≤ K + 40 * (2 * tN d + 1) by omega) (show _ ≤ 2 * tN d + 1 by omega))
          clear h' hg hz HT7 HP
          go_wp2
          go_ret
          exact ⟨x, v', ys, rfl, HF.out⟩
end Go.Proofs.Ytmhdijklindipaa

/- Drawn instructions, and what is near one. -/
namespace Go.Proofs.Ytmhdijklindipaa
open Go.RowKit
set_option linter.unusedVariables false
set_option maxRecDepth 100000

def an1 : List Int := [-1, 6]
def an2 : List Int := [-1, 0, 6, 4611686018427387904]
def an3 : List Int := [-1, 0, 1, 6]
def an4 : List Int := [-1, 0, 1, 3, 4, 5, 6, 63, 64]
def ops5 : List ByteArray := [⟨#[]⟩, ⟨#[99,111,110,115,116]⟩, ⟨#[110,111,112]⟩, ⟨#[115,101,116]⟩, ⟨#[108,101,97]⟩]
theorem ops5_size : ∀ s ∈ ops5, s.size ≤ 100 := by decide
theorem ops5_cells : (ops5.flatMap encD).toArray = #[.string ⟨#[]⟩, .string ⟨#[99,111,110,115,116]⟩, .string ⟨#[110,111,112]⟩, .string ⟨#[115,101,116]⟩, .string ⟨#[108,101,97]⟩] := rfl

set_option maxHeartbeats 16000000 in
theorem anyInstr_any (g K : Nat) (w : World) (hK : K ≤ 600000000) (hc : Cur w g K) :
    Calls Try.prog 154 #[.pointer (some ⟨g, 0, none⟩)] w (DrX w g (K + 18)) := by
  have HP := Lib.hid fun (K : Nat) (n : Int) (W : World) (hK : K ≤ 900000000) (hn : n ≤ 10000) (hc : Cur W g K) => pick_any g K n W hK hn hc
  have a0 := (Below.refl w.heap.size w).alloc (Nat.le_refl _) (.cells #[.string ⟨#[]⟩, .int .i64 0, .int .i64 0, .int .i64 0, .int .i64 0] 56)
  have hgw := hc.lt
  obtain ⟨gR, hgR⟩ : ∃ x, x = w.heap.size := ⟨_, rfl⟩
  have hY0 : XB (w.alloc (.cells #[.string ⟨#[]⟩, .int .i64 0, .int .i64 0, .int .i64 0, .int .i64 0] 56)) gR ⟨ByteArray.empty, 0, 0, 0, 0⟩ := by rw [hgR]; exact heap_alloc_new w _
  have hc0 := hc.below a0
  have hh0 : Chg g (g + 1) w (w.alloc (.cells #[.string ⟨#[]⟩, .int .i64 0, .int .i64 0, .int .i64 0, .int .i64 0] 56)) := (Chg.refl _ _ _).alloc _
  have hgg : Hid (g < gR) := by unfold Hid; omega
  have hRw : Hid (w.heap.size ≤ gR) := by unfold Hid; omega
  have eW : w.heap.size = gR := hgR.symm
  have hEW := Lib.hid eW
  clear hgR a0 hc
  go_enter Try.func154, Try.ntmps154
  go_upto_region 1 with fail
  generalize w.alloc (.cells #[.string ⟨#[]⟩, .int .i64 0, .int .i64 0, .int .i64 0, .int .i64 0] 56) = W0 at *
  try rw [eW]
  clear eW
  have HI := Lib.hid (instr_any g K 6 W0 (by omega) (by omega) hc0)
  have hH0 := Lib.hid hh0
  have hY1 := Lib.hid hY0
  clear hc0 hh0 hY0
  go_wp2_with (fail)
  with_reducible refine HI.out.mono ?_
  rintro e w2 ⟨⟨s, d, a, b, m⟩, rfl, hsz', hcu, hch⟩
  have hsz := Lib.hid hsz'
  dsimp only at hsz ⊢
  clear hsz'
  have hX2 := Lib.hid (show XB (w2.alloc (.cells #[.string s, .int .i64 d, .int .i64 a, .int .i64 b, .int .i64 m] 56)) w2.heap.size ⟨s, d, a, b, m⟩ from heap_alloc_new w2 _)
  have a2 := (Below.refl w2.heap.size w2).alloc (Nat.le_refl _) (.cells #[.string s, .int .i64 d, .int .i64 a, .int .i64 b, .int .i64 m] 56)
  have hY2 := CB.chgD (show CB 56 W0 gR (In.enc ⟨ByteArray.empty, 0, 0, 0, 0⟩) from hY1.out) hch (.inr (by have := hgg.out; omega))
  have hYl := CB.lt hY2
  have hY3 : Hid (XB (w2.alloc (.cells #[.string s, .int .i64 d, .int .i64 a, .int .i64 b, .int .i64 m] 56)) gR ⟨ByteArray.empty, 0, 0, 0, 0⟩) := CB.below hY2 a2 hYl
  have hC3 := Lib.hid (hcu.below a2)
  have hH3 := Lib.hid ((hH0.out.trans hch).alloc (.cells #[.string s, .int .i64 d, .int .i64 a, .int .i64 b, .int .i64 m] 56))
  obtain ⟨gB, hgB⟩ : ∃ x, x = w2.heap.size := ⟨_, rfl⟩
  have hBR : Hid (gR < gB) := by unfold Hid; omega
  have hX3 : Hid (XB (w2.alloc (.cells #[.string s, .int .i64 d, .int .i64 a, .int .i64 b, .int .i64 m] 56)) gB ⟨s, d, a, b, m⟩) := by rw [hgB]; exact hX2.out
  have eB := hgB.symm
  clear hgB hX2 a2 hY2 hYl hcu hch hH0 hY1
  go_wp2_with (fail)
  generalize w2.alloc (.cells #[.string s, .int .i64 d, .int .i64 a, .int .i64 b, .int .i64 m] 56) = W3 at *
  try rw [eB]
  clear eB
  with_reducible refine (HP.out (K + 14) 14 W3 (by omega) (by omega) hC3.out).mono ?_
  rintro e w4 ⟨p, rfl, hp, hcu, hch⟩
  have hX4 := Lib.hid (CB.chgD (show CB 56 W3 gB (In.enc ⟨s, d, a, b, m⟩) from hX3.out) hch (.inr (by have := hgg.out; have := hBR.out; omega)))
  have hY4 := Lib.hid (CB.chgD (show CB 56 W3 gR (In.enc ⟨ByteArray.empty, 0, 0, 0, 0⟩) from hY3.out) hch (.inr (by have := hgg.out; omega)))
  have hC4 := Lib.hid hcu
  have hH4 := Lib.hid (hH3.out.trans hch)
  clear hcu hch hX3 hY3 hC3 hH3
  have hP := Lib.hid hp
  clear hp
  by_cases q0 : p = 0
  · subst q0
    have hIS := lit_is w4 an1
    have al := (Below.refl w4.heap.size w4).alloc (Nat.le_refl _) (.cells (intCells an1) 3)
    have hX5 := Lib.hid (CB.below (show CB 56 w4 gB (In.enc ⟨s, d, a, b, m⟩) from hX4.out) al (CB.lt hX4.out))
    have hY5 := Lib.hid (CB.below (show CB 56 w4 gR (In.enc ⟨ByteArray.empty, 0, 0, 0, 0⟩) from hY4.out) al (CB.lt hY4.out))
    have hC5 := Lib.hid (hC4.out.below al)
    have hH5 := Lib.hid (hH4.out.alloc (.cells (intCells an1) 3))
    have hgl := hC4.out.lt
    clear al hX4 hY4 hC4 hH4
    have hM := Lib.hid (among_any g (K + 16) w4.heap.size (w4.heap.size + 1) (some ⟨w4.heap.size, 0, none⟩) 2 2 an1 _ rfl (by omega) hC5.out (by decide) (by decide) hIS hgl (by simp))
    clear hIS hgl
    go_wp2_with (fail)
    refine hM.out.mono ?_
    rintro e w6 ⟨v, rfl, _, hcu, hch⟩
    have hX6 := Lib.hid (CB.chgD (show CB 56 (w4.alloc (.cells (intCells an1) 3)) gB (In.enc ⟨s, d, a, b, m⟩) from hX5.out) hch (.inr (by have := hgg.out; have := hBR.out; omega)))
    have hY6 := Lib.hid (CB.chgD (show CB 56 (w4.alloc (.cells (intCells an1) 3)) gR (In.enc ⟨ByteArray.empty, 0, 0, 0, 0⟩) from hY5.out) hch (.inr (by have := hgg.out; omega)))
    have hC6 := Lib.hid hcu
    have hH6 := Lib.hid (hH5.out.trans hch)
    clear hcu hch hX5 hY5 hC5 hH5
    clear hM
    have f7 := CB.frozen (show CB 56 w6 gB (In.enc ⟨s, d, a, b, m⟩) from hX6.out) 1
    have o7 := (CB.cell (show CB 56 w6 gB (In.enc ⟨s, d, a, b, m⟩) from hX6.out) 1).trans (rfl : _ = some (Value.int .i64 (d)))
    have hX7 : Hid (XB (w6.setCell ⟨gB, 1, none⟩ (.int .i64 (v))) gB ⟨s, (v), a, b, m⟩) := CB.set (show CB 56 w6 gB (In.enc ⟨s, d, a, b, m⟩) from hX6.out) 1 (.int .i64 (v))
    have hY7 : Hid (XB (w6.setCell ⟨gB, 1, none⟩ (.int .i64 (v))) gR ⟨ByteArray.empty, 0, 0, 0, 0⟩) := CB.farD (show CB 56 w6 gR (In.enc ⟨ByteArray.empty, 0, 0, 0, 0⟩) from hY6.out) (p := ⟨gB, 1, none⟩) (by show gB ≠ gR; have := hBR.out; omega) _
    have hC7 : Hid (Cur (w6.setCell ⟨gB, 1, none⟩ (.int .i64 (v))) g (K + 18)) := hC6.out.far (p := ⟨gB, 1, none⟩) (by show g < gB; have := hgg.out; have := hBR.out; omega) _
    have hH7 : Hid (Chg g (g + 1) w (w6.setCell ⟨gB, 1, none⟩ (.int .i64 (v)))) := hH6.out.newD (p := ⟨gB, 1, none⟩) (by show w.heap.size ≤ gB; have := hRw.out; have := hBR.out; omega) _
    clear hX6 hY6 hC6 hH6
    obtain ⟨x0, x1, x2, x3, x4⟩ := XB.cells hX7.out
    simp only at x0 x1 x2 x3 x4
    have p0 := CB.frozen (show CB 56 (w6.setCell ⟨gB, 1, none⟩ (.int .i64 (v))) gR (In.enc ⟨ByteArray.empty, 0, 0, 0, 0⟩) from hY7.out) 0
    have p1 := CB.frozen (show CB 56 (w6.setCell ⟨gB, 1, none⟩ (.int .i64 (v))) gR (In.enc ⟨ByteArray.empty, 0, 0, 0, 0⟩) from hY7.out) 1
    have p2 := CB.frozen (show CB 56 (w6.setCell ⟨gB, 1, none⟩ (.int .i64 (v))) gR (In.enc ⟨ByteArray.empty, 0, 0, 0, 0⟩) from hY7.out) 2
    have p3 := CB.frozen (show CB 56 (w6.setCell ⟨gB, 1, none⟩ (.int .i64 (v))) gR (In.enc ⟨ByteArray.empty, 0, 0, 0, 0⟩) from hY7.out) 3
    have p4 := CB.frozen (show CB 56 (w6.setCell ⟨gB, 1, none⟩ (.int .i64 (v))) gR (In.enc ⟨ByteArray.empty, 0, 0, 0, 0⟩) from hY7.out) 4
    obtain ⟨y0, y1, y2, y3, y4⟩ := XB.cells hY7.out
    simp only at y0 y1 y2 y3 y4
    have hne : ¬ gR = gB := by have := hBR.out; omega
    have hne2 : ¬ gB = gR := by have := hBR.out; omega
    go_wp2
    refine bodyPost_ret (v := .agg #[.string s, .int .i64 ((v)), .int .i64 (a), .int .i64 (b), .int .i64 (m)]) ?_ rfl ⟨⟨s, (v), a, b, m⟩, rfl, hsz.out, ?_, ?_⟩
    · obtain ⟨z0, z1, z2, z3, z4⟩ := (XB.five' ⟨s, (v), a, b, m⟩ hY7.out).cells
      generalize (World.setCell _ ⟨gR, 4, none⟩ _) = W at z0 z1 z2 z3 z4 ⊢
      simp only at z0 z1 z2 z3 z4
      simp [results, Try.results154, go_sem, z0, z1, z2, z3, z4]
    · have hcu := hC7.out.more (show K + 18 ≤ K + 18 by omega)
      exact ((((hcu.far (p := ⟨gR, 0, none⟩) hgg.out _).far (p := ⟨gR, 1, none⟩) hgg.out _).far (p := ⟨gR, 2, none⟩) hgg.out _).far (p := ⟨gR, 3, none⟩) hgg.out _).far (p := ⟨gR, 4, none⟩) hgg.out _
    · exact ((((hH7.out.newD (p := ⟨gR, 0, none⟩) hRw.out _).newD (p := ⟨gR, 1, none⟩) hRw.out _).newD (p := ⟨gR, 2, none⟩) hRw.out _).newD (p := ⟨gR, 3, none⟩) hRw.out _).newD (p := ⟨gR, 4, none⟩) hRw.out _
  by_cases q1 : p = 1
  · subst q1
    have hIS := lit_is w4 an2
    have al := (Below.refl w4.heap.size w4).alloc (Nat.le_refl _) (.cells (intCells an2) 3)
    have hX5 := Lib.hid (CB.below (show CB 56 w4 gB (In.enc ⟨s, d, a, b, m⟩) from hX4.out) al (CB.lt hX4.out))
    have hY5 := Lib.hid (CB.below (show CB 56 w4 gR (In.enc ⟨ByteArray.empty, 0, 0, 0, 0⟩) from hY4.out) al (CB.lt hY4.out))
    have hC5 := Lib.hid (hC4.out.below al)
    have hH5 := Lib.hid (hH4.out.alloc (.cells (intCells an2) 3))
    have hgl := hC4.out.lt
    clear al hX4 hY4 hC4 hH4
    have hM := Lib.hid (among_any g (K + 16) w4.heap.size (w4.heap.size + 1) (some ⟨w4.heap.size, 0, none⟩) 4 4 an2 _ rfl (by omega) hC5.out (by decide) (by decide) hIS hgl (by simp))
    clear hIS hgl
    go_wp2_with (fail)
    refine hM.out.mono ?_
    rintro e w6 ⟨v, rfl, _, hcu, hch⟩
    have hX6 := Lib.hid (CB.chgD (show CB 56 (w4.alloc (.cells (intCells an2) 3)) gB (In.enc ⟨s, d, a, b, m⟩) from hX5.out) hch (.inr (by have := hgg.out; have := hBR.out; omega)))
    have hY6 := Lib.hid (CB.chgD (show CB 56 (w4.alloc (.cells (intCells an2) 3)) gR (In.enc ⟨ByteArray.empty, 0, 0, 0, 0⟩) from hY5.out) hch (.inr (by have := hgg.out; omega)))
    have hC6 := Lib.hid hcu
    have hH6 := Lib.hid (hH5.out.trans hch)
    clear hcu hch hX5 hY5 hC5 hH5
    clear hM
    have f7 := CB.frozen (show CB 56 w6 gB (In.enc ⟨s, d, a, b, m⟩) from hX6.out) 2
    have o7 := (CB.cell (show CB 56 w6 gB (In.enc ⟨s, d, a, b, m⟩) from hX6.out) 2).trans (rfl : _ = some (Value.int .i64 (a)))
    have hX7 : Hid (XB (w6.setCell ⟨gB, 2, none⟩ (.int .i64 (v))) gB ⟨s, d, (v), b, m⟩) := CB.set (show CB 56 w6 gB (In.enc ⟨s, d, a, b, m⟩) from hX6.out) 2 (.int .i64 (v))
    have hY7 : Hid (XB (w6.setCell ⟨gB, 2, none⟩ (.int .i64 (v))) gR ⟨ByteArray.empty, 0, 0, 0, 0⟩) := CB.farD (show CB 56 w6 gR (In.enc ⟨ByteArray.empty, 0, 0, 0, 0⟩) from hY6.out) (p := ⟨gB, 2, none⟩) (by show gB ≠ gR; have := hBR.out; omega) _
    have hC7 : Hid (Cur (w6.setCell ⟨gB, 2, none⟩ (.int .i64 (v))) g (K + 18)) := hC6.out.far (p := ⟨gB, 2, none⟩) (by show g < gB; have := hgg.out; have := hBR.out; omega) _
    have hH7 : Hid (Chg g (g + 1) w (w6.setCell ⟨gB, 2, none⟩ (.int .i64 (v)))) := hH6.out.newD (p := ⟨gB, 2, none⟩) (by show w.heap.size ≤ gB; have := hRw.out; have := hBR.out; omega) _
    clear hX6 hY6 hC6 hH6
    obtain ⟨x0, x1, x2, x3, x4⟩ := XB.cells hX7.out
    simp only at x0 x1 x2 x3 x4
    have p0 := CB.frozen (show CB 56 (w6.setCell ⟨gB, 2, none⟩ (.int .i64 (v))) gR (In.enc ⟨ByteArray.empty, 0, 0, 0, 0⟩) from hY7.out) 0
    have p1 := CB.frozen (show CB 56 (w6.setCell ⟨gB, 2, none⟩ (.int .i64 (v))) gR (In.enc ⟨ByteArray.empty, 0, 0, 0, 0⟩) from hY7.out) 1
    have p2 := CB.frozen (show CB 56 (w6.setCell ⟨gB, 2, none⟩ (.int .i64 (v))) gR (In.enc ⟨ByteArray.empty, 0, 0, 0, 0⟩) from hY7.out) 2
    have p3 := CB.frozen (show CB 56 (w6.setCell ⟨gB, 2, none⟩ (.int .i64 (v))) gR (In.enc ⟨ByteArray.empty, 0, 0, 0, 0⟩) from hY7.out) 3
    have p4 := CB.frozen (show CB 56 (w6.setCell ⟨gB, 2, none⟩ (.int .i64 (v))) gR (In.enc ⟨ByteArray.empty, 0, 0, 0, 0⟩) from hY7.out) 4
    obtain ⟨y0, y1, y2, y3, y4⟩ := XB.cells hY7.out
    simp only at y0 y1 y2 y3 y4
    have hne : ¬ gR = gB := by have := hBR.out; omega
    have hne2 : ¬ gB = gR := by have := hBR.out; omega
    go_wp2
    refine bodyPost_ret (v := .agg #[.string s, .int .i64 (d), .int .i64 ((v)), .int .i64 (b), .int .i64 (m)]) ?_ rfl ⟨⟨s, d, (v), b, m⟩, rfl, hsz.out, ?_, ?_⟩
    · obtain ⟨z0, z1, z2, z3, z4⟩ := (XB.five' ⟨s, d, (v), b, m⟩ hY7.out).cells
      generalize (World.setCell _ ⟨gR, 4, none⟩ _) = W at z0 z1 z2 z3 z4 ⊢
      simp only at z0 z1 z2 z3 z4
      simp [results, Try.results154, go_sem, z0, z1, z2, z3, z4]
    · have hcu := hC7.out.more (show K + 18 ≤ K + 18 by omega)
      exact ((((hcu.far (p := ⟨gR, 0, none⟩) hgg.out _).far (p := ⟨gR, 1, none⟩) hgg.out _).far (p := ⟨gR, 2, none⟩) hgg.out _).far (p := ⟨gR, 3, none⟩) hgg.out _).far (p := ⟨gR, 4, none⟩) hgg.out _
    · exact ((((hH7.out.newD (p := ⟨gR, 0, none⟩) hRw.out _).newD (p := ⟨gR, 1, none⟩) hRw.out _).newD (p := ⟨gR, 2, none⟩) hRw.out _).newD (p := ⟨gR, 3, none⟩) hRw.out _).newD (p := ⟨gR, 4, none⟩) hRw.out _
  by_cases q2 : p = 2
  · subst q2
    have hIS := lit_is w4 an3
    have al := (Below.refl w4.heap.size w4).alloc (Nat.le_refl _) (.cells (intCells an3) 3)
    have hX5 := Lib.hid (CB.below (show CB 56 w4 gB (In.enc ⟨s, d, a, b, m⟩) from hX4.out) al (CB.lt hX4.out))
    have hY5 := Lib.hid (CB.below (show CB 56 w4 gR (In.enc ⟨ByteArray.empty, 0, 0, 0, 0⟩) from hY4.out) al (CB.lt hY4.out))
    have hC5 := Lib.hid (hC4.out.below al)
    have hH5 := Lib.hid (hH4.out.alloc (.cells (intCells an3) 3))
    have hgl := hC4.out.lt
    clear al hX4 hY4 hC4 hH4
    have hM := Lib.hid (among_any g (K + 16) w4.heap.size (w4.heap.size + 1) (some ⟨w4.heap.size, 0, none⟩) 4 4 an3 _ rfl (by omega) hC5.out (by decide) (by decide) hIS hgl (by simp))
    clear hIS hgl
    go_wp2_with (fail)
    refine hM.out.mono ?_
    rintro e w6 ⟨v, rfl, _, hcu, hch⟩
    have hX6 := Lib.hid (CB.chgD (show CB 56 (w4.alloc (.cells (intCells an3) 3)) gB (In.enc ⟨s, d, a, b, m⟩) from hX5.out) hch (.inr (by have := hgg.out; have := hBR.out; omega)))
    have hY6 := Lib.hid (CB.chgD (show CB 56 (w4.alloc (.cells (intCells an3) 3)) gR (In.enc ⟨ByteArray.empty, 0, 0, 0, 0⟩) from hY5.out) hch (.inr (by have := hgg.out; omega)))
    have hC6 := Lib.hid hcu
    have hH6 := Lib.hid (hH5.out.trans hch)
    clear hcu hch hX5 hY5 hC5 hH5
    clear hM
    have f7 := CB.frozen (show CB 56 w6 gB (In.enc ⟨s, d, a, b, m⟩) from hX6.out) 3
    have o7 := (CB.cell (show CB 56 w6 gB (In.enc ⟨s, d, a, b, m⟩) from hX6.out) 3).trans (rfl : _ = some (Value.int .i64 (b)))
    have hX7 : Hid (XB (w6.setCell ⟨gB, 3, none⟩ (.int .i64 (v))) gB ⟨s, d, a, (v), m⟩) := CB.set (show CB 56 w6 gB (In.enc ⟨s, d, a, b, m⟩) from hX6.out) 3 (.int .i64 (v))
    have hY7 : Hid (XB (w6.setCell ⟨gB, 3, none⟩ (.int .i64 (v))) gR ⟨ByteArray.empty, 0, 0, 0, 0⟩) := CB.farD (show CB 56 w6 gR (In.enc ⟨ByteArray.empty, 0, 0, 0, 0⟩) from hY6.out) (p := ⟨gB, 3, none⟩) (by show gB ≠ gR; have := hBR.out; omega) _
    have hC7 : Hid (Cur (w6.setCell ⟨gB, 3, none⟩ (.int .i64 (v))) g (K + 18)) := hC6.out.far (p := ⟨gB, 3, none⟩) (by show g < gB; have := hgg.out; have := hBR.out; omega) _
    have hH7 : Hid (Chg g (g + 1) w (w6.setCell ⟨gB, 3, none⟩ (.int .i64 (v)))) := hH6.out.newD (p := ⟨gB, 3, none⟩) (by show w.heap.size ≤ gB; have := hRw.out; have := hBR.out; omega) _
    clear hX6 hY6 hC6 hH6
    obtain ⟨x0, x1, x2, x3, x4⟩ := XB.cells hX7.out
    simp only at x0 x1 x2 x3 x4
    have p0 := CB.frozen (show CB 56 (w6.setCell ⟨gB, 3, none⟩ (.int .i64 (v))) gR (In.enc ⟨ByteArray.empty, 0, 0, 0, 0⟩) from hY7.out) 0
    have p1 := CB.frozen (show CB 56 (w6.setCell ⟨gB, 3, none⟩ (.int .i64 (v))) gR (In.enc ⟨ByteArray.empty, 0, 0, 0, 0⟩) from hY7.out) 1
    have p2 := CB.frozen (show CB 56 (w6.setCell ⟨gB, 3, none⟩ (.int .i64 (v))) gR (In.enc ⟨ByteArray.empty, 0, 0, 0, 0⟩) from hY7.out) 2
    have p3 := CB.frozen (show CB 56 (w6.setCell ⟨gB, 3, none⟩ (.int .i64 (v))) gR (In.enc ⟨ByteArray.empty, 0, 0, 0, 0⟩) from hY7.out) 3
    have p4 := CB.frozen (show CB 56 (w6.setCell ⟨gB, 3, none⟩ (.int .i64 (v))) gR (In.enc ⟨ByteArray.empty, 0, 0, 0, 0⟩) from hY7.out) 4
    obtain ⟨y0, y1, y2, y3, y4⟩ := XB.cells hY7.out
    simp only at y0 y1 y2 y3 y4
    have hne : ¬ gR = gB := by have := hBR.out; omega
    have hne2 : ¬ gB = gR := by have := hBR.out; omega
    go_wp2
    refine bodyPost_ret (v := .agg #[.string s, .int .i64 (d), .int .i64 (a), .int .i64 ((v)), .int .i64 (m)]) ?_ rfl ⟨⟨s, d, a, (v), m⟩, rfl, hsz.out, ?_, ?_⟩
    · obtain ⟨z0, z1, z2, z3, z4⟩ := (XB.five' ⟨s, d, a, (v), m⟩ hY7.out).cells
      generalize (World.setCell _ ⟨gR, 4, none⟩ _) = W at z0 z1 z2 z3 z4 ⊢
      simp only at z0 z1 z2 z3 z4
      simp [results, Try.results154, go_sem, z0, z1, z2, z3, z4]
    · have hcu := hC7.out.more (show K + 18 ≤ K + 18 by omega)
      exact ((((hcu.far (p := ⟨gR, 0, none⟩) hgg.out _).far (p := ⟨gR, 1, none⟩) hgg.out _).far (p := ⟨gR, 2, none⟩) hgg.out _).far (p := ⟨gR, 3, none⟩) hgg.out _).far (p := ⟨gR, 4, none⟩) hgg.out _
    · exact ((((hH7.out.newD (p := ⟨gR, 0, none⟩) hRw.out _).newD (p := ⟨gR, 1, none⟩) hRw.out _).newD (p := ⟨gR, 2, none⟩) hRw.out _).newD (p := ⟨gR, 3, none⟩) hRw.out _).newD (p := ⟨gR, 4, none⟩) hRw.out _
  by_cases q3 : p = 3
  · subst q3
    have hIS := lit_is w4 an4
    have al := (Below.refl w4.heap.size w4).alloc (Nat.le_refl _) (.cells (intCells an4) 3)
    have hX5 := Lib.hid (CB.below (show CB 56 w4 gB (In.enc ⟨s, d, a, b, m⟩) from hX4.out) al (CB.lt hX4.out))
    have hY5 := Lib.hid (CB.below (show CB 56 w4 gR (In.enc ⟨ByteArray.empty, 0, 0, 0, 0⟩) from hY4.out) al (CB.lt hY4.out))
    have hC5 := Lib.hid (hC4.out.below al)
    have hH5 := Lib.hid (hH4.out.alloc (.cells (intCells an4) 3))
    have hgl := hC4.out.lt
    clear al hX4 hY4 hC4 hH4
    have hM := Lib.hid (among_any g (K + 16) w4.heap.size (w4.heap.size + 1) (some ⟨w4.heap.size, 0, none⟩) 9 9 an4 _ rfl (by omega) hC5.out (by decide) (by decide) hIS hgl (by simp))
    clear hIS hgl
    go_wp2_with (fail)
    refine hM.out.mono ?_
    rintro e w6 ⟨v, rfl, _, hcu, hch⟩
    have hX6 := Lib.hid (CB.chgD (show CB 56 (w4.alloc (.cells (intCells an4) 3)) gB (In.enc ⟨s, d, a, b, m⟩) from hX5.out) hch (.inr (by have := hgg.out; have := hBR.out; omega)))
    have hY6 := Lib.hid (CB.chgD (show CB 56 (w4.alloc (.cells (intCells an4) 3)) gR (In.enc ⟨ByteArray.empty, 0, 0, 0, 0⟩) from hY5.out) hch (.inr (by have := hgg.out; omega)))
    have hC6 := Lib.hid hcu
    have hH6 := Lib.hid (hH5.out.trans hch)
    clear hcu hch hX5 hY5 hC5 hH5
    clear hM
    have f7 := CB.frozen (show CB 56 w6 gB (In.enc ⟨s, d, a, b, m⟩) from hX6.out) 4
    have o7 := (CB.cell (show CB 56 w6 gB (In.enc ⟨s, d, a, b, m⟩) from hX6.out) 4).trans (rfl : _ = some (Value.int .i64 (m)))
    have hX7 : Hid (XB (w6.setCell ⟨gB, 4, none⟩ (.int .i64 (v))) gB ⟨s, d, a, b, (v)⟩) := CB.set (show CB 56 w6 gB (In.enc ⟨s, d, a, b, m⟩) from hX6.out) 4 (.int .i64 (v))
    have hY7 : Hid (XB (w6.setCell ⟨gB, 4, none⟩ (.int .i64 (v))) gR ⟨ByteArray.empty, 0, 0, 0, 0⟩) := CB.farD (show CB 56 w6 gR (In.enc ⟨ByteArray.empty, 0, 0, 0, 0⟩) from hY6.out) (p := ⟨gB, 4, none⟩) (by show gB ≠ gR; have := hBR.out; omega) _
    have hC7 : Hid (Cur (w6.setCell ⟨gB, 4, none⟩ (.int .i64 (v))) g (K + 18)) := hC6.out.far (p := ⟨gB, 4, none⟩) (by show g < gB; have := hgg.out; have := hBR.out; omega) _
    have hH7 : Hid (Chg g (g + 1) w (w6.setCell ⟨gB, 4, none⟩ (.int .i64 (v)))) := hH6.out.newD (p := ⟨gB, 4, none⟩) (by show w.heap.size ≤ gB; have := hRw.out; have := hBR.out; omega) _
    clear hX6 hY6 hC6 hH6
    obtain ⟨x0, x1, x2, x3, x4⟩ := XB.cells hX7.out
    simp only at x0 x1 x2 x3 x4
    have p0 := CB.frozen (show CB 56 (w6.setCell ⟨gB, 4, none⟩ (.int .i64 (v))) gR (In.enc ⟨ByteArray.empty, 0, 0, 0, 0⟩) from hY7.out) 0
    have p1 := CB.frozen (show CB 56 (w6.setCell ⟨gB, 4, none⟩ (.int .i64 (v))) gR (In.enc ⟨ByteArray.empty, 0, 0, 0, 0⟩) from hY7.out) 1
    have p2 := CB.frozen (show CB 56 (w6.setCell ⟨gB, 4, none⟩ (.int .i64 (v))) gR (In.enc ⟨ByteArray.empty, 0, 0, 0, 0⟩) from hY7.out) 2
    have p3 := CB.frozen (show CB 56 (w6.setCell ⟨gB, 4, none⟩ (.int .i64 (v))) gR (In.enc ⟨ByteArray.empty, 0, 0, 0, 0⟩) from hY7.out) 3
    have p4 := CB.frozen (show CB 56 (w6.setCell ⟨gB, 4, none⟩ (.int .i64 (v))) gR (In.enc ⟨ByteArray.empty, 0, 0, 0, 0⟩) from hY7.out) 4
    obtain ⟨y0, y1, y2, y3, y4⟩ := XB.cells hY7.out
    simp only at y0 y1 y2 y3 y4
    have hne : ¬ gR = gB := by have := hBR.out; omega
    have hne2 : ¬ gB = gR := by have := hBR.out; omega
    go_wp2
    refine bodyPost_ret (v := .agg #[.string s, .int .i64 (d), .int .i64 (a), .int .i64 (b), .int .i64 ((v))]) ?_ rfl ⟨⟨s, d, a, b, (v)⟩, rfl, hsz.out, ?_, ?_⟩
    · obtain ⟨z0, z1, z2, z3, z4⟩ := (XB.five' ⟨s, d, a, b, (v)⟩ hY7.out).cells
      generalize (World.setCell _ ⟨gR, 4, none⟩ _) = W at z0 z1 z2 z3 z4 ⊢
      simp only at z0 z1 z2 z3 z4
      simp [results, Try.results154, go_sem, z0, z1, z2, z3, z4]
    · have hcu := hC7.out.more (show K + 18 ≤ K + 18 by omega)
      exact ((((hcu.far (p := ⟨gR, 0, none⟩) hgg.out _).far (p := ⟨gR, 1, none⟩) hgg.out _).far (p := ⟨gR, 2, none⟩) hgg.out _).far (p := ⟨gR, 3, none⟩) hgg.out _).far (p := ⟨gR, 4, none⟩) hgg.out _
    · exact ((((hH7.out.newD (p := ⟨gR, 0, none⟩) hRw.out _).newD (p := ⟨gR, 1, none⟩) hRw.out _).newD (p := ⟨gR, 2, none⟩) hRw.out _).newD (p := ⟨gR, 3, none⟩) hRw.out _).newD (p := ⟨gR, 4, none⟩) hRw.out _
  by_cases q4 : p = 4
  · subst q4
    have hIS := lit_ss w4 ops5
    have al := (Below.refl w4.heap.size w4).alloc (Nat.le_refl _) (.cells (ops5.flatMap encD).toArray 9)
    have hX5 := Lib.hid (CB.below (show CB 56 w4 gB (In.enc ⟨s, d, a, b, m⟩) from hX4.out) al (CB.lt hX4.out))
    have hY5 := Lib.hid (CB.below (show CB 56 w4 gR (In.enc ⟨ByteArray.empty, 0, 0, 0, 0⟩) from hY4.out) al (CB.lt hY4.out))
    have hC5 := Lib.hid (hC4.out.below al)
    have hH5 := Lib.hid (hH4.out.alloc (.cells (ops5.flatMap encD).toArray 9))
    have hgl := hC4.out.lt
    clear al hX4 hY4 hC4 hH4
    have hM := Lib.hid (of_any g (K + 16) w4.heap.size (w4.heap.size + 1) (some ⟨w4.heap.size, 0, none⟩) 5 5 ops5 _ rfl (by omega) hC5.out (by decide) (by decide) hIS hgl (by simp))
    clear hIS hgl
    rw [ops5_cells] at hM hX5 hY5 hC5 hH5
    go_wp2_with (fail)
    with_reducible refine hM.out.mono ?_
    rintro e w6 ⟨v, rfl, hmem, hcu, hch⟩
    have hsv := Lib.hid (ops5_size v hmem)
    clear hmem
    have hX6 := Lib.hid (CB.chgD (show CB 56 (w4.alloc (.cells #[.string ⟨#[]⟩, .string ⟨#[99,111,110,115,116]⟩, .string ⟨#[110,111,112]⟩, .string ⟨#[115,101,116]⟩, .string ⟨#[108,101,97]⟩] 9)) gB (In.enc ⟨s, d, a, b, m⟩) from hX5.out) hch (.inr (by have := hgg.out; have := hBR.out; omega)))
    have hY6 := Lib.hid (CB.chgD (show CB 56 (w4.alloc (.cells #[.string ⟨#[]⟩, .string ⟨#[99,111,110,115,116]⟩, .string ⟨#[110,111,112]⟩, .string ⟨#[115,101,116]⟩, .string ⟨#[108,101,97]⟩] 9)) gR (In.enc ⟨ByteArray.empty, 0, 0, 0, 0⟩) from hY5.out) hch (.inr (by have := hgg.out; omega)))
    have hC6 := Lib.hid hcu
    have hH6 := Lib.hid (hH5.out.trans hch)
    clear hcu hch hX5 hY5 hC5 hH5
    clear hM
    have f7 := CB.frozen (show CB 56 w6 gB (In.enc ⟨s, d, a, b, m⟩) from hX6.out) 0
    have o7 := (CB.cell (show CB 56 w6 gB (In.enc ⟨s, d, a, b, m⟩) from hX6.out) 0).trans (rfl : _ = some (Value.string s))
    have hX7 : Hid (XB (w6.setCell ⟨gB, 0, none⟩ (.string v)) gB ⟨(v), d, a, b, m⟩) := CB.set (show CB 56 w6 gB (In.enc ⟨s, d, a, b, m⟩) from hX6.out) 0 (.string v)
    have hY7 : Hid (XB (w6.setCell ⟨gB, 0, none⟩ (.string v)) gR ⟨ByteArray.empty, 0, 0, 0, 0⟩) := CB.farD (show CB 56 w6 gR (In.enc ⟨ByteArray.empty, 0, 0, 0, 0⟩) from hY6.out) (p := ⟨gB, 0, none⟩) (by show gB ≠ gR; have := hBR.out; omega) _
    have hC7 : Hid (Cur (w6.setCell ⟨gB, 0, none⟩ (.string v)) g (K + 18)) := hC6.out.far (p := ⟨gB, 0, none⟩) (by show g < gB; have := hgg.out; have := hBR.out; omega) _
    have hH7 : Hid (Chg g (g + 1) w (w6.setCell ⟨gB, 0, none⟩ (.string v))) := hH6.out.newD (p := ⟨gB, 0, none⟩) (by show w.heap.size ≤ gB; have := hRw.out; have := hBR.out; omega) _
    clear hX6 hY6 hC6 hH6
    obtain ⟨x0, x1, x2, x3, x4⟩ := XB.cells hX7.out
    simp only at x0 x1 x2 x3 x4
    have p0 := CB.frozen (show CB 56 (w6.setCell ⟨gB, 0, none⟩ (.string v)) gR (In.enc ⟨ByteArray.empty, 0, 0, 0, 0⟩) from hY7.out) 0
    have p1 := CB.frozen (show CB 56 (w6.setCell ⟨gB, 0, none⟩ (.string v)) gR (In.enc ⟨ByteArray.empty, 0, 0, 0, 0⟩) from hY7.out) 1
    have p2 := CB.frozen (show CB 56 (w6.setCell ⟨gB, 0, none⟩ (.string v)) gR (In.enc ⟨ByteArray.empty, 0, 0, 0, 0⟩) from hY7.out) 2
    have p3 := CB.frozen (show CB 56 (w6.setCell ⟨gB, 0, none⟩ (.string v)) gR (In.enc ⟨ByteArray.empty, 0, 0, 0, 0⟩) from hY7.out) 3
    have p4 := CB.frozen (show CB 56 (w6.setCell ⟨gB, 0, none⟩ (.string v)) gR (In.enc ⟨ByteArray.empty, 0, 0, 0, 0⟩) from hY7.out) 4
    obtain ⟨y0, y1, y2, y3, y4⟩ := XB.cells hY7.out
    simp only at y0 y1 y2 y3 y4
    have hne : ¬ gR = gB := by have := hBR.out; omega
    have hne2 : ¬ gB = gR := by have := hBR.out; omega
    go_wp2
    refine bodyPost_ret (v := .agg #[.string (v), .int .i64 (d), .int .i64 (a), .int .i64 (b), .int .i64 (m)]) ?_ rfl ⟨⟨(v), d, a, b, m⟩, rfl, hsv.out, ?_, ?_⟩
    · obtain ⟨z0, z1, z2, z3, z4⟩ := (XB.five' ⟨(v), d, a, b, m⟩ hY7.out).cells
      generalize (World.setCell _ ⟨gR, 4, none⟩ _) = W at z0 z1 z2 z3 z4 ⊢
      simp only at z0 z1 z2 z3 z4
      simp [results, Try.results154, go_sem, z0, z1, z2, z3, z4]
    · have hcu := hC7.out.more (show K + 18 ≤ K + 18 by omega)
      exact ((((hcu.far (p := ⟨gR, 0, none⟩) hgg.out _).far (p := ⟨gR, 1, none⟩) hgg.out _).far (p := ⟨gR, 2, none⟩) hgg.out _).far (p := ⟨gR, 3, none⟩) hgg.out _).far (p := ⟨gR, 4, none⟩) hgg.out _
    · exact ((((hH7.out.newD (p := ⟨gR, 0, none⟩) hRw.out _).newD (p := ⟨gR, 1, none⟩) hRw.out _).newD (p := ⟨gR, 2, none⟩) hRw.out _).newD (p := ⟨gR, 3, none⟩) hRw.out _).newD (p := ⟨gR, 4, none⟩) hRw.out _
  have q0' := Lib.hid q0
  have q1' := Lib.hid q1
  have q2' := Lib.hid q2
  have q3' := Lib.hid q3
  have q4' := Lib.hid q4
  have e0 : (p == 0) = false := by have := q0'.out; simpa using this
  have e1 : (p == 1) = false := by have := q1'.out; simpa using this
  have e2 : (p == 2) = false := by have := q2'.out; simpa using this
  have e3 : (p == 3) = false := by have := q3'.out; simpa using this
  have e4 : (p == 4) = false := by have := q4'.out; simpa using this
  clear q0 q1 q2 q3 q4
  obtain ⟨x0, x1, x2, x3, x4⟩ := XB.cells hX4.out
  simp only at x0 x1 x2 x3 x4
  have p0 := CB.frozen (show CB 56 w4 gR (In.enc ⟨ByteArray.empty, 0, 0, 0, 0⟩) from hY4.out) 0
  have p1 := CB.frozen (show CB 56 w4 gR (In.enc ⟨ByteArray.empty, 0, 0, 0, 0⟩) from hY4.out) 1
  have p2 := CB.frozen (show CB 56 w4 gR (In.enc ⟨ByteArray.empty, 0, 0, 0, 0⟩) from hY4.out) 2
  have p3 := CB.frozen (show CB 56 w4 gR (In.enc ⟨ByteArray.empty, 0, 0, 0, 0⟩) from hY4.out) 3
  have p4 := CB.frozen (show CB 56 w4 gR (In.enc ⟨ByteArray.empty, 0, 0, 0, 0⟩) from hY4.out) 4
  obtain ⟨y0, y1, y2, y3, y4⟩ := XB.cells hY4.out
  simp only at y0 y1 y2 y3 y4
  have hne : ¬ gR = gB := by have := hBR.out; omega
  have hne2 : ¬ gB = gR := by have := hBR.out; omega
  go_wp2
  refine bodyPost_ret (v := .agg #[.string s, .int .i64 (d), .int .i64 (a), .int .i64 (b), .int .i64 (m)]) ?_ rfl ⟨⟨s, d, a, b, m⟩, rfl, hsz.out, ?_, ?_⟩
  · obtain ⟨z0, z1, z2, z3, z4⟩ := (XB.five' ⟨s, d, a, b, m⟩ hY4.out).cells
    generalize (World.setCell _ ⟨gR, 4, none⟩ _) = W at z0 z1 z2 z3 z4 ⊢
    simp only at z0 z1 z2 z3 z4
    simp [results, Try.results154, go_sem, z0, z1, z2, z3, z4]
  · have hcu := hC4.out.more (show K + 16 ≤ K + 18 by omega)
    exact ((((hcu.far (p := ⟨gR, 0, none⟩) hgg.out _).far (p := ⟨gR, 1, none⟩) hgg.out _).far (p := ⟨gR, 2, none⟩) hgg.out _).far (p := ⟨gR, 3, none⟩) hgg.out _).far (p := ⟨gR, 4, none⟩) hgg.out _
  · exact ((((hH4.out.newD (p := ⟨gR, 0, none⟩) hRw.out _).newD (p := ⟨gR, 1, none⟩) hRw.out _).newD (p := ⟨gR, 2, none⟩) hRw.out _).newD (p := ⟨gR, 3, none⟩) hRw.out _).newD (p := ⟨gR, 4, none⟩) hRw.out _
end Go.Proofs.Ytmhdijklindipaa

namespace Go.Proofs.Ytmhdijklindipaa
open Go.RowKit
set_option linter.unusedVariables false
set_option maxRecDepth 100000

theorem step_unwanted {o : Oper} {y : Nat → Option Bool} {X E : Prop} (h : Region.wanted o y = false) (hE : E) : if Region.wanted o y = true then X else E := by rw [h]; exact hE
set_option maxHeartbeats 16000000 in
theorem cdFree_any (x y : In) (w : World) :
    Calls Try.prog 170 #[.agg #[.string x.op, .int .i64 x.d, .int .i64 x.a, .int .i64 x.b, .int .i64 x.m], .agg #[.string y.op, .int .i64 y.d, .int .i64 y.a, .int .i64 y.b, .int .i64 y.m]] w fun e w' => e = .returned (.bool (freeB x y)) ∧ Below w.heap.size w w' := by
  have hT : Hid (freeB x y = (!(x.d == y.d) && !hasI (readsL x) y.d && !hasI (readsL y) x.d)) := rfl
  have hRx := Lib.hid (cdReads_any x)
  have hRy := Lib.hid (cdReads_any y)
  have hLx := Lib.hid (readsL_len x)
  have hLy := Lib.hid (readsL_len y)
  generalize freeB x y = T at *
  generalize readsL x = Rx at *
  generalize readsL y = Ry at *
  obtain ⟨op, d, a, b, m⟩ := x
  obtain ⟨op', d', a', b', m'⟩ := y
  simp only at hT hRx hRy
  have hB2 := fun o o' => Lib.hid (((Below.refl w.heap.size w).alloc (Nat.le_refl _) o).alloc (by simp) o')
  by_cases h : d = d'
  · have hE : (d != d') = false := by simp [h]
    have hE' : (d == d') = true := by simp [h]
    have hF : Hid (T = false) := by rw [Hid, hT.out, hE']; rfl
    clear h
    go_enter Try.func170, Try.ntmps170
    go_wp2_with (fail)
    go_quiet (fail)
    go_wp2
    go_ret
    exact ⟨ret_bool hF.out.symm, below_drewN (hB2 _ _).out _⟩
  · have hE : (d != d') = true := by simp [h]
    have hE' : (d == d') = false := by simp [h]
    clear h
    cases hx : hasI Rx d'
    · have hX := Lib.hid hx
      have hHx := Lib.hid (fun L B A c W (h : IS W L B A Rx) => l1Has_lit L B A Rx.length c Rx d' _ W hx rfl (by have := hLx.out; omega) h)
      have hHy := Lib.hid (fun L B A c W (h : IS W L B A Ry) => l1Has_eq L B A Ry.length c Ry d W rfl (by have := hLy.out; omega) h)
      have hF : Hid (T = !hasI Ry d) := by rw [Hid, hT.out, hE', hx]; simp
      clear hx
      go_enter Try.func170, Try.ntmps170
      go_wp2_with (fail)
      obtain ⟨w1, hw1⟩ : ∃ w1 : World, w1 = (w.alloc (.cells #[.string op, .int .i64 d, .int .i64 a, .int .i64 b, .int .i64 m] 56)).alloc (.cells #[.string op', .int .i64 d', .int .i64 a', .int .i64 b', .int .i64 m'] 56) := ⟨_, rfl⟩
      rw [← hw1]
      obtain ⟨xa, xb, xc, xd, xe⟩ := In.box (RS.below (In.boxed (w := w) (t := 56) ⟨op, d, a, b, m⟩) (show Below (w.heap.size + 1) _ w1 by rw [hw1]; exact (Below.refl _ _).alloc (by simp) _) (by omega))
      have hy := In.boxed (w := w.alloc (.cells #[.string op, .int .i64 d, .int .i64 a, .int .i64 b, .int .i64 m] 56)) (t := 56) ⟨op', d', a', b', m'⟩
      rw [show (w.alloc (.cells #[.string op, .int .i64 d, .int .i64 a, .int .i64 b, .int .i64 m] 56)).heap.size = w.heap.size + 1 by simp, ← hw1] at hy
      obtain ⟨ya, yb, yc, yd, ye⟩ := In.box hy
      have hbw : Hid (Below w.heap.size w w1) := by rw [hw1]; exact (hB2 _ _).out
      have hz : w1.heap.size = w.heap.size + 2 := by rw [hw1]; simp
      have hz1 : w.heap.size < w1.heap.size := by omega
      have hz2 : w.heap.size + 1 < w1.heap.size := by omega
      clear hw1 hy hz
      simp only at xa xb xc xd xe ya yb yc yd ye
      go_region_law (first
        | (go_simp; go_at_call 160; (with_reducible refine (hRx.out _).mono ?_); rintro e w2 ⟨A2, c2, rfl, ho2, hb2⟩; have xa2 := (hb2.cell (p := ⟨w.heap.size, 0, none⟩) hz1).trans xa; have xb2 := (hb2.cell (p := ⟨w.heap.size, 1, none⟩) hz1).trans xb; have xc2 := (hb2.cell (p := ⟨w.heap.size, 2, none⟩) hz1).trans xc; have xd2 := (hb2.cell (p := ⟨w.heap.size, 3, none⟩) hz1).trans xd; have xe2 := (hb2.cell (p := ⟨w.heap.size, 4, none⟩) hz1).trans xe; have ya2 := (hb2.cell (p := ⟨w.heap.size + 1, 0, none⟩) hz2).trans ya; have yb2 := (hb2.cell (p := ⟨w.heap.size + 1, 1, none⟩) hz2).trans yb; have yc2 := (hb2.cell (p := ⟨w.heap.size + 1, 2, none⟩) hz2).trans yc; have yd2 := (hb2.cell (p := ⟨w.heap.size + 1, 3, none⟩) hz2).trans yd; have ye2 := (hb2.cell (p := ⟨w.heap.size + 1, 4, none⟩) hz2).trans ye; have hz12 : w.heap.size < w2.heap.size := (by have := hb2.size; exact Nat.lt_of_lt_of_le hz1 this); have hz22 : w.heap.size + 1 < w2.heap.size := (by have := hb2.size; exact Nat.lt_of_lt_of_le hz2 this))
        | (go_simp; go_at_call 160; (with_reducible refine (hRy.out _).mono ?_); rintro e w3 ⟨A3, c3, rfl, ho3, hb3⟩; have xa3 := (hb3.cell (p := ⟨w.heap.size, 0, none⟩) hz12).trans xa2; have xb3 := (hb3.cell (p := ⟨w.heap.size, 1, none⟩) hz12).trans xb2; have xc3 := (hb3.cell (p := ⟨w.heap.size, 2, none⟩) hz12).trans xc2; have xd3 := (hb3.cell (p := ⟨w.heap.size, 3, none⟩) hz12).trans xd2; have xe3 := (hb3.cell (p := ⟨w.heap.size, 4, none⟩) hz12).trans xe2; have ya3 := (hb3.cell (p := ⟨w.heap.size + 1, 0, none⟩) hz22).trans ya2; have yb3 := (hb3.cell (p := ⟨w.heap.size + 1, 1, none⟩) hz22).trans yb2; have yc3 := (hb3.cell (p := ⟨w.heap.size + 1, 2, none⟩) hz22).trans yc2; have yd3 := (hb3.cell (p := ⟨w.heap.size + 1, 3, none⟩) hz22).trans yd2; have ye3 := (hb3.cell (p := ⟨w.heap.size + 1, 4, none⟩) hz22).trans ye2)
        | (go_simp; go_at_call 179; (with_reducible refine (hHx.out _ _ _ _ _ (by exact ho2.rs)).mono ?_); rintro e w' ⟨rfl, rfl⟩)
        | (go_simp; go_at_call 179; (with_reducible refine (hHy.out _ _ _ _ _ (by exact ho3.rs)).mono ?_); rintro e w' ⟨rfl, rfl⟩))
      all_goals
        have hfin := Lib.hid (hbw.out.trans ((((Below.refl w1.heap.size w1).drew.trans hb2).trans (hb3.mono (by have := hb2.size; exact this))).mono (by omega)))
        go_wp2
        go_ret
        exact ⟨ret_bool (by rw [hF.out]), hfin.out⟩
    · have hX := Lib.hid hx
      have hHx := Lib.hid (fun L B A c W (h : IS W L B A Rx) => l1Has_lit L B A Rx.length c Rx d' _ W hx rfl (by have := hLx.out; omega) h)
      have hHy := Lib.hid (fun L B A c W (h : IS W L B A Ry) => l1Has_eq L B A Ry.length c Ry d W rfl (by have := hLy.out; omega) h)
      have hF : Hid (T = false) := by rw [Hid, hT.out, hE', hx]; rfl
      clear hx
      go_enter Try.func170, Try.ntmps170
      go_wp2_with (fail)
      obtain ⟨w1, hw1⟩ : ∃ w1 : World, w1 = (w.alloc (.cells #[.string op, .int .i64 d, .int .i64 a, .int .i64 b, .int .i64 m] 56)).alloc (.cells #[.string op', .int .i64 d', .int .i64 a', .int .i64 b', .int .i64 m'] 56) := ⟨_, rfl⟩
      rw [← hw1]
      obtain ⟨xa, xb, xc, xd, xe⟩ := In.box (RS.below (In.boxed (w := w) (t := 56) ⟨op, d, a, b, m⟩) (show Below (w.heap.size + 1) _ w1 by rw [hw1]; exact (Below.refl _ _).alloc (by simp) _) (by omega))
      have hy := In.boxed (w := w.alloc (.cells #[.string op, .int .i64 d, .int .i64 a, .int .i64 b, .int .i64 m] 56)) (t := 56) ⟨op', d', a', b', m'⟩
      rw [show (w.alloc (.cells #[.string op, .int .i64 d, .int .i64 a, .int .i64 b, .int .i64 m] 56)).heap.size = w.heap.size + 1 by simp, ← hw1] at hy
      obtain ⟨ya, yb, yc, yd, ye⟩ := In.box hy
      have hbw : Hid (Below w.heap.size w w1) := by rw [hw1]; exact (hB2 _ _).out
      have hz : w1.heap.size = w.heap.size + 2 := by rw [hw1]; simp
      have hz1 : w.heap.size < w1.heap.size := by omega
      have hz2 : w.heap.size + 1 < w1.heap.size := by omega
      clear hw1 hy hz
      simp only at xa xb xc xd xe ya yb yc yd ye
      first | (go_region_law (first
        | (refine step_unwanted (by rfl) ?_)
        | (go_simp; go_at_call 160; (with_reducible refine (hRx.out _).mono ?_); rintro e w2 ⟨A2, c2, rfl, ho2, hb2⟩; have xa2 := (hb2.cell (p := ⟨w.heap.size, 0, none⟩) hz1).trans xa; have xb2 := (hb2.cell (p := ⟨w.heap.size, 1, none⟩) hz1).trans xb; have xc2 := (hb2.cell (p := ⟨w.heap.size, 2, none⟩) hz1).trans xc; have xd2 := (hb2.cell (p := ⟨w.heap.size, 3, none⟩) hz1).trans xd; have xe2 := (hb2.cell (p := ⟨w.heap.size, 4, none⟩) hz1).trans xe; have ya2 := (hb2.cell (p := ⟨w.heap.size + 1, 0, none⟩) hz2).trans ya; have yb2 := (hb2.cell (p := ⟨w.heap.size + 1, 1, none⟩) hz2).trans yb; have yc2 := (hb2.cell (p := ⟨w.heap.size + 1, 2, none⟩) hz2).trans yc; have yd2 := (hb2.cell (p := ⟨w.heap.size + 1, 3, none⟩) hz2).trans yd; have ye2 := (hb2.cell (p := ⟨w.heap.size + 1, 4, none⟩) hz2).trans ye)
        | (go_simp; go_at_call 179; (with_reducible refine (hHx.out _ _ _ _ _ (by exact ho2.rs)).mono ?_); rintro e w' ⟨rfl, rfl⟩))) | fail
      all_goals
        go_wp2
        go_ret
        exact ⟨ret_bool hF.out.symm, hbw.out.trans (((Below.refl w1.heap.size w1).drew.trans hb2).mono (by omega))⟩
end Go.Proofs.Ytmhdijklindipaa

namespace Go.Proofs.Ytmhdijklindipaa
open Go.RowKit
set_option linter.unusedVariables false
set_option maxRecDepth 100000

/-- Two boxes beside each other. -/
def Two (t : TypeId) (w : World) (g : Nat) (x y : In) : Prop := CB t w g (In.enc x) ∧ CB t w (g + 1) (In.enc y)
theorem Two.below {t : TypeId} {w w' : World} {g C : Nat} {x y : In} (h : Two t w g x y) (hb : Below C w w') (hC : g + 1 < C) : Two t w' g x y := ⟨CB.below h.1 hb (by omega), CB.below h.2 hb hC⟩
theorem cb_cells {t : TypeId} {w : World} {g : Nat} {x : In} (h : CB t w g (In.enc x)) : w.cell? ⟨g, 0, none⟩ = some (.string x.op) ∧ w.cell? ⟨g, 1, none⟩ = some (.int .i64 x.d) ∧ w.cell? ⟨g, 2, none⟩ = some (.int .i64 x.a) ∧ w.cell? ⟨g, 3, none⟩ = some (.int .i64 x.b) ∧ w.cell? ⟨g, 4, none⟩ = some (.int .i64 x.m) := by
  refine ⟨?_, ?_, ?_, ?_, ?_⟩ <;> (rw [CB.cell h]; rfl)
theorem Two.cells {t : TypeId} {w : World} {g : Nat} {x y : In} (h : Two t w g x y) :
    (w.cell? ⟨g, 0, none⟩ = some (.string x.op) ∧ w.cell? ⟨g, 1, none⟩ = some (.int .i64 x.d) ∧ w.cell? ⟨g, 2, none⟩ = some (.int .i64 x.a) ∧ w.cell? ⟨g, 3, none⟩ = some (.int .i64 x.b) ∧ w.cell? ⟨g, 4, none⟩ = some (.int .i64 x.m)) ∧
    (w.cell? ⟨g + 1, 0, none⟩ = some (.string y.op) ∧ w.cell? ⟨g + 1, 1, none⟩ = some (.int .i64 y.d) ∧ w.cell? ⟨g + 1, 2, none⟩ = some (.int .i64 y.a) ∧ w.cell? ⟨g + 1, 3, none⟩ = some (.int .i64 y.b) ∧ w.cell? ⟨g + 1, 4, none⟩ = some (.int .i64 y.m)) := ⟨cb_cells h.1, cb_cells h.2⟩
theorem two_new (t : TypeId) (w : World) (x y : In) : Two t ((w.alloc (.cells #[.string x.op, .int .i64 x.d, .int .i64 x.a, .int .i64 x.b, .int .i64 x.m] t)).alloc (.cells #[.string y.op, .int .i64 y.d, .int .i64 y.a, .int .i64 y.b, .int .i64 y.m] t)) w.heap.size x y := by
  have h0 : CB t (w.alloc (.cells #[.string x.op, .int .i64 x.d, .int .i64 x.a, .int .i64 x.b, .int .i64 x.m] t)) w.heap.size (In.enc x) := heap_alloc_new w _
  refine ⟨CB.below h0 ((Below.refl _ _).alloc (Nat.le_refl _) _) (by simp), ?_⟩
  have h1 := heap_alloc_new (w.alloc (.cells #[.string x.op, .int .i64 x.d, .int .i64 x.a, .int .i64 x.b, .int .i64 x.m] t)) (.cells #[.string y.op, .int .i64 y.d, .int .i64 y.a, .int .i64 y.b, .int .i64 y.m] t)
  rw [show (w.alloc (.cells #[.string x.op, .int .i64 x.d, .int .i64 x.a, .int .i64 x.b, .int .i64 x.m] t)).heap.size = w.heap.size + 1 by simp] at h1
  exact h1
theorem two_below (w : World) (o o' : Obj) : Below w.heap.size w ((w.alloc o).alloc o') := ((Below.refl w.heap.size w).alloc (Nat.le_refl _) o).alloc (by simp) o'
def indR (x y : In) : Bool := goodIn x && goodIn y && freeB x y
def ResAreIndependent (R0 R1 : Bool) (w : World) (e : Ending) (w' : World) : Prop := e = .returned (.tuple #[.bool R0, .bool R1]) ∧ Below w.heap.size w w'
set_option maxHeartbeats 4000000 in
theorem sAreIndependent_any (x y : In) (w : World) :
    Calls Try.prog 59 #[.agg #[.string x.op, .int .i64 x.d, .int .i64 x.a, .int .i64 x.b, .int .i64 x.m], .agg #[.string y.op, .int .i64 y.d, .int .i64 y.a, .int .i64 y.b, .int .i64 y.m]] w (ResAreIndependent (indR x y) (goodIn x && goodIn y) w) := by
  obtain ⟨op, d, a, b, m⟩ := x
  obtain ⟨op', d', a', b', m'⟩ := y
  have hT0 := Lib.hid (two_new 56 w ⟨op, d, a, b, m⟩ ⟨op', d', a', b', m'⟩)
  have hB0 := Lib.hid (two_below w (.cells #[.string op, .int .i64 d, .int .i64 a, .int .i64 b, .int .i64 m] 56) (.cells #[.string op', .int .i64 d', .int .i64 a', .int .i64 b', .int .i64 m'] 56))
  simp only at hT0
  go_enter Try.func59, Try.ntmps59
  go_wp2_with (fail)
  refine (cdGood_any op d a b m _).mono ?_
  rintro e w1 ⟨rfl, hb⟩
  have hz1 := hb.size
  have hT1 := Lib.hid (hT0.out.below hb (by simp))
  have hB1 := Lib.hid (hB0.out.trans (hb.mono (by simp; omega)))
  clear hb
  cases hg : goodIn ⟨op, d, a, b, m⟩
  · have hR : Hid (indR ⟨op, d, a, b, m⟩ ⟨op', d', a', b', m'⟩ = false) := by simp [Hid, indR, hg]
    have hK : Hid ((goodIn ⟨op, d, a, b, m⟩ && goodIn ⟨op', d', a', b', m'⟩) = false) := by simp [Hid, hg]
    go_wp2
    go_ret2
    rw [hR.out, hK.out]; exact ⟨rfl, hB1.out⟩
  have hG := Lib.hid hg
  clear hg
  obtain ⟨⟨xa, xb, xc, xd, xe⟩, ⟨ya, yb, yc, yd, ye⟩⟩ := hT1.out.cells
  simp only at xa xb xc xd xe ya yb yc yd ye
  go_wp2_with (fail)
  refine (cdGood_any op' d' a' b' m' _).mono ?_
  rintro e w2 ⟨rfl, hb⟩
  clear xa xb xc xd xe ya yb yc yd ye
  have hz2 := hb.size
  simp at hz1
  have hT2 := Lib.hid (hT1.out.below hb (by omega))
  have hB2 := Lib.hid (hB1.out.trans (hb.mono (by omega)))
  clear hb
  cases hg : goodIn ⟨op', d', a', b', m'⟩
  · have hR : Hid (indR ⟨op, d, a, b, m⟩ ⟨op', d', a', b', m'⟩ = false) := by simp [Hid, indR, hg]
    have hK : Hid ((goodIn ⟨op, d, a, b, m⟩ && goodIn ⟨op', d', a', b', m'⟩) = false) := by simp [Hid, hg]
    go_wp2
    go_ret2
    rw [hR.out, hK.out]; exact ⟨rfl, hB2.out⟩
  have hK : Hid ((goodIn ⟨op, d, a, b, m⟩ && goodIn ⟨op', d', a', b', m'⟩) = true) := by rw [Hid, hG.out, hg]; rfl
  have hR : Hid (indR ⟨op, d, a, b, m⟩ ⟨op', d', a', b', m'⟩ = freeB ⟨op, d, a, b, m⟩ ⟨op', d', a', b', m'⟩) := by rw [Hid, indR, hG.out, hg]; rfl
  clear hg
  obtain ⟨⟨xa, xb, xc, xd, xe⟩, ⟨ya, yb, yc, yd, ye⟩⟩ := hT2.out.cells
  simp only at xa xb xc xd xe ya yb yc yd ye
  go_wp2_with (fail)
  refine (cdFree_any ⟨op, d, a, b, m⟩ ⟨op', d', a', b', m'⟩ _).mono ?_
  rintro e w3 ⟨rfl, hb⟩
  have hB3 := Lib.hid (hB2.out.trans (hb.mono (by omega)))
  clear hb xa xb xc xd xe ya yb yc yd ye
  generalize freeB ⟨op, d, a, b, m⟩ ⟨op', d', a', b', m'⟩ = F at *
  go_wp2
  go_ret2
  rw [hR.out, hK.out]; exact ⟨rfl, hB3.out⟩

set_option maxHeartbeats 4000000 in
theorem iAreIndependent_any (x y : In) (w : World) :
    Calls Try.prog 58 #[.agg #[.string x.op, .int .i64 x.d, .int .i64 x.a, .int .i64 x.b, .int .i64 x.m], .agg #[.string y.op, .int .i64 y.d, .int .i64 y.a, .int .i64 y.b, .int .i64 y.m]] w (ResAreIndependent (indR x y) (goodIn x && goodIn y) w) := by
  obtain ⟨op, d, a, b, m⟩ := x
  obtain ⟨op', d', a', b', m'⟩ := y
  have hT0 := Lib.hid (two_new 56 w ⟨op, d, a, b, m⟩ ⟨op', d', a', b', m'⟩)
  have hB0 := Lib.hid (two_below w (.cells #[.string op, .int .i64 d, .int .i64 a, .int .i64 b, .int .i64 m] 56) (.cells #[.string op', .int .i64 d', .int .i64 a', .int .i64 b', .int .i64 m'] 56))
  simp only at hT0
  go_enter Try.func58, Try.ntmps58
  go_wp2_with (fail)
  refine (IsInstr_any op d a b m _).mono ?_
  rintro e w1 ⟨rfl, hb⟩
  have hz1 := hb.size
  have hT1 := Lib.hid (hT0.out.below hb (by simp))
  have hB1 := Lib.hid (hB0.out.trans (hb.mono (by simp; omega)))
  clear hb
  cases hg : goodIn ⟨op, d, a, b, m⟩
  · have hR : Hid (indR ⟨op, d, a, b, m⟩ ⟨op', d', a', b', m'⟩ = false) := by simp [Hid, indR, hg]
    have hK : Hid ((goodIn ⟨op, d, a, b, m⟩ && goodIn ⟨op', d', a', b', m'⟩) = false) := by simp [Hid, hg]
    go_wp2
    go_ret2
    rw [hR.out, hK.out]; exact ⟨rfl, hB1.out⟩
  have hG := Lib.hid hg
  clear hg
  obtain ⟨⟨xa, xb, xc, xd, xe⟩, ⟨ya, yb, yc, yd, ye⟩⟩ := hT1.out.cells
  simp only at xa xb xc xd xe ya yb yc yd ye
  go_wp2_with (fail)
  refine (IsInstr_any op' d' a' b' m' _).mono ?_
  rintro e w2 ⟨rfl, hb⟩
  clear xa xb xc xd xe ya yb yc yd ye
  have hz2 := hb.size
  simp at hz1
  have hT2 := Lib.hid (hT1.out.below hb (by omega))
  have hB2 := Lib.hid (hB1.out.trans (hb.mono (by omega)))
  clear hb
  cases hg : goodIn ⟨op', d', a', b', m'⟩
  · have hR : Hid (indR ⟨op, d, a, b, m⟩ ⟨op', d', a', b', m'⟩ = false) := by simp [Hid, indR, hg]
    have hK : Hid ((goodIn ⟨op, d, a, b, m⟩ && goodIn ⟨op', d', a', b', m'⟩) = false) := by simp [Hid, hg]
    go_wp2
    go_ret2
    rw [hR.out, hK.out]; exact ⟨rfl, hB2.out⟩
  have hK : Hid ((goodIn ⟨op, d, a, b, m⟩ && goodIn ⟨op', d', a', b', m'⟩) = true) := by rw [Hid, hG.out, hg]; rfl
  have hR : Hid (indR ⟨op, d, a, b, m⟩ ⟨op', d', a', b', m'⟩ = freeB ⟨op, d, a, b, m⟩ ⟨op', d', a', b', m'⟩) := by rw [Hid, indR, hG.out, hg]; rfl
  clear hg
  obtain ⟨⟨xa, xb, xc, xd, xe⟩, ⟨ya, yb, yc, yd, ye⟩⟩ := hT2.out.cells
  simp only at xa xb xc xd xe ya yb yc yd ye
  have hF := Lib.hid (free_touch ⟨op, d, a, b, m⟩ ⟨op', d', a', b', m'⟩)
  go_wp2_with (fail)
  refine (isTouching_any ⟨op, d, a, b, m⟩ ⟨op', d', a', b', m'⟩ _).mono ?_
  rintro e w3 ⟨rfl, hb⟩
  clear xa xb xc xd xe ya yb yc yd ye
  have hz3 := hb.size
  have hT3 := Lib.hid (hT2.out.below hb (by omega))
  have hB3 := Lib.hid (hB2.out.trans (hb.mono (by omega)))
  clear hb
  cases ht : touchB ⟨op, d, a, b, m⟩ ⟨op', d', a', b', m'⟩
  · have hF' : Hid (freeB ⟨op, d, a, b, m⟩ ⟨op', d', a', b', m'⟩ = !touchB ⟨op', d', a', b', m'⟩ ⟨op, d, a, b, m⟩) := by rw [Hid, hF.out, ht]; simp
    obtain ⟨⟨xa, xb, xc, xd, xe⟩, ⟨ya, yb, yc, yd, ye⟩⟩ := hT3.out.cells
    simp only at xa xb xc xd xe ya yb yc yd ye
    go_wp2_with (fail)
    refine (isTouching_any ⟨op', d', a', b', m'⟩ ⟨op, d, a, b, m⟩ _).mono ?_
    rintro e w4 ⟨rfl, hb⟩
    have hB4 := Lib.hid (hB3.out.trans (hb.mono (by omega)))
    clear hb xa xb xc xd xe ya yb yc yd ye
    generalize touchB ⟨op', d', a', b', m'⟩ ⟨op, d, a, b, m⟩ = F at *
    go_wp2
    go_ret2
    rw [hR.out, hK.out, hF'.out]; exact ⟨rfl, hB4.out⟩
  · have hF' : Hid (freeB ⟨op, d, a, b, m⟩ ⟨op', d', a', b', m'⟩ = false) := by rw [Hid, hF.out, ht]; simp
    go_wp2
    go_ret2
    rw [hR.out, hK.out, hF'.out]; exact ⟨rfl, hB3.out⟩

end Go.Proofs.Ytmhdijklindipaa

namespace Go.Proofs.Ytmhdijklindipaa
open Go.RowKit
set_option linter.unusedVariables false
set_option maxRecDepth 100000

theorem five_one (y : In) : ∀ u ∈ In.enc y, u.oneCell' = true := by intro u hu; simp [In.enc] at hu; rcases hu with rfl | rfl | rfl | rfl | rfl <;> rfl
theorem five_ones (es : List In) : ∀ u ∈ es.flatMap In.enc, u.oneCell' = true := by
  intro u hu
  obtain ⟨x, _, hx⟩ := List.mem_flatMap.1 hu
  exact five_one x u hx
theorem OK.ofRow {w : World} {lo : Nat} {v : Value} {n : Nat} {xs : List In} (h : w.ownsRow lo 56 5 v n (xs.flatMap In.enc)) (hn : n = xs.length) : OK In.enc 5 56 w lo w.heap.size v xs := by
  subst hn; exact ⟨h, fun j hj => (h.lt j hj).2⟩
set_option maxHeartbeats 1000000 in
/-- slices.Clone of code that lies in memory. -/
theorem CloneC_any (b o c : Nat) (xs : List In) (L B : Nat) (w : World) (hl : xs.length ≤ 1048576) (hx : RS In.enc 5 w L B (some ⟨b, o, none⟩) xs) (hB : B ≤ w.heap.size) :
    Calls Try.prog 168 #[.slice (some ⟨b, o, none⟩) xs.length c] w (FreshInstr w xs) := by
  obtain ⟨i0, hi, hz0, hz1, hz2⟩ := info_parts Try.infoInstr
  have hb0 := Lib.hid ((Below.refl w.heap.size w).alloc (Nat.le_refl _) (.cells #[] 56))
  have hnews := Lib.hid ((hx.below hb0.out hB).news In.hk)
  have hown := Lib.hid (World.ownsRow_made (base := w.heap.size) (e := 56) (size := 5) w #[] 0 (Nat.le_refl _) (by unfold maxLen; omega) (by simp))
  clear hx
  have heq := Lib.run_eql_slice_nil (P := Try.prog) w 42 56 (some ⟨b, o, none⟩) xs.length c 0 0 Try.underlying42
  simp only [Option.isNone_some] at heq
  go_enter Try.func168, Try.ntmps168
  go_wp2_with (at_builtin; refine wpList_append_src rfl _ _ 42 rfl w.heap.size 56 i0 _ 5 48 Try.underlying42 hi hz0 hz1 hz2 rfl (by decide) _ 0 [] rfl hown.out (some ⟨b, o, none⟩) xs.length c (xs.flatMap In.enc) rfl (kflat_len In.hk xs) hnews.out (five_ones xs) (by unfold maxLen; omega) (by omega) (by simp) ?_; intro v' w1 hown' hgrow _)
  simp only [Nat.zero_add, List.nil_append] at hown'
  have ho : Hid (OK In.enc 5 56 w1 w.heap.size w1.heap.size v' xs) := OK.ofRow hown' rfl
  have hb : Hid (Below w.heap.size w w1) := hb0.out.grown hgrow (by simp) (fun k hk => by cases hk; exact Nat.le_refl _)
  obtain ⟨A', c', rfl, _⟩ := OK.form In.hk ho.out
  clear hown' hgrow
  go_wp2
  go_ret
  exact ⟨_, _, rfl, ho.out, hb.out⟩

def swOk (es : List In) (i : Int) : Bool := okCode es && inR i 0 (es.length - 2) && freeB (es.getD i.toNat zeroIn) (es.getD (i.toNat + 1) zeroIn)
def swapR (es : List In) (i : Int) : List In := if swOk es i = true then (es.set i.toNat (es.getD (i.toNat + 1) zeroIn)).set (i.toNat + 1) (es.getD i.toNat zeroIn) else []
theorem swapR_len (es : List In) (i : Int) : (swapR es i).length ≤ 1048576 := by
  unfold swapR; split
  · rename_i h; simp only [swOk, Bool.and_eq_true] at h
    have := okCode_len h.1.1; simp; omega
  · simp
theorem swapR_no {es : List In} {i : Int} (h : swOk es i = false) : swapR es i = [] := by simp [swapR, h]
theorem inR_nat {i : Int} {n : Nat} (h : inR i 0 ((n : Int) - 2) = true) : ∃ k : Nat, i = k ∧ k + 1 < n := by
  rw [inR_iff] at h
  obtain ⟨k, rfl⟩ := Int.eq_ofNat_of_zero_le h.1
  exact ⟨k, rfl, by omega⟩

set_option maxHeartbeats 8000000 in
theorem iSwap_any (L B : Nat) (A : Option Addr) (c : Nat) (es : List In) (i : Int) (w : World) (hl : es.length ≤ 1048576) (hes : RS In.enc 5 w L B A es) (hB : B ≤ w.heap.size) :
    Calls Try.prog 55 #[.slice A es.length c, .int .i64 i] w (ResSwapNeighbours (swapR es i) (swOk es i) w) := by
  have H := Lib.hid (IsCode_any L B A c es w hl hes hB)
  have hE := Lib.hid hes
  have hBB := Lib.hid hB
  have hX := Lib.hid (fun W => isIndex_any i ((es.length : Int) - 1) W)
  rw [show (es.length : Int) - 1 - 1 = es.length - 2 by omega] at hX
  clear hes hB
  go_enter Try.func55, Try.ntmps55
  go_wp2_with (fail)
  refine H.out.mono ?_
  rintro e w2 ⟨rfl, hb⟩
  have hbb := Lib.hid hb
  have hz := hb.size
  have hE2 := Lib.hid (hE.out.below hb hBB.out)
  clear hb
  cases hg : okCode es
  · have hK : Hid (swOk es i = false) := by simp [Hid, swOk, hg]
    have hR := Lib.hid (swapR_no hK.out)
    go_wp2
    go_ret2
    rw [hR.out, hK.out]; exact ⟨none, 0, rfl, OK.nil _ _ _ _, hbb.out⟩
  have hG := Lib.hid hg
  have hlen := Lib.hid (okCode_len hg)
  have hall := Lib.hid (okCode_all hg)
  clear hg
  cases hr : inR i 0 ((es.length : Int) - 2)
  · have hK : Hid (swOk es i = false) := by simp [Hid, swOk, hr]
    have hR := Lib.hid (swapR_no hK.out)
    rw [hr] at hX
    clear hr
    go_wp2_with (go_at_call 167; refine (hX.out _).mono ?_; rintro e w' ⟨rfl, rfl⟩)
    go_ret2
    rw [hR.out, hK.out]; exact ⟨none, 0, rfl, OK.nil _ _ _ _, hbb.out⟩
  obtain ⟨n, rfl, hn⟩ := inR_nat hr
  have hr' := Lib.hid hr
  have hn' : n < es.length := by omega
  rw [hr] at hX
  obtain ⟨b, o, rfl, ⟨_, hbB⟩, hc⟩ := In.cells hE2.out (by omega)
  obtain ⟨c1, c2, c3, c4, c5⟩ := hc n hn'
  obtain ⟨d1, d2, d3, d4, d5⟩ := hc (n + 1) hn
  clear hc hr
  have hg0 : es.getD n zeroIn = es[n] := by rw [List.getD_eq_getElem?_getD, List.getElem?_eq_getElem hn']; rfl
  have hg1 : es.getD (n + 1) zeroIn = es[n + 1] := by rw [List.getD_eq_getElem?_getD, List.getElem?_eq_getElem hn]; rfl
  have hK0 : Hid (swOk es n = freeB es[n] es[n + 1]) := by rw [Hid, swOk, hG.out, hr'.out, Int.toNat_natCast, hg0, hg1]; rfl
  have hR0 : Hid (swOk es n = true → swapR es n = (es.set n es[n + 1]).set (n + 1) es[n]) := by intro h; rw [swapR, if_pos h, Int.toNat_natCast, hg0, hg1]
  have hA := Lib.hid (fun W => iAreIndependent_any es[n] es[n + 1] W)
  have hgd : goodIn es[n] = true ∧ goodIn es[n + 1] = true := ⟨hall.out _ (List.getElem_mem _), hall.out _ (List.getElem_mem _)⟩
  have hI : Hid (indR es[n] es[n + 1] = freeB es[n] es[n + 1] ∧ (goodIn es[n] && goodIn es[n + 1]) = true) := by rw [Hid, indR, hgd.1, hgd.2]; exact ⟨rfl, rfl⟩
  rw [hI.out.1, hI.out.2] at hA
  clear hgd hI hg0 hg1
  have i1 : (n : Int) < es.length := by omega
  have i2 : (n : Int) + 1 < es.length := by omega
  have hw1 : IntKind.i64.wrap ((n : Int) + 1) = (n : Int) + 1 := IntWalk.i64_in _ (by omega)
  have hw2 : ((n : Int) + 1).toNat = n + 1 := by omega
  have i0 : (0 : Int) ≤ (n : Int) + 1 := by omega
  have hCl := Lib.hid (fun W (h : RS In.enc 5 W L B (some ⟨b, o, none⟩) es) (hB : B ≤ W.heap.size) => CloneC_any b o c es L B W hl h hB)
  generalize hx : es[n] = x at *
  generalize hy : es[n + 1] = y at *
  obtain ⟨op, d, a, b1, m⟩ := x
  obtain ⟨op', d', a', b1', m'⟩ := y
  have hxx := Lib.hid hx
  have hyy := Lib.hid hy
  clear hx hy
  simp only at c1 c2 c3 c4 c5 d1 d2 d3 d4 d5 hA
  go_wp2_with (go_at_call 167; refine (hX.out _).mono ?_; rintro e w' ⟨rfl, rfl⟩)
  go_region_law (go_simp; go_at_call 58; (with_reducible refine (hA.out _).mono ?_); rintro e w3 ⟨rfl, hb3⟩)
  all_goals
    have hb3' := Lib.hid ((Below.refl w2.heap.size w2).drew.trans hb3)
    have hbb3 := Lib.hid (hbb.out.trans (hb3'.out.mono hz))
    have hz3 := hb3'.out.size
    have hE3 := Lib.hid (hE2.out.below hb3'.out (by have := hBB.out; omega))
    clear hb3
    cases hf : freeB ⟨op, d, a, b1, m⟩ ⟨op', d', a', b1', m'⟩
    · have hK : Hid (swOk es n = false) := by rw [Hid, hK0.out, hf]
      have hR := Lib.hid (swapR_no hK.out)
      go_wp2
      go_ret2
      rw [hR.out, hK.out]; exact ⟨none, 0, rfl, OK.nil _ _ _ _, hbb3.out⟩
    have hK : Hid (swOk es n = true) := by rw [Hid, hK0.out, hf]
    have hR := Lib.hid (hR0.out hK.out)
    clear hf c1 c2 c3 c4 c5 d1 d2 d3 d4 d5
    go_wp2_with (fail)
    refine (hCl.out _ hE3.out (by have := hBB.out; omega)).mono ?_
    rintro e w4 ⟨A4, k4, rfl, ho4, hb4⟩
    have hz4 := hb4.size
    have hbb4 := Lib.hid (hbb3.out.trans (hb4.mono (by omega)))
    have hE4 := Lib.hid (hE3.out.below hb4 (by have := hBB.out; omega))
    clear hb4
    rcases OK.open ho4 with ⟨_, h0⟩ | ⟨g, cap, hv, hgl, hgh, hlc, hcm, rest, hcb, hcl⟩
    · omega
    injection hv with e1 e2 e3; subst e1; subst e3
    obtain ⟨b2, o2, e5, ⟨_, hbB2⟩, hc⟩ := In.cells hE4.out (by omega)
    injection e5 with e5; injection e5 with e5 e6 _; subst e5; subst e6
    obtain ⟨c1, c2, c3, c4, c5⟩ := hc n hn'
    obtain ⟨d1, d2, d3, d4, d5⟩ := hc (n + 1) hn
    rw [hxx.out] at c1 c2 c3 c4 c5
    rw [hyy.out] at d1 d2 d3 d4 d5
    simp only at c1 c2 c3 c4 c5 d1 d2 d3 d4 d5
    have hCB := Lib.hid hcb
    obtain ⟨z0, z1, z2, z3, z4, p1, p2, p3, p4, p5⟩ := In.cellsB hcb n hn'
    obtain ⟨y0, y1, y2, y3, y4, q1, q2, q3, q4, q5⟩ := In.cellsB hcb (n + 1) hn
    have f1 := hcb.frozen (n * 5)
    have f2 := hcb.frozen (n * 5 + 1)
    have f3 := hcb.frozen (n * 5 + 2)
    have f4 := hcb.frozen (n * 5 + 3)
    have f5 := hcb.frozen (n * 5 + 4)
    have g1 := hcb.frozen ((n + 1) * 5)
    have g2 := hcb.frozen ((n + 1) * 5 + 1)
    have g3 := hcb.frozen ((n + 1) * 5 + 2)
    have g4 := hcb.frozen ((n + 1) * 5 + 3)
    have g5 := hcb.frozen ((n + 1) * 5 + 4)
    have hgb : Hid (b ≠ g) := by have := hBB.out; simp only [Hid]; omega
    have hne : ¬ b = g := hgb.out
    have hne' : ¬ g = b := fun h => hne h.symm
    clear hc hcb ho4
    go_wp2_with (fail)
    go_region_with (fail)
    all_goals
      have h1 := hCB.out.store In.hk n hn' ⟨op', d', a', b1', m'⟩
      have h2 := h1.store In.hk (n + 1) (by rw [List.length_set]; exact hn) ⟨op, d, a, b1, m⟩
      have hle : ((es.set n (⟨op', d', a', b1', m'⟩ : In)).set (n + 1) ⟨op, d, a, b1, m⟩).length = es.length := by rw [List.length_set, List.length_set]
      have h3 := OK.close (lo := w.heap.size) In.hk h2 (by omega) (CB.lt h2) (by rw [hle]; exact hlc) hcm (by rw [List.length_append, kflat_len In.hk, hle]; rw [List.length_append, kflat_len In.hk] at hcl; exact hcl)
      have hfin := Lib.hid h3
      have hle' := Lib.hid hle
      have hbf := Lib.hid (below_setCells (In.enc ⟨op, d, a, b1, m⟩) g ((n + 1) * 5) (below_setCells (In.enc ⟨op', d', a', b1', m'⟩) g (n * 5) hbb4.out (by omega)) (by omega))
      clear h1 h2 h3 hle
      simp only [setCells, In.enc, Nat.add_assoc, Nat.reduceAdd] at hfin hbf
      clear c1 c2 c3 c4 c5 d1 d2 d3 d4 d5 p1 p2 p3 p4 p5 q1 q2 q3 q4 q5 f1 f2 f3 f4 f5 g1 g2 g3 g4 g5 hCB
      generalize (World.setCell _ _ _) = W at hfin hbf ⊢
      generalize ((es.set n (⟨op', d', a', b1', m'⟩ : In)).set (n + 1) ⟨op, d, a, b1, m⟩) = Z at *
      go_wp2
      go_ret2
      rw [hR.out, hK.out]
      refine ⟨some ⟨g, 0, none⟩, k4, by rw [hle'.out]; rfl, ?_, ?_⟩
      · exact hfin.out
      · exact hbf.out.drew
end Go.Proofs.Ytmhdijklindipaa
