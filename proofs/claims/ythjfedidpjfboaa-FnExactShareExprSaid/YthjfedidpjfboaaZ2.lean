/- Texts of this proof, one behind the other: UE, XI, XJ, UF, UG. -/
import Derived.Test.YthjfedidpjfboaaUD
import Derived.WalkKit
import Derived.WalkSpells
import Derived.WalkLawsBesides
import Derived.Lib.Hide
import Derived.Test.YthjfedidpjfboaaXG
import Derived.Test.YthjfedidpjfboaaWD
import Derived.Test.YthjfedidpjfboaaLawP
import Derived.Deep.RegionLaw
import Derived.Deep.RegionHeld3
import Derived.Deep.AppendLies
import Derived.Test.YthjfedidpjfboaaUB
/- ShareExpr: the program. -/
namespace Go.Proofs.Ythjfedidpjfboaa
open Go.RowKit
set_option linter.unusedVariables false
set_option maxRecDepth 100000

theorem pl_start (n : Nat) : plOf (List.replicate n (-1)) = zeros n := by unfold plOf zeros; rw [List.map_replicate]; rfl
theorem seen_start (n : Nat) : seenOf (List.replicate n (-1)) = List.replicate n false := by unfold seenOf; rw [List.map_replicate]; rfl

set_option maxHeartbeats 2000000 in
theorem share_tail (L B q g h : Nat) (A : Option Addr) (c m : Nat) (es : List Nd) (w W3 : World) (hl24 : es.length ≤ 24) (hm : es.length = m + 1) (hg : good es = true) (hes : NS w L B A es) (hB : B ≤ w.heap.size) (hb : Below w.heap.size w W3) (hq : w.heap.size ≤ q) (hgw : w.heap.size ≤ g) (hhw : w.heap.size ≤ h) (hqg : q ≠ g) (hqh : q ≠ h) (hgh : g ≠ h) (hgl : g < W3.heap.size) (hhl : h < W3.heap.size)
    (hx : W3.heap[q]? = some (.cells #[.slice none 0 0, .bool false, .slice A es.length c, .slice (some ⟨g, 0, none⟩) es.length es.length, .slice (some ⟨h, 0, none⟩) es.length es.length] 153 (0, 0))) (hi : IB W3 g 3 (zeros es.length)) (hj : BB W3 h (List.replicate es.length false)) :
    Calls Try.prog 144 #[.pointer (some ⟨q, 0, none⟩), .int .i64 m] W3 fun e w' => (∃ r : Int, e = .returned (.int .i64 r)) ∧ Below w.heap.size w w' ∧ ∃ v', GS 153 [.slice A es.length c, .slice (some ⟨g, 0, none⟩) es.length es.length, .slice (some ⟨h, 0, none⟩) es.length es.length] q W3.heap.size (shareR es) false v' w' := by
  obtain ⟨hl1, _, hok⟩ := good_len hg
  have hql : q < W3.heap.size := by
    rcases Nat.lt_or_ge q W3.heap.size with h9 | h9
    · exact h9
    · rw [Array.getElem?_eq_none h9] at hx; cases hx
  have hS : ShSt (.slice A es.length c) es.length q g h W3.heap.size ([], List.replicate es.length (-1)) (.slice none 0 0) W3 := by
    refine ⟨⟨hx, World.ownsRow_nil _ _ _ _, fun e => by simp [Value.ownBlock] at e⟩, ?_, ?_⟩
    · rw [pl_start]; exact hi
    · rw [seen_start]; exact hj
  have hW := shareWalk_any L B q g h W3.heap.size w.heap.size A c es W3 hl24 hok (hes.below hb hB) hB hb.size hq hgw hhw (by omega) (Nat.le_refl _) hqg hqh hgh hgl hhl hql es.length m ([], List.replicate es.length (-1)) (.slice none 0 0) W3 (by omega) (by omega) (inv_start _) (Below.mono (Below.refl W3.heap.size W3) hb.size) hS
  refine hW.mono ?_
  rintro e w' ⟨rfl, v', ⟨s1, s2, s3⟩, f, o⟩
  refine ⟨⟨_, rfl⟩, hb.trans (f.below hb.size (by rintro j (rfl | rfl | rfl) <;> assumption) (fun j hj => by simp [Value.ownBlock] at hj)), v', ?_⟩
  have : shareR es = (on es es.length m ([], List.replicate es.length (-1))).1.1 := by unfold shareR shareL; rw [if_pos hg, show es.length - 1 = m by omega]
  rw [this]; exact s1

theorem three_alloc (w : World) (o1 o2 o3 : Obj) : ((((w.alloc o1).alloc o2).alloc o3).drew.heap[w.heap.size]? = some o1 ∧ (((w.alloc o1).alloc o2).alloc o3).drew.heap[w.heap.size + 1]? = some o2 ∧ (((w.alloc o1).alloc o2).alloc o3).drew.heap[w.heap.size + 1 + 1]? = some o3) ∧ Below w.heap.size w (((w.alloc o1).alloc o2).alloc o3).drew ∧ (((w.alloc o1).alloc o2).alloc o3).drew.heap.size = w.heap.size + 3 := by
  have z1 : (w.alloc o1).heap.size = w.heap.size + 1 := by simp
  have z2 : ((w.alloc o1).alloc o2).heap.size = w.heap.size + 1 + 1 := by simp
  have b1 := (Below.refl w.heap.size w).alloc (Nat.le_refl _) o1
  have b2 := (Below.refl (w.alloc o1).heap.size (w.alloc o1)).alloc (Nat.le_refl _) o2
  have b3 := (Below.refl ((w.alloc o1).alloc o2).heap.size ((w.alloc o1).alloc o2)).alloc (Nat.le_refl _) o3
  refine ⟨⟨?_, ?_, ?_⟩, ?_, by simp⟩
  · exact (b3.block _ (by omega)).trans ((b2.block _ (by omega)).trans (heap_alloc_new w o1))
  · have h := heap_alloc_new (w.alloc o1) o2
    rw [z1] at h
    exact (b3.block _ (by omega)).trans h
  · have h := heap_alloc_new ((w.alloc o1).alloc o2) o3
    rw [z2] at h
    exact h
  · exact ((b1.trans (b2.mono (by omega))).trans (b3.mono (by omega))).drew

set_option maxHeartbeats 4000000 in
theorem shareExpr_any (L B : Nat) (A : Option Addr) (c m : Nat) (es : List Nd) (w : World) (hm : es.length = m + 1) (hg : good es = true) (hes : NS w L B A es) (hB : B ≤ w.heap.size) :
    Calls Try.prog 75 #[.slice A es.length c, .int .i64 (m : Int)] w (ResShareExpr (shareR es) true w) := by
  obtain ⟨hl1, hl24, hok⟩ := good_len hg
  have hl : es.length ≤ 1048576 := by omega
  have hE := Lib.hid hes
  have hG := Lib.hid hg
  have hM := Lib.hid hm
  have hb2 := Lib.hid (Below.refl w.heap.size w)
  clear hg hes hok hm
  have hmi := run_make_ints es.length hl
  have hmb := run_make_bools es.length hl
  go_enter Try.func75, Try.ntmps75
  go_wp2_with (fail)
  go_region
  all_goals go_wp2_with (fail)
  all_goals
    have zb := hb2.out.size
    first
    | (have T := three_alloc w (.cells #[.slice none 0 0, .bool false, .slice A es.length c, .slice (some ⟨w.heap.size + 1, 0, none⟩) es.length es.length, .slice (some ⟨w.heap.size + 1 + 1, 0, none⟩) es.length es.length] 153) (.cells (intCells (zeros es.length)) 3) (.cells (boolCells (List.replicate es.length false)) 4)
       have hi9 := (show IB _ (w.heap.size + 1) 3 (zeros es.length) from T.1.2.1)
       have hj9 := (show BB _ (w.heap.size + 1 + 1) (List.replicate es.length false) from T.1.2.2)
       (with_reducible refine (share_tail L B w.heap.size (w.heap.size + 1) (w.heap.size + 1 + 1) A c m es w _ hl24 hM.out hG.out hE.out hB (hb2.out.trans (T.2.1.mono zb)) (by omega) (by omega) (by omega) (by omega) (by omega) (by omega) (by rw [T.2.2]; omega) (by rw [T.2.2]; omega) T.1.1 hi9 hj9).mono ?_))
    | (have T := three_alloc w (.cells #[.slice none 0 0, .bool false, .slice A es.length c, .slice (some ⟨w.heap.size + 1 + 1, 0, none⟩) es.length es.length, .slice (some ⟨w.heap.size + 1, 0, none⟩) es.length es.length] 153) (.cells (boolCells (List.replicate es.length false)) 4) (.cells (intCells (zeros es.length)) 3)
       have hi9 := (show IB _ (w.heap.size + 1 + 1) 3 (zeros es.length) from T.1.2.2)
       have hj9 := (show BB _ (w.heap.size + 1) (List.replicate es.length false) from T.1.2.1)
       (with_reducible refine (share_tail L B w.heap.size (w.heap.size + 1 + 1) (w.heap.size + 1) A c m es w _ hl24 hM.out hG.out hE.out hB (hb2.out.trans (T.2.1.mono zb)) (by omega) (by omega) (by omega) (by omega) (by omega) (by omega) (by rw [T.2.2]; omega) (by rw [T.2.2]; omega) T.1.1 hi9 hj9).mono ?_))
    | (have T := three_alloc w (.cells (intCells (zeros es.length)) 3) (.cells #[.slice none 0 0, .bool false, .slice A es.length c, .slice (some ⟨w.heap.size, 0, none⟩) es.length es.length, .slice (some ⟨w.heap.size + 1 + 1, 0, none⟩) es.length es.length] 153) (.cells (boolCells (List.replicate es.length false)) 4)
       have hi9 := (show IB _ w.heap.size 3 (zeros es.length) from T.1.1)
       have hj9 := (show BB _ (w.heap.size + 1 + 1) (List.replicate es.length false) from T.1.2.2)
       (with_reducible refine (share_tail L B (w.heap.size + 1) w.heap.size (w.heap.size + 1 + 1) A c m es w _ hl24 hM.out hG.out hE.out hB (hb2.out.trans (T.2.1.mono zb)) (by omega) (by omega) (by omega) (by omega) (by omega) (by omega) (by rw [T.2.2]; omega) (by rw [T.2.2]; omega) T.1.2.1 hi9 hj9).mono ?_))
    | (have T := three_alloc w (.cells (boolCells (List.replicate es.length false)) 4) (.cells #[.slice none 0 0, .bool false, .slice A es.length c, .slice (some ⟨w.heap.size + 1 + 1, 0, none⟩) es.length es.length, .slice (some ⟨w.heap.size, 0, none⟩) es.length es.length] 153) (.cells (intCells (zeros es.length)) 3)
       have hi9 := (show IB _ (w.heap.size + 1 + 1) 3 (zeros es.length) from T.1.2.2)
       have hj9 := (show BB _ w.heap.size (List.replicate es.length false) from T.1.1)
       (with_reducible refine (share_tail L B (w.heap.size + 1) (w.heap.size + 1 + 1) w.heap.size A c m es w _ hl24 hM.out hG.out hE.out hB (hb2.out.trans (T.2.1.mono zb)) (by omega) (by omega) (by omega) (by omega) (by omega) (by omega) (by rw [T.2.2]; omega) (by rw [T.2.2]; omega) T.1.2.1 hi9 hj9).mono ?_))
    | (have T := three_alloc w (.cells (intCells (zeros es.length)) 3) (.cells (boolCells (List.replicate es.length false)) 4) (.cells #[.slice none 0 0, .bool false, .slice A es.length c, .slice (some ⟨w.heap.size, 0, none⟩) es.length es.length, .slice (some ⟨w.heap.size + 1, 0, none⟩) es.length es.length] 153)
       have hi9 := (show IB _ w.heap.size 3 (zeros es.length) from T.1.1)
       have hj9 := (show BB _ (w.heap.size + 1) (List.replicate es.length false) from T.1.2.1)
       (with_reducible refine (share_tail L B (w.heap.size + 1 + 1) w.heap.size (w.heap.size + 1) A c m es w _ hl24 hM.out hG.out hE.out hB (hb2.out.trans (T.2.1.mono zb)) (by omega) (by omega) (by omega) (by omega) (by omega) (by omega) (by rw [T.2.2]; omega) (by rw [T.2.2]; omega) T.1.2.2 hi9 hj9).mono ?_))
    | (have T := three_alloc w (.cells (boolCells (List.replicate es.length false)) 4) (.cells (intCells (zeros es.length)) 3) (.cells #[.slice none 0 0, .bool false, .slice A es.length c, .slice (some ⟨w.heap.size + 1, 0, none⟩) es.length es.length, .slice (some ⟨w.heap.size, 0, none⟩) es.length es.length] 153)
       have hi9 := (show IB _ (w.heap.size + 1) 3 (zeros es.length) from T.1.2.1)
       have hj9 := (show BB _ w.heap.size (List.replicate es.length false) from T.1.1)
       (with_reducible refine (share_tail L B (w.heap.size + 1 + 1) (w.heap.size + 1) w.heap.size A c m es w _ hl24 hM.out hG.out hE.out hB (hb2.out.trans (T.2.1.mono zb)) (by omega) (by omega) (by omega) (by omega) (by omega) (by omega) (by rw [T.2.2]; omega) (by rw [T.2.2]; omega) T.1.2.2 hi9 hj9).mono ?_))
  all_goals
    rintro e w4 ⟨⟨r, rfl⟩, hb4, v', g4⟩
    have G4 := Lib.hid g4
    have B4 := Lib.hid hb4
    clear g4 hb4
    have hBu := Lib.hid (built_any _ _ _ _ _ _ _ G4.out)
    go_wp2_with (fail)
    refine hBu.out.mono ?_
    rintro e w5 ⟨rfl, rfl⟩
    obtain ⟨A5, c5, rfl⟩ := G4.out.form
    go_wp2_with (fail)
    go_ret2
    refine ⟨A5, c5, rfl, G4.out.ok.lower ?_, B4.out⟩
    simp; omega

set_option maxHeartbeats 4000000 in
theorem iShareExpr_any (L B : Nat) (A : Option Addr) (c : Nat) (es : List Nd) (w : World) (hl : es.length ≤ 1048576) (hes : NS w L B A es) (hB : B ≤ w.heap.size) :
    Calls Try.prog 21 #[.slice A es.length c] w (ResShareExpr (shareR es) (good es) w) := by
  have H := Lib.hid (IsExpr_any L B A c es w hl hes hB)
  cases hg : good es
  · have hR : Hid (shareR es = []) := by simp [Hid, shareR, hg]
    rw [hg] at H
    clear hg hes
    go_enter Try.func21, Try.ntmps21
    go_wp2_with (fail)
    refine H.out.mono ?_
    rintro e w2 ⟨rfl, hb⟩
    have hbb := Lib.hid hb
    clear hb
    go_wp2_with (fail)
    go_ret2
    rw [hR.out]
    exact ⟨none, 0, rfl, OK.nil _ _ _ _, hbb.out⟩
  · obtain ⟨hl1, hl24, hok⟩ := good_len hg
    have hE := Lib.hid hes
    have hG := Lib.hid hg
    rw [hg] at H
    clear hes hok
    obtain ⟨m, hm⟩ : ∃ m, es.length = m + 1 := ⟨es.length - 1, by omega⟩
    have hM := Lib.hid hm
    have hmi : (es.length : Int) - 1 = (m : Int) := by omega
    have hMI := Lib.hid hmi
    clear hm hmi
    have hSh := Lib.hid fun (W : World) (hW : NS W L B A es) (hBW : B ≤ W.heap.size) => shareExpr_any L B A c m es W hM.out hG.out hW hBW
    clear hg
    go_enter Try.func21, Try.ntmps21
    go_wp2_with (fail)
    refine H.out.mono ?_
    rintro e w2 ⟨rfl, hb⟩
    have hb2 := Lib.hid hb
    have hE2 := Lib.hid (hE.out.below hb hB)
    have hz2 := Nat.le_trans hB hb.size
    clear hb
    go_wp2_with (fail)
    rw [hMI.out]
    refine (hSh.out _ hE2.out hz2).mono ?_
    rintro e w5 ⟨A5, c5, rfl, ho5, hb5⟩
    have hO5 := Lib.hid (ho5.lower hb2.out.size)
    have hB5 := Lib.hid (hb2.out.trans (hb5.mono hb2.out.size))
    clear ho5 hb5
    go_wp2_with (fail)
    go_ret2
    exact ⟨A5, c5, rfl, hO5.out, hB5.out⟩
theorem iShareExpr_k (L B : Nat) (A : Option Addr) (c : Nat) (es : List Nd) (w : World) (hl : es.length ≤ 1048576) (hes : RS Nd.enc 4 w L B A es) (hB : B ≤ w.heap.size) (hc : es.length ≤ c) :
    Calls Try.prog 21 #[.slice A es.length c] w (ResShareExpr (shareR es) (good es) w) := iShareExpr_any L B A c es w hl hes.ns hB
end Go.Proofs.Ythjfedidpjfboaa

/- ExpandExpr: the model. -/
namespace Go.Proofs.Ythjfedidpjfboaa
open Go.RowKit
set_option linter.unusedVariables false
set_option maxRecDepth 100000

set_option maxHeartbeats 4000000 in
theorem sput_new (t : TypeId) (rest : List Value) (q L : Nat) (xs : List Nd) (v : Value) (y : Nd) (w : World) (hx : xs.length < 100000) (hL : L ≤ w.heap.size) (hs : GS t rest q L xs false v w) :
    Calls Try.prog 176 #[.pointer (some ⟨q, 0, none⟩), .agg #[.string y.op, .int .i64 y.a, .int .i64 y.b, .int .i64 y.v]] w fun e w' => e = .returned (.int .i64 xs.length) ∧ GP t rest q L v w (xs ++ [y], false) w' := by
  obtain ⟨i0, hi0, hi1, hi2, hi3⟩ := info_parts Try.infoNode
  have hJ0 := Lib.hid hi0
  have hJ1 := Lib.hid hi1
  have hJ2 := Lib.hid hi2
  have hJ3 := Lib.hid hi3
  clear hi0 hi1 hi2 hi3
  obtain ⟨AV, cv, rfl⟩ := hs.form
  have hq0 : q < w.heap.size := hs.lt
  have hal := fun o => (Below.refl w.heap.size w).alloc (Nat.le_refl _) o
  have g0 := fun o => ((hal o).cell (p := ⟨q, 0, none⟩) hq0).trans hs.c0
  have g1 := fun o => ((hal o).cell (p := ⟨q, 1, none⟩) hq0).trans hs.c1
  have x24 : (xs.length : Int) < 100000 := by omega
  have hf := hs.fz 0
  have HS := Lib.hid hs
  clear hs
  go_enter Try.func176, Try.ntmps176
  go_wp2_with (fail)
  obtain ⟨w1, hw1⟩ : ∃ w1, w1 = w.alloc (.cells #[.string y.op, .int .i64 y.a, .int .i64 y.b, .int .i64 y.v] 79) := ⟨_, rfl⟩
  have X1 : XN w1 w.heap.size y := by rw [hw1]; exact xn_new _ y
  have B1 : Hid (Below w.heap.size w w1) := by unfold Hid; rw [hw1]; exact hal _
  have k0 : w1.cell? ⟨q, 0, none⟩ = some (.slice AV xs.length cv) := by rw [hw1]; exact g0 _
  have S1 : Hid (GS t rest q L xs false (.slice AV xs.length cv) w1) := HS.out.next B1.out
  have Z1 : w1.heap.size = w.heap.size + 1 := by rw [hw1]; simp
  obtain ⟨m0, m1, m2, m3⟩ := X1.cells
  have O2 := fun o => Lib.hid (show ((w1.alloc o).drew).ownsRow L 79 4 (.slice AV xs.length cv) xs.length (xs.flatMap Nd.enc) from (S1.out.next (((Below.refl w1.heap.size w1).alloc (Nat.le_refl _) o).drew)).2.1)
  have HF1 : Hid (w1.frozen? ⟨q, 0, none⟩ = false) := S1.out.fz 0
  have hq1 : Hid (q < w1.heap.size) := S1.out.lt
  rw [← hw1]
  have HW1 := Lib.hid hw1
  have hL1 : L ≤ w1.heap.size := by omega
  clear hw1 hal g0 g1 X1
  go_region_law (first | (refine step_append_lies _ rfl _ _ 24 rfl L 79 i0 _ 4 40 Try.underlying24 hJ0.out hJ1.out hJ2.out hJ3.out rfl (by decide) _ _ _ (by rfl) (O2 _).out ⟨w.heap.size + 1, 0, none⟩ 1 1 (Nd.enc y) (by rfl) rfl (four_new y Z1) (four_one _) (by omega) (by unfold maxLen; omega) (by omega) (by simp; omega) (w1.heap.size + 1) (by simp) ?_; intro gg cap w2 hown1 hgr1 hat1 _; obtain ⟨j0, j1, j2, j3, j4⟩ := put_facts2 hq1.out HS.out.2.2 k0 HF1.out hgr1))
  all_goals
    have h1' := Lib.hid hown1
    have J3 := Lib.hid j3
    have J4 := Lib.hid j4
    have HA := Lib.hid hat1
    clear hown1 hgr1 j4 hat1 j3
    go_wp2
    go_ret
    have hgq : gg ≠ q := by
      intro e; subst e
      rcases HA.out with e | e
      · exact HS.out.2.2 e
      · have := hq1.out; omega
    refine ⟨rfl, .slice (some ⟨gg, 0, none⟩) (xs.length + 1) cap, ⟨?_, ?_, ?_⟩, ((Fr.ofBelow B1.out).trans J4.out (fun j hj => .inl hj)).set 0 _, ?_⟩
    · have h7 := J3.out.trans S1.out.1
      simp [World.setCell, Array.getElem?_modify, h7]
    · have h8 := h1'.out
      rw [nflat_snoc, List.length_append]
      refine ⟨h8.1, ?_⟩
      rcases h8.2 with hn | ⟨g, cp, cur, e, hg, hh, hrest⟩
      · exact .inl hn
      · refine .inr ⟨g, cp, cur, e, hg, ?_, hrest⟩
        have e' := e
        simp only [Value.slice.injEq, Option.some.injEq, Addr.mk.injEq] at e'
        exact (Below.heap_setCell w2 ⟨q, 0, none⟩ _ g (by rw [← e'.1.1]; exact hgq)).trans hh
    · intro e; exact hgq (by simpa [Value.ownBlock] using e)
    · intro j hj
      have hj' : gg = j := by simpa [Value.ownBlock] using hj
      subst hj'
      rcases HA.out with e | e
      · exact .inl e
      · exact .inr (by omega)
end Go.Proofs.Ythjfedidpjfboaa

/- ExpandExpr: the model's walk. -/
namespace Go.Proofs.Ythjfedidpjfboaa
open Go.RowKit
set_option linter.unusedVariables false
set_option maxRecDepth 100000

theorem GS.drew {t : TypeId} {rest : List Value} {q L : Nat} {xs : List Nd} {fl : Bool} {v : Value} {w : World} (h : GS t rest q L xs fl v w) : GS t rest q L xs fl v w.drew := h
/-- The state and a cell of one's own, behind a call that may change the state. -/
theorem gp_step {q g : Nat} {v v3 : Value} {W w3 : World} {n : Nd} (hx : XN W g n) (hgq : g ≠ q) (hvg : v.ownBlock ≠ some g) (f3 : Fr q v.ownBlock W w3) (o3 : ∀ j, v3.ownBlock = some j → v.ownBlock = some j ∨ W.heap.size ≤ j) : XN w3 g n ∧ v3.ownBlock ≠ some g := by
  refine ⟨xn_fr hx f3 hgq hvg, fun e => ?_⟩
  rcases o3 _ e with e' | e'
  · exact hvg e'
  · have := hx.lt; omega

end Go.Proofs.Ythjfedidpjfboaa

/- ShareExpr: the model's builder that shares. -/
namespace Go.Proofs.Ythjfedidpjfboaa
open Go.RowKit
set_option linter.unusedVariables false
set_option maxRecDepth 100000

set_option maxHeartbeats 4000000 in
theorem sput_share (t : TypeId) (rest : List Value) (q L : Nat) (xs : List Nd) (v : Value) (y : Nd) (w : World) (hx : xs.length < 100000) (hL : L ≤ w.heap.size) (hs : GS t rest q L xs true v w) :
    Calls Try.prog 176 #[.pointer (some ⟨q, 0, none⟩), .agg #[.string y.op, .int .i64 y.a, .int .i64 y.b, .int .i64 y.v]] w fun e w' => e = .returned (.int .i64 (po1 xs y).2) ∧ GP t rest q L v w ((po1 xs y).1, true) w' := by
  obtain ⟨i0, hi0, hi1, hi2, hi3⟩ := info_parts Try.infoNode
  have hJ0 := Lib.hid hi0
  have hJ1 := Lib.hid hi1
  have hJ2 := Lib.hid hi2
  have hJ3 := Lib.hid hi3
  clear hi0 hi1 hi2 hi3
  obtain ⟨AV, cv, rfl⟩ := hs.form
  have hgd := nd_guard
  have hq0 : q < w.heap.size := hs.lt
  obtain ⟨op, ya, yb, yv⟩ := y
  dsimp only
  obtain ⟨w1, hw1⟩ : ∃ w1, w1 = w.alloc (.cells #[.string op, .int .i64 ya, .int .i64 yb, .int .i64 yv] 79) := ⟨_, rfl⟩
  have b1 : Hid (Below w.heap.size w w1) := by unfold Hid; rw [hw1]; exact (Below.refl _ _).alloc (Nat.le_refl _) _
  have x1 : Hid (XN w1 w.heap.size ⟨op, ya, yb, yv⟩) := by unfold Hid; rw [hw1]; exact xn_new _ ⟨op, ya, yb, yv⟩
  have s1 := Lib.hid (hs.next b1.out)
  have e1 := Lib.hid hw1
  have z1 : w1.heap.size = w.heap.size + 1 := by rw [hw1]; simp
  have k0 := s1.out.c0
  have k1 := s1.out.c1
  rw [hw1] at k0 k1
  clear hw1 hs
  have hfi : Hid (nidx xs ⟨op, ya, yb, yv⟩ = firstI (fun k => sameN (xs.getD k zeroNd) ⟨op, ya, yb, yv⟩) xs.length) := rfl
  have hYes : Hid (0 ≤ nidx xs ⟨op, ya, yb, yv⟩ → po1 xs ⟨op, ya, yb, yv⟩ = (xs, nidx xs ⟨op, ya, yb, yv⟩)) := po1_yes
  have hNo : Hid (¬ 0 ≤ nidx xs ⟨op, ya, yb, yv⟩ → po1 xs ⟨op, ya, yb, yv⟩ = (xs ++ [⟨op, ya, yb, yv⟩], (xs.length : Int))) := po1_no
  generalize hp : po1 xs ⟨op, ya, yb, yv⟩ = pr at *
  clear hp
  obtain ⟨pl, pi⟩ := pr
  dsimp only
  go_enter Try.func176, Try.ntmps176
  go_wp2
  rw [← e1.out]
  clear e1 k0 k1
  go_loopw [16] (fun i wr => ∃ k : Nat, k ≤ xs.length ∧ i = .int .i64 k ∧ (∀ j, j < k → sameN (xs.getD j zeroNd) ⟨op, ya, yb, yv⟩ = false) ∧ Below w1.heap.size w1 wr) (fun i _ => xs.length - (intOf i).toNat)
  case atStart => exact ⟨0, Nat.zero_le _, rfl, fun j hj => by omega, Below.refl _ _⟩
  case round =>
    obtain ⟨k, hk, rfl, hall, hbel⟩ := hrel
    have hAll := Lib.hid hall
    have hBe := Lib.hid hbel
    have hXN := Lib.hid (XN.next x1.out hbel)
    have hSr := Lib.hid (s1.out.next hbel)
    have hzr := hbel.size
    clear hall hbel
    by_cases hlt : k < xs.length
    · have hns := hSr.out.ok.form Nd.hk
      obtain ⟨A', c', hv, hrs⟩ := hns
      injection hv with hv1 hv2 hv3
      subst hv1
      obtain ⟨b9, o9, rfl, ⟨hb9l, hb9u⟩, hc⟩ := hrs.ns (by omega)
      obtain ⟨c1, c2, c3, c4⟩ := hc k hlt
      have i0 : (0 : Int) ≤ (k : Int) := by omega
      have i1 : (k : Int) < (xs.length : Int) := by omega
      have hg1 := getD_nd hlt
      have hYs := Lib.hid (show sameN xs[k] ⟨op, ya, yb, yv⟩ = true → nidx xs ⟨op, ya, yb, yv⟩ = (k : Int) from fun h => by
        rw [hfi.out]; exact firstI_some hlt (by show sameN (xs.getD k zeroNd) _ = true; rw [hg1]; exact h) hAll.out)
      have hNx := Lib.hid (show sameN xs[k] ⟨op, ya, yb, yv⟩ = false → ∀ j, j < k + 1 → sameN (xs.getD j zeroNd) ⟨op, ya, yb, yv⟩ = false from fun h j hj => by
        by_cases e : j = k
        · subst e; rw [hg1]; exact h
        · exact hAll.out j (by omega))
      have hXx := xn_new wr xs[k]
      have hXb := (Below.refl wr.heap.size wr).alloc (Nat.le_refl _) (.cells #[.string xs[k].op, .int .i64 xs[k].a, .int .i64 xs[k].b, .int .i64 xs[k].v] 79)
      have xB := Lib.hid (hBe.out.trans (hXb.mono hBe.out.size))
      have xS := Lib.hid (hSr.out.next hXb)
      obtain ⟨m0, m1, m2, m3⟩ := hXx.cells
      obtain ⟨n0, n1, n2, n3⟩ := (XN.next hXN.out hXb).cells
      clear hc hg1 hXx hXb hrs
      generalize xs[k] = z at *
      obtain ⟨op', a', b', x'⟩ := z
      dsimp only at *
      have hEq := fun W => equalIn_nd op' op a' b' x' ya yb yv W
      cases hs : sameN ⟨op', a', b', x'⟩ ⟨op, ya, yb, yv⟩
      · have hn := Lib.hid (hNx.out hs)
        rw [hs] at hEq
        clear hs hNx hYs
        go_wp2
        go_roundw
        case rel => exact ⟨k + 1, by omega, by go_num, hn.out, xB.out⟩
        case measure => simp [intOf]; omega
      · have hy := hYs.out hs
        have hE := Lib.hid (hYes.out (by rw [hy]; omega))
        have hY := Lib.hid hy
        rw [hs] at hEq
        clear hs hNx hYs hy
        go_wp2
        go_ret
        have h1 := congrArg Prod.fst hE.out
        have h2 := congrArg Prod.snd hE.out
        dsimp only at h1 h2
        subst h1
        rw [hY.out] at h2
        subst h2
        exact ⟨rfl, _, xS.out, Fr.ofBelow (b1.out.trans (xB.out.mono b1.out.size)), fun j hj => .inl hj⟩
    · obtain rfl : k = xs.length := by omega
      have hE := Lib.hid (hNo.out (by rw [hfi.out, firstI_none hAll.out]; decide))
      have k0 : wr.cell? ⟨q, 0, none⟩ = some (.slice AV xs.length cv) := hSr.out.c0
      obtain ⟨m0, m1, m2, m3⟩ := hXN.out.cells
      have O2 := fun o => Lib.hid (show ((wr.alloc o).drew).ownsRow L 79 4 (.slice AV xs.length cv) xs.length (xs.flatMap Nd.enc) from (hSr.out.next (((Below.refl wr.heap.size wr).alloc (Nat.le_refl _) o).drew)).2.1)
      have hf : wr.frozen? ⟨q, 0, none⟩ = false := hSr.out.fz 0
      have HF1 := Lib.hid hf
      have hq1' : Hid (q < wr.heap.size) := hSr.out.lt
      have hL1 : L ≤ wr.heap.size := by omega
      have k0' := fun o => (((Below.refl wr.heap.size wr).alloc (Nat.le_refl _) o).cell (p := ⟨q, 0, none⟩) hq1'.out).trans k0
      go_wp2_with (fail)
      go_region_law (first | (refine step_append_lies _ rfl _ _ 24 rfl L 79 i0 _ 4 40 Try.underlying24 hJ0.out hJ1.out hJ2.out hJ3.out rfl (by decide) _ _ _ (by rfl) (O2 _).out ⟨wr.heap.size, 0, none⟩ 1 1 (Nd.enc ⟨op, ya, yb, yv⟩) (by rfl) rfl (four_new ⟨op, ya, yb, yv⟩ rfl) (four_one _) (by omega) (by unfold maxLen; omega) (by omega) (by simp; omega) (wr.heap.size + 1) (by simp) ?_; intro gg cap w2 hown1 hgr1 hat1 _; obtain ⟨j0, j1, j2, j3, j4⟩ := put_facts2 hq1'.out hSr.out.2.2 k0 HF1.out hgr1))
      all_goals
        have h1' := Lib.hid hown1
        have J3 := Lib.hid j3
        have J4 := Lib.hid j4
        have HA := Lib.hid hat1
        clear hown1 hgr1 j4 hat1 j3
        go_wp2
        go_ret
        have h1 := congrArg Prod.fst hE.out
        have h2 := congrArg Prod.snd hE.out
        dsimp only at h1 h2
        subst h1; subst h2
        have hgq : gg ≠ q := by
          intro e; subst e
          rcases HA.out with e | e
          · exact hSr.out.2.2 e
          · have := hq1'.out; omega
        refine ⟨rfl, .slice (some ⟨gg, 0, none⟩) (xs.length + 1) cap, ⟨?_, ?_, ?_⟩, ((Fr.ofBelow (b1.out.trans (hBe.out.mono b1.out.size))).trans J4.out (fun j hj => .inl hj)).set 0 _, ?_⟩
        · have h7 := J3.out.trans hSr.out.1
          simp [World.setCell, Array.getElem?_modify, h7]
        · have h8 := h1'.out
          rw [nflat_snoc, List.length_append]
          refine ⟨h8.1, ?_⟩
          rcases h8.2 with hn | ⟨g, cp, cur, e, hg, hh, hrest⟩
          · exact .inl hn
          · refine .inr ⟨g, cp, cur, e, hg, ?_, hrest⟩
            have e' := e
            simp only [Value.slice.injEq, Option.some.injEq, Addr.mk.injEq] at e'
            exact (Below.heap_setCell w2 ⟨q, 0, none⟩ _ g (by rw [← e'.1.1]; exact hgq)).trans hh
        · intro e; exact hgq (by simpa [Value.ownBlock] using e)
        · intro j hj
          have hj' : gg = j := by simpa [Value.ownBlock] using hj
          subst hj'
          rcases HA.out with e | e
          · exact .inl e
          · exact .inr (by omega)
end Go.Proofs.Ythjfedidpjfboaa

/- ShareExpr: the model's walk. -/
namespace Go.Proofs.Ythjfedidpjfboaa
open Go.RowKit
set_option linter.unusedVariables false
set_option maxRecDepth 100000

def OnSt (q d L : Nat) (s : List Nd × List Int) (v : Value) (w : World) : Prop := GS 148 [] q L s.1 true v w ∧ IB w d 3 s.2
def OnK (q d : Nat) (j : Nat) : Prop := j = q ∨ j = d
theorem OnOk (q d L : Nat) : StOk (OnK q d) L (OnSt q d L) where
  lt := fun s v w hs j hj => by rcases hj with rfl | rfl; exact hs.1.lt; exact hs.2.lt
  own := fun s v w hs => hs.1.own
  keep := fun s v w w' hs hk hr => ⟨hs.1.keep (hk q (.inl rfl)) hr, (hk d (.inr rfl)).trans hs.2⟩
theorem sp_step {K : Nat → Prop} {g : Nat} {v v3 : Value} {W w3 : World} {n : Nd} (hx : XN W g n) (hgq : ¬ K g) (hvg : v.ownBlock ≠ some g) (f3 : FrK K v.ownBlock W w3) (o3 : ∀ j, v3.ownBlock = some j → v.ownBlock = some j ∨ W.heap.size ≤ j) : XN w3 g n ∧ v3.ownBlock ≠ some g := by
  refine ⟨xn_frK hx f3 hgq hvg, fun e => ?_⟩
  rcases o3 _ e with e' | e'
  · exact hvg e'
  · have := hx.lt; omega
/-- Behind the node's put: its index is stored. -/
theorem on_stored {q d L i : Nat} {s3 : List Nd × List Int} {xs4 : List Nd} {x4 : Int} {v v3 : Value} {W w5 w6 : World} (hqd : q ≠ d) (hdL : d < L) (hs : OnSt q d L s3 v3 w5) (hf : FrK (OnK q d) v.ownBlock W w5) (ho : ∀ j, v3.ownBlock = some j → v.ownBlock = some j ∨ W.heap.size ≤ j) (h6 : GP 148 [] q L v3 w5 (xs4, true) w6) :
    IB w6 d 3 s3.2 ∧ SP (OnK q d) (OnSt q d L) v W (xs4, s3.2.set i x4) (w6.setCell ⟨d, i, none⟩ (.int .i64 x4)) := by
  obtain ⟨v6, g6, f6, o6⟩ := h6
  have hv3 : v3.ownBlock ≠ some d := fun e => by have := (hs.1.own _ e).1; omega
  have hv6 : v6.ownBlock ≠ some d := fun e => by have := (g6.own _ e).1; omega
  have i6 : IB w6 d 3 s3.2 := (f6.block d hs.2.lt (Ne.symm hqd) hv3).trans hs.2
  refine ⟨i6, v6, ⟨g6.other (p := ⟨d, i, none⟩) (Ne.symm hqd) hv6 _, i6.set i x4⟩, (hf.trans (FrK.ofFr f6 (.inl rfl)) ho).set (p := ⟨d, i, none⟩) (.inr rfl) _, fun j hj => ?_⟩
  rcases o6 j hj with e | e
  · exact ho j e
  · exact .inr (Nat.le_trans hf.size e)

set_option maxHeartbeats 2000000 in
theorem once_any (L0 B q d L C : Nat) (A : Option Addr) (c : Nat) (es : List Nd) (w0 : World) (hl : es.length ≤ 24) (hok : okFrom es 0 = true) (hes : NS w0 L0 B A es) (hBC : B ≤ C) (hC : C ≤ w0.heap.size) (hCq : C ≤ q) (hCd : C ≤ d) (hCL : C ≤ L) (hL : L ≤ w0.heap.size) (hqd : q ≠ d) (hdL : d < L) :
    ∀ (F i : Nat) (s : List Nd × List Int) (v : Value) (W : World), i < F → i < es.length → InvO es.length s → Below C w0 W → OnSt q d L s v W →
    Calls Try.prog 140 #[.pointer (some ⟨q, 0, none⟩), .slice A es.length c, .int .i64 i, .slice (some ⟨d, 0, none⟩) es.length es.length] W fun e w' => e = .returned (.int .i64 (on es F i s).2) ∧ SP (OnK q d) (OnSt q d L) v W (on es F i s).1 w' := by
  intro F
  induction F with
  | zero => intro i s v W hi; omega
  | succ F ih =>
    intro i s v W hi hie hI hb hs
    have hnd := ok_get hok hie
    obtain ⟨b, o, hA, ⟨_, hbB⟩, hcc⟩ := (hes.below hb hBC) (by omega)
    obtain ⟨c1, c2, c3, c4⟩ := hcc i hie
    subst hA
    have k0 : (0 : Int) ≤ (i : Int) := by omega
    have k1 : (i : Int) < (es.length : Int) := by omega
    have hbs := hb.size
    have hG := Lib.hid hs
    have hbW : b < W.heap.size := by omega
    have hbC : b < C := by omega
    have hdl : i < s.2.length := by rw [hI.1]; exact hie
    have hdc := hs.2.cell i hdl
    have hdg : s.2[i] = s.2.getD i 0 := by rw [List.getD_eq_getElem?_getD, List.getElem?_eq_getElem hdl]; rfl
    rw [hdg] at hdc
    by_cases h0 : 0 ≤ s.2.getD i 0
    · have e : on es (F + 1) i s = (s, s.2.getD i 0) := by rw [on, if_pos h0]
      rw [e]
      clear ih hes hcc hs hdg e c1 c2 c3 c4
      dsimp only
      generalize s.2.getD i 0 = x at *
      go_enter Try.func140, Try.ntmps140
      go_wp2
      go_ret
      exact ⟨rfl, v, hG.out, FrK.refl _ _ _, fun j hj => .inl hj⟩
    have hge := getD_nd hie
    have hE : on es (F + 1) i s = (((po1 (woG (on es F) es[i] s).1.1 (woG (on es F) es[i] s).2).1, (woG (on es F) es[i] s).1.2.set i (po1 (woG (on es F) es[i] s).1.1 (woG (on es F) es[i] s).2).2), (po1 (woG (on es F) es[i] s).1.1 (woG (on es F) es[i] s).2).2) := by rw [on, if_neg h0, hge]
    obtain ⟨r1, r2⟩ := (on_inv hok (F + 1) i s hi hie hI).2.2.2 (by omega) F rfl
    rw [hge] at r1 r2
    have r24 : (woG (on es F) es[i] s).1.1.length ≤ 24 := by
      have h7 := r1.2
      have h8 := cntD_lt (by rw [r1.1]; exact hie) r2
      have h9 := r1.1
      omega
    have rlen := r1.1
    have HInv := Lib.hid fun a s' (ha : a < i) (hi' : InvO es.length s') => (on_inv hok F a s' (by omega) (by omega) hi').1
    rw [hE]
    clear hE hcc r1 r2 hge
    generalize es[i] = nd at *
    generalize s.2.getD i 0 = dd at *
    have hneg : dd < 0 := by omega
    obtain ⟨op, a, bb, x⟩ := nd
    dsimp only at c1 c2 c3 c4 ⊢
    have c1' := fun u => (((Below.refl W.heap.size W).alloc (Nat.le_refl _) u).cell (p := ⟨b, o + i * 4, none⟩) hbW).trans c1
    have c2' := fun u => (((Below.refl W.heap.size W).alloc (Nat.le_refl _) u).cell (p := ⟨b, o + i * 4 + 1, none⟩) hbW).trans c2
    have c3' := fun u => (((Below.refl W.heap.size W).alloc (Nat.le_refl _) u).cell (p := ⟨b, o + i * 4 + 2, none⟩) hbW).trans c3
    have c4' := fun u => (((Below.refl W.heap.size W).alloc (Nat.le_refl _) u).cell (p := ⟨b, o + i * 4 + 3, none⟩) hbW).trans c4
    have hcell := Lib.hid fun (W' : World) (h : Below C w0 W') => (show W'.cell? ⟨b, o + i * 4, none⟩ = some (.string op) ∧ W'.cell? ⟨b, o + i * 4 + 1, none⟩ = some (.int .i64 a) ∧ W'.cell? ⟨b, o + i * 4 + 2, none⟩ = some (.int .i64 bb) ∧ W'.cell? ⟨b, o + i * 4 + 3, none⟩ = some (.int .i64 x) from
      ⟨(h.cell (p := ⟨b, _, none⟩) hbC).trans ((hb.cell (p := ⟨b, _, none⟩) hbC).symm.trans c1), (h.cell (p := ⟨b, _, none⟩) hbC).trans ((hb.cell (p := ⟨b, _, none⟩) hbC).symm.trans c2), (h.cell (p := ⟨b, _, none⟩) hbC).trans ((hb.cell (p := ⟨b, _, none⟩) hbC).symm.trans c3), (h.cell (p := ⟨b, _, none⟩) hbC).trans ((hb.cell (p := ⟨b, _, none⟩) hbC).symm.trans c4)⟩)
    obtain ⟨W1, hW1⟩ : ∃ W1, W1 = (W.alloc (.cells #[.string op, .int .i64 0, .int .i64 0, .int .i64 x] 79)).drew := ⟨_, rfl⟩
    have b1 : Hid (Below W.heap.size W W1) := by unfold Hid; rw [hW1]; exact ((Below.refl _ _).alloc (Nat.le_refl _) _).drew
    have x1 : Hid (XN W1 W.heap.size ⟨op, 0, 0, x⟩) := by unfold Hid; rw [hW1]; exact xn_new W ⟨op, 0, 0, x⟩
    have e1 := Lib.hid hW1
    have O := Lib.hid (OnOk q d L)
    have g1 := Lib.hid (O.out.next hs b1.out)
    have B1 := Lib.hid (hb.trans (b1.out.mono (by omega)))
    have hgq : ¬ OnK q d W.heap.size := fun h => by have := O.out.lt s v W hs _ h; omega
    have hvg : v.ownBlock ≠ some W.heap.size := fun e => by have := (hs.1.own _ e).2; omega
    have hKC : ∀ j, OnK q d j → C ≤ j := by rintro j (rfl | rfl) <;> assumption
    have hvC := Lib.hid fun j (hj : v.ownBlock = some j) => Nat.le_trans hCL (hs.1.own j hj).1
    clear hW1 hs
    have HP := Lib.hid fun W' => exParts_any op a bb x W'
    have hPut := Lib.hid fun (ys : List Nd) (v' : Value) (y : Nd) (W' : World) (hy : ys.length < 100000) (hz : w0.heap.size ≤ W'.heap.size) (h' : GS 148 [] q L ys true v' W') => sput_share 148 [] q L ys v' y W' hy (by omega) h'
    rcases ar_cases_nd hnd with ⟨h1, h2, h3, h4, h5⟩ | ⟨h1, h2, h3, h4, h5, h6⟩ | ⟨h1, h2, h3, h4, h5, h6, h7⟩
    · dsimp only at h1 h2 h3 h4 h5
      subst h4; subst h5
      have hmv : woG (on es F) ⟨op, 0, 0, x⟩ s = (s, ⟨op, 0, 0, x⟩) := by unfold woG; simp [h1]
      have hp : parts ⟨op, 0, 0, x⟩ = [] := by simp [parts, h2, h3]
      rw [hmv] at r24 rlen ⊢; rw [hp] at HP
      dsimp only at r24 rlen ⊢
      clear ih hes hmv hp h1 h2 h3 hnd
      go_enter Try.func140, Try.ntmps140
      go_wp2_with (fail)
      go_region
      go_wp2_with (fail)
      rw [← e1.out]
      (with_reducible refine (HP.out _).mono ?_)
      rintro e w2 ⟨A2, cc2, rfl, _, hb2⟩
      have B2 := Lib.hid (B1.out.trans (hb2.mono (by have := B1.out.size; omega)))
      have x2 := Lib.hid (x1.out.next hb2)
      have g2 := Lib.hid (O.out.next g1.out hb2)
      have bb2 := Lib.hid (b1.out.trans (hb2.mono b1.out.size))
      clear hb2 c1' c2' c3' c4' c1 c2 c3 c4 hdc
      obtain ⟨m0, m1, m2, m3⟩ := hcell.out w2 B2.out
      go_wp2_with (fail)
      (with_reducible refine (HP.out _).mono ?_)
      rintro e w3 ⟨A3, cc3, rfl, _, hb3⟩
      have x3 := Lib.hid (x2.out.next hb3)
      have g3 := Lib.hid (O.out.next g2.out hb3)
      have bb3 := Lib.hid (bb2.out.trans (hb3.mono bb2.out.size))
      have z3 : w0.heap.size ≤ w3.heap.size := by have := bb3.out.size; omega
      clear hb3 m0 m1 m2 m3
      obtain ⟨m0, m1, m2, m3⟩ := x3.out.cells
      have hPt := Lib.hid (hPut.out s.1 v ⟨op, 0, 0, x⟩ w3 (by omega) z3 g3.out.1)
      have hSt := Lib.hid fun w6 (h6 : GP 148 [] q L v w3 ((po1 s.1 ⟨op, 0, 0, x⟩).1, true) w6) => on_stored (i := i) (x4 := (po1 s.1 ⟨op, 0, 0, x⟩).2) hqd hdL g3.out (FrK.ofBelow bb3.out) (fun j hj => .inl hj) h6
      generalize hpr : po1 s.1 ⟨op, 0, 0, x⟩ = pr at *
      obtain ⟨xs4, x4⟩ := pr
      have hPr := Lib.hid hpr
      clear hpr
      dsimp only at hPt hSt ⊢
      go_wp2_with (fail)
      (with_reducible refine hPt.out.mono ?_)
      rintro e w6 ⟨rfl, h6⟩
      obtain ⟨i6, hsp⟩ := hSt.out w6 h6
      have HSP := Lib.hid hsp
      have u0 := i6.cell i (by omega)
      have u1 := i6.frozen i
      have u2 := (i6.set i x4).cell i (by rw [List.length_set]; omega)
      rw [List.getElem_set_self] at u2
      clear h6 hsp i6 m0 m1 m2 m3
      go_wp2
      go_ret
      rw [hPr.out]
      exact ⟨rfl, HSP.out⟩
    · dsimp only at h1 h2 h3 h4 h5 h6
      obtain ⟨pa, rfl⟩ := Int.eq_ofNat_of_zero_le h4
      subst h6
      have hmv : woG (on es F) ⟨op, (pa : Int), 0, x⟩ s = ((on es F pa s).1, ⟨op, (on es F pa s).2, 0, x⟩) := by unfold woG; simp [h1]
      have hp : parts ⟨op, (pa : Int), 0, x⟩ = [(pa : Int)] := by simp [parts, h2]
      rw [hmv] at r24 rlen ⊢; rw [hp] at HP
      dsimp only at r24 rlen ⊢
      have HA := Lib.hid fun (W' : World) (h' : Below C w0 W') (g' : OnSt q d L s v W') => ih pa s v W' (by omega) (by omega) hI h' g'
      clear ih hes hmv hp h1 h2 h3 hnd
      generalize on es F pa s = ra at *
      obtain ⟨sa, va⟩ := ra
      dsimp only at HA r24 rlen ⊢
      go_enter Try.func140, Try.ntmps140
      go_wp2_with (fail)
      go_region
      go_wp2_with (fail)
      rw [← e1.out]
      (with_reducible refine (HP.out _).mono ?_)
      rintro e w2 ⟨A2, cc2, rfl, _, hb2⟩
      have B2 := Lib.hid (B1.out.trans (hb2.mono (by have := B1.out.size; omega)))
      have x2 := Lib.hid (x1.out.next hb2)
      have g2 := Lib.hid (O.out.next g1.out hb2)
      have bb2 := Lib.hid (b1.out.trans (hb2.mono b1.out.size))
      clear hb2 c1' c2' c3' c4' c1 c2 c3 c4 hdc
      obtain ⟨m0, m1, m2, m3⟩ := hcell.out w2 B2.out
      go_wp2_with (fail)
      (with_reducible refine (HA.out w2 B2.out g2.out).mono ?_)
      rintro e w3 ⟨rfl, v3, g3, f3, o3⟩
      obtain ⟨x3, hv3⟩ := sp_step x2.out hgq hvg f3 o3
      have f1' := x3.fz 1
      have x4 := Lib.hid (x3.setA va)
      have g4 := Lib.hid (O.out.other (p := ⟨W.heap.size, 1, none⟩) g3 hgq hv3 (.int .i64 va))
      have F3 := Lib.hid ((FrK.ofBelow (K := OnK q d) (r := v.ownBlock) bb2.out).trans f3 (fun j hj => .inl hj))
      have F4 := Lib.hid (F3.out.far (p := ⟨W.heap.size, 1, none⟩) (Nat.le_refl _) (.int .i64 va))
      have O3 : Hid (∀ j, v3.ownBlock = some j → v.ownBlock = some j ∨ W.heap.size ≤ j) := fun j hj => by
        rcases o3 j hj with e | e
        · exact .inl e
        · exact .inr (Nat.le_trans bb2.out.size e)
      have B4 : Hid (Below C w0 (w3.setCell ⟨W.heap.size, 1, none⟩ (.int .i64 va))) := by
        unfold Hid
        exact hb.trans (F4.out.below (B := C) (by omega) hKC (fun j hj => hvC.out j hj))
      obtain ⟨W4, hW4⟩ : ∃ W4, W4 = w3.setCell ⟨W.heap.size, 1, none⟩ (.int .i64 va) := ⟨_, rfl⟩
      have p1 := x3.cells.2.1
      have q1 := hcell.out _ B4.out
      rw [← hW4] at x4 g4 F4 B4
      have e4 := Lib.hid hW4
      clear m0 m1 m2 m3 x3 g3 f3 o3 hW4
      obtain ⟨m0, m1, m2, m3⟩ := q1
      go_wp2_with (fail)
      rw [← e4.out]
      (with_reducible refine (HP.out _).mono ?_)
      rintro e w5 ⟨A5, cc5, rfl, _, hb5⟩
      have x5 := Lib.hid (x4.out.next hb5)
      have g5 := Lib.hid (O.out.next g4.out hb5)
      have F5 := Lib.hid (F4.out.trans (r' := none) (FrK.ofBelow hb5) (fun j hj => by cases hj))
      have B5 := Lib.hid (B4.out.trans (hb5.mono (by have := B4.out.size; omega)))
      have z5 : w0.heap.size ≤ w5.heap.size := by have := F5.out.size; omega
      clear hb5 m0 m1 m2 m3 p1 f1'
      obtain ⟨m0, m1, m2, m3⟩ := x5.out.cells
      have hPt := Lib.hid (hPut.out sa.1 v3 ⟨op, va, 0, x⟩ w5 (by omega) z5 g5.out.1)
      have hSt := Lib.hid fun w6 (h6 : GP 148 [] q L v3 w5 ((po1 sa.1 ⟨op, va, 0, x⟩).1, true) w6) => on_stored (i := i) (x4 := (po1 sa.1 ⟨op, va, 0, x⟩).2) hqd hdL g5.out F5.out O3.out h6
      generalize hpr : po1 sa.1 ⟨op, va, 0, x⟩ = pr at *
      obtain ⟨xs4, x4⟩ := pr
      have hPr := Lib.hid hpr
      clear hpr
      dsimp only at hPt hSt ⊢
      go_wp2_with (fail)
      (with_reducible refine hPt.out.mono ?_)
      rintro e w6 ⟨rfl, h6⟩
      obtain ⟨i6, hsp⟩ := hSt.out w6 h6
      have HSP := Lib.hid hsp
      have u0 := i6.cell i (by omega)
      have u1 := i6.frozen i
      have u2 := (i6.set i x4).cell i (by rw [List.length_set]; omega)
      rw [List.getElem_set_self] at u2
      clear h6 hsp i6 m0 m1 m2 m3
      go_wp2
      go_ret
      rw [hPr.out]
      exact ⟨rfl, HSP.out⟩
    · dsimp only at h1 h2 h3 h4 h5 h6 h7
      obtain ⟨pa, rfl⟩ := Int.eq_ofNat_of_zero_le h4
      obtain ⟨pb, rfl⟩ := Int.eq_ofNat_of_zero_le h6
      have hmv : woG (on es F) ⟨op, (pa : Int), (pb : Int), x⟩ s = ((on es F pb (on es F pa s).1).1, ⟨op, (on es F pa s).2, (on es F pb (on es F pa s).1).2, x⟩) := by unfold woG; simp [h1]
      have hp : parts ⟨op, (pa : Int), (pb : Int), x⟩ = [(pa : Int), (pb : Int)] := by simp [parts, h2, h3]
      rw [hmv] at r24 rlen ⊢; rw [hp] at HP
      dsimp only at r24 rlen ⊢
      have HA := Lib.hid fun (W' : World) (h' : Below C w0 W') (g' : OnSt q d L s v W') => ih pa s v W' (by omega) (by omega) hI h' g'
      have hIa := HInv.out pa s (by omega) hI
      have HB := Lib.hid fun (s' : List Nd × List Int) (v' : Value) (W' : World) (hi' : InvO es.length s') (h' : Below C w0 W') (g' : OnSt q d L s' v' W') => ih pb s' v' W' (by omega) (by omega) hi' h' g'
      clear ih hes hmv hp h1 h2 h3 hnd
      generalize on es F pa s = ra at *
      obtain ⟨sa, va⟩ := ra
      dsimp only at HA r24 rlen hIa ⊢
      have HB1 := Lib.hid fun (v' : Value) (W' : World) => HB.out sa v' W' hIa
      clear HB
      generalize on es F pb sa = rb at *
      obtain ⟨sb, vb⟩ := rb
      dsimp only at HB1 r24 rlen ⊢
      go_enter Try.func140, Try.ntmps140
      go_wp2_with (fail)
      go_region
      go_wp2_with (fail)
      rw [← e1.out]
      (with_reducible refine (HP.out _).mono ?_)
      rintro e w2 ⟨A2, cc2, rfl, _, hb2⟩
      have B2 := Lib.hid (B1.out.trans (hb2.mono (by have := B1.out.size; omega)))
      have x2 := Lib.hid (x1.out.next hb2)
      have g2 := Lib.hid (O.out.next g1.out hb2)
      have bb2 := Lib.hid (b1.out.trans (hb2.mono b1.out.size))
      clear hb2 c1' c2' c3' c4' c1 c2 c3 c4 hdc
      obtain ⟨m0, m1, m2, m3⟩ := hcell.out w2 B2.out
      go_wp2_with (fail)
      (with_reducible refine (HA.out w2 B2.out g2.out).mono ?_)
      rintro e w3 ⟨rfl, v3, g3, f3, o3⟩
      obtain ⟨x3, hv3⟩ := sp_step x2.out hgq hvg f3 o3
      have f1' := x3.fz 1
      have x4 := Lib.hid (x3.setA va)
      have g4 := Lib.hid (O.out.other (p := ⟨W.heap.size, 1, none⟩) g3 hgq hv3 (.int .i64 va))
      have F3 := Lib.hid ((FrK.ofBelow (K := OnK q d) (r := v.ownBlock) bb2.out).trans f3 (fun j hj => .inl hj))
      have F4 := Lib.hid (F3.out.far (p := ⟨W.heap.size, 1, none⟩) (Nat.le_refl _) (.int .i64 va))
      have O3 : Hid (∀ j, v3.ownBlock = some j → v.ownBlock = some j ∨ W.heap.size ≤ j) := fun j hj => by
        rcases o3 j hj with e | e
        · exact .inl e
        · exact .inr (Nat.le_trans bb2.out.size e)
      have B4 : Hid (Below C w0 (w3.setCell ⟨W.heap.size, 1, none⟩ (.int .i64 va))) := by
        unfold Hid
        exact hb.trans (F4.out.below (B := C) (by omega) hKC (fun j hj => hvC.out j hj))
      obtain ⟨W4, hW4⟩ : ∃ W4, W4 = w3.setCell ⟨W.heap.size, 1, none⟩ (.int .i64 va) := ⟨_, rfl⟩
      have p1 := x3.cells.2.1
      have q1 := hcell.out _ B4.out
      rw [← hW4] at x4 g4 F4 B4
      have e4 := Lib.hid hW4
      clear m0 m1 m2 m3 x3 g3 f3 o3 hW4
      obtain ⟨m0, m1, m2, m3⟩ := q1
      go_wp2_with (fail)
      rw [← e4.out]
      (with_reducible refine (HP.out _).mono ?_)
      rintro e w5 ⟨A5, cc5, rfl, _, hb5⟩
      have x5 := Lib.hid (x4.out.next hb5)
      have g5 := Lib.hid (O.out.next g4.out hb5)
      have F5 := Lib.hid (F4.out.trans (r' := none) (FrK.ofBelow hb5) (fun j hj => by cases hj))
      have B5 := Lib.hid (B4.out.trans (hb5.mono (by have := B4.out.size; omega)))
      have z5 : w0.heap.size ≤ w5.heap.size := by have := F5.out.size; omega
      clear hb5 m0 m1 m2 m3 p1 f1'
      obtain ⟨m0, m1, m2, m3⟩ := hcell.out w5 B5.out
      go_wp2_with (fail)
      (with_reducible refine (HB1.out v3 w5 B5.out g5.out).mono ?_)
      rintro e w6' ⟨rfl, v6, g6, f6, o6⟩
      obtain ⟨x6, hv6⟩ := sp_step x5.out hgq hv3 f6 o6
      have f2' := x6.fz 2
      have x7 := Lib.hid (x6.setB vb)
      have g7 := Lib.hid (O.out.other (p := ⟨W.heap.size, 2, none⟩) g6 hgq hv6 (.int .i64 vb))
      have F7 := Lib.hid ((F5.out.trans f6 O3.out).far (p := ⟨W.heap.size, 2, none⟩) (Nat.le_refl _) (.int .i64 vb))
      have O6 : Hid (∀ j, v6.ownBlock = some j → v.ownBlock = some j ∨ W.heap.size ≤ j) := fun j hj => by
        rcases o6 j hj with e | e
        · exact O3.out j e
        · exact .inr (Nat.le_trans F5.out.size e)
      have z7 : w0.heap.size ≤ (w6'.setCell ⟨W.heap.size, 2, none⟩ (.int .i64 vb)).heap.size := by have := F7.out.size; omega
      have p2 := x6.cells.2.2.1
      obtain ⟨n0, n1, n2, n3⟩ := x7.out.cells
      obtain ⟨W7, hW7⟩ : ∃ W7, W7 = w6'.setCell ⟨W.heap.size, 2, none⟩ (.int .i64 vb) := ⟨_, rfl⟩
      rw [← hW7] at x7 g7 F7 z7
      have e7 := Lib.hid hW7
      clear m0 m1 m2 m3 x6 g6 f6 o6 hW7
      have hPt := Lib.hid (hPut.out sb.1 v6 ⟨op, va, vb, x⟩ W7 (by omega) z7 g7.out.1)
      have hSt := Lib.hid fun w6 (h6 : GP 148 [] q L v6 W7 ((po1 sb.1 ⟨op, va, vb, x⟩).1, true) w6) => on_stored (i := i) (x4 := (po1 sb.1 ⟨op, va, vb, x⟩).2) hqd hdL g7.out F7.out O6.out h6
      generalize hpr : po1 sb.1 ⟨op, va, vb, x⟩ = pr at *
      obtain ⟨xs4, x4'⟩ := pr
      have hPr := Lib.hid hpr
      clear hpr
      dsimp only at hPt hSt ⊢
      go_wp2_with (fail)
      rw [← e7.out]
      (with_reducible refine hPt.out.mono ?_)
      rintro e w6 ⟨rfl, h6⟩
      obtain ⟨i6, hsp⟩ := hSt.out w6 h6
      have HSP := Lib.hid hsp
      have u0 := i6.cell i (by omega)
      have u1 := i6.frozen i
      have u2 := (i6.set i x4').cell i (by rw [List.length_set]; omega)
      rw [List.getElem_set_self] at u2
      clear h6 hsp i6 n0 n1 n2 n3 p2 f2'
      go_wp2
      go_ret
      rw [hPr.out]
      exact ⟨rfl, HSP.out⟩
end Go.Proofs.Ythjfedidpjfboaa
