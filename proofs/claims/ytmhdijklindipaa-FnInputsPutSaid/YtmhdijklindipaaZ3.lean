/- Texts of this proof, one behind the other: DT4, R, XT, LawU, WE, XS. -/
import Derived.Test.YtmhdijklindipaaZ4
import Derived.Test.YtmhdijklindipaaZ8
import Derived.Test.YtmhdijklindipaaZ16
import Derived.WalkKit
import Derived.WalkSpells
import Derived.WalkLawsBesides
import Derived.Deep.QuietTactic
import Derived.BigQuiet
import Derived.Deep.RegionHeld3
import Derived.Laws.StructEq
import Derived.Lib.Hide
import Derived.Test.YtmhdijklindipaaM2
import Derived.Test.YtmhdijklindipaaE
import Derived.Deep.RegionLaw
import Derived.BigRegion
import Derived.Test.YtmhdijklindipaaLI
import Derived.Test.YtmhdijklindipaaZ10
import Derived.Test.YtmhdijklindipaaG
import Derived.Test.YtmhdijklindipaaCA
/- The laws' comparisons of expressions, of what is the same; tables and trees. -/
namespace Go.Proofs.Ytmhdijklindipaa
open Go.RowKit
set_option linter.unusedVariables false
set_option maxRecDepth 100000

theorem sameN_self (x : Nd) : sameN x x = true := by simp [sameN]
set_option maxHeartbeats 4000000 in
theorem pSameExpr_eq (L B L' B' : Nat) (A A' : Option Addr) (m m' c c' : Nat) (xs : List Nd) (w : World) (hm : m = xs.length) (hm' : m' = xs.length) (hl : xs.length ≤ 1048576) (hx : RS Nd.enc 4 w L B A xs) (hx' : RS Nd.enc 4 w L' B' A' xs) :
    Calls Try.prog 91 #[.slice A m c, .slice A' m' c'] w (YesD w) := by
  subst hm hm'
  have hX := Lib.hid hx.ns
  have hY := Lib.hid hx'.ns
  have hgd := nd_guard
  clear hx hx'
  go_enter Try.func91, Try.ntmps91
  go_wp2
  go_loopw [13] (fun i wr => ∃ k : Nat, k ≤ xs.length ∧ i = .int .i64 k ∧ ∃ n, wr = w.drewN n) (fun i _ => xs.length - (intOf i).toNat)
  case atStart => exact ⟨0, Nat.zero_le _, rfl, 0, rfl⟩
  case round =>
    obtain ⟨k, hk, rfl, n, rfl⟩ := hrel
    by_cases hlt : k < xs.length
    · obtain ⟨b, o, rfl, _, hc⟩ := hX.out (by omega)
      obtain ⟨b', o', rfl, _, hc'⟩ := hY.out (by omega)
      obtain ⟨c1, c2, c3, c4⟩ := hc k hlt
      obtain ⟨d1, d2, d3, d4⟩ := hc' k hlt
      have k0 : (0 : Int) ≤ (k : Int) := by omega
      have k1 : (k : Int) < (xs.length : Int) := by omega
      clear hc hc'
      generalize xs[k] = z at *
      obtain ⟨op, a, bb, v⟩ := z
      dsimp only at *
      have hEq : ∀ W : World, (Op.equalIn 10000 40 (.agg #[.string op, .int .i64 a, .int .i64 bb, .int .i64 v]) (.agg #[.string op, .int .i64 a, .int .i64 bb, .int .i64 v])).run Try.prog W = .ok true W := fun W => by
        have h := equalIn_nd op op a bb v a bb v W
        rw [sameN_self] at h; exact h
      go_wp2_with (fail)
      go_quiet (fail)
      all_goals go_wp2
      all_goals go_roundw
      case rel => exact ⟨k + 1, by omega, by go_num, _, (by first | rfl | exact World.drewN_drewN _ _ _)⟩
      case measure => simp [intOf]; omega
    · obtain rfl : k = xs.length := by omega
      go_wp2
      go_ret
      exact ⟨rfl, _, rfl⟩
set_option maxHeartbeats 4000000 in
theorem pTable_any (L B : Nat) (A : Option Addr) (c : Nat) (es : List Nd) (w : World) (hl : es.length ≤ 1048576) (hes : RS Nd.enc 4 w L B A es) (hB : B ≤ w.heap.size) :
    Calls Try.prog 26 #[.slice A es.length c] w fun e w' => ∃ (A0 : Option Addr) (c0 : Nat), e = .returned (.slice A0 (tabR es).length c0) ∧ OW w' w.heap.size w'.heap.size (.slice A0 (tabR es).length c0) (tabR es) ∧ Below w.heap.size w w' := by
  have H := Lib.hid (iTableOf_any L B A c es w hl hes.ns hB)
  clear hes
  go_enter Try.func26, Try.ntmps26
  go_wp2_with (fail)
  refine H.out.mono ?_
  rintro e w1 ⟨A1, c1, rfl, ho, hb⟩
  have hO := Lib.hid ho
  have hBB := Lib.hid hb
  clear ho hb H
  go_wp2
  go_ret
  exact ⟨A1, c1, rfl, hO.out, hBB.out⟩
set_option maxHeartbeats 4000000 in
theorem pTree_any (L B : Nat) (A : Option Addr) (c : Nat) (es : List Nd) (w : World) (hl : es.length ≤ 1048576) (hes : RS Nd.enc 4 w L B A es) (hB : B ≤ w.heap.size) :
    Calls Try.prog 96 #[.slice A es.length c] w fun e w' => e = .returned (.bool (treeR es)) ∧ Below w.heap.size w w' := by
  have H := Lib.hid (iIsTree_any L B A c es w hl hes.ns hB)
  have hT : Hid (treeR es = (good es && tree es)) := rfl
  clear hes
  generalize treeR es = t at *
  generalize good es = g at *
  go_enter Try.func96, Try.ntmps96
  go_wp2_with (fail)
  refine H.out.mono ?_
  rintro e w1 ⟨rfl, hb⟩
  have hBB := Lib.hid hb
  have hT2 : Hid (g = false → t = false) := fun h => by rw [hT.out, h]; rfl
  clear hb H hT
  cases g
  · have e := hT2.out rfl
    subst e
    go_wp2
    go_ret
    exact ⟨rfl, hBB.out⟩
  · clear hT2
    go_wp2
    go_ret
    exact ⟨rfl, hBB.out⟩
end Go.Proofs.Ytmhdijklindipaa

namespace Go.Proofs.Ytmhdijklindipaa
open Go.RowKit
set_option linter.unusedVariables false

/-! ### DepthOf -/
def dstep (i : Nat) (d : List Int) (k : Int) : List Int := d.set i (max (d.getD i 0) (d.getD k.toNat 0 + 1))
def depAt (es : List Nd) : Nat → List Int
  | 0 => List.replicate es.length 0
  | k + 1 => (parts (es.getD k zeroNd)).foldl (dstep k) (depAt es k)
def depR (es : List Nd) : Int := if good es = true then (depAt es es.length).getD (es.length - 1) 0 else 0
theorem depAt_succ {es : List Nd} {k : Nat} (h : k < es.length) : depAt es (k + 1) = (parts es[k]).foldl (dstep k) (depAt es k) := by
  rw [depAt, List.getD_eq_getElem?_getD, List.getElem?_eq_getElem h]; rfl
theorem foldl_dstep_len (i : Nat) (ps : List Int) (u : List Int) : (ps.foldl (dstep i) u).length = u.length := by
  induction ps generalizing u with
  | nil => rfl
  | cons p ps ih => rw [List.foldl_cons, ih]; simp [dstep]
theorem Bd.dstep {c : Int} {u : List Int} (h : Bd c u) (i : Nat) (k : Int) : Bd (c + 1) (dstep i u k) := by
  intro j
  have h1 := h j
  have h2 := h k.toNat
  have h3 := h i
  unfold Proofs.Ytmhdijklindipaa.dstep
  rw [List.getD_eq_getElem?_getD, List.getElem?_set]
  rw [List.getD_eq_getElem?_getD] at h1
  split
  · split
    · simp only [Option.getD_some]; omega
    · simp; omega
  · omega
theorem foldl_dstep_Bd (i : Nat) (ps : List Int) : ∀ {c : Int} {u : List Int}, Bd c u → Bd (c + ps.length) (ps.foldl (dstep i) u) := by
  induction ps with
  | nil => intro c u h; simpa using h
  | cons p ps ih => intro c u h; rw [List.foldl_cons]; exact (ih (h.dstep i p)).mono (by simp; omega)
theorem depAt_len (es : List Nd) (k : Nat) : (depAt es k).length = es.length := by
  induction k with
  | zero => simp [depAt]
  | succ k ih => rw [depAt, foldl_dstep_len, ih]
theorem depAt_Bd {es : List Nd} {k : Nat} (h : k ≤ es.length) : Bd (2 * k) (depAt es k) := by
  induction k with
  | zero => intro i; rw [depAt, List.getD_eq_getElem?_getD, List.getElem?_replicate]; split <;> simp
  | succ k ih =>
    rw [depAt_succ (by omega)]
    have := parts_len es[k]
    exact (foldl_dstep_Bd k _ (ih (by omega))).mono (by omega)

theorem l1Most_any (a b : Int) (w : World) : Calls Try.prog 183 #[.int .i64 a, .int .i64 b] w fun e w' => e = .returned (.int .i64 (max a b)) ∧ w = w' := by
  by_cases h : b < a
  · go_enter Try.func183, Try.ntmps183
    go_wp2
    go_ret
    exact ⟨ret_int (by omega), rfl⟩
  · go_enter Try.func183, Try.ntmps183
    go_wp2
    go_ret
    exact ⟨ret_int (by omega), rfl⟩

set_option maxRecDepth 100000 in
set_option maxHeartbeats 8000000 in
theorem sDepthOf_any (L B : Nat) (A : Option Addr) (c : Nat) (es : List Nd) (w : World) (hl : es.length ≤ 1048576) (hes : NS w L B A es) (hB : B ≤ w.heap.size) :
    Calls Try.prog 105 #[.slice A es.length c] w fun e w' => e = .returned (.tuple #[.int .i64 (depR es), .bool (good es)]) ∧ Below w.heap.size w w' := by
  have H := Lib.hid (exGood_any L B A c es w hl hes hB)
  have hE := Lib.hid hes
  have hBB := Lib.hid hB
  clear hes hB
  cases hg : good es
  · have hR2 : Hid (depR es = 0) := by simp [Hid, depR, hg]
    go_enter Try.func105, Try.ntmps105
    go_wp2_with (fail)
    refine H.out.mono ?_
    rintro e w2 ⟨rfl, hb⟩
    have hbb := Lib.hid hb
    clear hb
    go_wp2_with (fail)
    go_ret2
    exact ⟨by rw [hR2.out]; rfl, hbb.out⟩
  have hR2 : Hid (depR es = (depAt es es.length).getD (es.length - 1) 0) := by simp [Hid, depR, hg]
  obtain ⟨hl1, hl24, hok⟩ := good_len hg
  have hP := Lib.hid (ok_parts hok)
  have hmk := run_make_ints es.length (by omega)
  clear hok
  go_enter Try.func105, Try.ntmps105
  go_wp2_with (fail)
  refine H.out.mono ?_
  rintro e w2 ⟨rfl, hb⟩
  have hbb := Lib.hid hb
  have hsz := hb.size
  clear hb
  have hU0 : Hid (IB (w2.alloc (.cells (intCells (zeros es.length)) 3)) w2.heap.size 3 (depAt es 0)) := heap_alloc_new w2 _
  have hBel0 := Lib.hid ((Below.refl w2.heap.size w2).alloc (Nat.le_refl _) (.cells (intCells (zeros es.length)) 3))
  have hE2 : Hid (NS w2 L B A es) := hE.out.below hbb.out hBB.out
  have hB2 : B ≤ w2.heap.size := Nat.le_trans hBB.out hsz
  go_wp2
  go_loopw [17] (fun i wr => ∃ k : Nat, k ≤ es.length ∧ i = .int .i64 k ∧ IB wr w2.heap.size 3 (depAt es k) ∧ Below w2.heap.size w2 wr) (fun i _ => es.length - (intOf i).toNat)
  case atStart => exact ⟨0, Nat.zero_le _, rfl, hU0.out, hBel0.out⟩
  case round =>
    obtain ⟨k, hk, rfl, hib, hbel⟩ := hrel
    have hIB := Lib.hid hib
    have hglt := hib.lt
    clear hib hmk hBel0 hU0
    by_cases hlt : k < es.length
    · obtain ⟨b, o, rfl, ⟨_, hbB⟩, hc⟩ := (hE2.out.below hbel hB2) (by omega)
      obtain ⟨c1, c2, c3, c4⟩ := hc k hlt
      clear hc
      have hPk : Hid (∀ p ∈ parts es[k], 0 ≤ p ∧ p < es.length) := hP.out _ (List.getElem_mem hlt)
      have hSk := Lib.hid (depAt_succ hlt)
      have hBd := Lib.hid (depAt_Bd (es := es) (k := k) hk)
      have hLen := Lib.hid (depAt_len es k)
      have hp2 := parts_len es[k]
      clear hP
      generalize hnd : es[k] = nd at *
      obtain ⟨s, a, bb, v⟩ := nd
      clear hnd
      go_wp2_with (fail)
      refine (exParts_any _ _ _ _ _).mono ?_
      rintro e w3 ⟨A2, cc, rfl, hIS, hb2⟩
      have hI2 := Lib.hid hIS
      have hbel2 : Below w2.heap.size w2 w3 := hbel.trans (((Below.refl _ _).alloc hbel.size _).trans (hb2.mono (by simp; have := hbel.size; omega)))
      have hIB2 : Hid (IB w3 w2.heap.size 3 (depAt es k)) := (show IB _ _ _ _ from hIB.out).below ((Below.refl wr.heap.size wr).alloc (Nat.le_refl _) _ |>.trans (hb2.mono (by simp))) hglt
      have hsz2 := hb2.size
      simp at hsz2
      clear hIS hb2 hIB c1 c2 c3 c4 hbel
      generalize hps : parts ⟨s, a, bb, v⟩ = ps at *
      clear hps
      go_wp2_with (fail)
      go_loopw [25] (fun i wi => ∃ j : Nat, j ≤ ps.length ∧ i = .int .i64 j ∧ IB wi w2.heap.size 3 ((ps.take j).foldl (dstep k) (depAt es k)) ∧ Below w2.heap.size w2 wi ∧ IS wi (w2.heap.size + 1) wi.heap.size A2 ps) (fun i _ => ps.length - (intOf i).toNat)
      case atStart =>
        refine ⟨0, Nat.zero_le _, rfl, hIB2.out, hbel2, hI2.out.more ?_ (Nat.le_refl _)⟩
        simp; omega
      case round =>
        obtain ⟨j, hj, rfl, hib, hbel3, his⟩ := hrel
        have hIB3 := Lib.hid hib
        have hIS3 := Lib.hid his
        have hBel3 := Lib.hid hbel3
        clear hib his hbel3
        by_cases hjt : j < ps.length
        · obtain ⟨b2, o2, rfl, hbb2, hc⟩ := hIS3.out (by omega)
          have hcj := hc j hjt
          obtain ⟨hq0, hq1⟩ := hPk.out _ (List.getElem_mem hjt)
          obtain ⟨q, hq⟩ := Int.eq_ofNat_of_zero_le hq0
          have hql : q < es.length := by omega
          rw [hq] at hcj
          have hQ := Lib.hid hq
          clear hc hq hq0 hq1
          have hlen3 : ((ps.take j).foldl (dstep k) (depAt es k)).length = es.length := by rw [foldl_dstep_len]; exact hLen.out
          have hcu := hIB3.out.cell q (by rw [hlen3]; exact hql)
          have hck := hIB3.out.cell k (by rw [hlen3]; exact hlt)
          have hfk := hIB3.out.frozen k
          have hbd3 := (foldl_dstep_Bd k (ps.take j) hBd.out) q
          have hbd4 := (foldl_dstep_Bd k (ps.take j) hBd.out) k
          have hlj : (ps.take j).length ≤ 2 := by rw [List.length_take]; omega
          have hsnoc : (ps.take (j + 1)).foldl (dstep k) (depAt es k) = ((ps.take j).foldl (dstep k) (depAt es k)).set k (max (((ps.take j).foldl (dstep k) (depAt es k)).getD k 0) (((ps.take j).foldl (dstep k) (depAt es k)).getD q 0 + 1)) := by
            rw [List.take_succ_eq_append_getElem hjt, List.foldl_append, hQ.out]; rfl
          have hS3 := Lib.hid hsnoc
          generalize (ps.take j).foldl (dstep k) (depAt es k) = us at *
          have hcu' : wr.cell? ⟨w2.heap.size, q, none⟩ = some (.int .i64 (us.getD q 0)) := by
            rw [hcu, List.getD_eq_getElem?_getD, List.getElem?_eq_getElem (by omega)]; rfl
          have hck' : wr.cell? ⟨w2.heap.size, k, none⟩ = some (.int .i64 (us.getD k 0)) := by
            rw [hck, List.getD_eq_getElem?_getD, List.getElem?_eq_getElem (by omega)]; rfl
          clear hcu hck hsnoc hlen3
          generalize us.getD q 0 = x at *
          generalize us.getD k 0 = y at *
          obtain ⟨hx0, hx1⟩ := hbd3
          obtain ⟨hy0, hy1⟩ := hbd4
          have hx2 : x ≤ 1000 := by omega
          have hy2 : y ≤ 1000 := by omega
          clear hx1 hy1
          have hkeep : ∀ (z : Int) (p : Addr), p.block ≠ w2.heap.size → (wr.setCell ⟨w2.heap.size, k, none⟩ (.int .i64 z)).cell? p = wr.cell? p := fun z p hne => World.cell?_setCell_other wr _ p _ (fun e => by subst e; exact hne rfl)
          have hK := Lib.hid hkeep
          clear hkeep
          have i1 : (q : Int) < (es.length : Int) := by omega
          have i2 : (0 : Int) ≤ (q : Int) := by omega
          have i3 : (k : Int) < (es.length : Int) := by omega
          have i4 : (0 : Int) ≤ (k : Int) := by omega
          have i5 : IntKind.i64.wrap (x + 1) = x + 1 := by rw [IntKind.wrap_i64]; omega
          go_wp2_with (fail)
          go_region_law (go_simp; go_at_call 183; refine (l1Most_any _ _ _).mono ?_; rintro e w' ⟨rfl, rfl⟩)
          all_goals
            go_wp2
            go_roundw
            case rel =>
              refine ⟨j + 1, by omega, by go_num, ?_, (hBel3.out.setCell (Nat.le_refl _) _).drew, ?_⟩
              · rw [hS3.out]; exact hIB3.out.set k (max y (x + 1))
              · have := hIS3.out.keep (w' := wr.setCell ⟨w2.heap.size, k, none⟩ (.int .i64 (max y (x + 1)))) fun p hp _ => hK.out _ p (by omega)
                exact this.more (Nat.le_refl _) (by simp [World.setCell])
            case measure => simp [intOf]; omega
        · obtain rfl : j = ps.length := by omega
          go_wp2
          go_roundw
          case rel =>
            refine ⟨k + 1, by omega, by go_num, ?_, hBel3.out⟩
            have := hIB3.out
            rw [List.take_length] at this
            rw [hSk.out]; exact this
          case measure => simp [intOf]; omega
    · obtain rfl : k = es.length := by omega
      obtain ⟨m, hm⟩ : ∃ m, es.length = m + 1 := ⟨es.length - 1, by omega⟩
      have hlen := depAt_len es es.length
      have hR3 := hR2.out
      have hib := hIB.out
      clear hIB hR2
      generalize depAt es es.length = D at *
      have hcm := hib.cell m (by omega)
      have hRm : depR es = D[m]'(by omega) := by
        rw [hR3, List.getD_eq_getElem?_getD, show es.length - 1 = m by omega, List.getElem?_eq_getElem (by omega)]; rfl
      generalize D[m]'(by omega) = z at *
      have hRm := Lib.hid hRm
      have HB := Lib.hid (hbb.out.trans (hbel.mono hsz))
      clear hlen hR3 hib
      rw [hm]
      go_wp2
      go_ret2
      exact ⟨by rw [hRm.out]; rfl, HB.out⟩
end Go.Proofs.Ytmhdijklindipaa

/- Expressions as terms: what a node stands for, wherever its operands lie. No program. -/
namespace Go.Proofs.Ytmhdijklindipaa
open Go.RowKit
set_option linter.unusedVariables false

/-- A term: a leaf, an op of one term, an op of two. -/
inductive Tm where
  | l (op : ByteArray) (v : Int) : Tm
  | u (op : ByteArray) (v : Int) (t : Tm) : Tm
  | b (op : ByteArray) (v : Int) (s t : Tm) : Tm
def Tm.sz : Tm → Nat
  | .l _ _ => 1
  | .u _ _ t => t.sz + 1
  | .b _ _ s t => s.sz + t.sz + 1
def Tm.dep : Tm → Int
  | .l _ _ => 0
  | .u _ _ t => t.dep + 1
  | .b _ _ s t => max (s.dep + 1) (t.dep + 1)
def Tm.ev (x0 x1 : Int) : Tm → Int
  | .l op v => if isConst op = true then v else if v = 0 then x0 else x1
  | .u op _ t => ap op (t.ev x0 x1) 0
  | .b op _ s t => ap op (s.ev x0 x1) (t.ev x0 x1)
theorem Tm.dep_nn : ∀ t : Tm, 0 ≤ t.dep
  | .l _ _ => Int.le_refl _
  | .u _ _ t => by have := t.dep_nn; unfold Tm.dep; omega
  | .b _ _ s t => by have := s.dep_nn; have := t.dep_nn; unfold Tm.dep; omega
def tm (es : List Nd) : Nat → Nat → Tm
  | 0, _ => .l ByteArray.empty 0
  | F + 1, i =>
    if ar (es.getD i zeroNd).op = 1 then .u (es.getD i zeroNd).op (es.getD i zeroNd).v (tm es F (es.getD i zeroNd).a.toNat)
    else if ar (es.getD i zeroNd).op = 2 then .b (es.getD i zeroNd).op (es.getD i zeroNd).v (tm es F (es.getD i zeroNd).a.toNat) (tm es F (es.getD i zeroNd).b.toNat)
    else .l (es.getD i zeroNd).op (es.getD i zeroNd).v
def tmE (es : List Nd) (i : Nat) : Tm := tm es (i + 1) i
theorem tm_app {xs ys : List Nd} (hok : okFrom xs 0 = true) : ∀ F G i, i < F → i < G → i < xs.length → tm (xs ++ ys) F i = tm xs G i
  | 0, _, i, h, _, _ => by omega
  | F + 1, 0, i, _, h, _ => by omega
  | F + 1, G + 1, i, hF, hG, hi => by
    have hnd := ok_get hok hi
    have e1 : (xs ++ ys).getD i zeroNd = xs[i] := by rw [List.getD_eq_getElem?_getD, List.getElem?_append_left hi, List.getElem?_eq_getElem hi]; rfl
    have ih := tm_app (xs := xs) (ys := ys) hok F G
    unfold tm
    rw [e1, getD_nd hi]
    generalize xs[i] = n at *
    rcases ar_cases_nd hnd with ⟨h1, -⟩ | ⟨h1, -, -, ha, ha', -⟩ | ⟨h1, -, -, ha, ha', hb, hb'⟩
    · simp [h1]
    · simp only [h1, if_true]
      rw [ih n.a.toNat (by omega) (by omega) (by omega)]
    · have h2 : ¬ (2 : Int) = 1 := by decide
      simp only [h1, if_true, if_neg h2]
      rw [ih n.a.toNat (by omega) (by omega) (by omega), ih n.b.toNat (by omega) (by omega) (by omega)]
theorem tm_fuel {es : List Nd} (hok : okFrom es 0 = true) {F G i : Nat} (h1 : i < F) (h2 : i < G) (h3 : i < es.length) : tm es F i = tm es G i := by
  have := tm_app (ys := []) hok F G i h1 h2 h3
  rwa [List.append_nil] at this
theorem tmE_app {xs ys : List Nd} (hok : okFrom xs 0 = true) {i : Nat} (hi : i < xs.length) : tmE (xs ++ ys) i = tmE xs i := tm_app hok _ _ _ (Nat.lt_succ_self _) (Nat.lt_succ_self _) hi
theorem tmE_cases {es : List Nd} (hok : okFrom es 0 = true) {i : Nat} (hi : i < es.length) :
    (ar es[i].op = 0 ∧ es[i].a = 0 ∧ es[i].b = 0 ∧ tmE es i = .l es[i].op es[i].v) ∨
    (ar es[i].op = 1 ∧ isOne es[i].op = true ∧ ∃ a : Nat, es[i].a = a ∧ a < i ∧ es[i].b = 0 ∧ tmE es i = .u es[i].op es[i].v (tmE es a)) ∨
    (ar es[i].op = 2 ∧ isOne es[i].op = false ∧ isTwo es[i].op = true ∧ ∃ a b : Nat, es[i].a = a ∧ es[i].b = b ∧ a < i ∧ b < i ∧ tmE es i = .b es[i].op es[i].v (tmE es a) (tmE es b)) := by
  have hnd := ok_get hok hi
  have hf : ∀ a : Nat, a < i → tm es i a = tmE es a := fun a ha => tm_fuel hok ha (Nat.lt_succ_self _) (by omega)
  have e : tmE es i = (if ar es[i].op = 1 then .u es[i].op es[i].v (tm es i es[i].a.toNat) else if ar es[i].op = 2 then .b es[i].op es[i].v (tm es i es[i].a.toNat) (tm es i es[i].b.toNat) else .l es[i].op es[i].v) := by
    show tm es (i + 1) i = _
    rw [tm, getD_nd hi]
  rw [e]
  clear e
  generalize es[i] = n at *
  rcases ar_cases_nd hnd with ⟨h1, h2, h3, h4, h5⟩ | ⟨h1, h2, h3, ha, ha', hb⟩ | ⟨h1, h2, h3, ha, ha', hb, hb'⟩
  · left; exact ⟨h1, h4, h5, by rw [if_neg (by omega), if_neg (by omega)]⟩
  · right; left
    obtain ⟨a, ea⟩ := Int.eq_ofNat_of_zero_le ha
    refine ⟨h1, h2, a, ea, by omega, hb, ?_⟩
    rw [if_pos h1, ea, Int.toNat_natCast, hf a (by omega)]
  · right; right
    obtain ⟨a, ea⟩ := Int.eq_ofNat_of_zero_le ha
    obtain ⟨b, eb⟩ := Int.eq_ofNat_of_zero_le hb
    refine ⟨h1, h2, h3, a, b, ea, eb, by omega, by omega, ?_⟩
    rw [if_neg (by omega), if_pos h1, ea, eb, Int.toNat_natCast, Int.toNat_natCast, hf a (by omega), hf b (by omega)]

/-! ### Values and depth -/
theorem ar0_in {s : ByteArray} (h : ar s = 0) (hc : isConst s = false) : isIn s = true := by
  unfold ar at h
  rw [hc, Bool.or_false] at h
  by_cases h1 : isIn s = true
  · exact h1
  · rw [if_neg h1] at h
    split at h
    · omega
    · split at h <;> omega
theorem ar12_no {s : ByteArray} (h : ¬ ar s = 0) : isConst s = false ∧ isIn s = false := by
  unfold ar at h
  cases h1 : isIn s <;> cases h2 : isConst s <;> simp [h1, h2] at h ⊢
theorem valsT {es : List Nd} (hok : okFrom es 0 = true) (x0 x1 : Int) : ∀ n, n ≤ es.length → ∀ i, i < n → (valsAt es x0 x1 n).getD i 0 = (tmE es i).ev x0 x1
  | 0, _, i, h => by omega
  | n + 1, hn, i, hi => by
    have ih := valsT hok x0 x1 n (by omega)
    rw [valsAt_succ x0 x1 (by omega), List.getD_eq_getElem?_getD]
    by_cases e : i < n
    · rw [List.getElem?_append_left (by rw [valsAt_len]; exact e), ← List.getD_eq_getElem?_getD]; exact ih i e
    · obtain rfl : i = n := by omega
      rw [List.getElem?_append_right (by rw [valsAt_len]; omega), valsAt_len, Nat.sub_self]
      show nodeVal es[i] (valsAt es x0 x1 i) x0 x1 = _
      rcases tmE_cases hok (show i < es.length by omega) with ⟨h1, _, _, e⟩ | ⟨h1, h2, a, ea, ha, hb, e⟩ | ⟨h1, h2, h3, a, b, ea, eb, ha, hb, e⟩
      · rw [e]
        unfold nodeVal Tm.ev
        cases hc : isConst es[i].op
        · rw [if_pos (ar0_in h1 hc)]
        · rfl
      · rw [e]
        obtain ⟨c1, c2⟩ := ar12_no (s := es[i].op) (by omega)
        unfold nodeVal Tm.ev
        rw [c1, c2, h2, ea, Int.toNat_natCast, ih a ha]; rfl
      · rw [e]
        obtain ⟨c1, c2⟩ := ar12_no (s := es[i].op) (by omega)
        unfold nodeVal Tm.ev
        rw [c1, c2, h2, ea, eb, Int.toNat_natCast, Int.toNat_natCast, ih a ha, ih b hb]; rfl
theorem vals_tm {es : List Nd} (hok : okFrom es 0 = true) (x0 x1 : Int) {i : Nat} (hi : i < es.length) : (vals es x0 x1).getD i 0 = (tmE es i).ev x0 x1 := valsT hok x0 x1 _ (Nat.le_refl _) i hi
theorem dstep_at {d : List Int} {i : Nat} (k : Int) (hi : i < d.length) : (dstep i d k).getD i 0 = max (d.getD i 0) (d.getD k.toNat 0 + 1) := by
  unfold dstep; rw [List.getD_eq_getElem?_getD, List.getElem?_set_self hi]; rfl
theorem dstep_ne {d : List Int} {i j : Nat} (k : Int) (h : i ≠ j) : (dstep i d k).getD j 0 = d.getD j 0 := getD_set_int _ h
theorem depT {es : List Nd} (hok : okFrom es 0 = true) : ∀ n, n ≤ es.length → (∀ i, i < n → (depAt es n).getD i 0 = (tmE es i).dep) ∧ ∀ i, n ≤ i → (depAt es n).getD i 0 = 0
  | 0, _ => ⟨fun i h => by omega, fun i _ => by
    rw [depAt, List.getD_eq_getElem?_getD, List.getElem?_replicate]; split <;> rfl⟩
  | n + 1, hn => by
    obtain ⟨i1, i2⟩ := depT hok n (by omega)
    have hnl : n < es.length := by omega
    have hl := depAt_len es n
    rw [depAt_succ hnl]
    rcases tmE_cases hok hnl with ⟨h1, _, _, e⟩ | ⟨h1, h2, a, ea, ha, hb, e⟩ | ⟨h1, h2, h3, a, b, ea, eb, ha, hb, e⟩
    · have hp : parts es[n] = [] := by
        rcases parts_two (ok_get hok hnl) with ⟨h, _⟩ | ⟨_, h, _⟩ | ⟨_, h, h', _⟩
        · exact h
        · rcases ar_cases_nd (ok_get hok hnl) with ⟨_, g, _⟩ | ⟨g, _⟩ | ⟨g, _⟩
          · rw [g] at h; cases h
          · omega
          · omega
        · rcases ar_cases_nd (ok_get hok hnl) with ⟨_, _, g, _⟩ | ⟨g, _⟩ | ⟨g, _⟩
          · rw [g] at h'; cases h'
          · omega
          · omega
      rw [hp]
      refine ⟨fun i hi => ?_, fun i hi => i2 i (by omega)⟩
      by_cases e2 : i < n
      · exact i1 i e2
      · obtain rfl : i = n := by omega
        rw [e]; exact i2 i (Nat.le_refl _)
    · have hp : parts es[n] = [(a : Int)] := by unfold parts; rw [if_pos h2, ea]
      rw [hp]
      show (∀ i, i < n + 1 → (dstep n (depAt es n) a).getD i 0 = _) ∧ ∀ i, n + 1 ≤ i → (dstep n (depAt es n) a).getD i 0 = 0
      refine ⟨fun i hi => ?_, fun i hi => by rw [dstep_ne _ (by omega)]; exact i2 i (by omega)⟩
      by_cases e2 : i < n
      · rw [dstep_ne _ (by omega)]; exact i1 i e2
      · obtain rfl : i = n := by omega
        rw [dstep_at _ (by omega), Int.toNat_natCast, i2 i (Nat.le_refl _), i1 a ha, e]
        have := (tmE es a).dep_nn
        show max 0 ((tmE es a).dep + 1) = (tmE es a).dep + 1
        omega
    · have hp : parts es[n] = [(a : Int), (b : Int)] := by unfold parts; rw [if_neg (by simp [h2]), if_pos h3, ea, eb]
      rw [hp]
      show (∀ i, i < n + 1 → (dstep n (dstep n (depAt es n) a) b).getD i 0 = _) ∧ ∀ i, n + 1 ≤ i → (dstep n (dstep n (depAt es n) a) b).getD i 0 = 0
      refine ⟨fun i hi => ?_, fun i hi => by rw [dstep_ne _ (by omega), dstep_ne _ (by omega)]; exact i2 i (by omega)⟩
      by_cases e2 : i < n
      · rw [dstep_ne _ (by omega), dstep_ne _ (by omega)]; exact i1 i e2
      · obtain rfl : i = n := by omega
        rw [dstep_at _ (by unfold dstep; rw [List.length_set]; omega), Int.toNat_natCast, dstep_ne (j := b) _ (by omega), dstep_at _ (by omega), Int.toNat_natCast, i2 i (Nat.le_refl _), i1 a ha, i1 b hb, e]
        have := (tmE es a).dep_nn
        show max (max 0 ((tmE es a).dep + 1)) ((tmE es b).dep + 1) = max ((tmE es a).dep + 1) ((tmE es b).dep + 1)
        omega
theorem depR_tm {es : List Nd} (hg : good es = true) : depR es = (tmE es (es.length - 1)).dep := by
  obtain ⟨h1, _, hok⟩ := good_len hg
  unfold depR; rw [if_pos hg]
  exact (depT hok _ (Nat.le_refl _)).1 _ (by omega)

/-! ### Sharing, told of terms -/
def shT : Tm → List Nd → List Nd × Int
  | .l op v, xs => po1 xs ⟨op, 0, 0, v⟩
  | .u op v t, xs => po1 (shT t xs).1 ⟨op, (shT t xs).2, 0, v⟩
  | .b op v s t, xs => po1 (shT t (shT s xs).1).1 ⟨op, (shT s xs).2, (shT t (shT s xs).1).2, v⟩
theorem ba_inj {s t : ByteArray} (h : s.toList = t.toList) : s = t := by
  rw [ByteArray.toList_eq, ByteArray.toList_eq] at h
  exact ByteArray.ext (Array.toList_inj.1 h)
theorem sameN_iff {x y : Nd} : sameN x y = true ↔ x = y := by
  obtain ⟨s, a, b, v⟩ := x
  obtain ⟨s', a', b', v'⟩ := y
  unfold sameN
  simp only [Bool.and_eq_true, beq_iff_eq, Nd.mk.injEq]
  constructor
  · rintro ⟨⟨⟨h1, h2⟩, h3⟩, h4⟩; exact ⟨ba_inj h1, h2, h3, h4⟩
  · rintro ⟨h1, h2, h3, h4⟩; exact ⟨⟨⟨by rw [h1], h2⟩, h3⟩, h4⟩
structure Canon (xs : List Nd) : Prop where
  ok : okFrom xs 0 = true
  once : ∀ i j, i < j → j < xs.length → xs.getD i zeroNd ≠ xs.getD j zeroNd
theorem nidx_at {xs : List Nd} (h : Canon xs) {k : Nat} (hk : k < xs.length) {y : Nd} (hy : xs.getD k zeroNd = y) : nidx xs y = k := by
  refine firstI_some hk (sameN_iff.2 hy) fun i hi => ?_
  cases hs : sameN (xs.getD i zeroNd) y
  · rfl
  · have := sameN_iff.1 hs
    exact absurd (this.trans hy.symm) (h.once i k hi hk)
theorem po_there {xs : List Nd} (h : Canon xs) {k : Nat} (hk : k < xs.length) {y : Nd} (hy : xs.getD k zeroNd = y) : po1 xs y = (xs, (k : Int)) := by
  have e := nidx_at h hk hy
  rw [po1_yes (by omega), e]
structure PoOk (xs : List Nd) (y : Nd) (R : List Nd × Int) : Prop where
  canon : Canon R.1
  pre : ∃ zs, R.1 = xs ++ zs
  grow : R.1.length = xs.length ∨ (R.1.length = xs.length + 1 ∧ R.2 = (xs.length : Int))
  idx : ∃ k : Nat, R.2 = k ∧ k < R.1.length ∧ R.1.getD k zeroNd = y
theorem po_ok {xs : List Nd} {y : Nd} (h : Canon xs) (hy : isNode y xs.length = true) : PoOk xs y (po1 xs y) := by
  by_cases h0 : 0 ≤ nidx xs y
  · rw [po1_yes h0]
    rcases firstI_cases (fun k => sameN (xs.getD k zeroNd) y) xs.length with ⟨e, _⟩ | ⟨k, hk, e, hp, _⟩
    · unfold nidx at h0; omega
    · exact ⟨h, ⟨[], by simp⟩, .inl rfl, k, e, hk, sameN_iff.1 hp⟩
  · rw [po1_no h0]
    have hn := firstI_neg.1 (show firstI (fun k => sameN (xs.getD k zeroNd) y) xs.length < 0 by unfold nidx at h0; omega)
    have hg : ∀ k, k < xs.length → (xs ++ [y]).getD k zeroNd = xs.getD k zeroNd := fun k hk => by rw [List.getD_eq_getElem?_getD, List.getElem?_append_left hk, ← List.getD_eq_getElem?_getD]
    have hl : (xs ++ [y]).getD xs.length zeroNd = y := by rw [List.getD_eq_getElem?_getD, List.getElem?_append_right (Nat.le_refl _), Nat.sub_self]; rfl
    refine ⟨⟨?_, fun i j hij hj => ?_⟩, ⟨[y], rfl⟩, .inr ⟨by simp, rfl⟩, xs.length, rfl, by simp, hl⟩
    · rw [okFrom_snoc, h.ok, Int.zero_add, hy]; rfl
    · simp only [List.length_append, List.length_cons, List.length_nil] at hj
      rw [hg i (by omega)]
      by_cases e : j < xs.length
      · rw [hg j e]; exact h.once i j hij e
      · obtain rfl : j = xs.length := by omega
        rw [hl]
        intro e2
        have := hn i hij
        simp only [sameN_iff.2 e2] at this
        cases this
theorem sh_there {xs : List Nd} (h : Canon xs) : ∀ (t : Tm) (k : Nat), k < xs.length → tmE xs k = t → shT t xs = (xs, (k : Int))
  | .l op v, k, hk, ht => by
    rcases tmE_cases h.ok hk with ⟨_, h2, h3, e⟩ | ⟨_, _, a, _, _, _, e⟩ | ⟨_, _, _, a, b, _, _, _, _, e⟩
    · rw [ht] at e; injection e with e1 e2
      unfold shT
      refine po_there h hk ?_
      rw [getD_nd hk, e1, e2]
      generalize xs[k] = n at *
      obtain ⟨p, q, r, s⟩ := n
      simp only at h2 h3; subst h2; subst h3; rfl
    · rw [ht] at e; cases e
    · rw [ht] at e; cases e
  | .u op v t, k, hk, ht => by
    rcases tmE_cases h.ok hk with ⟨_, h2, h3, e⟩ | ⟨_, _, a, ea, ha, hb, e⟩ | ⟨_, _, _, a, b, _, _, _, _, e⟩
    · rw [ht] at e; cases e
    · rw [ht] at e; injection e with e1 e2 e3
      have ih := sh_there h t a (by omega) e3.symm
      unfold shT
      rw [ih]
      refine po_there h hk ?_
      rw [getD_nd hk, e1, e2]
      generalize xs[k] = n at *
      obtain ⟨p, q, r, s⟩ := n
      simp only at ea hb; subst ea; subst hb; rfl
    · rw [ht] at e; cases e
  | .b op v s t, k, hk, ht => by
    rcases tmE_cases h.ok hk with ⟨_, h2, h3, e⟩ | ⟨_, _, a, ea, ha, hb, e⟩ | ⟨_, _, _, a, b, ea, eb, ha, hb, e⟩
    · rw [ht] at e; cases e
    · rw [ht] at e; cases e
    · rw [ht] at e; injection e with e1 e2 e3 e4
      have ih1 := sh_there h s a (by omega) e3.symm
      have ih2 := sh_there h t b (by omega) e4.symm
      unfold shT
      rw [ih1]
      simp only
      rw [ih2]
      refine po_there h hk ?_
      rw [getD_nd hk, e1, e2]
      generalize xs[k] = n at *
      obtain ⟨p, q, r, s⟩ := n
      simp only at ea eb; subst ea; subst eb; rfl
/-- A term of valid nodes. -/
def Vt : Tm → Prop
  | .l op v => ar op = 0 ∧ ∀ i : Int, isNode ⟨op, 0, 0, v⟩ i = true
  | .u op v t => ar op = 1 ∧ isOne op = true ∧ (∀ a i : Int, 0 ≤ a → a < i → isNode ⟨op, a, 0, v⟩ i = true) ∧ Vt t
  | .b op v s t => ar op = 2 ∧ isOne op = false ∧ isTwo op = true ∧ (∀ a b i : Int, 0 ≤ a → a < i → 0 ≤ b → b < i → isNode ⟨op, a, b, v⟩ i = true) ∧ Vt s ∧ Vt t
theorem isNode_place {n : Nd} {i : Int} (h : isNode n i = true) :
    (ar n.op = 0 → ∀ j : Int, isNode ⟨n.op, 0, 0, n.v⟩ j = true) ∧ (ar n.op = 1 → ∀ a j : Int, 0 ≤ a → a < j → isNode ⟨n.op, a, 0, n.v⟩ j = true) ∧ (ar n.op = 2 → ∀ a b j : Int, 0 ≤ a → a < j → 0 ≤ b → b < j → isNode ⟨n.op, a, b, n.v⟩ j = true) := by
  have hr : ∀ a j : Int, 0 ≤ a → a < j → inR a 0 (j - 1) = true := fun a j h1 h2 => (inR_iff _ _ _).2 ⟨h1, by omega⟩
  have har := ar_cases_nd h
  unfold isNode at h ⊢
  dsimp only
  by_cases h1 : isIn n.op = true
  · rw [if_pos h1] at h
    have h9 : ar n.op = 0 := by unfold ar; rw [h1]; rfl
    refine ⟨fun _ j => ?_, fun e => by omega, fun e => by omega⟩
    rw [if_pos h1]; simp only [Bool.and_eq_true] at h ⊢; exact ⟨⟨rfl, rfl⟩, h.2⟩
  · rw [if_neg h1] at h
    by_cases h2 : isConst n.op = true
    · rw [if_pos h2] at h
      have h9 : ar n.op = 0 := by unfold ar; rw [h2, Bool.or_true]; rfl
      refine ⟨fun _ j => ?_, fun e => by omega, fun e => by omega⟩
      rw [if_neg h1, if_pos h2]; simp only [Bool.and_eq_true] at h ⊢; exact ⟨⟨rfl, rfl⟩, h.2⟩
    · rw [if_neg h2] at h
      have h1' : isIn n.op = false := by simpa using h1
      have h2' : isConst n.op = false := by simpa using h2
      by_cases h3 : isOne n.op = true
      · rw [if_pos h3] at h
        have h9 : ar n.op = 1 := by unfold ar; rw [h1', h2', if_pos h3]; rfl
        refine ⟨fun e => by omega, fun _ a j ha hj => ?_, fun e => by omega⟩
        rw [if_neg h1, if_neg h2, if_pos h3]
        simp only [Bool.and_eq_true] at h ⊢; exact ⟨⟨hr a j ha hj, rfl⟩, h.2⟩
      · rw [if_neg h3] at h
        have h3' : isOne n.op = false := by simpa using h3
        simp only [Bool.and_eq_true] at h
        have h9 : ar n.op = 2 := by unfold ar; rw [h1', h2', if_neg h3, if_pos h.1.1.1]; rfl
        refine ⟨fun e => by omega, fun e => by omega, fun _ a b j ha hj hb hj2 => ?_⟩
        rw [if_neg h1, if_neg h2, if_neg h3]
        simp only [Bool.and_eq_true]; exact ⟨⟨⟨h.1.1.1, hr a j ha hj⟩, hr b j hb hj2⟩, h.2⟩
theorem tmE_vt {es : List Nd} (hok : okFrom es 0 = true) : ∀ (n i : Nat), i < n → i < es.length → Vt (tmE es i)
  | 0, i, h, _ => by omega
  | n + 1, i, h, hi => by
    have hp := isNode_place (ok_get hok hi)
    rcases tmE_cases hok hi with ⟨h1, _, _, e⟩ | ⟨h1, h2, a, ea, ha, hb, e⟩ | ⟨h1, h2, h3, a, b, ea, eb, ha, hb, e⟩
    · rw [e]; exact ⟨h1, hp.1 h1⟩
    · rw [e]; exact ⟨h1, h2, hp.2.1 h1, tmE_vt hok n a (by omega) (by omega)⟩
    · rw [e]; exact ⟨h1, h2, h3, hp.2.2 h1, tmE_vt hok n a (by omega) (by omega), tmE_vt hok n b (by omega) (by omega)⟩
structure ShT9 (xs : List Nd) (t : Tm) (R : List Nd × Int) : Prop where
  canon : Canon R.1
  pre : ∃ zs, R.1 = xs ++ zs
  idx : ∃ k : Nat, R.2 = k ∧ k < R.1.length ∧ tmE R.1 k = t ∧ (xs.length ≤ k → k + 1 = R.1.length)
  new : ∀ j, xs.length ≤ j → j < R.1.length → (tmE R.1 j).sz ≤ t.sz
  used : ∀ j, xs.length ≤ j → j < R.1.length → (j : Int) = R.2 ∨ ∃ i, i < R.1.length ∧ (j : Int) ∈ parts (R.1.getD i zeroNd)
theorem pre_len {xs zs R : List Nd} (h : R = xs ++ zs) : xs.length ≤ R.length := by rw [h, List.length_append]; omega
theorem pre_tm {xs zs R : List Nd} (hok : okFrom xs 0 = true) (h : R = xs ++ zs) {i : Nat} (hi : i < xs.length) : tmE R i = tmE xs i := by rw [h]; exact tmE_app hok hi
theorem pre_get {xs zs R : List Nd} (h : R = xs ++ zs) {i : Nat} (hi : i < xs.length) : R.getD i zeroNd = xs.getD i zeroNd := by
  rw [h, List.getD_eq_getElem?_getD, List.getElem?_append_left hi, ← List.getD_eq_getElem?_getD]
theorem sh_ok : ∀ (t : Tm), Vt t → ∀ xs, Canon xs → ShT9 xs t (shT t xs)
  | .l op v, hv, xs, hc => by
    have hv' : ar op = 0 ∧ ∀ i : Int, isNode ⟨op, 0, 0, v⟩ i = true := hv
    have P := po_ok hc (hv'.2 xs.length)
    show ShT9 xs (.l op v) (po1 xs ⟨op, 0, 0, v⟩)
    generalize po1 xs ⟨op, 0, 0, v⟩ = R at *
    obtain ⟨k, e, hk, hg⟩ := P.idx
    have ht : tmE R.1 k = .l op v := by
      rw [getD_nd hk] at hg
      rcases tmE_cases P.canon.ok hk with ⟨_, _, _, e⟩ | ⟨h1, _⟩ | ⟨h1, _⟩
      · rw [e, hg]
      · rw [hg] at h1; simp only at h1; omega
      · rw [hg] at h1; simp only at h1; omega
    have hgr := P.grow
    refine ⟨P.canon, P.pre, ⟨k, e, hk, ht, fun h => by omega⟩, fun j hj hj2 => ?_, fun j hj hj2 => .inl (by omega)⟩
    obtain rfl : j = k := by omega
    rw [ht]; exact Nat.le_refl _
  | .u op v t, hv, xs, hc => by
    obtain ⟨h1, h2, h3, h4⟩ : ar op = 1 ∧ isOne op = true ∧ (∀ a i : Int, 0 ≤ a → a < i → isNode ⟨op, a, 0, v⟩ i = true) ∧ Vt t := hv
    have S := sh_ok t h4 xs hc
    show ShT9 xs (.u op v t) (po1 (shT t xs).1 ⟨op, (shT t xs).2, 0, v⟩)
    generalize shT t xs = T at *
    obtain ⟨a, ea, ha, hta, hla⟩ := S.idx
    rw [ea]
    have P := po_ok S.canon (h3 a T.1.length (by omega) (by omega))
    generalize po1 T.1 ⟨op, (a : Int), 0, v⟩ = R at *
    obtain ⟨k, e, hk, hg⟩ := P.idx
    obtain ⟨z1, p1⟩ := S.pre
    obtain ⟨z2, p2⟩ := P.pre
    have hgr := P.grow
    have l1 := pre_len p1
    have hpt := fun {i : Nat} (hi : i < T.1.length) => pre_tm S.canon.ok p2 hi
    have ht : tmE R.1 k = .u op v t := by
      have hg2 := hg
      rw [getD_nd hk] at hg2
      rcases tmE_cases P.canon.ok hk with ⟨g1, _⟩ | ⟨_, _, a', ea', ha', _, e'⟩ | ⟨g1, _⟩
      · rw [hg2] at g1; simp only at g1; omega
      · rw [hg2] at e' ea'
        simp only at ea' e'
        obtain rfl : a' = a := by omega
        rw [e', hpt ha, hta]
      · rw [hg2] at g1; simp only at g1; omega
    have hnk : xs.length ≤ k → T.1.length ≤ k := fun h => by
      rcases Nat.lt_or_ge k T.1.length with h9 | h9
      · have := S.new k h h9
        rw [← hpt h9, ht] at this
        have this : t.sz + 1 ≤ t.sz := this
        omega
      · exact h9
    refine ⟨P.canon, ⟨z1 ++ z2, by rw [p2, p1, List.append_assoc]⟩, ⟨k, e, hk, ht, fun h => by have := hnk h; omega⟩, fun j hj hj2 => ?_, fun j hj hj2 => ?_⟩
    · rcases Nat.lt_or_ge j T.1.length with h9 | h9
      · rw [hpt h9]; have := S.new j hj h9; show _ ≤ t.sz + 1; omega
      · obtain rfl : j = k := by omega
        rw [ht]; exact Nat.le_refl _
    · rcases Nat.lt_or_ge j T.1.length with h9 | h9
      · rcases S.used j hj h9 with h8 | ⟨i, hi, hm⟩
        · right; refine ⟨k, hk, ?_⟩
          rw [hg]; unfold parts; rw [if_pos h2]; simp; omega
        · right; exact ⟨i, by omega, by rw [pre_get p2 hi]; exact hm⟩
      · left; omega
  | .b op v s t, hv, xs, hc => by
    obtain ⟨h1, h2, h2', h3, h4, h5⟩ : ar op = 2 ∧ isOne op = false ∧ isTwo op = true ∧ (∀ a b i : Int, 0 ≤ a → a < i → 0 ≤ b → b < i → isNode ⟨op, a, b, v⟩ i = true) ∧ Vt s ∧ Vt t := hv
    have S := sh_ok s h4 xs hc
    have S2 := sh_ok t h5 (shT s xs).1 S.canon
    show ShT9 xs (.b op v s t) (po1 (shT t (shT s xs).1).1 ⟨op, (shT s xs).2, (shT t (shT s xs).1).2, v⟩)
    generalize shT s xs = T at *
    generalize shT t T.1 = U at *
    obtain ⟨a, ea, ha, hta, hla⟩ := S.idx
    obtain ⟨b, eb, hb, htb, hlb⟩ := S2.idx
    obtain ⟨z1, p1⟩ := S.pre
    obtain ⟨z2, p2⟩ := S2.pre
    have l1 := pre_len p1
    have l2 := pre_len p2
    rw [ea, eb]
    have P := po_ok S2.canon (h3 a b U.1.length (by omega) (by omega) (by omega) (by omega))
    generalize po1 U.1 ⟨op, (a : Int), (b : Int), v⟩ = R at *
    obtain ⟨k, e, hk, hg⟩ := P.idx
    obtain ⟨z3, p3⟩ := P.pre
    have hgr := P.grow
    have hpt := fun {i : Nat} (hi : i < T.1.length) => pre_tm S.canon.ok p2 hi
    have hpu := fun {i : Nat} (hi : i < U.1.length) => pre_tm S2.canon.ok p3 hi
    have ht : tmE R.1 k = .b op v s t := by
      have hg2 := hg
      rw [getD_nd hk] at hg2
      rcases tmE_cases P.canon.ok hk with ⟨g1, _⟩ | ⟨g1, _⟩ | ⟨_, _, _, a', b', ea', eb', ha', hb', e'⟩
      · rw [hg2] at g1; simp only at g1; omega
      · rw [hg2] at g1; simp only at g1; omega
      · rw [hg2] at e' ea' eb'
        simp only at ea' eb' e'
        obtain rfl : a' = a := by omega
        obtain rfl : b' = b := by omega
        rw [e', hpu (show a' < U.1.length by omega), hpu hb, hpt ha, hta, htb]
    have hnk : xs.length ≤ k → U.1.length ≤ k := fun h => by
      rcases Nat.lt_or_ge k T.1.length with h9 | h9
      · have := S.new k h h9
        rw [← hpt h9, ← hpu (show k < U.1.length by omega), ht] at this
        have this : s.sz + t.sz + 1 ≤ s.sz := this
        omega
      · rcases Nat.lt_or_ge k U.1.length with h8 | h8
        · have := S2.new k h9 h8
          rw [← hpu h8, ht] at this
          have this : s.sz + t.sz + 1 ≤ t.sz := this
          omega
        · exact h8
    refine ⟨P.canon, ⟨z1 ++ z2 ++ z3, by rw [p3, p2, p1, List.append_assoc, List.append_assoc, List.append_assoc]⟩, ⟨k, e, hk, ht, fun h => by have := hnk h; omega⟩, fun j hj hj2 => ?_, fun j hj hj2 => ?_⟩
    · show _ ≤ s.sz + t.sz + 1
      rcases Nat.lt_or_ge j T.1.length with h9 | h9
      · rw [hpu (by omega), hpt h9]; have := S.new j hj h9; omega
      · rcases Nat.lt_or_ge j U.1.length with h8 | h8
        · rw [hpu h8]; have := S2.new j h9 h8; omega
        · obtain rfl : j = k := by omega
          rw [ht]; exact Nat.le_refl _
    · have hab : ∀ j : Nat, (j : Int) = a ∨ (j : Int) = b → (j : Int) ∈ parts (R.1.getD k zeroNd) := fun j h => by
        rw [hg]; unfold parts; rw [if_neg (by simp [h2]), if_pos h2']; simpa using h
      rcases Nat.lt_or_ge j T.1.length with h9 | h9
      · rcases S.used j hj h9 with h8 | ⟨i, hi, hm⟩
        · right; exact ⟨k, hk, hab j (.inl (by omega))⟩
        · right; exact ⟨i, by omega, by rw [pre_get p3 (by omega), pre_get p2 hi]; exact hm⟩
      · rcases Nat.lt_or_ge j U.1.length with h8 | h8
        · rcases S2.used j h9 h8 with h7 | ⟨i, hi, hm⟩
          · right; exact ⟨k, hk, hab j (.inr (by omega))⟩
          · right; exact ⟨i, by omega, by rw [pre_get p3 hi]; exact hm⟩
        · left; omega

/-! ### The walk that goes to each node once shares the term -/
structure OnI (es : List Nd) (s : List Nd × List Int) : Prop where
  len : s.2.length = es.length
  canon : Canon s.1
  done : ∀ j, j < es.length → 0 ≤ s.2.getD j 0 → ∃ k : Nat, s.2.getD j 0 = k ∧ k < s.1.length ∧ tmE s.1 k = tmE es j
theorem on_sh {es : List Nd} (hok : okFrom es 0 = true) : ∀ (F i : Nat) (s : List Nd × List Int), i < F → i < es.length → OnI es s → OnI es (on es F i s).1 ∧ (on es F i s).1.1 = (shT (tmE es i) s.1).1 ∧ (on es F i s).2 = (shT (tmE es i) s.1).2
  | 0, i, s, h, _, _ => by omega
  | F + 1, i, s, hi, hie, hI => by
    by_cases h0 : 0 ≤ s.2.getD i 0
    · have e : on es (F + 1) i s = (s, s.2.getD i 0) := by rw [on, if_pos h0]
      obtain ⟨k, ek, hk, ht⟩ := hI.done i hie h0
      rw [e, sh_there hI.canon _ k hk ht]
      exact ⟨hI, rfl, ek⟩
    · have hg := getD_nd hie
      have e : on es (F + 1) i s = (((po1 (woG (on es F) (es.getD i zeroNd) s).1.1 (woG (on es F) (es.getD i zeroNd) s).2).1, (woG (on es F) (es.getD i zeroNd) s).1.2.set i (po1 (woG (on es F) (es.getD i zeroNd) s).1.1 (woG (on es F) (es.getD i zeroNd) s).2).2), (po1 (woG (on es F) (es.getD i zeroNd) s).1.1 (woG (on es F) (es.getD i zeroNd) s).2).2) := by rw [on, if_neg h0]
      have hvt := tmE_vt hok (i + 1) i (Nat.lt_succ_self _) hie
      have S := sh_ok _ hvt s.1 hI.canon
      rw [e, hg]
      -- what the operands leave
      have key : OnI es (woG (on es F) es[i] s).1 ∧ po1 (woG (on es F) es[i] s).1.1 (woG (on es F) es[i] s).2 = shT (tmE es i) s.1 ∧ PoOk (woG (on es F) es[i] s).1.1 (woG (on es F) es[i] s).2 (po1 (woG (on es F) es[i] s).1.1 (woG (on es F) es[i] s).2) := by
        have hpl := isNode_place (ok_get hok hie)
        rcases tmE_cases hok hie with ⟨h1, ha0, hb0, et⟩ | ⟨h1, h2, a, ea, ha, hb, et⟩ | ⟨h1, h2, h3, a, b, ea, eb, ha, hb, et⟩
        · have ew : woG (on es F) es[i] s = (s, ⟨es[i].op, 0, 0, es[i].v⟩) := by unfold woG; rw [if_neg (by omega), if_neg (by omega)]
          rw [ew, et]
          exact ⟨hI, rfl, po_ok hI.canon (hpl.1 h1 _)⟩
        · obtain ⟨i1, i2, i3⟩ := on_sh hok F a s (by omega) (by omega) hI
          have ew : woG (on es F) es[i] s = ((on es F a s).1, ⟨es[i].op, (on es F a s).2, 0, es[i].v⟩) := by unfold woG; rw [if_pos h1, ea, Int.toNat_natCast]
          have Sa := sh_ok _ (tmE_vt hok (a + 1) a (Nat.lt_succ_self _) (by omega)) s.1 hI.canon
          obtain ⟨k, ek, hk, _⟩ := Sa.idx
          rw [ew, et]
          refine ⟨i1, ?_, ?_⟩
          · show po1 (on es F a s).1.1 ⟨es[i].op, (on es F a s).2, 0, es[i].v⟩ = _
            rw [i2, i3]; rfl
          · refine po_ok i1.canon ?_
            show isNode ⟨es[i].op, (on es F a s).2, 0, es[i].v⟩ _ = true
            rw [i3, ek]
            exact hpl.2.1 h1 k _ (by omega) (by show (k : Int) < ((on es F a s).1.1.length : Int); rw [i2]; omega)
        · obtain ⟨i1, i2, i3⟩ := on_sh hok F a s (by omega) (by omega) hI
          obtain ⟨j1, j2, j3⟩ := on_sh hok F b (on es F a s).1 (by omega) (by omega) i1
          have ew : woG (on es F) es[i] s = ((on es F b (on es F a s).1).1, ⟨es[i].op, (on es F a s).2, (on es F b (on es F a s).1).2, es[i].v⟩) := by unfold woG; rw [if_neg (by omega), if_pos h1, ea, eb, Int.toNat_natCast, Int.toNat_natCast]
          have Sa := sh_ok _ (tmE_vt hok (a + 1) a (Nat.lt_succ_self _) (by omega)) s.1 hI.canon
          rw [i2] at j2 j3
          have Sb := sh_ok _ (tmE_vt hok (b + 1) b (Nat.lt_succ_self _) (by omega)) _ Sa.canon
          obtain ⟨k, ek, hk, _⟩ := Sa.idx
          obtain ⟨m, em, hm, _⟩ := Sb.idx
          obtain ⟨z, pz⟩ := Sb.pre
          have lz := pre_len pz
          rw [ew, et]
          refine ⟨j1, ?_, ?_⟩
          · show po1 (on es F b (on es F a s).1).1.1 ⟨es[i].op, (on es F a s).2, (on es F b (on es F a s).1).2, es[i].v⟩ = _
            rw [j2, j3, i3]; rfl
          · refine po_ok j1.canon ?_
            show isNode ⟨es[i].op, (on es F a s).2, (on es F b (on es F a s).1).2, es[i].v⟩ ((on es F b (on es F a s).1).1.1.length : Int) = true
            rw [i3, j3, j2, ek, em]
            exact hpl.2.2 h1 k m _ (by omega) (by omega) (by omega) (by omega)
      obtain ⟨kI, kE, kP⟩ := key
      generalize woG (on es F) es[i] s = G at *
      rw [kE] at kP ⊢
      refine ⟨⟨?_, ?_, fun j hj hj0 => ?_⟩, rfl, rfl⟩
      · show (List.set _ _ _).length = _
        rw [List.length_set]; exact kI.len
      · exact kP.canon
      · show ∃ k : Nat, (G.1.2.set i (shT (tmE es i) s.1).2).getD j 0 = k ∧ k < (shT (tmE es i) s.1).1.length ∧ tmE (shT (tmE es i) s.1).1 k = tmE es j
        have hj1 : 0 ≤ (G.1.2.set i (shT (tmE es i) s.1).2).getD j 0 := hj0
        by_cases e9 : i = j
        · subst e9
          obtain ⟨k, ek, hk, ht, _⟩ := S.idx
          refine ⟨k, ?_, hk, ht⟩
          rw [List.getD_eq_getElem?_getD, List.getElem?_set_self (by rw [kI.len]; exact hie)]; exact ek
        · rw [getD_set_int _ e9] at hj1 ⊢
          obtain ⟨k, ek, hk, ht⟩ := kI.done j hj hj1
          obtain ⟨z, pz⟩ := kP.pre
          have := pre_len pz
          exact ⟨k, ek, Nat.lt_of_lt_of_le hk this, by rw [pre_tm kI.canon.ok pz hk]; exact ht⟩
theorem canon_nil : Canon [] := ⟨rfl, fun i j _ h => by simp at h⟩
theorem share_sh {es : List Nd} (hg : good es = true) : shareL es = (shT (tmE es (es.length - 1)) []).1 := by
  obtain ⟨h1, _, hok⟩ := good_len hg
  have hI : OnI es ([], List.replicate es.length (-1)) := ⟨by simp, canon_nil, fun j hj h0 => by
    rw [List.getD_eq_getElem?_getD, List.getElem?_replicate, if_pos hj] at h0
    exact absurd h0 (by decide)⟩
  exact (on_sh hok es.length (es.length - 1) _ (by omega) (by omega) hI).2.1
theorem shareL_le {es : List Nd} (hg : good es = true) : (shareL es).length ≤ es.length := by
  obtain ⟨h1, h24, hok⟩ := good_len hg
  have h9 := (on_inv hok es.length (es.length - 1) ([], List.replicate es.length (-1)) (by omega) (by omega) (inv_start _)).1
  have h8 : cntD _ ≤ _ := List.countP_le_length (l := (on es es.length (es.length - 1) ([], List.replicate es.length (-1))).1.2)
  have := h9.1; have := h9.2
  unfold shareL; omega
theorem nsum_ind (g : Nat → Int) (j : Nat) : ∀ n, nsum (fun k => (if k = j then (1 : Int) else 0) * g k) n = if j < n then g j else 0
  | 0 => by simp [nsum]
  | n + 1 => by
    rw [nsum, nsum_ind g j n]
    by_cases h : n = j
    · subst h; rw [if_neg (by omega), if_pos rfl, if_pos (by omega)]; omega
    · rw [if_neg h]
      by_cases h2 : j < n
      · rw [if_pos h2, if_pos (by omega)]; omega
      · rw [if_neg h2, if_neg (by omega)]; omega
theorem uses_of {es : List Nd} (hok : okFrom es 0 = true) {i j : Nat} (hi : i < es.length) (hm : (j : Int) ∈ parts es[i]) : 1 ≤ (uses es).getD j 0 := by
  have hp : ∀ k (h : k < es.length), ∀ p ∈ parts es[k], p.toNat < es.length := fun k h p hp => by have := (parts_in (ok_get hok h) p hp).2; omega
  have hU := nsum_uses (fun k => if k = j then (1 : Int) else 0) hp es.length (Nat.le_refl _)
  have hj := hp i hi _ hm
  rw [Int.toNat_natCast] at hj
  rw [nsum_ind (fun k => (usesAt es es.length).getD k 0) j, if_pos hj] at hU
  have hs : ∀ ps : List Int, 0 ≤ psum (fun k => if k = j then (1 : Int) else 0) ps := fun ps => by
    induction ps with
    | nil => exact Int.le_refl _
    | cons p ps ih =>
      simp only [psum, List.map_cons, List.sum_cons] at ih ⊢
      split <;> omega
  have hs1 : ∀ ps : List Int, (j : Int) ∈ ps → 1 ≤ psum (fun k => if k = j then (1 : Int) else 0) ps := fun ps => by
    induction ps with
    | nil => intro h; cases h
    | cons p ps ih =>
      intro h
      have h0 := hs ps
      rcases List.mem_cons.1 h with h | h
      · subst h
        simp only [psum, List.map_cons, List.sum_cons, Int.toNat_natCast, if_true] at h0 ⊢
        omega
      · have := ih h
        simp only [psum, List.map_cons, List.sum_cons] at this ⊢
        split <;> omega
  have := nsum_pos (g := fun i => psum (fun k => if k = j then (1 : Int) else 0) (parts (es.getD i zeroNd))) es.length (fun k _ => hs _) ⟨i, hi, by rw [getD_nd hi]; exact hs1 _ hm⟩
  unfold uses; omega
/-- Good is what is told of the nodes' form, their number, and of every node but the last that some node has it as an operand. -/
theorem good_of {es : List Nd} (h1 : 1 ≤ es.length) (h24 : es.length ≤ 24) (hok : okFrom es 0 = true) (hu : ∀ j, j + 1 < es.length → ∃ i, i < es.length ∧ (j : Int) ∈ parts (es.getD i zeroNd)) : good es = true := by
  unfold good
  rw [decide_eq_true h1, decide_eq_true h24, hok]
  simp only [Bool.true_and, Bool.not_eq_true']
  unfold hasI
  rw [List.any_eq_false]
  intro x hx
  obtain ⟨k, hk, rfl⟩ := List.getElem_of_mem hx
  rw [List.length_take] at hk
  rw [List.getElem_take]
  obtain ⟨i, hi, hm⟩ := hu k (by omega)
  rw [getD_nd hi] at hm
  have := uses_of hok hi hm
  rw [List.getD_eq_getElem?_getD, List.getElem?_eq_getElem (by omega)] at this
  have h9 : 1 ≤ (uses es)[k] := this
  simp only [beq_iff_eq]; omega
/-- What sharing comes to: a good expression of the same term, each node once. -/
theorem share_facts {es : List Nd} (hg : good es = true) : good (shareL es) = true ∧ tmE (shareL es) ((shareL es).length - 1) = tmE es (es.length - 1) ∧ Canon (shareL es) := by
  obtain ⟨h1, h24, hok⟩ := good_len hg
  have hle := shareL_le hg
  have S := sh_ok _ (tmE_vt hok es.length (es.length - 1) (by omega) (by omega)) [] canon_nil
  rw [share_sh hg] at hle ⊢
  generalize shT (tmE es (es.length - 1)) [] = R at *
  obtain ⟨k, ek, hk, ht, hl⟩ := S.idx
  have hl := hl (by simp)
  refine ⟨good_of (by omega) (by omega) S.canon.ok fun j hj => ?_, by rw [show R.1.length - 1 = k by omega]; exact ht, S.canon⟩
  rcases S.used j (by simp) (by omega) with h | h
  · omega
  · exact h
theorem share_share {es : List Nd} (hg : good es = true) : shareL (shareL es) = shareL es := by
  obtain ⟨h1, h2, _⟩ := share_facts hg
  rw [share_sh h1, h2, ← share_sh hg]

/-! ### The tree of an expression has its term -/
theorem tr_tm {es : List Nd} (hok : okFrom es 0 = true) : ∀ (F i : Nat) (xs : List Nd), i < F → i < es.length → okFrom xs 0 = true →
    okFrom (xs ++ tr es F xs.length i) 0 = true ∧ 1 ≤ (tr es F xs.length i).length ∧ tmE (xs ++ tr es F xs.length i) (xs.length + (tr es F xs.length i).length - 1) = tmE es i ∧
    ∀ j, xs.length ≤ j → j + 1 < xs.length + (tr es F xs.length i).length → ∃ n ∈ tr es F xs.length i, (j : Int) ∈ parts n
  | 0, i, xs, h, _, _ => by omega
  | F + 1, i, xs, hi, hie, hx => by
    have hpl := isNode_place (ok_get hok hie)
    unfold tr; simp only []; rw [getD_nd hie]
    rcases tmE_cases hok hie with ⟨h1, ha0, hb0, et⟩ | ⟨h1, h2, a, ea, ha, hb, et⟩ | ⟨h1, h2, h3, a, b, ea, eb, ha, hb, et⟩
    · rw [if_neg (by omega), if_neg (by omega), et]
      have hn := hpl.1 h1 (xs.length : Int)
      have hok2 : okFrom (xs ++ [(⟨es[i].op, 0, 0, es[i].v⟩ : Nd)]) 0 = true := by rw [okFrom_snoc, hx, Int.zero_add, hn]; rfl
      refine ⟨hok2, by simp, ?_, fun j h1 h2 => by simp at h2; omega⟩
      have hl : xs.length < (xs ++ [(⟨es[i].op, 0, 0, es[i].v⟩ : Nd)]).length := by simp
      have hg : (xs ++ [(⟨es[i].op, 0, 0, es[i].v⟩ : Nd)])[xs.length] = ⟨es[i].op, 0, 0, es[i].v⟩ := by simp
      rw [show xs.length + [(⟨es[i].op, 0, 0, es[i].v⟩ : Nd)].length - 1 = xs.length by simp]
      rcases tmE_cases hok2 hl with ⟨_, _, _, e⟩ | ⟨g, _⟩ | ⟨g, _⟩
      · rw [e, hg]
      · rw [hg] at g; simp only at g; omega
      · rw [hg] at g; simp only at g; omega
    · rw [if_pos h1, et, ea, Int.toNat_natCast]
      obtain ⟨i1, i2, i3, i4⟩ := tr_tm hok F a xs (by omega) (by omega) hx
      generalize tr es F xs.length a = la at *
      have hn := hpl.2.1 h1 (((xs.length + la.length : Nat) : Int) - 1) ((xs ++ la).length : Int) (by omega) (by rw [List.length_append]; omega)
      rw [← List.append_assoc]
      have hok2 := okFrom_snoc (xs ++ la) ⟨es[i].op, ((xs.length + la.length : Nat) : Int) - 1, 0, es[i].v⟩ 0
      rw [i1, Int.zero_add, hn] at hok2
      refine ⟨hok2, by simp, ?_, fun j hj1 hj2 => ?_⟩
      · have hl : (xs ++ la).length < (xs ++ la ++ [(⟨es[i].op, ((xs.length + la.length : Nat) : Int) - 1, 0, es[i].v⟩ : Nd)]).length := by simp
        have hg : (xs ++ la ++ [(⟨es[i].op, ((xs.length + la.length : Nat) : Int) - 1, 0, es[i].v⟩ : Nd)])[(xs ++ la).length] = ⟨es[i].op, ((xs.length + la.length : Nat) : Int) - 1, 0, es[i].v⟩ := by
          rw [List.getElem_append_right (Nat.le_refl _)]; simp
        rw [show xs.length + (la ++ [(⟨es[i].op, ((xs.length + la.length : Nat) : Int) - 1, 0, es[i].v⟩ : Nd)]).length - 1 = (xs ++ la).length by first | (simp; done) | (simp; omega)]
        rcases tmE_cases hok2 hl with ⟨g, _⟩ | ⟨_, _, a', ea', ha', _, e⟩ | ⟨g, _⟩
        · rw [hg] at g; simp only at g; omega
        · rw [hg] at e ea'
          simp only at e ea'
          obtain rfl : a' = xs.length + la.length - 1 := by omega
          rw [e, tmE_app i1 (by rw [List.length_append]; omega), i3]
        · rw [hg] at g; simp only at g; omega
      · simp only [List.length_append, List.length_cons, List.length_nil] at hj2
        by_cases h9 : j + 1 < xs.length + la.length
        · obtain ⟨n, hn1, hn2⟩ := i4 j hj1 h9
          exact ⟨n, by simp [hn1], hn2⟩
        · refine ⟨_, by simp; right; rfl, ?_⟩
          unfold parts; rw [if_pos h2]; simp; omega
    · rw [if_neg (by omega), if_pos h1, et, ea, eb, Int.toNat_natCast, Int.toNat_natCast]
      obtain ⟨i1, i2, i3, i4⟩ := tr_tm hok F a xs (by omega) (by omega) hx
      generalize tr es F xs.length a = la at *
      obtain ⟨j1, j2, j3, j4⟩ := tr_tm hok F b (xs ++ la) (by omega) (by omega) i1
      rw [List.length_append] at j1 j2 j3 j4
      generalize tr es F (xs.length + la.length) b = lb at *
      have hn := hpl.2.2 h1 (((xs.length + la.length : Nat) : Int) - 1) (((xs.length + la.length + lb.length : Nat) : Int) - 1) ((xs ++ la ++ lb).length : Int) (by omega) (by simp only [List.length_append]; omega) (by omega) (by simp only [List.length_append]; omega)
      rw [← List.append_assoc, ← List.append_assoc]
      have hok2 := okFrom_snoc (xs ++ la ++ lb) ⟨es[i].op, ((xs.length + la.length : Nat) : Int) - 1, ((xs.length + la.length + lb.length : Nat) : Int) - 1, es[i].v⟩ 0
      rw [j1, Int.zero_add, hn] at hok2
      refine ⟨hok2, by simp; omega, ?_, fun j hj1 hj2 => ?_⟩
      · have hl : (xs ++ la ++ lb).length < (xs ++ la ++ lb ++ [(⟨es[i].op, ((xs.length + la.length : Nat) : Int) - 1, ((xs.length + la.length + lb.length : Nat) : Int) - 1, es[i].v⟩ : Nd)]).length := by simp
        have hg : (xs ++ la ++ lb ++ [(⟨es[i].op, ((xs.length + la.length : Nat) : Int) - 1, ((xs.length + la.length + lb.length : Nat) : Int) - 1, es[i].v⟩ : Nd)])[(xs ++ la ++ lb).length] = ⟨es[i].op, ((xs.length + la.length : Nat) : Int) - 1, ((xs.length + la.length + lb.length : Nat) : Int) - 1, es[i].v⟩ := by
          rw [List.getElem_append_right (Nat.le_refl _)]; simp
        rw [show xs.length + (la ++ lb ++ [(⟨es[i].op, ((xs.length + la.length : Nat) : Int) - 1, ((xs.length + la.length + lb.length : Nat) : Int) - 1, es[i].v⟩ : Nd)]).length - 1 = (xs ++ la ++ lb).length by first | (simp; done) | (simp; omega)]
        rcases tmE_cases hok2 hl with ⟨g, _⟩ | ⟨g, _⟩ | ⟨_, _, _, a', b', ea', eb', ha', hb', e⟩
        · rw [hg] at g; simp only at g; omega
        · rw [hg] at g; simp only at g; omega
        · rw [hg] at e ea' eb'
          simp only at e ea' eb'
          obtain rfl : a' = xs.length + la.length - 1 := by omega
          obtain rfl : b' = xs.length + la.length + lb.length - 1 := by omega
          rw [e, tmE_app j1 (by simp only [List.length_append]; omega), tmE_app j1 (by simp only [List.length_append]; omega), j3, tmE_app i1 (by rw [List.length_append]; omega), i3]
      · simp only [List.length_append, List.length_cons, List.length_nil] at hj2
        by_cases h9 : j + 1 < xs.length + la.length
        · obtain ⟨n, hn1, hn2⟩ := i4 j hj1 h9
          exact ⟨n, by simp [hn1], hn2⟩
        · by_cases h8 : j + 1 = xs.length + la.length
          · refine ⟨_, by simp; right; right; rfl, ?_⟩
            unfold parts; rw [if_neg (by simp [h2]), if_pos h3]; simp; omega
          · by_cases h7 : j + 1 < xs.length + la.length + lb.length
            · obtain ⟨n, hn1, hn2⟩ := j4 j (by omega) h7
              exact ⟨n, by simp [hn1], hn2⟩
            · refine ⟨_, by simp; right; right; rfl, ?_⟩
              unfold parts; rw [if_neg (by simp [h2]), if_pos h3]; simp; omega
theorem ts_sz {es : List Nd} (hok : okFrom es 0 = true) : ∀ (F i : Nat), i < F → i < es.length → ts es F i = ((tmE es i).sz : Int)
  | 0, i, h, _ => by omega
  | F + 1, i, hi, hie => by
    have ih := ts_sz hok F
    unfold ts
    rw [getD_nd hie]
    have hp2 := parts_two (ok_get hok hie)
    rcases tmE_cases hok hie with ⟨h1, ha0, hb0, et⟩ | ⟨h1, h2, a, ea, ha, hb, et⟩ | ⟨h1, h2, h3, a, b, ea, eb, ha, hb, et⟩
    · have hp : parts es[i] = [] := by
        rcases ar_cases_nd (ok_get hok hie) with ⟨_, g, g2, _⟩ | ⟨g, _⟩ | ⟨g, _⟩
        · unfold parts; rw [g, g2]; rfl
        · omega
        · omega
      rw [hp, et]; rfl
    · have hp : parts es[i] = [(a : Int)] := by unfold parts; rw [if_pos h2, ea]
      rw [hp, et]
      simp only [psum, List.map_cons, List.map_nil, List.sum_cons, List.sum_nil, Int.toNat_natCast]
      rw [ih a (by omega) (by omega)]
      show _ = (((tmE es a).sz + 1 : Nat) : Int)
      omega
    · have hp : parts es[i] = [(a : Int), (b : Int)] := by unfold parts; rw [if_neg (by simp [h2]), if_pos h3, ea, eb]
      rw [hp, et]
      simp only [psum, List.map_cons, List.map_nil, List.sum_cons, List.sum_nil, Int.toNat_natCast]
      rw [ih a (by omega) (by omega), ih b (by omega) (by omega)]
      show _ = ((((tmE es a).sz + (tmE es b).sz + 1 : Nat)) : Int)
      omega
/-- What expanding comes to: a tree of the same term. -/
theorem expand_facts {es : List Nd} (h : expandOk es = true) : good (expandL es) = true ∧ tmE (expandL es) ((expandL es).length - 1) = tmE es (es.length - 1) ∧ tree (expandL es) = true := by
  unfold expandOk at h
  rw [Bool.and_eq_true] at h
  obtain ⟨hg, h24⟩ := h
  have h24 := of_decide_eq_true h24
  obtain ⟨h1, _, hok⟩ := good_len hg
  obtain ⟨i1, i2, i3, i4⟩ := tr_tm hok es.length (es.length - 1) [] (by omega) (by omega) rfl
  have hsz := ts_sz hok es.length (es.length - 1) (by omega) (by omega)
  have htr := tr_ts hok es.length 0 (es.length - 1) (by omega) (by omega)
  simp only [List.length_nil, List.nil_append, Nat.zero_add] at i1 i2 i3 i4
  unfold expandL at h24 ⊢
  generalize tr es es.length 0 (es.length - 1) = E at *
  have hgE : good E = true := good_of i2 h24 i1 fun j hj => by
    obtain ⟨n, hn, hm⟩ := i4 j (by omega) hj
    obtain ⟨q, hq, rfl⟩ := List.getElem_of_mem hn
    exact ⟨q, hq, by rw [getD_nd hq]; exact hm⟩
  refine ⟨hgE, i3, ?_⟩
  cases ht : tree E
  · have h9 := (tree_size hgE).2 ht
    have h8 := tr_ts i1 E.length 0 (E.length - 1) (by omega) (by omega)
    have h7 := ts_sz i1 E.length (E.length - 1) (by omega) (by omega)
    rw [i3] at h7
    unfold expandL at h9
    omega
  · rfl
theorem share_expand {es : List Nd} (h : expandOk es = true) : shareL (expandL es) = shareL es := by
  have hg : good es = true := by unfold expandOk at h; rw [Bool.and_eq_true] at h; exact h.1
  obtain ⟨h1, h2, _⟩ := expand_facts h
  rw [share_sh h1, h2, ← share_sh hg]
end Go.Proofs.Ytmhdijklindipaa

namespace Go.Proofs.Ytmhdijklindipaa
open Go.RowKit
set_option linter.unusedVariables false

def ResSubExpr (R0 : List (Nd)) (R1 : Bool) (w : World) (e : Ending) (w' : World) : Prop := ∃ (A0 : Option Addr) (c0 : Nat), e = .returned (.tuple #[.slice A0 R0.length c0, .bool R1]) ∧ OK Nd.enc 4 40 w' w.heap.size w'.heap.size (.slice A0 R0.length c0) R0 ∧ Below w.heap.size w w'
def ResFoldExpr (R0 : List (Nd)) (R1 : Bool) (w : World) (e : Ending) (w' : World) : Prop := ∃ (A0 : Option Addr) (c0 : Nat), e = .returned (.tuple #[.slice A0 R0.length c0, .bool R1]) ∧ OK Nd.enc 4 40 w' w.heap.size w'.heap.size (.slice A0 R0.length c0) R0 ∧ Below w.heap.size w w'
end Go.Proofs.Ytmhdijklindipaa

/- SubExpr: the model. -/
namespace Go.Proofs.Ytmhdijklindipaa
open Go.RowKit
set_option linter.unusedVariables false
set_option maxRecDepth 100000

def subOk (es : List Nd) (i : Int) : Bool := good es && inR i 0 ((es.length : Int) - 1)
def subR (es : List Nd) (i : Int) : List Nd := if subOk es i then keepL es i.toNat else []

set_option maxHeartbeats 8000000 in
theorem sSubExpr_any (L B : Nat) (A : Option Addr) (c : Nat) (es : List Nd) (i : Int) (w : World) (hl : es.length ≤ 1048576) (hes : NS w L B A es) (hB : B ≤ w.heap.size) :
    Calls Try.prog 94 #[.slice A es.length c, .int .i64 i] w (ResSubExpr (subR es i) (subOk es i) w) := by
  have H := Lib.hid (exGood_any L B A c es w hl hes hB)
  have hE := Lib.hid hes
  have hBB := Lib.hid hB
  clear hes hB
  cases hg : good es
  · have hR : Hid (subR es i = []) := by simp [Hid, subR, subOk, hg]
    have hK : Hid (subOk es i = false) := by simp [Hid, subOk, hg]
    rw [hg] at H
    clear hg
    go_enter Try.func94, Try.ntmps94
    go_wp2_with (fail)
    refine H.out.mono ?_
    rintro e w2 ⟨rfl, hb⟩
    go_wp2_with (fail)
    go_ret2
    rw [hR.out, hK.out]
    exact ⟨none, 0, rfl, OK.nil _ _ _ _, hb⟩
  · obtain ⟨hl1, hl24, hok⟩ := good_len hg
    have hG := Lib.hid hg
    have hOk := Lib.hid hok
    rw [hg] at H
    clear hg hok

    cases hr : inR i 0 ((es.length : Int) - 1)
    · have hR : Hid (subR es i = []) := by simp [Hid, subR, subOk, hr]
      have hK : Hid (subOk es i = false) := by simp [Hid, subOk, hr]
      have hIn := Lib.hid fun W => l1In_r i 0 ((es.length : Int) - 1) W
      rw [hr] at hIn
      clear hr
      go_enter Try.func94, Try.ntmps94
      go_wp2_with (fail)
      refine H.out.mono ?_
      rintro e w2 ⟨rfl, hb⟩
      have hb2 := Lib.hid hb
      clear hb
      go_wp2_with (fail)
      refine (hIn.out _).mono ?_
      rintro e w3 ⟨rfl, rfl⟩
      go_wp2_with (fail)
      go_ret2
      rw [hR.out, hK.out]
      exact ⟨none, 0, rfl, OK.nil _ _ _ _, hb2.out⟩
    · have hK : Hid (subOk es i = true) := by simp [Hid, subOk, hr, hG.out]
      have hR : Hid (subR es i = keepL es i.toNat) := by simp [Hid, subR, hK.out]
      have hIn := Lib.hid fun W => l1In_r i 0 ((es.length : Int) - 1) W
      have h4 := (inR_iff _ _ _).1 hr
      rw [hr] at hIn
      clear hr
      obtain ⟨q, rfl⟩ := Int.eq_ofNat_of_zero_le h4.1
      have hq : q < es.length := by omega
      rw [Int.toNat_natCast] at hR
      go_enter Try.func94, Try.ntmps94
      go_wp2_with (fail)
      refine H.out.mono ?_
      rintro e w2 ⟨rfl, hb⟩
      have hb2 := Lib.hid hb
      have hX := Lib.hid (exKeep_any L B A c q es w2 hl24 hq (hE.out.below hb hBB.out) (Nat.le_trans hBB.out hb.size) hOk.out)
      clear hb
      go_wp2_with (fail)
      refine (hIn.out _).mono ?_
      rintro e w3 ⟨rfl, rfl⟩
      go_wp2_with (fail)
      refine hX.out.mono ?_
      rintro e w4 ⟨A', c', rfl, ho, hb4⟩
      have ho4 := Lib.hid ho
      have hb5 := Lib.hid (hb2.out.trans (hb4.mono hb2.out.size))
      have hz := hb2.out.size
      clear ho hb4
      go_wp2_with (fail)
      go_ret2
      rw [hR.out, hK.out]
      exact ⟨A', c', rfl, ho4.out.lower hz, hb5.out⟩
end Go.Proofs.Ytmhdijklindipaa

/- What is kept for a root is an expression of the root's term. No program. -/
namespace Go.Proofs.Ytmhdijklindipaa
open Go.RowKit
set_option linter.unusedVariables false

theorem setAll_or {i : Nat} (ps : List Int) : ∀ b, (setAll ps b).getD i false = true → b.getD i false = true ∨ ∃ p ∈ ps, p.toNat = i := fun b h => by
  by_cases h1 : ∃ p ∈ ps, p.toNat = i
  · exact .inr h1
  · left
    rw [setAll_get ps b (fun p hp e => h1 ⟨p, hp, e⟩)] at h; exact h
theorem setB_get {b : List Bool} {i k : Nat} (h : b.getD i false = true) : (b.set k true).getD i false = true := by
  rw [List.getD_eq_getElem?_getD] at h ⊢
  rw [List.getElem?_set]
  by_cases e : k = i
  · subst e
    rw [if_pos rfl]
    split
    · rfl
    · rename_i hge; rw [List.getElem?_eq_none (by omega)] at h; cases h
  · rw [if_neg e]; exact h
theorem setAll_mono {i : Nat} (ps : List Int) : ∀ b, b.getD i false = true → (setAll ps b).getD i false = true := by
  induction ps with
  | nil => intro b h; exact h
  | cons a l ih => intro b h; show (setAll l (b.set a.toNat true)).getD i false = true; exact ih _ (setB_get h)
theorem setAll_yes {p : Int} (ps : List Int) : ∀ b, p ∈ ps → p.toNat < b.length → (setAll ps b).getD p.toNat false = true := by
  induction ps with
  | nil => intro b h; cases h
  | cons a l ih =>
    intro b h hl
    show (setAll l (b.set a.toNat true)).getD p.toNat false = true
    rcases List.mem_cons.1 h with rfl | h
    · refine setAll_mono l _ ?_
      rw [List.getD_eq_getElem?_getD, List.getElem?_set_self hl]; rfl
    · exact ih _ h (by rw [List.length_set]; exact hl)
theorem nfull_eq (n : Nd) (i : Nat) (b : List Bool) : nfull n i b = if b.getD i false = true then setAll (parts n) b else b := by
  unfold nfull nstep; rw [List.take_length]
theorem need_mono {es : List Nd} {root : Nat} (hr : root < es.length) {i : Nat} : ∀ d m, m + d ≤ root + 1 → (needTo es root (m + d)).getD i false = true → (needTo es root m).getD i false = true
  | 0, m, _, h => h
  | d + 1, m, hm, h => by
    have h1 := need_mono hr d (m + 1) (by omega) (by rw [show m + 1 + d = m + (d + 1) by omega]; exact h)
    rw [needTo_step (by omega) hr, nfull_eq]
    split
    · exact setAll_mono _ _ h1
    · exact h1
theorem need_same {es : List Nd} (hok : okFrom es 0 = true) {root : Nat} (hr : root < es.length) {i : Nat} : ∀ d m, m + d ≤ root + 1 → m + d ≤ i + 1 → (needTo es root m).getD i false = (needTo es root (m + d)).getD i false
  | 0, m, _, _ => rfl
  | d + 1, m, hm, hi => by
    have h1 := need_same hok hr (i := i) d (m + 1) (by omega) (by omega)
    rw [needTo_step (by omega) hr, nfull_eq, show m + (d + 1) = m + 1 + d by omega, ← h1]
    split
    · exact setAll_get _ _ fun p hp => by have := (parts_in (ok_get hok (show m < es.length by omega)) p hp).2; omega
    · rfl
theorem need_at {es : List Nd} (hok : okFrom es 0 = true) {root i : Nat} (hr : root < es.length) (hi : i ≤ root) : (need es root).getD i false = (needTo es root (i + 1)).getD i false := by
  have := need_same hok hr (i := i) (i + 1) 0 (by omega) (by omega)
  rw [Nat.zero_add] at this; exact this
theorem need_root {es : List Nd} (hok : okFrom es 0 = true) {root : Nat} (hr : root < es.length) : (need es root).getD root false = true := by
  rw [need_at hok hr (Nat.le_refl _), needTo_start, List.getD_eq_getElem?_getD, List.getElem?_set_self (by simp)]; rfl
theorem need_parts {es : List Nd} (hok : okFrom es 0 = true) {root k : Nat} (hr : root < es.length) (hk : k ≤ root) (h : (need es root).getD k false = true) : ∀ p ∈ parts (es[k]'(by omega)), (need es root).getD p.toNat false = true := fun p hp => by
  have hpk := (parts_in (ok_get hok (show k < es.length by omega)) p hp).2
  rw [need_at hok hr hk] at h
  rw [need_at hok hr (show p.toNat ≤ root by omega)]
  have h1 : (needTo es root k).getD p.toNat false = true := by
    rw [needTo_step hk hr, nfull_eq, if_pos h]
    exact setAll_yes _ _ hp (by rw [needTo_len]; omega)
  have := need_mono hr (i := p.toNat) (k - (p.toNat + 1)) (p.toNat + 1) (by omega) (by rw [show p.toNat + 1 + (k - (p.toNat + 1)) = k by omega]; exact h1)
  exact this
theorem need_used {es : List Nd} (hok : okFrom es 0 = true) {root : Nat} (hr : root < es.length) {i : Nat} : ∀ d m, m + d = root + 1 → (needTo es root m).getD i false = true → i = root ∨ ∃ k, ∃ hk : k ≤ root, (need es root).getD k false = true ∧ ∃ p ∈ parts (es[k]'(by omega)), p.toNat = i
  | 0, m, hm, h => by
    rw [show m = root + 1 by omega, needTo_start, List.getD_eq_getElem?_getD, List.getElem?_set] at h
    by_cases e : root = i
    · exact .inl e.symm
    · rw [if_neg e, List.getElem?_replicate] at h
      split at h <;> cases h
  | d + 1, m, hm, h => by
    rw [needTo_step (by omega) hr, nfull_eq] at h
    by_cases hb : (needTo es root (m + 1)).getD m false = true
    · rw [if_pos hb] at h
      rcases setAll_or _ _ h with h1 | ⟨p, hp, e⟩
      · exact need_used hok hr d (m + 1) (by omega) h1
      · exact .inr ⟨m, by omega, by rw [need_at hok hr (by omega)]; exact hb, p, hp, e⟩
    · rw [if_neg hb] at h
      exact need_used hok hr d (m + 1) (by omega) h

/-- What has been kept before k. -/
structure KI (es : List Nd) (nb : List Bool) (m k : Nat) : Prop where
  ok : okFrom (ke es nb m k) 0 = true
  at_ : ∀ j (hj : j < es.length), j < k → nb.getD j false = true → ∃ q : Nat, (pl es nb m k).getD j 0 = q ∧ q < (ke es nb m k).length ∧ tmE (ke es nb m k) q = tmE es j ∧ ∀ p ∈ parts es[j], ∃ s : Nat, (pl es nb m k).getD p.toNat 0 = s ∧ (s : Int) ∈ parts ((ke es nb m k).getD q zeroNd)
  all : ∀ q, q < (ke es nb m k).length → ∃ j, j < k ∧ nb.getD j false = true ∧ (pl es nb m k).getD j 0 = (q : Int)
theorem app_get {xs : List Nd} {y : Nd} {q : Nat} (h : q < xs.length) : (xs ++ [y]).getD q zeroNd = xs.getD q zeroNd := by
  rw [List.getD_eq_getElem?_getD, List.getElem?_append_left h, ← List.getD_eq_getElem?_getD]
theorem keep_inv {es : List Nd} (hok : okFrom es 0 = true) {nb : List Bool} {m : Nat} (hm : m ≤ es.length) (hcl : ∀ k (hk : k < m), nb.getD k false = true → ∀ p ∈ parts (es[k]'(by omega)), nb.getD p.toNat false = true) : ∀ k, k ≤ m → KI es nb m k
  | 0, _ => ⟨rfl, fun j _ h => by omega, fun q h => by simp [ke, kp] at h⟩
  | k + 1, hk => by
    have I := keep_inv hok hm hcl k (by omega)
    have hke : k < es.length := by omega
    have hpl := pl_len es nb m k
    cases hb : nb.getD k false
    · obtain ⟨e1, e2⟩ := kp_no (es := es) (m := m) hb
      refine ⟨by rw [e2]; exact I.ok, fun j hj hjk hjb => ?_, fun q hq => ?_⟩
      · rw [e1, e2]
        by_cases e : j = k
        · subst e; rw [hb] at hjb; cases hjb
        · exact I.at_ j hj (by omega) hjb
      · rw [e2] at hq
        obtain ⟨j, hj, hjb, e⟩ := I.all q hq
        exact ⟨j, by omega, hjb, by rw [e1]; exact e⟩
    · obtain ⟨e1, e2⟩ := kp_yes (m := m) hke hb
      have hcp := hcl k (by omega) hb
      have hat : ∀ p ∈ parts es[k], ∃ s : Nat, (pl es nb m k).getD p.toNat 0 = s ∧ s < (ke es nb m k).length ∧ tmE (ke es nb m k) s = tmE es p.toNat := fun p hp => by
        have h9 := (parts_in (ok_get hok hke) p hp).2
        obtain ⟨q, h1, h2, h3, _⟩ := I.at_ p.toNat (by omega) h9 (hcp p hp)
        exact ⟨q, h1, h2, h3⟩
      have hplc := isNode_place (ok_get hok hke)
      -- the new node
      have key : isNode (moved es[k] (pl es nb m k)) ((ke es nb m k).length : Int) = true ∧ (∀ p ∈ parts es[k], ∃ s : Nat, (pl es nb m k).getD p.toNat 0 = s ∧ (s : Int) ∈ parts (moved es[k] (pl es nb m k))) ∧ ∀ hok2 : okFrom (ke es nb m k ++ [moved es[k] (pl es nb m k)]) 0 = true, tmE (ke es nb m k ++ [moved es[k] (pl es nb m k)]) (ke es nb m k).length = tmE es k := by
        have hgl : ∀ (h : (ke es nb m k).length < (ke es nb m k ++ [moved es[k] (pl es nb m k)]).length), (ke es nb m k ++ [moved es[k] (pl es nb m k)])[(ke es nb m k).length]'h = moved es[k] (pl es nb m k) := fun h => by rw [List.getElem_append_right (Nat.le_refl _)]; simp
        have hlt : (ke es nb m k).length < (ke es nb m k ++ [moved es[k] (pl es nb m k)]).length := by simp
        rcases tmE_cases hok hke with ⟨h1, ha0, hb0, et⟩ | ⟨h1, h2, a, ea, ha, hb', et⟩ | ⟨h1, h2, h3, a, b, ea, eb, ha, hb', et⟩
        · have em : moved es[k] (pl es nb m k) = ⟨es[k].op, 0, 0, es[k].v⟩ := by unfold moved; rw [if_neg (by omega), if_neg (by omega)]
          have hp0 : parts es[k] = [] := by
            rcases ar_cases_nd (ok_get hok hke) with ⟨_, g, g2, _⟩ | ⟨g, _⟩ | ⟨g, _⟩
            · unfold parts; rw [g, g2]; rfl
            · omega
            · omega
          refine ⟨by rw [em]; exact hplc.1 h1 _, fun p hp => (by rw [hp0] at hp; cases hp), fun hok2 => ?_⟩
          rcases tmE_cases hok2 hlt with ⟨_, _, _, e⟩ | ⟨g, _⟩ | ⟨g, _⟩
          · rw [e, hgl, em, et]
          · rw [hgl, em] at g; simp only at g; omega
          · rw [hgl, em] at g; simp only at g; omega
        · have hp0 : parts es[k] = [(a : Int)] := by unfold parts; rw [if_pos h2, ea]
          obtain ⟨s, s1, s2, s3⟩ := hat (a : Int) (by rw [hp0]; simp)
          rw [Int.toNat_natCast] at s1 s3
          have em : moved es[k] (pl es nb m k) = ⟨es[k].op, (s : Int), 0, es[k].v⟩ := by unfold moved; rw [if_pos (by omega), if_neg (by omega), ea, Int.toNat_natCast, s1]
          refine ⟨by rw [em]; exact hplc.2.1 h1 _ _ (by omega) (by omega), fun p hp => ?_, fun hok2 => ?_⟩
          · rw [hp0] at hp; rw [List.mem_singleton.1 hp, Int.toNat_natCast]
            exact ⟨s, s1, by rw [em]; unfold parts; rw [if_pos h2]; simp⟩
          · rcases tmE_cases hok2 hlt with ⟨g, _⟩ | ⟨_, _, a', ea', ha', _, e⟩ | ⟨g, _⟩
            · rw [hgl, em] at g; simp only at g; omega
            · rw [hgl, em] at e ea'
              simp only at e ea'
              obtain rfl : a' = s := by omega
              rw [em, e, tmE_app I.ok s2, s3, et]
            · rw [hgl, em] at g; simp only at g; omega
        · have hp0 : parts es[k] = [(a : Int), (b : Int)] := by unfold parts; rw [if_neg (by simp [h2]), if_pos h3, ea, eb]
          obtain ⟨s, s1, s2, s3⟩ := hat (a : Int) (by rw [hp0]; simp)
          obtain ⟨t, t1, t2, t3⟩ := hat (b : Int) (by rw [hp0]; simp)
          rw [Int.toNat_natCast] at s1 s3 t1 t3
          have em : moved es[k] (pl es nb m k) = ⟨es[k].op, (s : Int), (t : Int), es[k].v⟩ := by unfold moved; rw [if_pos (by omega), if_pos (by omega), ea, eb, Int.toNat_natCast, Int.toNat_natCast, s1, t1]
          refine ⟨by rw [em]; exact hplc.2.2 h1 _ _ _ (by omega) (by omega) (by omega) (by omega), fun p hp => ?_, fun hok2 => ?_⟩
          · rw [hp0] at hp
            rcases List.mem_cons.1 hp with rfl | hp
            · rw [Int.toNat_natCast]; exact ⟨s, s1, by rw [em]; unfold parts; rw [if_neg (by simp [h2]), if_pos h3]; simp⟩
            · rw [List.mem_singleton.1 hp, Int.toNat_natCast]; exact ⟨t, t1, by rw [em]; unfold parts; rw [if_neg (by simp [h2]), if_pos h3]; simp⟩
          · rcases tmE_cases hok2 hlt with ⟨g, _⟩ | ⟨g, _⟩ | ⟨_, _, _, a', b', ea', eb', ha', hb'', e⟩
            · rw [hgl, em] at g; simp only at g; omega
            · rw [hgl, em] at g; simp only at g; omega
            · rw [hgl, em] at e ea' eb'
              simp only at e ea' eb'
              obtain rfl : a' = s := by omega
              obtain rfl : b' = t := by omega
              rw [em, e, tmE_app I.ok s2, tmE_app I.ok t2, s3, t3, et]
      obtain ⟨k1, k2, k3⟩ := key
      have hok2 : okFrom (ke es nb m k ++ [moved es[k] (pl es nb m k)]) 0 = true := by rw [okFrom_snoc, I.ok, Int.zero_add, k1]; rfl
      have k3 := k3 hok2
      have hpk : ∀ p ∈ parts es[k], p.toNat < k := fun p hp => (parts_in (ok_get hok hke) p hp).2
      refine ⟨by rw [e2]; exact hok2, fun j hj hjk hjb => ?_, fun q hq => ?_⟩
      · rw [e1, e2]
        by_cases e : j = k
        · subst e
          refine ⟨(ke es nb m j).length, ?_, by simp, k3, fun p hp => ?_⟩
          · rw [List.getD_eq_getElem?_getD, List.getElem?_set_self (by omega)]; rfl
          · obtain ⟨s, s1, s2⟩ := k2 p hp
            refine ⟨s, by rw [getD_set_lt _ (hpk p hp)]; exact s1, ?_⟩
            have hl : (ke es nb m j ++ [moved es[j] (pl es nb m j)]).getD (ke es nb m j).length zeroNd = moved es[j] (pl es nb m j) := by rw [List.getD_eq_getElem?_getD, List.getElem?_append_right (Nat.le_refl _), Nat.sub_self]; rfl
            rw [hl]; exact s2
        · obtain ⟨q, q1, q2, q3, q4⟩ := I.at_ j hj (by omega) hjb
          refine ⟨q, by rw [getD_set_lt _ (by omega)]; exact q1, by rw [List.length_append]; omega, by rw [tmE_app I.ok q2]; exact q3, fun p hp => ?_⟩
          obtain ⟨s, s1, s2⟩ := q4 p hp
          have h9 := (parts_in (ok_get hok hj) p hp).2
          exact ⟨s, by rw [getD_set_lt _ (by omega)]; exact s1, by rw [app_get q2]; exact s2⟩
      · rw [e2, List.length_append, List.length_singleton] at hq
        rw [e1]
        by_cases e : q < (ke es nb m k).length
        · obtain ⟨j, hj, hjb, h⟩ := I.all q e
          exact ⟨j, by omega, hjb, by rw [getD_set_lt _ (by omega)]; exact h⟩
        · obtain rfl : q = (ke es nb m k).length := by omega
          exact ⟨k, by omega, hb, by rw [List.getD_eq_getElem?_getD, List.getElem?_set_self (by omega)]; rfl⟩
theorem keep_facts {es : List Nd} (hok : okFrom es 0 = true) (h24 : es.length ≤ 24) {r : Nat} (hr : r < es.length) :
    good (keepL es r) = true ∧ tmE (keepL es r) ((keepL es r).length - 1) = tmE es r := by
  have hcl : ∀ k (hk : k < r + 1), (need es r).getD k false = true → ∀ p ∈ parts (es[k]'(by omega)), (need es r).getD p.toNat false = true := fun k hk h => need_parts hok hr (by omega) h
  have I := keep_inv hok (m := r + 1) (by omega) hcl (r + 1) (Nat.le_refl _)
  have hle := ke_len es (need es r) (r + 1) (r + 1)
  have hroot := need_root hok hr
  obtain ⟨e1, e2⟩ := kp_yes (m := r + 1) hr hroot
  have hlast : (pl es (need es r) (r + 1) (r + 1)).getD r 0 = ((ke es (need es r) (r + 1) (r + 1)).length : Int) - 1 := by
    rw [e1, e2, List.getD_eq_getElem?_getD, List.getElem?_set_self (by rw [pl_len]; omega), List.length_append, List.length_singleton]
    show ((ke es (need es r) (r + 1) r).length : Int) = _
    omega
  have hpos : 1 ≤ (ke es (need es r) (r + 1) (r + 1)).length := by rw [e2, List.length_append, List.length_singleton]; omega
  unfold keepL
  obtain ⟨q, q1, q2, q3, _⟩ := I.at_ r hr (by omega) hroot
  have hq : q = (ke es (need es r) (r + 1) (r + 1)).length - 1 := by omega
  subst hq
  refine ⟨good_of hpos (by omega) I.ok fun j hj => ?_, q3⟩
  obtain ⟨i, hi, hib, hip⟩ := I.all j (by omega)
  have hir : i ≠ r := fun e => by subst e; omega
  have h0 : (needTo es r 0).getD i false = true := hib
  rcases need_used hok hr (i := i) (r + 1) 0 (by omega) h0 with e | ⟨k, hk, hkb, p, hp, e⟩
  · exact absurd e hir
  · obtain ⟨s, s1, s2, s3, s4⟩ := I.at_ k (by omega) (by omega) hkb
    obtain ⟨t, t1, t2⟩ := s4 p hp
    rw [e, hip] at t1
    exact ⟨s, s2, by rw [t1]; exact t2⟩
/-- The values of a part are the values of its root. -/
theorem sub_val {es : List Nd} {i : Int} (h : subOk es i = true) (x0 x1 : Int) : good (subR es i) = true ∧ (vals (subR es i) x0 x1).getD ((subR es i).length - 1) 0 = (vals es x0 x1).getD i.toNat 0 ∧ 0 ≤ i ∧ i < es.length := by
  have h0 := h
  unfold subOk at h0
  rw [Bool.and_eq_true] at h0
  obtain ⟨hg, hi⟩ := h0
  have hi := (inR_iff _ _ _).1 hi
  obtain ⟨h1, h24, hok⟩ := good_len hg
  obtain ⟨g1, g2⟩ := keep_facts hok h24 (show i.toNat < es.length by omega)
  have e : subR es i = keepL es i.toNat := by unfold subR; rw [if_pos h]
  rw [e]
  obtain ⟨l1, _, hok2⟩ := good_len g1
  exact ⟨g1, by rw [vals_tm hok2 x0 x1 (by omega), vals_tm hok x0 x1 (by omega), g2], hi.1, by omega⟩
end Go.Proofs.Ytmhdijklindipaa
