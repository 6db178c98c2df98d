import Derived.Test.YtmhdijklindipaaK
import Derived.WalkKit
import Derived.WalkSpells
import Derived.WalkLawsBesides
import Derived.Deep.RegionLaw
import Derived.Lib.Hide
namespace Go.Proofs.Ytmhdijklindipaa
open Go.RowKit
set_option linter.unusedVariables false

theorem grownBy_trans {a b c : World} {row : Option Nat} (h1 : a.grownBy b row) (h2 : b.grownBy c row) : a.grownBy c row :=
  ⟨h2.os.trans h1.os, h2.tape.trans h1.tape, h2.output.trans h1.output, Nat.le_trans h1.size h2.size, fun k hk hne => (h2.block k (Nat.lt_of_lt_of_le hk h1.size) hne).trans (h1.block k hk hne)⟩
theorem grownBy_of_below {a w : World} (h : Below a.heap.size a w) (row : Option Nat) : a.grownBy w row := ⟨h.os, h.tape, h.output, h.size, fun i hi _ => h.block i hi⟩

theorem isInput_any (s : ByteArray) (a b v k : Int) (w : World) :
    Calls Try.prog 220 #[.agg #[.string s, .int .i64 a, .int .i64 b, .int .i64 v], .int .i64 k] w fun e w' => e = .returned (.bool (isIn s && v == k)) ∧ Below w.heap.size w w' := by
  have hB1 := fun o => (Below.refl w.heap.size w).alloc (Nat.le_refl _) o
  cases h : isIn s
  · have h' : (s.toList == [105, 110]) = false := h
    go_enter Try.func220, Try.ntmps220
    go_wp2
    go_ret
    exact ⟨ret_bool (by simp), hB1 _⟩
  · have h' : s.toList = [105, 110] := by simpa [isIn] using h
    go_enter Try.func220, Try.ntmps220
    go_wp2
    all_goals go_ret
    all_goals exact ⟨ret_bool (by simp_all), hB1 _⟩

theorem ap_one {s : ByteArray} (h : isOne s = true) (a b : Int) : ap s a b = ap s a 0 := by
  rcases op_cases s with h'|h'|h'|h'|h'|h'|h'|h'|h'|h'|h'|h'|h'|h'|h'
  · simp [isOne, h'] at h
  · simp [isOne, h'] at h
  · rw [ap_not h', ap_not h']
  · rw [ap_neg h', ap_neg h']
  iterate 10 (· simp [isOne, h'] at h)
  · simp [isOne, h'.2.2.1, h'.2.2.2.1] at h

theorem node4_below {w w2 : World} {a b c d : Value} {t : TypeId} {C : Nat} (hb : Below C (w.alloc (.cells #[a, b, c, d] t)) w2) (hC : w.heap.size < C) : w2.cell? ⟨w.heap.size, 0, none⟩ = some a ∧ w2.cell? ⟨w.heap.size, 1, none⟩ = some b ∧
    w2.cell? ⟨w.heap.size, 2, none⟩ = some c ∧ w2.cell? ⟨w.heap.size, 3, none⟩ = some d := by
  obtain ⟨h1, h2, h3, h4⟩ := node4 w a b c d t
  exact ⟨(hb.cell (by exact hC)).trans h1, (hb.cell (by exact hC)).trans h2, (hb.cell (by exact hC)).trans h3, (hb.cell (by exact hC)).trans h4⟩
theorem IB.alloc_ {w : World} {g : Nat} {t : TypeId} {xs : List Int} (h : IB w g t xs) (o : Obj) : IB (w.alloc o) g t xs := h.below ((Below.refl w.heap.size w).alloc (Nat.le_refl _) o) h.lt
theorem IB.cell_ex {w : World} {g : Nat} {t : TypeId} {xs : List Int} (h : IB w g t xs) {k : Nat} (hk : k < xs.length) : ∃ y, w.cell? ⟨g, k, none⟩ = some (.int .i64 y) := ⟨_, h.cell k hk⟩

theorem AllW.set {xs : List Int} (h : AllW xs) {i : Nat} {x : Int} (hx : 0 ≤ x ∧ x ≤ 63) : AllW (xs.set i x) := by
  intro j
  have hj := h j
  rw [List.getD_eq_getElem?_getD] at hj ⊢
  rw [List.getElem?_set]
  split
  · split
    · exact hx
    · simp
  · exact hj
theorem AllW.zeros (n : Nat) : AllW (Go.Proofs.Ytmhdijklindipaa.zeros n) := by
  intro i
  rw [List.getD_eq_getElem?_getD]
  unfold Go.Proofs.Ytmhdijklindipaa.zeros
  rw [List.getElem?_replicate]
  split <;> simp
/-- The list while it is filled from f on. -/
def fillG (es : List Nd) (x0 x1 : Int) (f : Nat) (xs : List Int) : Nat → List Int
  | 0 => xs
  | n + 1 => (fillG es x0 x1 f xs n).set (f + n) (nodeVal (es.getD (f + n) zeroNd) (fillG es x0 x1 f xs n) x0 x1)
theorem fillG_len (es : List Nd) (x0 x1 : Int) (f : Nat) (xs : List Int) (n : Nat) : (fillG es x0 x1 f xs n).length = xs.length := by
  induction n with
  | zero => rfl
  | succ n ih => rw [fillG, List.length_set, ih]
theorem fillG_succ {es : List Nd} {x0 x1 : Int} {f : Nat} {xs : List Int} {n : Nat} (h : f + n < es.length) : fillG es x0 x1 f xs (n + 1) = (fillG es x0 x1 f xs n).set (f + n) (nodeVal es[f + n] (fillG es x0 x1 f xs n) x0 x1) := by
  rw [fillG, List.getD_eq_getElem?_getD, List.getElem?_eq_getElem h]; rfl
theorem fillG_W {es : List Nd} {x0 x1 : Int} {f : Nat} {xs : List Int} (hw : AllW xs) (hok : okFrom es 0 = true) (h0 : 0 ≤ x0 ∧ x0 ≤ 63) (h1 : 0 ≤ x1 ∧ x1 ≤ 63) {n : Nat} (hn : f + n ≤ es.length) : AllW (fillG es x0 x1 f xs n) := by
  induction n with
  | zero => exact hw
  | succ n ih =>
    rw [fillG_succ (by omega)]
    exact (ih (by omega)).set (nodeVal_bd (ok_get hok (by omega)) (ih (by omega)) h0 h1)
theorem nodeVal_ext {n : Nd} {i : Nat} {vs us : List Int} {x0 x1 : Int} (h : isNode n i = true) (he : ∀ q, q < i → vs.getD q 0 = us.getD q 0) : nodeVal n vs x0 x1 = nodeVal n us x0 x1 := by
  unfold nodeVal
  rcases node_kinds h with ⟨e, k⟩ | ⟨e, e', k⟩ | ⟨e, e', k1, k2, a0, a1, _⟩ | ⟨e, e', k1, k2, a0, a1, b0, b1⟩
  · have hc : isConst n.op = true := by simp [isConst, e]
    simp only [hc, if_true]
  · have hc : isConst n.op = false := e'
    have hi : isIn n.op = true := by simp [isIn, e]
    simp only [hc, hi, Bool.false_eq_true, if_false, if_true]
  · have hc : isConst n.op = false := e
    have hi : isIn n.op = false := e'
    simp only [hc, hi, k1, Bool.false_eq_true, if_false, if_true]
    rw [he _ (by omega)]
  · have hc : isConst n.op = false := e
    have hi : isIn n.op = false := e'
    simp only [hc, hi, k1, Bool.false_eq_true, if_false]
    rw [he _ (by omega), he _ (by omega)]
theorem fillG_at {es : List Nd} {x0 x1 : Int} {xs : List Int} (hl : xs.length = es.length) (hok : okFrom es 0 = true) {n : Nat} (hn : n ≤ es.length) : fillG es x0 x1 0 xs n = valsAt es x0 x1 n ++ xs.drop n := by
  induction n with
  | zero => rfl
  | succ n ih =>
    have hx : n < xs.length := by omega
    rw [fillG_succ (by omega), ih (by omega)]
    simp only [Nat.zero_add]
    rw [List.set_append_right _ _ (by rw [valsAt_len]; omega), valsAt_len, Nat.sub_self, List.drop_eq_getElem_cons hx, List.set_cons_zero, valsAt_succ x0 x1 (by omega), List.append_assoc]
    rw [nodeVal_ext (us := valsAt es x0 x1 n) (ok_get hok (by omega)) (fun q hq => by rw [List.getD_eq_getElem?_getD, List.getD_eq_getElem?_getD, List.getElem?_append_left (by rw [valsAt_len]; exact hq)])]
    rfl
theorem fillG_vals {es : List Nd} {x0 x1 : Int} {xs : List Int} (hl : xs.length = es.length) (hok : okFrom es 0 = true) : fillG es x0 x1 0 xs es.length = vals es x0 x1 := by
  rw [fillG_at hl hok (Nat.le_refl _), List.drop_of_length_le (by omega), List.append_nil]; rfl

def FilledIs (w : World) (g : Nat) (xs : List Int) (e : Ending) (w' : World) : Prop := e = .returned (.tuple #[]) ∧ IB w' g 3 xs ∧ w.grownBy w' (some g)
theorem setInt_grown (w : World) (g i : Nat) (x : Value) : w.grownBy (w.setCell ⟨g, i, none⟩ x) (some g) :=
  ⟨rfl, rfl, rfl, by simp [World.setCell], fun k _ hk => Below.heap_setCell w ⟨g, i, none⟩ x k (fun e => hk (by rw [e]))⟩
theorem alloc_grown {w wr : World} {g : Nat} (h : w.grownBy wr (some g)) (o : Obj) : w.grownBy (wr.alloc o) (some g) := grownBy_trans h (World.grownBy_alloc _ _ _)
theorem drew_grown {w wr : World} {g : Nat} (h : w.grownBy wr (some g)) : w.grownBy wr.drew (some g) := ⟨h.os, h.tape, h.output, h.size, h.block⟩

set_option maxRecDepth 100000 in
set_option maxHeartbeats 8000000 in
theorem fillValues_any (L B : Nat) (A : Option Addr) (c cg : Nat) (es : List Nd) (g : Nat) (xs : List Int) (f : Nat) (x0 x1 : Int) (w : World) (hl : es.length ≤ 24) (hes : NS w L B A es) (hB : B ≤ g) (hxl : xs.length = es.length) (hib : IB w g 3 xs) (hW : AllW xs) (hf : f ≤ es.length) (hok : okFrom es 0 = true) (h0 : 0 ≤ x0 ∧ x0 ≤ 63) (h1 : 0 ≤ x1 ∧ x1 ≤ 63) :
    Calls Try.prog 116 #[.slice (some ⟨g, 0, none⟩) xs.length cg, .slice A es.length c, .int .i64 f, .int .i64 x0, .int .i64 x1] w (FilledIs w g (fillG es x0 x1 f xs (es.length - f))) := by
  have hE := Lib.hid hes
  have hBB := Lib.hid hB
  have hOk := Lib.hid hok
  have hX := Lib.hid (And.intro h0 h1)
  have hXL := Lib.hid hxl
  have hWW := Lib.hid hW
  have hI0 : Hid (IB w g 3 (fillG es x0 x1 f xs 0)) := hib
  have hG0 := Lib.hid (World.grownBy.refl w (some g))
  have hgw : Hid (g < w.heap.size) := hib.lt
  clear hes hB hok h0 h1 hxl hib hW
  go_enter Try.func116, Try.ntmps116
  go_wp2
  go_loopw [10] (fun i wr => ∃ n k : Nat, k = f + n ∧ k ≤ es.length ∧ i = .int .i64 k ∧ IB wr g 3 (fillG es x0 x1 f xs n) ∧ w.grownBy wr (some g)) (fun i _ => es.length - (intOf i).toNat)
  case atStart => exact ⟨0, f, rfl, hf, rfl, hI0.out, hG0.out⟩
  case round =>
    obtain ⟨n, k, hkn, hk, rfl, hib, hgr⟩ := hrel
    have hIB := Lib.hid hib
    have hGR := Lib.hid hgr
    have hKN := Lib.hid hkn
    have hglt := hib.lt
    by_cases hlt : k < es.length
    · have hes' : NS wr L B A es := hE.out.keep fun p hp1 hp2 => by
        have hb : p.block < w.heap.size := by have := hBB.out; have := hgw.out; omega
        exact World.cell?_of_block (hgr.block p.block hb (fun e => by injection e with e; have := hBB.out; omega))
      obtain ⟨b, o, rfl, ⟨_, hbB⟩, hc⟩ := hes' (by omega)
      obtain ⟨c1, c2, c3, c4⟩ := hc k hlt
      clear hc hes' hib hgr
      have hkx : k < xs.length := by rw [hXL.out]; exact hlt
      have hN := ok_get hOk.out hlt
      have hW := Lib.hid (fillG_W (f := f) (n := n) hWW.out hOk.out hX.out.1 hX.out.2 (by omega))
      have hS : Hid ((fillG es x0 x1 f xs n).set k (nodeVal es[k] (fillG es x0 x1 f xs n) x0 x1) = fillG es x0 x1 f xs (n + 1)) := by subst hkn; exact (fillG_succ (by omega)).symm
      have hFL := Lib.hid (fillG_len es x0 x1 f xs n)
      clear hkn
      generalize fillG es x0 x1 f xs n = us at *
      have hget : Hid (∀ q, q < k → ∃ y, wr.cell? ⟨g, q, none⟩ = some (.int .i64 y) ∧ y = us.getD q 0 ∧ 0 ≤ y ∧ y ≤ 63) := by
        intro q hq
        refine ⟨_, ?_, rfl, hW.out q⟩
        have h1 := hIB.out.cell q (by rw [hFL.out]; omega)
        rw [h1, List.getD_eq_getElem?_getD, List.getElem?_eq_getElem (by rw [hFL.out]; omega)]; rfl
      have hcK := hIB.out.cell k (by rw [hFL.out]; exact hkx)
      have hfK := hIB.out.frozen k
      generalize us[k]'(by rw [hFL.out]; exact hkx) = old at *
      generalize es[k] = nd at *
      -- what each store leaves
      have hfin : ∀ (wa : World) (x : Int), IB wa g 3 us → w.grownBy wa (some g) → nodeVal nd us x0 x1 = x → IB (wa.setCell ⟨g, k, none⟩ (.int .i64 x)) g 3 (fillG es x0 x1 f xs (n + 1)) ∧ w.grownBy (wa.setCell ⟨g, k, none⟩ (.int .i64 x)) (some g) := by
        intro wa x hi hg hx
        refine ⟨?_, grownBy_trans hg (setInt_grown _ _ _ _)⟩
        have := hi.set k x
        rw [← hx] at this
        rw [hS.out] at this
        rw [← hx]; exact this
      have hF := Lib.hid hfin
      clear hfin
      obtain ⟨s, a, bb, v⟩ := nd
      rcases node_kinds hN with ⟨e, _⟩ | ⟨e, e', hv⟩ | ⟨e, e', k1, k2, ha0, ha1, hb⟩ | ⟨e, e', k1, k2, ha0, ha1, hb0, hb1x⟩
      · have hx := Lib.hid (show nodeVal ⟨s, a, bb, v⟩ us x0 x1 = v by unfold nodeVal; rw [if_pos (by simp [isConst, e])])
        have e2 : s.toList = [99,111,110,115,116] := e
        have R := hF.out wr v hIB.out hGR.out hx.out
        have R := Lib.hid (And.intro (fun o => R.1.alloc_ o) (fun o => alloc_grown R.2 o))
        clear hN e
        go_wp2
        go_roundw
        case rel => exact ⟨n + 1, k + 1, by have := hKN.out; omega, by omega, by go_num, R.out.1 _, R.out.2 _⟩
        case measure => simp [intOf]; omega
      · have e2 : s.toList = [105,110] := e
        have e3 : isIn s = true := by simp [isIn, e2]
        have e1 : (s.toList == [99,111,110,115,116]) = false := e'
        have hb1 := Lib.hid ((Below.refl wr.heap.size wr).alloc (Nat.le_refl _) (.cells #[.string s, .int .i64 a, .int .i64 bb, .int .i64 v] 40))
        rcases hv with hv | hv
        · have hv' : v = 0 := hv
          subst hv'
          have hx := Lib.hid (show nodeVal ⟨s, a, bb, 0⟩ us x0 x1 = x0 by unfold nodeVal; rw [if_neg (by simpa [isConst] using e1), if_pos e3, if_pos rfl])
          clear hN e e' hv
          go_wp2_with (fail)
          refine (isInput_any _ _ _ _ _ _).mono ?_
          rintro e w2 ⟨rfl, hb2⟩
          have hb2' := Lib.hid (hb1.out.trans (hb2.mono (by simp)))
          have hI2 := Lib.hid (hIB.out.below hb2'.out hglt)
          have hG2 := Lib.hid (grownBy_trans hGR.out (grownBy_of_below hb2'.out (some g)))
          obtain ⟨y, hcy⟩ := hI2.out.cell_ex (k := k) (by rw [hFL.out]; exact hkx)
          have hfy := hI2.out.frozen k
          have R := Lib.hid (hF.out w2 x0 hI2.out hG2.out hx.out)
          clear hb2
          go_wp2
          go_roundw
          case rel => exact ⟨n + 1, k + 1, by have := hKN.out; omega, by omega, by go_num, R.out.1, R.out.2⟩
          case measure => simp [intOf]; omega
        · have hv' : v = 1 := hv
          subst hv'
          have hx := Lib.hid (show nodeVal ⟨s, a, bb, 1⟩ us x0 x1 = x1 by unfold nodeVal; rw [if_neg (by simpa [isConst] using e1), if_pos e3, if_neg (show ¬ ((1 : Int) = 0) by decide)])
          clear hN e e' hv
          go_wp2_with (fail)
          refine (isInput_any _ _ _ _ _ _).mono ?_
          rintro e w2 ⟨rfl, hb2⟩
          have hb2' := Lib.hid (hb1.out.trans (hb2.mono (by simp)))
          obtain ⟨m1, m2, m3, m4⟩ := node4_below hb2 (by simp)
          have hsz2 := hb2.size
          simp at hsz2
          clear hb2
          go_wp2_with (fail)
          refine (isInput_any _ _ _ _ _ _).mono ?_
          rintro e w3 ⟨rfl, hb3⟩
          have hb3' := Lib.hid (hb2'.out.trans (hb3.mono (by omega)))
          have hI2 := Lib.hid (hIB.out.below hb3'.out hglt)
          have hG2 := Lib.hid (grownBy_trans hGR.out (grownBy_of_below hb3'.out (some g)))
          obtain ⟨y, hcy⟩ := hI2.out.cell_ex (k := k) (by rw [hFL.out]; exact hkx)
          have hfy := hI2.out.frozen k
          have R := Lib.hid (hF.out w3 x1 hI2.out hG2.out hx.out)
          clear hb3
          go_wp2
          go_roundw
          case rel => exact ⟨n + 1, k + 1, by have := hKN.out; omega, by omega, by go_num, R.out.1, R.out.2⟩
          case measure => simp [intOf]; omega
      · have hbz : bb = 0 := hb
        subst hbz
        have e1 : (s.toList == [99,111,110,115,116]) = false := e
        have e2 : (s.toList == [105,110]) = false := e'
        have e3 : isIn s = false := e2
        have e4 : Hid (isOne s = true) := k1
        have hop : Hid (isOp s = true) := by simp [Hid, isOp, show isOne s = true from k1, show isTwo s = false from k2]
        have ha0' : 0 ≤ a := ha0
        have ha1' : a < k := ha1
        obtain ⟨q, rfl⟩ := Int.eq_ofNat_of_zero_le ha0'
        obtain ⟨ya, hya, hyv, hy0, hy1⟩ := hget.out q (by omega)
        
        obtain ⟨yb, hyb, hybv, hyb0, hyb1⟩ := hget.out 0 (by omega)
        have hx0 : nodeVal ⟨s, (q : Int), 0, v⟩ us x0 x1 = ap s ya yb := by
          unfold nodeVal; rw [if_neg (by simpa [isConst] using e1), if_neg (by simp [e3]), hyv, if_pos e4.out, ap_one e4.out (_) yb]; rfl
        have hx := Lib.hid hx0
        have HY := Lib.hid (And.intro hyv hybv)
        have hb1 := Lib.hid ((Below.refl wr.heap.size wr).alloc (Nat.le_refl _) (.cells #[.string s, .int .i64 (q : Int), .int .i64 0, .int .i64 v] 40))
        clear hN e e' k1 k2 hx0 ha0 ha1 hyv hybv hb
        go_wp2_with (fail)
        refine (isInput_any _ _ _ _ _ _).mono ?_
        rintro e w2 ⟨rfl, hb2⟩
        have hb2' := Lib.hid (hb1.out.trans (hb2.mono (by simp)))
        obtain ⟨m1, m2, m3, m4⟩ := node4_below hb2 (by simp)
        have hsz2 := hb2.size
        simp at hsz2
        have hb2h := Lib.hid hb2
        clear hb2
        go_wp2_with (fail)
        refine (isInput_any _ _ _ _ _ _).mono ?_
        rintro e w3 ⟨rfl, hb3⟩
        have hb3' := Lib.hid (hb2'.out.trans (hb3.mono (by omega)))
        obtain ⟨p1, p2, p3, p4⟩ := node4_below (hb2h.out.trans (hb3.mono (by simp; omega))) (by simp)
        have hI2 := Lib.hid (hIB.out.below hb3'.out hglt)
        have hG2 := Lib.hid (grownBy_trans hGR.out (grownBy_of_below hb3'.out (some g)))
        have hcA : w3.cell? ⟨g, q, none⟩ = some (.int .i64 ya) := (hb3'.out.cell (by exact hglt)).trans hya
        have hcB : w3.cell? ⟨g, 0, none⟩ = some (.int .i64 yb) := (hb3'.out.cell (by exact hglt)).trans hyb
        obtain ⟨y, hcy⟩ := hI2.out.cell_ex (k := k) (by rw [hFL.out]; exact hkx)
        have hfy := hI2.out.frozen k
        have R := Lib.hid (hF.out w3 (ap s ya yb) hI2.out hG2.out hx.out)
        clear hb3 m1 m2 m3 m4 hya hyb c1 c2 c3 c4 hcK hfK
        have i1 : (q : Int) < (xs.length : Int) := by omega
        have i0' : (0 : Int) ≤ (q : Int) := by omega
        have i3 : (0 : Int) < (xs.length : Int) := by omega
        have i2' : (0 : Int) ≤ (0 : Int) := by omega
        have i5 : (k : Int) < (xs.length : Int) := by omega
        have i4' : (0 : Int) ≤ (k : Int) := by omega
        have i6 : 0 < xs.length := by omega
        go_wp2_with (fail)
        go_region_law (go_simp; go_at_call 131; refine (valueOfOp_any s ya yb _ hy0 hy1 hyb0 hyb1 hop.out).mono ?_; rintro e w' ⟨rfl, rfl⟩)
        all_goals
          go_wp2
          go_roundw
          case rel => exact ⟨n + 1, k + 1, by have := hKN.out; omega, by omega, by go_num, R.out.1, drew_grown R.out.2⟩
          case measure => simp [intOf]; omega
      · have e1 : (s.toList == [99,111,110,115,116]) = false := e
        have e2 : (s.toList == [105,110]) = false := e'
        have e3 : isIn s = false := e2
        have e4 : Hid (isOne s = false) := k1
        have hop : Hid (isOp s = true) := by simp [Hid, isOp, show isOne s = false from k1, show isTwo s = true from k2]
        have ha0' : 0 ≤ a := ha0
        have ha1' : a < k := ha1
        obtain ⟨q, rfl⟩ := Int.eq_ofNat_of_zero_le ha0'
        obtain ⟨ya, hya, hyv, hy0, hy1⟩ := hget.out q (by omega)
        have hb0' : 0 ≤ bb := hb0
        have hb1' : bb < k := hb1x
        obtain ⟨q2, rfl⟩ := Int.eq_ofNat_of_zero_le hb0'
        obtain ⟨yb, hyb, hybv, hyb0, hyb1⟩ := hget.out q2 (by omega)
        have hx0 : nodeVal ⟨s, (q : Int), (q2 : Int), v⟩ us x0 x1 = ap s ya yb := by
          unfold nodeVal; rw [if_neg (by simpa [isConst] using e1), if_neg (by simp [e3]), hyv, hybv, if_neg (by rw [e4.out]; decide)]; rfl
        have hx := Lib.hid hx0
        have HY := Lib.hid (And.intro hyv hybv)
        have hb1 := Lib.hid ((Below.refl wr.heap.size wr).alloc (Nat.le_refl _) (.cells #[.string s, .int .i64 (q : Int), .int .i64 (q2 : Int), .int .i64 v] 40))
        clear hN e e' k1 k2 hx0 ha0 ha1 hyv hybv hb0 hb1x
        go_wp2_with (fail)
        refine (isInput_any _ _ _ _ _ _).mono ?_
        rintro e w2 ⟨rfl, hb2⟩
        have hb2' := Lib.hid (hb1.out.trans (hb2.mono (by simp)))
        obtain ⟨m1, m2, m3, m4⟩ := node4_below hb2 (by simp)
        have hsz2 := hb2.size
        simp at hsz2
        have hb2h := Lib.hid hb2
        clear hb2
        go_wp2_with (fail)
        refine (isInput_any _ _ _ _ _ _).mono ?_
        rintro e w3 ⟨rfl, hb3⟩
        have hb3' := Lib.hid (hb2'.out.trans (hb3.mono (by omega)))
        obtain ⟨p1, p2, p3, p4⟩ := node4_below (hb2h.out.trans (hb3.mono (by simp; omega))) (by simp)
        have hI2 := Lib.hid (hIB.out.below hb3'.out hglt)
        have hG2 := Lib.hid (grownBy_trans hGR.out (grownBy_of_below hb3'.out (some g)))
        have hcA : w3.cell? ⟨g, q, none⟩ = some (.int .i64 ya) := (hb3'.out.cell (by exact hglt)).trans hya
        have hcB : w3.cell? ⟨g, q2, none⟩ = some (.int .i64 yb) := (hb3'.out.cell (by exact hglt)).trans hyb
        obtain ⟨y, hcy⟩ := hI2.out.cell_ex (k := k) (by rw [hFL.out]; exact hkx)
        have hfy := hI2.out.frozen k
        have R := Lib.hid (hF.out w3 (ap s ya yb) hI2.out hG2.out hx.out)
        clear hb3 m1 m2 m3 m4 hya hyb c1 c2 c3 c4 hcK hfK
        have i1 : (q : Int) < (xs.length : Int) := by omega
        have i0' : (0 : Int) ≤ (q : Int) := by omega
        have i3 : (q2 : Int) < (xs.length : Int) := by omega
        have i2' : (0 : Int) ≤ (q2 : Int) := by omega
        have i5 : (k : Int) < (xs.length : Int) := by omega
        have i4' : (0 : Int) ≤ (k : Int) := by omega
        have i6 : 0 < xs.length := by omega
        go_wp2_with (fail)
        go_region_law (go_simp; go_at_call 131; refine (valueOfOp_any s ya yb _ hy0 hy1 hyb0 hyb1 hop.out).mono ?_; rintro e w' ⟨rfl, rfl⟩)
        all_goals
          go_wp2
          go_roundw
          case rel => exact ⟨n + 1, k + 1, by have := hKN.out; omega, by omega, by go_num, R.out.1, drew_grown R.out.2⟩
          case measure => simp [intOf]; omega
    · obtain rfl : k = es.length := by omega
      have hN : Hid (IB wr g 3 (fillG es x0 x1 f xs (es.length - f))) := by
        have := hIB.out; rwa [show n = es.length - f by omega] at this
      go_wp2
      go_end0
      exact ⟨rfl, hN.out, hGR.out⟩
end Go.Proofs.Ytmhdijklindipaa
