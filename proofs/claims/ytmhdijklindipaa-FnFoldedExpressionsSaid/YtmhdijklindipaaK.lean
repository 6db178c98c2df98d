import Derived.Test.YtmhdijklindipaaZ17
import Derived.Test.YtmhdijklindipaaLI
import Derived.WalkKit
import Derived.WalkSpells
import Derived.WalkLawsBesides
import Derived.StillTailTactics
import Derived.Deep.QuietTactic
import Derived.BigQuiet
import Derived.Deep.RegionHeld3
import Derived.Deep.RegionLaw
import Derived.Lib.Hide
namespace Go.Proofs.Ytmhdijklindipaa
open Go.RowKit
set_option linter.unusedVariables false

/-! ### The values of the nodes -/
def nodeVal (n : Nd) (vs : List Int) (x0 x1 : Int) : Int :=
  if isConst n.op = true then n.v else if isIn n.op = true then (if n.v = 0 then x0 else x1)
  else ap n.op (vs.getD n.a.toNat 0) (if isOne n.op = true then 0 else vs.getD n.b.toNat 0)
def valsAt (es : List Nd) (x0 x1 : Int) : Nat → List Int
  | 0 => []
  | k + 1 => valsAt es x0 x1 k ++ [nodeVal (es.getD k zeroNd) (valsAt es x0 x1 k) x0 x1]
def vals (es : List Nd) (x0 x1 : Int) : List Int := valsAt es x0 x1 es.length
theorem valsAt_len (es : List Nd) (x0 x1 : Int) (k : Nat) : (valsAt es x0 x1 k).length = k := by
  induction k with
  | zero => rfl
  | succ k ih => simp [valsAt, ih]
theorem valsAt_succ {es : List Nd} {k : Nat} (x0 x1 : Int) (h : k < es.length) : valsAt es x0 x1 (k + 1) = valsAt es x0 x1 k ++ [nodeVal es[k] (valsAt es x0 x1 k) x0 x1] := by
  rw [valsAt, List.getD_eq_getElem?_getD, List.getElem?_eq_getElem h]; rfl
theorem okFrom_get : ∀ (es : List Nd) (i : Int), okFrom es i = true → ∀ k (h : k < es.length), isNode es[k] (i + k) = true := by
  intro es
  induction es with
  | nil => intro i _ k h; simp at h
  | cons a l ih =>
    intro i h k hk
    simp only [okFrom, Bool.and_eq_true] at h
    cases k with
    | zero => simpa using h.1
    | succ k =>
      have := ih (i + 1) h.2 k (by simpa using hk)
      simp only [List.getElem_cons_succ]
      rw [show i + ((k + 1 : Nat) : Int) = i + 1 + (k : Int) by omega]; exact this
theorem ok_get {es : List Nd} (h : okFrom es 0 = true) {k : Nat} (hk : k < es.length) : isNode es[k] k = true := by
  have := okFrom_get es 0 h k hk; rwa [Int.zero_add] at this

/-- What a node at k is: five kinds. -/
theorem node_kinds {n : Nd} {i : Int} (h : isNode n i = true) :
    (n.op.toList = [99,111,110,115,116] ∧ 0 ≤ n.v ∧ n.v ≤ 63) ∨ (n.op.toList = [105,110] ∧ (n.op.toList == [99,111,110,115,116]) = false ∧ (n.v = 0 ∨ n.v = 1)) ∨
    ((n.op.toList == [99,111,110,115,116]) = false ∧ (n.op.toList == [105,110]) = false ∧ isOne n.op = true ∧ isTwo n.op = false ∧ 0 ≤ n.a ∧ n.a < i ∧ n.b = 0) ∨
    ((n.op.toList == [99,111,110,115,116]) = false ∧ (n.op.toList == [105,110]) = false ∧ isOne n.op = false ∧ isTwo n.op = true ∧ 0 ≤ n.a ∧ n.a < i ∧ 0 ≤ n.b ∧ n.b < i) := by
  unfold isNode at h
  by_cases h1 : isIn n.op = true
  · rw [if_pos h1] at h
    simp only [Bool.and_eq_true] at h
    have h3 := (inR_iff _ _ _).1 h.2
    have h1' : n.op.toList = [105,110] := by simpa [isIn] using h1
    right; left; exact ⟨h1', by rw [h1']; rfl, by omega⟩
  · rw [if_neg h1] at h
    have h1' : (n.op.toList == [105,110]) = false := by simpa [isIn] using h1
    by_cases h2 : isConst n.op = true
    · rw [if_pos h2] at h
      simp only [Bool.and_eq_true] at h
      have h3 := (isW_iff _).1 h.2
      left; exact ⟨by simpa [isConst] using h2, h3⟩
    · rw [if_neg h2] at h
      have h2' : (n.op.toList == [99,111,110,115,116]) = false := by simpa [isConst] using h2
      by_cases h3 : isOne n.op = true
      · rw [if_pos h3] at h
        simp only [Bool.and_eq_true, beq_iff_eq] at h
        have h4 := (inR_iff _ _ _).1 h.1.1
        have h5 : isTwo n.op = false := by
          cases h6 : isTwo n.op
          · rfl
          · have := two_not_one _ h6; rw [this] at h3; cases h3
        right; right; left; exact ⟨h2', h1', h3, h5, h4.1, by omega, h.1.2⟩
      · rw [if_neg h3] at h
        simp only [Bool.and_eq_true, beq_iff_eq] at h
        have h4 := (inR_iff _ _ _).1 h.1.1.2
        have h5 := (inR_iff _ _ _).1 h.1.2
        right; right; right; exact ⟨h2', h1', by simpa using h3, h.1.1.1, h4.1, by omega, h5.1, by omega⟩

def AllW (xs : List Int) : Prop := ∀ i, 0 ≤ xs.getD i 0 ∧ xs.getD i 0 ≤ 63
theorem nodeVal_bd {n : Nd} {i : Int} {vs : List Int} {x0 x1 : Int} (h : isNode n i = true) (hw : AllW vs) (h0 : 0 ≤ x0 ∧ x0 ≤ 63) (h1 : 0 ≤ x1 ∧ x1 ≤ 63) : 0 ≤ nodeVal n vs x0 x1 ∧ nodeVal n vs x0 x1 ≤ 63 := by
  have ha := hw n.a.toNat
  have hb := hw n.b.toNat
  unfold nodeVal
  rcases node_kinds h with ⟨e, k⟩ | ⟨e, e', k⟩ | ⟨e, e', k1, _⟩ | ⟨e, e', k1, _⟩
  · rw [if_pos (by simp [isConst, e])]; exact k
  · rw [if_neg (by simpa [isConst] using e'), if_pos (by simp [isIn, e])]; split <;> assumption
  · rw [if_neg (by simpa [isConst] using e), if_neg (by simpa [isIn] using e'), if_pos k1]; exact ap_bd _ _ _ ha.1 ha.2 (by omega) (by omega)
  · rw [if_neg (by simpa [isConst] using e), if_neg (by simpa [isIn] using e'), if_neg (by simp [k1])]; exact ap_bd _ _ _ ha.1 ha.2 hb.1 hb.2
theorem valsAt_W {es : List Nd} {x0 x1 : Int} (hok : okFrom es 0 = true) (h0 : 0 ≤ x0 ∧ x0 ≤ 63) (h1 : 0 ≤ x1 ∧ x1 ≤ 63) {k : Nat} (hk : k ≤ es.length) : AllW (valsAt es x0 x1 k) := by
  induction k with
  | zero => intro i; simp [valsAt]
  | succ k ih =>
    have ih' := ih (by omega)
    intro i
    rw [valsAt_succ x0 x1 (by omega), List.getD_eq_getElem?_getD]
    by_cases hi : i < k
    · rw [List.getElem?_append_left (by rw [valsAt_len]; exact hi)]
      have := ih' i; rwa [List.getD_eq_getElem?_getD] at this
    · rw [List.getElem?_append_right (by rw [valsAt_len]; omega), valsAt_len]
      by_cases hi2 : i = k
      · subst hi2; simp only [Nat.sub_self, List.getElem?_cons_zero, Option.getD_some]
        exact nodeVal_bd (ok_get hok (by omega)) ih' h0 h1
      · have : ([nodeVal es[k] (valsAt es x0 x1 k) x0 x1] : List Int)[i - k]? = none := by apply List.getElem?_eq_none; simp; omega
        rw [this]; simp
theorem IS.getD {w : World} {L B : Nat} {A : Option Addr} {xs : List Int} (h : IS w L B A xs) {q : Nat} (hq : q < xs.length) : ∃ b o, A = some ⟨b, o, none⟩ ∧ (L ≤ b ∧ b < B) ∧ w.cell? ⟨b, o + q, none⟩ = some (.int .i64 (xs.getD q 0)) := by
  obtain ⟨b, o, e, hb, hc⟩ := h (by omega)
  exact ⟨b, o, e, hb, by rw [hc q hq, List.getD_eq_getElem?_getD, List.getElem?_eq_getElem hq]; rfl⟩

def OwnIs (w : World) (xs : List Int) (e : Ending) (w' : World) : Prop := ∃ A c, e = .returned (.slice A xs.length c) ∧ OW w' w.heap.size w'.heap.size (.slice A xs.length c) xs ∧ Below w.heap.size w w'

set_option maxRecDepth 100000 in
set_option maxHeartbeats 4000000 in
theorem exValues_any (L B : Nat) (A : Option Addr) (c : Nat) (es : List Nd) (x0 x1 : Int) (w : World) (hl : es.length ≤ 24) (hes : NS w L B A es) (hB : B ≤ w.heap.size) (hok : okFrom es 0 = true) (h0 : 0 ≤ x0 ∧ x0 ≤ 63) (h1 : 0 ≤ x1 ∧ x1 ≤ 63) :
    Calls Try.prog 119 #[.slice A es.length c, .int .i64 x0, .int .i64 x1] w (OwnIs w (vals es x0 x1)) := by
  have hE := Lib.hid hes
  have hBB := Lib.hid hB
  have hOk := Lib.hid hok
  have hX := Lib.hid (And.intro h0 h1)
  have hBel0 := Lib.hid (Below.refl w.heap.size w)
  clear hes hB hok h0 h1
  obtain ⟨i0, hi, hz0, hz1, hz2⟩ := info_parts Try.infoInt
  have hI := Lib.hid hi
  have hZ0 := Lib.hid hz0
  have hZ1 := Lib.hid hz1
  have hZ2 := Lib.hid hz2
  clear hi hz0 hz1 hz2
  go_enter Try.func119, Try.ntmps119
  go_wp2
  go_loopw [7, 12] (fun v i wr => ∃ k : Nat, k ≤ es.length ∧ i = .int .i64 k ∧ OW wr w.heap.size wr.heap.size v (valsAt es x0 x1 k) ∧ Below w.heap.size w wr) (fun _ i _ => es.length - (intOf i).toNat)
  case atStart => exact ⟨0, Nat.zero_le _, rfl, OW.nil _ _ _, hBel0.out⟩
  case round =>
    obtain ⟨k, hk, rfl, how, hbel⟩ := hrel
    have hOW := Lib.hid how
    obtain ⟨V, cv, rfl, his⟩ := how.form
    have hIS := Lib.hid his
    clear how his
    by_cases hlt : k < es.length
    · obtain ⟨b, o, rfl, ⟨_, hbB⟩, hc⟩ := (hE.out.below hbel hBB.out) (by omega)
      obtain ⟨c1, c2, c3, c4⟩ := hc k hlt
      clear hc
      have hS := Lib.hid (valsAt_succ x0 x1 hlt)
      have hN := ok_get hOk.out hlt
      have hW := Lib.hid (valsAt_W hOk.out hX.out.1 hX.out.2 hk)
      have hL := Lib.hid (valsAt_len es x0 x1 k)
      generalize es[k] = nd at *
      have hBelB := Lib.hid hbel
      have hsz := hbel.size
      clear hbel
      generalize valsAt es x0 x1 k = vs at *
      -- what each append leaves
      have hfin : ∀ (wa : World) (x : Int), Below w.heap.size w wa → nodeVal nd vs x0 x1 = x → ∀ v' w', w'.ownsRow w.heap.size 3 1 v' (vs.length + 1) (vs.map (Value.int .i64) ++ [.int .i64 x]) → wa.grownBy w' (Value.slice V vs.length cv).ownBlock → w.heap.size ≤ wa.heap.size →
          OW w' w.heap.size w'.heap.size v' (valsAt es x0 x1 (k + 1)) ∧ Below w.heap.size w w' := by
        intro wa x hbwa hx v' w' hown hgr hsz
        refine ⟨by rw [hS.out, hx]; exact OW.push hown, hbwa.grown hgr hsz (fun k hk => (hOW.out.lo k hk).1)⟩
      have hF := Lib.hid hfin
      clear hfin
      obtain ⟨s, a, bb, v⟩ := nd
      rcases node_kinds hN with ⟨e, _⟩ | ⟨e, e', hv⟩ | ⟨e, e', k1, k2, ha0, ha1, hb⟩ | ⟨e, e', k1, k2, ha0, ha1, hb0, hb1x⟩
      · have hx := Lib.hid (show nodeVal ⟨s, a, bb, v⟩ vs x0 x1 = v by unfold nodeVal; rw [if_pos (by simp [isConst, e])])
        have hb1 := fun o => Lib.hid (hBelB.out.alloc hsz o)
        have hb2 := fun o o' => Lib.hid ((hb1 o).out.alloc (by simp; omega) o')
        have ho1 := fun o => Lib.hid (hOW.out.1.alloc o)
        have ho2 := fun o o' => Lib.hid ((ho1 o).out.alloc o')
        have e' : s.toList = [99,111,110,115,116] := e
        have hvl : vs.length ≤ 24 := by rw [hL.out]; omega
        clear hN e
        go_wp2_with (at_builtin; refine wpList_append_own _ rfl _ _ 27 rfl w.heap.size 3 i0 (.int .i64 0) 1 8 Try.underlying27 hI.out hZ0.out hZ1.out hZ2.out rfl (by decide) _ _ _ rfl (ho2 _ _).out ⟨wr.heap.size + 1, 0, none⟩ 1 1 [.int .i64 v] rfl rfl (new1 (by simp)) (one1 _) (by unfold maxLen; omega) (by omega) (by simp; omega) ?_; intro v' w1 hown1 hgr1 _)
        have R := Lib.hid (hF.out _ _ (hb2 _ _).out hx.out v' w1 (by simpa using hown1) hgr1 (by simp; omega))
        clear hown1 hgr1
        go_wp2
        go_roundw
        case rel => exact ⟨k + 1, by omega, by go_num, R.out.1, R.out.2⟩
        case measure => simp [intOf]; omega
      · have e2 : s.toList = [105,110] := e
        have e1 : (s.toList == [99,111,110,115,116]) = false := e'
        have hb1 := fun o => Lib.hid (hBelB.out.alloc hsz o)
        have hb2 := fun o o' => Lib.hid ((hb1 o).out.alloc (by simp; omega) o')
        have ho1 := fun o => Lib.hid (hOW.out.1.alloc o)
        have ho2 := fun o o' => Lib.hid ((ho1 o).out.alloc o')
        have hvl : vs.length ≤ 24 := by rw [hL.out]; omega
        rcases hv with hv | hv
        · have hv' : v = 0 := hv
          subst hv'
          have hx := Lib.hid (show nodeVal ⟨s, a, bb, 0⟩ vs x0 x1 = x0 by unfold nodeVal; rw [if_neg (by simpa [isConst] using e1), if_pos (by simp [isIn, e2]), if_pos rfl])
          clear hN e e' e1 hv
          go_wp2_with (at_builtin; refine wpList_append_own _ rfl _ _ 27 rfl w.heap.size 3 i0 (.int .i64 0) 1 8 Try.underlying27 hI.out hZ0.out hZ1.out hZ2.out rfl (by decide) _ _ _ rfl (ho2 _ _).out ⟨wr.heap.size + 1, 0, none⟩ 1 1 [.int .i64 x0] rfl rfl (new1 (by simp)) (one1 _) (by unfold maxLen; omega) (by omega) (by simp; omega) ?_; intro v' w1 hown1 hgr1 _)
          have R := Lib.hid (hF.out _ _ (hb2 _ _).out hx.out v' w1 (by simpa using hown1) hgr1 (by simp; omega))
          clear hown1 hgr1
          go_wp2
          go_roundw
          case rel => exact ⟨k + 1, by omega, by go_num, R.out.1, R.out.2⟩
          case measure => simp [intOf]; omega
        · have hv' : v = 1 := hv
          subst hv'
          have hx := Lib.hid (show nodeVal ⟨s, a, bb, 1⟩ vs x0 x1 = x1 by unfold nodeVal; rw [if_neg (by simpa [isConst] using e1), if_pos (by simp [isIn, e2]), if_neg (show ¬ ((1 : Int) = 0) by decide)])
          clear hN e e' e1 hv
          go_wp2_with (at_builtin; refine wpList_append_own _ rfl _ _ 27 rfl w.heap.size 3 i0 (.int .i64 0) 1 8 Try.underlying27 hI.out hZ0.out hZ1.out hZ2.out rfl (by decide) _ _ _ rfl (ho2 _ _).out ⟨wr.heap.size + 1, 0, none⟩ 1 1 [.int .i64 x1] rfl rfl (new1 (by simp)) (one1 _) (by unfold maxLen; omega) (by omega) (by simp; omega) ?_; intro v' w1 hown1 hgr1 _)
          have R := Lib.hid (hF.out _ _ (hb2 _ _).out hx.out v' w1 (by simpa using hown1) hgr1 (by simp; omega))
          clear hown1 hgr1
          go_wp2
          go_roundw
          case rel => exact ⟨k + 1, by omega, by go_num, R.out.1, R.out.2⟩
          case measure => simp [intOf]; omega
      · have hbz : bb = 0 := hb
        subst hbz
        have hvl : vs.length ≤ 24 := by rw [hL.out]; omega
        have hop : Hid (isOp s = true) := by simp [Hid, isOp, show isOne s = true from k1, show isTwo s = false from k2]
        have e1 : (s.toList == [99,111,110,115,116]) = false := e
        have e2 : (s.toList == [105,110]) = false := e'
        have e3 : isOne s = true := k1
        have ha0' : 0 ≤ a := ha0
        have ha1' : a < k := ha1
        obtain ⟨q, rfl⟩ := Int.eq_ofNat_of_zero_le ha0'
        have hqv : q < vs.length := by rw [hL.out]; omega
        have hwa := hW.out q
        obtain ⟨gb, go, hV, hgb, hcq⟩ := hIS.out.getD hqv
        subst hV
        have hx0 : nodeVal ⟨s, (q : Int), 0, v⟩ vs x0 x1 = ap s (vs.getD q 0) 0 := by
          unfold nodeVal; rw [if_neg (by simpa [isConst] using e1), if_neg (by simpa [isIn] using e2), if_pos e3]; rfl
        generalize vs.getD q 0 = xq at *
        have hx := Lib.hid hx0
        obtain ⟨hxq0, hxq1⟩ := hwa
        obtain ⟨wz, hwz⟩ : ∃ wz, wz = wr.alloc (.cells #[.string s, .int .i64 (q : Int), .int .i64 0, .int .i64 v] 40) := ⟨_, rfl⟩
        obtain ⟨m1, m2, m3, m4⟩ := node4 wr (.string s) (.int .i64 (q : Int)) (.int .i64 0) (.int .i64 v) 40
        have hbz := Lib.hid (hBelB.out.alloc hsz (.cells #[.string s, .int .i64 (q : Int), .int .i64 0, .int .i64 v] 40))
        have hoz := Lib.hid (hOW.out.1.alloc (.cells #[.string s, .int .i64 (q : Int), .int .i64 0, .int .i64 v] 40))
        have hcA := (World.cell?_alloc_lt wr (.cells #[.string s, .int .i64 (q : Int), .int .i64 0, .int .i64 v] 40) ⟨gb, go + q, none⟩ hgb.2).trans hcq
        rw [← hwz] at m1 m2 m3 m4 hbz hoz hcA
        have i1 : (q : Int) < (vs.length : Int) := by omega
        have i0' : (0 : Int) ≤ (q : Int) := by omega
        clear hN e e' k1 k2 hx0 ha0 ha1 hb
        have hzz : Hid (w.heap.size ≤ wz.heap.size) := hbz.out.size
        have HZ := Lib.hid hwz
        clear hwz
        go_wp2_with (fail)
        refine (exOne_any _ _).mono ?_
        rintro e w' ⟨rfl, rfl⟩
        go_wp2_with (fail)
        rw [← HZ.out]
        clear HZ
        go_region_law (first | (go_simp; go_at_call 133; refine (exApply_any s xq 0 _ hxq0 hxq1 (by omega) (by omega) hop.out).mono ?_; rintro e w' ⟨rfl, rfl⟩) | (refine step_append_lies _ rfl _ _ 27 rfl w.heap.size 3 i0 (.int .i64 0) 1 8 Try.underlying27 hI.out hZ0.out hZ1.out hZ2.out rfl (by decide) _ _ _ (by rfl) ((hoz.out.alloc _).drew) ⟨wz.heap.size, 0, none⟩ 1 1 [.int .i64 (ap s xq 0)] (by rfl) rfl (new1d rfl) (one1 _) (by omega) (by unfold maxLen; omega) (by omega) (by have := hzz.out; simp; omega) (wz.heap.size + 1) (by simp) ?_; intro gg cap w1 hown1 hgr1 _ _))
        all_goals
          have R := Lib.hid (hF.out _ _ ((hbz.out.alloc hzz.out _).drew) hx.out _ w1 (by simpa using hown1) hgr1 (by have := hzz.out; simp; omega))
          clear hown1 hgr1
          go_wp2
          go_roundw
          case rel => exact ⟨k + 1, by omega, by go_num, R.out.1, R.out.2⟩
          case measure => simp [intOf]; omega
      · have hvl : vs.length ≤ 24 := by rw [hL.out]; omega
        have hop : Hid (isOp s = true) := by simp [Hid, isOp, show isOne s = false from k1, show isTwo s = true from k2]
        have e1 : (s.toList == [99,111,110,115,116]) = false := e
        have e2 : (s.toList == [105,110]) = false := e'
        have e3 : isOne s = false := k1
        have ha0' : 0 ≤ a := ha0
        have ha1' : a < k := ha1
        obtain ⟨q, rfl⟩ := Int.eq_ofNat_of_zero_le ha0'
        have hqv : q < vs.length := by rw [hL.out]; omega
        have hwa := hW.out q
        obtain ⟨gb, go, hV, hgb, hcq⟩ := hIS.out.getD hqv
        subst hV
        have hb0' : 0 ≤ bb := hb0
        have hb1' : bb < k := hb1x
        obtain ⟨q2, rfl⟩ := Int.eq_ofNat_of_zero_le hb0'
        have hqv2 : q2 < vs.length := by rw [hL.out]; omega
        have hwb := hW.out q2
        obtain ⟨gb2, go2, hV2, _, hcq2⟩ := hIS.out.getD hqv2
        obtain ⟨rfl, rfl⟩ : gb = gb2 ∧ go = go2 := by injection hV2 with h; injection h with h1 h2 _; exact ⟨h1, h2⟩
        have hx0 : nodeVal ⟨s, (q : Int), (q2 : Int), v⟩ vs x0 x1 = ap s (vs.getD q 0) (vs.getD q2 0) := by
          unfold nodeVal; rw [if_neg (by simpa [isConst] using e1), if_neg (by simpa [isIn] using e2), if_neg (by simp [e3])]; rfl
        generalize vs.getD q 0 = xq at *
        generalize vs.getD q2 0 = xq2 at *
        have hx := Lib.hid hx0
        obtain ⟨hxq0, hxq1⟩ := hwa
        obtain ⟨hxq2, hxq3⟩ := hwb
        obtain ⟨wz, hwz⟩ : ∃ wz, wz = wr.alloc (.cells #[.string s, .int .i64 (q : Int), .int .i64 (q2 : Int), .int .i64 v] 40) := ⟨_, rfl⟩
        obtain ⟨m1, m2, m3, m4⟩ := node4 wr (.string s) (.int .i64 (q : Int)) (.int .i64 (q2 : Int)) (.int .i64 v) 40
        have hbz := Lib.hid (hBelB.out.alloc hsz (.cells #[.string s, .int .i64 (q : Int), .int .i64 (q2 : Int), .int .i64 v] 40))
        have hoz := Lib.hid (hOW.out.1.alloc (.cells #[.string s, .int .i64 (q : Int), .int .i64 (q2 : Int), .int .i64 v] 40))
        have hcA := (World.cell?_alloc_lt wr (.cells #[.string s, .int .i64 (q : Int), .int .i64 (q2 : Int), .int .i64 v] 40) ⟨gb, go + q, none⟩ hgb.2).trans hcq
        have hcB := (World.cell?_alloc_lt wr (.cells #[.string s, .int .i64 (q : Int), .int .i64 (q2 : Int), .int .i64 v] 40) ⟨gb, go + q2, none⟩ hgb.2).trans hcq2
        rw [← hwz] at m1 m2 m3 m4 hbz hoz hcA hcB
        have i1 : (q : Int) < (vs.length : Int) := by omega
        have i0' : (0 : Int) ≤ (q : Int) := by omega
        have i3 : (q2 : Int) < (vs.length : Int) := by omega
        have i2' : (0 : Int) ≤ (q2 : Int) := by omega
        clear hN e e' k1 k2 hx0 ha0 ha1 hb0 hb1x hV2
        have hzz : Hid (w.heap.size ≤ wz.heap.size) := hbz.out.size
        have HZ := Lib.hid hwz
        clear hwz
        go_wp2_with (fail)
        refine (exOne_any _ _).mono ?_
        rintro e w' ⟨rfl, rfl⟩
        go_wp2_with (fail)
        rw [← HZ.out]
        clear HZ
        go_region_law (first | (go_simp; go_at_call 133; refine (exApply_any s xq xq2 _ hxq0 hxq1 hxq2 hxq3 hop.out).mono ?_; rintro e w' ⟨rfl, rfl⟩) | (refine step_append_lies _ rfl _ _ 27 rfl w.heap.size 3 i0 (.int .i64 0) 1 8 Try.underlying27 hI.out hZ0.out hZ1.out hZ2.out rfl (by decide) _ _ _ (by rfl) ((hoz.out.alloc _).drew) ⟨wz.heap.size, 0, none⟩ 1 1 [.int .i64 (ap s xq xq2)] (by rfl) rfl (new1d rfl) (one1 _) (by omega) (by unfold maxLen; omega) (by omega) (by have := hzz.out; simp; omega) (wz.heap.size + 1) (by simp) ?_; intro gg cap w1 hown1 hgr1 _ _))
        all_goals
          have R := Lib.hid (hF.out _ _ ((hbz.out.alloc hzz.out _).drew) hx.out _ w1 (by simpa using hown1) hgr1 (by have := hzz.out; simp; omega))
          clear hown1 hgr1
          go_wp2
          go_roundw
          case rel => exact ⟨k + 1, by omega, by go_num, R.out.1, R.out.2⟩
          case measure => simp [intOf]; omega
    · obtain rfl : k = es.length := by omega
      go_wp2
      go_ret
      refine ⟨V, cv, ?_, hOW.out, hbel⟩
      rfl
end Go.Proofs.Ytmhdijklindipaa
