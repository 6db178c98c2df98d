/- Texts of this proof, one behind the other: GG, GH, GI, WB, GJ, GK. -/
import Derived.Test.YtdleiondfhmjdaaZ3
import Derived.Test.YtdleiondfhmjdaaZ6
import Derived.WalkKit
import Derived.WalkSpells
import Derived.WalkLawsBesides
import Derived.Lib.Hide
import Derived.Test.YtdleiondfhmjdaaD2
import Derived.Test.YtdleiondfhmjdaaLI
import Derived.Test.YtdleiondfhmjdaaZ11
/- tilesOfCover of the program, at all arguments. -/
namespace Go.Proofs.Ytdleiondfhmjdaa
open Go.RowKit
set_option linter.unusedVariables false

set_option maxHeartbeats 4000000 in
theorem tilesOfCover_not (L B : Nat) (A A' : Option Addr) (c c' n : Nat) (es : List Nd) (w : World) (hl : es.length ≤ 1048576) (hn : n ≤ 1048576) (h : ¬ (treeR es = true ∧ n = es.length)) (hes : NS w L B A es) (hB : B ≤ w.heap.size) :
    Calls Try.prog 85 #[.slice A es.length c, .slice A' n c'] w (CoverGot w none) := by
  have HT := Lib.hid fun (W : World) (hW : Below w.heap.size w W) => iIsTree_any L B A c es W hl (hes.below hW hB) (Nat.le_trans hB hW.size)
  go_enter Try.func85, Try.ntmps85
  go_wp2_with (fail)
  obtain ⟨W4, hW4⟩ : ∃ W4, W4 = ((((w.alloc (.cells #[.slice A es.length c] 42)).alloc (.cells #[.slice A' n c'] 23)).alloc (.cells #[.slice none 0 0] 101)).alloc (.cells #[.bool false] 4)) := ⟨_, rfl⟩
  have z1 := World.size_alloc w (.cells #[.slice A es.length c] 42)
  have z2 := World.size_alloc (w.alloc (.cells #[.slice A es.length c] 42)) (.cells #[.slice A' n c'] 23)
  have z3 := World.size_alloc ((w.alloc (.cells #[.slice A es.length c] 42)).alloc (.cells #[.slice A' n c'] 23)) (.cells #[.slice none 0 0] 101)
  have z4 : W4.heap.size = w.heap.size + 1 + 1 + 1 + 1 := by rw [hW4, World.size_alloc, z3, z2, z1]
  have B4 : Below w.heap.size w W4 := by rw [hW4]; exact ((((Below.refl _ w).alloc (Nat.le_refl _) _).alloc (by omega) _).alloc (by omega) _).alloc (by omega) _
  have k2 : BX W4 w.heap.size 42 (.slice A es.length c) := by rw [hW4]; exact (((BX.new w _ _).al _).al _).al _
  have k3 : BX W4 (w.heap.size + 1) 23 (.slice A' n c') := by
    rw [hW4]; have h := ((BX.new (w.alloc (.cells #[.slice A es.length c] 42)) 23 (.slice A' n c')).al (.cells #[.slice none 0 0] 101)).al (.cells #[.bool false] 4)
    rw [z1] at h; exact h
  have k4 : BX W4 (w.heap.size + 1 + 1) 101 (.slice none 0 0) := by
    rw [hW4]; have h := (BX.new ((w.alloc (.cells #[.slice A es.length c] 42)).alloc (.cells #[.slice A' n c'] 23)) 101 (.slice none 0 0)).al (.cells #[.bool false] 4)
    rw [z2, z1] at h; exact h
  have k5 : BX W4 (w.heap.size + 1 + 1 + 1) 4 (.bool false) := by
    rw [hW4]; have h := BX.new (((w.alloc (.cells #[.slice A es.length c] 42)).alloc (.cells #[.slice A' n c'] 23)).alloc (.cells #[.slice none 0 0] 101)) 4 (.bool false)
    rw [z3, z2, z1] at h; exact h
  rw [← hW4]
  clear hW4 z1 z2 z3
  refine (HT.out _ B4).mono ?_
  rintro e W5 ⟨rfl, hb⟩
  have B5 := Lib.hid (B4.trans (hb.mono B4.size))
  have P4 := Lib.hid (k4.next hb)
  have P5 := Lib.hid (k5.next hb)
  have m2 := (k2.next hb).cell
  have m3 := (k3.next hb).cell
  have m4 := P4.out.cell
  have m5 := P5.out.cell
  have f4 := P4.out.fz
  have f5 := P5.out.fz
  clear B4 k2 k3 k4 k5 hb HT
  by_cases ht : treeR es = true
  · have hne : ¬ n = es.length := fun e => h ⟨ht, e⟩
    have hne2 : ((n : Int) != (es.length : Int)) = true := by simp; omega
    rw [ht]
    go_wp2
    all_goals
      have c4 := ((P4.out.set (.slice none 0 0)).other (q := w.heap.size + 1 + 1 + 1) 0 (.bool false) (by omega)).cell
      have c5 := ((P5.out.other (q := w.heap.size + 1 + 1) 0 (.slice none 0 0) (by omega)).set (.bool false)).cell
      refine ⟨rfl, _, (by simp [results, Try.f85, go_sem, c4, c5]; rfl), ?_⟩
      refine ⟨none, 0, [], rfl, fun h => absurd h (by simp), ⟨rfl, fun k h1 _ => absurd h1 (Nat.not_lt_zero _)⟩, ?_⟩
      exact (B5.out.setCell (p := ⟨w.heap.size + 1 + 1, 0, none⟩) (show w.heap.size ≤ w.heap.size + 1 + 1 by omega) _).setCell (p := ⟨w.heap.size + 1 + 1 + 1, 0, none⟩) (show w.heap.size ≤ w.heap.size + 1 + 1 + 1 by omega) _
  · have ht' : treeR es = false := by simpa using ht
    rw [ht']
    go_wp2
    all_goals
      have c4 := ((P4.out.set (.slice none 0 0)).other (q := w.heap.size + 1 + 1 + 1) 0 (.bool false) (by omega)).cell
      have c5 := ((P5.out.other (q := w.heap.size + 1 + 1) 0 (.slice none 0 0) (by omega)).set (.bool false)).cell
      refine ⟨rfl, _, (by simp [results, Try.f85, go_sem, c4, c5]; rfl), ?_⟩
      refine ⟨none, 0, [], rfl, fun h => absurd h (by simp), ⟨rfl, fun k h1 _ => absurd h1 (Nat.not_lt_zero _)⟩, ?_⟩
      exact (B5.out.setCell (p := ⟨w.heap.size + 1 + 1, 0, none⟩) (show w.heap.size ≤ w.heap.size + 1 + 1 by omega) _).setCell (p := ⟨w.heap.size + 1 + 1 + 1, 0, none⟩) (show w.heap.size ≤ w.heap.size + 1 + 1 + 1 by omega) _

/-- tilesOfCover at all arguments. -/
theorem tilesOfCover_any (L B L' B' : Nat) (A A' : Option Addr) (c c' : Nat) (es : List Nd) (nums : List Int) (w : World) (hl : es.length ≤ 1048576) (hn : nums.length ≤ 1048576) (hes : NS w L B A es) (hB : B ≤ w.heap.size) (hns : IS w L' B' A' nums) (hB' : B' ≤ w.heap.size) :
    Calls Try.prog 85 #[.slice A es.length c, .slice A' nums.length c'] w (CoverGot w (tocR es nums)) := by
  by_cases h : treeR es = true ∧ nums.length = es.length
  · have := tilesOfCover_go L B L' B' A A' c c' es nums w h.1 h.2 hes hB hns hB'
    rw [h.2]; exact this
  · have e : tocR es nums = none := by unfold tocR; rw [if_neg h]
    rw [e]
    exact tilesOfCover_not L B A A' c c' nums.length es w hl hn h hes hB
end Go.Proofs.Ytdleiondfhmjdaa

/- A cover's tiles, told in order: plain. -/
namespace Go.Proofs.Ytdleiondfhmjdaa
open Go.RowKit
set_option linter.unusedVariables false

def sumK (ts : List Ti) : Int := (ts.map Ti.c).sum
theorem sumK_snoc (ts : List Ti) (x : Ti) : sumK (ts ++ [x]) = sumK ts + x.c := by simp [sumK]
def usesL (ts : List Ti) : List Int := (List.range 13 : List Nat).map (fun (t : Nat) => ((ts.countP (fun x => x.num == (t : Int)) : Nat) : Int))
theorem usesL_len (ts : List Ti) : (usesL ts).length = 13 := by simp [usesL]
theorem usesL_get (ts : List Ti) {t : Nat} (h : t < 13) : (usesL ts).getD t 0 = ((ts.countP (fun x => x.num == (t : Int)) : Nat) : Int) := by
  rw [List.getD_eq_getElem?_getD, List.getElem?_eq_getElem (by simp [usesL]; exact h)]; simp [usesL]
theorem usesL_bd (ts : List Ti) (t : Nat) : 0 ≤ (usesL ts).getD t 0 ∧ (usesL ts).getD t 0 ≤ ts.length := by
  by_cases h : t < 13
  · rw [usesL_get ts h]; have := List.countP_le_length (p := fun x : Ti => x.num == (t : Int)) (l := ts); omega
  · rw [List.getD_eq_getElem?_getD, List.getElem?_eq_none (by simp [usesL]; omega)]; simp
theorem usesL_nil : usesL [] = List.replicate 13 0 := by decide
theorem usesL_snoc (ts : List Ti) (x : Ti) {t : Nat} (ht : x.num = (t : Int)) (h : t < 13) : usesL (ts ++ [x]) = (usesL ts).set t ((usesL ts).getD t 0 + 1) := by
  refine List.ext_getElem (by simp [usesL]) fun i h1 h2 => ?_
  have hi : i < 13 := by simpa [usesL] using h1
  rw [List.getElem_set]
  have e : ∀ l : List Ti, ∀ hh, (usesL l)[i]'hh = ((l.countP (fun x => x.num == (i : Int)) : Nat) : Int) := by intro l hh; simp [usesL]
  rw [e, e, usesL_get _ h, List.countP_append]
  by_cases hti : t = i
  · subst hti; rw [if_pos rfl]; simp [ht]
  · rw [if_neg hti]
    have : ¬ x.num = (i : Int) := by omega
    simp [this]
theorem usesL_reverse (ts : List Ti) : usesL ts.reverse = usesL ts := by simp [usesL]
theorem sumK_reverse (ts : List Ti) : sumK ts.reverse = sumK ts := by
  induction ts with
  | nil => rfl
  | cons x ts ih => rw [List.reverse_cons, sumK_snoc, ih]; simp [sumK]; omega
def TiB (x : Ti) : Prop := 0 ≤ x.c ∧ x.c ≤ 4 ∧ 0 ≤ x.num ∧ x.num ≤ 12
theorem sumK_bd {ts : List Ti} (h : ∀ x ∈ ts, TiB x) : 0 ≤ sumK ts ∧ sumK ts ≤ 4 * ts.length := by
  induction ts with
  | nil => simp [sumK]
  | cons x ts ih =>
    have h1 := h x (by simp)
    have h2 := ih fun y hy => h y (by simp [hy])
    unfold TiB at h1
    simp only [sumK, List.map_cons, List.sum_cons, List.length_cons] at h2 ⊢
    omega
theorem ctN_bd (n : Nat) (nd : Nd) : 0 ≤ ctN n nd ∧ ctN n nd ≤ 4 := by
  have := cst_bd nd.op
  unfold ctN; split; · omega
  split <;> omega
theorem tOf_mt {es : List Nd} {k : Nat} {t : Int} {x : Ti} (h : tOf es (k : Int) t = some x) : ∃ n : Nat, ∃ hk : k < es.length, t = (n : Int) ∧ n < 13 ∧ mt es es[k] n = some x := by
  have hk : tokR es (k : Int) t = true := by unfold tokR; rw [h]; rfl
  obtain ⟨j, n, hj, e1, e2, hn, hok, hl, hm⟩ := tok_parts hk
  have : k = j := by omega
  subst this
  rw [h] at hm
  exact ⟨n, hj, e2, hn, hm.symm⟩
theorem tOf_num {es : List Nd} {k : Nat} {t : Int} {x : Ti} (h : tOf es (k : Int) t = some x) : x.num = t := by
  obtain ⟨n, hk, rfl, hn, hm⟩ := tOf_mt h
  exact mt_num hm
theorem tOf_bd {es : List Nd} {k : Nat} {t : Int} {x : Ti} (h : tOf es (k : Int) t = some x) : TiB x := by
  obtain ⟨n, hk, rfl, hn, hm⟩ := tOf_mt h
  have := ctN_bd n es[k]
  exact ⟨by rw [mt_c hm]; omega, by rw [mt_c hm]; omega, by rw [mt_num hm]; omega, by rw [mt_num hm]; omega⟩
theorem cvSt_bd {es : List Nd} {nums : List Int} : ∀ {j : Nat} {cs : List Int} {out : List Ti}, cvSt es nums j = some (cs, out) → ∀ x ∈ out, TiB x
  | 0, cs, out, h => by simp only [cvSt, Option.some.injEq, Prod.mk.injEq] at h; obtain ⟨rfl, rfl⟩ := h; intro x hx; simp at hx
  | j + 1, cs, out, h => by
    simp only [cvSt] at h
    rw [Option.bind_eq_some_iff] at h
    obtain ⟨⟨cs0, out0⟩, h0, h1⟩ := h
    have ih := cvSt_bd h0
    unfold cvNext at h1
    split at h1
    · rw [Option.map_eq_some_iff] at h1
      obtain ⟨x, hx0, hx⟩ := h1
      injection hx with e1 e2
      subst e1; subst e2
      intro y hy
      rcases List.mem_append.1 hy with hy | hy
      · exact ih y hy
      · simp at hy; subst hy; exact tOf_bd hx0
    · injection h1 with h1; injection h1 with e1 e2
      subst e1; subst e2
      exact ih
theorem tocR_bd (es : List Nd) (nums : List Int) : ∀ x ∈ (tocR es nums).getD [], TiB x := by
  unfold tocR
  split
  · cases hc : cvSt es nums es.length with
    | none => intro x hx; simp at hx
    | some s =>
      obtain ⟨cs, o⟩ := s
      simp only
      split
      · exact cvSt_bd hc
      · intro x hx; simp at hx
  · intro x hx; simp at hx
theorem tocR_len' (es : List Nd) (nums : List Int) : ((tocR es nums).getD []).length ≤ 24 := by
  cases h : tocR es nums with
  | none => simp
  | some out => exact tocR_len h
theorem sumK_take {ts : List Ti} (hb : ∀ x ∈ ts, TiB x) (hl : ts.length ≤ 24) {k : Nat} (hk : k < ts.length) : sumK (ts.take (k + 1)) = sumK (ts.take k) + ts[k].c ∧ 0 ≤ sumK (ts.take k) ∧ sumK (ts.take k) ≤ 96 ∧ TiB ts[k] := by
  have h1 := sumK_bd (ts := ts.take k) fun x hx => hb x (List.mem_of_mem_take hx)
  rw [List.length_take] at h1
  refine ⟨?_, h1.1, by omega, hb _ (List.getElem_mem _)⟩
  rw [List.take_succ_eq_append_getElem hk, sumK_snoc]
theorem usesL_take {ts : List Ti} (hb : ∀ x ∈ ts, TiB x) {k : Nat} (hk : k < ts.length) : usesL (ts.take (k + 1)) = (usesL (ts.take k)).set ts[k].num.toNat ((usesL (ts.take k)).getD ts[k].num.toNat 0 + 1) := by
  have h := hb _ (List.getElem_mem hk)
  unfold TiB at h
  rw [List.take_succ_eq_append_getElem hk]
  exact usesL_snoc _ _ (by omega) (by omega)
def ccostR (es : List Nd) (nums : List Int) : Int := sumK ((tocR es nums).getD [])
def tuseR (es : List Nd) (nums : List Int) : List Int := if (tocR es nums).isSome = true then usesL ((tocR es nums).getD []) else []
end Go.Proofs.Ytdleiondfhmjdaa

/- IsCover, CoverCost, TileUses of the program. -/
namespace Go.Proofs.Ytdleiondfhmjdaa
open Go.RowKit
set_option linter.unusedVariables false
set_option maxRecDepth 100000

set_option maxHeartbeats 4000000 in
theorem iIsCover_any (L B L' B' : Nat) (A A' : Option Addr) (c c' : Nat) (es : List Nd) (nums : List Int) (w : World) (hl : es.length ≤ 1048576) (hn : nums.length ≤ 1048576) (hes : NS w L B A es) (hB : B ≤ w.heap.size) (hns : IS w L' B' A' nums) (hB' : B' ≤ w.heap.size) :
    Calls Try.prog 42 #[.slice A es.length c, .slice A' nums.length c'] w fun e w' => e = .returned (.tuple #[.bool (tocR es nums).isSome, .bool (treeR es)]) ∧ Below w.heap.size w w' := by
  have H := Lib.hid (iIsTree_any L B A c es w hl hes hB)
  have H2 := Lib.hid fun (W : World) (hW : Below w.heap.size w W) => tilesOfCover_any L B L' B' A A' c c' es nums W hl hn (hes.below hW hB) (Nat.le_trans hB hW.size) (hns.below hW hB') (Nat.le_trans hB' hW.size)
  clear hes hB hns hB'
  cases ht : treeR es
  · have hR : Hid (tocR es nums = none) := by unfold Hid tocR; rw [if_neg (by rw [ht]; simp)]
    rw [ht] at H
    clear ht H2
    go_enter Try.func42, Try.ntmps42
    go_wp2_with (go_at_call 81; refine H.out.mono ?_; rintro e w1 ⟨rfl, hb1⟩; have hbh := Lib.hid hb1; clear hb1)
    go_ret2
    exact ⟨by rw [hR.out]; rfl, hbh.out⟩
  rw [ht] at H
  clear ht
  generalize tocR es nums = o at *
  go_enter Try.func42, Try.ntmps42
  go_wp2_with (first | (go_at_call 81; refine H.out.mono ?_; rintro e w1 ⟨rfl, hb1⟩; have hbh := Lib.hid hb1; clear hb1) | (go_at_call 85; refine (H2.out _ hbh.out).mono ?_; rintro e w2 ⟨PA, pc, rs, rfl, _, _, hb2⟩; have hbi := Lib.hid (hbh.out.trans (hb2.mono hbh.out.size)); clear hb2))
  go_ret2
  exact ⟨rfl, hbi.out⟩

set_option maxHeartbeats 4000000 in
theorem iCoverCost_any (L B L' B' : Nat) (A A' : Option Addr) (c c' : Nat) (es : List Nd) (nums : List Int) (w : World) (hl : es.length ≤ 1048576) (hn : nums.length ≤ 1048576) (hes : NS w L B A es) (hB : B ≤ w.heap.size) (hns : IS w L' B' A' nums) (hB' : B' ≤ w.heap.size) :
    Calls Try.prog 44 #[.slice A es.length c, .slice A' nums.length c'] w (IntRes w (ccostR es nums) (tocR es nums).isSome) := by
  have H2 := Lib.hid (tilesOfCover_any L B L' B' A A' c c' es nums w hl hn hes hB hns hB')
  clear hes hB hns hB'
  have hbd := Lib.hid (tocR_bd es nums)
  have hlen := Lib.hid (tocR_len' es nums)
  have hR : Hid (ccostR es nums = sumK ((tocR es nums).getD [])) := rfl
  generalize ccostR es nums = R at *
  generalize (tocR es nums) = o at *
  go_enter Try.func44, Try.ntmps44
  go_wp2_with (fail)
  refine H2.out.mono ?_
  rintro e w1 ⟨TA, tc, rs, rfl, hrs, hall, hb1⟩
  have hRS := Lib.hid hrs
  have hAL := Lib.hid hall
  have hBL := Lib.hid hb1
  clear hrs hall hb1 H2
  generalize o.isSome = ok at *
  generalize o.getD [] = ts at *
  go_wp2_with (fail)
  go_loopw [8, 19] (fun q i wr => ∃ k : Nat, k ≤ ts.length ∧ i = .int .i64 k ∧ q = .int .i64 (sumK (ts.take k)) ∧ Below w1.heap.size w1 wr) (fun _ i _ => ts.length - (intOf i).toNat)
  case atStart => exact ⟨0, Nat.zero_le _, rfl, rfl, Below.refl _ _⟩
  case round =>
    obtain ⟨k, hk, rfl, rfl, hbel⟩ := hrel
    have hBJ := Lib.hid hbel
    by_cases hlt : k < ts.length
    · have hki : (k : Int) < (ts.length : Int) := by omega
      have hlth := Lib.hid hlt
      have h24 := hlen.out
      have hkr : k < rs.length := by rw [hAL.out.1]; exact hlt
      have hok4 := (hAL.out.2 k hkr hlt).below hbel (Nat.le_refl _)
      obtain ⟨tb, to', rfl, ⟨_, htb⟩, hcc⟩ := (hRS.out.below hbel (Nat.le_refl _)) (by omega)
      have x1 := hcc k hkr 0 _ rfl
      have x2 := hcc k hkr 1 _ rfl
      have x3 := hcc k hkr 2 _ rfl
      have x4 := hcc k hkr 3 _ rfl
      simp only [Nat.add_zero] at x1
      have hS := sumK_take hbd.out hlen.out hlt
      generalize rs[k] = r at *
      obtain ⟨PA, pc, QA, qc, rfl, _, _⟩ := hok4.form
      dsimp only at x1 x2 x3 x4
      clear hcc hok4 hbel
      generalize ts[k] = x at *
      obtain ⟨xn, ps, ins, xc⟩ := x
      dsimp only at x1 x2 x3 x4 hS
      unfold TiB at hS
      dsimp only at hS
      have hS2 := Lib.hid hS.1
      have hw : IntKind.i64.wrap (sumK (ts.take k) + xc) = sumK (ts.take k) + xc := by rw [IntKind.wrap_i64]; omega
      generalize sumK (ts.take k) = s at *
      clear hS
      have hbx := Lib.hid (hBJ.out.alloc hBJ.out.size (.cells #[.int .i64 xn, .slice PA ps.length pc, .slice QA ins.length qc, .int .i64 xc] 91))
      go_wp2
      go_roundw
      case rel => exact ⟨k + 1, hlth.out, by go_num, by rw [hS2.out], hbx.out⟩
      case measure => have := hlth.out; simp [intOf]; omega
    · obtain rfl : k = ts.length := by omega
      have hB3 := Lib.hid (hBL.out.trans (hbel.mono hBL.out.size))
      rw [List.take_length] at *
      go_wp2
      go_ret2
      exact ⟨by rw [hR.out]; rfl, hB3.out⟩

theorem len13 : usesL [] = zeros 13 := usesL_nil
set_option maxHeartbeats 4000000 in
theorem iTileUses_any (L B L' B' : Nat) (A A' : Option Addr) (c c' : Nat) (es : List Nd) (nums : List Int) (w : World) (hl : es.length ≤ 1048576) (hn : nums.length ≤ 1048576) (hes : NS w L B A es) (hB : B ≤ w.heap.size) (hns : IS w L' B' A' nums) (hB' : B' ≤ w.heap.size) :
    Calls Try.prog 50 #[.slice A es.length c, .slice A' nums.length c'] w (IntsRes w (tuseR es nums) (tocR es nums).isSome) := by
  have H2 := Lib.hid (tilesOfCover_any L B L' B' A A' c c' es nums w hl hn hes hB hns hB')
  clear hes hB hns hB'
  have hbd := Lib.hid (tocR_bd es nums)
  have hlen := Lib.hid (tocR_len' es nums)
  have hR : Hid (tuseR es nums = if (tocR es nums).isSome = true then usesL ((tocR es nums).getD []) else []) := rfl
  generalize tuseR es nums = R at *
  generalize (tocR es nums) = o at *
  cases hk : o.isSome
  · rw [hk, if_neg (by decide)] at hR
    go_enter Try.func50, Try.ntmps50
    go_wp2_with (go_at_call 85; refine H2.out.mono ?_; rintro e w1 ⟨TA, tc, rs, rfl, _, _, hb1⟩; have hBL := Lib.hid hb1; clear hb1; rw [hk])
    go_ret2
    rw [hR.out]
    exact ⟨none, 0, rfl, OW.nil _ _ _, hBL.out⟩
  rw [hk, if_pos rfl] at hR
  have hmk := run_make_ints 13 (by omega)
  rw [show ((13 : Nat) : Int) = 13 from rfl] at hmk
  go_enter Try.func50, Try.ntmps50
  go_wp2_with (fail)
  refine H2.out.mono ?_
  rintro e w1 ⟨TA, tc, rs, rfl, hrs, hall, hb1⟩
  have hRS := Lib.hid hrs
  have hAL := Lib.hid hall
  have hBL := Lib.hid hb1
  rw [hk]
  clear hrs hall hb1 H2 hk
  generalize o.getD [] = ts at *
  have hb2 := Lib.hid ((Below.refl w1.heap.size w1).alloc (Nat.le_refl _) (.cells (intCells (zeros 13)) 3))
  have hT0 : Hid (IB (w1.alloc (.cells (intCells (zeros 13)) 3)) w1.heap.size 3 (usesL (ts.take 0))) := by rw [List.take_zero, len13]; exact heap_alloc_new w1 _
  go_wp2_with (fail)
  obtain ⟨g, hg0⟩ : ∃ g, g = w1.heap.size := ⟨_, rfl⟩
  rw [← hg0] at hT0 ⊢
  have hgw := Lib.hid (show w.heap.size ≤ g by have := hBL.out.size; omega)
  have hgz := Lib.hid hg0
  clear hg0
  generalize w1.alloc (.cells (intCells (zeros 13)) 3) = W1 at *
  go_loopw [22] (fun i wr => ∃ k : Nat, k ≤ ts.length ∧ i = .int .i64 k ∧ IB wr g 3 (usesL (ts.take k)) ∧ Below w1.heap.size w1 wr) (fun i _ => ts.length - (intOf i).toNat)
  case atStart => exact ⟨0, Nat.zero_le _, rfl, hT0.out, hb2.out⟩
  case round =>
    obtain ⟨k, hk, rfl, hib, hbel⟩ := hrel
    have hIB := Lib.hid hib
    have hBJ := Lib.hid hbel
    have hgl := hib.lt
    by_cases hlt : k < ts.length
    · have hki : (k : Int) < (ts.length : Int) := by omega
      have h24 := hlen.out
      have hkr : k < rs.length := by rw [hAL.out.1]; exact hlt
      have hok4 := (hAL.out.2 k hkr hlt).below hbel (Nat.le_refl _)
      obtain ⟨tb, to', rfl, ⟨_, htb⟩, hcc⟩ := (hRS.out.below hbel (Nat.le_refl _)) (by omega)
      have x1 := hcc k hkr 0 _ rfl
      have x2 := hcc k hkr 1 _ rfl
      have x3 := hcc k hkr 2 _ rfl
      have x4 := hcc k hkr 3 _ rfl
      simp only [Nat.add_zero] at x1
      have hS := usesL_take hbd.out hlt
      have hT := hbd.out _ (List.getElem_mem hlt)
      have hU := usesL_bd (ts.take k)
      have hL := usesL_len (ts.take k)
      rw [List.length_take] at hU
      generalize rs[k] = r at *
      obtain ⟨PA, pc, QA, qc, rfl, _, _⟩ := hok4.form
      dsimp only at x1 x2 x3 x4
      clear hcc hok4 hbel hib
      generalize ts[k] = x at *
      obtain ⟨xn, ps, ins, xc⟩ := x
      dsimp only at x1 x2 x3 x4 hS hT
      unfold TiB at hT
      dsimp only at hT
      obtain ⟨m, rfl⟩ := Int.eq_ofNat_of_zero_le hT.2.2.1
      rw [Int.toNat_natCast] at hS
      have hS2 := Lib.hid hS
      have hU2 := hU m
      clear hS hU
      have hm13 : (m : Int) < 13 := by omega
      have hm0 : (0 : Int) ≤ (m : Int) := by omega
      have hbx := (Below.refl wr.heap.size wr).alloc (Nat.le_refl _) (.cells #[.int .i64 (m : Int), .slice PA ps.length pc, .slice QA ins.length qc, .int .i64 xc] 91)
      have hIx := Lib.hid (hIB.out.below hbx hgl)
      have y := hIx.out.cell m (by omega)
      have hf := hIx.out.frozen m
      rw [show (usesL (ts.take k))[m]'(by omega) = (usesL (ts.take k)).getD m 0 from (getD_get (by omega)).symm] at y
      have hbx2 := Lib.hid (hBJ.out.trans (hbx.mono hBJ.out.size))
      have hIs := Lib.hid fun v => hIx.out.set m v
      have hlth := Lib.hid hlt
      have hTX := TX.new (w := wr) (g := wr.heap.size) (⟨(m : Int), .slice PA ps.length pc, .slice QA ins.length qc, xc⟩ : Rt) rfl
      dsimp only at hTX
      have q0 := Lib.hid (TX.cells hTX).1
      dsimp only at q0
      clear hbx hIx hTX
      generalize hWx : wr.alloc (.cells #[.int .i64 (m : Int), .slice PA ps.length pc, .slice QA ins.length qc, .int .i64 xc] 91) = Wx at *
      have hWh := Lib.hid hWx
      clear hWx
      generalize (usesL (ts.take k)).getD m 0 = u at *
      have hw : IntKind.i64.wrap (u + 1) = u + 1 := by rw [IntKind.wrap_i64]; omega
      have hx0 : Hid (Wx.cell? ⟨g, m, none⟩ = some (.int .i64 u)) := y
      have hf0 := Lib.hid hf
      clear y hf
      go_wp2_with (first | fail | (rw [hWh.out]; have y := hx0.out; have yf := hf0.out; have q := q0.out; clear x1 x2 x3 x4))
      have := hlth.out
      have hs := hIs.out (u + 1)
      rw [← hS2.out] at hs
      exact ⟨⟨k + 1, hlth.out, by go_num, hs, hbx2.out.setCell (p := ⟨g, m, none⟩) (by show w1.heap.size ≤ g; have := hgz.out; omega) _⟩, by simp [intOf]; omega⟩
    · obtain rfl : k = ts.length := by omega
      have hB3 := Lib.hid (hBL.out.trans (hbel.mono hBL.out.size))
      rw [List.take_length] at hib
      have hO := Lib.hid (OW.ofIB (lo := w.heap.size) (hi := wr.heap.size) hib (by rw [usesL_len]; omega) hgw.out hib.lt)
      rw [usesL_len] at hO
      clear hib
      go_wp2
      go_ret2
      refine ⟨_, _, ?_, by rw [hR.out, usesL_len]; exact hO.out, hB3.out⟩
      rw [hR.out, usesL_len]; rfl
end Go.Proofs.Ytdleiondfhmjdaa

/- Blocks of bools, boxes of a node; a node moved. -/
namespace Go.Proofs.Ytdleiondfhmjdaa
open Go.RowKit
set_option linter.unusedVariables false
set_option maxRecDepth 100000

def boolCells (bs : List Bool) : Array Value := (bs.map Value.bool).toArray
/-- A block of bools known whole. -/
def BB (w : World) (g : Nat) (bs : List Bool) : Prop := w.heap[g]? = some (.cells (boolCells bs) 4 (0, 0))
theorem BB.lt {w : World} {g : Nat} {bs : List Bool} (h : BB w g bs) : g < w.heap.size := by
  rcases Nat.lt_or_ge g w.heap.size with hlt | hge
  · exact hlt
  · unfold BB at h; rw [Array.getElem?_eq_none hge] at h; cases h
theorem BB.cell {w : World} {g : Nat} {bs : List Bool} (h : BB w g bs) (i : Nat) (hi : i < bs.length) : w.cell? ⟨g, i, none⟩ = some (.bool (bs.getD i false)) := by
  rw [cell_of_row w g i _ 4 (0, 0) h, List.getD_eq_getElem?_getD, List.getElem?_eq_getElem hi]; simp [boolCells, hi]
theorem BB.frozen {w : World} {g : Nat} {bs : List Bool} (h : BB w g bs) (i : Nat) : w.frozen? ⟨g, i, none⟩ = false := by
  unfold BB at h; simp [World.frozen?, h]
theorem BB.set {w : World} {g : Nat} {bs : List Bool} (h : BB w g bs) (i : Nat) (x : Bool) : BB (w.setCell ⟨g, i, none⟩ (.bool x)) g (bs.set i x) := by
  unfold BB at h ⊢
  simp [World.setCell, Array.getElem?_modify, h, boolCells, List.map_set]
theorem BB.next {w w' : World} {g : Nat} {bs : List Bool} (h : BB w g bs) (hb : Below w.heap.size w w') : BB w' g bs := (hb.block g h.lt).trans h
theorem BB.other {w : World} {g q : Nat} {bs : List Bool} (h : BB w g bs) (j : Nat) (x : Value) (hne : q ≠ g) : BB (w.setCell ⟨q, j, none⟩ x) g bs :=
  (Below.heap_setCell w ⟨q, j, none⟩ x g (by simpa using fun e => hne e.symm)).trans h
theorem Try.infoBool : (Try.prog.info? 4).map (fun i => (i.zero, i.size, i.bytes)) = some (some (.bool false), 1, 1) := by kernel_rfl
theorem run_make_bools (n : Nat) (hn : n ≤ 1048576) (W : World) : (Instr.makeSlice 137 (.int .i64 (n : Int)) (.int .i64 (n : Int))).run Try.prog W = .ok (.slice (some ⟨W.heap.size, 0, none⟩) n n) (W.alloc (.cells (boolCells (List.replicate n false)) 4)) := by
  obtain ⟨i0, hi, hz0, hz1, hz2⟩ := info_parts Try.infoBool
  have h := run_make (P := Try.prog) W 137 4 i0 _ Try.underlying137 hi hz0 .i64 .i64 n n (by omega) (by omega) (by rw [hz2]; omega) (by omega)
  rw [h]
  simp only [Int.toNat_natCast, hz1, Nat.mul_one]
  refine congrArg (fun c => Result.ok (Value.slice (some ⟨W.heap.size, 0, none⟩) n n) (W.alloc (.cells c 4))) ?_
  apply Array.ext'
  rw [boolCells, List.map_replicate]
  exact toList_madeCells_one _ _

/-- One node in a box. -/
def XN (w : World) (g : Nat) (n : Nd) : Prop := w.heap[g]? = some (.cells #[.string n.op, .int .i64 n.a, .int .i64 n.b, .int .i64 n.v] 88 (0, 0))
theorem XN.lt {w : World} {g : Nat} {n : Nd} (h : XN w g n) : g < w.heap.size := by
  rcases Nat.lt_or_ge g w.heap.size with hlt | hge
  · exact hlt
  · unfold XN at h; rw [Array.getElem?_eq_none hge] at h; cases h
theorem XN.next {w w' : World} {g : Nat} {n : Nd} (h : XN w g n) (hb : Below w.heap.size w w') : XN w' g n := (hb.block g h.lt).trans h
theorem XN.cells {w : World} {g : Nat} {n : Nd} (h : XN w g n) : w.cell? ⟨g, 0, none⟩ = some (.string n.op) ∧ w.cell? ⟨g, 1, none⟩ = some (.int .i64 n.a) ∧ w.cell? ⟨g, 2, none⟩ = some (.int .i64 n.b) ∧ w.cell? ⟨g, 3, none⟩ = some (.int .i64 n.v) := by
  have c := fun i => cell_of_row w g i _ 88 (0, 0) h
  exact ⟨c 0, c 1, c 2, c 3⟩
theorem XN.fz {w : World} {g : Nat} {n : Nd} (h : XN w g n) (i : Nat) : w.frozen? ⟨g, i, none⟩ = false := by
  unfold XN at h; simp [World.frozen?, h]
theorem XN.setA {w : World} {g : Nat} {n : Nd} (h : XN w g n) (x : Int) : XN (w.setCell ⟨g, 1, none⟩ (.int .i64 x)) g ⟨n.op, x, n.b, n.v⟩ := by
  unfold XN at h ⊢
  simp [World.setCell, Array.getElem?_modify, h]
theorem XN.setB {w : World} {g : Nat} {n : Nd} (h : XN w g n) (x : Int) : XN (w.setCell ⟨g, 2, none⟩ (.int .i64 x)) g ⟨n.op, n.a, x, n.v⟩ := by
  unfold XN at h ⊢
  simp [World.setCell, Array.getElem?_modify, h]
theorem XN.other {w : World} {g q : Nat} {n : Nd} (h : XN w g n) (j : Nat) (x : Value) (hne : q ≠ g) : XN (w.setCell ⟨q, j, none⟩ x) g n :=
  (Below.heap_setCell w ⟨q, j, none⟩ x g (by simpa using fun e => hne e.symm)).trans h
def put4 (w : World) (g : Nat) (n : Nd) : World := (((w.setCell ⟨g, 0, none⟩ (.string n.op)).setCell ⟨g, 1, none⟩ (.int .i64 n.a)).setCell ⟨g, 2, none⟩ (.int .i64 n.b)).setCell ⟨g, 3, none⟩ (.int .i64 n.v)
theorem XN.put4 {w : World} {g : Nat} {n : Nd} (h : XN w g n) (m : Nd) : XN (put4 w g m) g m := by
  unfold XN Go.Proofs.Ytdleiondfhmjdaa.put4 at *
  simp [World.setCell, Array.getElem?_modify, h]
theorem below_put4 {w w' : World} {B g : Nat} (h : Below B w w') (hg : B ≤ g) (n : Nd) : Below B w (put4 w' g n) :=
  (((h.setCell (p := ⟨g, 0, none⟩) hg _).setCell (p := ⟨g, 1, none⟩) hg _).setCell (p := ⟨g, 2, none⟩) hg _).setCell (p := ⟨g, 3, none⟩) hg _
theorem xn_new (w : World) (n : Nd) : XN (w.alloc (.cells #[.string n.op, .int .i64 n.a, .int .i64 n.b, .int .i64 n.v] 88)) w.heap.size n := heap_alloc_new w _
/-- A function whose result is a node in a cell. -/
theorem node_ret {fn : Func} {Q : Ending → World → Prop} {tmps : Array Value} {w : World} {g : Nat} {n : Nd} {s : Tmp} (hr : fn.results = #[.cell s 88]) (hs : tmps.getD s undef = .pointer (some ⟨g, 0, none⟩))
    (h : XN w g n) (hq : Q (.returned (.agg #[.string n.op, .int .i64 n.a, .int .i64 n.b, .int .i64 n.v])) w) : bodyPost Try.prog fn Q .ret ⟨tmps, []⟩ w := by
  obtain ⟨q0, q1, q2, q3⟩ := h.cells
  refine bodyPost_ret (v := .agg #[.string n.op, .int .i64 n.a, .int .i64 n.b, .int .i64 n.v]) ?_ rfl hq
  have hs' : tmps[s]?.getD undef = .pointer (some ⟨g, 0, none⟩) := by simpa using hs
  simp [results, hr, hs', go_sem, q0, q1, q2, q3]
end Go.Proofs.Ytdleiondfhmjdaa

/- The state of a cover laid, place by place: plain. -/
namespace Go.Proofs.Ytdleiondfhmjdaa
open Go.RowKit
set_option linter.unusedVariables false

theorem getDI_set {xs : List Int} (i j : Nat) (x : Int) (hi : i < xs.length) : (xs.set i x).getD j 0 = if i = j then x else xs.getD j 0 := by
  rw [List.getD_eq_getElem?_getD, List.getD_eq_getElem?_getD, List.getElem?_set]
  split
  · first | rfl | (rw [if_pos hi]; rfl)
  · rfl
theorem foldSet_get : ∀ (ps : List Int) (xs : List Int) (i : Nat), (∀ p ∈ ps, p.toNat < xs.length) → (ps.foldl (fun c p => c.set p.toNat (-2)) xs).getD i 0 = if (∃ p ∈ ps, p.toNat = i) then -2 else xs.getD i 0
  | [], xs, i, _ => by simp
  | p :: ps, xs, i, h => by
    rw [List.foldl_cons, foldSet_get ps (xs.set p.toNat (-2)) i (fun q hq => by rw [List.length_set]; exact h q (by simp [hq])), getDI_set _ _ _ (h p (by simp))]
    by_cases h1 : ∃ q ∈ ps, q.toNat = i
    · rw [if_pos h1, if_pos (by obtain ⟨q, hq, e⟩ := h1; exact ⟨q, by simp [hq], e⟩)]
    · rw [if_neg h1]
      by_cases h2 : p.toNat = i
      · rw [if_pos h2, if_pos ⟨p, by simp, h2⟩]
      · rw [if_neg h2, if_neg]
        rintro ⟨q, hq, e⟩
        rcases List.mem_cons.1 hq with rfl | hq
        · exact h2 e
        · exact h1 ⟨q, hq, e⟩
theorem layL_get {cs : List Int} {k : Nat} {x : Ti} (hk : k < cs.length) (hp : ∀ p ∈ x.ps, 0 ≤ p ∧ p < (k : Int)) (i : Nat) : (layL cs k x).getD i 0 = if (∃ p ∈ x.ps, p.toNat = i) then -2 else if k = i then x.num else cs.getD i 0 := by
  unfold layL layTo
  rw [List.take_length, foldSet_get _ _ _ (fun p h => by rw [List.length_set]; have := hp p h; omega), getDI_set _ _ _ hk]
theorem layL_ge {cs : List Int} {k : Nat} {x : Ti} (hk : k < cs.length) (hp : ∀ p ∈ x.ps, 0 ≤ p ∧ p < (k : Int)) {i : Nat} (h : k < i) : (layL cs k x).getD i 0 = cs.getD i 0 := by
  rw [layL_get hk hp, if_neg, if_neg (by omega)]
  rintro ⟨p, h1, e⟩
  have := hp p h1
  omega
theorem layL_at {cs : List Int} {k : Nat} {x : Ti} (hk : k < cs.length) (hp : ∀ p ∈ x.ps, 0 ≤ p ∧ p < (k : Int)) : (layL cs k x).getD k 0 = x.num := by
  rw [layL_get hk hp, if_neg, if_pos rfl]
  rintro ⟨p, h1, e⟩
  have := hp p h1
  omega
theorem layL_lt {cs : List Int} {k : Nat} {x : Ti} (hk : k < cs.length) (hp : ∀ p ∈ x.ps, 0 ≤ p ∧ p < (k : Int)) {i : Nat} (h : i < k) : (layL cs k x).getD i 0 = -2 ∨ (layL cs k x).getD i 0 = cs.getD i 0 := by
  rw [layL_get hk hp]
  split
  · exact .inl rfl
  · rw [if_neg (by omega)]; exact .inr rfl
/-- The tile of a place. -/
def tD (es : List Nd) (nums : List Int) (i : Nat) : Ti := (tOf es (i : Int) (nums.getD i 0)).getD noTi
structure CvInv (es : List Nd) (nums : List Int) (j : Nat) (cs : List Int) (out : List Ti) : Prop where
  lo : ∀ i, i < es.length - j → cs.getD i 0 = -1 ∨ cs.getD i 0 = -2
  hi : ∀ i, es.length - j ≤ i → i < es.length → cs.getD i 0 = -1 ∨ (cs.getD i 0 = nums.getD i 0 ∧ ∃ x, tOf es (i : Int) (nums.getD i 0) = some x)
  out : out.reverse = ((List.range' (es.length - j) j).filter (fun i => decide (0 ≤ cs.getD i 0))).map (tD es nums)
theorem cvSt_inv {es : List Nd} {nums : List Int} : ∀ {j : Nat} {cs : List Int} {out : List Ti}, j ≤ es.length → cvSt es nums j = some (cs, out) → CvInv es nums j cs out
  | 0, cs, out, hj, h => by
    simp only [cvSt, Option.some.injEq, Prod.mk.injEq] at h
    obtain ⟨rfl, rfl⟩ := h
    refine ⟨fun i hi => ?_, fun i h1 h2 => by omega, by simp⟩
    unfold opn
    rw [getDI_set _ _ _ (by simp; omega)]
    split
    · exact .inr rfl
    · left; rw [List.getD_eq_getElem?_getD, List.getElem?_replicate, if_pos (by omega)]; rfl
  | j + 1, cs, out, hj, h => by
    simp only [cvSt] at h
    rw [Option.bind_eq_some_iff] at h
    obtain ⟨⟨cs0, out0⟩, h0, h1⟩ := h
    have ih := cvSt_inv (by omega) h0
    have hl := (cvSt_len h0).1
    obtain ⟨k, hk⟩ : ∃ k, k = es.length - 1 - j := ⟨_, rfl⟩
    rw [← hk] at h1
    have hkn : k < cs0.length := by omega
    have e1 : es.length - (j + 1) = k := by omega
    have e2 : es.length - j = k + 1 := by omega
    have ih1 := ih.lo; have ih2 := ih.hi; have ih3 := ih.out
    rw [e2] at ih1 ih2 ih3
    unfold cvNext at h1
    split at h1
    · rename_i hc
      rw [Option.map_eq_some_iff] at h1
      obtain ⟨x, hx0, hx⟩ := h1
      injection hx with e3 e4
      subst e3; subst e4
      have hp := (tOf_ps hx0).1
      have hnum := tOf_num hx0
      have hb := tOf_bd hx0
      unfold TiB at hb
      have hD : tD es nums k = x := by unfold tD; rw [hx0]; rfl
      refine ⟨?_, ?_, ?_⟩
      · rw [e1]
        intro i hi
        rcases layL_lt hkn hp hi with e | e
        · exact .inr e
        · rw [e]; exact ih1 i (by omega)
      · rw [e1]
        intro i h1 h2
        rcases Nat.lt_or_ge k i with h | h
        · rw [layL_ge hkn hp h]; exact ih2 i (by omega) h2
        · obtain rfl : i = k := by omega
          rw [layL_at hkn hp]
          exact .inr ⟨hnum, x, hx0⟩
      · rw [e1, List.range'_succ, List.filter_cons, if_pos (by rw [layL_at hkn hp]; simp; omega), List.map_cons, hD, List.reverse_append, List.reverse_singleton, List.singleton_append, ih3]
        congr 2
        refine List.filter_congr fun i hi => ?_
        rw [layL_ge hkn hp (by have := (List.mem_range'_1.1 hi).1; omega)]
    · rename_i hc
      injection h1 with h1; injection h1 with e3 e4
      subst e3; subst e4
      have hm1 : cs0.getD k 0 = -1 := (ih1 k (by omega)).resolve_right hc
      refine ⟨?_, ?_, ?_⟩
      · rw [e1]; exact fun i hi => ih1 i (by omega)
      · rw [e1]
        intro i h1 h2
        rcases Nat.lt_or_ge k i with h | h
        · exact ih2 i (by omega) h2
        · obtain rfl : i = k := by omega
          exact .inl hm1
      · rw [e1, List.range'_succ, List.filter_cons, if_neg (by rw [hm1]; simp), ih3]
/-- The tiles of the places below k, in order. -/
def mst (es : List Nd) (nums : List Int) (k : Nat) : List Ti := ((List.range k).filter (fun i => decide (0 ≤ nums.getD i 0))).map (tD es nums)
theorem mst_zero (es : List Nd) (nums : List Int) : mst es nums 0 = [] := rfl
theorem mst_skip {es : List Nd} {nums : List Int} {k : Nat} (h : ¬ 0 ≤ nums.getD k 0) : mst es nums (k + 1) = mst es nums k := by
  unfold mst; rw [List.range_succ, List.filter_append, List.filter_cons, if_neg (by simpa using h)]; simp
theorem mst_take {es : List Nd} {nums : List Int} {k : Nat} (h : 0 ≤ nums.getD k 0) : mst es nums (k + 1) = mst es nums k ++ [tD es nums k] := by
  unfold mst; rw [List.range_succ, List.filter_append, List.filter_cons, if_pos (by simpa using h)]; simp
theorem mst_len (es : List Nd) (nums : List Int) (k : Nat) : (mst es nums k).length ≤ k := by
  unfold mst; rw [List.length_map]; exact Nat.le_trans (List.length_filter_le _ _) (by simp)
/-- The bits of the model. -/
def ndB (cs : List Int) : List Bool := cs.map (fun v => v != -1)
theorem ndB_len (cs : List Int) : (ndB cs).length = cs.length := by simp [ndB]
theorem ndB_get {cs : List Int} {i : Nat} (h : i < cs.length) : (ndB cs).getD i false = (cs.getD i 0 != -1) := by
  rw [List.getD_eq_getElem?_getD, List.getD_eq_getElem?_getD, List.getElem?_eq_getElem h, List.getElem?_eq_getElem (by rw [ndB_len]; exact h)]; simp [ndB]
theorem ndB_set (cs : List Int) (i : Nat) (x : Int) : ndB (cs.set i x) = (ndB cs).set i (x != -1) := by simp [ndB, List.map_set]
theorem ndB_opn {n : Nat} : ndB (opn n) = (List.replicate n false).set (n - 1) true := by
  unfold opn; rw [ndB_set]; simp [ndB]
theorem ndB_lay0 {cs : List Int} {k : Nat} {x : Int} (hk : k < cs.length) (h : cs.getD k 0 = -2) (hx : 0 ≤ x) : ndB (cs.set k x) = ndB cs := by
  rw [ndB_set, show (x != -1) = true by simp; omega]
  refine List.ext_getElem (by simp) fun i h1 h2 => ?_
  rw [List.getElem_set]
  split
  · rename_i e
    subst e
    have := ndB_get hk
    rw [h, List.getD_eq_getElem?_getD, List.getElem?_eq_getElem h2] at this
    exact this.symm
  · rfl
/-- A state is the numbers where the places left alone bear none. -/
theorem cv_eq {es : List Nd} {nums cs : List Int} {out : List Ti} (hn : nums.length = es.length) (h : cvSt es nums es.length = some (cs, out)) : cs = nums ↔ ∀ i, i < es.length → cs.getD i 0 = -1 → nums.getD i 0 = -1 := by
  have hI := (cvSt_inv (Nat.le_refl _) h).hi
  have hl := (cvSt_len h).1
  rw [Nat.sub_self] at hI
  constructor
  · rintro rfl i _ e; exact e
  · intro ha
    refine List.ext_getElem (by omega) fun i h1 h2 => ?_
    rw [← getD_get h1, ← getD_get h2]
    rcases hI i (Nat.zero_le _) (by omega) with e | e
    · rw [e, ha i (by omega) e]
    · exact e.1
theorem tocR_some {es : List Nd} {nums : List Int} {out : List Ti} (h : tocR es nums = some out) : treeR es = true ∧ nums.length = es.length ∧ cvSt es nums es.length = some (nums, out) := by
  unfold tocR at h
  split at h
  · rename_i ht
    cases hc : cvSt es nums es.length with
    | none => rw [hc] at h; cases h
    | some s =>
      obtain ⟨cs, o⟩ := s
      rw [hc] at h
      simp only at h
      split at h
      · rename_i e
        injection h with h; subst h; subst e
        exact ⟨ht.1, ht.2, rfl⟩
      · cases h
  · cases h
theorem tocR_mst {es : List Nd} {nums : List Int} {out : List Ti} (h : tocR es nums = some out) : out.reverse = mst es nums es.length ∧ ∀ i, i < es.length → 0 ≤ nums.getD i 0 → ∃ x, tOf es (i : Int) (nums.getD i 0) = some x := by
  obtain ⟨ht, hn, hc⟩ := tocR_some h
  have hI := cvSt_inv (Nat.le_refl _) hc
  have h3 := hI.out
  have h2 := hI.hi
  rw [Nat.sub_self] at h2 h3
  refine ⟨by rw [h3, mst, List.range_eq_range'], fun i hi h0 => ?_⟩
  rcases h2 i (Nat.zero_le _) hi with e | e
  · omega
  · exact e.2
theorem tocR_sum {es : List Nd} {nums : List Int} {out : List Ti} (h : tocR es nums = some out) : ccostR es nums = sumK (mst es nums es.length) := by
  unfold ccostR; rw [h, ← (tocR_mst h).1, sumK_reverse]; rfl
theorem tocR_uses {es : List Nd} {nums : List Int} {out : List Ti} (h : tocR es nums = some out) : tuseR es nums = usesL (mst es nums es.length) := by
  unfold tuseR; rw [h, ← (tocR_mst h).1, usesL_reverse]; rfl
theorem tocR_iff {es : List Nd} {nums : List Int} (ht : treeR es = true) (hn : nums.length = es.length) {cs : List Int} {out : List Ti} (h : cvSt es nums es.length = some (cs, out)) : (tocR es nums).isSome = decide (cs = nums) := by
  unfold tocR
  rw [if_pos ⟨ht, hn⟩, h]
  simp only
  split
  · rename_i e; rw [decide_eq_true e]; rfl
  · rename_i e; rw [decide_eq_false e]; rfl
end Go.Proofs.Ytdleiondfhmjdaa

/- The model's cover, walked. -/
namespace Go.Proofs.Ytdleiondfhmjdaa
open Go.RowKit
set_option linter.unusedVariables false
set_option maxRecDepth 100000

def NeedGot (w : World) (n : Nat) (o : Option (List Int × List Ti)) (e : Ending) (w' : World) : Prop :=
  match o with
  | some s => ∃ g, e = .returned (.tuple #[.slice (some ⟨g, 0, none⟩) n n, .bool true]) ∧ BB w' g (ndB s.1) ∧ w.heap.size ≤ g ∧ Below w.heap.size w w'
  | none => e = .returned (.tuple #[.slice none 0 0, .bool false]) ∧ Below w.heap.size w w'

theorem BB.below {w w' : World} {g C : Nat} {bs : List Bool} (h : BB w g bs) (hb : Below C w w') (hg : g < C) : BB w' g bs := (hb.block g hg).trans h
theorem tOf_at {es : List Nd} (ht : treeR es = true) {k : Nat} (hk : k < es.length) {t : Nat} (h : t < 13) : tOf es (k : Int) (t : Int) = mt es es[k] t := by
  have hi : inR (k : Int) 0 ((es.length : Int) - 1) = true := (inR_iff _ _ _).2 (by omega)
  have hj : inR (t : Int) 0 12 = true := (inR_iff _ _ _).2 (by omega)
  unfold tOf tAt tileO
  rw [ht, hi, hj, nodeAt_nat hk, Int.toNat_natCast]; rfl
theorem tOf_out {es : List Nd} {i t : Int} (h : inR t 0 12 = false) : tOf es i t = none := by
  have := tok_no (es := es) (i := i) (t := t) (.inr (.inr h))
  unfold tokR at this
  cases ho : tOf es i t with
  | none => rfl
  | some x => rw [ho] at this; cases this
theorem bb_start (w : World) (n : Nat) : BB (w.alloc (.cells ((boolCells (List.replicate n false)).setIfInBounds (n - 1) (.bool true)) 4)) w.heap.size (ndB (opn n)) := by
  have e : (boolCells (List.replicate n false)).setIfInBounds (n - 1) (.bool true) = boolCells (ndB (opn n)) := by unfold boolCells; rw [ndB_opn, List.map_set, List.setIfInBounds_toArray]
  rw [e]
  exact heap_alloc_new w _
set_option maxHeartbeats 8000000 in
theorem cvNeeded_any (L B L' B' : Nat) (A A' : Option Addr) (c c' : Nat) (es : List Nd) (nums : List Int) (w : World) (ht : treeR es = true) (hn : nums.length = es.length) (hes : NS w L B A es) (hB : B ≤ w.heap.size) (hns : IS w L' B' A' nums) (hB' : B' ≤ w.heap.size) :
    Calls Try.prog 120 #[.slice A es.length c, .slice A' es.length c'] w (NeedGot w es.length (cvSt es nums es.length)) := by
  have hg : good es = true := by unfold treeR at ht; simp only [Bool.and_eq_true] at ht; exact ht.1
  obtain ⟨hl1, hl24, hok⟩ := good_len hg
  have H3 := Lib.hid fun (k : Nat) (hk : k < es.length) (t : Nat) (htt : t < 13) (W : World) (hW : Below w.heap.size w W) => (show Calls Try.prog 73 #[.slice A es.length c, .int .i64 (k : Int), .int .i64 (t : Int)] W (TileM W (tOf es (k : Int) (t : Int))) from by rw [tOf_at ht hk htt]; exact cvTile_n L B A c es k hk t htt W (hes.below hW hB) (Nat.le_trans hB hW.size) hok)
  have HN := Lib.hid fun (W : World) (hW : Below w.heap.size w W) => hns.below hW hB'
  have hBn := Lib.hid hB'
  have hskip := Lib.hid fun j cs out => @cvSt_skip es nums j cs out
  have hlay := Lib.hid fun j cs out x => @cvSt_lay es nums j cs out x
  have hfail := Lib.hid fun j cs out => @cvSt_fail es nums j cs out
  have hnone := Lib.hid fun j => @cvSt_none es nums j
  have hlenS := Lib.hid fun j cs out => @cvSt_len es nums j cs out
  have hinv := Lib.hid fun j cs out (hj : j ≤ es.length) (h : cvSt es nums j = some (cs, out)) => (cvSt_inv hj h).lo
  have hout := Lib.hid fun (k : Nat) (t : Int) => @tOf_out es (k : Int) t
  have hps := Lib.hid fun (k : Nat) (t : Int) (x : Ti) => @tOf_ps es k t x
  have hSt0 := Lib.hid (show cvSt es nums 0 = some (opn es.length, []) from rfl)
  have hmk := run_make_bools es.length (by omega)
  have b1 := Lib.hid ((Below.refl w.heap.size w).alloc (Nat.le_refl _) (.cells ((boolCells (List.replicate es.length false)).setIfInBounds (es.length - 1) (.bool true)) 4))
  have hT0 : Hid (BB (w.alloc (.cells (boolCells (List.replicate es.length false)) 4)) w.heap.size (List.replicate es.length false)) := heap_alloc_new w _
  have hT1 := Lib.hid (bb_start w es.length)
  have hw1 : IntKind.i64.wrap ((es.length : Int) - 1) = (es.length : Int) - 1 := by rw [IntKind.wrap_i64]; omega
  have hm1 : ((es.length : Int) - 1) = ((es.length - 1 : Nat) : Int) := by omega
  have hm2 : ((es.length - 1 : Nat) : Int) < (es.length : Int) := by omega
  have hm0 : (0 : Int) ≤ ((es.length - 1 : Nat) : Int) := by omega
  have hnl := Lib.hid hn
  clear hes hB hns hB' hg ht hok hn
  have y0 := hT0.out.cell (es.length - 1) (by simp; omega)
  have f0 := hT0.out.frozen (es.length - 1)
  generalize cvSt es nums = CS at *
  generalize tOf es = TO at *
  generalize es.length = n at *
  go_enter Try.func120, Try.ntmps120
  go_wp2_with (fail)
  obtain ⟨g, hg0⟩ : ∃ g, g = w.heap.size := ⟨_, rfl⟩
  rw [← hg0] at hT1 ⊢
  have hgw := Lib.hid (show w.heap.size ≤ g by omega)
  clear hg0 y0 f0 hT0 hmk
  generalize w.alloc (.cells ((boolCells (List.replicate n false)).setIfInBounds (n - 1) (.bool true)) 4) = W1 at *
  go_loopw [7] (fun i wr => ∃ (j : Nat) (cs : List Int) (out : List Ti), j ≤ n ∧ i = .int .i64 ((n : Int) - 1 - (j : Int)) ∧ CS j = some (cs, out) ∧ BB wr g (ndB cs) ∧ Below w.heap.size w wr) (fun i _ => (intOf i + 1).toNat)
  case atStart => exact ⟨0, _, _, Nat.zero_le _, by rw [← hm1]; simp, hSt0.out, hT1.out, b1.out⟩
  case round =>
    obtain ⟨j, cs, out, hj, rfl, hst, hib, hbel⟩ := hrel
    have hIB := Lib.hid hib
    have hBL := Lib.hid hbel
    have hgl := hib.lt
    have hlen := (hlenS.out j cs out hst).1
    clear hw1 hm1 hm2 hm0
    by_cases hlt : j < n
    · obtain ⟨k, hk⟩ : ∃ k, k = n - 1 - j := ⟨_, rfl⟩
      have e1 : (n : Int) - 1 - (j : Int) = (k : Int) := by omega
      have e2 := Lib.hid (show (k : Int) - 1 = (n : Int) - 1 - ((j + 1 : Nat) : Int) by omega)
      rw [e1]
      have hkn : k < n := by omega
      have hk0 : (0 : Int) ≤ (k : Int) := by omega
      have hki : (k : Int) < (n : Int) := by omega
      have hwd : IntKind.i64.wrap ((k : Int) - 1) = (k : Int) - 1 := by rw [IntKind.wrap_i64]; omega
      have y := hib.cell k (by rw [ndB_len]; omega)
      rw [ndB_get (by omega)] at y
      have hS1 := Lib.hid (hskip.out j cs out hst)
      have hS2 := Lib.hid (fun x => hlay.out j cs out x hst)
      have hS3 := Lib.hid (hfail.out j cs out hst)
      rw [← hk] at hS1 hS2 hS3
      have hjh := Lib.hid hlt
      rcases hinv.out j cs out hj hst k (by omega) with hc | hc
      · rw [hc, show ((-1 : Int) != -1) = false from rfl] at y
        have hN := Lib.hid (hS1.out (by rw [hc]; decide))
        clear hst hib hbel hc hk e1 hinv hskip hlay hfail hlenS
        go_wp2
        have := hjh.out
        exact ⟨⟨j + 1, cs, out, hjh.out, by rw [e2.out], hN.out, hIB.out, hBL.out⟩, by simp [intOf] <;> omega⟩
      · rw [hc, show ((-2 : Int) != -1) = true from rfl] at y
        obtain ⟨nb, no, rfl, ⟨_, hnb⟩, hcc⟩ := HN.out wr hbel (by rw [hnl.out]; omega)
        have x1 := hcc k (by rw [hnl.out]; exact hkn)
        rw [show nums[k]'(by rw [hnl.out]; exact hkn) = nums.getD k 0 from (getD_get (by rw [hnl.out]; exact hkn)).symm] at x1
        have hL2 := Lib.hid (fun x => hS2.out x hc)
        have hF2 := Lib.hid (hS3.out hc)
        have ho1 := Lib.hid (hout.out k (nums.getD k 0))
        have hp1 := Lib.hid (hps.out k (nums.getD k 0))
        clear hcc hS1 hS2 hS3
        generalize nums.getD k 0 = t at *
        have HI := Lib.hid fun (W : World) => l1In_r t 0 12 W
        cases hin : inR t 0 12
        · rw [hin] at HI
          have hN := Lib.hid (hnone.out (j + 1) (hF2.out (ho1.out hin)) n (by omega))
          clear hst hib hbel hc hk e1 hinv hskip hlay hfail hlenS
          go_wp2_with (go_at_call 79; (with_reducible refine (HI.out _).mono ?_); rintro e w' ⟨rfl, rfl⟩)
          go_ret2
          unfold NeedGot
          rw [hN.out]
          exact ⟨rfl, hBL.out⟩
        · rw [hin] at HI
          have hin2 := (inR_iff _ _ _).1 hin
          obtain ⟨tn, rfl⟩ := Int.eq_ofNat_of_zero_le hin2.1
          have hT := Lib.hid (H3.out k hkn tn (by omega))
          cases ho : TO (k : Int) (tn : Int) with
          | none =>
            rw [ho] at hT
            have hN := Lib.hid (hnone.out (j + 1) (hF2.out ho) n (by omega))
            clear hst hib hbel hc hk e1 hinv hskip hlay hfail hlenS
            go_wp2_with (first | (go_at_call 79; (with_reducible refine (HI.out _).mono ?_); rintro e w' ⟨rfl, rfl⟩) | (go_at_call 73; (with_reducible refine (hT.out _ hBL.out).mono ?_); rintro e w2 ⟨PA, pc, QA, qc, rfl, _, _, hb2⟩; have hbi := Lib.hid (hBL.out.trans (hb2.mono hBL.out.size)); clear hb2; dsimp only [Option.map_none, Option.getD_none, Option.isSome_none]))
            go_ret2
            unfold NeedGot
            rw [hN.out]
            exact ⟨rfl, hbi.out⟩
          | some x =>
            rw [ho] at hT
            have hN := Lib.hid (hL2.out x ho)
            have hpx := Lib.hid (hp1.out x ho)
            have hcm := Lib.hid hc
            clear hst hib hbel hc hk e1 hinv hskip hlay hfail hlenS
            go_wp2_with (first | (go_at_call 79; (with_reducible refine (HI.out _).mono ?_); rintro e w' ⟨rfl, rfl⟩) | fail)
            refine (hT.out _ hBL.out).mono ?_
            rintro e w2 ⟨PA, pc, QA, qc, rfl, hp, _, hb2⟩
            dsimp only [Option.map_some, Option.getD_some, Option.isSome_some] at hp ⊢
            have hpr := Lib.hid hp.rs
            have hB2 := Lib.hid (hBL.out.trans (hb2.mono hBL.out.size))
            have hI2 := Lib.hid (hIB.out.below hb2 hgl)
            obtain ⟨xn, ps, ins, xc⟩ := x
            dsimp only at hpx hpr ⊢
            have hst0 := Lib.hid (ndB_lay0 (x := xn) (by omega) hcm.out hpx.out.2.2.1)
            have hpl := hpx.out.2.1
            clear hp hb2 y x1 hwd hT HI
            go_wp2_with (fail)
            go_loopw [54] (fun q wi => ∃ t : Nat, t ≤ ps.length ∧ q = .int .i64 t ∧ BB wi g (ndB (layTo cs k xn ps t)) ∧ Chg g (g + 1) w2 wi) (fun q _ => ps.length - (intOf q).toNat)
            case atStart => exact ⟨0, Nat.zero_le _, rfl, by rw [layTo_zero, hst0.out]; exact hI2.out, Chg.refl _ _ _⟩
            case round =>
              obtain ⟨t, htl, rfl, hib, hch⟩ := hrel
              have hIJ := Lib.hid hib
              have hCJ := Lib.hid hch
              have hgr := hib.lt
              clear hib hch
              by_cases hltt : t < ps.length
              · obtain ⟨pb, po, rfl, ⟨_, hpb⟩, hcc⟩ := (hpr.out.chg hCJ.out (Nat.le_refl _) (.inr hgl)) (by omega)
                have y1 := hcc t hltt
                have hpt := hpx.out.1 ps[t] (List.getElem_mem _)
                have hS := Lib.hid (layTo_succ cs k xn hltt)
                have hli := layTo_len cs k xn ps t
                clear hcc
                generalize ps[t] = pp at *
                obtain ⟨pn, rfl⟩ := Int.eq_ofNat_of_zero_le hpt.1
                rw [Int.toNat_natCast] at hS
                have hpm : (pn : Int) < (n : Int) := by omega
                have hpn0 : (0 : Int) ≤ (pn : Int) := by omega
                have y2 := hIJ.out.cell pn (by rw [ndB_len]; omega)
                have yf := hIJ.out.frozen pn
                have hIs := Lib.hid (hIJ.out.set pn true)
                have hCs := Lib.hid (hCJ.out.setCell (p := ⟨g, pn, none⟩) ⟨Nat.le_refl _, Nat.lt_succ_self _⟩ (.bool true))
                have hth := Lib.hid hltt
                generalize (ndB (layTo cs k xn ps t)).getD pn false = bb at *
                go_wp2
                have := hth.out
                exact ⟨⟨t + 1, hth.out, by go_num, by rw [hS.out, ndB_set]; exact hIs.out, hCs.out⟩, by simp [intOf]; omega⟩
              · obtain rfl : t = ps.length := by omega
                have hB3 := Lib.hid (below_chg hB2.out hCJ.out hB2.out.size hgw.out)
                have hwd : IntKind.i64.wrap ((k : Int) - 1) = (k : Int) - 1 := by rw [IntKind.wrap_i64]; omega
                go_wp2
                have := hjh.out
                exact ⟨⟨j + 1, _, _, hjh.out, by rw [e2.out], hN.out, hIJ.out, hB3.out⟩, by simp [intOf] <;> omega⟩
    · obtain rfl : j = n := by omega
      have e1 : (j : Int) - 1 - (j : Int) = -1 := by omega
      rw [e1]
      clear hib hbel
      go_wp2
      go_ret2
      unfold NeedGot
      rw [hst]
      exact ⟨g, rfl, hIB.out, hgw.out, hBL.out⟩
end Go.Proofs.Ytdleiondfhmjdaa
