/- Texts of this proof, one behind the other: BV, R, BW, VC, SE, LawVA. -/
import Derived.Test.YthjfedidpjfboaaZ4
import Derived.ControlIn
import Derived.Test.YthjfedidpjfboaaZ8
import Derived.Test.YthjfedidpjfboaaZ10
import Derived.Test.YthjfedidpjfboaaZ9
import Derived.WalkKit
import Derived.WalkSpells
import Derived.WalkLawsBesides
import Derived.Deep.RegionLaw
import Derived.Deep.QuietTactic
import Derived.BigQuiet
import Derived.BigRegion
import Derived.Lib.Hide
import Derived.Test.YthjfedidpjfboaaV
import Derived.Test.YthjfedidpjfboaaZ5
import Derived.RangeFuncNested
import Derived.Test.YthjfedidpjfboaaKMInstr
import Derived.Test.YthjfedidpjfboaaKInstr
import Derived.Test.YthjfedidpjfboaaLI
/- LiveSets of the program. -/
namespace Go.Proofs.Ythjfedidpjfboaa
open Go.RowKit Go.Shelf
set_option linter.unusedVariables false
set_option maxRecDepth 100000
attribute [local go_sem] Oper.semAt_some

theorem region_out {n id : Nat} {P : Program} {ops : Array Oper} {S : World → Prop} {K0 : Act → World → Prop} {Q : Exit → Act → World → Prop} {a : Act} {w : World} (hm : P.follows .mixedOrders = true) (hQ : ∀ a w, K0 a w → Q .normal a w) (hS : S w.drew)
    (h : S w.drew → wpAnyH P .any ops (OnlyN K0) S ops.size (Array.replicate ops.size false) a w.drew) : (Code.region id ops true).wpIn Fence.wide n P Q a w :=
  wpIn_wide.2 (Code.wp_mono (Q := OnlyN K0) (fun e a w hh => by
    cases e with
    | normal => exact hQ a w hh
    | _ => exact (show False from hh).elim) (wp_region_any hm (wpAny_of_held _ _ _ _ (h hS))))
theorem run_make_iis (n : Nat) (hn : n ≤ 1048576) (W : World) : (Instr.makeSlice 48 (.int .i64 (n : Int)) (.int .i64 (n : Int))).run Try.prog W = .ok (.slice (some ⟨W.heap.size, 0, none⟩) n n) (W.alloc (.cells (List.replicate n (Value.slice none 0 0)).toArray 32)) := by
  obtain ⟨i0, hi, hz0, hz1, hz2⟩ := info_parts Try.infoII
  have h := run_make (P := Try.prog) W 48 32 i0 _ Try.underlying48 hi hz0 .i64 .i64 n n (by omega) (by omega) (by rw [hz2]; omega) (by omega)
  rw [h]
  simp only [Int.toNat_natCast, hz1, Nat.mul_one]
  refine congrArg (fun c => Result.ok (Value.slice (some ⟨W.heap.size, 0, none⟩) n n) (W.alloc (.cells c 32))) ?_
  apply Array.ext'
  exact toList_madeCells_one _ _
theorem rows_nil (w : World) (lo hi n : Nat) : RowsX w lo hi (List.replicate n (Value.slice none 0 0)) (List.replicate n []) := by
  refine ⟨by simp, fun i h1 h2 => ?_, fun i j h1 h2 hne b hb => ?_⟩
  · simp only [List.getElem_replicate]
    exact ⟨⟨none, 0, rfl⟩, OW.nil _ _ _⟩
  · simp only [List.getElem_replicate] at hb
    simp [Value.ownBlock] at hb
def lsR (cs : List In) (out : List Int) : List (List Int) := if ddOk cs out = true then lvX (setsTo out out.length) cs else []

set_option maxHeartbeats 4000000 in
theorem iLiveSets_go (L B L' B' : Nat) (A A' : Option Addr) (c c' : Nat) (cs : List In) (out : List Int) (w : World) (hk : okCode cs = true) (hr : riseB out = true) (hn : out.length ≤ 1048576) (hes : RS In.enc 5 w L B A cs) (hB : B ≤ w.heap.size) (hns : IS w L' B' A' out) (hB' : B' ≤ w.heap.size) :
    Calls Try.prog 43 #[.slice A cs.length c, .slice A' out.length c'] w (ResLiveSets (lsR cs out) (ddOk cs out) w) := by
  have hl40 := okCode_len hk
  have hl : cs.length ≤ 1048576 := by omega
  have H := Lib.hid (IsCode_any L B A c cs w hl hes hB)
  have H2 := Lib.hid fun (W : World) (hW : Below w.heap.size w W) => areRegisters_any L' B' A' c' out W hn (hns.below hW hB')
  have H3 := Lib.hid fun (W : World) (hW : Below w.heap.size w W) => registerSetOf_any L' B' A' c' out W hn (hns.below hW hB') (Nat.le_trans hB' hW.size) (rise_bits hr).1
  have hE := Lib.hid fun (W : World) (hW : Below w.heap.size w W) => hes.below hW hB
  have hBB := Lib.hid hB
  have hR := Lib.hid (show lsR cs out = lvX (setsTo out out.length) cs by unfold lsR ddOk; rw [hk, hr]; rfl)
  have hO := Lib.hid (show ddOk cs out = true by unfold ddOk; rw [hk, hr]; rfl)
  have hall := Lib.hid (okCode_all hk)
  have hl6 := setsTo_len out out.length
  rw [hk] at H
  rw [hr] at H2
  clear hk hr hes hB hns hB'
  generalize setsTo out out.length = bs at *
  have hL6 := Lib.hid hl6
  obtain ⟨b0, b1, b2, b3, b4, b5, hbs⟩ := six_bools hl6
  have hBS := Lib.hid hbs
  rw [hbs] at H3
  clear hbs hl6
  simp only [boolCells, List.map_cons, List.map_nil] at H3
  have hmk := run_make_iis (cs.length + 1) (by omega)
  rw [Int.natCast_add, show ((1 : Nat) : Int) = 1 from rfl] at hmk
  refine (callsIn_wide (n := 6)).1 ?_
  refine callsIn_of_wp_marks Try.func43 rfl trivial ?_ rfl
  simp only [Try.ntmps43, List.size_toArray, List.length_cons, List.length_nil, Nat.reduceAdd, Nat.reduceSub, Array.replicate_succ, Array.replicate_zero, List.push_toArray, List.append_toArray, List.nil_append, List.cons_append]
  gi_wp2
  refine ⟨trivial, callsIn_wide.2 (H.out.mono ?_)⟩
  rintro e W1 ⟨rfl, hb1⟩
  have B1 := Lib.hid hb1
  clear hb1
  gi_wp2
  refine ⟨trivial, callsIn_wide.2 ((H2.out W1 B1.out).mono ?_)⟩
  rintro e W1' ⟨rfl, rfl⟩
  gi_wp2
  refine ⟨trivial, callsIn_wide.2 ((H3.out W1 B1.out).mono ?_)⟩
  rintro e W2 ⟨rfl, hb2⟩
  have B2 := Lib.hid (B1.out.trans (hb2.mono B1.out.size))
  clear hb2 B1 H H2 H3
  gi_wp2
  obtain ⟨W4, hW4⟩ : ∃ W4, W4 = ((W2.alloc (.cells #[.bool b0, .bool b1, .bool b2, .bool b3, .bool b4, .bool b5] 103)).alloc (.cells (Array.replicate (cs.length + 1) (Value.slice none 0 0)) 32)).alloc (.cells #[.slice (some ⟨W2.heap.size + 1, 0, none⟩) (cs.length + 1) (cs.length + 1)] 48) := ⟨_, rfl⟩
  have z1 := World.size_alloc W2 (.cells #[.bool b0, .bool b1, .bool b2, .bool b3, .bool b4, .bool b5] 103)
  have z2 := World.size_alloc (W2.alloc (.cells #[.bool b0, .bool b1, .bool b2, .bool b3, .bool b4, .bool b5] 103)) (.cells (Array.replicate (cs.length + 1) (Value.slice none 0 0)) 32)
  have LS0 : LS w W4 W2.heap.size (W2.heap.size + 1 + 1) (W2.heap.size + 1) (cs.length + 1) bs (List.replicate (cs.length + 1) []) := by
    have hz2 := B2.out.size
    have a1 := (Below.refl W2.heap.size W2).alloc (Nat.le_refl _) (.cells #[.bool b0, .bool b1, .bool b2, .bool b3, .bool b4, .bool b5] 103)
    have a2 := a1.alloc a1.size (.cells (Array.replicate (cs.length + 1) (Value.slice none 0 0)) 32)
    have a3 := a2.alloc a2.size (.cells #[.slice (some ⟨W2.heap.size + 1, 0, none⟩) (cs.length + 1) (cs.length + 1)] 48)
    rw [hW4]
    refine ⟨hz2, by omega, by omega, ?_, ?_, ?_, B2.out.trans (a3.mono hz2)⟩
    · have h : BT (W2.alloc (.cells #[.bool b0, .bool b1, .bool b2, .bool b3, .bool b4, .bool b5] 103)) W2.heap.size [b0, b1, b2, b3, b4, b5] := heap_alloc_new W2 _
      rw [hBS.out]
      exact (h.next ((Below.refl _ _).alloc (Nat.le_refl _) _) h.lt).next ((Below.refl _ _).alloc (Nat.le_refl _) _) (by rw [z2, z1]; omega)
    · have h := BX.new ((W2.alloc (.cells #[.bool b0, .bool b1, .bool b2, .bool b3, .bool b4, .bool b5] 103)).alloc (.cells (Array.replicate (cs.length + 1) (Value.slice none 0 0)) 32)) 48 (.slice (some ⟨W2.heap.size + 1, 0, none⟩) (cs.length + 1) (cs.length + 1))
      rw [z2, z1] at h; exact h
    · have h : CB 32 ((W2.alloc (.cells #[.bool b0, .bool b1, .bool b2, .bool b3, .bool b4, .bool b5] 103)).alloc (.cells (Array.replicate (cs.length + 1) (Value.slice none 0 0)) 32)) (W2.alloc (.cells #[.bool b0, .bool b1, .bool b2, .bool b3, .bool b4, .bool b5] 103)).heap.size (List.replicate (cs.length + 1) (Value.slice none 0 0)) := by
        unfold CB; rw [List.toArray_replicate]; exact heap_alloc_new _ _
      rw [z1] at h
      exact ⟨_, h.below ((Below.refl _ _).alloc (Nat.le_refl _) _) h.lt, by simp, rows_nil _ _ _ _⟩
  rw [← hW4]
  obtain ⟨p6, hp6⟩ : ∃ p6, p6 = W2.heap.size := ⟨_, rfl⟩
  rw [← hp6] at LS0 ⊢
  have zW4 : W4.heap.size = p6 + 1 + 1 + 1 := by rw [hW4, World.size_alloc, z2, z1, hp6]
  have Z4 := Lib.hid zW4
  clear hW4 z1 z2 zW4 B2 hBS hmk
  have hLS := Lib.hid (LS0.below (Below.refl W4.heap.size W4).drew)
  have hList := Lib.hid (setList_any p6 bs W4.drew hL6.out hLS.out.b6)
  have hPut := Lib.hid fun (W3 : World) (v : Value) (hb : Below W4.drew.heap.size W4.drew W3) (hv : OW W3 W4.drew.heap.size W3.heap.size v (mkT bs)) => LS.put (k := cs.length) hLS.out hb hv
  have u7 := LS0.b7.cell
  have i0' : (0 : Int) ≤ (cs.length : Int) := by omega
  have i1 : (cs.length : Int) < (cs.length : Int) + 1 := by omega
  have i2 : cs.length < cs.length + 1 := by omega
  have hw1 : IntKind.i64.wrap ((cs.length : Int) + 1) = (cs.length : Int) + 1 := by rw [IntKind.wrap_i64]; omega
  have u7d : W4.drew.cell? ⟨p6 + 1 + 1, 0, none⟩ = some (.slice (some ⟨p6 + 1, 0, none⟩) (cs.length + 1) (cs.length + 1)) := u7
  have hPut := Lib.hid hPut.out
  clear hp6 LS0 u7
  -- REGION 5 BEGIN
  refine region_out (S := fun w' => w'.cell? ⟨p6 + 1 + 1, 0, none⟩ = some (.slice (some ⟨p6 + 1, 0, none⟩) (cs.length + 1) (cs.length + 1))) (by kernel_rfl) (fun _ _ h => h) u7d (fun hHeld => ?_)
  refine wpAnyH_take (i := 0) (v := ?_) rfl (by kernel_rfl) (by kernel_rfl) (by kernel_rfl) (fun _ _ _ h => h) (Or.inl ⟨by rfl, ?_⟩) (by assumption) ?_
  rotate_left 1
  · (intro w hSw; (try dsimp only at hSw); go_simp; try with_reducible rfl)
  try simp only [Act.put, List.setIfInBounds_toArray, List.set_cons_zero, List.set_cons_succ]
  refine wpAnyH_take (i := 1) (v := ?_) rfl (by kernel_rfl) (by kernel_rfl) (by kernel_rfl) (fun _ _ _ h => h) (Or.inl ⟨by rfl, ?_⟩) (by assumption) ?_
  rotate_left 1
  · (intro w hSw; (try dsimp only at hSw); go_simp; try with_reducible rfl)
  try simp only [Act.put, List.setIfInBounds_toArray, List.set_cons_zero, List.set_cons_succ]
  refine wpAnyH_take (i := 2) (v := ?_) rfl (by kernel_rfl) (by kernel_rfl) (by kernel_rfl) (fun _ _ _ h => h) (Or.inl ⟨by rfl, ?_⟩) (by assumption) ?_
  rotate_left 1
  · (intro w hSw; (try dsimp only at hSw); go_simp; try with_reducible rfl)
  try simp only [Act.put, List.setIfInBounds_toArray, List.set_cons_zero, List.set_cons_succ]
  refine wpAnyH_ready (rs := [3]) (by kernel_rfl) (by simp) ?_
  refine AllReadyH.cons rfl (fun K hK => ?_) AllReadyH.nil
  try simp only [List.getElem_toArray, List.getElem_cons_zero, List.getElem_cons_succ]
  go_simp
  go_at_call 101
  refine hList.out.mono ?_
  rintro e w3 ⟨A3, c3, rfl, ho3, hb3⟩
  have hL3 := LS.below hLS.out hb3
  have u73 := hL3.b7.cell
  obtain ⟨vs3, hcb3, hvn3, _⟩ := hL3.rows
  have f3 := hcb3.frozen cs.length
  have k3 := (hcb3.cell cs.length).trans (List.getElem?_eq_getElem (by omega))
  have hL4 := Lib.hid (hPut.out w3 _ hb3 ho3)
  have u74 := hL4.out.b7.cell
  refine hK.out _ _ (u73) (fun hHeld => ?_)
  clear hK K
  try simp only [Act.put, List.setIfInBounds_toArray, List.set_cons_zero, List.set_cons_succ]
  refine wpAnyH_take (i := 4) (v := ?_) rfl (by kernel_rfl) (by kernel_rfl) (by kernel_rfl) (fun _ _ _ h => h) (Or.inl ⟨by rfl, ?_⟩) (by assumption) ?_
  rotate_left 1
  · (intro w hSw; (try dsimp only at hSw); go_simp; try with_reducible rfl)
  try simp only [Act.put, List.setIfInBounds_toArray, List.set_cons_zero, List.set_cons_succ]
  refine wpAnyH_ready (rs := [5]) (by kernel_rfl) (by simp) ?_
  refine AllReadyH.cons rfl (fun K hK => ?_) AllReadyH.nil
  try simp only [List.getElem_toArray, List.getElem_cons_zero, List.getElem_cons_succ]
  go_simp
  refine hK.out _ _ (u74) (fun hHeld => ?_)
  clear hK K
  try simp only [Act.put, List.setIfInBounds_toArray, List.set_cons_zero, List.set_cons_succ]
  refine wpAnyH_done (by kernel_rfl) ?_ _
  try simp only [Act.put, List.setIfInBounds_toArray, List.set_cons_zero, List.set_cons_succ]
  -- REGION 5 END
  dsimp only [OnlyN]
  have LS5 := hL4.out
  obtain ⟨W5, hW5⟩ : ∃ W5, W5 = w3.setCell ⟨p6 + 1, cs.length, none⟩ (.slice A3 (mkT bs).length c3) := ⟨_, rfl⟩
  rw [← hW5] at LS5 ⊢
  have L5 := Lib.hid LS5
  have hz45 : Hid (W4.heap.size ≤ W5.heap.size) := by have := hb3.size; rw [Hid, hW5, World.size_setCell]; exact this
  clear hW5 LS5 hL4 hL3 u73 u74 hcb3 f3 k3 hb3 ho3 hList hPut hLS u7d i0' i1 i2 hvn3 hw1
  gi_wp2
  refine ⟨trivial, (bwI_in Fence.wide 5 trivial rfl A cs.length c W5).mono ?_⟩
  rintro e W9 ⟨rfl, rfl⟩
  have a9 := (Below.refl W5.heap.size W5).alloc (Nat.le_refl _) (.cells #[.slice A cs.length c] 34)
  have L9 := Lib.hid (L5.out.below a9)
  have TB9 := Lib.hid (BX.new W5 34 (.slice A cs.length c))
  have hes9 := Lib.hid (hE.out _ L9.out.be)
  have Z9 := World.size_alloc W5 (.cells #[.slice A cs.length c] 34)
  obtain ⟨Bs, hBs⟩ : ∃ Bs, Bs = W5.heap.size := ⟨_, rfl⟩
  obtain ⟨W9, hW9⟩ : ∃ W9, W9 = W5.alloc (.cells #[.slice A cs.length c] 34) := ⟨_, rfl⟩
  rw [← hBs, ← hW9]
  rw [← hW9] at L9 hes9 TB9 Z9
  rw [← hBs] at TB9 Z9
  have Zb := Lib.hid (show p6 + 1 + 1 < Bs by have := Z4.out; have := hz45.out; omega)
  have Z9h := Lib.hid Z9
  have B9 := Lib.hid L9.out.be
  have Hp := Lib.hid L9.out.h6
  clear a9 L5 hW9 hBs Z4 hz45 Z9 hE
  gi_wp2
  refine wpIn_rangeFunc_ownH rfl (by omega) (gf := 153) (lb := #[.pointer (some ⟨Bs, 0, none⟩)]) rfl trivial (enters_of Try.func153 (by kernel_rfl) rfl)
    (bwI_stops Fence.wide 5 trivial rfl (by omega) Bs w.heap.size L B A c cs hl W9 B9.out.size TB9.out hes9.out hBB.out) KpB.t (KpB.b B9.out.size) (Below.refl _ _) (fun _ => rfl)
    (fun pre W => LS w W p6 (p6 + 1 + 1) (p6 + 1) (cs.length + 1) (lsP bs pre).2 (lsP bs pre).1 ∧ Bs + 1 ≤ W.heap.size)
    (fun _ _ _ => False) ?hI ?hIx ?h0
    (fun x a' W => ∃ Bx, Bs < Bx ∧ XB W Bx x.1.2 ∧ a' = { tmps := #[.slice A cs.length c, .slice A' out.length c', undef, undef, .slice none 0 0, .bool false, .pointer (some ⟨p6, 0, none⟩), .pointer (some ⟨p6 + 1 + 1, 0, none⟩), .int .i64 (x.1.1 : Int), .pointer (some ⟨Bx, 0, none⟩), .slice A cs.length c, .bool true, .bool false, .bool false, .slice A' out.length c', .bool true, .bool false, .bool false, .slice A' out.length c', .agg #[.bool b0, .bool b1, .bool b2, .bool b3, .bool b4, .bool b5], .slice A cs.length c, .int .i64 (cs.length : Int), .int .i64 ((cs.length : Int) + 1), .slice (some ⟨p6 + 1, 0, none⟩) (cs.length + 1) (cs.length + 1), .slice (some ⟨p6 + 1, 0, none⟩) (cs.length + 1) (cs.length + 1), .slice A cs.length c, .int .i64 (cs.length : Int), .slice A3 (mkT bs).length c3, .pointer (some ⟨p6 + 1, cs.length, none⟩), .slice A cs.length c, .func (.func 153) #[] #[.pointer (some ⟨Bs, 0, none⟩)], .int .i64 (x.1.1 : Int), inV x.1.2, undef, undef, undef, undef, undef, undef, undef], defers := [] })
    ?hAx ?assign ?body ?done ?stop
  case hAx =>
    rintro x a' _ X YY row ⟨Bx, h1, h2, h3⟩ hg hr
    refine ⟨Bx, h1, ?_, h3⟩
    have hne : row ≠ some Bx := row_not (show X.heap[Bx]? = some (.cells (In.enc x.1.2).toArray 90 (0, 0)) from h2) (fun r e => (hr r e).2)
    exact (hg.block Bx (CB.lt h2) (fun e => hne e.symm)).trans h2
  case assign =>
    rintro l pre ⟨⟨k, ⟨op, d, a, b, m⟩⟩, hk, hy⟩ W K ⟨hD, hlt⟩ hK
    have ha := (Below.refl W.heap.size W).alloc (Nat.le_refl _) (.cells #[.string op, .int .i64 d, .int .i64 a, .int .i64 b, .int .i64 m] 90)
    have h1 := hK { tmps := #[.slice A cs.length c, .slice A' out.length c', undef, undef, .slice none 0 0, .bool false, .pointer (some ⟨p6, 0, none⟩), .pointer (some ⟨p6 + 1 + 1, 0, none⟩), .int .i64 (k : Int), .pointer (some ⟨W.heap.size, 0, none⟩), .slice A cs.length c, .bool true, .bool false, .bool false, .slice A' out.length c', .bool true, .bool false, .bool false, .slice A' out.length c', .agg #[.bool b0, .bool b1, .bool b2, .bool b3, .bool b4, .bool b5], .slice A cs.length c, .int .i64 (cs.length : Int), .int .i64 ((cs.length : Int) + 1), .slice (some ⟨p6 + 1, 0, none⟩) (cs.length + 1) (cs.length + 1), .slice (some ⟨p6 + 1, 0, none⟩) (cs.length + 1) (cs.length + 1), .slice A cs.length c, .int .i64 (cs.length : Int), .slice A3 (mkT bs).length c3, .pointer (some ⟨p6 + 1, cs.length, none⟩), .slice A cs.length c, .func (.func 153) #[] #[.pointer (some ⟨Bs, 0, none⟩)], .int .i64 (k : Int), inV ⟨op, d, a, b, m⟩, undef, undef, undef, undef, undef, undef, undef], defers := [] } (W.alloc (.cells #[.string op, .int .i64 d, .int .i64 a, .int .i64 b, .int .i64 m] 90)) ((KeepsOthers.alloc _ _).from _) (keeps_belowI ha hD.be.size).2 ⟨hD.below ha, Nat.le_trans hlt ha.size⟩ ⟨W.heap.size, hlt, XB.newI W ⟨op, d, a, b, m⟩, rfl⟩
    dsimp only [inV] at h1
    have h1h := Lib.hid h1
    clear h1 hK hD
    dsimp only [inV]
    gi_wp2
    exact h1h.out
  case hI =>
    rintro pre W W' row ⟨hD, hlt⟩ hg hr
    exact ⟨hD.kept hg (fun r e => ⟨Nat.le_trans B9.out.size (hr r e).1, (hr r e).2⟩), Nat.le_trans hlt hg.size⟩
  case hIx => rintro cd pre W W' row hF; exact hF.elim
  case h0 => exact ⟨L9.out, by rw [Z9h.out]; exact Nat.le_refl _⟩
  case stop =>
    rintro D cd pre W _ _ hh _
    exact hh.elim
  case body =>
    rintro l pre x a' W hl0 _ ⟨hD, hWB⟩ ⟨Bx, hBx, hX, rfl⟩ hpl
    obtain ⟨⟨k, y⟩, hk, hy⟩ := x
    have hk' : k < cs.length := hk
    have hgd := Lib.hid (show goodIn y = true from hall.out y (List.mem_of_getElem? hy))
    have hsn := Lib.hid (lsP_snoc bs pre ⟨(k, y), hk, hy⟩)
    have hln := lsP_len bs hL6.out pre
    have hln2 := Lib.hid hln.2
    clear hln
    generalize hP' : lsP bs (pre ++ [⟨(k, y), hk, hy⟩]) = P' at *
    have HP := Lib.hid hP'
    clear hP'
    generalize lsP bs pre = P at *
    obtain ⟨xss, bb⟩ := P
    dsimp only at *
    obtain ⟨op, d, a, b, m⟩ := y
    dsimp only [inV] at *
    obtain ⟨n0, n1, n2, n3, n4⟩ := XB.cells hX
    dsimp only at n0 n1 n2 n3 n4
    have D1 := Lib.hid hD
    have hGB := Lib.hid (goBack_any p6 bb ⟨op, d, a, b, m⟩ W hln2.out hgd.out D1.out.b6)
    have hWBh := Lib.hid hWB
    have hF : Hid (P' = (xss.set k (mkT (bkB bb ⟨op, d, a, b, m⟩)), bkB bb ⟨op, d, a, b, m⟩)) := hsn.out
    have hb6' : Hid ((bkB bb ⟨op, d, a, b, m⟩).length = 6) := by rw [Hid, bkB_len]; exact hln2.out
    clear hD hX hsn hWB
    gi_wp2
    refine ⟨trivial, (CallsIn.inRound l (callsIn_wide.2 hGB.out)).mono ?_⟩
    rintro e W2' ⟨rfl, hbt, hch⟩
    have hkp2 := Lib.hid (keeps_bt (n := w.heap.size) (Bs := Bs) (t := 34) D1.out.b6 hch Hp.out (by have := Zb.out; omega))
    have D2 := Lib.hid (D1.out.lay hch hbt)
    have hz2 := Lib.hid hch.size
    clear n0 n1 n2 n3 n4 hGB hbt hch D1
    generalize bkB bb ⟨op, d, a, b, m⟩ = bn at *
    have hLS := Lib.hid (D2.out.below (Below.refl W2'.heap.size W2').drew)
    have hList := Lib.hid (setList_any p6 bn W2'.drew hb6'.out hLS.out.b6)
    have hPut := Lib.hid fun (W3 : World) (v : Value) (hb : Below W2'.drew.heap.size W2'.drew W3) (hv : OW W3 W2'.drew.heap.size W3.heap.size v (mkT bn)) => LS.put (k := k) hLS.out hb hv
    have u7d := hLS.out.b7.cell
    have i0' : (0 : Int) ≤ (k : Int) := by omega
    have i1 : (k : Int) < (cs.length : Int) + 1 := by omega
    have i2 : k < cs.length + 1 := by omega
    have hkp3 := Lib.hid fun (W3 : World) (hb : Below W2'.drew.heap.size W2'.drew W3) => keeps_belowI (n := w.heap.size) (Bs := Bs) (t := 34) hb hLS.out.be.size
    gi_wp2
    -- REGION 10 BEGIN
    refine region_round (S := fun w' => w'.cell? ⟨p6 + 1 + 1, 0, none⟩ = some (.slice (some ⟨p6 + 1, 0, none⟩) (cs.length + 1) (cs.length + 1))) (by kernel_rfl) (by kernel_rfl) (fun _ _ h => h) u7d (fun hHeld => ?_)
    refine wpAnyH_take (i := 0) (v := ?_) rfl (by kernel_rfl) (by kernel_rfl) (by kernel_rfl) (fun _ _ _ h => h) (Or.inl ⟨by rfl, ?_⟩) (by assumption) ?_
    rotate_left 1
    · (intro w hSw; (try dsimp only at hSw); go_simp; try with_reducible rfl)
    try simp only [Act.put, List.setIfInBounds_toArray, List.set_cons_zero, List.set_cons_succ]
    refine wpAnyH_take (i := 1) (v := ?_) rfl (by kernel_rfl) (by kernel_rfl) (by kernel_rfl) (fun _ _ _ h => h) (Or.inl ⟨by rfl, ?_⟩) (by assumption) ?_
    rotate_left 1
    · (intro w hSw; (try dsimp only at hSw); go_simp; try with_reducible rfl)
    try simp only [Act.put, List.setIfInBounds_toArray, List.set_cons_zero, List.set_cons_succ]
    refine wpAnyH_ready (rs := [2]) (by kernel_rfl) (by simp) ?_
    refine AllReadyH.cons rfl (fun K hK => ?_) AllReadyH.nil
    try simp only [List.getElem_toArray, List.getElem_cons_zero, List.getElem_cons_succ]
    go_simp
    go_at_call 101
    refine hList.out.mono ?_
    rintro e w3 ⟨A3, c3, rfl, ho3, hb3⟩
    have hL3 := LS.below hLS.out hb3
    have u73 := hL3.b7.cell
    obtain ⟨vs3, hcb3, hvn3, _⟩ := hL3.rows
    have f3 := hcb3.frozen k
    have k3 := (hcb3.cell k).trans (List.getElem?_eq_getElem (by omega))
    have hL4 := Lib.hid (hPut.out w3 _ hb3 ho3)
    have u74 := hL4.out.b7.cell
    refine hK.out _ _ (u73) (fun hHeld => ?_)
    clear hK K
    try simp only [Act.put, List.setIfInBounds_toArray, List.set_cons_zero, List.set_cons_succ]
    refine wpAnyH_take (i := 3) (v := ?_) rfl (by kernel_rfl) (by kernel_rfl) (by kernel_rfl) (fun _ _ _ h => h) (Or.inl ⟨by rfl, ?_⟩) (by assumption) ?_
    rotate_left 1
    · (intro w hSw; (try dsimp only at hSw); go_simp; try with_reducible rfl)
    try simp only [Act.put, List.setIfInBounds_toArray, List.set_cons_zero, List.set_cons_succ]
    refine wpAnyH_ready (rs := [4]) (by kernel_rfl) (by simp) ?_
    refine AllReadyH.cons rfl (fun K hK => ?_) AllReadyH.nil
    try simp only [List.getElem_toArray, List.getElem_cons_zero, List.getElem_cons_succ]
    go_simp
    refine hK.out _ _ (u74) (fun hHeld => ?_)
    clear hK K
    try simp only [Act.put, List.setIfInBounds_toArray, List.set_cons_zero, List.set_cons_succ]
    refine wpAnyH_done (by kernel_rfl) ?_ _
    try simp only [Act.put, List.setIfInBounds_toArray, List.set_cons_zero, List.set_cons_succ]
    -- REGION 10 END
    have hk4 := Lib.hid (hkp3.out w3 hb3)
    have hkc := Lib.hid (keeps_cb (n := w.heap.size) (Bs := Bs) (k := k) (t := 34) (v := .slice A3 (mkT bn).length c3) hcb3 (by have := Hp.out; omega) (by have := Zb.out; omega))
    have hz3 := Lib.hid hb3.size
    have hL4h := Lib.hid hL4.out
    have hdr : KeepsOthers W2' W2'.drew ∧ KpB w.heap.size Bs 34 W2' W2'.drew := ⟨⟨Nat.le_refl _, fun _ _ h _ => h⟩, (Below.refl _ W2').drew, fun _ h => h⟩
    have hdrh := Lib.hid hdr
    clear hL4 hL3 u73 u74 hcb3 f3 k3 hb3 ho3 hList hPut hLS u7d i0' i1 i2 hvn3 hdr hkp3 D2
    dsimp only [OnlyN]
    gi_wp2
    refine ⟨(((hkp2.out.1.trans hdrh.out.1).trans hk4.out.1).trans hkc.out.1).from _, ((hkp2.out.2.t hdrh.out.2).t hk4.out.2).t hkc.out.2, ?_, ?_⟩
    · rw [HP.out, hF.out]; exact hL4h.out
    · rw [World.size_setCell]; exact Nat.le_trans hWBh.out (Nat.le_trans hz2.out hz3.out)
  case done =>
    rintro D ys W hD rfl ⟨hLS, _⟩ hK
    rw [lsP_all] at hLS
    have hDw : w.heap.size ≤ D := Nat.le_trans B9.out.size hD
    have u7 := hLS.b7.cell
    have hLSh := Lib.hid hLS
    have hKh := Lib.hid hK
    clear hLS hK
    gi_wp2
    have rD : ∀ r, some D = some r → w.heap.size ≤ r ∧ ∃ o : Obj, W.heap[r]? = some o ∧ o.isCells = false := fun r e => by cases e; exact ⟨hDw, _, hKh.out, rfl⟩
    have hL2 := hLSh.out.kept (grownBy_putObj' W D (.deferred none)) rD
    obtain ⟨vs, hcb, hvn, hRX⟩ := hL2.rows
    have hX : OX (W.putObj D (.deferred none)) w.heap.size (W.putObj D (.deferred none)).heap.size (.slice (some ⟨p6 + 1, 0, none⟩) (cs.length + 1) (cs.length + 1)) (lvX bs cs) := by
      refine OX.of (vs := vs) ?_ ⟨hRX.len, fun i h1 h2 => ⟨(hRX.row i h1 h2).1, (hRX.row i h1 h2).2.lower (by have := Hp.out; omega)⟩, hRX.apart⟩
      have h := OK.close (enc := encV) (k := 1) (rest := []) (lo := w.heap.size) (hi := (W.putObj D (.deferred none)).heap.size) (cap := cs.length + 1) (xs := vs) encV_one (by rw [flat_encV, List.append_nil]; exact hcb) (by have := Hp.out; omega) hcb.lt (by omega) (by unfold maxLen; omega) (by rw [flat_encV, List.append_nil, hvn]; omega)
      rw [hvn] at h
      exact h
    refine ⟨by simp, .inl ⟨_, _, rfl, run_takeDeferred hKh.out, ?_⟩⟩
    exact ⟨_, results_tmp2 rfl _ _ _, some ⟨p6 + 1, 0, none⟩, cs.length + 1, by rw [hR.out, hO.out, lvX_len]; rfl, by rw [hR.out, lvX_len]; exact hX, hL2.be⟩
end Go.Proofs.Ythjfedidpjfboaa

namespace Go.Proofs.Ythjfedidpjfboaa
open Go.RowKit
set_option linter.unusedVariables false

/-! ### DepthOf -/
def dstep (i : Nat) (d : List Int) (k : Int) : List Int := d.set i (max (d.getD i 0) (d.getD k.toNat 0 + 1))
def depAt (es : List Nd) : Nat → List Int
  | 0 => List.replicate es.length 0
  | k + 1 => (parts (es.getD k zeroNd)).foldl (dstep k) (depAt es k)
def depR (es : List Nd) : Int := if good es = true then (depAt es es.length).getD (es.length - 1) 0 else 0
theorem depAt_succ {es : List Nd} {k : Nat} (h : k < es.length) : depAt es (k + 1) = (parts es[k]).foldl (dstep k) (depAt es k) := by
  rw [depAt, List.getD_eq_getElem?_getD, List.getElem?_eq_getElem h]; rfl
theorem foldl_dstep_len (i : Nat) (ps : List Int) (u : List Int) : (ps.foldl (dstep i) u).length = u.length := by
  induction ps generalizing u with
  | nil => rfl
  | cons p ps ih => rw [List.foldl_cons, ih]; simp [dstep]
theorem Bd.dstep {c : Int} {u : List Int} (h : Bd c u) (i : Nat) (k : Int) : Bd (c + 1) (dstep i u k) := by
  intro j
  have h1 := h j
  have h2 := h k.toNat
  have h3 := h i
  unfold Proofs.Ythjfedidpjfboaa.dstep
  rw [List.getD_eq_getElem?_getD, List.getElem?_set]
  rw [List.getD_eq_getElem?_getD] at h1
  split
  · split
    · simp only [Option.getD_some]; omega
    · simp; omega
  · omega
theorem foldl_dstep_Bd (i : Nat) (ps : List Int) : ∀ {c : Int} {u : List Int}, Bd c u → Bd (c + ps.length) (ps.foldl (dstep i) u) := by
  induction ps with
  | nil => intro c u h; simpa using h
  | cons p ps ih => intro c u h; rw [List.foldl_cons]; exact (ih (h.dstep i p)).mono (by simp; omega)
theorem depAt_len (es : List Nd) (k : Nat) : (depAt es k).length = es.length := by
  induction k with
  | zero => simp [depAt]
  | succ k ih => rw [depAt, foldl_dstep_len, ih]
theorem depAt_Bd {es : List Nd} {k : Nat} (h : k ≤ es.length) : Bd (2 * k) (depAt es k) := by
  induction k with
  | zero => intro i; rw [depAt, List.getD_eq_getElem?_getD, List.getElem?_replicate]; split <;> simp
  | succ k ih =>
    rw [depAt_succ (by omega)]
    have := parts_len es[k]
    exact (foldl_dstep_Bd k _ (ih (by omega))).mono (by omega)

theorem l1Most_any (a b : Int) (w : World) : Calls Try.prog 102 #[.int .i64 a, .int .i64 b] w fun e w' => e = .returned (.int .i64 (max a b)) ∧ w = w' := by
  by_cases h : b < a
  · go_enter Try.func102, Try.ntmps102
    go_wp2
    go_ret
    exact ⟨ret_int (by omega), rfl⟩
  · go_enter Try.func102, Try.ntmps102
    go_wp2
    go_ret
    exact ⟨ret_int (by omega), rfl⟩

end Go.Proofs.Ythjfedidpjfboaa

/- LiveSets, LiveBefore, MostAlive: both sides. -/
namespace Go.Proofs.Ythjfedidpjfboaa
open Go.RowKit
set_option linter.unusedVariables false
set_option maxRecDepth 100000

theorem lsR_small (cs : List In) (out : List Int) : SmallX (lsR cs out) := by
  unfold lsR
  split
  · rename_i h
    unfold ddOk at h
    rw [Bool.and_eq_true] at h
    have h1 := okCode_len h.1
    have hs : ∀ (bs : List Bool) (l : List In), ((lvX bs l).map List.length).sum ≤ 6 * (l.length + 1) := by
      intro bs l
      induction l with
      | nil => have := mkT_len6 bs; simp [lvX]; omega
      | cons x l ih => have := mkT_len6 (lvS bs (x :: l)); simp only [lvX, List.map_cons, List.sum_cons, List.length_cons]; omega
    refine ⟨by rw [lvX_len]; omega, ?_⟩
    have := hs (setsTo out out.length) cs
    omega
  · exact ⟨by simp, by simp⟩
theorem ddOk_no1 {cs : List In} (out : List Int) (h : okCode cs = false) : ddOk cs out = false ∧ lsR cs out = [] := by
  have h1 : ddOk cs out = false := by unfold ddOk; rw [h]; rfl
  exact ⟨h1, by unfold lsR; rw [h1]; rfl⟩
theorem ddOk_no2 (cs : List In) {out : List Int} (h : riseB out = false) : ddOk cs out = false ∧ lsR cs out = [] := by
  have h1 : ddOk cs out = false := by unfold ddOk; rw [h]; simp
  exact ⟨h1, by unfold lsR; rw [h1]; rfl⟩
theorem ddOk_yes {cs : List In} {out : List Int} (h1 : okCode cs = true) (h2 : riseB out = true) : ddOk cs out = true ∧ lsR cs out = lvX (setsTo out out.length) cs := by
  have h3 : ddOk cs out = true := by unfold ddOk; rw [h1, h2]; rfl
  exact ⟨h3, by unfold lsR; rw [if_pos h3]⟩

set_option maxHeartbeats 4000000 in
theorem iLiveSets_k (L B : Nat) (A : Option Addr) (c : Nat) (cs : List In) (L' B' : Nat) (A' : Option Addr) (c' : Nat) (out : List Int) (w : World) (hl : cs.length ≤ 1048576) (hes : RS In.enc 5 w L B A cs) (hB : B ≤ w.heap.size) (hn : out.length ≤ 1048576) (hns : IS w L' B' A' out) (hB' : B' ≤ w.heap.size) :
    Calls Try.prog 43 #[.slice A cs.length c, .slice A' out.length c'] w (ResLiveSets (lsR cs out) (ddOk cs out) w) := by
  have H := Lib.hid (IsCode_any L B A c cs w hl hes hB)
  cases hk : okCode cs
  · have hR := Lib.hid (ddOk_no1 out hk)
    rw [hk] at H
    clear hk hes hns
    go_enter Try.func43, Try.ntmps43
    go_wp2_with (fail)
    refine H.out.mono ?_
    rintro e w1 ⟨rfl, hb1⟩
    have hbh := Lib.hid hb1
    clear hb1
    go_wp2
    go_ret2
    rw [hR.out.1, hR.out.2]
    exact ⟨none, 0, rfl, OX.nil _ _ _, hbh.out⟩
  cases hr : riseB out
  · have H2 := Lib.hid fun (W : World) (hW : Below w.heap.size w W) => areRegisters_any L' B' A' c' out W hn (hns.below hW hB')
    have hR := Lib.hid (ddOk_no2 cs hr)
    rw [hk] at H
    rw [hr] at H2
    clear hk hr hes hns
    go_enter Try.func43, Try.ntmps43
    go_wp2_with (fail)
    refine H.out.mono ?_
    rintro e w1 ⟨rfl, hb1⟩
    have hbh := Lib.hid hb1
    clear hb1
    go_wp2_with (fail)
    refine (H2.out _ hbh.out).mono ?_
    rintro e w2 ⟨rfl, rfl⟩
    go_wp2
    go_ret2
    rw [hR.out.1, hR.out.2]
    exact ⟨none, 0, rfl, OX.nil _ _ _, hbh.out⟩
  exact iLiveSets_go L B L' B' A A' c c' cs out w hk hr hn hes hB hns hB'
set_option maxHeartbeats 4000000 in
theorem sLiveSets_k (L B : Nat) (A : Option Addr) (c : Nat) (cs : List In) (L' B' : Nat) (A' : Option Addr) (c' : Nat) (out : List Int) (w : World) (hl : cs.length ≤ 1048576) (hes : RS In.enc 5 w L B A cs) (hB : B ≤ w.heap.size) (hn : out.length ≤ 1048576) (hns : IS w L' B' A' out) (hB' : B' ≤ w.heap.size) :
    Calls Try.prog 42 #[.slice A cs.length c, .slice A' out.length c'] w (ResLiveSets (lsR cs out) (ddOk cs out) w) := by
  have H := Lib.hid (cdCode_any L B A c cs w hl hes hB)
  cases hk : okCode cs
  · have hR := Lib.hid (ddOk_no1 out hk)
    rw [hk] at H
    clear hk hes hns
    go_enter Try.func42, Try.ntmps42
    go_wp2_with (fail)
    refine H.out.mono ?_
    rintro e w1 ⟨rfl, hb1⟩
    have hbh := Lib.hid hb1
    clear hb1
    go_wp2
    go_ret2
    rw [hR.out.1, hR.out.2]
    exact ⟨none, 0, rfl, OX.nil _ _ _, hbh.out⟩
  have H2 := Lib.hid fun (W : World) (hW : Below w.heap.size w W) => cdWanted_any L' B' A' c' out W hn (hns.below hW hB')
  cases hr : riseB out
  · have hR := Lib.hid (ddOk_no2 cs hr)
    rw [hk] at H
    rw [hr] at H2
    clear hk hr hes hns
    go_enter Try.func42, Try.ntmps42
    go_wp2_with (fail)
    refine H.out.mono ?_
    rintro e w1 ⟨rfl, hb1⟩
    have hbh := Lib.hid hb1
    clear hb1
    go_wp2_with (fail)
    refine (H2.out _ hbh.out).mono ?_
    rintro e w2 ⟨rfl, rfl⟩
    go_wp2
    go_ret2
    rw [hR.out.1, hR.out.2]
    exact ⟨none, 0, rfl, OX.nil _ _ _, hbh.out⟩
  have hR := Lib.hid (ddOk_yes hk hr)
  have hX := Lib.hid fun (W : World) (hW : Below w.heap.size w W) => (show Calls Try.prog 100 #[.slice A cs.length c, .slice A' out.length c'] W (SetsGot W (lvX (setsTo out out.length) cs)) from by
    have h := cdSets_any L B L' B' A A' c c' cs (setsTo out out.length) W (okCode_len hk) (okCode_all hk) (setsTo_len _ _) (hes.below hW hB) (Nat.le_trans hB hW.size) (by rw [(rise_bits hr).2]; exact hns.below hW hB') (Nat.le_trans hB' hW.size)
    rw [(rise_bits hr).2] at h
    exact h)
  rw [hk] at H
  rw [hr] at H2
  clear hk hr hes hns
  generalize lvX (setsTo out out.length) cs = X at *
  go_enter Try.func42, Try.ntmps42
  go_wp2_with (fail)
  refine H.out.mono ?_
  rintro e w1 ⟨rfl, hb1⟩
  have hbh := Lib.hid hb1
  clear hb1
  go_wp2_with (fail)
  refine (H2.out _ hbh.out).mono ?_
  rintro e w2 ⟨rfl, rfl⟩
  go_wp2_with (fail)
  refine (hX.out _ hbh.out).mono ?_
  rintro e w3 ⟨A3, c3, rfl, ho3, hb3⟩
  have hO3 := Lib.hid ho3
  have hB3 := Lib.hid (hbh.out.trans (hb3.mono hbh.out.size))
  have hz := Lib.hid hbh.out.size
  clear ho3 hb3
  go_wp2
  go_ret2
  rw [hR.out.1, hR.out.2]
  refine ⟨A3, c3, rfl, ?_, hB3.out⟩
  obtain ⟨vs, hOv, hRX⟩ := hO3.out.parts
  exact OX.of (hOv.lower hz.out) ⟨hRX.len, fun i h1 h2 => ⟨(hRX.row i h1 h2).1, (hRX.row i h1 h2).2.lower hz.out⟩, hRX.apart⟩
theorem OX.lower {w : World} {lo lo' hi : Nat} {v : Value} {xss : List (List Int)} (h : OX w lo hi v xss) (hl : lo' ≤ lo) : OX w lo' hi v xss := by
  obtain ⟨vs, hOv, hRX⟩ := h.parts
  exact OX.of (hOv.lower hl) ⟨hRX.len, fun i h1 h2 => ⟨(hRX.row i h1 h2).1, (hRX.row i h1 h2).2.lower hl⟩, hRX.apart⟩
end Go.Proofs.Ythjfedidpjfboaa

/- An own slice's length is within its capacity. -/
namespace Go.Proofs.Ythjfedidpjfboaa
open Go.RowKit
theorem OK.cap {α : Type} {enc : α → List Value} {k : Nat} {t : TypeId} {w : World} {lo hi n c : Nat} {A : Option Addr} {xs : List α} (h : OK enc k t w lo hi (.slice A n c) xs) : n ≤ c := by
  rcases h.1.2 with ⟨hv, _⟩ | ⟨g, cap, cur, hv, _, _, h1, _⟩
  · injection hv with _ h2 h3; omega
  · injection hv with _ h2 h3; omega
end Go.Proofs.Ythjfedidpjfboaa

/- (*swapper).swap of the program. -/
namespace Go.Proofs.Ythjfedidpjfboaa
open Go.RowKit
set_option linter.unusedVariables false
set_option maxRecDepth 100000

theorem grownBy_setCell1 (W : World) (b : Nat) (v : Value) : W.grownBy (W.setCell ⟨b, 1, none⟩ v) (some b) :=
  ⟨rfl, rfl, rfl, (KeepsWalks.setCell W _ v).size, fun k _ hk => Below.heap_setCell _ _ _ k (fun e => hk (by rw [e]))⟩
theorem own_ne_cb {w : World} {base size m b : Nat} {e t : TypeId} {v : Value} {cur xs : List Value} (h : w.ownsRow base e size v m xs) (hb : CB t w b cur) (hne : e ≠ t) : v.ownBlock ≠ some b := by
  intro hv
  rcases h.2 with ⟨rfl, _⟩ | ⟨g, cap, cur', rfl, _, hh, _⟩
  · simp [Value.ownBlock] at hv
  · have e1 : g = b := by simpa [Value.ownBlock] using hv
    subst e1
    unfold CB at hb
    rw [hh] at hb
    injection hb with hb
    injection hb with _ h9
    exact hne h9
theorem row_ne2 {w : World} {L1 L2 k1 k2 n1 n2 : Nat} {t1 t2 : TypeId} {v1 v2 : Value} {x1 x2 : List Value} (h1 : w.ownsRow L1 t1 k1 v1 n1 x1) (h2 : w.ownsRow L2 t2 k2 v2 n2 x2) (ht : t1 ≠ t2) : ∀ j, v1.ownBlock = some j → v2.ownBlock ≠ some j := by
  intro j e1 e2
  rcases h1.2 with ⟨rfl, _⟩ | ⟨g, cap, cur, rfl, _, hh, _⟩
  · simp [Value.ownBlock] at e1
  · rcases h2.2 with ⟨rfl, _⟩ | ⟨g', cap', cur', rfl, _, hh', _⟩
    · simp [Value.ownBlock] at e2
    · have a1 : g = j := by simpa [Value.ownBlock] using e1
      have a2 : g' = j := by simpa [Value.ownBlock] using e2
      subst a1; subst a2
      rw [hh] at hh'; injection hh' with hh'; injection hh' with _ h9
      exact ht h9
/-- Code that is read: an argument's (below n0), or one of the call's own. -/
def CodeAt (w : World) (n0 : Nat) (o : Bool) (V : Value) (es : List In) : Prop := ∃ A c, V = .slice A es.length c ∧ es.length ≤ c ∧ ((o = false ∧ RS In.enc 5 w 0 n0 A es) ∨ OK In.enc 5 90 w n0 w.heap.size V es)
theorem CodeAt.form {w : World} {n0 : Nat} {o : Bool} {V : Value} {es : List In} (h : CodeAt w n0 o V es) (hn : n0 ≤ w.heap.size) : ∃ A c, V = .slice A es.length c ∧ RS In.enc 5 w 0 w.heap.size A es ∧ es.length ≤ c := by
  obtain ⟨A, c, rfl, hcap, ⟨ho, h⟩ | h⟩ := h
  · exact ⟨A, c, rfl, h.more (Nat.le_refl _) hn, hcap⟩
  · obtain ⟨A', c', e, hr⟩ := h.form In.hk
    injection e with e1 e2 e3
    subst e1
    exact ⟨A, c, rfl, hr.more (Nat.zero_le _) (Nat.le_refl _), hcap⟩
theorem CodeAt.own {w : World} {n0 : Nat} {V : Value} {es : List In} (h : CodeAt w n0 true V es) : ∃ A c, V = .slice A es.length c ∧ OK In.enc 5 90 w n0 w.heap.size V es := by
  obtain ⟨A, c, rfl, hcap, ⟨ho, h⟩ | h⟩ := h
  · cases ho
  · exact ⟨A, c, rfl, h⟩
theorem CodeAt.below {w w' : World} {n0 : Nat} {o : Bool} {V : Value} {es : List In} (h : CodeAt w n0 o V es) (hn : n0 ≤ w.heap.size) (hb : Below w.heap.size w w') : CodeAt w' n0 o V es := by
  obtain ⟨A, c, rfl, hcap, ⟨ho, h⟩ | h⟩ := h
  · exact ⟨A, c, rfl, hcap, .inl ⟨ho, h.below hb hn⟩⟩
  · exact ⟨A, c, rfl, hcap, .inr ((h.below hb (Nat.le_refl _)).more hb.size)⟩
/-- One block turns, or grows, that is not the code's own. -/
theorem CodeAt.grown {w w' : World} {n0 : Nat} {o : Bool} {V : Value} {es : List In} {row : Option Nat} (h : CodeAt w n0 o V es) (hn : n0 ≤ w.heap.size) (hg : w.grownBy w' row) (h0 : ∀ j, row = some j → n0 ≤ j) (hne : ∀ (L : Nat) (n : Nat) (xs : List Value), w.ownsRow L 90 5 V n xs → V.ownBlock = none ∨ V.ownBlock ≠ row) : CodeAt w' n0 o V es := by
  obtain ⟨A, c, rfl, hcap, ⟨ho, h⟩ | h⟩ := h
  · exact ⟨A, c, rfl, hcap, .inl ⟨ho, h.keep fun p _ hp => World.cell?_of_block (w := w) (hg.block _ (by omega) (fun e => by have := h0 _ e.symm; omega))⟩⟩
  · exact ⟨A, c, rfl, hcap, .inr (OK.more ⟨h.1.kept hg (hne _ _ _ h.1), h.2⟩ hg.size)⟩

/-- A swapper in its box: the code, and the path of the call's own. -/
structure SwSt (w0 : World) (g : Nat) (o : Bool) (V P : Value) (es : List In) (p : List Int) (w : World) : Prop where
  hg : w0.heap.size ≤ g
  bx : CB 94 w g [V, P]
  code : CodeAt w w0.heap.size o V es
  path : OW w (g + 1) w.heap.size P p
  be : Below w0.heap.size w0 w
theorem SwSt.below {w0 w w' : World} {g : Nat} {o : Bool} {V P : Value} {es : List In} {p : List Int} (h : SwSt w0 g o V P es p w) (hb : Below w.heap.size w w') : SwSt w0 g o V P es p w' :=
  ⟨h.hg, h.bx.below hb h.bx.lt, h.code.below h.be.size hb, (h.path.below hb (Nat.le_refl _)).more hb.size, h.be.trans (hb.mono h.be.size)⟩
theorem SwSt.setCode {w0 w : World} {g : Nat} {o o' : Bool} {V P V' : Value} {es es' : List In} {p : List Int} (h : SwSt w0 g o V P es p w) (hc : CodeAt w w0.heap.size o' V' es') : SwSt w0 g o' V' P es' p (w.setCell ⟨g, 0, none⟩ V') := by
  have hg := h.hg
  have gr := grownBy_setCell' w g V'
  have hz : (w.setCell ⟨g, 0, none⟩ V').heap.size = w.heap.size := World.size_setCell _ _ _
  have hx := h.bx.set 0 V'
  refine ⟨hg, by simpa using hx, ?_, ?_, h.be.setCell (p := ⟨g, 0, none⟩) hg V'⟩
  · have := hc.grown h.be.size gr (fun j e => by cases e; exact hg) (fun L n xs ho => .inr (own_ne_cb ho h.bx (by decide)))
    exact this
  · have := h.path.chg ((Chg.refl g (g + 1) w).setCell (p := ⟨g, 0, none⟩) ⟨Nat.le_refl _, Nat.lt_succ_self _⟩ V') (.inr (Nat.le_refl _))
    rw [hz]; exact this
theorem SwSt.push {w0 w w' : World} {g : Nat} {o : Bool} {V P P' : Value} {es : List In} {p : List Int} {i : Int} (h : SwSt w0 g o V P es p w) (hown : w'.ownsRow (g + 1) 3 1 P' (p.length + 1) (p.map (Value.int .i64) ++ [.int .i64 i])) (hgr : w.grownBy w' P.ownBlock) : SwSt w0 g o V P' es (p ++ [i]) (w'.setCell ⟨g, 1, none⟩ P') := by
  have hg := h.hg
  have hlo := h.path.lo
  have hne : P.ownBlock ≠ some g := own_ne_cb h.path.1 h.bx (by decide)
  have hb1 : CB 94 w' g [V, P] := (hgr.block g h.bx.lt (fun e => hne e.symm)).trans h.bx
  have hc1 : CodeAt w' w0.heap.size o V es := h.code.grown h.be.size hgr (fun j e => by have := (hlo j e).1; omega) (fun L n xs ho => by
    rcases hV : V.ownBlock with _ | j
    · exact .inl rfl
    · exact .inr (fun e => row_ne2 ho h.path.1 (by decide) j hV e.symm))
  have hz : (w'.setCell ⟨g, 1, none⟩ P').heap.size = w'.heap.size := World.size_setCell _ _ _
  have hbe := h.be.grown hgr h.be.size (fun j e => by have := (hlo j e).1; omega)
  have hx := hb1.set 1 P'
  refine ⟨hg, by simpa using hx, ?_, ?_, hbe.setCell (p := ⟨g, 1, none⟩) hg P'⟩
  · exact hc1.grown hbe.size (grownBy_setCell1 w' g P') (fun j e => by cases e; exact hg) (fun L n xs ho => .inr (own_ne_cb ho hb1 (by decide)))
  · have := (OW.push hown).chg ((Chg.refl g (g + 1) w').setCell (p := ⟨g, 1, none⟩) ⟨Nat.le_refl _, Nat.lt_succ_self _⟩ P') (.inr (Nat.le_refl _))
    rw [hz]; exact this

def SwRet (w0 : World) (g : Nat) (o : Option Mv) (e : Ending) (w' : World) : Prop := e = .returned (.bool o.isSome) ∧ Below w0.heap.size w0 w' ∧ ∀ s, o = some s → ∃ V' P', SwSt w0 g true V' P' s.1 s.2 w'
theorem mvS_no {st : Mv} {i : Int} (h : swOk st.1 i = false) : mvS st i = none := by unfold mvS; rw [if_neg]; rintro ⟨h1, _⟩; rw [h] at h1; cases h1
theorem mvS_full {st : Mv} {i : Int} (h : st.2.length = 100) : mvS st i = none := by unfold mvS; rw [if_neg]; rintro ⟨_, h1⟩; exact h1 h
theorem mvS_yes {st : Mv} {i : Int} (h : swOk st.1 i = true) (h2 : st.2.length ≠ 100) : mvS st i = some (swapR st.1 i, st.2 ++ [i]) := by unfold mvS; rw [if_pos ⟨h, h2⟩]

set_option maxHeartbeats 4000000 in
theorem swap_any (w0 : World) (g : Nat) (o : Bool) (V P : Value) (es : List In) (p : List Int) (i : Int) (w : World) (hl : es.length ≤ 1048576) (hp : p.length ≤ 100) (h : SwSt w0 g o V P es p w) :
    Calls Try.prog 85 #[.pointer (some ⟨g, 0, none⟩), .int .i64 i] w (SwRet w0 g (mvS (es, p) i)) := by
  obtain ⟨i0, hi, hz0, hz1, hz2⟩ := info_parts Try.infoInt
  have hI := Lib.hid hi
  have hZ0 := Lib.hid hz0
  have hZ1 := Lib.hid hz1
  have hZ2 := Lib.hid hz2
  clear hi hz0 hz1 hz2
  obtain ⟨A, c, rfl, hrs, _⟩ := h.code.form h.be.size
  obtain ⟨PA, pc, rfl, _⟩ := h.path.form
  have hSw := Lib.hid (iSwap_any 0 w.heap.size A c es i w hl hrs (Nat.le_refl _))
  have hSt := Lib.hid h
  have u0 := h.bx.cell 0
  simp only [List.getElem?_cons_zero] at u0
  clear h hrs
  go_enter Try.func85, Try.ntmps85
  go_wp2_with (fail)
  refine hSw.out.mono ?_
  rintro e w1 ⟨A1, c1, rfl, ho1, hb1⟩
  have h1 := hSt.out.below hb1
  have hBe := Lib.hid h1.be
  have hS1 := Lib.hid h1
  have hC1 : Hid (CodeAt w1 w0.heap.size true (.slice A1 (swapR es i).length c1) (swapR es i)) := ⟨A1, c1, rfl, OK.cap ho1, .inr (ho1.lower hSt.out.be.size)⟩
  have v1 := h1.bx.cell 1
  have v0 := h1.bx.cell 0
  have f0 := h1.bx.frozen 0
  have f1 := h1.bx.frozen 1
  simp only [List.getElem?_cons_zero, List.getElem?_cons_succ] at v1 v0
  clear u0 hSw ho1 hb1 h1 hSt
  cases hs : swOk es i
  · have hN := Lib.hid (mvS_no (st := (es, p)) hs)
    clear hs
    go_wp2
    go_ret
    exact ⟨by rw [hN.out]; rfl, hBe.out, fun s e => by rw [hN.out] at e; cases e⟩
  by_cases h100 : p.length = 100
  · have hN := Lib.hid (mvS_full (st := (es, p)) (i := i) h100)
    have hq : ((p.length : Int) == 100) = true := by simp; omega
    clear hs h100
    go_wp2
    go_ret
    exact ⟨by rw [hN.out]; rfl, hBe.out, fun s e => by rw [hN.out] at e; cases e⟩
  have hN := Lib.hid (mvS_yes (st := (es, p)) hs h100)
  have hq : ((p.length : Int) == 100) = false := by simp; omega
  have hS2 := Lib.hid (hS1.out.setCode hC1.out)
  have hpl : p.length < 100 := by omega
  clear hs h100 v1 v0 f0 f1
  have v1 := hS1.out.bx.cell 1
  have v0 := hS1.out.bx.cell 0
  have f0 := hS1.out.bx.frozen 0
  have w1' := hS2.out.bx.cell 1
  have g1 := hS2.out.bx.frozen 1
  simp only [List.getElem?_cons_zero, List.getElem?_cons_succ] at v1 v0 w1'
  have A3 := (Below.refl (w1.setCell ⟨g, 0, none⟩ (.slice A1 (swapR es i).length c1)).heap.size _).alloc (Nat.le_refl _) (.cells #[.int .i64 i] 3)
  have hS3 := Lib.hid (hS2.out.below A3)
  have hO3 := Lib.hid hS3.out.path.1
  have hBx3 := Lib.hid hS3.out.bx
  have hzz : Hid (g + 1 ≤ ((w1.setCell ⟨g, 0, none⟩ (.slice A1 (swapR es i).length c1)).alloc (.cells #[.int .i64 i] 3)).heap.size) := hS3.out.bx.lt
  clear A3
  go_wp2_with (at_builtin; go_loud (refine wpList_append_own _ rfl _ _ 32 rfl (g + 1) 3 i0 (.int .i64 0) 1 8 Try.underlying32 hI.out hZ0.out hZ1.out hZ2.out rfl (by decide) _ p.length _ rfl hO3.out ⟨w1.heap.size, 0, none⟩ 1 1 [.int .i64 i] rfl rfl (new1 (World.size_setCell _ _ _)) (one1 _) (by unfold maxLen; omega) (by omega) hzz.out ?_); intro v' w4 hown4 hgr4 _; have hb4 : CB 94 w4 g [.slice A1 (swapR es i).length c1, .slice PA p.length pc] := (hgr4.block g hBx3.out.lt (fun e => own_ne_cb hO3.out hBx3.out (by decide) e.symm)).trans hBx3.out; have f4 := hb4.frozen 1; have x4 := hb4.cell 1; simp only [List.getElem?_cons_zero, List.getElem?_cons_succ] at x4; obtain ⟨ga, ca, rfl⟩ := ownsRow_succ hown4)
  have hFin := Lib.hid (hS3.out.push hown4 hgr4)
  clear hown4 hgr4 hb4
  go_ret
  refine ⟨by rw [hN.out]; rfl, hFin.out.be, fun s e => ?_⟩
  rw [hN.out] at e
  injection e with e
  subst e
  exact ⟨_, _, hFin.out⟩
end Go.Proofs.Ythjfedidpjfboaa

namespace Go.Proofs.Ythjfedidpjfboaa
open Go.RowKit
set_option linter.unusedVariables false

def ResFollowPath (R0 : List (In)) (R1 : Bool) (w : World) (e : Ending) (w' : World) : Prop := ∃ (A0 : Option Addr) (c0 : Nat), e = .returned (.tuple #[.slice A0 R0.length c0, .bool R1]) ∧ OK In.enc 5 90 w' w.heap.size w'.heap.size (.slice A0 R0.length c0) R0 ∧ Below w.heap.size w w'
set_option maxHeartbeats 4000000 in
theorem lawFollowPath (A0 : Option Addr) (c0 : Nat) (a0 : List In) (A1 : Option Addr) (c1 : Nat) (a1 : List Int) (w : World) (hl0 : a0.length ≤ 9223372036854775807) (h0 : RS In.enc 5 w 0 w.heap.size A0 a0) (hs0 : ∀ n ∈ a0, n.op.size ≤ 9223372036854775807) (hl1 : a1.length ≤ 9223372036854775807) (h1 : IS w 0 w.heap.size A1 a1) (R0 : List (In)) (R1 : Bool) (hR0 : R0.length ≤ 1048576)
    (hS : ∀ (L0 B0 : Nat) (A0 : Option Addr) (c0 : Nat) (L1 B1 : Nat) (A1 : Option Addr) (c1 : Nat) (w : World), a0.length ≤ 1048576 → RS In.enc 5 w L0 B0 A0 a0 → B0 ≤ w.heap.size → a1.length ≤ 1048576 → IS w L1 B1 A1 a1 → B1 ≤ w.heap.size → Calls Try.prog 26 #[.slice A0 a0.length c0, .slice A1 a1.length c1] w (ResFollowPath R0 R1 w))
    (hI : ∀ (L0 B0 : Nat) (A0 : Option Addr) (c0 : Nat) (L1 B1 : Nat) (A1 : Option Addr) (c1 : Nat) (w : World), a0.length ≤ 1048576 → RS In.enc 5 w L0 B0 A0 a0 → B0 ≤ w.heap.size → a1.length ≤ 1048576 → IS w L1 B1 A1 a1 → B1 ≤ w.heap.size → Calls Try.prog 29 #[.slice A0 a0.length c0, .slice A1 a1.length c1] w (ResFollowPath R0 R1 w)) :
    Calls Try.prog 4 #[.slice A0 a0.length c0, .slice A1 a1.length c1] w fun e w' => e = .returned (.bool true) ∧ Below w.heap.size w w' := by
  have S := Lib.hid hS
  have I := Lib.hid hI
  have E0 := Lib.hid h0
  have E1 := Lib.hid h1
  have Z0 := Lib.hid hs0
  clear hS hI h0 h1 hs0
  by_cases g1 : a1.length ≤ 1048576
  rotate_left
  · have g1' : (1048576 : Int) < (a1.length : Int) := by omega
    clear g1
    go_enter Try.func4, Try.ntmps4
    go_wp2
    go_ret
    exact ⟨rfl, Below.refl _ _⟩
  have b0 := Lib.hid (Below.refl w.heap.size w)
  go_enter Try.func4, Try.ntmps4
  go_wp2_with (fail)
  refine (szInstrS_any 0 _ A0 c0 a0 1048576 _ hl0 (E0.out.below b0.out (Nat.le_refl _)) b0.out.size Z0.out (by omega) (by omega)).mono ?_
  rintro e w1 ⟨r0, rfl, hr0a, hr0b, hr0c, hb⟩
  have b1 := Lib.hid (b0.out.trans (hb.mono b0.out.size))
  have z1 := hb.size
  clear hb
  by_cases hr0 : 0 ≤ r0
  rotate_left
  · go_wp2
    go_ret
    exact ⟨rfl, b1.out⟩
  have hlen0 : a0.length ≤ 1048576 := by have := hr0b hr0; omega
  clear hr0b
  have hlen1 : a1.length ≤ 1048576 := g1
  have e1 : (R1 != R1) = false := by simp
  go_wp2_with (fail)
  refine (toInstrS_any 0 _ A0 c0 a0 _ hlen0 (E0.out.below b1.out (Nat.le_refl _)) b1.out.size).mono ?_
  rintro e w2 ⟨Ap0, cp0, rfl, ho, hb⟩
  have b2 := Lib.hid (b1.out.trans (hb.mono b1.out.size))
  have z2 := hb.size
  clear hb
  have op0 := Lib.hid ho
  clear ho
  go_wp2_with (fail)
  refine (toIntS_any 0 _ A1 c1 a1 _ hlen1 (E1.out.below b2.out (Nat.le_refl _)) b2.out.size).mono ?_
  rintro e w3 ⟨Ap1, cp1, rfl, ho, hb⟩
  have b3 := Lib.hid (b2.out.trans (hb.mono b2.out.size))
  have z3 := hb.size
  replace op0 := Lib.hid (op0.out.chg (Chg.ofBelow (lo := 0) (hi := 0) hb) (.inr (Nat.zero_le _)))
  clear hb
  have op1 := Lib.hid ho
  clear ho
  go_wp2_with (fail)
  refine (S.out _ _ _ _ _ _ _ _ _ hlen0 (In.rs op0.out) (by omega) hlen1 (OW.rs op1.out) (by omega)).mono ?_
  rintro e w4 ⟨AW0, cW0, rfl, ho0, hb⟩
  have b4 := Lib.hid (b3.out.trans (hb.mono b3.out.size))
  have z4 := hb.size
  replace op0 := Lib.hid (op0.out.chg (Chg.ofBelow (lo := 0) (hi := 0) hb) (.inr (Nat.zero_le _)))
  replace op1 := Lib.hid (op1.out.chg (Chg.ofBelow (lo := 0) (hi := 0) hb) (.inr (Nat.zero_le _)))
  clear hb
  have oW0 := Lib.hid ho0
  clear ho0
  go_wp2_with (fail)
  refine (toInstrS_any 0 _ A0 c0 a0 _ hlen0 (E0.out.below b4.out (Nat.le_refl _)) b4.out.size).mono ?_
  rintro e w5 ⟨Aq0, cq0, rfl, ho, hb⟩
  have b5 := Lib.hid (b4.out.trans (hb.mono b4.out.size))
  have z5 := hb.size
  replace oW0 := Lib.hid (oW0.out.chg (Chg.ofBelow (lo := 0) (hi := 0) hb) (.inr (Nat.zero_le _)))
  clear hb
  have oq0 := Lib.hid ho
  clear ho
  go_wp2_with (fail)
  refine (toIntS_any 0 _ A1 c1 a1 _ hlen1 (E1.out.below b5.out (Nat.le_refl _)) b5.out.size).mono ?_
  rintro e w6 ⟨Aq1, cq1, rfl, ho, hb⟩
  have b6 := Lib.hid (b5.out.trans (hb.mono b5.out.size))
  have z6 := hb.size
  replace oW0 := Lib.hid (oW0.out.chg (Chg.ofBelow (lo := 0) (hi := 0) hb) (.inr (Nat.zero_le _)))
  replace oq0 := Lib.hid (oq0.out.chg (Chg.ofBelow (lo := 0) (hi := 0) hb) (.inr (Nat.zero_le _)))
  clear hb
  have oq1 := Lib.hid ho
  clear ho
  go_wp2_with (fail)
  refine (I.out _ _ _ _ _ _ _ _ _ hlen0 (In.rs oq0.out) (by omega) hlen1 (OW.rs oq1.out) (by omega)).mono ?_
  rintro e w7 ⟨AG0, cG0, rfl, ho0, hb⟩
  have b7 := Lib.hid (b6.out.trans (hb.mono b6.out.size))
  have z7 := hb.size
  replace oW0 := Lib.hid (oW0.out.chg (Chg.ofBelow (lo := 0) (hi := 0) hb) (.inr (Nat.zero_le _)))
  replace oq0 := Lib.hid (oq0.out.chg (Chg.ofBelow (lo := 0) (hi := 0) hb) (.inr (Nat.zero_le _)))
  replace oq1 := Lib.hid (oq1.out.chg (Chg.ofBelow (lo := 0) (hi := 0) hb) (.inr (Nat.zero_le _)))
  clear hb
  have oG0 := Lib.hid ho0
  clear ho0
  go_wp2_with (fail)
  refine (eqInstrS_any _ _ _ _ _ _ _ _ _ _ R0 R0 _ rfl rfl hR0 (In.rs oG0.out) (In.rs oW0.out) (by omega) (by omega) rfl).mono ?_
  rintro e w8 ⟨rfl, hb⟩
  have b8 := Lib.hid (b7.out.trans (hb.mono b7.out.size))
  have z8 := hb.size
  replace oW0 := Lib.hid (oW0.out.chg (Chg.ofBelow (lo := 0) (hi := 0) hb) (.inr (Nat.zero_le _)))
  replace oq0 := Lib.hid (oq0.out.chg (Chg.ofBelow (lo := 0) (hi := 0) hb) (.inr (Nat.zero_le _)))
  replace oq1 := Lib.hid (oq1.out.chg (Chg.ofBelow (lo := 0) (hi := 0) hb) (.inr (Nat.zero_le _)))
  replace oG0 := Lib.hid (oG0.out.chg (Chg.ofBelow (lo := 0) (hi := 0) hb) (.inr (Nat.zero_le _)))
  clear hb
  go_wp2_with (fail)
  refine (toInstrS_any 0 _ A0 c0 a0 _ hlen0 (E0.out.below b8.out (Nat.le_refl _)) b8.out.size).mono ?_
  rintro e w9 ⟨As0, cs0, rfl, ho, hb⟩
  have b9 := Lib.hid (b8.out.trans (hb.mono b8.out.size))
  have z9 := hb.size
  replace oW0 := Lib.hid (oW0.out.chg (Chg.ofBelow (lo := 0) (hi := 0) hb) (.inr (Nat.zero_le _)))
  replace oq0 := Lib.hid (oq0.out.chg (Chg.ofBelow (lo := 0) (hi := 0) hb) (.inr (Nat.zero_le _)))
  replace oq1 := Lib.hid (oq1.out.chg (Chg.ofBelow (lo := 0) (hi := 0) hb) (.inr (Nat.zero_le _)))
  replace oG0 := Lib.hid (oG0.out.chg (Chg.ofBelow (lo := 0) (hi := 0) hb) (.inr (Nat.zero_le _)))
  clear hb
  have os0 := Lib.hid ho
  clear ho
  go_wp2_with (fail)
  refine (eqInstrS_any _ _ _ _ _ _ _ _ _ _ a0 a0 _ rfl rfl hlen0 (In.rs oq0.out) (In.rs os0.out) (by omega) (by omega) rfl).mono ?_
  rintro e w10 ⟨rfl, hb⟩
  have b10 := Lib.hid (b9.out.trans (hb.mono b9.out.size))
  have z10 := hb.size
  replace oW0 := Lib.hid (oW0.out.chg (Chg.ofBelow (lo := 0) (hi := 0) hb) (.inr (Nat.zero_le _)))
  replace oq0 := Lib.hid (oq0.out.chg (Chg.ofBelow (lo := 0) (hi := 0) hb) (.inr (Nat.zero_le _)))
  replace oq1 := Lib.hid (oq1.out.chg (Chg.ofBelow (lo := 0) (hi := 0) hb) (.inr (Nat.zero_le _)))
  replace oG0 := Lib.hid (oG0.out.chg (Chg.ofBelow (lo := 0) (hi := 0) hb) (.inr (Nat.zero_le _)))
  replace os0 := Lib.hid (os0.out.chg (Chg.ofBelow (lo := 0) (hi := 0) hb) (.inr (Nat.zero_le _)))
  clear hb
  go_wp2_with (fail)
  refine (toIntS_any 0 _ A1 c1 a1 _ hlen1 (E1.out.below b10.out (Nat.le_refl _)) b10.out.size).mono ?_
  rintro e w11 ⟨As1, cs1, rfl, ho, hb⟩
  have b11 := Lib.hid (b10.out.trans (hb.mono b10.out.size))
  have z11 := hb.size
  replace oW0 := Lib.hid (oW0.out.chg (Chg.ofBelow (lo := 0) (hi := 0) hb) (.inr (Nat.zero_le _)))
  replace oq0 := Lib.hid (oq0.out.chg (Chg.ofBelow (lo := 0) (hi := 0) hb) (.inr (Nat.zero_le _)))
  replace oq1 := Lib.hid (oq1.out.chg (Chg.ofBelow (lo := 0) (hi := 0) hb) (.inr (Nat.zero_le _)))
  replace oG0 := Lib.hid (oG0.out.chg (Chg.ofBelow (lo := 0) (hi := 0) hb) (.inr (Nat.zero_le _)))
  clear hb
  have os1 := Lib.hid ho
  clear ho
  go_wp2_with (fail)
  refine (eqIntS_any _ _ _ _ _ _ _ _ _ _ a1 a1 _ rfl rfl hlen1 (OW.rs oq1.out) (OW.rs os1.out) (by omega) (by omega) rfl).mono ?_
  rintro e w12 ⟨rfl, hb⟩
  have b12 := Lib.hid (b11.out.trans (hb.mono b11.out.size))
  have z12 := hb.size
  replace oW0 := Lib.hid (oW0.out.chg (Chg.ofBelow (lo := 0) (hi := 0) hb) (.inr (Nat.zero_le _)))
  replace oq0 := Lib.hid (oq0.out.chg (Chg.ofBelow (lo := 0) (hi := 0) hb) (.inr (Nat.zero_le _)))
  replace oq1 := Lib.hid (oq1.out.chg (Chg.ofBelow (lo := 0) (hi := 0) hb) (.inr (Nat.zero_le _)))
  replace oG0 := Lib.hid (oG0.out.chg (Chg.ofBelow (lo := 0) (hi := 0) hb) (.inr (Nat.zero_le _)))
  replace os1 := Lib.hid (os1.out.chg (Chg.ofBelow (lo := 0) (hi := 0) hb) (.inr (Nat.zero_le _)))
  clear hb
  go_wp2_with (fail)
  refine (markInstrS_any _ _ _ _ a0 (1) _ hlen0 (by omega) (by omega) oq0.out).mono ?_
  rintro e w13 ⟨rfl, _, hc⟩
  have b13 := Lib.hid (below_chg b12.out hc b12.out.size (by omega))
  have z13 := hc.size
  replace oW0 := Lib.hid (oW0.out.chg hc (by omega))
  replace oq1 := Lib.hid (oq1.out.chg hc (by omega))
  replace oG0 := Lib.hid (oG0.out.chg hc (by omega))
  clear hc
  go_wp2_with (fail)
  refine (markIntS_c _ _ _ _ a1 (1 + 5 * (a0.length : Int)) _ hlen1 (by omega) (by omega) oq1.out).mono ?_
  rintro e w14 ⟨rfl, _, hc⟩
  have b14 := Lib.hid (below_chg b13.out hc b13.out.size (by omega))
  have z14 := hc.size
  replace oW0 := Lib.hid (oW0.out.chg hc (by omega))
  replace oG0 := Lib.hid (oG0.out.chg hc (by omega))
  clear hc
  have hk : (0 : Int) ≤ 1 + 5 * (a0.length : Int) + (a1.length : Int) := by omega
  go_wp2_with (fail)
  refine (eqInstrS_any _ _ _ _ _ _ _ _ _ _ R0 R0 _ rfl rfl hR0 (In.rs oG0.out) (In.rs oW0.out) (by omega) (by omega) rfl).mono ?_
  rintro e w15 ⟨rfl, hb⟩
  have b15 := Lib.hid (b14.out.trans (hb.mono b14.out.size))
  have z15 := hb.size
  replace oW0 := Lib.hid (oW0.out.chg (Chg.ofBelow (lo := 0) (hi := 0) hb) (.inr (Nat.zero_le _)))
  replace oG0 := Lib.hid (oG0.out.chg (Chg.ofBelow (lo := 0) (hi := 0) hb) (.inr (Nat.zero_le _)))
  clear hb
  go_wp2_with (fail)
  refine (markInstrS_any _ _ _ _ R0 (1) _ hR0 (by omega) (by omega) oG0.out).mono ?_
  rintro e w16 ⟨rfl, ho, hc⟩
  have b16 := Lib.hid (below_chg b15.out hc b15.out.size (by omega))
  have z16 := hc.size
  replace oW0 := Lib.hid (oW0.out.chg hc (by omega))
  clear hc
  replace oG0 := Lib.hid ho
  clear ho
  have hq : (0 : Int) ≤ 1 + 5 * (R0.length : Int) := by omega
  go_wp2_with (fail)
  refine (heldInstrS_any _ _ _ _ _ 1 _ hR0 (by omega) (by omega) (In.rs oG0.out) (by omega)).mono ?_
  rintro e w17 ⟨rfl, hb⟩
  have b17 := Lib.hid (b16.out.trans (hb.mono b16.out.size))
  have z17 := hb.size
  replace oW0 := Lib.hid (oW0.out.chg (Chg.ofBelow (lo := 0) (hi := 0) hb) (.inr (Nat.zero_le _)))
  replace oG0 := Lib.hid (oG0.out.chg (Chg.ofBelow (lo := 0) (hi := 0) hb) (.inr (Nat.zero_le _)))
  clear hb
  go_wp2_with (fail)
  refine (toInstrS_any 0 _ A0 c0 a0 _ hlen0 (E0.out.below b17.out (Nat.le_refl _)) b17.out.size).mono ?_
  rintro e w18 ⟨Ah0, ch0, rfl, ho, hb⟩
  have b18 := Lib.hid (b17.out.trans (hb.mono b17.out.size))
  have z18 := hb.size
  replace oW0 := Lib.hid (oW0.out.chg (Chg.ofBelow (lo := 0) (hi := 0) hb) (.inr (Nat.zero_le _)))
  replace oG0 := Lib.hid (oG0.out.chg (Chg.ofBelow (lo := 0) (hi := 0) hb) (.inr (Nat.zero_le _)))
  clear hb
  have oh0 := Lib.hid ho
  clear ho
  go_wp2_with (fail)
  refine (toIntS_any 0 _ A1 c1 a1 _ hlen1 (E1.out.below b18.out (Nat.le_refl _)) b18.out.size).mono ?_
  rintro e w19 ⟨Ah1, ch1, rfl, ho, hb⟩
  have b19 := Lib.hid (b18.out.trans (hb.mono b18.out.size))
  have z19 := hb.size
  replace oW0 := Lib.hid (oW0.out.chg (Chg.ofBelow (lo := 0) (hi := 0) hb) (.inr (Nat.zero_le _)))
  replace oG0 := Lib.hid (oG0.out.chg (Chg.ofBelow (lo := 0) (hi := 0) hb) (.inr (Nat.zero_le _)))
  replace oh0 := Lib.hid (oh0.out.chg (Chg.ofBelow (lo := 0) (hi := 0) hb) (.inr (Nat.zero_le _)))
  clear hb
  have oh1 := Lib.hid ho
  clear ho
  go_wp2_with (fail)
  refine (I.out _ _ _ _ _ _ _ _ _ hlen0 (In.rs oh0.out) (by omega) hlen1 (OW.rs oh1.out) (by omega)).mono ?_
  rintro e w20 ⟨AH0, cH0, rfl, ho0, hb⟩
  have b20 := Lib.hid (b19.out.trans (hb.mono b19.out.size))
  have z20 := hb.size
  replace oW0 := Lib.hid (oW0.out.chg (Chg.ofBelow (lo := 0) (hi := 0) hb) (.inr (Nat.zero_le _)))
  replace oG0 := Lib.hid (oG0.out.chg (Chg.ofBelow (lo := 0) (hi := 0) hb) (.inr (Nat.zero_le _)))
  replace oh0 := Lib.hid (oh0.out.chg (Chg.ofBelow (lo := 0) (hi := 0) hb) (.inr (Nat.zero_le _)))
  replace oh1 := Lib.hid (oh1.out.chg (Chg.ofBelow (lo := 0) (hi := 0) hb) (.inr (Nat.zero_le _)))
  clear hb
  have oH0 := Lib.hid ho0
  clear ho0
  go_wp2_with (fail)
  refine (eqInstrS_any _ _ _ _ _ _ _ _ _ _ R0 R0 _ rfl rfl hR0 (In.rs oH0.out) (In.rs oW0.out) (by omega) (by omega) rfl).mono ?_
  rintro e w21 ⟨rfl, hb⟩
  have b21 := Lib.hid (b20.out.trans (hb.mono b20.out.size))
  have z21 := hb.size
  replace oW0 := Lib.hid (oW0.out.chg (Chg.ofBelow (lo := 0) (hi := 0) hb) (.inr (Nat.zero_le _)))
  replace oG0 := Lib.hid (oG0.out.chg (Chg.ofBelow (lo := 0) (hi := 0) hb) (.inr (Nat.zero_le _)))
  replace oh0 := Lib.hid (oh0.out.chg (Chg.ofBelow (lo := 0) (hi := 0) hb) (.inr (Nat.zero_le _)))
  replace oh1 := Lib.hid (oh1.out.chg (Chg.ofBelow (lo := 0) (hi := 0) hb) (.inr (Nat.zero_le _)))
  replace oH0 := Lib.hid (oH0.out.chg (Chg.ofBelow (lo := 0) (hi := 0) hb) (.inr (Nat.zero_le _)))
  clear hb
  go_wp2_with (fail)
  refine (heldInstrS_any _ _ _ _ _ 1 _ hR0 (by omega) (by omega) (In.rs oG0.out) (by omega)).mono ?_
  rintro e w22 ⟨rfl, hb⟩
  have b22 := Lib.hid (b21.out.trans (hb.mono b21.out.size))
  have z22 := hb.size
  replace oW0 := Lib.hid (oW0.out.chg (Chg.ofBelow (lo := 0) (hi := 0) hb) (.inr (Nat.zero_le _)))
  replace oG0 := Lib.hid (oG0.out.chg (Chg.ofBelow (lo := 0) (hi := 0) hb) (.inr (Nat.zero_le _)))
  replace oh0 := Lib.hid (oh0.out.chg (Chg.ofBelow (lo := 0) (hi := 0) hb) (.inr (Nat.zero_le _)))
  replace oh1 := Lib.hid (oh1.out.chg (Chg.ofBelow (lo := 0) (hi := 0) hb) (.inr (Nat.zero_le _)))
  replace oH0 := Lib.hid (oH0.out.chg (Chg.ofBelow (lo := 0) (hi := 0) hb) (.inr (Nat.zero_le _)))
  clear hb
  go_wp2
  go_ret
  exact ⟨rfl, b22.out⟩

def ResSwapPath (R0 : List (Int)) (R1 : Bool) (w : World) (e : Ending) (w' : World) : Prop := ∃ (A0 : Option Addr) (c0 : Nat), e = .returned (.tuple #[.slice A0 R0.length c0, .bool R1]) ∧ OW w' w.heap.size w'.heap.size (.slice A0 R0.length c0) R0 ∧ Below w.heap.size w w'
set_option maxHeartbeats 4000000 in
theorem lawSwapPath (A0 : Option Addr) (c0 : Nat) (a0 : List In) (A1 : Option Addr) (c1 : Nat) (a1 : List In) (w : World) (hl0 : a0.length ≤ 9223372036854775807) (h0 : RS In.enc 5 w 0 w.heap.size A0 a0) (hs0 : ∀ n ∈ a0, n.op.size ≤ 9223372036854775807) (hl1 : a1.length ≤ 9223372036854775807) (h1 : RS In.enc 5 w 0 w.heap.size A1 a1) (hs1 : ∀ n ∈ a1, n.op.size ≤ 9223372036854775807) (R0 : List (Int)) (R1 : Bool) (hR0 : R0.length ≤ 1048576)
    (hS : ∀ (L0 B0 : Nat) (A0 : Option Addr) (c0 : Nat) (L1 B1 : Nat) (A1 : Option Addr) (c1 : Nat) (w : World), a0.length ≤ 1048576 → RS In.enc 5 w L0 B0 A0 a0 → B0 ≤ w.heap.size → a1.length ≤ 1048576 → RS In.enc 5 w L1 B1 A1 a1 → B1 ≤ w.heap.size → Calls Try.prog 35 #[.slice A0 a0.length c0, .slice A1 a1.length c1] w (ResSwapPath R0 R1 w))
    (hI : ∀ (L0 B0 : Nat) (A0 : Option Addr) (c0 : Nat) (L1 B1 : Nat) (A1 : Option Addr) (c1 : Nat) (w : World), a0.length ≤ 1048576 → RS In.enc 5 w L0 B0 A0 a0 → B0 ≤ w.heap.size → a0.length ≤ c0 → a1.length ≤ 1048576 → RS In.enc 5 w L1 B1 A1 a1 → B1 ≤ w.heap.size → Calls Try.prog 36 #[.slice A0 a0.length c0, .slice A1 a1.length c1] w (ResSwapPath R0 R1 w)) :
    Calls Try.prog 5 #[.slice A0 a0.length c0, .slice A1 a1.length c1] w fun e w' => e = .returned (.bool true) ∧ Below w.heap.size w w' := by
  have S := Lib.hid hS
  have I := Lib.hid hI
  have E0 := Lib.hid h0
  have E1 := Lib.hid h1
  have Z0 := Lib.hid hs0
  have Z1 := Lib.hid hs1
  clear hS hI h0 h1 hs0 hs1
  have b0 := Lib.hid (Below.refl w.heap.size w)
  go_enter Try.func5, Try.ntmps5
  go_wp2_with (fail)
  refine (szInstrS_any 0 _ A0 c0 a0 1048576 _ hl0 (E0.out.below b0.out (Nat.le_refl _)) b0.out.size Z0.out (by omega) (by omega)).mono ?_
  rintro e w1 ⟨r0, rfl, hr0a, hr0b, hr0c, hb⟩
  have b1 := Lib.hid (b0.out.trans (hb.mono b0.out.size))
  have z1 := hb.size
  clear hb
  by_cases hr0 : 0 ≤ r0
  rotate_left
  · go_wp2
    go_ret
    exact ⟨rfl, b1.out⟩
  have hlen0 : a0.length ≤ 1048576 := by have := hr0b hr0; omega
  clear hr0b
  go_wp2_with (fail)
  refine (szInstrS_any 0 _ A1 c1 a1 r0 _ hl1 (E1.out.below b1.out (Nat.le_refl _)) b1.out.size Z1.out (by omega) (by omega)).mono ?_
  rintro e w2 ⟨r1, rfl, hr1a, hr1b, hr1c, hb⟩
  have b2 := Lib.hid (b1.out.trans (hb.mono b1.out.size))
  have z2 := hb.size
  clear hb
  by_cases hr1 : 0 ≤ r1
  rotate_left
  · go_wp2
    go_ret
    exact ⟨rfl, b2.out⟩
  have hlen1 : a1.length ≤ 1048576 := by have := hr1b hr1; omega
  clear hr1b
  have e1 : (R1 != R1) = false := by simp
  go_wp2_with (fail)
  refine (toInstrS_any 0 _ A0 c0 a0 _ hlen0 (E0.out.below b2.out (Nat.le_refl _)) b2.out.size).mono ?_
  rintro e w3 ⟨Ap0, cp0, rfl, ho, hb⟩
  have b3 := Lib.hid (b2.out.trans (hb.mono b2.out.size))
  have z3 := hb.size
  clear hb
  have op0 := Lib.hid ho
  clear ho
  go_wp2_with (fail)
  refine (toInstrS_any 0 _ A1 c1 a1 _ hlen1 (E1.out.below b3.out (Nat.le_refl _)) b3.out.size).mono ?_
  rintro e w4 ⟨Ap1, cp1, rfl, ho, hb⟩
  have b4 := Lib.hid (b3.out.trans (hb.mono b3.out.size))
  have z4 := hb.size
  replace op0 := Lib.hid (op0.out.chg (Chg.ofBelow (lo := 0) (hi := 0) hb) (.inr (Nat.zero_le _)))
  clear hb
  have op1 := Lib.hid ho
  clear ho
  go_wp2_with (fail)
  refine (S.out _ _ _ _ _ _ _ _ _ hlen0 (In.rs op0.out) (by omega) hlen1 (In.rs op1.out) (by omega)).mono ?_
  rintro e w5 ⟨AW0, cW0, rfl, ho0, hb⟩
  have b5 := Lib.hid (b4.out.trans (hb.mono b4.out.size))
  have z5 := hb.size
  replace op0 := Lib.hid (op0.out.chg (Chg.ofBelow (lo := 0) (hi := 0) hb) (.inr (Nat.zero_le _)))
  replace op1 := Lib.hid (op1.out.chg (Chg.ofBelow (lo := 0) (hi := 0) hb) (.inr (Nat.zero_le _)))
  clear hb
  have oW0 := Lib.hid ho0
  clear ho0
  go_wp2_with (fail)
  refine (toInstrS_any 0 _ A0 c0 a0 _ hlen0 (E0.out.below b5.out (Nat.le_refl _)) b5.out.size).mono ?_
  rintro e w6 ⟨Aq0, cq0, rfl, ho, hb⟩
  have b6 := Lib.hid (b5.out.trans (hb.mono b5.out.size))
  have z6 := hb.size
  replace oW0 := Lib.hid (oW0.out.chg (Chg.ofBelow (lo := 0) (hi := 0) hb) (.inr (Nat.zero_le _)))
  clear hb
  have oq0 := Lib.hid ho
  clear ho
  go_wp2_with (fail)
  refine (toInstrS_any 0 _ A1 c1 a1 _ hlen1 (E1.out.below b6.out (Nat.le_refl _)) b6.out.size).mono ?_
  rintro e w7 ⟨Aq1, cq1, rfl, ho, hb⟩
  have b7 := Lib.hid (b6.out.trans (hb.mono b6.out.size))
  have z7 := hb.size
  replace oW0 := Lib.hid (oW0.out.chg (Chg.ofBelow (lo := 0) (hi := 0) hb) (.inr (Nat.zero_le _)))
  replace oq0 := Lib.hid (oq0.out.chg (Chg.ofBelow (lo := 0) (hi := 0) hb) (.inr (Nat.zero_le _)))
  clear hb
  have oq1 := Lib.hid ho
  clear ho
  go_wp2_with (fail)
  refine (I.out _ _ _ _ _ _ _ _ _ hlen0 (In.rs oq0.out) (by omega) (OK.cap oq0.out) hlen1 (In.rs oq1.out) (by omega)).mono ?_
  rintro e w8 ⟨AG0, cG0, rfl, ho0, hb⟩
  have b8 := Lib.hid (b7.out.trans (hb.mono b7.out.size))
  have z8 := hb.size
  replace oW0 := Lib.hid (oW0.out.chg (Chg.ofBelow (lo := 0) (hi := 0) hb) (.inr (Nat.zero_le _)))
  replace oq0 := Lib.hid (oq0.out.chg (Chg.ofBelow (lo := 0) (hi := 0) hb) (.inr (Nat.zero_le _)))
  replace oq1 := Lib.hid (oq1.out.chg (Chg.ofBelow (lo := 0) (hi := 0) hb) (.inr (Nat.zero_le _)))
  clear hb
  have oG0 := Lib.hid ho0
  clear ho0
  go_wp2_with (fail)
  refine (eqIntS_any _ _ _ _ _ _ _ _ _ _ R0 R0 _ rfl rfl hR0 (OW.rs oG0.out) (OW.rs oW0.out) (by omega) (by omega) rfl).mono ?_
  rintro e w9 ⟨rfl, hb⟩
  have b9 := Lib.hid (b8.out.trans (hb.mono b8.out.size))
  have z9 := hb.size
  replace oW0 := Lib.hid (oW0.out.chg (Chg.ofBelow (lo := 0) (hi := 0) hb) (.inr (Nat.zero_le _)))
  replace oq0 := Lib.hid (oq0.out.chg (Chg.ofBelow (lo := 0) (hi := 0) hb) (.inr (Nat.zero_le _)))
  replace oq1 := Lib.hid (oq1.out.chg (Chg.ofBelow (lo := 0) (hi := 0) hb) (.inr (Nat.zero_le _)))
  replace oG0 := Lib.hid (oG0.out.chg (Chg.ofBelow (lo := 0) (hi := 0) hb) (.inr (Nat.zero_le _)))
  clear hb
  go_wp2_with (fail)
  refine (toInstrS_any 0 _ A0 c0 a0 _ hlen0 (E0.out.below b9.out (Nat.le_refl _)) b9.out.size).mono ?_
  rintro e w10 ⟨As0, cs0, rfl, ho, hb⟩
  have b10 := Lib.hid (b9.out.trans (hb.mono b9.out.size))
  have z10 := hb.size
  replace oW0 := Lib.hid (oW0.out.chg (Chg.ofBelow (lo := 0) (hi := 0) hb) (.inr (Nat.zero_le _)))
  replace oq0 := Lib.hid (oq0.out.chg (Chg.ofBelow (lo := 0) (hi := 0) hb) (.inr (Nat.zero_le _)))
  replace oq1 := Lib.hid (oq1.out.chg (Chg.ofBelow (lo := 0) (hi := 0) hb) (.inr (Nat.zero_le _)))
  replace oG0 := Lib.hid (oG0.out.chg (Chg.ofBelow (lo := 0) (hi := 0) hb) (.inr (Nat.zero_le _)))
  clear hb
  have os0 := Lib.hid ho
  clear ho
  go_wp2_with (fail)
  refine (eqInstrS_any _ _ _ _ _ _ _ _ _ _ a0 a0 _ rfl rfl hlen0 (In.rs oq0.out) (In.rs os0.out) (by omega) (by omega) rfl).mono ?_
  rintro e w11 ⟨rfl, hb⟩
  have b11 := Lib.hid (b10.out.trans (hb.mono b10.out.size))
  have z11 := hb.size
  replace oW0 := Lib.hid (oW0.out.chg (Chg.ofBelow (lo := 0) (hi := 0) hb) (.inr (Nat.zero_le _)))
  replace oq0 := Lib.hid (oq0.out.chg (Chg.ofBelow (lo := 0) (hi := 0) hb) (.inr (Nat.zero_le _)))
  replace oq1 := Lib.hid (oq1.out.chg (Chg.ofBelow (lo := 0) (hi := 0) hb) (.inr (Nat.zero_le _)))
  replace oG0 := Lib.hid (oG0.out.chg (Chg.ofBelow (lo := 0) (hi := 0) hb) (.inr (Nat.zero_le _)))
  replace os0 := Lib.hid (os0.out.chg (Chg.ofBelow (lo := 0) (hi := 0) hb) (.inr (Nat.zero_le _)))
  clear hb
  go_wp2_with (fail)
  refine (toInstrS_any 0 _ A1 c1 a1 _ hlen1 (E1.out.below b11.out (Nat.le_refl _)) b11.out.size).mono ?_
  rintro e w12 ⟨As1, cs1, rfl, ho, hb⟩
  have b12 := Lib.hid (b11.out.trans (hb.mono b11.out.size))
  have z12 := hb.size
  replace oW0 := Lib.hid (oW0.out.chg (Chg.ofBelow (lo := 0) (hi := 0) hb) (.inr (Nat.zero_le _)))
  replace oq0 := Lib.hid (oq0.out.chg (Chg.ofBelow (lo := 0) (hi := 0) hb) (.inr (Nat.zero_le _)))
  replace oq1 := Lib.hid (oq1.out.chg (Chg.ofBelow (lo := 0) (hi := 0) hb) (.inr (Nat.zero_le _)))
  replace oG0 := Lib.hid (oG0.out.chg (Chg.ofBelow (lo := 0) (hi := 0) hb) (.inr (Nat.zero_le _)))
  clear hb
  have os1 := Lib.hid ho
  clear ho
  go_wp2_with (fail)
  refine (eqInstrS_any _ _ _ _ _ _ _ _ _ _ a1 a1 _ rfl rfl hlen1 (In.rs oq1.out) (In.rs os1.out) (by omega) (by omega) rfl).mono ?_
  rintro e w13 ⟨rfl, hb⟩
  have b13 := Lib.hid (b12.out.trans (hb.mono b12.out.size))
  have z13 := hb.size
  replace oW0 := Lib.hid (oW0.out.chg (Chg.ofBelow (lo := 0) (hi := 0) hb) (.inr (Nat.zero_le _)))
  replace oq0 := Lib.hid (oq0.out.chg (Chg.ofBelow (lo := 0) (hi := 0) hb) (.inr (Nat.zero_le _)))
  replace oq1 := Lib.hid (oq1.out.chg (Chg.ofBelow (lo := 0) (hi := 0) hb) (.inr (Nat.zero_le _)))
  replace oG0 := Lib.hid (oG0.out.chg (Chg.ofBelow (lo := 0) (hi := 0) hb) (.inr (Nat.zero_le _)))
  replace os1 := Lib.hid (os1.out.chg (Chg.ofBelow (lo := 0) (hi := 0) hb) (.inr (Nat.zero_le _)))
  clear hb
  go_wp2_with (fail)
  refine (markInstrS_any _ _ _ _ a0 (1) _ hlen0 (by omega) (by omega) oq0.out).mono ?_
  rintro e w14 ⟨rfl, _, hc⟩
  have b14 := Lib.hid (below_chg b13.out hc b13.out.size (by omega))
  have z14 := hc.size
  replace oW0 := Lib.hid (oW0.out.chg hc (by omega))
  replace oq1 := Lib.hid (oq1.out.chg hc (by omega))
  replace oG0 := Lib.hid (oG0.out.chg hc (by omega))
  clear hc
  go_wp2_with (fail)
  refine (markInstrS_any _ _ _ _ a1 (1 + 5 * (a0.length : Int)) _ hlen1 (by omega) (by omega) oq1.out).mono ?_
  rintro e w15 ⟨rfl, _, hc⟩
  have b15 := Lib.hid (below_chg b14.out hc b14.out.size (by omega))
  have z15 := hc.size
  replace oW0 := Lib.hid (oW0.out.chg hc (by omega))
  replace oG0 := Lib.hid (oG0.out.chg hc (by omega))
  clear hc
  have hk : (0 : Int) ≤ 1 + 5 * (a0.length : Int) + 5 * (a1.length : Int) := by omega
  go_wp2_with (fail)
  refine (eqIntS_any _ _ _ _ _ _ _ _ _ _ R0 R0 _ rfl rfl hR0 (OW.rs oG0.out) (OW.rs oW0.out) (by omega) (by omega) rfl).mono ?_
  rintro e w16 ⟨rfl, hb⟩
  have b16 := Lib.hid (b15.out.trans (hb.mono b15.out.size))
  have z16 := hb.size
  replace oW0 := Lib.hid (oW0.out.chg (Chg.ofBelow (lo := 0) (hi := 0) hb) (.inr (Nat.zero_le _)))
  replace oG0 := Lib.hid (oG0.out.chg (Chg.ofBelow (lo := 0) (hi := 0) hb) (.inr (Nat.zero_le _)))
  clear hb
  go_wp2_with (fail)
  refine (markIntS_c _ _ _ _ R0 (1) _ hR0 (by omega) (by omega) oG0.out).mono ?_
  rintro e w17 ⟨rfl, ho, hc⟩
  have b17 := Lib.hid (below_chg b16.out hc b16.out.size (by omega))
  have z17 := hc.size
  replace oW0 := Lib.hid (oW0.out.chg hc (by omega))
  clear hc
  replace oG0 := Lib.hid ho
  clear ho
  have hq : (0 : Int) ≤ 1 + (R0.length : Int) := by omega
  go_wp2_with (fail)
  refine (heldIntS_any _ _ _ _ _ 1 _ hR0 (by omega) (by omega) (OW.rs oG0.out) ).mono ?_
  rintro e w_ ⟨rfl, rfl⟩
  go_wp2_with (fail)
  refine (toInstrS_any 0 _ A0 c0 a0 _ hlen0 (E0.out.below b17.out (Nat.le_refl _)) b17.out.size).mono ?_
  rintro e w18 ⟨Ah0, ch0, rfl, ho, hb⟩
  have b18 := Lib.hid (b17.out.trans (hb.mono b17.out.size))
  have z18 := hb.size
  replace oW0 := Lib.hid (oW0.out.chg (Chg.ofBelow (lo := 0) (hi := 0) hb) (.inr (Nat.zero_le _)))
  replace oG0 := Lib.hid (oG0.out.chg (Chg.ofBelow (lo := 0) (hi := 0) hb) (.inr (Nat.zero_le _)))
  clear hb
  have oh0 := Lib.hid ho
  clear ho
  go_wp2_with (fail)
  refine (toInstrS_any 0 _ A1 c1 a1 _ hlen1 (E1.out.below b18.out (Nat.le_refl _)) b18.out.size).mono ?_
  rintro e w19 ⟨Ah1, ch1, rfl, ho, hb⟩
  have b19 := Lib.hid (b18.out.trans (hb.mono b18.out.size))
  have z19 := hb.size
  replace oW0 := Lib.hid (oW0.out.chg (Chg.ofBelow (lo := 0) (hi := 0) hb) (.inr (Nat.zero_le _)))
  replace oG0 := Lib.hid (oG0.out.chg (Chg.ofBelow (lo := 0) (hi := 0) hb) (.inr (Nat.zero_le _)))
  replace oh0 := Lib.hid (oh0.out.chg (Chg.ofBelow (lo := 0) (hi := 0) hb) (.inr (Nat.zero_le _)))
  clear hb
  have oh1 := Lib.hid ho
  clear ho
  go_wp2_with (fail)
  refine (I.out _ _ _ _ _ _ _ _ _ hlen0 (In.rs oh0.out) (by omega) (OK.cap oh0.out) hlen1 (In.rs oh1.out) (by omega)).mono ?_
  rintro e w20 ⟨AH0, cH0, rfl, ho0, hb⟩
  have b20 := Lib.hid (b19.out.trans (hb.mono b19.out.size))
  have z20 := hb.size
  replace oW0 := Lib.hid (oW0.out.chg (Chg.ofBelow (lo := 0) (hi := 0) hb) (.inr (Nat.zero_le _)))
  replace oG0 := Lib.hid (oG0.out.chg (Chg.ofBelow (lo := 0) (hi := 0) hb) (.inr (Nat.zero_le _)))
  replace oh0 := Lib.hid (oh0.out.chg (Chg.ofBelow (lo := 0) (hi := 0) hb) (.inr (Nat.zero_le _)))
  replace oh1 := Lib.hid (oh1.out.chg (Chg.ofBelow (lo := 0) (hi := 0) hb) (.inr (Nat.zero_le _)))
  clear hb
  have oH0 := Lib.hid ho0
  clear ho0
  go_wp2_with (fail)
  refine (eqIntS_any _ _ _ _ _ _ _ _ _ _ R0 R0 _ rfl rfl hR0 (OW.rs oH0.out) (OW.rs oW0.out) (by omega) (by omega) rfl).mono ?_
  rintro e w21 ⟨rfl, hb⟩
  have b21 := Lib.hid (b20.out.trans (hb.mono b20.out.size))
  have z21 := hb.size
  replace oW0 := Lib.hid (oW0.out.chg (Chg.ofBelow (lo := 0) (hi := 0) hb) (.inr (Nat.zero_le _)))
  replace oG0 := Lib.hid (oG0.out.chg (Chg.ofBelow (lo := 0) (hi := 0) hb) (.inr (Nat.zero_le _)))
  replace oh0 := Lib.hid (oh0.out.chg (Chg.ofBelow (lo := 0) (hi := 0) hb) (.inr (Nat.zero_le _)))
  replace oh1 := Lib.hid (oh1.out.chg (Chg.ofBelow (lo := 0) (hi := 0) hb) (.inr (Nat.zero_le _)))
  replace oH0 := Lib.hid (oH0.out.chg (Chg.ofBelow (lo := 0) (hi := 0) hb) (.inr (Nat.zero_le _)))
  clear hb
  go_wp2_with (fail)
  refine (heldIntS_any _ _ _ _ _ 1 _ hR0 (by omega) (by omega) (OW.rs oG0.out) ).mono ?_
  rintro e w_ ⟨rfl, rfl⟩
  go_wp2
  go_ret
  exact ⟨rfl, b21.out⟩
end Go.Proofs.Ythjfedidpjfboaa
