import Derived.Test.YtgcbfiamhpfkhaaZ32
import Derived.WalkKit
import Derived.WalkSpells
import Derived.WalkLawsBesides
import Derived.OrdersHeld
import Derived.Lib.Hide
/- The selection of a cover: the program. -/
namespace Go.Proofs.Ytgcbfiamhpfkhaa
open Go.RowKit
set_option linter.unusedVariables false
set_option maxRecDepth 100000

def OnlyF (F : Act → World → Prop) : Exit → Act → World → Prop
  | .normal, a, w => F a w
  | _, _, _ => False
theorem region_split {P : Program} {id : Nat} {ops : Array Oper} {b : Bool} {Q : Exit → Act → World → Prop} {a : Act} {w : World} (F : Act → World → Prop) (h1 : (Code.region id ops b).wp P (OnlyF F) a w) (h2 : ∀ a w, F a w → Q .normal a w) : (Code.region id ops b).wp P Q a w :=
  Code.wp_mono (fun e a w h => by
    cases e with
    | normal => exact h2 a w h
    | _ => exact (h : False).elim) h1
theorem run_make_tiles (n : Nat) (hn : n ≤ 1048576) (W : World) : (Instr.makeSlice 74 (.int .i64 (n : Int)) (.int .i64 (n : Int))).run Try.prog W = .ok (.slice (some ⟨W.heap.size, 0, none⟩) n n) (W.alloc (.cells ((List.replicate n zeroRt).flatMap Rt.enc).toArray 77)) := by
  obtain ⟨i0, hi, hz0, hz1, hz2⟩ := info_parts Try.infoTile
  have h := run_make (P := Try.prog) W 74 77 i0 _ Try.underlying74 hi hz0 .i64 .i64 n n (by omega) (by omega) (by rw [hz2]; omega) (by omega)
  rw [h]
  simp only [Int.toNat_natCast, hz1]
  refine congrArg (fun c => Result.ok (Value.slice (some ⟨W.heap.size, 0, none⟩) n n) (W.alloc (.cells c 77))) ?_
  apply Array.ext'
  exact made_flat (enc := Rt.enc) (k := 4) (fun _ => rfl) zeroRt n
/-- What lies where a selection begins. -/
structure SelAt (w W : World) (n : Nat) (vE : Value) (p g q : Nat) : Prop where
  bx : CB 92 W p [vE, .slice (some ⟨g, 0, none⟩) n n, .slice (some ⟨q, 0, none⟩) n n]
  ts : KB Rt.enc 77 W g (List.replicate n zeroRt)
  ns : IB W q 3 (List.replicate n (-1))
  lp : w.heap.size ≤ p
  lg : w.heap.size ≤ g
  lq : w.heap.size ≤ q
  be : Below w.heap.size w W

theorem ne_sel_tile {V : World} {p g : Nat} {xs : List Value} {rs : List Rt} (hA : CB 92 V p xs) (hM : KB Rt.enc 77 V g rs) : p ≠ g := by
  rintro rfl
  unfold CB at hA; unfold KB at hM
  rw [hA] at hM
  injection hM with hM; injection hM with _ hM
  exact absurd hM (by decide)
theorem ne_int_tile {V : World} {p g : Nat} {xs : List Int} {rs : List Rt} (hA : IB V p 3 xs) (hM : KB Rt.enc 77 V g rs) : p ≠ g := by
  rintro rfl
  unfold IB at hA; unfold KB at hM
  rw [hA] at hM
  injection hM with hM; injection hM with _ hM
  exact absurd hM (by decide)
theorem ne_int_sel {V : World} {p g : Nat} {xs : List Int} {vs : List Value} (hA : IB V p 3 xs) (hM : CB 92 V g vs) : p ≠ g := by
  rintro rfl
  unfold IB at hA; unfold CB at hM
  rw [hA] at hM
  injection hM with hM; injection hM with _ hM
  exact absurd hM (by decide)
theorem kb_store {w : World} {g k : Nat} {t : TypeId} {rs : List Rt} (h : KB Rt.enc t w g rs) (hk : k < rs.length) (r : Rt) : KB Rt.enc t ((((w.setCell ⟨g, k * 4, none⟩ (.int .i64 r.num)).setCell ⟨g, k * 4 + 1, none⟩ r.p).setCell ⟨g, k * 4 + 2, none⟩ r.q).setCell ⟨g, k * 4 + 3, none⟩ (.int .i64 r.c)) g (rs.set k r) := by
  have h0 : CB t w g (rs.flatMap Rt.enc ++ []) := by unfold CB; rw [List.append_nil]; exact h
  have h1 := CB.store (enc := Rt.enc) (k := 4) (fun _ => rfl) h0 k hk r
  unfold CB at h1
  rw [List.append_nil] at h1
  exact h1
theorem seven_next {w w' : World} {p0 p1 p2 q0 q1 q2 q3 : Addr} {a0 a1 a2 b0 b1 b2 b3 : Value} (h : w.cell? p0 = some a0 ∧ w.cell? p1 = some a1 ∧ w.cell? p2 = some a2 ∧ w.cell? q0 = some b0 ∧ w.cell? q1 = some b1 ∧ w.cell? q2 = some b2 ∧ w.cell? q3 = some b3) (hb : Below w.heap.size w w') :
    w'.cell? p0 = some a0 ∧ w'.cell? p1 = some a1 ∧ w'.cell? p2 = some a2 ∧ w'.cell? q0 = some b0 ∧ w'.cell? q1 = some b1 ∧ w'.cell? q2 = some b2 ∧ w'.cell? q3 = some b3 :=
  have k : ∀ {p : Addr} {u : Value}, w.cell? p = some u → w'.cell? p = some u := fun h => (hb.cell (World.block_lt_of_cell? _ _ h)).trans h
  ⟨k h.1, k h.2.1, k h.2.2.1, k h.2.2.2.1, k h.2.2.2.2.1, k h.2.2.2.2.2.1, k h.2.2.2.2.2.2⟩
theorem sel_ret2 {fn : Func} {Q : Ending → World → Prop} {tmps : Array Value} {w : World} {g : Nat} {v0 v1 v2 : Value} {s u : Tmp} {k : Bool} (hr : fn.results = #[.cell s 92, .tmp u]) (hs : tmps.getD s undef = .pointer (some ⟨g, 0, none⟩)) (hu : tmps.getD u undef = .bool k)
    (h : CB 92 w g [v0, v1, v2]) (hq : Q (.returned (.tuple #[.agg #[v0, v1, v2], .bool k])) w) : bodyPost Try.prog fn Q .ret ⟨tmps, []⟩ w := by
  have q0 := CB.cell h 0
  have q1 := CB.cell h 1
  have q2 := CB.cell h 2
  simp only [List.getElem?_cons_zero, List.getElem?_cons_succ] at q0 q1 q2
  refine bodyPost_ret (v := .tuple #[.agg #[v0, v1, v2], .bool k]) ?_ rfl hq
  have hs' : tmps[s]?.getD undef = .pointer (some ⟨g, 0, none⟩) := by simpa using hs
  have hu' : tmps[u]?.getD undef = .bool k := by simpa using hu
  simp [results, hr, hs', hu', go_sem, q0, q1, q2]
theorem sel_fin {w V : World} {n : Nat} {vE : Value} {p g q : Nat} (hA : CB 92 V p [.slice none 0 0, .slice none 0 0, .slice none 0 0]) (hM : KB Rt.enc 77 V g (List.replicate n zeroRt)) (hN : IB V q 3 (List.replicate n (-1)))
    (lp : w.heap.size ≤ p) (lg : w.heap.size ≤ g) (lq : w.heap.size ≤ q) (be : Below w.heap.size w V) : SelAt w (((V.setCell ⟨p, 0, none⟩ vE).setCell ⟨p, 1, none⟩ (.slice (some ⟨g, 0, none⟩) n n)).setCell ⟨p, 2, none⟩ (.slice (some ⟨q, 0, none⟩) n n)) n vE p g q := by
  have hpg : p ≠ g := by
    rintro rfl
    unfold CB at hA; unfold KB at hM
    rw [hA] at hM
    injection hM with hM; injection hM with _ hM
    exact absurd hM (by decide)
  have hpq : p ≠ q := by
    rintro rfl
    unfold CB at hA; unfold IB at hN
    rw [hA] at hN
    injection hN with hN; injection hN with _ hN
    exact absurd hN (by decide)
  have hc : Chg p (p + 1) V (((V.setCell ⟨p, 0, none⟩ vE).setCell ⟨p, 1, none⟩ (.slice (some ⟨g, 0, none⟩) n n)).setCell ⟨p, 2, none⟩ (.slice (some ⟨q, 0, none⟩) n n)) :=
    (((Chg.refl p (p + 1) V).setCell (p := ⟨p, 0, none⟩) ⟨Nat.le_refl _, Nat.lt_succ_self _⟩ _).setCell (p := ⟨p, 1, none⟩) ⟨Nat.le_refl _, Nat.lt_succ_self _⟩ _).setCell (p := ⟨p, 2, none⟩) ⟨Nat.le_refl _, Nat.lt_succ_self _⟩ _
  exact ⟨((CB.set hA 0 _).set 1 _).set 2 _, (hc.block g (KB.lt hM) (by omega)).trans hM, (hc.block q hN.lt (by omega)).trans hN, lp, lg, lq, below_chg be hc be.size lp⟩

set_option maxHeartbeats 8000000 in
theorem selectionOf_go (L B L' B' : Nat) (A A' : Option Addr) (c c' : Nat) (es : List Nd) (nums : List Int) (out : List Ti) (w : World) (h : tocR es nums = some out) (hes : NS w L B A es) (hB : B ≤ w.heap.size) (hns : IS w L' B' A' nums) (hB' : B' ≤ w.heap.size) :
    Calls Try.prog 78 #[.slice A es.length c, .slice A' es.length c'] w fun e w' => ∃ TA NA tc nc, e = .returned (.tuple #[.agg #[.slice A es.length c, .slice TA es.length tc, .slice NA es.length nc], .bool true]) ∧ OW w' w.heap.size w'.heap.size (.slice NA es.length nc) (ndTo es nums es.length) ∧ Below w.heap.size w w' := by
  obtain ⟨ht, hln, _⟩ := tocR_some h
  have hg : good es = true := by unfold treeR at ht; simp only [Bool.and_eq_true] at ht; exact ht.1
  obtain ⟨hl1, hl24, hok⟩ := good_len hg
  have HC := Lib.hid fun (W : World) (hW : Below w.heap.size w W) => iIsCover_any L B L' B' A A' c c' es nums W (by omega) (by omega) (hes.below hW hB) (Nat.le_trans hB hW.size) (hns.below hW hB') (Nat.le_trans hB' hW.size)
  rw [h, ht, hln] at HC
  dsimp only [Option.isSome_some] at HC
  have hmk := run_make_tiles es.length (by omega)
  have HR := Lib.hid fun (b : Nat) (V : World) (hb : V.cell? ⟨b, 0, none⟩ = some (.int .i64 (-1))) (hbl : b < V.heap.size) => repeat_any b 1 es.length V hl1 hl24 hb hbl
  have HB := Lib.hid fun (k : Nat) (hk : k ≤ es.length) (i : Nat) (hi : i < es.length) => ndTo_bd h k hk i hi
  have HZ := Lib.hid (ndTo_len es nums)
  have H0 := Lib.hid (ndTo_zero es nums)
  have HK := Lib.hid fun (k : Nat) => @ndTo_skip es nums k
  have HS := Lib.hid fun (k : Nat) => @ndTo_set es nums k
  have HI := Lib.hid fun (W : World) (hW : Below w.heap.size w W) => hns.below hW hB'
  have HL := Lib.hid fun (k : Nat) (hk : k < es.length) => cover_low h hk
  have HT := Lib.hid fun (k : Nat) (hk : k < es.length) (hn : nums.getD k 0 ≠ -1) (W : World) (hW : Below w.heap.size w W) => (show Calls Try.prog 137 #[.slice A es.length c, .int .i64 (k : Int), .int .i64 (nums.getD k 0)] W (TileGot W (some (tD es nums k))) from by
    rw [← (cover_parts h hk hn).1]; exact tileOf_any L B A c es (k : Int) (nums.getD k 0) W (by omega) (hes.below hW hB) (Nat.le_trans hB hW.size))
  have HX := Lib.hid fun (k : Nat) (hk : k < es.length) (hn : nums.getD k 0 ≠ -1) => (show (tD es nums k).ps.length ≤ 2 ∧ (∀ p ∈ (tD es nums k).ps, 0 ≤ p ∧ p < (es.length : Int)) ∧ (∀ p ∈ (tD es nums k).ps, 0 ≤ (ndTo es nums k).getD p.toNat 0 ∧ (ndTo es nums k).getD p.toNat 0 ≤ 24) from by
    have hx := cover_parts h hk hn
    refine ⟨(tOf_ps hx.1).2.1, fun p hp => by have := hx.2 p hp; omega, fun p hp => ?_⟩
    have h1 := hx.2 p hp
    have h2 := ndTo_bd h k (by omega) p.toNat (by omega)
    exact ⟨h2.1 ⟨by omega, by omega⟩, by omega⟩)
  have hll := Lib.hid hln
  have hZ0 : CB 92 (w.alloc (.cells #[.slice none 0 0, .slice none 0 0, .slice none 0 0] 92)) w.heap.size [.slice none 0 0, .slice none 0 0, .slice none 0 0] := heap_alloc_new w _
  clear hes hB hns h ht hg hln hok
  generalize tD es nums = TD at *
  generalize ndTo es nums = ND at *
  generalize es.length = n at *
  have b0 := Lib.hid ((Below.refl w.heap.size w).alloc (Nat.le_refl _) (.cells #[.slice none 0 0, .slice none 0 0, .slice none 0 0] 92))
  go_enter Try.func78, Try.ntmps78
  go_wp2_with (go_at_call 135; refine (HC.out _ b0.out).mono ?_; rintro e w1 ⟨rfl, hb1⟩; have hb1h := Lib.hid (b0.out.trans (hb1.mono b0.out.size)); have hZ1 := Lib.hid (CB.below hZ0 hb1 (CB.lt hZ0)); have hzl : w.heap.size < w1.heap.size := Nat.lt_of_lt_of_le (CB.lt hZ0) hb1.size; clear hb1)
  refine region_split (F := fun a V => ∃ p g q b : Nat, a = { tmps := #[.slice A n c, .slice A' n c', undef, undef, .pointer (some ⟨w.heap.size, 0, none⟩), .bool false, .bool true, .bool true, .pointer (some ⟨p, 0, none⟩), undef, undef, .tuple #[.bool true, .bool true], .slice A n c, .slice A' n c', .tuple #[.bool true, .bool true], .bool true, .bool true, .bool true, .bool false, undef, .slice A n c, .slice A n c, .int .i64 (n : Int), .slice (some ⟨g, 0, none⟩) n n, .slice (some ⟨b, 0, none⟩) 1 1, .slice A n c, .int .i64 (n : Int), .slice (some ⟨q, 0, none⟩) n n, .agg #[.slice A n c, .slice (some ⟨g, 0, none⟩) n n, .slice (some ⟨q, 0, none⟩) n n], undef, undef, undef, undef, undef, undef, undef, undef, undef, undef, undef, undef, undef, undef, undef, undef, undef, undef, undef, undef, undef, undef, undef, undef, undef, undef, undef, undef, undef, undef, undef, undef, undef], defers := [] } ∧ SelAt w1 V n (.slice A n c) p g q) ?_ ?_
  · refine wp_region_held (S := fun _ => True) (by kernel_rfl) ?_
    change wpAnyH _ _ _ _ _ _ _ _ w1.drew
    have hHeld : True := trivial
    have be := (Below.refl w1.heap.size w1).drew
    generalize w1.drew = V0 at *
    refine wpAnyH_take (i := 0) (v := ?_) rfl (by kernel_rfl) (by kernel_rfl) (by kernel_rfl) (fun _ _ _ h => h) (Or.inl ⟨by rfl, ?_⟩) (by assumption) ?_
    rotate_left 1
    · (intro w hSw; go_simp; try with_reducible rfl)
    try simp only [Act.put, List.setIfInBounds_toArray, List.set_cons_zero, List.set_cons_succ]
    refine wpAnyH_take (i := 1) (v := ?_) rfl (by kernel_rfl) (by kernel_rfl) (by kernel_rfl) (fun _ _ _ h => h) (Or.inl ⟨by rfl, ?_⟩) (by assumption) ?_
    rotate_left 1
    · (intro w hSw; go_simp; try with_reducible rfl)
    try simp only [Act.put, List.setIfInBounds_toArray, List.set_cons_zero, List.set_cons_succ]
    refine wpAnyH_take (i := 2) (v := ?_) rfl (by kernel_rfl) (by kernel_rfl) (by kernel_rfl) (fun _ _ _ h => h) (Or.inl ⟨by rfl, ?_⟩) (by assumption) ?_
    rotate_left 1
    · (intro w hSw; go_simp; try with_reducible rfl)
    try simp only [Act.put, List.setIfInBounds_toArray, List.set_cons_zero, List.set_cons_succ]
    refine wpAnyH_take (i := 5) (v := ?_) rfl (by kernel_rfl) (by kernel_rfl) (by kernel_rfl) (fun _ _ _ h => h) (Or.inl ⟨by rfl, ?_⟩) (by assumption) ?_
    rotate_left 1
    · (intro w hSw; go_simp; try with_reducible rfl)
    try simp only [Act.put, List.setIfInBounds_toArray, List.set_cons_zero, List.set_cons_succ]
    refine wpAnyH_take (i := 6) (v := ?_) rfl (by kernel_rfl) (by kernel_rfl) (by kernel_rfl) (fun _ _ _ h => h) (Or.inl ⟨by rfl, ?_⟩) (by assumption) ?_
    rotate_left 1
    · (intro w hSw; go_simp; try with_reducible rfl)
    try simp only [Act.put, List.setIfInBounds_toArray, List.set_cons_zero, List.set_cons_succ]
    refine wpAnyH_ready (rs := [3, 4, 9]) (by kernel_rfl) (by simp) ?_
    refine AllReadyH.cons rfl (fun K hK => ?_) (AllReadyH.cons rfl (fun K hK => ?_) (AllReadyH.cons rfl (fun K hK => ?_) AllReadyH.nil))
    · try simp only [List.getElem_toArray, List.getElem_cons_zero, List.getElem_cons_succ]
      go_simp
      have bn := (Below.refl V0.heap.size V0).alloc (Nat.le_refl _) (.cells ((List.replicate n zeroRt).flatMap Rt.enc).toArray 77)
      have hM' : KB Rt.enc 77 (V0.alloc (.cells ((List.replicate n zeroRt).flatMap Rt.enc).toArray 77)) V0.heap.size (List.replicate n zeroRt) := heap_alloc_new V0 _
      have be' := be.trans (bn.mono be.size)
      have lg : w1.heap.size ≤ V0.heap.size := be.size
      refine hK.out _ _ trivial (fun hHeld => ?_)
      clear hK K bn be 
      try simp only [Act.put, List.setIfInBounds_toArray, List.set_cons_zero, List.set_cons_succ]
      obtain ⟨V1, hV⟩ : ∃ V1, V1 = V0.alloc (.cells ((List.replicate n zeroRt).flatMap Rt.enc).toArray 77) := ⟨_, rfl⟩
      rw [← hV] at be' ⊢
      rw [← hV] at hM'
      clear hV
      obtain ⟨g, hq⟩ : ∃ g, g = V0.heap.size := ⟨_, rfl⟩
      rw [← hq] at hM' lg ⊢
      clear hq
      have be := be'
      clear be'
      have hM := hM'
      clear hM'
      refine wpAnyH_ready (rs := [4, 9]) (by kernel_rfl) (by simp) ?_
      refine AllReadyH.cons rfl (fun K hK => ?_) (AllReadyH.cons rfl (fun K hK => ?_) AllReadyH.nil)
      · try simp only [List.getElem_toArray, List.getElem_cons_zero, List.getElem_cons_succ]
        go_simp
        have bn := (Below.refl V1.heap.size V1).alloc (Nat.le_refl _) (.cells #[.int .i64 (-1)] 3)
        have hO' : IB (V1.alloc (.cells #[.int .i64 (-1)] 3)) V1.heap.size 3 [-1] := heap_alloc_new V1 _
        have hM' := KB.below hM bn (KB.lt hM)
        have be' := be.trans (bn.mono be.size)
        have lb : w1.heap.size ≤ V1.heap.size := be.size
        refine hK.out _ _ trivial (fun hHeld => ?_)
        clear hK K bn be hM
        try simp only [Act.put, List.setIfInBounds_toArray, List.set_cons_zero, List.set_cons_succ]
        obtain ⟨V2, hV⟩ : ∃ V2, V2 = V1.alloc (.cells #[.int .i64 (-1)] 3) := ⟨_, rfl⟩
        rw [← hV] at be' ⊢
        rw [← hV] at hM'
        rw [← hV] at hO'
        clear hV
        obtain ⟨b, hq⟩ : ∃ b, b = V1.heap.size := ⟨_, rfl⟩
        rw [← hq] at hO' lb ⊢
        clear hq
        have be := be'
        clear be'
        have hM := hM'
        clear hM'
        have hO := hO'
        clear hO'
        refine wpAnyH_ready (rs := [7, 9]) (by kernel_rfl) (by simp) ?_
        refine AllReadyH.cons rfl (fun K hK => ?_) (AllReadyH.cons rfl (fun K hK => ?_) AllReadyH.nil)
        · try simp only [List.getElem_toArray, List.getElem_cons_zero, List.getElem_cons_succ]
          go_simp
          go_at_call 136
          refine (HR.out b V2 (by have := IB.cell hO 0 (by simp); simpa using this) (IB.lt hO)).mono ?_
          rintro e V3 ⟨q, rfl, hq, hN, bn⟩
          have hM' := KB.below hM bn (KB.lt hM)
          have hO' := IB.below hO bn (IB.lt hO)
          have be' := be.trans (bn.mono be.size)
          have lq : w1.heap.size ≤ q := Nat.le_trans be.size hq
          refine hK.out _ _ trivial (fun hHeld => ?_)
          clear hK K bn be hq hM hO
          try simp only [Act.put, List.setIfInBounds_toArray, List.set_cons_zero, List.set_cons_succ]
          have be := be'
          clear be'
          have hM := hM'
          clear hM'
          have hO := hO'
          clear hO'
          refine wpAnyH_take (i := 8) (v := ?_) rfl (by kernel_rfl) (by kernel_rfl) (by kernel_rfl) (fun _ _ _ h => h) (Or.inl ⟨by rfl, ?_⟩) (by assumption) ?_
          rotate_left 1
          · (intro w hSw; go_simp; try with_reducible rfl)
          try simp only [Act.put, List.setIfInBounds_toArray, List.set_cons_zero, List.set_cons_succ]
          refine wpAnyH_ready (rs := [9]) (by kernel_rfl) (by simp) ?_
          refine AllReadyH.cons rfl (fun K hK => ?_) AllReadyH.nil
          · try simp only [List.getElem_toArray, List.getElem_cons_zero, List.getElem_cons_succ]
            go_simp
            have bn := (Below.refl V3.heap.size V3).alloc (Nat.le_refl _) (.cells #[.slice none 0 0, .slice none 0 0, .slice none 0 0] 92)
            have hA' : CB 92 (V3.alloc (.cells #[.slice none 0 0, .slice none 0 0, .slice none 0 0] 92)) V3.heap.size [.slice none 0 0, .slice none 0 0, .slice none 0 0] := heap_alloc_new V3 _
            have hM' := KB.below hM bn (KB.lt hM)
            have hO' := IB.below hO bn (IB.lt hO)
            have hN' := IB.below hN bn (IB.lt hN)
            have be' := be.trans (bn.mono be.size)
            have lp : w1.heap.size ≤ V3.heap.size := be.size
            refine hK.out _ _ trivial (fun hHeld => ?_)
            clear hK K bn be hM hO hN
            try simp only [Act.put, List.setIfInBounds_toArray, List.set_cons_zero, List.set_cons_succ]
            obtain ⟨V4, hV⟩ : ∃ V4, V4 = V3.alloc (.cells #[.slice none 0 0, .slice none 0 0, .slice none 0 0] 92) := ⟨_, rfl⟩
            rw [← hV] at be' ⊢
            rw [← hV] at hM'
            rw [← hV] at hO'
            rw [← hV] at hN'
            rw [← hV] at hA'
            clear hV
            obtain ⟨p, hq⟩ : ∃ p, p = V3.heap.size := ⟨_, rfl⟩
            rw [← hq] at hA' lp ⊢
            clear hq
            have be := be'
            clear be'
            have hM := hM'
            clear hM'
            have hO := hO'
            clear hO'
            have hN := hN'
            clear hN'
            have hA := hA'
            clear hA'
            refine wpAnyH_ready (rs := [10]) (by kernel_rfl) (by simp) ?_
            refine AllReadyH.cons rfl (fun K hK => ?_) AllReadyH.nil
            try simp only [List.getElem_toArray, List.getElem_cons_zero, List.getElem_cons_succ]
            have s0 := CB.cell hA 0
            have s1 := CB.cell hA 1
            have s2 := CB.cell hA 2
            have f0 := CB.frozen hA 0
            have f1 := CB.frozen hA 1
            have f2 := CB.frozen hA 2
            simp only [List.getElem?_cons_zero, List.getElem?_cons_succ] at s0 s1 s2
            go_simp
            have hF := sel_fin (vE := .slice A n c) hA hM hN lp lg lq be
            refine hK.out _ _ trivial (fun hHeld => ?_)
            clear hK K
            try simp only [Act.put, List.setIfInBounds_toArray, List.set_cons_zero, List.set_cons_succ]
            refine wpAnyH_done (by kernel_rfl) ?_ _
            exact ⟨p, g, q, b, rfl, hF⟩
        · try simp only [List.getElem_toArray, List.getElem_cons_zero, List.getElem_cons_succ]
          go_simp
          have bn := (Below.refl V2.heap.size V2).alloc (Nat.le_refl _) (.cells #[.slice none 0 0, .slice none 0 0, .slice none 0 0] 92)
          have hA' : CB 92 (V2.alloc (.cells #[.slice none 0 0, .slice none 0 0, .slice none 0 0] 92)) V2.heap.size [.slice none 0 0, .slice none 0 0, .slice none 0 0] := heap_alloc_new V2 _
          have hM' := KB.below hM bn (KB.lt hM)
          have hO' := IB.below hO bn (IB.lt hO)
          have be' := be.trans (bn.mono be.size)
          have lp : w1.heap.size ≤ V2.heap.size := be.size
          refine hK.out _ _ trivial (fun hHeld => ?_)
          clear hK K bn be hM hO
          try simp only [Act.put, List.setIfInBounds_toArray, List.set_cons_zero, List.set_cons_succ]
          obtain ⟨V3, hV⟩ : ∃ V3, V3 = V2.alloc (.cells #[.slice none 0 0, .slice none 0 0, .slice none 0 0] 92) := ⟨_, rfl⟩
          rw [← hV] at be' ⊢
          rw [← hV] at hM'
          rw [← hV] at hO'
          rw [← hV] at hA'
          clear hV
          obtain ⟨p, hq⟩ : ∃ p, p = V2.heap.size := ⟨_, rfl⟩
          rw [← hq] at hA' lp ⊢
          clear hq
          have be := be'
          clear be'
          have hM := hM'
          clear hM'
          have hO := hO'
          clear hO'
          have hA := hA'
          clear hA'
          refine wpAnyH_ready (rs := [7]) (by kernel_rfl) (by simp) ?_
          refine AllReadyH.cons rfl (fun K hK => ?_) AllReadyH.nil
          · try simp only [List.getElem_toArray, List.getElem_cons_zero, List.getElem_cons_succ]
            go_simp
            go_at_call 136
            refine (HR.out b V3 (by have := IB.cell hO 0 (by simp); simpa using this) (IB.lt hO)).mono ?_
            rintro e V4 ⟨q, rfl, hq, hN, bn⟩
            have hM' := KB.below hM bn (KB.lt hM)
            have hO' := IB.below hO bn (IB.lt hO)
            have hA' := CB.below hA bn (CB.lt hA)
            have be' := be.trans (bn.mono be.size)
            have lq : w1.heap.size ≤ q := Nat.le_trans be.size hq
            refine hK.out _ _ trivial (fun hHeld => ?_)
            clear hK K bn be hq hM hO hA
            try simp only [Act.put, List.setIfInBounds_toArray, List.set_cons_zero, List.set_cons_succ]
            have be := be'
            clear be'
            have hM := hM'
            clear hM'
            have hO := hO'
            clear hO'
            have hA := hA'
            clear hA'
            refine wpAnyH_take (i := 8) (v := ?_) rfl (by kernel_rfl) (by kernel_rfl) (by kernel_rfl) (fun _ _ _ h => h) (Or.inl ⟨by rfl, ?_⟩) (by assumption) ?_
            rotate_left 1
            · (intro w hSw; go_simp; try with_reducible rfl)
            try simp only [Act.put, List.setIfInBounds_toArray, List.set_cons_zero, List.set_cons_succ]
            refine wpAnyH_ready (rs := [10]) (by kernel_rfl) (by simp) ?_
            refine AllReadyH.cons rfl (fun K hK => ?_) AllReadyH.nil
            try simp only [List.getElem_toArray, List.getElem_cons_zero, List.getElem_cons_succ]
            have s0 := CB.cell hA 0
            have s1 := CB.cell hA 1
            have s2 := CB.cell hA 2
            have f0 := CB.frozen hA 0
            have f1 := CB.frozen hA 1
            have f2 := CB.frozen hA 2
            simp only [List.getElem?_cons_zero, List.getElem?_cons_succ] at s0 s1 s2
            go_simp
            have hF := sel_fin (vE := .slice A n c) hA hM hN lp lg lq be
            refine hK.out _ _ trivial (fun hHeld => ?_)
            clear hK K
            try simp only [Act.put, List.setIfInBounds_toArray, List.set_cons_zero, List.set_cons_succ]
            refine wpAnyH_done (by kernel_rfl) ?_ _
            exact ⟨p, g, q, b, rfl, hF⟩
      · try simp only [List.getElem_toArray, List.getElem_cons_zero, List.getElem_cons_succ]
        go_simp
        have bn := (Below.refl V1.heap.size V1).alloc (Nat.le_refl _) (.cells #[.slice none 0 0, .slice none 0 0, .slice none 0 0] 92)
        have hA' : CB 92 (V1.alloc (.cells #[.slice none 0 0, .slice none 0 0, .slice none 0 0] 92)) V1.heap.size [.slice none 0 0, .slice none 0 0, .slice none 0 0] := heap_alloc_new V1 _
        have hM' := KB.below hM bn (KB.lt hM)
        have be' := be.trans (bn.mono be.size)
        have lp : w1.heap.size ≤ V1.heap.size := be.size
        refine hK.out _ _ trivial (fun hHeld => ?_)
        clear hK K bn be hM
        try simp only [Act.put, List.setIfInBounds_toArray, List.set_cons_zero, List.set_cons_succ]
        obtain ⟨V2, hV⟩ : ∃ V2, V2 = V1.alloc (.cells #[.slice none 0 0, .slice none 0 0, .slice none 0 0] 92) := ⟨_, rfl⟩
        rw [← hV] at be' ⊢
        rw [← hV] at hM'
        rw [← hV] at hA'
        clear hV
        obtain ⟨p, hq⟩ : ∃ p, p = V1.heap.size := ⟨_, rfl⟩
        rw [← hq] at hA' lp ⊢
        clear hq
        have be := be'
        clear be'
        have hM := hM'
        clear hM'
        have hA := hA'
        clear hA'
        refine wpAnyH_ready (rs := [4]) (by kernel_rfl) (by simp) ?_
        refine AllReadyH.cons rfl (fun K hK => ?_) AllReadyH.nil
        · try simp only [List.getElem_toArray, List.getElem_cons_zero, List.getElem_cons_succ]
          go_simp
          have bn := (Below.refl V2.heap.size V2).alloc (Nat.le_refl _) (.cells #[.int .i64 (-1)] 3)
          have hO' : IB (V2.alloc (.cells #[.int .i64 (-1)] 3)) V2.heap.size 3 [-1] := heap_alloc_new V2 _
          have hM' := KB.below hM bn (KB.lt hM)
          have hA' := CB.below hA bn (CB.lt hA)
          have be' := be.trans (bn.mono be.size)
          have lb : w1.heap.size ≤ V2.heap.size := be.size
          refine hK.out _ _ trivial (fun hHeld => ?_)
          clear hK K bn be hM hA
          try simp only [Act.put, List.setIfInBounds_toArray, List.set_cons_zero, List.set_cons_succ]
          obtain ⟨V3, hV⟩ : ∃ V3, V3 = V2.alloc (.cells #[.int .i64 (-1)] 3) := ⟨_, rfl⟩
          rw [← hV] at be' ⊢
          rw [← hV] at hM'
          rw [← hV] at hA'
          rw [← hV] at hO'
          clear hV
          obtain ⟨b, hq⟩ : ∃ b, b = V2.heap.size := ⟨_, rfl⟩
          rw [← hq] at hO' lb ⊢
          clear hq
          have be := be'
          clear be'
          have hM := hM'
          clear hM'
          have hA := hA'
          clear hA'
          have hO := hO'
          clear hO'
          refine wpAnyH_ready (rs := [7]) (by kernel_rfl) (by simp) ?_
          refine AllReadyH.cons rfl (fun K hK => ?_) AllReadyH.nil
          · try simp only [List.getElem_toArray, List.getElem_cons_zero, List.getElem_cons_succ]
            go_simp
            go_at_call 136
            refine (HR.out b V3 (by have := IB.cell hO 0 (by simp); simpa using this) (IB.lt hO)).mono ?_
            rintro e V4 ⟨q, rfl, hq, hN, bn⟩
            have hM' := KB.below hM bn (KB.lt hM)
            have hA' := CB.below hA bn (CB.lt hA)
            have hO' := IB.below hO bn (IB.lt hO)
            have be' := be.trans (bn.mono be.size)
            have lq : w1.heap.size ≤ q := Nat.le_trans be.size hq
            refine hK.out _ _ trivial (fun hHeld => ?_)
            clear hK K bn be hq hM hA hO
            try simp only [Act.put, List.setIfInBounds_toArray, List.set_cons_zero, List.set_cons_succ]
            have be := be'
            clear be'
            have hM := hM'
            clear hM'
            have hA := hA'
            clear hA'
            have hO := hO'
            clear hO'
            refine wpAnyH_take (i := 8) (v := ?_) rfl (by kernel_rfl) (by kernel_rfl) (by kernel_rfl) (fun _ _ _ h => h) (Or.inl ⟨by rfl, ?_⟩) (by assumption) ?_
            rotate_left 1
            · (intro w hSw; go_simp; try with_reducible rfl)
            try simp only [Act.put, List.setIfInBounds_toArray, List.set_cons_zero, List.set_cons_succ]
            refine wpAnyH_ready (rs := [10]) (by kernel_rfl) (by simp) ?_
            refine AllReadyH.cons rfl (fun K hK => ?_) AllReadyH.nil
            try simp only [List.getElem_toArray, List.getElem_cons_zero, List.getElem_cons_succ]
            have s0 := CB.cell hA 0
            have s1 := CB.cell hA 1
            have s2 := CB.cell hA 2
            have f0 := CB.frozen hA 0
            have f1 := CB.frozen hA 1
            have f2 := CB.frozen hA 2
            simp only [List.getElem?_cons_zero, List.getElem?_cons_succ] at s0 s1 s2
            go_simp
            have hF := sel_fin (vE := .slice A n c) hA hM hN lp lg lq be
            refine hK.out _ _ trivial (fun hHeld => ?_)
            clear hK K
            try simp only [Act.put, List.setIfInBounds_toArray, List.set_cons_zero, List.set_cons_succ]
            refine wpAnyH_done (by kernel_rfl) ?_ _
            exact ⟨p, g, q, b, rfl, hF⟩
    · try simp only [List.getElem_toArray, List.getElem_cons_zero, List.getElem_cons_succ]
      go_simp
      have bn := (Below.refl V0.heap.size V0).alloc (Nat.le_refl _) (.cells #[.int .i64 (-1)] 3)
      have hO' : IB (V0.alloc (.cells #[.int .i64 (-1)] 3)) V0.heap.size 3 [-1] := heap_alloc_new V0 _
      have be' := be.trans (bn.mono be.size)
      have lb : w1.heap.size ≤ V0.heap.size := be.size
      refine hK.out _ _ trivial (fun hHeld => ?_)
      clear hK K bn be 
      try simp only [Act.put, List.setIfInBounds_toArray, List.set_cons_zero, List.set_cons_succ]
      obtain ⟨V1, hV⟩ : ∃ V1, V1 = V0.alloc (.cells #[.int .i64 (-1)] 3) := ⟨_, rfl⟩
      rw [← hV] at be' ⊢
      rw [← hV] at hO'
      clear hV
      obtain ⟨b, hq⟩ : ∃ b, b = V0.heap.size := ⟨_, rfl⟩
      rw [← hq] at hO' lb ⊢
      clear hq
      have be := be'
      clear be'
      have hO := hO'
      clear hO'
      refine wpAnyH_ready (rs := [3, 7, 9]) (by kernel_rfl) (by simp) ?_
      refine AllReadyH.cons rfl (fun K hK => ?_) (AllReadyH.cons rfl (fun K hK => ?_) (AllReadyH.cons rfl (fun K hK => ?_) AllReadyH.nil))
      · try simp only [List.getElem_toArray, List.getElem_cons_zero, List.getElem_cons_succ]
        go_simp
        have bn := (Below.refl V1.heap.size V1).alloc (Nat.le_refl _) (.cells ((List.replicate n zeroRt).flatMap Rt.enc).toArray 77)
        have hM' : KB Rt.enc 77 (V1.alloc (.cells ((List.replicate n zeroRt).flatMap Rt.enc).toArray 77)) V1.heap.size (List.replicate n zeroRt) := heap_alloc_new V1 _
        have hO' := IB.below hO bn (IB.lt hO)
        have be' := be.trans (bn.mono be.size)
        have lg : w1.heap.size ≤ V1.heap.size := be.size
        refine hK.out _ _ trivial (fun hHeld => ?_)
        clear hK K bn be hO
        try simp only [Act.put, List.setIfInBounds_toArray, List.set_cons_zero, List.set_cons_succ]
        obtain ⟨V2, hV⟩ : ∃ V2, V2 = V1.alloc (.cells ((List.replicate n zeroRt).flatMap Rt.enc).toArray 77) := ⟨_, rfl⟩
        rw [← hV] at be' ⊢
        rw [← hV] at hO'
        rw [← hV] at hM'
        clear hV
        obtain ⟨g, hq⟩ : ∃ g, g = V1.heap.size := ⟨_, rfl⟩
        rw [← hq] at hM' lg ⊢
        clear hq
        have be := be'
        clear be'
        have hO := hO'
        clear hO'
        have hM := hM'
        clear hM'
        refine wpAnyH_ready (rs := [7, 9]) (by kernel_rfl) (by simp) ?_
        refine AllReadyH.cons rfl (fun K hK => ?_) (AllReadyH.cons rfl (fun K hK => ?_) AllReadyH.nil)
        · try simp only [List.getElem_toArray, List.getElem_cons_zero, List.getElem_cons_succ]
          go_simp
          go_at_call 136
          refine (HR.out b V2 (by have := IB.cell hO 0 (by simp); simpa using this) (IB.lt hO)).mono ?_
          rintro e V3 ⟨q, rfl, hq, hN, bn⟩
          have hO' := IB.below hO bn (IB.lt hO)
          have hM' := KB.below hM bn (KB.lt hM)
          have be' := be.trans (bn.mono be.size)
          have lq : w1.heap.size ≤ q := Nat.le_trans be.size hq
          refine hK.out _ _ trivial (fun hHeld => ?_)
          clear hK K bn be hq hO hM
          try simp only [Act.put, List.setIfInBounds_toArray, List.set_cons_zero, List.set_cons_succ]
          have be := be'
          clear be'
          have hO := hO'
          clear hO'
          have hM := hM'
          clear hM'
          refine wpAnyH_take (i := 8) (v := ?_) rfl (by kernel_rfl) (by kernel_rfl) (by kernel_rfl) (fun _ _ _ h => h) (Or.inl ⟨by rfl, ?_⟩) (by assumption) ?_
          rotate_left 1
          · (intro w hSw; go_simp; try with_reducible rfl)
          try simp only [Act.put, List.setIfInBounds_toArray, List.set_cons_zero, List.set_cons_succ]
          refine wpAnyH_ready (rs := [9]) (by kernel_rfl) (by simp) ?_
          refine AllReadyH.cons rfl (fun K hK => ?_) AllReadyH.nil
          · try simp only [List.getElem_toArray, List.getElem_cons_zero, List.getElem_cons_succ]
            go_simp
            have bn := (Below.refl V3.heap.size V3).alloc (Nat.le_refl _) (.cells #[.slice none 0 0, .slice none 0 0, .slice none 0 0] 92)
            have hA' : CB 92 (V3.alloc (.cells #[.slice none 0 0, .slice none 0 0, .slice none 0 0] 92)) V3.heap.size [.slice none 0 0, .slice none 0 0, .slice none 0 0] := heap_alloc_new V3 _
            have hO' := IB.below hO bn (IB.lt hO)
            have hM' := KB.below hM bn (KB.lt hM)
            have hN' := IB.below hN bn (IB.lt hN)
            have be' := be.trans (bn.mono be.size)
            have lp : w1.heap.size ≤ V3.heap.size := be.size
            refine hK.out _ _ trivial (fun hHeld => ?_)
            clear hK K bn be hO hM hN
            try simp only [Act.put, List.setIfInBounds_toArray, List.set_cons_zero, List.set_cons_succ]
            obtain ⟨V4, hV⟩ : ∃ V4, V4 = V3.alloc (.cells #[.slice none 0 0, .slice none 0 0, .slice none 0 0] 92) := ⟨_, rfl⟩
            rw [← hV] at be' ⊢
            rw [← hV] at hO'
            rw [← hV] at hM'
            rw [← hV] at hN'
            rw [← hV] at hA'
            clear hV
            obtain ⟨p, hq⟩ : ∃ p, p = V3.heap.size := ⟨_, rfl⟩
            rw [← hq] at hA' lp ⊢
            clear hq
            have be := be'
            clear be'
            have hO := hO'
            clear hO'
            have hM := hM'
            clear hM'
            have hN := hN'
            clear hN'
            have hA := hA'
            clear hA'
            refine wpAnyH_ready (rs := [10]) (by kernel_rfl) (by simp) ?_
            refine AllReadyH.cons rfl (fun K hK => ?_) AllReadyH.nil
            try simp only [List.getElem_toArray, List.getElem_cons_zero, List.getElem_cons_succ]
            have s0 := CB.cell hA 0
            have s1 := CB.cell hA 1
            have s2 := CB.cell hA 2
            have f0 := CB.frozen hA 0
            have f1 := CB.frozen hA 1
            have f2 := CB.frozen hA 2
            simp only [List.getElem?_cons_zero, List.getElem?_cons_succ] at s0 s1 s2
            go_simp
            have hF := sel_fin (vE := .slice A n c) hA hM hN lp lg lq be
            refine hK.out _ _ trivial (fun hHeld => ?_)
            clear hK K
            try simp only [Act.put, List.setIfInBounds_toArray, List.set_cons_zero, List.set_cons_succ]
            refine wpAnyH_done (by kernel_rfl) ?_ _
            exact ⟨p, g, q, b, rfl, hF⟩
        · try simp only [List.getElem_toArray, List.getElem_cons_zero, List.getElem_cons_succ]
          go_simp
          have bn := (Below.refl V2.heap.size V2).alloc (Nat.le_refl _) (.cells #[.slice none 0 0, .slice none 0 0, .slice none 0 0] 92)
          have hA' : CB 92 (V2.alloc (.cells #[.slice none 0 0, .slice none 0 0, .slice none 0 0] 92)) V2.heap.size [.slice none 0 0, .slice none 0 0, .slice none 0 0] := heap_alloc_new V2 _
          have hO' := IB.below hO bn (IB.lt hO)
          have hM' := KB.below hM bn (KB.lt hM)
          have be' := be.trans (bn.mono be.size)
          have lp : w1.heap.size ≤ V2.heap.size := be.size
          refine hK.out _ _ trivial (fun hHeld => ?_)
          clear hK K bn be hO hM
          try simp only [Act.put, List.setIfInBounds_toArray, List.set_cons_zero, List.set_cons_succ]
          obtain ⟨V3, hV⟩ : ∃ V3, V3 = V2.alloc (.cells #[.slice none 0 0, .slice none 0 0, .slice none 0 0] 92) := ⟨_, rfl⟩
          rw [← hV] at be' ⊢
          rw [← hV] at hO'
          rw [← hV] at hM'
          rw [← hV] at hA'
          clear hV
          obtain ⟨p, hq⟩ : ∃ p, p = V2.heap.size := ⟨_, rfl⟩
          rw [← hq] at hA' lp ⊢
          clear hq
          have be := be'
          clear be'
          have hO := hO'
          clear hO'
          have hM := hM'
          clear hM'
          have hA := hA'
          clear hA'
          refine wpAnyH_ready (rs := [7]) (by kernel_rfl) (by simp) ?_
          refine AllReadyH.cons rfl (fun K hK => ?_) AllReadyH.nil
          · try simp only [List.getElem_toArray, List.getElem_cons_zero, List.getElem_cons_succ]
            go_simp
            go_at_call 136
            refine (HR.out b V3 (by have := IB.cell hO 0 (by simp); simpa using this) (IB.lt hO)).mono ?_
            rintro e V4 ⟨q, rfl, hq, hN, bn⟩
            have hO' := IB.below hO bn (IB.lt hO)
            have hM' := KB.below hM bn (KB.lt hM)
            have hA' := CB.below hA bn (CB.lt hA)
            have be' := be.trans (bn.mono be.size)
            have lq : w1.heap.size ≤ q := Nat.le_trans be.size hq
            refine hK.out _ _ trivial (fun hHeld => ?_)
            clear hK K bn be hq hO hM hA
            try simp only [Act.put, List.setIfInBounds_toArray, List.set_cons_zero, List.set_cons_succ]
            have be := be'
            clear be'
            have hO := hO'
            clear hO'
            have hM := hM'
            clear hM'
            have hA := hA'
            clear hA'
            refine wpAnyH_take (i := 8) (v := ?_) rfl (by kernel_rfl) (by kernel_rfl) (by kernel_rfl) (fun _ _ _ h => h) (Or.inl ⟨by rfl, ?_⟩) (by assumption) ?_
            rotate_left 1
            · (intro w hSw; go_simp; try with_reducible rfl)
            try simp only [Act.put, List.setIfInBounds_toArray, List.set_cons_zero, List.set_cons_succ]
            refine wpAnyH_ready (rs := [10]) (by kernel_rfl) (by simp) ?_
            refine AllReadyH.cons rfl (fun K hK => ?_) AllReadyH.nil
            try simp only [List.getElem_toArray, List.getElem_cons_zero, List.getElem_cons_succ]
            have s0 := CB.cell hA 0
            have s1 := CB.cell hA 1
            have s2 := CB.cell hA 2
            have f0 := CB.frozen hA 0
            have f1 := CB.frozen hA 1
            have f2 := CB.frozen hA 2
            simp only [List.getElem?_cons_zero, List.getElem?_cons_succ] at s0 s1 s2
            go_simp
            have hF := sel_fin (vE := .slice A n c) hA hM hN lp lg lq be
            refine hK.out _ _ trivial (fun hHeld => ?_)
            clear hK K
            try simp only [Act.put, List.setIfInBounds_toArray, List.set_cons_zero, List.set_cons_succ]
            refine wpAnyH_done (by kernel_rfl) ?_ _
            exact ⟨p, g, q, b, rfl, hF⟩
      · try simp only [List.getElem_toArray, List.getElem_cons_zero, List.getElem_cons_succ]
        go_simp
        go_at_call 136
        refine (HR.out b V1 (by have := IB.cell hO 0 (by simp); simpa using this) (IB.lt hO)).mono ?_
        rintro e V2 ⟨q, rfl, hq, hN, bn⟩
        have hO' := IB.below hO bn (IB.lt hO)
        have be' := be.trans (bn.mono be.size)
        have lq : w1.heap.size ≤ q := Nat.le_trans be.size hq
        refine hK.out _ _ trivial (fun hHeld => ?_)
        clear hK K bn be hq hO
        try simp only [Act.put, List.setIfInBounds_toArray, List.set_cons_zero, List.set_cons_succ]
        have be := be'
        clear be'
        have hO := hO'
        clear hO'
        refine wpAnyH_ready (rs := [3, 9]) (by kernel_rfl) (by simp) ?_
        refine AllReadyH.cons rfl (fun K hK => ?_) (AllReadyH.cons rfl (fun K hK => ?_) AllReadyH.nil)
        · try simp only [List.getElem_toArray, List.getElem_cons_zero, List.getElem_cons_succ]
          go_simp
          have bn := (Below.refl V2.heap.size V2).alloc (Nat.le_refl _) (.cells ((List.replicate n zeroRt).flatMap Rt.enc).toArray 77)
          have hM' : KB Rt.enc 77 (V2.alloc (.cells ((List.replicate n zeroRt).flatMap Rt.enc).toArray 77)) V2.heap.size (List.replicate n zeroRt) := heap_alloc_new V2 _
          have hO' := IB.below hO bn (IB.lt hO)
          have hN' := IB.below hN bn (IB.lt hN)
          have be' := be.trans (bn.mono be.size)
          have lg : w1.heap.size ≤ V2.heap.size := be.size
          refine hK.out _ _ trivial (fun hHeld => ?_)
          clear hK K bn be hO hN
          try simp only [Act.put, List.setIfInBounds_toArray, List.set_cons_zero, List.set_cons_succ]
          obtain ⟨V3, hV⟩ : ∃ V3, V3 = V2.alloc (.cells ((List.replicate n zeroRt).flatMap Rt.enc).toArray 77) := ⟨_, rfl⟩
          rw [← hV] at be' ⊢
          rw [← hV] at hO'
          rw [← hV] at hN'
          rw [← hV] at hM'
          clear hV
          obtain ⟨g, hq⟩ : ∃ g, g = V2.heap.size := ⟨_, rfl⟩
          rw [← hq] at hM' lg ⊢
          clear hq
          have be := be'
          clear be'
          have hO := hO'
          clear hO'
          have hN := hN'
          clear hN'
          have hM := hM'
          clear hM'
          refine wpAnyH_take (i := 8) (v := ?_) rfl (by kernel_rfl) (by kernel_rfl) (by kernel_rfl) (fun _ _ _ h => h) (Or.inl ⟨by rfl, ?_⟩) (by assumption) ?_
          rotate_left 1
          · (intro w hSw; go_simp; try with_reducible rfl)
          try simp only [Act.put, List.setIfInBounds_toArray, List.set_cons_zero, List.set_cons_succ]
          refine wpAnyH_ready (rs := [9]) (by kernel_rfl) (by simp) ?_
          refine AllReadyH.cons rfl (fun K hK => ?_) AllReadyH.nil
          · try simp only [List.getElem_toArray, List.getElem_cons_zero, List.getElem_cons_succ]
            go_simp
            have bn := (Below.refl V3.heap.size V3).alloc (Nat.le_refl _) (.cells #[.slice none 0 0, .slice none 0 0, .slice none 0 0] 92)
            have hA' : CB 92 (V3.alloc (.cells #[.slice none 0 0, .slice none 0 0, .slice none 0 0] 92)) V3.heap.size [.slice none 0 0, .slice none 0 0, .slice none 0 0] := heap_alloc_new V3 _
            have hO' := IB.below hO bn (IB.lt hO)
            have hN' := IB.below hN bn (IB.lt hN)
            have hM' := KB.below hM bn (KB.lt hM)
            have be' := be.trans (bn.mono be.size)
            have lp : w1.heap.size ≤ V3.heap.size := be.size
            refine hK.out _ _ trivial (fun hHeld => ?_)
            clear hK K bn be hO hN hM
            try simp only [Act.put, List.setIfInBounds_toArray, List.set_cons_zero, List.set_cons_succ]
            obtain ⟨V4, hV⟩ : ∃ V4, V4 = V3.alloc (.cells #[.slice none 0 0, .slice none 0 0, .slice none 0 0] 92) := ⟨_, rfl⟩
            rw [← hV] at be' ⊢
            rw [← hV] at hO'
            rw [← hV] at hN'
            rw [← hV] at hM'
            rw [← hV] at hA'
            clear hV
            obtain ⟨p, hq⟩ : ∃ p, p = V3.heap.size := ⟨_, rfl⟩
            rw [← hq] at hA' lp ⊢
            clear hq
            have be := be'
            clear be'
            have hO := hO'
            clear hO'
            have hN := hN'
            clear hN'
            have hM := hM'
            clear hM'
            have hA := hA'
            clear hA'
            refine wpAnyH_ready (rs := [10]) (by kernel_rfl) (by simp) ?_
            refine AllReadyH.cons rfl (fun K hK => ?_) AllReadyH.nil
            try simp only [List.getElem_toArray, List.getElem_cons_zero, List.getElem_cons_succ]
            have s0 := CB.cell hA 0
            have s1 := CB.cell hA 1
            have s2 := CB.cell hA 2
            have f0 := CB.frozen hA 0
            have f1 := CB.frozen hA 1
            have f2 := CB.frozen hA 2
            simp only [List.getElem?_cons_zero, List.getElem?_cons_succ] at s0 s1 s2
            go_simp
            have hF := sel_fin (vE := .slice A n c) hA hM hN lp lg lq be
            refine hK.out _ _ trivial (fun hHeld => ?_)
            clear hK K
            try simp only [Act.put, List.setIfInBounds_toArray, List.set_cons_zero, List.set_cons_succ]
            refine wpAnyH_done (by kernel_rfl) ?_ _
            exact ⟨p, g, q, b, rfl, hF⟩
        · try simp only [List.getElem_toArray, List.getElem_cons_zero, List.getElem_cons_succ]
          go_simp
          have bn := (Below.refl V2.heap.size V2).alloc (Nat.le_refl _) (.cells #[.slice none 0 0, .slice none 0 0, .slice none 0 0] 92)
          have hA' : CB 92 (V2.alloc (.cells #[.slice none 0 0, .slice none 0 0, .slice none 0 0] 92)) V2.heap.size [.slice none 0 0, .slice none 0 0, .slice none 0 0] := heap_alloc_new V2 _
          have hO' := IB.below hO bn (IB.lt hO)
          have hN' := IB.below hN bn (IB.lt hN)
          have be' := be.trans (bn.mono be.size)
          have lp : w1.heap.size ≤ V2.heap.size := be.size
          refine hK.out _ _ trivial (fun hHeld => ?_)
          clear hK K bn be hO hN
          try simp only [Act.put, List.setIfInBounds_toArray, List.set_cons_zero, List.set_cons_succ]
          obtain ⟨V3, hV⟩ : ∃ V3, V3 = V2.alloc (.cells #[.slice none 0 0, .slice none 0 0, .slice none 0 0] 92) := ⟨_, rfl⟩
          rw [← hV] at be' ⊢
          rw [← hV] at hO'
          rw [← hV] at hN'
          rw [← hV] at hA'
          clear hV
          obtain ⟨p, hq⟩ : ∃ p, p = V2.heap.size := ⟨_, rfl⟩
          rw [← hq] at hA' lp ⊢
          clear hq
          have be := be'
          clear be'
          have hO := hO'
          clear hO'
          have hN := hN'
          clear hN'
          have hA := hA'
          clear hA'
          refine wpAnyH_ready (rs := [3]) (by kernel_rfl) (by simp) ?_
          refine AllReadyH.cons rfl (fun K hK => ?_) AllReadyH.nil
          · try simp only [List.getElem_toArray, List.getElem_cons_zero, List.getElem_cons_succ]
            go_simp
            have bn := (Below.refl V3.heap.size V3).alloc (Nat.le_refl _) (.cells ((List.replicate n zeroRt).flatMap Rt.enc).toArray 77)
            have hM' : KB Rt.enc 77 (V3.alloc (.cells ((List.replicate n zeroRt).flatMap Rt.enc).toArray 77)) V3.heap.size (List.replicate n zeroRt) := heap_alloc_new V3 _
            have hO' := IB.below hO bn (IB.lt hO)
            have hN' := IB.below hN bn (IB.lt hN)
            have hA' := CB.below hA bn (CB.lt hA)
            have be' := be.trans (bn.mono be.size)
            have lg : w1.heap.size ≤ V3.heap.size := be.size
            refine hK.out _ _ trivial (fun hHeld => ?_)
            clear hK K bn be hO hN hA
            try simp only [Act.put, List.setIfInBounds_toArray, List.set_cons_zero, List.set_cons_succ]
            obtain ⟨V4, hV⟩ : ∃ V4, V4 = V3.alloc (.cells ((List.replicate n zeroRt).flatMap Rt.enc).toArray 77) := ⟨_, rfl⟩
            rw [← hV] at be' ⊢
            rw [← hV] at hO'
            rw [← hV] at hN'
            rw [← hV] at hA'
            rw [← hV] at hM'
            clear hV
            obtain ⟨g, hq⟩ : ∃ g, g = V3.heap.size := ⟨_, rfl⟩
            rw [← hq] at hM' lg ⊢
            clear hq
            have be := be'
            clear be'
            have hO := hO'
            clear hO'
            have hN := hN'
            clear hN'
            have hA := hA'
            clear hA'
            have hM := hM'
            clear hM'
            refine wpAnyH_take (i := 8) (v := ?_) rfl (by kernel_rfl) (by kernel_rfl) (by kernel_rfl) (fun _ _ _ h => h) (Or.inl ⟨by rfl, ?_⟩) (by assumption) ?_
            rotate_left 1
            · (intro w hSw; go_simp; try with_reducible rfl)
            try simp only [Act.put, List.setIfInBounds_toArray, List.set_cons_zero, List.set_cons_succ]
            refine wpAnyH_ready (rs := [10]) (by kernel_rfl) (by simp) ?_
            refine AllReadyH.cons rfl (fun K hK => ?_) AllReadyH.nil
            try simp only [List.getElem_toArray, List.getElem_cons_zero, List.getElem_cons_succ]
            have s0 := CB.cell hA 0
            have s1 := CB.cell hA 1
            have s2 := CB.cell hA 2
            have f0 := CB.frozen hA 0
            have f1 := CB.frozen hA 1
            have f2 := CB.frozen hA 2
            simp only [List.getElem?_cons_zero, List.getElem?_cons_succ] at s0 s1 s2
            go_simp
            have hF := sel_fin (vE := .slice A n c) hA hM hN lp lg lq be
            refine hK.out _ _ trivial (fun hHeld => ?_)
            clear hK K
            try simp only [Act.put, List.setIfInBounds_toArray, List.set_cons_zero, List.set_cons_succ]
            refine wpAnyH_done (by kernel_rfl) ?_ _
            exact ⟨p, g, q, b, rfl, hF⟩
      · try simp only [List.getElem_toArray, List.getElem_cons_zero, List.getElem_cons_succ]
        go_simp
        have bn := (Below.refl V1.heap.size V1).alloc (Nat.le_refl _) (.cells #[.slice none 0 0, .slice none 0 0, .slice none 0 0] 92)
        have hA' : CB 92 (V1.alloc (.cells #[.slice none 0 0, .slice none 0 0, .slice none 0 0] 92)) V1.heap.size [.slice none 0 0, .slice none 0 0, .slice none 0 0] := heap_alloc_new V1 _
        have hO' := IB.below hO bn (IB.lt hO)
        have be' := be.trans (bn.mono be.size)
        have lp : w1.heap.size ≤ V1.heap.size := be.size
        refine hK.out _ _ trivial (fun hHeld => ?_)
        clear hK K bn be hO
        try simp only [Act.put, List.setIfInBounds_toArray, List.set_cons_zero, List.set_cons_succ]
        obtain ⟨V2, hV⟩ : ∃ V2, V2 = V1.alloc (.cells #[.slice none 0 0, .slice none 0 0, .slice none 0 0] 92) := ⟨_, rfl⟩
        rw [← hV] at be' ⊢
        rw [← hV] at hO'
        rw [← hV] at hA'
        clear hV
        obtain ⟨p, hq⟩ : ∃ p, p = V1.heap.size := ⟨_, rfl⟩
        rw [← hq] at hA' lp ⊢
        clear hq
        have be := be'
        clear be'
        have hO := hO'
        clear hO'
        have hA := hA'
        clear hA'
        refine wpAnyH_ready (rs := [3, 7]) (by kernel_rfl) (by simp) ?_
        refine AllReadyH.cons rfl (fun K hK => ?_) (AllReadyH.cons rfl (fun K hK => ?_) AllReadyH.nil)
        · try simp only [List.getElem_toArray, List.getElem_cons_zero, List.getElem_cons_succ]
          go_simp
          have bn := (Below.refl V2.heap.size V2).alloc (Nat.le_refl _) (.cells ((List.replicate n zeroRt).flatMap Rt.enc).toArray 77)
          have hM' : KB Rt.enc 77 (V2.alloc (.cells ((List.replicate n zeroRt).flatMap Rt.enc).toArray 77)) V2.heap.size (List.replicate n zeroRt) := heap_alloc_new V2 _
          have hO' := IB.below hO bn (IB.lt hO)
          have hA' := CB.below hA bn (CB.lt hA)
          have be' := be.trans (bn.mono be.size)
          have lg : w1.heap.size ≤ V2.heap.size := be.size
          refine hK.out _ _ trivial (fun hHeld => ?_)
          clear hK K bn be hO hA
          try simp only [Act.put, List.setIfInBounds_toArray, List.set_cons_zero, List.set_cons_succ]
          obtain ⟨V3, hV⟩ : ∃ V3, V3 = V2.alloc (.cells ((List.replicate n zeroRt).flatMap Rt.enc).toArray 77) := ⟨_, rfl⟩
          rw [← hV] at be' ⊢
          rw [← hV] at hO'
          rw [← hV] at hA'
          rw [← hV] at hM'
          clear hV
          obtain ⟨g, hq⟩ : ∃ g, g = V2.heap.size := ⟨_, rfl⟩
          rw [← hq] at hM' lg ⊢
          clear hq
          have be := be'
          clear be'
          have hO := hO'
          clear hO'
          have hA := hA'
          clear hA'
          have hM := hM'
          clear hM'
          refine wpAnyH_ready (rs := [7]) (by kernel_rfl) (by simp) ?_
          refine AllReadyH.cons rfl (fun K hK => ?_) AllReadyH.nil
          · try simp only [List.getElem_toArray, List.getElem_cons_zero, List.getElem_cons_succ]
            go_simp
            go_at_call 136
            refine (HR.out b V3 (by have := IB.cell hO 0 (by simp); simpa using this) (IB.lt hO)).mono ?_
            rintro e V4 ⟨q, rfl, hq, hN, bn⟩
            have hO' := IB.below hO bn (IB.lt hO)
            have hA' := CB.below hA bn (CB.lt hA)
            have hM' := KB.below hM bn (KB.lt hM)
            have be' := be.trans (bn.mono be.size)
            have lq : w1.heap.size ≤ q := Nat.le_trans be.size hq
            refine hK.out _ _ trivial (fun hHeld => ?_)
            clear hK K bn be hq hO hA hM
            try simp only [Act.put, List.setIfInBounds_toArray, List.set_cons_zero, List.set_cons_succ]
            have be := be'
            clear be'
            have hO := hO'
            clear hO'
            have hA := hA'
            clear hA'
            have hM := hM'
            clear hM'
            refine wpAnyH_take (i := 8) (v := ?_) rfl (by kernel_rfl) (by kernel_rfl) (by kernel_rfl) (fun _ _ _ h => h) (Or.inl ⟨by rfl, ?_⟩) (by assumption) ?_
            rotate_left 1
            · (intro w hSw; go_simp; try with_reducible rfl)
            try simp only [Act.put, List.setIfInBounds_toArray, List.set_cons_zero, List.set_cons_succ]
            refine wpAnyH_ready (rs := [10]) (by kernel_rfl) (by simp) ?_
            refine AllReadyH.cons rfl (fun K hK => ?_) AllReadyH.nil
            try simp only [List.getElem_toArray, List.getElem_cons_zero, List.getElem_cons_succ]
            have s0 := CB.cell hA 0
            have s1 := CB.cell hA 1
            have s2 := CB.cell hA 2
            have f0 := CB.frozen hA 0
            have f1 := CB.frozen hA 1
            have f2 := CB.frozen hA 2
            simp only [List.getElem?_cons_zero, List.getElem?_cons_succ] at s0 s1 s2
            go_simp
            have hF := sel_fin (vE := .slice A n c) hA hM hN lp lg lq be
            refine hK.out _ _ trivial (fun hHeld => ?_)
            clear hK K
            try simp only [Act.put, List.setIfInBounds_toArray, List.set_cons_zero, List.set_cons_succ]
            refine wpAnyH_done (by kernel_rfl) ?_ _
            exact ⟨p, g, q, b, rfl, hF⟩
        · try simp only [List.getElem_toArray, List.getElem_cons_zero, List.getElem_cons_succ]
          go_simp
          go_at_call 136
          refine (HR.out b V2 (by have := IB.cell hO 0 (by simp); simpa using this) (IB.lt hO)).mono ?_
          rintro e V3 ⟨q, rfl, hq, hN, bn⟩
          have hO' := IB.below hO bn (IB.lt hO)
          have hA' := CB.below hA bn (CB.lt hA)
          have be' := be.trans (bn.mono be.size)
          have lq : w1.heap.size ≤ q := Nat.le_trans be.size hq
          refine hK.out _ _ trivial (fun hHeld => ?_)
          clear hK K bn be hq hO hA
          try simp only [Act.put, List.setIfInBounds_toArray, List.set_cons_zero, List.set_cons_succ]
          have be := be'
          clear be'
          have hO := hO'
          clear hO'
          have hA := hA'
          clear hA'
          refine wpAnyH_ready (rs := [3]) (by kernel_rfl) (by simp) ?_
          refine AllReadyH.cons rfl (fun K hK => ?_) AllReadyH.nil
          · try simp only [List.getElem_toArray, List.getElem_cons_zero, List.getElem_cons_succ]
            go_simp
            have bn := (Below.refl V3.heap.size V3).alloc (Nat.le_refl _) (.cells ((List.replicate n zeroRt).flatMap Rt.enc).toArray 77)
            have hM' : KB Rt.enc 77 (V3.alloc (.cells ((List.replicate n zeroRt).flatMap Rt.enc).toArray 77)) V3.heap.size (List.replicate n zeroRt) := heap_alloc_new V3 _
            have hO' := IB.below hO bn (IB.lt hO)
            have hA' := CB.below hA bn (CB.lt hA)
            have hN' := IB.below hN bn (IB.lt hN)
            have be' := be.trans (bn.mono be.size)
            have lg : w1.heap.size ≤ V3.heap.size := be.size
            refine hK.out _ _ trivial (fun hHeld => ?_)
            clear hK K bn be hO hA hN
            try simp only [Act.put, List.setIfInBounds_toArray, List.set_cons_zero, List.set_cons_succ]
            obtain ⟨V4, hV⟩ : ∃ V4, V4 = V3.alloc (.cells ((List.replicate n zeroRt).flatMap Rt.enc).toArray 77) := ⟨_, rfl⟩
            rw [← hV] at be' ⊢
            rw [← hV] at hO'
            rw [← hV] at hA'
            rw [← hV] at hN'
            rw [← hV] at hM'
            clear hV
            obtain ⟨g, hq⟩ : ∃ g, g = V3.heap.size := ⟨_, rfl⟩
            rw [← hq] at hM' lg ⊢
            clear hq
            have be := be'
            clear be'
            have hO := hO'
            clear hO'
            have hA := hA'
            clear hA'
            have hN := hN'
            clear hN'
            have hM := hM'
            clear hM'
            refine wpAnyH_take (i := 8) (v := ?_) rfl (by kernel_rfl) (by kernel_rfl) (by kernel_rfl) (fun _ _ _ h => h) (Or.inl ⟨by rfl, ?_⟩) (by assumption) ?_
            rotate_left 1
            · (intro w hSw; go_simp; try with_reducible rfl)
            try simp only [Act.put, List.setIfInBounds_toArray, List.set_cons_zero, List.set_cons_succ]
            refine wpAnyH_ready (rs := [10]) (by kernel_rfl) (by simp) ?_
            refine AllReadyH.cons rfl (fun K hK => ?_) AllReadyH.nil
            try simp only [List.getElem_toArray, List.getElem_cons_zero, List.getElem_cons_succ]
            have s0 := CB.cell hA 0
            have s1 := CB.cell hA 1
            have s2 := CB.cell hA 2
            have f0 := CB.frozen hA 0
            have f1 := CB.frozen hA 1
            have f2 := CB.frozen hA 2
            simp only [List.getElem?_cons_zero, List.getElem?_cons_succ] at s0 s1 s2
            go_simp
            have hF := sel_fin (vE := .slice A n c) hA hM hN lp lg lq be
            refine hK.out _ _ trivial (fun hHeld => ?_)
            clear hK K
            try simp only [Act.put, List.setIfInBounds_toArray, List.set_cons_zero, List.set_cons_succ]
            refine wpAnyH_done (by kernel_rfl) ?_ _
            exact ⟨p, g, q, b, rfl, hF⟩
    · try simp only [List.getElem_toArray, List.getElem_cons_zero, List.getElem_cons_succ]
      go_simp
      have bn := (Below.refl V0.heap.size V0).alloc (Nat.le_refl _) (.cells #[.slice none 0 0, .slice none 0 0, .slice none 0 0] 92)
      have hA' : CB 92 (V0.alloc (.cells #[.slice none 0 0, .slice none 0 0, .slice none 0 0] 92)) V0.heap.size [.slice none 0 0, .slice none 0 0, .slice none 0 0] := heap_alloc_new V0 _
      have be' := be.trans (bn.mono be.size)
      have lp : w1.heap.size ≤ V0.heap.size := be.size
      refine hK.out _ _ trivial (fun hHeld => ?_)
      clear hK K bn be 
      try simp only [Act.put, List.setIfInBounds_toArray, List.set_cons_zero, List.set_cons_succ]
      obtain ⟨V1, hV⟩ : ∃ V1, V1 = V0.alloc (.cells #[.slice none 0 0, .slice none 0 0, .slice none 0 0] 92) := ⟨_, rfl⟩
      rw [← hV] at be' ⊢
      rw [← hV] at hA'
      clear hV
      obtain ⟨p, hq⟩ : ∃ p, p = V0.heap.size := ⟨_, rfl⟩
      rw [← hq] at hA' lp ⊢
      clear hq
      have be := be'
      clear be'
      have hA := hA'
      clear hA'
      refine wpAnyH_ready (rs := [3, 4]) (by kernel_rfl) (by simp) ?_
      refine AllReadyH.cons rfl (fun K hK => ?_) (AllReadyH.cons rfl (fun K hK => ?_) AllReadyH.nil)
      · try simp only [List.getElem_toArray, List.getElem_cons_zero, List.getElem_cons_succ]
        go_simp
        have bn := (Below.refl V1.heap.size V1).alloc (Nat.le_refl _) (.cells ((List.replicate n zeroRt).flatMap Rt.enc).toArray 77)
        have hM' : KB Rt.enc 77 (V1.alloc (.cells ((List.replicate n zeroRt).flatMap Rt.enc).toArray 77)) V1.heap.size (List.replicate n zeroRt) := heap_alloc_new V1 _
        have hA' := CB.below hA bn (CB.lt hA)
        have be' := be.trans (bn.mono be.size)
        have lg : w1.heap.size ≤ V1.heap.size := be.size
        refine hK.out _ _ trivial (fun hHeld => ?_)
        clear hK K bn be hA
        try simp only [Act.put, List.setIfInBounds_toArray, List.set_cons_zero, List.set_cons_succ]
        obtain ⟨V2, hV⟩ : ∃ V2, V2 = V1.alloc (.cells ((List.replicate n zeroRt).flatMap Rt.enc).toArray 77) := ⟨_, rfl⟩
        rw [← hV] at be' ⊢
        rw [← hV] at hA'
        rw [← hV] at hM'
        clear hV
        obtain ⟨g, hq⟩ : ∃ g, g = V1.heap.size := ⟨_, rfl⟩
        rw [← hq] at hM' lg ⊢
        clear hq
        have be := be'
        clear be'
        have hA := hA'
        clear hA'
        have hM := hM'
        clear hM'
        refine wpAnyH_ready (rs := [4]) (by kernel_rfl) (by simp) ?_
        refine AllReadyH.cons rfl (fun K hK => ?_) AllReadyH.nil
        · try simp only [List.getElem_toArray, List.getElem_cons_zero, List.getElem_cons_succ]
          go_simp
          have bn := (Below.refl V2.heap.size V2).alloc (Nat.le_refl _) (.cells #[.int .i64 (-1)] 3)
          have hO' : IB (V2.alloc (.cells #[.int .i64 (-1)] 3)) V2.heap.size 3 [-1] := heap_alloc_new V2 _
          have hA' := CB.below hA bn (CB.lt hA)
          have hM' := KB.below hM bn (KB.lt hM)
          have be' := be.trans (bn.mono be.size)
          have lb : w1.heap.size ≤ V2.heap.size := be.size
          refine hK.out _ _ trivial (fun hHeld => ?_)
          clear hK K bn be hA hM
          try simp only [Act.put, List.setIfInBounds_toArray, List.set_cons_zero, List.set_cons_succ]
          obtain ⟨V3, hV⟩ : ∃ V3, V3 = V2.alloc (.cells #[.int .i64 (-1)] 3) := ⟨_, rfl⟩
          rw [← hV] at be' ⊢
          rw [← hV] at hA'
          rw [← hV] at hM'
          rw [← hV] at hO'
          clear hV
          obtain ⟨b, hq⟩ : ∃ b, b = V2.heap.size := ⟨_, rfl⟩
          rw [← hq] at hO' lb ⊢
          clear hq
          have be := be'
          clear be'
          have hA := hA'
          clear hA'
          have hM := hM'
          clear hM'
          have hO := hO'
          clear hO'
          refine wpAnyH_ready (rs := [7]) (by kernel_rfl) (by simp) ?_
          refine AllReadyH.cons rfl (fun K hK => ?_) AllReadyH.nil
          · try simp only [List.getElem_toArray, List.getElem_cons_zero, List.getElem_cons_succ]
            go_simp
            go_at_call 136
            refine (HR.out b V3 (by have := IB.cell hO 0 (by simp); simpa using this) (IB.lt hO)).mono ?_
            rintro e V4 ⟨q, rfl, hq, hN, bn⟩
            have hA' := CB.below hA bn (CB.lt hA)
            have hM' := KB.below hM bn (KB.lt hM)
            have hO' := IB.below hO bn (IB.lt hO)
            have be' := be.trans (bn.mono be.size)
            have lq : w1.heap.size ≤ q := Nat.le_trans be.size hq
            refine hK.out _ _ trivial (fun hHeld => ?_)
            clear hK K bn be hq hA hM hO
            try simp only [Act.put, List.setIfInBounds_toArray, List.set_cons_zero, List.set_cons_succ]
            have be := be'
            clear be'
            have hA := hA'
            clear hA'
            have hM := hM'
            clear hM'
            have hO := hO'
            clear hO'
            refine wpAnyH_take (i := 8) (v := ?_) rfl (by kernel_rfl) (by kernel_rfl) (by kernel_rfl) (fun _ _ _ h => h) (Or.inl ⟨by rfl, ?_⟩) (by assumption) ?_
            rotate_left 1
            · (intro w hSw; go_simp; try with_reducible rfl)
            try simp only [Act.put, List.setIfInBounds_toArray, List.set_cons_zero, List.set_cons_succ]
            refine wpAnyH_ready (rs := [10]) (by kernel_rfl) (by simp) ?_
            refine AllReadyH.cons rfl (fun K hK => ?_) AllReadyH.nil
            try simp only [List.getElem_toArray, List.getElem_cons_zero, List.getElem_cons_succ]
            have s0 := CB.cell hA 0
            have s1 := CB.cell hA 1
            have s2 := CB.cell hA 2
            have f0 := CB.frozen hA 0
            have f1 := CB.frozen hA 1
            have f2 := CB.frozen hA 2
            simp only [List.getElem?_cons_zero, List.getElem?_cons_succ] at s0 s1 s2
            go_simp
            have hF := sel_fin (vE := .slice A n c) hA hM hN lp lg lq be
            refine hK.out _ _ trivial (fun hHeld => ?_)
            clear hK K
            try simp only [Act.put, List.setIfInBounds_toArray, List.set_cons_zero, List.set_cons_succ]
            refine wpAnyH_done (by kernel_rfl) ?_ _
            exact ⟨p, g, q, b, rfl, hF⟩
      · try simp only [List.getElem_toArray, List.getElem_cons_zero, List.getElem_cons_succ]
        go_simp
        have bn := (Below.refl V1.heap.size V1).alloc (Nat.le_refl _) (.cells #[.int .i64 (-1)] 3)
        have hO' : IB (V1.alloc (.cells #[.int .i64 (-1)] 3)) V1.heap.size 3 [-1] := heap_alloc_new V1 _
        have hA' := CB.below hA bn (CB.lt hA)
        have be' := be.trans (bn.mono be.size)
        have lb : w1.heap.size ≤ V1.heap.size := be.size
        refine hK.out _ _ trivial (fun hHeld => ?_)
        clear hK K bn be hA
        try simp only [Act.put, List.setIfInBounds_toArray, List.set_cons_zero, List.set_cons_succ]
        obtain ⟨V2, hV⟩ : ∃ V2, V2 = V1.alloc (.cells #[.int .i64 (-1)] 3) := ⟨_, rfl⟩
        rw [← hV] at be' ⊢
        rw [← hV] at hA'
        rw [← hV] at hO'
        clear hV
        obtain ⟨b, hq⟩ : ∃ b, b = V1.heap.size := ⟨_, rfl⟩
        rw [← hq] at hO' lb ⊢
        clear hq
        have be := be'
        clear be'
        have hA := hA'
        clear hA'
        have hO := hO'
        clear hO'
        refine wpAnyH_ready (rs := [3, 7]) (by kernel_rfl) (by simp) ?_
        refine AllReadyH.cons rfl (fun K hK => ?_) (AllReadyH.cons rfl (fun K hK => ?_) AllReadyH.nil)
        · try simp only [List.getElem_toArray, List.getElem_cons_zero, List.getElem_cons_succ]
          go_simp
          have bn := (Below.refl V2.heap.size V2).alloc (Nat.le_refl _) (.cells ((List.replicate n zeroRt).flatMap Rt.enc).toArray 77)
          have hM' : KB Rt.enc 77 (V2.alloc (.cells ((List.replicate n zeroRt).flatMap Rt.enc).toArray 77)) V2.heap.size (List.replicate n zeroRt) := heap_alloc_new V2 _
          have hA' := CB.below hA bn (CB.lt hA)
          have hO' := IB.below hO bn (IB.lt hO)
          have be' := be.trans (bn.mono be.size)
          have lg : w1.heap.size ≤ V2.heap.size := be.size
          refine hK.out _ _ trivial (fun hHeld => ?_)
          clear hK K bn be hA hO
          try simp only [Act.put, List.setIfInBounds_toArray, List.set_cons_zero, List.set_cons_succ]
          obtain ⟨V3, hV⟩ : ∃ V3, V3 = V2.alloc (.cells ((List.replicate n zeroRt).flatMap Rt.enc).toArray 77) := ⟨_, rfl⟩
          rw [← hV] at be' ⊢
          rw [← hV] at hA'
          rw [← hV] at hO'
          rw [← hV] at hM'
          clear hV
          obtain ⟨g, hq⟩ : ∃ g, g = V2.heap.size := ⟨_, rfl⟩
          rw [← hq] at hM' lg ⊢
          clear hq
          have be := be'
          clear be'
          have hA := hA'
          clear hA'
          have hO := hO'
          clear hO'
          have hM := hM'
          clear hM'
          refine wpAnyH_ready (rs := [7]) (by kernel_rfl) (by simp) ?_
          refine AllReadyH.cons rfl (fun K hK => ?_) AllReadyH.nil
          · try simp only [List.getElem_toArray, List.getElem_cons_zero, List.getElem_cons_succ]
            go_simp
            go_at_call 136
            refine (HR.out b V3 (by have := IB.cell hO 0 (by simp); simpa using this) (IB.lt hO)).mono ?_
            rintro e V4 ⟨q, rfl, hq, hN, bn⟩
            have hA' := CB.below hA bn (CB.lt hA)
            have hO' := IB.below hO bn (IB.lt hO)
            have hM' := KB.below hM bn (KB.lt hM)
            have be' := be.trans (bn.mono be.size)
            have lq : w1.heap.size ≤ q := Nat.le_trans be.size hq
            refine hK.out _ _ trivial (fun hHeld => ?_)
            clear hK K bn be hq hA hO hM
            try simp only [Act.put, List.setIfInBounds_toArray, List.set_cons_zero, List.set_cons_succ]
            have be := be'
            clear be'
            have hA := hA'
            clear hA'
            have hO := hO'
            clear hO'
            have hM := hM'
            clear hM'
            refine wpAnyH_take (i := 8) (v := ?_) rfl (by kernel_rfl) (by kernel_rfl) (by kernel_rfl) (fun _ _ _ h => h) (Or.inl ⟨by rfl, ?_⟩) (by assumption) ?_
            rotate_left 1
            · (intro w hSw; go_simp; try with_reducible rfl)
            try simp only [Act.put, List.setIfInBounds_toArray, List.set_cons_zero, List.set_cons_succ]
            refine wpAnyH_ready (rs := [10]) (by kernel_rfl) (by simp) ?_
            refine AllReadyH.cons rfl (fun K hK => ?_) AllReadyH.nil
            try simp only [List.getElem_toArray, List.getElem_cons_zero, List.getElem_cons_succ]
            have s0 := CB.cell hA 0
            have s1 := CB.cell hA 1
            have s2 := CB.cell hA 2
            have f0 := CB.frozen hA 0
            have f1 := CB.frozen hA 1
            have f2 := CB.frozen hA 2
            simp only [List.getElem?_cons_zero, List.getElem?_cons_succ] at s0 s1 s2
            go_simp
            have hF := sel_fin (vE := .slice A n c) hA hM hN lp lg lq be
            refine hK.out _ _ trivial (fun hHeld => ?_)
            clear hK K
            try simp only [Act.put, List.setIfInBounds_toArray, List.set_cons_zero, List.set_cons_succ]
            refine wpAnyH_done (by kernel_rfl) ?_ _
            exact ⟨p, g, q, b, rfl, hF⟩
        · try simp only [List.getElem_toArray, List.getElem_cons_zero, List.getElem_cons_succ]
          go_simp
          go_at_call 136
          refine (HR.out b V2 (by have := IB.cell hO 0 (by simp); simpa using this) (IB.lt hO)).mono ?_
          rintro e V3 ⟨q, rfl, hq, hN, bn⟩
          have hA' := CB.below hA bn (CB.lt hA)
          have hO' := IB.below hO bn (IB.lt hO)
          have be' := be.trans (bn.mono be.size)
          have lq : w1.heap.size ≤ q := Nat.le_trans be.size hq
          refine hK.out _ _ trivial (fun hHeld => ?_)
          clear hK K bn be hq hA hO
          try simp only [Act.put, List.setIfInBounds_toArray, List.set_cons_zero, List.set_cons_succ]
          have be := be'
          clear be'
          have hA := hA'
          clear hA'
          have hO := hO'
          clear hO'
          refine wpAnyH_ready (rs := [3]) (by kernel_rfl) (by simp) ?_
          refine AllReadyH.cons rfl (fun K hK => ?_) AllReadyH.nil
          · try simp only [List.getElem_toArray, List.getElem_cons_zero, List.getElem_cons_succ]
            go_simp
            have bn := (Below.refl V3.heap.size V3).alloc (Nat.le_refl _) (.cells ((List.replicate n zeroRt).flatMap Rt.enc).toArray 77)
            have hM' : KB Rt.enc 77 (V3.alloc (.cells ((List.replicate n zeroRt).flatMap Rt.enc).toArray 77)) V3.heap.size (List.replicate n zeroRt) := heap_alloc_new V3 _
            have hA' := CB.below hA bn (CB.lt hA)
            have hO' := IB.below hO bn (IB.lt hO)
            have hN' := IB.below hN bn (IB.lt hN)
            have be' := be.trans (bn.mono be.size)
            have lg : w1.heap.size ≤ V3.heap.size := be.size
            refine hK.out _ _ trivial (fun hHeld => ?_)
            clear hK K bn be hA hO hN
            try simp only [Act.put, List.setIfInBounds_toArray, List.set_cons_zero, List.set_cons_succ]
            obtain ⟨V4, hV⟩ : ∃ V4, V4 = V3.alloc (.cells ((List.replicate n zeroRt).flatMap Rt.enc).toArray 77) := ⟨_, rfl⟩
            rw [← hV] at be' ⊢
            rw [← hV] at hA'
            rw [← hV] at hO'
            rw [← hV] at hN'
            rw [← hV] at hM'
            clear hV
            obtain ⟨g, hq⟩ : ∃ g, g = V3.heap.size := ⟨_, rfl⟩
            rw [← hq] at hM' lg ⊢
            clear hq
            have be := be'
            clear be'
            have hA := hA'
            clear hA'
            have hO := hO'
            clear hO'
            have hN := hN'
            clear hN'
            have hM := hM'
            clear hM'
            refine wpAnyH_take (i := 8) (v := ?_) rfl (by kernel_rfl) (by kernel_rfl) (by kernel_rfl) (fun _ _ _ h => h) (Or.inl ⟨by rfl, ?_⟩) (by assumption) ?_
            rotate_left 1
            · (intro w hSw; go_simp; try with_reducible rfl)
            try simp only [Act.put, List.setIfInBounds_toArray, List.set_cons_zero, List.set_cons_succ]
            refine wpAnyH_ready (rs := [10]) (by kernel_rfl) (by simp) ?_
            refine AllReadyH.cons rfl (fun K hK => ?_) AllReadyH.nil
            try simp only [List.getElem_toArray, List.getElem_cons_zero, List.getElem_cons_succ]
            have s0 := CB.cell hA 0
            have s1 := CB.cell hA 1
            have s2 := CB.cell hA 2
            have f0 := CB.frozen hA 0
            have f1 := CB.frozen hA 1
            have f2 := CB.frozen hA 2
            simp only [List.getElem?_cons_zero, List.getElem?_cons_succ] at s0 s1 s2
            go_simp
            have hF := sel_fin (vE := .slice A n c) hA hM hN lp lg lq be
            refine hK.out _ _ trivial (fun hHeld => ?_)
            clear hK K
            try simp only [Act.put, List.setIfInBounds_toArray, List.set_cons_zero, List.set_cons_succ]
            refine wpAnyH_done (by kernel_rfl) ?_ _
            exact ⟨p, g, q, b, rfl, hF⟩
  rintro a W2 ⟨p, g, q, b, rfl, hS⟩
  dsimp only
  have hP0 := Lib.hid hS.bx
  have hG0 := Lib.hid hS.ts
  have hQ0 := Lib.hid hS.ns
  have hpg1 := hS.lp
  have hgg1 := hS.lg
  have hqg1 := hS.lq
  have hB2 := Lib.hid hS.be
  clear hS
  have hZ2 := Lib.hid (CB.below hZ1.out hB2.out hzl)
  go_wp2_with (fail)
  go_loopw [31] (fun u wr => ∃ k : Nat, k ≤ n ∧ u = .int .i64 k ∧ CB 92 wr p [.slice A n c, .slice (some ⟨g, 0, none⟩) n n, .slice (some ⟨q, 0, none⟩) n n] ∧ (∃ rs : List Rt, rs.length = n ∧ KB Rt.enc 77 wr g rs) ∧ IB wr q 3 (ND k) ∧ Below w1.heap.size w1 wr) (fun u _ => n - (intOf u).toNat)
  case atStart => exact ⟨0, Nat.zero_le _, rfl, hP0.out, ⟨_, List.length_replicate, hG0.out⟩, by rw [H0.out]; exact hQ0.out, hB2.out⟩
  case round =>
    obtain ⟨k, hk, rfl, hcb, ⟨rs, hrl, hkb⟩, hib, hbel⟩ := hrel
    have hCB := Lib.hid hcb
    have hKB := Lib.hid hkb
    have hIB := Lib.hid hib
    have hBL := Lib.hid hbel
    clear hcb hkb hib hbel
    by_cases hlt : k < n
    · obtain ⟨pb, po, rfl, ⟨_, hpB⟩, hpp⟩ := HI.out wr (hb1h.out.trans (hBL.out.mono hb1h.out.size)) (by rw [hll.out]; omega)
      have y1 := hpp k (by rw [hll.out]; exact hlt)
      rw [show nums[k]'(by rw [hll.out]; exact hlt) = nums.getD k 0 from (getD_get (by rw [hll.out]; exact hlt)).symm] at y1
      have hki : (k : Int) < (n : Int) := by omega
      have hk0 : (0 : Int) ≤ (k : Int) := by omega
      have hkh := Lib.hid hlt
      have hsk := Lib.hid (HK.out k)
      have hst := Lib.hid (HS.out k)
      have htl := Lib.hid (HT.out k hlt)
      have hxx := Lib.hid (HX.out k hlt)
      have hzk := HZ.out k
      have hlow := HL.out k hlt
      clear hpp
      generalize hnk : ND (k + 1) = nk at *
      have hNK := Lib.hid hnk
      clear hnk
      generalize TD k = x at *
      generalize ND k = nd at *
      by_cases hneg : nums.getD k 0 = -1
      · have hs := Lib.hid (hsk.out hneg)
        rw [hneg] at y1
        clear hlow hsk hst htl hxx hneg
        go_wp2
        go_roundw
        case rel => exact ⟨k + 1, hkh.out, by go_num, hCB.out, ⟨rs, hrl, hKB.out⟩, by rw [hNK.out, hs.out]; exact hIB.out, hBL.out⟩
        case measure => simp [intOf]; omega
      · have hs := Lib.hid (hst.out hneg)
        have hTo := Lib.hid (htl.out hneg)
        obtain ⟨hx1, hx2, hx3⟩ := hxx.out hneg
        have hX2 := Lib.hid hx2
        have hX3 := Lib.hid hx3
        have hpos : 0 ≤ nums.getD k 0 ∧ nums.getD k 0 ≤ 12 := hlow.resolve_left hneg
        clear hlow hsk hst htl hxx hneg hx2 hx3
        generalize nums.getD k 0 = t at *
        obtain ⟨xn, ps, ins, xc⟩ := x
        dsimp only at hX2 hX3 hx1 hs
        have m0 := CB.cell hCB.out 0
        have m1 := CB.cell hCB.out 1
        have m2 := CB.cell hCB.out 2
        simp only [List.getElem?_cons_zero, List.getElem?_cons_succ] at m0 m1 m2
        have hBd := Lib.hid ((hb1h.out.trans (hBL.out.mono hb1h.out.size)).drew)
        go_wp2_with (fail)
        have hHeld : wr.drew.cell? ⟨p, 1, none⟩ = some (.slice (some ⟨g, 0, none⟩) n n) := m1
        refine wp_region_held (S := fun w' => w'.cell? ⟨p, 1, none⟩ = some (.slice (some ⟨g, 0, none⟩) n n)) (by kernel_rfl) ?_
        change wpAnyH _ _ _ _ _ _ _ _ wr.drew
        refine wpAnyH_take (i := 0) (v := ?_) rfl (by kernel_rfl) (by decide +kernel) (by decide +kernel) (fun _ _ _ h => h) (Or.inl ⟨by rfl, ?_⟩) (by assumption) ?_
        rotate_left 1
        · (intro w hSw; (try dsimp only at hSw); go_simp; try with_reducible rfl)
        try simp only [Act.put, List.setIfInBounds_toArray, List.set_cons_zero, List.set_cons_succ]
        refine wpAnyH_take (i := 1) (v := ?_) rfl (by kernel_rfl) (by decide +kernel) (by decide +kernel) (fun _ _ _ h => h) (Or.inl ⟨by rfl, ?_⟩) (by assumption) ?_
        rotate_left 1
        · (intro w hSw; (try dsimp only at hSw); go_simp; try with_reducible rfl)
        try simp only [Act.put, List.setIfInBounds_toArray, List.set_cons_zero, List.set_cons_succ]
        refine wpAnyH_take (i := 2) (v := ?_) rfl (by kernel_rfl) (by decide +kernel) (by decide +kernel) (fun _ _ _ h => h) (Or.inl ⟨by rfl, ?_⟩) (by assumption) ?_
        rotate_left 1
        · (intro w hSw; (try dsimp only at hSw); go_simp; try with_reducible rfl)
        try simp only [Act.put, List.setIfInBounds_toArray, List.set_cons_zero, List.set_cons_succ]
        refine wpAnyH_take (i := 3) (v := ?_) rfl (by kernel_rfl) (by decide +kernel) (by decide +kernel) (fun _ _ _ h => h) (Or.inl ⟨by rfl, ?_⟩) (by assumption) ?_
        rotate_left 1
        · (intro w hSw; (try dsimp only at hSw); go_simp; try with_reducible rfl)
        try simp only [Act.put, List.setIfInBounds_toArray, List.set_cons_zero, List.set_cons_succ]
        refine wpAnyH_take (i := 4) (v := ?_) rfl (by kernel_rfl) (by decide +kernel) (by decide +kernel) (fun _ _ _ h => h) (Or.inl ⟨by rfl, ?_⟩) (by assumption) ?_
        rotate_left 1
        · (intro w hSw; (try dsimp only at hSw); go_simp; try with_reducible rfl)
        try simp only [Act.put, List.setIfInBounds_toArray, List.set_cons_zero, List.set_cons_succ]
        refine wpAnyH_take (i := 5) (v := ?_) rfl (by kernel_rfl) (by decide +kernel) (by decide +kernel) (fun _ _ _ h => h) (Or.inl ⟨by rfl, ?_⟩) (by assumption) ?_
        rotate_left 1
        · (intro w hSw; (try dsimp only at hSw); go_simp; try with_reducible rfl)
        try simp only [Act.put, List.setIfInBounds_toArray, List.set_cons_zero, List.set_cons_succ]
        refine wpAnyH_ready (rs := [6]) (by decide +kernel) (by simp) ?_
        refine AllReadyH.cons rfl (fun K hK => ?_) AllReadyH.nil
        try simp only [List.getElem_toArray, List.getElem_cons_zero, List.getElem_cons_succ]
        go_simp
        go_at_call 137
        refine (hTo.out _ hBd.out).mono ?_
        rintro e w5 ⟨r, rfl, hr, hb5⟩
        dsimp only [Option.getD_some, Option.isSome_some] at hr ⊢
        obtain ⟨PA, pc, QA, qc, rfl, _, _⟩ := hr.form
        dsimp only
        have hb5' : Below wr.heap.size wr w5 := ⟨hb5.os, hb5.tape, hb5.output, hb5.size, hb5.block⟩
        have hCB5 := CB.below hCB.out hb5' (CB.lt hCB.out)
        have hKB5 := KB.below hKB.out hb5' (KB.lt hKB.out)
        have hIB5 := IB.below hIB.out hb5' (IB.lt hIB.out)
        have hBL5 := hBL.out.trans (hb5'.mono hBL.out.size)
        refine hK.out _ _ (CB.cell hCB5 1) (fun hHeld => ?_)
        clear hK K
        try simp only [Act.put, List.setIfInBounds_toArray, List.set_cons_zero, List.set_cons_succ]
        refine wpAnyH_take (i := 7) (v := ?_) rfl (by kernel_rfl) (by decide +kernel) (by decide +kernel) (fun _ _ _ h => h) (Or.inl ⟨by rfl, ?_⟩) (by assumption) ?_
        rotate_left 1
        · (intro w hSw; (try dsimp only at hSw); go_simp; try with_reducible rfl)
        try simp only [Act.put, List.setIfInBounds_toArray, List.set_cons_zero, List.set_cons_succ]
        refine wpAnyH_take (i := 8) (v := ?_) rfl (by kernel_rfl) (by decide +kernel) (by decide +kernel) (fun _ _ _ h => h) (Or.inl ⟨by rfl, ?_⟩) (by assumption) ?_
        rotate_left 1
        · (intro w hSw; (try dsimp only at hSw); go_simp; try with_reducible rfl)
        try simp only [Act.put, List.setIfInBounds_toArray, List.set_cons_zero, List.set_cons_succ]
        refine wpAnyH_take (i := 9) (v := ?_) rfl (by kernel_rfl) (by decide +kernel) (by decide +kernel) (fun _ _ _ h => h) (Or.inl ⟨by rfl, ?_⟩) (by assumption) ?_
        rotate_left 1
        · (intro w hSw; (try dsimp only at hSw); go_simp; try with_reducible rfl)
        try simp only [Act.put, List.setIfInBounds_toArray, List.set_cons_zero, List.set_cons_succ]
        refine wpAnyH_take (i := 10) (v := ?_) rfl (by kernel_rfl) (by decide +kernel) (by decide +kernel) (fun _ _ _ h => h) (Or.inl ⟨by rfl, ?_⟩) (by assumption) ?_
        rotate_left 1
        · (intro w hSw; (try dsimp only at hSw); go_simp; try with_reducible rfl)
        try simp only [Act.put, List.setIfInBounds_toArray, List.set_cons_zero, List.set_cons_succ]
        have k0 := KB.cell (k := 4) (fun _ => rfl) hKB5 k (by omega) 0 _ rfl
        have k1 := KB.cell (k := 4) (fun _ => rfl) hKB5 k (by omega) 1 _ rfl
        have k2 := KB.cell (k := 4) (fun _ => rfl) hKB5 k (by omega) 2 _ rfl
        have k3 := KB.cell (k := 4) (fun _ => rfl) hKB5 k (by omega) 3 _ rfl
        have f0 := KB.frozen hKB5 (k * 4)
        have f1 := KB.frozen hKB5 (k * 4 + 1)
        have f2 := KB.frozen hKB5 (k * 4 + 2)
        have f3 := KB.frozen hKB5 (k * 4 + 3)
        simp only [Nat.add_zero] at k0
        refine wpAnyH_ready (rs := [11]) (by decide +kernel) (by simp) ?_
        refine AllReadyH.cons rfl (fun K hK => ?_) AllReadyH.nil
        try simp only [List.getElem_toArray, List.getElem_cons_zero, List.getElem_cons_succ]
        go_simp
        have hpg := ne_sel_tile hCB5 hKB5
        have hqg := ne_int_tile hIB5 hKB5
        have hqp := ne_int_sel hIB5 hCB5
        have hgl : g < wr.heap.size := KB.lt hKB.out
        have hch : Chg g (g + 1) w5 ((((w5.setCell ⟨g, k * 4, none⟩ (.int .i64 xn)).setCell ⟨g, k * 4 + 1, none⟩ (.slice PA ps.length pc)).setCell ⟨g, k * 4 + 2, none⟩ (.slice QA ins.length qc)).setCell ⟨g, k * 4 + 3, none⟩ (.int .i64 xc)) := ((((Chg.refl g (g + 1) w5).setCell (p := ⟨g, k * 4, none⟩) ⟨Nat.le_refl _, Nat.lt_succ_self _⟩ _).setCell (p := ⟨g, k * 4 + 1, none⟩) ⟨Nat.le_refl _, Nat.lt_succ_self _⟩ _).setCell (p := ⟨g, k * 4 + 2, none⟩) ⟨Nat.le_refl _, Nat.lt_succ_self _⟩ _).setCell (p := ⟨g, k * 4 + 3, none⟩) ⟨Nat.le_refl _, Nat.lt_succ_self _⟩ _
        have hKB6 : KB Rt.enc 77 ((((w5.setCell ⟨g, k * 4, none⟩ (.int .i64 xn)).setCell ⟨g, k * 4 + 1, none⟩ (.slice PA ps.length pc)).setCell ⟨g, k * 4 + 2, none⟩ (.slice QA ins.length qc)).setCell ⟨g, k * 4 + 3, none⟩ (.int .i64 xc)) g (rs.set k ⟨xn, .slice PA ps.length pc, .slice QA ins.length qc, xc⟩) := kb_store hKB5 (show k < rs.length by omega) ⟨xn, .slice PA ps.length pc, .slice QA ins.length qc, xc⟩
        have hCB6 : CB 92 ((((w5.setCell ⟨g, k * 4, none⟩ (.int .i64 xn)).setCell ⟨g, k * 4 + 1, none⟩ (.slice PA ps.length pc)).setCell ⟨g, k * 4 + 2, none⟩ (.slice QA ins.length qc)).setCell ⟨g, k * 4 + 3, none⟩ (.int .i64 xc)) p [.slice A n c, .slice (some ⟨g, 0, none⟩) n n, .slice (some ⟨q, 0, none⟩) n n] := (hch.block p (CB.lt hCB5) (by omega)).trans hCB5
        have hIB6 : IB ((((w5.setCell ⟨g, k * 4, none⟩ (.int .i64 xn)).setCell ⟨g, k * 4 + 1, none⟩ (.slice PA ps.length pc)).setCell ⟨g, k * 4 + 2, none⟩ (.slice QA ins.length qc)).setCell ⟨g, k * 4 + 3, none⟩ (.int .i64 xc)) q 3 nd := (hch.block q hIB5.lt (by omega)).trans hIB5
        have hBL6 := below_chg hBL5 hch hBL5.size hgg1
        have hr6 := (hr.chg hch (.inr (by show g + 1 ≤ wr.heap.size; omega))).more (Nat.le_refl _) hch.size
        refine hK.out _ _ (CB.cell hCB6 1) (fun hHeld => ?_)
        clear hK K
        try simp only [Act.put, List.setIfInBounds_toArray, List.set_cons_zero, List.set_cons_succ]
        obtain ⟨V6, hV6⟩ : ∃ V6, V6 = ((((w5.setCell ⟨g, k * 4, none⟩ (.int .i64 xn)).setCell ⟨g, k * 4 + 1, none⟩ (.slice PA ps.length pc)).setCell ⟨g, k * 4 + 2, none⟩ (.slice QA ins.length qc)).setCell ⟨g, k * 4 + 3, none⟩ (.int .i64 xc)) := ⟨_, rfl⟩
        rw [← hV6] at hKB6 hCB6 hIB6 hBL6 hr6 ⊢
        have hz6 : w5.heap.size ≤ V6.heap.size := by rw [hV6]; exact hch.size
        clear hV6 hch k0 k1 k2 k3 f0 f1 f2 f3 m0 m1 m2 hHeld
        refine wpAnyH_done (by kernel_rfl) ?_ _
        have hL6 : wr.drew.heap.size ≤ V6.heap.size := Nat.le_trans hb5.size hz6
        have hNd := Lib.hid fun (W : World) (hW : Below V6.heap.size V6 W) => needOf_any wr.drew.heap.size V6.heap.size q (q + 1) n c n n A (some ⟨g, 0, none⟩) (some ⟨q, 0, none⟩) nd ⟨xn, ps, ins, xc⟩ _ W hzk hl24 ((hIB6.below hW hIB6.lt).toIS) (IB.lt (hIB6.below hW hIB6.lt)) (hr6.below hW (Nat.le_refl _)) hW.size hx1 hX2.out hX3.out
        have hKBh := Lib.hid hKB6
        have hCBh := Lib.hid hCB6
        have hIBh := Lib.hid hIB6
        have hBLh := Lib.hid hBL6
        have e4 := KB.cell (k := 4) (fun _ => rfl) hKB6 k (by rw [List.length_set]; omega) 0 _ (by rw [List.getElem_set_self]; rfl)
        have e5 := KB.cell (k := 4) (fun _ => rfl) hKB6 k (by rw [List.length_set]; omega) 1 _ (by rw [List.getElem_set_self]; rfl)
        have e6 := KB.cell (k := 4) (fun _ => rfl) hKB6 k (by rw [List.length_set]; omega) 2 _ (by rw [List.getElem_set_self]; rfl)
        have e7 := KB.cell (k := 4) (fun _ => rfl) hKB6 k (by rw [List.length_set]; omega) 3 _ (by rw [List.getElem_set_self]; rfl)
        simp only [Nat.add_zero] at e4
        have e1 := CB.cell hCB6 0
        have e2 := CB.cell hCB6 1
        have e3 := CB.cell hCB6 2
        simp only [List.getElem?_cons_zero, List.getElem?_cons_succ] at e1 e2 e3
        dsimp only at hNd
        clear hKB6 hCB6 hIB6 hBL6 hr6 hr hb5 hb5' hCB5 hKB5 hIB5 hBL5
        go_wp2_with (fail)
        have hHeld : (fun w' => w'.cell? ⟨p, 0, none⟩ = some (.slice A n c) ∧ w'.cell? ⟨p, 1, none⟩ = some (.slice (some ⟨g, 0, none⟩) n n) ∧ w'.cell? ⟨p, 2, none⟩ = some (.slice (some ⟨q, 0, none⟩) n n) ∧ w'.cell? ⟨g, k * 4, none⟩ = some (.int .i64 xn) ∧ w'.cell? ⟨g, k * 4 + 1, none⟩ = some (.slice PA ps.length pc) ∧ w'.cell? ⟨g, k * 4 + 2, none⟩ = some (.slice QA ins.length qc) ∧ w'.cell? ⟨g, k * 4 + 3, none⟩ = some (.int .i64 xc)) V6.drew := ⟨e1, e2, e3, e4, e5, e6, e7⟩
        dsimp only at hHeld
        refine wp_region_held (S := fun w' => w'.cell? ⟨p, 0, none⟩ = some (.slice A n c) ∧ w'.cell? ⟨p, 1, none⟩ = some (.slice (some ⟨g, 0, none⟩) n n) ∧ w'.cell? ⟨p, 2, none⟩ = some (.slice (some ⟨q, 0, none⟩) n n) ∧ w'.cell? ⟨g, k * 4, none⟩ = some (.int .i64 xn) ∧ w'.cell? ⟨g, k * 4 + 1, none⟩ = some (.slice PA ps.length pc) ∧ w'.cell? ⟨g, k * 4 + 2, none⟩ = some (.slice QA ins.length qc) ∧ w'.cell? ⟨g, k * 4 + 3, none⟩ = some (.int .i64 xc)) (by kernel_rfl) ?_
        change wpAnyH _ _ _ _ _ _ _ _ V6.drew
        refine wpAnyH_take (i := 0) (v := ?_) rfl (by kernel_rfl) (by decide +kernel) (by decide +kernel) (fun _ _ _ h => h) (Or.inl ⟨by rfl, ?_⟩) (by assumption) ?_
        rotate_left 1
        · (intro w hSw; (try dsimp only at hSw); go_simp; try with_reducible rfl)
        try simp only [Act.put, List.setIfInBounds_toArray, List.set_cons_zero, List.set_cons_succ]
        refine wpAnyH_take (i := 1) (v := ?_) rfl (by kernel_rfl) (by decide +kernel) (by decide +kernel) (fun _ _ _ h => h) (Or.inl ⟨by rfl, ?_⟩) (by assumption) ?_
        rotate_left 1
        · (intro w hSw; (try dsimp only at hSw); go_simp; try with_reducible rfl)
        try simp only [Act.put, List.setIfInBounds_toArray, List.set_cons_zero, List.set_cons_succ]
        refine wpAnyH_take (i := 2) (v := ?_) rfl (by kernel_rfl) (by decide +kernel) (by decide +kernel) (fun _ _ _ h => h) (Or.inl ⟨by rfl, ?_⟩) (by assumption) ?_
        rotate_left 1
        · (intro w hSw; (try dsimp only at hSw); go_simp; try with_reducible rfl)
        try simp only [Act.put, List.setIfInBounds_toArray, List.set_cons_zero, List.set_cons_succ]
        refine wpAnyH_take (i := 3) (v := ?_) rfl (by kernel_rfl) (by decide +kernel) (by decide +kernel) (fun _ _ _ h => h) (Or.inl ⟨by rfl, ?_⟩) (by assumption) ?_
        rotate_left 1
        · (intro w hSw; (try dsimp only at hSw); go_simp; try with_reducible rfl)
        try simp only [Act.put, List.setIfInBounds_toArray, List.set_cons_zero, List.set_cons_succ]
        refine wpAnyH_take (i := 4) (v := ?_) rfl (by kernel_rfl) (by decide +kernel) (by decide +kernel) (fun _ _ _ h => h) (Or.inl ⟨by rfl, ?_⟩) (by assumption) ?_
        rotate_left 1
        · (intro w hSw; (try dsimp only at hSw); go_simp; try with_reducible rfl)
        try simp only [Act.put, List.setIfInBounds_toArray, List.set_cons_zero, List.set_cons_succ]
        refine wpAnyH_take (i := 5) (v := ?_) rfl (by kernel_rfl) (by decide +kernel) (by decide +kernel) (fun _ _ _ h => h) (Or.inl ⟨by rfl, ?_⟩) (by assumption) ?_
        rotate_left 1
        · (intro w hSw; (try dsimp only at hSw); go_simp; try with_reducible rfl)
        try simp only [Act.put, List.setIfInBounds_toArray, List.set_cons_zero, List.set_cons_succ]
        refine wpAnyH_take (i := 6) (v := ?_) rfl (by kernel_rfl) (by decide +kernel) (by decide +kernel) (fun _ _ _ h => h) (Or.inl ⟨by rfl, ?_⟩) (by assumption) ?_
        rotate_left 1
        · (intro w hSw; (try dsimp only at hSw); go_simp; try with_reducible rfl)
        try simp only [Act.put, List.setIfInBounds_toArray, List.set_cons_zero, List.set_cons_succ]
        refine wpAnyH_take (i := 7) (v := ?_) rfl (by kernel_rfl) (by decide +kernel) (by decide +kernel) (fun _ _ _ h => h) (Or.inl ⟨by rfl, ?_⟩) (by assumption) ?_
        rotate_left 1
        · (intro w hSw; (try dsimp only at hSw); go_simp; try with_reducible rfl)
        try simp only [Act.put, List.setIfInBounds_toArray, List.set_cons_zero, List.set_cons_succ]
        refine wpAnyH_take (i := 8) (v := ?_) rfl (by kernel_rfl) (by decide +kernel) (by decide +kernel) (fun _ _ _ h => h) (Or.inl ⟨by rfl, ?_⟩) (by assumption) ?_
        rotate_left 1
        · (intro w hSw; (try dsimp only at hSw); go_simp; try with_reducible rfl)
        try simp only [Act.put, List.setIfInBounds_toArray, List.set_cons_zero, List.set_cons_succ]
        refine wpAnyH_ready (rs := [9]) (by decide +kernel) (by simp) ?_
        refine AllReadyH.cons rfl (fun K hK => ?_) AllReadyH.nil
        try simp only [List.getElem_toArray, List.getElem_cons_zero, List.getElem_cons_succ]
        go_simp
        go_at_call 138
        refine (hNd.out _ (Below.refl V6.heap.size V6).drew).mono ?_
        rintro e w7 ⟨rfl, hb7⟩
        have hb7' : Below V6.heap.size V6 w7 := ⟨hb7.os, hb7.tape, hb7.output, hb7.size, hb7.block⟩
        refine hK.out _ _ (seven_next ⟨e1, e2, e3, e4, e5, e6, e7⟩ hb7') (fun hHeld => ?_)
        clear hK K
        try simp only [Act.put, List.setIfInBounds_toArray, List.set_cons_zero, List.set_cons_succ]
        refine wpAnyH_take (i := 10) (v := ?_) rfl (by kernel_rfl) (by decide +kernel) (by decide +kernel) (fun _ _ _ h => h) (Or.inl ⟨by rfl, ?_⟩) (by assumption) ?_
        rotate_left 1
        · (intro w hSw; (try dsimp only at hSw); go_simp; try with_reducible rfl)
        try simp only [Act.put, List.setIfInBounds_toArray, List.set_cons_zero, List.set_cons_succ]
        have hIB7 := IB.below hIBh.out hb7' (IB.lt hIBh.out)
        have i0 := hIB7.cell k (by omega)
        have i1 := hIB7.frozen k
        generalize nd[k]'(by omega) = old at *
        refine wpAnyH_ready (rs := [11]) (by decide +kernel) (by simp) ?_
        refine AllReadyH.cons rfl (fun K hK => ?_) AllReadyH.nil
        try simp only [List.getElem_toArray, List.getElem_cons_zero, List.getElem_cons_succ]
        go_simp
        have hCB7 := CB.below hCBh.out hb7' (CB.lt hCBh.out)
        have hKB7 := KB.below hKBh.out hb7' (KB.lt hKBh.out)
        have hBL7 := hBLh.out.trans (hb7'.mono hBLh.out.size)
        have hch8 : Chg q (q + 1) w7 (w7.setCell ⟨q, k, none⟩ (.int .i64 (ndT nd ⟨xn, ps, ins, xc⟩))) := (Chg.refl q (q + 1) w7).setCell (p := ⟨q, k, none⟩) ⟨Nat.le_refl _, Nat.lt_succ_self _⟩ _
        have hIB8 : IB (w7.setCell ⟨q, k, none⟩ (.int .i64 (ndT nd ⟨xn, ps, ins, xc⟩))) q 3 (nd.set k (ndT nd ⟨xn, ps, ins, xc⟩)) := hIB7.set k _
        have hCB8 : CB 92 (w7.setCell ⟨q, k, none⟩ (.int .i64 (ndT nd ⟨xn, ps, ins, xc⟩))) p [.slice A n c, .slice (some ⟨g, 0, none⟩) n n, .slice (some ⟨q, 0, none⟩) n n] := (hch8.block p (CB.lt hCB7) (by omega)).trans hCB7
        have hKB8 : KB Rt.enc 77 (w7.setCell ⟨q, k, none⟩ (.int .i64 (ndT nd ⟨xn, ps, ins, xc⟩))) g (rs.set k ⟨xn, .slice PA ps.length pc, .slice QA ins.length qc, xc⟩) := (hch8.block g (KB.lt hKB7) (by omega)).trans hKB7
        have hBL8 := Lib.hid (below_chg hBL7 hch8 hBL7.size hqg1)
        have e4 := KB.cell (k := 4) (fun _ => rfl) hKB8 k (by rw [List.length_set]; omega) 0 _ (by rw [List.getElem_set_self]; rfl)
        have e5 := KB.cell (k := 4) (fun _ => rfl) hKB8 k (by rw [List.length_set]; omega) 1 _ (by rw [List.getElem_set_self]; rfl)
        have e6 := KB.cell (k := 4) (fun _ => rfl) hKB8 k (by rw [List.length_set]; omega) 2 _ (by rw [List.getElem_set_self]; rfl)
        have e7 := KB.cell (k := 4) (fun _ => rfl) hKB8 k (by rw [List.length_set]; omega) 3 _ (by rw [List.getElem_set_self]; rfl)
        simp only [Nat.add_zero] at e4
        have e1 := CB.cell hCB8 0
        have e2 := CB.cell hCB8 1
        have e3 := CB.cell hCB8 2
        simp only [List.getElem?_cons_zero, List.getElem?_cons_succ] at e1 e2 e3
        refine hK.out _ _ ⟨e1, e2, e3, e4, e5, e6, e7⟩ (fun hHeld => ?_)
        clear hK K
        try simp only [Act.put, List.setIfInBounds_toArray, List.set_cons_zero, List.set_cons_succ]
        refine wpAnyH_done (by kernel_rfl) ?_ _
        have hIh := Lib.hid hIB8
        have hCh := Lib.hid hCB8
        have hKh := Lib.hid hKB8
        clear hIB8 hCB8 hKB8 e1 e2 e3 e4 e5 e6 e7 hHeld i0 i1 hch8
        generalize (w7.setCell ⟨q, k, none⟩ (.int .i64 (ndT nd ⟨xn, ps, ins, xc⟩))) = W8 at *
        go_wp2
        go_roundw
        case rel => exact ⟨k + 1, hkh.out, by go_num, hCh.out, ⟨rs.set k ⟨xn, .slice PA ps.length pc, .slice QA ins.length qc, xc⟩, by rw [List.length_set]; exact hrl, hKh.out⟩, by rw [hNK.out, hs.out]; exact hIh.out, hBL8.out⟩
        case measure => simp [intOf]; omega
    · obtain rfl : n = k := by omega
      have m0 := CB.cell hCB.out 0
      have m1 := CB.cell hCB.out 1
      have m2 := CB.cell hCB.out 2
      simp only [List.getElem?_cons_zero, List.getElem?_cons_succ] at m0 m1 m2
      have hZr := CB.below hZ1.out hBL.out hzl
      have s0 := CB.cell hZr 0
      have s1 := CB.cell hZr 1
      have s2 := CB.cell hZr 2
      have f0 := CB.frozen hZr 0
      have f1 := CB.frozen hZr 1
      have f2 := CB.frozen hZr 2
      simp only [List.getElem?_cons_zero, List.getElem?_cons_succ] at s0 s1 s2
      have hZf := Lib.hid (((CB.set hZr 0 (.slice A n c)).set 1 (.slice (some ⟨g, 0, none⟩) n n)).set 2 (.slice (some ⟨q, 0, none⟩) n n))
      have hch : Chg w.heap.size (w.heap.size + 1) wr (((wr.setCell ⟨w.heap.size, 0, none⟩ (.slice A n c)).setCell ⟨w.heap.size, 1, none⟩ (.slice (some ⟨g, 0, none⟩) n n)).setCell ⟨w.heap.size, 2, none⟩ (.slice (some ⟨q, 0, none⟩) n n)) :=
        (((Chg.refl w.heap.size (w.heap.size + 1) wr).setCell (p := ⟨w.heap.size, 0, none⟩) ⟨Nat.le_refl _, Nat.lt_succ_self _⟩ _).setCell (p := ⟨w.heap.size, 1, none⟩) ⟨Nat.le_refl _, Nat.lt_succ_self _⟩ _).setCell (p := ⟨w.heap.size, 2, none⟩) ⟨Nat.le_refl _, Nat.lt_succ_self _⟩ _
      have hqlt := hIB.out.lt
      have hIf := Lib.hid (show IB _ q 3 (ND n) from (hch.block q hqlt (.inr (by omega))).trans hIB.out)
      have hBf := Lib.hid (below_chg (hb1h.out.trans (hBL.out.mono hb1h.out.size)) hch (hb1h.out.trans (hBL.out.mono hb1h.out.size)).size (Nat.le_refl _))
      have hzc := hch.size
      clear hZr hch
      go_wp2
      refine sel_ret2 (g := w.heap.size) rfl rfl rfl hZf.out ?_
      exact ⟨_, _, _, _, rfl, by have := OW.ofIB' (lo := w.heap.size) (hi := _) hIf.out (by rw [HZ.out]; omega) (by omega) hIf.out.lt; rwa [HZ.out] at this, hBf.out⟩
end Go.Proofs.Ytgcbfiamhpfkhaa
