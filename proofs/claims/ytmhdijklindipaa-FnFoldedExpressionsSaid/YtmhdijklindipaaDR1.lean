import Derived.Test.YtmhdijklindipaaRows
import Derived.Test.YtmhdijklindipaaA
import Derived.Test.YtmhdijklindipaaCA
import Derived.Test.YtmhdijklindipaaLI
import Derived.WalkKit
import Derived.WalkSpells
import Derived.WalkLawsBesides
import Derived.Deep.RegionLaw
import Derived.Deep.RegionHeld3
import Derived.Deep.QuietTactic
import Derived.BigQuiet
import Derived.Lib.Hide
/- The cursor that the laws draw their arguments with: what a draw hands back is bounded, and it writes the cursor alone. -/
namespace Go.Proofs.Ytmhdijklindipaa
open Go.RowKit
set_option linter.unusedVariables false
set_option maxRecDepth 100000

/-- Bytes that are read; their block is below g. -/
def BY (w : World) (g : Nat) (A : Option Addr) (bs : List Int) : Prop :=
  0 < bs.length → ∃ b o, A = some ⟨b, o, none⟩ ∧ b < g ∧ ∀ i (h : i < bs.length), w.cell? ⟨b, o + i, none⟩ = some (.int .u8 bs[i])
theorem BY.keep {w w' : World} {g : Nat} {A : Option Addr} {bs : List Int} (h : BY w g A bs) (hk : ∀ j, j < g → w'.heap[j]? = w.heap[j]?) : BY w' g A bs := fun hn => by
  obtain ⟨b, o, e, hb, hc⟩ := h hn
  exact ⟨b, o, e, hb, fun i hi => (World.cell?_of_block (w := w) (hk b hb)).trans (hc i hi)⟩
theorem BY.more {w : World} {g g' : Nat} {A : Option Addr} {bs : List Int} (h : BY w g A bs) (hg : g ≤ g') : BY w g' A bs := fun hn => by
  obtain ⟨b, o, e, hb, hc⟩ := h hn
  exact ⟨b, o, e, by omega, hc⟩
/-- The cursor in the block g: at most K bytes have been drawn. -/
def Cur (w : World) (g K : Nat) : Prop :=
  ∃ (A : Option Addr) (c : Nat) (bs : List Int) (p : Nat) (sd : Int), CB 101 w g [.slice A bs.length c, .int .i64 p, .int .u64 sd] ∧ p ≤ K ∧ bs.length ≤ 1048576 ∧ (∀ x ∈ bs, 0 ≤ x ∧ x ≤ 255) ∧ BY w g A bs
theorem Cur.lt {w : World} {g K : Nat} (h : Cur w g K) : g < w.heap.size := by obtain ⟨_, _, _, _, _, h, _⟩ := h; exact h.lt
theorem Cur.keep {w w' : World} {g K : Nat} (h : Cur w g K) (hk : ∀ j, j ≤ g → w'.heap[j]? = w.heap[j]?) : Cur w' g K := by
  obtain ⟨A, c, bs, p, sd, h1, h2, h3, h4, h5⟩ := h
  exact ⟨A, c, bs, p, sd, (hk g (Nat.le_refl _)).trans h1, h2, h3, h4, h5.keep fun j hj => hk j (by omega)⟩
theorem Cur.below {w w' : World} {g K : Nat} (h : Cur w g K) (hb : Below w.heap.size w w') : Cur w' g K := h.keep fun j hj => hb.block j (Nat.lt_of_le_of_lt hj h.lt)
theorem Cur.far {w : World} {g K : Nat} (h : Cur w g K) {p : Addr} (hp : g < p.block) (u : Value) : Cur (w.setCell p u) g K := h.keep fun j hj => Below.heap_setCell w p u j (by omega)
theorem Cur.more {w : World} {g K K' : Nat} (h : Cur w g K) (hk : K ≤ K') : Cur w g K' := by
  obtain ⟨A, c, bs, p, sd, h1, h2, h3⟩ := h
  exact ⟨A, c, bs, p, sd, h1, by omega, h3⟩
theorem Cur.start {w : World} {g : Nat} {A : Option Addr} {c : Nat} {bs : List Int} {sd : Int} (hb : CB 101 w g [.slice A bs.length c, .int .i64 0, .int .u64 sd]) (hl : bs.length ≤ 1048576) (ha : ∀ x ∈ bs, 0 ≤ x ∧ x ≤ 255) (hy : BY w g A bs) : Cur w g 0 :=
  ⟨A, c, bs, 0, sd, hb, Nat.le_refl _, hl, ha, hy⟩
theorem Cur.mono {w w' : World} {g K : Nat} (h : Cur w g K) {lo hi : Nat} (hc : Chg lo hi w w') (hl : g < lo) : Cur w' g K := h.keep fun j hj => hc.block j (Nat.lt_of_le_of_lt hj h.lt) (by omega)
/-- What a draw of an int hands back. -/
def DrI (w : World) (g K : Nat) (P : Int → Prop) (e : Ending) (w' : World) : Prop := ∃ x : Int, e = .returned (.int .i64 x) ∧ P x ∧ Cur w' g K ∧ Chg g (g + 1) w w'
def DrB (w : World) (g K : Nat) (e : Ending) (w' : World) : Prop := ∃ b : Bool, e = .returned (.bool b) ∧ Cur w' g K ∧ Chg g (g + 1) w w'
def DrS (w : World) (g K : Nat) (e : Ending) (w' : World) : Prop := ∃ s : ByteArray, e = .returned (.string s) ∧ s.size ≤ 100 ∧ Cur w' g K ∧ Chg g (g + 1) w w'
theorem and255 (z : Int) : 0 ≤ bits .and .u64 z 255 ∧ bits .and .u64 z 255 ≤ 255 := by
  have h : (BitVec.ofInt 64 z &&& BitVec.ofInt 64 255).toNat ≤ 255 := by
    rw [BitVec.toNat_and]
    have : (BitVec.ofInt 64 255).toNat = 255 := by decide
    rw [this]
    exact Nat.and_le_right
  show 0 ≤ IntKind.u64.wrap ((BitVec.ofInt 64 z &&& BitVec.ofInt 64 255).toNat : Nat) ∧ IntKind.u64.wrap ((BitVec.ofInt 64 z &&& BitVec.ofInt 64 255).toNat : Nat) ≤ 255
  generalize (BitVec.ofInt 64 z &&& BitVec.ofInt 64 255).toNat = m at h
  have e : IntKind.u64.wrap (m : Int) = (m : Int) := by
    rw [IntKind.wrap_u64]; omega
  rw [e]; omega
theorem w255 (z : Int) : 0 ≤ wrap64 (bits .and .u64 z 255) ∧ wrap64 (bits .and .u64 z 255) ≤ 255 := by
  have := and255 z
  unfold wrap64; omega
def encD (s : ByteArray) : List Value := [.string s]
theorem chg_drewD {lo hi : Nat} {w w' : World} (h : Chg lo hi w w') (n : Nat) : Chg lo hi w (w'.drewN n) := ⟨h.os, h.tape, h.output, h.size, h.block⟩

set_option maxHeartbeats 4000000 in
theorem next_any (g K : Nat) (w : World) (hK : K ≤ 1000000000) (hc : Cur w g K) :
    Calls Try.prog 240 #[.pointer (some ⟨g, 0, none⟩)] w (DrI w g (K + 1) fun x => 0 ≤ x ∧ x ≤ 255) := by
  obtain ⟨A, c, bs, p, sd, hcb, hp, hbl, hba, hby⟩ := hc
  have c0 := (CB.cell hcb 0).trans (rfl : _ = some (Value.slice A bs.length c))
  have c1 := (CB.cell hcb 1).trans (rfl : _ = some (Value.int .i64 p))
  have c2 := (CB.cell hcb 2).trans (rfl : _ = some (Value.int .u64 sd))
  have f1 := CB.frozen hcb 1
  have f2 := CB.frozen hcb 2
  have hw9 : IntKind.i64.wrap ((p : Int) + 1) = (p : Int) + 1 := IntWalk.i64_in _ (by omega)
  have hEnd : Hid (∀ (n m : Nat) (u : Int), Cur ((((w.drewN n).setCell ⟨g, 1, none⟩ (.int .i64 ((p : Int) + 1))).setCell ⟨g, 2, none⟩ (.int .u64 u)).drewN m) g (K + 1) ∧ Chg g (g + 1) w ((((w.drewN n).setCell ⟨g, 1, none⟩ (.int .i64 ((p : Int) + 1))).setCell ⟨g, 2, none⟩ (.int .u64 u)).drewN m)) := by
    intro n m u
    have hcb2 : CB 101 (w.drewN n) g [.slice A bs.length c, .int .i64 p, .int .u64 sd] := hcb
    have h1 := (hcb2.set 1 (.int .i64 ((p + 1 : Nat) : Int))).set 2 (.int .u64 u)
    refine ⟨⟨A, c, bs, p + 1, u, h1, by omega, hbl, hba, hby.keep fun j hj => ?_⟩, chg_drewD (((chg_drewD (Chg.refl g (g + 1) w) n).setCell (p := ⟨g, 1, none⟩) ⟨Nat.le_refl _, Nat.lt_succ_self _⟩ _).setCell (p := ⟨g, 2, none⟩) ⟨Nat.le_refl _, Nat.lt_succ_self _⟩ _) m⟩
    exact (Below.heap_setCell _ ⟨g, 2, none⟩ _ j (by show j ≠ g; omega)).trans (Below.heap_setCell _ ⟨g, 1, none⟩ _ j (by show j ≠ g; omega))
  by_cases hlt : p < bs.length
  · have hpi : (p : Int) < (bs.length : Int) := by omega
    have hp0 : (0 : Int) ≤ (p : Int) := by omega
    have hp1 : (p : Int) + 1 ≤ (bs.length : Int) := by omega
    obtain ⟨b, o, rfl, hb, hcc⟩ := hby (by omega)
    have cx := hcc p hlt
    have hx := hba _ (List.getElem_mem hlt)
    have hxw : IntKind.i64.wrap (bs[p]) = bs[p] := IntWalk.i64_in _ (by omega)
    clear hcc hba hby hcb
    generalize bs[p] = x at *
    go_enter Try.func240, Try.ntmps240
    go_wp2_with (fail)
    go_quiet (fail)
    all_goals go_wp2_with (fail)
    all_goals go_quiet (fail)
    all_goals go_wp2_with (fail)
    all_goals go_quiet (fail)
    all_goals go_wp2_with (fail)
    all_goals go_ret
    all_goals exact ⟨_, rfl, hx, (hEnd.out _ _ _).1, (hEnd.out _ _ _).2⟩
  · have hpi : (bs.length : Int) ≤ (p : Int) := by omega
    have hpi2 : ¬ (p : Int) < (bs.length : Int) := by omega
    have hp1 : ¬ (p : Int) + 1 ≤ (bs.length : Int) := by omega
    clear hba hby hcb
    go_enter Try.func240, Try.ntmps240
    go_wp2_with (fail)
    go_quiet (fail)
    all_goals go_wp2_with (fail)
    all_goals go_quiet (fail)
    all_goals go_wp2_with (fail)
    all_goals go_ret
    all_goals exact ⟨_, rfl, w255 _, (hEnd.out _ _ _).1, (hEnd.out _ _ _).2⟩
set_option maxHeartbeats 4000000 in
theorem pick_any (g K : Nat) (n : Int) (w : World) (hK : K ≤ 900000000) (hn : n ≤ 10000) (hc : Cur w g K) :
    Calls Try.prog 149 #[.pointer (some ⟨g, 0, none⟩), .int .i64 n] w (DrI w g (K + 2) fun x => 0 ≤ x ∧ x < max n 1) := by
  have H := Lib.hid fun (K : Nat) (W : World) (hK : K ≤ 1000000000) (hc : Cur W g K) => next_any g K W hK hc
  have hC := Lib.hid hc
  clear hc
  by_cases h1 : n ≤ 1
  · go_enter Try.func149, Try.ntmps149
    go_wp2
    go_ret
    exact ⟨0, rfl, ⟨by omega, by omega⟩, hC.out.more (by omega), Chg.refl _ _ _⟩
  · have hnz : ¬ n = 0 := by omega
    have hP : Hid (∀ x : Int, 0 ≤ x % n ∧ x % n < max n 1) := fun x => by
      have a1 := Int.emod_nonneg x hnz
      have a2 := Int.emod_lt_of_pos x (show 0 < n by omega)
      omega
    by_cases h2 : 200 < n
    · go_enter Try.func149, Try.ntmps149
      go_wp2_with (fail)
      refine (H.out K w (by omega) hC.out).mono ?_
      rintro e w1 ⟨x, rfl, hx, hc1, hch1⟩
      have hC1 := Lib.hid hc1
      have hH1 := Lib.hid hch1
      clear hc1 hch1
      have hw1 : IntKind.i64.wrap (x * 256) = x * 256 := IntWalk.i64_in _ (by omega)
      go_wp2_with (fail)
      refine (H.out _ w1 (by omega) hC1.out).mono ?_
      rintro e w2 ⟨y, rfl, hy, hc2, hch2⟩
      have hC2 := Lib.hid hc2
      have hH2 := Lib.hid (hH1.out.trans hch2)
      clear hc2 hch2
      have hw2 : IntKind.i64.wrap (x * 256 + y) = x * 256 + y := IntWalk.i64_in _ (by omega)
      go_wp2
      go_ret
      exact ⟨_, rfl, hP.out _, hC2.out, hH2.out⟩
    · go_enter Try.func149, Try.ntmps149
      go_wp2_with (fail)
      refine (H.out K w (by omega) hC.out).mono ?_
      rintro e w1 ⟨x, rfl, hx, hc1, hch1⟩
      have hC1 := Lib.hid (hc1.more (show K + 1 ≤ K + 2 by omega))
      have hH1 := Lib.hid hch1
      clear hc1 hch1
      go_wp2
      go_ret
      exact ⟨_, rfl, hP.out _, hC1.out, hH1.out⟩
set_option maxHeartbeats 4000000 in
theorem one_any (g K : Nat) (n : Int) (w : World) (hK : K ≤ 900000000) (hn : n ≤ 10000) (hc : Cur w g K) :
    Calls Try.prog 128 #[.pointer (some ⟨g, 0, none⟩), .int .i64 n] w (DrB w g (K + 2)) := by
  have H := Lib.hid (pick_any g K n w hK hn hc)
  clear hc
  go_enter Try.func128, Try.ntmps128
  go_wp2_with (fail)
  refine H.out.mono ?_
  rintro e w1 ⟨x, rfl, hx, hc1, hch1⟩
  have hC1 := Lib.hid hc1
  have hH1 := Lib.hid hch1
  clear hc1 hch1
  go_wp2
  go_ret
  exact ⟨_, rfl, hC1.out, hH1.out⟩
/-- A string of a list is drawn. -/
def DrM (w : World) (g K : Nat) (ss : List ByteArray) (e : Ending) (w' : World) : Prop := ∃ s : ByteArray, e = .returned (.string s) ∧ s ∈ ss ∧ Cur w' g K ∧ Chg g (g + 1) w w'
set_option maxHeartbeats 4000000 in
theorem of_any (g K L B : Nat) (A : Option Addr) (m c : Nat) (ss : List ByteArray) (w : World) (hm : m = ss.length) (hK : K ≤ 900000000) (hc : Cur w g K) (hl : 0 < ss.length) (hl2 : ss.length ≤ 1000) (hs : RS encD 1 w L B A ss) (hL : g < L) (hB : B ≤ w.heap.size) :
    Calls Try.prog 125 #[.pointer (some ⟨g, 0, none⟩), .slice A m c] w (DrM w g (K + 2) ss) := by
  subst hm
  have H := Lib.hid (pick_any g K (ss.length : Int) w hK (by omega) hc)
  obtain ⟨b, o, rfl, ⟨hb1, hb2⟩, hcc⟩ := hs hl
  have hS : Hid (∀ (w1 : World), Chg g (g + 1) w w1 → ∀ (i : Nat) (h : i < ss.length), w1.cell? ⟨b, o + i, none⟩ = some (.string ss[i])) := fun w1 hw i h => by
    have h1 := hcc i h 0 _ rfl
    rw [Nat.mul_one, Nat.add_zero] at h1
    exact (hw.cell (p := ⟨b, o + i, none⟩) (by show b < w.heap.size; omega) (.inr (by show g + 1 ≤ b; omega))).trans h1
  clear hcc hs hc
  go_enter Try.func125, Try.ntmps125
  go_wp2_with (fail)
  refine H.out.mono ?_
  rintro e w1 ⟨x, rfl, hx, hc1, hch1⟩
  obtain ⟨i, rfl⟩ := Int.eq_ofNat_of_zero_le hx.1
  have hi : i < ss.length := by omega
  have hii : (i : Int) < (ss.length : Int) := by omega
  have hi0 : (0 : Int) ≤ (i : Int) := by omega
  have cx := hS.out w1 hch1 i hi
  have hmem := Lib.hid (List.getElem_mem hi)
  have hC1 := Lib.hid hc1
  have hH1 := Lib.hid hch1
  clear hc1 hch1 hx
  generalize ss[i] = s at *
  go_wp2
  go_ret
  exact ⟨_, rfl, hmem.out, hC1.out, hH1.out⟩
set_option maxHeartbeats 4000000 in
theorem among_any (g K L B : Nat) (A : Option Addr) (m c : Nat) (xs : List Int) (w : World) (hm : m = xs.length) (hK : K ≤ 900000000) (hc : Cur w g K) (hl : 0 < xs.length) (hl2 : xs.length ≤ 1000) (hs : IS w L B A xs) (hL : g < L) (hB : B ≤ w.heap.size) :
    Calls Try.prog 198 #[.pointer (some ⟨g, 0, none⟩), .slice A m c] w (DrI w g (K + 2) fun x => x ∈ xs) := by
  subst hm
  have H := Lib.hid (pick_any g K (xs.length : Int) w hK (by omega) hc)
  obtain ⟨b, o, rfl, ⟨hb1, hb2⟩, hcc⟩ := hs hl
  have hS : Hid (∀ (w1 : World), Chg g (g + 1) w w1 → ∀ (i : Nat) (h : i < xs.length), w1.cell? ⟨b, o + i, none⟩ = some (.int .i64 xs[i])) := fun w1 hw i h =>
    (hw.cell (p := ⟨b, o + i, none⟩) (by show b < w.heap.size; omega) (.inr (by show g + 1 ≤ b; omega))).trans (hcc i h)
  clear hcc hs hc
  go_enter Try.func198, Try.ntmps198
  go_wp2_with (fail)
  refine H.out.mono ?_
  rintro e w1 ⟨x, rfl, hx, hc1, hch1⟩
  obtain ⟨i, rfl⟩ := Int.eq_ofNat_of_zero_le hx.1
  have hi : i < xs.length := by omega
  have hii : (i : Int) < (xs.length : Int) := by omega
  have hi0 : (0 : Int) ≤ (i : Int) := by omega
  have cx := hS.out w1 hch1 i hi
  have hmem := Lib.hid (List.getElem_mem hi)
  have hC1 := Lib.hid hc1
  have hH1 := Lib.hid hch1
  clear hc1 hch1 hx
  generalize xs[i] = s at *
  go_wp2
  go_ret
  exact ⟨_, rfl, hmem.out, hC1.out, hH1.out⟩
theorem lit_is (w : World) (xs : List Int) : IS (w.alloc (.cells (intCells xs) 3)) w.heap.size (w.heap.size + 1) (some ⟨w.heap.size, 0, none⟩) xs :=
  IB.toIS (t := 3) (heap_alloc_new w _)
theorem lit_ss (w : World) (ss : List ByteArray) : RS encD 1 (w.alloc (.cells (ss.flatMap encD).toArray 9)) w.heap.size (w.heap.size + 1) (some ⟨w.heap.size, 0, none⟩) ss :=
  KB.toRS (enc := encD) (k := 1) (t := 9) (fun _ => rfl) (heap_alloc_new w _)
theorem lit_cur {w w1 : World} {g K : Nat} (hc : Cur w1 g K) (hch : Chg g (g + 1) w w1) (o : Obj) : Cur (w1.alloc o) g K ∧ Chg g (g + 1) w (w1.alloc o) ∧ g < w1.heap.size ∧ w1.heap.size + 1 ≤ (w1.alloc o).heap.size :=
  ⟨hc.below ((Below.refl w1.heap.size w1).alloc (Nat.le_refl _) o), hch.alloc o, hc.lt, by simp⟩
def words15 : List Int := [0, 1, 2, 3, 4, 5, 6, 7, 8, 16, 31, 32, 33, 62, 63]
set_option maxHeartbeats 4000000 in
theorem word_any (g K : Nat) (w : World) (hK : K ≤ 800000000) (hc : Cur w g K) :
    Calls Try.prog 212 #[.pointer (some ⟨g, 0, none⟩)] w (DrI w g (K + 4) fun x => 0 ≤ x ∧ x ≤ 63) := by
  have H := Lib.hid (one_any g K 2 w (by omega) (by omega) hc)
  clear hc
  go_enter Try.func212, Try.ntmps212
  go_wp2_with (fail)
  refine H.out.mono ?_
  rintro e w1 ⟨b, rfl, hc1, hch1⟩
  cases b
  · have hP := Lib.hid (pick_any g (K + 2) 64 w1 (by omega) (by omega) hc1)
    have hH1 := Lib.hid hch1
    clear hc1 hch1
    go_wp2_with (fail)
    refine hP.out.mono ?_
    rintro e w2 ⟨x, rfl, hx, hc2, hch2⟩
    have hC2 := Lib.hid hc2
    have hH2 := Lib.hid (hH1.out.trans hch2)
    clear hc2 hch2
    go_wp2
    go_ret
    exact ⟨_, rfl, by omega, hC2.out, hH2.out⟩
  · obtain ⟨k1, k2, k3, k4⟩ := lit_cur hc1 hch1 (.cells (intCells words15) 3)
    have hP := Lib.hid (among_any g (K + 2) w1.heap.size (w1.heap.size + 1) (some ⟨w1.heap.size, 0, none⟩) 15 15 words15 _ rfl (by omega) k1 (by decide) (by decide) (lit_is w1 words15) k3 k4)
    have hH1 := Lib.hid k2
    clear hc1 hch1 k1 k2 k3 k4
    go_wp2_with (fail)
    refine hP.out.mono ?_
    rintro e w2 ⟨x, rfl, hx, hc2, hch2⟩
    have hX : Hid (0 ≤ x ∧ x ≤ 63) := by
      have : ∀ y ∈ words15, 0 ≤ y ∧ y ≤ 63 := by decide
      exact this x hx
    have hC2 := Lib.hid hc2
    have hH2 := Lib.hid (hH1.out.trans hch2)
    clear hc2 hch2 hx
    go_wp2
    go_ret
    exact ⟨_, rfl, hX.out, hC2.out, hH2.out⟩
def words3 : List Int := [-1, 64, 4611686018427387904]
set_option maxHeartbeats 4000000 in
theorem anyWord_any (g K : Nat) (w : World) (hK : K ≤ 700000000) (hc : Cur w g K) :
    Calls Try.prog 129 #[.pointer (some ⟨g, 0, none⟩)] w (DrI w g (K + 6) fun x => -1 ≤ x ∧ x ≤ 4611686018427387904) := by
  have H := Lib.hid (one_any g K 14 w (by omega) (by omega) hc)
  clear hc
  go_enter Try.func129, Try.ntmps129
  go_wp2_with (fail)
  refine H.out.mono ?_
  rintro e w1 ⟨b, rfl, hc1, hch1⟩
  cases b
  · have hP := Lib.hid (word_any g (K + 2) w1 (by omega) hc1)
    have hH1 := Lib.hid hch1
    clear hc1 hch1
    go_wp2_with (fail)
    refine hP.out.mono ?_
    rintro e w2 ⟨x, rfl, hx, hc2, hch2⟩
    have hC2 := Lib.hid hc2
    have hH2 := Lib.hid (hH1.out.trans hch2)
    clear hc2 hch2
    go_wp2
    go_ret
    exact ⟨_, rfl, by omega, hC2.out, hH2.out⟩
  · obtain ⟨k1, k2, k3, k4⟩ := lit_cur hc1 hch1 (.cells (intCells words3) 3)
    have hP := Lib.hid (among_any g (K + 2) w1.heap.size (w1.heap.size + 1) (some ⟨w1.heap.size, 0, none⟩) 3 3 words3 _ rfl (by omega) k1 (by decide) (by decide) (lit_is w1 words3) k3 k4)
    have hH1 := Lib.hid k2
    clear hc1 hch1 k1 k2 k3 k4
    go_wp2_with (fail)
    refine hP.out.mono ?_
    rintro e w2 ⟨x, rfl, hx, hc2, hch2⟩
    have hX : Hid (-1 ≤ x ∧ x ≤ 4611686018427387904) := by
      have : ∀ y ∈ words3, -1 ≤ y ∧ y ≤ 4611686018427387904 := by decide
      exact this x hx
    have hC2 := Lib.hid (hc2.more (show K + 2 + 2 ≤ K + 6 by omega))
    have hH2 := Lib.hid (hH1.out.trans hch2)
    clear hc2 hch2 hx
    go_wp2
    go_ret
    exact ⟨_, rfl, hX.out, hC2.out, hH2.out⟩
end Go.Proofs.Ytmhdijklindipaa
