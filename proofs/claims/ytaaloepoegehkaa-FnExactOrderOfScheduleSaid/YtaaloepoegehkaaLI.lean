import Derived.Test.YtaaloepoegehkaaRows
import Derived.Test.YtaaloepoegehkaaV2
import Derived.WalkKit
import Derived.WalkSpells
import Derived.WalkLawsBesides
import Derived.StillTailTactics
import Derived.Deep.QuietTactic
import Derived.BigQuiet
import Derived.Deep.AppendLies
import Derived.Lib.Hide
namespace Go.Proofs.Ytaaloepoegehkaa
open Go.RowKit
set_option linter.unusedVariables false

/-- A slice of ints that the call made: its block, if any, lies in [lo, hi). -/
def OW (w : World) (lo hi : Nat) (v : Value) (xs : List Int) : Prop :=
  w.ownsRow lo 3 1 v xs.length (xs.map (Value.int .i64)) ∧ ∀ k, v.ownBlock = some k → k < hi
theorem OW.lo {w : World} {lo hi : Nat} {v : Value} {xs : List Int} (h : OW w lo hi v xs) : ∀ k, v.ownBlock = some k → lo ≤ k ∧ k < hi :=
  fun k hk => ⟨(h.1.lt k hk).1, h.2 k hk⟩
theorem OW.below {w w' : World} {lo hi C : Nat} {v : Value} {xs : List Int} (h : OW w lo hi v xs) (hb : Below C w w') (hC : hi ≤ C) : OW w' lo hi v xs := by
  refine ⟨⟨h.1.1, ?_⟩, h.2⟩
  rcases h.1.2 with hn | ⟨g, cap, cur, rfl, hg, hh, hr⟩
  · exact .inl hn
  · have : g < hi := h.2 g rfl
    exact .inr ⟨g, cap, cur, rfl, hg, (hb.block g (by omega)).trans hh, hr⟩
theorem OW.kept {w w' : World} {lo hi : Nat} {v : Value} {xs : List Int} {row : Option Nat} (h : OW w lo hi v xs) (hg : w.grownBy w' row) (hne : ∀ k, row = some k → k < lo ∨ hi ≤ k) : OW w' lo hi v xs := by
  refine ⟨h.1.kept hg ?_, h.2⟩
  cases hv : v.ownBlock with
  | none => exact .inl rfl
  | some k =>
    right
    rintro rfl
    have h1 := h.lo k hv
    have h2 := hne k rfl
    omega
theorem OW.more {w : World} {lo hi hi' : Nat} {v : Value} {xs : List Int} (h : OW w lo hi v xs) (hh : hi ≤ hi') : OW w lo hi' v xs := ⟨h.1, fun k hk => Nat.lt_of_lt_of_le (h.2 k hk) hh⟩
theorem OW.lower {w : World} {lo lo' hi : Nat} {v : Value} {xs : List Int} (h : OW w lo hi v xs) (hh : lo' ≤ lo) : OW w lo' hi v xs := by
  refine ⟨⟨h.1.1, ?_⟩, h.2⟩
  rcases h.1.2 with hn | ⟨g, cap, cur, rfl, hg, hr⟩
  · exact .inl hn
  · exact .inr ⟨g, cap, cur, rfl, by omega, hr⟩
theorem OW.form {w : World} {lo hi : Nat} {v : Value} {xs : List Int} (h : OW w lo hi v xs) : ∃ A c, v = .slice A xs.length c ∧ IS w lo hi A xs := by
  rcases h.1.2 with ⟨rfl, h0⟩ | ⟨g, cap, cur, rfl, hg, hh, _, _, _, ht⟩
  · exact ⟨none, 0, by rw [h0], fun hp => absurd hp (by omega)⟩
  · refine ⟨_, cap, rfl, fun _ => ⟨g, 0, rfl, ⟨hg, h.2 g rfl⟩, fun i hi => ?_⟩⟩
    have := h.1.cells (g := g) rfl i (.int .i64 xs[i]) (by simp [hi])
    by_cases h0 : i = 0
    · subst h0; simpa [Addr.add] using this
    · simpa [Addr.add, h0] using this
theorem OW.nil (w : World) (lo hi : Nat) : OW w lo hi (.slice none 0 0) [] := ⟨w.ownsRow_nil _ _ _, fun k hk => by simp [Value.ownBlock] at hk⟩
theorem OW.ofIB {w : World} {g lo hi : Nat} {xs : List Int} (h : IB w g 3 xs) (hl : xs.length ≤ 1000000) (hlo : lo ≤ g) (hhi : g < hi) : OW w lo hi (.slice (some ⟨g, 0, none⟩) xs.length xs.length) xs :=
  ⟨⟨by simp, .inr ⟨g, xs.length, intCells xs, rfl, hlo, h, Nat.le_refl _, by unfold maxLen; omega, by simp [intCells], by simp [intCells, List.take_of_length_le]⟩⟩,
   fun k hk => by simp [Value.ownBlock] at hk; omega⟩
theorem new1 {w : World} {g : Nat} {x : Value} {t : TypeId} (hg : w.heap.size = g) : ∀ j u, [x][j]? = some u → (w.alloc (.cells #[x] t)).cell? ((⟨g, 0, none⟩ : Addr).add j) = some u := by
  subst hg
  intro j u hj
  match j, hj with
  | 0, hj => simp at hj; subst hj; simp [Addr.add]
theorem new1d {w : World} {g : Nat} {x : Value} {t : TypeId} (hg : w.heap.size = g) : ∀ j u, [x][j]? = some u → (w.alloc (.cells #[x] t)).drew.cell? ((⟨g, 0, none⟩ : Addr).add j) = some u := new1 hg
theorem node4 (w : World) (a b c d : Value) (t : TypeId) : (w.alloc (.cells #[a, b, c, d] t)).cell? ⟨w.heap.size, 0, none⟩ = some a ∧ (w.alloc (.cells #[a, b, c, d] t)).cell? ⟨w.heap.size, 1, none⟩ = some b ∧
    (w.alloc (.cells #[a, b, c, d] t)).cell? ⟨w.heap.size, 2, none⟩ = some c ∧ (w.alloc (.cells #[a, b, c, d] t)).cell? ⟨w.heap.size, 3, none⟩ = some d := by
  have h := fun i => cell_of_row _ w.heap.size i #[a, b, c, d] t (0, 0) (heap_alloc_new w _)
  exact ⟨h 0, h 1, h 2, h 3⟩
theorem one1 (x : Int) : ∀ u ∈ [Value.int .i64 x], u.oneCell' = true := by
  intro u hu; simp at hu; subst hu; rfl
/-- One element appended. -/
theorem OW.push {w' : World} {lo : Nat} {v' : Value} {xs : List Int} {x : Int} (h : w'.ownsRow lo 3 1 v' (xs.length + 1) (xs.map (Value.int .i64) ++ [.int .i64 x])) : OW w' lo w'.heap.size v' (xs ++ [x]) :=
  ⟨by simpa using h, fun k hk => (h.lt k hk).2⟩

set_option maxRecDepth 100000 in
set_option maxHeartbeats 1000000 in
theorem eqIntS_any (L B L' B' : Nat) (A A' : Option Addr) (m m' c c' : Nat) (xs xs' : List Int) (w : World) (hm : m = xs.length) (hm' : m' = xs'.length) (hl : xs.length ≤ 1048576) (hx : IS w L B A xs) (hx' : IS w L' B' A' xs') (hB : B ≤ w.heap.size) (hB' : B' ≤ w.heap.size) (heq : xs = xs') :
    Calls Try.prog 27 #[.slice A m c, .slice A' m' c'] w fun e w' => e = .returned (.bool true) ∧ Below w.heap.size w w' := by
  subst heq
  subst hm
  obtain rfl := hm'
  have hE := Lib.hid hx
  have hE' := Lib.hid hx'
  have hBB := Lib.hid hB
  have hBB' := Lib.hid hB'
  have hBel0 := Below.refl w.heap.size w
  clear hx hx' hB hB'
  go_enter Try.func27, Try.ntmps27
  go_wp2
  go_loopw [5] (fun i wr => ∃ k : Nat, k ≤ xs.length ∧ i = .int .i64 k ∧ Below w.heap.size w wr) (fun i _ => xs.length - (intOf i).toNat)
  case atStart => exact ⟨0, Nat.zero_le _, rfl, hBel0⟩
  case round =>
    obtain ⟨k, hk, rfl, hbel⟩ := hrel
    by_cases hlt : k < xs.length
    · obtain ⟨b, o, rfl, ⟨_, hbB⟩, hc⟩ := (hE.out.below hbel hBB.out) (by omega)
      obtain ⟨b', o', rfl, ⟨_, hbB'⟩, hc'⟩ := (hE'.out.below hbel hBB'.out) (by omega)
      have c1 := hc k hlt
      have d1 := hc' k hlt
      clear hc hc'
      have hBelB := Lib.hid (hbel.drew)
      generalize xs[k] = x at *
      have i1 : (k : Int) < (xs.length : Int) := by omega
      have i0 : (0 : Int) ≤ (k : Int) := by omega
      have e1 : (x != x) = false := by simp
      go_wp2_with (fail)
      go_still_tail 8, (by kernel_rfl)
      change wpList _ _ _ _ _ wr.drew
      generalize wr.drew = wd at *
      clear hbel c1 d1
      go_wp2
      go_roundw
      case rel => exact ⟨k + 1, by omega, by go_num, hBelB.out⟩
      case measure => simp [intOf]; omega
    · obtain rfl : k = xs.length := by omega
      go_wp2
      go_ret
      exact ⟨rfl, hbel⟩

def marks (k : Int) (n : Nat) : List Int := (List.range n).map fun (i : Nat) => k + (i : Int)
def markedTo (xs : List Int) (k : Int) (i : Nat) : List Int := marks k i ++ xs.drop i
theorem markedTo_len {xs : List Int} {k : Int} {i : Nat} (h : i ≤ xs.length) : (markedTo xs k i).length = xs.length := by simp [markedTo, marks]; omega
theorem markedTo_succ {xs : List Int} {k : Int} {i : Nat} (h : i < xs.length) : (markedTo xs k i).set i (k + i) = markedTo xs k (i + 1) := by
  have hl : (marks k i).length = i := by simp [marks]
  unfold markedTo
  rw [List.set_append_right _ _ (by omega), hl, Nat.sub_self, List.drop_eq_getElem_cons h, List.set_cons_zero]
  unfold marks
  rw [List.range_succ, List.map_append, List.append_assoc]; rfl

def MarkedIs (w : World) (lo hi : Nat) (sl : Value) (xs : List Int) (k : Int) (e : Ending) (w' : World) : Prop :=
  e = .returned (.int .i64 (k + xs.length)) ∧ OW w' lo hi sl (marks k xs.length) ∧ w.grownBy w' sl.ownBlock
theorem markIntS_any (lo hi : Nat) (A : Option Addr) (c : Nat) (xs : List Int) (k0 : Int) (w : World) (hl : xs.length ≤ 1048576) (hk0 : 0 ≤ k0) (hk1 : k0 ≤ 1000000000) (hx : OW w lo hi (.slice A xs.length c) xs) :
    Calls Try.prog 29 #[.slice A xs.length c, .int .i64 k0] w (MarkedIs w lo hi (.slice A xs.length c) xs k0) := by
  have hX0 : Hid (OW w lo hi (.slice A xs.length c) (markedTo xs k0 0)) := hx
  have hG0 := Lib.hid (World.grownBy.refl w (Value.slice A xs.length c).ownBlock)
  clear hx
  go_enter Try.func29, Try.ntmps29
  go_wp2
  go_loopw [1, 5] (fun q i wr => ∃ k : Nat, k ≤ xs.length ∧ i = .int .i64 k ∧ q = .int .i64 (k0 + k) ∧ OW wr lo hi (.slice A xs.length c) (markedTo xs k0 k) ∧ w.grownBy wr (Value.slice A xs.length c).ownBlock) (fun _ i _ => xs.length - (intOf i).toNat)
  case atStart => exact ⟨0, Nat.zero_le _, rfl, by simp, hX0.out, hG0.out⟩
  case round =>
    obtain ⟨k, hk, rfl, rfl, how, hgr⟩ := hrel
    have hOW := Lib.hid how
    have hGR := Lib.hid hgr
    clear how hgr
    by_cases hlt : k < xs.length
    · obtain ⟨A', c', hv, his⟩ := hOW.out.form
      rw [markedTo_len hk] at hv
      obtain ⟨rfl, rfl⟩ : A = A' ∧ c = c' := by injection hv with a b c; exact ⟨a, c⟩
      obtain ⟨g, hA⟩ : ∃ g, A = some ⟨g, 0, none⟩ := by
        rcases hOW.out.1.2 with ⟨h1, h0⟩ | ⟨g, cap, cur, h1, _⟩
        · rw [markedTo_len hk] at h0; omega
        · injection h1 with a _ _; exact ⟨g, a⟩
      subst hA
      have hown := hOW.out.1
      rw [markedTo_len hk] at hown
      have hst := hown.stored k (.int .i64 (k0 + k))
      have hcell := hown.cellAt k (by omega)
      have hfr := hown.frozenAt k
      rw [List.getElem?_map, List.getElem?_eq_getElem (by rw [markedTo_len hk]; exact hlt)] at hcell
      simp only [Option.map_some] at hcell
      generalize (markedTo xs k0 k)[k]'(by rw [markedTo_len hk]; exact hlt) = z at *
      have hN : Hid (OW (wr.setCell ⟨g, k, none⟩ (.int .i64 (k0 + k))) lo hi (.slice (some ⟨g, 0, none⟩) xs.length c) (markedTo xs k0 (k + 1))) := by
        refine ⟨?_, hOW.out.2⟩
        have h1 := hst.1
        rw [← List.map_set, markedTo_succ hlt] at h1
        rw [markedTo_len (by omega)]; exact h1
      have hG2 : Hid (w.grownBy (wr.setCell ⟨g, k, none⟩ (.int .i64 (k0 + k))) (Value.slice (some ⟨g, 0, none⟩) xs.length c).ownBlock) := by
        have h1 := hst.2
        exact ⟨h1.os.trans hGR.out.os, h1.tape.trans hGR.out.tape, h1.output.trans hGR.out.output, Nat.le_trans hGR.out.size h1.size, fun j hj hne => (h1.block j (Nat.lt_of_lt_of_le hj hGR.out.size) hne).trans (hGR.out.block j hj hne)⟩
      clear hst hown his hv
      go_wp2
      go_roundw
      case rel => exact ⟨k + 1, by omega, by go_num, by go_num, hN.out, hG2.out⟩
      case measure => simp [intOf]; omega
    · obtain rfl : k = xs.length := by omega
      have hN : Hid (OW wr lo hi (.slice A xs.length c) (marks k0 xs.length)) := by
        have := hOW.out; rwa [show markedTo xs k0 xs.length = marks k0 xs.length by simp [markedTo]] at this
      go_wp2
      go_ret
      exact ⟨rfl, hN.out, hGR.out⟩

theorem heldIntS_any (L B : Nat) (A : Option Addr) (n c : Nat) (k0 : Int) (w : World) (hl : n ≤ 1048576) (hk0 : 0 ≤ k0) (hk1 : k0 ≤ 1000000000) (hx : IS w L B A (marks k0 n)) :
    Calls Try.prog 30 #[.slice A n c, .int .i64 k0] w fun e w' => e = .returned (.int .i64 (k0 + n)) ∧ w = w' := by
  have hE := Lib.hid hx
  clear hx
  go_enter Try.func30, Try.ntmps30
  go_wp2
  go_loop [1, 5] (fun q i => ∃ k : Nat, k ≤ n ∧ i = .int .i64 k ∧ q = .int .i64 (k0 + k)) (fun _ i => n - (intOf i).toNat)
  case atStart => exact ⟨0, Nat.zero_le _, rfl, by simp⟩
  case round =>
    obtain ⟨k, hk, rfl, rfl⟩ := hrel
    by_cases hlt : k < n
    · obtain ⟨b, o, rfl, _, hc⟩ := hE.out (by simp [marks]; omega)
      have c1 := hc k (by simp [marks]; omega)
      rw [show (marks k0 n)[k]'(by simp [marks]; omega) = k0 + k by simp [marks]] at c1
      clear hc
      have e1 : ((k0 + (k : Int)) != (k0 + (k : Int))) = false := by simp
      go_wp2
      go_round
      case rel => exact ⟨k + 1, by omega, by go_num, by go_num⟩
      case measure => simp [intOf]; omega
    · obtain rfl : k = n := by omega
      go_wp2
      go_ret
      exact ⟨rfl, rfl⟩
theorem OW.chg {w w' : World} {L B lo hi : Nat} {v : Value} {xs : List Int} (h : OW w L B v xs) (hc : Chg lo hi w w') (hd : B ≤ lo ∨ hi ≤ L) : OW w' L B v xs := by
  refine ⟨⟨h.1.1, ?_⟩, h.2⟩
  rcases h.1.2 with hn | ⟨g, cap, cur, rfl, hg, hh, hr⟩
  · exact .inl hn
  · have hB : g < B := h.2 g rfl
    exact .inr ⟨g, cap, cur, rfl, hg, (hc.block g (Array.getElem?_eq_some_iff.1 hh).1 (by omega)).trans hh, hr⟩
theorem MarkedIs.chg {w : World} {lo hi : Nat} {sl : Value} {xs : List Int} {k : Int} {e : Ending} {w' : World} (how : OW w lo hi sl xs) (h : MarkedIs w lo hi sl xs k e w') : Chg lo hi w w' :=
  Chg.ofGrown h.2.2 how.lo

def zeros (n : Nat) : List Int := List.replicate n 0
theorem Try.infoInt : (Try.prog.info? 3).map (fun i => (i.zero, i.size, i.bytes)) = some (some (.int .i64 0), 1, 8) := by kernel_rfl
theorem run_make_ints (n : Nat) (hn : n ≤ 1048576) (W : World) : (Instr.makeSlice 34 (.int .i64 (n : Int)) (.int .i64 (n : Int))).run Try.prog W = .ok (.slice (some ⟨W.heap.size, 0, none⟩) n n) (W.alloc (.cells (intCells (zeros n)) 3)) := by
  obtain ⟨i0, hi, hz0, hz1, hz2⟩ := info_parts Try.infoInt
  have h := run_make (P := Try.prog) W 34 3 i0 _ Try.underlying34 hi hz0 .i64 .i64 n n (by omega) (by omega) (by rw [hz2]; omega) (by omega)
  rw [h]
  simp only [Int.toNat_natCast, hz1, Nat.mul_one]
  refine congrArg (fun c => Result.ok (Value.slice (some ⟨W.heap.size, 0, none⟩) n n) (W.alloc (.cells c 3))) ?_
  apply Array.ext'
  rw [intCells, zeros, List.map_replicate]
  exact toList_madeCells_one _ _
/-- A new slice of ints that reads as xs. -/
def FreshI (w : World) (xs : List Int) (e : Ending) (w' : World) : Prop :=
  ∃ A c, e = .returned (.slice A xs.length c) ∧ OW w' w.heap.size w'.heap.size (.slice A xs.length c) xs ∧ Below w.heap.size w w'
theorem OW.ofIB' {w : World} {g lo hi : Nat} {xs : List Int} (h : IB w g 3 xs) (hl : xs.length ≤ 1048576) (hlo : lo ≤ g) (hhi : g < hi) : OW w lo hi (.slice (some ⟨g, 0, none⟩) xs.length xs.length) xs :=
  ⟨⟨by simp, .inr ⟨g, xs.length, intCells xs, rfl, hlo, h, Nat.le_refl _, by unfold maxLen; omega, by simp [intCells], by simp [intCells, List.take_of_length_le]⟩⟩,
   fun k hk => by simp [Value.ownBlock] at hk; omega⟩
set_option maxRecDepth 100000 in
theorem toIntS_any (L B : Nat) (A : Option Addr) (c : Nat) (xs : List Int) (w : World) (hl : xs.length ≤ 1048576) (hes : IS w L B A xs) (hB : B ≤ w.heap.size) :
    Calls Try.prog 32 #[.slice A xs.length c] w (FreshI w xs) := by
  have hmk := run_make_ints xs.length hl
  have hU0 : Hid (IB (w.alloc (.cells (intCells (zeros xs.length)) 3)) w.heap.size 3 (over xs (zeros xs.length) 0)) := by rw [over_zero]; exact heap_alloc_new w _
  have hBel0 := (Below.refl w.heap.size w).alloc (Nat.le_refl _) (.cells (intCells (zeros xs.length)) 3)
  have hE := Lib.hid hes
  clear hes
  go_enter Try.func32, Try.ntmps32
  go_wp2
  go_loopw [4] (fun i wr => ∃ k : Nat, k ≤ xs.length ∧ i = .int .i64 k ∧ IB wr w.heap.size 3 (over xs (zeros xs.length) k) ∧ Below w.heap.size w wr) (fun i _ => xs.length - (intOf i).toNat)
  case atStart => exact ⟨0, Nat.zero_le _, rfl, hU0.out, hBel0⟩
  case round =>
    obtain ⟨k, hk, rfl, hib, hbel⟩ := hrel
    have hIB := Lib.hid hib
    have hglt := hib.lt
    clear hib hmk hBel0 hU0
    by_cases hlt : k < xs.length
    · obtain ⟨b, o, rfl, ⟨_, hbB⟩, hc⟩ := (hE.out.below hbel hB) (by omega)
      have c1 := hc k hlt
      clear hc
      have hov : Hid ((over xs (zeros xs.length) k).set k xs[k] = over xs (zeros xs.length) (k + 1)) := over_succ hlt (by simp [zeros])
      have hol : Hid ((over xs (zeros xs.length) k).length = xs.length) := by rw [Hid, over_len (by omega) (by simp [zeros])]; simp [zeros]
      have hBelB := Lib.hid hbel
      generalize hnd : xs[k] = x at *
      have hND := Lib.hid hnd
      clear hnd hbel
      have d1 := hIB.out.cell k (by rw [hol.out]; exact hlt)
      have f1 := hIB.out.frozen k
      have hst : Hid (IB (wr.setCell ⟨w.heap.size, k, none⟩ (.int .i64 x)) w.heap.size 3 (over xs (zeros xs.length) (k + 1))) := by
        have h1 := hIB.out.set k x
        rw [hov.out] at h1; exact h1
      have hbs := Lib.hid (hBelB.out.setCell (p := ⟨w.heap.size, k, none⟩) (Nat.le_refl _) (.int .i64 x))
      go_wp2
      go_roundw
      case rel => exact ⟨k + 1, by omega, by go_num, hst.out, hbs.out⟩
      case measure => simp [intOf]; omega
    · obtain rfl : k = xs.length := by omega
      have h1 := Lib.hid hIB.out
      go_wp2
      go_ret
      refine ⟨_, _, rfl, ?_, hbel⟩
      have h2 := h1.out
      rw [over_all (by simp [zeros])] at h2
      exact OW.ofIB' h2 hl (Nat.le_refl _) hglt
theorem OW.rs {w : World} {lo hi n c : Nat} {A : Option Addr} {xs : List Int} (h : OW w lo hi (.slice A n c) xs) : IS w lo hi A xs := by
  obtain ⟨A', c', e, his⟩ := h.form
  injection e with a _ _; subst a; exact his
def MarkedI (w : World) (lo hi : Nat) (sl : Value) (n : Nat) (k0 : Int) (e : Ending) (w' : World) : Prop :=
  e = .returned (.int .i64 (k0 + n)) ∧ OW w' lo hi sl (marks k0 n) ∧ Chg lo hi w w'
theorem markIntS_c (lo hi : Nat) (A : Option Addr) (c : Nat) (xs : List Int) (k0 : Int) (w : World) (hl : xs.length ≤ 1048576) (hk0 : 0 ≤ k0) (hk1 : k0 ≤ 1000000000) (hx : OW w lo hi (.slice A xs.length c) xs) :
    Calls Try.prog 29 #[.slice A xs.length c, .int .i64 k0] w (MarkedI w lo hi (.slice A xs.length c) xs.length k0) :=
  (markIntS_any lo hi A c xs k0 w hl hk0 hk1 hx).mono fun _ _ h => ⟨h.1, h.2.1, h.chg hx⟩
end Go.Proofs.Ytaaloepoegehkaa
