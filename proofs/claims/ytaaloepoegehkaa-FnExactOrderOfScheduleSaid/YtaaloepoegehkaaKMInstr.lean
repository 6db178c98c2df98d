import Derived.Test.YtaaloepoegehkaaKInstr
import Derived.Test.YtaaloepoegehkaaLT
import Derived.Test.YtaaloepoegehkaaLI
import Derived.WalkKit
import Derived.WalkSpells
import Derived.WalkLawsBesides
import Derived.StillTailTactics
import Derived.Deep.RegionHeld3
import Derived.Lib.Hide
/- Slices of Instr: marks. -/
namespace Go.Proofs.Ytaaloepoegehkaa
open Go.RowKit
set_option linter.unusedVariables false

theorem In.rs {t : TypeId} {w : World} {lo hi n c : Nat} {A : Option Addr} {xs : List In} (h : OK In.enc 5 t w lo hi (.slice A n c) xs) : RS In.enc 5 w lo hi A xs := by
  obtain ⟨A', c', e, his⟩ := h.form In.hk
  injection e with a _ _; subst a; exact his
theorem In.boxed {t : TypeId} {w : World} (x : In) : RS In.enc 5 (w.alloc (.cells #[.string x.op, .int .i64 x.d, .int .i64 x.a, .int .i64 x.b, .int .i64 x.m] t)) w.heap.size (w.heap.size + 1) (some ⟨w.heap.size, 0, none⟩) [x] :=
  KB.toRS In.hk (t := t) (by unfold KB; rw [heap_alloc_new]; rfl)
theorem In.box {w : World} {lo hi g : Nat} {x : In} (h : RS In.enc 5 w lo hi (some ⟨g, 0, none⟩) [x]) : w.cell? ⟨g, 0, none⟩ = some (.string x.op) ∧ w.cell? ⟨g, 1, none⟩ = some (.int .i64 x.d) ∧ w.cell? ⟨g, 2, none⟩ = some (.int .i64 x.a) ∧ w.cell? ⟨g, 3, none⟩ = some (.int .i64 x.b) ∧ w.cell? ⟨g, 4, none⟩ = some (.int .i64 x.m) := by
  obtain ⟨b, o, e, _, hc⟩ := h (by simp)
  injection e with e; injection e with e1 e2 _; subst e1; subst e2
  have := fun j v hv => hc 0 (by simp) j v hv
  simp only [Nat.zero_mul, Nat.zero_add, List.getElem_cons_zero] at this
  exact ⟨this 0 _ rfl, this 1 _ rfl, this 2 _ rfl, this 3 _ rfl, this 4 _ rfl⟩
def markIn (k0 : Int) (i : Nat) : In := ⟨mtx (k0 + 5 * (i : Int)), k0 + 5 * (i : Int) + 1, k0 + 5 * (i : Int) + 1 + 1, k0 + 5 * (i : Int) + 1 + 1 + 1, k0 + 5 * (i : Int) + 1 + 1 + 1 + 1⟩
def marksIn (k0 : Int) (n : Nat) : List In := (List.range n).map (markIn k0)
theorem marksIn_len (k0 : Int) (n : Nat) : (marksIn k0 n).length = n := by simp [marksIn]
def MarkedInstr (w : World) (lo hi : Nat) (sl : Value) (n : Nat) (k0 : Int) (e : Ending) (w' : World) : Prop :=
  e = .returned (.int .i64 (k0 + 5 * n)) ∧ OK In.enc 5 88 w' lo hi sl (marksIn k0 n) ∧ Chg lo hi w w'
set_option maxRecDepth 100000 in
set_option maxHeartbeats 2000000 in
theorem markInstrS_any (lo hi : Nat) (A : Option Addr) (c : Nat) (es : List In) (k0 : Int) (w : World) (hl : es.length ≤ 1048576) (hk0 : 0 ≤ k0) (hk1 : k0 ≤ 100000000) (hx : OK In.enc 5 88 w lo hi (.slice A es.length c) es) :
    Calls Try.prog 28 #[.slice A es.length c, .int .i64 k0] w (MarkedInstr w lo hi (.slice A es.length c) es.length k0) := by
  have hml := Lib.hid (marksIn_len k0 es.length)
  have hX0 : Hid (OK In.enc 5 88 w lo hi (.slice A es.length c) (over (marksIn k0 es.length) es 0)) := by rw [over_zero]; exact hx
  have hG0 := Lib.hid (Chg.refl lo hi w)
  clear hx
  go_enter Try.func28, Try.ntmps28
  go_wp2
  go_loopw [1, 5] (fun q i wr => ∃ k : Nat, k ≤ es.length ∧ i = .int .i64 k ∧ q = .int .i64 (k0 + 5 * k) ∧ OK In.enc 5 88 wr lo hi (.slice A es.length c) (over (marksIn k0 es.length) es k) ∧ Chg lo hi w wr) (fun _ i _ => es.length - (intOf i).toNat)
  case atStart => exact ⟨0, Nat.zero_le _, rfl, by simp, hX0.out, hG0.out⟩
  case round =>
    obtain ⟨k, hk, rfl, rfl, how, hgr⟩ := hrel
    have hOW := Lib.hid how
    have hGR := Lib.hid hgr
    clear how hgr
    have hol : Hid ((over (marksIn k0 es.length) es k).length = es.length) := over_len (by rw [hml.out]; exact hk) hml.out
    by_cases hlt : k < es.length
    · have hov : Hid ((over (marksIn k0 es.length) es k).set k (markIn k0 k) = over (marksIn k0 es.length) es (k + 1)) := by
        have := over_succ (ys := marksIn k0 es.length) (xs := es) (i := k) (by rw [hml.out]; exact hlt) hml.out
        rw [Hid, ← this]; simp [marksIn]
      obtain ⟨g, cap, hv, hg1, hg2, hcap, hcm, rest, hCB, hCL⟩ : ∃ g cap, Value.slice A es.length c = .slice (some ⟨g, 0, none⟩) es.length cap ∧ lo ≤ g ∧ g < hi ∧ es.length ≤ cap ∧ cap ≤ maxLen ∧ ∃ rest, CB 88 wr g ((over (marksIn k0 es.length) es k).flatMap In.enc ++ rest) ∧ ((over (marksIn k0 es.length) es k).flatMap In.enc ++ rest).length = cap * 5 := by
        have h1 := hOW.out.open
        rw [hol.out] at h1
        rcases h1 with ⟨_, h0⟩ | h
        · omega
        · exact h
      obtain ⟨rfl, rfl⟩ : A = some ⟨g, 0, none⟩ ∧ c = cap := by injection hv with a _ b; exact ⟨a, b⟩
      have hC := Lib.hid hCB
      have hL := Lib.hid hCL
      have hM := Lib.hid hcm
      clear hv hCB hCL hcm
      go_wp2_with (fail)
      refine (markText_any _ _ (by omega) (by omega)).mono ?_
      rintro e w2 ⟨rfl, hb2⟩
      have hC2 : Hid (CB 88 w2 g ((over (marksIn k0 es.length) es k).flatMap In.enc ++ rest)) := hC.out.below hb2 hC.out.lt
      have hGR2 : Hid (Chg lo hi w w2) := hGR.out.trans (Chg.ofBelow hb2)
      clear hb2 hC
      obtain ⟨z0, z1, z2, z3, z4, d1, d2, d3, d4, d5⟩ := In.cellsB hC2.out k (by rw [hol.out]; exact hlt)
      have f1 := hC2.out.frozen (k * 5)
      have f2 := hC2.out.frozen (k * 5 + 1)
      have f3 := hC2.out.frozen (k * 5 + 2)
      have f4 := hC2.out.frozen (k * 5 + 3)
      have f5 := hC2.out.frozen (k * 5 + 4)
      have hst : Hid (CB 88 (setCells w2 g (k * 5) (In.enc (markIn k0 k))) g ((over (marksIn k0 es.length) es (k + 1)).flatMap In.enc ++ rest)) := by
        have h1 := hC2.out.store In.hk k (by rw [hol.out]; exact hlt) (markIn k0 k)
        rw [hov.out] at h1; exact h1
      have hgs := Lib.hid (chg_setCells (In.enc (markIn k0 k)) g (k * 5) hGR2.out ⟨hg1, hg2⟩)
      have hfin : Hid (OK In.enc 5 88 (setCells w2 g (k * 5) (In.enc (markIn k0 k))) lo hi (.slice (some ⟨g, 0, none⟩) es.length c) (over (marksIn k0 es.length) es (k + 1))) := by
        have hl2 : (over (marksIn k0 es.length) es (k + 1)).length = es.length := over_len (by rw [hml.out]; omega) hml.out
        have h1 := OK.close In.hk (cap := c) hst.out hg1 hg2 (by rw [hl2]; exact hcap) hM.out (by
          have := hL.out
          rw [List.length_append, kflat_len In.hk, hol.out] at this
          rw [List.length_append, kflat_len In.hk, hl2]; exact this)
        rw [hl2] at h1; exact h1
      clear hst hC2 hGR2
      go_wp2
      go_roundw
      case rel => exact ⟨k + 1, by omega, by go_num, by go_num, hfin.out, hgs.out⟩
      case measure => simp [intOf]; omega
    · obtain rfl : k = es.length := by omega
      have hN : Hid (OK In.enc 5 88 wr lo hi (.slice A es.length c) (marksIn k0 es.length)) := by
        have h1 := hOW.out
        have h2 : over (marksIn k0 es.length) es es.length = marksIn k0 es.length := by
          have := over_all (ys := marksIn k0 es.length) (xs := es) hml.out; rwa [hml.out] at this
        rwa [h2] at h1
      go_wp2
      go_ret
      exact ⟨rfl, hN.out, hGR.out⟩

set_option maxRecDepth 100000 in
set_option maxHeartbeats 2000000 in
theorem heldInstrS_any (L B : Nat) (A : Option Addr) (n c : Nat) (k0 : Int) (w : World) (hl : n ≤ 1048576) (hk0 : 0 ≤ k0) (hk1 : k0 ≤ 100000000) (hx : RS In.enc 5 w L B A (marksIn k0 n)) (hB : B ≤ w.heap.size) :
    Calls Try.prog 55 #[.slice A n c, .int .i64 k0] w fun e w' => e = .returned (.int .i64 (k0 + 5 * n)) ∧ Below w.heap.size w w' := by
  have hE := Lib.hid hx
  have hBB := Lib.hid hB
  have hBel0 := Below.refl w.heap.size w
  have hml := Lib.hid (marksIn_len k0 n)
  clear hx hB
  go_enter Try.func55, Try.ntmps55
  go_wp2
  go_loopw [1, 5] (fun q i wr => ∃ k : Nat, k ≤ n ∧ i = .int .i64 k ∧ q = .int .i64 (k0 + 5 * k) ∧ Below w.heap.size w wr) (fun _ i _ => n - (intOf i).toNat)
  case atStart => exact ⟨0, Nat.zero_le _, rfl, by simp, hBel0⟩
  case round =>
    obtain ⟨k, hk, rfl, rfl, hbel⟩ := hrel
    by_cases hlt : k < n
    · obtain ⟨b, o, rfl, ⟨_, hbB⟩, hc⟩ := In.cells (hE.out.below hbel hBB.out) (by rw [hml.out]; omega)
      obtain ⟨c1, c2, c3, c4, c5⟩ := hc k (by rw [hml.out]; exact hlt)
      have hmk : (marksIn k0 n)[k]'(by rw [hml.out]; exact hlt) = markIn k0 k := by simp [marksIn]
      rw [hmk] at c1 c2 c3 c4 c5
      simp only [markIn] at c1 c2 c3 c4 c5
      clear hc hmk
      have hbb : b < wr.heap.size := by have := hbel.size; have := hBB.out; omega
      have hBelB := Lib.hid hbel
      have i1 : (k : Int) < (n : Int) := by omega
      have i0 : (0 : Int) ≤ (k : Int) := by omega
      have e1 : ((k0 + 5 * (k : Int) + 1) != (k0 + 5 * (k : Int) + 1)) = false := by simp
      have e2 : ((k0 + 5 * (k : Int) + 1 + 1) != (k0 + 5 * (k : Int) + 1 + 1)) = false := by simp
      have e3 : ((k0 + 5 * (k : Int) + 1 + 1 + 1) != (k0 + 5 * (k : Int) + 1 + 1 + 1)) = false := by simp
      have e4 : ((k0 + 5 * (k : Int) + 1 + 1 + 1 + 1) != (k0 + 5 * (k : Int) + 1 + 1 + 1 + 1)) = false := by simp
      go_wp2_with (fail)
      go_region_held3 (fun w' => w'.cell? ⟨b, o + k * 5, none⟩ = some (.string (mtx (k0 + 5 * k))))
        (first | go_keep | exact (hb2.cell (by simp; omega)).trans (by assumption) | exact (hb2.cell (by simp; omega)).trans c1)
        ((first | (go_at_call 86; refine (markText_any _ _ (by omega) (by omega)).mono ?_; rintro e w2 ⟨rfl, hb2⟩)))
      have c2' : w2.cell? ⟨b, o + k * 5 + 1, none⟩ = _ := (hb2.cell hbb).trans c2
      have c3' : w2.cell? ⟨b, o + k * 5 + 2, none⟩ = _ := (hb2.cell hbb).trans c3
      have c4' : w2.cell? ⟨b, o + k * 5 + 3, none⟩ = _ := (hb2.cell hbb).trans c4
      have c5' : w2.cell? ⟨b, o + k * 5 + 4, none⟩ = _ := (hb2.cell hbb).trans c5
      have hbel2 := Lib.hid (hBelB.out.drew.trans (hb2.mono hBelB.out.size))
      clear c1 c2 c3 c4 c5 hb2 hbel
      go_wp2
      go_roundw
      case rel => exact ⟨k + 1, by omega, by go_num, by go_num, hbel2.out⟩
      case measure => simp [intOf]; omega
    · obtain rfl : k = n := by omega
      go_wp2
      go_ret
      exact ⟨rfl, hbel⟩
end Go.Proofs.Ytaaloepoegehkaa
