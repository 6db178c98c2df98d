/- Texts of this proof, one behind the other: CO, CP, CQ, CR, CS, TY. -/
import Derived.Test.YtmhdijklindipaaZ12
import Derived.Test.YtmhdijklindipaaCF
import Derived.WalkKit
import Derived.WalkSpells
import Derived.WalkLawsBesides
import Derived.Lib.Hide
import Derived.Laws.CopyOwn
import Derived.Deep.RegionHeld3
import Derived.Test.YtmhdijklindipaaZ3
import Derived.Test.YtmhdijklindipaaZ8
import Derived.Deep.RegionLaw
import Derived.Deep.AppendLies
namespace Go.Proofs.Ytmhdijklindipaa
open Go.RowKit
set_option linter.unusedVariables false
set_option maxRecDepth 100000

set_option maxHeartbeats 4000000 in
theorem cdRun_any (L B : Nat) (A : Option Addr) (c : Nat) (es : List In) (b o c' : Nat) (rs : List Int) (L' B' : Nat) (w : World) (hok : okCode es = true) (hes : RS In.enc 5 w L B A es) (hB : B ≤ w.heap.size) (h6 : words6 rs) (hI : IS w L' B' (some ⟨b, o, none⟩) rs) (hB' : B' ≤ w.heap.size) :
    Calls Try.prog 148 #[.slice A es.length c, .slice (some ⟨b, o, none⟩) 6 c'] w (Own6 w (runL es rs)) := by
  have hl := okCode_len hok
  have hall := Lib.hid (okCode_all hok)
  have hE := Lib.hid hes
  have hBB := Lib.hid hB
  have hH6 := Lib.hid h6
  have hL := Lib.hid ((l1Own_any L' B' (some ⟨b, o, none⟩) c' rs w (by rw [h6.1]; omega) hI hB').mono fun _ _ => own6_of h6.1)
  rw [show rs.length = 6 from h6.1] at hL
  clear hes hB hok h6 hI
  go_enter Try.func148, Try.ntmps148
  go_wp2_with (fail)
  refine hL.out.mono ?_
  rintro e w1 ⟨g1, c1, rfl, hg1, ho1, hb1⟩
  have hO1 := Lib.hid ho1
  have hbel1 := Lib.hid hb1
  clear ho1 hb1
  go_wp2
  go_loopw [5, 12] (fun q i wr => ∃ k : Nat, k ≤ es.length ∧ i = .int .i64 k ∧ (∃ g c1, q = .slice (some ⟨g, 0, none⟩) 6 c1 ∧ w.heap.size ≤ g ∧ OW wr g (g + 1) (.slice (some ⟨g, 0, none⟩) 6 c1) (runL (es.take k) rs)) ∧ Below w.heap.size w wr) (fun _ i _ => es.length - (intOf i).toNat)
  case atStart => exact ⟨0, Nat.zero_le _, rfl, ⟨g1, c1, rfl, hg1, hO1.out⟩, hbel1.out⟩
  case round =>
    obtain ⟨k, hk, rfl, ⟨g, c2, rfl, hg, how⟩, hbel⟩ := hrel
    have hO := Lib.hid how
    have hglt : g < wr.heap.size := (how.1.lt g rfl).2
    clear how
    by_cases hlt : k < es.length
    · obtain ⟨b, o, rfl, ⟨_, hbB⟩, hc⟩ := In.cells (hE.out.below hbel hBB.out) (by omega)
      obtain ⟨d1, d2, d3, d4, d5⟩ := hc k hlt
      clear hc
      have hx := Lib.hid (hall.out _ (List.getElem_mem hlt))
      have hS := Lib.hid (runL_snoc (rs := rs) hlt)
      have hW := Lib.hid (runL_words_take hall.out hH6.out k)
      generalize es[k] = nd at *
      obtain ⟨op, d, a, bb, m⟩ := nd
      have hbs := hbel.size
      have hbel2 := fun o => Lib.hid (hbel.alloc hbel.size o)
      have hO2 := fun o => Lib.hid (hO.out.below ((Below.refl wr.heap.size wr).alloc (Nat.le_refl _) o) hglt)
      clear hbel
      go_wp2_with (fail)
      refine (cdStep_any ⟨op, d, a, bb, m⟩ g 0 c2 _ g (g + 1) _ hx.out hW.out (hO2 _).out.rs (by simp; omega)).mono ?_
      rintro e w3 ⟨g3, c3, rfl, hg3, ho3, hb3⟩
      have hO3 := Lib.hid ho3
      have hbel3 := Lib.hid ((hbel2 _).out.trans (hb3.mono (by simp; omega)))
      simp at hg3
      clear ho3 hb3 d1 d2 d3 d4 d5
      go_wp2
      go_roundw
      case rel => exact ⟨k + 1, by omega, by go_num, ⟨g3, c3, rfl, by omega, by rw [hS.out]; exact hO3.out⟩, hbel3.out⟩
      case measure => simp [intOf]; omega
    · obtain rfl : k = es.length := by omega
      go_wp2
      go_ret
      exact ⟨g, c2, rfl, hg, by have := hO.out; rwa [List.take_length] at this, hbel⟩

def stepR (x : In) (rs : List Int) : List Int := if (goodIn x && regsOk rs) = true then stepL x rs else []
def runR (es : List In) (rs : List Int) : List Int := if (okCode es && regsOk rs) = true then runL es rs else []
theorem regs_words {rs : List Int} (h : regsOk rs = true) : words6 rs := by
  simp only [regsOk, Bool.and_eq_true, beq_iff_eq] at h
  exact h
theorem stepR_len (x : In) (rs : List Int) : (stepR x rs).length ≤ 1048576 := by
  unfold stepR; split
  · rename_i h; simp only [Bool.and_eq_true] at h
    have := (stepL_words h.1 (regs_words h.2)).1; omega
  · simp
theorem runR_len (es : List In) (rs : List Int) : (runR es rs).length ≤ 1048576 := by
  unfold runR; split
  · rename_i h; simp only [Bool.and_eq_true] at h
    have := (runL_words (okCode_all h.1) (regs_words h.2)).1; omega
  · simp
/-- The two results of a call that may leave a list. -/
theorem res_no {F : List Int → Bool → World → Ending → World → Prop} {w w' : World} {R : List Int} (hF : ∀ R ok w e w', (∃ A c, e = .returned (.tuple #[.slice A R.length c, .bool ok]) ∧ OW w' w.heap.size w'.heap.size (.slice A R.length c) R ∧ Below w.heap.size w w') → F R ok w e w') (hR : R = []) (hb : Below w.heap.size w w') :
    F R false w (.returned (.tuple #[.slice none 0 0, .bool false])) w' := by
  subst hR; exact hF _ _ _ _ _ ⟨none, 0, rfl, OW.nil _ _ _, hb⟩
theorem own6_res {w w' : World} {g c : Nat} {R : List Int} (h6 : R.length = 6) (hg : w.heap.size ≤ g) (ho : OW w' g (g + 1) (.slice (some ⟨g, 0, none⟩) 6 c) R) (hb : Below w.heap.size w w') :
    ∃ A c1, Ending.returned (.tuple #[.slice (some ⟨g, 0, none⟩) 6 c, .bool true]) = .returned (.tuple #[.slice A R.length c1, .bool true]) ∧ OW w' w.heap.size w'.heap.size (.slice A R.length c1) R ∧ Below w.heap.size w w' :=
  ⟨_, c, by rw [h6], by rw [h6]; exact (ho.lower hg).more (ho.1.lt g rfl).2, hb⟩

set_option maxHeartbeats 1000000 in
theorem sStepInstr_any (x : In) (L B : Nat) (A : Option Addr) (c : Nat) (rs : List Int) (w : World) (hl : rs.length ≤ 1048576) (hI : IS w L B A rs) (hB : B ≤ w.heap.size) :
    Calls Try.prog 44 #[.agg #[.string x.op, .int .i64 x.d, .int .i64 x.a, .int .i64 x.b, .int .i64 x.m], .slice A rs.length c] w (ResStepInstr (stepR x rs) (goodIn x && regsOk rs) w) := by
  have hE := Lib.hid hI
  obtain ⟨op, d, a, b, m⟩ := x
  have hb0 := Lib.hid ((Below.refl w.heap.size w).alloc (Nat.le_refl _) (.cells #[.string op, .int .i64 d, .int .i64 a, .int .i64 b, .int .i64 m] 56))
  clear hI
  go_enter Try.func44, Try.ntmps44
  go_wp2_with (fail)
  refine (cdGood_any _ _ _ _ _ _).mono ?_
  rintro e w2 ⟨rfl, hb⟩
  obtain ⟨xa, xb, xc, xd, xe⟩ := In.old (x := ⟨op, d, a, b, m⟩) rfl hb
  have hbb := Lib.hid (hb0.out.trans (hb.mono (by simp)))
  have hE2 := Lib.hid (hE.out.below hbb.out hB)
  have hz := hbb.out.size
  clear hb
  cases hg : goodIn ⟨op, d, a, b, m⟩
  · have hR : Hid (stepR ⟨op, d, a, b, m⟩ rs = []) := by simp [Hid, stepR, hg]
    have hK : Hid ((goodIn ⟨op, d, a, b, m⟩ && regsOk rs) = false) := by simp [Hid, hg]
    go_wp2
    go_ret2
    rw [hR.out, hK.out]; exact ⟨none, 0, rfl, OW.nil _ _ _, hbb.out⟩
  · have hG := Lib.hid hg
    have hC := Lib.hid (cdRegs_any L B A c rs w2 hl hE2.out)
    cases hr : regsOk rs
    · have hR : Hid (stepR ⟨op, d, a, b, m⟩ rs = []) := by simp [Hid, stepR, hr]
      have hK : Hid ((goodIn ⟨op, d, a, b, m⟩ && regsOk rs) = false) := by simp [Hid, hr]
      rw [hr] at hC
      go_wp2_with (fail)
      refine hC.out.mono ?_
      rintro e w3 ⟨rfl, rfl⟩
      go_wp2
      go_ret2
      rw [hR.out, hK.out]; exact ⟨none, 0, rfl, OW.nil _ _ _, hbb.out⟩
    · have hR : Hid (stepR ⟨op, d, a, b, m⟩ rs = stepL ⟨op, d, a, b, m⟩ rs) := by simp [Hid, stepR, hr, hg]
      have hK : Hid ((goodIn ⟨op, d, a, b, m⟩ && regsOk rs) = true) := by simp [Hid, hr, hg]
      have h6 := Lib.hid (regs_words hr)
      have h6' := Lib.hid (stepL_words hg (regs_words hr)).1
      rw [hr] at hC
      rw [show rs.length = 6 from h6.out.1] at hC ⊢
      obtain ⟨b', o', rfl, _, _⟩ := hE2.out.six h6.out.1
      clear hr hg
      go_wp2_with (fail)
      refine hC.out.mono ?_
      rintro e w3 ⟨rfl, rfl⟩
      go_wp2_with (fail)
      refine (cdStep_any ⟨op, d, a, b, m⟩ b' o' c rs L B _ hG.out h6.out hE2.out (by omega)).mono ?_
      rintro e w4 ⟨g4, c4, rfl, hg4, ho4, hb4⟩
      have hO4 := Lib.hid ho4
      have hbel4 := Lib.hid (hbb.out.trans (hb4.mono hz))
      clear ho4 hb4
      go_wp2
      go_ret2
      rw [hR.out, hK.out]
      exact own6_res h6'.out (by omega) hO4.out hbel4.out
end Go.Proofs.Ytmhdijklindipaa

namespace Go.Proofs.Ytmhdijklindipaa
open Go.RowKit
set_option linter.unusedVariables false
set_option maxRecDepth 100000

/-- The machine as a value. -/
def macV (rs : List Int) : Value := .agg (intCells rs)
theorem six_list {rs : List Int} (h : rs.length = 6) : ∃ a b c d e f, rs = [a, b, c, d, e, f] := by
  match rs, h with
  | [a, b, c, d, e, f], _ => exact ⟨a, b, c, d, e, f, rfl⟩
theorem IB.six {w : World} {g : Nat} {t : TypeId} {rs : List Int} (h : IB w g t rs) (h6 : rs.length = 6) : Six w g 0 rs := fun i hi => by
  rw [Nat.zero_add, h.cell i (by omega), List.getD_eq_getElem?_getD, List.getElem?_eq_getElem (by omega)]; rfl

theorem six_cells {w : World} {g : Nat} {t : TypeId} {a b c d e f : Value} (h : w.heap[g]? = some (.cells #[a, b, c, d, e, f] t (0, 0))) :
    (w.cell? ⟨g, 0, none⟩ = some a ∧ w.cell? ⟨g, 1, none⟩ = some b ∧ w.cell? ⟨g, 2, none⟩ = some c ∧ w.cell? ⟨g, 3, none⟩ = some d ∧ w.cell? ⟨g, 4, none⟩ = some e ∧ w.cell? ⟨g, 5, none⟩ = some f) ∧
    (w.frozen? ⟨g, 0, none⟩ = false ∧ w.frozen? ⟨g, 1, none⟩ = false ∧ w.frozen? ⟨g, 2, none⟩ = false ∧ w.frozen? ⟨g, 3, none⟩ = false ∧ w.frozen? ⟨g, 4, none⟩ = false ∧ w.frozen? ⟨g, 5, none⟩ = false) := by
  have hc := fun i => cell_of_row w g i #[a, b, c, d, e, f] t (0, 0) h
  have hf : ∀ i, w.frozen? ⟨g, i, none⟩ = false := fun i => by simp [World.frozen?, h]
  exact ⟨⟨hc 0, hc 1, hc 2, hc 3, hc 4, hc 5⟩, hf 0, hf 1, hf 2, hf 3, hf 4, hf 5⟩
set_option maxHeartbeats 1000000 in
theorem machineOf_any (b o c : Nat) (r0 r1 r2 r3 r4 r5 : Int) (w : World) (L B : Nat) (hI : IS w L B (some ⟨b, o, none⟩) [r0, r1, r2, r3, r4, r5]) (hB : B ≤ w.heap.size) :
    Calls Try.prog 139 #[.slice (some ⟨b, o, none⟩) 6 c] w fun e w' => e = .returned (.agg #[.int .i64 r0, .int .i64 r1, .int .i64 r2, .int .i64 r3, .int .i64 r4, .int .i64 r5]) ∧ Below w.heap.size w w' := by
  obtain ⟨o0, ho0⟩ : ∃ o0 : Obj, o0 = .cells #[.int .i64 0, .int .i64 0, .int .i64 0, .int .i64 0, .int .i64 0, .int .i64 0] 115 := ⟨_, rfl⟩
  have hnew : Hid (((w.alloc o0).alloc o0).heap[w.heap.size + 1]? = some (.cells (([0, 0, 0, 0, 0, 0] : List Int).map (Value.int .i64)).toArray 115 (0, 0))) := by
    have := heap_alloc_new (w.alloc o0) o0
    rw [show (w.alloc o0).heap.size = w.heap.size + 1 by simp] at this
    rw [Hid, this, ho0]; rfl
  have hold : Hid (((w.alloc o0).alloc o0).heap[w.heap.size]? = some (.cells #[.int .i64 0, .int .i64 0, .int .i64 0, .int .i64 0, .int .i64 0, .int .i64 0] 115 (0, 0))) := by
    have := Below.heap_alloc (w.alloc o0) o0 w.heap.size (by simp)
    rw [Hid, this, heap_alloc_new, ho0]
  have hb0 := Lib.hid (((Below.refl w.heap.size w).alloc (Nat.le_refl _) o0).alloc (by simp) o0)
  have hE2 := Lib.hid ((hI.below hb0.out hB).news (by simp))
  subst ho0
  have hsz : (Try.prog.info? 3).map (·.size) = some 1 := by kernel_rfl
  have hSZ := Lib.hid hsz
  clear hI hsz
  go_enter Try.func139, Try.ntmps139
  go_wp2_with (with_reducible refine wpList_copy_splice rfl (.tmp 4) (.tmp 5) 27 27 rfl 3 Try.underlying27 hSZ.out (some ⟨w.heap.size + 1, 0, none⟩) (some ⟨b, o, none⟩) 6 6 6 c rfl rfl (w.heap.size + 1) 0 (([0, 0, 0, 0, 0, 0] : List Int).map (Value.int .i64)) 115 hnew.out (([r0, r1, r2, r3, r4, r5] : List Int).map (Value.int .i64)) rfl (fun _ => ⟨rfl, hE2.out⟩) (by simp) (oneI _) (w.heap.size + 1) _ (Below.refl _ _) (by omega) ?_; intro w1 hw1 hbel1; obtain ⟨⟨d0, d1, d2, d3, d4, d5⟩, _⟩ := six_cells (show w1.heap[w.heap.size + 1]? = some (.cells #[.int .i64 r0, .int .i64 r1, .int .i64 r2, .int .i64 r3, .int .i64 r4, .int .i64 r5] 115 (0, 0)) from (by have := hw1.out; simpa [Go.splice] using this)); obtain ⟨⟨e0, e1, e2, e3, e4, e5⟩, f0, f1, f2, f3, f4, f5⟩ := six_cells ((hbel1.block w.heap.size (by omega)).trans hold.out))
  have hz0 : CB 115 w1 w.heap.size [.int .i64 0, .int .i64 0, .int .i64 0, .int .i64 0, .int .i64 0, .int .i64 0] := (hbel1.block w.heap.size (by omega)).trans hold.out
  have hz1 := CB.sets [.int .i64 r0, .int .i64 r1, .int .i64 r2, .int .i64 r3, .int .i64 r4, .int .i64 r5] 0 hz0
  have hb2 := Lib.hid (below_setCells (B := w.heap.size) [.int .i64 r0, .int .i64 r1, .int .i64 r2, .int .i64 r3, .int .i64 r4, .int .i64 r5] w.heap.size 0 (hb0.out.trans (hbel1.mono (by omega))) (Nat.le_refl _))
  obtain ⟨⟨g0, g1, g2, g3, g4, g5⟩, _⟩ := six_cells (show (setCells w1 w.heap.size 0 [.int .i64 r0, .int .i64 r1, .int .i64 r2, .int .i64 r3, .int .i64 r4, .int .i64 r5]).heap[w.heap.size]? = some (.cells #[.int .i64 r0, .int .i64 r1, .int .i64 r2, .int .i64 r3, .int .i64 r4, .int .i64 r5] 115 (0, 0)) from hz1)
  simp only [setCells, Nat.zero_add, Nat.reduceAdd] at g0 g1 g2 g3 g4 g5
  exact bodyPost_ret (v := .agg #[.int .i64 r0, .int .i64 r1, .int .i64 r2, .int .i64 r3, .int .i64 r4, .int .i64 r5]) (by simp [results, Try.results139, go_sem, g0, g1, g2, g3, g4, g5]) rfl ⟨rfl, hb2.out⟩
end Go.Proofs.Ytmhdijklindipaa

namespace Go.Proofs.Ytmhdijklindipaa
open Go.RowKit
set_option linter.unusedVariables false
set_option maxRecDepth 100000

def StepM (w : World) (g : Nat) (rs : List Int) (e : Ending) (w' : World) : Prop :=
  e = .returned (.tuple #[]) ∧ IB w' g 115 rs ∧ Chg g (g + 1) w w'
set_option maxHeartbeats 4000000 in
theorem stepM_any (x : In) (g : Nat) (rs : List Int) (w : World) (hx : goodIn x = true) (h6 : words6 rs) (hI : IB w g 115 rs) :
    Calls Try.prog 146 #[.pointer (some ⟨g, 0, none⟩), .agg #[.string x.op, .int .i64 x.d, .int .i64 x.a, .int .i64 x.b, .int .i64 x.m]] w (StepM w g (stepL x rs)) := by
  have hG := Lib.hid hx
  have hW := Lib.hid h6
  obtain ⟨hd, _⟩ := good_parts hx
  obtain ⟨op, d, a, b', m⟩ := x
  obtain ⟨nd, rfl⟩ := Int.eq_ofNat_of_zero_le hd.1
  have hb0 := Lib.hid ((Below.refl w.heap.size w).alloc (Nat.le_refl _) (.cells #[.string op, .int .i64 nd, .int .i64 a, .int .i64 b', .int .i64 m] 56))
  have hS : Hid (stepL ⟨op, nd, a, b', m⟩ rs = rs.set nd (vOf op m (rs.getD a.toNat 0) (rs.getD b'.toNat 0))) := rfl
  obtain ⟨y, hy⟩ : ∃ y, vOf op m (rs.getD a.toNat 0) (rs.getD b'.toNat 0) = y := ⟨_, rfl⟩
  have hV := Lib.hid (fun w' (h1 : g < w'.heap.size) (h2 : Six w' g 0 rs) => (show Calls Try.prog 238 #[.pointer (some ⟨g, 0, none⟩), .agg #[.string op, .int .i64 nd, .int .i64 a, .int .i64 b', .int .i64 m]] w' (fun e w'' => e = .returned (.int .i64 y) ∧ Below w'.heap.size w' w'') from by have := valueOf_any ⟨op, nd, a, b', m⟩ g rs w' hG.out hW.out h1 h2; simp only at this; rw [hy] at this; exact this))
  rw [hy] at hS
  clear hy
  have hgl := hI.lt
  have hM := Lib.hid (hI.below hb0.out hgl)
  have hlen := Lib.hid h6.1
  have hd' : nd < 6 := by simp only at hd; omega
  clear hI hx h6 hd
  go_enter Try.func146, Try.ntmps146
  go_wp2_with (fail)
  obtain ⟨w1, hw1⟩ : ∃ w1 : World, w1 = w.alloc (.cells #[.string op, .int .i64 nd, .int .i64 a, .int .i64 b', .int .i64 m] 56) := ⟨_, rfl⟩
  rw [← hw1] at hM hb0 ⊢
  obtain ⟨xa, xb, xc, xd, xe⟩ := In.old (x := ⟨op, nd, a, b', m⟩) (w2 := w1) (t := 56) rfl (by rw [hw1]; exact Below.refl _ _)
  have hz : w.heap.size < w1.heap.size := by rw [hw1]; simp
  have hz' : w1.heap.size = w.heap.size + 1 := by rw [hw1]; simp
  have hZ := Lib.hid hz'
  have hgz : g < w1.heap.size := by omega
  have hne : g ≠ w.heap.size := by omega
  clear hw1 hz'
  have i0 : (0 : Int) ≤ (nd : Int) := by omega
  have i1 : (nd : Int) < 6 := by omega
  have hS1 := Lib.hid (hM.out.six hlen.out)
  have hb1 := Lib.hid hgz
  go_region_with (go_at_call 238; refine (hV.out _ (by exact hb1.out) (by exact Six.heap rfl hS1.out)).mono ?_; rintro e w2 ⟨rfl, hb2⟩; have hb3 := Lib.hid ((Below.refl w1.heap.size w1).drew.trans hb2); have hM2 := Lib.hid (hM.out.below hb3.out hgz); have c1 := hM2.out.cell nd (by rw [hlen.out]; omega); have f1 := hM2.out.frozen nd; have xb2 := (hb3.out.cell (p := ⟨w.heap.size, 1, none⟩) hz).trans xb)
  all_goals
    have hfin := Lib.hid (hM2.out.set nd y)
    have hchg : Hid (Chg g (g + 1) w (w2.setCell ⟨g, nd, none⟩ (.int .i64 y))) := (Chg.ofBelow (hb0.out.trans (hb3.out.mono (by omega)))).setCell (p := ⟨g, nd, none⟩) (by simp) _
    go_wp2
    go_end0
    exact ⟨rfl, by rw [hS.out]; exact hfin.out, hchg.out⟩

theorem words_any (g : Nat) (rs : List Int) (w : World) (h6 : rs.length = 6) (hI : IB w g 115 rs) :
    Calls Try.prog 147 #[.pointer (some ⟨g, 0, none⟩)] w (Own6 w rs) := by
  have hC := Lib.hid ((CloneI_any g 0 6 rs g (g + 1) w (by omega) hI.toIS hI.lt).mono fun _ _ => own6_of h6)
  rw [h6] at hC
  clear hI
  go_enter Try.func147, Try.ntmps147
  go_wp2_with (fail)
  refine hC.out.mono ?_
  rintro e w1 ⟨g1, c1, rfl, hg1, ho1, hb1⟩
  have hO1 := Lib.hid ho1
  go_wp2
  go_ret
  exact ⟨g1, c1, rfl, hg1, hO1.out, hb1⟩
end Go.Proofs.Ytmhdijklindipaa

namespace Go.Proofs.Ytmhdijklindipaa
open Go.RowKit
set_option linter.unusedVariables false
set_option maxRecDepth 100000

set_option maxHeartbeats 4000000 in
theorem runSteps_any (L B : Nat) (A : Option Addr) (c : Nat) (es : List In) (g : Nat) (rs : List Int) (w : World) (hok : okCode es = true) (hes : RS In.enc 5 w L B A es) (hB : B ≤ g) (h6 : words6 rs) (hI : IB w g 115 rs) :
    Calls Try.prog 141 #[.slice A es.length c, .func (.func 146) #[.pointer (some ⟨g, 0, none⟩)] #[]] w (StepM w g (runL es rs)) := by
  have hl := okCode_len hok
  have hall := Lib.hid (okCode_all hok)
  have hE := Lib.hid hes
  have hBB := Lib.hid hB
  have hH6 := Lib.hid h6
  have hM0 := Lib.hid hI
  have hgl := hI.lt
  have hc0 := Lib.hid (Chg.refl g (g + 1) w)
  clear hes hB hok h6 hI
  go_enter Try.func141, Try.ntmps141
  go_wp2
  go_loopw [8] (fun i wr => ∃ k : Nat, k ≤ es.length ∧ i = .int .i64 k ∧ IB wr g 115 (runL (es.take k) rs) ∧ Chg g (g + 1) w wr) (fun i _ => es.length - (intOf i).toNat)
  case atStart => exact ⟨0, Nat.zero_le _, rfl, hM0.out, hc0.out⟩
  case round =>
    obtain ⟨k, hk, rfl, hib, hchg⟩ := hrel
    have hM := Lib.hid hib
    have hgw := hib.lt
    have hCh := Lib.hid hchg
    clear hib
    by_cases hlt : k < es.length
    · obtain ⟨b, o, rfl, ⟨_, hbB⟩, hc⟩ := In.cells (hE.out.chg hchg (Nat.le_of_lt (Nat.lt_of_le_of_lt hBB.out hgl)) (.inl hBB.out)) (by omega)
      obtain ⟨d1, d2, d3, d4, d5⟩ := hc k hlt
      clear hc hchg
      have hx := Lib.hid (hall.out _ (List.getElem_mem hlt))
      have hS := Lib.hid (runL_snoc (rs := rs) hlt)
      have hW := Lib.hid (runL_words_take hall.out hH6.out k)
      generalize es[k] = nd at *
      obtain ⟨op, d, a, bb, m⟩ := nd
      have hM2 := fun o => Lib.hid (hM.out.below ((Below.refl wr.heap.size wr).alloc (Nat.le_refl _) o) hgw)
      have hC2 := fun o => Lib.hid (hCh.out.alloc o)
      go_wp2_with (fail)
      refine (stepM_any ⟨op, d, a, bb, m⟩ g _ _ hx.out hW.out (hM2 _).out).mono ?_
      rintro e w3 ⟨rfl, hm3, hc3⟩
      have hM3 := Lib.hid hm3
      have hC3 := Lib.hid ((hC2 _).out.trans hc3)
      clear hm3 hc3 d1 d2 d3 d4 d5
      go_wp2
      go_roundw
      case rel => exact ⟨k + 1, by omega, by go_num, by rw [hS.out]; exact hM3.out, hC3.out⟩
      case measure => simp [intOf]; omega
    · obtain rfl : k = es.length := by omega
      clear hchg
      go_wp2
      go_end0
      exact ⟨rfl, by have := hM.out; rwa [List.take_length] at this, hCh.out⟩

set_option maxHeartbeats 4000000 in
theorem iRunCode_any (L B : Nat) (A : Option Addr) (c : Nat) (es : List In) (L' B' : Nat) (A' : Option Addr) (c' : Nat) (rs : List Int) (w : World) (hl : es.length ≤ 1048576) (hes : RS In.enc 5 w L B A es) (hB : B ≤ w.heap.size) (hl' : rs.length ≤ 1048576) (hI : IS w L' B' A' rs) (hB' : B' ≤ w.heap.size) :
    Calls Try.prog 34 #[.slice A es.length c, .slice A' rs.length c'] w (ResRunCode (runR es rs) (okCode es && regsOk rs) w) := by
  have H := Lib.hid (IsCode_any L B A c es w hl hes hB)
  have hE := Lib.hid hes
  have hE' := Lib.hid hI
  have hBB := Lib.hid hB
  have hBB' := Lib.hid hB'
  clear hes hI hB hB'
  go_enter Try.func34, Try.ntmps34
  go_wp2_with (fail)
  refine H.out.mono ?_
  rintro e w2 ⟨rfl, hb⟩
  have hbb := Lib.hid hb
  have hz := hb.size
  have hE2' := Lib.hid (hE'.out.below hb hBB'.out)
  have hE2 := Lib.hid (hE.out.below hb hBB.out)
  clear hb
  cases hg : okCode es
  · have hR : Hid (runR es rs = []) := by simp [Hid, runR, hg]
    have hK : Hid ((okCode es && regsOk rs) = false) := by simp [Hid, hg]
    go_wp2
    go_ret2
    rw [hR.out, hK.out]; exact ⟨none, 0, rfl, OW.nil _ _ _, hbb.out⟩
  · have hG := Lib.hid hg
    have hC := Lib.hid (areWords_any L' B' A' c' rs w2 hl' hE2'.out)
    cases hr : regsOk rs
    · have hR : Hid (runR es rs = []) := by simp [Hid, runR, hr]
      have hK : Hid ((okCode es && regsOk rs) = false) := by simp [Hid, hr]
      rw [hr] at hC
      go_wp2_with (fail)
      refine hC.out.mono ?_
      rintro e w3 ⟨rfl, rfl⟩
      go_wp2
      go_ret2
      rw [hR.out, hK.out]; exact ⟨none, 0, rfl, OW.nil _ _ _, hbb.out⟩
    · have hR : Hid (runR es rs = runL es rs) := by simp [Hid, runR, hr, hg]
      have hK : Hid ((okCode es && regsOk rs) = true) := by simp [Hid, hr, hg]
      have h6 := regs_words hr
      have hW := Lib.hid h6
      have hrl := Lib.hid (runL_words (okCode_all hg) h6).1
      rw [hr] at hC
      obtain ⟨b', o', rfl, _, _⟩ := hE2'.out.six h6.1
      obtain ⟨r0, r1, r2, r3, r4, r5, rfl⟩ := six_list h6.1
      clear hr hg h6
      go_wp2_with (fail)
      refine hC.out.mono ?_
      rintro e w3 ⟨rfl, rfl⟩
      go_wp2_with (fail)
      refine (machineOf_any b' o' c' r0 r1 r2 r3 r4 r5 _ L' B' hE2'.out (by have := hBB'.out; omega)).mono ?_
      rintro e w4 ⟨rfl, hb4⟩
      have hz4 := hb4.size
      have hE4 := Lib.hid (hE2.out.below hb4 (by have := hBB.out; omega))
      have hbel4 := Lib.hid (hbb.out.trans (hb4.mono hz))
      clear hb4
      have hbel5 := fun o => Lib.hid (hbel4.out.alloc hbel4.out.size o)
      have hE5 := fun o => Lib.hid (hE4.out.below ((Below.refl w4.heap.size w4).alloc (Nat.le_refl _) o) (by have := hBB.out; omega))
      go_wp2_with (fail)
      refine (runSteps_any L B A c es w4.heap.size [r0, r1, r2, r3, r4, r5] _ hG.out (hE5 _).out (by have := hBB.out; omega) hW.out (heap_alloc_new w4 _)).mono ?_
      rintro e w5 ⟨rfl, hm5, hc5⟩
      have hbel6 := Lib.hid (below_chg (hbel5 _).out hc5 (by simp; omega) (by omega))
      have hM5 := Lib.hid hm5
      have hz5 := hc5.size
      simp at hz5
      clear hc5 hm5
      go_wp2_with (fail)
      refine (words_any w4.heap.size _ _ hrl.out hM5.out).mono ?_
      rintro e w6 ⟨g6, c6, rfl, hg6, ho6, hb6⟩
      have hO6 := Lib.hid ho6
      have hbel7 := Lib.hid (hbel6.out.trans (hb6.mono (by omega)))
      clear ho6 hb6
      go_wp2
      go_ret2
      rw [hR.out, hK.out]
      exact own6_res hrl.out (by omega) hO6.out hbel7.out

theorem okCode_one (x : In) : okCode [x] = goodIn x := by simp [okCode]
theorem runR_one (x : In) (rs : List Int) : runR [x] rs = stepR x rs := by simp only [runR, stepR, okCode_one]; rfl
/-- One instruction in a new slice. -/
theorem one_slice {w : World} {t : TypeId} (x : In) : RS In.enc 5 (w.alloc (.cells #[.string x.op, .int .i64 x.d, .int .i64 x.a, .int .i64 x.b, .int .i64 x.m] t)) w.heap.size (w.heap.size + 1) (some ⟨w.heap.size, 0, none⟩) [x] := In.boxed x
set_option maxHeartbeats 4000000 in
theorem iStepInstr_any (x : In) (L B : Nat) (A : Option Addr) (c : Nat) (rs : List Int) (w : World) (hl : rs.length ≤ 1048576) (hI : IS w L B A rs) (hB : B ≤ w.heap.size) :
    Calls Try.prog 37 #[.agg #[.string x.op, .int .i64 x.d, .int .i64 x.a, .int .i64 x.b, .int .i64 x.m], .slice A rs.length c] w (ResStepInstr (stepR x rs) (goodIn x && regsOk rs) w) := by
  have hE := Lib.hid hI
  have hC := fun (L0 B0 : Nat) (A0 : Option Addr) (c0 : Nat) (w' : World) (h0 : RS In.enc 5 w' L0 B0 A0 [x]) (hB0 : B0 ≤ w'.heap.size) (hI' : IS w' L B A rs) (hB' : B ≤ w'.heap.size) => iRunCode_any L0 B0 A0 c0 [x] L B A c rs w' (by simp) h0 hB0 hl hI' hB'
  simp only [runR_one, okCode_one, List.length_singleton] at hC
  have hCC := Lib.hid hC
  obtain ⟨op, d, a, b, m⟩ := x
  obtain ⟨o, ho⟩ : ∃ o : Obj, o = .cells #[.string op, .int .i64 d, .int .i64 a, .int .i64 b, .int .i64 m] 56 := ⟨_, rfl⟩
  have hone : Hid (RS In.enc 5 ((w.alloc o).alloc o) (w.heap.size + 1) (w.heap.size + 2) (some ⟨w.heap.size + 1, 0, none⟩) [⟨op, d, a, b, m⟩]) := by
    have := In.boxed (w := w.alloc o) (t := 56) ⟨op, d, a, b, m⟩
    rw [show (w.alloc o).heap.size = w.heap.size + 1 by simp] at this
    rw [Hid]; subst ho; exact this
  have hb0 := Lib.hid (((Below.refl w.heap.size w).alloc (Nat.le_refl _) o).alloc (by simp) o)
  have hE2 := Lib.hid (hE.out.below hb0.out hB)
  subst ho
  clear hI hC
  go_enter Try.func37, Try.ntmps37
  go_wp2_with (fail)
  refine (hCC.out (w.heap.size + 1) (w.heap.size + 2) (some ⟨w.heap.size + 1, 0, none⟩) 1 _ hone.out (by simp) hE2.out (by simp; omega)).mono ?_
  rintro e w1 ⟨A1, c1, rfl, ho1, hb1⟩
  have hO1 := Lib.hid (ho1.lower (show w.heap.size ≤ _ by simp; omega))
  have hbel1 := Lib.hid (hb0.out.trans (hb1.mono (by simp; omega)))
  clear ho1 hb1
  go_wp2
  go_ret2
  exact ⟨A1, c1, rfl, hO1.out, hbel1.out⟩
end Go.Proofs.Ytmhdijklindipaa

namespace Go.Proofs.Ytmhdijklindipaa
open Go.RowKit
set_option linter.unusedVariables false
set_option maxRecDepth 100000

def resOk (es : List In) (x0 x1 r : Int) : Bool := okCode es && isW x0 && isW x1 && reg r
def resR (es : List In) (x0 x1 r : Int) : Int := if resOk es x0 x1 r = true then (runL es [x0, x1, 0, 0, 0, 0]).getD r.toNat 0 else 0
theorem start_words {x0 x1 : Int} (h0 : isW x0 = true) (h1 : isW x1 = true) : words6 [x0, x1, 0, 0, 0, 0] := by
  have a : inR x0 0 63 = true := h0
  have b : inR x1 0 63 = true := h1
  have z : inR 0 0 63 = true := by decide
  exact ⟨rfl, by simp [a, b, z]⟩
theorem cdStart_any (x0 x1 : Int) (w : World) :
    Calls Try.prog 152 #[.int .i64 x0, .int .i64 x1] w fun e w' => e = .returned (.slice (some ⟨w.heap.size, 0, none⟩) 6 6) ∧ IB w' w.heap.size 3 [x0, x1, 0, 0, 0, 0] ∧ Below w.heap.size w w' := by
  have hmk : (Instr.makeSlice 27 (.int .i64 6) (.int .i64 6)).run Try.prog w = .ok (.slice (some ⟨w.heap.size, 0, none⟩) 6 6) (w.alloc (.cells (intCells [0, 0, 0, 0, 0, 0]) 3)) := run_make_ints 6 (by omega) w
  have hi0 : IB (w.alloc (.cells (intCells [0, 0, 0, 0, 0, 0]) 3)) w.heap.size 3 [0, 0, 0, 0, 0, 0] := heap_alloc_new w _
  have hI0 := Lib.hid hi0
  have c0 := hi0.cell 0 (by simp)
  have f0 := hi0.frozen 0
  have c1 := (hi0.set 0 x0).cell 1 (by simp)
  have f1 := (hi0.set 0 x0).frozen 1
  have hI2 := Lib.hid ((hi0.set 0 x0).set 1 x1)
  have hB := Lib.hid ((((Below.refl w.heap.size w).alloc (Nat.le_refl _) (.cells (intCells [0, 0, 0, 0, 0, 0]) 3)).setCell (p := ⟨w.heap.size, 0, none⟩) (Nat.le_refl _) (.int .i64 x0)).setCell (p := ⟨w.heap.size, 1, none⟩) (Nat.le_refl _) (.int .i64 x1))
  clear hi0
  go_enter Try.func152, Try.ntmps152
  go_wp2
  go_ret
  exact ⟨rfl, heap_alloc_new w _, (Below.refl _ _).alloc (Nat.le_refl _) _⟩

set_option maxHeartbeats 4000000 in
theorem sRunCode_any (L B : Nat) (A : Option Addr) (c : Nat) (es : List In) (L' B' : Nat) (A' : Option Addr) (c' : Nat) (rs : List Int) (w : World) (hl : es.length ≤ 1048576) (hes : RS In.enc 5 w L B A es) (hB : B ≤ w.heap.size) (hl' : rs.length ≤ 1048576) (hI : IS w L' B' A' rs) (hB' : B' ≤ w.heap.size) :
    Calls Try.prog 35 #[.slice A es.length c, .slice A' rs.length c'] w (ResRunCode (runR es rs) (okCode es && regsOk rs) w) := by
  have H := Lib.hid (cdCode_any L B A c es w hl hes hB)
  have hE := Lib.hid hes
  have hE' := Lib.hid hI
  have hBB := Lib.hid hB
  have hBB' := Lib.hid hB'
  clear hes hI hB hB'
  go_enter Try.func35, Try.ntmps35
  go_wp2_with (fail)
  refine H.out.mono ?_
  rintro e w2 ⟨rfl, hb⟩
  have hbb := Lib.hid hb
  have hz := hb.size
  have hE2' := Lib.hid (hE'.out.below hb hBB'.out)
  have hE2 := Lib.hid (hE.out.below hb hBB.out)
  clear hb
  cases hg : okCode es
  · have hR : Hid (runR es rs = []) := by simp [Hid, runR, hg]
    have hK : Hid ((okCode es && regsOk rs) = false) := by simp [Hid, hg]
    go_wp2
    go_ret2
    rw [hR.out, hK.out]; exact ⟨none, 0, rfl, OW.nil _ _ _, hbb.out⟩
  · have hG := Lib.hid hg
    have hC := Lib.hid (cdRegs_any L' B' A' c' rs w2 hl' hE2'.out)
    cases hr : regsOk rs
    · have hR : Hid (runR es rs = []) := by simp [Hid, runR, hr]
      have hK : Hid ((okCode es && regsOk rs) = false) := by simp [Hid, hr]
      rw [hr] at hC
      go_wp2_with (fail)
      refine hC.out.mono ?_
      rintro e w3 ⟨rfl, rfl⟩
      go_wp2
      go_ret2
      rw [hR.out, hK.out]; exact ⟨none, 0, rfl, OW.nil _ _ _, hbb.out⟩
    · have hR : Hid (runR es rs = runL es rs) := by simp [Hid, runR, hr, hg]
      have hK : Hid ((okCode es && regsOk rs) = true) := by simp [Hid, hr, hg]
      have h6 := regs_words hr
      have hW := Lib.hid h6
      have hrl := Lib.hid (runL_words (okCode_all hg) h6).1
      rw [hr] at hC
      rw [show rs.length = 6 from h6.1] at hC ⊢
      obtain ⟨b', o', rfl, _, _⟩ := hE2'.out.six h6.1
      clear hr hg h6
      go_wp2_with (fail)
      refine hC.out.mono ?_
      rintro e w3 ⟨rfl, rfl⟩
      go_wp2_with (fail)
      refine (cdRun_any L B A c es b' o' c' rs L' B' _ hG.out hE2.out (by have := hBB.out; omega) hW.out hE2'.out (by have := hBB'.out; omega)).mono ?_
      rintro e w6 ⟨g6, c6, rfl, hg6, ho6, hb6⟩
      have hO6 := Lib.hid ho6
      have hbel7 := Lib.hid (hbb.out.trans (hb6.mono (by omega)))
      clear ho6 hb6
      go_wp2
      go_ret2
      rw [hR.out, hK.out]
      exact own6_res hrl.out (by omega) hO6.out hbel7.out

set_option maxHeartbeats 4000000 in
theorem sResultOf_any (L B : Nat) (A : Option Addr) (c : Nat) (es : List In) (x0 x1 r : Int) (w : World) (hl : es.length ≤ 1048576) (hes : RS In.enc 5 w L B A es) (hB : B ≤ w.heap.size) :
    Calls Try.prog 40 #[.slice A es.length c, .int .i64 x0, .int .i64 x1, .int .i64 r] w (ResResultOf (resR es x0 x1 r) (resOk es x0 x1 r) w) := by
  have H := Lib.hid (cdCode_any L B A c es w hl hes hB)
  have hE := Lib.hid hes
  have hBB := Lib.hid hB
  clear hes hB
  go_enter Try.func40, Try.ntmps40
  go_wp2_with (fail)
  refine H.out.mono ?_
  rintro e w2 ⟨rfl, hb⟩
  have hbb := Lib.hid hb
  have hz := hb.size
  have hE2 := Lib.hid (hE.out.below hb hBB.out)
  clear hb
  cases h0 : okCode es
  · have hK : Hid (resOk es x0 x1 r = false) := by simp [Hid, resOk, h0]
    have hR : Hid (resR es x0 x1 r = 0) := by simp [Hid, resR, hK.out]
    go_wp2_with (first | (go_at_call 118; refine (exWord_w _ _).mono ?_; rintro e w' ⟨rfl, rfl⟩) | (go_at_call 151; refine (cdReg_any _ _).mono ?_; rintro e w' ⟨rfl, rfl⟩))
    go_ret2
    rw [hR.out, hK.out]; exact ⟨rfl, hbb.out⟩
  cases h1 : isW x0
  · have hK : Hid (resOk es x0 x1 r = false) := by simp [Hid, resOk, h0, h1]
    have hR : Hid (resR es x0 x1 r = 0) := by simp [Hid, resR, hK.out]
    go_wp2_with (first | (go_at_call 118; refine (exWord_w _ _).mono ?_; rintro e w' ⟨rfl, rfl⟩) | (go_at_call 151; refine (cdReg_any _ _).mono ?_; rintro e w' ⟨rfl, rfl⟩))
    go_ret2
    rw [hR.out, hK.out]; exact ⟨rfl, hbb.out⟩
  cases h2 : isW x1
  · have hK : Hid (resOk es x0 x1 r = false) := by simp [Hid, resOk, h0, h1, h2]
    have hR : Hid (resR es x0 x1 r = 0) := by simp [Hid, resR, hK.out]
    go_wp2_with (first | (go_at_call 118; refine (exWord_w _ _).mono ?_; rintro e w' ⟨rfl, rfl⟩) | (go_at_call 151; refine (cdReg_any _ _).mono ?_; rintro e w' ⟨rfl, rfl⟩))
    go_ret2
    rw [hR.out, hK.out]; exact ⟨rfl, hbb.out⟩
  cases h3 : reg r
  · have hK : Hid (resOk es x0 x1 r = false) := by simp [Hid, resOk, h0, h1, h2, h3]
    have hR : Hid (resR es x0 x1 r = 0) := by simp [Hid, resR, hK.out]
    go_wp2_with (first | (go_at_call 118; refine (exWord_w _ _).mono ?_; rintro e w' ⟨rfl, rfl⟩) | (go_at_call 151; refine (cdReg_any _ _).mono ?_; rintro e w' ⟨rfl, rfl⟩))
    go_ret2
    rw [hR.out, hK.out]; exact ⟨rfl, hbb.out⟩
  have hK : Hid (resOk es x0 x1 r = true) := by simp [Hid, resOk, h0, h1, h2, h3]
  have hR : Hid (resR es x0 x1 r = (runL es [x0, x1, 0, 0, 0, 0]).getD r.toNat 0) := by simp [Hid, resR, hK.out]
  have hW := Lib.hid (start_words h1 h2)
  have hG := Lib.hid h0
  have hrl := Lib.hid (runL_words (okCode_all h0) hW.out).1
  obtain ⟨hr0, hr1⟩ := (inR_iff _ _ _).1 h3
  obtain ⟨nr, rfl⟩ := Int.eq_ofNat_of_zero_le hr0
  simp only [Int.toNat_natCast] at hR
  have hc1 := h1
  have hc2 := h2
  have hc3 := h3
  clear h0 hr0
  go_wp2_with (first | (go_at_call 118; refine (exWord_w _ _).mono ?_; rintro e w' ⟨rfl, rfl⟩) | (go_at_call 151; refine (cdReg_any _ _).mono ?_; rintro e w' ⟨rfl, rfl⟩))
  clear h1 h2 h3 hc1 hc2 hc3
  refine (cdStart_any x0 x1 _).mono ?_
  rintro e w3 ⟨rfl, hst, hb3⟩
  have hz3 := hb3.size
  have hE3 := Lib.hid (hE2.out.below hb3 (by have := hBB.out; omega))
  have hbel3 := Lib.hid (hbb.out.trans (hb3.mono hz))
  have hst' := Lib.hid hst
  have hlt3 := hst.lt
  clear hb3 hst
  go_wp2_with (fail)
  refine (cdRun_any L B A c es w2.heap.size 0 6 [x0, x1, 0, 0, 0, 0] w2.heap.size (w2.heap.size + 1) _ hG.out hE3.out (by have := hBB.out; omega) hW.out hst'.out.toIS (by omega)).mono ?_
  rintro e w4 ⟨g4, c4, rfl, hg4, ho4, hb4⟩
  have hbel4 := Lib.hid (hbel3.out.trans (hb4.mono (by omega)))
  have d1 := ho4.at6 nr (by rw [hrl.out]; omega)
  generalize (runL es [x0, x1, 0, 0, 0, 0]).getD nr 0 = y at d1 hR
  clear ho4 hb4
  have i0 : (0 : Int) ≤ (nr : Int) := by omega
  have i1 : (nr : Int) < 6 := by omega
  go_wp2
  go_ret2
  rw [hR.out, hK.out]; exact ⟨rfl, hbel4.out⟩

set_option maxHeartbeats 4000000 in
theorem iResultOf_any (L B : Nat) (A : Option Addr) (c : Nat) (es : List In) (x0 x1 r : Int) (w : World) (hl : es.length ≤ 1048576) (hes : RS In.enc 5 w L B A es) (hB : B ≤ w.heap.size) :
    Calls Try.prog 39 #[.slice A es.length c, .int .i64 x0, .int .i64 x1, .int .i64 r] w (ResResultOf (resR es x0 x1 r) (resOk es x0 x1 r) w) := by
  have H := Lib.hid (IsCode_any L B A c es w hl hes hB)
  have hE := Lib.hid hes
  have hBB := Lib.hid hB
  clear hes hB
  go_enter Try.func39, Try.ntmps39
  go_wp2_with (fail)
  refine H.out.mono ?_
  rintro e w2 ⟨rfl, hb⟩
  have hbb := Lib.hid hb
  have hz := hb.size
  have hE2 := Lib.hid (hE.out.below hb hBB.out)
  clear hb
  cases h0 : okCode es
  · have hK : Hid (resOk es x0 x1 r = false) := by simp [Hid, resOk, h0]
    have hR : Hid (resR es x0 x1 r = 0) := by simp [Hid, resR, hK.out]
    go_wp2_with (first | (go_at_call 115; refine (isWord_any _ _).mono ?_; rintro e w' ⟨rfl, rfl⟩) | (go_at_call 150; refine (isRegister_any _ _).mono ?_; rintro e w' ⟨rfl, rfl⟩))
    go_ret2
    rw [hR.out, hK.out]; exact ⟨rfl, hbb.out⟩
  cases h1 : isW x0
  · have hK : Hid (resOk es x0 x1 r = false) := by simp [Hid, resOk, h0, h1]
    have hR : Hid (resR es x0 x1 r = 0) := by simp [Hid, resR, hK.out]
    go_wp2_with (first | (go_at_call 115; refine (isWord_any _ _).mono ?_; rintro e w' ⟨rfl, rfl⟩) | (go_at_call 150; refine (isRegister_any _ _).mono ?_; rintro e w' ⟨rfl, rfl⟩))
    go_ret2
    rw [hR.out, hK.out]; exact ⟨rfl, hbb.out⟩
  cases h2 : isW x1
  · have hK : Hid (resOk es x0 x1 r = false) := by simp [Hid, resOk, h0, h1, h2]
    have hR : Hid (resR es x0 x1 r = 0) := by simp [Hid, resR, hK.out]
    go_wp2_with (first | (go_at_call 115; refine (isWord_any _ _).mono ?_; rintro e w' ⟨rfl, rfl⟩) | (go_at_call 150; refine (isRegister_any _ _).mono ?_; rintro e w' ⟨rfl, rfl⟩))
    go_ret2
    rw [hR.out, hK.out]; exact ⟨rfl, hbb.out⟩
  cases h3 : reg r
  · have hK : Hid (resOk es x0 x1 r = false) := by simp [Hid, resOk, h0, h1, h2, h3]
    have hR : Hid (resR es x0 x1 r = 0) := by simp [Hid, resR, hK.out]
    go_wp2_with (first | (go_at_call 115; refine (isWord_any _ _).mono ?_; rintro e w' ⟨rfl, rfl⟩) | (go_at_call 150; refine (isRegister_any _ _).mono ?_; rintro e w' ⟨rfl, rfl⟩))
    go_ret2
    rw [hR.out, hK.out]; exact ⟨rfl, hbb.out⟩
  have hK : Hid (resOk es x0 x1 r = true) := by simp [Hid, resOk, h0, h1, h2, h3]
  have hR : Hid (resR es x0 x1 r = (runL es [x0, x1, 0, 0, 0, 0]).getD r.toNat 0) := by simp [Hid, resR, hK.out]
  have hW := Lib.hid (start_words h1 h2)
  have hG := Lib.hid h0
  have hrl := Lib.hid (runL_words (okCode_all h0) hW.out).1
  obtain ⟨hr0, hr1⟩ := (inR_iff _ _ _).1 h3
  obtain ⟨nr, rfl⟩ := Int.eq_ofNat_of_zero_le hr0
  simp only [Int.toNat_natCast] at hR
  have hc1 := h1
  have hc2 := h2
  have hc3 := h3
  clear h0 hr0
  have hbel3 := fun o => Lib.hid (hbb.out.alloc hz o)
  have hE3 := fun o => Lib.hid (hE2.out.below ((Below.refl w2.heap.size w2).alloc (Nat.le_refl _) o) (by have := hBB.out; omega))
  go_wp2_with (first | (go_at_call 115; refine (isWord_any _ _).mono ?_; rintro e w' ⟨rfl, rfl⟩) | (go_at_call 150; refine (isRegister_any _ _).mono ?_; rintro e w' ⟨rfl, rfl⟩))
  clear h1 h2 h3 hc1 hc2 hc3
  refine (runSteps_any L B A c es w2.heap.size [x0, x1, 0, 0, 0, 0] _ hG.out (hE3 _).out (by have := hBB.out; omega) hW.out (heap_alloc_new w2 _)).mono ?_
  rintro e w5 ⟨rfl, hm5, hc5⟩
  have hbel6 := Lib.hid (below_chg (hbel3 _).out hc5 (by simp; omega) (by omega))
  have d1 : w5.cell? ⟨w2.heap.size, nr, none⟩ = some (.int .i64 ((runL es [x0, x1, 0, 0, 0, 0]).getD nr 0)) := by have := hm5.six hrl.out nr (by omega); rwa [Nat.zero_add] at this
  generalize (runL es [x0, x1, 0, 0, 0, 0]).getD nr 0 = y at d1 hR
  clear hm5 hc5
  have i0 : (0 : Int) ≤ (nr : Int) := by omega
  have i1 : (nr : Int) < 6 := by omega
  go_wp2
  go_ret2
  rw [hR.out, hK.out]; exact ⟨rfl, hbel6.out⟩
end Go.Proofs.Ytmhdijklindipaa

/- TraceOf: plain, and the model. -/
namespace Go.Proofs.Ytmhdijklindipaa
open Go.RowKit
set_option linter.unusedVariables false
set_option maxRecDepth 100000

def trL (es : List In) (rs : List Int) (k : Nat) : List (List Int) := (List.range (k + 1)).map fun i => runL (es.take i) rs
theorem trL_len (es : List In) (rs : List Int) (k : Nat) : (trL es rs k).length = k + 1 := by simp [trL]
theorem trL_zero (es : List In) (rs : List Int) : trL es rs 0 = [rs] := rfl
theorem trL_succ (es : List In) (rs : List Int) (k : Nat) : trL es rs (k + 1) = trL es rs k ++ [runL (es.take (k + 1)) rs] := by
  unfold trL; rw [List.range_succ, List.map_append]; rfl
theorem trL_last (es : List In) (rs : List Int) (k : Nat) (h : k < (trL es rs k).length) : (trL es rs k)[k] = runL (es.take k) rs := by simp [trL]
def trOk (es : List In) (rs : List Int) : Bool := okCode es && regsOk rs
def trR (es : List In) (rs : List Int) : List (List Int) := if trOk es rs = true then trL es rs es.length else []
theorem trOk_no1 {es : List In} (rs : List Int) (h : okCode es = false) : trOk es rs = false ∧ trR es rs = [] := by
  have h1 : trOk es rs = false := by unfold trOk; rw [h]; rfl
  exact ⟨h1, by unfold trR; rw [h1]; rfl⟩
theorem trOk_no2 (es : List In) {rs : List Int} (h : regsOk rs = false) : trOk es rs = false ∧ trR es rs = [] := by
  have h1 : trOk es rs = false := by unfold trOk; rw [h]; simp
  exact ⟨h1, by unfold trR; rw [h1]; rfl⟩
theorem trOk_yes {es : List In} {rs : List Int} (h1 : okCode es = true) (h2 : regsOk rs = true) : trOk es rs = true ∧ trR es rs = trL es rs es.length := by
  have h3 : trOk es rs = true := by unfold trOk; rw [h1, h2]; rfl
  exact ⟨h3, by unfold trR; rw [if_pos h3]⟩
theorem regsOk_words {rs : List Int} (h : regsOk rs = true) : words6 rs := by
  unfold regsOk at h
  rw [Bool.and_eq_true] at h
  exact ⟨by simpa using h.1, h.2⟩
theorem trR_small (es : List In) (rs : List Int) : SmallX (trR es rs) := by
  unfold trR
  split
  · rename_i h
    unfold trOk at h
    rw [Bool.and_eq_true] at h
    have h1 := okCode_len h.1
    have h6 := regsOk_words h.2
    have hall := okCode_all h.1
    have hs : ∀ k, ((trL es rs k).map List.length).sum = 6 * (k + 1) := by
      intro k
      induction k with
      | zero => simp [trL_zero, h6.1]
      | succ k ih => rw [trL_succ, List.map_append, List.sum_append, ih]; simp [(runL_words_take hall h6 (k + 1)).1]; omega
    exact ⟨by rw [trL_len]; omega, by rw [hs]; omega⟩
  · exact ⟨by simp, by simp⟩

set_option maxHeartbeats 4000000 in
theorem sTraceOf_k (L B : Nat) (A : Option Addr) (c : Nat) (es : List In) (L' B' : Nat) (A' : Option Addr) (c' : Nat) (rs : List Int) (w : World) (hl : es.length ≤ 1048576) (hes : RS In.enc 5 w L B A es) (hB : B ≤ w.heap.size) (hn : rs.length ≤ 1048576) (hns : IS w L' B' A' rs) (hB' : B' ≤ w.heap.size) :
    Calls Try.prog 33 #[.slice A es.length c, .slice A' rs.length c'] w (ResTraceOf (trR es rs) (trOk es rs) w) := by
  have H := Lib.hid (cdCode_any L B A c es w hl hes hB)
  cases hk : okCode es
  · have hR := Lib.hid (trOk_no1 rs hk)
    rw [hk] at H
    clear hk hes hns
    go_enter Try.func33, Try.ntmps33
    go_wp2_with (fail)
    refine H.out.mono ?_
    rintro e w1 ⟨rfl, hb1⟩
    have hbh := Lib.hid hb1
    clear hb1
    go_wp2
    go_ret2
    rw [hR.out.1, hR.out.2]
    exact ⟨none, 0, rfl, OX.nil _ _ _, hbh.out⟩
  have H2 := Lib.hid fun (W : World) (hW : Below w.heap.size w W) => cdRegs_any L' B' A' c' rs W hn (hns.below hW hB')
  cases hr : regsOk rs
  · have hR := Lib.hid (trOk_no2 es hr)
    rw [hk] at H
    rw [hr] at H2
    clear hk hr hes hns
    go_enter Try.func33, Try.ntmps33
    go_wp2_with (fail)
    refine H.out.mono ?_
    rintro e w1 ⟨rfl, hb1⟩
    have hbh := Lib.hid hb1
    clear hb1
    go_wp2_with (fail)
    refine (H2.out _ hbh.out).mono ?_
    rintro e w2 ⟨rfl, rfl⟩
    go_wp2
    go_ret2
    rw [hR.out.1, hR.out.2]
    exact ⟨none, 0, rfl, OX.nil _ _ _, hbh.out⟩
  have hR := Lib.hid (trOk_yes hk hr)
  have h6 := regsOk_words hr
  have hall := Lib.hid (okCode_all hk)
  have hl40 := okCode_len hk
  have hW6 := Lib.hid fun (k : Nat) => runL_words_take hall.out h6 k
  have hRs := Lib.hid fun (k : Nat) (h : k < es.length) => runL_snoc (rs := rs) h
  have hTs := Lib.hid (trL_succ es rs)
  have hTl := Lib.hid (trL_len es rs)
  have hTa := Lib.hid (trL_last es rs)
  have hT0 := Lib.hid (trL_zero es rs)
  have H3 := Lib.hid fun (W : World) (hW : Below w.heap.size w W) => l1Own_any L' B' A' c' rs W hn (hns.below hW hB') (Nat.le_trans hB' hW.size)
  have hE := Lib.hid fun (W : World) (hW : Below w.heap.size w W) => hes.below hW hB
  have hBB := Lib.hid hB
  rw [hk] at H
  rw [hr] at H2
  clear hk hr hes hns hB hB'
  generalize trL es rs = T at *
  obtain ⟨i0, hi', hz0', hz1', hz2'⟩ := info_parts Try.infoII
  have hJ0 := Lib.hid hi'
  have hJ1 := Lib.hid hz0'
  have hJ2 := Lib.hid hz1'
  have hJ3 := Lib.hid hz2'
  clear hi' hz0' hz1' hz2'
  go_enter Try.func33, Try.ntmps33
  go_wp2_with (fail)
  refine H.out.mono ?_
  rintro e w1 ⟨rfl, hb1⟩
  have hbh := Lib.hid hb1
  clear hb1
  go_wp2_with (fail)
  refine (H2.out _ hbh.out).mono ?_
  rintro e w2 ⟨rfl, rfl⟩
  go_wp2_with (fail)
  refine (H3.out _ hbh.out).mono ?_
  rintro e w3 ⟨A3, c3, rfl, ho3, hb3⟩
  have hz1 := hbh.out.size
  have hz3 := hb3.size
  have A4 := (Below.refl w3.heap.size w3).alloc (Nat.le_refl _) (.cells #[.slice A3 rs.length c3] 27)
  have hX4 : Hid (OX (w3.alloc (.cells #[.slice A3 rs.length c3] 27)) w.heap.size (w3.alloc (.cells #[.slice A3 rs.length c3] 27)).heap.size (.slice (some ⟨w3.heap.size, 0, none⟩) 1 1) [rs]) := by
    have hcb : CB 27 (w3.alloc (.cells #[.slice A3 rs.length c3] 27)) w3.heap.size [.slice A3 rs.length c3] := heap_alloc_new w3 _
    exact OX.of (okv_one hcb (by omega) (by simp)) (RowsX.mk1 (((ho3.lower hz1).below A4 (Nat.le_refl _)).more A4.size))
  have hb4 := Lib.hid ((hbh.out.trans (hb3.mono hz1)).trans (A4.mono (by omega)))
  clear A4 ho3 hb3
  go_wp2
  generalize w3.alloc (.cells #[.slice A3 rs.length c3] 27) = W4 at *
  go_loopw [6, 22] (fun v i wr => ∃ k : Nat, k ≤ es.length ∧ i = .int .i64 k ∧ OX wr w.heap.size wr.heap.size v (T k) ∧ Below w.heap.size w wr) (fun _ i _ => es.length - (intOf i).toNat)
  case atStart => exact ⟨0, Nat.zero_le _, rfl, by rw [hT0.out]; exact hX4.out, hb4.out⟩
  case round =>
    obtain ⟨k, hk, rfl, hox, hbel⟩ := hrel
    obtain ⟨A5, c5, rfl⟩ := hox.form
    have hX := Lib.hid hox
    have hBL := Lib.hid hbel
    clear hox
    by_cases hlt : k < es.length
    · obtain ⟨b, o, rfl, ⟨_, hbB⟩, hc⟩ := In.cells (hE.out _ hbel) (by omega)
      obtain ⟨d1, d2, d3, d4, d5⟩ := hc k hlt
      have hg := Lib.hid (hall.out _ (List.getElem_mem hlt))
      have hT1 := Lib.hid (hTs.out k)
      have hRk := Lib.hid (hRs.out k hlt)
      have hw6 := Lib.hid (hW6.out k)
      have hlk := hTl.out k
      have hla := hTa.out k (by omega)
      obtain ⟨xb, xo, Ai, ci, rfl, xc, hOW⟩ := hX.out.at (i := k) (by omega)
      rw [hla, hw6.out.1] at xc
      rw [hla] at hOW
      rw [hw6.out.1] at hOW
      obtain ⟨yb, yo, rfl, ⟨_, hyb⟩, _⟩ := IS.six hOW.rs hw6.out.1
      clear hc hbel hla
      rw [hlk] at hX ⊢
      generalize es[k] = x at *
      generalize hRR : runL (es.take (k + 1)) rs = Rn at *
      generalize runL (es.take k) rs = Rk at *
      generalize hTT : T (k + 1) = Tn at *
      have hTTh := Lib.hid hTT
      clear hTT hRR hlk
      generalize T k = Tk at *
      obtain ⟨n, hn1⟩ : ∃ n, n = k + 1 := ⟨_, rfl⟩
      rw [← hn1] at hX ⊢
      have e0 : (n : Int) - 1 = (k : Int) := by omega
      have hkn : (k : Int) < (n : Int) := by omega
      have hn41 : (n : Int) ≤ 41 := by omega
      have hwk : IntKind.i64.wrap (k : Int) = (k : Int) := IntWalk.i64_in _ (by omega)
      have hn41' : n ≤ 41 := by omega
      have hN1 := Lib.hid hn1
      obtain ⟨W5, hW5⟩ : ∃ W5, W5 = wr.alloc (.cells #[.string x.op, .int .i64 x.d, .int .i64 x.a, .int .i64 x.b, .int .i64 x.m] 56) := ⟨_, rfl⟩
      have A5 : Below wr.heap.size wr W5 := by rw [hW5]; exact (Below.refl wr.heap.size wr).alloc (Nat.le_refl _) _
      have X5 : XB W5 wr.heap.size x := by rw [hW5]; exact XB.new wr x
      have hX5 := Lib.hid (show OX W5.drew w.heap.size W5.drew.heap.size (.slice (some ⟨xb, xo, none⟩) n c5) Tk from ((hX.out.below A5 (Nat.le_refl _)).more A5.size).below (Below.refl W5.heap.size W5).drew (Nat.le_refl _))
      have hB5 := Lib.hid (hBL.out.trans (A5.mono hBL.out.size))
      have hSt := Lib.hid (cdStep_any x yb yo ci Rk w.heap.size wr.heap.size W5.drew hg.out hw6.out ((hOW.rs.below A5 (Nat.le_refl _)).below (Below.refl W5.heap.size W5).drew A5.size) A5.size)
      have hBd := Lib.hid hB5.out.drew
      rw [← hRk.out] at hSt
      have xc5 := Lib.hid ((A5.cell (p := ⟨xb, xo + k, none⟩) (by
        rcases Nat.lt_or_ge xb wr.heap.size with h9 | h9
        · exact h9
        · simp [World.cell?, Array.getElem?_eq_none h9] at xc)).trans xc)
      have hW5h := Lib.hid hW5.symm
      clear hOW hn1 hg hRk hw6 A5 hW5 xc hX
      obtain ⟨op, d, a, b1, m⟩ := x
      dsimp only at d1 d2 d3 d4 d5 hSt hW5h
      go_wp2
      rw [hW5h.out]
      obtain ⟨xg, hxg⟩ : ∃ xg, xg = wr.heap.size := ⟨_, rfl⟩
      rw [← hxg] at X5 ⊢
      obtain ⟨n0, n1, n2, n3, n4⟩ := XB.cells X5
      dsimp only at n0 n1 n2 n3 n4
      have xcc := xc5.out
      have e1 : (0 : Int) ≤ (k : Int) := by omega
      clear d1 d2 d3 d4 d5 hW5h hxg X5 xc5 hBL
      go_region_law (first
        | (go_simp; go_at_call 145; (with_reducible refine hSt.out.mono ?_); rintro e w6 ⟨g6, c6, rfl, hg6, ho6, hb6⟩; have hO6 := (ho6.lower hg6).more (ho6.lo g6 rfl |>.2 |> fun _ => (ho6.1.lt g6 rfl).2); obtain ⟨vs, hvn, HL, HN, H1, HK, Hlo⟩ := snocX hX5.out hBd.out.size hb6 hO6; have hB6 := Lib.hid (hBd.out.trans (hb6.mono hBd.out.size)); have HL := Lib.hid HL; have HN := Lib.hid HN; have H1 := Lib.hid H1; have HK := Lib.hid HK; have Hlo := Lib.hid Hlo; have hz6 := Lib.hid hB6.out.size; clear ho6 hb6 hO6 hg6)
        | (refine step_append_lies _ rfl _ _ 50 rfl w.heap.size 27 i0 _ 1 24 Try.underlying50 hJ0.out hJ1.out hJ2.out hJ3.out rfl (by decide) _ n _ (by rfl) HL.out ⟨w6.heap.size, 0, none⟩ 1 1 _ (by rfl) rfl HN.out H1.out (by omega) (by unfold maxLen; omega) (by omega) (by have := hz6.out; simp; omega) (w6.heap.size + 1) (by simp) ?_; intro g' cap w7 hown7 hgr7 _ _))
      all_goals
        have hX7 := HK.out g' cap w7 hown7 hgr7
        have hB7 := Lib.hid ((hB6.out.alloc hz6.out (.cells #[.slice (some ⟨g6, 0, none⟩) 6 c6] 27)).grown hgr7 (by have := hz6.out; simp; omega) (fun j hj => Hlo.out j hj))
        have hX8 := Lib.hid (show OX w7 w.heap.size w7.heap.size (.slice (some ⟨g', 0, none⟩) (n + 1) cap) Tn from by rw [hT1.out]; exact hX7)
        clear hX7 hown7 hgr7 xcc n0 n1 n2 n3 n4
        go_wp2
        go_roundw
        case rel => exact ⟨k + 1, by omega, by go_num, by rw [hTTh.out]; exact hX8.out, hB7.out⟩
        case measure => simp [intOf]; omega
    · obtain rfl : k = es.length := by omega
      clear hbel
      go_wp2
      go_ret2
      rw [hR.out.1, hR.out.2]
      exact ⟨A5, c5, rfl, hX.out, hBL.out⟩
end Go.Proofs.Ytmhdijklindipaa
