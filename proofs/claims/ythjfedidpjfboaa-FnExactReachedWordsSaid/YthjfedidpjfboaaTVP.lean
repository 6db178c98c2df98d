import Derived.Test.YthjfedidpjfboaaTVO
import Derived.Test.YthjfedidpjfboaaCL
import Derived.Test.YthjfedidpjfboaaCQ
import Derived.WalkKit
import Derived.WalkSpells
import Derived.WalkLawsBesides
import Derived.Deep.RegionHeld3
import Derived.Lib.Hide
/- A machine that lies within a greater block. -/
namespace Go.Proofs.Ythjfedidpjfboaa
open Go.RowKit
set_option linter.unusedVariables false
set_option maxRecDepth 100000

theorem valueOfO_any (x : In) (b o : Nat) (rs : List Int) (w : World) (hx : goodIn x = true) (h6 : words6 rs) (hbb : b < w.heap.size) (hc : Six w b o rs) :
    Calls Try.prog 187 #[.pointer (some ⟨b, o, none⟩), .agg #[.string x.op, .int .i64 x.d, .int .i64 x.a, .int .i64 x.b, .int .i64 x.m]] w fun e w' => e = .returned (.int .i64 (vOf x.op x.m (rs.getD x.a.toNat 0) (rs.getD x.b.toNat 0))) ∧ Below w.heap.size w w' := by
  obtain ⟨hd, ha, hb, hok, hm⟩ := good_parts hx
  obtain ⟨op, d, a, b', m⟩ := x
  obtain ⟨na, rfl⟩ := Int.eq_ofNat_of_zero_le ha.1
  obtain ⟨nb, rfl⟩ := Int.eq_ofNat_of_zero_le hb.1
  have hu := getD_bd h6.2 na
  have hv := getD_bd h6.2 nb
  have hc' := hc
  simp only at ha hb hm hok
  simp only [Int.toNat_natCast]
  rcases val_cases hok with h|h|h|h|h|h|h|h|⟨h, hop, _, _⟩
  · rw [fm_set h] at hm; exact valueOfO_set op d m na nb b o _ _ w (by omega) (by omega) hbb (hc' na (by omega)) (hc' nb (by omega)) hu.1 hu.2 hv.1 hv.2 h hm.1 hm.2
  · rw [fm_mov h] at hm; exact valueOfO_mov op d m na nb b o _ _ w (by omega) (by omega) hbb (hc' na (by omega)) (hc' nb (by omega)) hu.1 hu.2 hv.1 hv.2 h hm.1 hm.2
  · rw [fm_addi h] at hm; exact valueOfO_addi op d m na nb b o _ _ w (by omega) (by omega) hbb (hc' na (by omega)) (hc' nb (by omega)) hu.1 hu.2 hv.1 hv.2 h hm.1 hm.2
  · rw [fm_andi h] at hm; exact valueOfO_andi op d m na nb b o _ _ w (by omega) (by omega) hbb (hc' na (by omega)) (hc' nb (by omega)) hu.1 hu.2 hv.1 hv.2 h hm.1 hm.2
  · rw [fm_xori h] at hm; exact valueOfO_xori op d m na nb b o _ _ w (by omega) (by omega) hbb (hc' na (by omega)) (hc' nb (by omega)) hu.1 hu.2 hv.1 hv.2 h hm.1 hm.2
  · rw [fm_shli h] at hm; exact valueOfO_shli op d m na nb b o _ _ w (by omega) (by omega) hbb (hc' na (by omega)) (hc' nb (by omega)) hu.1 hu.2 hv.1 hv.2 h hm.1 hm.2
  · rw [fm_shri h] at hm; exact valueOfO_shri op d m na nb b o _ _ w (by omega) (by omega) hbb (hc' na (by omega)) (hc' nb (by omega)) hu.1 hu.2 hv.1 hv.2 h hm.1 hm.2
  · rw [fm_lea h] at hm; exact valueOfO_lea op d m na nb b o _ _ w (by omega) (by omega) hbb (hc' na (by omega)) (hc' nb (by omega)) hu.1 hu.2 hv.1 hv.2 h hm.1 hm.2
  · exact valueOfO_plain op d m na nb b o _ _ w (by omega) (by omega) hbb (hc' na (by omega)) (hc' nb (by omega)) hu.1 hu.2 hv.1 hv.2 h hop

/-- A step's store: one word of the machine at g, o. -/
def StepO (w : World) (g o : Nat) (x : In) (rs : List Int) (e : Ending) (w' : World) : Prop :=
  e = .returned (.tuple #[]) ∧ ∃ w1, Below w.heap.size w w1 ∧ w' = w1.setCell ⟨g, o + x.d.toNat, none⟩ (.int .i64 (vOf x.op x.m (rs.getD x.a.toNat 0) (rs.getD x.b.toNat 0)))
set_option maxHeartbeats 4000000 in
theorem stepO_any (x : In) (g o : Nat) (rs : List Int) (w : World) (hx : goodIn x = true) (h6 : words6 rs) (hgl : g < w.heap.size) (hS6 : Six w g o rs) (hfz : ∀ i, i < 6 → w.frozen? ⟨g, o + i, none⟩ = false) :
    Calls Try.prog 157 #[.pointer (some ⟨g, o, none⟩), .agg #[.string x.op, .int .i64 x.d, .int .i64 x.a, .int .i64 x.b, .int .i64 x.m]] w (StepO w g o x rs) := by
  have hG := Lib.hid hx
  have hW := Lib.hid h6
  obtain ⟨hd, _⟩ := good_parts hx
  obtain ⟨op, d, a, b', m⟩ := x
  obtain ⟨nd, rfl⟩ := Int.eq_ofNat_of_zero_le hd.1
  have hb0 := Lib.hid ((Below.refl w.heap.size w).alloc (Nat.le_refl _) (.cells #[.string op, .int .i64 nd, .int .i64 a, .int .i64 b', .int .i64 m] 90))
  obtain ⟨y, hy⟩ : ∃ y, vOf op m (rs.getD a.toNat 0) (rs.getD b'.toNat 0) = y := ⟨_, rfl⟩
  have hV := Lib.hid (fun w' (h1 : g < w'.heap.size) (h2 : Six w' g o rs) => (show Calls Try.prog 187 #[.pointer (some ⟨g, o, none⟩), .agg #[.string op, .int .i64 nd, .int .i64 a, .int .i64 b', .int .i64 m]] w' (fun e w'' => e = .returned (.int .i64 y) ∧ Below w'.heap.size w' w'') from by have := valueOfO_any ⟨op, nd, a, b', m⟩ g o rs w' hG.out hW.out h1 h2; simp only at this; rw [hy] at this; exact this))
  have hY := Lib.hid hy
  clear hy
  have hd' : nd < 6 := by simp only at hd; omega
  have hS0 := Lib.hid hS6
  have hF0 := Lib.hid hfz
  clear hx h6 hd hS6 hfz
  go_enter Try.func157, Try.ntmps157
  go_wp2_with (fail)
  obtain ⟨w1, hw1⟩ : ∃ w1 : World, w1 = w.alloc (.cells #[.string op, .int .i64 nd, .int .i64 a, .int .i64 b', .int .i64 m] 90) := ⟨_, rfl⟩
  rw [← hw1] at hb0 ⊢
  obtain ⟨xa, xb, xc, xd, xe⟩ := In.old (x := ⟨op, nd, a, b', m⟩) (w2 := w1) (t := 90) rfl (by rw [hw1]; exact Below.refl _ _)
  have hz : w.heap.size < w1.heap.size := by rw [hw1]; simp
  have hgz : g < w1.heap.size := by omega
  have hne : g ≠ w.heap.size := by omega
  have hS1 := Lib.hid (hS0.out.below hb0.out hgl)
  have hF1 : Hid (∀ i, i < 6 → w1.frozen? ⟨g, o + i, none⟩ = false) := fun i hi => (hb0.out.frozen (p := ⟨g, o + i, none⟩) hgl).trans (hF0.out i hi)
  clear hw1
  have i0 : (0 : Int) ≤ (nd : Int) := by omega
  have i1 : (nd : Int) < 6 := by omega
  have hb1 := Lib.hid hgz
  go_region_with (go_at_call 187; refine (hV.out _ (by exact hb1.out) (by exact Six.heap rfl hS1.out)).mono ?_; rintro e w2 ⟨rfl, hb2⟩; have hb3 := Lib.hid ((Below.refl w1.heap.size w1).drew.trans hb2); have c1 := (hS1.out.below hb3.out hgz) nd hd'; have f1 : w2.frozen? ⟨g, o + nd, none⟩ = false := (hb3.out.frozen (p := ⟨g, o + nd, none⟩) hgz).trans (hF1.out nd hd'); have xb2 := (hb3.out.cell (p := ⟨w.heap.size, 1, none⟩) hz).trans xb)
  all_goals
    have hfin := Lib.hid (hb0.out.trans (hb3.out.mono (Nat.le_of_lt hz)))
    go_wp2
    go_end0
    refine ⟨rfl, w2, hfin.out, ?_⟩
    dsimp only
    rw [hY.out, Int.toNat_natCast]
theorem words_gen (g : Nat) (rs : List Int) (w : World) (h6 : rs.length = 6) (hI : IS w g (g + 1) (some ⟨g, 0, none⟩) rs) (hg : g < w.heap.size) :
    Calls Try.prog 156 #[.pointer (some ⟨g, 0, none⟩)] w (Own6 w rs) := by
  have hC := Lib.hid ((CloneI_any g 0 6 rs g (g + 1) w (by omega) hI hg).mono fun _ _ => own6_of h6)
  rw [h6] at hC
  clear hI
  go_enter Try.func156, Try.ntmps156
  go_wp2_with (fail)
  refine hC.out.mono ?_
  rintro e w1 ⟨g1, c1, rfl, hg1, ho1, hb1⟩
  have hO1 := Lib.hid ho1
  go_wp2
  go_ret
  exact ⟨g1, c1, rfl, hg1, hO1.out, hb1⟩
end Go.Proofs.Ythjfedidpjfboaa
