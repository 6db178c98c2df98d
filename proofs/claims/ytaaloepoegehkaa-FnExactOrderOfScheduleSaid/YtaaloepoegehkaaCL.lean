import Derived.Test.YtaaloepoegehkaaCI
import Derived.Test.YtaaloepoegehkaaCJ
import Derived.WalkKit
import Derived.WalkSpells
import Derived.WalkLawsBesides
import Derived.Deep.QuietTactic
import Derived.BigQuiet
import Derived.Deep.RegionHeld3
import Derived.Lib.Hide
namespace Go.Proofs.Ytaaloepoegehkaa
open Go.RowKit
set_option linter.unusedVariables false
set_option maxRecDepth 100000

/-- Six words in cells from an address on. -/
def Six (w : World) (b o : Nat) (rs : List Int) : Prop := ∀ i, i < 6 → w.cell? ⟨b, o + i, none⟩ = some (.int .i64 (rs.getD i 0))
theorem Six.below {w w' : World} {b o : Nat} {rs : List Int} (h : Six w b o rs) {C : Nat} (hb : Below C w w') (hC : b < C) : Six w' b o rs := fun i hi => (hb.cell hC).trans (h i hi)
theorem Six.heap {w w' : World} {b o : Nat} {rs : List Int} (h : w'.heap = w.heap) (hc : Six w b o rs) : Six w' b o rs := fun i hi => by have := hc i hi; unfold World.cell? at *; rw [h]; exact this
theorem IS.six {w : World} {L B : Nat} {A : Option Addr} {rs : List Int} (h : IS w L B A rs) (h6 : rs.length = 6) : ∃ b o, A = some ⟨b, o, none⟩ ∧ (L ≤ b ∧ b < B) ∧ Six w b o rs := by
  obtain ⟨b, o, e, hb, hc⟩ := h (by omega)
  exact ⟨b, o, e, hb, fun i hi => by rw [hc i (by omega), List.getD_eq_getElem?_getD, List.getElem?_eq_getElem (by omega)]; rfl⟩
theorem cdValue_any (x : In) (b o c : Nat) (rs : List Int) (w : World) (hx : goodIn x = true) (h6 : words6 rs) (hbb : b < w.heap.size) (hc : Six w b o rs) :
    Calls Try.prog 191 #[.agg #[.string x.op, .int .i64 x.d, .int .i64 x.a, .int .i64 x.b, .int .i64 x.m], .slice (some ⟨b, o, none⟩) 6 c] w fun e w' => e = .returned (.int .i64 (vOf x.op x.m (rs.getD x.a.toNat 0) (rs.getD x.b.toNat 0))) ∧ Below w.heap.size w w' := by
  obtain ⟨hd, ha, hb, hok, hm⟩ := good_parts hx
  obtain ⟨op, d, a, b', m⟩ := x
  obtain ⟨na, rfl⟩ := Int.eq_ofNat_of_zero_le ha.1
  obtain ⟨nb, rfl⟩ := Int.eq_ofNat_of_zero_le hb.1
  have hu := getD_bd h6.2 na
  have hv := getD_bd h6.2 nb
  simp only at ha hb hm hok
  simp only [Int.toNat_natCast]
  rcases val_cases hok with h|h|h|h|h|h|h|h|⟨h, hop, _, _⟩
  · rw [fm_set h] at hm; exact cdValue_set op d m na nb b o c _ _ w (by omega) (by omega) hbb (hc na (by omega)) (hc nb (by omega)) hu.1 hu.2 hv.1 hv.2 h hm.1 hm.2
  · rw [fm_mov h] at hm; exact cdValue_mov op d m na nb b o c _ _ w (by omega) (by omega) hbb (hc na (by omega)) (hc nb (by omega)) hu.1 hu.2 hv.1 hv.2 h hm.1 hm.2
  · rw [fm_addi h] at hm; exact cdValue_addi op d m na nb b o c _ _ w (by omega) (by omega) hbb (hc na (by omega)) (hc nb (by omega)) hu.1 hu.2 hv.1 hv.2 h hm.1 hm.2
  · rw [fm_andi h] at hm; exact cdValue_andi op d m na nb b o c _ _ w (by omega) (by omega) hbb (hc na (by omega)) (hc nb (by omega)) hu.1 hu.2 hv.1 hv.2 h hm.1 hm.2
  · rw [fm_xori h] at hm; exact cdValue_xori op d m na nb b o c _ _ w (by omega) (by omega) hbb (hc na (by omega)) (hc nb (by omega)) hu.1 hu.2 hv.1 hv.2 h hm.1 hm.2
  · rw [fm_shli h] at hm; exact cdValue_shli op d m na nb b o c _ _ w (by omega) (by omega) hbb (hc na (by omega)) (hc nb (by omega)) hu.1 hu.2 hv.1 hv.2 h hm.1 hm.2
  · rw [fm_shri h] at hm; exact cdValue_shri op d m na nb b o c _ _ w (by omega) (by omega) hbb (hc na (by omega)) (hc nb (by omega)) hu.1 hu.2 hv.1 hv.2 h hm.1 hm.2
  · rw [fm_lea h] at hm; exact cdValue_lea op d m na nb b o c _ _ w (by omega) (by omega) hbb (hc na (by omega)) (hc nb (by omega)) hu.1 hu.2 hv.1 hv.2 h hm.1 hm.2
  · exact cdValue_plain op d m na nb b o c _ _ w (by omega) (by omega) hbb (hc na (by omega)) (hc nb (by omega)) hu.1 hu.2 hv.1 hv.2 h hop
theorem valueOf_any (x : In) (b : Nat) (rs : List Int) (w : World) (hx : goodIn x = true) (h6 : words6 rs) (hbb : b < w.heap.size) (hc : Six w b 0 rs) :
    Calls Try.prog 192 #[.pointer (some ⟨b, 0, none⟩), .agg #[.string x.op, .int .i64 x.d, .int .i64 x.a, .int .i64 x.b, .int .i64 x.m]] w fun e w' => e = .returned (.int .i64 (vOf x.op x.m (rs.getD x.a.toNat 0) (rs.getD x.b.toNat 0))) ∧ Below w.heap.size w w' := by
  obtain ⟨hd, ha, hb, hok, hm⟩ := good_parts hx
  obtain ⟨op, d, a, b', m⟩ := x
  obtain ⟨na, rfl⟩ := Int.eq_ofNat_of_zero_le ha.1
  obtain ⟨nb, rfl⟩ := Int.eq_ofNat_of_zero_le hb.1
  have hu := getD_bd h6.2 na
  have hv := getD_bd h6.2 nb
  have hc' : ∀ i, i < 6 → w.cell? ⟨b, i, none⟩ = some (.int .i64 (rs.getD i 0)) := fun i hi => by have := hc i hi; rwa [Nat.zero_add] at this
  simp only at ha hb hm hok
  simp only [Int.toNat_natCast]
  rcases val_cases hok with h|h|h|h|h|h|h|h|⟨h, hop, _, _⟩
  · rw [fm_set h] at hm; exact valueOf_set op d m na nb b _ _ w (by omega) (by omega) hbb (hc' na (by omega)) (hc' nb (by omega)) hu.1 hu.2 hv.1 hv.2 h hm.1 hm.2
  · rw [fm_mov h] at hm; exact valueOf_mov op d m na nb b _ _ w (by omega) (by omega) hbb (hc' na (by omega)) (hc' nb (by omega)) hu.1 hu.2 hv.1 hv.2 h hm.1 hm.2
  · rw [fm_addi h] at hm; exact valueOf_addi op d m na nb b _ _ w (by omega) (by omega) hbb (hc' na (by omega)) (hc' nb (by omega)) hu.1 hu.2 hv.1 hv.2 h hm.1 hm.2
  · rw [fm_andi h] at hm; exact valueOf_andi op d m na nb b _ _ w (by omega) (by omega) hbb (hc' na (by omega)) (hc' nb (by omega)) hu.1 hu.2 hv.1 hv.2 h hm.1 hm.2
  · rw [fm_xori h] at hm; exact valueOf_xori op d m na nb b _ _ w (by omega) (by omega) hbb (hc' na (by omega)) (hc' nb (by omega)) hu.1 hu.2 hv.1 hv.2 h hm.1 hm.2
  · rw [fm_shli h] at hm; exact valueOf_shli op d m na nb b _ _ w (by omega) (by omega) hbb (hc' na (by omega)) (hc' nb (by omega)) hu.1 hu.2 hv.1 hv.2 h hm.1 hm.2
  · rw [fm_shri h] at hm; exact valueOf_shri op d m na nb b _ _ w (by omega) (by omega) hbb (hc' na (by omega)) (hc' nb (by omega)) hu.1 hu.2 hv.1 hv.2 h hm.1 hm.2
  · rw [fm_lea h] at hm; exact valueOf_lea op d m na nb b _ _ w (by omega) (by omega) hbb (hc' na (by omega)) (hc' nb (by omega)) hu.1 hu.2 hv.1 hv.2 h hm.1 hm.2
  · exact valueOf_plain op d m na nb b _ _ w (by omega) (by omega) hbb (hc' na (by omega)) (hc' nb (by omega)) hu.1 hu.2 hv.1 hv.2 h hop
end Go.Proofs.Ytaaloepoegehkaa
