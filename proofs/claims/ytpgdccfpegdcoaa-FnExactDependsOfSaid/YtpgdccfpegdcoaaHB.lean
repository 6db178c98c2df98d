import Derived.Test.YtpgdccfpegdcoaaLI
import Derived.Test.YtpgdccfpegdcoaaV
import Derived.WalkKit
import Derived.WalkSpells
import Derived.WalkLawsBesides
import Derived.Deep.RegionHeld3
import Derived.Lib.Hide
/- Slices of slices of ints. -/
namespace Go.Proofs.Ytpgdccfpegdcoaa
open Go.RowKit
set_option linter.unusedVariables false

def encV (v : Value) : List Value := [v]
/-- A slice of slices of ints, read. -/
def XS (w : World) (L B : Nat) (A : Option Addr) (xss : List (List Int)) : Prop :=
  ∃ vs : List Value, vs.length = xss.length ∧ RS encV 1 w L B A vs ∧ ∀ i (h : i < vs.length) (h' : i < xss.length), ∃ Ai ci, vs[i] = .slice Ai (xss[i]).length ci ∧ IS w L B Ai xss[i]
theorem XS.below {w w' : World} {L B C : Nat} {A : Option Addr} {xss : List (List Int)} (h : XS w L B A xss) (hb : Below C w w') (hC : B ≤ C) : XS w' L B A xss := by
  obtain ⟨vs, hl, hr, hi⟩ := h
  exact ⟨vs, hl, hr.below hb hC, fun i h h' => by obtain ⟨Ai, ci, e, hx⟩ := hi i h h'; exact ⟨Ai, ci, e, hx.below hb hC⟩⟩
theorem XS.at {w : World} {L B : Nat} {A : Option Addr} {xss : List (List Int)} (h : XS w L B A xss) {i : Nat} (hi : i < xss.length) :
    ∃ b o Ai ci, A = some ⟨b, o, none⟩ ∧ b < B ∧ w.cell? ⟨b, o + i, none⟩ = some (.slice Ai (xss[i]).length ci) ∧ IS w L B Ai xss[i] := by
  obtain ⟨vs, hl, hr, hx⟩ := h
  obtain ⟨b, o, e, ⟨_, hb⟩, hc⟩ := hr (by omega)
  obtain ⟨Ai, ci, e2, hI⟩ := hx i (by omega) hi
  have h1 := hc i (by omega) 0 vs[i] rfl
  rw [e2] at h1
  exact ⟨b, o, Ai, ci, e, hb, by simpa using h1, hI⟩

set_option maxHeartbeats 4000000 in
theorem eqIntSS_any (L B L' B' : Nat) (A A' : Option Addr) (c c' : Nat) (xss : List (List Int)) (w : World) (hl : xss.length ≤ 1048576) (hls : ∀ xs ∈ xss, xs.length ≤ 1048576) (hx : XS w L B A xss) (hx' : XS w L' B' A' xss) (hB : B ≤ w.heap.size) (hB' : B' ≤ w.heap.size) :
    Calls Try.prog 27 #[.slice A xss.length c, .slice A' xss.length c'] w fun e w' => e = .returned (.bool true) ∧ Below w.heap.size w w' := by
  have hX := Lib.hid hx
  have hY := Lib.hid hx'
  have hL := Lib.hid hls
  clear hx hx' hls
  go_enter Try.func27, Try.ntmps27
  go_wp2
  go_loopw [5] (fun i wr => ∃ k : Nat, k ≤ xss.length ∧ i = .int .i64 k ∧ Below w.heap.size w wr) (fun i _ => xss.length - (intOf i).toNat)
  case atStart => exact ⟨0, Nat.zero_le _, rfl, Below.refl _ _⟩
  case round =>
    obtain ⟨k, hk, rfl, hbel⟩ := hrel
    have hBl := Lib.hid hbel
    by_cases hlt : k < xss.length
    · obtain ⟨b, o, Ai, ci, rfl, z1, c1, hI⟩ := (hX.out.below hbel hB).at hlt
      obtain ⟨b', o', Ai', ci', rfl, z2, d1, hI'⟩ := (hY.out.below hbel hB').at hlt
      have hE := Lib.hid fun (W : World) (hW : Below wr.heap.size wr W) => eqIntS_any L B L' B' Ai Ai' xss[k].length xss[k].length ci ci' xss[k] xss[k] W rfl rfl (hL.out _ (List.getElem_mem _)) (hI.below hW (Nat.le_trans hB hbel.size)) (hI'.below hW (Nat.le_trans hB' hbel.size)) (Nat.le_trans (Nat.le_trans hB hbel.size) hW.size) (Nat.le_trans (Nat.le_trans hB' hbel.size) hW.size) rfl
      have hBd := Lib.hid (Below.refl wr.heap.size wr).drew
      have hz1 : b < wr.heap.size := Nat.lt_of_lt_of_le z1 (Nat.le_trans hB hbel.size)
      have hz2 : b' < wr.heap.size := Nat.lt_of_lt_of_le z2 (Nat.le_trans hB' hbel.size)
      have hki : (k : Int) < (xss.length : Int) := by omega
      have hk0 : (0 : Int) ≤ (k : Int) := by omega
      have hjh := Lib.hid hlt
      clear hI hI' hbel
      generalize (xss[k]).length = m at *
      go_wp2_with (fail)
      go_region_held3 (fun w' => w'.cell? ⟨b, o + k, none⟩ = some (.slice Ai m ci) ∧ w'.cell? ⟨b', o' + k, none⟩ = some (.slice Ai' m ci')) (first | exact ⟨(hb2.cell hz1).trans c1, (hb2.cell hz2).trans d1⟩ | go_keep) ((go_at_call 36; refine (hE.out _ hBd.out).mono ?_; rintro e w2 ⟨rfl, hb2⟩; have hBi := Lib.hid ((hBl.out.trans (hBd.out.mono hBl.out.size)).trans (hb2.mono (Nat.le_trans hBl.out.size hBd.out.size)))))
      clear hb2
      go_wp2
      have := hjh.out
      exact ⟨⟨k + 1, hjh.out, by go_num, hBi.out⟩, by simp [intOf]; omega⟩
    · obtain rfl : k = xss.length := by omega
      go_wp2
      go_ret
      exact ⟨rfl, hBl.out⟩
end Go.Proofs.Ytpgdccfpegdcoaa
