import Derived.Test.YtpgdccfpegdcoaaHB
/- Slices of slices of ints: what the marks read. -/
namespace Go.Proofs.Ytpgdccfpegdcoaa
open Go.RowKit
set_option linter.unusedVariables false

def marksSS : Int → List Nat → List (List Int)
  | _, [] => []
  | k0, n :: ns => marks k0 n :: marksSS (k0 + n) ns
theorem marksSS_len : ∀ (k0 : Int) (ns : List Nat), (marksSS k0 ns).length = ns.length
  | _, [] => rfl
  | k0, n :: ns => by simp [marksSS, marksSS_len]
theorem marksSS_get : ∀ (k0 : Int) (ns : List Nat) (i : Nat) (h : i < (marksSS k0 ns).length) (h' : i < ns.length), (marksSS k0 ns)[i] = marks (k0 + ((ns.take i).sum : Nat)) ns[i]
  | _, [], i, h, h' => by simp at h'
  | k0, n :: ns, 0, h, h' => by simp [marksSS]
  | k0, n :: ns, i + 1, h, h' => by
    have := marksSS_get (k0 + n) ns i (by rw [marksSS_len]; simpa using h') (by simpa using h')
    simp only [marksSS, List.getElem_cons_succ, List.take_succ_cons, List.sum_cons]
    rw [this]; congr 1; omega
theorem sum_take_le : ∀ (ns : List Nat) (i : Nat), (ns.take i).sum ≤ ns.sum
  | [], i => by simp
  | n :: ns, 0 => by simp
  | n :: ns, i + 1 => by simp only [List.take_succ_cons, List.sum_cons]; have := sum_take_le ns i; omega
theorem sum_take_succ (ns : List Nat) {i : Nat} (h : i < ns.length) : (ns.take (i + 1)).sum = (ns.take i).sum + ns[i] := by
  rw [List.take_succ_eq_append_getElem h, List.sum_append]; simp
theorem marks_len (k0 : Int) (n : Nat) : (marks k0 n).length = n := by simp [marks]

set_option maxHeartbeats 4000000 in
theorem heldIntSS_any (L B : Nat) (A : Option Addr) (c : Nat) (ns : List Nat) (k0 : Int) (w : World) (hl : ns.length ≤ 1048576) (hs : ns.sum ≤ 1048576) (hk0 : 0 ≤ k0) (hk1 : k0 ≤ 1000000) (hx : XS w L B A (marksSS k0 ns)) :
    Calls Try.prog 32 #[.slice A ns.length c, .int .i64 k0] w fun e w' => e = .returned (.int .i64 (k0 + (ns.sum : Nat))) ∧ w = w' := by
  have hX := Lib.hid hx
  have hS := Lib.hid hs
  clear hx hs
  go_enter Try.func32, Try.ntmps32
  go_wp2
  go_loop [1, 5] (fun q i => ∃ k : Nat, k ≤ ns.length ∧ i = .int .i64 k ∧ q = .int .i64 (k0 + ((ns.take k).sum : Nat))) (fun _ i => ns.length - (intOf i).toNat)
  case atStart => exact ⟨0, Nat.zero_le _, rfl, by simp⟩
  case round =>
    obtain ⟨k, hk, rfl, rfl⟩ := hrel
    by_cases hlt : k < ns.length
    · obtain ⟨b, o, Ai, ci, rfl, z1, c1, hI⟩ := hX.out.at (by rw [marksSS_len]; exact hlt)
      rw [marksSS_get k0 ns k (by rw [marksSS_len]; exact hlt) hlt] at c1 hI
      rw [marks_len] at c1
      have h1 := sum_take_le ns k
      have h2 := sum_take_le ns (k + 1)
      have h3 := sum_take_succ ns hlt
      have h4 := hS.out
      have hE := Lib.hid (heldIntS_any L B Ai ns[k] ci (k0 + ((ns.take k).sum : Nat)) w (by omega) (by omega) (by omega) hI)
      have hsum := Lib.hid (show k0 + ((ns.take k).sum : Nat) + (ns[k] : Nat) = k0 + (((ns.take (k + 1)).sum : Nat) : Int) by rw [h3]; omega)
      have hge : (0 : Int) ≤ k0 + ((ns.take k).sum : Nat) + (ns[k] : Nat) := by omega
      have hki : (k : Int) < (ns.length : Int) := by omega
      have hjh := Lib.hid hlt
      clear hI h1 h2 h3 h4
      generalize ns[k] = m at *
      generalize k0 + ((ns.take k).sum : Nat) = s at *
      have hng : ¬ (s + (m : Int)) < 0 := by omega
      go_wp2_with (go_at_call 45; refine hE.out.mono ?_; rintro e w2 ⟨rfl, rfl⟩)
      have := hjh.out
      exact ⟨⟨k + 1, hjh.out, by go_num, by rw [hsum.out]⟩, by simp [intOf]; omega⟩
    · obtain rfl : k = ns.length := by omega
      rw [List.take_length]
      go_wp2
      go_ret
      exact ⟨rfl, rfl⟩
end Go.Proofs.Ytpgdccfpegdcoaa
