import Derived.Test.YtpgdccfpegdcoaaHD
/- Slices of slices of ints, in the form that glawu.py's calls take. -/
namespace Go.Proofs.Ytpgdccfpegdcoaa
open Go.RowKit
set_option linter.unusedVariables false

def SmallX (xss : List (List Int)) : Prop := xss.length ≤ 1048576 ∧ (xss.map List.length).sum ≤ 1048576
theorem le_sum_of_mem {n : Nat} : ∀ {ns : List Nat}, n ∈ ns → n ≤ ns.sum
  | m :: ns, h => by
    rw [List.sum_cons]
    rcases List.mem_cons.1 h with rfl | h
    · omega
    · have := le_sum_of_mem h; omega
theorem SmallX.rows {xss : List (List Int)} (h : SmallX xss) : ∀ xs ∈ xss, xs.length ≤ 1048576 := fun xs hx => Nat.le_trans (le_sum_of_mem (List.mem_map.2 ⟨xs, hx, rfl⟩)) h.2
theorem OX.chg {w w' : World} {L B lo hi : Nat} {v : Value} {xss : List (List Int)} (h : OX w L B v xss) (hc : Chg lo hi w w') (hd : B ≤ lo ∨ hi ≤ L) : OX w' L B v xss := by
  obtain ⟨vs, hl, hr, hx, hD, hA⟩ := h
  exact ⟨vs, hl, hr.chg hc hd, fun i h h' => ⟨(hx i h h').1, (hx i h h').2.chg hc hd⟩, hD, hA⟩
theorem OX.more {w : World} {L B B' : Nat} {v : Value} {xss : List (List Int)} (h : OX w L B v xss) (hB : B ≤ B') : OX w L B' v xss := by
  obtain ⟨vs, hl, hr, hx, hD, hA⟩ := h
  exact ⟨vs, hl, hr.more hB, fun i h h' => ⟨(hx i h h').1, (hx i h h').2.more hB⟩, hD, hA⟩
theorem OX.nil (w : World) (L B : Nat) : OX w L B (.slice none 0 0) [] := ⟨[], rfl, OK.nil _ _ _ _, fun i h => absurd h (by simp), fun i j h => absurd h (by simp), fun _ _ i h => absurd h (by simp)⟩
theorem eqIntSS_k (L B L' B' : Nat) (A A' : Option Addr) (m m' c c' : Nat) (xss xss' : List (List Int)) (w : World) (hm : m = xss.length) (hm' : m' = xss'.length) (hl : SmallX xss) (hx : XS w L B A xss) (hx' : XS w L' B' A' xss') (hB : B ≤ w.heap.size) (hB' : B' ≤ w.heap.size) (heq : xss = xss') :
    Calls Try.prog 27 #[.slice A m c, .slice A' m' c'] w fun e w' => e = .returned (.bool true) ∧ Below w.heap.size w w' := by
  subst heq; subst hm; obtain rfl := hm'
  exact eqIntSS_any L B L' B' A A' c c' xss w hl.1 hl.rows hx hx' hB hB'
theorem marksSS_lens : ∀ (k0 : Int) (ns : List Nat), (marksSS k0 ns).map List.length = ns
  | _, [] => rfl
  | k0, n :: ns => by simp [marksSS, marksSS_lens, marks_len]
theorem heldIntSS_k (L B : Nat) (A : Option Addr) (c : Nat) (xss : List (List Int)) (n : Nat) (k0 : Int) (w : World) (hl : SmallX xss) (hn : n = xss.length) (hk0 : 0 ≤ k0) (hk1 : k0 ≤ 1000000) (hx : XS w L B A (marksSS k0 (xss.map List.length))) :
    Calls Try.prog 32 #[.slice A n c, .int .i64 k0] w fun e w' => e = .returned (.int .i64 (k0 + ((xss.map List.length).sum : Nat))) ∧ Below w.heap.size w w' := by
  subst hn
  have := heldIntSS_any L B A c (xss.map List.length) k0 w (by rw [List.length_map]; exact hl.1) hl.2 hk0 hk1 hx
  rw [List.length_map] at this
  exact this.mono fun e w' ⟨h1, h2⟩ => ⟨h1, by subst h2; exact Below.refl _ _⟩
theorem markIntSS_k (lo hi : Nat) (A : Option Addr) (c : Nat) (xss : List (List Int)) (k0 : Int) (w : World) (hl : SmallX xss) (hk0 : 0 ≤ k0) (hk1 : k0 ≤ 1000000) (hx : OX w lo hi (.slice A xss.length c) xss) :
    Calls Try.prog 31 #[.slice A xss.length c, .int .i64 k0] w (MarkedX w lo hi (.slice A xss.length c) xss k0) := markIntSS_any lo hi A c xss k0 w hl.1 hl.2 hk0 hk1 hx
end Go.Proofs.Ytpgdccfpegdcoaa
