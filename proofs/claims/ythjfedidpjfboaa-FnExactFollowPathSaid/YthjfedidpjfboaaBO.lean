import Derived.Test.YthjfedidpjfboaaSC
import Derived.WalkKit
import Derived.WalkSpells
import Derived.WalkLawsBesides
import Derived.Deep.RegionHeld3
import Derived.Lib.Hide
/- slices.Reverse of instructions, in place. -/
namespace Go.Proofs.Ythjfedidpjfboaa
open Go.RowKit
set_option linter.unusedVariables false
set_option maxRecDepth 100000

/-- k instructions of each end exchanged. -/
def revK (xs : List In) (k : Nat) : List In := (List.range xs.length).map fun m => if m < k ∨ xs.length ≤ m + k then xs.getD (xs.length - 1 - m) zeroIn else xs.getD m zeroIn
theorem revK_len (xs : List In) (k : Nat) : (revK xs k).length = xs.length := by simp [revK]
theorem revK_get {xs : List In} {k m : Nat} (h : m < (revK xs k).length) : (revK xs k)[m] = if m < k ∨ xs.length ≤ m + k then xs.getD (xs.length - 1 - m) zeroIn else xs.getD m zeroIn := by simp [revK]
theorem revK_zero (xs : List In) : revK xs 0 = xs := by
  refine List.ext_getElem (revK_len _ _) fun m h1 h2 => ?_
  rw [revK_get h1, if_neg (by omega)]; exact getD_in h2
theorem revK_mid {xs : List In} {k m : Nat} (h : m < (revK xs k).length) (h1 : k ≤ m) (h2 : m + k < xs.length) : (revK xs k)[m] = xs.getD m zeroIn := by
  rw [revK_get h, if_neg (by omega)]
theorem revK_succ {xs : List In} {k j : Nat} (hj : j + k + 1 = xs.length) (hk : k < j) : revK xs (k + 1) = ((revK xs k).set k (xs.getD j zeroIn)).set j (xs.getD k zeroIn) := by
  refine List.ext_getElem (by rw [List.length_set, List.length_set, revK_len, revK_len]) fun m h1 h2 => ?_
  have hm : m < xs.length := by rw [revK_len] at h1; exact h1
  rw [revK_get h1, List.getElem_set]
  by_cases e1 : j = m
  · rw [if_pos e1, if_pos (by omega)]; congr 1; omega
  · rw [if_neg e1, List.getElem_set]
    by_cases e2 : k = m
    · rw [if_pos e2, if_pos (by omega)]; congr 1; omega
    · rw [if_neg e2, revK_get]
      by_cases e3 : m < k ∨ xs.length ≤ m + k
      · rw [if_pos (by omega), if_pos e3]
      · rw [if_neg (by omega), if_neg e3]
theorem revK_end {xs : List In} {k : Nat} (h : xs.length ≤ k + k + 1) : revK xs k = xs.reverse := by
  refine List.ext_getElem (by rw [revK_len, List.length_reverse]) fun m h1 h2 => ?_
  have hm : m < xs.length := by rw [revK_len] at h1; exact h1
  rw [revK_get h1, List.getElem_reverse, ← getD_in]
  by_cases e : m < k ∨ xs.length ≤ m + k
  · rw [if_pos e]
  · rw [if_neg e]; congr 1; omega

theorem CB.five {w : World} {g : Nat} {xs : List In} {rest : List Value} (h : CB 90 w g (xs.flatMap In.enc ++ rest)) {i : Nat} (hi : i < xs.length) {x : In} (hx : xs[i] = x) :
    w.cell? ⟨g, i * 5, none⟩ = some (.string x.op) ∧ w.cell? ⟨g, i * 5 + 1, none⟩ = some (.int .i64 x.d) ∧ w.cell? ⟨g, i * 5 + 2, none⟩ = some (.int .i64 x.a) ∧ w.cell? ⟨g, i * 5 + 3, none⟩ = some (.int .i64 x.b) ∧ w.cell? ⟨g, i * 5 + 4, none⟩ = some (.int .i64 x.m) := by
  subst hx
  exact ⟨h.at In.hk i hi 0 _ rfl, h.at In.hk i hi 1 _ rfl, h.at In.hk i hi 2 _ rfl, h.at In.hk i hi 3 _ rfl, h.at In.hk i hi 4 _ rfl⟩

set_option maxHeartbeats 4000000 in
theorem revI_any (g c : Nat) (xs : List In) (rest : List Value) (w : World) (hl : xs.length ≤ 1048576) (hcb : CB 90 w g (xs.flatMap In.enc ++ rest)) :
    Calls Try.prog 99 #[.slice (some ⟨g, 0, none⟩) xs.length c] w fun e w' => e = .returned (.tuple #[]) ∧ CB 90 w' g (xs.reverse.flatMap In.enc ++ rest) ∧ Chg g (g + 1) w w' := by
  have hC0 := Lib.hid hcb
  have hz0 := Lib.hid (revK_zero xs)
  have hS := Lib.hid fun (k j : Nat) (hj : j + k + 1 = xs.length) (hk : k < j) => revK_succ (xs := xs) hj hk
  have hE := Lib.hid fun (k : Nat) (h : xs.length ≤ k + k + 1) => revK_end (xs := xs) h
  have hL := Lib.hid (revK_len xs)
  have hM := Lib.hid fun (k m : Nat) (h : m < (revK xs k).length) (h1 : k ≤ m) (h2 : m + k < xs.length) => revK_mid (xs := xs) h h1 h2
  clear hcb
  generalize revK xs = F at *
  obtain ⟨n, hn⟩ : ∃ n, n = xs.length := ⟨_, rfl⟩
  rw [← hn] at hl hS hE hL hM ⊢
  generalize xs.reverse = Z at *
  have hNN := Lib.hid hn
  clear hn
  have hw1 : IntKind.i64.wrap ((n : Int) - 1) = (n : Int) - 1 := by rw [IntKind.wrap_i64]; omega
  go_enter Try.func99, Try.ntmps99
  go_wp2
  go_loopw [2, 3] (fun i j wr => ∃ (k : Nat) (jz : Int), i = .int .i64 k ∧ j = .int .i64 jz ∧ jz + k + 1 = n ∧ k ≤ n ∧ CB 90 wr g ((F k).flatMap In.enc ++ rest) ∧ Chg g (g + 1) w wr) (fun i _ _ => n - (intOf i).toNat)
  case atStart => exact ⟨0, (n : Int) - 1, rfl, rfl, by omega, Nat.zero_le _, by rw [hz0.out]; exact hC0.out, Chg.refl _ _ _⟩
  case round =>
    obtain ⟨k, jz, rfl, rfl, hjz, hkn, hcb, hch⟩ := hrel
    have hCB := Lib.hid hcb
    have hCh := Lib.hid hch
    have hLk := hL.out k
    clear hch
    by_cases hlt : (k : Int) < jz
    · obtain ⟨j, rfl⟩ := Int.eq_ofNat_of_zero_le (show 0 ≤ jz by omega)
      have hj1 : (j : Int) < (n : Int) := by omega
      have hk1 : (k : Int) < (n : Int) := by omega
      have hj0 : (0 : Int) ≤ (j : Int) := by omega
      have hk0 : (0 : Int) ≤ (k : Int) := by omega
      have hjj : j < (F k).length := by omega
      have hkk : k < (F k).length := by omega
      have hSk := Lib.hid (hS.out k j (by omega) (by omega))
      have ex := Lib.hid (hM.out k k hkk (Nat.le_refl _) (by omega))
      have ey := Lib.hid (hM.out k j hjj (by omega) (by omega))
      generalize xs.getD k zeroIn = x at *
      generalize xs.getD j zeroIn = y at *
      have hJ := Lib.hid hjz
      have hLK := Lib.hid hLk
      obtain ⟨c1, c2, c3, c4, c5⟩ := CB.five hcb hkk ex.out
      obtain ⟨d1, d2, d3, d4, d5⟩ := CB.five hcb hjj ey.out
      have f1 := hcb.frozen (k * 5)
      have f2 := hcb.frozen (k * 5 + 1)
      have f3 := hcb.frozen (k * 5 + 2)
      have f4 := hcb.frozen (k * 5 + 3)
      have f5 := hcb.frozen (k * 5 + 4)
      have g1 := hcb.frozen (j * 5)
      have g2 := hcb.frozen (j * 5 + 1)
      have g3 := hcb.frozen (j * 5 + 2)
      have g4 := hcb.frozen (j * 5 + 3)
      have g5 := hcb.frozen (j * 5 + 4)
      obtain ⟨op, d, a, b1, m⟩ := x
      obtain ⟨op', d', a', b1', m'⟩ := y
      dsimp only at c1 c2 c3 c4 c5 d1 d2 d3 d4 d5
      have hkj := Lib.hid (show k < j by omega)
      have HK := Lib.hid hkk
      have HJ := Lib.hid hjj
      clear hcb hjz hLk hkk hjj ex ey
      generalize hFF : F (k + 1) = FF at *
      have HFF := Lib.hid hFF
      clear hFF
      generalize hFk : F k = Fk at *
      clear hFk
      go_wp2_with (fail)
      go_region_with (fail)
      all_goals
        have h1 := hCB.out.store In.hk k HK.out ⟨op', d', a', b1', m'⟩
        have h2 := h1.store In.hk j (by rw [List.length_set]; exact HJ.out) ⟨op, d, a, b1, m⟩
        have hfin := Lib.hid h2
        have hbf := Lib.hid (chg_setCells (In.enc ⟨op, d, a, b1, m⟩) g (j * 5) (chg_setCells (In.enc ⟨op', d', a', b1', m'⟩) g (k * 5) hCh.out ⟨Nat.le_refl _, Nat.lt_succ_self _⟩) ⟨Nat.le_refl _, Nat.lt_succ_self _⟩)
        clear h1 h2
        simp only [setCells, In.enc, Nat.add_assoc, Nat.reduceAdd] at hfin hbf
        clear c1 c2 c3 c4 c5 d1 d2 d3 d4 d5 f1 f2 f3 f4 f5 g1 g2 g3 g4 g5 hCB hCh
        generalize (World.setCell _ _ _) = W at hfin hbf ⊢
        go_wp2
        go_roundw
        case rel => exact ⟨k + 1, (j : Int) - 1, by go_num, rfl, by have := hJ.out; omega, by omega, by rw [HFF.out, hSk.out]; exact hfin.out, hbf.out.drew⟩
        case measure => simp [intOf]; omega
    · have hEk := Lib.hid (hE.out k (by omega))
      clear hLk
      go_wp2
      go_end0
      exact ⟨rfl, by rw [← hEk.out]; exact hCB.out, hCh.out⟩
theorem revI_nil (c : Nat) (w : World) : Calls Try.prog 99 #[.slice none 0 c] w fun e w' => e = .returned (.tuple #[]) ∧ w' = w := by
  go_enter Try.func99, Try.ntmps99
  go_wp2
  go_loopw [2, 3] (fun i j wr => i = .int .i64 0 ∧ j = .int .i64 (-1) ∧ wr = w) (fun _ _ _ => 0)
  case atStart => exact ⟨rfl, rfl, rfl⟩
  case round =>
    obtain ⟨rfl, rfl, rfl⟩ := hrel
    go_wp2
    go_end0
    exact ⟨rfl, rfl⟩
end Go.Proofs.Ythjfedidpjfboaa
