import Derived.Test.YtmhdijklindipaaV3
import Derived.Test.YtmhdijklindipaaCA
import Derived.Test.YtmhdijklindipaaLI
import Derived.WalkKit
import Derived.WalkSpells
import Derived.WalkLawsBesides
import Derived.Lib.Hide
namespace Go.Proofs.Ytmhdijklindipaa
open Go.RowKit
set_option linter.unusedVariables false
set_option maxRecDepth 100000

theorem oneI (xs : List Int) : ∀ u ∈ xs.map (Value.int .i64), u.oneCell' = true := by
  intro u hu; rw [List.mem_map] at hu; obtain ⟨x, _, rfl⟩ := hu; rfl
theorem OW.ofRow {w : World} {lo : Nat} {v : Value} {n : Nat} {xs : List Int} (h : w.ownsRow lo 3 1 v n (xs.map (Value.int .i64))) (hn : n = xs.length) : OW w lo w.heap.size v xs := by
  subst hn; exact ⟨h, fun k hk => (h.lt k hk).2⟩
theorem Try.infoInt' : (Try.prog.info? 3).map (fun i => (i.zero, i.size, i.bytes)) = some (some (.int .i64 0), 1, 8) := Try.infoInt

set_option maxHeartbeats 1000000 in
theorem l1Own_any (L B : Nat) (A : Option Addr) (c : Nat) (xs : List Int) (w : World) (hl : xs.length ≤ 1048576) (hx : IS w L B A xs) (hB : B ≤ w.heap.size) :
    Calls Try.prog 144 #[.slice A xs.length c] w (FreshI w xs) := by
  obtain ⟨i0, hi, hz0, hz1, hz2⟩ := info_parts Try.infoInt
  have hb0 := Lib.hid ((Below.refl w.heap.size w).alloc (Nat.le_refl _) (.cells #[] 3))
  have hnews := Lib.hid ((hx.below hb0.out hB).news)
  have hown := Lib.hid (World.ownsRow_made (base := w.heap.size) (e := 3) (size := 1) w #[] 0 (Nat.le_refl _) (by unfold maxLen; omega) (by simp))
  clear hx
  go_enter Try.func144, Try.ntmps144
  go_wp2_with (at_builtin; refine wpList_append_src rfl _ _ 27 rfl w.heap.size 3 i0 (.int .i64 0) 1 8 Try.underlying27 hi hz0 hz1 hz2 rfl (by decide) _ 0 [] rfl hown.out A xs.length c (xs.map (Value.int .i64)) rfl (by simp) hnews.out (oneI xs) (by unfold maxLen; omega) (by omega) (by simp) ?_; intro v' w1 hown' hgrow _)
  simp only [Nat.zero_add, List.nil_append] at hown'
  have ho : Hid (OW w1 w.heap.size w1.heap.size v' xs) := OW.ofRow hown' rfl
  have hb : Hid (Below w.heap.size w w1) := hb0.out.grown hgrow (by simp) (fun k hk => by cases hk; exact Nat.le_refl _)
  obtain ⟨A', c', rfl, _⟩ := ho.out.form
  clear hown' hgrow
  go_wp2
  go_ret
  exact ⟨_, _, rfl, ho.out, hb.out⟩

set_option maxHeartbeats 1000000 in
/-- slices.Clone of a slice of ints that lies in memory. -/
theorem CloneI_any (b o c : Nat) (xs : List Int) (L B : Nat) (w : World) (hl : xs.length ≤ 1048576) (hx : IS w L B (some ⟨b, o, none⟩) xs) (hB : B ≤ w.heap.size) :
    Calls Try.prog 239 #[.slice (some ⟨b, o, none⟩) xs.length c] w (FreshI w xs) := by
  obtain ⟨i0, hi, hz0, hz1, hz2⟩ := info_parts Try.infoInt
  have hb0 := Lib.hid ((Below.refl w.heap.size w).alloc (Nat.le_refl _) (.cells #[] 3))
  have hnews := Lib.hid ((hx.below hb0.out hB).news)
  have hown := Lib.hid (World.ownsRow_made (base := w.heap.size) (e := 3) (size := 1) w #[] 0 (Nat.le_refl _) (by unfold maxLen; omega) (by simp))
  clear hx
  have heq := Lib.run_eql_slice_nil (P := Try.prog) w 27 3 (some ⟨b, o, none⟩) xs.length c 0 0 Try.underlying27
  simp only [Option.isNone_some] at heq
  go_enter Try.func239, Try.ntmps239
  go_wp2_with (at_builtin; refine wpList_append_src rfl _ _ 27 rfl w.heap.size 3 i0 (.int .i64 0) 1 8 Try.underlying27 hi hz0 hz1 hz2 rfl (by decide) _ 0 [] rfl hown.out (some ⟨b, o, none⟩) xs.length c (xs.map (Value.int .i64)) rfl (by simp) hnews.out (oneI xs) (by unfold maxLen; omega) (by omega) (by simp) ?_; intro v' w1 hown' hgrow _)
  simp only [Nat.zero_add, List.nil_append] at hown'
  have ho : Hid (OW w1 w.heap.size w1.heap.size v' xs) := OW.ofRow hown' rfl
  have hb : Hid (Below w.heap.size w w1) := hb0.out.grown hgrow (by simp) (fun k hk => by cases hk; exact Nat.le_refl _)
  obtain ⟨A', c', rfl, _⟩ := ho.out.form
  clear hown' hgrow
  go_wp2
  go_ret
  exact ⟨_, _, rfl, ho.out, hb.out⟩

def allIn (xs : List Int) (lo hi : Int) : Bool := xs.all fun x => inR x lo hi
theorem allIn_snoc {xs : List Int} {lo hi : Int} {k : Nat} (h : k < xs.length) : allIn (xs.take (k + 1)) lo hi = (allIn (xs.take k) lo hi && inR xs[k] lo hi) := by
  unfold allIn; rw [List.take_succ_eq_append_getElem h, List.all_append]; simp
theorem allIn_of {xs : List Int} {lo hi : Int} {k : Nat} (h : allIn (xs.take k) lo hi = false) : allIn xs lo hi = false := by
  cases hh : allIn xs lo hi
  · rfl
  · unfold allIn at *; rw [← List.take_append_drop k xs, List.all_append] at hh; simp [h] at hh
theorem l1All_any (L B : Nat) (A : Option Addr) (c : Nat) (xs : List Int) (lo hi : Int) (w : World) (hl : xs.length ≤ 1048576) (hx : IS w L B A xs) :
    Calls Try.prog 190 #[.slice A xs.length c, .int .i64 lo, .int .i64 hi] w fun e w' => e = .returned (.bool (allIn xs lo hi)) ∧ w = w' := by
  have hX := Lib.hid hx; clear hx
  go_enter Try.func190, Try.ntmps190
  go_wp2
  go_loop [8, 11] (fun _ i => ∃ k : Nat, k ≤ xs.length ∧ i = .int .i64 k ∧ allIn (xs.take k) lo hi = true) (fun _ i => xs.length - (intOf i).toNat)
  case atStart => exact ⟨0, Nat.zero_le _, rfl, rfl⟩
  case round =>
    obtain ⟨k, hk, rfl, hh⟩ := hrel
    have hH := Lib.hid hh; clear hh
    by_cases hlt : k < xs.length
    · obtain ⟨b, o, rfl, _, hc⟩ := hX.out (by omega)
      have hcell := hc k hlt
      clear hc
      have hS := Lib.hid (allIn_snoc (lo := lo) (hi := hi) hlt)
      generalize xs[k] = x at *
      cases hb : inR x lo hi
      · have hF : Hid (allIn xs lo hi = false) := allIn_of (k := k + 1) (by rw [hS.out, hb]; simp)
        go_wp2_with (go_at_call 169; refine (l1In_r _ _ _ _).mono ?_; rintro e w' ⟨rfl, rfl⟩)
        go_ret
        exact ⟨ret_bool hF.out.symm, rfl⟩
      · have hb' := Lib.hid hb
        go_wp2_with (go_at_call 169; refine (l1In_r _ _ _ _).mono ?_; rintro e w' ⟨rfl, rfl⟩)
        go_round
        case rel => exact ⟨k + 1, by omega, by go_num, by rw [hS.out, hH.out, hb'.out]; rfl⟩
        case measure => simp [intOf]; omega
    · obtain rfl : k = xs.length := by omega
      go_wp2
      go_ret
      exact ⟨ret_bool (by have := hH.out; rw [List.take_length] at this; rw [this]), rfl⟩
def regsOk (xs : List Int) : Bool := xs.length == 6 && allIn xs 0 63
theorem cdRegs_any (L B : Nat) (A : Option Addr) (c : Nat) (xs : List Int) (w : World) (hl : xs.length ≤ 1048576) (hx : IS w L B A xs) :
    Calls Try.prog 143 #[.slice A xs.length c] w fun e w' => e = .returned (.bool (regsOk xs)) ∧ w = w' := by
  have H := Lib.hid (l1All_any L B A c xs 0 63 w hl hx)
  clear hx
  by_cases h6 : xs.length = 6
  · have hR : Hid (regsOk xs = allIn xs 0 63) := by simp [Hid, regsOk, h6]
    have h6' : ((xs.length : Int) == 6) = true := by simp; omega
    have h6'' : decide ((xs.length : Int) = 6) = true := by simp; omega
    clear h6
    go_enter Try.func143, Try.ntmps143
    go_wp2_with (fail)
    refine H.out.mono ?_
    rintro e w' ⟨rfl, rfl⟩
    go_wp2
    go_ret
    exact ⟨ret_bool hR.out.symm, rfl⟩
  · have hR : Hid (regsOk xs = false) := by simp [Hid, regsOk, h6]
    have h6' : ((xs.length : Int) == 6) = false := by simp; omega
    have h6'' : decide ((xs.length : Int) = 6) = false := by simp; omega
    clear h6
    go_enter Try.func143, Try.ntmps143
    go_wp2
    go_ret
    exact ⟨ret_bool hR.out.symm, rfl⟩
end Go.Proofs.Ytmhdijklindipaa
