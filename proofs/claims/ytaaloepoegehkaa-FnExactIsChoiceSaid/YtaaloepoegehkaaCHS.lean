import Derived.Test.YtaaloepoegehkaaEB
import Derived.Test.YtaaloepoegehkaaKInstr
import Derived.Test.YtaaloepoegehkaaVC
import Derived.WalkKit
import Derived.WalkSpells
import Derived.WalkLawsBesides
import Derived.StillTailTactics
import Derived.Deep.QuietTactic
import Derived.BigQuiet
import Derived.Lib.Hide
/- Slices of strings: what the laws do with them. -/
namespace Go.Proofs.Ytaaloepoegehkaa
open Go.RowKit
set_option linter.unusedVariables false
set_option maxRecDepth 100000

theorem encS_len : ∀ s, (encS s).length = 1 := fun _ => rfl
theorem below_drewN9' {B : Nat} {a w : World} (h : Below B a w) (n : Nat) : Below B a (w.drewN n) := ⟨h.os, h.tape, h.output, h.size, h.block⟩
def SzStrs (w : World) (left : Int) (n : Nat) (e : Ending) (w' : World) : Prop := ∃ r : Int, e = .returned (.int .i64 r) ∧ r ≤ left ∧ (0 ≤ r → (n : Int) ≤ left) ∧ -1 ≤ r ∧ w = w'
theorem szStringS_any (L B : Nat) (A : Option Addr) (c : Nat) (ss : List ByteArray) (left0 : Int) (w : World) (hl : ss.length ≤ 9223372036854775807) (hes : SS w L B A ss) (hs : ∀ s ∈ ss, s.size ≤ 9223372036854775807) (h0 : 0 ≤ left0) (h1 : left0 ≤ 1048576) :
    Calls Try.prog 106 #[.slice A ss.length c, .int .i64 left0] w (SzStrs w left0 ss.length) := by
  have hE := Lib.hid hes
  have hS := Lib.hid hs
  clear hes hs
  have hw0 : IntKind.i64.wrap (left0 - (ss.length : Int)) = left0 - (ss.length : Int) := IntWalk.i64_in _ (by omega)
  by_cases h : (ss.length : Int) ≤ left0
  · go_enter Try.func106, Try.ntmps106
    go_wp2
    go_loop [1, 5] (fun l i => ∃ (k : Nat) (left : Int), k ≤ ss.length ∧ i = .int .i64 k ∧ l = .int .i64 left ∧ 0 ≤ left ∧ left ≤ left0) (fun _ i => ss.length - (intOf i).toNat)
    case atStart => exact ⟨0, left0 - ss.length, Nat.zero_le _, rfl, rfl, by omega, by omega⟩
    case round =>
      obtain ⟨k, left, hk, rfl, rfl, hl0, hl1⟩ := hrel
      by_cases hlt : k < ss.length
      · obtain ⟨b, o, rfl, _, hc⟩ := (hE.out).at_ hlt
        have hsz := hS.out _ (List.getElem_mem hlt)
        generalize ss[k] = s at *
        have hki : (k : Int) < (ss.length : Int) := by omega
        have hk0 : (0 : Int) ≤ (k : Int) := by omega
        have hw1 : IntKind.i64.wrap (left - (s.size : Int)) = left - (s.size : Int) := IntWalk.i64_in _ (by omega)
        by_cases hr : 0 ≤ left - (s.size : Int)
        · go_wp2
          go_round
          case rel => exact ⟨k + 1, left - s.size, by omega, by go_num, rfl, hr, by omega⟩
          case measure => simp [intOf]; omega
        · go_wp2
          go_ret
          exact ⟨-1, rfl, by omega, fun _ => by omega, by omega, rfl⟩
      · obtain rfl : k = ss.length := by omega
        go_wp2
        go_ret
        exact ⟨left, rfl, by omega, fun _ => h, by omega, rfl⟩
  · go_enter Try.func106, Try.ntmps106
    go_wp2
    go_ret
    exact ⟨-1, rfl, by omega, fun _ => by omega, by omega, rfl⟩

theorem Try.infoStr9 : (Try.prog.info? 9).map (fun i => (i.zero, i.size, i.bytes)) = some (some (.string ByteArray.empty), 1, 16) := by kernel_rfl
theorem run_make_strs (n : Nat) (hn : n ≤ 1048576) (W : World) : (Instr.makeSlice 60 (.int .i64 (n : Int)) (.int .i64 (n : Int))).run Try.prog W = .ok (.slice (some ⟨W.heap.size, 0, none⟩) n n) (W.alloc (.cells ((List.replicate n ByteArray.empty).flatMap encS).toArray 9)) := by
  obtain ⟨i0, hi, hz0, hz1, hz2⟩ := info_parts Try.infoStr9
  have h := run_make (P := Try.prog) W 60 9 i0 _ Try.underlying60 hi hz0 .i64 .i64 n n (by omega) (by omega) (by rw [hz2]; omega) (by omega)
  rw [h]
  simp only [Int.toNat_natCast, hz1]
  refine congrArg (fun c => Result.ok (Value.slice (some ⟨W.heap.size, 0, none⟩) n n) (W.alloc (.cells c 9))) ?_
  apply Array.ext'
  exact made_flat encS_len ByteArray.empty n
def FreshStrs (w : World) (ss : List ByteArray) (e : Ending) (w' : World) : Prop :=
  ∃ A c, e = .returned (.slice A ss.length c) ∧ OK encS 1 9 w' w.heap.size w'.heap.size (.slice A ss.length c) ss ∧ Below w.heap.size w w'
theorem cbs_nil {t : TypeId} {w : World} {g : Nat} {xs : List ByteArray} (h : CB t w g (xs.flatMap encS ++ [])) : KB encS t w g xs := by
  unfold CB at h; unfold KB; rw [List.append_nil] at h; exact h
set_option maxHeartbeats 2000000 in
theorem toStringS_any (L B : Nat) (A : Option Addr) (c : Nat) (ss : List ByteArray) (w : World) (hl : ss.length ≤ 1048576) (hes : SS w L B A ss) (hB : B ≤ w.heap.size) :
    Calls Try.prog 108 #[.slice A ss.length c] w (FreshStrs w ss) := by
  have hmk := run_make_strs ss.length hl
  have hU0 : Hid (CB 9 (w.alloc (.cells ((List.replicate ss.length ByteArray.empty).flatMap encS).toArray 9)) w.heap.size ((over ss (List.replicate ss.length ByteArray.empty) 0).flatMap encS ++ [])) := by
    rw [over_zero, List.append_nil]; exact heap_alloc_new w _
  have hBel0 := (Below.refl w.heap.size w).alloc (Nat.le_refl _) (.cells ((List.replicate ss.length ByteArray.empty).flatMap encS).toArray 9)
  have hE := Lib.hid fun (W : World) (hW : Below w.heap.size w W) => (show SS W L B A ss from RS.below hes hW hB)
  clear hes
  go_enter Try.func108, Try.ntmps108
  go_wp2
  go_loopw [4] (fun i wr => ∃ k : Nat, k ≤ ss.length ∧ i = .int .i64 k ∧ CB 9 wr w.heap.size ((over ss (List.replicate ss.length ByteArray.empty) k).flatMap encS ++ []) ∧ Below w.heap.size w wr) (fun i _ => ss.length - (intOf i).toNat)
  case atStart => exact ⟨0, Nat.zero_le _, rfl, hU0.out, hBel0⟩
  case round =>
    obtain ⟨k, hk, rfl, hib, hbel⟩ := hrel
    have hIB := Lib.hid hib
    have hglt := hib.lt
    clear hib hmk hBel0 hU0
    by_cases hlt : k < ss.length
    · obtain ⟨b, o, rfl, ⟨_, hbB⟩, hc⟩ := (hE.out _ hbel).at_ hlt
      have hBelB := Lib.hid hbel
      have hov : Hid ((over ss (List.replicate ss.length ByteArray.empty) k).set k ss[k] = over ss (List.replicate ss.length ByteArray.empty) (k + 1)) := over_succ hlt (by simp)
      have hol : Hid ((over ss (List.replicate ss.length ByteArray.empty) k).length = ss.length) := by rw [Hid, over_len (by omega) (by simp)]; simp
      have hki : (k : Int) < (ss.length : Int) := by omega
      have hk0 : (0 : Int) ≤ (k : Int) := by omega
      have f1 := hIB.out.frozen k
      obtain ⟨u1, hu1⟩ : ∃ u, wr.cell? ⟨w.heap.size, k, none⟩ = some u := by
        have := CB.at encS_len hIB.out k (by rw [hol.out]; exact hlt) 0 _ rfl
        exact ⟨_, by simpa using this⟩
      have hst := Lib.hid <| show CB 9 (wr.setCell ⟨w.heap.size, k, none⟩ (.string ss[k])) w.heap.size ((over ss (List.replicate ss.length ByteArray.empty) (k + 1)).flatMap encS ++ []) from by
        have h1 := hIB.out.store encS_len k (by rw [hol.out]; exact hlt) ss[k]
        rw [hov.out] at h1
        simpa [setCells, encS] using h1
      have hbs := Lib.hid (hBelB.out.setCell (p := ⟨w.heap.size, k, none⟩) (Nat.le_refl _) (.string ss[k]))
      clear hbel
      generalize ss[k] = s at *
      go_wp2
      go_roundw
      case rel => exact ⟨k + 1, by omega, by go_num, hst.out, hbs.out⟩
      case measure => simp [intOf]; omega
    · obtain rfl : k = ss.length := by omega
      go_wp2
      go_ret
      refine ⟨_, _, rfl, ?_, hbel⟩
      have h1 := hIB.out
      rw [over_all (by simp)] at h1
      exact (cbs_nil h1).toOK encS_len (by unfold maxLen; omega) (Nat.le_refl _) hglt
set_option maxHeartbeats 2000000 in
theorem eqStringS_any (L B L' B' : Nat) (A A' : Option Addr) (m m' c c' : Nat) (ss : List ByteArray) (w : World) (hm : m = ss.length) (hm' : m' = ss.length) (hl : ss.length ≤ 1048576) (hes : SS w L B A ss) (hes' : SS w L' B' A' ss) :
    Calls Try.prog 115 #[.slice A m c, .slice A' m' c'] w fun e w' => e = .returned (.bool true) ∧ Below w.heap.size w w' := by
  subst hm
  obtain rfl := hm'
  have hE := Lib.hid hes
  have hE' := Lib.hid hes'
  have hBel0 := Lib.hid (Below.refl w.heap.size w)
  clear hes hes'
  go_enter Try.func115, Try.ntmps115
  go_wp2
  go_loopw [5] (fun i wr => ∃ k : Nat, k ≤ ss.length ∧ i = .int .i64 k ∧ ∃ n, wr = w.drewN n) (fun i _ => ss.length - (intOf i).toNat)
  case atStart => exact ⟨0, Nat.zero_le _, rfl, 0, rfl⟩
  case round =>
    obtain ⟨k, hk, rfl, n, rfl⟩ := hrel
    by_cases hlt : k < ss.length
    · obtain ⟨b, o, rfl, _, hc⟩ := (hE.out).at_ hlt
      obtain ⟨b', o', rfl, _, hc'⟩ := (hE'.out).at_ hlt
      have hki : (k : Int) < (ss.length : Int) := by omega
      have hk0 : (0 : Int) ≤ (k : Int) := by omega
      generalize ss[k] = s at *
      have d1 : (w.drewN n).cell? ⟨b, o + k, none⟩ = some (.string s) := hc
      have d2 : (w.drewN n).cell? ⟨b', o' + k, none⟩ = some (.string s) := hc'
      have e1 : (s.toList != s.toList) = false := by simp
      go_wp2_with (fail)
      go_quiet (fail)
      all_goals go_wp2
      all_goals go_roundw
      case rel => exact ⟨k + 1, by omega, by go_num, _, rfl⟩
      case measure => simp [intOf]; omega
    · obtain rfl : k = ss.length := by omega
      go_wp2
      go_ret
      exact ⟨rfl, below_drewN9' hBel0.out n⟩
def SzI9 (r : Int) (n : Nat) (w : World) (e : Ending) (w' : World) : Prop := ∃ r0 : Int, e = .returned (.int .i64 r0) ∧ -1 ≤ r0 ∧ r0 ≤ r ∧ (0 ≤ r0 → r0 = r - (n : Int)) ∧ w = w'
theorem szIntS9_any (A : Option Addr) (c n : Nat) (r : Int) (w : World) (hr0 : 0 ≤ r) (hr : r ≤ 1048576) (hn : n ≤ 9223372036854775807) :
    Calls Try.prog 67 #[.slice A n c, .int .i64 r] w (SzI9 r n w) := by
  have hw1 : IntKind.i64.wrap (r - (n : Int)) = r - (n : Int) := IntWalk.i64_in _ (by omega)
  by_cases h : r - (n : Int) < 0
  · go_enter Try.func67, Try.ntmps67
    go_wp2
    go_ret
    exact ⟨-1, rfl, by omega, by omega, fun h => by omega, rfl⟩
  · go_enter Try.func67, Try.ntmps67
    go_wp2
    go_ret
    exact ⟨r - (n : Int), rfl, by omega, by omega, fun _ => rfl, rfl⟩
end Go.Proofs.Ytaaloepoegehkaa
