import Derived.Test.YtaaloepoegehkaaSR
import Derived.Test.YtaaloepoegehkaaMP
import Derived.WalkKit
import Derived.WalkSpells
import Derived.WalkLawsBesides
import Derived.Lib.Hide
namespace Go.Proofs.Ytaaloepoegehkaa
open Go.RowKit
set_option linter.unusedVariables false
set_option maxRecDepth 100000

/-- A slice of ints that the call owns, the rest as it was. -/
def OwnI (lo : Nat) (w : World) (xs : List Int) (e : Ending) (w' : World) : Prop :=
  ∃ A c, e = .returned (.slice A xs.length c) ∧ OW w' lo w'.heap.size (.slice A xs.length c) xs ∧ Below w.heap.size w w'
theorem allLt_snoc {xs : List Int} {n : Int} {k : Nat} (h : k < xs.length) (ha : ∀ x ∈ xs.take k, x < n) (hx : xs[k] < n) : ∀ x ∈ xs.take (k + 1), x < n := by
  intro x hm
  rw [List.take_succ_eq_append_getElem h, List.mem_append] at hm
  rcases hm with hm | hm
  · exact ha x hm
  · simp at hm; subst hm; exact hx
theorem OW.dropNews {w : World} {lo hi g n c : Nat} {xs : List Int} (h : OW w lo hi (.slice (some ⟨g, 0, none⟩) n c) xs) (k : Nat) : ∀ j u, ((xs.drop k).map (Value.int .i64))[j]? = some u → w.cell? ((⟨g, k, none⟩ : Addr).add j) = some u := by
  intro j u hu
  rw [List.getElem?_map, List.getElem?_drop] at hu
  cases hx : xs[k + j]? with
  | none => rw [hx] at hu; cases hu
  | some x =>
    rw [hx] at hu
    obtain ⟨hj, rfl⟩ := List.getElem?_eq_some_iff.1 hx
    simp only [Option.map_some, Option.some.injEq] at hu
    have := h.at6 (k + j) hj
    rw [List.getD_eq_getElem?_getD, hx] at this
    simp only [Option.getD_some] at this
    rw [hu] at this
    unfold Addr.add; split
    · rename_i h0; subst h0; simpa using this
    · exact this
set_option maxHeartbeats 4000000 in
theorem l1Put_some (lo hi g c : Nat) (xs : List Int) (n : Int) (w : World) (hl : xs.length ≤ 1000000) (hx : OW w lo hi (.slice (some ⟨g, 0, none⟩) xs.length c) xs) (hlo : lo ≤ w.heap.size) (hhi : hi ≤ w.heap.size) :
    Calls Try.prog 232 #[.slice (some ⟨g, 0, none⟩) xs.length c, .int .i64 n] w (OwnI lo w (put xs n)) := by
  obtain ⟨i0, hi', hz0, hz1, hz2⟩ := info_parts Try.infoInt
  have hO := Lib.hid hx
  have hgl : g < w.heap.size := (hx.1.lt g rfl).2
  have hcap : xs.length ≤ c ∧ c ≤ maxLen := by
    rcases hx.1.2 with ⟨h0, _⟩ | ⟨g', cap, cur, e, _, _, h1, h2, _⟩
    · cases h0
    · injection e with _ _ e3; omega
  obtain ⟨hc1, hc2⟩ := hcap
  unfold maxLen at hc2
  have hb0 := Lib.hid ((Below.refl w.heap.size w).alloc (Nat.le_refl _) (.cells #[] 3))
  have hown0 := Lib.hid (World.ownsRow_made (base := w.heap.size) (e := 3) (size := 1) w #[] 0 (Nat.le_refl _) (by unfold maxLen; omega) (by simp))
  clear hx
  go_enter Try.func232, Try.ntmps232
  go_wp2
  go_loop [5] (fun i => ∃ k : Nat, k ≤ xs.length ∧ i = .int .i64 k ∧ ∀ x ∈ xs.take k, x < n) (fun i => xs.length - (intOf i).toNat)
  case atStart => exact ⟨0, Nat.zero_le _, rfl, by simp⟩
  case round =>
    obtain ⟨k, hk, rfl, ha⟩ := hrel
    have hA := Lib.hid ha
    clear ha
    have hnews1 : Hid (0 < k → ∃ a, some (⟨g, 0, none⟩ : Addr) = some a ∧ ∀ j u, ((xs.take k).map (Value.int .i64))[j]? = some u → (w.alloc (.cells #[] 3)).cell? (a.add j) = some u) := fun h0 => ((hO.out.short k hk).below hb0.out hhi).rs.news (by rw [List.length_take]; omega)
    by_cases hlt : k < xs.length
    · have hkc : (k : Int) < (c : Int) := by omega
      have hcell := hO.out.at6 k hlt
      have hgd : xs.getD k 0 = xs[k] := by rw [List.getD_eq_getElem?_getD, List.getElem?_eq_getElem hlt]; rfl
      rw [hgd] at hcell
      have hSn := Lib.hid (fun (hx : xs[k] < n) => allLt_snoc hlt hA.out hx)
      have hP := Lib.hid (fun (he : ¬ xs[k] < n) => put_at (n := n) hk hA.out (fun _ => he))
      have hD : Hid (xs.drop k = xs[k] :: xs.drop (k + 1)) := List.drop_eq_getElem_cons hlt
      clear hgd
      generalize xs[k] = y at *
      by_cases hy : y < n
      · go_wp2
        go_round
        case rel => exact ⟨k + 1, by omega, by go_num, hSn.out hy⟩
        case measure => simp [intOf]; omega
      · have hy' : n ≤ y := by omega
        by_cases hyn : y = n
        · have hR : Hid (put xs n = xs) := by rw [Hid, hP.out hy, hD.out]; simp [hyn]
          clear hy
          go_wp2
          go_ret
          rw [hR.out]
          exact ⟨_, _, rfl, ⟨hO.out.1, fun j hj => (hO.out.1.lt j hj).2⟩, Below.refl _ _⟩
        · have hR : Hid (put xs n = xs.take k ++ n :: xs.drop k) := by rw [Hid, hP.out hy, hD.out]; simp [hyn]
          have hyn' : (y == n) = false := by simp [hyn]
          clear hy
          go_wp2_with (first
            | (at_builtin; refine wpList_append_src rfl (.tmp 34) (.tmp 37) 34 rfl w.heap.size 3 i0 (.int .i64 0) 1 8 Try.underlying34 hi' hz0 hz1 hz2 rfl (by decide) _ 0 [] rfl hown0.out (some ⟨g, 0, none⟩) k c ((xs.take k).map (Value.int .i64)) rfl (by simp; omega) hnews1.out (oneI _) (by unfold maxLen; omega) (by omega) (by simp) ?_; intro v1 w1 hown1 hgr1 _; simp only [Nat.zero_add, List.nil_append] at hown1; have hb1 := Lib.hid (hb0.out.grown hgr1 (by simp) (fun j hj => by cases hj; exact Nat.le_refl _)); have hz1' := hb1.out.size)
            | (at_builtin; refine wpList_append_own _ rfl (.tmp 39) (.tmp 41) 34 rfl w.heap.size 3 i0 (.int .i64 0) 1 8 Try.underlying34 hi' hz0 hz1 hz2 rfl (by decide) v1 k _ rfl (hown1.alloc _) ⟨w1.heap.size, 0, none⟩ 1 1 [.int .i64 n] rfl rfl (new1 rfl) (one1 _) (by unfold maxLen; omega) (by omega) (by simp; omega) ?_; intro v2 w2 hown2 hgr2 _; have hb2 := Lib.hid ((hb1.out.alloc hz1' _).grown hgr2 (by simp; omega) (fun j hj => (hown1.lt j hj).1)); have hz2' := hb2.out.size; have hO2 := hO.out.below hb2.out (by omega))
            | (at_builtin; refine wpList_append_src rfl (.tmp 43) (.tmp 46) 34 rfl w.heap.size 3 i0 (.int .i64 0) 1 8 Try.underlying34 hi' hz0 hz1 hz2 rfl (by decide) v2 (k + 1) _ rfl hown2 _ (xs.length - k) _ ((xs.drop k).map (Value.int .i64)) rfl (by simp) (fun _ => ⟨_, rfl, hO2.dropNews k⟩) (oneI _) (by unfold maxLen; omega) (by omega) (by omega) ?_; intro v3 w3 hown3 hgr3 _; have hb3 := Lib.hid (hb2.out.grown hgr3 hz2' (fun j hj => (hown2.lt j hj).1))))
          simp only [List.append_assoc, List.singleton_append] at hown3
          have hrow : Hid (OW w3 w.heap.size w3.heap.size v3 (put xs n)) := by
            rw [hR.out]; exact OW.ofRow (n := k + 1 + (xs.length - k)) (by rw [List.map_append, List.map_cons]; exact hown3) (by simp; omega)
          obtain ⟨A', c', rfl, _⟩ := hrow.out.form
          clear hown3 hgr3 hown2 hgr2 hown1 hgr1
          go_wp2
          go_ret
          exact ⟨_, _, rfl, hrow.out.lower hlo, hb3.out⟩
    · have hke : k = xs.length := by omega
      have hR : Hid (put xs n = xs.take k ++ n :: xs.drop k) := by
        rw [Hid, put_at (n := n) hk hA.out (fun h => absurd h hlt)]; simp [hke]
      have hlt' : ¬ (k : Int) < (xs.length : Int) := by omega
      have hge : (xs.length : Int) ≤ (k : Int) := by omega
      clear hlt hke
      by_cases hkc : k < c
      · have hkc' : (k : Int) < (c : Int) := by omega
        go_wp2_with (first
          | (at_builtin; refine wpList_append_src rfl (.tmp 34) (.tmp 37) 34 rfl w.heap.size 3 i0 (.int .i64 0) 1 8 Try.underlying34 hi' hz0 hz1 hz2 rfl (by decide) _ 0 [] rfl hown0.out (some ⟨g, 0, none⟩) k c ((xs.take k).map (Value.int .i64)) rfl (by simp; omega) hnews1.out (oneI _) (by unfold maxLen; omega) (by omega) (by simp) ?_; intro v1 w1 hown1 hgr1 _; simp only [Nat.zero_add, List.nil_append] at hown1; have hb1 := Lib.hid (hb0.out.grown hgr1 (by simp) (fun j hj => by cases hj; exact Nat.le_refl _)); have hz1' := hb1.out.size)
          | (at_builtin; refine wpList_append_own _ rfl (.tmp 39) (.tmp 41) 34 rfl w.heap.size 3 i0 (.int .i64 0) 1 8 Try.underlying34 hi' hz0 hz1 hz2 rfl (by decide) v1 k _ rfl (hown1.alloc _) ⟨w1.heap.size, 0, none⟩ 1 1 [.int .i64 n] rfl rfl (new1 rfl) (one1 _) (by unfold maxLen; omega) (by omega) (by simp; omega) ?_; intro v2 w2 hown2 hgr2 _; have hb2 := Lib.hid ((hb1.out.alloc hz1' _).grown hgr2 (by simp; omega) (fun j hj => (hown1.lt j hj).1)); have hz2' := hb2.out.size; have hO2 := hO.out.below hb2.out (by omega))
          | (at_builtin; refine wpList_append_src rfl (.tmp 43) (.tmp 46) 34 rfl w.heap.size 3 i0 (.int .i64 0) 1 8 Try.underlying34 hi' hz0 hz1 hz2 rfl (by decide) v2 (k + 1) _ rfl hown2 _ (xs.length - k) _ ((xs.drop k).map (Value.int .i64)) rfl (by simp) (fun h => absurd h (by omega)) (oneI _) (by unfold maxLen; omega) (by omega) (by omega) ?_; intro v3 w3 hown3 hgr3 _; have hb3 := Lib.hid (hb2.out.grown hgr3 hz2' (fun j hj => (hown2.lt j hj).1))))
        simp only [List.append_assoc, List.singleton_append] at hown3
        have hrow : Hid (OW w3 w.heap.size w3.heap.size v3 (put xs n)) := by
          rw [hR.out]; exact OW.ofRow (n := k + 1 + (xs.length - k)) (by rw [List.map_append, List.map_cons]; exact hown3) (by simp; omega)
        obtain ⟨A', c', rfl, _⟩ := hrow.out.form
        clear hown3 hgr3 hown2 hgr2 hown1 hgr1
        go_wp2
        go_ret
        exact ⟨_, _, rfl, hrow.out.lower hlo, hb3.out⟩
      · obtain rfl : k = c := by omega
        go_wp2_with (first
          | (at_builtin; refine wpList_append_src rfl (.tmp 34) (.tmp 37) 34 rfl w.heap.size 3 i0 (.int .i64 0) 1 8 Try.underlying34 hi' hz0 hz1 hz2 rfl (by decide) _ 0 [] rfl hown0.out (some ⟨g, 0, none⟩) k k ((xs.take k).map (Value.int .i64)) rfl (by simp; omega) hnews1.out (oneI _) (by unfold maxLen; omega) (by omega) (by simp) ?_; intro v1 w1 hown1 hgr1 _; simp only [Nat.zero_add, List.nil_append] at hown1; have hb1 := Lib.hid (hb0.out.grown hgr1 (by simp) (fun j hj => by cases hj; exact Nat.le_refl _)); have hz1' := hb1.out.size)
          | (at_builtin; refine wpList_append_own _ rfl (.tmp 39) (.tmp 41) 34 rfl w.heap.size 3 i0 (.int .i64 0) 1 8 Try.underlying34 hi' hz0 hz1 hz2 rfl (by decide) v1 k _ rfl (hown1.alloc _) ⟨w1.heap.size, 0, none⟩ 1 1 [.int .i64 n] rfl rfl (new1 rfl) (one1 _) (by unfold maxLen; omega) (by omega) (by simp; omega) ?_; intro v2 w2 hown2 hgr2 _; have hb2 := Lib.hid ((hb1.out.alloc hz1' _).grown hgr2 (by simp; omega) (fun j hj => (hown1.lt j hj).1)); have hz2' := hb2.out.size; have hO2 := hO.out.below hb2.out (by omega))
          | (at_builtin; refine wpList_append_src rfl (.tmp 43) (.tmp 46) 34 rfl w.heap.size 3 i0 (.int .i64 0) 1 8 Try.underlying34 hi' hz0 hz1 hz2 rfl (by decide) v2 (k + 1) _ rfl hown2 _ _ _ ((xs.drop k).map (Value.int .i64)) rfl (by first | (simp; done) | (simp; omega)) (fun h => absurd h (by omega)) (oneI _) (by unfold maxLen; omega) (by omega) (by omega) ?_; intro v3 w3 hown3 hgr3 _; have hb3 := Lib.hid (hb2.out.grown hgr3 hz2' (fun j hj => (hown2.lt j hj).1))))
        simp only [List.append_assoc, List.singleton_append] at hown3
        have hrow : Hid (OW w3 w.heap.size w3.heap.size v3 (put xs n)) := by
          rw [hR.out]; exact OW.ofRow (by rw [List.map_append, List.map_cons]; exact hown3) (by simp; omega)
        obtain ⟨A', c', rfl, _⟩ := hrow.out.form
        clear hown3 hgr3 hown2 hgr2 hown1 hgr1
        go_wp2
        go_ret
        exact ⟨_, _, rfl, hrow.out.lower hlo, hb3.out⟩


set_option maxHeartbeats 4000000 in
theorem l1Put_nil (lo : Nat) (n : Int) (w : World) (hlo : lo ≤ w.heap.size) :
    Calls Try.prog 232 #[.slice none 0 0, .int .i64 n] w (OwnI lo w (put [] n)) := by
  obtain ⟨i0, hi', hz0, hz1, hz2⟩ := info_parts Try.infoInt
  have hb0 := Lib.hid ((Below.refl w.heap.size w).alloc (Nat.le_refl _) (.cells #[] 3))
  have hown0 := Lib.hid (World.ownsRow_made (base := w.heap.size) (e := 3) (size := 1) w #[] 0 (Nat.le_refl _) (by unfold maxLen; omega) (by simp))
  have hR := Lib.hid (put_nil n)
  go_enter Try.func232, Try.ntmps232
  go_wp2
  go_loop [5] (fun i => i = .int .i64 0) (fun i => 0)
  case atStart => rfl
  case round =>
    subst hrel
    go_wp2_with (first
            | (at_builtin; refine wpList_append_src rfl (.tmp 34) (.tmp 37) 34 rfl w.heap.size 3 i0 (.int .i64 0) 1 8 Try.underlying34 hi' hz0 hz1 hz2 rfl (by decide) _ 0 [] rfl hown0.out none 0 _ [] rfl (by simp) (fun h => absurd h (by omega)) (by simp) (by unfold maxLen; omega) (by omega) (by simp) ?_; intro v1 w1 hown1 hgr1 _; simp only [Nat.zero_add, List.nil_append] at hown1; have hb1 := Lib.hid (hb0.out.grown hgr1 (by simp) (fun j hj => by cases hj; exact Nat.le_refl _)); have hz1' := hb1.out.size)
            | (at_builtin; refine wpList_append_own _ rfl (.tmp 39) (.tmp 41) 34 rfl w.heap.size 3 i0 (.int .i64 0) 1 8 Try.underlying34 hi' hz0 hz1 hz2 rfl (by decide) v1 0 _ rfl (hown1.alloc _) ⟨w1.heap.size, 0, none⟩ 1 1 [.int .i64 n] rfl rfl (new1 rfl) (one1 _) (by unfold maxLen; omega) (by omega) (by simp; omega) ?_; intro v2 w2 hown2 hgr2 _; have hb2 := Lib.hid ((hb1.out.alloc hz1' _).grown hgr2 (by simp; omega) (fun j hj => (hown1.lt j hj).1)); have hz2' := hb2.out.size)
            | (at_builtin; refine wpList_append_src rfl (.tmp 43) (.tmp 46) 34 rfl w.heap.size 3 i0 (.int .i64 0) 1 8 Try.underlying34 hi' hz0 hz1 hz2 rfl (by decide) v2 (0 + 1) _ rfl hown2 none 0 _ [] rfl (by simp) (fun h => absurd h (by omega)) (by simp) (by unfold maxLen; omega) (by omega) (by omega) ?_; intro v3 w3 hown3 hgr3 _; have hb3 := Lib.hid (hb2.out.grown hgr3 hz2' (fun j hj => (hown2.lt j hj).1))))
    have hrow : Hid (OW w3 w.heap.size w3.heap.size v3 (put [] n)) := by
      rw [hR.out]; exact OW.ofRow (by simpa using hown3) rfl
    obtain ⟨A', c', rfl, _⟩ := hrow.out.form
    clear hown3 hgr3 hown2 hgr2 hown1 hgr1
    go_wp2
    go_ret
    exact ⟨_, _, rfl, hrow.out.lower hlo, hb3.out⟩
theorem l1Put_any (lo hi : Nat) (A : Option Addr) (m c : Nat) (xs : List Int) (n : Int) (w : World) (hm : m = xs.length) (hl : xs.length ≤ 1000000) (hx : OW w lo hi (.slice A m c) xs) (hlo : lo ≤ w.heap.size) (hhi : hi ≤ w.heap.size) :
    Calls Try.prog 232 #[.slice A m c, .int .i64 n] w (OwnI lo w (put xs n)) := by
  subst hm
  rcases hx.1.2 with ⟨h0, h1⟩ | ⟨g, cap, cur, e, _⟩
  · injection h0 with e1 e2 e3
    obtain rfl : xs = [] := List.eq_nil_of_length_eq_zero h1
    subst e1; subst e3
    exact l1Put_nil lo n w hlo
  · injection e with e1 e2 e3
    subst e1; subst e3
    exact l1Put_some lo hi g c xs n w hl hx hlo hhi
end Go.Proofs.Ytaaloepoegehkaa
