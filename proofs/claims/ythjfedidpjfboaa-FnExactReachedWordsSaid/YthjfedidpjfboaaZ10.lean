/- Texts of this proof, one behind the other: B2, C, D2, E, D, F. -/
import Derived.Test.YthjfedidpjfboaaZ11
import Derived.Test.YthjfedidpjfboaaCV
import Derived.WalkKit
import Derived.WalkSpells
import Derived.WalkLawsBesides
import Derived.Lib.Hide
import Derived.Test.YthjfedidpjfboaaN
import Derived.Test.YthjfedidpjfboaaZ13
import Derived.Test.YthjfedidpjfboaaLI
import Derived.Laws.MakeOwn
namespace Go.Proofs.Ythjfedidpjfboaa
open Go.RowKit

def opArr : Array Value := #[.string ⟨#[97,100,100]⟩, .string ⟨#[115,117,98]⟩, .string ⟨#[109,117,108]⟩, .string ⟨#[97,110,100]⟩, .string ⟨#[111,114]⟩, .string ⟨#[120,111,114]⟩, .string ⟨#[115,104,108]⟩, .string ⟨#[115,104,114]⟩, .string ⟨#[108,101,115,115]⟩, .string ⟨#[101,113]⟩]
def opList : List ByteArray := [⟨#[97,100,100]⟩, ⟨#[115,117,98]⟩, ⟨#[109,117,108]⟩, ⟨#[97,110,100]⟩, ⟨#[111,114]⟩, ⟨#[120,111,114]⟩, ⟨#[115,104,108]⟩, ⟨#[115,104,114]⟩, ⟨#[108,101,115,115]⟩, ⟨#[101,113]⟩]
theorem hasS_ops (s : ByteArray) : hasS opList s = isTwo s := by
  have e : opList.map ByteArray.toList = twoOps := by decide +kernel
  unfold hasS isTwo; rw [← e, List.any_map]; rfl

theorem exOps_any (w : World) : Calls Try.prog 200 #[] w fun e w' => e = .returned (.slice (some ⟨w.heap.size, 0, none⟩) 10 10) ∧ w.alloc (.cells opArr 9) = w' := by
  go_enter Try.func200, Try.ntmps200
  go_wp2
  go_ret
  exact ⟨rfl, rfl⟩

theorem opArr_cell (k : Nat) (h : k < opList.length) : opArr[k]? = some (.string opList[k]) := by
  match k, h with
  | 0, _ => rfl
  | 1, _ => rfl
  | 2, _ => rfl
  | 3, _ => rfl
  | 4, _ => rfl
  | 5, _ => rfl
  | 6, _ => rfl
  | 7, _ => rfl
  | 8, _ => rfl
  | 9, _ => rfl

theorem exTwo_any (s : ByteArray) (w : World) :
    Calls Try.prog 174 #[.string s] w fun e w' => e = .returned (.bool (isTwo s)) ∧ w.alloc (.cells opArr 9) = w' := by
  have HS := fun c => l1HasS_any w.heap.size 0 c opList s (w.alloc (.cells opArr 9)) (by decide) (fun k h => by
    rw [Nat.zero_add, cell_of_row _ w.heap.size k opArr 9 (0,0) (heap_alloc_new _ _)]; exact opArr_cell k h)
  rw [hasS_ops] at HS
  have HH := Lib.hid HS; clear HS
  go_enter Try.func174, Try.ntmps174
  go_wp2_with (fail)
  refine (exOps_any _).mono ?_
  rintro e w' ⟨rfl, rfl⟩
  go_wp2_with (fail)
  refine (HH.out _).mono ?_
  rintro e w' ⟨rfl, rfl⟩
  go_wp2
  go_ret
  exact ⟨rfl, rfl⟩
theorem ar_cases (s : ByteArray) : (ar s = 0 ∧ isOne s = false ∧ isTwo s = false) ∨ (ar s = 1 ∧ isOne s = true ∧ isTwo s = false) ∨ (ar s = 2 ∧ isOne s = false ∧ isTwo s = true) ∨ (ar s = -1 ∧ isOne s = false ∧ isTwo s = false) := by
  rcases op_cases s with h|h|h|h|h|h|h|h|h|h|h|h|h|h|h
  iterate 2 (· left; simp [ar, isIn, isConst, isOne, isTwo, twoOps, h])
  iterate 2 (· right; left; simp [ar, isIn, isConst, isOne, isTwo, twoOps, h])
  iterate 10 (· right; right; left; simp [ar, isIn, isConst, isOne, isTwo, twoOps, h])
  right; right; right
  obtain ⟨h1, h2, h3, h4, h5, h6, h7, h8, h9, h10, h11, h12, h13, h14⟩ := h
  have f : ∀ t : List UInt8, (s.toList == t) = false → (t == s.toList) = false := fun t h => by
    rw [beq_eq_false_iff_ne] at h ⊢; exact Ne.symm h
  simp only [ar, isIn, isConst, isOne, isTwo, twoOps, List.any_cons, List.any_nil, h1, h2, h3, h4, f _ h5, f _ h6, f _ h7, f _ h8, f _ h9, f _ h10, f _ h11, f _ h12, f _ h13, f _ h14, Bool.or_false, Bool.false_eq_true, if_false]
  simp

end Go.Proofs.Ythjfedidpjfboaa

namespace Go.Proofs.Ythjfedidpjfboaa
open Go.RowKit

set_option maxHeartbeats 1000000 in
theorem isLeafValue_any (s : ByteArray) (a b v : Int) (w : World) :
    Calls Try.prog 178 #[.agg #[.string s, .int .i64 a, .int .i64 b, .int .i64 v]] w fun e w' => e = .returned (.bool (leafV s v)) ∧ Below w.heap.size w w' := by
  have hB := Below.refl w.heap.size w
  have hB1 := fun o => hB.alloc (Nat.le_refl _) o
  cases h : isIn s
  · have h' : (s.toList == [105, 110]) = false := h
    have hr : Hid (leafV s v = isW v) := by simp [Hid, leafV, h]
    rw [hr.out]
    go_enter Try.func178, Try.ntmps178
    go_wp2_with (go_at_call 160; refine (isWord_any _ _).mono ?_; rintro e w' ⟨rfl, rfl⟩)
    go_ret
    exact ⟨rfl, hB1 _⟩
  · have h' : s.toList = [105, 110] := by simpa [isIn] using h
    have hr : Hid (leafV s v = inR v 0 1) := by simp [Hid, leafV, h]
    go_enter Try.func178, Try.ntmps178
    go_wp2
    all_goals go_ret
    all_goals exact ⟨ret_bool (by have := hr.out; simp_all <;> (rw [Bool.eq_iff_iff]; simp [inR] <;> omega)), hB1 _⟩

set_option maxHeartbeats 4000000 in
theorem isNodeAt_any (s : ByteArray) (a b v i : Int) (w : World) :
    Calls Try.prog 141 #[.agg #[.string s, .int .i64 a, .int .i64 b, .int .i64 v], .int .i64 i] w fun e w' => e = .returned (.bool (isNode ⟨s, a, b, v⟩ i)) ∧ Below w.heap.size w w' := by
  have hB := Below.refl w.heap.size w
  have hB1 := fun o => hB.alloc (Nat.le_refl _) o
  rcases ar_cases s with ⟨har, h3, h4⟩|⟨har, h3, h4⟩|⟨har, h3, h4⟩|⟨har, h3, h4⟩
  · have hr : Hid (∀ a b, isNode ⟨s, a, b, v⟩ i = (a == 0 && b == 0 && leafV s v)) := by
      have hio : isIn s = true ∨ isConst s = true := by
        unfold ar at har; cases h1 : isIn s <;> cases h2 : isConst s <;> simp [h1, h2, h3, h4] at har ⊢
      intro a b
      simp only [isNode, leafV]; cases h1 : isIn s <;> cases h2 : isConst s <;> simp [h1, h2] at hio ⊢
    go_enter Try.func141, Try.ntmps141
    go_wp2_with (first | (go_at_call 177; refine (operandCount_any _ _).mono ?_; rintro e w' ⟨rfl, rfl⟩) | (go_at_call 178; refine (isLeafValue_any _ _ _ _ _).mono ?_; rintro e w' ⟨rfl, hb1⟩))
    all_goals go_ret
    all_goals first
      | exact ⟨ret_bool (by rw [hr.out]; simp_all), (hB1 _).trans (hb1.mono (by simp))⟩
      | exact ⟨ret_bool (by rw [hr.out]; simp_all), hB1 _⟩
  · have hr : Hid (∀ a b v, isNode ⟨s, a, b, v⟩ i = (inR a 0 (i - 1) && b == 0 && v == 0)) := by
      intro a b v
      unfold ar at har
      simp only [isNode]; cases h1 : isIn s <;> cases h2 : isConst s <;> simp [h1, h2, h3, h4] at har ⊢
    go_enter Try.func141, Try.ntmps141
    go_wp2_with (first | (go_at_call 177; refine (operandCount_any _ _).mono ?_; rintro e w' ⟨rfl, rfl⟩) | (go_at_call 158; refine (isIndex_any _ _ _).mono ?_; rintro e w' ⟨rfl, rfl⟩))
    all_goals go_ret
    all_goals exact ⟨ret_bool (by rw [hr.out]; simp_all), hB1 _⟩
  · have hr : Hid (∀ a b v, isNode ⟨s, a, b, v⟩ i = (inR a 0 (i - 1) && inR b 0 (i - 1) && v == 0)) := by
      intro a b v
      unfold ar at har
      simp only [isNode]; cases h1 : isIn s <;> cases h2 : isConst s <;> simp [h1, h2, h3, h4] at har ⊢
    go_enter Try.func141, Try.ntmps141
    go_wp2_with (first | (go_at_call 177; refine (operandCount_any _ _).mono ?_; rintro e w' ⟨rfl, rfl⟩) | (go_at_call 158; refine (isIndex_any _ _ _).mono ?_; rintro e w' ⟨rfl, rfl⟩))
    all_goals go_ret
    all_goals exact ⟨ret_bool (by rw [hr.out]; simp_all), hB1 _⟩
  · have hr : Hid (isNode ⟨s, a, b, v⟩ i = false) := by
      unfold ar at har
      simp only [Hid, isNode]; cases h1 : isIn s <;> cases h2 : isConst s <;> simp [h1, h2, h3, h4] at har ⊢
    go_enter Try.func141, Try.ntmps141
    go_wp2_with (first | (go_at_call 177; refine (operandCount_any _ _).mono ?_; rintro e w' ⟨rfl, rfl⟩))
    go_ret
    exact ⟨ret_bool (by rw [hr.out]), hB1 _⟩
end Go.Proofs.Ythjfedidpjfboaa

namespace Go.Proofs.Ythjfedidpjfboaa
open Go.RowKit

/-- What parts' slice is: a name for the post. -/
def PartsAre (w : World) (xs : List Int) (e : Ending) (w' : World) : Prop :=
  ∃ A c, e = .returned (.slice A xs.length c) ∧ IS w' w.heap.size w'.heap.size A xs ∧ Below w.heap.size w w'

theorem is_lit1 {w : World} {g L B : Nat} {a : Int} {t : TypeId} (hg : w.heap.size = g) (hL : L ≤ g) (hB : g < B) : IS (w.alloc (.cells #[.int .i64 a] t)) L B (some ⟨g, 0, none⟩) [a] := by
  subst hg
  exact (show IB (w.alloc (.cells #[.int .i64 a] t)) w.heap.size t [a] from heap_alloc_new w _).toIS.more hL hB
theorem is_lit2 {w : World} {g L B : Nat} {a b : Int} {t : TypeId} (hg : w.heap.size = g) (hL : L ≤ g) (hB : g < B) : IS (w.alloc (.cells #[.int .i64 a, .int .i64 b] t)) L B (some ⟨g, 0, none⟩) [a, b] := by
  subst hg
  exact (show IB (w.alloc (.cells #[.int .i64 a, .int .i64 b] t)) w.heap.size t [a, b] from heap_alloc_new w _).toIS.more hL hB

set_option maxHeartbeats 4000000 in
theorem operandsOf_any (s : ByteArray) (a b v : Int) (w : World) :
    Calls Try.prog 180 #[.agg #[.string s, .int .i64 a, .int .i64 b, .int .i64 v]] w (PartsAre w (parts ⟨s, a, b, v⟩)) := by
  have hB1 := fun o => (Below.refl w.heap.size w).alloc (Nat.le_refl _) o
  have hB2 := fun o o' => (hB1 o).alloc (by simp) o'
  rcases ar_cases s with ⟨har, h3, h4⟩|⟨har, h3, h4⟩|⟨har, h3, h4⟩|⟨har, h3, h4⟩
  · have hr : parts ⟨s, a, b, v⟩ = [] := by simp [parts, h3, h4]
    rw [hr]
    clear hr
    go_enter Try.func180, Try.ntmps180
    go_wp2_with (first | (go_at_call 177; refine (operandCount_any _ _).mono ?_; rintro e w' ⟨rfl, rfl⟩))
    go_ret
    exact ⟨_, _, rfl, fun h => absurd h (by simp), hB1 _⟩
  · have hr : parts ⟨s, a, b, v⟩ = [a] := by simp [parts, h3]
    rw [hr]
    clear hr
    go_enter Try.func180, Try.ntmps180
    go_wp2_with (first | (go_at_call 177; refine (operandCount_any _ _).mono ?_; rintro e w' ⟨rfl, rfl⟩))
    go_ret
    refine ⟨_, _, rfl, ?_, hB2 _ _⟩
    refine is_lit1 ?_ ?_ ?_ <;> first | omega | (simp; done) | (simp; omega)
  · have hr : parts ⟨s, a, b, v⟩ = [a, b] := by simp [parts, h3, h4]
    rw [hr]
    clear hr
    go_enter Try.func180, Try.ntmps180
    go_wp2_with (first | (go_at_call 177; refine (operandCount_any _ _).mono ?_; rintro e w' ⟨rfl, rfl⟩))
    go_ret
    refine ⟨_, _, rfl, ?_, hB2 _ _⟩
    refine is_lit2 ?_ ?_ ?_ <;> first | omega | (simp; done) | (simp; omega)
  · have hr : parts ⟨s, a, b, v⟩ = [] := by simp [parts, h3, h4]
    rw [hr]
    clear hr
    go_enter Try.func180, Try.ntmps180
    go_wp2_with (first | (go_at_call 177; refine (operandCount_any _ _).mono ?_; rintro e w' ⟨rfl, rfl⟩))
    go_ret
    exact ⟨_, _, rfl, fun h => absurd h (by simp), hB1 _⟩

set_option maxHeartbeats 4000000 in
theorem exParts_any (s : ByteArray) (a b v : Int) (w : World) :
    Calls Try.prog 175 #[.agg #[.string s, .int .i64 a, .int .i64 b, .int .i64 v]] w (PartsAre w (parts ⟨s, a, b, v⟩)) := by
  have hB1 := fun o => (Below.refl w.heap.size w).alloc (Nat.le_refl _) o
  have hB2 := fun o o' => (hB1 o).alloc (by simp) o'
  have hB3 := fun o o' o'' => (hB2 o o').alloc (by simp; omega) o''
  rcases ar_cases s with ⟨har, h3, h4⟩|⟨har, h3, h4⟩|⟨har, h3, h4⟩|⟨har, h3, h4⟩
  · have hr : parts ⟨s, a, b, v⟩ = [] := by simp [parts, h3, h4]
    rw [hr]
    clear hr
    go_enter Try.func175, Try.ntmps175
    go_wp2_with (first | (go_at_call 173; refine (exOne_any _ _).mono ?_; rintro e w' ⟨rfl, rfl⟩) | (go_at_call 174; refine (exTwo_any _ _).mono ?_; rintro e w' ⟨rfl, rfl⟩))
    go_ret
    exact ⟨_, _, rfl, fun h => absurd h (by simp), hB2 _ _⟩
  · have hr : parts ⟨s, a, b, v⟩ = [a] := by simp [parts, h3]
    rw [hr]
    clear hr
    go_enter Try.func175, Try.ntmps175
    go_wp2_with (first | (go_at_call 173; refine (exOne_any _ _).mono ?_; rintro e w' ⟨rfl, rfl⟩) | (go_at_call 174; refine (exTwo_any _ _).mono ?_; rintro e w' ⟨rfl, rfl⟩))
    go_ret
    refine ⟨_, _, rfl, ?_, hB2 _ _⟩
    refine is_lit1 ?_ ?_ ?_ <;> first | omega | (simp; done) | (simp; omega)
  · have hr : parts ⟨s, a, b, v⟩ = [a, b] := by simp [parts, h3, h4]
    rw [hr]
    clear hr
    go_enter Try.func175, Try.ntmps175
    go_wp2_with (first | (go_at_call 173; refine (exOne_any _ _).mono ?_; rintro e w' ⟨rfl, rfl⟩) | (go_at_call 174; refine (exTwo_any _ _).mono ?_; rintro e w' ⟨rfl, rfl⟩))
    go_ret
    refine ⟨_, _, rfl, ?_, hB3 _ _ _⟩
    refine is_lit2 ?_ ?_ ?_ <;> first | omega | (simp; done) | (simp; omega)
  · have hr : parts ⟨s, a, b, v⟩ = [] := by simp [parts, h3, h4]
    rw [hr]
    clear hr
    go_enter Try.func175, Try.ntmps175
    go_wp2_with (first | (go_at_call 173; refine (exOne_any _ _).mono ?_; rintro e w' ⟨rfl, rfl⟩) | (go_at_call 174; refine (exTwo_any _ _).mono ?_; rintro e w' ⟨rfl, rfl⟩))
    go_ret
    exact ⟨_, _, rfl, fun h => absurd h (by simp), hB2 _ _⟩

end Go.Proofs.Ythjfedidpjfboaa

namespace Go.Proofs.Ythjfedidpjfboaa
open Go.RowKit
set_option linter.unusedVariables false

def UsesAre (w : World) (xs : List Int) (e : Ending) (w' : World) : Prop :=
  ∃ g, e = .returned (.slice (some ⟨g, 0, none⟩) xs.length xs.length) ∧ w.heap.size ≤ g ∧ IB w' g 3 xs ∧ Below w.heap.size w w'

set_option maxHeartbeats 4000000 in
theorem usesOf_any (L B : Nat) (A : Option Addr) (c : Nat) (es : List Nd) (w : World) (hl : es.length ≤ 24) (hes : NS w L B A es) (hB : B ≤ w.heap.size) (hp : ∀ n ∈ es, ∀ p ∈ parts n, 0 ≤ p ∧ p < es.length) :
    Calls Try.prog 143 #[.slice A es.length c] w (UsesAre w (uses es)) := by
  have hmk := run_make_ints es.length (by omega)
  have hU0 : Hid (IB (w.alloc (.cells (intCells (zeros es.length)) 3)) w.heap.size 3 (usesAt es 0)) := heap_alloc_new w _
  have hBel0 := (Below.refl w.heap.size w).alloc (Nat.le_refl _) (.cells (intCells (zeros es.length)) 3)
  have hE := Lib.hid hes
  have hP := Lib.hid hp
  clear hes hp
  go_enter Try.func143, Try.ntmps143
  go_wp2
  go_loopw [13] (fun i wr => ∃ k : Nat, k ≤ es.length ∧ i = .int .i64 k ∧ IB wr w.heap.size 3 (usesAt es k) ∧ Below w.heap.size w wr) (fun i _ => es.length - (intOf i).toNat)
  case atStart => exact ⟨0, Nat.zero_le _, rfl, hU0.out, hBel0⟩
  case round =>
    obtain ⟨k, hk, rfl, hib, hbel⟩ := hrel
    have hIB := Lib.hid hib
    have hglt := hib.lt
    clear hib hmk hBel0 hU0
    by_cases hlt : k < es.length
    · obtain ⟨b, o, rfl, ⟨_, hbB⟩, hc⟩ := (hE.out.below hbel hB) (by omega)
      obtain ⟨c1, c2, c3, c4⟩ := hc k hlt
      clear hc
      have hPk : Hid (∀ p ∈ parts es[k], 0 ≤ p ∧ p < es.length) := hP.out _ (List.getElem_mem hlt)
      have hSk := Lib.hid (usesAt_succ hlt)
      have hBd := Lib.hid (usesAt_Bd (es := es) (k := k) hk)
      have hLen := Lib.hid (usesAt_len es k)
      have hp2 := parts_len es[k]
      clear hP
      generalize hnd : es[k] = nd at *
      obtain ⟨s, a, bb, v⟩ := nd
      clear hnd
      go_wp2_with (fail)
      refine (operandsOf_any _ _ _ _ _).mono ?_
      rintro e w2 ⟨A2, cc, rfl, hIS, hb2⟩
      have hI2 := Lib.hid hIS
      have hbel2 : Below w.heap.size w w2 := hbel.trans (((Below.refl _ _).alloc hbel.size _).trans (hb2.mono (by simp; have := hbel.size; omega)))
      have hIB2 : Hid (IB w2 w.heap.size 3 (usesAt es k)) := (show IB _ _ _ _ from hIB.out).below ((Below.refl wr.heap.size wr).alloc (Nat.le_refl _) _ |>.trans (hb2.mono (by simp))) hglt
      have hsz2 := hb2.size
      simp at hsz2
      clear hIS hb2 hIB c1 c2 c3 c4 hbel
      generalize hps : parts ⟨s, a, bb, v⟩ = ps at *
      clear hps
      go_wp2_with (fail)
      go_loopw [20] (fun i wi => ∃ j : Nat, j ≤ ps.length ∧ i = .int .i64 j ∧ IB wi w.heap.size 3 ((ps.take j).foldl bump (usesAt es k)) ∧ Below w.heap.size w wi ∧ IS wi (w.heap.size + 1) wi.heap.size A2 ps) (fun i _ => ps.length - (intOf i).toNat)
      case atStart =>
        refine ⟨0, Nat.zero_le _, rfl, hIB2.out, hbel2, hI2.out.more ?_ (Nat.le_refl _)⟩
        simp; omega
      case round =>
        obtain ⟨j, hj, rfl, hib, hbel3, his⟩ := hrel
        have hIB3 := Lib.hid hib
        have hIS3 := Lib.hid his
        clear hib his
        by_cases hjt : j < ps.length
        · obtain ⟨b2, o2, rfl, hbb, hc⟩ := hIS3.out (by omega)
          have hcj := hc j hjt
          obtain ⟨hq0, hq1⟩ := hPk.out _ (List.getElem_mem hjt)
          obtain ⟨q, hq⟩ := Int.eq_ofNat_of_zero_le hq0
          have hql : q < es.length := by omega
          rw [hq] at hcj
          have hQ := Lib.hid hq
          clear hc hq hq0 hq1
          have hlen3 : ((ps.take j).foldl bump (usesAt es k)).length = es.length := by rw [foldl_bump_len]; exact hLen.out
          have hcu := hIB3.out.cell q (by rw [hlen3]; exact hql)
          have hfu := hIB3.out.frozen q
          have hbd3 := (foldl_bump_Bd (ps.take j) hBd.out) q
          have hlj : (ps.take j).length ≤ 2 := by rw [List.length_take]; omega
          have hsnoc : (ps.take (j + 1)).foldl bump (usesAt es k) = ((ps.take j).foldl bump (usesAt es k)).set q (((ps.take j).foldl bump (usesAt es k)).getD q 0 + 1) := by
            rw [List.take_succ_eq_append_getElem hjt, List.foldl_append, hQ.out]; rfl
          have hS3 := Lib.hid hsnoc
          generalize (ps.take j).foldl bump (usesAt es k) = us at *
          have hcu' : wr.cell? ⟨w.heap.size, q, none⟩ = some (.int .i64 (us.getD q 0)) := by
            rw [hcu, List.getD_eq_getElem?_getD, List.getElem?_eq_getElem (by omega)]; rfl
          clear hcu hsnoc hlen3
          generalize us.getD q 0 = x at *
          obtain ⟨hx0, hx1⟩ := hbd3
          have hx2 : x ≤ 1000 := by omega
          clear hx1
          have hkeep : ∀ p : Addr, p.block ≠ w.heap.size → (wr.setCell ⟨w.heap.size, q, none⟩ (.int .i64 (x + 1))).cell? p = wr.cell? p := fun p hne => World.cell?_setCell_other wr _ p _ (fun e => by subst e; exact hne rfl)
          have hK := Lib.hid hkeep
          clear hkeep
          go_wp2
          go_roundw
          case rel =>
            refine ⟨j + 1, by omega, by go_num, ?_, hbel3.setCell (Nat.le_refl _) _, ?_⟩
            · rw [hS3.out]; exact hIB3.out.set q (x + 1)
            · have := hIS3.out.keep (w' := wr.setCell ⟨w.heap.size, q, none⟩ (.int .i64 (x + 1))) fun p hp _ => hK.out p (by omega)
              exact this.more (Nat.le_refl _) (by simp [World.setCell])
          case measure => simp [intOf]; omega
        · obtain rfl : j = ps.length := by omega
          go_wp2
          go_roundw
          case rel =>
            refine ⟨k + 1, by omega, by go_num, ?_, hbel3⟩
            have := hIB3.out
            rw [List.take_length] at this
            rw [hSk.out]; exact this
          case measure => simp [intOf]; omega
    · obtain rfl : k = es.length := by omega
      go_wp2
      go_ret
      refine ⟨w.heap.size, ?_, Nat.le_refl _, hIB.out, hbel⟩
      rw [show (uses es).length = es.length from usesAt_len es _]
      rfl
set_option maxHeartbeats 4000000 in
theorem exUses_any (L B : Nat) (A : Option Addr) (c : Nat) (es : List Nd) (w : World) (hl : es.length ≤ 24) (hes : NS w L B A es) (hB : B ≤ w.heap.size) (hp : ∀ n ∈ es, ∀ p ∈ parts n, 0 ≤ p ∧ p < es.length) :
    Calls Try.prog 139 #[.slice A es.length c] w (UsesAre w (uses es)) := by
  have hmk := run_make_ints es.length (by omega)
  have hU0 : Hid (IB (w.alloc (.cells (intCells (zeros es.length)) 3)) w.heap.size 3 (usesAt es 0)) := heap_alloc_new w _
  have hBel0 := (Below.refl w.heap.size w).alloc (Nat.le_refl _) (.cells (intCells (zeros es.length)) 3)
  have hE := Lib.hid hes
  have hP := Lib.hid hp
  clear hes hp
  go_enter Try.func139, Try.ntmps139
  go_wp2
  go_loopw [13] (fun i wr => ∃ k : Nat, k ≤ es.length ∧ i = .int .i64 k ∧ IB wr w.heap.size 3 (usesAt es k) ∧ Below w.heap.size w wr) (fun i _ => es.length - (intOf i).toNat)
  case atStart => exact ⟨0, Nat.zero_le _, rfl, hU0.out, hBel0⟩
  case round =>
    obtain ⟨k, hk, rfl, hib, hbel⟩ := hrel
    have hIB := Lib.hid hib
    have hglt := hib.lt
    clear hib hmk hBel0 hU0
    by_cases hlt : k < es.length
    · obtain ⟨b, o, rfl, ⟨_, hbB⟩, hc⟩ := (hE.out.below hbel hB) (by omega)
      obtain ⟨c1, c2, c3, c4⟩ := hc k hlt
      clear hc
      have hPk : Hid (∀ p ∈ parts es[k], 0 ≤ p ∧ p < es.length) := hP.out _ (List.getElem_mem hlt)
      have hSk := Lib.hid (usesAt_succ hlt)
      have hBd := Lib.hid (usesAt_Bd (es := es) (k := k) hk)
      have hLen := Lib.hid (usesAt_len es k)
      have hp2 := parts_len es[k]
      clear hP
      generalize hnd : es[k] = nd at *
      obtain ⟨s, a, bb, v⟩ := nd
      clear hnd
      go_wp2_with (fail)
      refine (exParts_any _ _ _ _ _).mono ?_
      rintro e w2 ⟨A2, cc, rfl, hIS, hb2⟩
      have hI2 := Lib.hid hIS
      have hbel2 : Below w.heap.size w w2 := hbel.trans (((Below.refl _ _).alloc hbel.size _).trans (hb2.mono (by simp; have := hbel.size; omega)))
      have hIB2 : Hid (IB w2 w.heap.size 3 (usesAt es k)) := (show IB _ _ _ _ from hIB.out).below ((Below.refl wr.heap.size wr).alloc (Nat.le_refl _) _ |>.trans (hb2.mono (by simp))) hglt
      have hsz2 := hb2.size
      simp at hsz2
      clear hIS hb2 hIB c1 c2 c3 c4 hbel
      generalize hps : parts ⟨s, a, bb, v⟩ = ps at *
      clear hps
      go_wp2_with (fail)
      go_loopw [20] (fun i wi => ∃ j : Nat, j ≤ ps.length ∧ i = .int .i64 j ∧ IB wi w.heap.size 3 ((ps.take j).foldl bump (usesAt es k)) ∧ Below w.heap.size w wi ∧ IS wi (w.heap.size + 1) wi.heap.size A2 ps) (fun i _ => ps.length - (intOf i).toNat)
      case atStart =>
        refine ⟨0, Nat.zero_le _, rfl, hIB2.out, hbel2, hI2.out.more ?_ (Nat.le_refl _)⟩
        simp; omega
      case round =>
        obtain ⟨j, hj, rfl, hib, hbel3, his⟩ := hrel
        have hIB3 := Lib.hid hib
        have hIS3 := Lib.hid his
        clear hib his
        by_cases hjt : j < ps.length
        · obtain ⟨b2, o2, rfl, hbb, hc⟩ := hIS3.out (by omega)
          have hcj := hc j hjt
          obtain ⟨hq0, hq1⟩ := hPk.out _ (List.getElem_mem hjt)
          obtain ⟨q, hq⟩ := Int.eq_ofNat_of_zero_le hq0
          have hql : q < es.length := by omega
          rw [hq] at hcj
          have hQ := Lib.hid hq
          clear hc hq hq0 hq1
          have hlen3 : ((ps.take j).foldl bump (usesAt es k)).length = es.length := by rw [foldl_bump_len]; exact hLen.out
          have hcu := hIB3.out.cell q (by rw [hlen3]; exact hql)
          have hfu := hIB3.out.frozen q
          have hbd3 := (foldl_bump_Bd (ps.take j) hBd.out) q
          have hlj : (ps.take j).length ≤ 2 := by rw [List.length_take]; omega
          have hsnoc : (ps.take (j + 1)).foldl bump (usesAt es k) = ((ps.take j).foldl bump (usesAt es k)).set q (((ps.take j).foldl bump (usesAt es k)).getD q 0 + 1) := by
            rw [List.take_succ_eq_append_getElem hjt, List.foldl_append, hQ.out]; rfl
          have hS3 := Lib.hid hsnoc
          generalize (ps.take j).foldl bump (usesAt es k) = us at *
          have hcu' : wr.cell? ⟨w.heap.size, q, none⟩ = some (.int .i64 (us.getD q 0)) := by
            rw [hcu, List.getD_eq_getElem?_getD, List.getElem?_eq_getElem (by omega)]; rfl
          clear hcu hsnoc hlen3
          generalize us.getD q 0 = x at *
          obtain ⟨hx0, hx1⟩ := hbd3
          have hx2 : x ≤ 1000 := by omega
          clear hx1
          have hkeep : ∀ p : Addr, p.block ≠ w.heap.size → (wr.setCell ⟨w.heap.size, q, none⟩ (.int .i64 (x + 1))).cell? p = wr.cell? p := fun p hne => World.cell?_setCell_other wr _ p _ (fun e => by subst e; exact hne rfl)
          have hK := Lib.hid hkeep
          clear hkeep
          go_wp2
          go_roundw
          case rel =>
            refine ⟨j + 1, by omega, by go_num, ?_, hbel3.setCell (Nat.le_refl _) _, ?_⟩
            · rw [hS3.out]; exact hIB3.out.set q (x + 1)
            · have := hIS3.out.keep (w' := wr.setCell ⟨w.heap.size, q, none⟩ (.int .i64 (x + 1))) fun p hp _ => hK.out p (by omega)
              exact this.more (Nat.le_refl _) (by simp [World.setCell])
          case measure => simp [intOf]; omega
        · obtain rfl : j = ps.length := by omega
          go_wp2
          go_roundw
          case rel =>
            refine ⟨k + 1, by omega, by go_num, ?_, hbel3⟩
            have := hIB3.out
            rw [List.take_length] at this
            rw [hSk.out]; exact this
          case measure => simp [intOf]; omega
    · obtain rfl : k = es.length := by omega
      go_wp2
      go_ret
      refine ⟨w.heap.size, ?_, Nat.le_refl _, hIB.out, hbel⟩
      rw [show (uses es).length = es.length from usesAt_len es _]
      rfl
end Go.Proofs.Ythjfedidpjfboaa

namespace Go.Proofs.Ythjfedidpjfboaa
open Go.RowKit

theorem two_not_one (s : ByteArray) (h : isTwo s = true) : isOne s = false := by
  rcases ar_cases s with ⟨_, h3, h4⟩|⟨_, h3, h4⟩|⟨_, h3, h4⟩|⟨_, h3, h4⟩ <;> simp_all

set_option maxHeartbeats 4000000 in
theorem exNode_any (s : ByteArray) (a b v i : Int) (w : World) (hi : -1000000 ≤ i) (hi2 : i ≤ 1000000) :
    Calls Try.prog 138 #[.agg #[.string s, .int .i64 a, .int .i64 b, .int .i64 v], .int .i64 i] w fun e w' => e = .returned (.bool (isNode ⟨s, a, b, v⟩ i)) ∧ Below w.heap.size w w' := by
  have hB := Below.refl w.heap.size w
  have hB1 := fun o => hB.alloc (Nat.le_refl _) o
  have hB2 := fun o o' => (hB1 o).alloc (by simp) o'
  by_cases hin : isIn s = true
  · have h' : s.toList = [105, 110] := by simpa [isIn] using hin
    have hr : Hid (∀ a b v, isNode ⟨s, a, b, v⟩ i = (a == 0 && b == 0 && inR v 0 1)) := by intro a b v; simp [isNode, hin]
    clear hin
    go_enter Try.func138, Try.ntmps138
    go_wp2_with (first | (go_at_call 137; refine (l1In_r _ _ _ _).mono ?_; rintro e w' ⟨rfl, rfl⟩))
    all_goals go_ret
    all_goals exact ⟨ret_bool (by rw [hr.out]; simp_all), hB1 _⟩
  have hin' : (s.toList == [105, 110]) = false := by simpa [isIn] using hin
  by_cases hco : isConst s = true
  · have h' : s.toList = [99,111,110,115,116] := by simpa [isConst] using hco
    have hr : Hid (∀ a b v, isNode ⟨s, a, b, v⟩ i = (a == 0 && b == 0 && isW v)) := by intro a b v; simp [isNode, hin, hco]
    clear hin hin' hco
    go_enter Try.func138, Try.ntmps138
    go_wp2_with (first | (go_at_call 172; refine (exWord_w _ _).mono ?_; rintro e w' ⟨rfl, rfl⟩))
    all_goals go_ret
    all_goals exact ⟨ret_bool (by rw [hr.out]; simp_all), hB1 _⟩
  have hco' : (s.toList == [99,111,110,115,116]) = false := by simpa [isConst] using hco
  by_cases hon : isOne s = true
  · have hr : Hid (∀ a b v, isNode ⟨s, a, b, v⟩ i = (inR a 0 (i - 1) && b == 0 && v == 0)) := by intro a b v; simp [isNode, hin, hco, hon]
    clear hin hco
    go_enter Try.func138, Try.ntmps138
    go_wp2_with (first | (go_at_call 173; refine (exOne_any _ _).mono ?_; rintro e w' ⟨rfl, rfl⟩) | (go_at_call 137; refine (l1In_r _ _ _ _).mono ?_; rintro e w' ⟨rfl, rfl⟩))
    all_goals go_ret
    all_goals exact ⟨ret_bool (by rw [hr.out]; simp_all), hB1 _⟩
  · simp at hon
    have hr : Hid (∀ a b v, isNode ⟨s, a, b, v⟩ i = (isTwo s && inR a 0 (i - 1) && inR b 0 (i - 1) && v == 0)) := by intro a b v; simp [isNode, hin, hco, hon]
    clear hin hco
    go_enter Try.func138, Try.ntmps138
    go_wp2_with (first | (go_at_call 173; refine (exOne_any _ _).mono ?_; rintro e w' ⟨rfl, rfl⟩) | (go_at_call 174; refine (exTwo_any _ _).mono ?_; rintro e w' ⟨rfl, rfl⟩) | (go_at_call 137; refine (l1In_r _ _ _ _).mono ?_; rintro e w' ⟨rfl, rfl⟩))
    all_goals go_ret
    all_goals exact ⟨ret_bool (by rw [hr.out]; simp_all), hB2 _ _⟩
end Go.Proofs.Ythjfedidpjfboaa

namespace Go.Proofs.Ythjfedidpjfboaa
open Go.RowKit
set_option linter.unusedVariables false

def okFrom : List Nd → Int → Bool
  | [], _ => true
  | n :: t, i => isNode n i && okFrom t (i + 1)
theorem okFrom_snoc (l : List Nd) (n : Nd) (i : Int) : okFrom (l ++ [n]) i = (okFrom l i && isNode n (i + l.length)) := by
  induction l generalizing i with
  | nil => simp [okFrom]
  | cons a l ih => simp only [List.cons_append, okFrom, ih, Bool.and_assoc, List.length_cons]; congr 3; omega
theorem okFrom_take {es : List Nd} {k : Nat} (h : k < es.length) : okFrom (es.take (k + 1)) 0 = (okFrom (es.take k) 0 && isNode es[k] k) := by
  rw [List.take_succ_eq_append_getElem h, okFrom_snoc, List.length_take]; congr 2; omega
theorem okFrom_pre {l r : List Nd} {i : Int} (h : okFrom (l ++ r) i = true) : okFrom l i = true := by
  induction l generalizing i with
  | nil => rfl
  | cons a l ih => simp only [List.cons_append, okFrom, Bool.and_eq_true] at h ⊢; exact ⟨h.1, ih h.2⟩
theorem okFrom_of_take {es : List Nd} {k : Nat} (h : okFrom (es.take k) 0 = false) : okFrom es 0 = false := by
  cases hh : okFrom es 0
  · rfl
  · rw [← List.take_append_drop k es] at hh; rw [okFrom_pre hh] at h; cases h

def good (es : List Nd) : Bool := decide (1 ≤ es.length) && decide (es.length ≤ 24) && okFrom es 0 && !(hasI ((uses es).take (es.length - 1)) 0)

theorem isNode_parts {n : Nd} {i : Int} (h : isNode n i = true) : ∀ p ∈ parts n, 0 ≤ p ∧ p ≤ i - 1 := by
  obtain ⟨s, a, b, v⟩ := n
  intro p hp
  unfold isNode at h
  unfold parts at hp
  have hx : isIn s = true → isOne s = false ∧ isTwo s = false := by
    intro h; have : ar s = 0 := by simp [ar, h]
    rcases ar_cases s with ⟨h1, h3, h4⟩|⟨h1, h3, h4⟩|⟨h1, h3, h4⟩|⟨h1, h3, h4⟩ <;> first | exact ⟨h3, h4⟩ | omega
  have hy : isConst s = true → isOne s = false ∧ isTwo s = false := by
    intro h; have : ar s = 0 := by simp [ar, h]
    rcases ar_cases s with ⟨h1, h3, h4⟩|⟨h1, h3, h4⟩|⟨h1, h3, h4⟩|⟨h1, h3, h4⟩ <;> first | exact ⟨h3, h4⟩ | omega
  dsimp only at h hp
  split at h
  · rename_i h1; rw [(hx h1).1, (hx h1).2] at hp; simp at hp
  · split at h
    · rename_i _ h1; rw [(hy h1).1, (hy h1).2] at hp; simp at hp
    · split at h
      · rename_i h1; rw [if_pos h1] at hp; simp at hp; subst hp; simp only [Bool.and_eq_true] at h; exact (inR_iff _ _ _).1 h.1.1
      · rename_i h1; rw [if_neg h1] at hp; simp only [Bool.and_eq_true] at h
        rw [if_pos h.1.1.1] at hp; simp at hp
        rcases hp with rfl | rfl
        · exact (inR_iff _ _ _).1 h.1.1.2
        · exact (inR_iff _ _ _).1 h.1.2
theorem ok_parts_aux : ∀ (es : List Nd) (i : Int), okFrom es i = true → ∀ n ∈ es, ∀ p ∈ parts n, 0 ≤ p ∧ p < i + es.length := by
  intro es
  induction es with
  | nil => intro i _ n hn; cases hn
  | cons a l ih =>
    intro i h n hn p hp
    simp only [okFrom, Bool.and_eq_true] at h
    rcases List.mem_cons.1 hn with rfl | hn
    · have := isNode_parts h.1 p hp; simp; omega
    · have := ih (i + 1) h.2 n hn p hp; simp; omega
theorem ok_parts {es : List Nd} (h : okFrom es 0 = true) : ∀ n ∈ es, ∀ p ∈ parts n, 0 ≤ p ∧ p < es.length := by
  intro n hn p hp; have := ok_parts_aux es 0 h n hn p hp; omega

theorem IB.take {w : World} {g : Nat} {t : TypeId} {xs : List Int} (h : IB w g t xs) (k : Nat) : IS w g (g + 1) (some ⟨g, 0, none⟩) (xs.take k) :=
  fun _ => ⟨g, 0, rfl, by omega, fun i hi => by
    rw [List.length_take] at hi
    rw [Nat.zero_add, h.cell i (by omega), List.getElem_take]⟩

set_option maxHeartbeats 4000000 in
theorem exGood_any (L B : Nat) (A : Option Addr) (c : Nat) (es : List Nd) (w : World) (hl : es.length ≤ 1048576) (hes : NS w L B A es) (hB : B ≤ w.heap.size) :
    Calls Try.prog 71 #[.slice A es.length c] w fun e w' => e = .returned (.bool (good es)) ∧ Below w.heap.size w w' := by
  have hE := Lib.hid hes
  have hBel0 := Below.refl w.heap.size w
  clear hes
  by_cases h24 : inR es.length 1 24 = true
  · obtain ⟨h1, h2⟩ := (inR_iff _ _ _).1 h24
    have hBB := Lib.hid hB
    go_enter Try.func71, Try.ntmps71
    go_wp2_with (go_at_call 137; refine (l1In_r _ _ _ _).mono ?_; rintro e w' ⟨rfl, rfl⟩)
    go_loopw [11] (fun i wr => ∃ k : Nat, k ≤ es.length ∧ i = .int .i64 k ∧ okFrom (es.take k) 0 = true ∧ Below w.heap.size w wr) (fun i _ => es.length - (intOf i).toNat)
    case atStart => exact ⟨0, Nat.zero_le _, rfl, rfl, hBel0⟩
    case round =>
      obtain ⟨k, hk, rfl, hok, hbel⟩ := hrel
      have hOK := Lib.hid hok
      clear hok
      by_cases hlt : k < es.length
      · obtain ⟨b, o, rfl, ⟨_, hbB⟩, hc⟩ := (hE.out.below hbel hBB.out) (by omega)
        obtain ⟨c1, c2, c3, c4⟩ := hc k hlt
        clear hc
        have hT := Lib.hid (okFrom_take hlt)
        generalize es[k] = nd at *
        obtain ⟨s, a, bb, v⟩ := nd
        have hBelB := Lib.hid hbel
        go_wp2_with (fail)
        refine (exNode_any _ _ _ _ _ _ (by omega) (by omega)).mono ?_
        rintro e w2 ⟨rfl, hb2⟩
        have hbel2 : Below w.heap.size w w2 := hBelB.out.trans (((Below.refl _ _).alloc hBelB.out.size _).trans (hb2.mono (by simp; have := hBelB.out.size; omega)))
        clear hb2 hbel c1 c2 c3 c4
        cases hn : isNode ⟨s, a, bb, v⟩ ↑k
        · have hG : Hid (good es = false) := by
            have : okFrom es 0 = false := okFrom_of_take (k := k + 1) (by rw [hT.out, hn]; simp)
            simp [Hid, good, this]
          go_wp2
          go_ret
          exact ⟨ret_bool hG.out.symm, hbel2⟩
        · have hN := Lib.hid hn
          go_wp2
          go_roundw
          case rel => exact ⟨k + 1, by omega, by go_num, by rw [hT.out, hOK.out, hN.out]; rfl, hbel2⟩
          case measure => simp [intOf]; omega
      · obtain rfl : k = es.length := by omega
        have hok : okFrom es 0 = true := by have := hOK.out; rwa [List.take_length] at this
        have hU := Lib.hid (exUses_any L B A c es wr (by omega) (hE.out.below hbel hBB.out) (Nat.le_trans hBB.out hbel.size) (ok_parts hok))
        have hG : Hid (good es = !(hasI ((uses es).take (es.length - 1)) 0)) := by
          have g1 : 1 ≤ es.length := by omega
          have g2 : es.length ≤ 24 := by omega
          simp [Hid, good, hok, g1, g2]
        have hBelB := Lib.hid hbel
        have hul : (uses es).length = es.length := usesAt_len es _
        have hUL := Lib.hid hul
        clear hok hul hbel
        go_wp2_with (fail)
        refine hU.out.mono ?_
        rintro e w2 ⟨g, rfl, hg, hib, hb2⟩
        have hI := Lib.hid hib
        have hbel2 := hBelB.out.trans (hb2.mono hBelB.out.size)
        clear hib hb2
        rw [hUL.out]
        go_wp2_with (fail)
        refine (l1Has_eq g (g + 1) _ _ _ ((uses es).take (es.length - 1)) 0 _ (by rw [List.length_take, hUL.out]; omega) (by rw [List.length_take, hUL.out]; omega) (hI.out.take _)).mono ?_
        rintro e w3 ⟨rfl, rfl⟩
        go_wp2
        go_ret
        exact ⟨ret_bool hG.out.symm, hbel2⟩
  · have hG : Hid (good es = false) := by
      have : ¬ (1 ≤ es.length ∧ es.length ≤ 24) := fun h => h24 ((inR_iff _ _ _).2 (by omega))
      simp only [Hid, good]
      by_cases h1 : 1 ≤ es.length
      · have : ¬ es.length ≤ 24 := by omega
        simp [this]
      · simp [h1]
    have h24' : inR es.length 1 24 = false := by simpa using h24
    clear h24
    go_enter Try.func71, Try.ntmps71
    go_wp2_with (go_at_call 137; refine (l1In_r _ _ _ _).mono ?_; rintro e w' ⟨rfl, rfl⟩)
    go_ret
    exact ⟨ret_bool hG.out.symm, hBel0⟩
end Go.Proofs.Ythjfedidpjfboaa
