/- Texts of this proof, one behind the other: CJ, CL, CN, LawA. -/
import Derived.Test.YtdleiondfhmjdaaCV
import Derived.Test.YtdleiondfhmjdaaCD
import Derived.Test.YtdleiondfhmjdaaCH
import Derived.Test.YtdleiondfhmjdaaMV
import Derived.Test.YtdleiondfhmjdaaCK
import Derived.WalkKit
import Derived.WalkSpells
import Derived.WalkLawsBesides
import Derived.Deep.QuietTactic
import Derived.BigQuiet
import Derived.Lib.Hide
import Derived.Test.YtdleiondfhmjdaaCI
import Derived.Deep.RegionHeld3
import Derived.Test.YtdleiondfhmjdaaKMInstr
namespace Go.Proofs.Ytdleiondfhmjdaa
open Go.RowKit
set_option linter.unusedVariables false
set_option maxRecDepth 100000

set_option maxHeartbeats 2000000 in
theorem valueOf_set (op : ByteArray) (d m : Int) (na nb : Nat) (b : Nat) (u v : Int) (w : World) (ha : na < 6) (hb : nb < 6) (hbb : b < w.heap.size) (ca : w.cell? ⟨b, na, none⟩ = some (.int .i64 u)) (cb : w.cell? ⟨b, nb, none⟩ = some (.int .i64 v)) (hu0 : 0 ≤ u) (hu1 : u ≤ 63) (hv0 : 0 ≤ v) (hv1 : v ≤ 63) (h : op.toList = [115,101,116]) (hm0 : 0 ≤ m) (hm1 : m ≤ 63) :
    Calls Try.prog 146 #[.pointer (some ⟨b, 0, none⟩), .agg #[.string op, .int .i64 d, .int .i64 na, .int .i64 nb, .int .i64 m]] w fun e w' => e = .returned (.int .i64 (vOf op m u v)) ∧ Below w.heap.size w w' := by
  have hR := Lib.hid (vOf_set h m u v)
  have hB1 := fun o => Lib.hid ((Below.refl w.heap.size w).alloc (Nat.le_refl _) o)
  have i0 : (0 : Int) ≤ (na : Int) := by omega
  have i1 : (na : Int) < 6 := by omega
  have j0 : (0 : Int) ≤ (nb : Int) := by omega
  have j1 : (nb : Int) < 6 := by omega
  go_enter Try.func146, Try.ntmps146
  go_wp2_with (fail)
  go_quiet (fail)
  go_wp2_with (fail)
  go_ret
  exact ⟨ret_int (by rw [hR.out]), below_drewN (hB1 _).out _⟩

set_option maxHeartbeats 2000000 in
theorem valueOf_mov (op : ByteArray) (d m : Int) (na nb : Nat) (b : Nat) (u v : Int) (w : World) (ha : na < 6) (hb : nb < 6) (hbb : b < w.heap.size) (ca : w.cell? ⟨b, na, none⟩ = some (.int .i64 u)) (cb : w.cell? ⟨b, nb, none⟩ = some (.int .i64 v)) (hu0 : 0 ≤ u) (hu1 : u ≤ 63) (hv0 : 0 ≤ v) (hv1 : v ≤ 63) (h : op.toList = [109,111,118]) (hm0 : 0 ≤ m) (hm1 : m ≤ 0) :
    Calls Try.prog 146 #[.pointer (some ⟨b, 0, none⟩), .agg #[.string op, .int .i64 d, .int .i64 na, .int .i64 nb, .int .i64 m]] w fun e w' => e = .returned (.int .i64 (vOf op m u v)) ∧ Below w.heap.size w w' := by
  have hR := Lib.hid (vOf_mov h m u v)
  have hB1 := fun o => Lib.hid ((Below.refl w.heap.size w).alloc (Nat.le_refl _) o)
  have i0 : (0 : Int) ≤ (na : Int) := by omega
  have i1 : (na : Int) < 6 := by omega
  have j0 : (0 : Int) ≤ (nb : Int) := by omega
  have j1 : (nb : Int) < 6 := by omega
  go_enter Try.func146, Try.ntmps146
  go_wp2_with (fail)
  go_quiet (fail)
  go_wp2_with (fail)
  go_ret
  exact ⟨ret_int (by rw [hR.out]), below_drewN (hB1 _).out _⟩

set_option maxHeartbeats 2000000 in
theorem valueOf_addi (op : ByteArray) (d m : Int) (na nb : Nat) (b : Nat) (u v : Int) (w : World) (ha : na < 6) (hb : nb < 6) (hbb : b < w.heap.size) (ca : w.cell? ⟨b, na, none⟩ = some (.int .i64 u)) (cb : w.cell? ⟨b, nb, none⟩ = some (.int .i64 v)) (hu0 : 0 ≤ u) (hu1 : u ≤ 63) (hv0 : 0 ≤ v) (hv1 : v ≤ 63) (h : op.toList = [97,100,100,105]) (hm0 : 0 ≤ m) (hm1 : m ≤ 63) :
    Calls Try.prog 146 #[.pointer (some ⟨b, 0, none⟩), .agg #[.string op, .int .i64 d, .int .i64 na, .int .i64 nb, .int .i64 m]] w fun e w' => e = .returned (.int .i64 (vOf op m u v)) ∧ Below w.heap.size w w' := by
  have hR := Lib.hid (vOf_addi h m u v)
  have hB1 := fun o => Lib.hid ((Below.refl w.heap.size w).alloc (Nat.le_refl _) o)
  have i0 : (0 : Int) ≤ (na : Int) := by omega
  have i1 : (na : Int) < 6 := by omega
  have j0 : (0 : Int) ≤ (nb : Int) := by omega
  have j1 : (nb : Int) < 6 := by omega
  obtain rfl := bytes_of h
  go_enter Try.func146, Try.ntmps146
  go_wp2_with (fail)
  go_quiet (fail)
  go_wp2_with (fail)
  obtain ⟨wq, hwq⟩ : ∃ wq : World, wq = (w.alloc (.cells #[.string ⟨#[97,100,100,105]⟩, .int .i64 d, .int .i64 na, .int .i64 nb, .int .i64 m] 70)).drewN nq := ⟨_, rfl⟩
  rw [← hwq]
  have hb1 : Hid (Below w.heap.size w wq) := by rw [hwq]; exact below_drewN (hB1 _).out _
  obtain ⟨xa, _, _, _, xe⟩ := In.old (x := ⟨⟨#[97,100,100,105]⟩, d, na, nb, m⟩) (w2 := wq) (t := 70) rfl (by rw [hwq]; exact below_drewN (Below.refl _ _) _)
  clear hwq
  go_quiet ((first | (go_at_call 164; exact Calls.quiet_of_same (same_flip (trim_addi _))) | (go_at_call 163; exact Calls.quiet_of_same (same_flip (valueOfOp_any _ _ _ _ (by omega) (by omega) (by omega) (by omega) op_add)))))
  go_wp2
  go_ret
  exact ⟨ret_int (by rw [hR.out]), below_drewN hb1.out _⟩

set_option maxHeartbeats 2000000 in
theorem valueOf_andi (op : ByteArray) (d m : Int) (na nb : Nat) (b : Nat) (u v : Int) (w : World) (ha : na < 6) (hb : nb < 6) (hbb : b < w.heap.size) (ca : w.cell? ⟨b, na, none⟩ = some (.int .i64 u)) (cb : w.cell? ⟨b, nb, none⟩ = some (.int .i64 v)) (hu0 : 0 ≤ u) (hu1 : u ≤ 63) (hv0 : 0 ≤ v) (hv1 : v ≤ 63) (h : op.toList = [97,110,100,105]) (hm0 : 0 ≤ m) (hm1 : m ≤ 63) :
    Calls Try.prog 146 #[.pointer (some ⟨b, 0, none⟩), .agg #[.string op, .int .i64 d, .int .i64 na, .int .i64 nb, .int .i64 m]] w fun e w' => e = .returned (.int .i64 (vOf op m u v)) ∧ Below w.heap.size w w' := by
  have hR := Lib.hid (vOf_andi h m u v)
  have hB1 := fun o => Lib.hid ((Below.refl w.heap.size w).alloc (Nat.le_refl _) o)
  have i0 : (0 : Int) ≤ (na : Int) := by omega
  have i1 : (na : Int) < 6 := by omega
  have j0 : (0 : Int) ≤ (nb : Int) := by omega
  have j1 : (nb : Int) < 6 := by omega
  obtain rfl := bytes_of h
  go_enter Try.func146, Try.ntmps146
  go_wp2_with (fail)
  go_quiet (fail)
  go_wp2_with (fail)
  obtain ⟨wq, hwq⟩ : ∃ wq : World, wq = (w.alloc (.cells #[.string ⟨#[97,110,100,105]⟩, .int .i64 d, .int .i64 na, .int .i64 nb, .int .i64 m] 70)).drewN nq := ⟨_, rfl⟩
  rw [← hwq]
  have hb1 : Hid (Below w.heap.size w wq) := by rw [hwq]; exact below_drewN (hB1 _).out _
  obtain ⟨xa, _, _, _, xe⟩ := In.old (x := ⟨⟨#[97,110,100,105]⟩, d, na, nb, m⟩) (w2 := wq) (t := 70) rfl (by rw [hwq]; exact below_drewN (Below.refl _ _) _)
  clear hwq
  go_quiet ((first | (go_at_call 164; exact Calls.quiet_of_same (same_flip (trim_andi _))) | (go_at_call 163; exact Calls.quiet_of_same (same_flip (valueOfOp_any _ _ _ _ (by omega) (by omega) (by omega) (by omega) op_and)))))
  go_wp2
  go_ret
  exact ⟨ret_int (by rw [hR.out]), below_drewN hb1.out _⟩

set_option maxHeartbeats 2000000 in
theorem valueOf_xori (op : ByteArray) (d m : Int) (na nb : Nat) (b : Nat) (u v : Int) (w : World) (ha : na < 6) (hb : nb < 6) (hbb : b < w.heap.size) (ca : w.cell? ⟨b, na, none⟩ = some (.int .i64 u)) (cb : w.cell? ⟨b, nb, none⟩ = some (.int .i64 v)) (hu0 : 0 ≤ u) (hu1 : u ≤ 63) (hv0 : 0 ≤ v) (hv1 : v ≤ 63) (h : op.toList = [120,111,114,105]) (hm0 : 0 ≤ m) (hm1 : m ≤ 63) :
    Calls Try.prog 146 #[.pointer (some ⟨b, 0, none⟩), .agg #[.string op, .int .i64 d, .int .i64 na, .int .i64 nb, .int .i64 m]] w fun e w' => e = .returned (.int .i64 (vOf op m u v)) ∧ Below w.heap.size w w' := by
  have hR := Lib.hid (vOf_xori h m u v)
  have hB1 := fun o => Lib.hid ((Below.refl w.heap.size w).alloc (Nat.le_refl _) o)
  have i0 : (0 : Int) ≤ (na : Int) := by omega
  have i1 : (na : Int) < 6 := by omega
  have j0 : (0 : Int) ≤ (nb : Int) := by omega
  have j1 : (nb : Int) < 6 := by omega
  obtain rfl := bytes_of h
  go_enter Try.func146, Try.ntmps146
  go_wp2_with (fail)
  go_quiet (fail)
  go_wp2_with (fail)
  obtain ⟨wq, hwq⟩ : ∃ wq : World, wq = (w.alloc (.cells #[.string ⟨#[120,111,114,105]⟩, .int .i64 d, .int .i64 na, .int .i64 nb, .int .i64 m] 70)).drewN nq := ⟨_, rfl⟩
  rw [← hwq]
  have hb1 : Hid (Below w.heap.size w wq) := by rw [hwq]; exact below_drewN (hB1 _).out _
  obtain ⟨xa, _, _, _, xe⟩ := In.old (x := ⟨⟨#[120,111,114,105]⟩, d, na, nb, m⟩) (w2 := wq) (t := 70) rfl (by rw [hwq]; exact below_drewN (Below.refl _ _) _)
  clear hwq
  go_quiet ((first | (go_at_call 164; exact Calls.quiet_of_same (same_flip (trim_xori _))) | (go_at_call 163; exact Calls.quiet_of_same (same_flip (valueOfOp_any _ _ _ _ (by omega) (by omega) (by omega) (by omega) op_xor)))))
  go_wp2
  go_ret
  exact ⟨ret_int (by rw [hR.out]), below_drewN hb1.out _⟩

set_option maxHeartbeats 2000000 in
theorem valueOf_shli (op : ByteArray) (d m : Int) (na nb : Nat) (b : Nat) (u v : Int) (w : World) (ha : na < 6) (hb : nb < 6) (hbb : b < w.heap.size) (ca : w.cell? ⟨b, na, none⟩ = some (.int .i64 u)) (cb : w.cell? ⟨b, nb, none⟩ = some (.int .i64 v)) (hu0 : 0 ≤ u) (hu1 : u ≤ 63) (hv0 : 0 ≤ v) (hv1 : v ≤ 63) (h : op.toList = [115,104,108,105]) (hm0 : 1 ≤ m) (hm1 : m ≤ 5) :
    Calls Try.prog 146 #[.pointer (some ⟨b, 0, none⟩), .agg #[.string op, .int .i64 d, .int .i64 na, .int .i64 nb, .int .i64 m]] w fun e w' => e = .returned (.int .i64 (vOf op m u v)) ∧ Below w.heap.size w w' := by
  have hR := Lib.hid (vOf_shli h m u v)
  have hB1 := fun o => Lib.hid ((Below.refl w.heap.size w).alloc (Nat.le_refl _) o)
  have i0 : (0 : Int) ≤ (na : Int) := by omega
  have i1 : (na : Int) < 6 := by omega
  have j0 : (0 : Int) ≤ (nb : Int) := by omega
  have j1 : (nb : Int) < 6 := by omega
  obtain rfl := bytes_of h
  go_enter Try.func146, Try.ntmps146
  go_wp2_with (fail)
  go_quiet (fail)
  go_wp2_with (fail)
  obtain ⟨wq, hwq⟩ : ∃ wq : World, wq = (w.alloc (.cells #[.string ⟨#[115,104,108,105]⟩, .int .i64 d, .int .i64 na, .int .i64 nb, .int .i64 m] 70)).drewN nq := ⟨_, rfl⟩
  rw [← hwq]
  have hb1 : Hid (Below w.heap.size w wq) := by rw [hwq]; exact below_drewN (hB1 _).out _
  obtain ⟨xa, _, _, _, xe⟩ := In.old (x := ⟨⟨#[115,104,108,105]⟩, d, na, nb, m⟩) (w2 := wq) (t := 70) rfl (by rw [hwq]; exact below_drewN (Below.refl _ _) _)
  clear hwq
  go_quiet ((first | (go_at_call 164; exact Calls.quiet_of_same (same_flip (trim_shli _))) | (go_at_call 163; exact Calls.quiet_of_same (same_flip (valueOfOp_any _ _ _ _ (by omega) (by omega) (by omega) (by omega) op_shl)))))
  go_wp2
  go_ret
  exact ⟨ret_int (by rw [hR.out]), below_drewN hb1.out _⟩

set_option maxHeartbeats 2000000 in
theorem valueOf_shri (op : ByteArray) (d m : Int) (na nb : Nat) (b : Nat) (u v : Int) (w : World) (ha : na < 6) (hb : nb < 6) (hbb : b < w.heap.size) (ca : w.cell? ⟨b, na, none⟩ = some (.int .i64 u)) (cb : w.cell? ⟨b, nb, none⟩ = some (.int .i64 v)) (hu0 : 0 ≤ u) (hu1 : u ≤ 63) (hv0 : 0 ≤ v) (hv1 : v ≤ 63) (h : op.toList = [115,104,114,105]) (hm0 : 1 ≤ m) (hm1 : m ≤ 5) :
    Calls Try.prog 146 #[.pointer (some ⟨b, 0, none⟩), .agg #[.string op, .int .i64 d, .int .i64 na, .int .i64 nb, .int .i64 m]] w fun e w' => e = .returned (.int .i64 (vOf op m u v)) ∧ Below w.heap.size w w' := by
  have hR := Lib.hid (vOf_shri h m u v)
  have hB1 := fun o => Lib.hid ((Below.refl w.heap.size w).alloc (Nat.le_refl _) o)
  have i0 : (0 : Int) ≤ (na : Int) := by omega
  have i1 : (na : Int) < 6 := by omega
  have j0 : (0 : Int) ≤ (nb : Int) := by omega
  have j1 : (nb : Int) < 6 := by omega
  obtain rfl := bytes_of h
  go_enter Try.func146, Try.ntmps146
  go_wp2_with (fail)
  go_quiet (fail)
  go_wp2_with (fail)
  obtain ⟨wq, hwq⟩ : ∃ wq : World, wq = (w.alloc (.cells #[.string ⟨#[115,104,114,105]⟩, .int .i64 d, .int .i64 na, .int .i64 nb, .int .i64 m] 70)).drewN nq := ⟨_, rfl⟩
  rw [← hwq]
  have hb1 : Hid (Below w.heap.size w wq) := by rw [hwq]; exact below_drewN (hB1 _).out _
  obtain ⟨xa, _, _, _, xe⟩ := In.old (x := ⟨⟨#[115,104,114,105]⟩, d, na, nb, m⟩) (w2 := wq) (t := 70) rfl (by rw [hwq]; exact below_drewN (Below.refl _ _) _)
  clear hwq
  go_quiet ((first | (go_at_call 164; exact Calls.quiet_of_same (same_flip (trim_shri _))) | (go_at_call 163; exact Calls.quiet_of_same (same_flip (valueOfOp_any _ _ _ _ (by omega) (by omega) (by omega) (by omega) op_shr)))))
  go_wp2
  go_ret
  exact ⟨ret_int (by rw [hR.out]), below_drewN hb1.out _⟩

set_option maxHeartbeats 2000000 in
theorem valueOf_lea (op : ByteArray) (d m : Int) (na nb : Nat) (b : Nat) (u v : Int) (w : World) (ha : na < 6) (hb : nb < 6) (hbb : b < w.heap.size) (ca : w.cell? ⟨b, na, none⟩ = some (.int .i64 u)) (cb : w.cell? ⟨b, nb, none⟩ = some (.int .i64 v)) (hu0 : 0 ≤ u) (hu1 : u ≤ 63) (hv0 : 0 ≤ v) (hv1 : v ≤ 63) (h : op.toList = [108,101,97]) (hm0 : 1 ≤ m) (hm1 : m ≤ 3) :
    Calls Try.prog 146 #[.pointer (some ⟨b, 0, none⟩), .agg #[.string op, .int .i64 d, .int .i64 na, .int .i64 nb, .int .i64 m]] w fun e w' => e = .returned (.int .i64 (vOf op m u v)) ∧ Below w.heap.size w w' := by
  have hR := Lib.hid (vOf_lea h m u v)
  have hB1 := fun o => Lib.hid ((Below.refl w.heap.size w).alloc (Nat.le_refl _) o)
  have i0 : (0 : Int) ≤ (na : Int) := by omega
  have i1 : (na : Int) < 6 := by omega
  have j0 : (0 : Int) ≤ (nb : Int) := by omega
  have j1 : (nb : Int) < 6 := by omega
  go_enter Try.func146, Try.ntmps146
  go_wp2_with (fail)
  go_quiet (fail)
  obtain ⟨hq0, hq1⟩ := ap_bd ⟨#[115,104,108]⟩ v m hv0 hv1 (by omega) (by omega)
  have hb1 := Lib.hid (below_drewN (hB1 (.cells #[.string op, .int .i64 d, .int .i64 na, .int .i64 nb, .int .i64 m] 70)).out nq)
  go_wp2_with (fail)
  refine (valueOfOp_any _ _ _ _ (by omega) (by omega) (by omega) (by omega) op_shl).mono ?_
  rintro e w' ⟨rfl, rfl⟩
  go_wp2_with (fail)
  refine (valueOfOp_any _ _ _ _ (by omega) (by omega) hq0 hq1 op_add).mono ?_
  rintro e w' ⟨rfl, rfl⟩
  go_wp2
  go_ret
  exact ⟨ret_int (by rw [hR.out]), hb1.out⟩

set_option maxHeartbeats 2000000 in
theorem valueOf_plain (op : ByteArray) (d m : Int) (na nb : Nat) (b : Nat) (u v : Int) (w : World) (ha : na < 6) (hb : nb < 6) (hbb : b < w.heap.size) (ca : w.cell? ⟨b, na, none⟩ = some (.int .i64 u)) (cb : w.cell? ⟨b, nb, none⟩ = some (.int .i64 v)) (hu0 : 0 ≤ u) (hu1 : u ≤ 63) (hv0 : 0 ≤ v) (hv1 : v ≤ 63) (h : plainOp op) (hop : isOp op = true) :
    Calls Try.prog 146 #[.pointer (some ⟨b, 0, none⟩), .agg #[.string op, .int .i64 d, .int .i64 na, .int .i64 nb, .int .i64 m]] w fun e w' => e = .returned (.int .i64 (vOf op m u v)) ∧ Below w.heap.size w w' := by
  have hR := Lib.hid (vOf_plain h m u v)
  have hB1 := fun o => Lib.hid ((Below.refl w.heap.size w).alloc (Nat.le_refl _) o)
  have i0 : (0 : Int) ≤ (na : Int) := by omega
  have i1 : (na : Int) < 6 := by omega
  have j0 : (0 : Int) ≤ (nb : Int) := by omega
  have j1 : (nb : Int) < 6 := by omega
  obtain ⟨q0, q1, q2, q3, q4, q5, q6, q7⟩ := h
  go_enter Try.func146, Try.ntmps146
  go_wp2_with (fail)
  go_quiet (fail)
  go_wp2_with (go_at_call 163; refine (valueOfOp_any _ _ _ _ (by omega) (by omega) (by omega) (by omega) hop).mono ?_; rintro e w' ⟨rfl, rfl⟩)
  go_ret
  exact ⟨ret_int (by rw [hR.out]), below_drewN (hB1 _).out _⟩
end Go.Proofs.Ytdleiondfhmjdaa

namespace Go.Proofs.Ytdleiondfhmjdaa
open Go.RowKit
set_option linter.unusedVariables false
set_option maxRecDepth 100000

/-- Six words in cells from an address on. -/
def Six (w : World) (b o : Nat) (rs : List Int) : Prop := ∀ i, i < 6 → w.cell? ⟨b, o + i, none⟩ = some (.int .i64 (rs.getD i 0))
theorem Six.below {w w' : World} {b o : Nat} {rs : List Int} (h : Six w b o rs) {C : Nat} (hb : Below C w w') (hC : b < C) : Six w' b o rs := fun i hi => (hb.cell hC).trans (h i hi)
theorem Six.heap {w w' : World} {b o : Nat} {rs : List Int} (h : w'.heap = w.heap) (hc : Six w b o rs) : Six w' b o rs := fun i hi => by have := hc i hi; unfold World.cell? at *; rw [h]; exact this
theorem IS.six {w : World} {L B : Nat} {A : Option Addr} {rs : List Int} (h : IS w L B A rs) (h6 : rs.length = 6) : ∃ b o, A = some ⟨b, o, none⟩ ∧ (L ≤ b ∧ b < B) ∧ Six w b o rs := by
  obtain ⟨b, o, e, hb, hc⟩ := h (by omega)
  exact ⟨b, o, e, hb, fun i hi => by rw [hc i (by omega), List.getD_eq_getElem?_getD, List.getElem?_eq_getElem (by omega)]; rfl⟩
theorem cdValue_any (x : In) (b o c : Nat) (rs : List Int) (w : World) (hx : goodIn x = true) (h6 : words6 rs) (hbb : b < w.heap.size) (hc : Six w b o rs) :
    Calls Try.prog 100 #[.agg #[.string x.op, .int .i64 x.d, .int .i64 x.a, .int .i64 x.b, .int .i64 x.m], .slice (some ⟨b, o, none⟩) 6 c] w fun e w' => e = .returned (.int .i64 (vOf x.op x.m (rs.getD x.a.toNat 0) (rs.getD x.b.toNat 0))) ∧ Below w.heap.size w w' := by
  obtain ⟨hd, ha, hb, hok, hm⟩ := good_parts hx
  obtain ⟨op, d, a, b', m⟩ := x
  obtain ⟨na, rfl⟩ := Int.eq_ofNat_of_zero_le ha.1
  obtain ⟨nb, rfl⟩ := Int.eq_ofNat_of_zero_le hb.1
  have hu := getD_bd h6.2 na
  have hv := getD_bd h6.2 nb
  simp only at ha hb hm hok
  simp only [Int.toNat_natCast]
  rcases val_cases hok with h|h|h|h|h|h|h|h|⟨h, hop, _, _⟩
  · rw [fm_set h] at hm; exact cdValue_set op d m na nb b o c _ _ w (by omega) (by omega) hbb (hc na (by omega)) (hc nb (by omega)) hu.1 hu.2 hv.1 hv.2 h hm.1 hm.2
  · rw [fm_mov h] at hm; exact cdValue_mov op d m na nb b o c _ _ w (by omega) (by omega) hbb (hc na (by omega)) (hc nb (by omega)) hu.1 hu.2 hv.1 hv.2 h hm.1 hm.2
  · rw [fm_addi h] at hm; exact cdValue_addi op d m na nb b o c _ _ w (by omega) (by omega) hbb (hc na (by omega)) (hc nb (by omega)) hu.1 hu.2 hv.1 hv.2 h hm.1 hm.2
  · rw [fm_andi h] at hm; exact cdValue_andi op d m na nb b o c _ _ w (by omega) (by omega) hbb (hc na (by omega)) (hc nb (by omega)) hu.1 hu.2 hv.1 hv.2 h hm.1 hm.2
  · rw [fm_xori h] at hm; exact cdValue_xori op d m na nb b o c _ _ w (by omega) (by omega) hbb (hc na (by omega)) (hc nb (by omega)) hu.1 hu.2 hv.1 hv.2 h hm.1 hm.2
  · rw [fm_shli h] at hm; exact cdValue_shli op d m na nb b o c _ _ w (by omega) (by omega) hbb (hc na (by omega)) (hc nb (by omega)) hu.1 hu.2 hv.1 hv.2 h hm.1 hm.2
  · rw [fm_shri h] at hm; exact cdValue_shri op d m na nb b o c _ _ w (by omega) (by omega) hbb (hc na (by omega)) (hc nb (by omega)) hu.1 hu.2 hv.1 hv.2 h hm.1 hm.2
  · rw [fm_lea h] at hm; exact cdValue_lea op d m na nb b o c _ _ w (by omega) (by omega) hbb (hc na (by omega)) (hc nb (by omega)) hu.1 hu.2 hv.1 hv.2 h hm.1 hm.2
  · exact cdValue_plain op d m na nb b o c _ _ w (by omega) (by omega) hbb (hc na (by omega)) (hc nb (by omega)) hu.1 hu.2 hv.1 hv.2 h hop
theorem valueOf_any (x : In) (b : Nat) (rs : List Int) (w : World) (hx : goodIn x = true) (h6 : words6 rs) (hbb : b < w.heap.size) (hc : Six w b 0 rs) :
    Calls Try.prog 146 #[.pointer (some ⟨b, 0, none⟩), .agg #[.string x.op, .int .i64 x.d, .int .i64 x.a, .int .i64 x.b, .int .i64 x.m]] w fun e w' => e = .returned (.int .i64 (vOf x.op x.m (rs.getD x.a.toNat 0) (rs.getD x.b.toNat 0))) ∧ Below w.heap.size w w' := by
  obtain ⟨hd, ha, hb, hok, hm⟩ := good_parts hx
  obtain ⟨op, d, a, b', m⟩ := x
  obtain ⟨na, rfl⟩ := Int.eq_ofNat_of_zero_le ha.1
  obtain ⟨nb, rfl⟩ := Int.eq_ofNat_of_zero_le hb.1
  have hu := getD_bd h6.2 na
  have hv := getD_bd h6.2 nb
  have hc' : ∀ i, i < 6 → w.cell? ⟨b, i, none⟩ = some (.int .i64 (rs.getD i 0)) := fun i hi => by have := hc i hi; rwa [Nat.zero_add] at this
  simp only at ha hb hm hok
  simp only [Int.toNat_natCast]
  rcases val_cases hok with h|h|h|h|h|h|h|h|⟨h, hop, _, _⟩
  · rw [fm_set h] at hm; exact valueOf_set op d m na nb b _ _ w (by omega) (by omega) hbb (hc' na (by omega)) (hc' nb (by omega)) hu.1 hu.2 hv.1 hv.2 h hm.1 hm.2
  · rw [fm_mov h] at hm; exact valueOf_mov op d m na nb b _ _ w (by omega) (by omega) hbb (hc' na (by omega)) (hc' nb (by omega)) hu.1 hu.2 hv.1 hv.2 h hm.1 hm.2
  · rw [fm_addi h] at hm; exact valueOf_addi op d m na nb b _ _ w (by omega) (by omega) hbb (hc' na (by omega)) (hc' nb (by omega)) hu.1 hu.2 hv.1 hv.2 h hm.1 hm.2
  · rw [fm_andi h] at hm; exact valueOf_andi op d m na nb b _ _ w (by omega) (by omega) hbb (hc' na (by omega)) (hc' nb (by omega)) hu.1 hu.2 hv.1 hv.2 h hm.1 hm.2
  · rw [fm_xori h] at hm; exact valueOf_xori op d m na nb b _ _ w (by omega) (by omega) hbb (hc' na (by omega)) (hc' nb (by omega)) hu.1 hu.2 hv.1 hv.2 h hm.1 hm.2
  · rw [fm_shli h] at hm; exact valueOf_shli op d m na nb b _ _ w (by omega) (by omega) hbb (hc' na (by omega)) (hc' nb (by omega)) hu.1 hu.2 hv.1 hv.2 h hm.1 hm.2
  · rw [fm_shri h] at hm; exact valueOf_shri op d m na nb b _ _ w (by omega) (by omega) hbb (hc' na (by omega)) (hc' nb (by omega)) hu.1 hu.2 hv.1 hv.2 h hm.1 hm.2
  · rw [fm_lea h] at hm; exact valueOf_lea op d m na nb b _ _ w (by omega) (by omega) hbb (hc' na (by omega)) (hc' nb (by omega)) hu.1 hu.2 hv.1 hv.2 h hm.1 hm.2
  · exact valueOf_plain op d m na nb b _ _ w (by omega) (by omega) hbb (hc' na (by omega)) (hc' nb (by omega)) hu.1 hu.2 hv.1 hv.2 h hop
end Go.Proofs.Ytdleiondfhmjdaa

namespace Go.Proofs.Ytdleiondfhmjdaa
open Go.RowKit
set_option linter.unusedVariables false
set_option maxRecDepth 100000

/-- A new slice of six ints. -/
def Own6 (w : World) (rs : List Int) (e : Ending) (w' : World) : Prop :=
  ∃ g c, e = .returned (.slice (some ⟨g, 0, none⟩) 6 c) ∧ w.heap.size ≤ g ∧ OW w' g (g + 1) (.slice (some ⟨g, 0, none⟩) 6 c) rs ∧ Below w.heap.size w w'
theorem OW.narrow {w : World} {lo hi g n c : Nat} {xs : List Int} (h : OW w lo hi (.slice (some ⟨g, 0, none⟩) n c) xs) : OW w g (g + 1) (.slice (some ⟨g, 0, none⟩) n c) xs := by
  refine ⟨⟨h.1.1, ?_⟩, fun k hk => by cases hk; exact Nat.lt_succ_self _⟩
  rcases h.1.2 with ⟨h0, _⟩ | ⟨g', cap, cur, e, hg, hr⟩
  · cases h0
  · injection e with e1 e2 e3; injection e1 with e1; injection e1 with e1 _ _
    subst e1; subst e2; subst e3; exact .inr ⟨_, _, cur, rfl, Nat.le_refl _, hr⟩
theorem OW.lenEq {w : World} {lo hi g n c : Nat} {xs : List Int} (h : OW w lo hi (.slice (some ⟨g, 0, none⟩) n c) xs) : n = xs.length := by
  rcases h.1.2 with ⟨h0, _⟩ | ⟨g', cap, cur, e, _⟩
  · cases h0
  · injection e with _ e2 _
theorem own6_of {w w' : World} {rs : List Int} {e : Ending} (h6 : rs.length = 6) (h : FreshI w rs e w') : Own6 w rs e w' := by
  obtain ⟨A, c, he, ho, hb⟩ := h
  rcases ho.1.2 with ⟨_, h0⟩ | ⟨g, cap, cur, hv, hg, _⟩
  · omega
  · injection hv with h1 h2 h3; subst h1; subst h3
    rw [h6] at he ho
    exact ⟨g, c, he, hg, ho.narrow, hb⟩
theorem OW.at6 {w : World} {lo hi g n c : Nat} {xs : List Int} (h : OW w lo hi (.slice (some ⟨g, 0, none⟩) n c) xs) (i : Nat) (hi' : i < xs.length) : w.cell? ⟨g, i, none⟩ = some (.int .i64 (xs.getD i 0)) := by
  have := h.1.cells (g := g) rfl i (.int .i64 (xs.getD i 0)) (by rw [List.getElem?_map, List.getElem?_eq_getElem hi', List.getD_eq_getElem?_getD, List.getElem?_eq_getElem hi']; rfl)
  rwa [addr_add] at this
theorem OW.frozen6 {w : World} {lo hi g n c : Nat} {xs : List Int} (h : OW w lo hi (.slice (some ⟨g, 0, none⟩) n c) xs) (i : Nat) : w.frozen? ⟨g, i, none⟩ = false := by
  have e := h.lenEq; subst e; exact h.1.frozenAt i
theorem OW.set6 {w : World} {lo hi g n c : Nat} {xs : List Int} (h : OW w lo hi (.slice (some ⟨g, 0, none⟩) n c) xs) (i : Nat) (y : Int) : OW (w.setCell ⟨g, i, none⟩ (.int .i64 y)) lo hi (.slice (some ⟨g, 0, none⟩) n c) (xs.set i y) := by
  have e := h.lenEq; subst e
  have h1 := (h.1.stored i (.int .i64 y)).1
  refine ⟨?_, h.2⟩
  rw [List.map_set, List.length_set]; exact h1
theorem Own6.six {w : World} {lo hi g n c : Nat} {xs : List Int} (h : OW w lo hi (.slice (some ⟨g, 0, none⟩) n c) xs) (h6 : xs.length = 6) : Six w g 0 xs := fun i hi => by rw [Nat.zero_add]; exact h.at6 i (by omega)

set_option maxHeartbeats 4000000 in
theorem cdStep_any (x : In) (b o c : Nat) (rs : List Int) (L B : Nat) (w : World) (hx : goodIn x = true) (h6 : words6 rs) (hI : IS w L B (some ⟨b, o, none⟩) rs) (hB : B ≤ w.heap.size) :
    Calls Try.prog 61 #[.agg #[.string x.op, .int .i64 x.d, .int .i64 x.a, .int .i64 x.b, .int .i64 x.m], .slice (some ⟨b, o, none⟩) 6 c] w (Own6 w (stepL x rs)) := by
  have hG := Lib.hid hx
  have hW := Lib.hid h6
  obtain ⟨hd, _⟩ := good_parts hx
  obtain ⟨op, d, a, b', m⟩ := x
  obtain ⟨nd, rfl⟩ := Int.eq_ofNat_of_zero_le hd.1
  have hb0 := Lib.hid ((Below.refl w.heap.size w).alloc (Nat.le_refl _) (.cells #[.string op, .int .i64 nd, .int .i64 a, .int .i64 b', .int .i64 m] 70))
  have hS : Hid (stepL ⟨op, nd, a, b', m⟩ rs = rs.set nd (vOf op m (rs.getD a.toNat 0) (rs.getD b'.toNat 0))) := rfl
  obtain ⟨y, hy⟩ : ∃ y, vOf op m (rs.getD a.toNat 0) (rs.getD b'.toNat 0) = y := ⟨_, rfl⟩
  have hV := Lib.hid (fun w' (h1 : b < w'.heap.size) (h2 : Six w' b o rs) => (show Calls Try.prog 100 #[.agg #[.string op, .int .i64 nd, .int .i64 a, .int .i64 b', .int .i64 m], .slice (some ⟨b, o, none⟩) 6 c] w' (fun e w'' => e = .returned (.int .i64 y) ∧ Below w'.heap.size w' w'') from by have := cdValue_any ⟨op, nd, a, b', m⟩ b o c rs w' hG.out hW.out h1 h2; simp only at this; rw [hy] at this; exact this))
  rw [hy] at hS
  clear hy
  have hE := Lib.hid hI
  obtain ⟨b1, o1, e1, hbb, hsix⟩ := hI.six h6.1
  injection e1 with e1; injection e1 with e1 e2 _; subst e1; subst e2
  have hSix := Lib.hid hsix
  have hL := Lib.hid (fun w' (hx : IS w' L B (some ⟨b, o, none⟩) rs) (hB : B ≤ w'.heap.size) => (l1Own_any L B (some ⟨b, o, none⟩) c rs w' (by rw [h6.1]; omega) hx hB).mono fun _ _ => own6_of h6.1)
  have hlen := Lib.hid h6.1
  rw [show rs.length = 6 from h6.1] at hL
  have hd' : nd < 6 := by simp only at hd; omega
  clear hI hx h6 hsix hd
  go_enter Try.func61, Try.ntmps61
  go_wp2_with (fail)
  refine (hL.out _ (hE.out.below hb0.out hB) (by simp; omega)).mono ?_
  rintro e w1 ⟨g, c1, rfl, hg, ho, hb⟩
  have hO := Lib.hid ho
  have hB1 := Lib.hid (hb0.out.trans (hb.mono (by simp)))
  obtain ⟨xa, xb, xc, xd, xe⟩ := In.old (x := ⟨op, nd, a, b', m⟩) rfl hb
  have hz : w.heap.size < w1.heap.size := by have := hb.size; simp at this; omega
  have hgz : g < w1.heap.size := (ho.1.lt g rfl).2
  simp at hg
  have i0 : (0 : Int) ≤ (nd : Int) := by omega
  have i1 : (nd : Int) < 6 := by omega
  have hS1 := Lib.hid (hSix.out.below hB1.out (by omega))
  have hb1 := Lib.hid (show b < w1.heap.size by omega)
  have hlO := Lib.hid ho.lenEq
  clear ho hb
  go_wp2_with (fail)
  go_region_with (go_at_call 100; refine (hV.out _ (by exact hb1.out) (by exact Six.heap rfl hS1.out)).mono ?_; rintro e w2 ⟨rfl, hb2⟩; have hb3 := Lib.hid ((Below.refl w1.heap.size w1).drew.trans hb2); have hO2 := Lib.hid (hO.out.below hb3.out hgz); have c1 := hO2.out.at6 nd (by rw [hlen.out]; omega); have f1 := hO2.out.frozen6 nd; have xb2 := (hb3.out.cell (p := ⟨w.heap.size, 1, none⟩) hz).trans xb)
  all_goals
    have hfin := Lib.hid (hO2.out.set6 nd y)
    have hbel := Lib.hid ((hB1.out.trans (hb3.out.mono (by omega))).setCell (p := ⟨g, nd, none⟩) (show w.heap.size ≤ g by omega) (.int .i64 y))
    go_wp2
    go_ret
    exact ⟨g, _, rfl, by omega, by rw [hS.out]; exact hfin.out, hbel.out⟩
end Go.Proofs.Ytdleiondfhmjdaa

namespace Go.Proofs.Ytdleiondfhmjdaa
open Go.RowKit
set_option linter.unusedVariables false

def ResIsInstr (R0 : Bool) (w : World) (e : Ending) (w' : World) : Prop := e = .returned (.bool R0) ∧ Below w.heap.size w w'
def ResIsCode (R0 : Bool) (w : World) (e : Ending) (w' : World) : Prop := e = .returned (.bool R0) ∧ Below w.heap.size w w'
def ResCostOfInstr (R0 : Int) (R1 : Bool) (w : World) (e : Ending) (w' : World) : Prop := e = .returned (.tuple #[.int .i64 R0, .bool R1]) ∧ Below w.heap.size w w'
def ResCodeCost (R0 : Int) (R1 : Bool) (w : World) (e : Ending) (w' : World) : Prop := e = .returned (.tuple #[.int .i64 R0, .bool R1]) ∧ Below w.heap.size w w'
end Go.Proofs.Ytdleiondfhmjdaa
