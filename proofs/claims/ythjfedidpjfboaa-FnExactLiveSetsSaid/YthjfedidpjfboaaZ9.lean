/- Texts of this proof, one behind the other: CI, CJ, CL. -/
import Derived.Test.YthjfedidpjfboaaCV
import Derived.Test.YthjfedidpjfboaaCD
import Derived.Test.YthjfedidpjfboaaCH
import Derived.Test.YthjfedidpjfboaaMV
import Derived.Test.YthjfedidpjfboaaCK
import Derived.WalkKit
import Derived.WalkSpells
import Derived.WalkLawsBesides
import Derived.Deep.QuietTactic
import Derived.BigQuiet
import Derived.Lib.Hide
import Derived.Deep.RegionHeld3
namespace Go.Proofs.Ythjfedidpjfboaa
open Go.RowKit
set_option linter.unusedVariables false
set_option maxRecDepth 100000

set_option maxHeartbeats 2000000 in
theorem cdValue_set (op : ByteArray) (d m : Int) (na nb : Nat) (b o c : Nat) (u v : Int) (w : World) (ha : na < 6) (hb : nb < 6) (hbb : b < w.heap.size) (ca : w.cell? ⟨b, o + na, none⟩ = some (.int .i64 u)) (cb : w.cell? ⟨b, o + nb, none⟩ = some (.int .i64 v)) (hu0 : 0 ≤ u) (hu1 : u ≤ 63) (hv0 : 0 ≤ v) (hv1 : v ≤ 63) (h : op.toList = [115,101,116]) (hm0 : 0 ≤ m) (hm1 : m ≤ 63) :
    Calls Try.prog 155 #[.agg #[.string op, .int .i64 d, .int .i64 na, .int .i64 nb, .int .i64 m], .slice (some ⟨b, o, none⟩) 6 c] w fun e w' => e = .returned (.int .i64 (vOf op m u v)) ∧ Below w.heap.size w w' := by
  have hR := Lib.hid (vOf_set h m u v)
  have hB1 := fun o => Lib.hid ((Below.refl w.heap.size w).alloc (Nat.le_refl _) o)
  have i0 : (0 : Int) ≤ (na : Int) := by omega
  have i1 : (na : Int) < 6 := by omega
  have j0 : (0 : Int) ≤ (nb : Int) := by omega
  have j1 : (nb : Int) < 6 := by omega
  go_enter Try.func155, Try.ntmps155
  go_wp2_with (fail)
  go_quiet (fail)
  go_wp2_with (fail)
  go_ret
  exact ⟨ret_int (by rw [hR.out]), below_drewN (hB1 _).out _⟩

set_option maxHeartbeats 2000000 in
theorem cdValue_mov (op : ByteArray) (d m : Int) (na nb : Nat) (b o c : Nat) (u v : Int) (w : World) (ha : na < 6) (hb : nb < 6) (hbb : b < w.heap.size) (ca : w.cell? ⟨b, o + na, none⟩ = some (.int .i64 u)) (cb : w.cell? ⟨b, o + nb, none⟩ = some (.int .i64 v)) (hu0 : 0 ≤ u) (hu1 : u ≤ 63) (hv0 : 0 ≤ v) (hv1 : v ≤ 63) (h : op.toList = [109,111,118]) (hm0 : 0 ≤ m) (hm1 : m ≤ 0) :
    Calls Try.prog 155 #[.agg #[.string op, .int .i64 d, .int .i64 na, .int .i64 nb, .int .i64 m], .slice (some ⟨b, o, none⟩) 6 c] w fun e w' => e = .returned (.int .i64 (vOf op m u v)) ∧ Below w.heap.size w w' := by
  have hR := Lib.hid (vOf_mov h m u v)
  have hB1 := fun o => Lib.hid ((Below.refl w.heap.size w).alloc (Nat.le_refl _) o)
  have i0 : (0 : Int) ≤ (na : Int) := by omega
  have i1 : (na : Int) < 6 := by omega
  have j0 : (0 : Int) ≤ (nb : Int) := by omega
  have j1 : (nb : Int) < 6 := by omega
  go_enter Try.func155, Try.ntmps155
  go_wp2_with (fail)
  go_quiet (fail)
  go_wp2_with (fail)
  go_ret
  exact ⟨ret_int (by rw [hR.out]), below_drewN (hB1 _).out _⟩

set_option maxHeartbeats 2000000 in
theorem cdValue_addi (op : ByteArray) (d m : Int) (na nb : Nat) (b o c : Nat) (u v : Int) (w : World) (ha : na < 6) (hb : nb < 6) (hbb : b < w.heap.size) (ca : w.cell? ⟨b, o + na, none⟩ = some (.int .i64 u)) (cb : w.cell? ⟨b, o + nb, none⟩ = some (.int .i64 v)) (hu0 : 0 ≤ u) (hu1 : u ≤ 63) (hv0 : 0 ≤ v) (hv1 : v ≤ 63) (h : op.toList = [97,100,100,105]) (hm0 : 0 ≤ m) (hm1 : m ≤ 63) :
    Calls Try.prog 155 #[.agg #[.string op, .int .i64 d, .int .i64 na, .int .i64 nb, .int .i64 m], .slice (some ⟨b, o, none⟩) 6 c] w fun e w' => e = .returned (.int .i64 (vOf op m u v)) ∧ Below w.heap.size w w' := by
  have hR := Lib.hid (vOf_addi h m u v)
  have hB1 := fun o => Lib.hid ((Below.refl w.heap.size w).alloc (Nat.le_refl _) o)
  have i0 : (0 : Int) ≤ (na : Int) := by omega
  have i1 : (na : Int) < 6 := by omega
  have j0 : (0 : Int) ≤ (nb : Int) := by omega
  have j1 : (nb : Int) < 6 := by omega
  go_enter Try.func155, Try.ntmps155
  go_wp2_with (fail)
  go_quiet (fail)
  go_wp2_with (go_at_call 185; refine (exApply_any _ _ _ _ (by omega) (by omega) (by omega) (by omega) op_add).mono ?_; rintro e w' ⟨rfl, rfl⟩)
  go_ret
  exact ⟨ret_int (by rw [hR.out]), below_drewN (hB1 _).out _⟩

set_option maxHeartbeats 2000000 in
theorem cdValue_andi (op : ByteArray) (d m : Int) (na nb : Nat) (b o c : Nat) (u v : Int) (w : World) (ha : na < 6) (hb : nb < 6) (hbb : b < w.heap.size) (ca : w.cell? ⟨b, o + na, none⟩ = some (.int .i64 u)) (cb : w.cell? ⟨b, o + nb, none⟩ = some (.int .i64 v)) (hu0 : 0 ≤ u) (hu1 : u ≤ 63) (hv0 : 0 ≤ v) (hv1 : v ≤ 63) (h : op.toList = [97,110,100,105]) (hm0 : 0 ≤ m) (hm1 : m ≤ 63) :
    Calls Try.prog 155 #[.agg #[.string op, .int .i64 d, .int .i64 na, .int .i64 nb, .int .i64 m], .slice (some ⟨b, o, none⟩) 6 c] w fun e w' => e = .returned (.int .i64 (vOf op m u v)) ∧ Below w.heap.size w w' := by
  have hR := Lib.hid (vOf_andi h m u v)
  have hB1 := fun o => Lib.hid ((Below.refl w.heap.size w).alloc (Nat.le_refl _) o)
  have i0 : (0 : Int) ≤ (na : Int) := by omega
  have i1 : (na : Int) < 6 := by omega
  have j0 : (0 : Int) ≤ (nb : Int) := by omega
  have j1 : (nb : Int) < 6 := by omega
  go_enter Try.func155, Try.ntmps155
  go_wp2_with (fail)
  go_quiet (fail)
  go_wp2_with (go_at_call 185; refine (exApply_any _ _ _ _ (by omega) (by omega) (by omega) (by omega) op_and).mono ?_; rintro e w' ⟨rfl, rfl⟩)
  go_ret
  exact ⟨ret_int (by rw [hR.out]), below_drewN (hB1 _).out _⟩

set_option maxHeartbeats 2000000 in
theorem cdValue_xori (op : ByteArray) (d m : Int) (na nb : Nat) (b o c : Nat) (u v : Int) (w : World) (ha : na < 6) (hb : nb < 6) (hbb : b < w.heap.size) (ca : w.cell? ⟨b, o + na, none⟩ = some (.int .i64 u)) (cb : w.cell? ⟨b, o + nb, none⟩ = some (.int .i64 v)) (hu0 : 0 ≤ u) (hu1 : u ≤ 63) (hv0 : 0 ≤ v) (hv1 : v ≤ 63) (h : op.toList = [120,111,114,105]) (hm0 : 0 ≤ m) (hm1 : m ≤ 63) :
    Calls Try.prog 155 #[.agg #[.string op, .int .i64 d, .int .i64 na, .int .i64 nb, .int .i64 m], .slice (some ⟨b, o, none⟩) 6 c] w fun e w' => e = .returned (.int .i64 (vOf op m u v)) ∧ Below w.heap.size w w' := by
  have hR := Lib.hid (vOf_xori h m u v)
  have hB1 := fun o => Lib.hid ((Below.refl w.heap.size w).alloc (Nat.le_refl _) o)
  have i0 : (0 : Int) ≤ (na : Int) := by omega
  have i1 : (na : Int) < 6 := by omega
  have j0 : (0 : Int) ≤ (nb : Int) := by omega
  have j1 : (nb : Int) < 6 := by omega
  go_enter Try.func155, Try.ntmps155
  go_wp2_with (fail)
  go_quiet (fail)
  go_wp2_with (go_at_call 185; refine (exApply_any _ _ _ _ (by omega) (by omega) (by omega) (by omega) op_xor).mono ?_; rintro e w' ⟨rfl, rfl⟩)
  go_ret
  exact ⟨ret_int (by rw [hR.out]), below_drewN (hB1 _).out _⟩

set_option maxHeartbeats 2000000 in
theorem cdValue_shli (op : ByteArray) (d m : Int) (na nb : Nat) (b o c : Nat) (u v : Int) (w : World) (ha : na < 6) (hb : nb < 6) (hbb : b < w.heap.size) (ca : w.cell? ⟨b, o + na, none⟩ = some (.int .i64 u)) (cb : w.cell? ⟨b, o + nb, none⟩ = some (.int .i64 v)) (hu0 : 0 ≤ u) (hu1 : u ≤ 63) (hv0 : 0 ≤ v) (hv1 : v ≤ 63) (h : op.toList = [115,104,108,105]) (hm0 : 1 ≤ m) (hm1 : m ≤ 5) :
    Calls Try.prog 155 #[.agg #[.string op, .int .i64 d, .int .i64 na, .int .i64 nb, .int .i64 m], .slice (some ⟨b, o, none⟩) 6 c] w fun e w' => e = .returned (.int .i64 (vOf op m u v)) ∧ Below w.heap.size w w' := by
  have hR := Lib.hid (vOf_shli h m u v)
  have hB1 := fun o => Lib.hid ((Below.refl w.heap.size w).alloc (Nat.le_refl _) o)
  have i0 : (0 : Int) ≤ (na : Int) := by omega
  have i1 : (na : Int) < 6 := by omega
  have j0 : (0 : Int) ≤ (nb : Int) := by omega
  have j1 : (nb : Int) < 6 := by omega
  go_enter Try.func155, Try.ntmps155
  go_wp2_with (fail)
  go_quiet (fail)
  go_wp2_with (go_at_call 185; refine (exApply_any _ _ _ _ (by omega) (by omega) (by omega) (by omega) op_shl).mono ?_; rintro e w' ⟨rfl, rfl⟩)
  go_ret
  exact ⟨ret_int (by rw [hR.out]), below_drewN (hB1 _).out _⟩

set_option maxHeartbeats 2000000 in
theorem cdValue_shri (op : ByteArray) (d m : Int) (na nb : Nat) (b o c : Nat) (u v : Int) (w : World) (ha : na < 6) (hb : nb < 6) (hbb : b < w.heap.size) (ca : w.cell? ⟨b, o + na, none⟩ = some (.int .i64 u)) (cb : w.cell? ⟨b, o + nb, none⟩ = some (.int .i64 v)) (hu0 : 0 ≤ u) (hu1 : u ≤ 63) (hv0 : 0 ≤ v) (hv1 : v ≤ 63) (h : op.toList = [115,104,114,105]) (hm0 : 1 ≤ m) (hm1 : m ≤ 5) :
    Calls Try.prog 155 #[.agg #[.string op, .int .i64 d, .int .i64 na, .int .i64 nb, .int .i64 m], .slice (some ⟨b, o, none⟩) 6 c] w fun e w' => e = .returned (.int .i64 (vOf op m u v)) ∧ Below w.heap.size w w' := by
  have hR := Lib.hid (vOf_shri h m u v)
  have hB1 := fun o => Lib.hid ((Below.refl w.heap.size w).alloc (Nat.le_refl _) o)
  have i0 : (0 : Int) ≤ (na : Int) := by omega
  have i1 : (na : Int) < 6 := by omega
  have j0 : (0 : Int) ≤ (nb : Int) := by omega
  have j1 : (nb : Int) < 6 := by omega
  go_enter Try.func155, Try.ntmps155
  go_wp2_with (fail)
  go_quiet (fail)
  go_wp2_with (go_at_call 185; refine (exApply_any _ _ _ _ (by omega) (by omega) (by omega) (by omega) op_shr).mono ?_; rintro e w' ⟨rfl, rfl⟩)
  go_ret
  exact ⟨ret_int (by rw [hR.out]), below_drewN (hB1 _).out _⟩

set_option maxHeartbeats 2000000 in
theorem cdValue_lea (op : ByteArray) (d m : Int) (na nb : Nat) (b o c : Nat) (u v : Int) (w : World) (ha : na < 6) (hb : nb < 6) (hbb : b < w.heap.size) (ca : w.cell? ⟨b, o + na, none⟩ = some (.int .i64 u)) (cb : w.cell? ⟨b, o + nb, none⟩ = some (.int .i64 v)) (hu0 : 0 ≤ u) (hu1 : u ≤ 63) (hv0 : 0 ≤ v) (hv1 : v ≤ 63) (h : op.toList = [108,101,97]) (hm0 : 1 ≤ m) (hm1 : m ≤ 3) :
    Calls Try.prog 155 #[.agg #[.string op, .int .i64 d, .int .i64 na, .int .i64 nb, .int .i64 m], .slice (some ⟨b, o, none⟩) 6 c] w fun e w' => e = .returned (.int .i64 (vOf op m u v)) ∧ Below w.heap.size w w' := by
  have hR := Lib.hid (vOf_lea h m u v)
  have hB1 := fun o => Lib.hid ((Below.refl w.heap.size w).alloc (Nat.le_refl _) o)
  have i0 : (0 : Int) ≤ (na : Int) := by omega
  have i1 : (na : Int) < 6 := by omega
  have j0 : (0 : Int) ≤ (nb : Int) := by omega
  have j1 : (nb : Int) < 6 := by omega
  go_enter Try.func155, Try.ntmps155
  go_wp2_with (fail)
  go_quiet (fail)
  obtain ⟨hq0, hq1⟩ := ap_bd ⟨#[115,104,108]⟩ v m hv0 hv1 (by omega) (by omega)
  have hb1 := Lib.hid (below_drewN (hB1 (.cells #[.string op, .int .i64 d, .int .i64 na, .int .i64 nb, .int .i64 m] 90)).out nq)
  go_wp2_with (fail)
  refine (exApply_any _ _ _ _ (by omega) (by omega) (by omega) (by omega) op_shl).mono ?_
  rintro e w' ⟨rfl, rfl⟩
  go_wp2_with (fail)
  refine (exApply_any _ _ _ _ (by omega) (by omega) hq0 hq1 op_add).mono ?_
  rintro e w' ⟨rfl, rfl⟩
  go_wp2
  go_ret
  exact ⟨ret_int (by rw [hR.out]), hb1.out⟩

set_option maxHeartbeats 2000000 in
theorem cdValue_plain (op : ByteArray) (d m : Int) (na nb : Nat) (b o c : Nat) (u v : Int) (w : World) (ha : na < 6) (hb : nb < 6) (hbb : b < w.heap.size) (ca : w.cell? ⟨b, o + na, none⟩ = some (.int .i64 u)) (cb : w.cell? ⟨b, o + nb, none⟩ = some (.int .i64 v)) (hu0 : 0 ≤ u) (hu1 : u ≤ 63) (hv0 : 0 ≤ v) (hv1 : v ≤ 63) (h : plainOp op) (hop : isOp op = true) :
    Calls Try.prog 155 #[.agg #[.string op, .int .i64 d, .int .i64 na, .int .i64 nb, .int .i64 m], .slice (some ⟨b, o, none⟩) 6 c] w fun e w' => e = .returned (.int .i64 (vOf op m u v)) ∧ Below w.heap.size w w' := by
  have hR := Lib.hid (vOf_plain h m u v)
  have hB1 := fun o => Lib.hid ((Below.refl w.heap.size w).alloc (Nat.le_refl _) o)
  have i0 : (0 : Int) ≤ (na : Int) := by omega
  have i1 : (na : Int) < 6 := by omega
  have j0 : (0 : Int) ≤ (nb : Int) := by omega
  have j1 : (nb : Int) < 6 := by omega
  obtain ⟨q0, q1, q2, q3, q4, q5, q6, q7⟩ := h
  go_enter Try.func155, Try.ntmps155
  go_wp2_with (fail)
  go_quiet (fail)
  go_wp2_with (go_at_call 185; refine (exApply_any _ _ _ _ (by omega) (by omega) (by omega) (by omega) hop).mono ?_; rintro e w' ⟨rfl, rfl⟩)
  go_ret
  exact ⟨ret_int (by rw [hR.out]), below_drewN (hB1 _).out _⟩
end Go.Proofs.Ythjfedidpjfboaa

namespace Go.Proofs.Ythjfedidpjfboaa
open Go.RowKit
set_option linter.unusedVariables false
set_option maxRecDepth 100000

set_option maxHeartbeats 2000000 in
theorem valueOf_set (op : ByteArray) (d m : Int) (na nb : Nat) (b : Nat) (u v : Int) (w : World) (ha : na < 6) (hb : nb < 6) (hbb : b < w.heap.size) (ca : w.cell? ⟨b, na, none⟩ = some (.int .i64 u)) (cb : w.cell? ⟨b, nb, none⟩ = some (.int .i64 v)) (hu0 : 0 ≤ u) (hu1 : u ≤ 63) (hv0 : 0 ≤ v) (hv1 : v ≤ 63) (h : op.toList = [115,101,116]) (hm0 : 0 ≤ m) (hm1 : m ≤ 63) :
    Calls Try.prog 187 #[.pointer (some ⟨b, 0, none⟩), .agg #[.string op, .int .i64 d, .int .i64 na, .int .i64 nb, .int .i64 m]] w fun e w' => e = .returned (.int .i64 (vOf op m u v)) ∧ Below w.heap.size w w' := by
  have hR := Lib.hid (vOf_set h m u v)
  have hB1 := fun o => Lib.hid ((Below.refl w.heap.size w).alloc (Nat.le_refl _) o)
  have i0 : (0 : Int) ≤ (na : Int) := by omega
  have i1 : (na : Int) < 6 := by omega
  have j0 : (0 : Int) ≤ (nb : Int) := by omega
  have j1 : (nb : Int) < 6 := by omega
  go_enter Try.func187, Try.ntmps187
  go_wp2_with (fail)
  go_quiet (fail)
  go_wp2_with (fail)
  go_ret
  exact ⟨ret_int (by rw [hR.out]), below_drewN (hB1 _).out _⟩

set_option maxHeartbeats 2000000 in
theorem valueOf_mov (op : ByteArray) (d m : Int) (na nb : Nat) (b : Nat) (u v : Int) (w : World) (ha : na < 6) (hb : nb < 6) (hbb : b < w.heap.size) (ca : w.cell? ⟨b, na, none⟩ = some (.int .i64 u)) (cb : w.cell? ⟨b, nb, none⟩ = some (.int .i64 v)) (hu0 : 0 ≤ u) (hu1 : u ≤ 63) (hv0 : 0 ≤ v) (hv1 : v ≤ 63) (h : op.toList = [109,111,118]) (hm0 : 0 ≤ m) (hm1 : m ≤ 0) :
    Calls Try.prog 187 #[.pointer (some ⟨b, 0, none⟩), .agg #[.string op, .int .i64 d, .int .i64 na, .int .i64 nb, .int .i64 m]] w fun e w' => e = .returned (.int .i64 (vOf op m u v)) ∧ Below w.heap.size w w' := by
  have hR := Lib.hid (vOf_mov h m u v)
  have hB1 := fun o => Lib.hid ((Below.refl w.heap.size w).alloc (Nat.le_refl _) o)
  have i0 : (0 : Int) ≤ (na : Int) := by omega
  have i1 : (na : Int) < 6 := by omega
  have j0 : (0 : Int) ≤ (nb : Int) := by omega
  have j1 : (nb : Int) < 6 := by omega
  go_enter Try.func187, Try.ntmps187
  go_wp2_with (fail)
  go_quiet (fail)
  go_wp2_with (fail)
  go_ret
  exact ⟨ret_int (by rw [hR.out]), below_drewN (hB1 _).out _⟩

set_option maxHeartbeats 2000000 in
theorem valueOf_addi (op : ByteArray) (d m : Int) (na nb : Nat) (b : Nat) (u v : Int) (w : World) (ha : na < 6) (hb : nb < 6) (hbb : b < w.heap.size) (ca : w.cell? ⟨b, na, none⟩ = some (.int .i64 u)) (cb : w.cell? ⟨b, nb, none⟩ = some (.int .i64 v)) (hu0 : 0 ≤ u) (hu1 : u ≤ 63) (hv0 : 0 ≤ v) (hv1 : v ≤ 63) (h : op.toList = [97,100,100,105]) (hm0 : 0 ≤ m) (hm1 : m ≤ 63) :
    Calls Try.prog 187 #[.pointer (some ⟨b, 0, none⟩), .agg #[.string op, .int .i64 d, .int .i64 na, .int .i64 nb, .int .i64 m]] w fun e w' => e = .returned (.int .i64 (vOf op m u v)) ∧ Below w.heap.size w w' := by
  have hR := Lib.hid (vOf_addi h m u v)
  have hB1 := fun o => Lib.hid ((Below.refl w.heap.size w).alloc (Nat.le_refl _) o)
  have i0 : (0 : Int) ≤ (na : Int) := by omega
  have i1 : (na : Int) < 6 := by omega
  have j0 : (0 : Int) ≤ (nb : Int) := by omega
  have j1 : (nb : Int) < 6 := by omega
  obtain rfl := bytes_of h
  go_enter Try.func187, Try.ntmps187
  go_wp2_with (fail)
  go_quiet (fail)
  go_wp2_with (fail)
  obtain ⟨wq, hwq⟩ : ∃ wq : World, wq = (w.alloc (.cells #[.string ⟨#[97,100,100,105]⟩, .int .i64 d, .int .i64 na, .int .i64 nb, .int .i64 m] 90)).drewN nq := ⟨_, rfl⟩
  rw [← hwq]
  have hb1 : Hid (Below w.heap.size w wq) := by rw [hwq]; exact below_drewN (hB1 _).out _
  obtain ⟨xa, _, _, _, xe⟩ := In.old (x := ⟨⟨#[97,100,100,105]⟩, d, na, nb, m⟩) (w2 := wq) (t := 90) rfl (by rw [hwq]; exact below_drewN (Below.refl _ _) _)
  clear hwq
  go_quiet ((first | (go_at_call 205; exact Calls.quiet_of_same (same_flip (trim_addi _))) | (go_at_call 204; exact Calls.quiet_of_same (same_flip (valueOfOp_any _ _ _ _ (by omega) (by omega) (by omega) (by omega) op_add)))))
  go_wp2
  go_ret
  exact ⟨ret_int (by rw [hR.out]), below_drewN hb1.out _⟩

set_option maxHeartbeats 2000000 in
theorem valueOf_andi (op : ByteArray) (d m : Int) (na nb : Nat) (b : Nat) (u v : Int) (w : World) (ha : na < 6) (hb : nb < 6) (hbb : b < w.heap.size) (ca : w.cell? ⟨b, na, none⟩ = some (.int .i64 u)) (cb : w.cell? ⟨b, nb, none⟩ = some (.int .i64 v)) (hu0 : 0 ≤ u) (hu1 : u ≤ 63) (hv0 : 0 ≤ v) (hv1 : v ≤ 63) (h : op.toList = [97,110,100,105]) (hm0 : 0 ≤ m) (hm1 : m ≤ 63) :
    Calls Try.prog 187 #[.pointer (some ⟨b, 0, none⟩), .agg #[.string op, .int .i64 d, .int .i64 na, .int .i64 nb, .int .i64 m]] w fun e w' => e = .returned (.int .i64 (vOf op m u v)) ∧ Below w.heap.size w w' := by
  have hR := Lib.hid (vOf_andi h m u v)
  have hB1 := fun o => Lib.hid ((Below.refl w.heap.size w).alloc (Nat.le_refl _) o)
  have i0 : (0 : Int) ≤ (na : Int) := by omega
  have i1 : (na : Int) < 6 := by omega
  have j0 : (0 : Int) ≤ (nb : Int) := by omega
  have j1 : (nb : Int) < 6 := by omega
  obtain rfl := bytes_of h
  go_enter Try.func187, Try.ntmps187
  go_wp2_with (fail)
  go_quiet (fail)
  go_wp2_with (fail)
  obtain ⟨wq, hwq⟩ : ∃ wq : World, wq = (w.alloc (.cells #[.string ⟨#[97,110,100,105]⟩, .int .i64 d, .int .i64 na, .int .i64 nb, .int .i64 m] 90)).drewN nq := ⟨_, rfl⟩
  rw [← hwq]
  have hb1 : Hid (Below w.heap.size w wq) := by rw [hwq]; exact below_drewN (hB1 _).out _
  obtain ⟨xa, _, _, _, xe⟩ := In.old (x := ⟨⟨#[97,110,100,105]⟩, d, na, nb, m⟩) (w2 := wq) (t := 90) rfl (by rw [hwq]; exact below_drewN (Below.refl _ _) _)
  clear hwq
  go_quiet ((first | (go_at_call 205; exact Calls.quiet_of_same (same_flip (trim_andi _))) | (go_at_call 204; exact Calls.quiet_of_same (same_flip (valueOfOp_any _ _ _ _ (by omega) (by omega) (by omega) (by omega) op_and)))))
  go_wp2
  go_ret
  exact ⟨ret_int (by rw [hR.out]), below_drewN hb1.out _⟩

set_option maxHeartbeats 2000000 in
theorem valueOf_xori (op : ByteArray) (d m : Int) (na nb : Nat) (b : Nat) (u v : Int) (w : World) (ha : na < 6) (hb : nb < 6) (hbb : b < w.heap.size) (ca : w.cell? ⟨b, na, none⟩ = some (.int .i64 u)) (cb : w.cell? ⟨b, nb, none⟩ = some (.int .i64 v)) (hu0 : 0 ≤ u) (hu1 : u ≤ 63) (hv0 : 0 ≤ v) (hv1 : v ≤ 63) (h : op.toList = [120,111,114,105]) (hm0 : 0 ≤ m) (hm1 : m ≤ 63) :
    Calls Try.prog 187 #[.pointer (some ⟨b, 0, none⟩), .agg #[.string op, .int .i64 d, .int .i64 na, .int .i64 nb, .int .i64 m]] w fun e w' => e = .returned (.int .i64 (vOf op m u v)) ∧ Below w.heap.size w w' := by
  have hR := Lib.hid (vOf_xori h m u v)
  have hB1 := fun o => Lib.hid ((Below.refl w.heap.size w).alloc (Nat.le_refl _) o)
  have i0 : (0 : Int) ≤ (na : Int) := by omega
  have i1 : (na : Int) < 6 := by omega
  have j0 : (0 : Int) ≤ (nb : Int) := by omega
  have j1 : (nb : Int) < 6 := by omega
  obtain rfl := bytes_of h
  go_enter Try.func187, Try.ntmps187
  go_wp2_with (fail)
  go_quiet (fail)
  go_wp2_with (fail)
  obtain ⟨wq, hwq⟩ : ∃ wq : World, wq = (w.alloc (.cells #[.string ⟨#[120,111,114,105]⟩, .int .i64 d, .int .i64 na, .int .i64 nb, .int .i64 m] 90)).drewN nq := ⟨_, rfl⟩
  rw [← hwq]
  have hb1 : Hid (Below w.heap.size w wq) := by rw [hwq]; exact below_drewN (hB1 _).out _
  obtain ⟨xa, _, _, _, xe⟩ := In.old (x := ⟨⟨#[120,111,114,105]⟩, d, na, nb, m⟩) (w2 := wq) (t := 90) rfl (by rw [hwq]; exact below_drewN (Below.refl _ _) _)
  clear hwq
  go_quiet ((first | (go_at_call 205; exact Calls.quiet_of_same (same_flip (trim_xori _))) | (go_at_call 204; exact Calls.quiet_of_same (same_flip (valueOfOp_any _ _ _ _ (by omega) (by omega) (by omega) (by omega) op_xor)))))
  go_wp2
  go_ret
  exact ⟨ret_int (by rw [hR.out]), below_drewN hb1.out _⟩

set_option maxHeartbeats 2000000 in
theorem valueOf_shli (op : ByteArray) (d m : Int) (na nb : Nat) (b : Nat) (u v : Int) (w : World) (ha : na < 6) (hb : nb < 6) (hbb : b < w.heap.size) (ca : w.cell? ⟨b, na, none⟩ = some (.int .i64 u)) (cb : w.cell? ⟨b, nb, none⟩ = some (.int .i64 v)) (hu0 : 0 ≤ u) (hu1 : u ≤ 63) (hv0 : 0 ≤ v) (hv1 : v ≤ 63) (h : op.toList = [115,104,108,105]) (hm0 : 1 ≤ m) (hm1 : m ≤ 5) :
    Calls Try.prog 187 #[.pointer (some ⟨b, 0, none⟩), .agg #[.string op, .int .i64 d, .int .i64 na, .int .i64 nb, .int .i64 m]] w fun e w' => e = .returned (.int .i64 (vOf op m u v)) ∧ Below w.heap.size w w' := by
  have hR := Lib.hid (vOf_shli h m u v)
  have hB1 := fun o => Lib.hid ((Below.refl w.heap.size w).alloc (Nat.le_refl _) o)
  have i0 : (0 : Int) ≤ (na : Int) := by omega
  have i1 : (na : Int) < 6 := by omega
  have j0 : (0 : Int) ≤ (nb : Int) := by omega
  have j1 : (nb : Int) < 6 := by omega
  obtain rfl := bytes_of h
  go_enter Try.func187, Try.ntmps187
  go_wp2_with (fail)
  go_quiet (fail)
  go_wp2_with (fail)
  obtain ⟨wq, hwq⟩ : ∃ wq : World, wq = (w.alloc (.cells #[.string ⟨#[115,104,108,105]⟩, .int .i64 d, .int .i64 na, .int .i64 nb, .int .i64 m] 90)).drewN nq := ⟨_, rfl⟩
  rw [← hwq]
  have hb1 : Hid (Below w.heap.size w wq) := by rw [hwq]; exact below_drewN (hB1 _).out _
  obtain ⟨xa, _, _, _, xe⟩ := In.old (x := ⟨⟨#[115,104,108,105]⟩, d, na, nb, m⟩) (w2 := wq) (t := 90) rfl (by rw [hwq]; exact below_drewN (Below.refl _ _) _)
  clear hwq
  go_quiet ((first | (go_at_call 205; exact Calls.quiet_of_same (same_flip (trim_shli _))) | (go_at_call 204; exact Calls.quiet_of_same (same_flip (valueOfOp_any _ _ _ _ (by omega) (by omega) (by omega) (by omega) op_shl)))))
  go_wp2
  go_ret
  exact ⟨ret_int (by rw [hR.out]), below_drewN hb1.out _⟩

set_option maxHeartbeats 2000000 in
theorem valueOf_shri (op : ByteArray) (d m : Int) (na nb : Nat) (b : Nat) (u v : Int) (w : World) (ha : na < 6) (hb : nb < 6) (hbb : b < w.heap.size) (ca : w.cell? ⟨b, na, none⟩ = some (.int .i64 u)) (cb : w.cell? ⟨b, nb, none⟩ = some (.int .i64 v)) (hu0 : 0 ≤ u) (hu1 : u ≤ 63) (hv0 : 0 ≤ v) (hv1 : v ≤ 63) (h : op.toList = [115,104,114,105]) (hm0 : 1 ≤ m) (hm1 : m ≤ 5) :
    Calls Try.prog 187 #[.pointer (some ⟨b, 0, none⟩), .agg #[.string op, .int .i64 d, .int .i64 na, .int .i64 nb, .int .i64 m]] w fun e w' => e = .returned (.int .i64 (vOf op m u v)) ∧ Below w.heap.size w w' := by
  have hR := Lib.hid (vOf_shri h m u v)
  have hB1 := fun o => Lib.hid ((Below.refl w.heap.size w).alloc (Nat.le_refl _) o)
  have i0 : (0 : Int) ≤ (na : Int) := by omega
  have i1 : (na : Int) < 6 := by omega
  have j0 : (0 : Int) ≤ (nb : Int) := by omega
  have j1 : (nb : Int) < 6 := by omega
  obtain rfl := bytes_of h
  go_enter Try.func187, Try.ntmps187
  go_wp2_with (fail)
  go_quiet (fail)
  go_wp2_with (fail)
  obtain ⟨wq, hwq⟩ : ∃ wq : World, wq = (w.alloc (.cells #[.string ⟨#[115,104,114,105]⟩, .int .i64 d, .int .i64 na, .int .i64 nb, .int .i64 m] 90)).drewN nq := ⟨_, rfl⟩
  rw [← hwq]
  have hb1 : Hid (Below w.heap.size w wq) := by rw [hwq]; exact below_drewN (hB1 _).out _
  obtain ⟨xa, _, _, _, xe⟩ := In.old (x := ⟨⟨#[115,104,114,105]⟩, d, na, nb, m⟩) (w2 := wq) (t := 90) rfl (by rw [hwq]; exact below_drewN (Below.refl _ _) _)
  clear hwq
  go_quiet ((first | (go_at_call 205; exact Calls.quiet_of_same (same_flip (trim_shri _))) | (go_at_call 204; exact Calls.quiet_of_same (same_flip (valueOfOp_any _ _ _ _ (by omega) (by omega) (by omega) (by omega) op_shr)))))
  go_wp2
  go_ret
  exact ⟨ret_int (by rw [hR.out]), below_drewN hb1.out _⟩

set_option maxHeartbeats 2000000 in
theorem valueOf_lea (op : ByteArray) (d m : Int) (na nb : Nat) (b : Nat) (u v : Int) (w : World) (ha : na < 6) (hb : nb < 6) (hbb : b < w.heap.size) (ca : w.cell? ⟨b, na, none⟩ = some (.int .i64 u)) (cb : w.cell? ⟨b, nb, none⟩ = some (.int .i64 v)) (hu0 : 0 ≤ u) (hu1 : u ≤ 63) (hv0 : 0 ≤ v) (hv1 : v ≤ 63) (h : op.toList = [108,101,97]) (hm0 : 1 ≤ m) (hm1 : m ≤ 3) :
    Calls Try.prog 187 #[.pointer (some ⟨b, 0, none⟩), .agg #[.string op, .int .i64 d, .int .i64 na, .int .i64 nb, .int .i64 m]] w fun e w' => e = .returned (.int .i64 (vOf op m u v)) ∧ Below w.heap.size w w' := by
  have hR := Lib.hid (vOf_lea h m u v)
  have hB1 := fun o => Lib.hid ((Below.refl w.heap.size w).alloc (Nat.le_refl _) o)
  have i0 : (0 : Int) ≤ (na : Int) := by omega
  have i1 : (na : Int) < 6 := by omega
  have j0 : (0 : Int) ≤ (nb : Int) := by omega
  have j1 : (nb : Int) < 6 := by omega
  go_enter Try.func187, Try.ntmps187
  go_wp2_with (fail)
  go_quiet (fail)
  obtain ⟨hq0, hq1⟩ := ap_bd ⟨#[115,104,108]⟩ v m hv0 hv1 (by omega) (by omega)
  have hb1 := Lib.hid (below_drewN (hB1 (.cells #[.string op, .int .i64 d, .int .i64 na, .int .i64 nb, .int .i64 m] 90)).out nq)
  go_wp2_with (fail)
  refine (valueOfOp_any _ _ _ _ (by omega) (by omega) (by omega) (by omega) op_shl).mono ?_
  rintro e w' ⟨rfl, rfl⟩
  go_wp2_with (fail)
  refine (valueOfOp_any _ _ _ _ (by omega) (by omega) hq0 hq1 op_add).mono ?_
  rintro e w' ⟨rfl, rfl⟩
  go_wp2
  go_ret
  exact ⟨ret_int (by rw [hR.out]), hb1.out⟩

set_option maxHeartbeats 2000000 in
theorem valueOf_plain (op : ByteArray) (d m : Int) (na nb : Nat) (b : Nat) (u v : Int) (w : World) (ha : na < 6) (hb : nb < 6) (hbb : b < w.heap.size) (ca : w.cell? ⟨b, na, none⟩ = some (.int .i64 u)) (cb : w.cell? ⟨b, nb, none⟩ = some (.int .i64 v)) (hu0 : 0 ≤ u) (hu1 : u ≤ 63) (hv0 : 0 ≤ v) (hv1 : v ≤ 63) (h : plainOp op) (hop : isOp op = true) :
    Calls Try.prog 187 #[.pointer (some ⟨b, 0, none⟩), .agg #[.string op, .int .i64 d, .int .i64 na, .int .i64 nb, .int .i64 m]] w fun e w' => e = .returned (.int .i64 (vOf op m u v)) ∧ Below w.heap.size w w' := by
  have hR := Lib.hid (vOf_plain h m u v)
  have hB1 := fun o => Lib.hid ((Below.refl w.heap.size w).alloc (Nat.le_refl _) o)
  have i0 : (0 : Int) ≤ (na : Int) := by omega
  have i1 : (na : Int) < 6 := by omega
  have j0 : (0 : Int) ≤ (nb : Int) := by omega
  have j1 : (nb : Int) < 6 := by omega
  obtain ⟨q0, q1, q2, q3, q4, q5, q6, q7⟩ := h
  go_enter Try.func187, Try.ntmps187
  go_wp2_with (fail)
  go_quiet (fail)
  go_wp2_with (go_at_call 204; refine (valueOfOp_any _ _ _ _ (by omega) (by omega) (by omega) (by omega) hop).mono ?_; rintro e w' ⟨rfl, rfl⟩)
  go_ret
  exact ⟨ret_int (by rw [hR.out]), below_drewN (hB1 _).out _⟩
end Go.Proofs.Ythjfedidpjfboaa

namespace Go.Proofs.Ythjfedidpjfboaa
open Go.RowKit
set_option linter.unusedVariables false
set_option maxRecDepth 100000

/-- Six words in cells from an address on. -/
def Six (w : World) (b o : Nat) (rs : List Int) : Prop := ∀ i, i < 6 → w.cell? ⟨b, o + i, none⟩ = some (.int .i64 (rs.getD i 0))
theorem Six.below {w w' : World} {b o : Nat} {rs : List Int} (h : Six w b o rs) {C : Nat} (hb : Below C w w') (hC : b < C) : Six w' b o rs := fun i hi => (hb.cell hC).trans (h i hi)
theorem Six.heap {w w' : World} {b o : Nat} {rs : List Int} (h : w'.heap = w.heap) (hc : Six w b o rs) : Six w' b o rs := fun i hi => by have := hc i hi; unfold World.cell? at *; rw [h]; exact this
theorem IS.six {w : World} {L B : Nat} {A : Option Addr} {rs : List Int} (h : IS w L B A rs) (h6 : rs.length = 6) : ∃ b o, A = some ⟨b, o, none⟩ ∧ (L ≤ b ∧ b < B) ∧ Six w b o rs := by
  obtain ⟨b, o, e, hb, hc⟩ := h (by omega)
  exact ⟨b, o, e, hb, fun i hi => by rw [hc i (by omega), List.getD_eq_getElem?_getD, List.getElem?_eq_getElem (by omega)]; rfl⟩
theorem cdValue_any (x : In) (b o c : Nat) (rs : List Int) (w : World) (hx : goodIn x = true) (h6 : words6 rs) (hbb : b < w.heap.size) (hc : Six w b o rs) :
    Calls Try.prog 155 #[.agg #[.string x.op, .int .i64 x.d, .int .i64 x.a, .int .i64 x.b, .int .i64 x.m], .slice (some ⟨b, o, none⟩) 6 c] w fun e w' => e = .returned (.int .i64 (vOf x.op x.m (rs.getD x.a.toNat 0) (rs.getD x.b.toNat 0))) ∧ Below w.heap.size w w' := by
  obtain ⟨hd, ha, hb, hok, hm⟩ := good_parts hx
  obtain ⟨op, d, a, b', m⟩ := x
  obtain ⟨na, rfl⟩ := Int.eq_ofNat_of_zero_le ha.1
  obtain ⟨nb, rfl⟩ := Int.eq_ofNat_of_zero_le hb.1
  have hu := getD_bd h6.2 na
  have hv := getD_bd h6.2 nb
  simp only at ha hb hm hok
  simp only [Int.toNat_natCast]
  rcases val_cases hok with h|h|h|h|h|h|h|h|⟨h, hop, _, _⟩
  · rw [fm_set h] at hm; exact cdValue_set op d m na nb b o c _ _ w (by omega) (by omega) hbb (hc na (by omega)) (hc nb (by omega)) hu.1 hu.2 hv.1 hv.2 h hm.1 hm.2
  · rw [fm_mov h] at hm; exact cdValue_mov op d m na nb b o c _ _ w (by omega) (by omega) hbb (hc na (by omega)) (hc nb (by omega)) hu.1 hu.2 hv.1 hv.2 h hm.1 hm.2
  · rw [fm_addi h] at hm; exact cdValue_addi op d m na nb b o c _ _ w (by omega) (by omega) hbb (hc na (by omega)) (hc nb (by omega)) hu.1 hu.2 hv.1 hv.2 h hm.1 hm.2
  · rw [fm_andi h] at hm; exact cdValue_andi op d m na nb b o c _ _ w (by omega) (by omega) hbb (hc na (by omega)) (hc nb (by omega)) hu.1 hu.2 hv.1 hv.2 h hm.1 hm.2
  · rw [fm_xori h] at hm; exact cdValue_xori op d m na nb b o c _ _ w (by omega) (by omega) hbb (hc na (by omega)) (hc nb (by omega)) hu.1 hu.2 hv.1 hv.2 h hm.1 hm.2
  · rw [fm_shli h] at hm; exact cdValue_shli op d m na nb b o c _ _ w (by omega) (by omega) hbb (hc na (by omega)) (hc nb (by omega)) hu.1 hu.2 hv.1 hv.2 h hm.1 hm.2
  · rw [fm_shri h] at hm; exact cdValue_shri op d m na nb b o c _ _ w (by omega) (by omega) hbb (hc na (by omega)) (hc nb (by omega)) hu.1 hu.2 hv.1 hv.2 h hm.1 hm.2
  · rw [fm_lea h] at hm; exact cdValue_lea op d m na nb b o c _ _ w (by omega) (by omega) hbb (hc na (by omega)) (hc nb (by omega)) hu.1 hu.2 hv.1 hv.2 h hm.1 hm.2
  · exact cdValue_plain op d m na nb b o c _ _ w (by omega) (by omega) hbb (hc na (by omega)) (hc nb (by omega)) hu.1 hu.2 hv.1 hv.2 h hop
theorem valueOf_any (x : In) (b : Nat) (rs : List Int) (w : World) (hx : goodIn x = true) (h6 : words6 rs) (hbb : b < w.heap.size) (hc : Six w b 0 rs) :
    Calls Try.prog 187 #[.pointer (some ⟨b, 0, none⟩), .agg #[.string x.op, .int .i64 x.d, .int .i64 x.a, .int .i64 x.b, .int .i64 x.m]] w fun e w' => e = .returned (.int .i64 (vOf x.op x.m (rs.getD x.a.toNat 0) (rs.getD x.b.toNat 0))) ∧ Below w.heap.size w w' := by
  obtain ⟨hd, ha, hb, hok, hm⟩ := good_parts hx
  obtain ⟨op, d, a, b', m⟩ := x
  obtain ⟨na, rfl⟩ := Int.eq_ofNat_of_zero_le ha.1
  obtain ⟨nb, rfl⟩ := Int.eq_ofNat_of_zero_le hb.1
  have hu := getD_bd h6.2 na
  have hv := getD_bd h6.2 nb
  have hc' : ∀ i, i < 6 → w.cell? ⟨b, i, none⟩ = some (.int .i64 (rs.getD i 0)) := fun i hi => by have := hc i hi; rwa [Nat.zero_add] at this
  simp only at ha hb hm hok
  simp only [Int.toNat_natCast]
  rcases val_cases hok with h|h|h|h|h|h|h|h|⟨h, hop, _, _⟩
  · rw [fm_set h] at hm; exact valueOf_set op d m na nb b _ _ w (by omega) (by omega) hbb (hc' na (by omega)) (hc' nb (by omega)) hu.1 hu.2 hv.1 hv.2 h hm.1 hm.2
  · rw [fm_mov h] at hm; exact valueOf_mov op d m na nb b _ _ w (by omega) (by omega) hbb (hc' na (by omega)) (hc' nb (by omega)) hu.1 hu.2 hv.1 hv.2 h hm.1 hm.2
  · rw [fm_addi h] at hm; exact valueOf_addi op d m na nb b _ _ w (by omega) (by omega) hbb (hc' na (by omega)) (hc' nb (by omega)) hu.1 hu.2 hv.1 hv.2 h hm.1 hm.2
  · rw [fm_andi h] at hm; exact valueOf_andi op d m na nb b _ _ w (by omega) (by omega) hbb (hc' na (by omega)) (hc' nb (by omega)) hu.1 hu.2 hv.1 hv.2 h hm.1 hm.2
  · rw [fm_xori h] at hm; exact valueOf_xori op d m na nb b _ _ w (by omega) (by omega) hbb (hc' na (by omega)) (hc' nb (by omega)) hu.1 hu.2 hv.1 hv.2 h hm.1 hm.2
  · rw [fm_shli h] at hm; exact valueOf_shli op d m na nb b _ _ w (by omega) (by omega) hbb (hc' na (by omega)) (hc' nb (by omega)) hu.1 hu.2 hv.1 hv.2 h hm.1 hm.2
  · rw [fm_shri h] at hm; exact valueOf_shri op d m na nb b _ _ w (by omega) (by omega) hbb (hc' na (by omega)) (hc' nb (by omega)) hu.1 hu.2 hv.1 hv.2 h hm.1 hm.2
  · rw [fm_lea h] at hm; exact valueOf_lea op d m na nb b _ _ w (by omega) (by omega) hbb (hc' na (by omega)) (hc' nb (by omega)) hu.1 hu.2 hv.1 hv.2 h hm.1 hm.2
  · exact valueOf_plain op d m na nb b _ _ w (by omega) (by omega) hbb (hc' na (by omega)) (hc' nb (by omega)) hu.1 hu.2 hv.1 hv.2 h hop
end Go.Proofs.Ythjfedidpjfboaa
