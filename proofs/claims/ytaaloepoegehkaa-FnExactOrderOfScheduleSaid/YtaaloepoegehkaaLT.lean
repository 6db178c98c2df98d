import Derived.Test.YtaaloepoegehkaaRows
import Derived.Test.YtaaloepoegehkaaV2
import Derived.WalkKit
import Derived.WalkSpells
import Derived.WalkLawsBesides
import Derived.StillTailTactics
import Derived.Lib.Hide
namespace Go.Proofs.Ytaaloepoegehkaa
open Go.RowKit
set_option linter.unusedVariables false

def db (n : Nat) : UInt8 := UInt8.ofNat (48 + n % 10)
theorem db_val (n : Nat) : ((db n).toNat : Int) = 48 + (n : Int) % 10 := by
  unfold db
  rw [UInt8.toNat_ofNat']
  omega
def dg (n : Nat) (acc : List UInt8) : List UInt8 := if h : n = 0 then acc else dg (n / 10) (db n :: acc)
termination_by n
decreasing_by omega
theorem dg_pos {n : Nat} (h : 0 < n) (acc : List UInt8) : dg n acc = dg (n / 10) (db n :: acc) := by
  rw [dg, dif_neg (by omega)]
theorem dg_zero (acc : List UInt8) : dg 0 acc = acc := by rw [dg, dif_pos rfl]
def mtx (k : Int) : ByteArray := if k ≤ 0 then ⟨#[109, 48]⟩ else ⟨(109 :: dg k.toNat []).toArray⟩
theorem bytes_app (a b : List UInt8) : (⟨a.toArray⟩ : ByteArray) ++ ⟨b.toArray⟩ = ⟨(a ++ b).toArray⟩ := by
  apply ByteArray.ext
  rw [ByteArray.data_append]; simp

set_option maxRecDepth 100000 in
theorem markText_any (k : Int) (w : World) (h0 : 0 ≤ k) (h1 : k ≤ 1000000000) : Calls Try.prog 86 #[.int .i64 k] w fun e w' => e = .returned (.string (mtx k)) ∧ Below w.heap.size w w' := by
  have hB := Lib.hid (Below.refl w.heap.size w)
  by_cases hk : k ≤ 0
  · have hM : Hid (mtx k = ⟨#[109, 48]⟩) := by simp [Hid, mtx, hk]
    go_enter Try.func86, Try.ntmps86
    go_wp2
    go_ret
    exact ⟨by rw [hM.out]; rfl, hB.out⟩
  · have hM : Hid (mtx k = ⟨(109 :: dg k.toNat []).toArray⟩) := by simp [Hid, mtx, hk]
    go_enter Try.func86, Try.ntmps86
    go_wp2
    go_loopw [0, 3] (fun q t wr => ∃ (n : Nat) (acc : List UInt8), q = .int .i64 n ∧ n ≤ 1000000000 ∧ t = .string ⟨acc.toArray⟩ ∧ acc.length + n ≤ 1000000000 ∧ dg n acc = dg k.toNat [] ∧ Below w.heap.size w wr) (fun q _ _ => (intOf q).toNat)
    case atStart => exact ⟨k.toNat, [], by go_num, by omega, rfl, by simp; omega, rfl, hB.out⟩
    case round =>
      obtain ⟨n, acc, rfl, hn, rfl, hs, hdg, hbel⟩ := hrel
      have hBB := Lib.hid hbel
      have hD := Lib.hid hdg
      have hal := fun o => Lib.hid (hbel.alloc hbel.size o)
      clear hbel hdg
      by_cases hp : 0 < n
      · have hcv := run_convert_bytes_back (P := Try.prog) (wr.alloc (.cells #[.int .u8 (48 + (n : Int) % 10)] 5)) 161 9 5 ⟨wr.heap.size, 0, none⟩ 1 [db n] Try.underlying161 Try.underlying5 Try.underlying9 (fun j hj => by
          obtain rfl : j = 0 := by simpa using hj
          simp only [List.getElem_cons_zero, db_val]
          simp [Addr.add, go_sem])
        have hap := Lib.hid (bytes_app [db n] acc)
        have hst := Lib.hid (dg_pos hp acc)
        simp only [List.length_singleton] at hcv
        have hsz1 : (⟨acc.toArray⟩ : ByteArray).size = acc.length := by simp [ByteArray.size]
        have hsz2 : (⟨#[db n]⟩ : ByteArray).size = 1 := rfl
        have hadd := run_string_add_sum (P := Try.prog) (wr.alloc (.cells #[.int .u8 (48 + (n : Int) % 10)] 5)) ⟨#[db n]⟩ ⟨acc.toArray⟩ (by rw [hsz1, hsz2]; omega)
        clear hsz1 hsz2
        go_wp2
        go_roundw
        case rel => exact ⟨n / 10, db n :: acc, by go_num, by omega, by rw [hap.out]; rfl, by simp; omega, by rw [← hst.out]; exact hD.out, (hal _).out⟩
        case measure => simp [intOf]; omega
      · obtain rfl : n = 0 := by omega
        go_wp2
        go_ret
        refine ⟨?_, hBB.out⟩
        have h1 := hD.out
        rw [dg_zero] at h1
        rw [hM.out, ← h1]
        exact congrArg (fun x => Ending.returned (.string x)) (bytes_app [109] acc)

end Go.Proofs.Ytaaloepoegehkaa
