import Derived.Test.YtmhdijklindipaaRows
import Derived.Test.YtmhdijklindipaaV2
import Derived.WalkKit
import Derived.WalkSpells
import Derived.WalkLawsBesides
import Derived.StillTailTactics
import Derived.Lib.Hide
namespace Go.Proofs.Ytmhdijklindipaa
open Go.RowKit
set_option linter.unusedVariables false

def db (n : Nat) : UInt8 := UInt8.ofNat (48 + n % 10)
theorem db_val (n : Nat) : ((db n).toNat : Int) = 48 + (n : Int) % 10 := by
  unfold db
  rw [UInt8.toNat_ofNat']
  omega
def dg (n : Nat) (acc : List UInt8) : List UInt8 := if h : n = 0 then acc else dg (n / 10) (db n :: acc)
termination_by n
decreasing_by omega
theorem dg_pos {n : Nat} (h : 0 < n) (acc : List UInt8) : dg n acc = dg (n / 10) (db n :: acc) := by
  rw [dg, dif_neg (by omega)]
theorem dg_zero (acc : List UInt8) : dg 0 acc = acc := by rw [dg, dif_pos rfl]
def mtx (k : Int) : ByteArray := if k ≤ 0 then ⟨#[109, 48]⟩ else ⟨(109 :: dg k.toNat []).toArray⟩
theorem bytes_app (a b : List UInt8) : (⟨a.toArray⟩ : ByteArray) ++ ⟨b.toArray⟩ = ⟨(a ++ b).toArray⟩ := by
  apply ByteArray.ext
  rw [ByteArray.data_append]; simp

end Go.Proofs.Ytmhdijklindipaa
