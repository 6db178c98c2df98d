import Derived.Test.YtblgiemhdjndfaaH2
import Derived.WalkKit
import Derived.WalkSpells
import Derived.WalkLawsBesides
import Derived.StillTailTactics
import Derived.Lib.Hide
namespace Go.Proofs.Ytblgiemhdjndfaa
open Go.RowKit
set_option linter.unusedVariables false

def db (n : Nat) : UInt8 := UInt8.ofNat (48 + n % 10)
theorem db_val (n : Nat) : ((db n).toNat : Int) = 48 + (n : Int) % 10 := by
  unfold db
  rw [UInt8.toNat_ofNat']
  omega
def dg (n : Nat) (acc : List UInt8) : List UInt8 := if h : n = 0 then acc else dg (n / 10) (db n :: acc)
termination_by n
decreasing_by omega
theorem dg_pos {n : Nat} (h : 0 < n) (acc : List UInt8) : dg n acc = dg (n / 10) (db n :: acc) := by
  rw [dg, dif_neg (by omega)]
theorem dg_zero (acc : List UInt8) : dg 0 acc = acc := by rw [dg, dif_pos rfl]
def mtx (k : Int) : ByteArray := if k ≤ 0 then ⟨#[109, 48]⟩ else ⟨(109 :: dg k.toNat []).toArray⟩
theorem bytes_app (a b : List UInt8) : (⟨a.toArray⟩ : ByteArray) ++ ⟨b.toArray⟩ = ⟨(a ++ b).toArray⟩ := by
  apply ByteArray.ext
  rw [ByteArray.data_append]; simp

set_option maxRecDepth 100000 in
theorem markText_any (k : Int) (w : World) (h0 : 0 ≤ k) (h1 : k ≤ 8000000) : Calls Try.prog 59 #[.int .i64 k] w fun e w' => e = .returned (.string (mtx k)) ∧ Below w.heap.size w w' := by
  have hB := Lib.hid (Below.refl w.heap.size w)
  by_cases hk : k ≤ 0
  · have hM : Hid (mtx k = ⟨#[109, 48]⟩) := by simp [Hid, mtx, hk]
    go_enter Try.func59, Try.ntmps59
    go_wp2
    go_ret
    exact ⟨by rw [hM.out]; rfl, hB.out⟩
  · have hM : Hid (mtx k = ⟨(109 :: dg k.toNat []).toArray⟩) := by simp [Hid, mtx, hk]
    go_enter Try.func59, Try.ntmps59
    go_wp2
    go_loopw [0, 3] (fun q t wr => ∃ (n : Nat) (acc : List UInt8), q = .int .i64 n ∧ n ≤ 8000000 ∧ t = .string ⟨acc.toArray⟩ ∧ acc.length + n ≤ 8000000 ∧ dg n acc = dg k.toNat [] ∧ Below w.heap.size w wr) (fun q _ _ => (intOf q).toNat)
    case atStart => exact ⟨k.toNat, [], by go_num, by omega, rfl, by simp; omega, rfl, hB.out⟩
    case round =>
      obtain ⟨n, acc, rfl, hn, rfl, hs, hdg, hbel⟩ := hrel
      have hBB := Lib.hid hbel
      have hD := Lib.hid hdg
      have hal := fun o => Lib.hid (hbel.alloc hbel.size o)
      clear hbel hdg
      by_cases hp : 0 < n
      · have hcv := run_convert_bytes_back (P := Try.prog) (wr.alloc (.cells #[.int .u8 (48 + (n : Int) % 10)] 5)) 83 9 5 ⟨wr.heap.size, 0, none⟩ 1 [db n] Try.underlying83 Try.underlying5 Try.underlying9 (fun j hj => by
          obtain rfl : j = 0 := by simpa using hj
          simp only [List.getElem_cons_zero, db_val]
          simp [Addr.add, go_sem])
        have hap := Lib.hid (bytes_app [db n] acc)
        have hst := Lib.hid (dg_pos hp acc)
        simp only [List.length_singleton] at hcv
        have hsz1 : (⟨acc.toArray⟩ : ByteArray).size = acc.length := by simp [ByteArray.size]
        have hsz2 : (⟨#[db n]⟩ : ByteArray).size = 1 := rfl
        have hadd := run_string_add_sum (P := Try.prog) (wr.alloc (.cells #[.int .u8 (48 + (n : Int) % 10)] 5)) ⟨#[db n]⟩ ⟨acc.toArray⟩ (by rw [hsz1, hsz2]; omega)
        clear hsz1 hsz2
        go_wp2
        go_roundw
        case rel => exact ⟨n / 10, db n :: acc, by go_num, by omega, by rw [hap.out]; rfl, by simp; omega, by rw [← hst.out]; exact hD.out, (hal _).out⟩
        case measure => simp [intOf]; omega
      · obtain rfl : n = 0 := by omega
        go_wp2
        go_ret
        refine ⟨?_, hBB.out⟩
        have h1 := hD.out
        rw [dg_zero] at h1
        rw [hM.out, ← h1]
        exact congrArg (fun x => Ending.returned (.string x)) (bytes_app [109] acc)

def setField (w : World) (g i j : Nat) (x : Value) : World := w.setCell ⟨g, i * 4 + j, none⟩ x
/-- The marks that node i of a slice gets. -/
def markNd (k : Int) (i : Nat) : Nd := ⟨mtx (k + 4 * i), k + 4 * i + 1, k + 4 * i + 1 + 1, k + 4 * i + 1 + 1 + 1⟩
def markNds (k : Int) (n : Nat) : List Nd := (List.range n).map (markNd k)
def markedNds (es : List Nd) (k : Int) (i : Nat) : List Nd := markNds k i ++ es.drop i
theorem markedNds_len {es : List Nd} {k : Int} {i : Nat} (h : i ≤ es.length) : (markedNds es k i).length = es.length := by simp [markedNds, markNds]; omega
theorem markedNds_succ {es : List Nd} {k : Int} {i : Nat} (h : i < es.length) : (markedNds es k i).set i (markNd k i) = markedNds es k (i + 1) := by
  have hl : (markNds k i).length = i := by simp [markNds]
  unfold markedNds
  rw [List.set_append_right _ _ (by omega), hl, Nat.sub_self, List.drop_eq_getElem_cons h, List.set_cons_zero]
  unfold markNds
  rw [List.range_succ, List.map_append, List.append_assoc]; rfl

/-- A slice of nodes that the call made: its block, if any, lies in [lo, hi). -/
def NW (w : World) (lo hi : Nat) (v : Value) (es : List Nd) : Prop :=
  (v = .slice none 0 0 ∧ es = []) ∨ ∃ g cap cur, v = .slice (some ⟨g, 0, none⟩) es.length cap ∧ (lo ≤ g ∧ g < hi) ∧ es.length ≤ cap ∧ cap ≤ maxLen ∧ w.heap[g]? = some (.cells cur 51 (0, 0)) ∧ cur.size = cap * 4 ∧ cur.toList.take (es.length * 4) = es.flatMap Nd.cells
theorem setNode_grown (w : World) (g i : Nat) (n : Nd) : w.grownBy (setNode w g i n) (some g) := by
  have h : ∀ (w : World) (o : Nat) (x : Value), w.grownBy (w.setCell ⟨g, o, none⟩ x) (some g) := fun w o x =>
    ⟨rfl, rfl, rfl, by simp [World.setCell], fun k _ hk => Below.heap_setCell w ⟨g, o, none⟩ x k (fun e => hk (by rw [e]))⟩
  have tr : ∀ {a b c : World}, a.grownBy b (some g) → b.grownBy c (some g) → a.grownBy c (some g) := fun h1 h2 =>
    ⟨h2.os.trans h1.os, h2.tape.trans h1.tape, h2.output.trans h1.output, Nat.le_trans h1.size h2.size, fun k hk hne => (h2.block k (Nat.lt_of_lt_of_le hk h1.size) hne).trans (h1.block k hk hne)⟩
  exact tr (tr (tr (h _ _ _) (h _ _ _)) (h _ _ _)) (h _ _ _)
theorem grownBy_trans {a b c : World} {row : Option Nat} (h1 : a.grownBy b row) (h2 : b.grownBy c row) : a.grownBy c row :=
  ⟨h2.os.trans h1.os, h2.tape.trans h1.tape, h2.output.trans h1.output, Nat.le_trans h1.size h2.size, fun k hk hne => (h2.block k (Nat.lt_of_lt_of_le hk h1.size) hne).trans (h1.block k hk hne)⟩
theorem grownBy_of_below {a w : World} (h : Below a.heap.size a w) (row : Option Nat) : a.grownBy w row := ⟨h.os, h.tape, h.output, h.size, fun i hi _ => h.block i hi⟩

def MarkedNodes (w : World) (g : Nat) (es : List Nd) (k : Int) (e : Ending) (w' : World) : Prop :=
  e = .returned (.int .i64 (k + 4 * es.length)) ∧ NB w' g 51 (markNds k es.length) ∧ w.grownBy w' (some g)
set_option maxHeartbeats 1000000 in
theorem markNodeS_any (g c : Nat) (es : List Nd) (k0 : Int) (w : World) (hl : es.length ≤ 1048576) (hk0 : 0 ≤ k0) (hk1 : k0 ≤ 1000) (hx : NB w g 51 es) :
    Calls Try.prog 25 #[.slice (some ⟨g, 0, none⟩) es.length c, .int .i64 k0] w (MarkedNodes w g es k0) := by
  have hX0 : Hid (NB w g 51 (markedNds es k0 0)) := hx
  have hG0 := Lib.hid (World.grownBy.refl w (some g))
  clear hx
  go_enter Try.func25, Try.ntmps25
  go_wp2
  go_loopw [1, 5] (fun q i wr => ∃ k : Nat, k ≤ es.length ∧ i = .int .i64 k ∧ q = .int .i64 (k0 + 4 * k) ∧ NB wr g 51 (markedNds es k0 k) ∧ w.grownBy wr (some g)) (fun _ i _ => es.length - (intOf i).toNat)
  case atStart => exact ⟨0, Nat.zero_le _, rfl, by simp, hX0.out, hG0.out⟩
  case round =>
    obtain ⟨k, hk, rfl, rfl, hnb, hgr⟩ := hrel
    have hNB := Lib.hid hnb
    have hGR := Lib.hid hgr
    have hglt := hnb.lt
    clear hnb hgr
    by_cases hlt : k < es.length
    · go_wp2_with (fail)
      refine (markText_any _ _ (by omega) (by omega)).mono ?_
      rintro e w2 ⟨rfl, hb2⟩
      have hNB2 := Lib.hid (hNB.out.below hb2 hglt)
      have hGR2 := Lib.hid (grownBy_trans hGR.out (grownBy_of_below hb2 (some g)))
      clear hb2
      have hfl : Hid ((markedNds es k0 k).length = es.length) := markedNds_len hk
      obtain ⟨z1, z2, z3, z4, d1, d2, d3, d4⟩ := hNB2.out.cells_ex k (by rw [hfl.out]; exact hlt)
      have f1 := hNB2.out.frozen (k * 4)
      have f2 := hNB2.out.frozen (k * 4 + 1)
      have f3 := hNB2.out.frozen (k * 4 + 2)
      have f4 := hNB2.out.frozen (k * 4 + 3)
      have hst : Hid (NB (setNode w2 g k (markNd k0 k)) g 51 (markedNds es k0 (k + 1))) := by
        have h1 := hNB2.out.store k (by rw [hfl.out]; exact hlt) (markNd k0 k)
        rw [markedNds_succ hlt] at h1; exact h1
      have hgs : Hid (w.grownBy (setNode w2 g k (markNd k0 k)) (some g)) := grownBy_trans hGR2.out (setNode_grown _ _ _ _)
      have hSN : Hid (setNode w2 g k (markNd k0 k) = (((w2.setCell ⟨g, k * 4, none⟩ (.string (mtx (k0 + 4 * k)))).setCell ⟨g, k * 4 + 1, none⟩ (.int .i64 (k0 + 4 * k + 1))).setCell ⟨g, k * 4 + 2, none⟩ (.int .i64 (k0 + 4 * k + 1 + 1))).setCell ⟨g, k * 4 + 3, none⟩ (.int .i64 (k0 + 4 * k + 1 + 1 + 1))) := rfl
      go_wp2
      go_roundw
      case rel => exact ⟨k + 1, by omega, by go_num, by go_num, by have := hst.out; rw [hSN.out] at this; exact this, by have := hgs.out; rw [hSN.out] at this; exact this⟩
      case measure => simp [intOf]; omega
    · obtain rfl : k = es.length := by omega
      have hN : Hid (NB wr g 51 (markNds k0 es.length)) := by
        have := hNB.out; rwa [show markedNds es k0 es.length = markNds k0 es.length by simp [markedNds]] at this
      go_wp2
      go_ret
      exact ⟨rfl, hN.out, hGR.out⟩
end Go.Proofs.Ytblgiemhdjndfaa
