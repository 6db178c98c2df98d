/- Texts of this proof, one behind the other: LT, KMNode, VC, LawP, XI, RG. -/
import Derived.Test.YtieljgfocgdngaaRows
import Derived.Test.YtieljgfocgdngaaV2
import Derived.WalkKit
import Derived.WalkSpells
import Derived.WalkLawsBesides
import Derived.StillTailTactics
import Derived.Lib.Hide
import Derived.Test.YtieljgfocgdngaaKNode
import Derived.Test.YtieljgfocgdngaaLI
import Derived.Deep.RegionHeld3
import Derived.Test.YtieljgfocgdngaaV
import Derived.Test.YtieljgfocgdngaaZ7
import Derived.Test.YtieljgfocgdngaaWD
import Derived.Deep.RegionLaw
import Derived.Deep.AppendLies
namespace Go.Proofs.Ytieljgfocgdngaa
open Go.RowKit
set_option linter.unusedVariables false

def db (n : Nat) : UInt8 := UInt8.ofNat (48 + n % 10)
theorem db_val (n : Nat) : ((db n).toNat : Int) = 48 + (n : Int) % 10 := by
  unfold db
  rw [UInt8.toNat_ofNat']
  omega
def dg (n : Nat) (acc : List UInt8) : List UInt8 := if h : n = 0 then acc else dg (n / 10) (db n :: acc)
termination_by n
decreasing_by omega
theorem dg_pos {n : Nat} (h : 0 < n) (acc : List UInt8) : dg n acc = dg (n / 10) (db n :: acc) := by
  rw [dg, dif_neg (by omega)]
theorem dg_zero (acc : List UInt8) : dg 0 acc = acc := by rw [dg, dif_pos rfl]
def mtx (k : Int) : ByteArray := if k ≤ 0 then ⟨#[109, 48]⟩ else ⟨(109 :: dg k.toNat []).toArray⟩
theorem bytes_app (a b : List UInt8) : (⟨a.toArray⟩ : ByteArray) ++ ⟨b.toArray⟩ = ⟨(a ++ b).toArray⟩ := by
  apply ByteArray.ext
  rw [ByteArray.data_append]; simp

set_option maxRecDepth 100000 in
theorem markText_any (k : Int) (w : World) (h0 : 0 ≤ k) (h1 : k ≤ 1000000000) : Calls Try.prog 61 #[.int .i64 k] w fun e w' => e = .returned (.string (mtx k)) ∧ Below w.heap.size w w' := by
  have hB := Lib.hid (Below.refl w.heap.size w)
  by_cases hk : k ≤ 0
  · have hM : Hid (mtx k = ⟨#[109, 48]⟩) := by simp [Hid, mtx, hk]
    go_enter Try.func61, Try.ntmps61
    go_wp2
    go_ret
    exact ⟨by rw [hM.out]; rfl, hB.out⟩
  · have hM : Hid (mtx k = ⟨(109 :: dg k.toNat []).toArray⟩) := by simp [Hid, mtx, hk]
    go_enter Try.func61, Try.ntmps61
    go_wp2
    go_loopw [0, 3] (fun q t wr => ∃ (n : Nat) (acc : List UInt8), q = .int .i64 n ∧ n ≤ 1000000000 ∧ t = .string ⟨acc.toArray⟩ ∧ acc.length + n ≤ 1000000000 ∧ dg n acc = dg k.toNat [] ∧ Below w.heap.size w wr) (fun q _ _ => (intOf q).toNat)
    case atStart => exact ⟨k.toNat, [], by go_num, by omega, rfl, by simp; omega, rfl, hB.out⟩
    case round =>
      obtain ⟨n, acc, rfl, hn, rfl, hs, hdg, hbel⟩ := hrel
      have hBB := Lib.hid hbel
      have hD := Lib.hid hdg
      have hal := fun o => Lib.hid (hbel.alloc hbel.size o)
      clear hbel hdg
      by_cases hp : 0 < n
      · have hcv := run_convert_bytes_back (P := Try.prog) (wr.alloc (.cells #[.int .u8 (48 + (n : Int) % 10)] 5)) 105 9 5 ⟨wr.heap.size, 0, none⟩ 1 [db n] Try.underlying105 Try.underlying5 Try.underlying9 (fun j hj => by
          obtain rfl : j = 0 := by simpa using hj
          simp only [List.getElem_cons_zero, db_val]
          simp [Addr.add, go_sem])
        have hap := Lib.hid (bytes_app [db n] acc)
        have hst := Lib.hid (dg_pos hp acc)
        simp only [List.length_singleton] at hcv
        have hsz1 : (⟨acc.toArray⟩ : ByteArray).size = acc.length := by simp [ByteArray.size]
        have hsz2 : (⟨#[db n]⟩ : ByteArray).size = 1 := rfl
        have hadd := run_string_add_sum (P := Try.prog) (wr.alloc (.cells #[.int .u8 (48 + (n : Int) % 10)] 5)) ⟨#[db n]⟩ ⟨acc.toArray⟩ (by rw [hsz1, hsz2]; omega)
        clear hsz1 hsz2
        go_wp2
        go_roundw
        case rel => exact ⟨n / 10, db n :: acc, by go_num, by omega, by rw [hap.out]; rfl, by simp; omega, by rw [← hst.out]; exact hD.out, (hal _).out⟩
        case measure => simp [intOf]; omega
      · obtain rfl : n = 0 := by omega
        go_wp2
        go_ret
        refine ⟨?_, hBB.out⟩
        have h1 := hD.out
        rw [dg_zero] at h1
        rw [hM.out, ← h1]
        exact congrArg (fun x => Ending.returned (.string x)) (bytes_app [109] acc)

end Go.Proofs.Ytieljgfocgdngaa

/- Slices of Node: marks. -/
namespace Go.Proofs.Ytieljgfocgdngaa
open Go.RowKit
set_option linter.unusedVariables false

theorem Nd.rs {t : TypeId} {w : World} {lo hi n c : Nat} {A : Option Addr} {xs : List Nd} (h : OK Nd.enc 4 t w lo hi (.slice A n c) xs) : RS Nd.enc 4 w lo hi A xs := by
  obtain ⟨A', c', e, his⟩ := h.form Nd.hk
  injection e with a _ _; subst a; exact his
theorem Nd.boxed {t : TypeId} {w : World} (x : Nd) : RS Nd.enc 4 (w.alloc (.cells #[.string x.op, .int .i64 x.a, .int .i64 x.b, .int .i64 x.v] t)) w.heap.size (w.heap.size + 1) (some ⟨w.heap.size, 0, none⟩) [x] :=
  KB.toRS Nd.hk (t := t) (by unfold KB; rw [heap_alloc_new]; rfl)
theorem Nd.box {w : World} {lo hi g : Nat} {x : Nd} (h : RS Nd.enc 4 w lo hi (some ⟨g, 0, none⟩) [x]) : w.cell? ⟨g, 0, none⟩ = some (.string x.op) ∧ w.cell? ⟨g, 1, none⟩ = some (.int .i64 x.a) ∧ w.cell? ⟨g, 2, none⟩ = some (.int .i64 x.b) ∧ w.cell? ⟨g, 3, none⟩ = some (.int .i64 x.v) := by
  obtain ⟨b, o, e, _, hc⟩ := h (by simp)
  injection e with e; injection e with e1 e2 _; subst e1; subst e2
  have := fun j v hv => hc 0 (by simp) j v hv
  simp only [Nat.zero_mul, Nat.zero_add, List.getElem_cons_zero] at this
  exact ⟨this 0 _ rfl, this 1 _ rfl, this 2 _ rfl, this 3 _ rfl⟩
def markNd (k0 : Int) (i : Nat) : Nd := ⟨mtx (k0 + 4 * (i : Int)), k0 + 4 * (i : Int) + 1, k0 + 4 * (i : Int) + 1 + 1, k0 + 4 * (i : Int) + 1 + 1 + 1⟩
def marksNd (k0 : Int) (n : Nat) : List Nd := (List.range n).map (markNd k0)
theorem marksNd_len (k0 : Int) (n : Nat) : (marksNd k0 n).length = n := by simp [marksNd]
def MarkedNode (w : World) (lo hi : Nat) (sl : Value) (n : Nat) (k0 : Int) (e : Ending) (w' : World) : Prop :=
  e = .returned (.int .i64 (k0 + 4 * n)) ∧ OK Nd.enc 4 62 w' lo hi sl (marksNd k0 n) ∧ Chg lo hi w w'
set_option maxRecDepth 100000 in
set_option maxHeartbeats 2000000 in
theorem markNodeS_k (lo hi : Nat) (A : Option Addr) (c : Nat) (es : List Nd) (k0 : Int) (w : World) (hl : es.length ≤ 1048576) (hk0 : 0 ≤ k0) (hk1 : k0 ≤ 100000000) (hx : OK Nd.enc 4 62 w lo hi (.slice A es.length c) es) :
    Calls Try.prog 22 #[.slice A es.length c, .int .i64 k0] w (MarkedNode w lo hi (.slice A es.length c) es.length k0) := by
  have hml := Lib.hid (marksNd_len k0 es.length)
  have hX0 : Hid (OK Nd.enc 4 62 w lo hi (.slice A es.length c) (over (marksNd k0 es.length) es 0)) := by rw [over_zero]; exact hx
  have hG0 := Lib.hid (Chg.refl lo hi w)
  clear hx
  go_enter Try.func22, Try.ntmps22
  go_wp2
  go_loopw [1, 5] (fun q i wr => ∃ k : Nat, k ≤ es.length ∧ i = .int .i64 k ∧ q = .int .i64 (k0 + 4 * k) ∧ OK Nd.enc 4 62 wr lo hi (.slice A es.length c) (over (marksNd k0 es.length) es k) ∧ Chg lo hi w wr) (fun _ i _ => es.length - (intOf i).toNat)
  case atStart => exact ⟨0, Nat.zero_le _, rfl, by simp, hX0.out, hG0.out⟩
  case round =>
    obtain ⟨k, hk, rfl, rfl, how, hgr⟩ := hrel
    have hOW := Lib.hid how
    have hGR := Lib.hid hgr
    clear how hgr
    have hol : Hid ((over (marksNd k0 es.length) es k).length = es.length) := over_len (by rw [hml.out]; exact hk) hml.out
    by_cases hlt : k < es.length
    · have hov : Hid ((over (marksNd k0 es.length) es k).set k (markNd k0 k) = over (marksNd k0 es.length) es (k + 1)) := by
        have := over_succ (ys := marksNd k0 es.length) (xs := es) (i := k) (by rw [hml.out]; exact hlt) hml.out
        rw [Hid, ← this]; simp [marksNd]
      obtain ⟨g, cap, hv, hg1, hg2, hcap, hcm, rest, hCB, hCL⟩ : ∃ g cap, Value.slice A es.length c = .slice (some ⟨g, 0, none⟩) es.length cap ∧ lo ≤ g ∧ g < hi ∧ es.length ≤ cap ∧ cap ≤ maxLen ∧ ∃ rest, CB 62 wr g ((over (marksNd k0 es.length) es k).flatMap Nd.enc ++ rest) ∧ ((over (marksNd k0 es.length) es k).flatMap Nd.enc ++ rest).length = cap * 4 := by
        have h1 := hOW.out.open
        rw [hol.out] at h1
        rcases h1 with ⟨_, h0⟩ | h
        · omega
        · exact h
      obtain ⟨rfl, rfl⟩ : A = some ⟨g, 0, none⟩ ∧ c = cap := by injection hv with a _ b; exact ⟨a, b⟩
      have hC := Lib.hid hCB
      have hL := Lib.hid hCL
      have hM := Lib.hid hcm
      clear hv hCB hCL hcm
      go_wp2_with (fail)
      refine (markText_any _ _ (by omega) (by omega)).mono ?_
      rintro e w2 ⟨rfl, hb2⟩
      have hC2 : Hid (CB 62 w2 g ((over (marksNd k0 es.length) es k).flatMap Nd.enc ++ rest)) := hC.out.below hb2 hC.out.lt
      have hGR2 : Hid (Chg lo hi w w2) := hGR.out.trans (Chg.ofBelow hb2)
      clear hb2 hC
      obtain ⟨z0, z1, z2, z3, d1, d2, d3, d4⟩ := Nd.cellsB hC2.out k (by rw [hol.out]; exact hlt)
      have f1 := hC2.out.frozen (k * 4)
      have f2 := hC2.out.frozen (k * 4 + 1)
      have f3 := hC2.out.frozen (k * 4 + 2)
      have f4 := hC2.out.frozen (k * 4 + 3)
      have hst : Hid (CB 62 (setCells w2 g (k * 4) (Nd.enc (markNd k0 k))) g ((over (marksNd k0 es.length) es (k + 1)).flatMap Nd.enc ++ rest)) := by
        have h1 := hC2.out.store Nd.hk k (by rw [hol.out]; exact hlt) (markNd k0 k)
        rw [hov.out] at h1; exact h1
      have hgs := Lib.hid (chg_setCells (Nd.enc (markNd k0 k)) g (k * 4) hGR2.out ⟨hg1, hg2⟩)
      have hfin : Hid (OK Nd.enc 4 62 (setCells w2 g (k * 4) (Nd.enc (markNd k0 k))) lo hi (.slice (some ⟨g, 0, none⟩) es.length c) (over (marksNd k0 es.length) es (k + 1))) := by
        have hl2 : (over (marksNd k0 es.length) es (k + 1)).length = es.length := over_len (by rw [hml.out]; omega) hml.out
        have h1 := OK.close Nd.hk (cap := c) hst.out hg1 hg2 (by rw [hl2]; exact hcap) hM.out (by
          have := hL.out
          rw [List.length_append, kflat_len Nd.hk, hol.out] at this
          rw [List.length_append, kflat_len Nd.hk, hl2]; exact this)
        rw [hl2] at h1; exact h1
      clear hst hC2 hGR2
      go_wp2
      go_roundw
      case rel => exact ⟨k + 1, by omega, by go_num, by go_num, hfin.out, hgs.out⟩
      case measure => simp [intOf]; omega
    · obtain rfl : k = es.length := by omega
      have hN : Hid (OK Nd.enc 4 62 wr lo hi (.slice A es.length c) (marksNd k0 es.length)) := by
        have h1 := hOW.out
        have h2 : over (marksNd k0 es.length) es es.length = marksNd k0 es.length := by
          have := over_all (ys := marksNd k0 es.length) (xs := es) hml.out; rwa [hml.out] at this
        rwa [h2] at h1
      go_wp2
      go_ret
      exact ⟨rfl, hN.out, hGR.out⟩

set_option maxRecDepth 100000 in
set_option maxHeartbeats 2000000 in
theorem heldNodeS_k (L B : Nat) (A : Option Addr) (n c : Nat) (k0 : Int) (w : World) (hl : n ≤ 1048576) (hk0 : 0 ≤ k0) (hk1 : k0 ≤ 100000000) (hx : RS Nd.enc 4 w L B A (marksNd k0 n)) (hB : B ≤ w.heap.size) :
    Calls Try.prog 23 #[.slice A n c, .int .i64 k0] w fun e w' => e = .returned (.int .i64 (k0 + 4 * n)) ∧ Below w.heap.size w w' := by
  have hE := Lib.hid hx
  have hBB := Lib.hid hB
  have hBel0 := Below.refl w.heap.size w
  have hml := Lib.hid (marksNd_len k0 n)
  clear hx hB
  go_enter Try.func23, Try.ntmps23
  go_wp2
  go_loopw [1, 5] (fun q i wr => ∃ k : Nat, k ≤ n ∧ i = .int .i64 k ∧ q = .int .i64 (k0 + 4 * k) ∧ Below w.heap.size w wr) (fun _ i _ => n - (intOf i).toNat)
  case atStart => exact ⟨0, Nat.zero_le _, rfl, by simp, hBel0⟩
  case round =>
    obtain ⟨k, hk, rfl, rfl, hbel⟩ := hrel
    by_cases hlt : k < n
    · obtain ⟨b, o, rfl, ⟨_, hbB⟩, hc⟩ := Nd.cellsR (hE.out.below hbel hBB.out) (by rw [hml.out]; omega)
      obtain ⟨c1, c2, c3, c4⟩ := hc k (by rw [hml.out]; exact hlt)
      have hmk : (marksNd k0 n)[k]'(by rw [hml.out]; exact hlt) = markNd k0 k := by simp [marksNd]
      rw [hmk] at c1 c2 c3 c4
      simp only [markNd] at c1 c2 c3 c4
      clear hc hmk
      have hbb : b < wr.heap.size := by have := hbel.size; have := hBB.out; omega
      have hBelB := Lib.hid hbel
      have i1 : (k : Int) < (n : Int) := by omega
      have i0 : (0 : Int) ≤ (k : Int) := by omega
      have e1 : ((k0 + 4 * (k : Int) + 1) != (k0 + 4 * (k : Int) + 1)) = false := by simp
      have e2 : ((k0 + 4 * (k : Int) + 1 + 1) != (k0 + 4 * (k : Int) + 1 + 1)) = false := by simp
      have e3 : ((k0 + 4 * (k : Int) + 1 + 1 + 1) != (k0 + 4 * (k : Int) + 1 + 1 + 1)) = false := by simp
      go_wp2_with (fail)
      go_region_held3 (fun w' => w'.cell? ⟨b, o + k * 4, none⟩ = some (.string (mtx (k0 + 4 * k))))
        (first | go_keep | exact (hb2.cell (by simp; omega)).trans (by assumption) | exact (hb2.cell (by simp; omega)).trans c1)
        ((first | (go_at_call 61; refine (markText_any _ _ (by omega) (by omega)).mono ?_; rintro e w2 ⟨rfl, hb2⟩)))
      have c2' : w2.cell? ⟨b, o + k * 4 + 1, none⟩ = _ := (hb2.cell hbb).trans c2
      have c3' : w2.cell? ⟨b, o + k * 4 + 2, none⟩ = _ := (hb2.cell hbb).trans c3
      have c4' : w2.cell? ⟨b, o + k * 4 + 3, none⟩ = _ := (hb2.cell hbb).trans c4
      have hbel2 := Lib.hid (hBelB.out.drew.trans (hb2.mono hBelB.out.size))
      clear c1 c2 c3 c4 hb2 hbel
      go_wp2
      go_roundw
      case rel => exact ⟨k + 1, by omega, by go_num, by go_num, hbel2.out⟩
      case measure => simp [intOf]; omega
    · obtain rfl : k = n := by omega
      go_wp2
      go_ret
      exact ⟨rfl, hbel⟩
end Go.Proofs.Ytieljgfocgdngaa

/- An own slice's length is within its capacity. -/
namespace Go.Proofs.Ytieljgfocgdngaa
open Go.RowKit
theorem OK.cap {α : Type} {enc : α → List Value} {k : Nat} {t : TypeId} {w : World} {lo hi n c : Nat} {A : Option Addr} {xs : List α} (h : OK enc k t w lo hi (.slice A n c) xs) : n ≤ c := by
  rcases h.1.2 with ⟨hv, _⟩ | ⟨g, cap, cur, hv, _, _, h1, _⟩
  · injection hv with _ h2 h3; omega
  · injection hv with _ h2 h3; omega
end Go.Proofs.Ytieljgfocgdngaa

namespace Go.Proofs.Ytieljgfocgdngaa
open Go.RowKit
set_option linter.unusedVariables false

def ResExpandExpr (R0 : List (Nd)) (R1 : Bool) (w : World) (e : Ending) (w' : World) : Prop := ∃ (A0 : Option Addr) (c0 : Nat), e = .returned (.tuple #[.slice A0 R0.length c0, .bool R1]) ∧ OK Nd.enc 4 62 w' w.heap.size w'.heap.size (.slice A0 R0.length c0) R0 ∧ Below w.heap.size w w'
set_option maxHeartbeats 4000000 in
theorem lawExpandExpr (A0 : Option Addr) (c0 : Nat) (a0 : List Nd) (w : World) (hl0 : a0.length ≤ 9223372036854775807) (h0 : RS Nd.enc 4 w 0 w.heap.size A0 a0) (hs0 : ∀ n ∈ a0, n.op.size ≤ 9223372036854775807) (R0 : List (Nd)) (R1 : Bool) (hR0 : R0.length ≤ 1048576)
    (hS : ∀ (L0 B0 : Nat) (A0 : Option Addr) (c0 : Nat) (w : World), a0.length ≤ 1048576 → RS Nd.enc 4 w L0 B0 A0 a0 → B0 ≤ w.heap.size → Calls Try.prog 24 #[.slice A0 a0.length c0] w (ResExpandExpr R0 R1 w))
    (hI : ∀ (L0 B0 : Nat) (A0 : Option Addr) (c0 : Nat) (w : World), a0.length ≤ 1048576 → RS Nd.enc 4 w L0 B0 A0 a0 → B0 ≤ w.heap.size → a0.length ≤ c0 → Calls Try.prog 25 #[.slice A0 a0.length c0] w (ResExpandExpr R0 R1 w)) :
    Calls Try.prog 4 #[.slice A0 a0.length c0] w fun e w' => e = .returned (.bool true) ∧ Below w.heap.size w w' := by
  have S := Lib.hid hS
  have I := Lib.hid hI
  have E0 := Lib.hid h0
  have Z0 := Lib.hid hs0
  clear hS hI h0 hs0
  have b0 := Lib.hid (Below.refl w.heap.size w)
  go_enter Try.func4, Try.ntmps4
  go_wp2_with (fail)
  refine (szNodeS_k 0 _ A0 c0 a0 1048576 _ hl0 (E0.out.below b0.out (Nat.le_refl _)) b0.out.size Z0.out (by omega) (by omega)).mono ?_
  rintro e w1 ⟨r0, rfl, hr0a, hr0b, hr0c, hb⟩
  have b1 := Lib.hid (b0.out.trans (hb.mono b0.out.size))
  have z1 := hb.size
  clear hb
  by_cases hr0 : 0 ≤ r0
  rotate_left
  · go_wp2
    go_ret
    exact ⟨rfl, b1.out⟩
  have hlen0 : a0.length ≤ 1048576 := by have := hr0b hr0; omega
  clear hr0b
  have e1 : (R1 != R1) = false := by simp
  go_wp2_with (fail)
  refine (toNodeS_k 0 _ A0 c0 a0 _ hlen0 (E0.out.below b1.out (Nat.le_refl _)) b1.out.size).mono ?_
  rintro e w2 ⟨Ap0, cp0, rfl, ho, hb⟩
  have b2 := Lib.hid (b1.out.trans (hb.mono b1.out.size))
  have z2 := hb.size
  clear hb
  have op0 := Lib.hid ho
  clear ho
  go_wp2_with (fail)
  refine (S.out _ _ _ _ _ hlen0 (Nd.rs op0.out) (by omega)).mono ?_
  rintro e w3 ⟨AW0, cW0, rfl, ho0, hb⟩
  have b3 := Lib.hid (b2.out.trans (hb.mono b2.out.size))
  have z3 := hb.size
  replace op0 := Lib.hid (op0.out.chg (Chg.ofBelow (lo := 0) (hi := 0) hb) (.inr (Nat.zero_le _)))
  clear hb
  have oW0 := Lib.hid ho0
  clear ho0
  go_wp2_with (fail)
  refine (toNodeS_k 0 _ A0 c0 a0 _ hlen0 (E0.out.below b3.out (Nat.le_refl _)) b3.out.size).mono ?_
  rintro e w4 ⟨Aq0, cq0, rfl, ho, hb⟩
  have b4 := Lib.hid (b3.out.trans (hb.mono b3.out.size))
  have z4 := hb.size
  replace oW0 := Lib.hid (oW0.out.chg (Chg.ofBelow (lo := 0) (hi := 0) hb) (.inr (Nat.zero_le _)))
  clear hb
  have oq0 := Lib.hid ho
  clear ho
  go_wp2_with (fail)
  refine (I.out _ _ _ _ _ hlen0 (Nd.rs oq0.out) (by omega) (OK.cap oq0.out)).mono ?_
  rintro e w5 ⟨AG0, cG0, rfl, ho0, hb⟩
  have b5 := Lib.hid (b4.out.trans (hb.mono b4.out.size))
  have z5 := hb.size
  replace oW0 := Lib.hid (oW0.out.chg (Chg.ofBelow (lo := 0) (hi := 0) hb) (.inr (Nat.zero_le _)))
  replace oq0 := Lib.hid (oq0.out.chg (Chg.ofBelow (lo := 0) (hi := 0) hb) (.inr (Nat.zero_le _)))
  clear hb
  have oG0 := Lib.hid ho0
  clear ho0
  go_wp2_with (fail)
  refine (eqNodeS_k _ _ _ _ _ _ _ _ _ _ R0 R0 _ rfl rfl hR0 (Nd.rs oG0.out) (Nd.rs oW0.out) (by omega) (by omega) rfl).mono ?_
  rintro e w6 ⟨rfl, hb⟩
  have b6 := Lib.hid (b5.out.trans (hb.mono b5.out.size))
  have z6 := hb.size
  replace oW0 := Lib.hid (oW0.out.chg (Chg.ofBelow (lo := 0) (hi := 0) hb) (.inr (Nat.zero_le _)))
  replace oq0 := Lib.hid (oq0.out.chg (Chg.ofBelow (lo := 0) (hi := 0) hb) (.inr (Nat.zero_le _)))
  replace oG0 := Lib.hid (oG0.out.chg (Chg.ofBelow (lo := 0) (hi := 0) hb) (.inr (Nat.zero_le _)))
  clear hb
  go_wp2_with (fail)
  refine (toNodeS_k 0 _ A0 c0 a0 _ hlen0 (E0.out.below b6.out (Nat.le_refl _)) b6.out.size).mono ?_
  rintro e w7 ⟨As0, cs0, rfl, ho, hb⟩
  have b7 := Lib.hid (b6.out.trans (hb.mono b6.out.size))
  have z7 := hb.size
  replace oW0 := Lib.hid (oW0.out.chg (Chg.ofBelow (lo := 0) (hi := 0) hb) (.inr (Nat.zero_le _)))
  replace oq0 := Lib.hid (oq0.out.chg (Chg.ofBelow (lo := 0) (hi := 0) hb) (.inr (Nat.zero_le _)))
  replace oG0 := Lib.hid (oG0.out.chg (Chg.ofBelow (lo := 0) (hi := 0) hb) (.inr (Nat.zero_le _)))
  clear hb
  have os0 := Lib.hid ho
  clear ho
  go_wp2_with (fail)
  refine (eqNodeS_k _ _ _ _ _ _ _ _ _ _ a0 a0 _ rfl rfl hlen0 (Nd.rs oq0.out) (Nd.rs os0.out) (by omega) (by omega) rfl).mono ?_
  rintro e w8 ⟨rfl, hb⟩
  have b8 := Lib.hid (b7.out.trans (hb.mono b7.out.size))
  have z8 := hb.size
  replace oW0 := Lib.hid (oW0.out.chg (Chg.ofBelow (lo := 0) (hi := 0) hb) (.inr (Nat.zero_le _)))
  replace oq0 := Lib.hid (oq0.out.chg (Chg.ofBelow (lo := 0) (hi := 0) hb) (.inr (Nat.zero_le _)))
  replace oG0 := Lib.hid (oG0.out.chg (Chg.ofBelow (lo := 0) (hi := 0) hb) (.inr (Nat.zero_le _)))
  replace os0 := Lib.hid (os0.out.chg (Chg.ofBelow (lo := 0) (hi := 0) hb) (.inr (Nat.zero_le _)))
  clear hb
  go_wp2_with (fail)
  refine (markNodeS_k _ _ _ _ a0 (1) _ hlen0 (by omega) (by omega) oq0.out).mono ?_
  rintro e w9 ⟨rfl, _, hc⟩
  have b9 := Lib.hid (below_chg b8.out hc b8.out.size (by omega))
  have z9 := hc.size
  replace oW0 := Lib.hid (oW0.out.chg hc (by omega))
  replace oG0 := Lib.hid (oG0.out.chg hc (by omega))
  clear hc
  have hk : (0 : Int) ≤ 1 + 4 * (a0.length : Int) := by omega
  go_wp2_with (fail)
  refine (eqNodeS_k _ _ _ _ _ _ _ _ _ _ R0 R0 _ rfl rfl hR0 (Nd.rs oG0.out) (Nd.rs oW0.out) (by omega) (by omega) rfl).mono ?_
  rintro e w10 ⟨rfl, hb⟩
  have b10 := Lib.hid (b9.out.trans (hb.mono b9.out.size))
  have z10 := hb.size
  replace oW0 := Lib.hid (oW0.out.chg (Chg.ofBelow (lo := 0) (hi := 0) hb) (.inr (Nat.zero_le _)))
  replace oG0 := Lib.hid (oG0.out.chg (Chg.ofBelow (lo := 0) (hi := 0) hb) (.inr (Nat.zero_le _)))
  clear hb
  go_wp2_with (fail)
  refine (markNodeS_k _ _ _ _ R0 (1) _ hR0 (by omega) (by omega) oG0.out).mono ?_
  rintro e w11 ⟨rfl, ho, hc⟩
  have b11 := Lib.hid (below_chg b10.out hc b10.out.size (by omega))
  have z11 := hc.size
  replace oW0 := Lib.hid (oW0.out.chg hc (by omega))
  clear hc
  replace oG0 := Lib.hid ho
  clear ho
  have hq : (0 : Int) ≤ 1 + 4 * (R0.length : Int) := by omega
  go_wp2_with (fail)
  refine (heldNodeS_k _ _ _ _ _ 1 _ hR0 (by omega) (by omega) (Nd.rs oG0.out) (by omega)).mono ?_
  rintro e w12 ⟨rfl, hb⟩
  have b12 := Lib.hid (b11.out.trans (hb.mono b11.out.size))
  have z12 := hb.size
  replace oW0 := Lib.hid (oW0.out.chg (Chg.ofBelow (lo := 0) (hi := 0) hb) (.inr (Nat.zero_le _)))
  replace oG0 := Lib.hid (oG0.out.chg (Chg.ofBelow (lo := 0) (hi := 0) hb) (.inr (Nat.zero_le _)))
  clear hb
  go_wp2_with (fail)
  refine (toNodeS_k 0 _ A0 c0 a0 _ hlen0 (E0.out.below b12.out (Nat.le_refl _)) b12.out.size).mono ?_
  rintro e w13 ⟨Ah0, ch0, rfl, ho, hb⟩
  have b13 := Lib.hid (b12.out.trans (hb.mono b12.out.size))
  have z13 := hb.size
  replace oW0 := Lib.hid (oW0.out.chg (Chg.ofBelow (lo := 0) (hi := 0) hb) (.inr (Nat.zero_le _)))
  replace oG0 := Lib.hid (oG0.out.chg (Chg.ofBelow (lo := 0) (hi := 0) hb) (.inr (Nat.zero_le _)))
  clear hb
  have oh0 := Lib.hid ho
  clear ho
  go_wp2_with (fail)
  refine (I.out _ _ _ _ _ hlen0 (Nd.rs oh0.out) (by omega) (OK.cap oh0.out)).mono ?_
  rintro e w14 ⟨AH0, cH0, rfl, ho0, hb⟩
  have b14 := Lib.hid (b13.out.trans (hb.mono b13.out.size))
  have z14 := hb.size
  replace oW0 := Lib.hid (oW0.out.chg (Chg.ofBelow (lo := 0) (hi := 0) hb) (.inr (Nat.zero_le _)))
  replace oG0 := Lib.hid (oG0.out.chg (Chg.ofBelow (lo := 0) (hi := 0) hb) (.inr (Nat.zero_le _)))
  replace oh0 := Lib.hid (oh0.out.chg (Chg.ofBelow (lo := 0) (hi := 0) hb) (.inr (Nat.zero_le _)))
  clear hb
  have oH0 := Lib.hid ho0
  clear ho0
  go_wp2_with (fail)
  refine (eqNodeS_k _ _ _ _ _ _ _ _ _ _ R0 R0 _ rfl rfl hR0 (Nd.rs oH0.out) (Nd.rs oW0.out) (by omega) (by omega) rfl).mono ?_
  rintro e w15 ⟨rfl, hb⟩
  have b15 := Lib.hid (b14.out.trans (hb.mono b14.out.size))
  have z15 := hb.size
  replace oW0 := Lib.hid (oW0.out.chg (Chg.ofBelow (lo := 0) (hi := 0) hb) (.inr (Nat.zero_le _)))
  replace oG0 := Lib.hid (oG0.out.chg (Chg.ofBelow (lo := 0) (hi := 0) hb) (.inr (Nat.zero_le _)))
  replace oh0 := Lib.hid (oh0.out.chg (Chg.ofBelow (lo := 0) (hi := 0) hb) (.inr (Nat.zero_le _)))
  replace oH0 := Lib.hid (oH0.out.chg (Chg.ofBelow (lo := 0) (hi := 0) hb) (.inr (Nat.zero_le _)))
  clear hb
  go_wp2_with (fail)
  refine (heldNodeS_k _ _ _ _ _ 1 _ hR0 (by omega) (by omega) (Nd.rs oG0.out) (by omega)).mono ?_
  rintro e w16 ⟨rfl, hb⟩
  have b16 := Lib.hid (b15.out.trans (hb.mono b15.out.size))
  have z16 := hb.size
  replace oW0 := Lib.hid (oW0.out.chg (Chg.ofBelow (lo := 0) (hi := 0) hb) (.inr (Nat.zero_le _)))
  replace oG0 := Lib.hid (oG0.out.chg (Chg.ofBelow (lo := 0) (hi := 0) hb) (.inr (Nat.zero_le _)))
  replace oh0 := Lib.hid (oh0.out.chg (Chg.ofBelow (lo := 0) (hi := 0) hb) (.inr (Nat.zero_le _)))
  replace oH0 := Lib.hid (oH0.out.chg (Chg.ofBelow (lo := 0) (hi := 0) hb) (.inr (Nat.zero_le _)))
  clear hb
  go_wp2
  go_ret
  exact ⟨rfl, b16.out⟩

def ResShareExpr (R0 : List (Nd)) (R1 : Bool) (w : World) (e : Ending) (w' : World) : Prop := ∃ (A0 : Option Addr) (c0 : Nat), e = .returned (.tuple #[.slice A0 R0.length c0, .bool R1]) ∧ OK Nd.enc 4 62 w' w.heap.size w'.heap.size (.slice A0 R0.length c0) R0 ∧ Below w.heap.size w w'
set_option maxHeartbeats 4000000 in
theorem lawShareExpr (A0 : Option Addr) (c0 : Nat) (a0 : List Nd) (w : World) (hl0 : a0.length ≤ 9223372036854775807) (h0 : RS Nd.enc 4 w 0 w.heap.size A0 a0) (hs0 : ∀ n ∈ a0, n.op.size ≤ 9223372036854775807) (R0 : List (Nd)) (R1 : Bool) (hR0 : R0.length ≤ 1048576)
    (hS : ∀ (L0 B0 : Nat) (A0 : Option Addr) (c0 : Nat) (w : World), a0.length ≤ 1048576 → RS Nd.enc 4 w L0 B0 A0 a0 → B0 ≤ w.heap.size → Calls Try.prog 26 #[.slice A0 a0.length c0] w (ResShareExpr R0 R1 w))
    (hI : ∀ (L0 B0 : Nat) (A0 : Option Addr) (c0 : Nat) (w : World), a0.length ≤ 1048576 → RS Nd.enc 4 w L0 B0 A0 a0 → B0 ≤ w.heap.size → a0.length ≤ c0 → Calls Try.prog 27 #[.slice A0 a0.length c0] w (ResShareExpr R0 R1 w)) :
    Calls Try.prog 5 #[.slice A0 a0.length c0] w fun e w' => e = .returned (.bool true) ∧ Below w.heap.size w w' := by
  have S := Lib.hid hS
  have I := Lib.hid hI
  have E0 := Lib.hid h0
  have Z0 := Lib.hid hs0
  clear hS hI h0 hs0
  have b0 := Lib.hid (Below.refl w.heap.size w)
  go_enter Try.func5, Try.ntmps5
  go_wp2_with (fail)
  refine (szNodeS_k 0 _ A0 c0 a0 1048576 _ hl0 (E0.out.below b0.out (Nat.le_refl _)) b0.out.size Z0.out (by omega) (by omega)).mono ?_
  rintro e w1 ⟨r0, rfl, hr0a, hr0b, hr0c, hb⟩
  have b1 := Lib.hid (b0.out.trans (hb.mono b0.out.size))
  have z1 := hb.size
  clear hb
  by_cases hr0 : 0 ≤ r0
  rotate_left
  · go_wp2
    go_ret
    exact ⟨rfl, b1.out⟩
  have hlen0 : a0.length ≤ 1048576 := by have := hr0b hr0; omega
  clear hr0b
  have e1 : (R1 != R1) = false := by simp
  go_wp2_with (fail)
  refine (toNodeS_k 0 _ A0 c0 a0 _ hlen0 (E0.out.below b1.out (Nat.le_refl _)) b1.out.size).mono ?_
  rintro e w2 ⟨Ap0, cp0, rfl, ho, hb⟩
  have b2 := Lib.hid (b1.out.trans (hb.mono b1.out.size))
  have z2 := hb.size
  clear hb
  have op0 := Lib.hid ho
  clear ho
  go_wp2_with (fail)
  refine (S.out _ _ _ _ _ hlen0 (Nd.rs op0.out) (by omega)).mono ?_
  rintro e w3 ⟨AW0, cW0, rfl, ho0, hb⟩
  have b3 := Lib.hid (b2.out.trans (hb.mono b2.out.size))
  have z3 := hb.size
  replace op0 := Lib.hid (op0.out.chg (Chg.ofBelow (lo := 0) (hi := 0) hb) (.inr (Nat.zero_le _)))
  clear hb
  have oW0 := Lib.hid ho0
  clear ho0
  go_wp2_with (fail)
  refine (toNodeS_k 0 _ A0 c0 a0 _ hlen0 (E0.out.below b3.out (Nat.le_refl _)) b3.out.size).mono ?_
  rintro e w4 ⟨Aq0, cq0, rfl, ho, hb⟩
  have b4 := Lib.hid (b3.out.trans (hb.mono b3.out.size))
  have z4 := hb.size
  replace oW0 := Lib.hid (oW0.out.chg (Chg.ofBelow (lo := 0) (hi := 0) hb) (.inr (Nat.zero_le _)))
  clear hb
  have oq0 := Lib.hid ho
  clear ho
  go_wp2_with (fail)
  refine (I.out _ _ _ _ _ hlen0 (Nd.rs oq0.out) (by omega) (OK.cap oq0.out)).mono ?_
  rintro e w5 ⟨AG0, cG0, rfl, ho0, hb⟩
  have b5 := Lib.hid (b4.out.trans (hb.mono b4.out.size))
  have z5 := hb.size
  replace oW0 := Lib.hid (oW0.out.chg (Chg.ofBelow (lo := 0) (hi := 0) hb) (.inr (Nat.zero_le _)))
  replace oq0 := Lib.hid (oq0.out.chg (Chg.ofBelow (lo := 0) (hi := 0) hb) (.inr (Nat.zero_le _)))
  clear hb
  have oG0 := Lib.hid ho0
  clear ho0
  go_wp2_with (fail)
  refine (eqNodeS_k _ _ _ _ _ _ _ _ _ _ R0 R0 _ rfl rfl hR0 (Nd.rs oG0.out) (Nd.rs oW0.out) (by omega) (by omega) rfl).mono ?_
  rintro e w6 ⟨rfl, hb⟩
  have b6 := Lib.hid (b5.out.trans (hb.mono b5.out.size))
  have z6 := hb.size
  replace oW0 := Lib.hid (oW0.out.chg (Chg.ofBelow (lo := 0) (hi := 0) hb) (.inr (Nat.zero_le _)))
  replace oq0 := Lib.hid (oq0.out.chg (Chg.ofBelow (lo := 0) (hi := 0) hb) (.inr (Nat.zero_le _)))
  replace oG0 := Lib.hid (oG0.out.chg (Chg.ofBelow (lo := 0) (hi := 0) hb) (.inr (Nat.zero_le _)))
  clear hb
  go_wp2_with (fail)
  refine (toNodeS_k 0 _ A0 c0 a0 _ hlen0 (E0.out.below b6.out (Nat.le_refl _)) b6.out.size).mono ?_
  rintro e w7 ⟨As0, cs0, rfl, ho, hb⟩
  have b7 := Lib.hid (b6.out.trans (hb.mono b6.out.size))
  have z7 := hb.size
  replace oW0 := Lib.hid (oW0.out.chg (Chg.ofBelow (lo := 0) (hi := 0) hb) (.inr (Nat.zero_le _)))
  replace oq0 := Lib.hid (oq0.out.chg (Chg.ofBelow (lo := 0) (hi := 0) hb) (.inr (Nat.zero_le _)))
  replace oG0 := Lib.hid (oG0.out.chg (Chg.ofBelow (lo := 0) (hi := 0) hb) (.inr (Nat.zero_le _)))
  clear hb
  have os0 := Lib.hid ho
  clear ho
  go_wp2_with (fail)
  refine (eqNodeS_k _ _ _ _ _ _ _ _ _ _ a0 a0 _ rfl rfl hlen0 (Nd.rs oq0.out) (Nd.rs os0.out) (by omega) (by omega) rfl).mono ?_
  rintro e w8 ⟨rfl, hb⟩
  have b8 := Lib.hid (b7.out.trans (hb.mono b7.out.size))
  have z8 := hb.size
  replace oW0 := Lib.hid (oW0.out.chg (Chg.ofBelow (lo := 0) (hi := 0) hb) (.inr (Nat.zero_le _)))
  replace oq0 := Lib.hid (oq0.out.chg (Chg.ofBelow (lo := 0) (hi := 0) hb) (.inr (Nat.zero_le _)))
  replace oG0 := Lib.hid (oG0.out.chg (Chg.ofBelow (lo := 0) (hi := 0) hb) (.inr (Nat.zero_le _)))
  replace os0 := Lib.hid (os0.out.chg (Chg.ofBelow (lo := 0) (hi := 0) hb) (.inr (Nat.zero_le _)))
  clear hb
  go_wp2_with (fail)
  refine (markNodeS_k _ _ _ _ a0 (1) _ hlen0 (by omega) (by omega) oq0.out).mono ?_
  rintro e w9 ⟨rfl, _, hc⟩
  have b9 := Lib.hid (below_chg b8.out hc b8.out.size (by omega))
  have z9 := hc.size
  replace oW0 := Lib.hid (oW0.out.chg hc (by omega))
  replace oG0 := Lib.hid (oG0.out.chg hc (by omega))
  clear hc
  have hk : (0 : Int) ≤ 1 + 4 * (a0.length : Int) := by omega
  go_wp2_with (fail)
  refine (eqNodeS_k _ _ _ _ _ _ _ _ _ _ R0 R0 _ rfl rfl hR0 (Nd.rs oG0.out) (Nd.rs oW0.out) (by omega) (by omega) rfl).mono ?_
  rintro e w10 ⟨rfl, hb⟩
  have b10 := Lib.hid (b9.out.trans (hb.mono b9.out.size))
  have z10 := hb.size
  replace oW0 := Lib.hid (oW0.out.chg (Chg.ofBelow (lo := 0) (hi := 0) hb) (.inr (Nat.zero_le _)))
  replace oG0 := Lib.hid (oG0.out.chg (Chg.ofBelow (lo := 0) (hi := 0) hb) (.inr (Nat.zero_le _)))
  clear hb
  go_wp2_with (fail)
  refine (markNodeS_k _ _ _ _ R0 (1) _ hR0 (by omega) (by omega) oG0.out).mono ?_
  rintro e w11 ⟨rfl, ho, hc⟩
  have b11 := Lib.hid (below_chg b10.out hc b10.out.size (by omega))
  have z11 := hc.size
  replace oW0 := Lib.hid (oW0.out.chg hc (by omega))
  clear hc
  replace oG0 := Lib.hid ho
  clear ho
  have hq : (0 : Int) ≤ 1 + 4 * (R0.length : Int) := by omega
  go_wp2_with (fail)
  refine (heldNodeS_k _ _ _ _ _ 1 _ hR0 (by omega) (by omega) (Nd.rs oG0.out) (by omega)).mono ?_
  rintro e w12 ⟨rfl, hb⟩
  have b12 := Lib.hid (b11.out.trans (hb.mono b11.out.size))
  have z12 := hb.size
  replace oW0 := Lib.hid (oW0.out.chg (Chg.ofBelow (lo := 0) (hi := 0) hb) (.inr (Nat.zero_le _)))
  replace oG0 := Lib.hid (oG0.out.chg (Chg.ofBelow (lo := 0) (hi := 0) hb) (.inr (Nat.zero_le _)))
  clear hb
  go_wp2_with (fail)
  refine (toNodeS_k 0 _ A0 c0 a0 _ hlen0 (E0.out.below b12.out (Nat.le_refl _)) b12.out.size).mono ?_
  rintro e w13 ⟨Ah0, ch0, rfl, ho, hb⟩
  have b13 := Lib.hid (b12.out.trans (hb.mono b12.out.size))
  have z13 := hb.size
  replace oW0 := Lib.hid (oW0.out.chg (Chg.ofBelow (lo := 0) (hi := 0) hb) (.inr (Nat.zero_le _)))
  replace oG0 := Lib.hid (oG0.out.chg (Chg.ofBelow (lo := 0) (hi := 0) hb) (.inr (Nat.zero_le _)))
  clear hb
  have oh0 := Lib.hid ho
  clear ho
  go_wp2_with (fail)
  refine (I.out _ _ _ _ _ hlen0 (Nd.rs oh0.out) (by omega) (OK.cap oh0.out)).mono ?_
  rintro e w14 ⟨AH0, cH0, rfl, ho0, hb⟩
  have b14 := Lib.hid (b13.out.trans (hb.mono b13.out.size))
  have z14 := hb.size
  replace oW0 := Lib.hid (oW0.out.chg (Chg.ofBelow (lo := 0) (hi := 0) hb) (.inr (Nat.zero_le _)))
  replace oG0 := Lib.hid (oG0.out.chg (Chg.ofBelow (lo := 0) (hi := 0) hb) (.inr (Nat.zero_le _)))
  replace oh0 := Lib.hid (oh0.out.chg (Chg.ofBelow (lo := 0) (hi := 0) hb) (.inr (Nat.zero_le _)))
  clear hb
  have oH0 := Lib.hid ho0
  clear ho0
  go_wp2_with (fail)
  refine (eqNodeS_k _ _ _ _ _ _ _ _ _ _ R0 R0 _ rfl rfl hR0 (Nd.rs oH0.out) (Nd.rs oW0.out) (by omega) (by omega) rfl).mono ?_
  rintro e w15 ⟨rfl, hb⟩
  have b15 := Lib.hid (b14.out.trans (hb.mono b14.out.size))
  have z15 := hb.size
  replace oW0 := Lib.hid (oW0.out.chg (Chg.ofBelow (lo := 0) (hi := 0) hb) (.inr (Nat.zero_le _)))
  replace oG0 := Lib.hid (oG0.out.chg (Chg.ofBelow (lo := 0) (hi := 0) hb) (.inr (Nat.zero_le _)))
  replace oh0 := Lib.hid (oh0.out.chg (Chg.ofBelow (lo := 0) (hi := 0) hb) (.inr (Nat.zero_le _)))
  replace oH0 := Lib.hid (oH0.out.chg (Chg.ofBelow (lo := 0) (hi := 0) hb) (.inr (Nat.zero_le _)))
  clear hb
  go_wp2_with (fail)
  refine (heldNodeS_k _ _ _ _ _ 1 _ hR0 (by omega) (by omega) (Nd.rs oG0.out) (by omega)).mono ?_
  rintro e w16 ⟨rfl, hb⟩
  have b16 := Lib.hid (b15.out.trans (hb.mono b15.out.size))
  have z16 := hb.size
  replace oW0 := Lib.hid (oW0.out.chg (Chg.ofBelow (lo := 0) (hi := 0) hb) (.inr (Nat.zero_le _)))
  replace oG0 := Lib.hid (oG0.out.chg (Chg.ofBelow (lo := 0) (hi := 0) hb) (.inr (Nat.zero_le _)))
  replace oh0 := Lib.hid (oh0.out.chg (Chg.ofBelow (lo := 0) (hi := 0) hb) (.inr (Nat.zero_le _)))
  replace oH0 := Lib.hid (oH0.out.chg (Chg.ofBelow (lo := 0) (hi := 0) hb) (.inr (Nat.zero_le _)))
  clear hb
  go_wp2
  go_ret
  exact ⟨rfl, b16.out⟩

def ResPutInput (R0 : List (Nd)) (R1 : Bool) (w : World) (e : Ending) (w' : World) : Prop := ∃ (A0 : Option Addr) (c0 : Nat), e = .returned (.tuple #[.slice A0 R0.length c0, .bool R1]) ∧ OK Nd.enc 4 62 w' w.heap.size w'.heap.size (.slice A0 R0.length c0) R0 ∧ Below w.heap.size w w'
set_option maxHeartbeats 4000000 in
theorem lawPutInput (A0 : Option Addr) (c0 : Nat) (a0 : List Nd) (a1 : Int) (A2 : Option Addr) (c2 : Nat) (a2 : List Nd) (w : World) (hl0 : a0.length ≤ 9223372036854775807) (h0 : RS Nd.enc 4 w 0 w.heap.size A0 a0) (hs0 : ∀ n ∈ a0, n.op.size ≤ 9223372036854775807) (hl2 : a2.length ≤ 9223372036854775807) (h2 : RS Nd.enc 4 w 0 w.heap.size A2 a2) (hs2 : ∀ n ∈ a2, n.op.size ≤ 9223372036854775807) (R0 : List (Nd)) (R1 : Bool) (hR0 : R0.length ≤ 1048576)
    (hS : ∀ (L0 B0 : Nat) (A0 : Option Addr) (c0 : Nat) (L2 B2 : Nat) (A2 : Option Addr) (c2 : Nat) (w : World), a0.length ≤ 1048576 → RS Nd.enc 4 w L0 B0 A0 a0 → B0 ≤ w.heap.size → a2.length ≤ 1048576 → RS Nd.enc 4 w L2 B2 A2 a2 → B2 ≤ w.heap.size → Calls Try.prog 30 #[.slice A0 a0.length c0, .int .i64 a1, .slice A2 a2.length c2] w (ResPutInput R0 R1 w))
    (hI : ∀ (L0 B0 : Nat) (A0 : Option Addr) (c0 : Nat) (L2 B2 : Nat) (A2 : Option Addr) (c2 : Nat) (w : World), a0.length ≤ 1048576 → RS Nd.enc 4 w L0 B0 A0 a0 → B0 ≤ w.heap.size → a0.length ≤ c0 → a2.length ≤ 1048576 → RS Nd.enc 4 w L2 B2 A2 a2 → B2 ≤ w.heap.size → a2.length ≤ c2 → Calls Try.prog 31 #[.slice A0 a0.length c0, .int .i64 a1, .slice A2 a2.length c2] w (ResPutInput R0 R1 w)) :
    Calls Try.prog 7 #[.slice A0 a0.length c0, .int .i64 a1, .slice A2 a2.length c2] w fun e w' => e = .returned (.bool true) ∧ Below w.heap.size w w' := by
  have S := Lib.hid hS
  have I := Lib.hid hI
  have E0 := Lib.hid h0
  have E2 := Lib.hid h2
  have Z0 := Lib.hid hs0
  have Z2 := Lib.hid hs2
  clear hS hI h0 h2 hs0 hs2
  have b0 := Lib.hid (Below.refl w.heap.size w)
  go_enter Try.func7, Try.ntmps7
  go_wp2_with (fail)
  refine (szNodeS_k 0 _ A0 c0 a0 1048576 _ hl0 (E0.out.below b0.out (Nat.le_refl _)) b0.out.size Z0.out (by omega) (by omega)).mono ?_
  rintro e w1 ⟨r0, rfl, hr0a, hr0b, hr0c, hb⟩
  have b1 := Lib.hid (b0.out.trans (hb.mono b0.out.size))
  have z1 := hb.size
  clear hb
  by_cases hr0 : 0 ≤ r0
  rotate_left
  · go_wp2
    go_ret
    exact ⟨rfl, b1.out⟩
  have hlen0 : a0.length ≤ 1048576 := by have := hr0b hr0; omega
  clear hr0b
  go_wp2_with (fail)
  refine (szNodeS_k 0 _ A2 c2 a2 r0 _ hl2 (E2.out.below b1.out (Nat.le_refl _)) b1.out.size Z2.out (by omega) (by omega)).mono ?_
  rintro e w2 ⟨r2, rfl, hr2a, hr2b, hr2c, hb⟩
  have b2 := Lib.hid (b1.out.trans (hb.mono b1.out.size))
  have z2 := hb.size
  clear hb
  by_cases hr2 : 0 ≤ r2
  rotate_left
  · go_wp2
    go_ret
    exact ⟨rfl, b2.out⟩
  have hlen2 : a2.length ≤ 1048576 := by have := hr2b hr2; omega
  clear hr2b
  have e1 : (R1 != R1) = false := by simp
  go_wp2_with (fail)
  refine (toNodeS_k 0 _ A0 c0 a0 _ hlen0 (E0.out.below b2.out (Nat.le_refl _)) b2.out.size).mono ?_
  rintro e w3 ⟨Ap0, cp0, rfl, ho, hb⟩
  have b3 := Lib.hid (b2.out.trans (hb.mono b2.out.size))
  have z3 := hb.size
  clear hb
  have op0 := Lib.hid ho
  clear ho
  go_wp2_with (fail)
  refine (toNodeS_k 0 _ A2 c2 a2 _ hlen2 (E2.out.below b3.out (Nat.le_refl _)) b3.out.size).mono ?_
  rintro e w4 ⟨Ap2, cp2, rfl, ho, hb⟩
  have b4 := Lib.hid (b3.out.trans (hb.mono b3.out.size))
  have z4 := hb.size
  replace op0 := Lib.hid (op0.out.chg (Chg.ofBelow (lo := 0) (hi := 0) hb) (.inr (Nat.zero_le _)))
  clear hb
  have op2 := Lib.hid ho
  clear ho
  go_wp2_with (fail)
  refine (S.out _ _ _ _ _ _ _ _ _ hlen0 (Nd.rs op0.out) (by omega) hlen2 (Nd.rs op2.out) (by omega)).mono ?_
  rintro e w5 ⟨AW0, cW0, rfl, ho0, hb⟩
  have b5 := Lib.hid (b4.out.trans (hb.mono b4.out.size))
  have z5 := hb.size
  replace op0 := Lib.hid (op0.out.chg (Chg.ofBelow (lo := 0) (hi := 0) hb) (.inr (Nat.zero_le _)))
  replace op2 := Lib.hid (op2.out.chg (Chg.ofBelow (lo := 0) (hi := 0) hb) (.inr (Nat.zero_le _)))
  clear hb
  have oW0 := Lib.hid ho0
  clear ho0
  go_wp2_with (fail)
  refine (toNodeS_k 0 _ A0 c0 a0 _ hlen0 (E0.out.below b5.out (Nat.le_refl _)) b5.out.size).mono ?_
  rintro e w6 ⟨Aq0, cq0, rfl, ho, hb⟩
  have b6 := Lib.hid (b5.out.trans (hb.mono b5.out.size))
  have z6 := hb.size
  replace oW0 := Lib.hid (oW0.out.chg (Chg.ofBelow (lo := 0) (hi := 0) hb) (.inr (Nat.zero_le _)))
  clear hb
  have oq0 := Lib.hid ho
  clear ho
  go_wp2_with (fail)
  refine (toNodeS_k 0 _ A2 c2 a2 _ hlen2 (E2.out.below b6.out (Nat.le_refl _)) b6.out.size).mono ?_
  rintro e w7 ⟨Aq2, cq2, rfl, ho, hb⟩
  have b7 := Lib.hid (b6.out.trans (hb.mono b6.out.size))
  have z7 := hb.size
  replace oW0 := Lib.hid (oW0.out.chg (Chg.ofBelow (lo := 0) (hi := 0) hb) (.inr (Nat.zero_le _)))
  replace oq0 := Lib.hid (oq0.out.chg (Chg.ofBelow (lo := 0) (hi := 0) hb) (.inr (Nat.zero_le _)))
  clear hb
  have oq2 := Lib.hid ho
  clear ho
  go_wp2_with (fail)
  refine (I.out _ _ _ _ _ _ _ _ _ hlen0 (Nd.rs oq0.out) (by omega) (OK.cap oq0.out) hlen2 (Nd.rs oq2.out) (by omega) (OK.cap oq2.out)).mono ?_
  rintro e w8 ⟨AG0, cG0, rfl, ho0, hb⟩
  have b8 := Lib.hid (b7.out.trans (hb.mono b7.out.size))
  have z8 := hb.size
  replace oW0 := Lib.hid (oW0.out.chg (Chg.ofBelow (lo := 0) (hi := 0) hb) (.inr (Nat.zero_le _)))
  replace oq0 := Lib.hid (oq0.out.chg (Chg.ofBelow (lo := 0) (hi := 0) hb) (.inr (Nat.zero_le _)))
  replace oq2 := Lib.hid (oq2.out.chg (Chg.ofBelow (lo := 0) (hi := 0) hb) (.inr (Nat.zero_le _)))
  clear hb
  have oG0 := Lib.hid ho0
  clear ho0
  go_wp2_with (fail)
  refine (eqNodeS_k _ _ _ _ _ _ _ _ _ _ R0 R0 _ rfl rfl hR0 (Nd.rs oG0.out) (Nd.rs oW0.out) (by omega) (by omega) rfl).mono ?_
  rintro e w9 ⟨rfl, hb⟩
  have b9 := Lib.hid (b8.out.trans (hb.mono b8.out.size))
  have z9 := hb.size
  replace oW0 := Lib.hid (oW0.out.chg (Chg.ofBelow (lo := 0) (hi := 0) hb) (.inr (Nat.zero_le _)))
  replace oq0 := Lib.hid (oq0.out.chg (Chg.ofBelow (lo := 0) (hi := 0) hb) (.inr (Nat.zero_le _)))
  replace oq2 := Lib.hid (oq2.out.chg (Chg.ofBelow (lo := 0) (hi := 0) hb) (.inr (Nat.zero_le _)))
  replace oG0 := Lib.hid (oG0.out.chg (Chg.ofBelow (lo := 0) (hi := 0) hb) (.inr (Nat.zero_le _)))
  clear hb
  go_wp2_with (fail)
  refine (toNodeS_k 0 _ A0 c0 a0 _ hlen0 (E0.out.below b9.out (Nat.le_refl _)) b9.out.size).mono ?_
  rintro e w10 ⟨As0, cs0, rfl, ho, hb⟩
  have b10 := Lib.hid (b9.out.trans (hb.mono b9.out.size))
  have z10 := hb.size
  replace oW0 := Lib.hid (oW0.out.chg (Chg.ofBelow (lo := 0) (hi := 0) hb) (.inr (Nat.zero_le _)))
  replace oq0 := Lib.hid (oq0.out.chg (Chg.ofBelow (lo := 0) (hi := 0) hb) (.inr (Nat.zero_le _)))
  replace oq2 := Lib.hid (oq2.out.chg (Chg.ofBelow (lo := 0) (hi := 0) hb) (.inr (Nat.zero_le _)))
  replace oG0 := Lib.hid (oG0.out.chg (Chg.ofBelow (lo := 0) (hi := 0) hb) (.inr (Nat.zero_le _)))
  clear hb
  have os0 := Lib.hid ho
  clear ho
  go_wp2_with (fail)
  refine (eqNodeS_k _ _ _ _ _ _ _ _ _ _ a0 a0 _ rfl rfl hlen0 (Nd.rs oq0.out) (Nd.rs os0.out) (by omega) (by omega) rfl).mono ?_
  rintro e w11 ⟨rfl, hb⟩
  have b11 := Lib.hid (b10.out.trans (hb.mono b10.out.size))
  have z11 := hb.size
  replace oW0 := Lib.hid (oW0.out.chg (Chg.ofBelow (lo := 0) (hi := 0) hb) (.inr (Nat.zero_le _)))
  replace oq0 := Lib.hid (oq0.out.chg (Chg.ofBelow (lo := 0) (hi := 0) hb) (.inr (Nat.zero_le _)))
  replace oq2 := Lib.hid (oq2.out.chg (Chg.ofBelow (lo := 0) (hi := 0) hb) (.inr (Nat.zero_le _)))
  replace oG0 := Lib.hid (oG0.out.chg (Chg.ofBelow (lo := 0) (hi := 0) hb) (.inr (Nat.zero_le _)))
  replace os0 := Lib.hid (os0.out.chg (Chg.ofBelow (lo := 0) (hi := 0) hb) (.inr (Nat.zero_le _)))
  clear hb
  go_wp2_with (fail)
  refine (toNodeS_k 0 _ A2 c2 a2 _ hlen2 (E2.out.below b11.out (Nat.le_refl _)) b11.out.size).mono ?_
  rintro e w12 ⟨As2, cs2, rfl, ho, hb⟩
  have b12 := Lib.hid (b11.out.trans (hb.mono b11.out.size))
  have z12 := hb.size
  replace oW0 := Lib.hid (oW0.out.chg (Chg.ofBelow (lo := 0) (hi := 0) hb) (.inr (Nat.zero_le _)))
  replace oq0 := Lib.hid (oq0.out.chg (Chg.ofBelow (lo := 0) (hi := 0) hb) (.inr (Nat.zero_le _)))
  replace oq2 := Lib.hid (oq2.out.chg (Chg.ofBelow (lo := 0) (hi := 0) hb) (.inr (Nat.zero_le _)))
  replace oG0 := Lib.hid (oG0.out.chg (Chg.ofBelow (lo := 0) (hi := 0) hb) (.inr (Nat.zero_le _)))
  clear hb
  have os2 := Lib.hid ho
  clear ho
  go_wp2_with (fail)
  refine (eqNodeS_k _ _ _ _ _ _ _ _ _ _ a2 a2 _ rfl rfl hlen2 (Nd.rs oq2.out) (Nd.rs os2.out) (by omega) (by omega) rfl).mono ?_
  rintro e w13 ⟨rfl, hb⟩
  have b13 := Lib.hid (b12.out.trans (hb.mono b12.out.size))
  have z13 := hb.size
  replace oW0 := Lib.hid (oW0.out.chg (Chg.ofBelow (lo := 0) (hi := 0) hb) (.inr (Nat.zero_le _)))
  replace oq0 := Lib.hid (oq0.out.chg (Chg.ofBelow (lo := 0) (hi := 0) hb) (.inr (Nat.zero_le _)))
  replace oq2 := Lib.hid (oq2.out.chg (Chg.ofBelow (lo := 0) (hi := 0) hb) (.inr (Nat.zero_le _)))
  replace oG0 := Lib.hid (oG0.out.chg (Chg.ofBelow (lo := 0) (hi := 0) hb) (.inr (Nat.zero_le _)))
  replace os2 := Lib.hid (os2.out.chg (Chg.ofBelow (lo := 0) (hi := 0) hb) (.inr (Nat.zero_le _)))
  clear hb
  go_wp2_with (fail)
  refine (markNodeS_k _ _ _ _ a0 (1) _ hlen0 (by omega) (by omega) oq0.out).mono ?_
  rintro e w14 ⟨rfl, _, hc⟩
  have b14 := Lib.hid (below_chg b13.out hc b13.out.size (by omega))
  have z14 := hc.size
  replace oW0 := Lib.hid (oW0.out.chg hc (by omega))
  replace oq2 := Lib.hid (oq2.out.chg hc (by omega))
  replace oG0 := Lib.hid (oG0.out.chg hc (by omega))
  clear hc
  go_wp2_with (fail)
  refine (markNodeS_k _ _ _ _ a2 (1 + 4 * (a0.length : Int)) _ hlen2 (by omega) (by omega) oq2.out).mono ?_
  rintro e w15 ⟨rfl, _, hc⟩
  have b15 := Lib.hid (below_chg b14.out hc b14.out.size (by omega))
  have z15 := hc.size
  replace oW0 := Lib.hid (oW0.out.chg hc (by omega))
  replace oG0 := Lib.hid (oG0.out.chg hc (by omega))
  clear hc
  have hk : (0 : Int) ≤ 1 + 4 * (a0.length : Int) + 4 * (a2.length : Int) := by omega
  go_wp2_with (fail)
  refine (eqNodeS_k _ _ _ _ _ _ _ _ _ _ R0 R0 _ rfl rfl hR0 (Nd.rs oG0.out) (Nd.rs oW0.out) (by omega) (by omega) rfl).mono ?_
  rintro e w16 ⟨rfl, hb⟩
  have b16 := Lib.hid (b15.out.trans (hb.mono b15.out.size))
  have z16 := hb.size
  replace oW0 := Lib.hid (oW0.out.chg (Chg.ofBelow (lo := 0) (hi := 0) hb) (.inr (Nat.zero_le _)))
  replace oG0 := Lib.hid (oG0.out.chg (Chg.ofBelow (lo := 0) (hi := 0) hb) (.inr (Nat.zero_le _)))
  clear hb
  go_wp2_with (fail)
  refine (markNodeS_k _ _ _ _ R0 (1) _ hR0 (by omega) (by omega) oG0.out).mono ?_
  rintro e w17 ⟨rfl, ho, hc⟩
  have b17 := Lib.hid (below_chg b16.out hc b16.out.size (by omega))
  have z17 := hc.size
  replace oW0 := Lib.hid (oW0.out.chg hc (by omega))
  clear hc
  replace oG0 := Lib.hid ho
  clear ho
  have hq : (0 : Int) ≤ 1 + 4 * (R0.length : Int) := by omega
  go_wp2_with (fail)
  refine (heldNodeS_k _ _ _ _ _ 1 _ hR0 (by omega) (by omega) (Nd.rs oG0.out) (by omega)).mono ?_
  rintro e w18 ⟨rfl, hb⟩
  have b18 := Lib.hid (b17.out.trans (hb.mono b17.out.size))
  have z18 := hb.size
  replace oW0 := Lib.hid (oW0.out.chg (Chg.ofBelow (lo := 0) (hi := 0) hb) (.inr (Nat.zero_le _)))
  replace oG0 := Lib.hid (oG0.out.chg (Chg.ofBelow (lo := 0) (hi := 0) hb) (.inr (Nat.zero_le _)))
  clear hb
  go_wp2_with (fail)
  refine (toNodeS_k 0 _ A0 c0 a0 _ hlen0 (E0.out.below b18.out (Nat.le_refl _)) b18.out.size).mono ?_
  rintro e w19 ⟨Ah0, ch0, rfl, ho, hb⟩
  have b19 := Lib.hid (b18.out.trans (hb.mono b18.out.size))
  have z19 := hb.size
  replace oW0 := Lib.hid (oW0.out.chg (Chg.ofBelow (lo := 0) (hi := 0) hb) (.inr (Nat.zero_le _)))
  replace oG0 := Lib.hid (oG0.out.chg (Chg.ofBelow (lo := 0) (hi := 0) hb) (.inr (Nat.zero_le _)))
  clear hb
  have oh0 := Lib.hid ho
  clear ho
  go_wp2_with (fail)
  refine (toNodeS_k 0 _ A2 c2 a2 _ hlen2 (E2.out.below b19.out (Nat.le_refl _)) b19.out.size).mono ?_
  rintro e w20 ⟨Ah2, ch2, rfl, ho, hb⟩
  have b20 := Lib.hid (b19.out.trans (hb.mono b19.out.size))
  have z20 := hb.size
  replace oW0 := Lib.hid (oW0.out.chg (Chg.ofBelow (lo := 0) (hi := 0) hb) (.inr (Nat.zero_le _)))
  replace oG0 := Lib.hid (oG0.out.chg (Chg.ofBelow (lo := 0) (hi := 0) hb) (.inr (Nat.zero_le _)))
  replace oh0 := Lib.hid (oh0.out.chg (Chg.ofBelow (lo := 0) (hi := 0) hb) (.inr (Nat.zero_le _)))
  clear hb
  have oh2 := Lib.hid ho
  clear ho
  go_wp2_with (fail)
  refine (I.out _ _ _ _ _ _ _ _ _ hlen0 (Nd.rs oh0.out) (by omega) (OK.cap oh0.out) hlen2 (Nd.rs oh2.out) (by omega) (OK.cap oh2.out)).mono ?_
  rintro e w21 ⟨AH0, cH0, rfl, ho0, hb⟩
  have b21 := Lib.hid (b20.out.trans (hb.mono b20.out.size))
  have z21 := hb.size
  replace oW0 := Lib.hid (oW0.out.chg (Chg.ofBelow (lo := 0) (hi := 0) hb) (.inr (Nat.zero_le _)))
  replace oG0 := Lib.hid (oG0.out.chg (Chg.ofBelow (lo := 0) (hi := 0) hb) (.inr (Nat.zero_le _)))
  replace oh0 := Lib.hid (oh0.out.chg (Chg.ofBelow (lo := 0) (hi := 0) hb) (.inr (Nat.zero_le _)))
  replace oh2 := Lib.hid (oh2.out.chg (Chg.ofBelow (lo := 0) (hi := 0) hb) (.inr (Nat.zero_le _)))
  clear hb
  have oH0 := Lib.hid ho0
  clear ho0
  go_wp2_with (fail)
  refine (eqNodeS_k _ _ _ _ _ _ _ _ _ _ R0 R0 _ rfl rfl hR0 (Nd.rs oH0.out) (Nd.rs oW0.out) (by omega) (by omega) rfl).mono ?_
  rintro e w22 ⟨rfl, hb⟩
  have b22 := Lib.hid (b21.out.trans (hb.mono b21.out.size))
  have z22 := hb.size
  replace oW0 := Lib.hid (oW0.out.chg (Chg.ofBelow (lo := 0) (hi := 0) hb) (.inr (Nat.zero_le _)))
  replace oG0 := Lib.hid (oG0.out.chg (Chg.ofBelow (lo := 0) (hi := 0) hb) (.inr (Nat.zero_le _)))
  replace oh0 := Lib.hid (oh0.out.chg (Chg.ofBelow (lo := 0) (hi := 0) hb) (.inr (Nat.zero_le _)))
  replace oh2 := Lib.hid (oh2.out.chg (Chg.ofBelow (lo := 0) (hi := 0) hb) (.inr (Nat.zero_le _)))
  replace oH0 := Lib.hid (oH0.out.chg (Chg.ofBelow (lo := 0) (hi := 0) hb) (.inr (Nat.zero_le _)))
  clear hb
  go_wp2_with (fail)
  refine (heldNodeS_k _ _ _ _ _ 1 _ hR0 (by omega) (by omega) (Nd.rs oG0.out) (by omega)).mono ?_
  rintro e w23 ⟨rfl, hb⟩
  have b23 := Lib.hid (b22.out.trans (hb.mono b22.out.size))
  have z23 := hb.size
  replace oW0 := Lib.hid (oW0.out.chg (Chg.ofBelow (lo := 0) (hi := 0) hb) (.inr (Nat.zero_le _)))
  replace oG0 := Lib.hid (oG0.out.chg (Chg.ofBelow (lo := 0) (hi := 0) hb) (.inr (Nat.zero_le _)))
  replace oh0 := Lib.hid (oh0.out.chg (Chg.ofBelow (lo := 0) (hi := 0) hb) (.inr (Nat.zero_le _)))
  replace oh2 := Lib.hid (oh2.out.chg (Chg.ofBelow (lo := 0) (hi := 0) hb) (.inr (Nat.zero_le _)))
  replace oH0 := Lib.hid (oH0.out.chg (Chg.ofBelow (lo := 0) (hi := 0) hb) (.inr (Nat.zero_le _)))
  clear hb
  go_wp2
  go_ret
  exact ⟨rfl, b23.out⟩
end Go.Proofs.Ytieljgfocgdngaa

/- ExpandExpr: the model. -/
namespace Go.Proofs.Ytieljgfocgdngaa
open Go.RowKit
set_option linter.unusedVariables false
set_option maxRecDepth 100000

set_option maxHeartbeats 4000000 in
theorem sput_new (t : TypeId) (rest : List Value) (q L : Nat) (xs : List Nd) (v : Value) (y : Nd) (w : World) (hx : xs.length < 100000) (hL : L ≤ w.heap.size) (hs : GS t rest q L xs false v w) :
    Calls Try.prog 101 #[.pointer (some ⟨q, 0, none⟩), .agg #[.string y.op, .int .i64 y.a, .int .i64 y.b, .int .i64 y.v]] w fun e w' => e = .returned (.int .i64 xs.length) ∧ GP t rest q L v w (xs ++ [y], false) w' := by
  obtain ⟨i0, hi0, hi1, hi2, hi3⟩ := info_parts Try.infoNode
  have hJ0 := Lib.hid hi0
  have hJ1 := Lib.hid hi1
  have hJ2 := Lib.hid hi2
  have hJ3 := Lib.hid hi3
  clear hi0 hi1 hi2 hi3
  obtain ⟨AV, cv, rfl⟩ := hs.form
  have hq0 : q < w.heap.size := hs.lt
  have hal := fun o => (Below.refl w.heap.size w).alloc (Nat.le_refl _) o
  have g0 := fun o => ((hal o).cell (p := ⟨q, 0, none⟩) hq0).trans hs.c0
  have g1 := fun o => ((hal o).cell (p := ⟨q, 1, none⟩) hq0).trans hs.c1
  have x24 : (xs.length : Int) < 100000 := by omega
  have hf := hs.fz 0
  have HS := Lib.hid hs
  clear hs
  go_enter Try.func101, Try.ntmps101
  go_wp2_with (fail)
  obtain ⟨w1, hw1⟩ : ∃ w1, w1 = w.alloc (.cells #[.string y.op, .int .i64 y.a, .int .i64 y.b, .int .i64 y.v] 62) := ⟨_, rfl⟩
  have X1 : XN w1 w.heap.size y := by rw [hw1]; exact xn_new _ y
  have B1 : Hid (Below w.heap.size w w1) := by unfold Hid; rw [hw1]; exact hal _
  have k0 : w1.cell? ⟨q, 0, none⟩ = some (.slice AV xs.length cv) := by rw [hw1]; exact g0 _
  have S1 : Hid (GS t rest q L xs false (.slice AV xs.length cv) w1) := HS.out.next B1.out
  have Z1 : w1.heap.size = w.heap.size + 1 := by rw [hw1]; simp
  obtain ⟨m0, m1, m2, m3⟩ := X1.cells
  have O2 := fun o => Lib.hid (show ((w1.alloc o).drew).ownsRow L 62 4 (.slice AV xs.length cv) xs.length (xs.flatMap Nd.enc) from (S1.out.next (((Below.refl w1.heap.size w1).alloc (Nat.le_refl _) o).drew)).2.1)
  have HF1 : Hid (w1.frozen? ⟨q, 0, none⟩ = false) := S1.out.fz 0
  have hq1 : Hid (q < w1.heap.size) := S1.out.lt
  rw [← hw1]
  have HW1 := Lib.hid hw1
  have hL1 : L ≤ w1.heap.size := by omega
  clear hw1 hal g0 g1 X1
  go_region_law (first | (refine step_append_lies _ rfl _ _ 24 rfl L 62 i0 _ 4 40 Try.underlying24 hJ0.out hJ1.out hJ2.out hJ3.out rfl (by decide) _ _ _ (by rfl) (O2 _).out ⟨w.heap.size + 1, 0, none⟩ 1 1 (Nd.enc y) (by rfl) rfl (four_new y Z1) (four_one _) (by omega) (by unfold maxLen; omega) (by omega) (by simp; omega) (w1.heap.size + 1) (by simp) ?_; intro gg cap w2 hown1 hgr1 hat1 _; obtain ⟨j0, j1, j2, j3, j4⟩ := put_facts2 hq1.out HS.out.2.2 k0 HF1.out hgr1))
  all_goals
    have h1' := Lib.hid hown1
    have J3 := Lib.hid j3
    have J4 := Lib.hid j4
    have HA := Lib.hid hat1
    clear hown1 hgr1 j4 hat1 j3
    go_wp2
    go_ret
    have hgq : gg ≠ q := by
      intro e; subst e
      rcases HA.out with e | e
      · exact HS.out.2.2 e
      · have := hq1.out; omega
    refine ⟨rfl, .slice (some ⟨gg, 0, none⟩) (xs.length + 1) cap, ⟨?_, ?_, ?_⟩, ((Fr.ofBelow B1.out).trans J4.out (fun j hj => .inl hj)).set 0 _, ?_⟩
    · have h7 := J3.out.trans S1.out.1
      simp [World.setCell, Array.getElem?_modify, h7]
    · have h8 := h1'.out
      rw [nflat_snoc, List.length_append]
      refine ⟨h8.1, ?_⟩
      rcases h8.2 with hn | ⟨g, cp, cur, e, hg, hh, hrest⟩
      · exact .inl hn
      · refine .inr ⟨g, cp, cur, e, hg, ?_, hrest⟩
        have e' := e
        simp only [Value.slice.injEq, Option.some.injEq, Addr.mk.injEq] at e'
        exact (Below.heap_setCell w2 ⟨q, 0, none⟩ _ g (by rw [← e'.1.1]; exact hgq)).trans hh
    · intro e; exact hgq (by simpa [Value.ownBlock] using e)
    · intro j hj
      have hj' : gg = j := by simpa [Value.ownBlock] using hj
      subst hj'
      rcases HA.out with e | e
      · exact .inl e
      · exact .inr (by omega)
end Go.Proofs.Ytieljgfocgdngaa

/- The model's tree that is made in the order of its walk: one node put. -/
namespace Go.Proofs.Ytieljgfocgdngaa
open Go.RowKit
set_option linter.unusedVariables false
set_option maxRecDepth 100000

/-- The state of a tree that is made. -/
def HS (q L : Nat) (xs : List Nd) (v : Value) (w : World) : Prop :=
  w.heap[q]? = some (.cells #[v] 148 (0, 0)) ∧ w.ownsRow L 62 4 v xs.length (xs.flatMap Nd.enc) ∧ v.ownBlock ≠ some q
theorem HS.lt {q L : Nat} {xs : List Nd} {v : Value} {w : World} (h : HS q L xs v w) : q < w.heap.size := by
  rcases Nat.lt_or_ge q w.heap.size with hlt | hge
  · exact hlt
  · have := h.1; rw [Array.getElem?_eq_none hge] at this; cases this
theorem HS.own {q L : Nat} {xs : List Nd} {v : Value} {w : World} (h : HS q L xs v w) : ∀ j, v.ownBlock = some j → L ≤ j ∧ j < w.heap.size := fun j hj => h.2.1.lt j hj
theorem HS.keep {q L : Nat} {xs : List Nd} {v : Value} {w w' : World} (h : HS q L xs v w) (hq : w'.heap[q]? = w.heap[q]?) (hr : ∀ j, v.ownBlock = some j → w'.heap[j]? = w.heap[j]?) : HS q L xs v w' := by
  refine ⟨hq.trans h.1, ⟨h.2.1.1, ?_⟩, h.2.2⟩
  rcases h.2.1.2 with hn | ⟨g, cap, cur, rfl, hg, hh, hrest⟩
  · exact .inl hn
  · exact .inr ⟨g, cap, cur, rfl, hg, (hr g rfl).trans hh, hrest⟩
theorem HS.next {q L : Nat} {xs : List Nd} {v : Value} {w w' : World} (h : HS q L xs v w) (hb : Below w.heap.size w w') : HS q L xs v w' :=
  h.keep (hb.block q h.lt) (fun j hj => hb.block j (h.own j hj).2)
theorem HS.other {q L : Nat} {xs : List Nd} {v : Value} {w : World} (h : HS q L xs v w) {p : Addr} (h1 : p.block ≠ q) (h2 : v.ownBlock ≠ some p.block) (u : Value) : HS q L xs v (w.setCell p u) :=
  h.keep (Below.heap_setCell w p u q (Ne.symm h1)) (fun j hj => Below.heap_setCell w p u j (fun e => h2 (by rw [hj, e])))
theorem HS.form {q L : Nat} {xs : List Nd} {v : Value} {w : World} (h : HS q L xs v w) : ∃ A c, v = .slice A xs.length c := by
  rcases h.2.1.2 with ⟨rfl, h0⟩ | ⟨g, cap, cur, rfl, _⟩
  · rw [h0]; exact ⟨_, _, rfl⟩
  · exact ⟨_, _, rfl⟩
theorem HS.ok {q L : Nat} {xs : List Nd} {v : Value} {w : World} (h : HS q L xs v w) : OK Nd.enc 4 62 w L w.heap.size v xs := ⟨h.2.1, fun j hj => (h.own j hj).2⟩
theorem HS.c0 {q L : Nat} {xs : List Nd} {v : Value} {w : World} (h : HS q L xs v w) : w.cell? ⟨q, 0, none⟩ = some v := by
  have := h.1; simp [World.cell?, this]
theorem HS.fz {q L : Nat} {xs : List Nd} {v : Value} {w : World} (h : HS q L xs v w) (i : Nat) : w.frozen? ⟨q, i, none⟩ = false := by
  have := h.1; simp [World.frozen?, this]
theorem HS.nil (L : Nat) (w : World) : HS w.heap.size L [] (.slice none 0 0) (w.alloc (.cells #[.slice none 0 0] 148)) :=
  ⟨heap_alloc_new w _, World.ownsRow_nil _ _ _ _, fun e => by simp [Value.ownBlock] at e⟩
/-- What a call leaves of the tree's state. -/
def HP (q L : Nat) (v : Value) (w : World) (xs : List Nd) (w' : World) : Prop :=
  ∃ v', HS q L xs v' w' ∧ Fr q v.ownBlock w w' ∧ ∀ j, v'.ownBlock = some j → v.ownBlock = some j ∨ w.heap.size ≤ j
theorem HP.trans {q L : Nat} {v v1 : Value} {w w1 w2 : World} {xs : List Nd} (h1 : Fr q v.ownBlock w w1) (h2 : ∀ j, v1.ownBlock = some j → v.ownBlock = some j ∨ w.heap.size ≤ j) (h : HP q L v1 w1 xs w2) : HP q L v w xs w2 := by
  obtain ⟨v2, g, f, o⟩ := h
  refine ⟨v2, g, h1.trans f h2, fun j hj => ?_⟩
  rcases o j hj with e | e
  · exact h2 j e
  · exact .inr (Nat.le_trans h1.size e)
def pnode (n : Nd) (ps : List Int) : Nd := ⟨n.op, ps.getD 0 0, ps.getD 1 0, n.v⟩


set_option maxHeartbeats 4000000 in
theorem ruPut0 (q L Lp Bp : Nat) (xs : List Nd) (v : Value) (n : Nd) (PA : Option Addr) (pc : Nat)  (w : World) (hx : xs.length < 100000) (hL : L ≤ w.heap.size) (hBp : Bp ≤ w.heap.size) (hs : HS q L xs v w) (hp : IS w Lp Bp PA []) :
    Calls Try.prog 145 #[.pointer (some ⟨q, 0, none⟩), .agg #[.string n.op, .int .i64 n.a, .int .i64 n.b, .int .i64 n.v], .slice PA 0 pc] w fun e w' => e = .returned (.int .i64 xs.length) ∧ HP q L v w (xs ++ [pnode n []]) w' := by
  obtain ⟨i0, hi0, hi1, hi2, hi3⟩ := info_parts Try.infoNode
  have hJ0 := Lib.hid hi0
  have hJ1 := Lib.hid hi1
  have hJ2 := Lib.hid hi2
  have hJ3 := Lib.hid hi3
  clear hi0 hi1 hi2 hi3
  obtain ⟨AV, cv, rfl⟩ := hs.form
  have hq0 : q < w.heap.size := hs.lt
  obtain ⟨op, na, nb, nv⟩ := n
  obtain ⟨wa, hwa⟩ : ∃ wa, wa = w.alloc (.cells #[.string op, .int .i64 na, .int .i64 nb, .int .i64 nv] 62) := ⟨_, rfl⟩
  have ba : Below w.heap.size w wa := by rw [hwa]; exact (Below.refl _ _).alloc (Nat.le_refl _) _
  have xa : XN wa w.heap.size ⟨op, na, nb, nv⟩ := by rw [hwa]; exact xn_new _ ⟨op, na, nb, nv⟩
  have za : wa.heap.size = w.heap.size + 1 := by rw [hwa]; simp
  have hqa : q < wa.heap.size := by omega
  obtain ⟨w1, hw1⟩ : ∃ w1, w1 = wa.alloc (.cells #[.string op, .int .i64 0, .int .i64 0, .int .i64 nv] 62) := ⟨_, rfl⟩
  have bb : Below wa.heap.size wa w1 := by rw [hw1]; exact (Below.refl _ _).alloc (Nat.le_refl _) _
  have x1 : Hid (XN w1 (w.heap.size + 1) ⟨op, 0, 0, nv⟩) := by unfold Hid; rw [hw1, ← za]; exact xn_new wa ⟨op, 0, 0, nv⟩
  have z1 : Hid (w1.heap.size = w.heap.size + 2) := by unfold Hid; rw [hw1]; simp [za]
  have b1 := Lib.hid (ba.trans (bb.mono ba.size))
  have e1 : Hid (w1 = (w.alloc (.cells #[.string op, .int .i64 na, .int .i64 nb, .int .i64 nv] 62)).alloc (.cells #[.string op, .int .i64 0, .int .i64 0, .int .i64 nv] 62)) := by unfold Hid; rw [hw1, hwa]
  have s1 := Lib.hid (hs.next b1.out)
  obtain ⟨a0, a1, a2, a3⟩ := xa.cells
  rw [hwa] at a0 a1 a2 a3
  have x24 : (xs.length : Int) < 100000 := by omega
  have hpn : pnode ⟨op, na, nb, nv⟩ [] = ⟨op, 0, 0, nv⟩ := rfl
  rw [hpn]
  clear hpn hs ba xa za bb hwa hw1 hqa
  go_enter Try.func145, Try.ntmps145
  go_wp2_with (fail)
  rw [← e1.out]
  have X1 := x1.out
  have B1 := Lib.hid b1.out
  have k0 : w1.cell? ⟨q, 0, none⟩ = some (.slice AV xs.length cv) := s1.out.c0
  have S1 := Lib.hid s1.out
  obtain ⟨m0, m1, m2, m3⟩ := X1.cells
  have Z1 : w1.heap.size = w.heap.size + 2 := z1.out
  have O2 := fun o => Lib.hid (show ((w1.alloc o).drew).ownsRow L 62 4 (.slice AV xs.length cv) xs.length (xs.flatMap Nd.enc) from (S1.out.next (((Below.refl w1.heap.size w1).alloc (Nat.le_refl _) o).drew)).2.1)
  have hf : w1.frozen? ⟨q, 0, none⟩ = false := S1.out.fz 0
  have HF1 := Lib.hid hf
  have hq1' : Hid (q < w1.heap.size) := S1.out.lt
  have hL1 : L ≤ w1.heap.size := by omega
  have k0' := fun o => (((Below.refl w1.heap.size w1).alloc (Nat.le_refl _) o).cell (p := ⟨q, 0, none⟩) hq1'.out).trans k0
  clear X1
  go_region_law (first | (refine step_append_lies _ rfl _ _ 24 rfl L 62 i0 _ 4 40 Try.underlying24 hJ0.out hJ1.out hJ2.out hJ3.out rfl (by decide) _ _ _ (by rfl) (O2 _).out ⟨w.heap.size + 2, 0, none⟩ 1 1 (Nd.enc ⟨op, 0, 0, nv⟩) (by rfl) rfl (four_new ⟨op, 0, 0, nv⟩ Z1) (four_one _) (by omega) (by unfold maxLen; omega) (by omega) (by simp; omega) (w1.heap.size + 1) (by simp) ?_; intro gg cap w2 hown1 hgr1 hat1 _; obtain ⟨j0, j1, j2, j3, j4⟩ := put_facts2 hq1'.out S1.out.2.2 k0 HF1.out hgr1))
  all_goals
    have h1' := Lib.hid hown1
    have J3 := Lib.hid j3
    have J4 := Lib.hid j4
    have HA := Lib.hid hat1
    clear hown1 hgr1 j4 hat1 j3
    go_wp2
    go_ret
    have hgq : gg ≠ q := by
      intro e; subst e
      rcases HA.out with e | e
      · exact S1.out.2.2 e
      · have := hq1'.out; omega
    refine ⟨rfl, .slice (some ⟨gg, 0, none⟩) (xs.length + 1) cap, ⟨?_, ?_, ?_⟩, ((Fr.ofBelow B1.out).trans J4.out (fun j hj => .inl hj)).set 0 _, ?_⟩
    · have h7 := J3.out.trans S1.out.1
      simp [World.setCell, Array.getElem?_modify, h7]
    · have h8 := h1'.out
      rw [nflat_snoc, List.length_append]
      refine ⟨h8.1, ?_⟩
      rcases h8.2 with hn | ⟨g, cp, cur, e, hg, hh, hrest⟩
      · exact .inl hn
      · refine .inr ⟨g, cp, cur, e, hg, ?_, hrest⟩
        have e' := e
        simp only [Value.slice.injEq, Option.some.injEq, Addr.mk.injEq] at e'
        exact (Below.heap_setCell w2 ⟨q, 0, none⟩ _ g (by rw [← e'.1.1]; exact hgq)).trans hh
    · intro e; exact hgq (by simpa [Value.ownBlock] using e)
    · intro j hj
      have hj' : gg = j := by simpa [Value.ownBlock] using hj
      subst hj'
      rcases HA.out with e | e
      · exact .inl e
      · exact .inr (by omega)

set_option maxHeartbeats 4000000 in
theorem ruPut1 (q L Lp Bp : Nat) (xs : List Nd) (v : Value) (n : Nd) (PA : Option Addr) (pc : Nat) (a : Int) (w : World) (hx : xs.length < 100000) (hL : L ≤ w.heap.size) (hBp : Bp ≤ w.heap.size) (hs : HS q L xs v w) (hp : IS w Lp Bp PA [a]) :
    Calls Try.prog 145 #[.pointer (some ⟨q, 0, none⟩), .agg #[.string n.op, .int .i64 n.a, .int .i64 n.b, .int .i64 n.v], .slice PA 1 pc] w fun e w' => e = .returned (.int .i64 xs.length) ∧ HP q L v w (xs ++ [pnode n [a]]) w' := by
  obtain ⟨i0, hi0, hi1, hi2, hi3⟩ := info_parts Try.infoNode
  have hJ0 := Lib.hid hi0
  have hJ1 := Lib.hid hi1
  have hJ2 := Lib.hid hi2
  have hJ3 := Lib.hid hi3
  clear hi0 hi1 hi2 hi3
  obtain ⟨AV, cv, rfl⟩ := hs.form
  have hq0 : q < w.heap.size := hs.lt
  obtain ⟨op, na, nb, nv⟩ := n
  obtain ⟨wa, hwa⟩ : ∃ wa, wa = w.alloc (.cells #[.string op, .int .i64 na, .int .i64 nb, .int .i64 nv] 62) := ⟨_, rfl⟩
  have ba : Below w.heap.size w wa := by rw [hwa]; exact (Below.refl _ _).alloc (Nat.le_refl _) _
  have xa : XN wa w.heap.size ⟨op, na, nb, nv⟩ := by rw [hwa]; exact xn_new _ ⟨op, na, nb, nv⟩
  have za : wa.heap.size = w.heap.size + 1 := by rw [hwa]; simp
  have hqa : q < wa.heap.size := by omega
  obtain ⟨pb, po, rfl, ⟨_, hpB⟩, hpc⟩ := (hp.below ba hBp) (by simp)
  have p0' := hpc 0 (by simp)
  simp only [Nat.add_zero, List.getElem_cons_zero] at p0'
  have hpl : pb < wa.heap.size := by omega
  have p0 := fun u => (((Below.refl wa.heap.size wa).alloc (Nat.le_refl _) u).cell (p := ⟨pb, po, none⟩) hpl).trans p0'
  rw [hwa] at p0
  clear p0' hpc
  obtain ⟨w1, hw1⟩ : ∃ w1, w1 = wa.alloc (.cells #[.string op, .int .i64 a, .int .i64 0, .int .i64 nv] 62) := ⟨_, rfl⟩
  have bb : Below wa.heap.size wa w1 := by rw [hw1]; exact (Below.refl _ _).alloc (Nat.le_refl _) _
  have x1 : Hid (XN w1 (w.heap.size + 1) ⟨op, a, 0, nv⟩) := by unfold Hid; rw [hw1, ← za]; exact xn_new wa ⟨op, a, 0, nv⟩
  have z1 : Hid (w1.heap.size = w.heap.size + 2) := by unfold Hid; rw [hw1]; simp [za]
  have b1 := Lib.hid (ba.trans (bb.mono ba.size))
  have e1 : Hid (w1 = (w.alloc (.cells #[.string op, .int .i64 na, .int .i64 nb, .int .i64 nv] 62)).alloc (.cells #[.string op, .int .i64 a, .int .i64 0, .int .i64 nv] 62)) := by unfold Hid; rw [hw1, hwa]
  have s1 := Lib.hid (hs.next b1.out)
  obtain ⟨a0, a1, a2, a3⟩ := xa.cells
  rw [hwa] at a0 a1 a2 a3
  have x24 : (xs.length : Int) < 100000 := by omega
  have hpn : pnode ⟨op, na, nb, nv⟩ [a] = ⟨op, a, 0, nv⟩ := rfl
  rw [hpn]
  clear hpn hs ba xa za bb hwa hw1 hqa
  go_enter Try.func145, Try.ntmps145
  go_wp2_with (fail)
  rw [← e1.out]
  have X1 := x1.out
  have B1 := Lib.hid b1.out
  have k0 : w1.cell? ⟨q, 0, none⟩ = some (.slice AV xs.length cv) := s1.out.c0
  have S1 := Lib.hid s1.out
  obtain ⟨m0, m1, m2, m3⟩ := X1.cells
  have Z1 : w1.heap.size = w.heap.size + 2 := z1.out
  have O2 := fun o => Lib.hid (show ((w1.alloc o).drew).ownsRow L 62 4 (.slice AV xs.length cv) xs.length (xs.flatMap Nd.enc) from (S1.out.next (((Below.refl w1.heap.size w1).alloc (Nat.le_refl _) o).drew)).2.1)
  have hf : w1.frozen? ⟨q, 0, none⟩ = false := S1.out.fz 0
  have HF1 := Lib.hid hf
  have hq1' : Hid (q < w1.heap.size) := S1.out.lt
  have hL1 : L ≤ w1.heap.size := by omega
  have k0' := fun o => (((Below.refl w1.heap.size w1).alloc (Nat.le_refl _) o).cell (p := ⟨q, 0, none⟩) hq1'.out).trans k0
  clear X1
  go_region_law (first | (refine step_append_lies _ rfl _ _ 24 rfl L 62 i0 _ 4 40 Try.underlying24 hJ0.out hJ1.out hJ2.out hJ3.out rfl (by decide) _ _ _ (by rfl) (O2 _).out ⟨w.heap.size + 2, 0, none⟩ 1 1 (Nd.enc ⟨op, a, 0, nv⟩) (by rfl) rfl (four_new ⟨op, a, 0, nv⟩ Z1) (four_one _) (by omega) (by unfold maxLen; omega) (by omega) (by simp; omega) (w1.heap.size + 1) (by simp) ?_; intro gg cap w2 hown1 hgr1 hat1 _; obtain ⟨j0, j1, j2, j3, j4⟩ := put_facts2 hq1'.out S1.out.2.2 k0 HF1.out hgr1))
  all_goals
    have h1' := Lib.hid hown1
    have J3 := Lib.hid j3
    have J4 := Lib.hid j4
    have HA := Lib.hid hat1
    clear hown1 hgr1 j4 hat1 j3
    go_wp2
    go_ret
    have hgq : gg ≠ q := by
      intro e; subst e
      rcases HA.out with e | e
      · exact S1.out.2.2 e
      · have := hq1'.out; omega
    refine ⟨rfl, .slice (some ⟨gg, 0, none⟩) (xs.length + 1) cap, ⟨?_, ?_, ?_⟩, ((Fr.ofBelow B1.out).trans J4.out (fun j hj => .inl hj)).set 0 _, ?_⟩
    · have h7 := J3.out.trans S1.out.1
      simp [World.setCell, Array.getElem?_modify, h7]
    · have h8 := h1'.out
      rw [nflat_snoc, List.length_append]
      refine ⟨h8.1, ?_⟩
      rcases h8.2 with hn | ⟨g, cp, cur, e, hg, hh, hrest⟩
      · exact .inl hn
      · refine .inr ⟨g, cp, cur, e, hg, ?_, hrest⟩
        have e' := e
        simp only [Value.slice.injEq, Option.some.injEq, Addr.mk.injEq] at e'
        exact (Below.heap_setCell w2 ⟨q, 0, none⟩ _ g (by rw [← e'.1.1]; exact hgq)).trans hh
    · intro e; exact hgq (by simpa [Value.ownBlock] using e)
    · intro j hj
      have hj' : gg = j := by simpa [Value.ownBlock] using hj
      subst hj'
      rcases HA.out with e | e
      · exact .inl e
      · exact .inr (by omega)

set_option maxHeartbeats 4000000 in
theorem ruPut2 (q L Lp Bp : Nat) (xs : List Nd) (v : Value) (n : Nd) (PA : Option Addr) (pc : Nat) (a b : Int) (w : World) (hx : xs.length < 100000) (hL : L ≤ w.heap.size) (hBp : Bp ≤ w.heap.size) (hs : HS q L xs v w) (hp : IS w Lp Bp PA [a, b]) :
    Calls Try.prog 145 #[.pointer (some ⟨q, 0, none⟩), .agg #[.string n.op, .int .i64 n.a, .int .i64 n.b, .int .i64 n.v], .slice PA 2 pc] w fun e w' => e = .returned (.int .i64 xs.length) ∧ HP q L v w (xs ++ [pnode n [a, b]]) w' := by
  obtain ⟨i0, hi0, hi1, hi2, hi3⟩ := info_parts Try.infoNode
  have hJ0 := Lib.hid hi0
  have hJ1 := Lib.hid hi1
  have hJ2 := Lib.hid hi2
  have hJ3 := Lib.hid hi3
  clear hi0 hi1 hi2 hi3
  obtain ⟨AV, cv, rfl⟩ := hs.form
  have hq0 : q < w.heap.size := hs.lt
  obtain ⟨op, na, nb, nv⟩ := n
  obtain ⟨wa, hwa⟩ : ∃ wa, wa = w.alloc (.cells #[.string op, .int .i64 na, .int .i64 nb, .int .i64 nv] 62) := ⟨_, rfl⟩
  have ba : Below w.heap.size w wa := by rw [hwa]; exact (Below.refl _ _).alloc (Nat.le_refl _) _
  have xa : XN wa w.heap.size ⟨op, na, nb, nv⟩ := by rw [hwa]; exact xn_new _ ⟨op, na, nb, nv⟩
  have za : wa.heap.size = w.heap.size + 1 := by rw [hwa]; simp
  have hqa : q < wa.heap.size := by omega
  obtain ⟨pb, po, rfl, ⟨_, hpB⟩, hpc⟩ := (hp.below ba hBp) (by simp)
  have p0' := hpc 0 (by simp)
  simp only [Nat.add_zero, List.getElem_cons_zero] at p0'
  have p1' := hpc 1 (by simp)
  simp only [List.getElem_cons_succ, List.getElem_cons_zero] at p1'
  have hpl : pb < wa.heap.size := by omega
  have p0 := fun u => (((Below.refl wa.heap.size wa).alloc (Nat.le_refl _) u).cell (p := ⟨pb, po, none⟩) hpl).trans p0'
  have p1 := fun u => (((Below.refl wa.heap.size wa).alloc (Nat.le_refl _) u).cell (p := ⟨pb, po + 1, none⟩) hpl).trans p1'
  rw [hwa] at p0 p1
  clear p0' p1' hpc
  obtain ⟨w1, hw1⟩ : ∃ w1, w1 = wa.alloc (.cells #[.string op, .int .i64 a, .int .i64 b, .int .i64 nv] 62) := ⟨_, rfl⟩
  have bb : Below wa.heap.size wa w1 := by rw [hw1]; exact (Below.refl _ _).alloc (Nat.le_refl _) _
  have x1 : Hid (XN w1 (w.heap.size + 1) ⟨op, a, b, nv⟩) := by unfold Hid; rw [hw1, ← za]; exact xn_new wa ⟨op, a, b, nv⟩
  have z1 : Hid (w1.heap.size = w.heap.size + 2) := by unfold Hid; rw [hw1]; simp [za]
  have b1 := Lib.hid (ba.trans (bb.mono ba.size))
  have e1 : Hid (w1 = (w.alloc (.cells #[.string op, .int .i64 na, .int .i64 nb, .int .i64 nv] 62)).alloc (.cells #[.string op, .int .i64 a, .int .i64 b, .int .i64 nv] 62)) := by unfold Hid; rw [hw1, hwa]
  have s1 := Lib.hid (hs.next b1.out)
  obtain ⟨a0, a1, a2, a3⟩ := xa.cells
  rw [hwa] at a0 a1 a2 a3
  have x24 : (xs.length : Int) < 100000 := by omega
  have hpn : pnode ⟨op, na, nb, nv⟩ [a, b] = ⟨op, a, b, nv⟩ := rfl
  rw [hpn]
  clear hpn hs ba xa za bb hwa hw1 hqa
  go_enter Try.func145, Try.ntmps145
  go_wp2_with (fail)
  rw [← e1.out]
  have X1 := x1.out
  have B1 := Lib.hid b1.out
  have k0 : w1.cell? ⟨q, 0, none⟩ = some (.slice AV xs.length cv) := s1.out.c0
  have S1 := Lib.hid s1.out
  obtain ⟨m0, m1, m2, m3⟩ := X1.cells
  have Z1 : w1.heap.size = w.heap.size + 2 := z1.out
  have O2 := fun o => Lib.hid (show ((w1.alloc o).drew).ownsRow L 62 4 (.slice AV xs.length cv) xs.length (xs.flatMap Nd.enc) from (S1.out.next (((Below.refl w1.heap.size w1).alloc (Nat.le_refl _) o).drew)).2.1)
  have hf : w1.frozen? ⟨q, 0, none⟩ = false := S1.out.fz 0
  have HF1 := Lib.hid hf
  have hq1' : Hid (q < w1.heap.size) := S1.out.lt
  have hL1 : L ≤ w1.heap.size := by omega
  have k0' := fun o => (((Below.refl w1.heap.size w1).alloc (Nat.le_refl _) o).cell (p := ⟨q, 0, none⟩) hq1'.out).trans k0
  clear X1
  go_region_law (first | (refine step_append_lies _ rfl _ _ 24 rfl L 62 i0 _ 4 40 Try.underlying24 hJ0.out hJ1.out hJ2.out hJ3.out rfl (by decide) _ _ _ (by rfl) (O2 _).out ⟨w.heap.size + 2, 0, none⟩ 1 1 (Nd.enc ⟨op, a, b, nv⟩) (by rfl) rfl (four_new ⟨op, a, b, nv⟩ Z1) (four_one _) (by omega) (by unfold maxLen; omega) (by omega) (by simp; omega) (w1.heap.size + 1) (by simp) ?_; intro gg cap w2 hown1 hgr1 hat1 _; obtain ⟨j0, j1, j2, j3, j4⟩ := put_facts2 hq1'.out S1.out.2.2 k0 HF1.out hgr1))
  all_goals
    have h1' := Lib.hid hown1
    have J3 := Lib.hid j3
    have J4 := Lib.hid j4
    have HA := Lib.hid hat1
    clear hown1 hgr1 j4 hat1 j3
    go_wp2
    go_ret
    have hgq : gg ≠ q := by
      intro e; subst e
      rcases HA.out with e | e
      · exact S1.out.2.2 e
      · have := hq1'.out; omega
    refine ⟨rfl, .slice (some ⟨gg, 0, none⟩) (xs.length + 1) cap, ⟨?_, ?_, ?_⟩, ((Fr.ofBelow B1.out).trans J4.out (fun j hj => .inl hj)).set 0 _, ?_⟩
    · have h7 := J3.out.trans S1.out.1
      simp [World.setCell, Array.getElem?_modify, h7]
    · have h8 := h1'.out
      rw [nflat_snoc, List.length_append]
      refine ⟨h8.1, ?_⟩
      rcases h8.2 with hn | ⟨g, cp, cur, e, hg, hh, hrest⟩
      · exact .inl hn
      · refine .inr ⟨g, cp, cur, e, hg, ?_, hrest⟩
        have e' := e
        simp only [Value.slice.injEq, Option.some.injEq, Addr.mk.injEq] at e'
        exact (Below.heap_setCell w2 ⟨q, 0, none⟩ _ g (by rw [← e'.1.1]; exact hgq)).trans hh
    · intro e; exact hgq (by simpa [Value.ownBlock] using e)
    · intro j hj
      have hj' : gg = j := by simpa [Value.ownBlock] using hj
      subst hj'
      rcases HA.out with e | e
      · exact .inl e
      · exact .inr (by omega)

end Go.Proofs.Ytieljgfocgdngaa
