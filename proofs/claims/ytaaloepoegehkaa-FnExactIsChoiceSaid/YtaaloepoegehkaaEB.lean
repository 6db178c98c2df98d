import Derived.Test.YtaaloepoegehkaaEA
import Derived.Test.YtaaloepoegehkaaV
import Derived.Test.YtaaloepoegehkaaLI
import Derived.WalkKit
import Derived.WalkSpells
import Derived.WalkLawsBesides
import Derived.Lib.Hide
/- slices.Contains over strings; tiles and forms in memory. -/
namespace Go.Proofs.Ytaaloepoegehkaa
open Go.RowKit
set_option linter.unusedVariables false

def encS (s : ByteArray) : List Value := [.string s]
def SS (w : World) (L B : Nat) (A : Option Addr) (ss : List ByteArray) : Prop := RS encS 1 w L B A ss
theorem SS.at_ {w : World} {L B : Nat} {A : Option Addr} {ss : List ByteArray} (h : SS w L B A ss) {k : Nat} (hk : k < ss.length) : ∃ b o, A = some ⟨b, o, none⟩ ∧ (L ≤ b ∧ b < B) ∧ w.cell? ⟨b, o + k, none⟩ = some (.string ss[k]) := by
  obtain ⟨b, o, e, hb, hc⟩ := h (by omega)
  have := hc k hk 0 (.string ss[k]) rfl
  exact ⟨b, o, e, hb, by simpa using this⟩
theorem hasS_snoc {ss : List ByteArray} {s : ByteArray} {k : Nat} (hlt : k < ss.length) : hasS (ss.take (k+1)) s = (hasS (ss.take k) s || (s.toList == ss[k].toList)) := by
  have e : (ss[k].toList == s.toList) = (s.toList == ss[k].toList) := by rw [Bool.eq_iff_iff, beq_iff_eq, beq_iff_eq]; exact ⟨Eq.symm, Eq.symm⟩
  unfold hasS; rw [List.take_succ_eq_append_getElem hlt, List.any_append, ← e]; simp
theorem hasS_of {ss : List ByteArray} {s : ByteArray} {k : Nat} (h : hasS (ss.take k) s = true) : hasS ss s = true := by
  unfold hasS at h ⊢; rw [List.any_eq_true] at h ⊢; obtain ⟨x, hx, h⟩ := h; exact ⟨x, List.mem_of_mem_take hx, h⟩
def SomeIdxS (ss : List ByteArray) (s : ByteArray) (w : World) (e : Ending) (w' : World) : Prop := ∃ k : Int, e = .returned (.int .i64 k) ∧ decide (0 ≤ k) = hasS ss s ∧ w = w'
theorem IndexS_any (L B : Nat) (A : Option Addr) (c : Nat) (ss : List ByteArray) (s : ByteArray) (w : World) (hl : ss.length ≤ 1000000) (hx : SS w L B A ss) :
    Calls Try.prog 210 #[.slice A ss.length c, .string s] w (SomeIdxS ss s w) := by
  have hX := Lib.hid hx; clear hx
  go_enter Try.func210, Try.ntmps210
  go_wp2
  go_loop [5, 8] (fun _ i => ∃ k : Nat, k ≤ ss.length ∧ i = .int .i64 k ∧ hasS (ss.take k) s = false) (fun _ i => ss.length - (intOf i).toNat)
  case atStart => exact ⟨0, Nat.zero_le _, rfl, rfl⟩
  case round =>
    obtain ⟨k, hk, rfl, hh⟩ := hrel
    have hH := Lib.hid hh; clear hh
    by_cases hlt : k < ss.length
    · obtain ⟨b, o, rfl, _, hcell⟩ := hX.out.at_ hlt
      have hS := Lib.hid (hasS_snoc (s := s) hlt)
      go_wp2
      · go_ret
        refine ⟨k, rfl, ?_, rfl⟩
        have : hasS ss s = true := hasS_of (k := k + 1) (by rw [hS.out, hH.out]; simp [*])
        rw [this]; simp
      · go_round
        case rel => exact ⟨k + 1, by omega, by go_num, by rw [hS.out, hH.out]; simp [*]⟩
        case measure => simp [intOf]; omega
    · obtain rfl : k = ss.length := by omega
      go_wp2
      go_ret
      exact ⟨-1, rfl, by have := hH.out; rw [List.take_length] at this; rw [this]; rfl, rfl⟩
theorem ContainsS_any (L B : Nat) (A : Option Addr) (m c : Nat) (ss : List ByteArray) (s : ByteArray) (w : World) (hm : m = ss.length) (hl : ss.length ≤ 1000000) (hx : SS w L B A ss) :
    Calls Try.prog 180 #[.slice A m c, .string s] w fun e w' => e = .returned (.bool (hasS ss s)) ∧ w = w' := by
  subst hm
  have H := Lib.hid (IndexS_any L B A c ss s w hl hx); clear hx
  go_enter Try.func180, Try.ntmps180
  go_wp2_with (fail)
  refine H.out.mono ?_
  rintro e w' ⟨k, rfl, hk, rfl⟩
  have hK := Lib.hid hk; clear hk
  go_wp2
  go_ret
  exact ⟨ret_bool hK.out, rfl⟩

/-- A tile's cells as they lie. -/
structure Rt where
  num : Int
  p : Value
  q : Value
  c : Int
def Rt.enc (r : Rt) : List Value := [.int .i64 r.num, r.p, r.q, .int .i64 r.c]
theorem rt4 (r : Rt) : r.enc.length = 4 := rfl
/-- What a tile's cells stand for. -/
def RtOk (w : World) (L B : Nat) (r : Rt) (t : Ti) : Prop := r.num = t.num ∧ r.c = t.c ∧ OW w L B r.p t.ps ∧ OW w L B r.q t.ins
theorem RtOk.below {w w' : World} {L B C : Nat} {r : Rt} {t : Ti} (h : RtOk w L B r t) (hb : Below C w w') (hC : B ≤ C) : RtOk w' L B r t := ⟨h.1, h.2.1, h.2.2.1.below hb hC, h.2.2.2.below hb hC⟩
theorem RtOk.kept {w w' : World} {L B : Nat} {r : Rt} {t : Ti} {row : Option Nat} (h : RtOk w L B r t) (hg : w.grownBy w' row) (hne : ∀ k, row = some k → k < L ∨ B ≤ k) : RtOk w' L B r t := ⟨h.1, h.2.1, h.2.2.1.kept hg hne, h.2.2.2.kept hg hne⟩
theorem RtOk.more {w : World} {L B L' B' : Nat} {r : Rt} {t : Ti} (h : RtOk w L B r t) (h1 : L' ≤ L) (h2 : B ≤ B') : RtOk w L' B' r t := ⟨h.1, h.2.1, (h.2.2.1.lower h1).more h2, (h.2.2.2.lower h1).more h2⟩
theorem RtOk.form {w : World} {L B : Nat} {r : Rt} {t : Ti} (h : RtOk w L B r t) : ∃ PA pc QA qc, r = ⟨t.num, .slice PA t.ps.length pc, .slice QA t.ins.length qc, t.c⟩ ∧ OW w L B (.slice PA t.ps.length pc) t.ps ∧ OW w L B (.slice QA t.ins.length qc) t.ins := by
  obtain ⟨n, p, q, c⟩ := r
  obtain ⟨h1, h2, h3, h4⟩ := h
  obtain ⟨PA, pc, rfl, _⟩ := h3.form
  obtain ⟨QA, qc, rfl, _⟩ := h4.form
  obtain rfl : n = t.num := h1
  obtain rfl : c = t.c := h2
  exact ⟨PA, pc, QA, qc, rfl, h3, h4⟩
/-- A list of tiles, all their slices in [L, B). -/
def AllOk (w : World) (L B : Nat) (rs : List Rt) (ts : List Ti) : Prop := rs.length = ts.length ∧ ∀ k (h : k < rs.length) (h' : k < ts.length), RtOk w L B rs[k] ts[k]
theorem AllOk.below {w w' : World} {L B C : Nat} {rs : List Rt} {ts : List Ti} (h : AllOk w L B rs ts) (hb : Below C w w') (hC : B ≤ C) : AllOk w' L B rs ts := ⟨h.1, fun k h1 h2 => (h.2 k h1 h2).below hb hC⟩
theorem AllOk.more {w : World} {L B L' B' : Nat} {rs : List Rt} {ts : List Ti} (h : AllOk w L B rs ts) (h1 : L' ≤ L) (h2 : B ≤ B') : AllOk w L' B' rs ts := ⟨h.1, fun k h3 h4 => (h.2 k h3 h4).more h1 h2⟩
theorem AllOk.snoc {w : World} {L B : Nat} {rs : List Rt} {ts : List Ti} {r : Rt} {t : Ti} (h : AllOk w L B rs ts) (hr : RtOk w L B r t) : AllOk w L B (rs ++ [r]) (ts ++ [t]) := by
  refine ⟨by simp [h.1], fun k h1 h2 => ?_⟩
  by_cases hk : k < rs.length
  · rw [List.getElem_append_left hk, List.getElem_append_left (by have := h.1; omega)]; exact h.2 k hk _
  · have e : k = rs.length := by simp at h1; omega
    have e2 : k = ts.length := by rw [← h.1]; exact e
    rw [List.getElem_append_right (by omega), List.getElem_append_right (by omega)]
    simp [e, h.1]; exact hr
/-- The program's list of tiles, as a call returns it. -/
def TilesAre (w : World) (ts : List Ti) (e : Ending) (w' : World) : Prop :=
  ∃ A c rs, e = .returned (.slice A ts.length c) ∧ RS Rt.enc 4 w' w.heap.size w'.heap.size A rs ∧ AllOk w' w.heap.size w'.heap.size rs ts ∧ Below w.heap.size w w'
end Go.Proofs.Ytaaloepoegehkaa
