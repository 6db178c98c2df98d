/- Texts of this proof, one behind the other: EN, EB, EO, CHI. -/
import Derived.Test.YtmhdijklindipaaEA
import Derived.Test.YtmhdijklindipaaJ
import Derived.Test.YtmhdijklindipaaLI
import Derived.WalkKit
import Derived.WalkSpells
import Derived.WalkLawsBesides
import Derived.Lib.Hide
import Derived.Test.YtmhdijklindipaaV
import Derived.Test.YtmhdijklindipaaB2
import Derived.BigRegion
import Derived.BigQuiet
import Derived.Test.YtmhdijklindipaaCB
import Derived.Test.YtmhdijklindipaaCF
import Derived.Test.YtmhdijklindipaaCG
import Derived.Deep.QuietTactic
import Derived.Deep.RegionLaw
import Derived.Deep.RegionHeld3
/- cvConst, cvWords, cvTree, cvCost of the model. -/
namespace Go.Proofs.Ytmhdijklindipaa
open Go.RowKit
set_option linter.unusedVariables false

def kon (xs : List Int) (n : Nd) : Bool := isConst n.op && hasI xs n.v
def BoolB (w : World) (x : Bool) (e : Ending) (w' : World) : Prop := e = .returned (.bool x) ∧ Below w.heap.size w w'
def wordsTo (k : Nat) : List Int := (List.range k).map fun (i : Nat) => (i : Int)
theorem wordsTo_succ (k : Nat) : wordsTo (k + 1) = wordsTo k ++ [(k : Int)] := by simp [wordsTo, List.range_succ]
theorem wordsTo_len (k : Nat) : (wordsTo k).length = k := by simp [wordsTo]
def OwnRet (w : World) (xs : List Int) (e : Ending) (w' : World) : Prop := ∃ A c, e = .returned (.slice A xs.length c) ∧ OW w' w.heap.size w'.heap.size (.slice A xs.length c) xs ∧ Below w.heap.size w w'
end Go.Proofs.Ytmhdijklindipaa

/- slices.Contains over strings; tiles and forms in memory. -/
namespace Go.Proofs.Ytmhdijklindipaa
open Go.RowKit
set_option linter.unusedVariables false

def encS (s : ByteArray) : List Value := [.string s]
def SS (w : World) (L B : Nat) (A : Option Addr) (ss : List ByteArray) : Prop := RS encS 1 w L B A ss
theorem SS.at_ {w : World} {L B : Nat} {A : Option Addr} {ss : List ByteArray} (h : SS w L B A ss) {k : Nat} (hk : k < ss.length) : ∃ b o, A = some ⟨b, o, none⟩ ∧ (L ≤ b ∧ b < B) ∧ w.cell? ⟨b, o + k, none⟩ = some (.string ss[k]) := by
  obtain ⟨b, o, e, hb, hc⟩ := h (by omega)
  have := hc k hk 0 (.string ss[k]) rfl
  exact ⟨b, o, e, hb, by simpa using this⟩
theorem hasS_snoc {ss : List ByteArray} {s : ByteArray} {k : Nat} (hlt : k < ss.length) : hasS (ss.take (k+1)) s = (hasS (ss.take k) s || (s.toList == ss[k].toList)) := by
  have e : (ss[k].toList == s.toList) = (s.toList == ss[k].toList) := by rw [Bool.eq_iff_iff, beq_iff_eq, beq_iff_eq]; exact ⟨Eq.symm, Eq.symm⟩
  unfold hasS; rw [List.take_succ_eq_append_getElem hlt, List.any_append, ← e]; simp
theorem hasS_of {ss : List ByteArray} {s : ByteArray} {k : Nat} (h : hasS (ss.take k) s = true) : hasS ss s = true := by
  unfold hasS at h ⊢; rw [List.any_eq_true] at h ⊢; obtain ⟨x, hx, h⟩ := h; exact ⟨x, List.mem_of_mem_take hx, h⟩
def SomeIdxS (ss : List ByteArray) (s : ByteArray) (w : World) (e : Ending) (w' : World) : Prop := ∃ k : Int, e = .returned (.int .i64 k) ∧ decide (0 ≤ k) = hasS ss s ∧ w = w'
/-- A tile's cells as they lie. -/
structure Rt where
  num : Int
  p : Value
  q : Value
  c : Int
def Rt.enc (r : Rt) : List Value := [.int .i64 r.num, r.p, r.q, .int .i64 r.c]
theorem rt4 (r : Rt) : r.enc.length = 4 := rfl
/-- What a tile's cells stand for. -/
def RtOk (w : World) (L B : Nat) (r : Rt) (t : Ti) : Prop := r.num = t.num ∧ r.c = t.c ∧ OW w L B r.p t.ps ∧ OW w L B r.q t.ins
theorem RtOk.below {w w' : World} {L B C : Nat} {r : Rt} {t : Ti} (h : RtOk w L B r t) (hb : Below C w w') (hC : B ≤ C) : RtOk w' L B r t := ⟨h.1, h.2.1, h.2.2.1.below hb hC, h.2.2.2.below hb hC⟩
theorem RtOk.kept {w w' : World} {L B : Nat} {r : Rt} {t : Ti} {row : Option Nat} (h : RtOk w L B r t) (hg : w.grownBy w' row) (hne : ∀ k, row = some k → k < L ∨ B ≤ k) : RtOk w' L B r t := ⟨h.1, h.2.1, h.2.2.1.kept hg hne, h.2.2.2.kept hg hne⟩
theorem RtOk.more {w : World} {L B L' B' : Nat} {r : Rt} {t : Ti} (h : RtOk w L B r t) (h1 : L' ≤ L) (h2 : B ≤ B') : RtOk w L' B' r t := ⟨h.1, h.2.1, (h.2.2.1.lower h1).more h2, (h.2.2.2.lower h1).more h2⟩
theorem RtOk.form {w : World} {L B : Nat} {r : Rt} {t : Ti} (h : RtOk w L B r t) : ∃ PA pc QA qc, r = ⟨t.num, .slice PA t.ps.length pc, .slice QA t.ins.length qc, t.c⟩ ∧ OW w L B (.slice PA t.ps.length pc) t.ps ∧ OW w L B (.slice QA t.ins.length qc) t.ins := by
  obtain ⟨n, p, q, c⟩ := r
  obtain ⟨h1, h2, h3, h4⟩ := h
  obtain ⟨PA, pc, rfl, _⟩ := h3.form
  obtain ⟨QA, qc, rfl, _⟩ := h4.form
  obtain rfl : n = t.num := h1
  obtain rfl : c = t.c := h2
  exact ⟨PA, pc, QA, qc, rfl, h3, h4⟩
/-- A list of tiles, all their slices in [L, B). -/
def AllOk (w : World) (L B : Nat) (rs : List Rt) (ts : List Ti) : Prop := rs.length = ts.length ∧ ∀ k (h : k < rs.length) (h' : k < ts.length), RtOk w L B rs[k] ts[k]
theorem AllOk.below {w w' : World} {L B C : Nat} {rs : List Rt} {ts : List Ti} (h : AllOk w L B rs ts) (hb : Below C w w') (hC : B ≤ C) : AllOk w' L B rs ts := ⟨h.1, fun k h1 h2 => (h.2 k h1 h2).below hb hC⟩
theorem AllOk.more {w : World} {L B L' B' : Nat} {rs : List Rt} {ts : List Ti} (h : AllOk w L B rs ts) (h1 : L' ≤ L) (h2 : B ≤ B') : AllOk w L' B' rs ts := ⟨h.1, fun k h3 h4 => (h.2 k h3 h4).more h1 h2⟩
theorem AllOk.snoc {w : World} {L B : Nat} {rs : List Rt} {ts : List Ti} {r : Rt} {t : Ti} (h : AllOk w L B rs ts) (hr : RtOk w L B r t) : AllOk w L B (rs ++ [r]) (ts ++ [t]) := by
  refine ⟨by simp [h.1], fun k h1 h2 => ?_⟩
  by_cases hk : k < rs.length
  · rw [List.getElem_append_left hk, List.getElem_append_left (by have := h.1; omega)]; exact h.2 k hk _
  · have e : k = rs.length := by simp at h1; omega
    have e2 : k = ts.length := by rw [← h.1]; exact e
    rw [List.getElem_append_right (by omega), List.getElem_append_right (by omega)]
    simp [e, h.1]; exact hr
/-- The program's list of tiles, as a call returns it. -/
def TilesAre (w : World) (ts : List Ti) (e : Ending) (w' : World) : Prop :=
  ∃ A c rs, e = .returned (.slice A ts.length c) ∧ RS Rt.enc 4 w' w.heap.size w'.heap.size A rs ∧ AllOk w' w.heap.size w'.heap.size rs ts ∧ Below w.heap.size w w'
end Go.Proofs.Ytmhdijklindipaa

/- What cvTile of the model hands back. -/
namespace Go.Proofs.Ytmhdijklindipaa
open Go.RowKit
set_option linter.unusedVariables false
set_option linter.unusedSimpArgs false

def TileM (w : World) (o : Option Ti) (e : Ending) (w' : World) : Prop :=
  ∃ PA pc QA qc, e = .returned (.tuple #[.slice PA ((o.map Ti.ps).getD []).length pc, .slice QA ((o.map Ti.ins).getD []).length qc, .bool o.isSome]) ∧
    OW w' w.heap.size w'.heap.size (.slice PA ((o.map Ti.ps).getD []).length pc) ((o.map Ti.ps).getD []) ∧ OW w' w.heap.size w'.heap.size (.slice QA ((o.map Ti.ins).getD []).length qc) ((o.map Ti.ins).getD []) ∧ Below w.heap.size w w'
theorem hasS_new (ss : List ByteArray) (hl : ss.length ≤ 1000) (W : World) (g : Nat) (hg : W.heap.size = g) (cs : Array Value) (hcs : cs = (ss.flatMap encS).toArray) (t : TypeId) (n c : Nat) (hn : n = ss.length) (s : ByteArray) :
    Calls Try.prog 232 #[.slice (some ⟨g, 0, none⟩) n c, .string s] (W.alloc (.cells cs t)) fun e w' => e = .returned (.bool (hasS ss s)) ∧ W.alloc (.cells cs t) = w' := by
  subst hg; subst hcs; subst hn
  refine l1HasS_any W.heap.size 0 c ss s _ hl (fun k h => ?_)
  have hk : KB encS t (W.alloc (.cells (ss.flatMap encS).toArray t)) W.heap.size ss := heap_alloc_new W _
  have := hk.cell (k := 1) (fun _ => rfl) k h 0 (.string ss[k]) rfl
  simpa using this
theorem hasS_at (ss : List ByteArray) (hl : ss.length ≤ 1000) (W : World) (g : Nat) (t : TypeId) (h : KB encS t W g ss) (n c : Nat) (hn : n = ss.length) (s : ByteArray) :
    Calls Try.prog 232 #[.slice (some ⟨g, 0, none⟩) n c, .string s] W fun e w' => e = .returned (.bool (hasS ss s)) ∧ W = w' := by
  subst hn
  refine l1HasS_any g 0 c ss s _ hl (fun k hk => ?_)
  have := h.cell (k := 1) (fun _ => rfl) k hk 0 (.string ss[k]) rfl
  simpa using this
theorem kbS {w : World} (o : Obj) (ss : List ByteArray) (cs : Array Value) (hcs : cs = (ss.flatMap encS).toArray) (t : TypeId) : KB encS t ((w.alloc o).alloc (.cells cs t)) (w.heap.size + 1) ss := by
  subst hcs
  have := heap_alloc_new (w.alloc o) (.cells (ss.flatMap encS).toArray t)
  rw [World.size_alloc] at this
  exact this
theorem hasS_mul (s : ByteArray) : hasS [oMul] s = (s.toList == [109,117,108]) := by
  have e : oMul.toList = [109,117,108] := by decide +kernel
  unfold hasS
  simp only [List.any_cons, List.any_nil, Bool.or_false, e]
  rw [Bool.eq_iff_iff, beq_iff_eq, beq_iff_eq]; exact ⟨Eq.symm, Eq.symm⟩
theorem takes_kon {f : Fo} (hf : f.ws ≠ []) (n : Nd) : takes f n = kon f.ws n := by
  unfold takes kon
  cases h : f.ws with
  | nil => exact absurd h hf
  | cons a l => simp
theorem mt_fo (es : List Nd) (n : Nd) (j : Nat) (f : Fo) (hj : fos[j]? = some f) : mt es n (j + 4) = foO es n f := by
  show (fos[j]?).bind (foO es n) = _
  rw [hj]; rfl
theorem belowDrewN {B : Nat} {a w : World} (h : Below B a w) (n : Nat) : Below B a (w.drewN n) := ⟨h.os, h.tape, h.output, h.size, h.block⟩
theorem ownLit {w : World} {g L B : Nat} {cs : Array Value} (xs : List Int) (hc : cs = intCells xs) (hg : w.heap.size = g) (hl : xs.length ≤ 1000) (hL : L ≤ g) (hB : g < B) : OW (w.alloc (.cells cs 3)) L B (.slice (some ⟨g, 0, none⟩) xs.length xs.length) xs := by
  subst hg; subst hc
  exact OW.ofIB (show IB (w.alloc (.cells (intCells xs) 3)) w.heap.size 3 xs from heap_alloc_new w _) (by omega) hL hB
theorem two_lits {W : World} {L : Nat} (x y : Int) (hL : L ≤ W.heap.size) :
    OW ((W.alloc (.cells #[.int .i64 x] 3)).alloc (.cells #[.int .i64 y] 3)) L ((W.alloc (.cells #[.int .i64 x] 3)).alloc (.cells #[.int .i64 y] 3)).heap.size (.slice (some ⟨W.heap.size, 0, none⟩) 1 1) [x] ∧
    OW ((W.alloc (.cells #[.int .i64 x] 3)).alloc (.cells #[.int .i64 y] 3)) L ((W.alloc (.cells #[.int .i64 x] 3)).alloc (.cells #[.int .i64 y] 3)).heap.size (.slice (some ⟨W.heap.size + 1, 0, none⟩) 1 1) [y] ∧
    Below W.heap.size W ((W.alloc (.cells #[.int .i64 x] 3)).alloc (.cells #[.int .i64 y] 3)) := by
  have z1 := World.size_alloc W (.cells #[.int .i64 x] 3)
  have z2 := World.size_alloc (W.alloc (.cells #[.int .i64 x] 3)) (.cells #[.int .i64 y] 3)
  have b2 := (Below.refl _ (W.alloc (.cells #[.int .i64 x] 3))).alloc (Nat.le_refl _) (.cells #[.int .i64 y] 3)
  refine ⟨((ownLit (g := W.heap.size) (L := L) (B := W.heap.size + 1) [x] rfl rfl (by simp) hL (by omega)).below b2 (by omega)).more (by omega), ownLit [y] rfl z1 (by simp) (by omega) (by omega), ?_⟩
  exact ((Below.refl _ W).alloc (Nat.le_refl _) _).alloc (by omega) _
theorem TileM.yes {w w' : World} {o : Option Ti} {ps ins : List Int} {PA QA : Option Addr} {pc qc m n : Nat} (hp : (o.map Ti.ps).getD [] = ps) (hi : (o.map Ti.ins).getD [] = ins) (hs : o.isSome = true) (hm : m = ps.length) (hn : n = ins.length)
    (h1 : OW w' w.heap.size w'.heap.size (.slice PA m pc) ps) (h2 : OW w' w.heap.size w'.heap.size (.slice QA n qc) ins) (hb : Below w.heap.size w w') :
    TileM w o (.returned (.tuple #[.slice PA m pc, .slice QA n qc, .bool true])) w' := by
  subst hm hn
  unfold TileM
  rw [hp, hi, hs]
  exact ⟨_, _, _, _, rfl, h1, h2, hb⟩
theorem TileM.no {w w' : World} {b : Bool} {o : Option Ti} (hp : (o.map Ti.ps).getD [] = []) (hi : (o.map Ti.ins).getD [] = []) (hs : o.isSome = b) (hb : Below w.heap.size w w') :
    TileM w o (.returned (.tuple #[.slice none 0 0, .slice none 0 0, .bool b])) w' := by
  unfold TileM
  rw [hp, hi, hs]
  exact ⟨none, 0, none, 0, rfl, OW.nil _ _ _, OW.nil _ _ _, hb⟩
end Go.Proofs.Ytmhdijklindipaa

/- Choices: Imms of an op, equal entries. -/
namespace Go.Proofs.Ytmhdijklindipaa
open Go.RowKit
set_option linter.unusedVariables false
set_option maxRecDepth 100000

def imm7 : List ByteArray := [⟨#[115,101,116]⟩, ⟨#[97,100,100,105]⟩, ⟨#[97,110,100,105]⟩, ⟨#[120,111,114,105]⟩, ⟨#[115,104,108,105]⟩, ⟨#[115,104,114,105]⟩, ⟨#[108,101,97]⟩]
theorem immS (s : ByteArray) : hasS imm7 s = decide (0 < (fm s).hi) := by
  have e1 : (⟨#[115,101,116]⟩ : ByteArray).toList = [115,101,116] := by decide +kernel
  have e2 : (⟨#[97,100,100,105]⟩ : ByteArray).toList = [97,100,100,105] := by decide +kernel
  have e3 : (⟨#[97,110,100,105]⟩ : ByteArray).toList = [97,110,100,105] := by decide +kernel
  have e4 : (⟨#[120,111,114,105]⟩ : ByteArray).toList = [120,111,114,105] := by decide +kernel
  have e5 : (⟨#[115,104,108,105]⟩ : ByteArray).toList = [115,104,108,105] := by decide +kernel
  have e6 : (⟨#[115,104,114,105]⟩ : ByteArray).toList = [115,104,114,105] := by decide +kernel
  have e7 : (⟨#[108,101,97]⟩ : ByteArray).toList = [108,101,97] := by decide +kernel
  unfold hasS imm7
  simp only [List.any_cons, List.any_nil, Bool.or_false, e1, e2, e3, e4, e5, e6, e7]
  unfold fm
  generalize s.toList = l
  clear e1 e2 e3 e4 e5 e6 e7
  by_cases h0 : l = [115,101,116]
  · subst h0; decide +kernel
  rw [if_neg h0]
  by_cases h1 : l = [109,111,118]
  · subst h1; decide +kernel
  rw [if_neg h1]
  by_cases h2 : l = [110,111,116]
  · subst h2; decide +kernel
  rw [if_neg h2]
  by_cases h3 : l = [110,101,103]
  · subst h3; decide +kernel
  rw [if_neg h3]
  by_cases h4 : l = [97,100,100]
  · subst h4; decide +kernel
  rw [if_neg h4]
  by_cases h5 : l = [115,117,98]
  · subst h5; decide +kernel
  rw [if_neg h5]
  by_cases h6 : l = [97,110,100]
  · subst h6; decide +kernel
  rw [if_neg h6]
  by_cases h7 : l = [111,114]
  · subst h7; decide +kernel
  rw [if_neg h7]
  by_cases h8 : l = [120,111,114]
  · subst h8; decide +kernel
  rw [if_neg h8]
  by_cases h9 : l = [108,101,115,115]
  · subst h9; decide +kernel
  rw [if_neg h9]
  by_cases h10 : l = [101,113]
  · subst h10; decide +kernel
  rw [if_neg h10]
  by_cases h11 : l = [115,104,108]
  · subst h11; decide +kernel
  rw [if_neg h11]
  by_cases h12 : l = [115,104,114]
  · subst h12; decide +kernel
  rw [if_neg h12]
  by_cases h13 : l = [109,117,108]
  · subst h13; decide +kernel
  rw [if_neg h13]
  by_cases h14 : l = [97,100,100,105]
  · subst h14; decide +kernel
  rw [if_neg h14]
  by_cases h15 : l = [97,110,100,105]
  · subst h15; decide +kernel
  rw [if_neg h15]
  by_cases h16 : l = [120,111,114,105]
  · subst h16; decide +kernel
  rw [if_neg h16]
  by_cases h17 : l = [115,104,108,105]
  · subst h17; decide +kernel
  rw [if_neg h17]
  by_cases h18 : l = [115,104,114,105]
  · subst h18; decide +kernel
  rw [if_neg h18]
  by_cases h19 : l = [108,101,97]
  · subst h19; decide +kernel
  rw [if_neg h19]
  have hb : ∀ x : List UInt8, ¬ l = x → (x == l) = false := fun x h => by
    cases hx : (x == l)
    · rfl
    · exact absurd (eq_of_beq hx).symm h
  rw [hb _ h0, hb _ h14, hb _ h15, hb _ h16, hb _ h17, hb _ h18, hb _ h19]
  rfl
set_option maxHeartbeats 2000000 in
theorem cdImm_any (s : ByteArray) (w : World) : Calls Try.prog 259 #[.string s] w fun e w' => e = .returned (.bool (decide (0 < (fm s).hi))) ∧ Below w.heap.size w w' := by
  have hb := Lib.hid ((Below.refl w.heap.size w).alloc (Nat.le_refl _) (.cells #[.string ⟨#[115,101,116]⟩, .string ⟨#[97,100,100,105]⟩, .string ⟨#[97,110,100,105]⟩, .string ⟨#[120,111,114,105]⟩, .string ⟨#[115,104,108,105]⟩, .string ⟨#[115,104,114,105]⟩, .string ⟨#[108,101,97]⟩] 9))
  have H := Lib.hid (hasS_new imm7 (by decide) w w.heap.size rfl #[.string ⟨#[115,101,116]⟩, .string ⟨#[97,100,100,105]⟩, .string ⟨#[97,110,100,105]⟩, .string ⟨#[120,111,114,105]⟩, .string ⟨#[115,104,108,105]⟩, .string ⟨#[115,104,114,105]⟩, .string ⟨#[108,101,97]⟩] rfl 9 7 7 rfl s)
  rw [immS] at H
  generalize decide (0 < (fm s).hi) = r at *
  go_enter Try.func259, Try.ntmps259
  go_wp2_with (fail)
  refine H.out.mono ?_
  rintro e w2 ⟨rfl, rfl⟩
  go_wp2
  go_ret
  exact ⟨rfl, hb.out⟩
end Go.Proofs.Ytmhdijklindipaa
