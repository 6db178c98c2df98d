/- Texts of this proof, one behind the other: CC, KInstr, KMInstr, CD, V3, CG. -/
import Derived.Test.YtgcbfiamhpfkhaaCA
import Derived.Test.YtgcbfiamhpfkhaaZ18
import Derived.WalkKit
import Derived.WalkSpells
import Derived.WalkLawsBesides
import Derived.Lib.Hide
import Derived.Test.YtgcbfiamhpfkhaaRows
import Derived.Test.YtgcbfiamhpfkhaaV2
import Derived.Laws.MakeOwn
import Derived.StillTailTactics
import Derived.Deep.QuietTactic
import Derived.BigQuiet
import Derived.Test.YtgcbfiamhpfkhaaLT
import Derived.Test.YtgcbfiamhpfkhaaLI
import Derived.Deep.RegionHeld3
import Derived.Laws.OwnMore
import Derived.Tactics
namespace Go.Proofs.Ytgcbfiamhpfkhaa
open Go.RowKit
set_option linter.unusedVariables false

theorem cdShape_set (s : ByteArray) (w : World) (h : s.toList = [115,101,116]) :
    Calls Try.prog 171 #[.string s] w fun e w' => e = .returned (.tuple #[.bool true, .bool false, .bool false, .int .i64 0, .int .i64 63]) ∧ w = w' := by
  go_enter Try.func171, Try.ntmps171
  go_wp2
  exact bodyPost_ret (v := .tuple #[.bool true, .bool false, .bool false, .int .i64 0, .int .i64 63]) (by simp [results, Try.results171, go_sem]) rfl ⟨rfl, rfl⟩

theorem cdShape_mov (s : ByteArray) (w : World) (h : s.toList = [109,111,118]) :
    Calls Try.prog 171 #[.string s] w fun e w' => e = .returned (.tuple #[.bool true, .bool true, .bool false, .int .i64 0, .int .i64 0]) ∧ w = w' := by
  go_enter Try.func171, Try.ntmps171
  go_wp2
  exact bodyPost_ret (v := .tuple #[.bool true, .bool true, .bool false, .int .i64 0, .int .i64 0]) (by simp [results, Try.results171, go_sem]) rfl ⟨rfl, rfl⟩

theorem cdShape_not (s : ByteArray) (w : World) (h : s.toList = [110,111,116]) :
    Calls Try.prog 171 #[.string s] w fun e w' => e = .returned (.tuple #[.bool true, .bool true, .bool false, .int .i64 0, .int .i64 0]) ∧ w = w' := by
  go_enter Try.func171, Try.ntmps171
  go_wp2
  exact bodyPost_ret (v := .tuple #[.bool true, .bool true, .bool false, .int .i64 0, .int .i64 0]) (by simp [results, Try.results171, go_sem]) rfl ⟨rfl, rfl⟩

theorem cdShape_neg (s : ByteArray) (w : World) (h : s.toList = [110,101,103]) :
    Calls Try.prog 171 #[.string s] w fun e w' => e = .returned (.tuple #[.bool true, .bool true, .bool false, .int .i64 0, .int .i64 0]) ∧ w = w' := by
  go_enter Try.func171, Try.ntmps171
  go_wp2
  exact bodyPost_ret (v := .tuple #[.bool true, .bool true, .bool false, .int .i64 0, .int .i64 0]) (by simp [results, Try.results171, go_sem]) rfl ⟨rfl, rfl⟩

theorem cdShape_add (s : ByteArray) (w : World) (h : s.toList = [97,100,100]) :
    Calls Try.prog 171 #[.string s] w fun e w' => e = .returned (.tuple #[.bool true, .bool true, .bool true, .int .i64 0, .int .i64 0]) ∧ w = w' := by
  go_enter Try.func171, Try.ntmps171
  go_wp2
  exact bodyPost_ret (v := .tuple #[.bool true, .bool true, .bool true, .int .i64 0, .int .i64 0]) (by simp [results, Try.results171, go_sem]) rfl ⟨rfl, rfl⟩

theorem cdShape_sub (s : ByteArray) (w : World) (h : s.toList = [115,117,98]) :
    Calls Try.prog 171 #[.string s] w fun e w' => e = .returned (.tuple #[.bool true, .bool true, .bool true, .int .i64 0, .int .i64 0]) ∧ w = w' := by
  go_enter Try.func171, Try.ntmps171
  go_wp2
  exact bodyPost_ret (v := .tuple #[.bool true, .bool true, .bool true, .int .i64 0, .int .i64 0]) (by simp [results, Try.results171, go_sem]) rfl ⟨rfl, rfl⟩

theorem cdShape_and (s : ByteArray) (w : World) (h : s.toList = [97,110,100]) :
    Calls Try.prog 171 #[.string s] w fun e w' => e = .returned (.tuple #[.bool true, .bool true, .bool true, .int .i64 0, .int .i64 0]) ∧ w = w' := by
  go_enter Try.func171, Try.ntmps171
  go_wp2
  exact bodyPost_ret (v := .tuple #[.bool true, .bool true, .bool true, .int .i64 0, .int .i64 0]) (by simp [results, Try.results171, go_sem]) rfl ⟨rfl, rfl⟩

theorem cdShape_or (s : ByteArray) (w : World) (h : s.toList = [111,114]) :
    Calls Try.prog 171 #[.string s] w fun e w' => e = .returned (.tuple #[.bool true, .bool true, .bool true, .int .i64 0, .int .i64 0]) ∧ w = w' := by
  go_enter Try.func171, Try.ntmps171
  go_wp2
  exact bodyPost_ret (v := .tuple #[.bool true, .bool true, .bool true, .int .i64 0, .int .i64 0]) (by simp [results, Try.results171, go_sem]) rfl ⟨rfl, rfl⟩

theorem cdShape_xor (s : ByteArray) (w : World) (h : s.toList = [120,111,114]) :
    Calls Try.prog 171 #[.string s] w fun e w' => e = .returned (.tuple #[.bool true, .bool true, .bool true, .int .i64 0, .int .i64 0]) ∧ w = w' := by
  go_enter Try.func171, Try.ntmps171
  go_wp2
  exact bodyPost_ret (v := .tuple #[.bool true, .bool true, .bool true, .int .i64 0, .int .i64 0]) (by simp [results, Try.results171, go_sem]) rfl ⟨rfl, rfl⟩

theorem cdShape_less (s : ByteArray) (w : World) (h : s.toList = [108,101,115,115]) :
    Calls Try.prog 171 #[.string s] w fun e w' => e = .returned (.tuple #[.bool true, .bool true, .bool true, .int .i64 0, .int .i64 0]) ∧ w = w' := by
  go_enter Try.func171, Try.ntmps171
  go_wp2
  exact bodyPost_ret (v := .tuple #[.bool true, .bool true, .bool true, .int .i64 0, .int .i64 0]) (by simp [results, Try.results171, go_sem]) rfl ⟨rfl, rfl⟩

theorem cdShape_eq (s : ByteArray) (w : World) (h : s.toList = [101,113]) :
    Calls Try.prog 171 #[.string s] w fun e w' => e = .returned (.tuple #[.bool true, .bool true, .bool true, .int .i64 0, .int .i64 0]) ∧ w = w' := by
  go_enter Try.func171, Try.ntmps171
  go_wp2
  exact bodyPost_ret (v := .tuple #[.bool true, .bool true, .bool true, .int .i64 0, .int .i64 0]) (by simp [results, Try.results171, go_sem]) rfl ⟨rfl, rfl⟩

theorem cdShape_shl (s : ByteArray) (w : World) (h : s.toList = [115,104,108]) :
    Calls Try.prog 171 #[.string s] w fun e w' => e = .returned (.tuple #[.bool true, .bool true, .bool true, .int .i64 0, .int .i64 0]) ∧ w = w' := by
  go_enter Try.func171, Try.ntmps171
  go_wp2
  exact bodyPost_ret (v := .tuple #[.bool true, .bool true, .bool true, .int .i64 0, .int .i64 0]) (by simp [results, Try.results171, go_sem]) rfl ⟨rfl, rfl⟩

theorem cdShape_shr (s : ByteArray) (w : World) (h : s.toList = [115,104,114]) :
    Calls Try.prog 171 #[.string s] w fun e w' => e = .returned (.tuple #[.bool true, .bool true, .bool true, .int .i64 0, .int .i64 0]) ∧ w = w' := by
  go_enter Try.func171, Try.ntmps171
  go_wp2
  exact bodyPost_ret (v := .tuple #[.bool true, .bool true, .bool true, .int .i64 0, .int .i64 0]) (by simp [results, Try.results171, go_sem]) rfl ⟨rfl, rfl⟩

theorem cdShape_mul (s : ByteArray) (w : World) (h : s.toList = [109,117,108]) :
    Calls Try.prog 171 #[.string s] w fun e w' => e = .returned (.tuple #[.bool true, .bool true, .bool true, .int .i64 0, .int .i64 0]) ∧ w = w' := by
  go_enter Try.func171, Try.ntmps171
  go_wp2
  exact bodyPost_ret (v := .tuple #[.bool true, .bool true, .bool true, .int .i64 0, .int .i64 0]) (by simp [results, Try.results171, go_sem]) rfl ⟨rfl, rfl⟩

theorem cdShape_addi (s : ByteArray) (w : World) (h : s.toList = [97,100,100,105]) :
    Calls Try.prog 171 #[.string s] w fun e w' => e = .returned (.tuple #[.bool true, .bool true, .bool false, .int .i64 0, .int .i64 63]) ∧ w = w' := by
  go_enter Try.func171, Try.ntmps171
  go_wp2
  exact bodyPost_ret (v := .tuple #[.bool true, .bool true, .bool false, .int .i64 0, .int .i64 63]) (by simp [results, Try.results171, go_sem]) rfl ⟨rfl, rfl⟩

theorem cdShape_andi (s : ByteArray) (w : World) (h : s.toList = [97,110,100,105]) :
    Calls Try.prog 171 #[.string s] w fun e w' => e = .returned (.tuple #[.bool true, .bool true, .bool false, .int .i64 0, .int .i64 63]) ∧ w = w' := by
  go_enter Try.func171, Try.ntmps171
  go_wp2
  exact bodyPost_ret (v := .tuple #[.bool true, .bool true, .bool false, .int .i64 0, .int .i64 63]) (by simp [results, Try.results171, go_sem]) rfl ⟨rfl, rfl⟩

theorem cdShape_xori (s : ByteArray) (w : World) (h : s.toList = [120,111,114,105]) :
    Calls Try.prog 171 #[.string s] w fun e w' => e = .returned (.tuple #[.bool true, .bool true, .bool false, .int .i64 0, .int .i64 63]) ∧ w = w' := by
  go_enter Try.func171, Try.ntmps171
  go_wp2
  exact bodyPost_ret (v := .tuple #[.bool true, .bool true, .bool false, .int .i64 0, .int .i64 63]) (by simp [results, Try.results171, go_sem]) rfl ⟨rfl, rfl⟩

theorem cdShape_shli (s : ByteArray) (w : World) (h : s.toList = [115,104,108,105]) :
    Calls Try.prog 171 #[.string s] w fun e w' => e = .returned (.tuple #[.bool true, .bool true, .bool false, .int .i64 1, .int .i64 5]) ∧ w = w' := by
  go_enter Try.func171, Try.ntmps171
  go_wp2
  exact bodyPost_ret (v := .tuple #[.bool true, .bool true, .bool false, .int .i64 1, .int .i64 5]) (by simp [results, Try.results171, go_sem]) rfl ⟨rfl, rfl⟩

theorem cdShape_shri (s : ByteArray) (w : World) (h : s.toList = [115,104,114,105]) :
    Calls Try.prog 171 #[.string s] w fun e w' => e = .returned (.tuple #[.bool true, .bool true, .bool false, .int .i64 1, .int .i64 5]) ∧ w = w' := by
  go_enter Try.func171, Try.ntmps171
  go_wp2
  exact bodyPost_ret (v := .tuple #[.bool true, .bool true, .bool false, .int .i64 1, .int .i64 5]) (by simp [results, Try.results171, go_sem]) rfl ⟨rfl, rfl⟩

theorem cdShape_lea (s : ByteArray) (w : World) (h : s.toList = [108,101,97]) :
    Calls Try.prog 171 #[.string s] w fun e w' => e = .returned (.tuple #[.bool true, .bool true, .bool true, .int .i64 1, .int .i64 3]) ∧ w = w' := by
  go_enter Try.func171, Try.ntmps171
  go_wp2
  exact bodyPost_ret (v := .tuple #[.bool true, .bool true, .bool true, .int .i64 1, .int .i64 3]) (by simp [results, Try.results171, go_sem]) rfl ⟨rfl, rfl⟩

theorem cdShape_no (s : ByteArray) (w : World) (h : (s.toList == [115,101,116]) = false ∧ (s.toList == [109,111,118]) = false ∧ (s.toList == [110,111,116]) = false ∧ (s.toList == [110,101,103]) = false ∧ (s.toList == [97,100,100]) = false ∧ (s.toList == [115,117,98]) = false ∧ (s.toList == [97,110,100]) = false ∧ (s.toList == [111,114]) = false ∧ (s.toList == [120,111,114]) = false ∧ (s.toList == [108,101,115,115]) = false ∧ (s.toList == [101,113]) = false ∧ (s.toList == [115,104,108]) = false ∧ (s.toList == [115,104,114]) = false ∧ (s.toList == [109,117,108]) = false ∧ (s.toList == [97,100,100,105]) = false ∧ (s.toList == [97,110,100,105]) = false ∧ (s.toList == [120,111,114,105]) = false ∧ (s.toList == [115,104,108,105]) = false ∧ (s.toList == [115,104,114,105]) = false ∧ (s.toList == [108,101,97]) = false) :
    Calls Try.prog 171 #[.string s] w fun e w' => e = .returned (.tuple #[.bool false, .bool false, .bool false, .int .i64 0, .int .i64 0]) ∧ w = w' := by
  obtain ⟨h0, h1, h2, h3, h4, h5, h6, h7, h8, h9, h10, h11, h12, h13, h14, h15, h16, h17, h18, h19⟩ := h
  go_enter Try.func171, Try.ntmps171
  go_wp2
  exact bodyPost_ret (v := .tuple #[.bool false, .bool false, .bool false, .int .i64 0, .int .i64 0]) (by simp [results, Try.results171, go_sem]) rfl ⟨rfl, rfl⟩

theorem cdShape_any (s : ByteArray) (w : World) :
    Calls Try.prog 171 #[.string s] w fun e w' => e = .returned (.tuple #[.bool (fm s).ok, .bool (fm s).a, .bool (fm s).b, .int .i64 (fm s).lo, .int .i64 (fm s).hi]) ∧ w = w' := by
  rcases cop_cases s with h|h|h|h|h|h|h|h|h|h|h|h|h|h|h|h|h|h|h|h|h
  · rw [fm_set h]; exact cdShape_set s w h
  · rw [fm_mov h]; exact cdShape_mov s w h
  · rw [fm_not h]; exact cdShape_not s w h
  · rw [fm_neg h]; exact cdShape_neg s w h
  · rw [fm_add h]; exact cdShape_add s w h
  · rw [fm_sub h]; exact cdShape_sub s w h
  · rw [fm_and h]; exact cdShape_and s w h
  · rw [fm_or h]; exact cdShape_or s w h
  · rw [fm_xor h]; exact cdShape_xor s w h
  · rw [fm_less h]; exact cdShape_less s w h
  · rw [fm_eq h]; exact cdShape_eq s w h
  · rw [fm_shl h]; exact cdShape_shl s w h
  · rw [fm_shr h]; exact cdShape_shr s w h
  · rw [fm_mul h]; exact cdShape_mul s w h
  · rw [fm_addi h]; exact cdShape_addi s w h
  · rw [fm_andi h]; exact cdShape_andi s w h
  · rw [fm_xori h]; exact cdShape_xori s w h
  · rw [fm_shli h]; exact cdShape_shli s w h
  · rw [fm_shri h]; exact cdShape_shri s w h
  · rw [fm_lea h]; exact cdShape_lea s w h
  · rw [fm_no h]; exact cdShape_no s w h
end Go.Proofs.Ytgcbfiamhpfkhaa

/- Slices of Instr: what the laws do with them. -/
namespace Go.Proofs.Ytgcbfiamhpfkhaa
open Go.RowKit
set_option linter.unusedVariables false

theorem In.hk : ∀ x : In, (In.enc x).length = 5 := fun _ => rfl
theorem In.cells {w : World} {lo hi : Nat} {A : Option Addr} {es : List In} (h : RS In.enc 5 w lo hi A es) (hn : 0 < es.length) : ∃ b o, A = some ⟨b, o, none⟩ ∧ (lo ≤ b ∧ b < hi) ∧ ∀ i (h : i < es.length),
    w.cell? ⟨b, o + i * 5, none⟩ = some (.string es[i].op) ∧ w.cell? ⟨b, o + i * 5 + 1, none⟩ = some (.int .i64 es[i].d) ∧ w.cell? ⟨b, o + i * 5 + 2, none⟩ = some (.int .i64 es[i].a) ∧ w.cell? ⟨b, o + i * 5 + 3, none⟩ = some (.int .i64 es[i].b) ∧ w.cell? ⟨b, o + i * 5 + 4, none⟩ = some (.int .i64 es[i].m) := by
  obtain ⟨b, o, e, hb, hc⟩ := h hn
  exact ⟨b, o, e, hb, fun i hi => ⟨hc i hi 0 _ rfl, hc i hi 1 _ rfl, hc i hi 2 _ rfl, hc i hi 3 _ rfl, hc i hi 4 _ rfl⟩⟩
theorem In.cellsB {t : TypeId} {w : World} {g : Nat} {es : List In} {rest : List Value} (h : CB t w g (es.flatMap In.enc ++ rest)) (i : Nat) (hi : i < es.length) :
    ∃ z0 z1 z2 z3 z4, w.cell? ⟨g, i * 5, none⟩ = some (.string z0) ∧ w.cell? ⟨g, i * 5 + 1, none⟩ = some (.int .i64 z1) ∧ w.cell? ⟨g, i * 5 + 2, none⟩ = some (.int .i64 z2) ∧ w.cell? ⟨g, i * 5 + 3, none⟩ = some (.int .i64 z3) ∧ w.cell? ⟨g, i * 5 + 4, none⟩ = some (.int .i64 z4) :=
  ⟨_, _, _, _, _, h.at In.hk i hi 0 _ rfl, h.at In.hk i hi 1 _ rfl, h.at In.hk i hi 2 _ rfl, h.at In.hk i hi 3 _ rfl, h.at In.hk i hi 4 _ rfl⟩


def SzInstr (w : World) (left : Int) (n : Nat) (e : Ending) (w' : World) : Prop := ∃ r : Int, e = .returned (.int .i64 r) ∧ r ≤ left ∧ (0 ≤ r → (n : Int) ≤ left) ∧ -1 ≤ r ∧ Below w.heap.size w w'
theorem szInstr_any (op : ByteArray) (d : Int) (a : Int) (b : Int) (m : Int) (left : Int) (w : World) (hs : op.size ≤ 9223372036854775807) (h0 : 0 ≤ left) (h1 : left ≤ 1048576) :
    Calls Try.prog 82 #[.agg #[.string op, .int .i64 d, .int .i64 a, .int .i64 b, .int .i64 m], .int .i64 left] w (SzInstr w left 0) := by
  have hB := (Below.refl w.heap.size w).alloc (Nat.le_refl _)
  by_cases h : (op.size : Int) ≤ left
  · go_enter Try.func82, Try.ntmps82
    go_wp2
    go_ret
    exact ⟨left - op.size, rfl, by omega, fun _ => by omega, by omega, hB _⟩
  · go_enter Try.func82, Try.ntmps82
    go_wp2
    go_ret
    exact ⟨-1, rfl, by omega, fun _ => by omega, by omega, hB _⟩


theorem szInstrS_any (L B : Nat) (A : Option Addr) (c : Nat) (es : List In) (left0 : Int) (w : World) (hl : es.length ≤ 9223372036854775807) (hes : RS In.enc 5 w L B A es) (hB : B ≤ w.heap.size) (hs : ∀ n ∈ es, n.op.size ≤ 9223372036854775807) (h0 : 0 ≤ left0) (h1 : left0 ≤ 1048576) :
    Calls Try.prog 36 #[.slice A es.length c, .int .i64 left0] w (SzInstr w left0 es.length) := by
  have hE := Lib.hid hes
  have hS := Lib.hid hs
  have hBB := Lib.hid hB
  have hBel0 := Lib.hid (Below.refl w.heap.size w)
  clear hes hs hB
  by_cases h : (es.length : Int) ≤ left0
  · go_enter Try.func36, Try.ntmps36
    go_wp2
    go_loopw [1, 5] (fun l i wr => ∃ (k : Nat) (left : Int), k ≤ es.length ∧ i = .int .i64 k ∧ l = .int .i64 left ∧ 0 ≤ left ∧ left ≤ left0 ∧ Below w.heap.size w wr) (fun _ i _ => es.length - (intOf i).toNat)
    case atStart => exact ⟨0, left0 - es.length, Nat.zero_le _, rfl, rfl, by omega, by omega, hBel0.out⟩
    case round =>
      obtain ⟨k, left, hk, rfl, rfl, hl0, hl1, hbel⟩ := hrel
      by_cases hlt : k < es.length
      · obtain ⟨b, o, rfl, ⟨_, hbB⟩, hc⟩ := In.cells (hE.out.below hbel hBB.out) (by omega)
        obtain ⟨c1, c2, c3, c4, c5⟩ := hc k hlt
        clear hc
        have hsz := hS.out _ (List.getElem_mem hlt)
        generalize es[k] = nd at *
        obtain ⟨op, d, a, bb, m⟩ := nd
        have hBelB := Lib.hid hbel
        go_wp2_with (fail)
        refine (szInstr_any _ _ _ _ _ _ _ hsz hl0 (by omega)).mono ?_
        rintro e w2 ⟨r, rfl, hr1, _, hr3, hb2⟩
        have hbel2 : Below w.heap.size w w2 := hBelB.out.trans (hb2.mono hBelB.out.size)
        clear hb2 hbel c1 c2 c3 c4 c5
        by_cases hr : 0 ≤ r
        · go_wp2
          go_roundw
          case rel => exact ⟨k + 1, r, by omega, by go_num, rfl, hr, by omega, hbel2⟩
          case measure => simp [intOf]; omega
        · go_wp2
          go_ret
          exact ⟨-1, rfl, by omega, fun _ => by omega, by omega, hbel2⟩
      · obtain rfl : k = es.length := by omega
        go_wp2
        go_ret
        exact ⟨left, rfl, by omega, fun _ => h, by omega, hbel⟩
  · go_enter Try.func36, Try.ntmps36
    go_wp2
    go_ret
    exact ⟨-1, rfl, by omega, fun _ => by omega, by omega, hBel0.out⟩


theorem toInstr_any (op : ByteArray) (d : Int) (a : Int) (b : Int) (m : Int) (w : World) :
    Calls Try.prog 88 #[.agg #[.string op, .int .i64 d, .int .i64 a, .int .i64 b, .int .i64 m]] w fun e w' => e = .returned (.agg #[.string op, .int .i64 d, .int .i64 a, .int .i64 b, .int .i64 m]) ∧ Below w.heap.size w w' := by
  have hB1 := fun o => (Below.refl w.heap.size w).alloc (Nat.le_refl _) o
  have hB2 := fun o o' => (hB1 o).alloc (by simp) o'
  have hB3 := fun o o' o'' => (hB2 o o').alloc (by simp; omega) o''
  go_enter Try.func88, Try.ntmps88
  go_wp2
  simp [bodyPost, results, Try.results88, go_sem]
  exact hB3 _ _ _


theorem eqInstr_any (op : ByteArray) (d : Int) (a : Int) (b : Int) (m : Int) (op' : ByteArray) (d' : Int) (a' : Int) (b' : Int) (m' : Int) (w : World) :
    Calls Try.prog 95 #[.agg #[.string op, .int .i64 d, .int .i64 a, .int .i64 b, .int .i64 m], .agg #[.string op', .int .i64 d', .int .i64 a', .int .i64 b', .int .i64 m']] w fun e w' =>
      e = .returned (.bool (op.toList == op'.toList && d == d' && a == a' && b == b' && m == m')) ∧ Below w.heap.size w w' := by
  have hB1 := fun o => (Below.refl w.heap.size w).alloc (Nat.le_refl _) o
  have hB2 := fun o o' => (hB1 o).alloc (by simp) o'
  go_enter Try.func95, Try.ntmps95
  go_wp2
  all_goals go_ret
  all_goals exact ⟨ret_bool (by simp_all), hB2 _ _⟩

def zeroIn : In := ⟨ByteArray.empty, 0, 0, 0, 0⟩
theorem Try.infoInstr : (Try.prog.info? 103).map (fun i => (i.zero, i.size, i.bytes)) = some (some (.agg #[.string ByteArray.empty, .int .i64 0, .int .i64 0, .int .i64 0, .int .i64 0]), 5, 48) := by kernel_rfl
theorem run_make_Instr (n : Nat) (hn : n ≤ 1048576) (W : World) : (Instr.makeSlice 46 (.int .i64 (n : Int)) (.int .i64 (n : Int))).run Try.prog W = .ok (.slice (some ⟨W.heap.size, 0, none⟩) n n) (W.alloc (.cells ((List.replicate n zeroIn).flatMap In.enc).toArray 103)) := by
  obtain ⟨i0, hi, hz0, hz1, hz2⟩ := info_parts Try.infoInstr
  have h := run_make (P := Try.prog) W 46 103 i0 _ Try.underlying46 hi hz0 .i64 .i64 n n (by omega) (by omega) (by rw [hz2]; omega) (by omega)
  rw [h]
  simp only [Int.toNat_natCast, hz1]
  refine congrArg (fun c => Result.ok (Value.slice (some ⟨W.heap.size, 0, none⟩) n n) (W.alloc (.cells c 103))) ?_
  apply Array.ext'
  exact made_flat In.hk zeroIn n

/-- A new slice that reads as es. -/
def FreshInstr (w : World) (es : List In) (e : Ending) (w' : World) : Prop :=
  ∃ A c, e = .returned (.slice A es.length c) ∧ OK In.enc 5 103 w' w.heap.size w'.heap.size (.slice A es.length c) es ∧ Below w.heap.size w w'
theorem cb_nil {t : TypeId} {w : World} {g : Nat} {xs : List In} (h : CB t w g (xs.flatMap In.enc ++ [])) : KB In.enc t w g xs := by
  unfold CB at h; unfold KB; rw [List.append_nil] at h; exact h
theorem toInstrS_any (L B : Nat) (A : Option Addr) (c : Nat) (es : List In) (w : World) (hl : es.length ≤ 1048576) (hes : RS In.enc 5 w L B A es) (hB : B ≤ w.heap.size) :
    Calls Try.prog 38 #[.slice A es.length c] w (FreshInstr w es) := by
  have hmk := run_make_Instr es.length hl
  have hU0 : Hid (CB 103 (w.alloc (.cells ((List.replicate es.length zeroIn).flatMap In.enc).toArray 103)) w.heap.size ((over es (List.replicate es.length zeroIn) 0).flatMap In.enc ++ [])) := by
    rw [over_zero, List.append_nil]; exact heap_alloc_new w _
  have hBel0 := (Below.refl w.heap.size w).alloc (Nat.le_refl _) (.cells ((List.replicate es.length zeroIn).flatMap In.enc).toArray 103)
  have hE := Lib.hid hes
  clear hes
  go_enter Try.func38, Try.ntmps38
  go_wp2
  go_loopw [4] (fun i wr => ∃ k : Nat, k ≤ es.length ∧ i = .int .i64 k ∧ CB 103 wr w.heap.size ((over es (List.replicate es.length zeroIn) k).flatMap In.enc ++ []) ∧ Below w.heap.size w wr) (fun i _ => es.length - (intOf i).toNat)
  case atStart => exact ⟨0, Nat.zero_le _, rfl, hU0.out, hBel0⟩
  case round =>
    obtain ⟨k, hk, rfl, hib, hbel⟩ := hrel
    have hIB := Lib.hid hib
    have hglt := hib.lt
    clear hib hmk hBel0 hU0
    by_cases hlt : k < es.length
    · obtain ⟨b, o, rfl, ⟨_, hbB⟩, hc⟩ := In.cells (hE.out.below hbel hB) (by omega)
      obtain ⟨c1, c2, c3, c4, c5⟩ := hc k hlt
      clear hc
      have hBelB := Lib.hid hbel
      have hov : Hid ((over es (List.replicate es.length zeroIn) k).set k es[k] = over es (List.replicate es.length zeroIn) (k + 1)) := over_succ hlt (by simp)
      have hol : Hid ((over es (List.replicate es.length zeroIn) k).length = es.length) := by rw [Hid, over_len (by omega) (by simp)]; simp
      generalize hnd : es[k] = nd at *
      obtain ⟨op, d, a, bb, m⟩ := nd
      have hND := Lib.hid hnd
      clear hnd hbel
      go_wp2_with (fail)
      refine (toInstr_any _ _ _ _ _ _).mono ?_
      rintro e w2 ⟨rfl, hb2⟩
      have hIB2 : Hid (CB 103 w2 w.heap.size ((over es (List.replicate es.length zeroIn) k).flatMap In.enc ++ [])) := hIB.out.below hb2 hglt
      have hbel2 : Hid (Below w.heap.size w w2) := hBelB.out.trans (hb2.mono hBelB.out.size)
      clear c1 c2 c3 c4 c5 hb2
      obtain ⟨z0, z1, z2, z3, z4, d1, d2, d3, d4, d5⟩ := In.cellsB hIB2.out k (by rw [hol.out]; exact hlt)
      have f1 := hIB2.out.frozen (k * 5)
      have f2 := hIB2.out.frozen (k * 5 + 1)
      have f3 := hIB2.out.frozen (k * 5 + 2)
      have f4 := hIB2.out.frozen (k * 5 + 3)
      have f5 := hIB2.out.frozen (k * 5 + 4)
      have hst : Hid (CB 103 (setCells w2 w.heap.size (k * 5) (In.enc ⟨op, d, a, bb, m⟩)) w.heap.size ((over es (List.replicate es.length zeroIn) (k + 1)).flatMap In.enc ++ [])) := by
        have h1 := hIB2.out.store In.hk k (by rw [hol.out]; exact hlt) ⟨op, d, a, bb, m⟩
        rw [hov.out] at h1; exact h1
      have hbs := Lib.hid (below_setCells (In.enc ⟨op, d, a, bb, m⟩) w.heap.size (k * 5) hbel2.out (Nat.le_refl _))
      go_wp2
      go_roundw
      case rel => exact ⟨k + 1, by omega, by go_num, hst.out, hbs.out⟩
      case measure => simp [intOf]; omega
    · obtain rfl : k = es.length := by omega
      go_wp2
      go_ret
      refine ⟨_, _, rfl, ?_, hbel⟩
      have h1 := hIB.out
      rw [over_all (by simp)] at h1
      exact (cb_nil h1).toOK In.hk (by unfold maxLen; omega) (Nat.le_refl _) hglt

set_option maxRecDepth 100000 in
set_option maxHeartbeats 1000000 in
theorem eqInstrS_any (L B L' B' : Nat) (A A' : Option Addr) (m m' c c' : Nat) (es es' : List In) (w : World) (hm : m = es.length) (hm' : m' = es'.length) (hl : es.length ≤ 1048576) (hes : RS In.enc 5 w L B A es) (hes' : RS In.enc 5 w L' B' A' es') (hB : B ≤ w.heap.size) (hB' : B' ≤ w.heap.size) (heq : es = es') :
    Calls Try.prog 40 #[.slice A m c, .slice A' m' c'] w fun e w' => e = .returned (.bool true) ∧ Below w.heap.size w w' := by
  subst heq
  subst hm
  obtain rfl := hm'
  have hE := Lib.hid hes
  have hE' := Lib.hid hes'
  have hBB := Lib.hid hB
  have hBB' := Lib.hid hB'
  have hBel0 := Below.refl w.heap.size w
  clear hes hes' hB hB'
  go_enter Try.func40, Try.ntmps40
  go_wp2
  go_loopw [5] (fun i wr => ∃ k : Nat, k ≤ es.length ∧ i = .int .i64 k ∧ Below w.heap.size w wr) (fun i _ => es.length - (intOf i).toNat)
  case atStart => exact ⟨0, Nat.zero_le _, rfl, hBel0⟩
  case round =>
    obtain ⟨k, hk, rfl, hbel⟩ := hrel
    by_cases hlt : k < es.length
    · obtain ⟨b, o, rfl, ⟨_, hbB⟩, hc⟩ := In.cells (hE.out.below hbel hBB.out) (by omega)
      obtain ⟨b', o', rfl, ⟨_, hbB'⟩, hc'⟩ := In.cells (hE'.out.below hbel hBB'.out) (by omega)
      obtain ⟨c1, c2, c3, c4, c5⟩ := hc k hlt
      obtain ⟨d1, d2, d3, d4, d5⟩ := hc' k hlt
      clear hc hc'
      have hBelB := Lib.hid hbel
      generalize es[k] = nd at *
      obtain ⟨op, d, a, bb, m⟩ := nd
      have i1 : (k : Int) < (es.length : Int) := by omega
      have i0 : (0 : Int) ≤ (k : Int) := by omega
      go_wp2_with (fail)
      go_still_tail 8, (by kernel_rfl)
      change wpList _ _ _ _ _ wr.drew
      have hbd := Lib.hid (hBelB.out.drew)
      generalize wr.drew = wd at *
      clear c1 c2 c3 c4 c5 d1 d2 d3 d4 d5 hbel
      go_wp2_with (fail)
      refine (eqInstr_any _ _ _ _ _ _ _ _ _ _ _).mono ?_
      rintro e w2 ⟨rfl, hb2⟩
      have hbel2 := Lib.hid (hbd.out.trans (hb2.mono hbd.out.size))
      have e1 : (op.toList == op.toList && d == d && a == a && bb == bb && m == m) = true := by simp
      clear hb2
      rw [e1]
      go_wp2
      go_roundw
      case rel => exact ⟨k + 1, by omega, by go_num, hbel2.out⟩
      case measure => simp [intOf]; omega
    · obtain rfl : k = es.length := by omega
      go_wp2
      go_ret
      exact ⟨rfl, hbel⟩

end Go.Proofs.Ytgcbfiamhpfkhaa

/- Slices of Instr: marks. -/
namespace Go.Proofs.Ytgcbfiamhpfkhaa
open Go.RowKit
set_option linter.unusedVariables false

theorem In.rs {t : TypeId} {w : World} {lo hi n c : Nat} {A : Option Addr} {xs : List In} (h : OK In.enc 5 t w lo hi (.slice A n c) xs) : RS In.enc 5 w lo hi A xs := by
  obtain ⟨A', c', e, his⟩ := h.form In.hk
  injection e with a _ _; subst a; exact his
theorem In.boxed {t : TypeId} {w : World} (x : In) : RS In.enc 5 (w.alloc (.cells #[.string x.op, .int .i64 x.d, .int .i64 x.a, .int .i64 x.b, .int .i64 x.m] t)) w.heap.size (w.heap.size + 1) (some ⟨w.heap.size, 0, none⟩) [x] :=
  KB.toRS In.hk (t := t) (by unfold KB; rw [heap_alloc_new]; rfl)
theorem In.box {w : World} {lo hi g : Nat} {x : In} (h : RS In.enc 5 w lo hi (some ⟨g, 0, none⟩) [x]) : w.cell? ⟨g, 0, none⟩ = some (.string x.op) ∧ w.cell? ⟨g, 1, none⟩ = some (.int .i64 x.d) ∧ w.cell? ⟨g, 2, none⟩ = some (.int .i64 x.a) ∧ w.cell? ⟨g, 3, none⟩ = some (.int .i64 x.b) ∧ w.cell? ⟨g, 4, none⟩ = some (.int .i64 x.m) := by
  obtain ⟨b, o, e, _, hc⟩ := h (by simp)
  injection e with e; injection e with e1 e2 _; subst e1; subst e2
  have := fun j v hv => hc 0 (by simp) j v hv
  simp only [Nat.zero_mul, Nat.zero_add, List.getElem_cons_zero] at this
  exact ⟨this 0 _ rfl, this 1 _ rfl, this 2 _ rfl, this 3 _ rfl, this 4 _ rfl⟩
def markIn (k0 : Int) (i : Nat) : In := ⟨mtx (k0 + 5 * (i : Int)), k0 + 5 * (i : Int) + 1, k0 + 5 * (i : Int) + 1 + 1, k0 + 5 * (i : Int) + 1 + 1 + 1, k0 + 5 * (i : Int) + 1 + 1 + 1 + 1⟩
def marksIn (k0 : Int) (n : Nat) : List In := (List.range n).map (markIn k0)
theorem marksIn_len (k0 : Int) (n : Nat) : (marksIn k0 n).length = n := by simp [marksIn]
def MarkedInstr (w : World) (lo hi : Nat) (sl : Value) (n : Nat) (k0 : Int) (e : Ending) (w' : World) : Prop :=
  e = .returned (.int .i64 (k0 + 5 * n)) ∧ OK In.enc 5 103 w' lo hi sl (marksIn k0 n) ∧ Chg lo hi w w'
set_option maxRecDepth 100000 in
set_option maxHeartbeats 2000000 in
theorem markInstrS_any (lo hi : Nat) (A : Option Addr) (c : Nat) (es : List In) (k0 : Int) (w : World) (hl : es.length ≤ 1048576) (hk0 : 0 ≤ k0) (hk1 : k0 ≤ 100000000) (hx : OK In.enc 5 103 w lo hi (.slice A es.length c) es) :
    Calls Try.prog 41 #[.slice A es.length c, .int .i64 k0] w (MarkedInstr w lo hi (.slice A es.length c) es.length k0) := by
  have hml := Lib.hid (marksIn_len k0 es.length)
  have hX0 : Hid (OK In.enc 5 103 w lo hi (.slice A es.length c) (over (marksIn k0 es.length) es 0)) := by rw [over_zero]; exact hx
  have hG0 := Lib.hid (Chg.refl lo hi w)
  clear hx
  go_enter Try.func41, Try.ntmps41
  go_wp2
  go_loopw [1, 5] (fun q i wr => ∃ k : Nat, k ≤ es.length ∧ i = .int .i64 k ∧ q = .int .i64 (k0 + 5 * k) ∧ OK In.enc 5 103 wr lo hi (.slice A es.length c) (over (marksIn k0 es.length) es k) ∧ Chg lo hi w wr) (fun _ i _ => es.length - (intOf i).toNat)
  case atStart => exact ⟨0, Nat.zero_le _, rfl, by simp, hX0.out, hG0.out⟩
  case round =>
    obtain ⟨k, hk, rfl, rfl, how, hgr⟩ := hrel
    have hOW := Lib.hid how
    have hGR := Lib.hid hgr
    clear how hgr
    have hol : Hid ((over (marksIn k0 es.length) es k).length = es.length) := over_len (by rw [hml.out]; exact hk) hml.out
    by_cases hlt : k < es.length
    · have hov : Hid ((over (marksIn k0 es.length) es k).set k (markIn k0 k) = over (marksIn k0 es.length) es (k + 1)) := by
        have := over_succ (ys := marksIn k0 es.length) (xs := es) (i := k) (by rw [hml.out]; exact hlt) hml.out
        rw [Hid, ← this]; simp [marksIn]
      obtain ⟨g, cap, hv, hg1, hg2, hcap, hcm, rest, hCB, hCL⟩ : ∃ g cap, Value.slice A es.length c = .slice (some ⟨g, 0, none⟩) es.length cap ∧ lo ≤ g ∧ g < hi ∧ es.length ≤ cap ∧ cap ≤ maxLen ∧ ∃ rest, CB 103 wr g ((over (marksIn k0 es.length) es k).flatMap In.enc ++ rest) ∧ ((over (marksIn k0 es.length) es k).flatMap In.enc ++ rest).length = cap * 5 := by
        have h1 := hOW.out.open
        rw [hol.out] at h1
        rcases h1 with ⟨_, h0⟩ | h
        · omega
        · exact h
      obtain ⟨rfl, rfl⟩ : A = some ⟨g, 0, none⟩ ∧ c = cap := by injection hv with a _ b; exact ⟨a, b⟩
      have hC := Lib.hid hCB
      have hL := Lib.hid hCL
      have hM := Lib.hid hcm
      clear hv hCB hCL hcm
      go_wp2_with (fail)
      refine (markText_any _ _ (by omega) (by omega)).mono ?_
      rintro e w2 ⟨rfl, hb2⟩
      have hC2 : Hid (CB 103 w2 g ((over (marksIn k0 es.length) es k).flatMap In.enc ++ rest)) := hC.out.below hb2 hC.out.lt
      have hGR2 : Hid (Chg lo hi w w2) := hGR.out.trans (Chg.ofBelow hb2)
      clear hb2 hC
      obtain ⟨z0, z1, z2, z3, z4, d1, d2, d3, d4, d5⟩ := In.cellsB hC2.out k (by rw [hol.out]; exact hlt)
      have f1 := hC2.out.frozen (k * 5)
      have f2 := hC2.out.frozen (k * 5 + 1)
      have f3 := hC2.out.frozen (k * 5 + 2)
      have f4 := hC2.out.frozen (k * 5 + 3)
      have f5 := hC2.out.frozen (k * 5 + 4)
      have hst : Hid (CB 103 (setCells w2 g (k * 5) (In.enc (markIn k0 k))) g ((over (marksIn k0 es.length) es (k + 1)).flatMap In.enc ++ rest)) := by
        have h1 := hC2.out.store In.hk k (by rw [hol.out]; exact hlt) (markIn k0 k)
        rw [hov.out] at h1; exact h1
      have hgs := Lib.hid (chg_setCells (In.enc (markIn k0 k)) g (k * 5) hGR2.out ⟨hg1, hg2⟩)
      have hfin : Hid (OK In.enc 5 103 (setCells w2 g (k * 5) (In.enc (markIn k0 k))) lo hi (.slice (some ⟨g, 0, none⟩) es.length c) (over (marksIn k0 es.length) es (k + 1))) := by
        have hl2 : (over (marksIn k0 es.length) es (k + 1)).length = es.length := over_len (by rw [hml.out]; omega) hml.out
        have h1 := OK.close In.hk (cap := c) hst.out hg1 hg2 (by rw [hl2]; exact hcap) hM.out (by
          have := hL.out
          rw [List.length_append, kflat_len In.hk, hol.out] at this
          rw [List.length_append, kflat_len In.hk, hl2]; exact this)
        rw [hl2] at h1; exact h1
      clear hst hC2 hGR2
      go_wp2
      go_roundw
      case rel => exact ⟨k + 1, by omega, by go_num, by go_num, hfin.out, hgs.out⟩
      case measure => simp [intOf]; omega
    · obtain rfl : k = es.length := by omega
      have hN : Hid (OK In.enc 5 103 wr lo hi (.slice A es.length c) (marksIn k0 es.length)) := by
        have h1 := hOW.out
        have h2 : over (marksIn k0 es.length) es es.length = marksIn k0 es.length := by
          have := over_all (ys := marksIn k0 es.length) (xs := es) hml.out; rwa [hml.out] at this
        rwa [h2] at h1
      go_wp2
      go_ret
      exact ⟨rfl, hN.out, hGR.out⟩

set_option maxRecDepth 100000 in
set_option maxHeartbeats 2000000 in
theorem heldInstrS_any (L B : Nat) (A : Option Addr) (n c : Nat) (k0 : Int) (w : World) (hl : n ≤ 1048576) (hk0 : 0 ≤ k0) (hk1 : k0 ≤ 100000000) (hx : RS In.enc 5 w L B A (marksIn k0 n)) (hB : B ≤ w.heap.size) :
    Calls Try.prog 42 #[.slice A n c, .int .i64 k0] w fun e w' => e = .returned (.int .i64 (k0 + 5 * n)) ∧ Below w.heap.size w w' := by
  have hE := Lib.hid hx
  have hBB := Lib.hid hB
  have hBel0 := Below.refl w.heap.size w
  have hml := Lib.hid (marksIn_len k0 n)
  clear hx hB
  go_enter Try.func42, Try.ntmps42
  go_wp2
  go_loopw [1, 5] (fun q i wr => ∃ k : Nat, k ≤ n ∧ i = .int .i64 k ∧ q = .int .i64 (k0 + 5 * k) ∧ Below w.heap.size w wr) (fun _ i _ => n - (intOf i).toNat)
  case atStart => exact ⟨0, Nat.zero_le _, rfl, by simp, hBel0⟩
  case round =>
    obtain ⟨k, hk, rfl, rfl, hbel⟩ := hrel
    by_cases hlt : k < n
    · obtain ⟨b, o, rfl, ⟨_, hbB⟩, hc⟩ := In.cells (hE.out.below hbel hBB.out) (by rw [hml.out]; omega)
      obtain ⟨c1, c2, c3, c4, c5⟩ := hc k (by rw [hml.out]; exact hlt)
      have hmk : (marksIn k0 n)[k]'(by rw [hml.out]; exact hlt) = markIn k0 k := by simp [marksIn]
      rw [hmk] at c1 c2 c3 c4 c5
      simp only [markIn] at c1 c2 c3 c4 c5
      clear hc hmk
      have hbb : b < wr.heap.size := by have := hbel.size; have := hBB.out; omega
      have hBelB := Lib.hid hbel
      have i1 : (k : Int) < (n : Int) := by omega
      have i0 : (0 : Int) ≤ (k : Int) := by omega
      have e1 : ((k0 + 5 * (k : Int) + 1) != (k0 + 5 * (k : Int) + 1)) = false := by simp
      have e2 : ((k0 + 5 * (k : Int) + 1 + 1) != (k0 + 5 * (k : Int) + 1 + 1)) = false := by simp
      have e3 : ((k0 + 5 * (k : Int) + 1 + 1 + 1) != (k0 + 5 * (k : Int) + 1 + 1 + 1)) = false := by simp
      have e4 : ((k0 + 5 * (k : Int) + 1 + 1 + 1 + 1) != (k0 + 5 * (k : Int) + 1 + 1 + 1 + 1)) = false := by simp
      go_wp2_with (fail)
      go_region_held3 (fun w' => w'.cell? ⟨b, o + k * 5, none⟩ = some (.string (mtx (k0 + 5 * k))))
        (first | go_keep | exact (hb2.cell (by simp; omega)).trans (by assumption) | exact (hb2.cell (by simp; omega)).trans c1)
        ((first | (go_at_call 69; refine (markText_any _ _ (by omega) (by omega)).mono ?_; rintro e w2 ⟨rfl, hb2⟩)))
      have c2' : w2.cell? ⟨b, o + k * 5 + 1, none⟩ = _ := (hb2.cell hbb).trans c2
      have c3' : w2.cell? ⟨b, o + k * 5 + 2, none⟩ = _ := (hb2.cell hbb).trans c3
      have c4' : w2.cell? ⟨b, o + k * 5 + 3, none⟩ = _ := (hb2.cell hbb).trans c4
      have c5' : w2.cell? ⟨b, o + k * 5 + 4, none⟩ = _ := (hb2.cell hbb).trans c5
      have hbel2 := Lib.hid (hBelB.out.drew.trans (hb2.mono hBelB.out.size))
      clear c1 c2 c3 c4 c5 hb2 hbel
      go_wp2
      go_roundw
      case rel => exact ⟨k + 1, by omega, by go_num, by go_num, hbel2.out⟩
      case measure => simp [intOf]; omega
    · obtain rfl : k = n := by omega
      go_wp2
      go_ret
      exact ⟨rfl, hbel⟩
end Go.Proofs.Ytgcbfiamhpfkhaa

namespace Go.Proofs.Ytgcbfiamhpfkhaa
open Go.RowKit
set_option linter.unusedVariables false

set_option maxHeartbeats 4000000 in
theorem cdGood_any (op : ByteArray) (d a b m : Int) (w : World) :
    Calls Try.prog 140 #[.agg #[.string op, .int .i64 d, .int .i64 a, .int .i64 b, .int .i64 m]] w fun e w' => e = .returned (.bool (goodIn ⟨op, d, a, b, m⟩)) ∧ Below w.heap.size w w' := by
  have hB1 := fun o => (Below.refl w.heap.size w).alloc (Nat.le_refl _) o
  have hr : Hid (∀ ok fa fb lo hi c, fm op = ⟨ok, fa, fb, lo, hi, c⟩ → goodIn ⟨op, d, a, b, m⟩ = (ok && reg d && opnd a fa && opnd b fb && inR m lo hi)) := by
    intro ok fa fb lo hi c h; simp only [goodIn, h]
  have ho : Hid (∀ r u, opnd r u = (r == 0 || (u && reg r))) := fun _ _ => rfl
  have hz := Lib.hid (show reg 0 = true by decide)
  go_enter Try.func140, Try.ntmps140
  go_wp2_with (fail)
  refine (cdShape_any _ _).mono ?_
  rintro e w' ⟨rfl, rfl⟩
  have hr2 := hr.out
  clear hr
  generalize hf : fm op = f at hr2 ⊢
  obtain ⟨ok, fa, fb, lo, hi, c⟩ := f
  have hr3 := Lib.hid (hr2 ok fa fb lo hi c rfl)
  clear hr2 hf
  cases ok
  · go_wp2_with (first | (go_at_call 172; refine (cdReg_any _ _).mono ?_; rintro e w' ⟨rfl, rfl⟩) | (go_at_call 153; refine (l1In_r _ _ _ _).mono ?_; rintro e w' ⟨rfl, rfl⟩))
    all_goals go_ret
    all_goals exact ⟨ret_bool (by rw [hr3.out]; rfl), hB1 _⟩
  · cases fa
    all_goals cases fb
    all_goals
      go_wp2_with (first | (go_at_call 172; refine (cdReg_any _ _).mono ?_; rintro e w' ⟨rfl, rfl⟩) | (go_at_call 153; refine (l1In_r _ _ _ _).mono ?_; rintro e w' ⟨rfl, rfl⟩))
      all_goals go_ret
      all_goals exact ⟨ret_bool (by rw [hr3.out, ho.out, ho.out]; have := hz.out; simp_all <;> (intros; subst_vars; simp_all)), hB1 _⟩

theorem In.old {w w2 : World} {t : TypeId} {x : In} {g : Nat} (hg : w.heap.size = g) (h : Below (w.alloc (.cells #[.string x.op, .int .i64 x.d, .int .i64 x.a, .int .i64 x.b, .int .i64 x.m] t)).heap.size (w.alloc (.cells #[.string x.op, .int .i64 x.d, .int .i64 x.a, .int .i64 x.b, .int .i64 x.m] t)) w2) :
    w2.cell? ⟨g, 0, none⟩ = some (.string x.op) ∧ w2.cell? ⟨g, 1, none⟩ = some (.int .i64 x.d) ∧ w2.cell? ⟨g, 2, none⟩ = some (.int .i64 x.a) ∧ w2.cell? ⟨g, 3, none⟩ = some (.int .i64 x.b) ∧ w2.cell? ⟨g, 4, none⟩ = some (.int .i64 x.m) := by
  subst hg
  exact In.box (RS.below (In.boxed x) h (by simp))
set_option maxHeartbeats 4000000 in
theorem IsInstr_any (op : ByteArray) (d a b m : Int) (w : World) :
    Calls Try.prog 144 #[.agg #[.string op, .int .i64 d, .int .i64 a, .int .i64 b, .int .i64 m]] w fun e w' => e = .returned (.bool (goodIn ⟨op, d, a, b, m⟩)) ∧ Below w.heap.size w w' := by
  have hB1 := fun o => (Below.refl w.heap.size w).alloc (Nat.le_refl _) o
  have hr : Hid (∀ ok fa fb lo hi c, fm op = ⟨ok, fa, fb, lo, hi, c⟩ → goodIn ⟨op, d, a, b, m⟩ = (ok && reg d && opnd a fa && opnd b fb && inR m lo hi)) := by
    intro ok fa fb lo hi c h; simp only [goodIn, h]
  go_enter Try.func144, Try.ntmps144
  go_wp2_with (fail)
  refine (formOf_any _ _).mono ?_
  rintro e w2 ⟨rfl, hb⟩
  have hr2 := hr.out
  clear hr
  generalize hf : fm op = f at hr2 ⊢
  obtain ⟨ok, fa, fb, lo, hi, c⟩ := f
  have hr3 := Lib.hid (hr2 ok fa fb lo hi c rfl)
  clear hr2 hf
  obtain ⟨xa, xb, xc, xd, xe⟩ := In.old (x := ⟨op, d, a, b, m⟩) rfl hb
  have hbb := Lib.hid ((hB1 _).trans (hb.mono (by simp)))
  have hz2 : w.heap.size < w2.heap.size := by have := hb.size; simp at this; omega
  clear hb hB1
  have hfin := fun o => hbb.out.alloc hbb.out.size o
  simp only [fmV]
  by_cases h1 : lo ≤ m
  all_goals by_cases h2 : m ≤ hi
  all_goals cases ok
  all_goals
    go_wp2_with (first | (go_at_call 145; refine (isRegister_any _ _).mono ?_; rintro e w' ⟨rfl, rfl⟩) | (go_at_call 174; refine (isOperand_any _ _ _).mono ?_; rintro e w' ⟨rfl, rfl⟩))
    all_goals go_ret
    all_goals exact ⟨ret_bool (by rw [hr3.out]; simp_all [inR]), hfin _⟩
end Go.Proofs.Ytgcbfiamhpfkhaa

/- append of a slice that is read, nil or not, onto one that the call owns. No program. -/
namespace Go.Proofs.Ytgcbfiamhpfkhaa
open Go.RowKit
set_option linter.unusedVariables false

theorem run_append_none_c {P : Program} {w : World} (base : Nat) (t ty e : TypeId) (i : TypeInfo) (size : Nat) (ht : P.underlying t = some (.slice e)) (hi : P.info? e = some i)
    (v : Value) (n c : Nat) (xs : List Value) (hown : w.ownsRow base e size v n xs) :
    (Builtin.append_ #[t, t] ty #[v, .slice none 0 c]).run P w = .ok v w := by
  rcases hown.2 with ⟨rfl, rfl⟩ | ⟨g, cap, cur, rfl, _, _, hnc, _⟩
  · simp [Builtin.append_, run_underlying ht, sizeOf, typeInfo, hi, Builtin.lenOf, Builtin.firstCells]
  · simp [Builtin.append_, run_underlying ht, sizeOf, typeInfo, hi, Builtin.lenOf, Builtin.firstCells, hnc, storeCells]
theorem run_append_src {P : Program} (w : World) (base : Nat) (t ty e : TypeId) (i : TypeInfo) (z : Value) (size bytes : Nat) (ht : P.underlying t = some (.slice e)) (hi : P.info? e = some i) (hz : i.zero = some z)
    (hsize : i.size = size) (hby : i.bytes = bytes) (hzs : z.cells.size = size) (hsz : 0 < size)
    (v : Value) (n : Nat) (xs : List Value) (hown : w.ownsRow base e size v n xs)
    (A : Option Addr) (m c : Nat) (news : List Value) (hl : news.length = m * size) (hnews : 0 < m → ∃ a, A = some a ∧ ∀ j u, news[j]? = some u → w.cell? (a.add j) = some u) (h1 : ∀ u ∈ news, u.oneCell' = true)
    (h63 : n + m ≤ maxLen) (hbytes : (n + m) * bytes ≤ 140737488355328) (hbase : base ≤ w.heap.size) :
    ∃ v' w', (Builtin.append_ #[t, t] ty #[v, .slice A m c]).run P w = .ok v' w' ∧ w'.ownsRow base e size v' (n + m) (xs ++ news) ∧ w.grownBy w' v.ownBlock ∧
      (v' = .slice none 0 0 ↔ v = .slice none 0 0 ∧ m = 0) := by
  by_cases hm : m = 0
  · subst hm
    obtain rfl : news = [] := List.eq_nil_of_length_eq_zero (by simpa using hl)
    cases A with
    | none =>
      refine ⟨v, w, run_append_none_c base t ty e i size ht hi v n c xs hown, by simpa using hown, World.grownBy.refl w _, by simp⟩
    | some a => exact run_append_own w base t ty e i z size bytes ht hi hz hsize hby hzs hsz v n xs hown a 0 c [] hl (fun j u h => by simp at h) h1 h63 hbytes hbase
  · obtain ⟨a, rfl, hc⟩ := hnews (by omega)
    exact run_append_own w base t ty e i z size bytes ht hi hz hsize hby hzs hsz v n xs hown a m c news hl hc h1 h63 hbytes hbase
theorem wpList_append_src {P : Program} {w : World} {ops : Array Oper} {rest : List Oper} {o : Oper} {a : Act} {Q : Exit → Act → World → Prop} (hgd : o.guard = none) (s x : Operand) (t : TypeId)
    (ho : o.op = .call { callee := .builtin .append, args := #[s, x], argTypes := #[t, t] })
    (base : Nat) (e : TypeId) (i : TypeInfo) (z : Value) (size bytes : Nat) (ht : P.underlying t = some (.slice e)) (hi : P.info? e = some i) (hz : i.zero = some z)
    (hsize : i.size = size) (hby : i.bytes = bytes) (hzs : z.cells.size = size) (hsz : 0 < size)
    (v : Value) (n : Nat) (xs : List Value) (hs : a.eval s = v) (hown : w.ownsRow base e size v n xs)
    (A : Option Addr) (m c : Nat) (news : List Value) (hx : a.eval x = .slice A m c) (hl : news.length = m * size) (hnews : 0 < m → ∃ a, A = some a ∧ ∀ j u, news[j]? = some u → w.cell? (a.add j) = some u) (h1 : ∀ u ∈ news, u.oneCell' = true)
    (h63 : n + m ≤ maxLen) (hbytes : (n + m) * bytes ≤ 140737488355328) (hbase : base ≤ w.heap.size)
    (h : ∀ v' w', w'.ownsRow base e size v' (n + m) (xs ++ news) → w.grownBy w' v.ownBlock → (v' = .slice none 0 0 ↔ v = .slice none 0 0 ∧ m = 0) → wpList P ops Q rest (a.put o.dst v') w') : wpList P ops Q (o :: rest) a w := by
  refine wpList_plain hgd fun K hK => ?_
  obtain ⟨v', w', hr, h2, h3, h4⟩ := run_append_src (P := P) w base t o.type e i z size bytes ht hi hz hsize hby hzs hsz v n xs hown A m c news hl hnews h1 h63 hbytes hbase
  unfold Oper.wp execOp
  simp only [ho, resolve, invoke, builtin, Sem.run_bind, Sem.run_pure, Result.andThen_ok, List.map_toArray, List.map_cons, List.map_nil, hs, hx, hr]
  exact hK _ _ (h v' w' h2 h3 h4)
theorem RS.news {α : Type} {enc : α → List Value} {k : Nat} (hk : ∀ x, (enc x).length = k) {w : World} {L B : Nat} {A : Option Addr} {xs : List α} (h : RS enc k w L B A xs) :
    0 < xs.length → ∃ a, A = some a ∧ ∀ j u, (xs.flatMap enc)[j]? = some u → w.cell? (a.add j) = some u := by
  intro hn
  obtain ⟨b, o, e, _, hc⟩ := h hn
  refine ⟨⟨b, o, none⟩, e, fun j u hu => ?_⟩
  have hj : j < xs.length * k := by rw [← kflat_len hk]; exact (List.getElem?_eq_some_iff.1 hu).1
  have hkp : 0 < k := by rcases Nat.eq_zero_or_pos k with h | h; · subst h; simp at hj
                         · exact h
  have hq : j / k < xs.length := Nat.div_lt_of_lt_mul (by rw [Nat.mul_comm]; exact hj)
  have he : j / k * k + j % k = j := by rw [Nat.mul_comm]; exact Nat.div_add_mod j k
  have h1 := kflat_get hk xs (j / k) (j % k) hq (Nat.mod_lt _ hkp)
  rw [he, hu] at h1
  have := hc (j / k) hq (j % k) u h1.symm
  rw [Nat.add_assoc, he] at this
  unfold Addr.add; split
  · rename_i h0; subst h0; simpa using this
  · exact this
theorem IS.news {w : World} {L B : Nat} {A : Option Addr} {xs : List Int} (h : IS w L B A xs) :
    0 < xs.length → ∃ a, A = some a ∧ ∀ j u, (xs.map (Value.int .i64))[j]? = some u → w.cell? (a.add j) = some u := by
  intro hn
  obtain ⟨b, o, e, _, hc⟩ := h hn
  refine ⟨⟨b, o, none⟩, e, fun j u hu => ?_⟩
  rw [List.getElem?_map] at hu
  cases hx : xs[j]? with
  | none => rw [hx] at hu; cases hu
  | some x =>
    rw [hx] at hu
    obtain ⟨hj, rfl⟩ := List.getElem?_eq_some_iff.1 hx
    have := hc j hj
    simp only [Option.map_some, Option.some.injEq] at hu
    rw [hu] at this
    unfold Addr.add; split
    · rename_i h0; subst h0; simpa using this
    · exact this
end Go.Proofs.Ytgcbfiamhpfkhaa

namespace Go.Proofs.Ytgcbfiamhpfkhaa
open Go.RowKit
set_option linter.unusedVariables false
set_option maxRecDepth 100000

theorem oneI (xs : List Int) : ∀ u ∈ xs.map (Value.int .i64), u.oneCell' = true := by
  intro u hu; rw [List.mem_map] at hu; obtain ⟨x, _, rfl⟩ := hu; rfl
theorem OW.ofRow {w : World} {lo : Nat} {v : Value} {n : Nat} {xs : List Int} (h : w.ownsRow lo 3 1 v n (xs.map (Value.int .i64))) (hn : n = xs.length) : OW w lo w.heap.size v xs := by
  subst hn; exact ⟨h, fun k hk => (h.lt k hk).2⟩
theorem Try.infoInt' : (Try.prog.info? 3).map (fun i => (i.zero, i.size, i.bytes)) = some (some (.int .i64 0), 1, 8) := Try.infoInt

set_option maxHeartbeats 1000000 in
theorem l1Own_any (L B : Nat) (A : Option Addr) (c : Nat) (xs : List Int) (w : World) (hl : xs.length ≤ 1048576) (hx : IS w L B A xs) (hB : B ≤ w.heap.size) :
    Calls Try.prog 85 #[.slice A xs.length c] w (FreshI w xs) := by
  obtain ⟨i0, hi, hz0, hz1, hz2⟩ := info_parts Try.infoInt
  have hb0 := Lib.hid ((Below.refl w.heap.size w).alloc (Nat.le_refl _) (.cells #[] 3))
  have hnews := Lib.hid ((hx.below hb0.out hB).news)
  have hown := Lib.hid (World.ownsRow_made (base := w.heap.size) (e := 3) (size := 1) w #[] 0 (Nat.le_refl _) (by unfold maxLen; omega) (by simp))
  clear hx
  go_enter Try.func85, Try.ntmps85
  go_wp2_with (at_builtin; refine wpList_append_src rfl _ _ 23 rfl w.heap.size 3 i0 (.int .i64 0) 1 8 Try.underlying23 hi hz0 hz1 hz2 rfl (by decide) _ 0 [] rfl hown.out A xs.length c (xs.map (Value.int .i64)) rfl (by simp) hnews.out (oneI xs) (by unfold maxLen; omega) (by omega) (by simp) ?_; intro v' w1 hown' hgrow _)
  simp only [Nat.zero_add, List.nil_append] at hown'
  have ho : Hid (OW w1 w.heap.size w1.heap.size v' xs) := OW.ofRow hown' rfl
  have hb : Hid (Below w.heap.size w w1) := hb0.out.grown hgrow (by simp) (fun k hk => by cases hk; exact Nat.le_refl _)
  obtain ⟨A', c', rfl, _⟩ := ho.out.form
  clear hown' hgrow
  go_wp2
  go_ret
  exact ⟨_, _, rfl, ho.out, hb.out⟩

set_option maxHeartbeats 1000000 in
/-- slices.Clone of a slice of ints that lies in memory. -/
theorem CloneI_any (b o c : Nat) (xs : List Int) (L B : Nat) (w : World) (hl : xs.length ≤ 1048576) (hx : IS w L B (some ⟨b, o, none⟩) xs) (hB : B ≤ w.heap.size) :
    Calls Try.prog 179 #[.slice (some ⟨b, o, none⟩) xs.length c] w (FreshI w xs) := by
  obtain ⟨i0, hi, hz0, hz1, hz2⟩ := info_parts Try.infoInt
  have hb0 := Lib.hid ((Below.refl w.heap.size w).alloc (Nat.le_refl _) (.cells #[] 3))
  have hnews := Lib.hid ((hx.below hb0.out hB).news)
  have hown := Lib.hid (World.ownsRow_made (base := w.heap.size) (e := 3) (size := 1) w #[] 0 (Nat.le_refl _) (by unfold maxLen; omega) (by simp))
  clear hx
  have heq := Lib.run_eql_slice_nil (P := Try.prog) w 23 3 (some ⟨b, o, none⟩) xs.length c 0 0 Try.underlying23
  simp only [Option.isNone_some] at heq
  go_enter Try.func179, Try.ntmps179
  go_wp2_with (at_builtin; refine wpList_append_src rfl _ _ 23 rfl w.heap.size 3 i0 (.int .i64 0) 1 8 Try.underlying23 hi hz0 hz1 hz2 rfl (by decide) _ 0 [] rfl hown.out (some ⟨b, o, none⟩) xs.length c (xs.map (Value.int .i64)) rfl (by simp) hnews.out (oneI xs) (by unfold maxLen; omega) (by omega) (by simp) ?_; intro v' w1 hown' hgrow _)
  simp only [Nat.zero_add, List.nil_append] at hown'
  have ho : Hid (OW w1 w.heap.size w1.heap.size v' xs) := OW.ofRow hown' rfl
  have hb : Hid (Below w.heap.size w w1) := hb0.out.grown hgrow (by simp) (fun k hk => by cases hk; exact Nat.le_refl _)
  obtain ⟨A', c', rfl, _⟩ := ho.out.form
  clear hown' hgrow
  go_wp2
  go_ret
  exact ⟨_, _, rfl, ho.out, hb.out⟩

def allIn (xs : List Int) (lo hi : Int) : Bool := xs.all fun x => inR x lo hi
theorem allIn_snoc {xs : List Int} {lo hi : Int} {k : Nat} (h : k < xs.length) : allIn (xs.take (k + 1)) lo hi = (allIn (xs.take k) lo hi && inR xs[k] lo hi) := by
  unfold allIn; rw [List.take_succ_eq_append_getElem h, List.all_append]; simp
theorem allIn_of {xs : List Int} {lo hi : Int} {k : Nat} (h : allIn (xs.take k) lo hi = false) : allIn xs lo hi = false := by
  cases hh : allIn xs lo hi
  · rfl
  · unfold allIn at *; rw [← List.take_append_drop k xs, List.all_append] at hh; simp [h] at hh
theorem l1All_any (L B : Nat) (A : Option Addr) (c : Nat) (xs : List Int) (lo hi : Int) (w : World) (hl : xs.length ≤ 1048576) (hx : IS w L B A xs) :
    Calls Try.prog 108 #[.slice A xs.length c, .int .i64 lo, .int .i64 hi] w fun e w' => e = .returned (.bool (allIn xs lo hi)) ∧ w = w' := by
  have hX := Lib.hid hx; clear hx
  go_enter Try.func108, Try.ntmps108
  go_wp2
  go_loop [8, 11] (fun _ i => ∃ k : Nat, k ≤ xs.length ∧ i = .int .i64 k ∧ allIn (xs.take k) lo hi = true) (fun _ i => xs.length - (intOf i).toNat)
  case atStart => exact ⟨0, Nat.zero_le _, rfl, rfl⟩
  case round =>
    obtain ⟨k, hk, rfl, hh⟩ := hrel
    have hH := Lib.hid hh; clear hh
    by_cases hlt : k < xs.length
    · obtain ⟨b, o, rfl, _, hc⟩ := hX.out (by omega)
      have hcell := hc k hlt
      clear hc
      have hS := Lib.hid (allIn_snoc (lo := lo) (hi := hi) hlt)
      generalize xs[k] = x at *
      cases hb : inR x lo hi
      · have hF : Hid (allIn xs lo hi = false) := allIn_of (k := k + 1) (by rw [hS.out, hb]; simp)
        go_wp2_with (go_at_call 153; refine (l1In_r _ _ _ _).mono ?_; rintro e w' ⟨rfl, rfl⟩)
        go_ret
        exact ⟨ret_bool hF.out.symm, rfl⟩
      · have hb' := Lib.hid hb
        go_wp2_with (go_at_call 153; refine (l1In_r _ _ _ _).mono ?_; rintro e w' ⟨rfl, rfl⟩)
        go_round
        case rel => exact ⟨k + 1, by omega, by go_num, by rw [hS.out, hH.out, hb'.out]; rfl⟩
        case measure => simp [intOf]; omega
    · obtain rfl : k = xs.length := by omega
      go_wp2
      go_ret
      exact ⟨ret_bool (by have := hH.out; rw [List.take_length] at this; rw [this]), rfl⟩
def regsOk (xs : List Int) : Bool := xs.length == 6 && allIn xs 0 63
theorem cdRegs_any (L B : Nat) (A : Option Addr) (c : Nat) (xs : List Int) (w : World) (hl : xs.length ≤ 1048576) (hx : IS w L B A xs) :
    Calls Try.prog 99 #[.slice A xs.length c] w fun e w' => e = .returned (.bool (regsOk xs)) ∧ w = w' := by
  have H := Lib.hid (l1All_any L B A c xs 0 63 w hl hx)
  clear hx
  by_cases h6 : xs.length = 6
  · have hR : Hid (regsOk xs = allIn xs 0 63) := by simp [Hid, regsOk, h6]
    have h6' : ((xs.length : Int) == 6) = true := by simp; omega
    have h6'' : decide ((xs.length : Int) = 6) = true := by simp; omega
    clear h6
    go_enter Try.func99, Try.ntmps99
    go_wp2_with (fail)
    refine H.out.mono ?_
    rintro e w' ⟨rfl, rfl⟩
    go_wp2
    go_ret
    exact ⟨ret_bool hR.out.symm, rfl⟩
  · have hR : Hid (regsOk xs = false) := by simp [Hid, regsOk, h6]
    have h6' : ((xs.length : Int) == 6) = false := by simp; omega
    have h6'' : decide ((xs.length : Int) = 6) = false := by simp; omega
    clear h6
    go_enter Try.func99, Try.ntmps99
    go_wp2
    go_ret
    exact ⟨ret_bool hR.out.symm, rfl⟩
end Go.Proofs.Ytgcbfiamhpfkhaa
