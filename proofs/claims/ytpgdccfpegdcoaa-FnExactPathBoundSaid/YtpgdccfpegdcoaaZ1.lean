/- Texts of this proof, one behind the other: N9R, NAP, NAM, NAN, NAQ, OC. -/
import Derived.Test.YtpgdccfpegdcoaaZ2
import Derived.WalkKit
import Derived.WalkSpells
import Derived.WalkLawsBesides
import Derived.Deep.RegionLaw
import Derived.Deep.RegionHeld3
import Derived.Lib.Hide
import Derived.Test.YtpgdccfpegdcoaaZ6
import Derived.Test.YtpgdccfpegdcoaaZ4
import Derived.Test.YtpgdccfpegdcoaaZ5
import Derived.Deep.DeepCutAuto
import Derived.Test.YtpgdccfpegdcoaaLawN9A
import Derived.Test.YtpgdccfpegdcoaaKMInstr
import Derived.ProofKit
import Derived.OpenShut
import Derived.ShutString
import Derived.ChangeOld
import Derived.Below
import Derived.Deep.Slices
import Derived.Deep.Fields
/- Chapter 9: orders, plain; mayCome of the program. -/
namespace Go.Proofs.Ytpgdccfpegdcoaa
open Go.RowKit
set_option linter.unusedVariables false
set_option maxRecDepth 100000

theorem hasI_cons (x : Int) (xs : List Int) (n : Int) : hasI (x :: xs) n = ((x == n) || hasI xs n) := rfl
def setOf (xs : List Int) : Nat := xs.foldl (fun m x => m ||| (1 <<< x.toNat)) 0
theorem setOf_snoc {xs : List Int} {k : Nat} (h : k < xs.length) : setOf (xs.take (k + 1)) = setOf (xs.take k) ||| (1 <<< xs[k].toNat) := by
  unfold setOf; rw [List.take_succ_eq_append_getElem h, List.foldl_append]; rfl
theorem setFrom_lt : ∀ {xs : List Int} {m : Nat}, m < 1048576 → (∀ x ∈ xs, 0 ≤ x ∧ x < 20) → xs.foldl (fun m x => m ||| (1 <<< x.toNat)) m < 1048576
  | [], m, hm, _ => hm
  | x :: xs, m, hm, h => setFrom_lt (xs := xs) (set_lt hm (by have := h x (by simp); omega)) fun y hy => h y (by simp [hy])
theorem setOf_lt {xs : List Int} (h : ∀ x ∈ xs, 0 ≤ x ∧ x < 20) : setOf xs < 1048576 := setFrom_lt (by omega) h
theorem setFrom_bit (i : Nat) : ∀ {xs : List Int} {m : Nat}, (∀ x ∈ xs, 0 ≤ x ∧ x < 20) → (xs.foldl (fun m x => m ||| (1 <<< x.toNat)) m).testBit i = (m.testBit i || hasI xs i)
  | [], m, _ => by simp [hasI]
  | x :: xs, m, h => by
    have hx := h x (by simp)
    show (xs.foldl (fun m x => m ||| (1 <<< x.toNat)) (m ||| (1 <<< x.toNat))).testBit i = _
    rw [setFrom_bit i (xs := xs) fun y hy => h y (by simp [hy]), Nat.testBit_or, Nat.one_shiftLeft, Nat.testBit_two_pow, hasI_cons, Bool.or_assoc]
    have : decide (x.toNat = i) = (x == (i : Int)) := by
      rw [Bool.eq_iff_iff]; simp; omega
    rw [this]
theorem setOf_bit {xs : List Int} (i : Nat) (h : ∀ x ∈ xs, 0 ≤ x ∧ x < 20) : (setOf xs).testBit i = hasI xs i := by
  unfold setOf; rw [setFrom_bit i h]; simp

/-- Whether the needs of j among the first k instructions have come. -/
def ndIn (cs : List In) (xs : List Int) (j k : Nat) : Bool := (ndL cs j k).all fun d => hasI xs d.1
theorem ndIn_yes {cs : List In} {xs : List Int} {j k : Nat} (h : 0 ≤ dT cs k j) : ndIn cs xs j (k + 1) = (ndIn cs xs j k && hasI xs k) := by
  unfold ndIn; rw [ndL_yes h, List.all_append]; simp
theorem ndIn_no {cs : List In} {xs : List Int} {j k : Nat} (h : ¬ 0 ≤ dT cs k j) : ndIn cs xs j (k + 1) = ndIn cs xs j k := by
  unfold ndIn; rw [ndL_no h]
theorem ndIn_false {cs : List In} {xs : List Int} {j k : Nat} (h : ndIn cs xs j k = false) : ∀ {n : Nat}, k ≤ n → ndIn cs xs j n = false
  | 0, hn => by obtain rfl : k = 0 := by omega
                exact h
  | n + 1, hn => by
    rcases Nat.lt_or_ge n k with h1 | h1
    · obtain rfl : k = n + 1 := by omega
      exact h
    · have ih := ndIn_false h h1
      by_cases hd : 0 ≤ dT cs n j
      · rw [ndIn_yes hd, ih]; rfl
      · rw [ndIn_no hd, ih]
/-- Whether an index may come next. -/
def mayB (cs : List In) (xs : List Int) (j : Nat) : Bool := ndIn cs xs j cs.length && !hasI xs j
def stpB (cs : List In) (xs : List Int) (j : Int) : Bool := inR j 0 ((cs.length : Int) - 1) && mayB cs xs j.toNat
def ordP (cs : List In) (order : List Int) (k : Nat) : Bool := (List.range k).all fun q => stpB cs (order.take q) (order.getD q 0)
theorem ordP_succ (cs : List In) (order : List Int) (k : Nat) : ordP cs order (k + 1) = (ordP cs order k && stpB cs (order.take k) (order.getD k 0)) := by
  unfold ordP; rw [List.range_succ, List.all_append]; simp
theorem ordP_false {cs : List In} {order : List Int} {k : Nat} (h : ordP cs order k = false) : ∀ {n : Nat}, k ≤ n → ordP cs order n = false
  | 0, hn => by obtain rfl : k = 0 := by omega
                exact h
  | n + 1, hn => by
    rcases Nat.lt_or_ge n k with h1 | h1
    · obtain rfl : k = n + 1 := by omega
      exact h
    · rw [ordP_succ, ordP_false h h1]; rfl
theorem ordP_in {cs : List In} {order : List Int} {k : Nat} (hk : k ≤ order.length) (h : ordP cs order k = true) : ∀ x ∈ order.take k, 0 ≤ x ∧ x < cs.length := by
  intro x hx
  obtain ⟨q, hq, rfl⟩ := List.mem_take_iff_getElem.1 hx
  unfold ordP at h
  rw [List.all_eq_true] at h
  have h1 := h q (by simp; omega)
  unfold stpB at h1
  rw [Bool.and_eq_true, inR_iff, List.getD_eq_getElem?_getD, List.getElem?_eq_getElem (by omega), Option.getD_some] at h1
  omega
def ordB (cs : List In) (order : List Int) : Bool := (order.length == cs.length) && ordP cs order order.length
def isoB (cs : List In) (order : List Int) : Bool := orGood cs && ordB cs order

set_option maxHeartbeats 4000000 in
theorem mayCome_any (A : Option Addr) (m c : Nat) (L B : Nat) (An : Option Addr) (cn : Nat) (cs : List In) (i : Nat) (xs : List Int) (w : World) (h20 : cs.length ≤ 20) (hi : i < cs.length) (hxs : ∀ x ∈ xs, 0 ≤ x ∧ x < 20)
    (hn : PN w L B An (nds cs)) (hB : B ≤ w.heap.size) :
    Calls Try.prog 90 #[.agg #[.slice A m c, .slice An cs.length cn], .int .i64 i, .int .u64 (setOf xs)] w fun e w' => e = .returned (.bool (mayB cs xs i)) ∧ Below w.heap.size w w' := by
  have hi2 : i < (nds cs).length := by rw [nds_len]; exact hi
  obtain ⟨b, rfl, ⟨_, hbB⟩, hcells⟩ := hn (by omega)
  obtain ⟨Ai, ci, r0, hrs⟩ := hcells i hi2
  rw [nds_at] at r0 hrs
  have hbx := (Below.refl w.heap.size w).alloc (Nat.le_refl _) (.cells #[.slice A m c, .slice (some ⟨b, 0, none⟩) cs.length cn] 77)
  have hP := PB.new w (.slice A m c) (.slice (some ⟨b, 0, none⟩) cs.length cn)
  have r1 := (hbx.cell (p := ⟨b, i, none⟩) (show b < _ by omega)).trans r0
  have hRS := Lib.hid fun (W : World) (hW : Below w.heap.size w W) => hrs.below hW hB
  have hii : (i : Int) < (cs.length : Int) := by omega
  have hi0 : (0 : Int) ≤ (i : Int) := by omega
  have hBx := Lib.hid hbx
  have hM : Hid (mayB cs xs i = ((ndL cs i cs.length).all (fun d => hasI xs d.1) && !hasI xs i)) := rfl
  have hLt := Lib.hid (setOf_lt hxs)
  have hBt := Lib.hid fun (q : Nat) => setOf_bit q hxs
  have hIn := Lib.hid fun (d : Int × Int) (h : d ∈ ndL cs i cs.length) => (show 0 ≤ d.1 ∧ d.1 < 20 from by
    obtain ⟨q, h1, h2, _, rfl⟩ := mem_ndL h
    simp only
    omega)
  have hHi := Lib.hid (has_any (setOf xs) i)
  have hHq := Lib.hid fun (q : Nat) => has_any (setOf xs) q
  have hln := ndL_len cs i cs.length
  clear hcells hrs hn hB hbx hxs hi2
  obtain ⟨q0, q1⟩ := And.intro hP.c0 hP.c1
  clear hP
  generalize mayB cs xs i = R at *
  generalize ndL cs i cs.length = ns at *
  generalize setOf xs = s at *
  have hHi := Lib.hid fun (W : World) => hHi.out W hLt.out (by omega)
  have hEi := hBt.out i
  rw [hEi] at hHi
  clear hEi
  go_enter Try.func90, Try.ntmps90
  go_wp2_with (fail)
  clear q0 q1 r1
  go_loopw [15] (fun q wr => ∃ k : Nat, k ≤ ns.length ∧ q = .int .i64 k ∧ (ns.take k).all (fun d => hasI xs d.1) = true ∧ Below w.heap.size w wr) (fun q _ => ns.length - (intOf q).toNat)
  case atStart => exact ⟨0, Nat.zero_le _, rfl, rfl, hBx.out⟩
  case round =>
    obtain ⟨k, hk, rfl, hal, hbel⟩ := hrel
    have hAl := Lib.hid hal
    have hBL := Lib.hid hbel
    clear hbel hal
    by_cases hlt : k < ns.length
    · obtain ⟨rb, ro, rfl, hrb, c0, c1⟩ := nd_cells (hRS.out wr hBL.out) hlt
      obtain ⟨h1, h2⟩ := hIn.out _ (List.getElem_mem hlt)
      have hSn : Hid ((ns.take (k + 1)).all (fun d => hasI xs d.1) = ((ns.take k).all (fun d => hasI xs d.1) && hasI xs ns[k].1)) := by
        rw [Hid, List.take_succ_eq_append_getElem hlt, List.all_append]; simp
      have hFa : Hid (hasI xs ns[k].1 = false → ns.all (fun d => hasI xs d.1) = false) := fun h => by
        rw [List.all_eq_false]; exact ⟨_, List.getElem_mem hlt, by rw [h]; simp⟩
      have hki : (k : Int) < (ns.length : Int) := by omega
      have hBn := Lib.hid (hBL.out.alloc hBL.out.size (.cells #[.int .i64 ns[k].1, .int .i64 ns[k].2] 117))
      generalize ns[k].2 = dd at *
      generalize ns[k].1 = dk at *
      obtain ⟨t, rfl⟩ := Int.eq_ofNat_of_zero_le h1
      have hHt := hHq.out t (wr.alloc (.cells #[.int .i64 t, .int .i64 dd] 117)) hLt.out (by omega)
      rw [hBt.out t] at hHt
      have hHt := Lib.hid hHt
      generalize hasI xs (t : Int) = hb at *
      cases hb
      · have hF := Lib.hid (hFa.out rfl)
        clear hSn hFa
        go_wp2_with (fail)
        refine hHt.out.mono ?_
        rintro e w3 ⟨rfl, rfl⟩
        go_wp2
        go_ret
        exact ⟨by rw [hM.out, hF.out]; rfl, hBn.out⟩
      · have hS2 : Hid ((ns.take (k + 1)).all (fun d => hasI xs d.1) = true) := by rw [Hid, hSn.out, hAl.out]; rfl
        clear hSn hFa
        go_wp2_with (fail)
        refine hHt.out.mono ?_
        rintro e w3 ⟨rfl, rfl⟩
        go_wp2
        go_roundw
        case rel => exact ⟨k + 1, by omega, by go_num, hS2.out, hBn.out⟩
        case measure => simp [intOf]; omega
    · obtain rfl : k = ns.length := by omega
      rw [List.take_length] at hAl
      go_wp2_with (fail)
      refine (hHi.out _).mono ?_
      rintro e w3 ⟨rfl, rfl⟩
      go_wp2
      go_ret
      exact ⟨by rw [hM.out, hAl.out]; rfl, hBL.out⟩
end Go.Proofs.Ytpgdccfpegdcoaa

/- Chapter 9: heights of the program. -/
namespace Go.Proofs.Ytpgdccfpegdcoaa
open Go.RowKit Go.Shelf
set_option linter.unusedVariables false
set_option maxRecDepth 100000
attribute [local go_sem] Oper.semAt_some

set_option maxHeartbeats 8000000 in
theorem heights_any (L B : Nat) (A : Option Addr) (c : Nat) (cs : List In) (L1 B1 : Nat) (An : Option Addr) (cn : Nat) (w : World) (h20 : cs.length ≤ 20) (hes : RS In.enc 5 w L B A cs) (hB : B ≤ w.heap.size) (hpn : PN w L1 B1 An (nds cs)) (hB1 : B1 ≤ w.heap.size) :
    Calls Try.prog 142 #[.agg #[.slice A cs.length c, .slice An cs.length cn]] w (FreshI w (hL cs)) := by
  have hE := Lib.hid fun (W : World) (hW : Below w.heap.size w W) => hes.below hW hB
  have hPN := Lib.hid fun (W : World) (hW : Below w.heap.size w W) => hpn.below hW hB1
  have hBB := Lib.hid hB
  have hBN := Lib.hid hB1
  have hl : cs.length ≤ 1048576 := by omega
  have hmk := run_make_ints cs.length (by omega)
  clear hes hpn hB hB1
  refine (callsIn_wide (n := 6)).1 ?_
  refine callsIn_of_wp_marks Try.func142 rfl trivial ?_ rfl
  simp only [Try.ntmps142, List.size_toArray, List.length_cons, List.length_nil, Nat.reduceAdd, Nat.reduceSub, Array.replicate_succ, Array.replicate_zero, List.push_toArray, List.append_toArray, List.nil_append, List.cons_append]
  gi_wp2
  obtain ⟨W5, hW5⟩ : ∃ W5, W5 = ((w.alloc (.cells #[.slice A cs.length c, .slice An cs.length cn] 77)).alloc (.cells (intCells (zeros cs.length)) 3)).alloc (.cells #[.slice (some ⟨w.heap.size + 1, 0, none⟩) cs.length cs.length] 38) := ⟨_, rfl⟩
  have z1 := World.size_alloc w (.cells #[.slice A cs.length c, .slice An cs.length cn] 77)
  have z2 := World.size_alloc (w.alloc (.cells #[.slice A cs.length c, .slice An cs.length cn] 77)) (.cells (intCells (zeros cs.length)) 3)
  have D0 : HG w W5 w.heap.size (w.heap.size + 1) (w.heap.size + 1 + 1) (.slice A cs.length c) (.slice An cs.length cn) cs.length (zeros cs.length) := by
    have a1 := (Below.refl w.heap.size w).alloc (Nat.le_refl _) (.cells #[.slice A cs.length c, .slice An cs.length cn] 77)
    have a2 := a1.alloc a1.size (.cells (intCells (zeros cs.length)) 3)
    have a3 := a2.alloc a2.size (.cells #[.slice (some ⟨w.heap.size + 1, 0, none⟩) cs.length cs.length] 38)
    rw [hW5]
    refine ⟨Nat.le_refl _, by omega, by omega, ?_, ?_, ?_, a3⟩
    · have h := PB.new w (.slice A cs.length c) (.slice An cs.length cn)
      have h2 := CB.below h ((Below.refl _ _).alloc (Nat.le_refl _) (.cells (intCells (zeros cs.length)) 3)) (CB.lt h)
      exact CB.below h2 ((Below.refl _ _).alloc (Nat.le_refl _) _) (CB.lt h2)
    · have h : CB 38 (((w.alloc (.cells #[.slice A cs.length c, .slice An cs.length cn] 77)).alloc (.cells (intCells (zeros cs.length)) 3)).alloc (.cells #[.slice (some ⟨w.heap.size + 1, 0, none⟩) cs.length cs.length] 38)) _ [.slice (some ⟨w.heap.size + 1, 0, none⟩) cs.length cs.length] := heap_alloc_new _ _
      rw [z2, z1] at h; exact h
    · have h : CB 3 ((w.alloc (.cells #[.slice A cs.length c, .slice An cs.length cn] 77)).alloc (.cells (intCells (zeros cs.length)) 3)) _ ((zeros cs.length).map (Value.int .i64)) := heap_alloc_new _ _
      rw [z1] at h
      exact CB.below h ((Below.refl _ _).alloc (Nat.le_refl _) _) (CB.lt h)
  rw [← hW5]
  have Z5 := Lib.hid (show W5.heap.size = w.heap.size + 1 + 1 + 1 by rw [hW5, World.size_alloc, z2, z1])
  obtain ⟨p1, hp1⟩ : ∃ p1, p1 = w.heap.size := ⟨_, rfl⟩
  have Hp1 := Lib.hid hp1
  rw [← hp1] at D0 Z5 ⊢
  have Hp9 := Lib.hid (Nat.le_of_eq hp1.symm)
  generalize hp2 : p1 + 1 = p2 at *
  generalize hp3 : p2 + 1 = p3 at *
  have Hp2 := Lib.hid hp2
  have Hp3 := Lib.hid hp3
  have D0h := Lib.hid D0
  clear hW5 z1 z2 hp1 hmk D0 hp2 hp3
  gi_wp2
  refine ⟨trivial, (bwI_in Fence.wide 5 trivial rfl A cs.length c W5).mono ?_⟩
  rintro e W9 ⟨rfl, rfl⟩
  have a9 := (Below.refl W5.heap.size W5).alloc (Nat.le_refl _) (.cells #[.slice A cs.length c] 28)
  have L9 := Lib.hid (D0h.out.below a9)
  have TB9 := Lib.hid (BX.new W5 28 (.slice A cs.length c))
  have hes9 := Lib.hid (hE.out _ L9.out.be)
  have Z9 := World.size_alloc W5 (.cells #[.slice A cs.length c] 28)
  obtain ⟨Bs, hBs⟩ : ∃ Bs, Bs = W5.heap.size := ⟨_, rfl⟩
  obtain ⟨W9, hW9⟩ : ∃ W9, W9 = W5.alloc (.cells #[.slice A cs.length c] 28) := ⟨_, rfl⟩
  rw [← hBs, ← hW9]
  rw [← hW9] at L9 hes9 TB9 Z9
  rw [← hBs] at TB9 Z9
  have Zb := Lib.hid (show p3 < Bs by have := Z5.out; have := Hp2.out; have := Hp3.out; omega)
  have Z9h := Lib.hid Z9
  have B9 := Lib.hid L9.out.be
  clear a9 D0h hW9 hBs Z5 Z9
  gi_wp2
  refine wpIn_rangeFunc_ownH rfl (by omega) (gf := 179) (lb := #[.pointer (some ⟨Bs, 0, none⟩)]) rfl trivial (enters_of Try.func179 (by kernel_rfl) rfl)
    (bwI_stops Fence.wide 5 trivial rfl (by omega) Bs w.heap.size L B A c cs hl W9 B9.out.size TB9.out hes9.out hBB.out) KpB.t (KpB.b B9.out.size) (Below.refl _ _) (fun _ => rfl)
    (fun pre W => HG w W p1 p2 p3 (.slice A cs.length c) (.slice An cs.length cn) cs.length (hgP cs pre) ∧ Bs + 1 ≤ W.heap.size)
    (fun _ _ _ => False) ?hI ?hIx ?h0
    (fun x a' W => ∃ Bx, Bs < Bx ∧ XB W Bx x.1.2 ∧ a' = { tmps := #[.agg #[.slice A cs.length c, .slice An cs.length cn], .pointer (some ⟨p1, 0, none⟩), .slice none 0 0, .pointer (some ⟨p3, 0, none⟩), .int .i64 (x.1.1 : Int), .pointer (some ⟨Bx, 0, none⟩), undef, undef, .pointer (some ⟨p1, 0, none⟩), .slice A cs.length c, .int .i64 (cs.length : Int), .slice (some ⟨p2, 0, none⟩) cs.length cs.length, .pointer (some ⟨p1, 0, none⟩), .slice A cs.length c, .func (.func 179) #[] #[.pointer (some ⟨Bs, 0, none⟩)], .int .i64 (x.1.1 : Int), inV x.1.2, undef, undef, undef, undef, undef, undef, undef, undef, undef, undef, undef, undef, undef, undef, undef, undef, undef, undef, undef, undef, undef, undef, undef, undef, undef, undef, undef, undef, undef, undef, undef, undef, undef, undef, undef, undef, undef, undef, undef], defers := [] })
    ?hAx ?assign ?body ?done ?stop
  case hAx =>
    rintro x a' _ X YY row ⟨Bx, h1, h2, h3⟩ hg hr
    refine ⟨Bx, h1, ?_, h3⟩
    have hne : row ≠ some Bx := row_not (show X.heap[Bx]? = some (.cells (In.enc x.1.2).toArray 65 (0, 0)) from h2) (fun r e => (hr r e).2)
    exact (hg.block Bx (CB.lt h2) (fun e => hne e.symm)).trans h2
  case assign =>
    rintro l pre ⟨⟨k, ⟨op, d, a, b, m⟩⟩, hk, hy⟩ W K ⟨hD, hlt⟩ hK
    have ha := (Below.refl W.heap.size W).alloc (Nat.le_refl _) (.cells #[.string op, .int .i64 d, .int .i64 a, .int .i64 b, .int .i64 m] 65)
    have h1 := hK { tmps := #[.agg #[.slice A cs.length c, .slice An cs.length cn], .pointer (some ⟨p1, 0, none⟩), .slice none 0 0, .pointer (some ⟨p3, 0, none⟩), .int .i64 (k : Int), .pointer (some ⟨W.heap.size, 0, none⟩), undef, undef, .pointer (some ⟨p1, 0, none⟩), .slice A cs.length c, .int .i64 (cs.length : Int), .slice (some ⟨p2, 0, none⟩) cs.length cs.length, .pointer (some ⟨p1, 0, none⟩), .slice A cs.length c, .func (.func 179) #[] #[.pointer (some ⟨Bs, 0, none⟩)], .int .i64 (k : Int), inV ⟨op, d, a, b, m⟩, undef, undef, undef, undef, undef, undef, undef, undef, undef, undef, undef, undef, undef, undef, undef, undef, undef, undef, undef, undef, undef, undef, undef, undef, undef, undef, undef, undef, undef, undef, undef, undef, undef, undef, undef, undef, undef, undef, undef], defers := [] } (W.alloc (.cells #[.string op, .int .i64 d, .int .i64 a, .int .i64 b, .int .i64 m] 65)) ((KeepsOthers.alloc _ _).from _) ⟨ha.mono hD.be.size, fun v h => h.next ha⟩ ⟨hD.below ha, Nat.le_trans hlt ha.size⟩ ⟨W.heap.size, hlt, XB.newI9 W ⟨op, d, a, b, m⟩, rfl⟩
    dsimp only [inV] at h1
    have h1h := Lib.hid h1
    clear h1 hK hD
    dsimp only [inV]
    gi_wp2
    exact h1h.out
  case hI =>
    rintro pre W W' row ⟨hD, hlt⟩ hg hr
    exact ⟨hD.kept hg (fun r e => ⟨Nat.le_trans B9.out.size (hr r e).1, (hr r e).2⟩), Nat.le_trans hlt hg.size⟩
  case hIx => rintro cd pre W W' row hF; exact hF.elim
  case h0 => exact ⟨L9.out, by rw [Z9h.out]; exact Nat.le_refl _⟩
  case stop =>
    rintro D cd pre W _ _ hh _
    exact hh.elim
  case body =>
    rintro l pre x a' W hl0 _ ⟨hD, hWB⟩ ⟨Bx, hBx, hX, rfl⟩ hpl
    obtain ⟨⟨k, y⟩, hk, hy⟩ := x
    have hk' : k < cs.length := hk
    have hki : (k : Int) < (cs.length : Int) := by omega
    have hk0 : (0 : Int) ≤ (k : Int) := by omega
    have hsn := Lib.hid (hgP_snoc pre ⟨(k, y), hk, hy⟩)
    have hln := hgP_len pre
    have hbd := Lib.hid (hgP_bd pre)
    have hca : cstA cs k = (fm y.op).c := by
      unfold cstA
      rw [inAt_eq hk', (List.getElem?_eq_some_iff.1 (show cs[k]? = some y from hy)).2]
    have hcb := cstA_bd cs k
    generalize hP' : hgP cs (pre ++ [⟨(k, y), hk, hy⟩]) = P' at *
    have HP := Lib.hid hP'
    clear hP'
    generalize hgP cs pre = xs at *
    dsimp only at *
    have hgd : 0 ≤ xs.getD k 0 ∧ xs.getD k 0 ≤ 84 := by
      rw [List.getD_eq_getElem?_getD]
      cases hkk : xs[k]? with
      | none => simp
      | some x => have := hbd.out x (List.mem_of_getElem? hkk); simp only [Option.getD_some]; omega
    have hT0 := Lib.hid (hgT_zero cs xs k)
    have hTl := Lib.hid (hgT_len cs xs k)
    have hTo := Lib.hid fun (t : Nat) => hgT_own (cs := cs) t (show k < xs.length by rw [hln]; exact hk')
    have hTs := Lib.hid fun (t : Nat) (h : t < (ndL cs k cs.length).length) => hgT_succ xs h
    have hSe : Hid (hgS cs xs k = hgT cs xs k (ndL cs k cs.length).length) := rfl
    have hYe : Hid (hgY cs xs k = xs.set k (max (xs.getD k 0) (cstA cs k))) := rfl
    have hNd := Lib.hid fun (d : Int × Int) (h : d ∈ ndL cs k cs.length) => (show (∃ q : Nat, d.1 = (q : Int) ∧ q < k) ∧ 0 ≤ d.2 ∧ d.2 ≤ 4 from by
      obtain ⟨q, h1, _, h4, rfl⟩ := mem_ndL h
      exact ⟨⟨q, rfl, h1⟩, h4, (dT_bd cs q k).2⟩)
    have hNl := ndL_len cs k cs.length
    obtain ⟨op, d, a, b, m⟩ := y
    dsimp only [inV] at *
    rw [hca] at hYe hTo hTs hcb
    clear hbd hca
    have hD1 := Lib.hid hD.drew
    have hX1 := Lib.hid (show XB W.drew Bx ⟨op, d, a, b, m⟩ from hX)
    have hC := Lib.hid (costOf_any op d a b m W.drew)
    have u3 := CB.cell hD1.out.b3 0
    simp only [List.getElem?_cons_zero] at u3
    obtain ⟨u2, f2⟩ := hD1.out.at k (by rw [hln]; exact hk')
    obtain ⟨n0, n1, n2, n3, n4⟩ := XB.cells hX1.out
    dsimp only at n0 n1 n2 n3 n4
    have hWBh := Lib.hid hWB
    have hkp1 := Lib.hid (keeps_drew9 (n := w.heap.size) (Bs := Bs) (t := 28) W)
    generalize hct : (fm op).c = ct at *
    have HCt := Lib.hid hct
    clear hct
    generalize hyk : xs.getD k 0 = yk at *
    have HYk := Lib.hid hyk
    clear hyk hD hX hWB
    gi_wp2
    -- REGION 5 BEGIN
    have hS0 : (fun w' => w'.cell? ⟨p3, 0, none⟩ = some (.slice (some ⟨p2, 0, none⟩) cs.length cs.length) ∧ w'.cell? ⟨Bx, 0, none⟩ = some (.string op) ∧ w'.cell? ⟨Bx, 1, none⟩ = some (.int .i64 d) ∧ w'.cell? ⟨Bx, 2, none⟩ = some (.int .i64 a) ∧ w'.cell? ⟨Bx, 3, none⟩ = some (.int .i64 b) ∧ w'.cell? ⟨Bx, 4, none⟩ = some (.int .i64 m)) W.drew := ⟨u3, n0, n1, n2, n3, n4⟩
    refine region_round (S := fun w' => w'.cell? ⟨p3, 0, none⟩ = some (.slice (some ⟨p2, 0, none⟩) cs.length cs.length) ∧ w'.cell? ⟨Bx, 0, none⟩ = some (.string op) ∧ w'.cell? ⟨Bx, 1, none⟩ = some (.int .i64 d) ∧ w'.cell? ⟨Bx, 2, none⟩ = some (.int .i64 a) ∧ w'.cell? ⟨Bx, 3, none⟩ = some (.int .i64 b) ∧ w'.cell? ⟨Bx, 4, none⟩ = some (.int .i64 m)) (by kernel_rfl) (by kernel_rfl) (fun _ _ h => h) hS0 (fun hHeld => ?_)
    refine wpAnyH_take (i := 0) (v := ?_) rfl (by kernel_rfl) (by kernel_rfl) (by kernel_rfl) (fun _ _ _ h => h) (Or.inl ⟨by rfl, ?_⟩) (by assumption) ?_
    rotate_left 1
    · (intro w hSw; (try dsimp only at hSw); go_simp; try with_reducible rfl)
    try simp only [Act.put, List.setIfInBounds_toArray, List.set_cons_zero, List.set_cons_succ]
    refine wpAnyH_take (i := 1) (v := ?_) rfl (by kernel_rfl) (by kernel_rfl) (by kernel_rfl) (fun _ _ _ h => h) (Or.inl ⟨by rfl, ?_⟩) (by assumption) ?_
    rotate_left 1
    · (intro w hSw; (try dsimp only at hSw); go_simp; try with_reducible rfl)
    try simp only [Act.put, List.setIfInBounds_toArray, List.set_cons_zero, List.set_cons_succ]
    refine wpAnyH_take (i := 2) (v := ?_) rfl (by kernel_rfl) (by kernel_rfl) (by kernel_rfl) (fun _ _ _ h => h) (Or.inl ⟨by rfl, ?_⟩) (by assumption) ?_
    rotate_left 1
    · (intro w hSw; (try dsimp only at hSw); go_simp; try with_reducible rfl)
    try simp only [Act.put, List.setIfInBounds_toArray, List.set_cons_zero, List.set_cons_succ]
    refine wpAnyH_take (i := 3) (v := ?_) rfl (by kernel_rfl) (by kernel_rfl) (by kernel_rfl) (fun _ _ _ h => h) (Or.inl ⟨by rfl, ?_⟩) (by assumption) ?_
    rotate_left 1
    · (intro w hSw; (try dsimp only at hSw); go_simp; try with_reducible rfl)
    try simp only [Act.put, List.setIfInBounds_toArray, List.set_cons_zero, List.set_cons_succ]
    refine wpAnyH_take (i := 4) (v := ?_) rfl (by kernel_rfl) (by kernel_rfl) (by kernel_rfl) (fun _ _ _ h => h) (Or.inl ⟨by rfl, ?_⟩) (by assumption) ?_
    rotate_left 1
    · (intro w hSw; (try dsimp only at hSw); go_simp; try with_reducible rfl)
    try simp only [Act.put, List.setIfInBounds_toArray, List.set_cons_zero, List.set_cons_succ]
    refine wpAnyH_take (i := 6) (v := ?_) rfl (by kernel_rfl) (by kernel_rfl) (by kernel_rfl) (fun _ _ _ h => h) (Or.inl ⟨by rfl, ?_⟩) (by assumption) ?_
    rotate_left 1
    · (intro w hSw; (try dsimp only at hSw); go_simp; try with_reducible rfl)
    try simp only [Act.put, List.setIfInBounds_toArray, List.set_cons_zero, List.set_cons_succ]
    refine wpAnyH_ready (rs := [5, 7]) (by kernel_rfl) (by simp) ?_
    refine AllReadyH.cons rfl (fun K hK => ?_) (AllReadyH.cons rfl (fun K hK => ?_) AllReadyH.nil)
    focus
      try simp only [List.getElem_toArray, List.getElem_cons_zero, List.getElem_cons_succ]
      go_simp
      refine hK.out _ _ ⟨u3, n0, n1, n2, n3, n4⟩ (fun hHeld => ?_)
      clear hK K
      try simp only [Act.put, List.setIfInBounds_toArray, List.set_cons_zero, List.set_cons_succ]
      refine wpAnyH_ready (rs := [7]) (by kernel_rfl) (by simp) ?_
      refine AllReadyH.cons rfl (fun K hK => ?_) AllReadyH.nil
      try simp only [List.getElem_toArray, List.getElem_cons_zero, List.getElem_cons_succ]
      go_simp
      go_at_call 139
      refine hC.out.mono ?_
      rintro e w3 ⟨rfl, hb3⟩
      have hD3 := Lib.hid (hD1.out.below hb3)
      have hX3 := CB.below (show CB 65 W.drew Bx _ from hX1.out) hb3 (CB.lt hX1.out)
      have v3 := CB.cell hD3.out.b3 0
      simp only [List.getElem?_cons_zero] at v3
      obtain ⟨v2, g2⟩ := hD3.out.at k (by rw [hln]; exact hk')
      rw [HYk.out] at v2
      obtain ⟨m0, m1, m2, m3, m4⟩ := XB.cells (show XB w3 Bx ⟨op, d, a, b, m⟩ from hX3)
      dsimp only at m0 m1 m2 m3 m4
      have hD4 := Lib.hid (hD3.out.put k (max yk ct))
      rw [← hYe.out, ← hT0.out] at hD4
      have hkp3 := Lib.hid (keeps_t9 (keeps_below9 (n := w.heap.size) (Bs := Bs) (t := 28) hb3 hD1.out.be.size) (keeps_cb (k := k) (v := .int .i64 (max yk ct)) hD3.out.ib (by have := hD3.out.h1; have := hD3.out.h12; omega) (by have := hD3.out.h23; have := Zb.out; omega)))
      have hz3 := Lib.hid hb3.size
      have hX4 := (Below.heap_setCell w3 ⟨p2, k, none⟩ (.int .i64 (max yk ct)) Bx (by show Bx ≠ p2; have := hD3.out.h23; have := Zb.out; omega)).trans (show w3.heap[Bx]? = _ from hX3)
      have x3 := CB.cell hD4.out.b3 0
      simp only [List.getElem?_cons_zero] at x3
      obtain ⟨l0, l1, l2, l3, l4⟩ := XB.cells (show XB (w3.setCell ⟨p2, k, none⟩ (.int .i64 (max yk ct))) Bx ⟨op, d, a, b, m⟩ from hX4)
      dsimp only at l0 l1 l2 l3 l4
      refine hK.out _ _ ⟨v3, m0, m1, m2, m3, m4⟩ (fun hHeld => ?_)
      clear hK K
      try simp only [Act.put, List.setIfInBounds_toArray, List.set_cons_zero, List.set_cons_succ]
      refine wpAnyH_take (i := 8) (v := ?_) rfl (by kernel_rfl) (by kernel_rfl) (by kernel_rfl) (fun _ _ _ h => h) (Or.inl ⟨by rfl, ?_⟩) (by assumption) ?_
      rotate_left 1
      · (intro w hSw; (try dsimp only at hSw); go_simp; try with_reducible rfl)
      try simp only [Act.put, List.setIfInBounds_toArray, List.set_cons_zero, List.set_cons_succ]
      refine wpAnyH_take (i := 9) (v := ?_) rfl (by kernel_rfl) (by kernel_rfl) (by kernel_rfl) (fun _ _ _ h => h) (Or.inl ⟨by rfl, ?_⟩) (by assumption) ?_
      rotate_left 1
      · (intro w hSw; (try dsimp only at hSw); go_simp; try with_reducible rfl)
      try simp only [Act.put, List.setIfInBounds_toArray, List.set_cons_zero, List.set_cons_succ]
      refine wpAnyH_ready (rs := [10]) (by kernel_rfl) (by simp) ?_
      refine AllReadyH.cons rfl (fun K hK => ?_) AllReadyH.nil
      try simp only [List.getElem_toArray, List.getElem_cons_zero, List.getElem_cons_succ]
      go_simp
      refine hK.out _ _ ⟨x3, l0, l1, l2, l3, l4⟩ (fun hHeld => ?_)
      clear hK K
      try simp only [Act.put, List.setIfInBounds_toArray, List.set_cons_zero, List.set_cons_succ]
      refine wpAnyH_done (by kernel_rfl) ?_ _
      try simp only [Act.put, List.setIfInBounds_toArray, List.set_cons_zero, List.set_cons_succ]
    rotate_left 1
    focus
      try simp only [List.getElem_toArray, List.getElem_cons_zero, List.getElem_cons_succ]
      go_simp
      go_at_call 139
      refine hC.out.mono ?_
      rintro e w3 ⟨rfl, hb3⟩
      have hD3 := Lib.hid (hD1.out.below hb3)
      have hX3 := CB.below (show CB 65 W.drew Bx _ from hX1.out) hb3 (CB.lt hX1.out)
      have v3 := CB.cell hD3.out.b3 0
      simp only [List.getElem?_cons_zero] at v3
      obtain ⟨v2, g2⟩ := hD3.out.at k (by rw [hln]; exact hk')
      rw [HYk.out] at v2
      obtain ⟨m0, m1, m2, m3, m4⟩ := XB.cells (show XB w3 Bx ⟨op, d, a, b, m⟩ from hX3)
      dsimp only at m0 m1 m2 m3 m4
      have hD4 := Lib.hid (hD3.out.put k (max yk ct))
      rw [← hYe.out, ← hT0.out] at hD4
      have hkp3 := Lib.hid (keeps_t9 (keeps_below9 (n := w.heap.size) (Bs := Bs) (t := 28) hb3 hD1.out.be.size) (keeps_cb (k := k) (v := .int .i64 (max yk ct)) hD3.out.ib (by have := hD3.out.h1; have := hD3.out.h12; omega) (by have := hD3.out.h23; have := Zb.out; omega)))
      have hz3 := Lib.hid hb3.size
      have hX4 := (Below.heap_setCell w3 ⟨p2, k, none⟩ (.int .i64 (max yk ct)) Bx (by show Bx ≠ p2; have := hD3.out.h23; have := Zb.out; omega)).trans (show w3.heap[Bx]? = _ from hX3)
      have x3 := CB.cell hD4.out.b3 0
      simp only [List.getElem?_cons_zero] at x3
      obtain ⟨l0, l1, l2, l3, l4⟩ := XB.cells (show XB (w3.setCell ⟨p2, k, none⟩ (.int .i64 (max yk ct))) Bx ⟨op, d, a, b, m⟩ from hX4)
      dsimp only at l0 l1 l2 l3 l4
      refine hK.out _ _ ⟨v3, m0, m1, m2, m3, m4⟩ (fun hHeld => ?_)
      clear hK K
      try simp only [Act.put, List.setIfInBounds_toArray, List.set_cons_zero, List.set_cons_succ]
      refine wpAnyH_ready (rs := [5]) (by kernel_rfl) (by simp) ?_
      refine AllReadyH.cons rfl (fun K hK => ?_) AllReadyH.nil
      try simp only [List.getElem_toArray, List.getElem_cons_zero, List.getElem_cons_succ]
      go_simp
      refine hK.out _ _ ⟨v3, m0, m1, m2, m3, m4⟩ (fun hHeld => ?_)
      clear hK K
      try simp only [Act.put, List.setIfInBounds_toArray, List.set_cons_zero, List.set_cons_succ]
      refine wpAnyH_take (i := 8) (v := ?_) rfl (by kernel_rfl) (by kernel_rfl) (by kernel_rfl) (fun _ _ _ h => h) (Or.inl ⟨by rfl, ?_⟩) (by assumption) ?_
      rotate_left 1
      · (intro w hSw; (try dsimp only at hSw); go_simp; try with_reducible rfl)
      try simp only [Act.put, List.setIfInBounds_toArray, List.set_cons_zero, List.set_cons_succ]
      refine wpAnyH_take (i := 9) (v := ?_) rfl (by kernel_rfl) (by kernel_rfl) (by kernel_rfl) (fun _ _ _ h => h) (Or.inl ⟨by rfl, ?_⟩) (by assumption) ?_
      rotate_left 1
      · (intro w hSw; (try dsimp only at hSw); go_simp; try with_reducible rfl)
      try simp only [Act.put, List.setIfInBounds_toArray, List.set_cons_zero, List.set_cons_succ]
      refine wpAnyH_ready (rs := [10]) (by kernel_rfl) (by simp) ?_
      refine AllReadyH.cons rfl (fun K hK => ?_) AllReadyH.nil
      try simp only [List.getElem_toArray, List.getElem_cons_zero, List.getElem_cons_succ]
      go_simp
      refine hK.out _ _ ⟨x3, l0, l1, l2, l3, l4⟩ (fun hHeld => ?_)
      clear hK K
      try simp only [Act.put, List.setIfInBounds_toArray, List.set_cons_zero, List.set_cons_succ]
      refine wpAnyH_done (by kernel_rfl) ?_ _
      try simp only [Act.put, List.setIfInBounds_toArray, List.set_cons_zero, List.set_cons_succ]
    -- REGION 5 END
    all_goals
      dsimp only [OnlyN]
      clear u3 u2 f2 n0 n1 n2 n3 n4 v3 v2 g2 m0 m1 m2 m3 m4 hX3 hD3 hD1 hX1 hC hS0 hX4 x3 l0 l1 l2 l3 l4
      have hWB6 := Lib.hid (show Bs + 1 ≤ (w3.setCell ⟨p2, k, none⟩ (.int .i64 (max yk ct))).heap.size by rw [World.size_setCell]; exact Nat.le_trans hWBh.out hz3.out)
      have hkA := Lib.hid (keeps_t9 hkp1.out hkp3.out)
      clear hkp1 hkp3 hb3 hz3
      generalize w3.setCell ⟨p2, k, none⟩ (.int .i64 (max yk ct)) = W6 at *
      have q1 := CB.cell hD4.out.pb 1
      simp only [List.getElem?_cons_zero, List.getElem?_cons_succ] at q1
      have hi2 : k < (nds cs).length := by rw [nds_len]; exact hk'
      obtain ⟨bn, rfl, ⟨_, hbB⟩, hcells⟩ := hPN.out W6 hD4.out.be (by omega)
      obtain ⟨Ai, ci, r0, hrs⟩ := hcells k hi2
      rw [nds_at] at r0 hrs
      have hRS := Lib.hid fun (W7 : World) (h : Below w.heap.size W6 W7) => hrs.below h hBN.out
      clear hcells hrs hi2
      generalize hHT : hgT cs xs k = HT9 at *
      generalize ndL cs k cs.length = ns at *
      obtain ⟨vv, hvv⟩ : ∃ vv, vv = max yk ct := ⟨_, rfl⟩
      have hvb : 0 ≤ vv ∧ vv ≤ 84 := by omega
      have HVv := Lib.hid hvv
      rw [← hvv] at hTo hTs
      have hnsl : ns.length ≤ 20 := by omega
      clear hvv hgd hcb hHT
      gi_wp2
      clear q1 r0
      gi_loopw [33] (fun q wq => ∃ t : Nat, t ≤ ns.length ∧ q = .int .i64 t ∧ HG w wq p1 p2 p3 (.slice A cs.length c) (.slice (some ⟨bn, 0, none⟩) cs.length cn) cs.length (HT9 t) ∧ (KeepsOthers W wq ∧ KpB w.heap.size Bs 28 W wq) ∧ Bs + 1 ≤ wq.heap.size ∧ Below w.heap.size W6 wq) (fun q _ => ns.length - (intOf q).toNat)
      case atStart => exact ⟨0, Nat.zero_le _, rfl, hD4.out, hkA.out, hWB6.out, Below.refl _ _⟩
      case round =>
        clear hkA hWB6 hD4
        obtain ⟨t, ht, rfl, hg, hkq, hz, hbq⟩ := hrel
        have hG := Lib.hid hg
        have hKq := Lib.hid hkq
        have hZq := Lib.hid hz
        have hBq := Lib.hid hbq
        clear hg hkq hz hbq
        by_cases hlt : t < ns.length
        · obtain ⟨rb, ro, rfl, hrb, c0, c1⟩ := nd_cells (hRS.out wr hBq.out) hlt
          obtain ⟨⟨q, hq1, hqk⟩, hd0, hd4⟩ := hNd.out _ (List.getElem_mem hlt)
          have hS := hTs.out t hlt
          unfold hstep at hS
          rw [hq1] at c0 hS
          rw [Int.toNat_natCast] at hS
          have hti : (t : Int) < (ns.length : Int) := by omega
          have ht0 : (0 : Int) ≤ (t : Int) := by omega
          have hqi : (q : Int) < (cs.length : Int) := by omega
          have hq0 : (0 : Int) ≤ (q : Int) := by omega
          have hqn : q < cs.length := by omega
          generalize ns[t].2 = dd at *
          have hSt := Lib.hid hS
          clear hS hq1
          have hw9 : IntKind.i64.wrap (dd + vv) = dd + vv := IntWalk.i64_in _ (by omega)
          have ha := (Below.refl wr.heap.size wr).alloc (Nat.le_refl _) (.cells #[.int .i64 q, .int .i64 dd] 117)
          have hDn := Lib.hid (hG.out.below ha).drew
          have hkn := Lib.hid (keeps_t9 hKq.out (keeps_t9 (keeps_below9 (n := w.heap.size) (Bs := Bs) (t := 28) ha hG.out.be.size) (keeps_drew9 _)))
          have hX : CB 117 (wr.alloc (.cells #[.int .i64 q, .int .i64 dd] 117)).drew wr.heap.size [.int .i64 q, .int .i64 dd] := heap_alloc_new wr _
          have hXh := Lib.hid hX
          have hbn := Lib.hid (hBq.out.trans ((ha.mono hG.out.be.size).drew))
          have hzn := Lib.hid (Nat.le_trans hZq.out (Nat.le_trans ha.size (Nat.le_refl (wr.alloc (.cells #[.int .i64 q, .int .i64 dd] 117)).drew.heap.size)))
          clear ha hX
          gi_wp2
          obtain ⟨gx, hgx⟩ : ∃ gx, gx = wr.heap.size := ⟨_, rfl⟩
          have hgp : Hid (gx ≠ p2) := by rw [Hid, hgx]; have := CB.lt hG.out.ib; omega
          rw [← hgx] at hXh ⊢
          have Hgx := Lib.hid hgx
          clear hgx c0 c1
          have d3 := CB.cell hDn.out.b3 0
          have e0 := CB.cell hXh.out 0
          have e1 := CB.cell hXh.out 1
          simp only [List.getElem?_cons_zero, List.getElem?_cons_succ] at d3 e0 e1
          obtain ⟨dk, _⟩ := hDn.out.at k (by rw [hTl.out, hln]; exact hk')
          rw [hTo.out] at dk
          obtain ⟨dq, fq⟩ := hDn.out.at q (by rw [hTl.out, hln]; exact hqn)
          generalize (HT9 t).getD q 0 = yq at *
          have hDp := hDn.out.put q (max yq (dd + vv))
          rw [← hSt.out] at hDp
          have hDq := Lib.hid hDp
          clear hDp
          have hkp := Lib.hid (keeps_t9 hkn.out (keeps_cb (k := q) (v := .int .i64 (max yq (dd + vv))) hDn.out.ib (by have := hDn.out.h1; have := hDn.out.h12; omega) (by have := hDn.out.h23; have := Zb.out; omega)))
          have hbp := Lib.hid (hbn.out.setCell (p := ⟨p2, q, none⟩) (by show w.heap.size ≤ p2; have := hDn.out.h1; have := hDn.out.h12; omega) (.int .i64 (max yq (dd + vv))))
          have hzp := Lib.hid (show Bs + 1 ≤ ((wr.alloc (.cells #[.int .i64 q, .int .i64 dd] 117)).drew.setCell ⟨p2, q, none⟩ (.int .i64 (max yq (dd + vv)))).heap.size by rw [World.size_setCell]; exact hzn.out)
          have hXp : CB 117 _ gx [.int .i64 q, .int .i64 dd] := (Below.heap_setCell (wr.alloc (.cells #[.int .i64 q, .int .i64 dd] 117)).drew ⟨p2, q, none⟩ (.int .i64 (max yq (dd + vv))) gx (by show gx ≠ p2; exact hgp.out)).trans hXh.out
          have h3 := CB.cell hDq.out.b3 0
          have i0 := CB.cell hXp 0
          have i1 := CB.cell hXp 1
          simp only [List.getElem?_cons_zero, List.getElem?_cons_succ] at h3 i0 i1
          obtain ⟨ik, _⟩ := hDq.out.at k (by rw [hTl.out, hln]; exact hk')
          rw [hTo.out] at ik
          clear hXp
          generalize wr.alloc (.cells #[.int .i64 q, .int .i64 dd] 117) = Wn at *
          -- REGION 9 BEGIN
          have hS0 : (fun w' => w'.cell? ⟨p3, 0, none⟩ = some (.slice (some ⟨p2, 0, none⟩) cs.length cs.length) ∧ w'.cell? ⟨gx, 0, none⟩ = some (.int .i64 (q : Int)) ∧ w'.cell? ⟨gx, 1, none⟩ = some (.int .i64 dd) ∧ w'.cell? ⟨p2, k, none⟩ = some (.int .i64 vv)) Wn.drew := ⟨d3, e0, e1, dk⟩
          refine region_round (S := fun w' => w'.cell? ⟨p3, 0, none⟩ = some (.slice (some ⟨p2, 0, none⟩) cs.length cs.length) ∧ w'.cell? ⟨gx, 0, none⟩ = some (.int .i64 (q : Int)) ∧ w'.cell? ⟨gx, 1, none⟩ = some (.int .i64 dd) ∧ w'.cell? ⟨p2, k, none⟩ = some (.int .i64 vv)) (by kernel_rfl) (by kernel_rfl) (fun _ _ h => h) hS0 (fun hHeld => ?_)
          refine wpAnyH_take (i := 0) (v := ?_) rfl (by kernel_rfl) (by kernel_rfl) (by kernel_rfl) (fun _ _ _ h => h) (Or.inl ⟨by rfl, ?_⟩) (by assumption) ?_
          rotate_left 1
          · (intro w hSw; (try dsimp only at hSw); go_simp; try with_reducible rfl)
          try simp only [Act.put, List.setIfInBounds_toArray, List.set_cons_zero, List.set_cons_succ]
          refine wpAnyH_take (i := 1) (v := ?_) rfl (by kernel_rfl) (by kernel_rfl) (by kernel_rfl) (fun _ _ _ h => h) (Or.inl ⟨by rfl, ?_⟩) (by assumption) ?_
          rotate_left 1
          · (intro w hSw; (try dsimp only at hSw); go_simp; try with_reducible rfl)
          try simp only [Act.put, List.setIfInBounds_toArray, List.set_cons_zero, List.set_cons_succ]
          refine wpAnyH_take (i := 2) (v := ?_) rfl (by kernel_rfl) (by kernel_rfl) (by kernel_rfl) (fun _ _ _ h => h) (Or.inl ⟨by rfl, ?_⟩) (by assumption) ?_
          rotate_left 1
          · (intro w hSw; (try dsimp only at hSw); go_simp; try with_reducible rfl)
          try simp only [Act.put, List.setIfInBounds_toArray, List.set_cons_zero, List.set_cons_succ]
          refine wpAnyH_take (i := 3) (v := ?_) rfl (by kernel_rfl) (by kernel_rfl) (by kernel_rfl) (fun _ _ _ h => h) (Or.inl ⟨by rfl, ?_⟩) (by assumption) ?_
          rotate_left 1
          · (intro w hSw; (try dsimp only at hSw); go_simp; try with_reducible rfl)
          try simp only [Act.put, List.setIfInBounds_toArray, List.set_cons_zero, List.set_cons_succ]
          refine wpAnyH_take (i := 4) (v := ?_) rfl (by kernel_rfl) (by kernel_rfl) (by kernel_rfl) (fun _ _ _ h => h) (Or.inl ⟨by rfl, ?_⟩) (by assumption) ?_
          rotate_left 1
          · (intro w hSw; (try dsimp only at hSw); go_simp; try with_reducible rfl)
          try simp only [Act.put, List.setIfInBounds_toArray, List.set_cons_zero, List.set_cons_succ]
          refine wpAnyH_take (i := 5) (v := ?_) rfl (by kernel_rfl) (by kernel_rfl) (by kernel_rfl) (fun _ _ _ h => h) (Or.inl ⟨by rfl, ?_⟩) (by assumption) ?_
          rotate_left 1
          · (intro w hSw; (try dsimp only at hSw); go_simp; try with_reducible rfl)
          try simp only [Act.put, List.setIfInBounds_toArray, List.set_cons_zero, List.set_cons_succ]
          refine wpAnyH_take (i := 6) (v := ?_) rfl (by kernel_rfl) (by kernel_rfl) (by kernel_rfl) (fun _ _ _ h => h) (Or.inl ⟨by rfl, ?_⟩) (by assumption) ?_
          rotate_left 1
          · (intro w hSw; (try dsimp only at hSw); go_simp; try with_reducible rfl)
          try simp only [Act.put, List.setIfInBounds_toArray, List.set_cons_zero, List.set_cons_succ]
          refine wpAnyH_take (i := 8) (v := ?_) rfl (by kernel_rfl) (by kernel_rfl) (by kernel_rfl) (fun _ _ _ h => h) (Or.inl ⟨by rfl, ?_⟩) (by assumption) ?_
          rotate_left 1
          · (intro w hSw; (try dsimp only at hSw); go_simp; try with_reducible rfl)
          try simp only [Act.put, List.setIfInBounds_toArray, List.set_cons_zero, List.set_cons_succ]
          refine wpAnyH_take (i := 9) (v := ?_) rfl (by kernel_rfl) (by kernel_rfl) (by kernel_rfl) (fun _ _ _ h => h) (Or.inl ⟨by rfl, ?_⟩) (by assumption) ?_
          rotate_left 1
          · (intro w hSw; (try dsimp only at hSw); go_simp; try with_reducible rfl)
          try simp only [Act.put, List.setIfInBounds_toArray, List.set_cons_zero, List.set_cons_succ]
          refine wpAnyH_take (i := 10) (v := ?_) rfl (by kernel_rfl) (by kernel_rfl) (by kernel_rfl) (fun _ _ _ h => h) (Or.inl ⟨by rfl, ?_⟩) (by assumption) ?_
          rotate_left 1
          · (intro w hSw; (try dsimp only at hSw); go_simp; try with_reducible rfl)
          try simp only [Act.put, List.setIfInBounds_toArray, List.set_cons_zero, List.set_cons_succ]
          refine wpAnyH_take (i := 11) (v := ?_) rfl (by kernel_rfl) (by kernel_rfl) (by kernel_rfl) (fun _ _ _ h => h) (Or.inl ⟨by rfl, ?_⟩) (by assumption) ?_
          rotate_left 1
          · (intro w hSw; (try dsimp only at hSw); go_simp; try with_reducible rfl)
          try simp only [Act.put, List.setIfInBounds_toArray, List.set_cons_zero, List.set_cons_succ]
          refine wpAnyH_take (i := 12) (v := ?_) rfl (by kernel_rfl) (by kernel_rfl) (by kernel_rfl) (fun _ _ _ h => h) (Or.inl ⟨by rfl, ?_⟩) (by assumption) ?_
          rotate_left 1
          · (intro w hSw; (try dsimp only at hSw); go_simp; try with_reducible rfl)
          try simp only [Act.put, List.setIfInBounds_toArray, List.set_cons_zero, List.set_cons_succ]
          refine wpAnyH_take (i := 13) (v := ?_) rfl (by kernel_rfl) (by kernel_rfl) (by kernel_rfl) (fun _ _ _ h => h) (Or.inl ⟨by rfl, ?_⟩) (by assumption) ?_
          rotate_left 1
          · (intro w hSw; (try dsimp only at hSw); go_simp; try with_reducible rfl)
          try simp only [Act.put, List.setIfInBounds_toArray, List.set_cons_zero, List.set_cons_succ]
          refine wpAnyH_take (i := 14) (v := ?_) rfl (by kernel_rfl) (by kernel_rfl) (by kernel_rfl) (fun _ _ _ h => h) (Or.inl ⟨by rfl, ?_⟩) (by assumption) ?_
          rotate_left 1
          · (intro w hSw; (try dsimp only at hSw); go_simp; try with_reducible rfl)
          try simp only [Act.put, List.setIfInBounds_toArray, List.set_cons_zero, List.set_cons_succ]
          refine wpAnyH_ready (rs := [7]) (by kernel_rfl) (by simp) ?_
          refine AllReadyH.cons rfl (fun K hK => ?_) AllReadyH.nil
          try simp only [List.getElem_toArray, List.getElem_cons_zero, List.getElem_cons_succ]
          go_simp
          refine hK.out _ _ ⟨d3, e0, e1, dk⟩ (fun hHeld => ?_)
          clear hK K
          try simp only [Act.put, List.setIfInBounds_toArray, List.set_cons_zero, List.set_cons_succ]
          refine wpAnyH_take (i := 15) (v := ?_) rfl (by kernel_rfl) (by kernel_rfl) (by kernel_rfl) (fun _ _ _ h => h) (Or.inl ⟨by rfl, ?_⟩) (by assumption) ?_
          rotate_left 1
          · (intro w hSw; (try dsimp only at hSw); go_simp; try with_reducible rfl)
          try simp only [Act.put, List.setIfInBounds_toArray, List.set_cons_zero, List.set_cons_succ]
          refine wpAnyH_take (i := 16) (v := ?_) rfl (by kernel_rfl) (by kernel_rfl) (by kernel_rfl) (fun _ _ _ h => h) (Or.inl ⟨by rfl, ?_⟩) (by assumption) ?_
          rotate_left 1
          · (intro w hSw; (try dsimp only at hSw); go_simp; try with_reducible rfl)
          try simp only [Act.put, List.setIfInBounds_toArray, List.set_cons_zero, List.set_cons_succ]
          refine wpAnyH_ready (rs := [17]) (by kernel_rfl) (by simp) ?_
          refine AllReadyH.cons rfl (fun K hK => ?_) AllReadyH.nil
          try simp only [List.getElem_toArray, List.getElem_cons_zero, List.getElem_cons_succ]
          go_simp
          refine hK.out _ _ ⟨h3, i0, i1, ik⟩ (fun hHeld => ?_)
          clear hK K
          try simp only [Act.put, List.setIfInBounds_toArray, List.set_cons_zero, List.set_cons_succ]
          refine wpAnyH_done (by kernel_rfl) ?_ _
          try simp only [Act.put, List.setIfInBounds_toArray, List.set_cons_zero, List.set_cons_succ]
          -- REGION 9 END
          dsimp only [OnlyN]
          clear d3 e0 e1 dk dq fq h3 i0 i1 ik hS0
          gi_wp2
          go_roundw
          case rel => exact ⟨t + 1, by omega, by go_num, hDq.out, hkp.out, hzp.out, hbp.out⟩
          case measure => simp [intOf]; omega
        · obtain rfl : t = ns.length := by omega
          gi_wp2
          refine ⟨hKq.out.1.from _, hKq.out.2, ?_, hZq.out⟩
          rw [HP.out, hsn.out, hSe.out]; exact hG.out
  case done =>
    rintro D ys W hD rfl ⟨hHG, _⟩ hK
    rw [hgP_all] at hHG
    have hDw : w.heap.size ≤ D := Nat.le_trans B9.out.size hD
    have u3 := CB.cell hHG.b3 0
    simp only [List.getElem?_cons_zero] at u3
    have hHh := Lib.hid hHG
    have hKh := Lib.hid hK
    clear hHG hK
    gi_wp2
    have rD : ∀ r, some D = some r → w.heap.size ≤ r ∧ ∃ o : Obj, W.heap[r]? = some o ∧ o.isCells = false := fun r e => by cases e; exact ⟨hDw, _, hKh.out, rfl⟩
    have hL2 := hHh.out.kept (grownBy_putObj' W D (.deferred none)) rD
    have hib : IB (W.putObj D (.deferred none)) p2 3 (hL cs) := hL2.ib
    have hX := OW.ofIB (lo := w.heap.size) (hi := (W.putObj D (.deferred none)).heap.size) hib (by rw [hL_len]; omega) (by have := hL2.h1; have := hL2.h12; omega) (CB.lt hL2.ib)
    rw [hL_len] at hX
    refine ⟨by simp, .inl ⟨_, _, rfl, run_takeDeferred hKh.out, ?_⟩⟩
    exact ⟨_, results_tmp rfl _ _ _, some ⟨p2, 0, none⟩, cs.length, by rw [hL_len]; rfl, by rw [hL_len]; exact hX, hL2.be⟩
end Go.Proofs.Ytpgdccfpegdcoaa

/- Chapter 9: heights of the model. -/
namespace Go.Proofs.Ytpgdccfpegdcoaa
open Go.RowKit
set_option linter.unusedVariables false
set_option maxRecDepth 100000

set_option maxHeartbeats 8000000 in
theorem orHeights_any (L B : Nat) (A : Option Addr) (c : Nat) (cs : List In) (w : World) (hl : cs.length ≤ 20) (hgood : ∀ x ∈ cs, goodIn x = true) (hes : RS In.enc 5 w L B A cs) (hB : B ≤ w.heap.size) :
    Calls Try.prog 143 #[.slice A cs.length c] w (FreshI w (hL cs)) := by
  have H := Lib.hid (orDelays_any L B A c cs w hl hgood hes hB)
  have hmk := run_make_ints cs.length (by omega)
  have hE := Lib.hid fun (W : World) (hW : Below w.heap.size w W) => hes.below hW hB
  have hRl := Lib.hid (dRows_len cs cs.length)
  have hRa := Lib.hid fun (i : Nat) (h : i < (dRows cs cs.length).length) => dRows_at cs cs.length h
  have hTl := Lib.hid (dTab_len cs)
  have hTa := Lib.hid fun (i j : Nat) (h : j < (dTab cs i cs.length).length) => dTab_at cs i cs.length h
  have hZ0 : Hid (zeros cs.length = hz cs cs.length) := (hz_top cs).symm
  have hZb := Lib.hid (hz_bot cs)
  have hZl := Lib.hid (hz_len cs)
  have hIl := Lib.hid (hzr_len cs)
  have hIz := Lib.hid (hzr_start cs)
  have hIe := Lib.hid fun (i : Nat) (h : i < cs.length) => hzr_end h
  have hIy := Lib.hid fun (i j : Nat) (hi : i < cs.length) (hij : i < j) (hj : j < cs.length) (h : 0 ≤ dT cs i j) => hzr_yes hi hij hj h
  have hIn := Lib.hid fun (i j : Nat) (h : ¬ 0 ≤ dT cs i j) => hzr_no h
  have hIb := Lib.hid fun (i j : Nat) (hi : i < cs.length) => hzr_bd hl j hi
  have hIg := Lib.hid fun (i j q : Nat) (h1 : i < q) (h2 : q < cs.length) => hzr_gt (j := j) h1 h2
  have hHb := Lib.hid fun (q : Nat) => hH_bd hl q
  have hDb := Lib.hid fun (i j : Nat) => dT_bd cs i j
  have hLl := Lib.hid (hL_len cs)
  have hGd := Lib.hid hgood
  have hCe : Hid (∀ i (h : i < cs.length), cstA cs i = (fm cs[i].op).c) := fun i h => by unfold cstA; rw [inAt_eq h]
  have hsub : IntKind.i64.wrap ((cs.length : Int) - 1) = (cs.length : Int) - 1 := IntWalk.i64_in _ (by omega)
  clear hes hgood hB
  generalize dRows cs cs.length = TT at *
  generalize dTab cs = T at *
  generalize dT cs = E at *
  generalize hz cs = HZ at *
  generalize hzr cs = HR at *
  generalize hL cs = HL at *
  generalize hH cs = HH at *
  generalize cstA cs = CA at *
  go_enter Try.func143, Try.ntmps143
  go_wp2_with (fail)
  refine H.out.mono ?_
  rintro e w1 ⟨At, ct, rfl, hox, hb1⟩
  have hXT := Lib.hid (OX.rs hox)
  have hB1 := Lib.hid hb1
  have hO0 : Hid (OW (w1.alloc (.cells (intCells (zeros cs.length)) 3)) w1.heap.size (w1.alloc (.cells (intCells (zeros cs.length)) 3)).heap.size (.slice (some ⟨w1.heap.size, 0, none⟩) cs.length cs.length) (HZ cs.length)) := by
    have h : IB (w1.alloc (.cells (intCells (zeros cs.length)) 3)) w1.heap.size 3 (zeros cs.length) := heap_alloc_new w1 _
    have h2 := OW.ofIB (lo := w1.heap.size) (hi := (w1.alloc (.cells (intCells (zeros cs.length)) 3)).heap.size) h (by simp [zeros]; omega) (Nat.le_refl _) (by simp)
    have hz : (zeros cs.length).length = cs.length := by simp [zeros]
    rw [hz, hZ0.out] at h2
    rw [hZ0.out]
    exact h2
  have hb2 := Lib.hid ((Below.refl w1.heap.size w1).alloc (Nat.le_refl _) (.cells (intCells (zeros cs.length)) 3))
  clear hox hb1
  rw [hRl.out]
  go_wp2_with (fail)
  clear hmk
  generalize hg : w1.heap.size = g at hO0 ⊢
  generalize w1.alloc (.cells (intCells (zeros cs.length)) 3) = W2 at *
  have hG := Lib.hid hg
  clear hg
  go_loopw [5] (fun q wr => ∃ k : Nat, k ≤ cs.length ∧ q = .int .i64 ((k : Int) - 1) ∧ OW wr g wr.heap.size (.slice (some ⟨g, 0, none⟩) cs.length cs.length) (HZ k) ∧ Below w1.heap.size w1 wr) (fun q _ => (intOf q + 1).toNat)
  case atStart => exact ⟨cs.length, Nat.le_refl _, rfl, hO0.out, hb2.out⟩
  case round =>
    clear hO0 hb2
    obtain ⟨k, hk, rfl, how, hbel⟩ := hrel
    have hO := Lib.hid how
    have hBL := Lib.hid hbel
    clear how hbel
    rcases Nat.eq_zero_or_pos k with rfl | hpos
    · have hfin := Lib.hid (hB1.out.trans (hBL.out.mono hB1.out.size))
      have hlg : w.heap.size ≤ g := by rw [← hG.out]; exact hB1.out.size
      have hO9 := Lib.hid (hO.out.lower hlg)
      rw [hZb.out] at hO9
      clear hlg
      go_wp2
      go_ret
      exact ⟨_, _, by rw [hLl.out]; rfl, by rw [hLl.out]; exact hO9.out, hfin.out⟩
    · obtain ⟨p, rfl⟩ : ∃ p, k = p + 1 := ⟨k - 1, by omega⟩
      have hp1 : (((p + 1 : Nat) : Int) - 1) = (p : Int) := by omega
      rw [hp1]
      clear hp1
      have hlt : p < cs.length := by omega
      have hji : (p : Int) < (cs.length : Int) := by omega
      have hj0 : (0 : Int) ≤ (p : Int) := by omega
      have hws : IntKind.i64.wrap ((p : Int) - 1) = (p : Int) - 1 := IntWalk.i64_in _ (by omega)
      have hbw := Lib.hid (hB1.out.trans (hBL.out.mono hB1.out.size))
      obtain ⟨b, o, rfl, ⟨_, hbB⟩, hc⟩ := In.cells (hE.out wr hbw.out) (by omega)
      obtain ⟨c1, _⟩ := hc p hlt
      have hok := (good_parts (hGd.out _ (List.getElem_mem hlt))).2.2.2.1
      have hce := hCe.out p hlt
      have hC := Lib.hid fun (W : World) => cdCost_any cs[p].op W hok
      rw [← hce] at hC
      clear hc hok hce
      generalize cs[p].op = op at *
      have hIp := Lib.hid (hIz.out p)
      obtain ⟨_, fp⟩ := OW.at9 hO.out p (by rw [hZl.out]; exact hlt)
      obtain ⟨op0, _⟩ := OW.at9 hO.out p (by rw [hZl.out]; exact hlt)
      have hP3 := hO.out.put9 p (CA p)
      rw [← hIp.out] at hP3
      have hzs : (wr.setCell ⟨g, p, none⟩ (.int .i64 (CA p))).heap.size = wr.heap.size := World.size_setCell _ _ _
      have hO3 := Lib.hid (show OW (wr.setCell ⟨g, p, none⟩ (.int .i64 (CA p))) g (wr.setCell ⟨g, p, none⟩ (.int .i64 (CA p))).heap.size (.slice (some ⟨g, 0, none⟩) cs.length cs.length) (HR p (p + 1)) from by rw [hzs]; exact hP3)
      have hb3 := Lib.hid (hBL.out.setCell (p := ⟨g, p, none⟩) (by rw [hG.out]; exact Nat.le_refl _) (.int .i64 (CA p)))
      clear hP3 hzs
      go_wp2_with (fail)
      refine (hC.out _).mono ?_
      rintro e w3 ⟨rfl, rfl⟩
      go_wp2
      clear c1 fp op0 hO hBL hC
      generalize wr.setCell ⟨g, p, none⟩ (.int .i64 (CA p)) = W3 at *
      go_loopw [6] (fun q wq => ∃ j : Nat, p < j ∧ j ≤ cs.length ∧ q = .int .i64 j ∧ OW wq g wq.heap.size (.slice (some ⟨g, 0, none⟩) cs.length cs.length) (HR p j) ∧ Below w1.heap.size w1 wq) (fun q _ => cs.length - (intOf q).toNat)
      case atStart => exact ⟨p + 1, Nat.lt_succ_self _, hlt, by go_num, hO3.out, hb3.out⟩
      case round =>
        clear hO3 hb3
        obtain ⟨j, hpj, hj, rfl, how, hbel⟩ := hrel
        have hO := Lib.hid how
        have hBL := Lib.hid hbel
        clear how hbel
        by_cases hjn : j < cs.length
        · have hjin : (j : Int) < (cs.length : Int) := by omega
          have hj00 : (0 : Int) ≤ (j : Int) := by omega
          obtain ⟨xb, xo, Ai, ci, rfl, hxb, xc0, hI⟩ := XS.at hXT.out (show p < TT.length by rw [hRl.out]; omega)
          rw [hRa.out p (by rw [hRl.out]; omega)] at xc0 hI
          rw [hTl.out] at xc0
          obtain ⟨rb, ro, rfl, ⟨_, hrb⟩, hcc⟩ := hI (by rw [hTl.out]; omega)
          have rc0 := hcc j (by rw [hTl.out]; exact hjn)
          rw [hTa.out p j (by rw [hTl.out]; exact hjn)] at rc0
          have xc := (hBL.out.cell (p := ⟨xb, xo + p, none⟩) hxb).trans xc0
          have rc := (hBL.out.cell (p := ⟨rb, ro + j, none⟩) hrb).trans rc0
          have hlen := hIl.out p j
          obtain ⟨oj, fj⟩ := OW.at9 hO.out p (by rw [hlen]; exact hlt)
          obtain ⟨oi, _⟩ := OW.at9 hO.out j (by rw [hlen]; omega)
          have hY := Lib.hid (hIy.out p j hlt hpj hjn)
          have hN := Lib.hid (hIn.out p j)
          have hb0 := hIg.out p j j hpj hjn
          have hb00 := hHb.out j
          rw [← hb0] at hb00
          have hb1 := hDb.out p j
          have hPut := Lib.hid fun (x : Int) => hO.out.put9 p x
          clear hcc hI xc0 rc0 hb0
          generalize hTT : HR p (j + 1) = En at *
          have hTh := Lib.hid hTT
          clear hTT
          generalize HR p j = xs at *
          generalize E p j = dd at *
          generalize xs.getD p 0 = yj at *
          generalize xs.getD j 0 = yi at *
          have hw9 : IntKind.i64.wrap (dd + yi) = dd + yi := IntWalk.i64_in _ (by omega)
          by_cases h0 : 0 ≤ dd
          · have hY2 := Lib.hid (hY.out h0)
            clear hY hN
            have hlg : w1.heap.size ≤ g := by rw [hG.out]; exact Nat.le_refl _
            have hBs := Lib.hid ((hBL.out.setCell (p := ⟨g, p, none⟩) hlg (.int .i64 (max yj (dd + yi)))).drew)
            clear hlg
            have hfin := Lib.hid (show OW (wr.setCell ⟨g, p, none⟩ (.int .i64 (max yj (dd + yi)))).drew g (wr.setCell ⟨g, p, none⟩ (.int .i64 (max yj (dd + yi)))).drew.heap.size (.slice (some ⟨g, 0, none⟩) cs.length cs.length) En from by
              rw [hY2.out]
              have hz : (wr.setCell ⟨g, p, none⟩ (.int .i64 (max yj (dd + yi)))).heap.size = wr.heap.size := World.size_setCell _ _ _
              show OW (wr.setCell ⟨g, p, none⟩ (.int .i64 (max yj (dd + yi)))) g (wr.setCell ⟨g, p, none⟩ (.int .i64 (max yj (dd + yi)))).heap.size _ _
              rw [hz]; exact hPut.out _)
            go_wp2_with (fail)
            go_region_law (go_simp; go_at_call 141; (with_reducible refine (l1Most_9 _ _ _).mono ?_); rintro e w' ⟨rfl, rfl⟩)
            all_goals
              go_wp2
              go_roundw
              case rel => exact ⟨j + 1, by omega, by omega, by go_num, by rw [hTh.out]; exact hfin.out, hBs.out⟩
              case measure => simp [intOf]; omega
          · have hN2 := Lib.hid (hN.out (by omega))
            clear hY hN
            go_wp2
            go_roundw
            case rel => exact ⟨j + 1, by omega, by omega, by go_num, by rw [hTh.out, hN2.out]; exact hO.out, hBL.out⟩
            case measure => simp [intOf]; omega
        · obtain rfl : j = cs.length := by omega
          have hE9 := Lib.hid (hIe.out p hlt)
          go_wp2
          go_roundw
          case rel => exact ⟨p, by omega, rfl, by rw [← hE9.out]; exact hO.out, hBL.out⟩
          case measure => simp [intOf] <;> omega
end Go.Proofs.Ytpgdccfpegdcoaa

/- Chapter 9: PathBound of the model. -/
namespace Go.Proofs.Ytpgdccfpegdcoaa
open Go.RowKit
set_option linter.unusedVariables false
set_option maxRecDepth 100000

theorem mx_take (l : List Int) (a : Int) {k : Nat} (h : k < l.length) : mx (l.take (k + 1)) a = max (mx (l.take k) a) (l.getD k 0) := by
  rw [List.take_succ_eq_append_getElem h, mx_snoc, List.getD_eq_getElem?_getD, List.getElem?_eq_getElem h]; rfl
def pbV (cs : List In) : Int := mx (hL cs) 0
def pbR (cs : List In) : Int := if orGood cs = true then pbV cs else 0
theorem pbR_yes {cs : List In} (h : orGood cs = true) : pbR cs = pbV cs := by unfold pbR; rw [if_pos h]
theorem pbR_no {cs : List In} (h : orGood cs = false) : pbR cs = 0 := by unfold pbR; rw [h]; rfl
set_option maxHeartbeats 4000000 in
theorem orPath_any (L B : Nat) (A : Option Addr) (c : Nat) (cs : List In) (w : World) (hl : cs.length ≤ 20) (hgood : ∀ x ∈ cs, goodIn x = true) (hes : RS In.enc 5 w L B A cs) (hB : B ≤ w.heap.size) :
    Calls Try.prog 114 #[.slice A cs.length c] w fun e w' => e = .returned (.int .i64 (pbV cs)) ∧ Below w.heap.size w w' := by
  have H := Lib.hid (orHeights_any L B A c cs w hl hgood hes hB)
  have hM := Lib.hid fun (k : Nat) (h : k < (hL cs).length) => mx_take (hL cs) 0 h
  have hP : Hid (pbV cs = mx ((hL cs).take (hL cs).length) 0) := by rw [Hid, List.take_length]; rfl
  have h00 : Hid (mx ((hL cs).take 0) 0 = 0) := rfl
  have hLl := Lib.hid (hL_len cs)
  clear hes hgood hB
  generalize pbV cs = P at *
  generalize hMX : (fun k => mx ((hL cs).take k) 0) = M at *
  have hM0 : ∀ k, mx ((hL cs).take k) 0 = M k := fun k => congrFun hMX k
  have hP2 : Hid (P = M (hL cs).length) := by rw [Hid, hP.out, hM0]
  have h02 : Hid (M 0 = 0) := by rw [Hid, ← hM0]; rfl
  have hM2 : Hid (∀ k, k < (hL cs).length → M (k + 1) = max (M k) ((hL cs).getD k 0)) := by
    intro k hk; rw [← hM0, ← hM0]; exact hM.out k hk
  have hl2 : (hL cs).length ≤ 20 := by rw [hLl.out]; exact hl
  clear hM hP h00 hMX hM0
  generalize hL cs = hs at *
  go_enter Try.func114, Try.ntmps114
  go_wp2_with (fail)
  refine H.out.mono ?_
  rintro e w1 ⟨A1, c1, rfl, ho1, hb1⟩
  have hIS := Lib.hid (OW.rs ho1)
  have hB1 := Lib.hid hb1
  clear ho1 hb1 H
  go_wp2
  go_loop [3, 9] (fun v q => ∃ k : Nat, k ≤ hs.length ∧ q = .int .i64 k ∧ v = .int .i64 (M k)) (fun _ q => hs.length - (intOf q).toNat)
  case atStart => exact ⟨0, Nat.zero_le _, rfl, by rw [h02.out]⟩
  case round =>
    obtain ⟨k, hk, rfl, rfl⟩ := hrel
    by_cases hlt : k < hs.length
    · have hki : (k : Int) < (hs.length : Int) := by omega
      have hk0 : (0 : Int) ≤ (k : Int) := by omega
      obtain ⟨xb, xo, rfl, _, hxc⟩ := hIS.out (by omega)
      have x0 := hxc k hlt
      have hgd : hs.getD k 0 = hs[k] := by rw [List.getD_eq_getElem?_getD, List.getElem?_eq_getElem hlt]; rfl
      have hMk := hM2.out k hlt
      rw [hgd] at hMk
      have hMk := Lib.hid hMk
      clear hxc hgd
      generalize hs[k] = y at *
      go_wp2_with (fail)
      refine (l1Most_9 _ _ _).mono ?_
      rintro e w3 ⟨rfl, rfl⟩
      go_wp2
      go_round
      case rel => exact ⟨k + 1, by omega, by go_num, by rw [hMk.out]⟩
      case measure => simp [intOf]; omega
    · obtain rfl : k = hs.length := by omega
      go_wp2
      go_ret
      exact ⟨by rw [hP2.out]; rfl, hB1.out⟩
set_option maxHeartbeats 4000000 in
theorem sPathBound_k (L B : Nat) (A : Option Addr) (c : Nat) (cs : List In) (w : World) (hl : cs.length ≤ 1048576) (hes : RS In.enc 5 w L B A cs) (hB : B ≤ w.heap.size) :
    Calls Try.prog 56 #[.slice A cs.length c] w (ResPathBound (pbR cs) (orGood cs) w) := by
  have H := Lib.hid (orGood_any L B A c cs w hl hes hB)
  cases hg : orGood cs
  · have hR := Lib.hid (pbR_no hg)
    rw [hg] at H
    clear hg hes
    generalize pbR cs = R at *
    go_enter Try.func56, Try.ntmps56
    go_wp2_with (fail)
    refine H.out.mono ?_
    rintro e w1 ⟨rfl, hb1⟩
    have hB1 := Lib.hid hb1
    clear hb1
    go_wp2
    go_ret2
    rw [hR.out]
    exact ⟨rfl, hB1.out⟩
  · have hR := Lib.hid (pbR_yes hg)
    have hGp := orGood_parts hg
    have HE := Lib.hid fun (W : World) (hW : Below w.heap.size w W) => orPath_any L B A c cs W hGp.1 hGp.2 (hes.below hW hB) (Nat.le_trans hB hW.size)
    rw [hg] at H
    clear hg hes hGp
    generalize pbR cs = R at *
    generalize pbV cs = E at *
    go_enter Try.func56, Try.ntmps56
    go_wp2_with (fail)
    refine H.out.mono ?_
    rintro e w1 ⟨rfl, hb1⟩
    have hB1 := Lib.hid hb1
    clear hb1
    go_wp2_with (fail)
    refine (HE.out _ hB1.out).mono ?_
    rintro e w2 ⟨rfl, hb2⟩
    have hB2 := Lib.hid (hB1.out.trans (hb2.mono hB1.out.size))
    clear hb2
    go_wp2
    go_ret2
    rw [hR.out]
    exact ⟨rfl, hB2.out⟩
end Go.Proofs.Ytpgdccfpegdcoaa

/- Chapter 9: PathBound of the program. -/
namespace Go.Proofs.Ytpgdccfpegdcoaa
open Go.RowKit
set_option linter.unusedVariables false
set_option maxRecDepth 100000

set_option maxHeartbeats 4000000 in
theorem pathBound_any (L B : Nat) (A : Option Addr) (c : Nat) (cs : List In) (L1 B1 : Nat) (An : Option Addr) (cn : Nat) (w : World) (h20 : cs.length ≤ 20) (hes : RS In.enc 5 w L B A cs) (hB : B ≤ w.heap.size) (hpn : PN w L1 B1 An (nds cs)) (hB1 : B1 ≤ w.heap.size) :
    Calls Try.prog 112 #[.agg #[.slice A cs.length c, .slice An cs.length cn]] w fun e w' => e = .returned (.int .i64 (pbV cs)) ∧ Below w.heap.size w w' := by
  have a1 := (Below.refl w.heap.size w).alloc (Nat.le_refl _) (.cells #[.slice A cs.length c, .slice An cs.length cn] 77)
  have H := Lib.hid (heights_any L B A c cs L1 B1 An cn (w.alloc (.cells #[.slice A cs.length c, .slice An cs.length cn] 77)) h20 (hes.below a1 hB) (Nat.le_trans hB a1.size) (hpn.below a1 hB1) (Nat.le_trans hB1 a1.size))
  have hP1 := Lib.hid (PB.new w (.slice A cs.length c) (.slice An cs.length cn))
  have hA1 := Lib.hid a1
  have hP : Hid (pbV cs = mx ((hL cs).take (hL cs).length) 0) := by rw [Hid, List.take_length]; rfl
  have hM := Lib.hid fun (k : Nat) (h : k < (hL cs).length) => mx_take (hL cs) 0 h
  have h00 : Hid (mx ((hL cs).take 0) 0 = 0) := rfl
  have hl2 : (hL cs).length ≤ 20 := by rw [hL_len]; exact h20
  clear hes hpn hB hB1 a1
  generalize pbV cs = P at *
  generalize hMX : (fun k => mx ((hL cs).take k) 0) = M at *
  have hM0 : ∀ k, mx ((hL cs).take k) 0 = M k := fun k => congrFun hMX k
  have hP2 : Hid (P = M (hL cs).length) := by rw [Hid, hP.out, hM0]
  have h02 : Hid (M 0 = 0) := by rw [Hid, ← hM0]; rfl
  have hM2 : Hid (∀ k, k < (hL cs).length → M (k + 1) = max (M k) ((hL cs).getD k 0)) := by
    intro k hk; rw [← hM0, ← hM0]; exact hM.out k hk
  clear hM hP h00 hMX hM0
  generalize hL cs = hs at *
  have q0 := PB.c0 hP1.out
  have q1 := PB.c1 hP1.out
  go_enter Try.func112, Try.ntmps112
  go_wp2_with (fail)
  refine H.out.mono ?_
  rintro e w1 ⟨A1, c1, rfl, ho1, hb1⟩
  have hIS := Lib.hid (OW.rs ho1)
  have hB1 := Lib.hid (hA1.out.trans (hb1.mono hA1.out.size))
  clear ho1 hb1 H q0 q1
  go_wp2
  go_loop [3, 9] (fun v q => ∃ k : Nat, k ≤ hs.length ∧ q = .int .i64 k ∧ v = .int .i64 (M k)) (fun _ q => hs.length - (intOf q).toNat)
  case atStart => exact ⟨0, Nat.zero_le _, rfl, by rw [h02.out]⟩
  case round =>
    obtain ⟨k, hk, rfl, rfl⟩ := hrel
    by_cases hlt : k < hs.length
    · have hki : (k : Int) < (hs.length : Int) := by omega
      have hk0 : (0 : Int) ≤ (k : Int) := by omega
      obtain ⟨xb, xo, rfl, _, hxc⟩ := hIS.out (by omega)
      have x0 := hxc k hlt
      have hgd : hs.getD k 0 = hs[k] := by rw [List.getD_eq_getElem?_getD, List.getElem?_eq_getElem hlt]; rfl
      have hMk := hM2.out k hlt
      rw [hgd] at hMk
      have hMk := Lib.hid hMk
      clear hxc hgd
      generalize hs[k] = y at *
      go_wp2
      go_round
      case rel => exact ⟨k + 1, by omega, by go_num, by rw [hMk.out]⟩
      case measure => simp [intOf]; omega
    · obtain rfl : k = hs.length := by omega
      go_wp2
      go_ret
      exact ⟨by rw [hP2.out]; rfl, hB1.out⟩
set_option maxHeartbeats 4000000 in
theorem iPathBound_k (L B : Nat) (A : Option Addr) (c : Nat) (cs : List In) (w : World) (hl : cs.length ≤ 1048576) (hes : RS In.enc 5 w L B A cs) (hB : B ≤ w.heap.size) (hcap : cs.length ≤ c) :
    Calls Try.prog 57 #[.slice A cs.length c] w (ResPathBound (pbR cs) (orGood cs) w) := by
  cases hg : orGood cs
  · have H := Lib.hid (planOf_no L B A c cs w hg hl hes hB hcap)
    have hR := Lib.hid (pbR_no hg)
    clear hg hes
    generalize pbR cs = R at *
    go_enter Try.func57, Try.ntmps57
    go_wp2_with (fail)
    refine H.out.mono ?_
    rintro e w1 ⟨rfl, hb1⟩
    have hB1 := Lib.hid (hb1.alloc hb1.size (.cells #[.slice none 0 0, .slice none 0 0] 77))
    clear hb1
    go_wp2
    go_ret2
    rw [hR.out]
    exact ⟨rfl, hB1.out⟩
  have H := Lib.hid (planOf_yes L B A c cs w hg hl hes hB hcap)
  have hR := Lib.hid (pbR_yes hg)
  have h20 := (orGood_parts hg).1
  have HE := Lib.hid fun (L1 B1 : Nat) (An : Option Addr) (cn : Nat) (W : World) (hW : Below w.heap.size w W) (hpn : PN W L1 B1 An (nds cs)) (hB1 : B1 ≤ W.heap.size) => pathBound_any L B A c cs L1 B1 An cn W h20 (hes.below hW hB) (Nat.le_trans hB hW.size) hpn hB1
  clear hg hes
  generalize pbR cs = R at *
  generalize pbV cs = E at *
  go_enter Try.func57, Try.ntmps57
  go_wp2_with (fail)
  refine H.out.mono ?_
  rintro e w1 ⟨An, cn, rfl, hpn, hb1⟩
  have a1 := (Below.refl w1.heap.size w1).alloc (Nat.le_refl _) (.cells #[.slice A cs.length c, .slice An cs.length cn] 77)
  have hB1 := Lib.hid (hb1.trans (a1.mono hb1.size))
  have hP1 := Lib.hid (PB.new w1 (.slice A cs.length c) (.slice An cs.length cn))
  have H2 := Lib.hid (HE.out _ _ An cn _ hB1.out (hpn.below a1 (Nat.le_refl _)) a1.size)
  clear a1 hb1 hpn
  have q0 := PB.c0 hP1.out
  have q1 := PB.c1 hP1.out
  go_wp2_with (fail)
  refine H2.out.mono ?_
  rintro e w3 ⟨rfl, hb3⟩
  have hB3 := Lib.hid (hB1.out.trans (hb3.mono hB1.out.size))
  clear hb3 q0 q1
  go_wp2
  go_ret2
  rw [hR.out]
  exact ⟨rfl, hB3.out⟩
end Go.Proofs.Ytpgdccfpegdcoaa

/- Arguments of the types []laws.Instr, laws.Instr and []int opened. -/
namespace Go.Proofs.Ytpgdccfpegdcoaa
open Go.ChangeShapes Go.WideShapes Go.ChangeAt Go.RowKit Go.Deep
open Go.ChangeMaps (open_string shut_string)
set_option linter.unusedVariables false

theorem cellsIn : Try.prog.cellsOf 59 = 5 := by kernel_rfl
theorem cellsStr : Try.prog.cellsOf 9 = 1 := by kernel_rfl
theorem cellsInt : Try.prog.cellsOf 3 = 1 := by kernel_rfl

set_option maxRecDepth 100000 in
theorem in_of_trod {H : Type} {enc : TypeId × Value → H} {w : World} {base : Nat} {spare : Nat → Bool} {held : Bool} {n : Nat} {cs : List Value} {x : DataW H × List MemPlace}
    (h : DataW.trod enc Try.prog w base spare held n 59 cs = some x) : ∃ nd : In, cs = nd.enc ∧ nd.op.size ≤ maxLen := by
  obtain ⟨xs, m, _, _, hlen, hxl, hf⟩ := DataW.trod_struct Try.underlying59 h
  rw [cellsIn] at hlen
  match cs, hlen with
  | [c0, c1, c2, c3, c4], _ =>
    match xs, hxl with
    | [y0, y1, y2, y3, y4], _ =>
      have h0 := hf 0 _ rfl
      change DataW.trod enc Try.prog w base spare held m 9 (([c0, c1, c2, c3, c4].drop 0).take (Try.prog.cellsOf 9)) = _ at h0
      rw [cellsStr] at h0
      have h1 := hf 1 _ rfl
      change DataW.trod enc Try.prog w base spare held m 3 (([c0, c1, c2, c3, c4].drop 1).take (Try.prog.cellsOf 3)) = _ at h1
      rw [cellsInt] at h1
      have h2 := hf 2 _ rfl
      change DataW.trod enc Try.prog w base spare held m 3 (([c0, c1, c2, c3, c4].drop 2).take (Try.prog.cellsOf 3)) = _ at h2
      rw [cellsInt] at h2
      have h3 := hf 3 _ rfl
      change DataW.trod enc Try.prog w base spare held m 3 (([c0, c1, c2, c3, c4].drop 3).take (Try.prog.cellsOf 3)) = _ at h3
      rw [cellsInt] at h3
      have h4 := hf 4 _ rfl
      change DataW.trod enc Try.prog w base spare held m 3 (([c0, c1, c2, c3, c4].drop 4).take (Try.prog.cellsOf 3)) = _ at h4
      rw [cellsInt] at h4
      obtain ⟨s, e0, _, hs⟩ := DataW.trod_string Try.underlying9 h0
      obtain ⟨d, e1, _, _⟩ := DataW.trod_int Try.underlying3 h1
      obtain ⟨a, e2, _, _⟩ := DataW.trod_int Try.underlying3 h2
      obtain ⟨b, e3, _, _⟩ := DataW.trod_int Try.underlying3 h3
      obtain ⟨m, e4, _, _⟩ := DataW.trod_int Try.underlying3 h4
      have e0 : c0 = .string s := by simpa using e0
      have e1 : c1 = .int .i64 d := by simpa using e1
      have e2 : c2 = .int .i64 a := by simpa using e2
      have e3 : c3 = .int .i64 b := by simpa using e3
      have e4 : c4 = .int .i64 m := by simpa using e4
      exact ⟨⟨s, d, a, b, m⟩, by rw [e0, e1, e2, e3, e4]; rfl, hs⟩

theorem cell_lt_heap {w : World} {a : Addr} {v : Value} (h : w.cell? a = some v) : a.block < w.heap.size := by
  rcases Nat.lt_or_ge a.block w.heap.size with hlt | hge
  · exact hlt
  · unfold World.cell? at h; rw [Array.getElem?_eq_none hge] at h; simp at h

set_option maxRecDepth 100000 in
theorem x_of_trod {H : Type} {enc : TypeId × Value → H} {w : World} {r : Reach} {b0 : Nat} {spare : Nat → Bool} {held : Bool} {v : Value} {d : DataW H} {p : List MemPlace}
    (hv : Value.okWide Try.prog w r b0 59 v) (h : DataW.Trod enc Try.prog w 0 spare held 59 v d p) :
    ∃ x : In, v = .agg #[.string x.op, .int .i64 x.d, .int .i64 x.a, .int .i64 x.b, .int .i64 x.m] ∧ x.op.size ≤ 9223372036854775807 := by
  obtain ⟨cs, rfl, hsz⟩ := okWide_struct Try.underlying59 hv
  obtain ⟨fuel, hf⟩ := h
  obtain ⟨x, hx, hs⟩ := in_of_trod hf
  refine ⟨x, ?_, by unfold maxLen at hs; omega⟩
  obtain ⟨l⟩ := cs
  have hx' : l = x.enc := by simpa [Value.cells] using hx
  subst hx'; rfl

set_option maxRecDepth 100000 in
theorem ins_of_trod {H : Type} {enc : TypeId × Value → H} {w : World} {spare : Nat → Bool} {held : Bool} {A : Option Addr} {len cap : Nat} {d : DataW H} {p : List MemPlace}
    (h : DataW.Trod enc Try.prog w 0 spare held 22 (.slice A len cap) d p) :
    ∃ es : List In, es.length = len ∧ RS In.enc 5 w 0 w.heap.size A es ∧ (∀ n ∈ es, n.op.size ≤ 9223372036854775807) ∧ len ≤ 9223372036854775807 := by
  obtain ⟨fuel, hf⟩ := h
  rcases open_slice Try.underlying22 hf with ⟨hcs, _⟩ | ⟨a, l, c, m, n, D, Pl, hcs, _, hl, hm, hmm, _, hi⟩
  · simp [Value.cells] at hcs
    obtain ⟨rfl, rfl, rfl⟩ := hcs
    exact ⟨[], rfl, fun h => absurd h (by simp), (fun n hn => by cases hn), by omega⟩
  · simp [Value.cells] at hcs
    obtain ⟨rfl, rfl, rfl⟩ := hcs
    have hlm : len ≤ m := by rw [hmm]; split <;> omega
    have hex : ∀ i, i < len → ∃ nd : In, (∀ j v, nd.enc[j]? = some v → w.cell? (a.add (i * 5 + j)) = some v) ∧ nd.op.size ≤ maxLen := by
      intro i hil
      obtain ⟨cs', hc, ht⟩ := hi i (by omega)
      rw [cellsIn] at hc
      obtain ⟨nd, rfl, hs⟩ := in_of_trod ht
      obtain ⟨_, _, hat⟩ := World.cells?_some hc
      refine ⟨nd, fun j v hv => ?_, hs⟩
      have hj : j < 5 := kflat_lt In.hk hv
      have := hat j hj
      rw [add_add, hv] at this; exact this
    obtain ⟨f, hf2⟩ := Classical.axiomOfChoice (fun i : {i // i < len} => hex i.1 i.2)
    have hget : ∀ i (h : i < (List.ofFn fun i : Fin len => f ⟨i.1, i.2⟩).length), (List.ofFn fun i : Fin len => f ⟨i.1, i.2⟩)[i] = f ⟨i, by simpa using h⟩ := fun i h => by simp
    refine ⟨List.ofFn fun i : Fin len => f ⟨i.1, i.2⟩, by simp, ?_, ?_, by unfold maxLen at hm; omega⟩
    · intro hpos
      have hpos' : 0 < len := by simpa using hpos
      have h0 := (hf2 ⟨0, hpos'⟩).1 0 _ rfl
      obtain ⟨b, o, spot⟩ := a
      have hspot : spot = none := by have := World.cell?_spot h0; simpa [Addr.add] using this
      subst hspot
      have hadd : ∀ k, (⟨b, o, none⟩ : Addr).add k = ⟨b, o + k, none⟩ := fun k => by simp [Addr.add]
      refine ⟨b, o, rfl, ⟨Nat.zero_le _, ?_⟩, fun i hi j v hv => ?_⟩
      · rw [hadd] at h0
        exact cell_lt_heap h0
      · have hi' : i < len := by simpa using hi
        rw [hget i hi] at hv
        have := (hf2 ⟨i, hi'⟩).1 j v hv
        simp only [hadd, ← Nat.add_assoc] at this
        exact this
    · intro n hn
      obtain ⟨i, rfl⟩ := List.mem_ofFn.1 hn
      have := (hf2 ⟨i.1, i.2⟩).2
      unfold maxLen at this; omega

set_option maxRecDepth 100000 in
theorem ints_of_trod {H : Type} {enc : TypeId × Value → H} {w : World} {spare : Nat → Bool} {held : Bool} {A : Option Addr} {len cap : Nat} {d : DataW H} {p : List MemPlace}
    (h : DataW.Trod enc Try.prog w 0 spare held 38 (.slice A len cap) d p) :
    ∃ xs : List Int, xs.length = len ∧ IS w 0 w.heap.size A xs ∧ len ≤ 9223372036854775807 := by
  obtain ⟨fuel, hf⟩ := h
  rcases open_slice Try.underlying38 hf with ⟨hcs, _⟩ | ⟨a, l, c, m, n, D, Pl, hcs, _, hl, hm, hmm, _, hi⟩
  · simp [Value.cells] at hcs
    obtain ⟨rfl, rfl, rfl⟩ := hcs
    exact ⟨[], rfl, fun h => absurd h (by simp), by omega⟩
  · simp [Value.cells] at hcs
    obtain ⟨rfl, rfl, rfl⟩ := hcs
    have hlm : len ≤ m := by rw [hmm]; split <;> omega
    have hex : ∀ i, i < len → ∃ x : Int, w.cell? (a.add i) = some (.int .i64 x) := by
      intro i hil
      obtain ⟨cs', hc, ht⟩ := hi i (by omega)
      rw [cellsInt, Nat.mul_one] at hc
      obtain ⟨x, hx, _, _⟩ := DataW.trod_int Try.underlying3 ht
      obtain ⟨_, _, hat⟩ := World.cells?_some hc
      have := hat 0 (by omega)
      rw [add_add, hx] at this
      exact ⟨x, by simpa using this⟩
    obtain ⟨f, hf2⟩ := Classical.axiomOfChoice (fun i : {i // i < len} => hex i.1 i.2)
    have hget : ∀ i (h : i < (List.ofFn fun i : Fin len => f ⟨i.1, i.2⟩).length), (List.ofFn fun i : Fin len => f ⟨i.1, i.2⟩)[i] = f ⟨i, by simpa using h⟩ := fun i h => by simp
    refine ⟨List.ofFn fun i : Fin len => f ⟨i.1, i.2⟩, by simp, ?_, by unfold maxLen at hm; omega⟩
    intro hpos
    have hpos' : 0 < len := by simpa using hpos
    have h0 := hf2 ⟨0, hpos'⟩
    obtain ⟨b, o, spot⟩ := a
    have hspot : spot = none := by have := World.cell?_spot h0; simpa [Addr.add] using this
    subst hspot
    have hadd : ∀ k, (⟨b, o, none⟩ : Addr).add k = ⟨b, o + k, none⟩ := fun k => by simp [Addr.add]
    refine ⟨b, o, rfl, ⟨Nat.zero_le _, ?_⟩, fun i hi => ?_⟩
    · rw [hadd] at h0
      exact cell_lt_heap h0
    · have hi' : i < len := by simpa using hi
      rw [hget i hi]
      have := hf2 ⟨i, hi'⟩
      simp only [hadd] at this
      exact this
end Go.Proofs.Ytpgdccfpegdcoaa
