/- Texts of this proof, one behind the other: LawB, SH, CU, AL, CW, CX. -/
import Derived.Test.YthjfedidpjfboaaKMInstr
import Derived.WalkKit
import Derived.WalkSpells
import Derived.WalkLawsBesides
import Derived.Lib.Hide
import Derived.Shelf.Small.Bits
import Derived.Shelf.Strconv.Itoa0
import Derived.Shelf.Sort.Plain
import Derived.Ground.Names2Prog
import Derived.Shelf.Slices.Clone
import Derived.Shelf.Slices.CompactI
import Derived.Shelf.Slices.SearchI
import Derived.Shelf.Slices.Cells
import Derived.Ground.SlgnProg
import Derived.Shelf.SlicesE.Clone
import Derived.Test.YthjfedidpjfboaaProg
import Derived.Ground.NamesProg
import Derived.Test.YthjfedidpjfboaaZ10
import Derived.Test.YthjfedidpjfboaaTA
namespace Go.Proofs.Ythjfedidpjfboaa
open Go.RowKit
set_option linter.unusedVariables false

def ResReadsOf (R0 : List (Int)) (R1 : Bool) (w : World) (e : Ending) (w' : World) : Prop := ∃ (A0 : Option Addr) (c0 : Nat), e = .returned (.tuple #[.slice A0 R0.length c0, .bool R1]) ∧ OW w' w.heap.size w'.heap.size (.slice A0 R0.length c0) R0 ∧ Below w.heap.size w w'
def ResStepInstr (R0 : List (Int)) (R1 : Bool) (w : World) (e : Ending) (w' : World) : Prop := ∃ (A0 : Option Addr) (c0 : Nat), e = .returned (.tuple #[.slice A0 R0.length c0, .bool R1]) ∧ OW w' w.heap.size w'.heap.size (.slice A0 R0.length c0) R0 ∧ Below w.heap.size w w'
def ResRunCode (R0 : List (Int)) (R1 : Bool) (w : World) (e : Ending) (w' : World) : Prop := ∃ (A0 : Option Addr) (c0 : Nat), e = .returned (.tuple #[.slice A0 R0.length c0, .bool R1]) ∧ OW w' w.heap.size w'.heap.size (.slice A0 R0.length c0) R0 ∧ Below w.heap.size w w'
def ResResultOf (R0 : Int) (R1 : Bool) (w : World) (e : Ending) (w' : World) : Prop := e = .returned (.tuple #[.int .i64 R0, .bool R1]) ∧ Below w.heap.size w w'
end Go.Proofs.Ythjfedidpjfboaa

namespace Go.Proofs
open Go.Shelf
def Try.lays125_ren : Go.Shelf.Ren := ⟨fun | 125 => 165 | 128 => 197 | 129 => 198 | n => n, fun | 46 => 171 | 3 => 3 | 51 => 197 | 53 => 199 | 4 => 4 | 5 => 5 | 9 => 9 | n => n, fun | n => n⟩
theorem Try.lays125 : Go.Proofs.Lays.n125 Try.prog Try.lays125_ren := {
  mixed := by kernel_rfl
  f125 := Try.func165.trans (congrArg some (by kernel_rfl))
  f128 := Try.func197.trans (congrArg some (by kernel_rfl))
  f129 := Try.func198.trans (congrArg some (by kernel_rfl))
  t3 := Try.underlying3
  a3 := Try.isAgg3
  z3 := Try.sizeOf3
  v3 := Try.zeroValue3
  t4 := Try.underlying4
  a4 := Try.isAgg4
  z4 := Try.sizeOf4
  v4 := Try.zeroValue4
  t5 := Try.underlying5
  a5 := Try.isAgg5
  z5 := Try.sizeOf5
  v5 := Try.zeroValue5
  t9 := Try.underlying9
  a9 := Try.isAgg9
  z9 := Try.sizeOf9
  v9 := Try.zeroValue9
  t46 := Try.underlying171
  a46 := Try.isAgg171
  z46 := Try.sizeOf171
  v46 := Try.zeroValue171
  t51 := Try.underlying197
  a51 := Try.isAgg197
  z51 := Try.sizeOf197
  v51 := Try.zeroValue197
  t53 := Try.underlying199
  a53 := Try.isAgg199
  z53 := Try.sizeOf199
  v53 := Try.zeroValue199 }
/-- bits.Len: "Len returns the minimum number of bits required to represent x; the result is 0 for x == 0.": IT RETURNS 'Lib.bitLen x'; the world is as it was. (A uint has 64 bits in the model.) ITS CALLEE bits.Len64 IS MET BY ITS OWN CONTRACT OFF THE SHELF (lay that first). (LAID: no walk: one application.) -/
theorem Try.bits_Len (x : Int) (w : World) (h0 : 0 ≤ x) (h1 : x ≤ 18446744073709551615) :
    Calls Try.prog 165 #[.int .u64 x] w fun e w' => e = .returned (.int .i64 (Lib.bitLen x.toNat)) ∧ w' = w := Any.bits_Len Try.lays125 x w h0 h1
def Try.lays189_ren : Go.Shelf.Ren := ⟨fun | 189 => 124 | 125 => 165 | 257 => 164 | 128 => 197 | 129 => 198 | 294 => 188 | 295 => 189 | 296 => 190 | 297 => 191 | 298 => 192 | 299 => 193 | 216 => 194 | 300 => 195 | 301 => 196 | 328 => 206 | 329 => 207 | 330 => 208 | 331 => 209 | 332 => 210 | 215 => 211 | 343 => 215 | n => n, fun | 28 => 32 | 3 => 3 | 46 => 171 | 0 => 0 | 51 => 197 | 53 => 199 | 4 => 4 | 183 => 192 | 182 => 191 | 131 => 53 | 5 => 5 | 9 => 9 | 218 => 204 | 222 => 208 | 228 => 211 | 229 => 166 | n => n, fun | n => n⟩
theorem Try.lays189 : Go.Proofs.Lays.n189 Try.prog Try.lays189_ren := {
  mixed := by kernel_rfl
  f125 := Try.func165.trans (congrArg some (by kernel_rfl))
  f128 := Try.func197.trans (congrArg some (by kernel_rfl))
  f129 := Try.func198.trans (congrArg some (by kernel_rfl))
  f189 := Try.func124.trans (congrArg some (by kernel_rfl))
  f215 := Try.func211.trans (congrArg some (by kernel_rfl))
  f216 := Try.func194.trans (congrArg some (by kernel_rfl))
  f257 := Try.func164.trans (congrArg some (by kernel_rfl))
  f294 := Try.func188.trans (congrArg some (by kernel_rfl))
  f295 := Try.func189.trans (congrArg some (by kernel_rfl))
  f296 := Try.func190.trans (congrArg some (by kernel_rfl))
  f297 := Try.func191.trans (congrArg some (by kernel_rfl))
  f298 := Try.func192.trans (congrArg some (by kernel_rfl))
  f299 := Try.func193.trans (congrArg some (by kernel_rfl))
  f300 := Try.func195.trans (congrArg some (by kernel_rfl))
  f301 := Try.func196.trans (congrArg some (by kernel_rfl))
  f328 := Try.func206.trans (congrArg some (by kernel_rfl))
  f329 := Try.func207.trans (congrArg some (by kernel_rfl))
  f330 := Try.func208.trans (congrArg some (by kernel_rfl))
  f331 := Try.func209.trans (congrArg some (by kernel_rfl))
  f332 := Try.func210.trans (congrArg some (by kernel_rfl))
  f343 := Try.func215.trans (congrArg some (by kernel_rfl))
  t0 := Try.underlying0
  a0 := Try.isAgg0
  z0 := Try.sizeOf0
  v0 := Try.zeroValue0
  t3 := Try.underlying3
  a3 := Try.isAgg3
  z3 := Try.sizeOf3
  v3 := Try.zeroValue3
  t4 := Try.underlying4
  a4 := Try.isAgg4
  z4 := Try.sizeOf4
  v4 := Try.zeroValue4
  t5 := Try.underlying5
  a5 := Try.isAgg5
  z5 := Try.sizeOf5
  v5 := Try.zeroValue5
  t9 := Try.underlying9
  a9 := Try.isAgg9
  z9 := Try.sizeOf9
  v9 := Try.zeroValue9
  t28 := Try.underlying32
  a28 := Try.isAgg32
  z28 := Try.sizeOf32
  v28 := Try.zeroValue32
  t46 := Try.underlying171
  a46 := Try.isAgg171
  z46 := Try.sizeOf171
  v46 := Try.zeroValue171
  t51 := Try.underlying197
  a51 := Try.isAgg197
  z51 := Try.sizeOf197
  v51 := Try.zeroValue197
  t53 := Try.underlying199
  a53 := Try.isAgg199
  z53 := Try.sizeOf199
  v53 := Try.zeroValue199
  t131 := Try.underlying53
  a131 := Try.isAgg53
  z131 := Try.sizeOf53
  v131 := Try.zeroValue53
  t182 := Try.underlying191
  a182 := Try.isAgg191
  z182 := Try.sizeOf191
  v182 := Try.zeroValue191
  t183 := Try.underlying192
  a183 := Try.isAgg192
  z183 := Try.sizeOf192
  v183 := Try.zeroValue192
  t218 := Try.underlying204
  a218 := Try.isAgg204
  z218 := Try.sizeOf204
  v218 := Try.zeroValue204
  t222 := Try.underlying208
  a222 := Try.isAgg208
  z222 := Try.sizeOf208
  v222 := Try.zeroValue208
  t228 := Try.underlying211
  a228 := Try.isAgg211
  z228 := Try.sizeOf211
  v228 := Try.zeroValue211
  t229 := Try.underlying166
  a229 := Try.isAgg166
  z229 := Try.sizeOf166
  v229 := Try.zeroValue166 }
open Go.Sort Go.RowKit in
theorem Try.slices_Sort_int (blk off cap : Nat) (zs : List Int) (w : World) (hH : Holds (Value.int .i64) w blk off zs.toArray) (hblk : blk < w.heap.size) (hsz : zs.length < 4611686018427387904) :
    Calls Try.prog 124 #[.slice (some ⟨blk, off, none⟩) zs.length cap] w fun e w' =>
      e = .returned (.tuple #[]) ∧ ∃ n os, w' = grow (putRow (Value.int .i64) (Sort.ahead w n) blk off (zs.mergeSort fun x y => decide (x ≤ y)).toArray) os := Any.slices_Sort_int Try.lays189 blk off cap zs w hH hblk hsz
def Try.laysNm220_ren : Go.Shelf.Ren := ⟨fun | 20 => 126 | n => n, fun | 22 => 32 | 3 => 3 | 4 => 4 | 0 => 0 | n => n, fun | n => n⟩
theorem Try.laysNm220 : Go.Proofs.Lays2.n20 Try.prog Try.laysNm220_ren := {
  mixed := by kernel_rfl
  f20 := Try.func126.trans (congrArg some (by kernel_rfl))
  t0 := Try.underlying0
  a0 := Try.isAgg0
  z0 := Try.sizeOf0
  v0 := Try.zeroValue0
  t3 := Try.underlying3
  a3 := Try.isAgg3
  z3 := Try.sizeOf3
  v3 := Try.zeroValue3
  t4 := Try.underlying4
  a4 := Try.isAgg4
  z4 := Try.sizeOf4
  v4 := Try.zeroValue4
  t22 := Try.underlying32
  a22 := Try.isAgg32
  z22 := Try.sizeOf32
  v22 := Try.zeroValue32
  i3 := by kernel_rfl }
open Go.RowKit Go.Lib Go.Sort in
/-- slices.Compact at []int: "Compact replaces consecutive runs of equal elements with a single copy. This is like the uniq command found on Unix. Compact modifies the contents of the slice s and returns the modified slice, which may have a smaller length. Compact zeroes the elements between the new length and the original length. The result preserves the nilness of s.": IT RETURNS THE SLICE CUT TO 'Lib.compact zs'; ITS CELLS HOLD 'Lib.compact zs', THEN ZERO VALUES up to the old length; all else is as it was, but for the count of draws. IN THE WORDS OF slices.Sort's CONTRACT ('Holds', 'putRow'): so the everyday 'slices.Sort(xs); xs = slices.Compact(xs)' goes from the one contract to the other. It asks 'zs.length ≤ cap' (every slice's: the reslicing 's[:k]' looks at it). Length 0, nil: '.._empty'. (LAID: no walk: one application.) -/
theorem Try.slices_Compact_int (blk off cap : Nat) (zs : List Int) (w : World) (hH : Holds (Value.int .i64) w blk off zs.toArray) (hsz : zs.length ≤ 9223372036854775807) (hcap : zs.length ≤ cap) :
    Calls Try.prog 126 #[.slice (some ⟨blk, off, none⟩) zs.length cap] w fun e w' => e = .returned (.slice (some ⟨blk, off, none⟩) (Lib.compact zs).length cap) ∧ ∃ q, w' = putRow (Value.int .i64) (Sort.ahead w q) blk off (Lib.compact zs ++ List.replicate (zs.length - (Lib.compact zs).length) 0).toArray := Any.slices_Compact_int Try.laysNm220 blk off cap zs w hH hsz hcap
open Go.RowKit Go.Lib Go.Sort in
/-- The same at a slice of length 0, a nil one too: it comes back as it is. (LAID: no walk: one application.) -/
theorem Try.slices_Compact_int_empty (a : Option Addr) (cap : Nat) (w : World) :
    Calls Try.prog 126 #[.slice a 0 cap] w fun e w' => e = .returned (.slice a 0 cap) ∧ w' = w := Any.slices_Compact_int_empty Try.laysNm220 a cap w
end Go.Proofs

namespace Go.Proofs.Ythjfedidpjfboaa
open Go.RowKit
set_option linter.unusedVariables false
set_option maxRecDepth 100000

theorem reads_ff (x : In) {a b : Bool} (ha : (fm x.op).a = false) (hb : (fm x.op).b = false) : readsL x = [] := by
  simp [readsL, reads2, ha, hb, compact0]
theorem reads_tf (x : In) (ha : (fm x.op).a = true) (hb : (fm x.op).b = false) : readsL x = put [] x.a := by
  simp [readsL, reads2, ha, hb, compact1, put_nil]
theorem reads_ft (x : In) (ha : (fm x.op).a = false) (hb : (fm x.op).b = true) : readsL x = put [] x.b := by
  simp [readsL, reads2, ha, hb, compact1, put_nil]
theorem reads_tt (x : In) (ha : (fm x.op).a = true) (hb : (fm x.op).b = true) : readsL x = put (put [] x.a) x.b := by
  have h1 : readsL x = Lib.compact ([x.a, x.b].mergeSort fun x y => decide (x ≤ y)) := by simp [readsL, reads2, ha, hb]
  rw [h1, sort2, put_nil]
  by_cases h : x.a ≤ x.b
  · rw [if_pos h, compact2]
    by_cases he : x.a = x.b
    · simp [put, he]
    · have h2 : x.a < x.b := by omega
      simp [put, h2, he]
  · rw [if_neg h, compact2]
    have h2 : ¬ x.a < x.b := by omega
    have h3 : ¬ x.b = x.a := by omega
    have h4 : ¬ x.a = x.b := by omega
    simp [put, h2, h3, h4]
theorem readsL_len (x : In) : (readsL x).length ≤ 2 := by
  cases ha : (fm x.op).a <;> cases hb : (fm x.op).b
  · rw [reads_ff x (a := true) (b := true) ha hb]; simp
  · rw [reads_ft x ha hb, put_nil]; simp
  · rw [reads_tf x ha hb, put_nil]; simp
  · rw [reads_tt x ha hb, put_nil]; have := put_len [x.a] x.b; simpa using this

set_option maxHeartbeats 4000000 in
theorem cdReads_any (x : In) (w : World) :
    Calls Try.prog 150 #[.agg #[.string x.op, .int .i64 x.d, .int .i64 x.a, .int .i64 x.b, .int .i64 x.m]] w (OwnI w.heap.size w (readsL x)) := by
  have hrf := fun h1 h2 => Lib.hid (reads_ff x (a := true) (b := true) h1 h2)
  have hrt := fun h1 h2 => Lib.hid (reads_tf x h1 h2)
  have hrs := fun h1 h2 => Lib.hid (reads_ft x h1 h2)
  have hru := fun h1 h2 => Lib.hid (reads_tt x h1 h2)
  obtain ⟨op, d, a, b, m⟩ := x
  generalize readsL ⟨op, d, a, b, m⟩ = R at *
  simp only at hrf hrt hrs hru
  have hb0 := Lib.hid ((Below.refl w.heap.size w).alloc (Nat.le_refl _) (.cells #[.string op, .int .i64 d, .int .i64 a, .int .i64 b, .int .i64 m] 90))
  have hP := fun w' (h : w.heap.size ≤ w'.heap.size) n => Lib.hid (l1Put_any w.heap.size w'.heap.size none 0 0 [] n w' rfl (by simp) (OW.nil _ _ _) h (Nat.le_refl _))
  go_enter Try.func150, Try.ntmps150
  go_wp2_with (fail)
  refine (cdShape_any _ _).mono ?_
  rintro e w' ⟨rfl, rfl⟩
  generalize fm op = f at *
  obtain ⟨ok, fa, fb, lo, hi, c⟩ := f
  simp only at hrf hrt hrs hru
  cases fa
  · cases fb
    · have hR := hrf rfl rfl
      clear hrf hrt hrs hru
      go_wp2
      go_ret
      rw [hR.out]
      exact ⟨none, 0, rfl, OW.nil _ _ _, hb0.out⟩
    · have hR := hrs rfl rfl
      clear hrf hrt hrs hru
      go_wp2_with (fail)
      refine (hP _ (by simp) _).out.mono ?_
      rintro e w1 ⟨A1, c1, rfl, ho1, hb1⟩
      have hO := Lib.hid ho1
      have hB := Lib.hid (hb0.out.trans (hb1.mono (by simp)))
      clear ho1 hb1
      go_wp2
      go_ret
      rw [hR.out]
      exact ⟨_, _, rfl, hO.out, hB.out⟩
  · cases fb
    · have hR := hrt rfl rfl
      clear hrf hrt hrs hru
      go_wp2_with (fail)
      refine (hP _ (by simp) _).out.mono ?_
      rintro e w1 ⟨A1, c1, rfl, ho1, hb1⟩
      have hO := Lib.hid ho1
      have hB := Lib.hid (hb0.out.trans (hb1.mono (by simp)))
      clear ho1 hb1
      go_wp2
      go_ret
      rw [hR.out]
      exact ⟨_, _, rfl, hO.out, hB.out⟩
    · have hR := hru rfl rfl
      clear hrf hrt hrs hru
      go_wp2_with (fail)
      refine (hP _ (by simp) _).out.mono ?_
      rintro e w1 ⟨A1, c1, rfl, ho1, hb1⟩
      obtain ⟨xa, xb, xc, xd, xe⟩ := In.old (x := ⟨op, d, a, b, m⟩) rfl hb1
      have hO := Lib.hid ho1
      have hB := Lib.hid (hb0.out.trans (hb1.mono (by simp)))
      have hpl := Lib.hid (put_len [] a)
      clear ho1 hb1
      go_wp2_with (fail)
      refine (l1Put_any w.heap.size w1.heap.size A1 _ c1 _ b _ rfl (by have := hpl.out; simp at this; omega) hO.out hB.out.size (Nat.le_refl _)).mono ?_
      rintro e w2 ⟨A2, c2, rfl, ho2, hb2⟩
      have hO2 := Lib.hid ho2
      have hB2 := Lib.hid (hB.out.trans (hb2.mono hB.out.size))
      clear ho2 hb2
      go_wp2
      go_ret
      rw [hR.out]
      exact ⟨_, _, rfl, hO2.out, hB2.out⟩
end Go.Proofs.Ythjfedidpjfboaa

/- Registers alive: plain. -/
namespace Go.Proofs.Ythjfedidpjfboaa
open Go.RowKit
set_option linter.unusedVariables false

/-- What is alive before an instruction: bits, and lists. -/
def bkTo (x : In) (bs : List Bool) (k : Nat) : List Bool := ((readsL x).take k).foldl (fun c r => c.set r.toNat true) (bs.set x.d.toNat false)
def bkB (bs : List Bool) (x : In) : List Bool := bkTo x bs (readsL x).length
theorem bkTo_zero (x : In) (bs : List Bool) : bkTo x bs 0 = bs.set x.d.toNat false := rfl
theorem bkTo_succ {x : In} (bs : List Bool) {k : Nat} (h : k < (readsL x).length) : bkTo x bs (k + 1) = (bkTo x bs k).set (readsL x)[k].toNat true := by
  unfold bkTo; rw [List.take_succ_eq_append_getElem h, List.foldl_append]; rfl
theorem bkTo_len (x : In) (bs : List Bool) (k : Nat) : (bkTo x bs k).length = bs.length := by
  unfold bkTo
  generalize (readsL x).take k = l
  have : ∀ (l : List Int) (c : List Bool), (l.foldl (fun c r => c.set r.toNat true) c).length = c.length := by
    intro l
    induction l with
    | nil => intro c; rfl
    | cons r l ih => intro c; rw [List.foldl_cons, ih, List.length_set]
  rw [this, List.length_set]
def lvTo (x : In) (L : List Int) (k : Nat) : List Int := (L.take k).foldl (fun o r => if r = x.d then o else put o r) (readsL x)
def lvB (x : In) (L : List Int) : List Int := lvTo x L L.length
theorem lvTo_zero (x : In) (L : List Int) : lvTo x L 0 = readsL x := rfl
theorem lvTo_same {x : In} {L : List Int} {k : Nat} (h : k < L.length) (e : L[k] = x.d) : lvTo x L (k + 1) = lvTo x L k := by
  unfold lvTo; rw [List.take_succ_eq_append_getElem h, List.foldl_append, List.foldl_cons, List.foldl_nil, if_pos e]
theorem lvTo_put {x : In} {L : List Int} {k : Nat} (h : k < L.length) (e : ¬ L[k] = x.d) : lvTo x L (k + 1) = put (lvTo x L k) L[k] := by
  unfold lvTo; rw [List.take_succ_eq_append_getElem h, List.foldl_append, List.foldl_cons, List.foldl_nil, if_neg e]
theorem lvTo_len (x : In) (L : List Int) : ∀ k, (lvTo x L k).length ≤ 2 + k
  | 0 => by rw [lvTo_zero]; exact readsL_len x
  | k + 1 => by
    have ih := lvTo_len x L k
    by_cases h : k < L.length
    · by_cases e : L[k] = x.d
      · rw [lvTo_same h e]; omega
      · rw [lvTo_put h e]; have := put_len (lvTo x L k) L[k]; omega
    · have : lvTo x L (k + 1) = lvTo x L k := by unfold lvTo; rw [List.take_of_length_le (by omega), List.take_of_length_le (by omega)]
      rw [this]; omega
def In6 (r : Int) : Prop := 0 ≤ r ∧ r ≤ 5
theorem put_all : ∀ (b0 b1 b2 b3 b4 b5 : Bool) (d : Fin 6), put (mkT [b0, b1, b2, b3, b4, b5]) (d.val : Int) = mkT ([b0, b1, b2, b3, b4, b5].set d.val true) := by decide +kernel
theorem put_mkT {cs : List Bool} (hl : cs.length = 6) {r : Int} (h : In6 r) : put (mkT cs) r = mkT (cs.set r.toNat true) := by
  obtain ⟨n, rfl⟩ := Int.eq_ofNat_of_zero_le h.1
  have hn : n < 6 := by have := h.2; omega
  match cs, hl with
  | [a, b, c, d, e, f], _ => exact put_all a b c d e f ⟨n, hn⟩
theorem mem_mkT {bs : List Bool} {i : Nat} (hi : i < 6) : (i : Int) ∈ mkT bs ↔ bs.getD i false = true := by
  unfold mkT
  rw [List.mem_map]
  constructor
  · rintro ⟨n, hn, e⟩
    obtain rfl : n = i := by omega
    exact (List.mem_filter.1 hn).2
  · intro h; exact ⟨i, List.mem_filter.2 ⟨List.mem_range.2 hi, h⟩, rfl⟩
theorem mkT_in {bs : List Bool} : ∀ r ∈ mkT bs, In6 r := by
  intro r hr
  unfold mkT at hr
  obtain ⟨n, hn, rfl⟩ := List.mem_map.1 hr
  have := List.mem_range.1 (List.mem_filter.1 hn).1
  unfold In6; omega
def setsB (c : List Bool) (l : List Int) : List Bool := l.foldl (fun c r => c.set r.toNat true) c
theorem setsB_len : ∀ (l : List Int) (c : List Bool), (setsB c l).length = c.length
  | [], c => rfl
  | r :: l, c => by unfold setsB; rw [List.foldl_cons]; have := setsB_len l (c.set r.toNat true); unfold setsB at this; rw [this, List.length_set]
theorem getDB_set {c : List Bool} (r i : Nat) (v : Bool) (hr : r < c.length) : (c.set r v).getD i false = if r = i then v else c.getD i false := by
  rw [List.getD_eq_getElem?_getD, List.getD_eq_getElem?_getD, List.getElem?_set]
  by_cases e : r = i
  · rw [if_pos e, if_pos e, if_pos (by omega)]; rfl
  · rw [if_neg e, if_neg e]
theorem setsB_get : ∀ (l : List Int) (c : List Bool), (∀ r ∈ l, In6 r) → c.length = 6 → ∀ i, i < 6 → ((setsB c l).getD i false = true ↔ (c.getD i false = true ∨ (i : Int) ∈ l))
  | [], c, _, _, i, _ => by simp [setsB]
  | r :: l, c, h, hl, i, hi => by
    have hr := h r (by simp)
    have := setsB_get l (c.set r.toNat true) (fun q hq => h q (by simp [hq])) (by rw [List.length_set]; exact hl) i hi
    unfold setsB at this ⊢
    rw [List.foldl_cons, this, getDB_set _ _ _ (by unfold In6 at hr; omega)]
    by_cases e : r.toNat = i
    · rw [if_pos e]
      have : (i : Int) = r := by unfold In6 at hr; omega
      simp [this]
    · rw [if_neg e]
      have : ¬ (i : Int) = r := by omega
      simp [this]
theorem foldPut : ∀ (l : List Int) (c : List Bool) (d : Int), (∀ r ∈ l, In6 r) → c.length = 6 → l.foldl (fun o r => if r = d then o else put o r) (mkT c) = mkT (setsB c (l.filter (fun r => !decide (r = d))))
  | [], c, d, _, _ => rfl
  | r :: l, c, d, h, hl => by
    rw [List.foldl_cons, List.filter_cons]
    by_cases e : r = d
    · rw [if_pos e, if_neg (by simp [e])]
      exact foldPut l c d (fun q hq => h q (by simp [hq])) hl
    · rw [if_neg e, if_pos (by simp [e]), put_mkT hl (h r (by simp))]
      exact foldPut l (c.set r.toNat true) d (fun q hq => h q (by simp [hq])) (by rw [List.length_set]; exact hl)
theorem boolExt {a b : List Bool} (ha : a.length = 6) (hb : b.length = 6) (h : ∀ i, i < 6 → (a.getD i false = true ↔ b.getD i false = true)) : a = b := by
  refine List.ext_getElem (by omega) fun i h1 h2 => ?_
  have := h i (by omega)
  rw [List.getD_eq_getElem?_getD, List.getD_eq_getElem?_getD, List.getElem?_eq_getElem h1, List.getElem?_eq_getElem h2] at this
  simp only [Option.getD_some] at this
  exact Bool.eq_iff_iff.2 this
/-- What is read, as bits. -/
theorem reads_mkT {x : In} (hx : goodIn x = true) : ∃ c : List Bool, c.length = 6 ∧ readsL x = mkT c := by
  have h := good_parts hx
  have z : ([] : List Int) = mkT [false, false, false, false, false, false] := by decide
  cases ha : (fm x.op).a <;> cases hb : (fm x.op).b
  · rw [reads_ff x (a := true) (b := true) ha hb, z]; exact ⟨_, rfl, rfl⟩
  · rw [reads_ft x ha hb, z, put_mkT rfl ⟨h.2.2.1.1, h.2.2.1.2⟩]; exact ⟨_, by simp, rfl⟩
  · rw [reads_tf x ha hb, z, put_mkT rfl ⟨h.2.1.1, h.2.1.2⟩]; exact ⟨_, by simp, rfl⟩
  · rw [reads_tt x ha hb, z, put_mkT rfl ⟨h.2.1.1, h.2.1.2⟩, put_mkT (by simp) ⟨h.2.2.1.1, h.2.2.1.2⟩]; exact ⟨_, by simp, rfl⟩
theorem reads_in {x : In} (hx : goodIn x = true) : ∀ r ∈ readsL x, In6 r := by
  obtain ⟨c, _, e⟩ := reads_mkT hx
  rw [e]; exact mkT_in
theorem lvB_bits {x : In} (hx : goodIn x = true) {bs : List Bool} (hl : bs.length = 6) : lvB x (mkT bs) = mkT (bkB bs x) := by
  obtain ⟨c, hc, e⟩ := reads_mkT hx
  have hd : In6 x.d := (good_parts hx).1
  unfold lvB lvTo bkB bkTo
  rw [List.take_length, List.take_length, e, foldPut _ _ _ mkT_in hc]
  congr 1
  have hset : (bs.set x.d.toNat false).length = 6 := by rw [List.length_set]; exact hl
  refine boolExt (by rw [setsB_len]; exact hc) (by have := setsB_len (mkT c) (bs.set x.d.toNat false); unfold setsB at this; rw [this]; exact hset) fun i hi => ?_
  have h1 := setsB_get ((mkT bs).filter (fun r => !decide (r = x.d))) c (fun r hr => mkT_in r (List.mem_filter.1 hr).1) hc i hi
  have h2 := setsB_get (mkT c) (bs.set x.d.toNat false) mkT_in hset i hi
  unfold setsB at h2
  rw [h1, h2, mem_mkT hi, List.mem_filter, mem_mkT hi, getDB_set _ _ _ (by unfold In6 at hd; omega)]
  have : (x.d.toNat = i) ↔ ((i : Int) = x.d) := by unfold In6 at hd; omega
  by_cases e2 : x.d.toNat = i
  · rw [if_pos e2]; simp [this.1 e2]
  · rw [if_neg e2]
    have : ¬ (i : Int) = x.d := fun h => e2 (this.2 h)
    simp [this, or_comm]
theorem bkB_len (bs : List Bool) (x : In) : (bkB bs x).length = bs.length := bkTo_len _ _ _
end Go.Proofs.Ythjfedidpjfboaa

namespace Go.Proofs.Ythjfedidpjfboaa
open Go.RowKit Go.Sort
set_option linter.unusedVariables false
set_option maxRecDepth 100000

theorem insNil_any (A : Option Addr) (c : Nat) (w : World) :
    Calls Try.prog 188 #[.slice A 0 c, .int .i64 0, .int .i64 0] w fun e w' => e = .returned (.tuple #[]) ∧ w = w' := by
  go_enter Try.func188, Try.ntmps188
  go_wp2
  go_loop [6] (fun i => i = .int .i64 1) (fun i => 0)
  case atStart => rfl
  case round =>
    subst hrel
    go_wp2
    go_end0
    exact ⟨rfl, rfl⟩
theorem pdqNil_any (A : Option Addr) (c : Nat) (n : Int) (w : World) :
    Calls Try.prog 164 #[.slice A 0 c, .int .i64 0, .int .i64 0, .int .i64 n] w fun e w' => e = .returned (.tuple #[]) ∧ w = w' := by
  go_enter Try.func164, Try.ntmps164
  go_wp2
  go_loop [1, 2] (fun i j => i = .int .i64 0 ∧ j = .int .i64 0) (fun i _ => 0)
  case atStart => exact ⟨rfl, rfl⟩
  case round =>
    obtain ⟨rfl, rfl⟩ := hrel
    go_wp2_with (go_at_call 188; refine (insNil_any _ _ _).mono ?_; rintro e w' ⟨rfl, rfl⟩)
    exact bodyPost_ret (v := .tuple #[]) (by simp [results, Try.results164, go_sem]) rfl ⟨rfl, rfl⟩
theorem sortNil_any (A : Option Addr) (c : Nat) (w : World) :
    Calls Try.prog 124 #[.slice A 0 c] w fun e w' => e = .returned (.tuple #[]) ∧ w = w' := by
  have H := Lib.hid (Try.bits_Len 0 w (by omega) (by omega))
  go_enter Try.func124, Try.ntmps124
  go_wp2_with (fail)
  refine H.out.mono ?_
  rintro e w' ⟨rfl, rfl⟩
  generalize Lib.bitLen _ = q
  go_wp2_with (go_at_call 164; refine (pdqNil_any _ _ _ _).mono ?_; rintro e w' ⟨rfl, rfl⟩)
  go_end0
  exact ⟨rfl, rfl⟩
def sorted (xs : List Int) : List Int := xs.mergeSort fun x y => decide (x ≤ y)
theorem sorted_len (xs : List Int) : (sorted xs).length = xs.length := by simp [sorted]
/-- slices.Sort on a slice of the call's own. -/
theorem sortOwn_any (lo hi : Nat) (A : Option Addr) (n c : Nat) (xs : List Int) (w : World) (hn : n = xs.length) (hl : xs.length ≤ 1048576) (hx : OW w lo hi (.slice A n c) xs) :
    Calls Try.prog 124 #[.slice A n c] w fun e w' => e = .returned (.tuple #[]) ∧ OW w' lo hi (.slice A n c) (sorted xs) ∧ Chg lo hi w w' := by
  subst hn
  rcases hx.1.2 with ⟨h0, h1⟩ | ⟨g, cap, cur, e, hlo, _⟩
  · injection h0 with e1 e2 e3
    obtain rfl : xs = [] := List.eq_nil_of_length_eq_zero h1
    subst e1; subst e3
    refine (sortNil_any none 0 w).mono ?_
    rintro e w' ⟨rfl, rfl⟩
    exact ⟨rfl, by simpa [sorted] using hx, Chg.refl _ _ _⟩
  · injection e with e1 e2 e3
    subst e1; subst e3
    have hg : g < w.heap.size := (hx.1.lt g rfl).2
    refine (Try.slices_Sort_int g 0 c xs w hx.holds hg (by omega)).mono ?_
    rintro e w' ⟨rfl, m, os, rfl⟩
    have hgh : g < hi := hx.2 g rfl
    exact ⟨rfl, hx.put (sorted_len xs) m os, (chg_put w g m _ os).more hlo hgh⟩
theorem compact_pre (xs : List Int) : (Lib.compact xs).length ≤ xs.length := by
  unfold Lib.compact Lib.compactUpTo
  rw [List.length_map]
  exact Nat.le_trans (List.length_filter_le _ _) (by simp)
/-- slices.Compact on a slice of the call's own. -/
theorem compactOwn_any (lo hi : Nat) (A : Option Addr) (n c : Nat) (xs : List Int) (w : World) (hn : n = xs.length) (hl : xs.length ≤ 1048576) (hx : OW w lo hi (.slice A n c) xs) :
    Calls Try.prog 126 #[.slice A n c] w fun e w' => e = .returned (.slice A (Lib.compact xs).length c) ∧ OW w' lo hi (.slice A (Lib.compact xs).length c) (Lib.compact xs) ∧ Chg lo hi w w' := by
  subst hn
  rcases hx.1.2 with ⟨h0, h1⟩ | ⟨g, cap, cur, e, hlo, _, h1, _⟩
  · injection h0 with e1 e2 e3
    obtain rfl : xs = [] := List.eq_nil_of_length_eq_zero h1
    subst e1; subst e3
    refine (Try.slices_Compact_int_empty none 0 w).mono ?_
    rintro e w' ⟨rfl, rfl⟩
    rw [compact0]
    exact ⟨rfl, hx, Chg.refl _ _ _⟩
  · injection e with e1 e2 e3
    subst e1; subst e3
    refine (Try.slices_Compact_int g 0 c xs w hx.holds (by omega) h1).mono ?_
    rintro e w' ⟨rfl, m, rfl⟩
    have hcl := compact_pre xs
    have hgh : g < hi := hx.2 g rfl
    have hp := hx.put (d := Lib.compact xs ++ List.replicate (xs.length - (Lib.compact xs).length) 0) (by simp; omega) m #[]
    have hs := hp.short (Lib.compact xs).length (by simp)
    rw [List.take_left, grow_empty] at hs
    refine ⟨rfl, hs, ?_⟩
    have := chg_put w g m (Lib.compact xs ++ List.replicate (xs.length - (Lib.compact xs).length) 0).toArray #[]
    rw [grow_empty] at this
    exact this.more hlo hgh
end Go.Proofs.Ythjfedidpjfboaa

namespace Go.Proofs.Ythjfedidpjfboaa
open Go.RowKit
set_option linter.unusedVariables false
set_option maxRecDepth 100000

/-- Five cells of a block. -/
theorem five_cells {w : World} {g : Nat} {t : TypeId} {a b c d e : Value} (h : w.heap[g]? = some (.cells #[a, b, c, d, e] t (0, 0))) :
    w.cell? ⟨g, 0, none⟩ = some a ∧ w.cell? ⟨g, 1, none⟩ = some b := by
  have hc := fun i => cell_of_row w g i #[a, b, c, d, e] t (0, 0) h
  exact ⟨hc 0, hc 1⟩
/-- Behind an append onto nil: what lay there reads as it did. -/
theorem cell_grown {w w' : World} {row : Option Nat} {p : Addr} {v : Value} (h : w.grownBy w' row) (hp : row = none) (hc : w.cell? p = some v) : w'.cell? p = some v :=
  h.cell hc (by rw [hp]; simp)
theorem keep2 {w2 w4 : World} {o1 o2 : Obj} (h : ((w2.alloc o1).alloc o2).grownBy w4 none) : Below w2.heap.size w2 w4 :=
  (((Below.refl w2.heap.size w2).alloc (Nat.le_refl _) o1).alloc (by simp) o2).grown h (by simp; omega) (fun j hj => by cases hj)
theorem blk2 {w2 w4 : World} {o1 o2 : Obj} (h : ((w2.alloc o1).alloc o2).grownBy w4 none) : w4.heap[w2.heap.size]? = some o1 :=
  (h.block w2.heap.size (by simp; omega) (by simp)).trans ((Below.heap_alloc _ _ _ (by simp)).trans (heap_alloc_new w2 o1))
set_option maxHeartbeats 4000000 in
theorem readsOf_any (x : In) (w : World) :
    Calls Try.prog 154 #[.agg #[.string x.op, .int .i64 x.d, .int .i64 x.a, .int .i64 x.b, .int .i64 x.m]] w (OwnI w.heap.size w (readsL x)) := by
  obtain ⟨i0, hi', hz0, hz1, hz2⟩ := info_parts Try.infoInt
  have hRL : Hid (readsL x = Lib.compact (sorted (reads2 (fm x.op).a (fm x.op).b x.a x.b))) := rfl
  obtain ⟨op, d, a, b, m⟩ := x
  generalize readsL ⟨op, d, a, b, m⟩ = R at *
  simp only at hRL
  have hB1 := fun o => (Below.refl w.heap.size w).alloc (Nat.le_refl _) o
  go_enter Try.func154, Try.ntmps154
  go_wp2_with (fail)
  refine (formOf_any _ _).mono ?_
  rintro e w2 ⟨rfl, hb⟩
  obtain ⟨xa, xb, xc, xd, xe⟩ := In.old (x := ⟨op, d, a, b, m⟩) rfl hb
  have hbb := Lib.hid ((hB1 _).trans (hb.mono (by simp)))
  have hz : w.heap.size < w2.heap.size := by have := hb.size; simp at this; omega
  clear hb hB1
  generalize fm op = f at *
  obtain ⟨ok, fa, fb, lo, hi, cc⟩ := f
  simp only [fmV]
  simp only at hRL
  have hbo := fun o => Lib.hid (hbb.out.alloc hbb.out.size o)
  cases fa
  · cases fb
    · have hR : Hid (R = Lib.compact (sorted [])) := hRL.out
      go_wp2_with (fail)
      refine (sortOwn_any w.heap.size _ none 0 0 [] _ rfl (by simp) (OW.nil _ w.heap.size w2.heap.size)).mono ?_
      rintro e w6 ⟨rfl, ho6, hc6⟩
      have hO6 := Lib.hid ho6
      have hb6 := Lib.hid (below_chg (hbo _).out hc6 (hbo _).out.size (Nat.le_refl _))
      clear ho6 hc6
      go_wp2_with (fail)
      refine (compactOwn_any w.heap.size _ _ _ _ _ _ (sorted_len _).symm (by rw [sorted_len]; simp) hO6.out).mono ?_
      rintro e w7 ⟨rfl, ho7, hc7⟩
      have hb7 := Lib.hid (below_chg hb6.out hc7 hb6.out.size (Nat.le_refl _))
      rw [show Lib.compact (sorted []) = R from hR.out.symm] at ho7 ⊢
      have hO7 := Lib.hid ho7
      clear ho7 hc7
      go_wp2
      go_ret
      exact ⟨_, _, rfl, ⟨hO7.out.1, fun j hj => (hO7.out.1.lt j hj).2⟩, hb7.out⟩
    · have hR : Hid (R = Lib.compact (sorted [b])) := hRL.out
      go_wp2_with (at_builtin; refine wpList_append_own _ rfl (.tmp 21) (.tmp 24) 32 rfl w.heap.size 3 i0 (.int .i64 0) 1 8 Try.underlying32 hi' hz0 hz1 hz2 rfl (by decide) (.slice none 0 0) 0 [] rfl (World.ownsRow_nil _ _ _ _) ⟨w2.heap.size + 1, 0, none⟩ 1 1 [.int .i64 b] rfl rfl (new1 (by simp)) (one1 _) (by unfold maxLen; omega) (by omega) (by simp; omega) ?_; intro v1 w4 hown1 hgr1 _; simp only [Nat.zero_add, List.nil_append] at hown1; have hb4 := Lib.hid (keep2 hgr1); obtain ⟨f0, f1⟩ := five_cells (blk2 hgr1); have xd4 := (hb4.out.cell (p := ⟨w.heap.size, 3, none⟩) hz).trans xd; have hz4 := hb4.out.size)
      have hO4 := Lib.hid (OW.ofRow (xs := [b]) hown1 rfl)
      obtain ⟨A4, c4, rfl, _⟩ := hO4.out.form
      have hbel4 := Lib.hid (hbb.out.trans (hb4.out.mono hbb.out.size))
      refine (sortOwn_any w.heap.size _ A4 1 c4 [b] _ rfl (by simp) hO4.out).mono ?_
      rintro e w6 ⟨rfl, ho6, hc6⟩
      have hO6 := Lib.hid ho6
      have hb6 := Lib.hid (below_chg hbel4.out hc6 hbel4.out.size (Nat.le_refl _))
      clear ho6 hc6
      go_wp2_with (fail)
      refine (compactOwn_any w.heap.size _ _ _ _ _ _ (sorted_len _).symm (by rw [sorted_len]; simp) hO6.out).mono ?_
      rintro e w7 ⟨rfl, ho7, hc7⟩
      have hb7 := Lib.hid (below_chg hb6.out hc7 hb6.out.size (Nat.le_refl _))
      rw [show Lib.compact (sorted [b]) = R from hR.out.symm] at ho7 ⊢
      have hO7 := Lib.hid ho7
      clear ho7 hc7
      go_wp2
      go_ret
      exact ⟨_, _, rfl, ⟨hO7.out.1, fun j hj => (hO7.out.1.lt j hj).2⟩, hb7.out⟩
  · cases fb
    · have hR : Hid (R = Lib.compact (sorted [a])) := hRL.out
      go_wp2_with (at_builtin; refine wpList_append_own _ rfl (.tmp 14) (.tmp 17) 32 rfl w.heap.size 3 i0 (.int .i64 0) 1 8 Try.underlying32 hi' hz0 hz1 hz2 rfl (by decide) (.slice none 0 0) 0 [] rfl (World.ownsRow_nil _ _ _ _) ⟨w2.heap.size + 1, 0, none⟩ 1 1 [.int .i64 a] rfl rfl (new1 (by simp)) (one1 _) (by unfold maxLen; omega) (by omega) (by simp; omega) ?_; intro v1 w4 hown1 hgr1 _; simp only [Nat.zero_add, List.nil_append] at hown1; have hb4 := Lib.hid (keep2 hgr1); obtain ⟨f0, f1⟩ := five_cells (blk2 hgr1); have xd4 := (hb4.out.cell (p := ⟨w.heap.size, 3, none⟩) hz).trans xd; have hz4 := hb4.out.size)
      have hO4 := Lib.hid (OW.ofRow (xs := [a]) hown1 rfl)
      obtain ⟨A4, c4, rfl, _⟩ := hO4.out.form
      have hbel4 := Lib.hid (hbb.out.trans (hb4.out.mono hbb.out.size))
      refine (sortOwn_any w.heap.size _ A4 1 c4 [a] _ rfl (by simp) hO4.out).mono ?_
      rintro e w6 ⟨rfl, ho6, hc6⟩
      have hO6 := Lib.hid ho6
      have hb6 := Lib.hid (below_chg hbel4.out hc6 hbel4.out.size (Nat.le_refl _))
      clear ho6 hc6
      go_wp2_with (fail)
      refine (compactOwn_any w.heap.size _ _ _ _ _ _ (sorted_len _).symm (by rw [sorted_len]; simp) hO6.out).mono ?_
      rintro e w7 ⟨rfl, ho7, hc7⟩
      have hb7 := Lib.hid (below_chg hb6.out hc7 hb6.out.size (Nat.le_refl _))
      rw [show Lib.compact (sorted [a]) = R from hR.out.symm] at ho7 ⊢
      have hO7 := Lib.hid ho7
      clear ho7 hc7
      go_wp2
      go_ret
      exact ⟨_, _, rfl, ⟨hO7.out.1, fun j hj => (hO7.out.1.lt j hj).2⟩, hb7.out⟩
    · have hR : Hid (R = Lib.compact (sorted [a, b])) := hRL.out
      go_wp2_with (first
        | (at_builtin; refine wpList_append_own _ rfl (.tmp 14) (.tmp 17) 32 rfl w.heap.size 3 i0 (.int .i64 0) 1 8 Try.underlying32 hi' hz0 hz1 hz2 rfl (by decide) (.slice none 0 0) 0 [] rfl (World.ownsRow_nil _ _ _ _) ⟨w2.heap.size + 1, 0, none⟩ 1 1 [.int .i64 a] rfl rfl (new1 (by simp)) (one1 _) (by unfold maxLen; omega) (by omega) (by simp; omega) ?_; intro v1 w4 hown1 hgr1 _; simp only [Nat.zero_add, List.nil_append] at hown1; have hb4 := Lib.hid (keep2 hgr1); obtain ⟨f0, f1⟩ := five_cells (blk2 hgr1); have xd4 := (hb4.out.cell (p := ⟨w.heap.size, 3, none⟩) hz).trans xd; have hz4 := hb4.out.size)
        | (at_builtin; refine wpList_append_own _ rfl (.tmp 21) (.tmp 24) 32 rfl w.heap.size 3 i0 (.int .i64 0) 1 8 Try.underlying32 hi' hz0 hz1 hz2 rfl (by decide) v1 1 _ rfl (hown1.alloc _) ⟨w4.heap.size, 0, none⟩ 1 1 [.int .i64 b] rfl rfl (new1 rfl) (one1 _) (by unfold maxLen; omega) (by omega) (by simp; omega) ?_; intro v2 w5 hown2 hgr2 _; simp only [List.singleton_append, Nat.reduceAdd] at hown2; have hb5 := Lib.hid (((hbb.out.trans (hb4.out.mono hbb.out.size)).alloc (by omega) _).grown hgr2 (by simp; omega) (fun j hj => (hown1.lt j hj).1))))
      have hO5 := Lib.hid (OW.ofRow (xs := [a, b]) hown2 rfl)
      obtain ⟨A5, c5, rfl, _⟩ := hO5.out.form
      refine (sortOwn_any w.heap.size _ A5 2 c5 [a, b] _ rfl (by simp) hO5.out).mono ?_
      rintro e w6 ⟨rfl, ho6, hc6⟩
      have hO6 := Lib.hid ho6
      have hb6 := Lib.hid (below_chg hb5.out hc6 hb5.out.size (Nat.le_refl _))
      clear ho6 hc6
      go_wp2_with (fail)
      refine (compactOwn_any w.heap.size _ _ _ _ _ _ (sorted_len _).symm (by rw [sorted_len]; simp) hO6.out).mono ?_
      rintro e w7 ⟨rfl, ho7, hc7⟩
      have hb7 := Lib.hid (below_chg hb6.out hc7 hb6.out.size (Nat.le_refl _))
      rw [show Lib.compact (sorted [a, b]) = R from hR.out.symm] at ho7 ⊢
      have hO7 := Lib.hid ho7
      clear ho7 hc7
      go_wp2
      go_ret
      exact ⟨_, _, rfl, ⟨hO7.out.1, fun j hj => (hO7.out.1.lt j hj).2⟩, hb7.out⟩
end Go.Proofs.Ythjfedidpjfboaa
