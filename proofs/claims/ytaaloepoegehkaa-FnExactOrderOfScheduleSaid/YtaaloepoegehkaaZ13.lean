/- Texts of this proof, one behind the other: SH, CU, CW, CX, CY, RN. -/
import Derived.Shelf.Small.Bits
import Derived.Shelf.Strconv.Itoa0
import Derived.Shelf.Sort.Plain
import Derived.Shelf.Bits.Mul64
import Derived.Ground.Names2Prog
import Derived.Shelf.Slices.CompactI
import Derived.Shelf.Slices.SearchI
import Derived.Shelf.Slices.Cells
import Derived.Test.YtaaloepoegehkaaProg
import Derived.Ground.NamesProg
import Derived.Test.YtaaloepoegehkaaCT
import Derived.Test.YtaaloepoegehkaaCF
import Derived.Test.YtaaloepoegehkaaLawB
import Derived.WalkKit
import Derived.WalkSpells
import Derived.WalkLawsBesides
import Derived.Lib.Hide
import Derived.Test.YtaaloepoegehkaaHI
import Derived.Deep.RegionHeld3
namespace Go.Proofs
open Go.Shelf
def Try.lays125_ren : Go.Shelf.Ren := ⟨fun | 125 => 243 | 128 => 254 | 129 => 255 | n => n, fun | 46 => 193 | 3 => 3 | 51 => 216 | 53 => 219 | 4 => 4 | 5 => 5 | 9 => 9 | n => n, fun | n => n⟩
theorem Try.lays125 : Go.Proofs.Lays.n125 Try.prog Try.lays125_ren := {
  mixed := by kernel_rfl
  f125 := Try.func243.trans (congrArg some (by kernel_rfl))
  f128 := Try.func254.trans (congrArg some (by kernel_rfl))
  f129 := Try.func255.trans (congrArg some (by kernel_rfl))
  t3 := Try.underlying3
  a3 := Try.isAgg3
  z3 := Try.sizeOf3
  v3 := Try.zeroValue3
  t4 := Try.underlying4
  a4 := Try.isAgg4
  z4 := Try.sizeOf4
  v4 := Try.zeroValue4
  t5 := Try.underlying5
  a5 := Try.isAgg5
  z5 := Try.sizeOf5
  v5 := Try.zeroValue5
  t9 := Try.underlying9
  a9 := Try.isAgg9
  z9 := Try.sizeOf9
  v9 := Try.zeroValue9
  t46 := Try.underlying193
  a46 := Try.isAgg193
  z46 := Try.sizeOf193
  v46 := Try.zeroValue193
  t51 := Try.underlying216
  a51 := Try.isAgg216
  z51 := Try.sizeOf216
  v51 := Try.zeroValue216
  t53 := Try.underlying219
  a53 := Try.isAgg219
  z53 := Try.sizeOf219
  v53 := Try.zeroValue219 }
/-- bits.Len: "Len returns the minimum number of bits required to represent x; the result is 0 for x == 0.": IT RETURNS 'Lib.bitLen x'; the world is as it was. (A uint has 64 bits in the model.) ITS CALLEE bits.Len64 IS MET BY ITS OWN CONTRACT OFF THE SHELF (lay that first). (LAID: no walk: one application.) -/
theorem Try.bits_Len (x : Int) (w : World) (h0 : 0 ≤ x) (h1 : x ≤ 18446744073709551615) :
    Calls Try.prog 243 #[.int .u64 x] w fun e w' => e = .returned (.int .i64 (Lib.bitLen x.toNat)) ∧ w' = w := Any.bits_Len Try.lays125 x w h0 h1
def Try.lays189_ren : Go.Shelf.Ren := ⟨fun | 189 => 233 | 125 => 243 | 257 => 242 | 128 => 254 | 129 => 255 | 294 => 245 | 295 => 246 | 296 => 247 | 297 => 248 | 298 => 249 | 299 => 250 | 216 => 251 | 300 => 252 | 301 => 253 | 328 => 256 | 329 => 257 | 330 => 258 | 331 => 259 | 332 => 260 | 215 => 157 | 343 => 261 | n => n, fun | 28 => 34 | 3 => 3 | 46 => 193 | 0 => 0 | 51 => 216 | 53 => 219 | 4 => 4 | 183 => 234 | 182 => 233 | 131 => 44 | 5 => 5 | 9 => 9 | 218 => 240 | 222 => 244 | 228 => 246 | 229 => 247 | n => n, fun | n => n⟩
theorem Try.lays189 : Go.Proofs.Lays.n189 Try.prog Try.lays189_ren := {
  mixed := by kernel_rfl
  f125 := Try.func243.trans (congrArg some (by kernel_rfl))
  f128 := Try.func254.trans (congrArg some (by kernel_rfl))
  f129 := Try.func255.trans (congrArg some (by kernel_rfl))
  f189 := Try.func233.trans (congrArg some (by kernel_rfl))
  f215 := Try.func157.trans (congrArg some (by kernel_rfl))
  f216 := Try.func251.trans (congrArg some (by kernel_rfl))
  f257 := Try.func242.trans (congrArg some (by kernel_rfl))
  f294 := Try.func245.trans (congrArg some (by kernel_rfl))
  f295 := Try.func246.trans (congrArg some (by kernel_rfl))
  f296 := Try.func247.trans (congrArg some (by kernel_rfl))
  f297 := Try.func248.trans (congrArg some (by kernel_rfl))
  f298 := Try.func249.trans (congrArg some (by kernel_rfl))
  f299 := Try.func250.trans (congrArg some (by kernel_rfl))
  f300 := Try.func252.trans (congrArg some (by kernel_rfl))
  f301 := Try.func253.trans (congrArg some (by kernel_rfl))
  f328 := Try.func256.trans (congrArg some (by kernel_rfl))
  f329 := Try.func257.trans (congrArg some (by kernel_rfl))
  f330 := Try.func258.trans (congrArg some (by kernel_rfl))
  f331 := Try.func259.trans (congrArg some (by kernel_rfl))
  f332 := Try.func260.trans (congrArg some (by kernel_rfl))
  f343 := Try.func261.trans (congrArg some (by kernel_rfl))
  t0 := Try.underlying0
  a0 := Try.isAgg0
  z0 := Try.sizeOf0
  v0 := Try.zeroValue0
  t3 := Try.underlying3
  a3 := Try.isAgg3
  z3 := Try.sizeOf3
  v3 := Try.zeroValue3
  t4 := Try.underlying4
  a4 := Try.isAgg4
  z4 := Try.sizeOf4
  v4 := Try.zeroValue4
  t5 := Try.underlying5
  a5 := Try.isAgg5
  z5 := Try.sizeOf5
  v5 := Try.zeroValue5
  t9 := Try.underlying9
  a9 := Try.isAgg9
  z9 := Try.sizeOf9
  v9 := Try.zeroValue9
  t28 := Try.underlying34
  a28 := Try.isAgg34
  z28 := Try.sizeOf34
  v28 := Try.zeroValue34
  t46 := Try.underlying193
  a46 := Try.isAgg193
  z46 := Try.sizeOf193
  v46 := Try.zeroValue193
  t51 := Try.underlying216
  a51 := Try.isAgg216
  z51 := Try.sizeOf216
  v51 := Try.zeroValue216
  t53 := Try.underlying219
  a53 := Try.isAgg219
  z53 := Try.sizeOf219
  v53 := Try.zeroValue219
  t131 := Try.underlying44
  a131 := Try.isAgg44
  z131 := Try.sizeOf44
  v131 := Try.zeroValue44
  t182 := Try.underlying233
  a182 := Try.isAgg233
  z182 := Try.sizeOf233
  v182 := Try.zeroValue233
  t183 := Try.underlying234
  a183 := Try.isAgg234
  z183 := Try.sizeOf234
  v183 := Try.zeroValue234
  t218 := Try.underlying240
  a218 := Try.isAgg240
  z218 := Try.sizeOf240
  v218 := Try.zeroValue240
  t222 := Try.underlying244
  a222 := Try.isAgg244
  z222 := Try.sizeOf244
  v222 := Try.zeroValue244
  t228 := Try.underlying246
  a228 := Try.isAgg246
  z228 := Try.sizeOf246
  v228 := Try.zeroValue246
  t229 := Try.underlying247
  a229 := Try.isAgg247
  z229 := Try.sizeOf247
  v229 := Try.zeroValue247 }
open Go.Sort Go.RowKit in
theorem Try.slices_Sort_int (blk off cap : Nat) (zs : List Int) (w : World) (hH : Holds (Value.int .i64) w blk off zs.toArray) (hblk : blk < w.heap.size) (hsz : zs.length < 4611686018427387904) :
    Calls Try.prog 233 #[.slice (some ⟨blk, off, none⟩) zs.length cap] w fun e w' =>
      e = .returned (.tuple #[]) ∧ ∃ n os, w' = grow (putRow (Value.int .i64) (Sort.ahead w n) blk off (zs.mergeSort fun x y => decide (x ≤ y)).toArray) os := Any.slices_Sort_int Try.lays189 blk off cap zs w hH hblk hsz
def Try.laysNm220_ren : Go.Shelf.Ren := ⟨fun | 20 => 234 | n => n, fun | 22 => 34 | 3 => 3 | 4 => 4 | 0 => 0 | n => n, fun | n => n⟩
theorem Try.laysNm220 : Go.Proofs.Lays2.n20 Try.prog Try.laysNm220_ren := {
  mixed := by kernel_rfl
  f20 := Try.func234.trans (congrArg some (by kernel_rfl))
  t0 := Try.underlying0
  a0 := Try.isAgg0
  z0 := Try.sizeOf0
  v0 := Try.zeroValue0
  t3 := Try.underlying3
  a3 := Try.isAgg3
  z3 := Try.sizeOf3
  v3 := Try.zeroValue3
  t4 := Try.underlying4
  a4 := Try.isAgg4
  z4 := Try.sizeOf4
  v4 := Try.zeroValue4
  t22 := Try.underlying34
  a22 := Try.isAgg34
  z22 := Try.sizeOf34
  v22 := Try.zeroValue34
  i3 := by kernel_rfl }
open Go.RowKit Go.Lib Go.Sort in
/-- slices.Compact at []int: "Compact replaces consecutive runs of equal elements with a single copy. This is like the uniq command found on Unix. Compact modifies the contents of the slice s and returns the modified slice, which may have a smaller length. Compact zeroes the elements between the new length and the original length. The result preserves the nilness of s.": IT RETURNS THE SLICE CUT TO 'Lib.compact zs'; ITS CELLS HOLD 'Lib.compact zs', THEN ZERO VALUES up to the old length; all else is as it was, but for the count of draws. IN THE WORDS OF slices.Sort's CONTRACT ('Holds', 'putRow'): so the everyday 'slices.Sort(xs); xs = slices.Compact(xs)' goes from the one contract to the other. It asks 'zs.length ≤ cap' (every slice's: the reslicing 's[:k]' looks at it). Length 0, nil: '.._empty'. (LAID: no walk: one application.) -/
theorem Try.slices_Compact_int (blk off cap : Nat) (zs : List Int) (w : World) (hH : Holds (Value.int .i64) w blk off zs.toArray) (hsz : zs.length ≤ 9223372036854775807) (hcap : zs.length ≤ cap) :
    Calls Try.prog 234 #[.slice (some ⟨blk, off, none⟩) zs.length cap] w fun e w' => e = .returned (.slice (some ⟨blk, off, none⟩) (Lib.compact zs).length cap) ∧ ∃ q, w' = putRow (Value.int .i64) (Sort.ahead w q) blk off (Lib.compact zs ++ List.replicate (zs.length - (Lib.compact zs).length) 0).toArray := Any.slices_Compact_int Try.laysNm220 blk off cap zs w hH hsz hcap
open Go.RowKit Go.Lib Go.Sort in
/-- The same at a slice of length 0, a nil one too: it comes back as it is. (LAID: no walk: one application.) -/
theorem Try.slices_Compact_int_empty (a : Option Addr) (cap : Nat) (w : World) :
    Calls Try.prog 234 #[.slice a 0 cap] w fun e w' => e = .returned (.slice a 0 cap) ∧ w' = w := Any.slices_Compact_int_empty Try.laysNm220 a cap w
end Go.Proofs

namespace Go.Proofs.Ytaaloepoegehkaa
open Go.RowKit
set_option linter.unusedVariables false
set_option maxRecDepth 100000

theorem reads_ff (x : In) {a b : Bool} (ha : (fm x.op).a = false) (hb : (fm x.op).b = false) : readsL x = [] := by
  simp [readsL, reads2, ha, hb, compact0]
theorem reads_tf (x : In) (ha : (fm x.op).a = true) (hb : (fm x.op).b = false) : readsL x = put [] x.a := by
  simp [readsL, reads2, ha, hb, compact1, put_nil]
theorem reads_ft (x : In) (ha : (fm x.op).a = false) (hb : (fm x.op).b = true) : readsL x = put [] x.b := by
  simp [readsL, reads2, ha, hb, compact1, put_nil]
theorem reads_tt (x : In) (ha : (fm x.op).a = true) (hb : (fm x.op).b = true) : readsL x = put (put [] x.a) x.b := by
  have h1 : readsL x = Lib.compact ([x.a, x.b].mergeSort fun x y => decide (x ≤ y)) := by simp [readsL, reads2, ha, hb]
  rw [h1, sort2, put_nil]
  by_cases h : x.a ≤ x.b
  · rw [if_pos h, compact2]
    by_cases he : x.a = x.b
    · simp [put, he]
    · have h2 : x.a < x.b := by omega
      simp [put, h2, he]
  · rw [if_neg h, compact2]
    have h2 : ¬ x.a < x.b := by omega
    have h3 : ¬ x.b = x.a := by omega
    have h4 : ¬ x.a = x.b := by omega
    simp [put, h2, h3, h4]
theorem readsL_len (x : In) : (readsL x).length ≤ 2 := by
  cases ha : (fm x.op).a <;> cases hb : (fm x.op).b
  · rw [reads_ff x (a := true) (b := true) ha hb]; simp
  · rw [reads_ft x ha hb, put_nil]; simp
  · rw [reads_tf x ha hb, put_nil]; simp
  · rw [reads_tt x ha hb, put_nil]; have := put_len [x.a] x.b; simpa using this

set_option maxHeartbeats 4000000 in
theorem cdReads_any (x : In) (w : World) :
    Calls Try.prog 216 #[.agg #[.string x.op, .int .i64 x.d, .int .i64 x.a, .int .i64 x.b, .int .i64 x.m]] w (OwnI w.heap.size w (readsL x)) := by
  have hrf := fun h1 h2 => Lib.hid (reads_ff x (a := true) (b := true) h1 h2)
  have hrt := fun h1 h2 => Lib.hid (reads_tf x h1 h2)
  have hrs := fun h1 h2 => Lib.hid (reads_ft x h1 h2)
  have hru := fun h1 h2 => Lib.hid (reads_tt x h1 h2)
  obtain ⟨op, d, a, b, m⟩ := x
  generalize readsL ⟨op, d, a, b, m⟩ = R at *
  simp only at hrf hrt hrs hru
  have hb0 := Lib.hid ((Below.refl w.heap.size w).alloc (Nat.le_refl _) (.cells #[.string op, .int .i64 d, .int .i64 a, .int .i64 b, .int .i64 m] 88))
  have hP := fun w' (h : w.heap.size ≤ w'.heap.size) n => Lib.hid (l1Put_any w.heap.size w'.heap.size none 0 0 [] n w' rfl (by simp) (OW.nil _ _ _) h (Nat.le_refl _))
  go_enter Try.func216, Try.ntmps216
  go_wp2_with (fail)
  refine (cdShape_any _ _).mono ?_
  rintro e w' ⟨rfl, rfl⟩
  generalize fm op = f at *
  obtain ⟨ok, fa, fb, lo, hi, c⟩ := f
  simp only at hrf hrt hrs hru
  cases fa
  · cases fb
    · have hR := hrf rfl rfl
      clear hrf hrt hrs hru
      go_wp2
      go_ret
      rw [hR.out]
      exact ⟨none, 0, rfl, OW.nil _ _ _, hb0.out⟩
    · have hR := hrs rfl rfl
      clear hrf hrt hrs hru
      go_wp2_with (fail)
      refine (hP _ (by simp) _).out.mono ?_
      rintro e w1 ⟨A1, c1, rfl, ho1, hb1⟩
      have hO := Lib.hid ho1
      have hB := Lib.hid (hb0.out.trans (hb1.mono (by simp)))
      clear ho1 hb1
      go_wp2
      go_ret
      rw [hR.out]
      exact ⟨_, _, rfl, hO.out, hB.out⟩
  · cases fb
    · have hR := hrt rfl rfl
      clear hrf hrt hrs hru
      go_wp2_with (fail)
      refine (hP _ (by simp) _).out.mono ?_
      rintro e w1 ⟨A1, c1, rfl, ho1, hb1⟩
      have hO := Lib.hid ho1
      have hB := Lib.hid (hb0.out.trans (hb1.mono (by simp)))
      clear ho1 hb1
      go_wp2
      go_ret
      rw [hR.out]
      exact ⟨_, _, rfl, hO.out, hB.out⟩
    · have hR := hru rfl rfl
      clear hrf hrt hrs hru
      go_wp2_with (fail)
      refine (hP _ (by simp) _).out.mono ?_
      rintro e w1 ⟨A1, c1, rfl, ho1, hb1⟩
      obtain ⟨xa, xb, xc, xd, xe⟩ := In.old (x := ⟨op, d, a, b, m⟩) rfl hb1
      have hO := Lib.hid ho1
      have hB := Lib.hid (hb0.out.trans (hb1.mono (by simp)))
      have hpl := Lib.hid (put_len [] a)
      clear ho1 hb1
      go_wp2_with (fail)
      refine (l1Put_any w.heap.size w1.heap.size A1 _ c1 _ b _ rfl (by have := hpl.out; simp at this; omega) hO.out hB.out.size (Nat.le_refl _)).mono ?_
      rintro e w2 ⟨A2, c2, rfl, ho2, hb2⟩
      have hO2 := Lib.hid ho2
      have hB2 := Lib.hid (hB.out.trans (hb2.mono hB.out.size))
      clear ho2 hb2
      go_wp2
      go_ret
      rw [hR.out]
      exact ⟨_, _, rfl, hO2.out, hB2.out⟩
end Go.Proofs.Ytaaloepoegehkaa

namespace Go.Proofs.Ytaaloepoegehkaa
open Go.RowKit Go.Sort
set_option linter.unusedVariables false
set_option maxRecDepth 100000

theorem insNil_any (A : Option Addr) (c : Nat) (w : World) :
    Calls Try.prog 245 #[.slice A 0 c, .int .i64 0, .int .i64 0] w fun e w' => e = .returned (.tuple #[]) ∧ w = w' := by
  go_enter Try.func245, Try.ntmps245
  go_wp2
  go_loop [6] (fun i => i = .int .i64 1) (fun i => 0)
  case atStart => rfl
  case round =>
    subst hrel
    go_wp2
    go_end0
    exact ⟨rfl, rfl⟩
theorem pdqNil_any (A : Option Addr) (c : Nat) (n : Int) (w : World) :
    Calls Try.prog 242 #[.slice A 0 c, .int .i64 0, .int .i64 0, .int .i64 n] w fun e w' => e = .returned (.tuple #[]) ∧ w = w' := by
  go_enter Try.func242, Try.ntmps242
  go_wp2
  go_loop [1, 2] (fun i j => i = .int .i64 0 ∧ j = .int .i64 0) (fun i _ => 0)
  case atStart => exact ⟨rfl, rfl⟩
  case round =>
    obtain ⟨rfl, rfl⟩ := hrel
    go_wp2_with (go_at_call 245; refine (insNil_any _ _ _).mono ?_; rintro e w' ⟨rfl, rfl⟩)
    exact bodyPost_ret (v := .tuple #[]) (by simp [results, Try.results242, go_sem]) rfl ⟨rfl, rfl⟩
theorem sortNil_any (A : Option Addr) (c : Nat) (w : World) :
    Calls Try.prog 233 #[.slice A 0 c] w fun e w' => e = .returned (.tuple #[]) ∧ w = w' := by
  have H := Lib.hid (Try.bits_Len 0 w (by omega) (by omega))
  go_enter Try.func233, Try.ntmps233
  go_wp2_with (fail)
  refine H.out.mono ?_
  rintro e w' ⟨rfl, rfl⟩
  generalize Lib.bitLen _ = q
  go_wp2_with (go_at_call 242; refine (pdqNil_any _ _ _ _).mono ?_; rintro e w' ⟨rfl, rfl⟩)
  go_end0
  exact ⟨rfl, rfl⟩
def sorted (xs : List Int) : List Int := xs.mergeSort fun x y => decide (x ≤ y)
theorem sorted_len (xs : List Int) : (sorted xs).length = xs.length := by simp [sorted]
/-- slices.Sort on a slice of the call's own. -/
theorem sortOwn_any (lo hi : Nat) (A : Option Addr) (n c : Nat) (xs : List Int) (w : World) (hn : n = xs.length) (hl : xs.length ≤ 1048576) (hx : OW w lo hi (.slice A n c) xs) :
    Calls Try.prog 233 #[.slice A n c] w fun e w' => e = .returned (.tuple #[]) ∧ OW w' lo hi (.slice A n c) (sorted xs) ∧ Chg lo hi w w' := by
  subst hn
  rcases hx.1.2 with ⟨h0, h1⟩ | ⟨g, cap, cur, e, hlo, _⟩
  · injection h0 with e1 e2 e3
    obtain rfl : xs = [] := List.eq_nil_of_length_eq_zero h1
    subst e1; subst e3
    refine (sortNil_any none 0 w).mono ?_
    rintro e w' ⟨rfl, rfl⟩
    exact ⟨rfl, by simpa [sorted] using hx, Chg.refl _ _ _⟩
  · injection e with e1 e2 e3
    subst e1; subst e3
    have hg : g < w.heap.size := (hx.1.lt g rfl).2
    refine (Try.slices_Sort_int g 0 c xs w hx.holds hg (by omega)).mono ?_
    rintro e w' ⟨rfl, m, os, rfl⟩
    have hgh : g < hi := hx.2 g rfl
    exact ⟨rfl, hx.put (sorted_len xs) m os, (chg_put w g m _ os).more hlo hgh⟩
theorem compact_pre (xs : List Int) : (Lib.compact xs).length ≤ xs.length := by
  unfold Lib.compact Lib.compactUpTo
  rw [List.length_map]
  exact Nat.le_trans (List.length_filter_le _ _) (by simp)
/-- slices.Compact on a slice of the call's own. -/
theorem compactOwn_any (lo hi : Nat) (A : Option Addr) (n c : Nat) (xs : List Int) (w : World) (hn : n = xs.length) (hl : xs.length ≤ 1048576) (hx : OW w lo hi (.slice A n c) xs) :
    Calls Try.prog 234 #[.slice A n c] w fun e w' => e = .returned (.slice A (Lib.compact xs).length c) ∧ OW w' lo hi (.slice A (Lib.compact xs).length c) (Lib.compact xs) ∧ Chg lo hi w w' := by
  subst hn
  rcases hx.1.2 with ⟨h0, h1⟩ | ⟨g, cap, cur, e, hlo, _, h1, _⟩
  · injection h0 with e1 e2 e3
    obtain rfl : xs = [] := List.eq_nil_of_length_eq_zero h1
    subst e1; subst e3
    refine (Try.slices_Compact_int_empty none 0 w).mono ?_
    rintro e w' ⟨rfl, rfl⟩
    rw [compact0]
    exact ⟨rfl, hx, Chg.refl _ _ _⟩
  · injection e with e1 e2 e3
    subst e1; subst e3
    refine (Try.slices_Compact_int g 0 c xs w hx.holds (by omega) h1).mono ?_
    rintro e w' ⟨rfl, m, rfl⟩
    have hcl := compact_pre xs
    have hgh : g < hi := hx.2 g rfl
    have hp := hx.put (d := Lib.compact xs ++ List.replicate (xs.length - (Lib.compact xs).length) 0) (by simp; omega) m #[]
    have hs := hp.short (Lib.compact xs).length (by simp)
    rw [List.take_left, grow_empty] at hs
    refine ⟨rfl, hs, ?_⟩
    have := chg_put w g m (Lib.compact xs ++ List.replicate (xs.length - (Lib.compact xs).length) 0).toArray #[]
    rw [grow_empty] at this
    exact this.more hlo hgh
end Go.Proofs.Ytaaloepoegehkaa

namespace Go.Proofs.Ytaaloepoegehkaa
open Go.RowKit
set_option linter.unusedVariables false
set_option maxRecDepth 100000

/-- Five cells of a block. -/
theorem five_cells {w : World} {g : Nat} {t : TypeId} {a b c d e : Value} (h : w.heap[g]? = some (.cells #[a, b, c, d, e] t (0, 0))) :
    w.cell? ⟨g, 0, none⟩ = some a ∧ w.cell? ⟨g, 1, none⟩ = some b := by
  have hc := fun i => cell_of_row w g i #[a, b, c, d, e] t (0, 0) h
  exact ⟨hc 0, hc 1⟩
/-- Behind an append onto nil: what lay there reads as it did. -/
theorem cell_grown {w w' : World} {row : Option Nat} {p : Addr} {v : Value} (h : w.grownBy w' row) (hp : row = none) (hc : w.cell? p = some v) : w'.cell? p = some v :=
  h.cell hc (by rw [hp]; simp)
theorem keep2 {w2 w4 : World} {o1 o2 : Obj} (h : ((w2.alloc o1).alloc o2).grownBy w4 none) : Below w2.heap.size w2 w4 :=
  (((Below.refl w2.heap.size w2).alloc (Nat.le_refl _) o1).alloc (by simp) o2).grown h (by simp; omega) (fun j hj => by cases hj)
theorem blk2 {w2 w4 : World} {o1 o2 : Obj} (h : ((w2.alloc o1).alloc o2).grownBy w4 none) : w4.heap[w2.heap.size]? = some o1 :=
  (h.block w2.heap.size (by simp; omega) (by simp)).trans ((Below.heap_alloc _ _ _ (by simp)).trans (heap_alloc_new w2 o1))
set_option maxHeartbeats 4000000 in
theorem readsOf_any (x : In) (w : World) :
    Calls Try.prog 218 #[.agg #[.string x.op, .int .i64 x.d, .int .i64 x.a, .int .i64 x.b, .int .i64 x.m]] w (OwnI w.heap.size w (readsL x)) := by
  obtain ⟨i0, hi', hz0, hz1, hz2⟩ := info_parts Try.infoInt
  have hRL : Hid (readsL x = Lib.compact (sorted (reads2 (fm x.op).a (fm x.op).b x.a x.b))) := rfl
  obtain ⟨op, d, a, b, m⟩ := x
  generalize readsL ⟨op, d, a, b, m⟩ = R at *
  simp only at hRL
  have hB1 := fun o => (Below.refl w.heap.size w).alloc (Nat.le_refl _) o
  go_enter Try.func218, Try.ntmps218
  go_wp2_with (fail)
  refine (formOf_any _ _).mono ?_
  rintro e w2 ⟨rfl, hb⟩
  obtain ⟨xa, xb, xc, xd, xe⟩ := In.old (x := ⟨op, d, a, b, m⟩) rfl hb
  have hbb := Lib.hid ((hB1 _).trans (hb.mono (by simp)))
  have hz : w.heap.size < w2.heap.size := by have := hb.size; simp at this; omega
  clear hb hB1
  generalize fm op = f at *
  obtain ⟨ok, fa, fb, lo, hi, cc⟩ := f
  simp only [fmV]
  simp only at hRL
  have hbo := fun o => Lib.hid (hbb.out.alloc hbb.out.size o)
  cases fa
  · cases fb
    · have hR : Hid (R = Lib.compact (sorted [])) := hRL.out
      go_wp2_with (fail)
      refine (sortOwn_any w.heap.size _ none 0 0 [] _ rfl (by simp) (OW.nil _ w.heap.size w2.heap.size)).mono ?_
      rintro e w6 ⟨rfl, ho6, hc6⟩
      have hO6 := Lib.hid ho6
      have hb6 := Lib.hid (below_chg (hbo _).out hc6 (hbo _).out.size (Nat.le_refl _))
      clear ho6 hc6
      go_wp2_with (fail)
      refine (compactOwn_any w.heap.size _ _ _ _ _ _ (sorted_len _).symm (by rw [sorted_len]; simp) hO6.out).mono ?_
      rintro e w7 ⟨rfl, ho7, hc7⟩
      have hb7 := Lib.hid (below_chg hb6.out hc7 hb6.out.size (Nat.le_refl _))
      rw [show Lib.compact (sorted []) = R from hR.out.symm] at ho7 ⊢
      have hO7 := Lib.hid ho7
      clear ho7 hc7
      go_wp2
      go_ret
      exact ⟨_, _, rfl, ⟨hO7.out.1, fun j hj => (hO7.out.1.lt j hj).2⟩, hb7.out⟩
    · have hR : Hid (R = Lib.compact (sorted [b])) := hRL.out
      go_wp2_with (at_builtin; refine wpList_append_own _ rfl (.tmp 21) (.tmp 24) 34 rfl w.heap.size 3 i0 (.int .i64 0) 1 8 Try.underlying34 hi' hz0 hz1 hz2 rfl (by decide) (.slice none 0 0) 0 [] rfl (World.ownsRow_nil _ _ _ _) ⟨w2.heap.size + 1, 0, none⟩ 1 1 [.int .i64 b] rfl rfl (new1 (by simp)) (one1 _) (by unfold maxLen; omega) (by omega) (by simp; omega) ?_; intro v1 w4 hown1 hgr1 _; simp only [Nat.zero_add, List.nil_append] at hown1; have hb4 := Lib.hid (keep2 hgr1); obtain ⟨f0, f1⟩ := five_cells (blk2 hgr1); have xd4 := (hb4.out.cell (p := ⟨w.heap.size, 3, none⟩) hz).trans xd; have hz4 := hb4.out.size)
      have hO4 := Lib.hid (OW.ofRow (xs := [b]) hown1 rfl)
      obtain ⟨A4, c4, rfl, _⟩ := hO4.out.form
      have hbel4 := Lib.hid (hbb.out.trans (hb4.out.mono hbb.out.size))
      refine (sortOwn_any w.heap.size _ A4 1 c4 [b] _ rfl (by simp) hO4.out).mono ?_
      rintro e w6 ⟨rfl, ho6, hc6⟩
      have hO6 := Lib.hid ho6
      have hb6 := Lib.hid (below_chg hbel4.out hc6 hbel4.out.size (Nat.le_refl _))
      clear ho6 hc6
      go_wp2_with (fail)
      refine (compactOwn_any w.heap.size _ _ _ _ _ _ (sorted_len _).symm (by rw [sorted_len]; simp) hO6.out).mono ?_
      rintro e w7 ⟨rfl, ho7, hc7⟩
      have hb7 := Lib.hid (below_chg hb6.out hc7 hb6.out.size (Nat.le_refl _))
      rw [show Lib.compact (sorted [b]) = R from hR.out.symm] at ho7 ⊢
      have hO7 := Lib.hid ho7
      clear ho7 hc7
      go_wp2
      go_ret
      exact ⟨_, _, rfl, ⟨hO7.out.1, fun j hj => (hO7.out.1.lt j hj).2⟩, hb7.out⟩
  · cases fb
    · have hR : Hid (R = Lib.compact (sorted [a])) := hRL.out
      go_wp2_with (at_builtin; refine wpList_append_own _ rfl (.tmp 14) (.tmp 17) 34 rfl w.heap.size 3 i0 (.int .i64 0) 1 8 Try.underlying34 hi' hz0 hz1 hz2 rfl (by decide) (.slice none 0 0) 0 [] rfl (World.ownsRow_nil _ _ _ _) ⟨w2.heap.size + 1, 0, none⟩ 1 1 [.int .i64 a] rfl rfl (new1 (by simp)) (one1 _) (by unfold maxLen; omega) (by omega) (by simp; omega) ?_; intro v1 w4 hown1 hgr1 _; simp only [Nat.zero_add, List.nil_append] at hown1; have hb4 := Lib.hid (keep2 hgr1); obtain ⟨f0, f1⟩ := five_cells (blk2 hgr1); have xd4 := (hb4.out.cell (p := ⟨w.heap.size, 3, none⟩) hz).trans xd; have hz4 := hb4.out.size)
      have hO4 := Lib.hid (OW.ofRow (xs := [a]) hown1 rfl)
      obtain ⟨A4, c4, rfl, _⟩ := hO4.out.form
      have hbel4 := Lib.hid (hbb.out.trans (hb4.out.mono hbb.out.size))
      refine (sortOwn_any w.heap.size _ A4 1 c4 [a] _ rfl (by simp) hO4.out).mono ?_
      rintro e w6 ⟨rfl, ho6, hc6⟩
      have hO6 := Lib.hid ho6
      have hb6 := Lib.hid (below_chg hbel4.out hc6 hbel4.out.size (Nat.le_refl _))
      clear ho6 hc6
      go_wp2_with (fail)
      refine (compactOwn_any w.heap.size _ _ _ _ _ _ (sorted_len _).symm (by rw [sorted_len]; simp) hO6.out).mono ?_
      rintro e w7 ⟨rfl, ho7, hc7⟩
      have hb7 := Lib.hid (below_chg hb6.out hc7 hb6.out.size (Nat.le_refl _))
      rw [show Lib.compact (sorted [a]) = R from hR.out.symm] at ho7 ⊢
      have hO7 := Lib.hid ho7
      clear ho7 hc7
      go_wp2
      go_ret
      exact ⟨_, _, rfl, ⟨hO7.out.1, fun j hj => (hO7.out.1.lt j hj).2⟩, hb7.out⟩
    · have hR : Hid (R = Lib.compact (sorted [a, b])) := hRL.out
      go_wp2_with (first
        | (at_builtin; refine wpList_append_own _ rfl (.tmp 14) (.tmp 17) 34 rfl w.heap.size 3 i0 (.int .i64 0) 1 8 Try.underlying34 hi' hz0 hz1 hz2 rfl (by decide) (.slice none 0 0) 0 [] rfl (World.ownsRow_nil _ _ _ _) ⟨w2.heap.size + 1, 0, none⟩ 1 1 [.int .i64 a] rfl rfl (new1 (by simp)) (one1 _) (by unfold maxLen; omega) (by omega) (by simp; omega) ?_; intro v1 w4 hown1 hgr1 _; simp only [Nat.zero_add, List.nil_append] at hown1; have hb4 := Lib.hid (keep2 hgr1); obtain ⟨f0, f1⟩ := five_cells (blk2 hgr1); have xd4 := (hb4.out.cell (p := ⟨w.heap.size, 3, none⟩) hz).trans xd; have hz4 := hb4.out.size)
        | (at_builtin; refine wpList_append_own _ rfl (.tmp 21) (.tmp 24) 34 rfl w.heap.size 3 i0 (.int .i64 0) 1 8 Try.underlying34 hi' hz0 hz1 hz2 rfl (by decide) v1 1 _ rfl (hown1.alloc _) ⟨w4.heap.size, 0, none⟩ 1 1 [.int .i64 b] rfl rfl (new1 rfl) (one1 _) (by unfold maxLen; omega) (by omega) (by simp; omega) ?_; intro v2 w5 hown2 hgr2 _; simp only [List.singleton_append, Nat.reduceAdd] at hown2; have hb5 := Lib.hid (((hbb.out.trans (hb4.out.mono hbb.out.size)).alloc (by omega) _).grown hgr2 (by simp; omega) (fun j hj => (hown1.lt j hj).1))))
      have hO5 := Lib.hid (OW.ofRow (xs := [a, b]) hown2 rfl)
      obtain ⟨A5, c5, rfl, _⟩ := hO5.out.form
      refine (sortOwn_any w.heap.size _ A5 2 c5 [a, b] _ rfl (by simp) hO5.out).mono ?_
      rintro e w6 ⟨rfl, ho6, hc6⟩
      have hO6 := Lib.hid ho6
      have hb6 := Lib.hid (below_chg hb5.out hc6 hb5.out.size (Nat.le_refl _))
      clear ho6 hc6
      go_wp2_with (fail)
      refine (compactOwn_any w.heap.size _ _ _ _ _ _ (sorted_len _).symm (by rw [sorted_len]; simp) hO6.out).mono ?_
      rintro e w7 ⟨rfl, ho7, hc7⟩
      have hb7 := Lib.hid (below_chg hb6.out hc7 hb6.out.size (Nat.le_refl _))
      rw [show Lib.compact (sorted [a, b]) = R from hR.out.symm] at ho7 ⊢
      have hO7 := Lib.hid ho7
      clear ho7 hc7
      go_wp2
      go_ret
      exact ⟨_, _, rfl, ⟨hO7.out.1, fun j hj => (hO7.out.1.lt j hj).2⟩, hb7.out⟩
end Go.Proofs.Ytaaloepoegehkaa

namespace Go.Proofs.Ytaaloepoegehkaa
open Go.RowKit
set_option linter.unusedVariables false
set_option maxRecDepth 100000

theorem l1Has_lit (L B : Nat) (A : Option Addr) (m c : Nat) (xs : List Int) (n : Int) (r : Bool) (w : World) (hr : hasI xs n = r) (hm : m = xs.length) (hl : xs.length ≤ 1000000) (hx : IS w L B A xs) :
    Calls Try.prog 143 #[.slice A m c, .int .i64 n] w fun e w' => e = .returned (.bool r) ∧ w = w' := by
  subst hr; exact l1Has_eq L B A m c xs n w hm hl hx
def readsR (x : In) : List Int := if goodIn x = true then readsL x else []
theorem readsR_len (x : In) : (readsR x).length ≤ 1048576 := by
  unfold readsR; split
  · have := readsL_len x; omega
  · simp

/-- Whether two instructions are independent. -/
def freeB (x y : In) : Bool := !(x.d == y.d) && !hasI (readsL x) y.d && !hasI (readsL y) x.d
/-- Whether x writes what y reads or writes. -/
def touchB (x y : In) : Bool := x.d == y.d || hasI (readsL y) x.d
theorem free_touch (x y : In) : freeB x y = (!touchB x y && !touchB y x) := by
  unfold freeB touchB
  have : (y.d == x.d) = (x.d == y.d) := by rw [Bool.eq_iff_iff]; simp; exact eq_comm
  rw [this]
  cases x.d == y.d <;> cases hasI (readsL x) y.d <;> cases hasI (readsL y) x.d <;> rfl
end Go.Proofs.Ytaaloepoegehkaa

/- Names of registers: the plain model. No program. -/
namespace Go.Proofs.Ytaaloepoegehkaa
open Go.RowKit
set_option linter.unusedVariables false

def riseB (xs : List Int) : Bool := allIn xs 0 5 && decide (xs.Pairwise (· < ·))
def onceB (xs : List Int) : Bool := decide xs.Nodup
def namesOk (xs : List Int) : Bool := xs.length == 6 && allIn xs 0 5 && onceB xs
theorem allIn_perm {xs ys : List Int} {lo hi : Int} (h : xs.Perm ys) : allIn xs lo hi = allIn ys lo hi := by
  rw [Bool.eq_iff_iff]; simp only [allIn, List.all_eq_true]
  exact ⟨fun k x hx => k x (h.mem_iff.2 hx), fun k x hx => k x (h.mem_iff.1 hx)⟩
theorem sorted_perm (xs : List Int) : (sorted xs).Perm xs := List.mergeSort_perm _ _
theorem sorted_le (xs : List Int) : (sorted xs).Pairwise (· ≤ ·) := by
  have := List.pairwise_mergeSort (le := fun (x y : Int) => decide (x ≤ y)) (by intro a b c; simp; omega) (by intro a b; simp; omega) xs
  exact this.imp fun h => by simpa using h
theorem lt_of_le {xs : List Int} (h : xs.Pairwise (· ≤ ·)) (hn : xs.Nodup) : xs.Pairwise (· < ·) := by
  refine (h.and hn).imp ?_
  rintro a b ⟨h1, h2⟩; omega
theorem nodup_of_lt {xs : List Int} (h : xs.Pairwise (· < ·)) : xs.Nodup := h.imp fun h => by omega
theorem rise_sorted (xs : List Int) : riseB (sorted xs) = (allIn xs 0 5 && onceB xs) := by
  unfold riseB onceB
  rw [allIn_perm (sorted_perm xs)]
  congr 1
  rw [decide_eq_decide]
  exact ⟨fun h => (sorted_perm xs).nodup_iff.1 (nodup_of_lt h), fun h => lt_of_le (sorted_le xs) ((sorted_perm xs).nodup_iff.2 h)⟩
theorem once_no {xs : List Int} {k : Nat} (h : k < xs.length) (hh : hasI (xs.take k) xs[k] = true) : onceB xs = false := by
  simp only [onceB, decide_eq_false_iff_not]
  intro hn
  have h1 : (xs.take (k + 1)).Nodup := hn.sublist (List.take_sublist _ _)
  rw [List.take_succ_eq_append_getElem h, List.nodup_append] at h1
  obtain ⟨x, hx, he⟩ := List.any_eq_true.1 hh
  exact h1.2.2 x hx xs[k] (by simp) (by simpa using he)
theorem once_snoc {xs : List Int} {k : Nat} (h : k < xs.length) (ho : onceB (xs.take k) = true) (hh : hasI (xs.take k) xs[k] = false) : onceB (xs.take (k + 1)) = true := by
  simp only [onceB, decide_eq_true_eq] at ho ⊢
  rw [List.take_succ_eq_append_getElem h, List.nodup_append]
  refine ⟨ho, by simp, fun a ha b hb => ?_⟩
  simp at hb; subst hb
  intro he; subst he
  have : hasI (xs.take k) xs[k] = true := List.any_eq_true.2 ⟨_, ha, by simp⟩
  rw [hh] at this; cases this
theorem rise_reg {xs : List Int} {k : Nat} (h : k < xs.length) (hh : inR xs[k] 0 5 = false) : riseB xs = false := by
  have : allIn xs 0 5 = false := by
    cases hb : allIn xs 0 5
    · rfl
    · have := List.all_eq_true.1 hb xs[k] (List.getElem_mem h); rw [hh] at this; cases this
  simp [riseB, this]
theorem rise_le {xs : List Int} {k : Nat} (h : k + 1 < xs.length) (hh : xs[k + 1] ≤ xs[k]) : riseB xs = false := by
  have : ¬ xs.Pairwise (· < ·) := fun hp => by
    have := List.pairwise_iff_getElem.1 hp k (k + 1) (by omega) h (by omega); omega
  simp [riseB, this]
theorem rise_snoc0 {xs : List Int} (h : 0 < xs.length) (hr : inR xs[0] 0 5 = true) : riseB (xs.take 1) = true := by
  obtain _ | ⟨x, xs⟩ := xs
  · simp at h
  · simp [riseB, allIn] at hr ⊢; exact hr
theorem rise_snoc {xs : List Int} {k : Nat} (h : k + 1 < xs.length) (ho : riseB (xs.take (k + 1)) = true) (hr : inR xs[k + 1] 0 5 = true) (hh : xs[k] < xs[k + 1]) : riseB (xs.take (k + 2)) = true := by
  simp only [riseB, Bool.and_eq_true, decide_eq_true_eq] at ho ⊢
  refine ⟨by rw [allIn_snoc h, ho.1, hr]; rfl, ?_⟩
  rw [List.pairwise_iff_getElem] at *
  intro i j hi hj hij
  simp only [List.length_take] at hi hj
  simp only [List.getElem_take]
  have hp := fun i j (hi : i < k + 1) (hj : j < k + 1) (hij : i < j) => by
    have := ho.2 i j (by simp; omega) (by simp; omega) hij; simpa using this
  by_cases hj1 : j = k + 1
  · subst hj1
    by_cases hi1 : i = k
    · subst hi1; exact hh
    · have := hp i k (by omega) (by omega) (by omega)
      omega
  · exact hp i j (by omega) (by omega) hij
def ren (ns : List Int) (x : In) : In := ⟨x.op, ns.getD x.d.toNat 0, if (fm x.op).a = true then ns.getD x.a.toNat 0 else 0, if (fm x.op).b = true then ns.getD x.b.toNat 0 else 0, x.m⟩
def renR (es : List In) (ns : List Int) : List In := if (okCode es && namesOk ns) = true then es.map (ren ns) else []
theorem renR_len (es : List In) (ns : List Int) : (renR es ns).length ≤ 1048576 := by
  unfold renR; split
  · rename_i h; simp only [Bool.and_eq_true] at h
    have := okCode_len h.1; simp; omega
  · simp
theorem names6 {ns : List Int} (h : namesOk ns = true) : ns.length = 6 := by
  simp only [namesOk, Bool.and_eq_true, beq_iff_eq] at h; exact h.1.1
theorem good_zero {x : In} (h : goodIn x = true) : ((fm x.op).a = false → x.a = 0) ∧ ((fm x.op).b = false → x.b = 0) := by
  simp only [goodIn, opnd, Bool.and_eq_true, Bool.or_eq_true, beq_iff_eq] at h
  obtain ⟨⟨⟨⟨h1, h2⟩, h3⟩, h4⟩, h5⟩ := h
  constructor
  · intro ha; rcases h3 with h | h
    · exact h
    · rw [ha] at h; simp at h
  · intro ha; rcases h4 with h | h
    · exact h
    · rw [ha] at h; simp at h
end Go.Proofs.Ytaaloepoegehkaa
