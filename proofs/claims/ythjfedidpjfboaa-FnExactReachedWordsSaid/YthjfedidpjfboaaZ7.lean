/- Texts of this proof, one behind the other: BL, BM, TAm, BJ, LawLV, BN. -/
import Derived.Test.YthjfedidpjfboaaZ8
import Derived.Test.YthjfedidpjfboaaZ13
import Derived.Test.YthjfedidpjfboaaZ11
import Derived.WalkKit
import Derived.WalkSpells
import Derived.WalkLawsBesides
import Derived.Lib.Hide
import Derived.Test.YthjfedidpjfboaaZ9
import Derived.Test.YthjfedidpjfboaaCE
import Derived.Test.YthjfedidpjfboaaZ14
import Derived.Test.YthjfedidpjfboaaLawC
import Derived.Test.YthjfedidpjfboaaCG
import Derived.Test.YthjfedidpjfboaaV3
/- What is alive before a code, and the code without what is dead: plain. -/
namespace Go.Proofs.Ythjfedidpjfboaa
open Go.RowKit
set_option linter.unusedVariables false

def lvS (bs : List Bool) (cs : List In) : List Bool := cs.foldr (fun x b => bkB b x) bs
def ddStep (x : In) (p : List In × List Bool) : List In × List Bool := if p.2.getD x.d.toNat false = true then (x :: p.1, bkB p.2 x) else p
def ddS (bs : List Bool) (cs : List In) : List In × List Bool := cs.foldr ddStep ([], bs)
theorem lvS_drop (bs : List Bool) {cs : List In} {k : Nat} (h : k < cs.length) : lvS bs (cs.drop k) = bkB (lvS bs (cs.drop (k + 1))) cs[k] := by
  unfold lvS; rw [List.drop_eq_getElem_cons h, List.foldr_cons]
theorem ddS_drop (bs : List Bool) {cs : List In} {k : Nat} (h : k < cs.length) : ddS bs (cs.drop k) = ddStep cs[k] (ddS bs (cs.drop (k + 1))) := by
  unfold ddS; rw [List.drop_eq_getElem_cons h, List.foldr_cons]
theorem lvS_len (bs : List Bool) : ∀ cs : List In, (lvS bs cs).length = bs.length
  | [] => rfl
  | x :: cs => by show (bkB (lvS bs cs) x).length = _; rw [bkB_len, lvS_len bs cs]
theorem ddS_len (bs : List Bool) : ∀ cs : List In, (ddS bs cs).1.length ≤ cs.length ∧ (ddS bs cs).2.length = bs.length
  | [] => ⟨Nat.le_refl _, rfl⟩
  | x :: cs => by
    have ih := ddS_len bs cs
    show (ddStep x (ddS bs cs)).1.length ≤ _ ∧ (ddStep x (ddS bs cs)).2.length = _
    unfold ddStep
    split
    · exact ⟨by simp; omega, by rw [bkB_len]; exact ih.2⟩
    · exact ⟨by simp; omega, ih.2⟩
/-- The model's lists and the program's bits. -/
theorem lvS_bits {bs : List Bool} (hl : bs.length = 6) : ∀ {cs : List In}, (∀ x ∈ cs, goodIn x = true) → cs.foldr (fun x L => lvB x L) (mkT bs) = mkT (lvS bs cs)
  | [], _ => rfl
  | x :: cs, h => by
    rw [List.foldr_cons, lvS_bits hl (fun y hy => h y (by simp [hy])), lvB_bits (h x (by simp)) (by rw [lvS_len]; exact hl)]; rfl
theorem ddS_good (bs : List Bool) : ∀ {cs : List In}, (∀ x ∈ cs, goodIn x = true) → ∀ x ∈ (ddS bs cs).1, goodIn x = true
  | [], _ => by intro x hx; cases hx
  | y :: cs, h => by
    have ih := ddS_good bs (cs := cs) (fun z hz => h z (by simp [hz]))
    show ∀ x ∈ (ddStep y (ddS bs cs)).1, goodIn x = true
    unfold ddStep
    split
    · intro x hx
      rcases List.mem_cons.mp hx with rfl | hx
      · exact h _ (by simp)
      · exact ih x hx
    · exact ih
/-- Two lists of numbers that increase and hold the same are the same. -/
theorem inc_ext : ∀ {a b : List Int}, a.Pairwise (· < ·) → b.Pairwise (· < ·) → (∀ x, x ∈ a ↔ x ∈ b) → a = b
  | [], [], _, _, _ => rfl
  | [], y :: b, _, _, h => absurd ((h y).2 (by simp)) (by simp)
  | x :: a, [], _, _, h => absurd ((h x).1 (by simp)) (by simp)
  | x :: a, y :: b, ha, hb, h => by
    rw [List.pairwise_cons] at ha hb
    have hxy : x = y := by
      rcases List.mem_cons.mp ((h x).1 (by simp)) with e | hx
      · exact e
      · rcases List.mem_cons.mp ((h y).2 (by simp)) with e | hy
        · exact e.symm
        · have := hb.1 x hx; have := ha.1 y hy; omega
    subst hxy
    congr 1
    refine inc_ext ha.2 hb.2 fun z => ⟨fun hz => ?_, fun hz => ?_⟩
    · rcases List.mem_cons.mp ((h z).1 (by simp [hz])) with e | hz'
      · have := ha.1 z hz; omega
      · exact hz'
    · rcases List.mem_cons.mp ((h z).2 (by simp [hz])) with e | hz'
      · have := hb.1 z hz; omega
      · exact hz'
theorem mkT_inc (bs : List Bool) : (mkT bs).Pairwise (· < ·) := by
  unfold mkT
  rw [List.pairwise_map]
  exact ((List.pairwise_lt_range (n := 6)).filter _).imp (fun h => by omega)
theorem rise_bits {xs : List Int} (h : riseB xs = true) : (∀ r ∈ xs, In6 r) ∧ mkT (setsTo xs xs.length) = xs := by
  unfold riseB at h
  rw [Bool.and_eq_true] at h
  have hin : ∀ r ∈ xs, In6 r := fun r hr => by
    have h1 := h.1
    simp [allIn, inR] at h1
    have := h1 r hr
    unfold In6; omega
  refine ⟨hin, inc_ext (mkT_inc _) (of_decide_eq_true h.2) fun z => ?_⟩
  unfold setsTo
  rw [List.take_length]
  have hg := setsB_get xs (List.replicate 6 false) hin rfl
  constructor
  · intro hz
    obtain ⟨z0, z5⟩ := mkT_in z hz
    obtain ⟨i, rfl⟩ := Int.eq_ofNat_of_zero_le z0
    have := (mem_mkT (bs := setsB (List.replicate 6 false) xs) (i := i) (by omega)).1 hz
    rcases (hg i (by omega)).1 this with e | e
    · exfalso
      have : ∀ j, j < 6 → (List.replicate 6 false).getD j false = false := by decide
      rw [this i (by omega)] at e; cases e
    · exact e
  · intro hz
    obtain ⟨z0, z5⟩ := hin z hz
    obtain ⟨i, rfl⟩ := Int.eq_ofNat_of_zero_le z0
    exact (mem_mkT (by omega)).2 ((hg i (by omega)).2 (.inr hz))
end Go.Proofs.Ythjfedidpjfboaa

/- cdWanted of the model. -/
namespace Go.Proofs.Ythjfedidpjfboaa
open Go.RowKit
set_option linter.unusedVariables false
set_option maxRecDepth 100000

set_option maxHeartbeats 1000000 in
theorem l1Rising_any (L B : Nat) (A : Option Addr) (c : Nat) (xs : List Int) (w : World) (hl : xs.length ≤ 1048576) (hx : IS w L B A xs) :
    Calls Try.prog 149 #[.slice A xs.length c, .int .i64 0, .int .i64 5] w fun e w' => e = .returned (.bool (riseB xs)) ∧ w = w' := by
  have hX := Lib.hid hx; clear hx
  go_enter Try.func149, Try.ntmps149
  go_wp2
  go_loop [11] (fun i => ∃ k : Nat, k ≤ xs.length ∧ i = .int .i64 k ∧ riseB (xs.take k) = true) (fun i => xs.length - (intOf i).toNat)
  case atStart => exact ⟨0, Nat.zero_le _, rfl, rfl⟩
  case round =>
    obtain ⟨k, hk, rfl, hh⟩ := hrel
    have hH := Lib.hid hh; clear hh
    by_cases hlt : k < xs.length
    · obtain ⟨b, o, rfl, _, hc⟩ := hX.out (by omega)
      cases k with
      | zero =>
        have hcell : w.cell? ⟨b, o, none⟩ = _ := hc 0 hlt
        clear hc
        have hNo := Lib.hid (rise_reg hlt)
        have hS := Lib.hid (rise_snoc0 hlt)
        generalize xs[0] = x at *
        have hC := Lib.hid fun (W : World) => (show Calls Try.prog 137 #[.int .i64 x, .int .i64 0, .int .i64 5] W fun e w' => e = .returned (.bool (inR x 0 5)) ∧ W = w' from l1In_any x 0 5 W)
        cases hb : inR x 0 5 <;> rw [hb] at hC
        · have hF := Lib.hid (hNo.out hb)
          go_wp2_with (go_at_call 137; refine (hC.out _).mono ?_; rintro e w' ⟨rfl, rfl⟩)
          go_ret
          exact ⟨ret_bool hF.out.symm, rfl⟩
        · have hS' := Lib.hid (hS.out hb)
          go_wp2_with (go_at_call 137; refine (hC.out _).mono ?_; rintro e w' ⟨rfl, rfl⟩)
          go_round
          case rel => exact ⟨1, by omega, by go_num, hS'.out⟩
          case measure => simp [intOf]; omega
      | succ k =>
        have hcell := hc (k + 1) hlt
        have hcell2 := hc k (by omega)
        clear hc
        have hNo := Lib.hid (rise_reg hlt)
        have hLe := Lib.hid (rise_le hlt)
        have hS := Lib.hid (rise_snoc hlt hH.out)
        generalize xs[k + 1] = x at *
        generalize xs[k] = y at *
        have hC := Lib.hid fun (W : World) => (show Calls Try.prog 137 #[.int .i64 x, .int .i64 0, .int .i64 5] W fun e w' => e = .returned (.bool (inR x 0 5)) ∧ W = w' from l1In_any x 0 5 W)
        cases hb : inR x 0 5 <;> rw [hb] at hC
        · have hF := Lib.hid (hNo.out hb)
          go_wp2_with (go_at_call 137; refine (hC.out _).mono ?_; rintro e w' ⟨rfl, rfl⟩)
          go_ret
          exact ⟨ret_bool hF.out.symm, rfl⟩
        · by_cases hxy : x ≤ y
          · have hF := Lib.hid (hLe.out hxy)
            go_wp2_with (go_at_call 137; refine (hC.out _).mono ?_; rintro e w' ⟨rfl, rfl⟩)
            go_ret
            exact ⟨ret_bool hF.out.symm, rfl⟩
          · have hS' := Lib.hid (hS.out hb (by omega))
            go_wp2_with (go_at_call 137; refine (hC.out _).mono ?_; rintro e w' ⟨rfl, rfl⟩)
            go_round
            case rel => exact ⟨k + 2, by omega, by go_num, hS'.out⟩
            case measure => simp [intOf]; omega
    · obtain rfl : k = xs.length := by omega
      go_wp2
      go_ret
      exact ⟨ret_bool (by have := hH.out; rw [List.take_length] at this; rw [this]), rfl⟩

theorem cdWanted_any (L B : Nat) (A : Option Addr) (c : Nat) (xs : List Int) (w : World) (hl : xs.length ≤ 1048576) (hx : IS w L B A xs) :
    Calls Try.prog 90 #[.slice A xs.length c] w fun e w' => e = .returned (.bool (riseB xs)) ∧ w = w' := by
  have H := Lib.hid (l1Rising_any L B A c xs w hl hx)
  generalize riseB xs = r at *
  clear hx
  go_enter Try.func90, Try.ntmps90
  go_wp2_with (go_at_call 149; refine H.out.mono ?_; rintro e w' ⟨rfl, rfl⟩)
  go_ret
  exact ⟨rfl, rfl⟩
end Go.Proofs.Ythjfedidpjfboaa

/- The model's TemporariesOf. -/
namespace Go.Proofs.Ythjfedidpjfboaa
open Go.RowKit
set_option linter.unusedVariables false
set_option maxRecDepth 100000

end Go.Proofs.Ythjfedidpjfboaa

/- What is alive before an instruction: the model. -/
namespace Go.Proofs.Ythjfedidpjfboaa
open Go.RowKit
set_option linter.unusedVariables false
set_option maxRecDepth 100000

set_option maxHeartbeats 4000000 in
theorem cdBefore_any (L0 B0 : Nat) (A : Option Addr) (c : Nat) (x : In) (L : List Int) (w : World) (hl : L.length ≤ 6) (hL : IS w L0 B0 A L) (hB : B0 ≤ w.heap.size) :
    Calls Try.prog 93 #[.agg #[.string x.op, .int .i64 x.d, .int .i64 x.a, .int .i64 x.b, .int .i64 x.m], .slice A L.length c] w (OwnI w.heap.size w (lvB x L)) := by
  have hP := Lib.hid fun (W : World) (hW : Below w.heap.size w W) => hL.below hW hB
  have h0 := Lib.hid (lvTo_zero x L)
  have hZ : Hid (lvB x L = lvTo x L L.length) := rfl
  have hSa := Lib.hid fun (k : Nat) (h : k < L.length) => lvTo_same (x := x) (L := L) h
  have hSp := Lib.hid fun (k : Nat) (h : k < L.length) => lvTo_put (x := x) (L := L) h
  have hLn := Lib.hid fun (k : Nat) => lvTo_len x L k
  have hRd := Lib.hid fun (W : World) => cdReads_any x W
  have ba := (Below.refl w.heap.size w).alloc (Nat.le_refl _) (.cells #[.string x.op, .int .i64 x.d, .int .i64 x.a, .int .i64 x.b, .int .i64 x.m] 90)
  have nb : CB 90 (w.alloc (.cells #[.string x.op, .int .i64 x.d, .int .i64 x.a, .int .i64 x.b, .int .i64 x.m] 90)) w.heap.size [.string x.op, .int .i64 x.d, .int .i64 x.a, .int .i64 x.b, .int .i64 x.m] := heap_alloc_new w _
  have hBa := Lib.hid ba
  have hNb := Lib.hid nb
  clear hL hB ba nb
  obtain ⟨op, d, a, b, m⟩ := x
  dsimp only at hRd hNb hBa hSa hSp ⊢
  generalize readsL ⟨op, d, a, b, m⟩ = R at *
  generalize lvB ⟨op, d, a, b, m⟩ L = Z at *
  generalize lvTo ⟨op, d, a, b, m⟩ L = F at *
  go_enter Try.func93, Try.ntmps93
  go_wp2_with (go_at_call 150; refine (hRd.out _).mono ?_; rintro e w2 ⟨A2, c2, rfl, ho, hb2⟩)
  have hb2h := Lib.hid hb2
  have hO2 := Lib.hid (ho.lower hBa.out.size : OW w2 w.heap.size w2.heap.size (.slice A2 R.length c2) R)
  have hB2 := Lib.hid (hBa.out.trans (hb2.mono hBa.out.size))
  have n1 := CB.cell (CB.below hNb.out hb2 (CB.lt hNb.out)) 1
  simp only [List.getElem?_cons_zero, List.getElem?_cons_succ] at n1
  have hn1 := Lib.hid n1
  have hwl := Lib.hid (show w.heap.size < w2.heap.size from Nat.lt_of_lt_of_le (CB.lt hNb.out) hb2.size)
  clear hb2 ho n1
  go_loopw [5, 12] (fun v i wr => ∃ k : Nat, k ≤ L.length ∧ i = .int .i64 k ∧ OW wr w.heap.size wr.heap.size v (F k) ∧ Below w2.heap.size w2 wr) (fun _ i _ => L.length - (intOf i).toNat)
  case atStart => exact ⟨0, Nat.zero_le _, rfl, by rw [h0.out]; exact hO2.out, Below.refl _ _⟩
  case round =>
    obtain ⟨k, hk, rfl, how, hbel⟩ := hrel
    have hBL := Lib.hid hbel
    have hO := Lib.hid how
    have hBw := Lib.hid (hB2.out.trans (hbel.mono (Nat.le_of_lt hwl.out)))
    have hFl := hLn.out k
    by_cases hlt : k < L.length
    · obtain ⟨A3, c3, rfl, _⟩ := how.form
      obtain ⟨pb, po, rfl, ⟨_, hpb⟩, hcc⟩ := (hP.out _ hBw.out) (by omega)
      have y1 := hcc k hlt
      have m1 := (hbel.cell (p := ⟨w.heap.size, 1, none⟩) hwl.out).trans hn1.out
      have hsa := Lib.hid (hSa.out k hlt)
      have hsp := Lib.hid (hSp.out k hlt)
      clear hcc hbel how
      generalize L[k] = r at *
      generalize hnx : F (k + 1) = nx at *
      have hnx2 := Lib.hid hnx
      clear hnx
      generalize F k = ts at *
      by_cases hrd : r = d
      · have hs := Lib.hid (hsa.out hrd)
        have hq := Lib.hid (show (r == d) = true by simpa using hrd)
        subst hrd
        clear hsa hsp
        go_wp2
        go_roundw
        case rel => exact ⟨k + 1, by omega, by go_num, by rw [hnx2.out, hs.out]; exact hO.out, hBL.out⟩
        case measure => simp [intOf]; omega
      · have hs := Lib.hid (hsp.out hrd)
        have hq : (r == d) = false := by simpa using hrd
        clear hsa hsp
        have hPut := fun (W : World) (hW : Below wr.heap.size wr W) => Lib.hid (l1Put_any w.heap.size W.heap.size A3 ts.length c3 ts r W rfl (by omega) ((hO.out.below hW (Nat.le_refl _)).more hW.size) (Nat.le_trans hBw.out.size hW.size) (Nat.le_refl _))
        go_wp2_with (go_at_call 151; (with_reducible refine (hPut _ (Below.refl _ _)).out.mono ?_); rintro e w3 ⟨A4, c4, rfl, ho3, hb3⟩)
        have hO3 := Lib.hid ho3
        have hB3 := Lib.hid (hBL.out.trans (hb3.mono hBL.out.size))
        clear ho3 hb3
        go_roundw
        case rel => exact ⟨k + 1, by omega, by go_num, by rw [hnx2.out, hs.out]; exact hO3.out, hB3.out⟩
        case measure => simp [intOf]; omega
    · obtain rfl : k = L.length := by omega
      obtain ⟨A3, c3, rfl, _⟩ := how.form
      clear how hbel
      go_wp2
      go_ret
      exact ⟨A3, c3, by rw [hZ.out]; rfl, by rw [hZ.out]; exact hO.out, hBw.out⟩
end Go.Proofs.Ythjfedidpjfboaa

/- The laws of DropDead, LiveBefore, MostAlive are walked in LawC. -/
namespace Go.Proofs.Ythjfedidpjfboaa
end Go.Proofs.Ythjfedidpjfboaa

/- DropDead of the model. -/
namespace Go.Proofs.Ythjfedidpjfboaa
open Go.RowKit
set_option linter.unusedVariables false
set_option maxRecDepth 100000

theorem enc_ones (es : List In) : ∀ u ∈ es.flatMap In.enc, u.oneCell' = true := by
  intro u hu
  obtain ⟨x, _, hx⟩ := List.mem_flatMap.1 hu
  simp [In.enc] at hx
  rcases hx with rfl | rfl | rfl | rfl | rfl <;> rfl
def ddOk (cs : List In) (out : List Int) : Bool := okCode cs && riseB out
def ddR (cs : List In) (out : List Int) : List In := if ddOk cs out = true then (ddS (setsTo out out.length) cs).1 else []
theorem hasI_mkT {bs : List Bool} {n : Nat} (h : n < 6) : hasI (mkT bs) (n : Int) = bs.getD n false := by
  rw [Bool.eq_iff_iff, ← mem_mkT h]; simp [hasI]

set_option maxHeartbeats 4000000 in
theorem sDropDead_any (L B L' B' : Nat) (A A' : Option Addr) (c c' : Nat) (cs : List In) (out : List Int) (w : World) (hl : cs.length ≤ 1048576) (hn : out.length ≤ 1048576) (hes : RS In.enc 5 w L B A cs) (hB : B ≤ w.heap.size) (hns : IS w L' B' A' out) (hB' : B' ≤ w.heap.size) :
    Calls Try.prog 38 #[.slice A cs.length c, .slice A' out.length c'] w (ResDropDead (ddR cs out) (ddOk cs out) w) := by
  obtain ⟨i0, hi', hz0', hz1', hz2'⟩ := info_parts Try.infoInstr
  have hi := Lib.hid hi'
  have hz0 := Lib.hid hz0'
  have hz1 := Lib.hid hz1'
  have hz2 := Lib.hid hz2'
  clear hi' hz0' hz1' hz2'
  have H := Lib.hid (cdCode_any L B A c cs w hl hes hB)
  have H2 := Lib.hid fun (W : World) (hW : Below w.heap.size w W) => cdWanted_any L' B' A' c' out W hn (hns.below hW hB')
  have H3 := Lib.hid fun (W : World) (hW : Below w.heap.size w W) => l1Own_any L' B' A' c' out W hn (hns.below hW hB') (Nat.le_trans hB' hW.size)
  have hE := Lib.hid fun (W : World) (hW : Below w.heap.size w W) => hes.below hW hB
  have hBB := Lib.hid hB
  clear hes hB hns hB'
  cases hk : okCode cs
  · have hR := Lib.hid (show ddR cs out = [] by unfold ddR ddOk; rw [hk]; rfl)
    have hO := Lib.hid (show ddOk cs out = false by unfold ddOk; rw [hk]; rfl)
    rw [hk] at H
    clear hk H2 H3 hE
    go_enter Try.func38, Try.ntmps38
    go_wp2_with (go_at_call 89; refine H.out.mono ?_; rintro e w1 ⟨rfl, hb1⟩; have hbh := Lib.hid hb1; clear hb1)
    go_ret2
    rw [hR.out, hO.out]
    exact ⟨none, 0, rfl, OK.nil _ _ _ _, hbh.out⟩
  cases hr : riseB out
  · have hR := Lib.hid (show ddR cs out = [] by unfold ddR ddOk; rw [hk, hr]; rfl)
    have hO := Lib.hid (show ddOk cs out = false by unfold ddOk; rw [hk, hr]; rfl)
    rw [hk] at H
    rw [hr] at H2
    clear hk H3 hE hr
    go_enter Try.func38, Try.ntmps38
    go_wp2_with (first | (go_at_call 89; refine H.out.mono ?_; rintro e w1 ⟨rfl, hb1⟩; have hbh := Lib.hid hb1; clear hb1) | (go_at_call 90; refine (H2.out _ hbh.out).mono ?_; rintro e w2 ⟨rfl, rfl⟩))
    go_ret2
    rw [hR.out, hO.out]
    exact ⟨none, 0, rfl, OK.nil _ _ _ _, hbh.out⟩
  have hR := Lib.hid (show ddR cs out = (ddS (setsTo out out.length) cs).1 by unfold ddR ddOk; rw [hk, hr]; rfl)
  have hO := Lib.hid (show ddOk cs out = true by unfold ddOk; rw [hk, hr]; rfl)
  have hbits := Lib.hid (rise_bits hr).2
  have hl6 := setsTo_len out out.length
  have hall := Lib.hid (okCode_all hk)
  have hl40 := okCode_len hk
  rw [hk] at H
  rw [hr] at H2
  clear hk hr
  generalize setsTo out out.length = bs at *
  have hD := Lib.hid fun (k : Nat) (h : k < cs.length) => ddS_drop bs h
  have hL1 := Lib.hid fun (k : Nat) => (ddS_len bs (cs.drop k)).1
  have hL2 := Lib.hid fun (k : Nat) => (ddS_len bs (cs.drop k)).2.trans hl6
  have hE0 := Lib.hid (show ddS bs (cs.drop cs.length) = ([], bs) by rw [List.drop_length]; rfl)
  have hEn := Lib.hid (show ddS bs (cs.drop 0) = ddS bs cs by rw [List.drop_zero])
  have hw1 : IntKind.i64.wrap ((cs.length : Int) - 1) = (cs.length : Int) - 1 := by rw [IntKind.wrap_i64]; omega
  go_enter Try.func38, Try.ntmps38
  go_wp2_with (first | (go_at_call 89; refine H.out.mono ?_; rintro e w1 ⟨rfl, hb1⟩; have hbh := Lib.hid hb1; clear hb1) | (go_at_call 90; refine (H2.out _ hbh.out).mono ?_; rintro e w2 ⟨rfl, rfl⟩) | (go_at_call 91; refine (H3.out _ hbh.out).mono ?_; rintro e w3 ⟨A3, c3, rfl, ho3, hb3⟩; have hO3 := Lib.hid (ho3.lower hbh.out.size); have hbj := Lib.hid (hbh.out.trans (hb3.mono hbh.out.size)); clear ho3 hb3))
  go_loopw [6, 7, 8] (fun v a i wr => ∃ r : Nat, r ≤ cs.length ∧ i = .int .i64 ((r : Int) - 1) ∧ OK In.enc 5 90 wr w.heap.size wr.heap.size v (ddS bs (cs.drop r)).1 ∧ OW wr w.heap.size wr.heap.size a (mkT (ddS bs (cs.drop r)).2) ∧ Below w.heap.size w wr) (fun _ _ i _ => (intOf i + 1).toNat)
  case atStart => exact ⟨cs.length, Nat.le_refl _, rfl, by rw [hE0.out]; exact OK.nil _ _ _ _, by rw [hE0.out]; dsimp only; rw [hbits.out]; exact hO3.out, hbj.out⟩
  case round =>
    obtain ⟨r, hr, rfl, hok, how, hbel⟩ := hrel
    obtain ⟨VA, vc, rfl, hrs⟩ := hok.form In.hk
    obtain ⟨A4, c4, rfl, _⟩ := how.form
    have hK := Lib.hid hok
    have hW := Lib.hid how
    have hBL := Lib.hid hbel
    have hSr := Lib.hid hrs
    clear hok how hrs
    cases r with
    | zero =>
      have e0 : ((0 : Nat) : Int) - 1 = -1 := by decide
      rw [e0]
      clear hbel
      go_wp2
      go_ret2
      rw [hR.out, hO.out, ← hEn.out]
      exact ⟨VA, vc, rfl, hK.out, hBL.out⟩
    | succ r =>
      have e0 : ((r + 1 : Nat) : Int) - 1 = (r : Int) := by omega
      rw [e0]
      have hrl : r < cs.length := hr
      have hri : (r : Int) < (cs.length : Int) := by omega
      have hr0 : (0 : Int) ≤ (r : Int) := by omega
      obtain ⟨b, o, rfl, ⟨_, hbB⟩, hc⟩ := In.cells (hE.out _ hbel) (by omega)
      obtain ⟨d1, d2, d3, d4, d5⟩ := hc r hrl
      have hg := Lib.hid (hall.out _ (List.getElem_mem hrl))
      have hst := Lib.hid (hD.out r hrl)
      have hl5 := hL1.out (r + 1)
      have hl7 := hL2.out (r + 1)
      have hlr := hL1.out r
      clear hc hbel
      generalize hP0 : ddS bs (cs.drop r) = P0 at *
      have hp0 := Lib.hid hP0
      clear hP0
      generalize ddS bs (cs.drop (r + 1)) = P1 at *
      obtain ⟨ks, bb⟩ := P1
      dsimp only at hl5 hl7 hK hW hSr hst
      generalize cs[r] = x at *
      obtain ⟨op, d, xa, xb, m⟩ := x
      dsimp only at d1 d2 d3 d4 d5
      obtain ⟨hd0, hd5⟩ := (good_parts hg.out).1
      dsimp only at hd0 hd5
      obtain ⟨n, rfl⟩ := Int.eq_ofNat_of_zero_le hd0
      have hn6 : n < 6 := by omega
      have hw2 : IntKind.i64.wrap ((r : Int) - 1) = (r : Int) - 1 := by rw [IntKind.wrap_i64]; omega
      have hml : (mkT bb).length ≤ 6 := by rw [← mkTo_all]; exact mkTo_len bb 6
      have hmh := Lib.hid hml
      have hHas := Lib.hid (l1Has_any w.heap.size wr.heap.size A4 c4 (mkT bb) (n : Int) wr (by omega) hW.out.rs)
      rw [hasI_mkT hn6] at hHas
      cases hb : bb.getD n false
      · have hs := Lib.hid (show P0 = (ks, bb) by rw [hst.out]; unfold ddStep; rw [if_neg (by dsimp only; rw [Int.toNat_natCast, hb]; decide)])
        rw [hb] at hHas
        clear hst hb hd0 hd5
        go_wp2_with (go_at_call 92; refine hHas.out.mono ?_; rintro e w4 ⟨rfl, rfl⟩)
        go_roundw
        case rel => exact ⟨r, by omega, rfl, by rw [hp0.out, hs.out]; exact hK.out, by rw [hp0.out, hs.out]; exact hW.out, hBL.out⟩
        case measure => first | (simp [intOf]; done) | (simp [intOf]; omega)
      · have hs := Lib.hid (show P0 = (⟨op, (n : Int), xa, xb, m⟩ :: ks, bkB bb ⟨op, (n : Int), xa, xb, m⟩) by rw [hst.out]; unfold ddStep; rw [if_pos (by dsimp only; rw [Int.toNat_natCast, hb])])
        rw [hb] at hHas
        have hlv := Lib.hid (lvB_bits hg.out hl7)
        have hba := (Below.refl wr.heap.size wr).alloc (Nat.le_refl _) (.cells #[.string op, .int .i64 (n : Int), .int .i64 xa, .int .i64 xb, .int .i64 m] 90)
        have hown := Lib.hid (show (wr.alloc (.cells #[.string op, .int .i64 (n : Int), .int .i64 xa, .int .i64 xb, .int .i64 m] 90)).ownsRow w.heap.size 90 5 (.slice (some ⟨wr.heap.size, 0, none⟩) 1 1) 1 (In.enc ⟨op, (n : Int), xa, xb, m⟩) from ⟨by rw [In.hk], .inr ⟨wr.heap.size, 1, _, rfl, hBL.out.size, heap_alloc_new wr _, Nat.le_refl _, by unfold maxLen; omega, by simp, by simp [In.enc]⟩⟩)
        have hnews := Lib.hid ((hSr.out.below hba (Nat.le_refl _)).news In.hk)
        have hbah := Lib.hid hba
        have hbw0 : b < w.heap.size := Nat.lt_of_lt_of_le hbB hBB.out
        have hbwr : b < wr.heap.size := Nat.lt_of_lt_of_le hbw0 hBL.out.size
        clear hst hb hd0 hd5 hba
        have hks : ks.length ≤ 40 := by have := hl5; rw [List.length_drop] at this; omega
        have hCB := Lib.hid fun (A' : Option Addr) (c' : Nat) (W : World) (hW4 : IS W w.heap.size wr.heap.size A' (mkT bb)) (hz : wr.heap.size ≤ W.heap.size) => cdBefore_any w.heap.size wr.heap.size A' c' ⟨op, (n : Int), xa, xb, m⟩ (mkT bb) W hmh.out hW4 hz
        rw [hlv.out] at hCB
        dsimp only at hCB
        generalize hbk : bkB bb ⟨op, (n : Int), xa, xb, m⟩ = nb at *
        generalize mkT bb = ts at *
        go_wp2_with (first
          | (go_at_call 92; refine hHas.out.mono ?_; rintro e w4 ⟨rfl, rfl⟩)
          | (at_builtin; refine wpList_append_src rfl _ _ 34 rfl w.heap.size 90 i0 _ 5 48 Try.underlying34 hi.out hz0.out hz1.out hz2.out rfl (by decide) _ 1 _ rfl hown.out VA ks.length vc (ks.flatMap In.enc) rfl (kflat_len In.hk ks) hnews.out (enc_ones ks) (by unfold maxLen; omega) (by omega) (Nat.le_trans hBL.out.size hbah.out.size) ?_; intro v' w4 hown4 hgr4 _; have hbw := Lib.hid (hbah.out.grown hgr4 hbah.out.size (fun k hk => Nat.le_of_eq (Option.some.inj hk))); have g1 := (hbw.out.cell (p := ⟨b, o + r * 5, none⟩) hbwr).trans d1; have g2 := (hbw.out.cell (p := ⟨b, o + r * 5 + 1, none⟩) hbwr).trans d2; have g3 := (hbw.out.cell (p := ⟨b, o + r * 5 + 2, none⟩) hbwr).trans d3; have g4 := (hbw.out.cell (p := ⟨b, o + r * 5 + 3, none⟩) hbwr).trans d4; have g5 := (hbw.out.cell (p := ⟨b, o + r * 5 + 4, none⟩) hbwr).trans d5; have hOw := Lib.hid hown4; clear hown4 hgr4 d1 d2 d3 d4 d5)
          | (go_at_call 93; refine (hCB.out _ _ _ ((hW.out.below hbw.out (Nat.le_refl _)).rs) hbw.out.size).mono ?_; rintro e w5 ⟨A5, c5, rfl, ho5, hb5⟩; have hO5 := Lib.hid (ho5.lower (Nat.le_trans hBL.out.size hbw.out.size)); have hB5 := Lib.hid (hBL.out.trans ((hbw.out.trans (hb5.mono hbw.out.size)).mono hBL.out.size)); have hb5h := Lib.hid hb5; clear ho5 hb5))
        all_goals
          go_roundw
          case rel => exact ⟨r, by omega, rfl, by rw [hp0.out, hs.out]; exact ((show OK In.enc 5 90 _ w.heap.size _ v' (⟨op, (n : Int), xa, xb, m⟩ :: ks) from by
            have := hOw.out
            exact ⟨by rw [List.length_cons, Nat.add_comm]; simpa using this, fun j hj => (this.lt j hj).2⟩).below hb5h.out (Nat.le_refl _)).more hb5h.out.size, by rw [hp0.out, hs.out]; exact hO5.out, hB5.out⟩
          case measure => first | (simp [intOf]; done) | (simp [intOf]; omega)
end Go.Proofs.Ythjfedidpjfboaa
