/- Texts of this proof, one behind the other: VJ, VK, VM, VN, VP, OC. -/
import Derived.Test.YthjfedidpjfboaaZ2
import Derived.Test.YthjfedidpjfboaaZ3
import Derived.Test.YthjfedidpjfboaaZ13
import Derived.Test.YthjfedidpjfboaaZ7
import Derived.WalkKit
import Derived.WalkSpells
import Derived.WalkLawsBesides
import Derived.Deep.RegionHeld3
import Derived.Lib.Hide
import Derived.Lib.LazyBuf
import Derived.Test.YthjfedidpjfboaaZ14
import Derived.Test.YthjfedidpjfboaaZ9
import Derived.Lib.SlicesCompact
import Derived.Test.YthjfedidpjfboaaLawVW
import Derived.Test.YthjfedidpjfboaaKMInstr
import Derived.ProofKit
import Derived.OpenShut
import Derived.ShutString
import Derived.ChangeOld
import Derived.Below
import Derived.Deep.Slices
import Derived.Deep.Fields
/- AreSameBlocks, BlockWitness of the program. -/
namespace Go.Proofs.Ythjfedidpjfboaa
open Go.RowKit
set_option linter.unusedVariables false
set_option maxRecDepth 100000

set_option maxHeartbeats 4000000 in
theorem iAreSameBlocks_any (L0 B0 : Nat) (A0 : Option Addr) (c0 : Nat) (a : List In) (L1 B1 : Nat) (A1 : Option Addr) (c1 : Nat) (b : List In) (L2 B2 : Nat) (A2 : Option Addr) (c2 : Nat) (out : List Int) (w : World)
    (hl0 : a.length ≤ 1048576) (h0 : RS In.enc 5 w L0 B0 A0 a) (hB0 : B0 ≤ w.heap.size) (hl1 : b.length ≤ 1048576) (h1 : RS In.enc 5 w L1 B1 A1 b) (hB1 : B1 ≤ w.heap.size) (hl2 : out.length ≤ 1048576) (h2 : IS w L2 B2 A2 out) (hB2 : B2 ≤ w.heap.size) :
    Calls Try.prog 56 #[.slice A0 a.length c0, .slice A1 b.length c1, .slice A2 out.length c2] w (ResAreSameBlocks (asB a b out) (asOk a b out) w) := by
  have Ha := Lib.hid (isBlock_any L0 B0 A0 c0 a w hl0 h0 hB0)
  have Hb := Lib.hid fun (W : World) (hW : Below w.heap.size w W) => isBlock_any L1 B1 A1 c1 b W hl1 (h1.below hW hB1) (Nat.le_trans hB1 hW.size)
  have Hr := Lib.hid fun (W : World) (hW : Below w.heap.size w W) => areRegisters_any L2 B2 A2 c2 out W hl2 (h2.below hW hB2)
  have hq : Hid (asOk a b out = (blkOk a && blkOk b && riseB out)) := rfl
  have hk : Hid (asB a b out = (asOk a b out && (wO a b out).isNone)) := rfl
  have hP := Lib.hid fun (h : asOk a b out = true) => asOk_parts h
  have HA := Lib.hid fun (W : World) (hW : Below w.heap.size w W) (ho : okCode a = true) => machinesBehind_any L0 B0 A0 c0 a W ho (h0.below hW hB0) (Nat.le_trans hB0 hW.size)
  have HB := Lib.hid fun (W : World) (hW : Below w.heap.size w W) (ho : okCode b = true) => machinesBehind_any L1 B1 A1 c1 b W ho (h1.below hW hB1) (Nat.le_trans hB1 hW.size)
  have HW := Lib.hid fun (gA gB : Nat) (W : World) (hW : Below w.heap.size w W) (hin : ∀ r ∈ out, In6 r) (ha : MB W gA (endR a)) (hb : MB W gB (endR b)) => (show Calls Try.prog 121 #[.slice (some ⟨gA, 0, none⟩) 4096 4096, .slice (some ⟨gB, 0, none⟩) 4096 4096, .slice A2 out.length c2] W (WitGot W (wO a b out)) from witnessOf_any gA gB (endR a) (endR b) L2 B2 A2 c2 out W hl2 hin ha hb (h2.below hW hB2) (Nat.le_trans hB2 hW.size))
  clear h0 h1 h2
  generalize asB a b out = R at *
  generalize wO a b out = O at *
  generalize asOk a b out = q at *
  generalize blkOk a = qa at *
  generalize blkOk b = qb at *
  generalize riseB out = qr at *
  cases qa
  · obtain rfl : q = false := hq.out
    go_enter Try.func56, Try.ntmps56
    go_wp2_with (fail)
    refine Ha.out.mono ?_
    rintro e w1 ⟨rfl, hb1⟩
    have b1 := Lib.hid hb1
    clear hb1
    go_wp2
    go_ret2
    exact ⟨by rw [hk.out]; rfl, b1.out⟩
  cases qb
  · obtain rfl : q = false := hq.out
    go_enter Try.func56, Try.ntmps56
    go_wp2_with (fail)
    refine Ha.out.mono ?_
    rintro e w1 ⟨rfl, hb1⟩
    have b1 := Lib.hid hb1
    clear hb1
    go_wp2_with (fail)
    refine (Hb.out w1 b1.out).mono ?_
    rintro e w1b ⟨rfl, hb1⟩
    have b1b := Lib.hid (b1.out.trans (hb1.mono b1.out.size))
    clear hb1
    go_wp2
    go_ret2
    exact ⟨by rw [hk.out]; rfl, b1b.out⟩
  cases qr
  · obtain rfl : q = false := hq.out
    go_enter Try.func56, Try.ntmps56
    go_wp2_with (fail)
    refine Ha.out.mono ?_
    rintro e w1 ⟨rfl, hb1⟩
    have b1 := Lib.hid hb1
    clear hb1
    go_wp2_with (fail)
    refine (Hb.out w1 b1.out).mono ?_
    rintro e w1b ⟨rfl, hb1⟩
    have b1b := Lib.hid (b1.out.trans (hb1.mono b1.out.size))
    clear hb1
    go_wp2_with (fail)
    refine (Hr.out w1b b1b.out).mono ?_
    rintro e w1c ⟨rfl, rfl⟩
    go_wp2
    go_ret2
    exact ⟨by rw [hk.out]; rfl, b1b.out⟩
  obtain rfl : q = true := hq.out
  obtain ⟨oa, ob, hin⟩ := hP.out rfl
  have hOa := Lib.hid oa
  have hOb := Lib.hid ob
  have hIn := Lib.hid hin
  clear oa ob hin
  go_enter Try.func56, Try.ntmps56
  go_wp2_with (fail)
  refine Ha.out.mono ?_
  rintro e w1 ⟨rfl, hb1⟩
  have b1 := Lib.hid hb1
  clear hb1
  go_wp2_with (fail)
  refine (Hb.out w1 b1.out).mono ?_
  rintro e w1b ⟨rfl, hb1⟩
  have b1b := Lib.hid (b1.out.trans (hb1.mono b1.out.size))
  clear hb1
  go_wp2_with (fail)
  refine (Hr.out w1b b1b.out).mono ?_
  rintro e w1c ⟨rfl, rfl⟩
  go_wp2_with (fail)
  refine (HA.out w1b b1b.out hOa.out).mono ?_
  rintro e w2 ⟨gA, rfl, hgA, hmb, hb2⟩
  have X2 := Lib.hid hmb
  have zA := hmb.lt
  have b2 := Lib.hid (b1b.out.trans (hb2.mono b1b.out.size))
  clear hmb hb2
  go_wp2_with (fail)
  refine (HB.out w2 b2.out hOb.out).mono ?_
  rintro e w3 ⟨gB, rfl, hgB, hmb, hb3⟩
  have X3 := Lib.hid hmb
  have X2' := Lib.hid (IB.below X2.out hb3 zA)
  have b3 := Lib.hid (b2.out.trans (hb3.mono b2.out.size))
  clear hmb hb3
  go_wp2_with (fail)
  refine (HW.out gA gB w3 b3.out hIn.out X2'.out X3.out).mono ?_
  rintro e w4 ⟨Ar, cr, rfl, hno, ho, hb4⟩
  have b4 := Lib.hid (b3.out.trans (hb4.mono b3.out.size))
  have O4 := Lib.hid ((ho.lower b3.out.size))
  clear ho hb4
  have heq := Lib.run_eql_slice_nil (P := Try.prog) w4 32 3 Ar (wtL O).length cr 0 0 Try.underlying32
  rw [hno] at heq
  clear hno
  go_wp2
  go_ret2
  exact ⟨by rw [hk.out]; rfl, b4.out⟩

set_option maxHeartbeats 4000000 in
theorem iBlockWitness_any (L0 B0 : Nat) (A0 : Option Addr) (c0 : Nat) (a : List In) (L1 B1 : Nat) (A1 : Option Addr) (c1 : Nat) (b : List In) (L2 B2 : Nat) (A2 : Option Addr) (c2 : Nat) (out : List Int) (w : World)
    (hl0 : a.length ≤ 1048576) (h0 : RS In.enc 5 w L0 B0 A0 a) (hB0 : B0 ≤ w.heap.size) (hl1 : b.length ≤ 1048576) (h1 : RS In.enc 5 w L1 B1 A1 b) (hB1 : B1 ≤ w.heap.size) (hl2 : out.length ≤ 1048576) (h2 : IS w L2 B2 A2 out) (hB2 : B2 ≤ w.heap.size) :
    Calls Try.prog 62 #[.slice A0 a.length c0, .slice A1 b.length c1, .slice A2 out.length c2] w (ResBlockWitness (bwL a b out) (bwB a b out) w) := by
  have Ha := Lib.hid (isBlock_any L0 B0 A0 c0 a w hl0 h0 hB0)
  have Hb := Lib.hid fun (W : World) (hW : Below w.heap.size w W) => isBlock_any L1 B1 A1 c1 b W hl1 (h1.below hW hB1) (Nat.le_trans hB1 hW.size)
  have Hr := Lib.hid fun (W : World) (hW : Below w.heap.size w W) => areRegisters_any L2 B2 A2 c2 out W hl2 (h2.below hW hB2)
  have hq : Hid (asOk a b out = (blkOk a && blkOk b && riseB out)) := rfl
  have hk : Hid (bwL a b out = if asOk a b out = true then wtL (wO a b out) else []) := rfl
  have hk2 : Hid (bwB a b out = (asOk a b out && (wO a b out).isSome)) := rfl
  have hP := Lib.hid fun (h : asOk a b out = true) => asOk_parts h
  have HA := Lib.hid fun (W : World) (hW : Below w.heap.size w W) (ho : okCode a = true) => machinesBehind_any L0 B0 A0 c0 a W ho (h0.below hW hB0) (Nat.le_trans hB0 hW.size)
  have HB := Lib.hid fun (W : World) (hW : Below w.heap.size w W) (ho : okCode b = true) => machinesBehind_any L1 B1 A1 c1 b W ho (h1.below hW hB1) (Nat.le_trans hB1 hW.size)
  have HW := Lib.hid fun (gA gB : Nat) (W : World) (hW : Below w.heap.size w W) (hin : ∀ r ∈ out, In6 r) (ha : MB W gA (endR a)) (hb : MB W gB (endR b)) => (show Calls Try.prog 121 #[.slice (some ⟨gA, 0, none⟩) 4096 4096, .slice (some ⟨gB, 0, none⟩) 4096 4096, .slice A2 out.length c2] W (WitGot W (wO a b out)) from witnessOf_any gA gB (endR a) (endR b) L2 B2 A2 c2 out W hl2 hin ha hb (h2.below hW hB2) (Nat.le_trans hB2 hW.size))
  clear h0 h1 h2
  generalize bwL a b out = R at *
  generalize bwB a b out = R2 at *
  generalize wO a b out = O at *
  generalize asOk a b out = q at *
  generalize blkOk a = qa at *
  generalize blkOk b = qb at *
  generalize riseB out = qr at *
  cases qa
  · obtain rfl : q = false := hq.out
    go_enter Try.func62, Try.ntmps62
    go_wp2_with (fail)
    refine Ha.out.mono ?_
    rintro e w1 ⟨rfl, hb1⟩
    have b1 := Lib.hid hb1
    clear hb1
    go_wp2
    go_ret2
    rw [hk.out, hk2.out]
    exact ⟨none, 0, rfl, OW.nil _ _ _, b1.out⟩
  cases qb
  · obtain rfl : q = false := hq.out
    go_enter Try.func62, Try.ntmps62
    go_wp2_with (fail)
    refine Ha.out.mono ?_
    rintro e w1 ⟨rfl, hb1⟩
    have b1 := Lib.hid hb1
    clear hb1
    go_wp2_with (fail)
    refine (Hb.out w1 b1.out).mono ?_
    rintro e w1b ⟨rfl, hb1⟩
    have b1b := Lib.hid (b1.out.trans (hb1.mono b1.out.size))
    clear hb1
    go_wp2
    go_ret2
    rw [hk.out, hk2.out]
    exact ⟨none, 0, rfl, OW.nil _ _ _, b1b.out⟩
  cases qr
  · obtain rfl : q = false := hq.out
    go_enter Try.func62, Try.ntmps62
    go_wp2_with (fail)
    refine Ha.out.mono ?_
    rintro e w1 ⟨rfl, hb1⟩
    have b1 := Lib.hid hb1
    clear hb1
    go_wp2_with (fail)
    refine (Hb.out w1 b1.out).mono ?_
    rintro e w1b ⟨rfl, hb1⟩
    have b1b := Lib.hid (b1.out.trans (hb1.mono b1.out.size))
    clear hb1
    go_wp2_with (fail)
    refine (Hr.out w1b b1b.out).mono ?_
    rintro e w1c ⟨rfl, rfl⟩
    go_wp2
    go_ret2
    rw [hk.out, hk2.out]
    exact ⟨none, 0, rfl, OW.nil _ _ _, b1b.out⟩
  obtain rfl : q = true := hq.out
  obtain ⟨oa, ob, hin⟩ := hP.out rfl
  have hOa := Lib.hid oa
  have hOb := Lib.hid ob
  have hIn := Lib.hid hin
  clear oa ob hin
  go_enter Try.func62, Try.ntmps62
  go_wp2_with (fail)
  refine Ha.out.mono ?_
  rintro e w1 ⟨rfl, hb1⟩
  have b1 := Lib.hid hb1
  clear hb1
  go_wp2_with (fail)
  refine (Hb.out w1 b1.out).mono ?_
  rintro e w1b ⟨rfl, hb1⟩
  have b1b := Lib.hid (b1.out.trans (hb1.mono b1.out.size))
  clear hb1
  go_wp2_with (fail)
  refine (Hr.out w1b b1b.out).mono ?_
  rintro e w1c ⟨rfl, rfl⟩
  go_wp2_with (fail)
  refine (HA.out w1b b1b.out hOa.out).mono ?_
  rintro e w2 ⟨gA, rfl, hgA, hmb, hb2⟩
  have X2 := Lib.hid hmb
  have zA := hmb.lt
  have b2 := Lib.hid (b1b.out.trans (hb2.mono b1b.out.size))
  clear hmb hb2
  go_wp2_with (fail)
  refine (HB.out w2 b2.out hOb.out).mono ?_
  rintro e w3 ⟨gB, rfl, hgB, hmb, hb3⟩
  have X3 := Lib.hid hmb
  have X2' := Lib.hid (IB.below X2.out hb3 zA)
  have b3 := Lib.hid (b2.out.trans (hb3.mono b2.out.size))
  clear hmb hb3
  go_wp2_with (fail)
  refine (HW.out gA gB w3 b3.out hIn.out X2'.out X3.out).mono ?_
  rintro e w4 ⟨Ar, cr, rfl, hno, ho, hb4⟩
  have b4 := Lib.hid (b3.out.trans (hb4.mono b3.out.size))
  have O4 := Lib.hid ((ho.lower b3.out.size))
  clear ho hb4
  have heq := Go.run_neq_slice_nil (P := Try.prog) w4 32 3 Ar (wtL O).length cr Try.underlying32
  rw [hno] at heq
  clear hno
  go_wp2
  go_ret2
  rw [hk.out, hk2.out]
  exact ⟨Ar, cr, rfl, O4.out, b4.out⟩
end Go.Proofs.Ythjfedidpjfboaa

/- IsUntouched: both as the law takes them. -/
namespace Go.Proofs.Ythjfedidpjfboaa
open Go.RowKit
set_option linter.unusedVariables false
set_option maxRecDepth 100000

theorem riseB_one (r : Int) : riseB [r] = reg r := by simp [riseB, allIn, reg]
theorem asOk_one (a : List In) (r : Int) : asOk a [] [r] = (blkOk a && reg r) := by
  unfold asOk
  rw [riseB_one, show blkOk [] = true from rfl, Bool.and_true]
theorem nil_ok : okCode [] = true := rfl
theorem nil_rs (w : World) : RS In.enc 5 w 0 0 none [] := fun h => absurd h (by simp)

set_option maxHeartbeats 2000000 in
theorem iIsUntouched_any (L B : Nat) (A : Option Addr) (c : Nat) (a : List In) (r : Int) (w : World) (hl : a.length ≤ 1048576) (h : RS In.enc 5 w L B A a) (hB : B ≤ w.heap.size) :
    Calls Try.prog 58 #[.slice A a.length c, .int .i64 r] w (ResIsUntouched (asB a [] [r]) (asOk a [] [r]) w) := by
  have b1 := Lib.hid ((Below.refl w.heap.size w).alloc (Nat.le_refl _) (.cells #[.int .i64 r] 3))
  have hone : IB (w.alloc (.cells #[.int .i64 r] 3)) w.heap.size 3 [r] := heap_alloc_new w _
  have H := Lib.hid (iAreSameBlocks_any L B A c a 0 0 none 0 [] w.heap.size (w.heap.size + 1) (some ⟨w.heap.size, 0, none⟩) 1 [r] _ hl (h.below b1.out hB) (Nat.le_trans hB b1.out.size) (by simp) (nil_rs _) (Nat.zero_le _) (by simp) hone.toIS hone.lt)
  clear h hone
  generalize asB a [] [r] = R0 at *
  generalize asOk a [] [r] = R1 at *
  go_enter Try.func58, Try.ntmps58
  go_wp2_with (fail)
  refine H.out.mono ?_
  rintro e w2 ⟨rfl, hb2⟩
  have b2 := Lib.hid (b1.out.trans (hb2.mono b1.out.size))
  clear hb2
  go_wp2
  go_ret2
  exact ⟨rfl, b2.out⟩

set_option maxHeartbeats 4000000 in
theorem sIsUntouched_any (L B : Nat) (A : Option Addr) (c : Nat) (a : List In) (r : Int) (w : World) (hl : a.length ≤ 1048576) (h : RS In.enc 5 w L B A a) (hB : B ≤ w.heap.size) :
    Calls Try.prog 57 #[.slice A a.length c, .int .i64 r] w (ResIsUntouched (asB a [] [r]) (asOk a [] [r]) w) := by
  have Ha := Lib.hid (vaGood_any L B A c a w hl h hB)
  have Hr := Lib.hid (cdReg_any r)
  have hq := Lib.hid (asOk_one a r)
  have hk : Hid (asB a [] [r] = (asOk a [] [r] && (wO a [] [r]).isNone)) := rfl
  have hP := Lib.hid fun (h : asOk a [] [r] = true) => asOk_parts h
  have HA := Lib.hid fun (W : World) (hW : Below w.heap.size w W) (ho : okCode a = true) => vaEnds_any L B A c a W ho (h.below hW hB) (Nat.le_trans hB hW.size)
  have HB := Lib.hid fun (W : World) => vaEnds_any 0 0 none 0 [] W nil_ok (nil_rs _) (Nat.zero_le _)
  have HW := Lib.hid fun (AA AB : Option Addr) (cA cB L L' X X' g : Nat) (W : World) (hin : ∀ s ∈ [r], In6 s) (oa : okCode a = true) (ha : XS W L X AA (endsL a 4096)) (hX : X ≤ W.heap.size) (hb : XS W L' X' AB (endsL [] 4096)) (hX' : X' ≤ W.heap.size) (hg : IB W g 3 [r]) => (show Calls Try.prog 119 #[.slice AA 4096 cA, .slice AB 4096 cB, .slice (some ⟨g, 0, none⟩) 1 1] W (WitGot2 W (wO a [] [r])) from vaWitness_any a [] L X L' X' AA AB cA cB g (g + 1) (some ⟨g, 0, none⟩) 1 [r] W (by simp) hin (fun k hk => (endR_words oa hk).1) (fun k hk => (endR_words nil_ok hk).1) ha hX hb hX' hg.toIS hg.lt)
  clear h
  generalize asB a [] [r] = R at *
  generalize wO a [] [r] = O at *
  generalize asOk a [] [r] = q at *
  generalize blkOk a = qa at *
  generalize reg r = qr at *
  cases qa
  · obtain rfl : q = false := hq.out
    go_enter Try.func57, Try.ntmps57
    go_wp2_with (fail)
    refine Ha.out.mono ?_
    rintro e w1 ⟨rfl, hb1⟩
    have b1 := Lib.hid hb1
    clear hb1
    go_wp2
    go_ret2
    exact ⟨by rw [hk.out]; rfl, b1.out⟩
  cases qr
  · obtain rfl : q = false := hq.out
    go_enter Try.func57, Try.ntmps57
    go_wp2_with (fail)
    refine Ha.out.mono ?_
    rintro e w1 ⟨rfl, hb1⟩
    have b1 := Lib.hid hb1
    clear hb1
    go_wp2_with (fail)
    refine (Hr.out w1).mono ?_
    rintro e w1c ⟨rfl, rfl⟩
    go_wp2
    go_ret2
    exact ⟨by rw [hk.out]; rfl, b1.out⟩
  obtain rfl : q = true := hq.out
  obtain ⟨oa, -, hin⟩ := hP.out rfl
  have hOa := Lib.hid oa
  have hIn := Lib.hid hin
  clear oa hin
  go_enter Try.func57, Try.ntmps57
  go_wp2_with (fail)
  refine Ha.out.mono ?_
  rintro e w1 ⟨rfl, hb1⟩
  have b1 := Lib.hid hb1
  clear hb1
  go_wp2_with (fail)
  refine (Hr.out w1).mono ?_
  rintro e w1c ⟨rfl, rfl⟩
  go_wp2_with (fail)
  refine (HA.out w1 b1.out hOa.out).mono ?_
  rintro e w2 ⟨Ap, cp, rfl, hox, hb2⟩
  have X2 := Lib.hid hox
  have b2 := Lib.hid (b1.out.trans (hb2.mono b1.out.size))
  clear hox hb2
  go_wp2_with (fail)
  refine (HB.out w2).mono ?_
  rintro e w3 ⟨Aq, cq, rfl, hox, hb3⟩
  have X3 := Lib.hid hox
  have X2' := Lib.hid (X2.out.below hb3 (Nat.le_refl _))
  have b3 := Lib.hid (b2.out.trans (hb3.mono b2.out.size))
  have z3 := hb3.size
  clear hox hb3
  have al := Lib.hid ((Below.refl w3.heap.size w3).alloc (Nat.le_refl _) (.cells #[.int .i64 r] 3))
  have X4 := Lib.hid (X3.out.below al.out (Nat.le_refl _))
  have X4' := Lib.hid (X2'.out.below al.out z3)
  have b4 := Lib.hid (b3.out.trans (al.out.mono b3.out.size))
  have hone : IB (w3.alloc (.cells #[.int .i64 r] 3)) w3.heap.size 3 [r] := heap_alloc_new w3 _
  have H9 := Lib.hid (HW.out Ap Aq cp cq _ _ _ _ w3.heap.size _ hIn.out hOa.out (OX.rs X4'.out) (Nat.le_trans z3 al.out.size) (OX.rs X4.out) al.out.size hone)
  clear hone
  go_wp2_with (fail)
  refine H9.out.mono ?_
  rintro e w5 ⟨Ar, cr, rfl, ho, hb5⟩
  have b5 := Lib.hid (b4.out.trans (hb5.mono b4.out.size))
  clear ho hb5
  cases O
  · dsimp only [Option.isSome_none]
    go_wp2
    go_ret2
    exact ⟨by rw [hk.out]; rfl, b5.out⟩
  · dsimp only [Option.isSome_some]
    go_wp2
    go_ret2
    exact ⟨by rw [hk.out]; rfl, b5.out⟩
end Go.Proofs.Ythjfedidpjfboaa

/- ReachedWords: plain. -/
namespace Go.Proofs.Ythjfedidpjfboaa
open Go.RowKit
set_option linter.unusedVariables false
set_option maxRecDepth 100000

theorem keeps_iff (d : Array Int) (j : Nat) : Lib.keeps d j = true ↔ (j = 0 ∨ d[j]! ≠ d[j - 1]!) := by unfold Lib.keeps; exact decide_eq_true_iff
theorem compact_lt {zs : List Int} (h : zs.Pairwise (· ≤ ·)) : (Lib.compact zs).Pairwise (· < ·) := by
  have hget : ∀ i j, i < j → j < zs.length → zs.toArray[i]! ≤ zs.toArray[j]! := fun i j hij hj => by
    have := List.pairwise_iff_getElem.1 h i j (by omega) hj hij
    rw [getElem!_pos zs.toArray i (by simpa using Nat.lt_trans hij hj), getElem!_pos zs.toArray j (by simpa using hj)]
    simpa using this
  unfold Lib.compact Lib.compactUpTo
  rw [List.pairwise_map]
  have hp : ((List.range zs.length).filter (Lib.keeps zs.toArray)).Pairwise (· < ·) := List.pairwise_lt_range.filter _
  refine hp.imp_of_mem fun {i j} hi hj hij => ?_
  rw [List.mem_filter, List.mem_range] at hj
  have hk := (keeps_iff _ _).1 hj.2
  rcases hk with e | hne
  · omega
  · have h1 := hget (j - 1) j (by omega) hj.1
    rcases Nat.lt_or_ge i (j - 1) with hlt | hge
    · have h2 := hget i (j - 1) hlt (by omega)
      omega
    · obtain rfl : i = j - 1 := by omega
      omega
theorem mem_compact {zs : List Int} {x : Int} : x ∈ Lib.compact zs ↔ x ∈ zs := by
  have hg : ∀ j, j < zs.length → zs.toArray[j]! ∈ zs := fun j hj => by
    rw [getElem!_pos zs.toArray j (by simpa using hj)]; simp
  unfold Lib.compact Lib.compactUpTo
  rw [List.mem_map]
  constructor
  · rintro ⟨j, hj, rfl⟩
    rw [List.mem_filter, List.mem_range] at hj
    exact hg j hj.1
  · intro hx
    obtain ⟨j, hj, rfl⟩ := List.mem_iff_getElem.1 hx
    have hgj : zs[j] = zs.toArray[j]! := by rw [getElem!_pos zs.toArray j (by simpa using hj)]; simp
    rw [hgj]
    clear hgj hx
    induction j with
    | zero => exact ⟨0, by rw [List.mem_filter, List.mem_range]; exact ⟨hj, (keeps_iff _ _).2 (.inl rfl)⟩, rfl⟩
    | succ j ih =>
      by_cases e : zs.toArray[j + 1]! = zs.toArray[j]!
      · rw [e]; exact ih (by omega)
      · exact ⟨j + 1, by rw [List.mem_filter, List.mem_range]; exact ⟨hj, (keeps_iff _ _).2 (.inr e)⟩, rfl⟩
theorem sorted_le9 (xs : List Int) : (sorted xs).Pairwise (· ≤ ·) := by
  have h := List.pairwise_mergeSort (le := fun x y : Int => decide (x ≤ y)) (fun a b c h1 h2 => by simp at *; omega) (fun a b => by simp; omega) xs
  exact h.imp fun h => by simpa using h
theorem mem_sorted {xs : List Int} {x : Int} : x ∈ sorted xs ↔ x ∈ xs := (List.mergeSort_perm xs _).mem_iff

/-- What the program's table holds. -/
def wdT (a : List In) (n : Nat) (k : Nat) : List Int := (List.range 4096).map fun i : Nat => if i < k then (endR a i).getD n 0 else 0
theorem wdT_len (a : List In) (n k : Nat) : (wdT a n k).length = 4096 := by simp [wdT]
theorem wdT_get {a : List In} {n k i : Nat} (h : i < (wdT a n k).length) : (wdT a n k)[i] = if i < k then (endR a i).getD n 0 else 0 := by simp [wdT]
theorem zeros_get9 {m i : Nat} (h : i < (zeros m).length) : (zeros m)[i] = 0 := by simp [zeros]
theorem wdT_zero (a : List In) (n : Nat) : wdT a n 0 = zeros 4096 := by
  refine List.ext_getElem (by simp only [wdT_len, zeros, List.length_replicate]) fun i h1 h2 => ?_
  rw [wdT_get, if_neg (Nat.not_lt_zero _), zeros_get9]
theorem wdT_succ {a : List In} {n k : Nat} (hk : k < 4096) : (wdT a n k).set k ((endR a k).getD n 0) = wdT a n (k + 1) := by
  refine List.ext_getElem (by rw [List.length_set, wdT_len, wdT_len]) fun i h1 h2 => ?_
  rw [List.getElem_set, wdT_get, wdT_get]
  by_cases e : k = i
  · subst e; rw [if_pos rfl, if_pos (by omega)]
  · rw [if_neg e]
    by_cases e2 : i < k
    · rw [if_pos e2, if_pos (by omega)]
    · rw [if_neg e2, if_neg (by omega)]
/-- What the model's flags hold. -/
def seenB (a : List In) (n : Nat) : Nat → List Bool
  | 0 => List.replicate 64 false
  | k + 1 => (seenB a n k).set ((endR a k).getD n 0).toNat true
theorem seenB_len (a : List In) (n k : Nat) : (seenB a n k).length = 64 := by
  induction k with
  | zero => simp [seenB]
  | succ k ih => rw [seenB, List.length_set, ih]
theorem seenB_iff {a : List In} {n : Nat} : ∀ {k x : Nat}, x < 64 → ((seenB a n k).getD x false = true ↔ ∃ i, i < k ∧ ((endR a i).getD n 0).toNat = x) := by
  intro k
  induction k with
  | zero =>
    intro x hx
    rw [seenB, List.getD_eq_getElem?_getD, List.getElem?_replicate, if_pos hx]
    simp
  | succ k ih =>
    intro x hx
    rw [seenB, List.getD_eq_getElem?_getD, List.getElem?_set, seenB_len]
    by_cases e : ((endR a k).getD n 0).toNat = x
    · rw [if_pos e, if_pos (by omega)]
      simp only [Option.getD_some, true_iff]
      exact ⟨k, by omega, e⟩
    · rw [if_neg e, ← List.getD_eq_getElem?_getD, ih hx]
      constructor
      · rintro ⟨i, hi, h⟩; exact ⟨i, by omega, h⟩
      · rintro ⟨i, hi, h⟩
        rcases Nat.lt_or_ge i k with h9 | h9
        · exact ⟨i, h9, h⟩
        · obtain rfl : i = k := by omega
          exact absurd h e
theorem mkTo_inc (bs : List Bool) (k : Nat) : (mkTo bs k).Pairwise (· < ·) := by
  unfold mkTo
  rw [List.pairwise_map]
  exact (List.pairwise_lt_range.filter _).imp (fun h => by omega)
theorem endR_at {a : List In} (h : okCode a = true) {i n : Nat} (hi : i < 4096) (hn : n < 6) : 0 ≤ (endR a i).getD n 0 ∧ (endR a i).getD n 0 < 64 := by
  obtain ⟨h6, hall⟩ := endR_words h hi
  have hl : n < (endR a i).length := by omega
  have hm : (endR a i).getD n 0 ∈ endR a i := by
    rw [List.getD_eq_getElem?_getD, List.getElem?_eq_getElem hl]; exact List.getElem_mem hl
  have := (inR_iff _ _ _).1 (List.all_eq_true.1 hall _ hm)
  omega
theorem rw_eq {a : List In} {n : Nat} (h : okCode a = true) (hn : n < 6) : mkTo (seenB a n 4096) 64 = Lib.compact (sorted (wdT a n 4096)) := by
  refine inc_ext (mkTo_inc _ _) (compact_lt (sorted_le9 _)) fun x => ?_
  rw [mem_compact, mem_sorted]
  unfold mkTo wdT
  rw [List.mem_map, List.mem_map]
  constructor
  · rintro ⟨y, hy, rfl⟩
    rw [List.mem_filter, List.mem_range] at hy
    obtain ⟨i, hi, e⟩ := (seenB_iff hy.1).1 hy.2
    refine ⟨i, List.mem_range.2 hi, ?_⟩
    rw [if_pos hi]
    have := (endR_at h hi hn).1
    omega
  · rintro ⟨i, hi, rfl⟩
    rw [List.mem_range] at hi
    rw [if_pos hi]
    have h1 := endR_at h hi hn
    refine ⟨((endR a i).getD n 0).toNat, ?_, by omega⟩
    rw [List.mem_filter, List.mem_range]
    exact ⟨by omega, (seenB_iff (by omega)).2 ⟨i, hi, rfl⟩⟩
def rwB (a : List In) (r : Int) : Bool := blkOk a && reg r
def rwR (a : List In) (r : Int) : List Int := if rwB a r = true then mkTo (seenB a r.toNat 4096) 64 else []
theorem rwR_len (a : List In) (r : Int) : (rwR a r).length ≤ 1048576 := by
  unfold rwR; split
  · have := mkTo_len (seenB a r.toNat 4096) 64; omega
  · simp
theorem rwB_parts {a : List In} {r : Int} (h : rwB a r = true) : okCode a = true ∧ ∃ n : Nat, r = (n : Int) ∧ n < 6 := by
  unfold rwB at h; rw [Bool.and_eq_true] at h
  have h2 := (inR_iff _ _ _).1 h.2
  exact ⟨(blkOk_parts h.1).2, r.toNat, by omega, by omega⟩
end Go.Proofs.Ythjfedidpjfboaa

/- wordsBehind, ReachedWords of the program. -/
namespace Go.Proofs.Ythjfedidpjfboaa
open Go.RowKit
set_option linter.unusedVariables false
set_option maxRecDepth 100000

set_option maxHeartbeats 4000000 in
theorem wordsBehind_any (L B : Nat) (A : Option Addr) (c : Nat) (a : List In) (n : Nat) (w : World) (hok : okCode a = true) (hn : n < 6) (h : RS In.enc 5 w L B A a) (hB : B ≤ w.heap.size) :
    Calls Try.prog 123 #[.slice A a.length c, .int .i64 (n : Int)] w fun e w' => ∃ g, e = .returned (.slice (some ⟨g, 0, none⟩) 4096 4096) ∧ w.heap.size ≤ g ∧ IB w' g 3 (wdT a n 4096) ∧ Below w.heap.size w w' := by
  have H := Lib.hid (machinesBehind_any L B A c a w hok h hB)
  have hmk := run_make_ints 4096 (by decide)
  rw [show ((4096 : Nat) : Int) = 4096 from rfl] at hmk
  have h0 := Lib.hid (wdT_zero a n)
  have hS := Lib.hid fun (k : Nat) (hk : k < 4096) => @wdT_succ a n k hk
  have hL := Lib.hid (wdT_len a n)
  have hni : (n : Int) < 6 := by omega
  have hn0 : (0 : Int) ≤ (n : Int) := by omega
  clear h hok
  generalize wdT a n = T at *
  generalize endR a = E at *
  go_enter Try.func123, Try.ntmps123
  go_wp2_with (fail)
  refine H.out.mono ?_
  rintro e w1 ⟨g, rfl, hg, hm, hb1⟩
  have hM := Lib.hid hm
  have hgl := hm.lt
  have hb1h := Lib.hid hb1
  clear hm hb1 hg
  have hI0 : IB (w1.alloc (.cells (intCells (zeros 4096)) 3)) w1.heap.size 3 (zeros 4096) := heap_alloc_new w1 _
  have hI0h := Lib.hid hI0
  have bA := Lib.hid ((Below.refl w1.heap.size w1).alloc (Nat.le_refl _) (.cells (intCells (zeros 4096)) 3))
  clear hI0
  go_wp2_with (fail)
  obtain ⟨W1, hW1⟩ : ∃ W1, W1 = w1.alloc (.cells (intCells (zeros 4096)) 3) := ⟨_, rfl⟩
  rw [← hW1] at hI0h bA ⊢
  obtain ⟨q, hq⟩ : ∃ q, q = w1.heap.size := ⟨_, rfl⟩
  have hqw := Lib.hid (Nat.le_of_eq hq.symm)
  rw [← hq] at hI0h ⊢
  have hne : g ≠ q := by omega
  clear hW1 hmk hq
  go_loopw [15] (fun i wr => ∃ k : Nat, k ≤ 4096 ∧ i = .int .i64 k ∧ IB wr q 3 (T k) ∧ Below w1.heap.size w1 wr) (fun i _ => 4096 - (intOf i).toNat)
  case atStart => exact ⟨0, by omega, rfl, by rw [h0.out]; exact hI0h.out, bA.out⟩
  case round =>
    obtain ⟨k, hk, rfl, hib, hbel⟩ := hrel
    have hI := Lib.hid hib
    have hBL := Lib.hid hbel
    by_cases hlt : k < 4096
    · have cM := MB.cellM (IB.below hM.out hbel hgl) hlt hn
      have c0 := hib.cell k (by rw [hL.out]; exact hlt)
      have f0 := hib.frozen k
      have hki : (k : Int) < 4096 := by omega
      have hk0 : (0 : Int) ≤ (k : Int) := by omega
      have h1 := hib.set k ((E k).getD n 0)
      rw [hS.out k hlt] at h1
      have hN := Lib.hid h1
      have hB2 := Lib.hid (hBL.out.setCell (p := ⟨q, k, none⟩) hqw.out (.int .i64 ((E k).getD n 0)))
      clear hib hbel h1
      generalize (E k).getD n 0 = y at *
      generalize (T k)[k]'_ = z at c0
      go_wp2
      go_roundw
      case rel => exact ⟨k + 1, by omega, by go_num, hN.out, hB2.out⟩
      case measure => simp [intOf]; omega
    · obtain rfl : k = 4096 := by omega
      clear hib hbel
      go_wp2
      go_ret
      exact ⟨q, rfl, by have := hb1h.out.size; have := hqw.out; omega, hI.out, hb1h.out.trans (hBL.out.mono hb1h.out.size)⟩

theorem clip_any (g n c : Nat) (w : World) (h0 : 0 < n) (hc : n ≤ c) (hn : n ≤ 1048576) :
    Calls Try.prog 125 #[.slice (some ⟨g, 0, none⟩) n c] w fun e w' => e = .returned (.slice (some ⟨g, 0, none⟩) n n) ∧ w = w' := by
  have hne : ¬ n = 0 := by omega
  have hci : (n : Int) ≤ (c : Int) := by omega
  have hn0 : (0 : Int) ≤ (n : Int) := by omega
  go_enter Try.func125, Try.ntmps125
  go_wp2
  go_ret
  exact ⟨rfl, rfl⟩

set_option maxHeartbeats 4000000 in
theorem iReachedWords_any (L B : Nat) (A : Option Addr) (c : Nat) (a : List In) (r : Int) (w : World) (hl : a.length ≤ 1048576) (h : RS In.enc 5 w L B A a) (hB : B ≤ w.heap.size) :
    Calls Try.prog 64 #[.slice A a.length c, .int .i64 r] w (ResReachedWordsV (rwR a r) (rwB a r) w) := by
  have Ha := Lib.hid (isBlock_any L B A c a w hl h hB)
  have Hr := Lib.hid (isRegister_any r)
  have hq : Hid (rwB a r = (blkOk a && reg r)) := rfl
  have hk : Hid (rwR a r = if rwB a r = true then mkTo (seenB a r.toNat 4096) 64 else []) := rfl
  have hP := Lib.hid fun (h : rwB a r = true) => rwB_parts h
  have HA := Lib.hid fun (n : Nat) (hn : n < 6) (W : World) (hW : Below w.heap.size w W) (ho : okCode a = true) => wordsBehind_any L B A c a n W ho hn (h.below hW hB) (Nat.le_trans hB hW.size)
  have hEq := Lib.hid fun (n : Nat) (hn : n < 6) (ho : okCode a = true) => rw_eq ho hn
  have hL := Lib.hid fun (n : Nat) => wdT_len a n 4096
  have hLc := Lib.hid fun (n : Nat) (h : okCode a = true) (hn : n < 6) => (show 0 < (Lib.compact (sorted (wdT a n 4096))).length from by
    have hm : (wdT a n 4096)[0]'(by rw [wdT_len]; omega) ∈ Lib.compact (sorted (wdT a n 4096)) := mem_compact.2 (mem_sorted.2 (List.getElem_mem _))
    exact List.length_pos_of_mem hm)
  clear h
  generalize rwR a r = R at *
  generalize rwB a r = q at *
  generalize blkOk a = qa at *
  generalize reg r = qr at *
  cases qa
  · obtain rfl : q = false := hq.out
    go_enter Try.func64, Try.ntmps64
    go_wp2_with (fail)
    refine Ha.out.mono ?_
    rintro e w1 ⟨rfl, hb1⟩
    have b1 := Lib.hid hb1
    clear hb1
    go_wp2
    go_ret2
    rw [hk.out]
    exact ⟨none, 0, 0, rfl, OW.nil _ _ _, b1.out⟩
  cases qr
  · obtain rfl : q = false := hq.out
    go_enter Try.func64, Try.ntmps64
    go_wp2_with (fail)
    refine Ha.out.mono ?_
    rintro e w1 ⟨rfl, hb1⟩
    have b1 := Lib.hid hb1
    clear hb1
    go_wp2_with (fail)
    refine (Hr.out w1).mono ?_
    rintro e w1c ⟨rfl, rfl⟩
    go_wp2
    go_ret2
    rw [hk.out]
    exact ⟨none, 0, 0, rfl, OW.nil _ _ _, b1.out⟩
  obtain rfl : q = true := hq.out
  obtain ⟨oa, n, rfl, hn⟩ := hP.out rfl
  have hOa := Lib.hid oa
  have hk2 : Hid (R = Lib.compact (sorted (wdT a n 4096))) := by
    rw [Hid, hk.out, if_pos rfl, Int.toNat_natCast, hEq.out n hn oa]
  have hpos := Lib.hid (hLc.out n oa hn)
  have hln := Lib.hid (hL.out n)
  have hA9 := Lib.hid fun (W : World) (hW : Below w.heap.size w W) => HA.out n hn W hW oa
  clear oa hk hLc hEq HA hL hP
  generalize wdT a n 4096 = T at *
  go_enter Try.func64, Try.ntmps64
  go_wp2_with (fail)
  refine Ha.out.mono ?_
  rintro e w1 ⟨rfl, hb1⟩
  have b1 := Lib.hid hb1
  clear hb1
  go_wp2_with (fail)
  refine (Hr.out w1).mono ?_
  rintro e w1c ⟨rfl, rfl⟩
  go_wp2_with (fail)
  refine (hA9.out w1 b1.out).mono ?_
  rintro e w2 ⟨g, rfl, hg, hib, hb2⟩
  have b2 := Lib.hid (b1.out.trans (hb2.mono b1.out.size))
  have hgw := Lib.hid (Nat.le_trans b1.out.size hg)
  have o2 := OW.ofIB' (lo := w.heap.size) (hi := w2.heap.size) hib (by rw [hln.out]; decide) hgw.out hib.lt
  rw [hln.out] at o2
  have hs := Lib.hid (sortOwn_any _ _ _ 4096 4096 T w2 hln.out.symm (by rw [hln.out]; decide) o2)
  have z2 := Lib.hid b2.out.size
  clear hib hb2 hg o2
  go_wp2_with (fail)
  refine hs.out.mono ?_
  rintro e w3 ⟨rfl, o3, hc3⟩
  have b3 := Lib.hid (below_chg b2.out hc3 z2.out (Nat.le_refl _))
  have z3 := Lib.hid hc3.size
  have hcp := Lib.hid (compactOwn_any _ _ _ 4096 4096 (sorted T) w3 (by rw [sorted_len, hln.out]) (by rw [sorted_len, hln.out]; decide) o3)
  have hcl : (Lib.compact (sorted T)).length ≤ 4096 := by have := compact_pre (sorted T); rw [sorted_len, hln.out] at this; exact this
  clear o3 hc3
  generalize Lib.compact (sorted T) = Z at *
  go_wp2_with (fail)
  refine hcp.out.mono ?_
  rintro e w4 ⟨rfl, o4, hc4⟩
  have b4 := Lib.hid (below_chg b3.out hc4 b3.out.size (Nat.le_refl _))
  have o4h := Lib.hid (o4.more (Nat.le_trans z3.out hc4.size))
  have hcc := Lib.hid (clip_any g Z.length 4096 w4 hpos.out hcl (by omega))
  clear o4 hc4
  go_wp2_with (fail)
  refine hcc.out.mono ?_
  rintro e w5 ⟨rfl, rfl⟩
  go_wp2
  go_ret2
  rw [hk2.out]
  exact ⟨_, _, 4096, rfl, o4h.out, b4.out⟩
end Go.Proofs.Ythjfedidpjfboaa

/- ReachedWords of the model. -/
namespace Go.Proofs.Ythjfedidpjfboaa
open Go.RowKit
set_option linter.unusedVariables false
set_option maxRecDepth 100000

theorem BB.belowV {w w' : World} {g C : Nat} {bs : List Bool} (h : BB w g bs) (hb : Below C w w') (hg : g < C) : BB w' g bs := (hb.block g hg).trans h
set_option maxHeartbeats 8000000 in
theorem sReachedWords_any (L B : Nat) (A : Option Addr) (c : Nat) (a : List In) (r : Int) (w : World) (hl : a.length ≤ 1048576) (h : RS In.enc 5 w L B A a) (hB : B ≤ w.heap.size) :
    Calls Try.prog 63 #[.slice A a.length c, .int .i64 r] w (ResReachedWordsV (rwR a r) (rwB a r) w) := by
  obtain ⟨i0, hi, hz0, hz1, hz2⟩ := info_parts Try.infoInt
  have hI := Lib.hid hi
  have hZ0 := Lib.hid hz0
  have hZ1 := Lib.hid hz1
  have hZ2 := Lib.hid hz2
  clear hi hz0 hz1 hz2
  have Ha := Lib.hid (vaGood_any L B A c a w hl h hB)
  have Hr := Lib.hid (cdReg_any r)
  have hq : Hid (rwB a r = (blkOk a && reg r)) := rfl
  have hk : Hid (rwR a r = if rwB a r = true then mkTo (seenB a r.toNat 4096) 64 else []) := rfl
  have hP := Lib.hid fun (h : rwB a r = true) => rwB_parts h
  have HA := Lib.hid fun (W : World) (hW : Below w.heap.size w W) (ho : okCode a = true) => vaEnds_any L B A c a W ho (h.below hW hB) (Nat.le_trans hB hW.size)
  clear h
  generalize rwR a r = R at *
  generalize rwB a r = q at *
  generalize blkOk a = qa at *
  generalize reg r = qr at *
  cases qa
  · obtain rfl : q = false := hq.out
    go_enter Try.func63, Try.ntmps63
    go_wp2_with (fail)
    refine Ha.out.mono ?_
    rintro e w1 ⟨rfl, hb1⟩
    have b1 := Lib.hid hb1
    clear hb1
    go_wp2
    go_ret2
    rw [hk.out]
    exact ⟨none, 0, 0, rfl, OW.nil _ _ _, b1.out⟩
  cases qr
  · obtain rfl : q = false := hq.out
    go_enter Try.func63, Try.ntmps63
    go_wp2_with (fail)
    refine Ha.out.mono ?_
    rintro e w1 ⟨rfl, hb1⟩
    have b1 := Lib.hid hb1
    clear hb1
    go_wp2_with (fail)
    refine (Hr.out w1).mono ?_
    rintro e w1c ⟨rfl, rfl⟩
    go_wp2
    go_ret2
    rw [hk.out]
    exact ⟨none, 0, 0, rfl, OW.nil _ _ _, b1.out⟩
  obtain rfl : q = true := hq.out
  obtain ⟨oa, n, rfl, hn⟩ := hP.out rfl
  have hk2 : Hid (R = mkTo (seenB a n 4096) 64) := by rw [Hid, hk.out, if_pos rfl, Int.toNat_natCast]
  have hEa := Lib.hid fun (k : Nat) (hk : k < 4096) => endR_at oa hk hn
  have h6 := Lib.hid fun (k : Nat) (hk : k < 4096) => (endR_words oa hk).1
  have hA9 := Lib.hid fun (W : World) (hW : Below w.heap.size w W) => HA.out W hW oa
  have hS0 : Hid (seenB a n 0 = List.replicate 64 false) := rfl
  have hSs : Hid (∀ k, seenB a n (k + 1) = (seenB a n k).set ((endR a k).getD n 0).toNat true) := fun k => rfl
  have hSl := Lib.hid fun k => seenB_len a n k
  have hAt := Lib.hid fun (W : World) (L B k : Nat) (A : Option Addr) (h : XS W L B A (endsL a 4096)) (hB : B ≤ W.heap.size) (hk : k < 4096) => ends_at h hB hk (h6.out k hk)
  have hni : (n : Int) < 6 := by omega
  have hn0 : (0 : Int) ≤ (n : Int) := by omega
  have hmk := run_make_bools 64 (by decide)
  rw [show ((64 : Nat) : Int) = 64 from rfl] at hmk
  clear oa hk HA hP h6
  generalize seenB a n = S at *
  generalize endR a = E at *
  go_enter Try.func63, Try.ntmps63
  go_wp2_with (fail)
  refine Ha.out.mono ?_
  rintro e w1 ⟨rfl, hb1⟩
  have b1 := Lib.hid hb1
  clear hb1
  go_wp2_with (fail)
  refine (Hr.out w1).mono ?_
  rintro e w1c ⟨rfl, rfl⟩
  have hI0 : IB w1 0 3 [] ∨ True := .inr trivial
  clear hI0
  have hT0 : Hid (BB (w1.alloc (.cells (boolCells (List.replicate 64 false)) 4)) w1.heap.size (List.replicate 64 false)) := heap_alloc_new w1 _
  have b2 := Lib.hid (b1.out.alloc b1.out.size (.cells (boolCells (List.replicate 64 false)) 4))
  have z2 : Hid (w1.heap.size < (w1.alloc (.cells (boolCells (List.replicate 64 false)) 4)).heap.size) := hT0.out.lt
  have hE9 := Lib.hid (hA9.out _ b2.out)
  go_wp2_with (fail)
  refine hE9.out.mono ?_
  rintro e w3 ⟨Ap, cp, rfl, hox, hb3⟩
  have X3 := Lib.hid hox
  have b3 := Lib.hid (b2.out.trans (hb3.mono b2.out.size))
  have hT3 := Lib.hid (BB.belowV hT0.out hb3 z2.out)
  have z3 := Lib.hid hb3.size
  clear hox hb3 hE9 hmk hT0
  generalize hW2 : w1.alloc (.cells (boolCells (List.replicate 64 false)) 4) = W2 at *
  obtain ⟨g, hg⟩ : ∃ g, g = w1.heap.size := ⟨_, rfl⟩
  rw [← hg] at hT3 z2 ⊢
  have hgw := Lib.hid (show w.heap.size ≤ g by rw [hg]; exact b1.out.size)
  clear hg hW2 b2
  go_wp2
  go_loopw [24] (fun i wr => ∃ k : Nat, k ≤ 4096 ∧ i = .int .i64 k ∧ BB wr g (S k) ∧ Chg g (g + 1) w3 wr) (fun i _ => 4096 - (intOf i).toNat)
  case atStart => exact ⟨0, by omega, rfl, by rw [hS0.out]; exact hT3.out, Chg.refl _ _ _⟩
  case round =>
    obtain ⟨k, hk, rfl, hbb, hch⟩ := hrel
    have hBB := Lib.hid hbb
    have hCh := Lib.hid hch
    by_cases hlt : k < 4096
    · have hx := OX.rs (X3.out.chg hch (.inr z2.out))
      obtain ⟨b, o, p, o2, ci, rfl, xc, xn⟩ := hAt.out wr _ _ k _ hx hch.size hlt
      have xa := xc wr (Below.refl _ _)
      have xb := xn wr (Below.refl _ _) n hn
      have hv := hEa.out k hlt
      have hSk := Lib.hid (hSs.out k)
      have hki : (k : Int) < 4096 := by omega
      have hk0 : (0 : Int) ≤ (k : Int) := by omega
      have hlS := hSl.out k
      clear hx xc xn
      generalize (E k).getD n 0 = y at *
      obtain ⟨v, rfl⟩ := Int.eq_ofNat_of_zero_le hv.1
      rw [Int.toNat_natCast] at hSk
      have hv0 : (0 : Int) ≤ (v : Int) := by omega
      have hv1 : (v : Int) < 64 := hv.2
      have c0 := hbb.cell v (by omega)
      have f0 := hbb.frozen v
      have hN := Lib.hid (hbb.set v true)
      rw [← hSk.out] at hN
      have hC2 := Lib.hid (hCh.out.setCell (p := ⟨g, v, none⟩) ⟨Nat.le_refl _, Nat.lt_succ_self _⟩ (.bool true))
      clear hbb hch hv hSk
      generalize (S k).getD v false = z at c0
      go_wp2
      go_roundw
      case rel => exact ⟨k + 1, by omega, by go_num, hN.out, hC2.out⟩
      case measure => simp [intOf]; omega
    · obtain rfl : k = 4096 := by omega
      have b4 := Lib.hid (below_chg b3.out hch b3.out.size hgw.out)
      have hgl := hbb.lt
      have hl64 := Lib.hid (hSl.out 4096)
      clear hbb hch hCh
      generalize S 4096 = bs at *
      obtain ⟨w4, hw4⟩ : ∃ w4 : World, w4 = wr := ⟨_, rfl⟩
      rw [← hw4] at hBB b4 hgl ⊢
      clear hw4
      rw [show ((4096 : Nat) : Int) = 4096 from rfl]
      go_wp2
      go_loopw [9, 37] (fun v i wr => ∃ k : Nat, k ≤ 64 ∧ i = .int .i64 k ∧ OW wr w4.heap.size wr.heap.size v (mkTo bs k) ∧ Below w4.heap.size w4 wr) (fun _ i _ => 64 - (intOf i).toNat)
      case atStart => exact ⟨0, by omega, rfl, OW.nil _ _ _, Below.refl _ _⟩
      case round =>
        obtain ⟨k, hk, rfl, how, hbel⟩ := hrel
        obtain ⟨A5, c5, rfl, -⟩ := how.form
        have hO := Lib.hid how
        have hBL := Lib.hid hbel
        by_cases hlt : k < 64
        · have hki : (k : Int) < 64 := by omega
          have hk0 : (0 : Int) ≤ (k : Int) := by omega
          have c1 := (BB.belowV hBB.out hbel hgl).cell k (by rw [hl64.out]; exact hlt)
          have hml := Nat.le_trans (mkTo_len bs k) hk
          clear how hbel
          cases hb : bs.getD k false
          · rw [hb] at c1
            have hS := Lib.hid (mkTo_no hb)
            clear hb
            generalize mkTo bs k = ts at *
            go_wp2
            go_roundw
            case rel => exact ⟨k + 1, by omega, by go_num, by rw [hS.out]; exact hO.out, hBL.out⟩
            case measure => simp [intOf]; omega
          · rw [hb] at c1
            have hS := Lib.hid (mkTo_yes hb)
            clear hb
            generalize mkTo bs k = ts at *
            have ho2 := Lib.hid (hO.out.1.alloc (.cells #[.int .i64 (k : Int)] 3))
            have hb3 := Lib.hid (hBL.out.alloc hBL.out.size (.cells #[.int .i64 (k : Int)] 3))
            have hlo := Lib.hid hO.out.lo
            go_wp2_with (at_builtin; refine wpList_append_own _ rfl _ _ 32 rfl w4.heap.size 3 i0 (.int .i64 0) 1 8 Try.underlying32 hI.out hZ0.out hZ1.out hZ2.out rfl (by decide) _ _ _ rfl ho2.out ⟨wr.heap.size, 0, none⟩ 1 1 [.int .i64 (k : Int)] rfl rfl (new1 rfl) (one1 _) (by unfold maxLen; omega) (by omega) (by have := hBL.out.size; simp; omega) ?_; intro v' w7 hown7 hgr7 _)
            have R1 := Lib.hid (OW.push (by simpa using hown7) : OW w7 w4.heap.size w7.heap.size v' (ts ++ [(k : Int)]))
            have R2 := Lib.hid (hb3.out.grown hgr7 hb3.out.size (fun k hk => (hlo.out k hk).1))
            clear hown7 hgr7
            go_wp2
            go_roundw
            case rel => exact ⟨k + 1, by omega, by go_num, by rw [hS.out]; exact R1.out, R2.out⟩
            case measure => simp [intOf]; omega
        · obtain rfl : k = 64 := by omega
          clear how hbel
          go_wp2
          go_ret2
          rw [hk2.out]
          exact ⟨A5, c5, c5, rfl, hO.out.lower b4.out.size, b4.out.trans (hBL.out.mono b4.out.size)⟩
end Go.Proofs.Ythjfedidpjfboaa

/- Arguments of the types []laws.Instr, laws.Instr and []int opened. -/
namespace Go.Proofs.Ythjfedidpjfboaa
open Go.ChangeShapes Go.WideShapes Go.ChangeAt Go.RowKit Go.Deep
open Go.ChangeMaps (open_string shut_string)
set_option linter.unusedVariables false

theorem cellsIn : Try.prog.cellsOf 86 = 5 := by kernel_rfl
theorem cellsStr : Try.prog.cellsOf 9 = 1 := by kernel_rfl
theorem cellsInt : Try.prog.cellsOf 3 = 1 := by kernel_rfl

set_option maxRecDepth 100000 in
theorem in_of_trod {H : Type} {enc : TypeId × Value → H} {w : World} {base : Nat} {spare : Nat → Bool} {held : Bool} {n : Nat} {cs : List Value} {x : DataW H × List MemPlace}
    (h : DataW.trod enc Try.prog w base spare held n 86 cs = some x) : ∃ nd : In, cs = nd.enc ∧ nd.op.size ≤ maxLen := by
  obtain ⟨xs, m, _, _, hlen, hxl, hf⟩ := DataW.trod_struct Try.underlying86 h
  rw [cellsIn] at hlen
  match cs, hlen with
  | [c0, c1, c2, c3, c4], _ =>
    match xs, hxl with
    | [y0, y1, y2, y3, y4], _ =>
      have h0 := hf 0 _ rfl
      change DataW.trod enc Try.prog w base spare held m 9 (([c0, c1, c2, c3, c4].drop 0).take (Try.prog.cellsOf 9)) = _ at h0
      rw [cellsStr] at h0
      have h1 := hf 1 _ rfl
      change DataW.trod enc Try.prog w base spare held m 3 (([c0, c1, c2, c3, c4].drop 1).take (Try.prog.cellsOf 3)) = _ at h1
      rw [cellsInt] at h1
      have h2 := hf 2 _ rfl
      change DataW.trod enc Try.prog w base spare held m 3 (([c0, c1, c2, c3, c4].drop 2).take (Try.prog.cellsOf 3)) = _ at h2
      rw [cellsInt] at h2
      have h3 := hf 3 _ rfl
      change DataW.trod enc Try.prog w base spare held m 3 (([c0, c1, c2, c3, c4].drop 3).take (Try.prog.cellsOf 3)) = _ at h3
      rw [cellsInt] at h3
      have h4 := hf 4 _ rfl
      change DataW.trod enc Try.prog w base spare held m 3 (([c0, c1, c2, c3, c4].drop 4).take (Try.prog.cellsOf 3)) = _ at h4
      rw [cellsInt] at h4
      obtain ⟨s, e0, _, hs⟩ := DataW.trod_string Try.underlying9 h0
      obtain ⟨d, e1, _, _⟩ := DataW.trod_int Try.underlying3 h1
      obtain ⟨a, e2, _, _⟩ := DataW.trod_int Try.underlying3 h2
      obtain ⟨b, e3, _, _⟩ := DataW.trod_int Try.underlying3 h3
      obtain ⟨m, e4, _, _⟩ := DataW.trod_int Try.underlying3 h4
      have e0 : c0 = .string s := by simpa using e0
      have e1 : c1 = .int .i64 d := by simpa using e1
      have e2 : c2 = .int .i64 a := by simpa using e2
      have e3 : c3 = .int .i64 b := by simpa using e3
      have e4 : c4 = .int .i64 m := by simpa using e4
      exact ⟨⟨s, d, a, b, m⟩, by rw [e0, e1, e2, e3, e4]; rfl, hs⟩

theorem cell_lt_heap {w : World} {a : Addr} {v : Value} (h : w.cell? a = some v) : a.block < w.heap.size := by
  rcases Nat.lt_or_ge a.block w.heap.size with hlt | hge
  · exact hlt
  · unfold World.cell? at h; rw [Array.getElem?_eq_none hge] at h; simp at h

set_option maxRecDepth 100000 in
theorem x_of_trod {H : Type} {enc : TypeId × Value → H} {w : World} {r : Reach} {b0 : Nat} {spare : Nat → Bool} {held : Bool} {v : Value} {d : DataW H} {p : List MemPlace}
    (hv : Value.okWide Try.prog w r b0 86 v) (h : DataW.Trod enc Try.prog w 0 spare held 86 v d p) :
    ∃ x : In, v = .agg #[.string x.op, .int .i64 x.d, .int .i64 x.a, .int .i64 x.b, .int .i64 x.m] ∧ x.op.size ≤ 9223372036854775807 := by
  obtain ⟨cs, rfl, hsz⟩ := okWide_struct Try.underlying86 hv
  obtain ⟨fuel, hf⟩ := h
  obtain ⟨x, hx, hs⟩ := in_of_trod hf
  refine ⟨x, ?_, by unfold maxLen at hs; omega⟩
  obtain ⟨l⟩ := cs
  have hx' : l = x.enc := by simpa [Value.cells] using hx
  subst hx'; rfl

set_option maxRecDepth 100000 in
theorem ins_of_trod {H : Type} {enc : TypeId × Value → H} {w : World} {spare : Nat → Bool} {held : Bool} {A : Option Addr} {len cap : Nat} {d : DataW H} {p : List MemPlace}
    (h : DataW.Trod enc Try.prog w 0 spare held 31 (.slice A len cap) d p) :
    ∃ es : List In, es.length = len ∧ RS In.enc 5 w 0 w.heap.size A es ∧ (∀ n ∈ es, n.op.size ≤ 9223372036854775807) ∧ len ≤ 9223372036854775807 := by
  obtain ⟨fuel, hf⟩ := h
  rcases open_slice Try.underlying31 hf with ⟨hcs, _⟩ | ⟨a, l, c, m, n, D, Pl, hcs, _, hl, hm, hmm, _, hi⟩
  · simp [Value.cells] at hcs
    obtain ⟨rfl, rfl, rfl⟩ := hcs
    exact ⟨[], rfl, fun h => absurd h (by simp), (fun n hn => by cases hn), by omega⟩
  · simp [Value.cells] at hcs
    obtain ⟨rfl, rfl, rfl⟩ := hcs
    have hlm : len ≤ m := by rw [hmm]; split <;> omega
    have hex : ∀ i, i < len → ∃ nd : In, (∀ j v, nd.enc[j]? = some v → w.cell? (a.add (i * 5 + j)) = some v) ∧ nd.op.size ≤ maxLen := by
      intro i hil
      obtain ⟨cs', hc, ht⟩ := hi i (by omega)
      rw [cellsIn] at hc
      obtain ⟨nd, rfl, hs⟩ := in_of_trod ht
      obtain ⟨_, _, hat⟩ := World.cells?_some hc
      refine ⟨nd, fun j v hv => ?_, hs⟩
      have hj : j < 5 := kflat_lt In.hk hv
      have := hat j hj
      rw [add_add, hv] at this; exact this
    obtain ⟨f, hf2⟩ := Classical.axiomOfChoice (fun i : {i // i < len} => hex i.1 i.2)
    have hget : ∀ i (h : i < (List.ofFn fun i : Fin len => f ⟨i.1, i.2⟩).length), (List.ofFn fun i : Fin len => f ⟨i.1, i.2⟩)[i] = f ⟨i, by simpa using h⟩ := fun i h => by simp
    refine ⟨List.ofFn fun i : Fin len => f ⟨i.1, i.2⟩, by simp, ?_, ?_, by unfold maxLen at hm; omega⟩
    · intro hpos
      have hpos' : 0 < len := by simpa using hpos
      have h0 := (hf2 ⟨0, hpos'⟩).1 0 _ rfl
      obtain ⟨b, o, spot⟩ := a
      have hspot : spot = none := by have := World.cell?_spot h0; simpa [Addr.add] using this
      subst hspot
      have hadd : ∀ k, (⟨b, o, none⟩ : Addr).add k = ⟨b, o + k, none⟩ := fun k => by simp [Addr.add]
      refine ⟨b, o, rfl, ⟨Nat.zero_le _, ?_⟩, fun i hi j v hv => ?_⟩
      · rw [hadd] at h0
        exact cell_lt_heap h0
      · have hi' : i < len := by simpa using hi
        rw [hget i hi] at hv
        have := (hf2 ⟨i, hi'⟩).1 j v hv
        simp only [hadd, ← Nat.add_assoc] at this
        exact this
    · intro n hn
      obtain ⟨i, rfl⟩ := List.mem_ofFn.1 hn
      have := (hf2 ⟨i.1, i.2⟩).2
      unfold maxLen at this; omega

set_option maxRecDepth 100000 in
theorem ints_of_trod {H : Type} {enc : TypeId × Value → H} {w : World} {spare : Nat → Bool} {held : Bool} {A : Option Addr} {len cap : Nat} {d : DataW H} {p : List MemPlace}
    (h : DataW.Trod enc Try.prog w 0 spare held 32 (.slice A len cap) d p) :
    ∃ xs : List Int, xs.length = len ∧ IS w 0 w.heap.size A xs ∧ len ≤ 9223372036854775807 := by
  obtain ⟨fuel, hf⟩ := h
  rcases open_slice Try.underlying32 hf with ⟨hcs, _⟩ | ⟨a, l, c, m, n, D, Pl, hcs, _, hl, hm, hmm, _, hi⟩
  · simp [Value.cells] at hcs
    obtain ⟨rfl, rfl, rfl⟩ := hcs
    exact ⟨[], rfl, fun h => absurd h (by simp), by omega⟩
  · simp [Value.cells] at hcs
    obtain ⟨rfl, rfl, rfl⟩ := hcs
    have hlm : len ≤ m := by rw [hmm]; split <;> omega
    have hex : ∀ i, i < len → ∃ x : Int, w.cell? (a.add i) = some (.int .i64 x) := by
      intro i hil
      obtain ⟨cs', hc, ht⟩ := hi i (by omega)
      rw [cellsInt, Nat.mul_one] at hc
      obtain ⟨x, hx, _, _⟩ := DataW.trod_int Try.underlying3 ht
      obtain ⟨_, _, hat⟩ := World.cells?_some hc
      have := hat 0 (by omega)
      rw [add_add, hx] at this
      exact ⟨x, by simpa using this⟩
    obtain ⟨f, hf2⟩ := Classical.axiomOfChoice (fun i : {i // i < len} => hex i.1 i.2)
    have hget : ∀ i (h : i < (List.ofFn fun i : Fin len => f ⟨i.1, i.2⟩).length), (List.ofFn fun i : Fin len => f ⟨i.1, i.2⟩)[i] = f ⟨i, by simpa using h⟩ := fun i h => by simp
    refine ⟨List.ofFn fun i : Fin len => f ⟨i.1, i.2⟩, by simp, ?_, by unfold maxLen at hm; omega⟩
    intro hpos
    have hpos' : 0 < len := by simpa using hpos
    have h0 := hf2 ⟨0, hpos'⟩
    obtain ⟨b, o, spot⟩ := a
    have hspot : spot = none := by have := World.cell?_spot h0; simpa [Addr.add] using this
    subst hspot
    have hadd : ∀ k, (⟨b, o, none⟩ : Addr).add k = ⟨b, o + k, none⟩ := fun k => by simp [Addr.add]
    refine ⟨b, o, rfl, ⟨Nat.zero_le _, ?_⟩, fun i hi => ?_⟩
    · rw [hadd] at h0
      exact cell_lt_heap h0
    · have hi' : i < len := by simpa using hi
      rw [hget i hi]
      have := hf2 ⟨i, hi'⟩
      simp only [hadd] at this
      exact this
end Go.Proofs.Ythjfedidpjfboaa
