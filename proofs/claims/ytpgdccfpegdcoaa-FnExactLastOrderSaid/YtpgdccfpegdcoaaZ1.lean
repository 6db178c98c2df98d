/- Texts of this proof, one behind the other: NAF, NAH, NAI, NAJ, NAK, OC. -/
import Derived.Test.YtpgdccfpegdcoaaZ2
import Derived.WalkKit
import Derived.WalkSpells
import Derived.WalkLawsBesides
import Derived.Deep.RegionLaw
import Derived.Deep.RegionHeld3
import Derived.Lib.Hide
import Derived.Deep.DeepCutAuto
import Derived.Test.YtpgdccfpegdcoaaZ3
import Derived.Test.YtpgdccfpegdcoaaLawN9B
import Derived.Laws.EntriesVeiled
import Derived.Test.YtpgdccfpegdcoaaKMInstr
import Derived.ProofKit
import Derived.OpenShut
import Derived.ShutString
import Derived.ChangeOld
import Derived.Below
import Derived.Deep.Slices
import Derived.Deep.Fields
/- Chapter 9: counts of orders, plain; CountOrders of the program. -/
namespace Go.Proofs.Ytpgdccfpegdcoaa
open Go.RowKit
set_option linter.unusedVariables false
set_option maxRecDepth 100000

/-- A set of indices as a list. -/
def bitsL (s : Nat) : List Int := ((List.range 20).filter fun i => s.testBit i).map fun (i : Nat) => (i : Int)
theorem bitsL_in (s : Nat) : ∀ x ∈ bitsL s, 0 ≤ x ∧ x < 20 := by
  intro x hx
  unfold bitsL at hx
  rw [List.mem_map] at hx
  obtain ⟨i, hi, rfl⟩ := hx
  have := (List.mem_filter.1 hi).1
  have : i < 20 := by simpa using this
  omega
theorem bitsL_has {s i : Nat} (hs : s < 1048576) : hasI (bitsL s) i = s.testBit i := by
  rw [Bool.eq_iff_iff]
  unfold hasI
  rw [List.any_eq_true]
  constructor
  · rintro ⟨x, hx, he⟩
    unfold bitsL at hx
    rw [List.mem_map] at hx
    obtain ⟨q, hq, rfl⟩ := hx
    have h2 := (List.mem_filter.1 hq).2
    have : q = i := by have := beq_iff_eq.1 he; omega
    rw [← this]; exact h2
  · intro h
    refine ⟨(i : Int), ?_, by simp⟩
    unfold bitsL
    rw [List.mem_map]
    refine ⟨i, List.mem_filter.2 ⟨?_, h⟩, rfl⟩
    have : i < 20 := by
      rcases Nat.lt_or_ge i 20 with h1 | h1
      · exact h1
      · have h2 : s < 2 ^ i := Nat.lt_of_lt_of_le hs ((show 1048576 ≤ 2 ^ i from Nat.pow_le_pow_right (show 0 < 2 by omega) (show 20 ≤ i from h1)))
        rw [Nat.testBit_lt_two_pow h2] at h; cases h
    simpa using this
theorem bitsL_set {s : Nat} (hs : s < 1048576) : setOf (bitsL s) = s := by
  apply Nat.eq_of_testBit_eq
  intro i
  rw [setOf_bit i (bitsL_in s), bitsL_has hs]
def mayS (cs : List In) (s j : Nat) : Bool := (ndL cs j cs.length).all (fun d => s.testBit d.1.toNat) && !s.testBit j
theorem mayS_eq {cs : List In} {s j : Nat} (hs : s < 1048576) : mayB cs (bitsL s) j = mayS cs s j := by
  unfold mayB mayS ndIn
  rw [bitsL_has hs]
  congr 1
  rw [Bool.eq_iff_iff, List.all_eq_true, List.all_eq_true]
  have key : ∀ d ∈ ndL cs j cs.length, hasI (bitsL s) d.1 = s.testBit d.1.toNat := fun d hd => by
    obtain ⟨i, _, _, _, rfl⟩ := mem_ndL hd
    simp only [Int.toNat_natCast]
    exact bitsL_has hs
  exact ⟨fun h d hd => by rw [← key d hd]; exact h d hd, fun h d hd => by rw [key d hd]; exact h d hd⟩
def bitOn (s j : Nat) : Nat := s ||| (1 <<< j)
theorem bitOn_lt {n s j : Nat} (hs : s < 2 ^ n) (hj : j < n) : bitOn s j < 2 ^ n :=
  Nat.or_lt_two_pow hs (by rw [Nat.one_shiftLeft]; exact Nat.pow_lt_pow_right (by omega) hj)
theorem bitOn_ne {s j : Nat} (h : s.testBit j = false) : bitOn s j ≠ s := by
  intro e
  have h2 : (bitOn s j).testBit j = true := by
    unfold bitOn
    rw [Nat.testBit_or, Nat.one_shiftLeft, Nat.testBit_two_pow_self, Bool.or_true]
  rw [e, h] at h2; cases h2
def cstep (cs : List In) (s : Nat) (c : List Int) (j : Nat) : List Int := if mayS cs s j = true then c.set (bitOn s j) (wrap64 (c.getD (bitOn s j) 0 + c.getD s 0)) else c
def crow (cs : List In) (s : Nat) (c : List Int) (m : Nat) : List Int := (List.range m).foldl (cstep cs s) c
def call9 (cs : List In) (k : Nat) : List Int := (List.range k).foldl (fun c s => crow cs s c cs.length) ((zeros (2 ^ cs.length)).set 0 1)
theorem cstep_len (cs : List In) (s : Nat) (c : List Int) (j : Nat) : (cstep cs s c j).length = c.length := by unfold cstep; split <;> simp
theorem crow_succ (cs : List In) (s : Nat) (c : List Int) (m : Nat) : crow cs s c (m + 1) = cstep cs s (crow cs s c m) m := by unfold crow; rw [List.range_succ, List.foldl_append]; rfl
theorem crow_len (cs : List In) (s : Nat) (c : List Int) : ∀ m, (crow cs s c m).length = c.length
  | 0 => rfl
  | m + 1 => by rw [crow_succ, cstep_len]; exact crow_len cs s c m
theorem call9_succ (cs : List In) (k : Nat) : call9 cs (k + 1) = crow cs k (call9 cs k) cs.length := by unfold call9; rw [List.range_succ, List.foldl_append]; rfl
theorem call9_len (cs : List In) : ∀ k, (call9 cs k).length = 2 ^ cs.length
  | 0 => by show ((zeros (2 ^ cs.length)).set 0 1).length = _; simp [zeros]
  | k + 1 => by rw [call9_succ, crow_len]; exact call9_len cs k
theorem crow_yes {cs : List In} {s m : Nat} {c : List Int} (h : mayS cs s m = true) : crow cs s c (m + 1) = (crow cs s c m).set (bitOn s m) (wrap64 ((crow cs s c m).getD (bitOn s m) 0 + (crow cs s c m).getD s 0)) := by
  rw [crow_succ]; unfold cstep; rw [if_pos h]
theorem crow_no {cs : List In} {s m : Nat} {c : List Int} (h : mayS cs s m = false) : crow cs s c (m + 1) = crow cs s c m := by
  rw [crow_succ]; unfold cstep; rw [h]; rfl
theorem crow_at {cs : List In} {s : Nat} {c : List Int} : ∀ m, (crow cs s c m).getD s 0 = c.getD s 0
  | 0 => rfl
  | m + 1 => by
    have ih := crow_at (cs := cs) (s := s) (c := c) m
    cases h : mayS cs s m
    · rw [crow_no h]; exact ih
    · rw [crow_yes h, ← ih]
      have hb : s.testBit m = false := by
        unfold mayS at h
        rw [Bool.and_eq_true] at h
        simpa using h.2
      have hne := bitOn_ne hb
      rw [List.getD_eq_getElem?_getD, List.getElem?_set_ne hne, ← List.getD_eq_getElem?_getD]
def coK (cs : List In) : Bool := orGood cs && decide (cs.length ≤ 12)
def coR (cs : List In) : Int := if coK cs = true then (call9 cs (2 ^ cs.length)).getD (2 ^ cs.length - 1) 0 else 0
theorem coK_no1 {cs : List In} (h : orGood cs = false) : coK cs = false := by unfold coK; rw [h]; rfl
theorem coK_no2 {cs : List In} (h : ¬ cs.length ≤ 12) : coK cs = false := by unfold coK; rw [decide_eq_false h]; simp
theorem coK_yes {cs : List In} (h : orGood cs = true) (h2 : cs.length ≤ 12) : coK cs = true := by unfold coK; rw [h, decide_eq_true h2]; rfl
theorem coR_no {cs : List In} (h : coK cs = false) : coR cs = 0 := by unfold coR; rw [h]; rfl
theorem coR_yes {cs : List In} (h : coK cs = true) : coR cs = (call9 cs (2 ^ cs.length)).getD (2 ^ cs.length - 1) 0 := by unfold coR; rw [if_pos h]

set_option maxHeartbeats 8000000 in
theorem iCountOrders_k (L B : Nat) (A : Option Addr) (c : Nat) (cs : List In) (w : World) (hl : cs.length ≤ 1048576) (hes : RS In.enc 5 w L B A cs) (hB : B ≤ w.heap.size) (hcap : cs.length ≤ c) :
    Calls Try.prog 42 #[.slice A cs.length c] w (ResCountOrders (coR cs) (coK cs) w) := by
  cases hg : orGood cs
  · have H := Lib.hid (planOf_no L B A c cs w hg hl hes hB hcap)
    have hK := Lib.hid (coK_no1 hg)
    have hR := Lib.hid (coR_no hK.out)
    clear hg hes
    generalize coR cs = R at *
    generalize coK cs = K at *
    go_enter Try.func42, Try.ntmps42
    go_wp2_with (fail)
    refine H.out.mono ?_
    rintro e w1 ⟨rfl, hb1⟩
    have hB1 := Lib.hid (hb1.alloc hb1.size (.cells #[.slice none 0 0, .slice none 0 0] 77))
    clear hb1
    go_wp2
    go_ret2
    rw [hR.out, hK.out]
    exact ⟨rfl, hB1.out⟩
  have H := Lib.hid (planOf_yes L B A c cs w hg hl hes hB hcap)
  by_cases h12 : cs.length ≤ 12
  · have hK := Lib.hid (coK_yes hg h12)
    have hR := Lib.hid (coR_yes hK.out)
    have h20 := (orGood_parts hg).1
    obtain ⟨N, hN⟩ : ∃ N, N = 2 ^ cs.length := ⟨_, rfl⟩
    have hN1 : 1 ≤ N := by rw [hN]; exact Nat.one_le_two_pow
    have hN2 : N ≤ 4096 := by rw [hN]; exact (show 2 ^ cs.length ≤ 4096 from Nat.pow_le_pow_right (show 0 < 2 by omega) (show cs.length ≤ 12 from h12))
    obtain ⟨p, hp⟩ : ∃ p, N = p + 1 := ⟨N - 1, by omega⟩
    have hsh : IntKind.i64.wrap (2 ^ cs.length) = (N : Int) := by
      have e : ((2 : Int) ^ cs.length) = ((2 ^ cs.length : Nat) : Int) := by rw [Int.natCast_pow]; rfl
      rw [e, ← hN, IntWalk.i64_in _ (by omega)]
    have hmk := run_make_ints N (by omega)
    have hMc := Lib.hid fun (An : Option Addr) (cn L1 B1 i s : Nat) (W : World) (hi : i < cs.length) (hs : s < 1048576) (hpn : PN W L1 B1 An (nds cs)) (hB1 : B1 ≤ W.heap.size) => (show Calls Try.prog 90 #[.agg #[.slice A cs.length c, .slice An cs.length cn], .int .i64 i, .int .u64 s] W (fun e w' => e = .returned (.bool (mayS cs s i)) ∧ Below W.heap.size W w') from by
      have h := mayCome_any A cs.length c L1 B1 An cn cs i (bitsL s) W h20 hi (bitsL_in s) hpn hB1
      rw [bitsL_set hs, mayS_eq hs] at h
      exact h)
    have hCl := Lib.hid fun (k : Nat) => (call9_len cs k).trans hN.symm
    have hCs := Lib.hid (call9_succ cs)
    have hC0 : Hid (call9 cs 0 = (zeros N).set 0 1) := by rw [Hid, hN]; rfl
    have hRl := Lib.hid fun (s m : Nat) (c : List Int) => crow_len cs s c m
    have hRy := Lib.hid fun (s m : Nat) (c : List Int) (h : mayS cs s m = true) => crow_yes (c := c) h
    have hRn := Lib.hid fun (s m : Nat) (c : List Int) (h : mayS cs s m = false) => crow_no (c := c) h
    have hR0 : Hid (∀ s c, crow cs s c 0 = c) := fun _ _ => rfl
    have hOn := Lib.hid fun (s j : Nat) (hs : s < N) (hj : j < cs.length) => (show bitOn s j < N by rw [hN] at hs ⊢; exact bitOn_lt hs hj)
    rw [← hN] at hR
    have hR2 : Hid (coR cs = (call9 cs N).getD p 0) := by rw [Hid, hR.out, hp]; rfl
    clear hg hes hR
    have hNh := Lib.hid hN
    clear hN
    generalize coR cs = R at *
    generalize coK cs = K at *
    generalize call9 cs = C at *
    generalize crow cs = CR at *
    generalize mayS cs = MS at *
    go_enter Try.func42, Try.ntmps42
    go_wp2_with (fail)
    refine H.out.mono ?_
    rintro e w1 ⟨An, cn, rfl, hpn, hb1⟩
    obtain ⟨g1, hg1⟩ : ∃ g1, g1 = w1.heap.size := ⟨_, rfl⟩
    have a1 := (Below.refl w1.heap.size w1).alloc (Nat.le_refl _) (.cells #[.slice A cs.length c, .slice An cs.length cn] 77)
    have hB1 := Lib.hid (hb1.trans (a1.mono hb1.size))
    have hP1 := Lib.hid (PB.new w1 (.slice A cs.length c) (.slice An cs.length cn))
    have hN1 := Lib.hid (hpn.below a1 (Nat.le_refl _))
    have hz1 : w1.heap.size < (w1.alloc (.cells #[.slice A cs.length c, .slice An cs.length cn] 77)).heap.size := by simp
    clear a1 hb1 hpn
    have hpN : Hid (N = p + 1) := hp
    clear hp
    have hO0 : Hid (OW ((w1.alloc (.cells #[.slice A cs.length c, .slice An cs.length cn] 77)).alloc (.cells (intCells (zeros N)) 3)) (g1 + 1) ((w1.alloc (.cells #[.slice A cs.length c, .slice An cs.length cn] 77)).alloc (.cells (intCells (zeros N)) 3)).heap.size (.slice (some ⟨g1 + 1, 0, none⟩) N N) (zeros N)) := by
      have h : IB ((w1.alloc (.cells #[.slice A cs.length c, .slice An cs.length cn] 77)).alloc (.cells (intCells (zeros N)) 3)) (w1.alloc (.cells #[.slice A cs.length c, .slice An cs.length cn] 77)).heap.size 3 (zeros N) := heap_alloc_new _ _
      have h2 := OW.ofIB (lo := g1 + 1) (hi := ((w1.alloc (.cells #[.slice A cs.length c, .slice An cs.length cn] 77)).alloc (.cells (intCells (zeros N)) 3)).heap.size) h (by simp [zeros]; omega) (by rw [World.size_alloc, hg1]; exact Nat.le_refl _) (by simp)
      have hz : (zeros N).length = N := by simp [zeros]
      have hsz : (w1.alloc (.cells #[.slice A cs.length c, .slice An cs.length cn] 77)).heap.size = g1 + 1 := by rw [World.size_alloc, hg1]
      rw [hz, hsz] at h2
      exact h2
    have hb2 := Lib.hid ((Below.refl (w1.alloc (.cells #[.slice A cs.length c, .slice An cs.length cn] 77)).heap.size (w1.alloc (.cells #[.slice A cs.length c, .slice An cs.length cn] 77))).alloc (Nat.le_refl _) (.cells (intCells (zeros N)) 3))
    go_upto_region 5 with fail
    rw [← hg1] at hP1 hN1 hz1 ⊢
    generalize hW1 : w1.alloc (.cells #[.slice A cs.length c, .slice An cs.length cn] 77) = W1 at *
    have hzz : W1.heap.size = g1 + 1 := by rw [← hW1, World.size_alloc, hg1]
    clear hW1 hmk
    generalize W1.alloc (.cells (intCells (zeros N)) 3) = W2 at *
    have hG1 := Lib.hid hg1
    have hZz := Lib.hid hzz
    clear hg1 hzz
    obtain ⟨z0, zf⟩ := OW.at9 hO0.out 0 (by simp [zeros]; omega)
    generalize (zeros N).getD 0 0 = y0 at *
    have hP3 := hO0.out.put9 0 1
    rw [← hC0.out] at hP3
    have hzs : (W2.setCell ⟨g1 + 1, 0, none⟩ (.int .i64 1)).heap.size = W2.heap.size := World.size_setCell _ _ _
    have hO3 := Lib.hid (show OW (W2.setCell ⟨g1 + 1, 0, none⟩ (.int .i64 1)) (g1 + 1) (W2.setCell ⟨g1 + 1, 0, none⟩ (.int .i64 1)).heap.size (.slice (some ⟨g1 + 1, 0, none⟩) N N) (C 0) from by rw [hzs]; exact hP3)
    have hb3 := Lib.hid (hb2.out.setCell (p := ⟨g1 + 1, 0, none⟩) (by rw [hZz.out]; exact Nat.le_refl _) (.int .i64 1))
    have hNi : (0 : Int) < (N : Int) := by omega
    clear hP3 hzs hb2 hO0
    go_wp2
    generalize W2.setCell ⟨g1 + 1, 0, none⟩ (.int .i64 1) = W3 at *
    clear z0 zf
    generalize g1 + 1 = gB at *
    go_loopw [30] (fun q wr => ∃ k : Nat, k ≤ N ∧ q = .int .i64 k ∧ OW wr gB wr.heap.size (.slice (some ⟨gB, 0, none⟩) N N) (C k) ∧ Below W1.heap.size W1 wr) (fun q _ => N - (intOf q).toNat)
    case atStart => exact ⟨0, Nat.zero_le _, rfl, hO3.out, hb3.out⟩
    case round =>
      clear hO3 hb3
      obtain ⟨k, hk, rfl, how, hbel⟩ := hrel
      have hO := Lib.hid how
      have hBL := Lib.hid hbel
      clear how hbel
      by_cases hlt : k < N
      · have hki : (k : Int) < (N : Int) := by omega
        have hk0 : (0 : Int) ≤ (k : Int) := by omega
        have hku : IntKind.u64.wrap (k : Int) = (k : Int) := u64_nat (by omega)
        go_wp2
        go_loopw [35] (fun q wq => ∃ m : Nat, m ≤ cs.length ∧ q = .int .i64 m ∧ OW wq gB wq.heap.size (.slice (some ⟨gB, 0, none⟩) N N) (CR k (C k) m) ∧ Below W1.heap.size W1 wq) (fun q _ => cs.length - (intOf q).toNat)
        case atStart => exact ⟨0, Nat.zero_le _, rfl, by rw [hR0.out]; exact hO.out, hBL.out⟩
        case round =>
          clear hO hBL
          obtain ⟨m, hm, rfl, how, hbel⟩ := hrel
          have hO := Lib.hid how
          have hBL := Lib.hid hbel
          clear how hbel
          by_cases hmt : m < cs.length
          · have hmi : (m : Int) < (cs.length : Int) := by omega
            have hm0 : (0 : Int) ≤ (m : Int) := by omega
            have hs20 : k < 1048576 := by omega
            have hPr := CB.below hP1.out hBL.out hz1
            have p0 := PB.c0 hPr
            have p1 := PB.c1 hPr
            have hCm := Lib.hid (hMc.out An cn w.heap.size g1 m k wr hmt hs20 (hN1.out.below hBL.out (Nat.le_of_lt hz1)) (Nat.le_trans (Nat.le_of_lt hz1) hBL.out.size))
            have hxl : (CR k (C k) m).length = N := by rw [hRl.out]; exact hCl.out k
            have hy := Lib.hid (hRy.out k m (C k))
            have hn := Lib.hid (hRn.out k m (C k))
            clear hPr
            generalize hTT : CR k (C k) (m + 1) = X1 at *
            have hTh := Lib.hid hTT
            clear hTT
            generalize CR k (C k) m = X at *
            cases hmay : MS k m
            · rw [hmay] at hCm
              have hX1 := Lib.hid (hn.out hmay)
              clear hmay hy hn
              go_wp2_with (fail)
              refine hCm.out.mono ?_
              rintro e w3 ⟨rfl, hb3⟩
              have hB3 := Lib.hid (hBL.out.trans (hb3.mono hBL.out.size))
              have hO3 := Lib.hid ((hO.out.below hb3 (Nat.le_refl _)).more hb3.size)
              clear hb3 p0 p1
              go_wp2
              go_roundw
              case rel => exact ⟨m + 1, by omega, by go_num, by rw [hTh.out, hX1.out]; exact hO3.out, hB3.out⟩
              case measure => simp [intOf]; omega
            · rw [hmay] at hCm
              have hX1 := Lib.hid (hy.out hmay)
              clear hmay hy hn
              go_wp2_with (fail)
              refine hCm.out.mono ?_
              rintro e w3 ⟨rfl, hb3⟩
              have hB3 := Lib.hid (hBL.out.trans (hb3.mono hBL.out.size))
              have hO3 := Lib.hid ((hO.out.below hb3 (Nat.le_refl _)).more hb3.size)
              clear hb3 p0 p1
              have hWi := Lib.hid fun (W : World) => with_any k m W hs20 (by omega)
              have hb9 := hOn.out k m hlt hmt
              have hb9i : ((bitOn k m : Nat) : Int) < (N : Int) := by omega
              have hb90 : (0 : Int) ≤ ((bitOn k m : Nat) : Int) := by omega
              have hWi2 : Hid (∀ W, Calls Try.prog 91 #[.int .u64 k, .int .i64 m] W fun e w' => e = .returned (.int .u64 ((bitOn k m : Nat) : Int)) ∧ W = w') := hWi.out
              clear hWi
              obtain ⟨o1, f1⟩ := OW.at9 hO3.out (bitOn k m) (by rw [hxl]; exact hb9)
              obtain ⟨o2, _⟩ := OW.at9 hO3.out k (by rw [hxl]; exact hlt)
              have hPut := hO3.out.put9 (bitOn k m) (wrap64 (X.getD (bitOn k m) 0 + X.getD k 0))
              rw [← hX1.out] at hPut
              generalize X.getD (bitOn k m) 0 = v1 at *
              generalize X.getD k 0 = v2 at *
              generalize bitOn k m = bb at *
              have hzs : (w3.setCell ⟨gB, bb, none⟩ (.int .i64 (wrap64 (v1 + v2)))).heap.size = w3.heap.size := World.size_setCell _ _ _
              have hO4 := Lib.hid (show OW (w3.setCell ⟨gB, bb, none⟩ (.int .i64 (wrap64 (v1 + v2)))).drew gB (w3.setCell ⟨gB, bb, none⟩ (.int .i64 (wrap64 (v1 + v2)))).drew.heap.size (.slice (some ⟨gB, 0, none⟩) N N) X1 from by
                show OW (w3.setCell ⟨gB, bb, none⟩ (.int .i64 (wrap64 (v1 + v2)))) gB (w3.setCell ⟨gB, bb, none⟩ (.int .i64 (wrap64 (v1 + v2)))).heap.size _ _
                rw [hzs]; exact hPut)
              have hB4 := Lib.hid ((hB3.out.setCell (p := ⟨gB, bb, none⟩) (by rw [hZz.out]; exact Nat.le_refl _) (.int .i64 (wrap64 (v1 + v2)))).drew)
              clear hPut hzs
              go_wp2_with (fail)
              go_region_law (go_simp; go_at_call 91; (with_reducible refine (hWi2.out _).mono ?_); rintro e w4 ⟨rfl, rfl⟩)
              all_goals
                go_wp2
                go_roundw
                case rel => exact ⟨m + 1, by omega, by go_num, by rw [hTh.out]; exact hO4.out, hB4.out⟩
                case measure => simp [intOf]; omega
          · obtain rfl : m = cs.length := by omega
            have hCk := Lib.hid (hCs.out k)
            go_wp2
            go_roundw
            case rel => exact ⟨k + 1, by omega, by go_num, by rw [hCk.out]; exact hO.out, hBL.out⟩
            case measure => simp [intOf]; omega
      · obtain rfl : k = N := by omega
        have hfin := Lib.hid (hB1.out.trans (hBL.out.mono hB1.out.size))
        obtain ⟨o1, _⟩ := OW.at9 hO.out p (by rw [hCl.out, hpN.out]; exact Nat.lt_succ_self _)
        rw [← hR2.out] at o1
        have hw9 : IntKind.i64.wrap ((k : Int) - 1) = (p : Int) := by have := hpN.out; rw [IntWalk.i64_in _ (by omega)]; omega
        have hp0 : (0 : Int) ≤ (p : Int) := by omega
        have hpk : (p : Int) < (k : Int) := by have := hpN.out; omega
        go_wp2
        go_ret2
        rw [hK.out]
        exact ⟨rfl, hfin.out⟩
  · have hK := Lib.hid (coK_no2 h12)
    have hR := Lib.hid (coR_no hK.out)
    have h12' : (12 : Int) < (cs.length : Int) := by omega
    clear hg hes h12
    generalize coR cs = R at *
    generalize coK cs = K at *
    go_enter Try.func42, Try.ntmps42
    go_wp2_with (fail)
    refine H.out.mono ?_
    rintro e w1 ⟨An, cn, rfl, hpn, hb1⟩
    have hB1 := Lib.hid (hb1.alloc hb1.size (.cells #[.slice A cs.length c, .slice An cs.length cn] 77))
    clear hb1 hpn
    go_wp2
    go_ret2
    rw [hR.out, hK.out]
    exact ⟨rfl, hB1.out⟩
end Go.Proofs.Ytpgdccfpegdcoaa

/- Chapter 9: the last order, plain. -/
namespace Go.Proofs.Ytpgdccfpegdcoaa
open Go.RowKit
set_option linter.unusedVariables false
set_option maxRecDepth 100000

/-- The greatest index below m that may come, and whether there is one. -/
def laI (cs : List In) (xs : List Int) : Nat → Int × Bool
  | 0 => (0, false)
  | m + 1 => if mayB cs xs m = true then ((m : Int), true) else laI cs xs m
theorem laI_yes {cs : List In} {xs : List Int} {m : Nat} (h : mayB cs xs m = true) : laI cs xs (m + 1) = ((m : Int), true) := by show (if mayB cs xs m = true then _ else _) = _; rw [if_pos h]
theorem laI_no {cs : List In} {xs : List Int} {m : Nat} (h : mayB cs xs m = false) : laI cs xs (m + 1) = laI cs xs m := by show (if mayB cs xs m = true then _ else _) = _; rw [h]; rfl
theorem laI_lt {cs : List In} {xs : List Int} : ∀ m, (laI cs xs m).2 = true → ∃ i : Nat, (laI cs xs m).1 = (i : Int) ∧ i < m ∧ mayB cs xs i = true
  | 0, h => by cases h
  | m + 1, h => by
    cases hm : mayB cs xs m
    · rw [laI_no hm] at h ⊢
      obtain ⟨i, h1, h2, h3⟩ := laI_lt m h
      exact ⟨i, h1, by omega, h3⟩
    · rw [laI_yes hm]; exact ⟨m, rfl, by omega, hm⟩
theorem laI_none {cs : List In} {xs : List Int} : ∀ m, (laI cs xs m).2 = false → (laI cs xs m).1 = 0 ∧ ∀ i, i < m → mayB cs xs i = false
  | 0, h => ⟨rfl, fun i hi => by omega⟩
  | m + 1, h => by
    cases hm : mayB cs xs m
    · rw [laI_no hm] at h ⊢
      have ih := laI_none m h
      refine ⟨ih.1, fun i hi => ?_⟩
      rcases Nat.lt_or_ge i m with h1 | h1
      · exact ih.2 i h1
      · obtain rfl : i = m := by omega
        exact hm
    · rw [laI_yes hm] at h; cases h
/-- The last order, as far as it has come. -/
def laL (cs : List In) : Nat → List Int
  | 0 => []
  | k + 1 => laL cs k ++ [(laI cs (laL cs k) cs.length).1]
theorem laL_len (cs : List In) : ∀ k, (laL cs k).length = k
  | 0 => rfl
  | k + 1 => by show (laL cs k ++ [_]).length = _; rw [List.length_append, laL_len cs k]; rfl
def cIn (xs : List Int) (n : Nat) : Nat := ((List.range n).filter fun (i : Nat) => hasI xs (i : Int)).length
theorem cIn_succ (xs : List Int) (n : Nat) : cIn xs (n + 1) = cIn xs n + (if hasI xs (n : Int) = true then 1 else 0) := by
  unfold cIn
  rw [List.range_succ, List.filter_append, List.length_append]
  congr 1
  cases h : hasI xs (n : Int) <;> simp [h]
theorem cIn_le (xs : List Int) (n : Nat) : cIn xs n ≤ n := by
  unfold cIn
  exact Nat.le_trans (List.length_filter_le _ _) (by simp)
theorem hasI_app (xs : List Int) (j n : Int) : hasI (xs ++ [j]) n = (hasI xs n || (j == n)) := by unfold hasI; rw [List.any_append]; simp
theorem cIn_app {xs : List Int} {j : Nat} (h : hasI xs (j : Int) = false) : ∀ n, cIn (xs ++ [(j : Int)]) n = cIn xs n + (if j < n then 1 else 0)
  | 0 => by simp [cIn]
  | n + 1 => by
    rw [cIn_succ, cIn_succ, cIn_app h n, hasI_app]
    by_cases e : j = n
    · subst e
      rw [h, if_neg (by omega : ¬ j < j), if_pos (by omega : j < j + 1)]
      simp
    · have e2 : ((j : Int) == (n : Int)) = false := by simp; omega
      rw [e2, Bool.or_false]
      by_cases h1 : j < n
      · rw [if_pos h1, if_pos (show j < n + 1 by omega)]; omega
      · rw [if_neg h1, if_neg (show ¬ j < n + 1 by omega)]; omega
theorem cIn_all {xs : List Int} : ∀ {n : Nat}, cIn xs n = n → ∀ i, i < n → hasI xs (i : Int) = true
  | 0, _, i, hi => by omega
  | n + 1, h, i, hi => by
    rw [cIn_succ] at h
    have hle := cIn_le xs n
    cases hn : hasI xs (n : Int)
    · rw [hn] at h; simp at h; omega
    · rw [hn] at h
      simp at h
      rcases Nat.lt_or_ge i n with h1 | h1
      · exact cIn_all h i h1
      · obtain rfl : i = n := by omega
        exact hn
theorem cIn_some {xs : List Int} : ∀ {n : Nat}, cIn xs n < n → ∃ i, i < n ∧ hasI xs (i : Int) = false ∧ ∀ q, q < i → hasI xs (q : Int) = true
  | 0, h => by omega
  | n + 1, h => by
    by_cases h1 : cIn xs n < n
    · obtain ⟨i, h2, h3, h4⟩ := cIn_some h1
      exact ⟨i, by omega, h3, h4⟩
    · have h2 := cIn_le xs n
      have h3 : cIn xs n = n := by omega
      rw [cIn_succ, h3] at h
      refine ⟨n, by omega, ?_, cIn_all h3⟩
      cases hn : hasI xs (n : Int)
      · rfl
      · rw [hn] at h; simp at h
/-- As long as not all have come, one may come. -/
theorem may_some {cs : List In} {xs : List Int} (h : cIn xs cs.length < cs.length) : (laI cs xs cs.length).2 = true := by
  obtain ⟨i, hi, h1, h2⟩ := cIn_some h
  have hm : mayB cs xs i = true := by
    unfold mayB ndIn
    rw [h1, Bool.and_eq_true, List.all_eq_true]
    refine ⟨fun d hd => ?_, rfl⟩
    obtain ⟨q, hq, _, _, rfl⟩ := mem_ndL hd
    exact h2 q hq
  cases hl : (laI cs xs cs.length).2
  · have := (laI_none cs.length hl).2 i hi
    rw [hm] at this; cases this
  · rfl
theorem may_none {cs : List In} {xs : List Int} (h : cIn xs cs.length = cs.length) : (laI cs xs cs.length).2 = false := by
  cases hl : (laI cs xs cs.length).2
  · rfl
  · obtain ⟨i, _, h2, h3⟩ := laI_lt cs.length hl
    have h4 := cIn_all h i h2
    unfold mayB at h3
    rw [h4] at h3; simp at h3
structure LaOk (cs : List In) (k : Nat) : Prop where
  rng : ∀ x ∈ laL cs k, 0 ≤ x ∧ x < cs.length
  cnt : cIn (laL cs k) cs.length = k
theorem laOk_zero (cs : List In) : LaOk cs 0 := by
  refine ⟨fun x hx => (by cases hx), ?_⟩
  show ((List.range cs.length).filter fun (i : Nat) => hasI [] (i : Int)).length = 0
  simp [hasI]
theorem laOk_succ {cs : List In} {k : Nat} (hk : k < cs.length) (h : LaOk cs k) : LaOk cs (k + 1) ∧ (laI cs (laL cs k) cs.length).2 = true ∧ ∃ i : Nat, (laI cs (laL cs k) cs.length).1 = (i : Int) ∧ i < cs.length := by
  have hf := may_some (cs := cs) (xs := laL cs k) (by rw [h.cnt]; exact hk)
  obtain ⟨i, h1, h2, h3⟩ := laI_lt cs.length hf
  have hni : hasI (laL cs k) (i : Int) = false := by
    unfold mayB at h3
    rw [Bool.and_eq_true] at h3
    simpa using h3.2
  refine ⟨⟨fun x hx => ?_, ?_⟩, hf, i, h1, h2⟩
  · rw [laL, h1] at hx
    rcases List.mem_append.1 hx with hx | hx
    · exact h.rng x hx
    · simp at hx; omega
  · rw [laL, h1, cIn_app hni, h.cnt, if_pos h2]
theorem laOk {cs : List In} : ∀ k, k ≤ cs.length → LaOk cs k
  | 0, _ => laOk_zero cs
  | k + 1, h => (laOk_succ (by omega) (laOk k (by omega))).1
def laR (cs : List In) : List Int := if orGood cs = true then laL cs cs.length else []
theorem laR_yes {cs : List In} (h : orGood cs = true) : laR cs = laL cs cs.length := by unfold laR; rw [if_pos h]
theorem laR_no {cs : List In} (h : orGood cs = false) : laR cs = [] := by unfold laR; rw [h]; rfl
theorem laR_len (cs : List In) : (laR cs).length ≤ 1048576 := by
  cases h : orGood cs
  · rw [laR_no h]; simp
  · rw [laR_yes h, laL_len]; have := (orGood_parts h).1; omega
end Go.Proofs.Ytpgdccfpegdcoaa

/- Chapter 9: LastOrder of the program. -/
namespace Go.Proofs.Ytpgdccfpegdcoaa
open Go.RowKit
set_option linter.unusedVariables false
set_option maxRecDepth 100000

/-- What the closures of LastOrder read: the plan, and what has come. -/
structure LaSt (A : Option Addr) (c : Nat) (cs : List In) (An : Option Addr) (cn L1 B1 g4 g7 : Nat) (xs : List Int) (W : World) : Prop where
  pb : PB W g4 (.slice A cs.length c) (.slice An cs.length cn)
  co : CB 81 W g7 [.int .u64 ((setOf xs : Nat) : Int)]
  pn : PN W L1 B1 An (nds cs)
  b1 : B1 ≤ W.heap.size
theorem LaSt.below {A : Option Addr} {c : Nat} {cs : List In} {An : Option Addr} {cn L1 B1 g4 g7 : Nat} {xs : List Int} {W W' : World} (h : LaSt A c cs An cn L1 B1 g4 g7 xs W) (hb : Below W.heap.size W W') : LaSt A c cs An cn L1 B1 g4 g7 xs W' :=
  ⟨CB.below h.pb hb (CB.lt h.pb), h.co.below hb h.co.lt, h.pn.below hb h.b1, Nat.le_trans h.b1 hb.size⟩
set_option maxHeartbeats 2000000 in
theorem laMay_any {A : Option Addr} {c : Nat} {cs : List In} {An : Option Addr} {cn L1 B1 g4 g7 : Nat} {xs : List Int} {W : World} (i : Nat) (h20 : cs.length ≤ 20) (hi : i < cs.length) (hxs : ∀ x ∈ xs, 0 ≤ x ∧ x < 20) (h : LaSt A c cs An cn L1 B1 g4 g7 xs W) :
    Calls Try.prog 94 #[.int .i64 i, .pointer (some ⟨g4, 0, none⟩), .pointer (some ⟨g7, 0, none⟩)] W fun e w' => e = .returned (.bool (mayB cs xs i)) ∧ Below W.heap.size W w' := by
  have H := Lib.hid (mayCome_any A cs.length c L1 B1 An cn cs i xs W h20 hi hxs h.pn h.b1)
  have p0 := PB.c0 h.pb
  have p1 := PB.c1 h.pb
  have c0 : W.cell? ⟨g7, 0, none⟩ = some (.int .u64 ((setOf xs : Nat) : Int)) := by rw [h.co.cell]; rfl
  clear h
  go_enter Try.func94, Try.ntmps94
  go_wp2_with (fail)
  refine H.out.mono ?_
  rintro e w3 ⟨rfl, hb3⟩
  have hB3 := Lib.hid hb3
  clear hb3 p0 p1 c0
  go_wp2
  go_ret
  exact ⟨rfl, hB3.out⟩
theorem laBet_any (i j : Int) (W : World) : Calls Try.prog 95 #[.int .i64 i, .int .i64 j] W fun e w' => e = .returned (.bool (decide (j < i))) ∧ W = w' := by
  go_enter Try.func95, Try.ntmps95
  go_wp2
  go_ret
  exact ⟨rfl, rfl⟩
set_option maxHeartbeats 4000000 in
theorem laChoose_any {A : Option Addr} {c : Nat} {cs : List In} {An : Option Addr} {cn L1 B1 g4 g7 : Nat} {xs : List Int} {w : World} (h20 : cs.length ≤ 20) (hxs : ∀ x ∈ xs, 0 ≤ x ∧ x < 20) (h : LaSt A c cs An cn L1 B1 g4 g7 xs w) :
    Calls Try.prog 96 #[.agg #[.func (.func 94) #[] #[.pointer (some ⟨g4, 0, none⟩), .pointer (some ⟨g7, 0, none⟩)], .func (.func 95) #[] #[]], .slice A cs.length c] w fun e w' => e = .returned (.tuple #[.int .i64 (laI cs xs cs.length).1, .bool (laI cs xs cs.length).2]) ∧ Below w.heap.size w w' := by
  have hbx := Lib.hid ((Below.refl w.heap.size w).alloc (Nat.le_refl _) (.cells #[.func (.func 94) #[] #[.pointer (some ⟨g4, 0, none⟩), .pointer (some ⟨g7, 0, none⟩)], .func (.func 95) #[] #[]] 88))
  have hC : Hid (CB 88 (w.alloc (.cells #[.func (.func 94) #[] #[.pointer (some ⟨g4, 0, none⟩), .pointer (some ⟨g7, 0, none⟩)], .func (.func 95) #[] #[]] 88)) w.heap.size [.func (.func 94) #[] #[.pointer (some ⟨g4, 0, none⟩), .pointer (some ⟨g7, 0, none⟩)], .func (.func 95) #[] #[]]) := heap_alloc_new w _
  have hS1 := Lib.hid (h.below hbx.out)
  have hM := Lib.hid fun (i : Nat) (W : World) (hi : i < cs.length) (h : LaSt A c cs An cn L1 B1 g4 g7 xs W) => laMay_any i h20 hi hxs h
  have hY := Lib.hid fun (m : Nat) (h : mayB cs xs m = true) => laI_yes h
  have hN := Lib.hid fun (m : Nat) (h : mayB cs xs m = false) => laI_no h
  have hLt := Lib.hid fun (m : Nat) (h : (laI cs xs m).2 = true) => laI_lt m h
  have h00 : Hid (laI cs xs 0 = (0, false)) := rfl
  clear h hxs
  generalize laI cs xs = F at *
  go_enter Try.func96, Try.ntmps96
  go_wp2
  obtain ⟨gc, hgc⟩ : ∃ gc, gc = w.heap.size := ⟨_, rfl⟩
  rw [← hgc] at hC ⊢
  clear hgc
  generalize w.alloc (.cells #[.func (.func 94) #[] #[.pointer (some ⟨g4, 0, none⟩), .pointer (some ⟨g7, 0, none⟩)], .func (.func 95) #[] #[]] 88) = W1 at *
  go_loopw [6, 7, 11] (fun u v q wr => ∃ k : Nat, k ≤ cs.length ∧ q = .int .i64 k ∧ u = .int .i64 (F k).1 ∧ v = .bool (F k).2 ∧ Below W1.heap.size W1 wr) (fun _ _ q _ => cs.length - (intOf q).toNat)
  case atStart => exact ⟨0, Nat.zero_le _, rfl, by rw [h00.out], by rw [h00.out], Below.refl _ _⟩
  case round =>
    obtain ⟨k, hk, rfl, rfl, rfl, hbel⟩ := hrel
    have hBL := Lib.hid hbel
    clear hbel
    by_cases hlt : k < cs.length
    · have hki : (k : Int) < (cs.length : Int) := by omega
      have hcb := hC.out.below hBL.out hC.out.lt
      have c0 := hcb.cell 0
      have c1 := hcb.cell 1
      simp only [List.getElem?_cons_zero, List.getElem?_cons_succ] at c0 c1
      have hCm := Lib.hid (hM.out k wr hlt (hS1.out.below hBL.out))
      have hy := Lib.hid (hY.out k)
      have hn := Lib.hid (hN.out k)
      have hl := hLt.out k
      clear hcb
      generalize hFF : F (k + 1) = f1 at *
      have hFh := Lib.hid hFF
      clear hFF
      generalize F k = f at *
      obtain ⟨bst, fnd⟩ := f
      dsimp only at *
      cases hmay : mayB cs xs k
      · rw [hmay] at hCm
        have hf1 := Lib.hid (hn.out hmay)
        clear hmay hy hn hl
        go_wp2_with (fail)
        refine hCm.out.mono ?_
        rintro e w3 ⟨rfl, hb3⟩
        have hB3 := Lib.hid (hBL.out.trans (hb3.mono hBL.out.size))
        clear hb3 c0 c1
        go_wp2
        go_roundw
        case rel => exact ⟨k + 1, by omega, by go_num, by rw [hFh.out, hf1.out], by rw [hFh.out, hf1.out], hB3.out⟩
        case measure => simp [intOf]; omega
      · rw [hmay] at hCm
        have hf1 := Lib.hid (hy.out hmay)
        clear hmay hy hn
        cases fnd
        · clear hl
          go_wp2_with (fail)
          refine hCm.out.mono ?_
          rintro e w3 ⟨rfl, hb3⟩
          have hB3 := Lib.hid (hBL.out.trans (hb3.mono hBL.out.size))
          clear hb3 c0 c1
          go_wp2
          go_roundw
          case rel => exact ⟨k + 1, by omega, by go_num, by rw [hFh.out, hf1.out], by rw [hFh.out, hf1.out], hB3.out⟩
          case measure => simp [intOf]; omega
        · obtain ⟨i, hi1, hi2, _⟩ := hl rfl
          have hBt := Lib.hid fun (W : World) => laBet_any (k : Int) bst W
          rw [decide_eq_true (show bst < (k : Int) by omega)] at hBt
          have hCC := Lib.hid fun (w3 : World) (hb3 : Below wr.heap.size wr w3) => (hC.out.below (hBL.out.trans (hb3.mono hBL.out.size)) hC.out.lt)
          clear hi1 hi2
          go_wp2_with (fail)
          refine hCm.out.mono ?_
          rintro e w3 ⟨rfl, hb3⟩
          have hB3 := Lib.hid (hBL.out.trans (hb3.mono hBL.out.size))
          have hcb3 := hCC.out w3 hb3
          have d0 := hcb3.cell 0
          have d1 := hcb3.cell 1
          simp only [List.getElem?_cons_zero, List.getElem?_cons_succ] at d0 d1
          clear hb3 c0 c1 hcb3
          go_wp2_with (fail)
          refine (hBt.out _).mono ?_
          rintro e w4 ⟨rfl, rfl⟩
          go_wp2
          go_roundw
          case rel => exact ⟨k + 1, by omega, by go_num, by rw [hFh.out, hf1.out], by rw [hFh.out, hf1.out], hB3.out⟩
          case measure => simp [intOf]; omega
    · obtain rfl : k = cs.length := by omega
      have hfin := Lib.hid (hbx.out.trans (hBL.out.mono hbx.out.size))
      go_wp2
      go_ret2
      exact ⟨rfl, hfin.out⟩
end Go.Proofs.Ytpgdccfpegdcoaa

/- Chapter 9: LastOrder of the program. -/
namespace Go.Proofs.Ytpgdccfpegdcoaa
open Go.RowKit
set_option linter.unusedVariables false
set_option maxRecDepth 100000

def lenS : Value → Nat
  | .slice _ n _ => n
  | _ => 0
theorem LaSt.put {A : Option Addr} {c : Nat} {cs : List In} {An : Option Addr} {cn L1 B1 g4 g7 : Nat} {xs : List Int} {W : World} (h : LaSt A c cs An cn L1 B1 g4 g7 xs W) (h47 : g4 < g7) (hB7 : B1 ≤ g7) (ys : List Int) : LaSt A c cs An cn L1 B1 g4 g7 ys (W.setCell ⟨g7, 0, none⟩ (.int .u64 ((setOf ys : Nat) : Int))) := by
  have hb : Below g7 W (W.setCell ⟨g7, 0, none⟩ (.int .u64 ((setOf ys : Nat) : Int))) := (Below.refl g7 W).setCell (p := ⟨g7, 0, none⟩) (Nat.le_refl _) _
  exact ⟨CB.below h.pb hb h47, h.co.set 0 _, h.pn.below hb hB7, by rw [World.size_setCell]; exact h.b1⟩
theorem LaSt.keep {A : Option Addr} {c : Nat} {cs : List In} {An : Option Addr} {cn L1 B1 g4 g7 C : Nat} {xs : List Int} {W W' : World} (h : LaSt A c cs An cn L1 B1 g4 g7 xs W) (hb : Below C W W') (h4 : g4 < C) (h7 : g7 < C) (hB : B1 ≤ C) : LaSt A c cs An cn L1 B1 g4 g7 xs W' :=
  ⟨CB.below h.pb hb h4, CB.below h.co hb h7, h.pn.below hb hB, Nat.le_trans h.b1 hb.size⟩
theorem CB.chg9 {t : TypeId} {w w' : World} {g lo hi : Nat} {cur : List Value} (h : CB t w g cur) (hc : Chg lo hi w w') (hd : g < lo ∨ hi ≤ g) : CB t w' g cur := (hc.block g h.lt hd).trans h
theorem setOf_app (xs : List Int) (x : Int) : setOf (xs ++ [x]) = setOf xs ||| (1 <<< x.toNat) := by
  unfold setOf; rw [List.foldl_append]; rfl
theorem laRng {cs : List In} {k : Nat} (h20 : cs.length ≤ 20) (hk : k ≤ cs.length) : ∀ x ∈ laL cs k, 0 ≤ x ∧ x < 20 := fun x hx => by
  have := (laOk k hk).rng x hx; omega
theorem laStep {cs : List In} {k : Nat} (h20 : cs.length ≤ 20) (hk : k < cs.length) : ∃ i : Nat, laI cs (laL cs k) cs.length = ((i : Int), true) ∧ i < cs.length ∧ laL cs (k + 1) = laL cs k ++ [(i : Int)] ∧ setOf (laL cs (k + 1)) = setOf (laL cs k) ||| (1 <<< i) ∧ setOf (laL cs k) < 1048576 := by
  obtain ⟨_, h2, i, h3, h4⟩ := laOk_succ hk (laOk k (by omega))
  have h5 : laL cs (k + 1) = laL cs k ++ [(i : Int)] := by rw [laL, h3]
  refine ⟨i, Prod.ext h3 h2, h4, h5, ?_, setOf_lt (laRng h20 (by omega))⟩
  rw [h5, setOf_app]; rfl
theorem laEnd (cs : List In) : (laI cs (laL cs cs.length) cs.length).2 = false := may_none (laOk cs.length (Nat.le_refl _)).cnt

set_option maxHeartbeats 8000000 in
theorem iLastOrder_k (L B : Nat) (A : Option Addr) (c : Nat) (cs : List In) (w : World) (hl : cs.length ≤ 1048576) (hes : RS In.enc 5 w L B A cs) (hB : B ≤ w.heap.size) (hcap : cs.length ≤ c) :
    Calls Try.prog 47 #[.slice A cs.length c] w (ResLastOrder (laR cs) (orGood cs) w) := by
  obtain ⟨i1, hi', hz0', hz1', hz2'⟩ := info_parts Try.infoInt
  have hI0 := Lib.hid hi'
  have hI1 := Lib.hid hz0'
  have hI2 := Lib.hid hz1'
  have hI3 := Lib.hid hz2'
  clear hi' hz0' hz1' hz2'
  cases hg : orGood cs
  · have H := Lib.hid (planOf_no L B A c cs w hg hl hes hB hcap)
    have hR := Lib.hid (laR_no hg)
    clear hg hes
    generalize laR cs = R at *
    go_enter Try.func47, Try.ntmps47
    go_wp2_with (fail)
    refine H.out.mono ?_
    rintro e w1 ⟨rfl, hb1⟩
    have hB1 := Lib.hid (hb1.alloc hb1.size (.cells #[.slice none 0 0, .slice none 0 0] 77))
    clear hb1
    go_wp2
    go_ret2
    rw [hR.out]
    exact ⟨none, 0, rfl, OW.nil _ _ _, hB1.out⟩
  have H := Lib.hid (planOf_yes L B A c cs w hg hl hes hB hcap)
  have hR := Lib.hid (laR_yes hg)
  have h20 := (orGood_parts hg).1
  obtain ⟨T, hT⟩ : ∃ T : Nat → Int × Bool, ∀ k, laI cs (laL cs k) cs.length = T k := ⟨fun k => laI cs (laL cs k) cs.length, fun _ => rfl⟩
  have hCh := Lib.hid fun (An : Option Addr) (cn L1 B1 g4 g7 k : Nat) (W : World) (hk : k ≤ cs.length) (h : LaSt A c cs An cn L1 B1 g4 g7 (laL cs k) W) => (by have h9 := laChoose_any h20 (laRng h20 hk) h; rw [hT k] at h9; exact h9 : Calls Try.prog 96 #[.agg #[.func (.func 94) #[] #[.pointer (some ⟨g4, 0, none⟩), .pointer (some ⟨g7, 0, none⟩)], .func (.func 95) #[] #[]], .slice A cs.length c] W fun e w' => e = .returned (.tuple #[.int .i64 (T k).1, .bool (T k).2]) ∧ Below W.heap.size W w')
  have hSu := Lib.hid fun (k : Nat) (hk : k < cs.length) => (by have h9 := laStep h20 hk; rw [hT k] at h9; exact h9 : ∃ i : Nat, T k = ((i : Int), true) ∧ i < cs.length ∧ laL cs (k + 1) = laL cs k ++ [(i : Int)] ∧ setOf (laL cs (k + 1)) = setOf (laL cs k) ||| (1 <<< i) ∧ setOf (laL cs k) < 1048576)
  have hEn : Hid ((T cs.length).2 = false) := by have h9 := laEnd cs; rw [hT] at h9; exact h9
  have hLe := Lib.hid (laL_len cs)
  have h00 : Hid (laL cs 0 = []) := rfl
  clear hg hes hT
  generalize laR cs = R at *
  generalize laL cs = X at *
  go_enter Try.func47, Try.ntmps47
  go_wp2_with (fail)
  refine H.out.mono ?_
  rintro e w1 ⟨An, cn, rfl, hpn, hb1⟩
  obtain ⟨g1, hg1⟩ : ∃ g1, g1 = w1.heap.size := ⟨_, rfl⟩
  have a1 := (Below.refl w1.heap.size w1).alloc (Nat.le_refl _) (.cells #[.slice A cs.length c, .slice An cs.length cn] 77)
  have hB1 := Lib.hid (hb1.trans (a1.mono hb1.size))
  have hP1 := Lib.hid (PB.new w1 (.slice A cs.length c) (.slice An cs.length cn))
  have hN1 := Lib.hid (hpn.below a1 (Nat.le_refl _))
  have hz1 : Hid ((w1.alloc (.cells #[.slice A cs.length c, .slice An cs.length cn] 77)).heap.size = g1 + 1) := by rw [Hid, World.size_alloc, hg1]
  clear a1 hb1 hpn
  go_upto_region 5 with fail
  rw [← hg1] at hP1 hN1 ⊢
  have hG1 := Lib.hid hg1
  clear hg1
  generalize w1.alloc (.cells #[.slice A cs.length c, .slice An cs.length cn] 77) = W1 at *
  have hC2 : Hid (CB 81 (W1.alloc (.cells #[.int .u64 0] 81)) W1.heap.size [.int .u64 0]) := heap_alloc_new W1 _
  have hb2 := Lib.hid ((Below.refl W1.heap.size W1).alloc (Nat.le_refl _) (.cells #[.int .u64 0] 81))
  have hz2 : Hid ((W1.alloc (.cells #[.int .u64 0] 81)).heap.size = g1 + 2) := by rw [Hid, World.size_alloc, hz1.out]
  go_upto_region 6 with fail
  generalize W1.alloc (.cells #[.int .u64 0] 81) = W2 at *
  rw [hz1.out] at hC2 hb2 ⊢
  have hC3 : Hid (CB 88 (W2.alloc (.cells #[.func (.func 94) #[] #[.pointer (some ⟨g1, 0, none⟩), .pointer (some ⟨g1 + 1, 0, none⟩)], .func (.func 95) #[] #[]] 88)) W2.heap.size [.func (.func 94) #[] #[.pointer (some ⟨g1, 0, none⟩), .pointer (some ⟨g1 + 1, 0, none⟩)], .func (.func 95) #[] #[]]) := heap_alloc_new W2 _
  have hb3 := Lib.hid ((Below.refl W2.heap.size W2).alloc (Nat.le_refl _) (.cells #[.func (.func 94) #[] #[.pointer (some ⟨g1, 0, none⟩), .pointer (some ⟨g1 + 1, 0, none⟩)], .func (.func 95) #[] #[]] 88))
  have hz3 : Hid ((W2.alloc (.cells #[.func (.func 94) #[] #[.pointer (some ⟨g1, 0, none⟩), .pointer (some ⟨g1 + 1, 0, none⟩)], .func (.func 95) #[] #[]] 88)).heap.size = g1 + 3) := by rw [Hid, World.size_alloc, hz2.out]
  go_upto_region 7 with fail
  generalize W2.alloc (.cells #[.func (.func 94) #[] #[.pointer (some ⟨g1, 0, none⟩), .pointer (some ⟨g1 + 1, 0, none⟩)], .func (.func 95) #[] #[]] 88) = W3 at *
  rw [hz2.out] at hC3 hb3 ⊢
  have hB3 := Lib.hid (hB1.out.trans ((hb2.out.trans (hb3.out.mono (show g1 + 1 ≤ g1 + 2 by omega))).mono (by rw [← hz1.out]; exact hB1.out.size)))
  have hw1 : Hid (w.heap.size ≤ g1 + 1) := by rw [← hz1.out]; exact hB1.out.size
  have hW01 := Lib.hid (hb2.out.trans (hb3.out.mono (show g1 + 1 ≤ g1 + 2 by omega)))
  have hL0 : Hid (LaSt A c cs An cn w.heap.size g1 g1 (g1 + 1) (X 0) W3) := by
    refine ⟨CB.below hP1.out hW01.out (by omega), ?_, hN1.out.below hW01.out (by omega), by rw [hz3.out]; omega⟩
    rw [h00.out]
    exact CB.below hC2.out hb3.out (by omega)
  clear hb2 hb3 hC2 hP1 hN1 hW01
  have hF0 := Lib.hid (hCh.out An cn w.heap.size g1 g1 (g1 + 1) 0 W3 (Nat.zero_le _) hL0.out)
  have c0 := CB.cell hC3.out 0
  have c1 := CB.cell hC3.out 1
  simp only [List.getElem?_cons_zero, List.getElem?_cons_succ] at c0 c1
  go_wp2_with (fail)
  refine hF0.out.mono ?_
  rintro e w3 ⟨rfl, hb3⟩
  have hB4 := Lib.hid (hB3.out.trans (hb3.mono hB3.out.size))
  have hL4 := Lib.hid (hL0.out.below hb3)
  have hz4 : Hid (g1 + 3 ≤ w3.heap.size) := by rw [Hid, ← hz3.out]; exact hb3.size
  have hC4 := Lib.hid (CB.below hC3.out hb3 (by rw [hz3.out]; omega))
  clear c0 c1 hb3 hF0 hL0 hB3 hC3
  go_wp2
  go_loopw [6, 9, 10] (fun u v q wr => ∃ k : Nat, k ≤ cs.length ∧ OW wr (g1 + 3) wr.heap.size u (X k) ∧ v = .int .i64 (T k).1 ∧ q = .bool (T k).2 ∧ LaSt A c cs An cn w.heap.size g1 g1 (g1 + 1) (X k) wr ∧ CB 88 wr (g1 + 2) [.func (.func 94) #[] #[.pointer (some ⟨g1, 0, none⟩), .pointer (some ⟨g1 + 1, 0, none⟩)], .func (.func 95) #[] #[]] ∧ Below w.heap.size w wr ∧ g1 + 3 ≤ wr.heap.size) (fun u _ _ _ => cs.length - lenS u)
  case atStart => exact ⟨0, Nat.zero_le _, by rw [h00.out]; exact OW.nil _ _ _, rfl, rfl, hL4.out, hC4.out, hB4.out, hz4.out⟩
  case round =>
    clear hL4 hC4 hB4 hz4
    obtain ⟨k, hk, how, rfl, rfl, hla, hch, hbel, hsz⟩ := hrel
    obtain ⟨V, cv, rfl, _⟩ := how.form
    have hO := Lib.hid how
    have hLA := Lib.hid hla
    have hCB := Lib.hid hch
    have hBL := Lib.hid hbel
    have hSz := Lib.hid hsz
    clear how hla hch hbel hsz
    rw [hLe.out] at hO ⊢
    by_cases hlt : k < cs.length
    · obtain ⟨i, hTi, hin, hX1, hS1, hS2⟩ := hSu.out k hlt
      rw [hTi]
      have hX := Lib.hid hX1
      have hS := Lib.hid hS1
      have hSl := Lib.hid hS2
      clear hTi hX1 hS1 hS2
      have ho2 := Lib.hid (hO.out.1.alloc (.cells #[.int .i64 i] 3))
      have ha := (Below.refl wr.heap.size wr).alloc (Nat.le_refl _) (.cells #[.int .i64 i] 3)
      have hb3 := Lib.hid (hBL.out.trans (ha.mono hBL.out.size))
      have hla3 := Lib.hid (hLA.out.below ha)
      have hch3 := Lib.hid (CB.below hCB.out ha (CB.lt hCB.out))
      have hlo := Lib.hid hO.out.lo
      have hxl := hLe.out k
      have hzw := hSz.out
      clear ha
      generalize X k = xs at *
      go_upto_region 11 with (at_builtin; go_loud (refine wpList_append_own _ rfl _ _ 38 rfl (g1 + 3) 3 i1 (.int .i64 0) 1 8 Try.underlying38 hI0.out hI1.out hI2.out hI3.out rfl (by decide) _ _ _ rfl ho2.out ⟨wr.heap.size, 0, none⟩ 1 1 [.int .i64 i] rfl rfl (new1 rfl) (one1 _) (by unfold maxLen; omega) (by omega) (by simp; omega) ?_); intro v' w4 hown4 hgr4 _)
      have R1 := Lib.hid (show OW w4 (g1 + 3) w4.heap.size v' (X (k + 1)) from by rw [hX.out]; exact OW.push (by simpa using hown4))
      have hbw := (Below.refl (g1 + 3) (wr.alloc (.cells #[.int .i64 i] 3))).grown hgr4 (by simp; omega) (fun k hk => (hlo.out k hk).1)
      have hla4 := Lib.hid (hla3.out.keep hbw (by omega) (by omega) (by omega))
      have hch4 := Lib.hid (CB.below hch3.out hbw (by omega))
      have hb4 := Lib.hid (hb3.out.trans (hbw.mono (show w.heap.size ≤ g1 + 3 by have := hw1.out; omega)))
      have hz4 := Lib.hid (Nat.le_trans hzw (Nat.le_trans (by simp) hbw.size) : g1 + 3 ≤ w4.heap.size)
      clear hown4 hgr4 hbw ho2 hb3 hla3 hch3 hlo hzw
      have x0 := CB.cell hla4.out.co 0
      have x1 := CB.frozen hla4.out.co 0
      simp only [List.getElem?_cons_zero] at x0
      have hWi := Lib.hid (with_any (setOf xs) i w4 hSl.out (by omega))
      rw [← hS.out] at hWi
      have hla5 := Lib.hid (hla4.out.put (by omega) (by omega) (X (k + 1)))
      have hc5 := (Chg.refl (g1 + 1) (g1 + 2) w4).setCell (p := ⟨g1 + 1, 0, none⟩) ⟨Nat.le_refl _, Nat.lt_succ_self _⟩ (.int .u64 ((setOf (X (k + 1)) : Nat) : Int))
      have hch5 := Lib.hid (hch4.out.chg9 hc5 (.inr (Nat.le_refl _)))
      have R5 := Lib.hid ((R1.out.chg hc5 (.inr (by omega))).more hc5.size)
      have hb5 := Lib.hid (below_chg hb4.out hc5 hb4.out.size hw1.out)
      have hz5 := Lib.hid (Nat.le_trans hz4.out hc5.size)
      clear hc5 hla4 hch4 hb4 hz4 R1
      generalize setOf (X (k + 1)) = s1 at *
      generalize setOf xs = s0 at *
      go_wp2_with (fail)
      refine hWi.out.mono ?_
      rintro e w5 ⟨rfl, rfl⟩
      go_upto_region 9 with fail
      obtain ⟨V5, cv5, rfl, _⟩ := R5.out.form
      have hl5 := hLe.out (k + 1)
      generalize w4.setCell ⟨g1 + 1, 0, none⟩ (.int .u64 s1) = W5 at *
      have hF5 := Lib.hid (hCh.out An cn w.heap.size g1 g1 (g1 + 1) (k + 1) W5 hlt hla5.out)
      have c0 := CB.cell hch5.out 0
      have c1 := CB.cell hch5.out 1
      simp only [List.getElem?_cons_zero, List.getElem?_cons_succ] at c0 c1
      clear x0 x1 hWi
      go_wp2_with (fail)
      refine hF5.out.mono ?_
      rintro e w6 ⟨rfl, hb6⟩
      have hla6 := Lib.hid (hla5.out.below hb6)
      have hch6 := Lib.hid (CB.below hch5.out hb6 (CB.lt hch5.out))
      have R6 := Lib.hid ((R5.out.below hb6 (Nat.le_refl _)).more hb6.size)
      have hb7 := Lib.hid (hb5.out.trans (hb6.mono hb5.out.size))
      have hz6 := Lib.hid (Nat.le_trans hz5.out hb6.size)
      clear c0 c1 hb6
      go_wp2
      go_roundw
      case rel => exact ⟨k + 1, hlt, (by have h9 := R6.out; rw [hl5] at h9; exact h9), rfl, rfl, hla6.out, hch6.out, hb7.out, hz6.out⟩
      case measure => simp only [lenS]; omega
    · obtain rfl : k = cs.length := by omega
      have hlow := Lib.hid (hO.out.lower (show w.heap.size ≤ g1 + 3 by have := hw1.out; omega))
      rw [hEn.out]
      go_wp2
      go_ret2
      rw [hR.out]
      exact ⟨V, cv, by rw [hLe.out]; rfl, by rw [hLe.out]; exact hlow.out, hBL.out⟩
end Go.Proofs.Ytpgdccfpegdcoaa

/- Chapter 9: LastOrder of the model. -/
namespace Go.Proofs.Ytpgdccfpegdcoaa
open Go.RowKit
set_option linter.unusedVariables false
set_option maxRecDepth 100000

/-- An index is ready as far as the first i needs tell. -/
def rdB (cs : List In) (xs : List Int) (j i : Nat) : Bool := !hasI xs j && ndIn cs xs j i
theorem rd_yes {cs : List In} {xs : List Int} {j i : Nat} (h : 0 ≤ dT cs i j) : rdB cs xs j (i + 1) = (rdB cs xs j i && hasI xs i) := by unfold rdB; rw [ndIn_yes h, Bool.and_assoc]
theorem rd_no {cs : List In} {xs : List Int} {j i : Nat} (h : ¬ 0 ≤ dT cs i j) : rdB cs xs j (i + 1) = rdB cs xs j i := by unfold rdB; rw [ndIn_no h]
theorem rd_off {cs : List In} {xs : List Int} {j i : Nat} (h : rdB cs xs j i = false) : rdB cs xs j (i + 1) = false := by
  by_cases h0 : 0 ≤ dT cs i j
  · rw [rd_yes h0, h]; rfl
  · rw [rd_no h0, h]
theorem rd_zero (cs : List In) (xs : List Int) (j : Nat) : rdB cs xs j 0 = !hasI xs j := by
  have h : ndIn cs xs j 0 = true := rfl
  unfold rdB; rw [h, Bool.and_true]
theorem rd_end (cs : List In) (xs : List Int) (j : Nat) : rdB cs xs j cs.length = mayB cs xs j := by unfold rdB mayB; rw [Bool.and_comm]

set_option maxHeartbeats 8000000 in
theorem sLastOrder_k (L B : Nat) (A : Option Addr) (c : Nat) (cs : List In) (w : World) (hl : cs.length ≤ 1048576) (hes : RS In.enc 5 w L B A cs) (hB : B ≤ w.heap.size) :
    Calls Try.prog 46 #[.slice A cs.length c] w (ResLastOrder (laR cs) (orGood cs) w) := by
  obtain ⟨i1, hi', hz0', hz1', hz2'⟩ := info_parts Try.infoInt
  have hI0 := Lib.hid hi'
  have hI1 := Lib.hid hz0'
  have hI2 := Lib.hid hz1'
  have hI3 := Lib.hid hz2'
  clear hi' hz0' hz1' hz2'
  have H := Lib.hid (orGood_any L B A c cs w hl hes hB)
  cases hg : orGood cs
  · have hR := Lib.hid (laR_no hg)
    rw [hg] at H
    clear hg hes
    generalize laR cs = R at *
    go_enter Try.func46, Try.ntmps46
    go_wp2_with (fail)
    refine H.out.mono ?_
    rintro e w1 ⟨rfl, hb1⟩
    have hB1 := Lib.hid hb1
    clear hb1
    go_wp2
    go_ret2
    rw [hR.out]
    exact ⟨none, 0, rfl, OW.nil _ _ _, hB1.out⟩
  have hR := Lib.hid (laR_yes hg)
  have hGp := orGood_parts hg
  have h20 := hGp.1
  have HD := Lib.hid fun (W : World) (hW : Below w.heap.size w W) => orDelays_any L B A c cs W hGp.1 hGp.2 (hes.below hW hB) (Nat.le_trans hB hW.size)
  have hRl := Lib.hid (dRows_len cs cs.length)
  have hRa := Lib.hid fun (i : Nat) (h : i < (dRows cs cs.length).length) => dRows_at cs cs.length h
  have hTl := Lib.hid (dTab_len cs)
  have hTa := Lib.hid fun (i j : Nat) (h : j < (dTab cs i cs.length).length) => dTab_at cs i cs.length h
  have hRy := Lib.hid fun (xs : List Int) (j i : Nat) (h : 0 ≤ dT cs i j) => rd_yes (xs := xs) h
  have hRn := Lib.hid fun (xs : List Int) (j i : Nat) (h : ¬ 0 ≤ dT cs i j) => rd_no (xs := xs) h
  have hRo := Lib.hid fun (xs : List Int) (j i : Nat) (h : rdB cs xs j i = false) => rd_off h
  have hRz := Lib.hid (rd_zero cs)
  have hRe := Lib.hid (rd_end cs)
  have hLy := Lib.hid fun (xs : List Int) (m : Nat) (h : mayB cs xs m = true) => laI_yes h
  have hLn := Lib.hid fun (xs : List Int) (m : Nat) (h : mayB cs xs m = false) => laI_no h
  have hL0 : Hid (∀ xs, laI cs xs 0 = (0, false)) := fun _ => rfl
  have hLe := Lib.hid (laL_len cs)
  have h00 : Hid (laL cs 0 = []) := rfl
  have hLs : Hid (∀ k, laL cs (k + 1) = laL cs k ++ [(laI cs (laL cs k) cs.length).1]) := fun _ => rfl
  rw [hg] at H
  clear hg hes hGp
  generalize laR cs = R at *
  generalize laL cs = X at *
  generalize dRows cs cs.length = TT at *
  generalize dTab cs = T at *
  generalize dT cs = E at *
  generalize rdB cs = RD at *
  generalize mayB cs = MB at *
  generalize laI cs = LI at *
  go_enter Try.func46, Try.ntmps46
  go_wp2_with (fail)
  refine H.out.mono ?_
  rintro e w1 ⟨rfl, hb1⟩
  have HD1 := HD.out w1 hb1
  have hB1 := Lib.hid hb1
  clear hb1
  go_wp2_with (fail)
  refine HD1.mono ?_
  rintro e w2 ⟨At, ct, rfl, hox, hb2⟩
  have hXT := Lib.hid (OX.rs hox)
  have hB2 := Lib.hid (hB1.out.trans (hb2.mono hB1.out.size))
  clear hox hb2 hB1
  rw [hRl.out]
  go_wp2
  go_loopw [5] (fun u wr => ∃ k : Nat, k ≤ cs.length ∧ OW wr w2.heap.size wr.heap.size u (X k) ∧ Below w2.heap.size w2 wr) (fun u _ => cs.length - lenS u)
  case atStart => exact ⟨0, Nat.zero_le _, by rw [h00.out]; exact OW.nil _ _ _, Below.refl _ _⟩
  case round =>
    obtain ⟨k, hk, how, hbel⟩ := hrel
    obtain ⟨V, cv, rfl, his⟩ := how.form
    have hO := Lib.hid how
    have hBL := Lib.hid hbel
    have hIs := Lib.hid his
    clear how hbel his
    rw [hLe.out] at hO ⊢
    by_cases hlt : k < cs.length
    · have hki : (k : Int) < (cs.length : Int) := by omega
      have hXw := Lib.hid (hXT.out.below hBL.out (Nat.le_refl _))
      have hHas := Lib.hid fun (n : Int) => l1Has_eq w2.heap.size wr.heap.size V k cv (X k) n wr (hLe.out k).symm (by rw [hLe.out]; omega) hIs.out
      have hS := Lib.hid (hLs.out k)
      have hxl := hLe.out k
      generalize hII : X (k + 1) = In1 at *
      have hIh := Lib.hid hII
      clear hII
      generalize X k = xs at *
      go_wp2
      go_loop [6, 22] (fun u q => ∃ m : Nat, m ≤ cs.length ∧ q = .int .i64 m ∧ u = .int .i64 (LI xs m).1) (fun _ q => cs.length - (intOf q).toNat)
      case atStart => exact ⟨0, Nat.zero_le _, rfl, by rw [hL0.out]⟩
      case round =>
        obtain ⟨m, hm, rfl, rfl⟩ := hrel
        by_cases hmt : m < cs.length
        · have hmi : (m : Int) < (cs.length : Int) := by omega
          have hm0 : (0 : Int) ≤ (m : Int) := by omega
          have hHm := Lib.hid (hHas.out (m : Int))
          have hz := hRz.out xs m
          have he := Lib.hid (hRe.out xs m)
          have hy := Lib.hid (hLy.out xs m)
          have hn := Lib.hid (hLn.out xs m)
          generalize hLI1 : LI xs (m + 1) = L1 at *
          have hLh := Lib.hid hLI1
          clear hLI1
          generalize LI xs m = L0 at *
          generalize hasI xs (m : Int) = hm9 at *
          have hZ := Lib.hid hz
          clear hz
          go_wp2_with (fail)
          refine hHm.out.mono ?_
          rintro e w3 ⟨rfl, rfl⟩
          go_wp2
          go_loop [8, 31] (fun u q => ∃ i : Nat, i ≤ cs.length ∧ q = .int .i64 i ∧ u = .bool (RD xs m i)) (fun _ q => cs.length - (intOf q).toNat)
          case atStart => exact ⟨0, Nat.zero_le _, rfl, by rw [hZ.out]⟩
          case round =>
            obtain ⟨i, hi, rfl, rfl⟩ := hrel
            by_cases hij : i < cs.length
            · have hii : (i : Int) < (cs.length : Int) := by omega
              have hi0 : (0 : Int) ≤ (i : Int) := by omega
              obtain ⟨xb, xo, Ai, ci, rfl, hxb, xc, hI⟩ := XS.at hXw.out (show i < TT.length by rw [hRl.out]; omega)
              rw [hRa.out i (by rw [hRl.out]; omega)] at xc hI
              rw [hTl.out] at xc
              obtain ⟨rb, ro, rfl, ⟨_, hrb⟩, hcc⟩ := hI (by rw [hTl.out]; omega)
              have rc := hcc m (by rw [hTl.out]; exact hmt)
              rw [hTa.out i m (by rw [hTl.out]; exact hmt)] at rc
              have hY := Lib.hid (hRy.out xs m i)
              have hN := Lib.hid (hRn.out xs m i)
              have hF := Lib.hid (hRo.out xs m i)
              have hHi := Lib.hid (hHas.out (i : Int))
              clear hcc hI
              generalize hn1 : RD xs m (i + 1) = n1 at *
              have hN1 := Lib.hid hn1
              clear hn1
              generalize E i m = dd at *
              generalize RD xs m i = r0 at *
              cases r0
              · have hF2 := Lib.hid (hF.out rfl)
                clear hY hN hF
                go_wp2
                go_round
                case rel => exact ⟨i + 1, by omega, by go_num, by rw [hN1.out, hF2.out]⟩
                case measure => simp [intOf]; omega
              · by_cases h0 : 0 ≤ dd
                · have hY2 := Lib.hid (hY.out h0)
                  have h0d : decide (dd < 0) = false := decide_eq_false (by omega)
                  clear hY hN hF
                  generalize hasI xs (i : Int) = hi9 at *
                  go_wp2_with (fail)
                  refine hHi.out.mono ?_
                  rintro e w3 ⟨rfl, rfl⟩
                  go_wp2
                  go_round
                  case rel => exact ⟨i + 1, by omega, by go_num, by rw [hN1.out, hY2.out]; rfl⟩
                  case measure => simp [intOf]; omega
                · have hN2 := Lib.hid (hN.out (by omega))
                  have h0d : decide (dd < 0) = true := decide_eq_true (by omega)
                  clear hY hN hF
                  go_wp2
                  go_round
                  case rel => exact ⟨i + 1, by omega, by go_num, by rw [hN1.out, hN2.out]⟩
                  case measure => simp [intOf]; omega
            · obtain rfl : i = cs.length := by omega
              rw [he.out]
              generalize MB xs m = mb at *
              cases mb
              · have h1 := Lib.hid (hn.out rfl)
                clear hn hy
                go_wp2
                go_round
                case rel => exact ⟨m + 1, by omega, by go_num, by rw [hLh.out, h1.out]⟩
                case measure => simp [intOf]; omega
              · have h1 := Lib.hid (hy.out rfl)
                clear hn hy
                go_wp2
                go_round
                case rel => exact ⟨m + 1, by omega, by go_num, by rw [hLh.out, h1.out]⟩
                case measure => simp [intOf]; omega
        · obtain rfl : m = cs.length := by omega
          generalize (LI xs cs.length).1 = nx at *
          have ho2 := Lib.hid (hO.out.1.alloc (.cells #[.int .i64 nx] 3))
          have hb3 := Lib.hid (hBL.out.alloc hBL.out.size (.cells #[.int .i64 nx] 3))
          have hlo := Lib.hid hO.out.lo
          have hzw := hBL.out.size
          go_wp2_with (at_builtin; go_loud (refine wpList_append_own _ rfl _ _ 38 rfl w2.heap.size 3 i1 (.int .i64 0) 1 8 Try.underlying38 hI0.out hI1.out hI2.out hI3.out rfl (by decide) _ _ _ rfl ho2.out ⟨wr.heap.size, 0, none⟩ 1 1 [.int .i64 nx] rfl rfl (new1 rfl) (one1 _) (by unfold maxLen; omega) (by omega) (by simp; omega) ?_); intro v' w4 hown4 hgr4 _)
          have R1 := Lib.hid (show OW w4 w2.heap.size w4.heap.size v' In1 from by rw [hS.out]; exact OW.push (by simpa using hown4))
          have R2 := Lib.hid (hb3.out.grown hgr4 hb3.out.size (fun k hk => (hlo.out k hk).1))
          have hl1 : In1.length = k + 1 := by rw [hS.out, List.length_append, hxl]; rfl
          obtain ⟨V5, cv5, rfl, _⟩ := R1.out.form
          clear hown4 hgr4
          go_wp2
          go_roundw
          case rel => exact ⟨k + 1, by omega, by rw [hIh.out]; first | exact R1.out | (have h9 := R1.out; rw [hl1] at h9; exact h9), R2.out⟩
          case measure => simp only [lenS]; omega
    · obtain rfl : k = cs.length := by omega
      have hO2 := Lib.hid (hO.out.lower hB2.out.size)
      have hB3 := Lib.hid (hB2.out.trans (hBL.out.mono hB2.out.size))
      go_wp2
      go_ret2
      rw [hR.out]
      exact ⟨V, cv, by rw [hLe.out]; rfl, by rw [hLe.out]; exact hO2.out, hB3.out⟩
end Go.Proofs.Ytpgdccfpegdcoaa

/- Arguments of the types []laws.Instr, laws.Instr and []int opened. -/
namespace Go.Proofs.Ytpgdccfpegdcoaa
open Go.ChangeShapes Go.WideShapes Go.ChangeAt Go.RowKit Go.Deep
open Go.ChangeMaps (open_string shut_string)
set_option linter.unusedVariables false

theorem cellsIn : Try.prog.cellsOf 59 = 5 := by kernel_rfl
theorem cellsStr : Try.prog.cellsOf 9 = 1 := by kernel_rfl
theorem cellsInt : Try.prog.cellsOf 3 = 1 := by kernel_rfl

set_option maxRecDepth 100000 in
theorem in_of_trod {H : Type} {enc : TypeId × Value → H} {w : World} {base : Nat} {spare : Nat → Bool} {held : Bool} {n : Nat} {cs : List Value} {x : DataW H × List MemPlace}
    (h : DataW.trod enc Try.prog w base spare held n 59 cs = some x) : ∃ nd : In, cs = nd.enc ∧ nd.op.size ≤ maxLen := by
  obtain ⟨xs, m, _, _, hlen, hxl, hf⟩ := DataW.trod_struct Try.underlying59 h
  rw [cellsIn] at hlen
  match cs, hlen with
  | [c0, c1, c2, c3, c4], _ =>
    match xs, hxl with
    | [y0, y1, y2, y3, y4], _ =>
      have h0 := hf 0 _ rfl
      change DataW.trod enc Try.prog w base spare held m 9 (([c0, c1, c2, c3, c4].drop 0).take (Try.prog.cellsOf 9)) = _ at h0
      rw [cellsStr] at h0
      have h1 := hf 1 _ rfl
      change DataW.trod enc Try.prog w base spare held m 3 (([c0, c1, c2, c3, c4].drop 1).take (Try.prog.cellsOf 3)) = _ at h1
      rw [cellsInt] at h1
      have h2 := hf 2 _ rfl
      change DataW.trod enc Try.prog w base spare held m 3 (([c0, c1, c2, c3, c4].drop 2).take (Try.prog.cellsOf 3)) = _ at h2
      rw [cellsInt] at h2
      have h3 := hf 3 _ rfl
      change DataW.trod enc Try.prog w base spare held m 3 (([c0, c1, c2, c3, c4].drop 3).take (Try.prog.cellsOf 3)) = _ at h3
      rw [cellsInt] at h3
      have h4 := hf 4 _ rfl
      change DataW.trod enc Try.prog w base spare held m 3 (([c0, c1, c2, c3, c4].drop 4).take (Try.prog.cellsOf 3)) = _ at h4
      rw [cellsInt] at h4
      obtain ⟨s, e0, _, hs⟩ := DataW.trod_string Try.underlying9 h0
      obtain ⟨d, e1, _, _⟩ := DataW.trod_int Try.underlying3 h1
      obtain ⟨a, e2, _, _⟩ := DataW.trod_int Try.underlying3 h2
      obtain ⟨b, e3, _, _⟩ := DataW.trod_int Try.underlying3 h3
      obtain ⟨m, e4, _, _⟩ := DataW.trod_int Try.underlying3 h4
      have e0 : c0 = .string s := by simpa using e0
      have e1 : c1 = .int .i64 d := by simpa using e1
      have e2 : c2 = .int .i64 a := by simpa using e2
      have e3 : c3 = .int .i64 b := by simpa using e3
      have e4 : c4 = .int .i64 m := by simpa using e4
      exact ⟨⟨s, d, a, b, m⟩, by rw [e0, e1, e2, e3, e4]; rfl, hs⟩

theorem cell_lt_heap {w : World} {a : Addr} {v : Value} (h : w.cell? a = some v) : a.block < w.heap.size := by
  rcases Nat.lt_or_ge a.block w.heap.size with hlt | hge
  · exact hlt
  · unfold World.cell? at h; rw [Array.getElem?_eq_none hge] at h; simp at h

set_option maxRecDepth 100000 in
theorem x_of_trod {H : Type} {enc : TypeId × Value → H} {w : World} {r : Reach} {b0 : Nat} {spare : Nat → Bool} {held : Bool} {v : Value} {d : DataW H} {p : List MemPlace}
    (hv : Value.okWide Try.prog w r b0 59 v) (h : DataW.Trod enc Try.prog w 0 spare held 59 v d p) :
    ∃ x : In, v = .agg #[.string x.op, .int .i64 x.d, .int .i64 x.a, .int .i64 x.b, .int .i64 x.m] ∧ x.op.size ≤ 9223372036854775807 := by
  obtain ⟨cs, rfl, hsz⟩ := okWide_struct Try.underlying59 hv
  obtain ⟨fuel, hf⟩ := h
  obtain ⟨x, hx, hs⟩ := in_of_trod hf
  refine ⟨x, ?_, by unfold maxLen at hs; omega⟩
  obtain ⟨l⟩ := cs
  have hx' : l = x.enc := by simpa [Value.cells] using hx
  subst hx'; rfl

set_option maxRecDepth 100000 in
theorem ins_of_trod {H : Type} {enc : TypeId × Value → H} {w : World} {spare : Nat → Bool} {held : Bool} {A : Option Addr} {len cap : Nat} {d : DataW H} {p : List MemPlace}
    (h : DataW.Trod enc Try.prog w 0 spare held 22 (.slice A len cap) d p) :
    ∃ es : List In, es.length = len ∧ RS In.enc 5 w 0 w.heap.size A es ∧ (∀ n ∈ es, n.op.size ≤ 9223372036854775807) ∧ len ≤ 9223372036854775807 := by
  obtain ⟨fuel, hf⟩ := h
  rcases open_slice Try.underlying22 hf with ⟨hcs, _⟩ | ⟨a, l, c, m, n, D, Pl, hcs, _, hl, hm, hmm, _, hi⟩
  · simp [Value.cells] at hcs
    obtain ⟨rfl, rfl, rfl⟩ := hcs
    exact ⟨[], rfl, fun h => absurd h (by simp), (fun n hn => by cases hn), by omega⟩
  · simp [Value.cells] at hcs
    obtain ⟨rfl, rfl, rfl⟩ := hcs
    have hlm : len ≤ m := by rw [hmm]; split <;> omega
    have hex : ∀ i, i < len → ∃ nd : In, (∀ j v, nd.enc[j]? = some v → w.cell? (a.add (i * 5 + j)) = some v) ∧ nd.op.size ≤ maxLen := by
      intro i hil
      obtain ⟨cs', hc, ht⟩ := hi i (by omega)
      rw [cellsIn] at hc
      obtain ⟨nd, rfl, hs⟩ := in_of_trod ht
      obtain ⟨_, _, hat⟩ := World.cells?_some hc
      refine ⟨nd, fun j v hv => ?_, hs⟩
      have hj : j < 5 := kflat_lt In.hk hv
      have := hat j hj
      rw [add_add, hv] at this; exact this
    obtain ⟨f, hf2⟩ := Classical.axiomOfChoice (fun i : {i // i < len} => hex i.1 i.2)
    have hget : ∀ i (h : i < (List.ofFn fun i : Fin len => f ⟨i.1, i.2⟩).length), (List.ofFn fun i : Fin len => f ⟨i.1, i.2⟩)[i] = f ⟨i, by simpa using h⟩ := fun i h => by simp
    refine ⟨List.ofFn fun i : Fin len => f ⟨i.1, i.2⟩, by simp, ?_, ?_, by unfold maxLen at hm; omega⟩
    · intro hpos
      have hpos' : 0 < len := by simpa using hpos
      have h0 := (hf2 ⟨0, hpos'⟩).1 0 _ rfl
      obtain ⟨b, o, spot⟩ := a
      have hspot : spot = none := by have := World.cell?_spot h0; simpa [Addr.add] using this
      subst hspot
      have hadd : ∀ k, (⟨b, o, none⟩ : Addr).add k = ⟨b, o + k, none⟩ := fun k => by simp [Addr.add]
      refine ⟨b, o, rfl, ⟨Nat.zero_le _, ?_⟩, fun i hi j v hv => ?_⟩
      · rw [hadd] at h0
        exact cell_lt_heap h0
      · have hi' : i < len := by simpa using hi
        rw [hget i hi] at hv
        have := (hf2 ⟨i, hi'⟩).1 j v hv
        simp only [hadd, ← Nat.add_assoc] at this
        exact this
    · intro n hn
      obtain ⟨i, rfl⟩ := List.mem_ofFn.1 hn
      have := (hf2 ⟨i.1, i.2⟩).2
      unfold maxLen at this; omega

set_option maxRecDepth 100000 in
theorem ints_of_trod {H : Type} {enc : TypeId × Value → H} {w : World} {spare : Nat → Bool} {held : Bool} {A : Option Addr} {len cap : Nat} {d : DataW H} {p : List MemPlace}
    (h : DataW.Trod enc Try.prog w 0 spare held 38 (.slice A len cap) d p) :
    ∃ xs : List Int, xs.length = len ∧ IS w 0 w.heap.size A xs ∧ len ≤ 9223372036854775807 := by
  obtain ⟨fuel, hf⟩ := h
  rcases open_slice Try.underlying38 hf with ⟨hcs, _⟩ | ⟨a, l, c, m, n, D, Pl, hcs, _, hl, hm, hmm, _, hi⟩
  · simp [Value.cells] at hcs
    obtain ⟨rfl, rfl, rfl⟩ := hcs
    exact ⟨[], rfl, fun h => absurd h (by simp), by omega⟩
  · simp [Value.cells] at hcs
    obtain ⟨rfl, rfl, rfl⟩ := hcs
    have hlm : len ≤ m := by rw [hmm]; split <;> omega
    have hex : ∀ i, i < len → ∃ x : Int, w.cell? (a.add i) = some (.int .i64 x) := by
      intro i hil
      obtain ⟨cs', hc, ht⟩ := hi i (by omega)
      rw [cellsInt, Nat.mul_one] at hc
      obtain ⟨x, hx, _, _⟩ := DataW.trod_int Try.underlying3 ht
      obtain ⟨_, _, hat⟩ := World.cells?_some hc
      have := hat 0 (by omega)
      rw [add_add, hx] at this
      exact ⟨x, by simpa using this⟩
    obtain ⟨f, hf2⟩ := Classical.axiomOfChoice (fun i : {i // i < len} => hex i.1 i.2)
    have hget : ∀ i (h : i < (List.ofFn fun i : Fin len => f ⟨i.1, i.2⟩).length), (List.ofFn fun i : Fin len => f ⟨i.1, i.2⟩)[i] = f ⟨i, by simpa using h⟩ := fun i h => by simp
    refine ⟨List.ofFn fun i : Fin len => f ⟨i.1, i.2⟩, by simp, ?_, by unfold maxLen at hm; omega⟩
    intro hpos
    have hpos' : 0 < len := by simpa using hpos
    have h0 := hf2 ⟨0, hpos'⟩
    obtain ⟨b, o, spot⟩ := a
    have hspot : spot = none := by have := World.cell?_spot h0; simpa [Addr.add] using this
    subst hspot
    have hadd : ∀ k, (⟨b, o, none⟩ : Addr).add k = ⟨b, o + k, none⟩ := fun k => by simp [Addr.add]
    refine ⟨b, o, rfl, ⟨Nat.zero_le _, ?_⟩, fun i hi => ?_⟩
    · rw [hadd] at h0
      exact cell_lt_heap h0
    · have hi' : i < len := by simpa using hi
      rw [hget i hi]
      have := hf2 ⟨i, hi'⟩
      simp only [hadd] at this
      exact this
end Go.Proofs.Ytpgdccfpegdcoaa
