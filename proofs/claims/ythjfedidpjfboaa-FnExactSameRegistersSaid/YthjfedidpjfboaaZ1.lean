/- Texts of this proof, one behind the other: VH, VI, VJ, VK, VL, OC. -/
import Derived.Test.YthjfedidpjfboaaZ2
import Derived.WalkKit
import Derived.WalkSpells
import Derived.WalkLawsBesides
import Derived.Deep.QuietTactic
import Derived.BigQuiet
import Derived.Deep.RegionHeld3
import Derived.Lib.Hide
import Derived.Test.YthjfedidpjfboaaZ12
import Derived.Test.YthjfedidpjfboaaZ7
import Derived.Test.YthjfedidpjfboaaLawVB
import Derived.Lib.LazyBuf
import Derived.Test.YthjfedidpjfboaaKMInstr
import Derived.ProofKit
import Derived.OpenShut
import Derived.ShutString
import Derived.ChangeOld
import Derived.Below
import Derived.Deep.Slices
import Derived.Deep.Fields
/- vaWitness of the model. -/
namespace Go.Proofs.Ythjfedidpjfboaa
open Go.RowKit
set_option linter.unusedVariables false
set_option maxRecDepth 100000

theorem ends_at {w : World} {L B k : Nat} {A : Option Addr} {es : List In} (h : XS w L B A (endsL es 4096)) (hB : B ≤ w.heap.size) (hk : k < 4096) (h6 : (endR es k).length = 6) :
    ∃ b o p q c, A = some ⟨b, o, none⟩ ∧ (∀ W, Below w.heap.size w W → W.cell? ⟨b, o + k, none⟩ = some (.slice (some ⟨p, q, none⟩) 6 c)) ∧ ∀ W, Below w.heap.size w W → ∀ n, n < 6 → W.cell? ⟨p, q + n, none⟩ = some (.int .i64 ((endR es k).getD n 0)) := by
  obtain ⟨b, o, Ai, ci, rfl, hb, hc, hI⟩ := h.at (i := k) (by rw [endsL_len]; exact hk)
  rw [endsL_at, h6] at hc
  rw [endsL_at] at hI
  obtain ⟨p, q, rfl, ⟨_, hp⟩, hs⟩ := hI.six h6
  exact ⟨b, o, p, q, ci, rfl, fun W hW => (hW.cell (p := ⟨b, o + k, none⟩) (by show b < w.heap.size; omega)).trans hc, fun W hW n hn => (hW.cell (p := ⟨p, q + n, none⟩) (by show p < w.heap.size; omega)).trans (hs n hn)⟩
def WitGot2 (w : World) (o : Option (Nat × Int)) (e : Ending) (w' : World) : Prop := ∃ A c, e = .returned (.tuple #[.slice A (wtL o).length c, .bool o.isSome]) ∧ OW w' w.heap.size w'.heap.size (.slice A (wtL o).length c) (wtL o) ∧ Below w.heap.size w w'

set_option maxHeartbeats 4000000 in
theorem vaWitness_any (ea eb : List In) (LA BA LB BB : Nat) (AA AB : Option Addr) (cA cB : Nat) (L B : Nat) (A : Option Addr) (c : Nat) (out : List Int) (w : World) (hl : out.length ≤ 1048576) (hin : ∀ r ∈ out, In6 r) (h6a : ∀ k, k < 4096 → (endR ea k).length = 6) (h6b : ∀ k, k < 4096 → (endR eb k).length = 6)
    (hA : XS w LA BA AA (endsL ea 4096)) (hBA : BA ≤ w.heap.size) (hBm : XS w LB BB AB (endsL eb 4096)) (hBB : BB ≤ w.heap.size) (hx : IS w L B A out) (hB : B ≤ w.heap.size) :
    Calls Try.prog 119 #[.slice AA 4096 cA, .slice AB 4096 cB, .slice A out.length c] w (WitGot2 w (wtS 4096 (endR ea) (endR eb) out)) := by
  have hXA := Lib.hid fun (k : Nat) (hk : k < 4096) => ends_at hA hBA hk (h6a k hk)
  have hXB := Lib.hid fun (k : Nat) (hk : k < 4096) => ends_at hBm hBB hk (h6b k hk)
  have hX := Lib.hid fun (W : World) (hW : Below w.heap.size w W) => hx.below hW hB
  have hI := Lib.hid hin
  generalize hRA : endR ea = RA at *
  generalize hRB : endR eb = RB at *
  clear hRA hRB
  have hNone : Hid ((∀ i, i < 4096 → wt2 (RA i) (RB i) out = none) → wtS 4096 RA RB out = none) := fun h => wtS_none h
  have hSome : Hid (∀ (k : Nat) (r : Int), k < 4096 → wt2 (RA k) (RB k) out = some r → (∀ i, i < k → wt2 (RA i) (RB i) out = none) → wtS 4096 RA RB out = some (k, r)) := fun k r h1 h2 h3 => wtS_some h1 h2 h3
  clear hA hBm hx hB hin hBA hBB h6a h6b
  generalize wtS 4096 RA RB out = O at *
  go_enter Try.func119, Try.ntmps119
  go_wp2
  go_loopw [14] (fun i wr => ∃ k : Nat, k ≤ 4096 ∧ i = .int .i64 k ∧ (∀ i, i < k → wt2 (RA i) (RB i) out = none) ∧ Below w.heap.size w wr) (fun i _ => 4096 - (intOf i).toNat)
  case atStart => exact ⟨0, by omega, rfl, fun i hi => by omega, Below.refl _ _⟩
  case round =>
    obtain ⟨k, hk, rfl, hno, hbel⟩ := hrel
    have hNo := Lib.hid hno
    have hBL := Lib.hid hbel
    clear hno
    by_cases hlt : k < 4096
    · have hki : (k : Int) < 4096 := by omega
      have hk0 : (0 : Int) ≤ (k : Int) := by omega
      obtain ⟨ab, ao, ap, aq, ac, rfl, xa, xan⟩ := hXA.out k hlt
      obtain ⟨bb, bo, bp, bq, bc, rfl, xb', xbn⟩ := hXB.out k hlt
      have hAn := Lib.hid xan
      have hBc := Lib.hid xb'
      have hBn := Lib.hid xbn
      have xa0 := xa wr hbel
      clear xa xan xb' xbn hbel
      obtain ⟨wo, hwo⟩ : ∃ wo : World, wo = wr := ⟨_, rfl⟩
      rw [← hwo] at hBL xa0 ⊢
      clear hwo
      go_wp2
      clear xa0
      go_loopw [21] (fun q wr => ∃ j : Nat, j ≤ out.length ∧ q = .int .i64 j ∧ (∀ i, i < j → (RA k).getD (out.getD i 0).toNat 0 = (RB k).getD (out.getD i 0).toNat 0) ∧ Below w.heap.size w wr) (fun q _ => out.length - (intOf q).toNat)
      case atStart => exact ⟨0, Nat.zero_le _, rfl, fun i hi => by omega, hBL.out⟩
      case round =>
        obtain ⟨j, hj, rfl, hnj, hbel⟩ := hrel
        have hNj := Lib.hid hnj
        have hBj := Lib.hid hbel
        clear hnj
        by_cases hlj : j < out.length
        · obtain ⟨xb, xo, rfl, _, hc⟩ := (hX.out _ hbel) (by omega)
          have y1 := hc j hlj
          have hri := hI.out out[j] (List.getElem_mem hlj)
          have hgd : Hid (out.getD j 0 = out[j]) := by rw [Hid, List.getD_eq_getElem?_getD, List.getElem?_eq_getElem hlj]; rfl
          have hW2 : Hid ((RA k).getD out[j].toNat 0 ≠ (RB k).getD out[j].toNat 0 → wt2 (RA k) (RB k) out = some out[j]) := fun h => wt2_some hlj h hNj.out
          generalize out[j] = r at *
          unfold In6 at hri
          obtain ⟨n, rfl⟩ := Int.eq_ofNat_of_zero_le hri.1
          rw [Int.toNat_natCast] at hW2
          have hn6 : n < 6 := by omega
          have hn6i : (n : Int) < 6 := by omega
          have hn0 : (0 : Int) ≤ (n : Int) := by omega
          have ca := hAn.out wr hbel n hn6
          have cb0 := hBc.out wr hbel
          have cb := hBn.out wr hbel n hn6
          have hSj : Hid ((RA k).getD n 0 = (RB k).getD n 0 → ∀ i, i < j + 1 → (RA k).getD (out.getD i 0).toNat 0 = (RB k).getD (out.getD i 0).toNat 0) := fun h i hi => by
            by_cases e : i = j
            · subst e; rw [hgd.out, Int.toNat_natCast]; exact h
            · exact hNj.out i (by omega)
          clear hc hbel hri
          generalize (RA k).getD n 0 = ya at *
          generalize (RB k).getD n 0 = yb at *
          by_cases hy : ya = yb
          · have hq : (ya != yb) = false := by simpa using hy
            have hS2 := Lib.hid (hSj.out hy)
            clear hy hW2
            go_wp2_with (fail)
            go_quiet (fail)
            all_goals go_wp2
            all_goals go_roundw
            case rel => exact ⟨j + 1, by omega, by go_num, hS2.out, below_drewN hBj.out _⟩
            case measure => simp [intOf]; omega
          · have hq : (ya != yb) = true := by simpa using hy
            have hO := Lib.hid (hSome.out k _ hlt (hW2.out hy) hNo.out)
            have h1 : wrap64 ((k : Int) / 64) = (k : Int) / 64 := by unfold wrap64; omega
            clear hy hW2 hSj
            go_wp2_with (fail)
            go_quiet (fail)
            all_goals
              have hBd := Lib.hid (below_drewN hBj.out nq)
              generalize wr.drewN nq = W6 at *
              have hnew : IB (W6.alloc (.cells #[.int .i64 ((k : Int) / 64), .int .i64 ((k : Int) % 64), .int .i64 (n : Int)] 3)) W6.heap.size 3 [(k : Int) / 64, (k : Int) % 64, (n : Int)] := heap_alloc_new W6 _
              have hOW := Lib.hid (OW.ofIB hnew (by simp) (Nat.le_trans hBd.out.size (Nat.le_refl _)) (by simp) : OW _ w.heap.size (W6.alloc (.cells #[.int .i64 ((k : Int) / 64), .int .i64 ((k : Int) % 64), .int .i64 (n : Int)] 3)).heap.size _ _)
              have hB8 := Lib.hid (hBd.out.alloc hBd.out.size (.cells #[.int .i64 ((k : Int) / 64), .int .i64 ((k : Int) % 64), .int .i64 (n : Int)] 3))
              clear hnew ca cb0 cb y1
              go_wp2
              go_ret2
              rw [hO.out]
              exact ⟨_, 3, rfl, hOW.out, hB8.out⟩
        · obtain rfl : j = out.length := by omega
          have hNk := Lib.hid (show ∀ i, i < k + 1 → wt2 (RA i) (RB i) out = none from fun i hi => by
            by_cases e : i = k
            · subst e; exact wt2_none hNj.out
            · exact hNo.out i (by omega))
          clear hbel
          go_wp2
          go_roundw
          case rel => exact ⟨k + 1, by omega, by go_num, hNk.out, hBj.out⟩
          case measure => simp [intOf]; omega
    · obtain rfl : k = 4096 := by omega
      have hO := Lib.hid (hNone.out hNo.out)
      clear hbel
      go_wp2
      go_ret2
      rw [hO.out]
      exact ⟨none, 0, rfl, OW.nil _ _ _, hBL.out⟩
end Go.Proofs.Ythjfedidpjfboaa

/- AreSameBlocks, BlockWitness: both as the law takes them. -/
namespace Go.Proofs.Ythjfedidpjfboaa
open Go.RowKit
set_option linter.unusedVariables false
set_option maxRecDepth 100000

def asOk (a b : List In) (out : List Int) : Bool := blkOk a && blkOk b && riseB out
def wO (a b : List In) (out : List Int) : Option (Nat × Int) := wtS 4096 (endR a) (endR b) out
def asB (a b : List In) (out : List Int) : Bool := asOk a b out && (wO a b out).isNone
def bwL (a b : List In) (out : List Int) : List Int := if asOk a b out = true then wtL (wO a b out) else []
def bwB (a b : List In) (out : List Int) : Bool := asOk a b out && (wO a b out).isSome
theorem bwL_len (a b : List In) (out : List Int) : (bwL a b out).length ≤ 1048576 := by
  unfold bwL; split
  · exact Nat.le_trans (wtL_len _) (by omega)
  · simp
theorem asOk_parts {a b : List In} {out : List Int} (h : asOk a b out = true) : okCode a = true ∧ okCode b = true ∧ ∀ r ∈ out, In6 r := by
  unfold asOk at h; rw [Bool.and_eq_true, Bool.and_eq_true] at h
  exact ⟨(blkOk_parts h.1.1).2, (blkOk_parts h.1.2).2, (rise_bits h.2).1⟩

set_option maxHeartbeats 2000000 in
theorem vaTask_any (L0 B0 : Nat) (A0 : Option Addr) (c0 : Nat) (a : List In) (L1 B1 : Nat) (A1 : Option Addr) (c1 : Nat) (b : List In) (L2 B2 : Nat) (A2 : Option Addr) (c2 : Nat) (out : List Int) (w : World)
    (hl0 : a.length ≤ 1048576) (h0 : RS In.enc 5 w L0 B0 A0 a) (hB0 : B0 ≤ w.heap.size) (hl1 : b.length ≤ 1048576) (h1 : RS In.enc 5 w L1 B1 A1 b) (hB1 : B1 ≤ w.heap.size) (hl2 : out.length ≤ 1048576) (h2 : IS w L2 B2 A2 out) (hB2 : B2 ≤ w.heap.size) :
    Calls Try.prog 118 #[.slice A0 a.length c0, .slice A1 b.length c1, .slice A2 out.length c2] w fun e w' => e = .returned (.bool (asOk a b out)) ∧ Below w.heap.size w w' := by
  have Ha := Lib.hid (vaGood_any L0 B0 A0 c0 a w hl0 h0 hB0)
  have Hb := Lib.hid fun (W : World) (hW : Below w.heap.size w W) => vaGood_any L1 B1 A1 c1 b W hl1 (h1.below hW hB1) (Nat.le_trans hB1 hW.size)
  have Hr := Lib.hid fun (W : World) (hW : Below w.heap.size w W) => cdWanted_any L2 B2 A2 c2 out W hl2 (h2.below hW hB2)
  have hk : Hid (asOk a b out = (blkOk a && blkOk b && riseB out)) := rfl
  clear h0 h1 h2
  generalize asOk a b out = r at *
  generalize blkOk a = qa at *
  generalize blkOk b = qb at *
  generalize riseB out = qr at *
  cases qa
  · go_enter Try.func118, Try.ntmps118
    go_wp2_with (fail)
    refine Ha.out.mono ?_
    rintro e w1 ⟨rfl, hb1⟩
    have hbh := Lib.hid hb1
    clear hb1
    go_wp2
    go_ret
    exact ⟨by rw [hk.out]; rfl, hbh.out⟩
  cases qb
  · go_enter Try.func118, Try.ntmps118
    go_wp2_with (fail)
    refine Ha.out.mono ?_
    rintro e w1 ⟨rfl, hb1⟩
    have hbh := Lib.hid hb1
    clear hb1
    go_wp2_with (fail)
    refine (Hb.out w1 hbh.out).mono ?_
    rintro e w2 ⟨rfl, hb2⟩
    have hbh2 := Lib.hid (hbh.out.trans (hb2.mono hbh.out.size))
    clear hb2
    go_wp2
    go_ret
    exact ⟨by rw [hk.out]; rfl, hbh2.out⟩
  go_enter Try.func118, Try.ntmps118
  go_wp2_with (fail)
  refine Ha.out.mono ?_
  rintro e w1 ⟨rfl, hb1⟩
  have hbh := Lib.hid hb1
  clear hb1
  go_wp2_with (fail)
  refine (Hb.out w1 hbh.out).mono ?_
  rintro e w2 ⟨rfl, hb2⟩
  have hbh2 := Lib.hid (hbh.out.trans (hb2.mono hbh.out.size))
  clear hb2
  go_wp2_with (fail)
  refine (Hr.out w2 hbh2.out).mono ?_
  rintro e w3 ⟨rfl, rfl⟩
  go_wp2
  go_ret
  exact ⟨by rw [hk.out]; rfl, hbh2.out⟩


set_option maxHeartbeats 4000000 in
theorem sAreSameBlocks_any (L0 B0 : Nat) (A0 : Option Addr) (c0 : Nat) (a : List In) (L1 B1 : Nat) (A1 : Option Addr) (c1 : Nat) (b : List In) (L2 B2 : Nat) (A2 : Option Addr) (c2 : Nat) (out : List Int) (w : World)
    (hl0 : a.length ≤ 1048576) (h0 : RS In.enc 5 w L0 B0 A0 a) (hB0 : B0 ≤ w.heap.size) (hl1 : b.length ≤ 1048576) (h1 : RS In.enc 5 w L1 B1 A1 b) (hB1 : B1 ≤ w.heap.size) (hl2 : out.length ≤ 1048576) (h2 : IS w L2 B2 A2 out) (hB2 : B2 ≤ w.heap.size) :
    Calls Try.prog 55 #[.slice A0 a.length c0, .slice A1 b.length c1, .slice A2 out.length c2] w (ResAreSameBlocks (asB a b out) (asOk a b out) w) := by
  have HT := Lib.hid (vaTask_any L0 B0 A0 c0 a L1 B1 A1 c1 b L2 B2 A2 c2 out w hl0 h0 hB0 hl1 h1 hB1 hl2 h2 hB2)
  have hk : Hid (asB a b out = (asOk a b out && (wO a b out).isNone)) := rfl
  have hP := Lib.hid fun (h : asOk a b out = true) => asOk_parts h
  have HA := Lib.hid fun (W : World) (hW : Below w.heap.size w W) (ho : okCode a = true) => vaEnds_any L0 B0 A0 c0 a W ho (h0.below hW hB0) (Nat.le_trans hB0 hW.size)
  have HB := Lib.hid fun (W : World) (hW : Below w.heap.size w W) (ho : okCode b = true) => vaEnds_any L1 B1 A1 c1 b W ho (h1.below hW hB1) (Nat.le_trans hB1 hW.size)
  have HX := Lib.hid fun (W : World) (hW : Below w.heap.size w W) => h2.below hW hB2
  have HW := Lib.hid fun (AA AB : Option Addr) (cA cB L L' X X' : Nat) (W : World) (hW : Below w.heap.size w W) (hin : ∀ r ∈ out, In6 r) (oa : okCode a = true) (ob : okCode b = true) (ha : XS W L X AA (endsL a 4096)) (hX : X ≤ W.heap.size) (hb : XS W L' X' AB (endsL b 4096)) (hX' : X' ≤ W.heap.size) => (show Calls Try.prog 119 #[.slice AA 4096 cA, .slice AB 4096 cB, .slice A2 out.length c2] W (WitGot2 W (wO a b out)) from vaWitness_any a b L X L' X' AA AB cA cB L2 B2 A2 c2 out W hl2 hin (fun k hk => (endR_words oa hk).1) (fun k hk => (endR_words ob hk).1) ha hX hb hX' (h2.below hW hB2) (Nat.le_trans hB2 hW.size))
  clear h0 h1 h2
  generalize asB a b out = R at *
  generalize wO a b out = O at *
  generalize asOk a b out = q at *
  cases q
  · go_enter Try.func55, Try.ntmps55
    go_wp2_with (fail)
    refine HT.out.mono ?_
    rintro e w1 ⟨rfl, hb1⟩
    have hbh := Lib.hid hb1
    clear hb1
    go_wp2
    go_ret2
    exact ⟨by rw [hk.out]; rfl, hbh.out⟩
  obtain ⟨oa, ob, hin⟩ := hP.out rfl
  have hOa := Lib.hid oa
  have hOb := Lib.hid ob
  have hIn := Lib.hid hin
  clear oa ob hin
  go_enter Try.func55, Try.ntmps55
  go_wp2_with (fail)
  refine HT.out.mono ?_
  rintro e w1 ⟨rfl, hb1⟩
  have b1 := Lib.hid hb1
  clear hb1
  go_wp2_with (fail)
  refine (HA.out w1 b1.out hOa.out).mono ?_
  rintro e w2 ⟨Ap, cp, rfl, hox, hb2⟩
  have X2 := Lib.hid hox
  have b2 := Lib.hid (b1.out.trans (hb2.mono b1.out.size))
  clear hox hb2
  go_wp2_with (fail)
  refine (HB.out w2 b2.out hOb.out).mono ?_
  rintro e w3 ⟨Aq, cq, rfl, hox, hb3⟩
  have X3 := Lib.hid hox
  have X2' := Lib.hid (X2.out.below hb3 (Nat.le_refl _))
  have b3 := Lib.hid (b2.out.trans (hb3.mono b2.out.size))
  have z3 := hb3.size
  clear hox hb3
  go_wp2_with (fail)
  refine (HW.out Ap Aq cp cq _ _ _ _ w3 b3.out hIn.out hOa.out hOb.out (OX.rs X2'.out) z3 (OX.rs X3.out) (Nat.le_refl _)).mono ?_
  rintro e w4 ⟨Ar, cr, rfl, ho, hb4⟩
  have b4 := Lib.hid (b3.out.trans (hb4.mono b3.out.size))
  clear ho hb4
  cases O
  · dsimp only [Option.isSome_none]
    go_wp2
    go_ret2
    exact ⟨by rw [hk.out]; rfl, b4.out⟩
  · dsimp only [Option.isSome_some]
    go_wp2
    go_ret2
    exact ⟨by rw [hk.out]; rfl, b4.out⟩

set_option maxHeartbeats 4000000 in
theorem sBlockWitness_any (L0 B0 : Nat) (A0 : Option Addr) (c0 : Nat) (a : List In) (L1 B1 : Nat) (A1 : Option Addr) (c1 : Nat) (b : List In) (L2 B2 : Nat) (A2 : Option Addr) (c2 : Nat) (out : List Int) (w : World)
    (hl0 : a.length ≤ 1048576) (h0 : RS In.enc 5 w L0 B0 A0 a) (hB0 : B0 ≤ w.heap.size) (hl1 : b.length ≤ 1048576) (h1 : RS In.enc 5 w L1 B1 A1 b) (hB1 : B1 ≤ w.heap.size) (hl2 : out.length ≤ 1048576) (h2 : IS w L2 B2 A2 out) (hB2 : B2 ≤ w.heap.size) :
    Calls Try.prog 61 #[.slice A0 a.length c0, .slice A1 b.length c1, .slice A2 out.length c2] w (ResBlockWitness (bwL a b out) (bwB a b out) w) := by
  have HT := Lib.hid (vaTask_any L0 B0 A0 c0 a L1 B1 A1 c1 b L2 B2 A2 c2 out w hl0 h0 hB0 hl1 h1 hB1 hl2 h2 hB2)
  have hk : Hid (bwL a b out = if asOk a b out = true then wtL (wO a b out) else []) := rfl
  have hk2 : Hid (bwB a b out = (asOk a b out && (wO a b out).isSome)) := rfl
  have hP := Lib.hid fun (h : asOk a b out = true) => asOk_parts h
  have HA := Lib.hid fun (W : World) (hW : Below w.heap.size w W) (ho : okCode a = true) => vaEnds_any L0 B0 A0 c0 a W ho (h0.below hW hB0) (Nat.le_trans hB0 hW.size)
  have HB := Lib.hid fun (W : World) (hW : Below w.heap.size w W) (ho : okCode b = true) => vaEnds_any L1 B1 A1 c1 b W ho (h1.below hW hB1) (Nat.le_trans hB1 hW.size)
  have HX := Lib.hid fun (W : World) (hW : Below w.heap.size w W) => h2.below hW hB2
  have HW := Lib.hid fun (AA AB : Option Addr) (cA cB L L' X X' : Nat) (W : World) (hW : Below w.heap.size w W) (hin : ∀ r ∈ out, In6 r) (oa : okCode a = true) (ob : okCode b = true) (ha : XS W L X AA (endsL a 4096)) (hX : X ≤ W.heap.size) (hb : XS W L' X' AB (endsL b 4096)) (hX' : X' ≤ W.heap.size) => (show Calls Try.prog 119 #[.slice AA 4096 cA, .slice AB 4096 cB, .slice A2 out.length c2] W (WitGot2 W (wO a b out)) from vaWitness_any a b L X L' X' AA AB cA cB L2 B2 A2 c2 out W hl2 hin (fun k hk => (endR_words oa hk).1) (fun k hk => (endR_words ob hk).1) ha hX hb hX' (h2.below hW hB2) (Nat.le_trans hB2 hW.size))
  clear h0 h1 h2
  generalize bwL a b out = R at *
  generalize bwB a b out = R2 at *
  generalize wO a b out = O at *
  generalize asOk a b out = q at *
  cases q
  · go_enter Try.func61, Try.ntmps61
    go_wp2_with (fail)
    refine HT.out.mono ?_
    rintro e w1 ⟨rfl, hb1⟩
    have hbh := Lib.hid hb1
    clear hb1
    go_wp2
    go_ret2
    rw [hk.out, hk2.out]
    exact ⟨none, 0, rfl, OW.nil _ _ _, hbh.out⟩
  obtain ⟨oa, ob, hin⟩ := hP.out rfl
  have hOa := Lib.hid oa
  have hOb := Lib.hid ob
  have hIn := Lib.hid hin
  clear oa ob hin
  go_enter Try.func61, Try.ntmps61
  go_wp2_with (fail)
  refine HT.out.mono ?_
  rintro e w1 ⟨rfl, hb1⟩
  have b1 := Lib.hid hb1
  clear hb1
  go_wp2_with (fail)
  refine (HA.out w1 b1.out hOa.out).mono ?_
  rintro e w2 ⟨Ap, cp, rfl, hox, hb2⟩
  have X2 := Lib.hid hox
  have b2 := Lib.hid (b1.out.trans (hb2.mono b1.out.size))
  clear hox hb2
  go_wp2_with (fail)
  refine (HB.out w2 b2.out hOb.out).mono ?_
  rintro e w3 ⟨Aq, cq, rfl, hox, hb3⟩
  have X3 := Lib.hid hox
  have X2' := Lib.hid (X2.out.below hb3 (Nat.le_refl _))
  have b3 := Lib.hid (b2.out.trans (hb3.mono b2.out.size))
  have z3 := hb3.size
  clear hox hb3
  go_wp2_with (fail)
  refine (HW.out Ap Aq cp cq _ _ _ _ w3 b3.out hIn.out hOa.out hOb.out (OX.rs X2'.out) z3 (OX.rs X3.out) (Nat.le_refl _)).mono ?_
  rintro e w4 ⟨Ar, cr, rfl, ho, hb4⟩
  have b4 := Lib.hid (b3.out.trans (hb4.mono b3.out.size))
  have O4 := Lib.hid ((ho.lower b3.out.size))
  clear ho hb4
  go_wp2
  go_ret2
  rw [hk.out, hk2.out]
  exact ⟨Ar, cr, rfl, O4.out, b4.out⟩

end Go.Proofs.Ythjfedidpjfboaa

/- AreSameBlocks, BlockWitness of the program. -/
namespace Go.Proofs.Ythjfedidpjfboaa
open Go.RowKit
set_option linter.unusedVariables false
set_option maxRecDepth 100000

set_option maxHeartbeats 4000000 in
theorem iAreSameBlocks_any (L0 B0 : Nat) (A0 : Option Addr) (c0 : Nat) (a : List In) (L1 B1 : Nat) (A1 : Option Addr) (c1 : Nat) (b : List In) (L2 B2 : Nat) (A2 : Option Addr) (c2 : Nat) (out : List Int) (w : World)
    (hl0 : a.length ≤ 1048576) (h0 : RS In.enc 5 w L0 B0 A0 a) (hB0 : B0 ≤ w.heap.size) (hl1 : b.length ≤ 1048576) (h1 : RS In.enc 5 w L1 B1 A1 b) (hB1 : B1 ≤ w.heap.size) (hl2 : out.length ≤ 1048576) (h2 : IS w L2 B2 A2 out) (hB2 : B2 ≤ w.heap.size) :
    Calls Try.prog 56 #[.slice A0 a.length c0, .slice A1 b.length c1, .slice A2 out.length c2] w (ResAreSameBlocks (asB a b out) (asOk a b out) w) := by
  have Ha := Lib.hid (isBlock_any L0 B0 A0 c0 a w hl0 h0 hB0)
  have Hb := Lib.hid fun (W : World) (hW : Below w.heap.size w W) => isBlock_any L1 B1 A1 c1 b W hl1 (h1.below hW hB1) (Nat.le_trans hB1 hW.size)
  have Hr := Lib.hid fun (W : World) (hW : Below w.heap.size w W) => areRegisters_any L2 B2 A2 c2 out W hl2 (h2.below hW hB2)
  have hq : Hid (asOk a b out = (blkOk a && blkOk b && riseB out)) := rfl
  have hk : Hid (asB a b out = (asOk a b out && (wO a b out).isNone)) := rfl
  have hP := Lib.hid fun (h : asOk a b out = true) => asOk_parts h
  have HA := Lib.hid fun (W : World) (hW : Below w.heap.size w W) (ho : okCode a = true) => machinesBehind_any L0 B0 A0 c0 a W ho (h0.below hW hB0) (Nat.le_trans hB0 hW.size)
  have HB := Lib.hid fun (W : World) (hW : Below w.heap.size w W) (ho : okCode b = true) => machinesBehind_any L1 B1 A1 c1 b W ho (h1.below hW hB1) (Nat.le_trans hB1 hW.size)
  have HW := Lib.hid fun (gA gB : Nat) (W : World) (hW : Below w.heap.size w W) (hin : ∀ r ∈ out, In6 r) (ha : MB W gA (endR a)) (hb : MB W gB (endR b)) => (show Calls Try.prog 121 #[.slice (some ⟨gA, 0, none⟩) 4096 4096, .slice (some ⟨gB, 0, none⟩) 4096 4096, .slice A2 out.length c2] W (WitGot W (wO a b out)) from witnessOf_any gA gB (endR a) (endR b) L2 B2 A2 c2 out W hl2 hin ha hb (h2.below hW hB2) (Nat.le_trans hB2 hW.size))
  clear h0 h1 h2
  generalize asB a b out = R at *
  generalize wO a b out = O at *
  generalize asOk a b out = q at *
  generalize blkOk a = qa at *
  generalize blkOk b = qb at *
  generalize riseB out = qr at *
  cases qa
  · obtain rfl : q = false := hq.out
    go_enter Try.func56, Try.ntmps56
    go_wp2_with (fail)
    refine Ha.out.mono ?_
    rintro e w1 ⟨rfl, hb1⟩
    have b1 := Lib.hid hb1
    clear hb1
    go_wp2
    go_ret2
    exact ⟨by rw [hk.out]; rfl, b1.out⟩
  cases qb
  · obtain rfl : q = false := hq.out
    go_enter Try.func56, Try.ntmps56
    go_wp2_with (fail)
    refine Ha.out.mono ?_
    rintro e w1 ⟨rfl, hb1⟩
    have b1 := Lib.hid hb1
    clear hb1
    go_wp2_with (fail)
    refine (Hb.out w1 b1.out).mono ?_
    rintro e w1b ⟨rfl, hb1⟩
    have b1b := Lib.hid (b1.out.trans (hb1.mono b1.out.size))
    clear hb1
    go_wp2
    go_ret2
    exact ⟨by rw [hk.out]; rfl, b1b.out⟩
  cases qr
  · obtain rfl : q = false := hq.out
    go_enter Try.func56, Try.ntmps56
    go_wp2_with (fail)
    refine Ha.out.mono ?_
    rintro e w1 ⟨rfl, hb1⟩
    have b1 := Lib.hid hb1
    clear hb1
    go_wp2_with (fail)
    refine (Hb.out w1 b1.out).mono ?_
    rintro e w1b ⟨rfl, hb1⟩
    have b1b := Lib.hid (b1.out.trans (hb1.mono b1.out.size))
    clear hb1
    go_wp2_with (fail)
    refine (Hr.out w1b b1b.out).mono ?_
    rintro e w1c ⟨rfl, rfl⟩
    go_wp2
    go_ret2
    exact ⟨by rw [hk.out]; rfl, b1b.out⟩
  obtain rfl : q = true := hq.out
  obtain ⟨oa, ob, hin⟩ := hP.out rfl
  have hOa := Lib.hid oa
  have hOb := Lib.hid ob
  have hIn := Lib.hid hin
  clear oa ob hin
  go_enter Try.func56, Try.ntmps56
  go_wp2_with (fail)
  refine Ha.out.mono ?_
  rintro e w1 ⟨rfl, hb1⟩
  have b1 := Lib.hid hb1
  clear hb1
  go_wp2_with (fail)
  refine (Hb.out w1 b1.out).mono ?_
  rintro e w1b ⟨rfl, hb1⟩
  have b1b := Lib.hid (b1.out.trans (hb1.mono b1.out.size))
  clear hb1
  go_wp2_with (fail)
  refine (Hr.out w1b b1b.out).mono ?_
  rintro e w1c ⟨rfl, rfl⟩
  go_wp2_with (fail)
  refine (HA.out w1b b1b.out hOa.out).mono ?_
  rintro e w2 ⟨gA, rfl, hgA, hmb, hb2⟩
  have X2 := Lib.hid hmb
  have zA := hmb.lt
  have b2 := Lib.hid (b1b.out.trans (hb2.mono b1b.out.size))
  clear hmb hb2
  go_wp2_with (fail)
  refine (HB.out w2 b2.out hOb.out).mono ?_
  rintro e w3 ⟨gB, rfl, hgB, hmb, hb3⟩
  have X3 := Lib.hid hmb
  have X2' := Lib.hid (IB.below X2.out hb3 zA)
  have b3 := Lib.hid (b2.out.trans (hb3.mono b2.out.size))
  clear hmb hb3
  go_wp2_with (fail)
  refine (HW.out gA gB w3 b3.out hIn.out X2'.out X3.out).mono ?_
  rintro e w4 ⟨Ar, cr, rfl, hno, ho, hb4⟩
  have b4 := Lib.hid (b3.out.trans (hb4.mono b3.out.size))
  have O4 := Lib.hid ((ho.lower b3.out.size))
  clear ho hb4
  have heq := Lib.run_eql_slice_nil (P := Try.prog) w4 32 3 Ar (wtL O).length cr 0 0 Try.underlying32
  rw [hno] at heq
  clear hno
  go_wp2
  go_ret2
  exact ⟨by rw [hk.out]; rfl, b4.out⟩

set_option maxHeartbeats 4000000 in
theorem iBlockWitness_any (L0 B0 : Nat) (A0 : Option Addr) (c0 : Nat) (a : List In) (L1 B1 : Nat) (A1 : Option Addr) (c1 : Nat) (b : List In) (L2 B2 : Nat) (A2 : Option Addr) (c2 : Nat) (out : List Int) (w : World)
    (hl0 : a.length ≤ 1048576) (h0 : RS In.enc 5 w L0 B0 A0 a) (hB0 : B0 ≤ w.heap.size) (hl1 : b.length ≤ 1048576) (h1 : RS In.enc 5 w L1 B1 A1 b) (hB1 : B1 ≤ w.heap.size) (hl2 : out.length ≤ 1048576) (h2 : IS w L2 B2 A2 out) (hB2 : B2 ≤ w.heap.size) :
    Calls Try.prog 62 #[.slice A0 a.length c0, .slice A1 b.length c1, .slice A2 out.length c2] w (ResBlockWitness (bwL a b out) (bwB a b out) w) := by
  have Ha := Lib.hid (isBlock_any L0 B0 A0 c0 a w hl0 h0 hB0)
  have Hb := Lib.hid fun (W : World) (hW : Below w.heap.size w W) => isBlock_any L1 B1 A1 c1 b W hl1 (h1.below hW hB1) (Nat.le_trans hB1 hW.size)
  have Hr := Lib.hid fun (W : World) (hW : Below w.heap.size w W) => areRegisters_any L2 B2 A2 c2 out W hl2 (h2.below hW hB2)
  have hq : Hid (asOk a b out = (blkOk a && blkOk b && riseB out)) := rfl
  have hk : Hid (bwL a b out = if asOk a b out = true then wtL (wO a b out) else []) := rfl
  have hk2 : Hid (bwB a b out = (asOk a b out && (wO a b out).isSome)) := rfl
  have hP := Lib.hid fun (h : asOk a b out = true) => asOk_parts h
  have HA := Lib.hid fun (W : World) (hW : Below w.heap.size w W) (ho : okCode a = true) => machinesBehind_any L0 B0 A0 c0 a W ho (h0.below hW hB0) (Nat.le_trans hB0 hW.size)
  have HB := Lib.hid fun (W : World) (hW : Below w.heap.size w W) (ho : okCode b = true) => machinesBehind_any L1 B1 A1 c1 b W ho (h1.below hW hB1) (Nat.le_trans hB1 hW.size)
  have HW := Lib.hid fun (gA gB : Nat) (W : World) (hW : Below w.heap.size w W) (hin : ∀ r ∈ out, In6 r) (ha : MB W gA (endR a)) (hb : MB W gB (endR b)) => (show Calls Try.prog 121 #[.slice (some ⟨gA, 0, none⟩) 4096 4096, .slice (some ⟨gB, 0, none⟩) 4096 4096, .slice A2 out.length c2] W (WitGot W (wO a b out)) from witnessOf_any gA gB (endR a) (endR b) L2 B2 A2 c2 out W hl2 hin ha hb (h2.below hW hB2) (Nat.le_trans hB2 hW.size))
  clear h0 h1 h2
  generalize bwL a b out = R at *
  generalize bwB a b out = R2 at *
  generalize wO a b out = O at *
  generalize asOk a b out = q at *
  generalize blkOk a = qa at *
  generalize blkOk b = qb at *
  generalize riseB out = qr at *
  cases qa
  · obtain rfl : q = false := hq.out
    go_enter Try.func62, Try.ntmps62
    go_wp2_with (fail)
    refine Ha.out.mono ?_
    rintro e w1 ⟨rfl, hb1⟩
    have b1 := Lib.hid hb1
    clear hb1
    go_wp2
    go_ret2
    rw [hk.out, hk2.out]
    exact ⟨none, 0, rfl, OW.nil _ _ _, b1.out⟩
  cases qb
  · obtain rfl : q = false := hq.out
    go_enter Try.func62, Try.ntmps62
    go_wp2_with (fail)
    refine Ha.out.mono ?_
    rintro e w1 ⟨rfl, hb1⟩
    have b1 := Lib.hid hb1
    clear hb1
    go_wp2_with (fail)
    refine (Hb.out w1 b1.out).mono ?_
    rintro e w1b ⟨rfl, hb1⟩
    have b1b := Lib.hid (b1.out.trans (hb1.mono b1.out.size))
    clear hb1
    go_wp2
    go_ret2
    rw [hk.out, hk2.out]
    exact ⟨none, 0, rfl, OW.nil _ _ _, b1b.out⟩
  cases qr
  · obtain rfl : q = false := hq.out
    go_enter Try.func62, Try.ntmps62
    go_wp2_with (fail)
    refine Ha.out.mono ?_
    rintro e w1 ⟨rfl, hb1⟩
    have b1 := Lib.hid hb1
    clear hb1
    go_wp2_with (fail)
    refine (Hb.out w1 b1.out).mono ?_
    rintro e w1b ⟨rfl, hb1⟩
    have b1b := Lib.hid (b1.out.trans (hb1.mono b1.out.size))
    clear hb1
    go_wp2_with (fail)
    refine (Hr.out w1b b1b.out).mono ?_
    rintro e w1c ⟨rfl, rfl⟩
    go_wp2
    go_ret2
    rw [hk.out, hk2.out]
    exact ⟨none, 0, rfl, OW.nil _ _ _, b1b.out⟩
  obtain rfl : q = true := hq.out
  obtain ⟨oa, ob, hin⟩ := hP.out rfl
  have hOa := Lib.hid oa
  have hOb := Lib.hid ob
  have hIn := Lib.hid hin
  clear oa ob hin
  go_enter Try.func62, Try.ntmps62
  go_wp2_with (fail)
  refine Ha.out.mono ?_
  rintro e w1 ⟨rfl, hb1⟩
  have b1 := Lib.hid hb1
  clear hb1
  go_wp2_with (fail)
  refine (Hb.out w1 b1.out).mono ?_
  rintro e w1b ⟨rfl, hb1⟩
  have b1b := Lib.hid (b1.out.trans (hb1.mono b1.out.size))
  clear hb1
  go_wp2_with (fail)
  refine (Hr.out w1b b1b.out).mono ?_
  rintro e w1c ⟨rfl, rfl⟩
  go_wp2_with (fail)
  refine (HA.out w1b b1b.out hOa.out).mono ?_
  rintro e w2 ⟨gA, rfl, hgA, hmb, hb2⟩
  have X2 := Lib.hid hmb
  have zA := hmb.lt
  have b2 := Lib.hid (b1b.out.trans (hb2.mono b1b.out.size))
  clear hmb hb2
  go_wp2_with (fail)
  refine (HB.out w2 b2.out hOb.out).mono ?_
  rintro e w3 ⟨gB, rfl, hgB, hmb, hb3⟩
  have X3 := Lib.hid hmb
  have X2' := Lib.hid (IB.below X2.out hb3 zA)
  have b3 := Lib.hid (b2.out.trans (hb3.mono b2.out.size))
  clear hmb hb3
  go_wp2_with (fail)
  refine (HW.out gA gB w3 b3.out hIn.out X2'.out X3.out).mono ?_
  rintro e w4 ⟨Ar, cr, rfl, hno, ho, hb4⟩
  have b4 := Lib.hid (b3.out.trans (hb4.mono b3.out.size))
  have O4 := Lib.hid ((ho.lower b3.out.size))
  clear ho hb4
  have heq := Go.run_neq_slice_nil (P := Try.prog) w4 32 3 Ar (wtL O).length cr Try.underlying32
  rw [hno] at heq
  clear hno
  go_wp2
  go_ret2
  rw [hk.out, hk2.out]
  exact ⟨Ar, cr, rfl, O4.out, b4.out⟩
end Go.Proofs.Ythjfedidpjfboaa

/- IsUntouched: both as the law takes them. -/
namespace Go.Proofs.Ythjfedidpjfboaa
open Go.RowKit
set_option linter.unusedVariables false
set_option maxRecDepth 100000

theorem riseB_one (r : Int) : riseB [r] = reg r := by simp [riseB, allIn, reg]
theorem asOk_one (a : List In) (r : Int) : asOk a [] [r] = (blkOk a && reg r) := by
  unfold asOk
  rw [riseB_one, show blkOk [] = true from rfl, Bool.and_true]
theorem nil_ok : okCode [] = true := rfl
theorem nil_rs (w : World) : RS In.enc 5 w 0 0 none [] := fun h => absurd h (by simp)

set_option maxHeartbeats 2000000 in
theorem iIsUntouched_any (L B : Nat) (A : Option Addr) (c : Nat) (a : List In) (r : Int) (w : World) (hl : a.length ≤ 1048576) (h : RS In.enc 5 w L B A a) (hB : B ≤ w.heap.size) :
    Calls Try.prog 58 #[.slice A a.length c, .int .i64 r] w (ResIsUntouched (asB a [] [r]) (asOk a [] [r]) w) := by
  have b1 := Lib.hid ((Below.refl w.heap.size w).alloc (Nat.le_refl _) (.cells #[.int .i64 r] 3))
  have hone : IB (w.alloc (.cells #[.int .i64 r] 3)) w.heap.size 3 [r] := heap_alloc_new w _
  have H := Lib.hid (iAreSameBlocks_any L B A c a 0 0 none 0 [] w.heap.size (w.heap.size + 1) (some ⟨w.heap.size, 0, none⟩) 1 [r] _ hl (h.below b1.out hB) (Nat.le_trans hB b1.out.size) (by simp) (nil_rs _) (Nat.zero_le _) (by simp) hone.toIS hone.lt)
  clear h hone
  generalize asB a [] [r] = R0 at *
  generalize asOk a [] [r] = R1 at *
  go_enter Try.func58, Try.ntmps58
  go_wp2_with (fail)
  refine H.out.mono ?_
  rintro e w2 ⟨rfl, hb2⟩
  have b2 := Lib.hid (b1.out.trans (hb2.mono b1.out.size))
  clear hb2
  go_wp2
  go_ret2
  exact ⟨rfl, b2.out⟩

set_option maxHeartbeats 4000000 in
theorem sIsUntouched_any (L B : Nat) (A : Option Addr) (c : Nat) (a : List In) (r : Int) (w : World) (hl : a.length ≤ 1048576) (h : RS In.enc 5 w L B A a) (hB : B ≤ w.heap.size) :
    Calls Try.prog 57 #[.slice A a.length c, .int .i64 r] w (ResIsUntouched (asB a [] [r]) (asOk a [] [r]) w) := by
  have Ha := Lib.hid (vaGood_any L B A c a w hl h hB)
  have Hr := Lib.hid (cdReg_any r)
  have hq := Lib.hid (asOk_one a r)
  have hk : Hid (asB a [] [r] = (asOk a [] [r] && (wO a [] [r]).isNone)) := rfl
  have hP := Lib.hid fun (h : asOk a [] [r] = true) => asOk_parts h
  have HA := Lib.hid fun (W : World) (hW : Below w.heap.size w W) (ho : okCode a = true) => vaEnds_any L B A c a W ho (h.below hW hB) (Nat.le_trans hB hW.size)
  have HB := Lib.hid fun (W : World) => vaEnds_any 0 0 none 0 [] W nil_ok (nil_rs _) (Nat.zero_le _)
  have HW := Lib.hid fun (AA AB : Option Addr) (cA cB L L' X X' g : Nat) (W : World) (hin : ∀ s ∈ [r], In6 s) (oa : okCode a = true) (ha : XS W L X AA (endsL a 4096)) (hX : X ≤ W.heap.size) (hb : XS W L' X' AB (endsL [] 4096)) (hX' : X' ≤ W.heap.size) (hg : IB W g 3 [r]) => (show Calls Try.prog 119 #[.slice AA 4096 cA, .slice AB 4096 cB, .slice (some ⟨g, 0, none⟩) 1 1] W (WitGot2 W (wO a [] [r])) from vaWitness_any a [] L X L' X' AA AB cA cB g (g + 1) (some ⟨g, 0, none⟩) 1 [r] W (by simp) hin (fun k hk => (endR_words oa hk).1) (fun k hk => (endR_words nil_ok hk).1) ha hX hb hX' hg.toIS hg.lt)
  clear h
  generalize asB a [] [r] = R at *
  generalize wO a [] [r] = O at *
  generalize asOk a [] [r] = q at *
  generalize blkOk a = qa at *
  generalize reg r = qr at *
  cases qa
  · obtain rfl : q = false := hq.out
    go_enter Try.func57, Try.ntmps57
    go_wp2_with (fail)
    refine Ha.out.mono ?_
    rintro e w1 ⟨rfl, hb1⟩
    have b1 := Lib.hid hb1
    clear hb1
    go_wp2
    go_ret2
    exact ⟨by rw [hk.out]; rfl, b1.out⟩
  cases qr
  · obtain rfl : q = false := hq.out
    go_enter Try.func57, Try.ntmps57
    go_wp2_with (fail)
    refine Ha.out.mono ?_
    rintro e w1 ⟨rfl, hb1⟩
    have b1 := Lib.hid hb1
    clear hb1
    go_wp2_with (fail)
    refine (Hr.out w1).mono ?_
    rintro e w1c ⟨rfl, rfl⟩
    go_wp2
    go_ret2
    exact ⟨by rw [hk.out]; rfl, b1.out⟩
  obtain rfl : q = true := hq.out
  obtain ⟨oa, -, hin⟩ := hP.out rfl
  have hOa := Lib.hid oa
  have hIn := Lib.hid hin
  clear oa hin
  go_enter Try.func57, Try.ntmps57
  go_wp2_with (fail)
  refine Ha.out.mono ?_
  rintro e w1 ⟨rfl, hb1⟩
  have b1 := Lib.hid hb1
  clear hb1
  go_wp2_with (fail)
  refine (Hr.out w1).mono ?_
  rintro e w1c ⟨rfl, rfl⟩
  go_wp2_with (fail)
  refine (HA.out w1 b1.out hOa.out).mono ?_
  rintro e w2 ⟨Ap, cp, rfl, hox, hb2⟩
  have X2 := Lib.hid hox
  have b2 := Lib.hid (b1.out.trans (hb2.mono b1.out.size))
  clear hox hb2
  go_wp2_with (fail)
  refine (HB.out w2).mono ?_
  rintro e w3 ⟨Aq, cq, rfl, hox, hb3⟩
  have X3 := Lib.hid hox
  have X2' := Lib.hid (X2.out.below hb3 (Nat.le_refl _))
  have b3 := Lib.hid (b2.out.trans (hb3.mono b2.out.size))
  have z3 := hb3.size
  clear hox hb3
  have al := Lib.hid ((Below.refl w3.heap.size w3).alloc (Nat.le_refl _) (.cells #[.int .i64 r] 3))
  have X4 := Lib.hid (X3.out.below al.out (Nat.le_refl _))
  have X4' := Lib.hid (X2'.out.below al.out z3)
  have b4 := Lib.hid (b3.out.trans (al.out.mono b3.out.size))
  have hone : IB (w3.alloc (.cells #[.int .i64 r] 3)) w3.heap.size 3 [r] := heap_alloc_new w3 _
  have H9 := Lib.hid (HW.out Ap Aq cp cq _ _ _ _ w3.heap.size _ hIn.out hOa.out (OX.rs X4'.out) (Nat.le_trans z3 al.out.size) (OX.rs X4.out) al.out.size hone)
  clear hone
  go_wp2_with (fail)
  refine H9.out.mono ?_
  rintro e w5 ⟨Ar, cr, rfl, ho, hb5⟩
  have b5 := Lib.hid (b4.out.trans (hb5.mono b4.out.size))
  clear ho hb5
  cases O
  · dsimp only [Option.isSome_none]
    go_wp2
    go_ret2
    exact ⟨by rw [hk.out]; rfl, b5.out⟩
  · dsimp only [Option.isSome_some]
    go_wp2
    go_ret2
    exact ⟨by rw [hk.out]; rfl, b5.out⟩
end Go.Proofs.Ythjfedidpjfboaa

/- SameRegisters: plain, and both as the law takes them. -/
namespace Go.Proofs.Ythjfedidpjfboaa
open Go.RowKit
set_option linter.unusedVariables false
set_option maxRecDepth 100000

def smL (a b : List In) (k : Nat) : List Int := ((List.range k).filter fun i : Nat => (wO a b [(i : Int)]).isNone).map fun i : Nat => (i : Int)
theorem smL_yes {a b : List In} {k : Nat} (h : (wO a b [(k : Int)]).isNone = true) : smL a b (k + 1) = smL a b k ++ [(k : Int)] := by
  unfold smL; rw [List.range_succ, List.filter_append, List.map_append]; simp [h]
theorem smL_no {a b : List In} {k : Nat} (h : (wO a b [(k : Int)]).isNone = false) : smL a b (k + 1) = smL a b k := by
  unfold smL; rw [List.range_succ, List.filter_append, List.map_append]; simp [h]
theorem smL_len (a b : List In) (k : Nat) : (smL a b k).length ≤ k := by
  unfold smL; rw [List.length_map]; exact Nat.le_trans (List.length_filter_le _ _) (by simp)
def smB (a b : List In) : Bool := blkOk a && blkOk b
def smR (a b : List In) : List Int := if smB a b = true then smL a b 6 else []
theorem smR_len (a b : List In) : (smR a b).length ≤ 1048576 := by
  unfold smR; split
  · have := smL_len a b 6; omega
  · simp
theorem smB_parts {a b : List In} (h : smB a b = true) : okCode a = true ∧ okCode b = true := by
  unfold smB at h; rw [Bool.and_eq_true] at h
  exact ⟨(blkOk_parts h.1).2, (blkOk_parts h.2).2⟩
theorem in6_one {k : Nat} (h : k < 6) : ∀ s ∈ [(k : Int)], In6 s := by
  intro s hs; rw [List.mem_singleton] at hs; subst hs; unfold In6; omega

set_option maxHeartbeats 8000000 in
theorem sSameRegisters_any (L0 B0 : Nat) (A0 : Option Addr) (c0 : Nat) (a : List In) (L1 B1 : Nat) (A1 : Option Addr) (c1 : Nat) (b : List In) (w : World)
    (hl0 : a.length ≤ 1048576) (h0 : RS In.enc 5 w L0 B0 A0 a) (hB0 : B0 ≤ w.heap.size) (hl1 : b.length ≤ 1048576) (h1 : RS In.enc 5 w L1 B1 A1 b) (hB1 : B1 ≤ w.heap.size) :
    Calls Try.prog 59 #[.slice A0 a.length c0, .slice A1 b.length c1] w (ResSameRegisters (smR a b) (smB a b) w) := by
  obtain ⟨i0, hi, hz0, hz1, hz2⟩ := info_parts Try.infoInt
  have hI := Lib.hid hi
  have hZ0 := Lib.hid hz0
  have hZ1 := Lib.hid hz1
  have hZ2 := Lib.hid hz2
  clear hi hz0 hz1 hz2
  have Ha := Lib.hid (vaGood_any L0 B0 A0 c0 a w hl0 h0 hB0)
  have Hb := Lib.hid fun (W : World) (hW : Below w.heap.size w W) => vaGood_any L1 B1 A1 c1 b W hl1 (h1.below hW hB1) (Nat.le_trans hB1 hW.size)
  have hq : Hid (smB a b = (blkOk a && blkOk b)) := rfl
  have hk : Hid (smR a b = if smB a b = true then smL a b 6 else []) := rfl
  have hP := Lib.hid fun (h : smB a b = true) => smB_parts h
  have hF0 : Hid (smL a b 0 = []) := rfl
  have hFy := Lib.hid fun (k : Nat) (h : (wO a b [(k : Int)]).isNone = true) => smL_yes h
  have hFn := Lib.hid fun (k : Nat) (h : (wO a b [(k : Int)]).isNone = false) => smL_no h
  have hFl := Lib.hid (smL_len a b)
  have HA := Lib.hid fun (W : World) (hW : Below w.heap.size w W) (ho : okCode a = true) => vaEnds_any L0 B0 A0 c0 a W ho (h0.below hW hB0) (Nat.le_trans hB0 hW.size)
  have HB := Lib.hid fun (W : World) (hW : Below w.heap.size w W) (ho : okCode b = true) => vaEnds_any L1 B1 A1 c1 b W ho (h1.below hW hB1) (Nat.le_trans hB1 hW.size)
  have HW := Lib.hid fun (k : Nat) (hk : k < 6) (AA AB : Option Addr) (cA cB L L' X X' g : Nat) (W : World) (oa : okCode a = true) (ob : okCode b = true) (ha : XS W L X AA (endsL a 4096)) (hX : X ≤ W.heap.size) (hb : XS W L' X' AB (endsL b 4096)) (hX' : X' ≤ W.heap.size) (hg : IB W g 3 [(k : Int)]) => (show Calls Try.prog 119 #[.slice AA 4096 cA, .slice AB 4096 cB, .slice (some ⟨g, 0, none⟩) 1 1] W (WitGot2 W (wO a b [(k : Int)])) from vaWitness_any a b L X L' X' AA AB cA cB g (g + 1) (some ⟨g, 0, none⟩) 1 [(k : Int)] W (by simp) (in6_one hk) (fun k hk => (endR_words oa hk).1) (fun k hk => (endR_words ob hk).1) ha hX hb hX' hg.toIS hg.lt)
  clear h0 h1
  generalize smR a b = R at *
  generalize smB a b = q at *
  generalize smL a b = F at *
  generalize blkOk a = qa at *
  generalize blkOk b = qb at *
  cases qa
  · obtain rfl : q = false := hq.out
    go_enter Try.func59, Try.ntmps59
    go_wp2_with (fail)
    refine Ha.out.mono ?_
    rintro e w1 ⟨rfl, hb1⟩
    have b1 := Lib.hid hb1
    clear hb1
    go_wp2
    go_ret2
    rw [hk.out]
    exact ⟨none, 0, rfl, OW.nil _ _ _, b1.out⟩
  cases qb
  · obtain rfl : q = false := hq.out
    go_enter Try.func59, Try.ntmps59
    go_wp2_with (fail)
    refine Ha.out.mono ?_
    rintro e w1 ⟨rfl, hb1⟩
    have b1 := Lib.hid hb1
    clear hb1
    go_wp2_with (fail)
    refine (Hb.out w1 b1.out).mono ?_
    rintro e w1b ⟨rfl, hb1⟩
    have b1b := Lib.hid (b1.out.trans (hb1.mono b1.out.size))
    clear hb1
    go_wp2
    go_ret2
    rw [hk.out]
    exact ⟨none, 0, rfl, OW.nil _ _ _, b1b.out⟩
  obtain rfl : q = true := hq.out
  obtain ⟨oa, ob⟩ := hP.out rfl
  have hOa := Lib.hid oa
  have hOb := Lib.hid ob
  clear oa ob
  go_enter Try.func59, Try.ntmps59
  go_wp2_with (fail)
  refine Ha.out.mono ?_
  rintro e w1 ⟨rfl, hb1⟩
  have b1 := Lib.hid hb1
  clear hb1
  go_wp2_with (fail)
  refine (Hb.out w1 b1.out).mono ?_
  rintro e w1b ⟨rfl, hb1⟩
  have b1b := Lib.hid (b1.out.trans (hb1.mono b1.out.size))
  clear hb1
  go_wp2_with (fail)
  refine (HA.out w1b b1b.out hOa.out).mono ?_
  rintro e w2 ⟨Ap, cp, rfl, hox, hb2⟩
  have X2 := Lib.hid hox
  have b2 := Lib.hid (b1b.out.trans (hb2.mono b1b.out.size))
  clear hox hb2
  go_wp2_with (fail)
  refine (HB.out w2 b2.out hOb.out).mono ?_
  rintro e w3 ⟨Aq, cq, rfl, hox, hb3⟩
  have X3 := Lib.hid hox
  have X2' := Lib.hid (X2.out.below hb3 (Nat.le_refl _))
  have b3 := Lib.hid (b2.out.trans (hb3.mono b2.out.size))
  have z3 := hb3.size
  clear hox hb3
  have HK := Lib.hid fun (k : Nat) (hk : k < 6) (g : Nat) (W : World) (hW : Below w3.heap.size w3 W) (hg : IB W g 3 [(k : Int)]) => HW.out k hk Ap Aq cp cq _ _ _ _ g W hOa.out hOb.out (OX.rs (X2'.out.below hW z3)) (Nat.le_trans z3 hW.size) (OX.rs (X3.out.below hW (Nat.le_refl _))) hW.size hg
  clear HA HB HW Ha Hb
  go_wp2
  go_loopw [8, 9] (fun v i wr => ∃ k : Nat, k ≤ 6 ∧ i = .int .i64 k ∧ OW wr w3.heap.size wr.heap.size v (F k) ∧ Below w3.heap.size w3 wr) (fun _ i _ => 6 - (intOf i).toNat)
  case atStart => exact ⟨0, by omega, rfl, by rw [hF0.out]; exact OW.nil _ _ _, Below.refl _ _⟩
  case round =>
    obtain ⟨k, hk6, rfl, how, hbel⟩ := hrel
    obtain ⟨A5, c5, rfl, -⟩ := how.form
    have hO := Lib.hid how
    have hBL := Lib.hid hbel
    clear how
    by_cases hlt : k < 6
    · have hki : (k : Int) < 6 := by omega
      have hB1 := Lib.hid (hbel.alloc hbel.size (.cells #[.int .i64 (k : Int)] 3))
      have hib : IB (wr.alloc (.cells #[.int .i64 (k : Int)] 3)) wr.heap.size 3 [(k : Int)] := heap_alloc_new wr _
      have hK := Lib.hid (HK.out k hlt wr.heap.size _ hB1.out hib)
      have hO1 := Lib.hid (hO.out.below ((Below.refl wr.heap.size wr).alloc (Nat.le_refl _) (.cells #[.int .i64 (k : Int)] 3)) (Nat.le_refl _))
      have hz1 : wr.heap.size ≤ (wr.alloc (.cells #[.int .i64 (k : Int)] 3)).heap.size := by simp
      have hy := Lib.hid (hFy.out k)
      have hn := Lib.hid (hFn.out k)
      have hl6 : (F k).length ≤ 6 := Nat.le_trans (hFl.out k) hk6
      clear hib hbel
      generalize wO a b [(k : Int)] = o at *
      generalize hFF : F (k + 1) = Fn at *
      have hFFh := Lib.hid hFF
      clear hFF
      generalize F k = Fk at *
      go_wp2_with (fail)
      refine hK.out.mono ?_
      rintro e w5 ⟨Ar, cr, rfl, ho, hb5⟩
      have hB5 := Lib.hid (hB1.out.trans (hb5.mono hB1.out.size))
      have hO5 := Lib.hid (hO1.out.below hb5 hz1)
      have hz5 := Nat.le_trans hz1 hb5.size
      clear ho hb5
      rcases o with _ | o
      · have hS := Lib.hid (hy.out rfl)
        have ho2 := Lib.hid (hO5.out.1.alloc (.cells #[.int .i64 (k : Int)] 3))
        have hb3 := Lib.hid (hB5.out.alloc hB5.out.size (.cells #[.int .i64 (k : Int)] 3))
        have hlo := Lib.hid hO5.out.lo
        dsimp only [Option.isSome_none]
        go_wp2_with (at_builtin; refine wpList_append_own _ rfl _ _ 32 rfl w3.heap.size 3 i0 (.int .i64 0) 1 8 Try.underlying32 hI.out hZ0.out hZ1.out hZ2.out rfl (by decide) _ _ _ rfl ho2.out ⟨w5.heap.size, 0, none⟩ 1 1 [.int .i64 (k : Int)] rfl rfl (new1 rfl) (one1 _) (by unfold maxLen; omega) (by omega) (by have := hB5.out.size; simp; omega) ?_; intro v' w7 hown7 hgr7 _)
        have R1 := Lib.hid (OW.push (by simpa using hown7) : OW w7 w3.heap.size w7.heap.size v' (Fk ++ [(k : Int)]))
        have R2 := Lib.hid (hb3.out.grown hgr7 hb3.out.size (fun k hk => (hlo.out k hk).1))
        clear hown7 hgr7
        go_wp2
        go_roundw
        case rel => exact ⟨k + 1, by omega, by go_num, by rw [hFFh.out, hS.out]; exact R1.out, R2.out⟩
        case measure => simp [intOf]; omega
      · have hS := Lib.hid (hn.out rfl)
        dsimp only [Option.isSome_some]
        go_wp2
        go_roundw
        case rel => exact ⟨k + 1, by omega, by go_num, by rw [hFFh.out, hS.out]; exact hO5.out.more hz5, hB5.out⟩
        case measure => simp [intOf]; omega
    · obtain rfl : k = 6 := by omega
      clear hbel
      go_wp2
      go_ret2
      rw [hk.out]
      exact ⟨A5, c5, rfl, hO.out.lower b3.out.size, b3.out.trans (hBL.out.mono b3.out.size)⟩

set_option maxHeartbeats 8000000 in
theorem iSameRegisters_any (L0 B0 : Nat) (A0 : Option Addr) (c0 : Nat) (a : List In) (L1 B1 : Nat) (A1 : Option Addr) (c1 : Nat) (b : List In) (w : World)
    (hl0 : a.length ≤ 1048576) (h0 : RS In.enc 5 w L0 B0 A0 a) (hB0 : B0 ≤ w.heap.size) (hl1 : b.length ≤ 1048576) (h1 : RS In.enc 5 w L1 B1 A1 b) (hB1 : B1 ≤ w.heap.size) :
    Calls Try.prog 60 #[.slice A0 a.length c0, .slice A1 b.length c1] w (ResSameRegisters (smR a b) (smB a b) w) := by
  obtain ⟨i0, hi, hz0, hz1, hz2⟩ := info_parts Try.infoInt
  have hI := Lib.hid hi
  have hZ0 := Lib.hid hz0
  have hZ1 := Lib.hid hz1
  have hZ2 := Lib.hid hz2
  clear hi hz0 hz1 hz2
  have Ha := Lib.hid (isBlock_any L0 B0 A0 c0 a w hl0 h0 hB0)
  have Hb := Lib.hid fun (W : World) (hW : Below w.heap.size w W) => isBlock_any L1 B1 A1 c1 b W hl1 (h1.below hW hB1) (Nat.le_trans hB1 hW.size)
  have hq : Hid (smB a b = (blkOk a && blkOk b)) := rfl
  have hk : Hid (smR a b = if smB a b = true then smL a b 6 else []) := rfl
  have hP := Lib.hid fun (h : smB a b = true) => smB_parts h
  have hF0 : Hid (smL a b 0 = []) := rfl
  have hFy := Lib.hid fun (k : Nat) (h : (wO a b [(k : Int)]).isNone = true) => smL_yes h
  have hFn := Lib.hid fun (k : Nat) (h : (wO a b [(k : Int)]).isNone = false) => smL_no h
  have hFl := Lib.hid (smL_len a b)
  have HA := Lib.hid fun (W : World) (hW : Below w.heap.size w W) (ho : okCode a = true) => machinesBehind_any L0 B0 A0 c0 a W ho (h0.below hW hB0) (Nat.le_trans hB0 hW.size)
  have HB := Lib.hid fun (W : World) (hW : Below w.heap.size w W) (ho : okCode b = true) => machinesBehind_any L1 B1 A1 c1 b W ho (h1.below hW hB1) (Nat.le_trans hB1 hW.size)
  have HW := Lib.hid fun (k : Nat) (hk : k < 6) (gA gB g : Nat) (W : World) (ha : MB W gA (endR a)) (hb : MB W gB (endR b)) (hg : IB W g 3 [(k : Int)]) => (show Calls Try.prog 121 #[.slice (some ⟨gA, 0, none⟩) 4096 4096, .slice (some ⟨gB, 0, none⟩) 4096 4096, .slice (some ⟨g, 0, none⟩) 1 1] W (WitGot W (wO a b [(k : Int)])) from witnessOf_any gA gB (endR a) (endR b) g (g + 1) (some ⟨g, 0, none⟩) 1 [(k : Int)] W (by simp) (in6_one hk) ha hb hg.toIS hg.lt)
  clear h0 h1
  generalize smR a b = R at *
  generalize smB a b = q at *
  generalize smL a b = F at *
  generalize blkOk a = qa at *
  generalize blkOk b = qb at *
  cases qa
  · obtain rfl : q = false := hq.out
    go_enter Try.func60, Try.ntmps60
    go_wp2_with (fail)
    refine Ha.out.mono ?_
    rintro e w1 ⟨rfl, hb1⟩
    have b1 := Lib.hid hb1
    clear hb1
    go_wp2
    go_ret2
    rw [hk.out]
    exact ⟨none, 0, rfl, OW.nil _ _ _, b1.out⟩
  cases qb
  · obtain rfl : q = false := hq.out
    go_enter Try.func60, Try.ntmps60
    go_wp2_with (fail)
    refine Ha.out.mono ?_
    rintro e w1 ⟨rfl, hb1⟩
    have b1 := Lib.hid hb1
    clear hb1
    go_wp2_with (fail)
    refine (Hb.out w1 b1.out).mono ?_
    rintro e w1b ⟨rfl, hb1⟩
    have b1b := Lib.hid (b1.out.trans (hb1.mono b1.out.size))
    clear hb1
    go_wp2
    go_ret2
    rw [hk.out]
    exact ⟨none, 0, rfl, OW.nil _ _ _, b1b.out⟩
  obtain rfl : q = true := hq.out
  obtain ⟨oa, ob⟩ := hP.out rfl
  have hOa := Lib.hid oa
  have hOb := Lib.hid ob
  clear oa ob
  go_enter Try.func60, Try.ntmps60
  go_wp2_with (fail)
  refine Ha.out.mono ?_
  rintro e w1 ⟨rfl, hb1⟩
  have b1 := Lib.hid hb1
  clear hb1
  go_wp2_with (fail)
  refine (Hb.out w1 b1.out).mono ?_
  rintro e w1b ⟨rfl, hb1⟩
  have b1b := Lib.hid (b1.out.trans (hb1.mono b1.out.size))
  clear hb1
  go_wp2_with (fail)
  refine (HA.out w1b b1b.out hOa.out).mono ?_
  rintro e w2 ⟨gA, rfl, hgA, hmb, hb2⟩
  have X2 := Lib.hid hmb
  have zA := hmb.lt
  have b2 := Lib.hid (b1b.out.trans (hb2.mono b1b.out.size))
  clear hmb hb2
  go_wp2_with (fail)
  refine (HB.out w2 b2.out hOb.out).mono ?_
  rintro e w3 ⟨gB, rfl, hgB, hmb, hb3⟩
  have X3 := Lib.hid hmb
  have X2' := Lib.hid (IB.below X2.out hb3 zA)
  have zB := hmb.lt
  have zA' : gA < w3.heap.size := Nat.lt_of_lt_of_le zA hb3.size
  have b3 := Lib.hid (b2.out.trans (hb3.mono b2.out.size))
  clear hmb hb3
  have HK := Lib.hid fun (k : Nat) (hk : k < 6) (g : Nat) (W : World) (hW : Below w3.heap.size w3 W) (hg : IB W g 3 [(k : Int)]) => HW.out k hk gA gB g W (IB.below X2'.out hW zA') (IB.below X3.out hW zB) hg
  clear HA HB HW Ha Hb
  go_wp2
  go_loopw [8, 22] (fun v i wr => ∃ k : Nat, k ≤ 6 ∧ i = .int .i64 k ∧ OW wr w3.heap.size wr.heap.size v (F k) ∧ Below w3.heap.size w3 wr) (fun _ i _ => 6 - (intOf i).toNat)
  case atStart => exact ⟨0, by omega, rfl, by rw [hF0.out]; exact OW.nil _ _ _, Below.refl _ _⟩
  case round =>
    obtain ⟨k, hk6, rfl, how, hbel⟩ := hrel
    obtain ⟨A5, c5, rfl, -⟩ := how.form
    have hO := Lib.hid how
    have hBL := Lib.hid hbel
    clear how
    by_cases hlt : k < 6
    · have hki : (k : Int) < 6 := by omega
      have hB1 := Lib.hid (hbel.alloc hbel.size (.cells #[.int .i64 (k : Int)] 3))
      have hib : IB (wr.alloc (.cells #[.int .i64 (k : Int)] 3)) wr.heap.size 3 [(k : Int)] := heap_alloc_new wr _
      have hK := Lib.hid (HK.out k hlt wr.heap.size _ hB1.out hib)
      have hO1 := Lib.hid (hO.out.below ((Below.refl wr.heap.size wr).alloc (Nat.le_refl _) (.cells #[.int .i64 (k : Int)] 3)) (Nat.le_refl _))
      have hz1 : wr.heap.size ≤ (wr.alloc (.cells #[.int .i64 (k : Int)] 3)).heap.size := by simp
      have hy := Lib.hid (hFy.out k)
      have hn := Lib.hid (hFn.out k)
      have hl6 : (F k).length ≤ 6 := Nat.le_trans (hFl.out k) hk6
      clear hib hbel
      generalize wO a b [(k : Int)] = o at *
      generalize hFF : F (k + 1) = Fn at *
      have hFFh := Lib.hid hFF
      clear hFF
      generalize F k = Fk at *
      go_wp2_with (fail)
      refine hK.out.mono ?_
      rintro e w5 ⟨Ar, cr, rfl, hno, ho, hb5⟩
      have hB5 := Lib.hid (hB1.out.trans (hb5.mono hB1.out.size))
      have hO5 := Lib.hid (hO1.out.below hb5 hz1)
      have hz5 := Nat.le_trans hz1 hb5.size
      clear ho hb5
      have heq := Lib.run_eql_slice_nil (P := Try.prog) w5 32 3 Ar (wtL o).length cr 0 0 Try.underlying32
      rw [hno] at heq
      clear hno
      rcases o with _ | o
      · have hS := Lib.hid (hy.out rfl)
        have ho2 := Lib.hid (hO5.out.1.alloc (.cells #[.int .i64 (k : Int)] 3))
        have hb3 := Lib.hid (hB5.out.alloc hB5.out.size (.cells #[.int .i64 (k : Int)] 3))
        have hlo := Lib.hid hO5.out.lo
        simp only [Option.isNone_none] at heq
        go_wp2_with (at_builtin; refine wpList_append_own _ rfl _ _ 32 rfl w3.heap.size 3 i0 (.int .i64 0) 1 8 Try.underlying32 hI.out hZ0.out hZ1.out hZ2.out rfl (by decide) _ _ _ rfl ho2.out ⟨w5.heap.size, 0, none⟩ 1 1 [.int .i64 (k : Int)] rfl rfl (new1 rfl) (one1 _) (by unfold maxLen; omega) (by omega) (by have := hB5.out.size; simp; omega) ?_; intro v' w7 hown7 hgr7 _)
        have R1 := Lib.hid (OW.push (by simpa using hown7) : OW w7 w3.heap.size w7.heap.size v' (Fk ++ [(k : Int)]))
        have R2 := Lib.hid (hb3.out.grown hgr7 hb3.out.size (fun k hk => (hlo.out k hk).1))
        clear hown7 hgr7
        go_wp2
        go_roundw
        case rel => exact ⟨k + 1, by omega, by go_num, by rw [hFFh.out, hS.out]; exact R1.out, R2.out⟩
        case measure => simp [intOf]; omega
      · have hS := Lib.hid (hn.out rfl)
        simp only [Option.isNone_some] at heq
        go_wp2
        go_roundw
        case rel => exact ⟨k + 1, by omega, by go_num, by rw [hFFh.out, hS.out]; exact hO5.out.more hz5, hB5.out⟩
        case measure => simp [intOf]; omega
    · obtain rfl : k = 6 := by omega
      clear hbel
      go_wp2
      go_ret2
      rw [hk.out]
      exact ⟨A5, c5, rfl, hO.out.lower b3.out.size, b3.out.trans (hBL.out.mono b3.out.size)⟩

end Go.Proofs.Ythjfedidpjfboaa

/- Arguments of the types []laws.Instr, laws.Instr and []int opened. -/
namespace Go.Proofs.Ythjfedidpjfboaa
open Go.ChangeShapes Go.WideShapes Go.ChangeAt Go.RowKit Go.Deep
open Go.ChangeMaps (open_string shut_string)
set_option linter.unusedVariables false

theorem cellsIn : Try.prog.cellsOf 86 = 5 := by kernel_rfl
theorem cellsStr : Try.prog.cellsOf 9 = 1 := by kernel_rfl
theorem cellsInt : Try.prog.cellsOf 3 = 1 := by kernel_rfl

set_option maxRecDepth 100000 in
theorem in_of_trod {H : Type} {enc : TypeId × Value → H} {w : World} {base : Nat} {spare : Nat → Bool} {held : Bool} {n : Nat} {cs : List Value} {x : DataW H × List MemPlace}
    (h : DataW.trod enc Try.prog w base spare held n 86 cs = some x) : ∃ nd : In, cs = nd.enc ∧ nd.op.size ≤ maxLen := by
  obtain ⟨xs, m, _, _, hlen, hxl, hf⟩ := DataW.trod_struct Try.underlying86 h
  rw [cellsIn] at hlen
  match cs, hlen with
  | [c0, c1, c2, c3, c4], _ =>
    match xs, hxl with
    | [y0, y1, y2, y3, y4], _ =>
      have h0 := hf 0 _ rfl
      change DataW.trod enc Try.prog w base spare held m 9 (([c0, c1, c2, c3, c4].drop 0).take (Try.prog.cellsOf 9)) = _ at h0
      rw [cellsStr] at h0
      have h1 := hf 1 _ rfl
      change DataW.trod enc Try.prog w base spare held m 3 (([c0, c1, c2, c3, c4].drop 1).take (Try.prog.cellsOf 3)) = _ at h1
      rw [cellsInt] at h1
      have h2 := hf 2 _ rfl
      change DataW.trod enc Try.prog w base spare held m 3 (([c0, c1, c2, c3, c4].drop 2).take (Try.prog.cellsOf 3)) = _ at h2
      rw [cellsInt] at h2
      have h3 := hf 3 _ rfl
      change DataW.trod enc Try.prog w base spare held m 3 (([c0, c1, c2, c3, c4].drop 3).take (Try.prog.cellsOf 3)) = _ at h3
      rw [cellsInt] at h3
      have h4 := hf 4 _ rfl
      change DataW.trod enc Try.prog w base spare held m 3 (([c0, c1, c2, c3, c4].drop 4).take (Try.prog.cellsOf 3)) = _ at h4
      rw [cellsInt] at h4
      obtain ⟨s, e0, _, hs⟩ := DataW.trod_string Try.underlying9 h0
      obtain ⟨d, e1, _, _⟩ := DataW.trod_int Try.underlying3 h1
      obtain ⟨a, e2, _, _⟩ := DataW.trod_int Try.underlying3 h2
      obtain ⟨b, e3, _, _⟩ := DataW.trod_int Try.underlying3 h3
      obtain ⟨m, e4, _, _⟩ := DataW.trod_int Try.underlying3 h4
      have e0 : c0 = .string s := by simpa using e0
      have e1 : c1 = .int .i64 d := by simpa using e1
      have e2 : c2 = .int .i64 a := by simpa using e2
      have e3 : c3 = .int .i64 b := by simpa using e3
      have e4 : c4 = .int .i64 m := by simpa using e4
      exact ⟨⟨s, d, a, b, m⟩, by rw [e0, e1, e2, e3, e4]; rfl, hs⟩

theorem cell_lt_heap {w : World} {a : Addr} {v : Value} (h : w.cell? a = some v) : a.block < w.heap.size := by
  rcases Nat.lt_or_ge a.block w.heap.size with hlt | hge
  · exact hlt
  · unfold World.cell? at h; rw [Array.getElem?_eq_none hge] at h; simp at h

set_option maxRecDepth 100000 in
theorem x_of_trod {H : Type} {enc : TypeId × Value → H} {w : World} {r : Reach} {b0 : Nat} {spare : Nat → Bool} {held : Bool} {v : Value} {d : DataW H} {p : List MemPlace}
    (hv : Value.okWide Try.prog w r b0 86 v) (h : DataW.Trod enc Try.prog w 0 spare held 86 v d p) :
    ∃ x : In, v = .agg #[.string x.op, .int .i64 x.d, .int .i64 x.a, .int .i64 x.b, .int .i64 x.m] ∧ x.op.size ≤ 9223372036854775807 := by
  obtain ⟨cs, rfl, hsz⟩ := okWide_struct Try.underlying86 hv
  obtain ⟨fuel, hf⟩ := h
  obtain ⟨x, hx, hs⟩ := in_of_trod hf
  refine ⟨x, ?_, by unfold maxLen at hs; omega⟩
  obtain ⟨l⟩ := cs
  have hx' : l = x.enc := by simpa [Value.cells] using hx
  subst hx'; rfl

set_option maxRecDepth 100000 in
theorem ins_of_trod {H : Type} {enc : TypeId × Value → H} {w : World} {spare : Nat → Bool} {held : Bool} {A : Option Addr} {len cap : Nat} {d : DataW H} {p : List MemPlace}
    (h : DataW.Trod enc Try.prog w 0 spare held 31 (.slice A len cap) d p) :
    ∃ es : List In, es.length = len ∧ RS In.enc 5 w 0 w.heap.size A es ∧ (∀ n ∈ es, n.op.size ≤ 9223372036854775807) ∧ len ≤ 9223372036854775807 := by
  obtain ⟨fuel, hf⟩ := h
  rcases open_slice Try.underlying31 hf with ⟨hcs, _⟩ | ⟨a, l, c, m, n, D, Pl, hcs, _, hl, hm, hmm, _, hi⟩
  · simp [Value.cells] at hcs
    obtain ⟨rfl, rfl, rfl⟩ := hcs
    exact ⟨[], rfl, fun h => absurd h (by simp), (fun n hn => by cases hn), by omega⟩
  · simp [Value.cells] at hcs
    obtain ⟨rfl, rfl, rfl⟩ := hcs
    have hlm : len ≤ m := by rw [hmm]; split <;> omega
    have hex : ∀ i, i < len → ∃ nd : In, (∀ j v, nd.enc[j]? = some v → w.cell? (a.add (i * 5 + j)) = some v) ∧ nd.op.size ≤ maxLen := by
      intro i hil
      obtain ⟨cs', hc, ht⟩ := hi i (by omega)
      rw [cellsIn] at hc
      obtain ⟨nd, rfl, hs⟩ := in_of_trod ht
      obtain ⟨_, _, hat⟩ := World.cells?_some hc
      refine ⟨nd, fun j v hv => ?_, hs⟩
      have hj : j < 5 := kflat_lt In.hk hv
      have := hat j hj
      rw [add_add, hv] at this; exact this
    obtain ⟨f, hf2⟩ := Classical.axiomOfChoice (fun i : {i // i < len} => hex i.1 i.2)
    have hget : ∀ i (h : i < (List.ofFn fun i : Fin len => f ⟨i.1, i.2⟩).length), (List.ofFn fun i : Fin len => f ⟨i.1, i.2⟩)[i] = f ⟨i, by simpa using h⟩ := fun i h => by simp
    refine ⟨List.ofFn fun i : Fin len => f ⟨i.1, i.2⟩, by simp, ?_, ?_, by unfold maxLen at hm; omega⟩
    · intro hpos
      have hpos' : 0 < len := by simpa using hpos
      have h0 := (hf2 ⟨0, hpos'⟩).1 0 _ rfl
      obtain ⟨b, o, spot⟩ := a
      have hspot : spot = none := by have := World.cell?_spot h0; simpa [Addr.add] using this
      subst hspot
      have hadd : ∀ k, (⟨b, o, none⟩ : Addr).add k = ⟨b, o + k, none⟩ := fun k => by simp [Addr.add]
      refine ⟨b, o, rfl, ⟨Nat.zero_le _, ?_⟩, fun i hi j v hv => ?_⟩
      · rw [hadd] at h0
        exact cell_lt_heap h0
      · have hi' : i < len := by simpa using hi
        rw [hget i hi] at hv
        have := (hf2 ⟨i, hi'⟩).1 j v hv
        simp only [hadd, ← Nat.add_assoc] at this
        exact this
    · intro n hn
      obtain ⟨i, rfl⟩ := List.mem_ofFn.1 hn
      have := (hf2 ⟨i.1, i.2⟩).2
      unfold maxLen at this; omega

set_option maxRecDepth 100000 in
theorem ints_of_trod {H : Type} {enc : TypeId × Value → H} {w : World} {spare : Nat → Bool} {held : Bool} {A : Option Addr} {len cap : Nat} {d : DataW H} {p : List MemPlace}
    (h : DataW.Trod enc Try.prog w 0 spare held 32 (.slice A len cap) d p) :
    ∃ xs : List Int, xs.length = len ∧ IS w 0 w.heap.size A xs ∧ len ≤ 9223372036854775807 := by
  obtain ⟨fuel, hf⟩ := h
  rcases open_slice Try.underlying32 hf with ⟨hcs, _⟩ | ⟨a, l, c, m, n, D, Pl, hcs, _, hl, hm, hmm, _, hi⟩
  · simp [Value.cells] at hcs
    obtain ⟨rfl, rfl, rfl⟩ := hcs
    exact ⟨[], rfl, fun h => absurd h (by simp), by omega⟩
  · simp [Value.cells] at hcs
    obtain ⟨rfl, rfl, rfl⟩ := hcs
    have hlm : len ≤ m := by rw [hmm]; split <;> omega
    have hex : ∀ i, i < len → ∃ x : Int, w.cell? (a.add i) = some (.int .i64 x) := by
      intro i hil
      obtain ⟨cs', hc, ht⟩ := hi i (by omega)
      rw [cellsInt, Nat.mul_one] at hc
      obtain ⟨x, hx, _, _⟩ := DataW.trod_int Try.underlying3 ht
      obtain ⟨_, _, hat⟩ := World.cells?_some hc
      have := hat 0 (by omega)
      rw [add_add, hx] at this
      exact ⟨x, by simpa using this⟩
    obtain ⟨f, hf2⟩ := Classical.axiomOfChoice (fun i : {i // i < len} => hex i.1 i.2)
    have hget : ∀ i (h : i < (List.ofFn fun i : Fin len => f ⟨i.1, i.2⟩).length), (List.ofFn fun i : Fin len => f ⟨i.1, i.2⟩)[i] = f ⟨i, by simpa using h⟩ := fun i h => by simp
    refine ⟨List.ofFn fun i : Fin len => f ⟨i.1, i.2⟩, by simp, ?_, by unfold maxLen at hm; omega⟩
    intro hpos
    have hpos' : 0 < len := by simpa using hpos
    have h0 := hf2 ⟨0, hpos'⟩
    obtain ⟨b, o, spot⟩ := a
    have hspot : spot = none := by have := World.cell?_spot h0; simpa [Addr.add] using this
    subst hspot
    have hadd : ∀ k, (⟨b, o, none⟩ : Addr).add k = ⟨b, o + k, none⟩ := fun k => by simp [Addr.add]
    refine ⟨b, o, rfl, ⟨Nat.zero_le _, ?_⟩, fun i hi => ?_⟩
    · rw [hadd] at h0
      exact cell_lt_heap h0
    · have hi' : i < len := by simpa using hi
      rw [hget i hi]
      have := hf2 ⟨i, hi'⟩
      simp only [hadd] at this
      exact this
end Go.Proofs.Ythjfedidpjfboaa
