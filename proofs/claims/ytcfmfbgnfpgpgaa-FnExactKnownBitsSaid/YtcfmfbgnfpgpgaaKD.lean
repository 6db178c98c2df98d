import Derived.Test.YtcfmfbgnfpgpgaaKC
import Derived.Test.YtcfmfbgnfpgpgaaTS
import Derived.Test.YtcfmfbgnfpgpgaaTL
import Derived.WalkKit
import Derived.WalkSpells
import Derived.WalkLawsBesides
import Derived.Deep.RegionLaw
import Derived.Lib.Hide
/- Bits that are equal for all inputs. -/
namespace Go.Proofs.Ytcfmfbgnfpgpgaa
open Go.RowKit
set_option linter.unusedVariables false
set_option maxRecDepth 100000

set_option maxHeartbeats 4000000 in
theorem sKnownBits_any (L B : Nat) (A : Option Addr) (c : Nat) (es : List Nd) (w : World) (hl : es.length ≤ 1048576) (hes : NS w L B A es) (hB : B ≤ w.heap.size) :
    Calls Try.prog 54 #[.slice A es.length c] w fun e w' => e = .returned (.tuple #[.agg #[.int .i64 (kbZ es), .int .i64 (kbO es)], .bool (good es)]) ∧ Below w.heap.size w w' := by
  have HE := Lib.hid fun (W : World) (hW : Below w.heap.size w W) => exGood_any L B A c es W hl (hes.below hW hB) (Nat.le_trans hB hW.size)
  have TE := Lib.hid fun (W : World) (hW : Below w.heap.size w W) (hg : good es = true) => exTable_n L B A c es W hg (hes.below hW hB) (Nat.le_trans hB hW.size)
  clear hes hB
  have b0 := Lib.hid ((Below.refl w.heap.size w).alloc (Nat.le_refl _) (.cells #[.int .i64 0, .int .i64 0] 51))
  have n0 := Lib.hid (kbox w 0 0 51)
  cases hg : good es
  · have h1 := Lib.hid (show kbZ es = 0 by unfold kbZ; rw [if_neg (by rw [hg]; decide)])
    have h2 := Lib.hid (show kbO es = 0 by unfold kbO; rw [if_neg (by rw [hg]; decide)])
    rw [hg] at HE
    clear hg TE
    go_enter Try.func54, Try.ntmps54
    go_wp2_with (fail)
    refine (HE.out _ b0.out).mono ?_
    rintro e w1 ⟨rfl, hb⟩
    have b1 := Lib.hid (b0.out.trans (hb.mono b0.out.size))
    have n1 := Lib.hid (n0.out.below hb (by simp))
    clear hb
    obtain ⟨f0, f1⟩ := n1.out.fz
    obtain ⟨d0, d1⟩ := n1.out.two
    have n2 := Lib.hid (n1.out.put2 0 0)
    have b2 := Lib.hid (below_put2 b1.out (g := w.heap.size) (Nat.le_refl _) (.int .i64 0) (.int .i64 0))
    go_wp2
    rw [h1.out, h2.out]
    exact known_ret2 rfl rfl rfl n2.out ⟨rfl, b2.out⟩
  have hgh := Lib.hid hg
  have h1 := show kbZ es = szI (fun i => (tab es).getD i 0) (tab es).length by unfold kbZ; rw [if_pos hg, tab_len]
  have h2 := show kbO es = soI (fun i => (tab es).getD i 0) (tab es).length by unfold kbO; rw [if_pos hg, tab_len]
  have hlx := tab_len es
  rw [hg] at HE
  clear hg
  go_enter Try.func54, Try.ntmps54
  go_wp2_with (fail)
  refine (HE.out _ b0.out).mono ?_
  rintro e w1 ⟨rfl, hb⟩
  have b1 := Lib.hid (b0.out.trans (hb.mono b0.out.size))
  have n1 := Lib.hid (n0.out.below hb (by simp))
  have z1 : Hid (w.heap.size < w1.heap.size) := n1.out.lt
  have b1a := Lib.hid (b1.out.alloc b1.out.size (.cells #[.int .i64 63, .int .i64 63] 51))
  have m1 := Lib.hid (kbox w1 63 63 51)
  have n1a := Lib.hid (n1.out.below ((Below.refl w1.heap.size w1).alloc (Nat.le_refl _) (.cells #[.int .i64 63, .int .i64 63] 51)) z1.out)
  clear hb
  go_wp2_with (fail)
  refine (TE.out _ b1a.out hgh.out).mono ?_
  rintro e w2 ⟨V1, v1, rfl, hi, hb⟩
  have b2 := Lib.hid (b1a.out.trans (hb.mono b1a.out.size))
  have n2 := Lib.hid (n1a.out.below hb (by have := z1.out; simp; omega))
  have m2 := Lib.hid (m1.out.below hb (by simp))
  have I1 := Lib.hid hi
  clear hb hi
  obtain ⟨n, hn⟩ : ∃ n, n = (tab es).length := ⟨_, rfl⟩
  rw [← hn] at h1 h2
  have hn4 : n = 4096 := by rw [hn, hlx]
  rw [← hn4]
  have hxn := Lib.hid hn.symm
  have hnn : n ≤ 1000000 := by omega
  have r1 := Lib.hid h1
  have r2 := Lib.hid h2
  have lo := Lib.hid (show w1.heap.size < (w1.alloc (.cells #[.int .i64 63, .int .i64 63] 51)).heap.size by simp)
  generalize hg1 : (w1.alloc (.cells #[.int .i64 63, .int .i64 63] 51)).heap.size = T at I1 lo
  clear h1 h2 hn hn4 hlx hg1
  generalize tab es = xs at *
  generalize hG : w1.heap.size = G at m2 z1 lo ⊢
  go_wp2
  try rw [hG]
  clear hG
  go_loopw [15] (fun i wr => ∃ k : Nat, k ≤ n ∧ i = .int .i64 k ∧ IB wr G 51 [szI (fun i => xs.getD i 0) k, soI (fun i => xs.getD i 0) k] ∧ IB wr w.heap.size 51 [0, 0] ∧ IS wr T wr.heap.size V1 xs ∧ Below w.heap.size w wr) (fun i _ => n - (intOf i).toNat)
  case atStart => exact ⟨0, Nat.zero_le _, rfl, m2.out, n2.out, I1.out, b2.out⟩
  case round =>
    obtain ⟨k, hk, rfl, hm, hn', hi, hbel⟩ := hrel
    have hM := Lib.hid hm
    have hN := Lib.hid hn'
    have hI := Lib.hid hi
    have hBL := Lib.hid hbel
    clear hm hn' hi hbel
    by_cases hlt : k < n
    · have hkx : k < xs.length := by rw [hxn.out]; exact hlt
      obtain ⟨b, o, rfl, ⟨hb1, hb2⟩, hc⟩ := hI.out (by rw [hxn.out]; omega)
      have c1 := hc k hkx
      have hS1 : Hid (szI (fun i => xs.getD i 0) (k + 1) = bits .andNot .i64 (szI (fun i => xs.getD i 0) k) xs[k]) := by unfold Hid; rw [szI, getD_get hkx]
      have hS2 : Hid (soI (fun i => xs.getD i 0) (k + 1) = bits .and .i64 (soI (fun i => xs.getD i 0) k) xs[k]) := by unfold Hid; rw [soI, getD_get hkx]
      clear hc
      generalize hgx : xs[k] = x at *
      clear hgx hkx
      generalize szI (fun i => xs.getD i 0) k = p at *
      generalize soI (fun i => xs.getD i 0) k = q at *
      have hne : Hid (b ≠ G) := by have := lo.out; unfold Hid; omega
      have hR := Lib.hid (hM.out.put2 (bits .andNot .i64 p x) (bits .and .i64 q x))
      have hzG := hM.out.lt
      have hRN : Hid (IB ((wr.setCell ⟨G, 0, none⟩ (.int .i64 (bits .andNot .i64 p x))).setCell ⟨G, 1, none⟩ (.int .i64 (bits .and .i64 q x))) w.heap.size 51 [0, 0]) :=
        (Below.heap_setCell _ ⟨G, 1, none⟩ _ w.heap.size (by have := z1.out; show w.heap.size ≠ G; omega)).trans ((Below.heap_setCell _ ⟨G, 0, none⟩ _ w.heap.size (by have := z1.out; show w.heap.size ≠ G; omega)).trans hN.out)
      have hRI : Hid (IS ((wr.setCell ⟨G, 0, none⟩ (.int .i64 (bits .andNot .i64 p x))).setCell ⟨G, 1, none⟩ (.int .i64 (bits .and .i64 q x))) T ((wr.setCell ⟨G, 0, none⟩ (.int .i64 (bits .andNot .i64 p x))).setCell ⟨G, 1, none⟩ (.int .i64 (bits .and .i64 q x))).heap.size (some ⟨b, o, none⟩) xs) := by
        have h1 := hI.out.keep (w' := (wr.setCell ⟨G, 0, none⟩ (.int .i64 (bits .andNot .i64 p x))).setCell ⟨G, 1, none⟩ (.int .i64 (bits .and .i64 q x))) fun r hr1 hr2 =>
          World.cell?_of_block ((Below.heap_setCell _ ⟨G, 1, none⟩ _ r.block (by have := lo.out; show r.block ≠ G; omega)).trans (Below.heap_setCell _ ⟨G, 0, none⟩ _ r.block (by have := lo.out; show r.block ≠ G; omega)))
        exact h1.more (Nat.le_refl _) (by simp [World.setCell])
      have hRB := Lib.hid (below_put2 hBL.out (g := G) (by have := z1.out; omega) (.int .i64 (bits .andNot .i64 p x)) (.int .i64 (bits .and .i64 q x)))
      obtain ⟨d0, d1⟩ := hM.out.two
      obtain ⟨f0, f1⟩ := hM.out.fz
      clear hzG hb1 hb2
      go_wp2
      go_roundw
      case rel => exact ⟨k + 1, by omega, by go_num, by rw [hS1.out, hS2.out]; exact hR.out, hRN.out, hRI.out, hRB.out⟩
      case measure => simp [intOf]; omega
    · obtain rfl : k = n := by omega
      have r1' := r1.out
      have r2' := r2.out
      generalize szI (fun i => xs.getD i 0) k = p at *
      generalize soI (fun i => xs.getD i 0) k = q at *
      have s1 := Lib.hid r1'
      have s2 := Lib.hid r2'
      clear r1' r2' r1 r2
      obtain ⟨d0, d1⟩ := hM.out.two
      obtain ⟨g0, g1⟩ := hN.out.two
      obtain ⟨f0, f1⟩ := hN.out.fz
      have hR := Lib.hid (hN.out.put2 p q)
      have hRB := Lib.hid (below_put2 hBL.out (g := w.heap.size) (Nat.le_refl _) (.int .i64 p) (.int .i64 q))
      go_wp2
      rw [s1.out, s2.out]
      exact known_ret2 rfl rfl rfl hR.out ⟨rfl, hRB.out⟩

set_option maxHeartbeats 4000000 in
theorem iKnownBits_any (L B : Nat) (A : Option Addr) (c : Nat) (es : List Nd) (w : World) (hl : es.length ≤ 1048576) (hes : NS w L B A es) (hB : B ≤ w.heap.size) :
    Calls Try.prog 55 #[.slice A es.length c] w fun e w' => e = .returned (.tuple #[.agg #[.int .i64 (kbZ es), .int .i64 (kbO es)], .bool (good es)]) ∧ Below w.heap.size w w' := by
  have GE := Lib.hid fun (W : World) (hW : Below w.heap.size w W) => iTable_is L B A c es W hl (hes.below hW hB) (Nat.le_trans hB hW.size)
  clear hes hB
  have b0 := Lib.hid ((Below.refl w.heap.size w).alloc (Nat.le_refl _) (.cells #[.int .i64 0, .int .i64 0] 51))
  have n0 := Lib.hid (kbox w 0 0 51)
  have KW := Lib.hid fun x W => knownWord_any x W
  have KJ := Lib.hid fun z o z' o' W => joinKnown_any z o z' o' W
  cases hg : good es
  · have h1 := Lib.hid (show kbZ es = 0 by unfold kbZ; rw [if_neg (by rw [hg]; decide)])
    have h2 := Lib.hid (show kbO es = 0 by unfold kbO; rw [if_neg (by rw [hg]; decide)])
    rw [hg] at GE
    clear hg
    go_enter Try.func55, Try.ntmps55
    go_wp2_with (fail)
    refine (GE.out _ b0.out).mono ?_
    rintro e w1 ⟨V1, v1, rfl, _, hb⟩
    have b1 := Lib.hid (b0.out.trans (hb.mono b0.out.size))
    have n1 := Lib.hid (n0.out.below hb (by simp))
    clear hb
    obtain ⟨f0, f1⟩ := n1.out.fz
    obtain ⟨d0, d1⟩ := n1.out.two
    have n2 := Lib.hid (n1.out.put2 0 0)
    have b2 := Lib.hid (below_put2 b1.out (g := w.heap.size) (Nat.le_refl _) (.int .i64 0) (.int .i64 0))
    go_wp2
    rw [h1.out, h2.out]
    exact known_ret2 rfl rfl rfl n2.out ⟨rfl, b2.out⟩
  have ht := Lib.hid (show tabR es = tab es by unfold tabR; rw [if_pos hg])
  have h1 := show kbZ es = szI (fun i => (tab es).getD i 0) (tab es).length by unfold kbZ; rw [if_pos hg, tab_len]
  have h2 := show kbO es = soI (fun i => (tab es).getD i 0) (tab es).length by unfold kbO; rw [if_pos hg, tab_len]
  have hlx := tab_len es
  rw [ht.out, tab_len, hg] at GE
  clear hg ht
  go_enter Try.func55, Try.ntmps55
  go_wp2_with (fail)
  refine (GE.out _ b0.out).mono ?_
  rintro e w1 ⟨V1, v1, rfl, hi, hb⟩
  have b1 := Lib.hid (b0.out.trans (hb.mono b0.out.size))
  have n1 := Lib.hid (n0.out.below hb (by simp))
  have z1 : Hid (w.heap.size < w1.heap.size) := n1.out.lt
  have I1 := Lib.hid (hi.more (L' := w.heap.size + 1) (by simp) (Nat.le_refl _))
  clear hb hi
  have h0x : 0 < (tab es).length := by rw [hlx]; omega
  obtain ⟨b, o, hV, ⟨_, _⟩, hc⟩ := I1.out h0x
  subst hV
  have c0 := hc 0 h0x
  rw [← getD_get h0x, Nat.add_zero] at c0
  have i04 : (0 : Int) < (4096 : Int) := by omega
  clear hc h0x
  have hx0 : Hid (izI (fun i => (tab es).getD i 0) 0 = bits .andNot .i64 63 ((tab es).getD 0 0)) := rfl
  have hx1 : Hid (ioI (fun i => (tab es).getD i 0) 0 = bits .and .i64 63 ((tab es).getD 0 0)) := rfl
  generalize hgt : (tab es).getD 0 0 = t0 at c0 hx0 hx1
  clear hgt
  go_wp2_with (fail)
  refine (KW.out t0 _).mono ?_
  rintro e w2 ⟨rfl, hb⟩
  have b2 := Lib.hid (b1.out.trans (hb.mono b1.out.size))
  have n2 := Lib.hid (n1.out.below hb z1.out)
  have I2 := Lib.hid (I1.out.below hb (Nat.le_refl _))
  have z2 : Hid (w1.heap.size ≤ w2.heap.size) := hb.size
  clear hb c0
  rw [← hx0.out, ← hx1.out]
  obtain ⟨W3, hW3⟩ : ∃ W3, W3 = w2.alloc (.cells #[.int .i64 (izI (fun i => (tab es).getD i 0) 0), .int .i64 (ioI (fun i => (tab es).getD i 0) 0)] 51) := ⟨_, rfl⟩
  have hb3 : Below w2.heap.size w2 W3 := by rw [hW3]; exact (Below.refl _ _).alloc (Nat.le_refl _) _
  have b3 := Lib.hid (b2.out.trans (hb3.mono b2.out.size))
  have n3 := Lib.hid (n2.out.below hb3 (by have := z1.out; have := z2.out; omega))
  have I3 := Lib.hid (I2.out.below hb3 z2.out)
  have m3 : IB W3 w2.heap.size 51 [izI (fun i => (tab es).getD i 0) 0, ioI (fun i => (tab es).getD i 0) 0] := by rw [hW3]; exact kbox _ _ _ _
  obtain ⟨n, hn⟩ : ∃ n, n = (tab es).length := ⟨_, rfl⟩
  rw [← hn] at h1 h2
  have hn4 : n = 4096 := by rw [hn, hlx]
  have hxn := Lib.hid hn.symm
  have hnn : n ≤ 1000000 := by omega
  have hn1 := Lib.hid (show 1 ≤ n by omega)
  obtain ⟨n', hn'⟩ : ∃ n', n = n' + 1 := ⟨n - 1, by omega⟩
  have r1 := Lib.hid (show kbZ es = izI (fun i => (tab es).getD i 0) n by rw [h1, hn', iz_sz])
  have r2 := Lib.hid (show kbO es = ioI (fun i => (tab es).getD i 0) n by rw [h2, hn', io_so])
  have m3h := Lib.hid m3
  have J3 := Lib.hid (I3.out.more (Nat.le_refl _) z2.out)
  have lo := Lib.hid (show w.heap.size < w2.heap.size by have := z1.out; have := z2.out; omega)
  rw [← hn4]
  clear h1 h2 hn hn4 hlx hn' hb3 m3 hx0 hx1 I1 I2 I3 n1 n2 b1 b2 z1 z2
  generalize tab es = xs at *
  obtain ⟨p0, hp0⟩ : ∃ p0, p0 = izI (fun i => xs.getD i 0) 0 := ⟨_, rfl⟩
  obtain ⟨q0, hq0⟩ : ∃ q0, q0 = ioI (fun i => xs.getD i 0) 0 := ⟨_, rfl⟩
  rw [← hp0, ← hq0] at hW3 ⊢
  have hP0 := Lib.hid hp0
  have hQ0 := Lib.hid hq0
  rw [← hp0, ← hq0] at m3h
  clear hp0 hq0
  have hW3h := Lib.hid hW3
  clear hW3
  go_wp2
  rw [← hW3h.out]
  generalize w2.heap.size = G at m3h J3 lo ⊢
  clear hW3h
  go_loopw [23] (fun i wr => ∃ k : Nat, k ≤ n ∧ i = .int .i64 k ∧ IB wr G 51 [izI (fun i => xs.getD i 0) k, ioI (fun i => xs.getD i 0) k] ∧ IB wr w.heap.size 51 [0, 0] ∧ IS wr (w.heap.size + 1) G (some ⟨b, o, none⟩) xs ∧ Below w.heap.size w wr) (fun i _ => n - (intOf i).toNat)
  case atStart => exact ⟨0, Nat.zero_le _, rfl, by rw [← hP0.out, ← hQ0.out]; exact m3h.out, n3.out, J3.out, b3.out⟩
  case round =>
    obtain ⟨k, hk, rfl, hm, hn', hi, hbel⟩ := hrel
    have hM := Lib.hid hm
    have hN := Lib.hid hn'
    have hI := Lib.hid hi
    have hBL := Lib.hid hbel
    clear hm hn' hi hbel
    by_cases hlt : k < n
    · have hkx : k < xs.length := by rw [hxn.out]; exact hlt
      obtain ⟨b', o', hbe, ⟨hb1, hb2⟩, hc⟩ := hI.out (by rw [hxn.out]; omega)
      injection hbe with hbe
      injection hbe with e1 e2 _
      subst e1; subst e2
      have c1 := hc k hkx
      have hS1 : Hid (izI (fun i => xs.getD i 0) (k + 1) = bits .and .i64 (izI (fun i => xs.getD i 0) k) (bits .andNot .i64 63 xs[k])) := by unfold Hid; rw [izI, getD_get hkx]
      have hS2 : Hid (ioI (fun i => xs.getD i 0) (k + 1) = bits .and .i64 (ioI (fun i => xs.getD i 0) k) (bits .and .i64 63 xs[k])) := by unfold Hid; rw [ioI, getD_get hkx]
      clear hc
      generalize hgx : xs[k] = x at *
      clear hgx hkx
      generalize izI (fun i => xs.getD i 0) k = p at *
      generalize ioI (fun i => xs.getD i 0) k = q at *
      have HW := Lib.hid fun W => KW.out x W
      generalize bits .andNot .i64 63 x = x1 at *
      generalize bits .and .i64 63 x = x2 at *
      have HJ := Lib.hid fun W => KJ.out p q x1 x2 W
      have hzG : G < wr.drew.heap.size := hM.out.lt
      have hMd : IB wr.drew G 51 [p, q] := hM.out
      obtain ⟨d0, d1⟩ := hM.out.two
      clear hb1 hb2
      go_wp2_with (fail)
      go_region_law (first
        | (go_simp; go_at_call 98; (with_reducible refine (HW.out _).mono ?_); rintro e w3 ⟨rfl, hb3⟩; have M3 := IB.below hMd hb3 hzG; have d03 := M3.two.1; have d13 := M3.two.2)
        | (go_simp; go_at_call 94; (with_reducible refine (HJ.out _).mono ?_); rintro e w4 ⟨rfl, hb4⟩; have M4 := IB.below M3 hb4 M3.lt; have d04 := M4.two.1; have d14 := M4.two.2; have f04 := M4.fz.1; have f14 := M4.fz.2))
      all_goals
        have hb5 := hb3.trans (hb4.mono hb3.size)
        have hR := Lib.hid (M4.put2 (bits .and .i64 p x1) (bits .and .i64 q x2))
        have hN4 := IB.below (show IB wr.drew w.heap.size 51 [0, 0] from hN.out) hb5 hN.out.lt
        have hI4 := IS.below (show IS wr.drew (w.heap.size + 1) G (some ⟨b, o, none⟩) xs from hI.out) hb5 (Nat.le_of_lt hzG)
        have hB4 := (hBL.out.drew).trans (hb5.mono hBL.out.size)
        have hRN : Hid (IB ((w4.setCell ⟨G, 0, none⟩ (.int .i64 (bits .and .i64 p x1))).setCell ⟨G, 1, none⟩ (.int .i64 (bits .and .i64 q x2))) w.heap.size 51 [0, 0]) :=
          (Below.heap_setCell _ ⟨G, 1, none⟩ _ w.heap.size (by have := lo.out; show w.heap.size ≠ G; omega)).trans ((Below.heap_setCell _ ⟨G, 0, none⟩ _ w.heap.size (by have := lo.out; show w.heap.size ≠ G; omega)).trans hN4)
        have hRI : Hid (IS ((w4.setCell ⟨G, 0, none⟩ (.int .i64 (bits .and .i64 p x1))).setCell ⟨G, 1, none⟩ (.int .i64 (bits .and .i64 q x2))) (w.heap.size + 1) G (some ⟨b, o, none⟩) xs) :=
          hI4.keep fun r hr1 hr2 => World.cell?_of_block ((Below.heap_setCell _ ⟨G, 1, none⟩ _ r.block (by show r.block ≠ G; omega)).trans (Below.heap_setCell _ ⟨G, 0, none⟩ _ r.block (by show r.block ≠ G; omega)))
        have hRB := Lib.hid (below_put2 hB4 (g := G) (by have := lo.out; omega) (.int .i64 (bits .and .i64 p x1)) (.int .i64 (bits .and .i64 q x2)))
        clear hb3 hb4 hb5 M3 M4 hN4 hI4 hB4 d03 d13 d04 d14 f04 f14 hMd hzG d0 d1 c1
        go_wp2
        go_roundw
        case rel => exact ⟨k + 1, by omega, by go_num, by rw [hS1.out, hS2.out]; exact hR.out, hRN.out, hRI.out, hRB.out⟩
        case measure => simp [intOf]; omega
    · obtain rfl : k = n := by omega
      have r1' := r1.out
      have r2' := r2.out
      generalize izI (fun i => xs.getD i 0) k = p at *
      generalize ioI (fun i => xs.getD i 0) k = q at *
      have s1 := Lib.hid r1'
      have s2 := Lib.hid r2'
      clear r1' r2' r1 r2
      obtain ⟨d0, d1⟩ := hM.out.two
      obtain ⟨g0, g1⟩ := hN.out.two
      obtain ⟨f0, f1⟩ := hN.out.fz
      have hR := Lib.hid (hN.out.put2 p q)
      have hRB := Lib.hid (below_put2 hBL.out (g := w.heap.size) (Nat.le_refl _) (.int .i64 p) (.int .i64 q))
      go_wp2
      rw [s1.out, s2.out]
      exact known_ret2 rfl rfl rfl hR.out ⟨rfl, hRB.out⟩
end Go.Proofs.Ytcfmfbgnfpgpgaa
