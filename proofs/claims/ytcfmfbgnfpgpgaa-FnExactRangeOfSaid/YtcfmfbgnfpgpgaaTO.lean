import Derived.Test.YtcfmfbgnfpgpgaaTN
import Derived.WalkKit
import Derived.WalkSpells
import Derived.WalkLawsBesides
import Derived.Lib.Hide
/- Inputs that matter: the model's search for a witness. -/
namespace Go.Proofs.Ytcfmfbgnfpgpgaa
open Go.RowKit
set_option linter.unusedVariables false
set_option maxRecDepth 100000

/-- What the search leaves. -/
def wiI (xs : List Int) (k : Int) (n : Nat) : Int := firstI (fun i => isW (lwI xs k i)) n
def wiR (xs : List Int) (k : Int) (n : Nat) : List Int := if wiI xs k n < 0 then [] else [wiI xs k n / 64, wiI xs k n % 64, lwI xs k (wiI xs k n).toNat]
theorem three_ib (w : World) (a b c : Int) : IB (w.alloc (.cells #[.int .i64 a, .int .i64 b, .int .i64 c] 3)) w.heap.size 3 [a, b, c] := heap_alloc_new w _
theorem three_ow (w : World) (lo : Nat) (a b c : Int) (h : lo ≤ w.heap.size) : OW (w.alloc (.cells #[.int .i64 a, .int .i64 b, .int .i64 c] 3)) lo (w.alloc (.cells #[.int .i64 a, .int .i64 b, .int .i64 c] 3)).heap.size (.slice (some ⟨w.heap.size, 0, none⟩) 3 3) [a, b, c] :=
  OW.ofIB (three_ib w a b c) (by simp) h (by simp)
theorem ints3 (w w0 : World) (a b c : Int) (xs : List Int) (ok : Bool) (hx : xs = [a, b, c]) (hok : ok = true) (hb : Below w0.heap.size w0 w) : IntsRes w0 xs ok (.returned (.tuple #[.slice (some ⟨w.heap.size, 0, none⟩) 3 3, .bool true])) (w.alloc (.cells #[.int .i64 a, .int .i64 b, .int .i64 c] 3)) := by
  subst hx; subst hok
  exact ⟨_, 3, rfl, three_ow w w0.heap.size a b c hb.size, hb.alloc hb.size _⟩

set_option maxHeartbeats 4000000 in
theorem eqWitness_any (L B : Nat) (A : Option Addr) (c : Nat) (es : List Nd) (k : Int) (w : World) (hg : good es = true) (hk : isK k = true) (hes : NS w L B A es) (hB : B ≤ w.heap.size) :
    Calls Try.prog 80 #[.slice A es.length c, .int .i64 k] w (IntsRes w (wiR (tab es) k 4096) (decide (0 ≤ wiI (tab es) k 4096))) := by
  have TE := Lib.hid (exTable_n L B A c es w hg hes hB)
  have hlx := tab_len es
  obtain ⟨n, hn⟩ : ∃ n, n = (tab es).length := ⟨_, rfl⟩
  have hn4 := Lib.hid (show n = 4096 by rw [hn, hlx])
  rw [← hn4.out] at TE ⊢
  have hxn := Lib.hid hn.symm
  have hnn : n ≤ 1000000 := by have := hn4.out; omega
  have hkk := Lib.hid hk
  clear hn hlx hk hes hB hg
  generalize tab es = xs at *
  go_enter Try.func80, Try.ntmps80
  go_wp2_with (fail)
  refine TE.out.mono ?_
  rintro e w2 ⟨V1, v1, rfl, hi, hb⟩
  have b2 := Lib.hid hb
  have I1 := Lib.hid hi
  clear hi hb
  go_wp2
  go_loop [15] (fun i => ∃ q : Nat, q ≤ n ∧ i = .int .i64 q ∧ ∀ j, j < q → isW (lwI xs k j) = false) (fun i => n - (intOf i).toNat)
  case atStart => exact ⟨0, Nat.zero_le _, rfl, fun j hj => absurd hj (Nat.not_lt_zero _)⟩
  case round =>
    obtain ⟨q, hq, rfl, hh⟩ := hrel
    have hH := Lib.hid hh; clear hh
    by_cases hlt : q < n
    · have hqx : q < xs.length := by rw [hxn.out]; exact hlt
      obtain ⟨b, o, rfl, _, hc⟩ := I1.out (by rw [hxn.out]; omega)
      have c1 := hc q hqx
      have hC := Lib.hid hc
      have hx := Lib.hid (getD_get hqx)
      have hcw : Hid (∀ wd, wd < 64 → atW k q wd < n ∧ ∃ y, w2.cell? ⟨b, o + atW k q wd, none⟩ = some (.int .i64 y) ∧ y = xs.getD (atW k q wd) 0) := by
        intro wd hwd
        have hm : atW k q wd < n := by have := hn4.out; unfold atW; split <;> omega
        have hmx : atW k q wd < xs.length := by rw [hxn.out]; exact hm
        exact ⟨hm, _, hC.out _ hmx, (getD_get hmx).symm⟩
      have hq4 : (q : Int) ≤ 4095 := by have := hn4.out; omega
      clear hc hC
      generalize hgx : xs[q] = x at *
      clear hgx hqx
      go_wp2
      go_loop [9] (fun i => ∃ v : Nat, v ≤ 64 ∧ i = .int .i64 v ∧ ∀ j, j < v → (xs.getD (atW k q j) 0 != x) = false) (fun i => 64 - (intOf i).toNat)
      case atStart => exact ⟨0, Nat.zero_le _, rfl, fun j hj => absurd hj (Nat.not_lt_zero _)⟩
      case round =>
        obtain ⟨v, hv, rfl, hh⟩ := hrel
        have hJ := Lib.hid hh; clear hh
        by_cases hlt2 : v < 64
        · have hv63 : (v : Int) ≤ 63 := by omega
          obtain ⟨hm, y, hcy, hy⟩ := hcw.out v hlt2
          have hY := Lib.hid hy
          have ha1 : Hid (k = 1 → atW k q v = 64 * (q / 64) + v) := fun h => by unfold atW; rw [if_pos h]
          have ha0 : Hid (k ≠ 1 → atW k q v = 64 * v + q % 64) := fun h => by unfold atW; rw [if_neg h]
          have hfin : Hid (y ≠ x → lwI xs k q = v) := fun h => by
            unfold lwI; rw [hx.out]
            exact firstI_some hlt2 (by rw [← hY.out]; exact bne_iff_ne.2 h) hJ.out
          clear hy
          obtain ⟨m, hmm⟩ : ∃ m, m = atW k q v := ⟨_, rfl⟩
          rw [← hmm] at hm hcy ha1 ha0
          have hMM := Lib.hid hmm
          clear hmm
          by_cases hk2 : k = 1
          · subst hk2
            have hmm := ha1.out rfl
            have hm2 : 64 * ((q : Int) / 64) + (v : Int) = (m : Int) := by omega
            have hmh := Lib.hid hmm
            clear hmm
            cases hxy : (y != x)
            · go_wp2
              go_round
              case rel => exact ⟨v + 1, by omega, by go_num, fun j hj => by
                by_cases e : j = v
                · rw [e, ← hY.out]; exact hxy
                · exact hJ.out j (by omega)⟩
              case measure => simp [intOf]; omega
            · have hlw := hfin.out (bne_iff_ne.1 hxy)
              have hwi : wiI xs 1 n = q := firstI_some hlt (by rw [hlw]; exact (isW_iff _).2 ⟨by omega, by omega⟩) hH.out
              have hLW := Lib.hid hlw
              have hWI := Lib.hid hwi
              clear hlw hwi
              go_wp2
              go_ret2
              refine ints3 w2 w _ _ _ _ _ ?_ ?_ b2.out
              · unfold wiR
                rw [hWI.out, if_neg (by omega), Int.toNat_natCast, hLW.out]
                try (congr 1; unfold wrap64; omega)
              · rw [hWI.out]; simp
          · have hk3 : (k == 1) = false := by simpa using hk2
            have hmm := ha0.out hk2
            have hm2 : 64 * (v : Int) + (q : Int) % 64 = (m : Int) := by omega
            have hmh := Lib.hid hmm
            clear hmm
            cases hxy : (y != x)
            · go_wp2
              go_round
              case rel => exact ⟨v + 1, by omega, by go_num, fun j hj => by
                by_cases e : j = v
                · rw [e, ← hY.out]; exact hxy
                · exact hJ.out j (by omega)⟩
              case measure => simp [intOf]; omega
            · have hlw := hfin.out (bne_iff_ne.1 hxy)
              have hwi : wiI xs k n = q := firstI_some hlt (by rw [hlw]; exact (isW_iff _).2 ⟨by omega, by omega⟩) hH.out
              have hLW := Lib.hid hlw
              have hWI := Lib.hid hwi
              clear hlw hwi
              go_wp2
              go_ret2
              refine ints3 w2 w _ _ _ _ _ ?_ ?_ b2.out
              · unfold wiR
                rw [hWI.out, if_neg (by omega), Int.toNat_natCast, hLW.out]
                try (congr 1; unfold wrap64; omega)
              · rw [hWI.out]; simp
        · obtain rfl : v = 64 := by omega
          have hlw := Lib.hid (show isW (lwI xs k q) = false by unfold lwI; rw [hx.out, firstI_none hJ.out]; rfl)
          go_wp2
          go_round
          case rel => exact ⟨q + 1, by omega, by go_num, fun j hj => by
            by_cases e : j = q
            · rw [e, hlw.out]
            · exact hH.out j (by omega)⟩
          case measure => simp [intOf]; omega
    · obtain rfl : q = n := by omega
      have hwi := Lib.hid (show wiI xs k q = -1 from firstI_none hH.out)
      go_wp2
      go_ret2
      exact nil_fin (by unfold wiR; rw [hwi.out]; rfl) (by rw [hwi.out]; rfl) b2.out
end Go.Proofs.Ytcfmfbgnfpgpgaa
