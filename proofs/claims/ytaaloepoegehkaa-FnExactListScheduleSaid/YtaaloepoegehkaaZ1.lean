/- Texts of this proof, one behind the other: NAR, NAS, NAD, NAE, NBG, OC. -/
import Derived.Test.YtaaloepoegehkaaZ2
import Derived.Test.YtaaloepoegehkaaZ7
import Derived.WalkKit
import Derived.WalkSpells
import Derived.WalkLawsBesides
import Derived.Deep.RegionLaw
import Derived.Deep.RegionHeld3
import Derived.Lib.Hide
import Derived.Test.YtaaloepoegehkaaZ9
import Derived.Test.YtaaloepoegehkaaLawN9B
import Derived.Test.YtaaloepoegehkaaKMInstr
import Derived.ProofKit
import Derived.OpenShut
import Derived.ShutString
import Derived.ChangeOld
import Derived.Below
import Derived.Deep.Slices
import Derived.Deep.Fields
/- Chapter 9: latest cycles: plain, program. -/
namespace Go.Proofs.Ytaaloepoegehkaa
open Go.RowKit
set_option linter.unusedVariables false
set_option maxRecDepth 100000

def latL (cs : List In) (len : Int) : List Int := (List.range cs.length).map fun q => len - hH cs q
def latK (cs : List In) (len : Int) : Bool := orGood cs && (inR len 0 100 && decide (pbV cs ≤ len))
def latR (cs : List In) (len : Int) : List Int := if latK cs len = true then latL cs len else []
theorem latL_len (cs : List In) (len : Int) : (latL cs len).length = cs.length := by simp [latL]
theorem latK_no1 {cs : List In} (len : Int) (h : orGood cs = false) : latK cs len = false := by unfold latK; rw [h]; rfl
theorem latK_no2 (cs : List In) {len : Int} (h : inR len 0 100 = false) : latK cs len = false := by unfold latK; rw [h]; simp
theorem latK_no3 {cs : List In} {len : Int} (h : ¬ pbV cs ≤ len) : latK cs len = false := by unfold latK; rw [decide_eq_false h]; simp
theorem latK_yes {cs : List In} {len : Int} (h : orGood cs = true) (h2 : inR len 0 100 = true) (h3 : pbV cs ≤ len) : latK cs len = true := by unfold latK; rw [h, h2, decide_eq_true h3]; rfl
theorem latR_no {cs : List In} {len : Int} (h : latK cs len = false) : latR cs len = [] := by unfold latR; rw [h]; rfl
theorem latR_yes {cs : List In} {len : Int} (h : latK cs len = true) : latR cs len = latL cs len := by unfold latR; rw [if_pos h]
theorem latR_len (cs : List In) (len : Int) : (latR cs len).length ≤ 1048576 := by
  cases h : latK cs len
  · rw [latR_no h]; simp
  · rw [latR_yes h, latL_len]
    have hg : orGood cs = true := by unfold latK at h; rw [Bool.and_eq_true] at h; exact h.1
    have := (orGood_parts hg).1; omega
theorem pbV_ge {cs : List In} {q : Nat} (h : q < cs.length) : hH cs q ≤ pbV cs := by
  unfold pbV
  refine (mx_le (hL cs) 0).1 _ ?_
  unfold hL
  exact List.mem_map.2 ⟨q, by simpa using h, rfl⟩
theorem pbV_le {cs : List In} {len : Int} (h0 : 0 ≤ len) (h : ∀ q, q < cs.length → hH cs q ≤ len) : pbV cs ≤ len := by
  unfold pbV
  rcases mx_in (hL cs) 0 with e | e
  · rw [e]; exact h0
  · unfold hL at e ⊢
    obtain ⟨q, hq, hq2⟩ := List.mem_map.1 e
    rw [← hq2]; exact h q (by simpa using hq)
def lts (cs : List In) (len : Int) (k : Nat) : List Int := (List.range cs.length).map fun q => if q < k then len - hH cs q else hH cs q
theorem lts_len (cs : List In) (len : Int) (k : Nat) : (lts cs len k).length = cs.length := by simp [lts]
theorem lts_zero (cs : List In) (len : Int) : lts cs len 0 = hL cs := by
  unfold lts hL
  exact mapR_eq _ fun q hq => if_neg (by omega)
theorem lts_end (cs : List In) (len : Int) : lts cs len cs.length = latL cs len := by
  unfold lts latL
  exact mapR_eq _ fun q hq => if_pos hq
theorem lts_at {cs : List In} (len : Int) {k : Nat} (h : k < cs.length) : (lts cs len k).getD k 0 = hH cs k := by
  unfold lts; rw [mapR_at _ _ h, if_neg (by omega)]
theorem lts_set {cs : List In} (len : Int) {k : Nat} (h : k < cs.length) : (lts cs len k).set k (len - hH cs k) = lts cs len (k + 1) := by
  unfold lts
  rw [mapR_set]
  refine mapR_eq _ fun q hq => ?_
  by_cases e : q = k
  · rw [if_pos e, if_pos (by omega), e]
  · rw [if_neg e]
    by_cases h2 : q < k
    · rw [if_pos h2, if_pos (by omega)]
    · rw [if_neg h2, if_neg (by omega)]
theorem OW.some9 {w : World} {lo hi n c : Nat} {A : Option Addr} {xs : List Int} (h : OW w lo hi (.slice A n c) xs) (h0 : 0 < n) : ∃ g, A = some ⟨g, 0, none⟩ ∧ lo ≤ g := by
  have hn := OW.len9 h
  rcases h.1.2 with ⟨hv, h1⟩ | ⟨g, cap, cur, hv, hg, _⟩
  · rw [hn] at h0; omega
  · injection hv with h1 h2 h3
    exact ⟨g, h1, hg⟩
set_option maxHeartbeats 4000000 in
theorem latest_any (L B : Nat) (A : Option Addr) (c : Nat) (cs : List In) (len : Int) (L1 B1 : Nat) (An : Option Addr) (cn : Nat) (w : World) (h20 : cs.length ≤ 20) (hlen : 0 ≤ len ∧ len ≤ 100) (hes : RS In.enc 5 w L B A cs) (hB : B ≤ w.heap.size) (hpn : PN w L1 B1 An (nds cs)) (hB1 : B1 ≤ w.heap.size) :
    Calls Try.prog 164 #[.agg #[.slice A cs.length c, .slice An cs.length cn], .int .i64 len] w (FreshI w (latL cs len)) := by
  have a1 := (Below.refl w.heap.size w).alloc (Nat.le_refl _) (.cells #[.slice A cs.length c, .slice An cs.length cn] 97)
  have H := Lib.hid (heights_any L B A c cs L1 B1 An cn (w.alloc (.cells #[.slice A cs.length c, .slice An cs.length cn] 97)) h20 (hes.below a1 hB) (Nat.le_trans hB a1.size) (hpn.below a1 hB1) (Nat.le_trans hB1 a1.size))
  have hP1 := Lib.hid (PB.new w (.slice A cs.length c) (.slice An cs.length cn))
  have hA1 := Lib.hid a1
  have hHl := Lib.hid (hL_len cs)
  have hT0 := Lib.hid (lts_zero cs len)
  have hTe := Lib.hid (lts_end cs len)
  have hTa := Lib.hid fun (k : Nat) (h : k < cs.length) => lts_at len h
  have hTs := Lib.hid fun (k : Nat) (h : k < cs.length) => lts_set len h
  have hTl := Lib.hid (lts_len cs len)
  have hLl := Lib.hid (latL_len cs len)
  have hHb := Lib.hid (hH_bd h20)
  clear hes hpn hB hB1 a1
  generalize lts cs len = T at *
  generalize latL cs len = LL at *
  generalize hH cs = HH at *
  generalize hL cs = hs at *
  have q0 := PB.c0 hP1.out
  have q1 := PB.c1 hP1.out
  go_enter Try.func164, Try.ntmps164
  go_wp2_with (fail)
  refine H.out.mono ?_
  rintro e w1 ⟨A1, c1, rfl, ho1, hb1⟩
  rw [← hT0.out, hTl.out] at ho1 ⊢
  have hO1 := Lib.hid (ho1.lower hA1.out.size)
  have hB1 := Lib.hid (hA1.out.trans (hb1.mono hA1.out.size))
  clear ho1 hb1 H q0 q1
  go_wp2
  go_loopw [12] (fun q wr => ∃ k : Nat, k ≤ cs.length ∧ q = .int .i64 k ∧ OW wr w.heap.size wr.heap.size (.slice A1 cs.length c1) (T k) ∧ Below w.heap.size w wr) (fun q _ => cs.length - (intOf q).toNat)
  case atStart => exact ⟨0, Nat.zero_le _, rfl, hO1.out, hB1.out⟩
  case round =>
    clear hO1 hB1
    obtain ⟨k, hk, rfl, how, hbel⟩ := hrel
    have hO := Lib.hid how
    have hBL := Lib.hid hbel
    clear how hbel
    by_cases hlt : k < cs.length
    · have hki : (k : Int) < (cs.length : Int) := by omega
      have hk0 : (0 : Int) ≤ (k : Int) := by omega
      obtain ⟨g, rfl, hgl⟩ := OW.some9 hO.out (by omega)
      obtain ⟨ok, fk⟩ := OW.at9 hO.out k (by rw [hTl.out]; exact hlt)
      rw [hTa.out k hlt] at ok
      have hbd := hHb.out k
      have hP := hO.out.put9 k (len - HH k)
      rw [hTs.out k hlt] at hP
      generalize HH k = y at *
      have hw9 : IntKind.i64.wrap (len - y) = len - y := IntWalk.i64_in _ (by omega)
      have hz : (wr.setCell ⟨g, k, none⟩ (.int .i64 (len - y))).heap.size = wr.heap.size := World.size_setCell _ _ _
      have hP2 := Lib.hid (show OW (wr.setCell ⟨g, k, none⟩ (.int .i64 (len - y))) w.heap.size (wr.setCell ⟨g, k, none⟩ (.int .i64 (len - y))).heap.size (.slice (some ⟨g, 0, none⟩) cs.length c1) (T (k + 1)) from by rw [hz]; exact hP)
      have hBs := Lib.hid (hBL.out.setCell (p := ⟨g, k, none⟩) hgl (.int .i64 (len - y)))
      clear hP hz
      go_wp2
      go_roundw
      case rel => exact ⟨k + 1, by omega, by go_num, hP2.out, hBs.out⟩
      case measure => simp [intOf]; omega
    · obtain rfl : k = cs.length := by omega
      have hO9 := hO.out
      rw [hTe.out] at hO9
      have hO8 := Lib.hid hO9
      clear hO9
      go_wp2
      go_ret
      exact ⟨_, _, by rw [hLl.out]; rfl, by rw [hLl.out]; exact hO8.out, hBL.out⟩
end Go.Proofs.Ytaaloepoegehkaa

/- Chapter 9: LatestOf of the program. -/
namespace Go.Proofs.Ytaaloepoegehkaa
open Go.RowKit
set_option linter.unusedVariables false
set_option maxRecDepth 100000

end Go.Proofs.Ytaaloepoegehkaa

/- Chapter 9: bounds by the width, plain; of the program. -/
namespace Go.Proofs.Ytaaloepoegehkaa
open Go.RowKit
set_option linter.unusedVariables false
set_option maxRecDepth 100000

def cgE (xs : List Int) (c : Int) (k : Nat) : Int := (((xs.take k).filter fun x => decide (c ≤ x)).length : Nat)
def lcE (cs : List In) (xs : List Int) (c a : Int) (k : Nat) : Int := (List.range k).foldl (fun m i => if c ≤ xs.getD i 0 then min m (cstA cs i) else m) a
theorem cgE_zero (xs : List Int) (c : Int) : cgE xs c 0 = 0 := by unfold cgE; rw [List.take_zero]; rfl
theorem cgE_yes {xs : List Int} {c : Int} {k : Nat} (hk : k < xs.length) (h : c ≤ xs.getD k 0) : cgE xs c (k + 1) = cgE xs c k + 1 := by
  rw [List.getD_eq_getElem?_getD, List.getElem?_eq_getElem hk, Option.getD_some] at h
  unfold cgE
  rw [List.take_succ_eq_append_getElem hk, List.filter_append, List.length_append]
  simp [h]
theorem cgE_no {xs : List Int} {c : Int} {k : Nat} (hk : k < xs.length) (h : ¬ c ≤ xs.getD k 0) : cgE xs c (k + 1) = cgE xs c k := by
  rw [List.getD_eq_getElem?_getD, List.getElem?_eq_getElem hk, Option.getD_some] at h
  unfold cgE
  rw [List.take_succ_eq_append_getElem hk, List.filter_append, List.length_append]
  simp [h]
theorem cgE_bd (xs : List Int) (c : Int) (k : Nat) : 0 ≤ cgE xs c k ∧ cgE xs c k ≤ xs.length := by
  unfold cgE
  have h1 := List.length_filter_le (fun x => decide (c ≤ x)) (xs.take k)
  rw [List.length_take] at h1
  omega
theorem lcE_succ (cs : List In) (xs : List Int) (c a : Int) (k : Nat) : lcE cs xs c a (k + 1) = if c ≤ xs.getD k 0 then min (lcE cs xs c a k) (cstA cs k) else lcE cs xs c a k := by
  unfold lcE; rw [List.range_succ, List.foldl_append]; rfl
theorem lcE_bd (cs : List In) (xs : List Int) (c : Int) {a : Int} (ha : 0 ≤ a) : ∀ k, 0 ≤ lcE cs xs c a k ∧ lcE cs xs c a k ≤ a
  | 0 => ⟨ha, Int.le_refl _⟩
  | k + 1 => by
    rw [lcE_succ]
    have := lcE_bd cs xs c ha k
    have := cstA_bd cs k
    split <;> omega
theorem lcE_alt (cs : List In) (xs : List Int) (c : Int) {a : Int} (ha : 4 ≤ a) : ∀ k, k ≤ xs.length → (cgE xs c k = 0 ∧ lcE cs xs c a k = a) ∨ (1 ≤ cgE xs c k ∧ lcE cs xs c a k = lcE cs xs c 4 k)
  | 0, _ => .inl ⟨cgE_zero _ _, rfl⟩
  | k + 1, hk => by
    have ih := lcE_alt cs xs c ha k (by omega)
    have i4 := lcE_alt cs xs c (a := 4) (Int.le_refl _) k (by omega)
    have hb := cstA_bd cs k
    rw [lcE_succ, lcE_succ]
    by_cases h : c ≤ xs.getD k 0
    · rw [cgE_yes (by omega) h, if_pos h, if_pos h]
      have hg := cgE_bd xs c k
      rcases ih with ⟨h1, h2⟩ | ⟨h1, h2⟩
      · rcases i4 with ⟨h3, h4⟩ | ⟨h3, h4⟩
        · right; rw [h2, h4]; omega
        · omega
      · right; rw [h2]; omega
    · rw [cgE_no (by omega) h, if_neg h, if_neg h]; exact ih
theorem cgE_mono (xs : List Int) (c : Int) {k : Nat} : ∀ n, k ≤ n → n ≤ xs.length → cgE xs c k ≤ cgE xs c n
  | 0, h, _ => by obtain rfl : k = 0 := by omega
                  exact Int.le_refl _
  | n + 1, h, hn => by
    rcases Nat.lt_or_ge n k with h1 | h1
    · obtain rfl : k = n + 1 := by omega
      exact Int.le_refl _
    · have ih := cgE_mono xs c n h1 (by omega)
      by_cases e : c ≤ xs.getD n 0
      · rw [cgE_yes (by omega) e]; omega
      · rw [cgE_no (by omega) e]; exact ih
theorem lcE_two {cs : List In} {xs : List Int} {q : Nat} (hq : q < xs.length) {a b : Int} (ha : 4 ≤ a) (hb : 4 ≤ b) : lcE cs xs (xs.getD q 0) a xs.length = lcE cs xs (xs.getD q 0) b xs.length := by
  have h1 := cgE_mono xs (xs.getD q 0) xs.length (k := q + 1) hq (Nat.le_refl _)
  rw [cgE_yes hq (Int.le_refl _)] at h1
  have h0 := cgE_bd xs (xs.getD q 0) q
  rcases lcE_alt cs xs (xs.getD q 0) ha xs.length (Nat.le_refl _) with h | h
  · omega
  · rcases lcE_alt cs xs (xs.getD q 0) hb xs.length (Nat.le_refl _) with h2 | h2
    · omega
    · rw [h.2, h2.2]
def bdE (cs : List In) (xs : List Int) (wide c a : Int) : Int := c + (cgE xs c xs.length + wide - 1).tdiv wide + lcE cs xs c a xs.length - 1
def wbE (cs : List In) (xs : List Int) (wide : Int) (k : Nat) : Int := (List.range k).foldl (fun m q => max m (bdE cs xs wide (xs.getD q 0) 100)) 0
theorem wbE_succ (cs : List In) (xs : List Int) (wide : Int) (k : Nat) : wbE cs xs wide (k + 1) = max (wbE cs xs wide k) (bdE cs xs wide (xs.getD k 0) 100) := by
  unfold wbE; rw [List.range_succ, List.foldl_append]; rfl
theorem bdE_two {cs : List In} {xs : List Int} {wide : Int} {q : Nat} (hq : q < xs.length) {a : Int} (ha : 4 ≤ a) : bdE cs xs wide (xs.getD q 0) a = bdE cs xs wide (xs.getD q 0) 100 := by
  unfold bdE; rw [lcE_two hq ha (show (4 : Int) ≤ 100 by omega)]
theorem tdiv_bd {n wide : Int} (h0 : 0 ≤ n) (h1 : n ≤ 100) (hw : 1 ≤ wide) : 0 ≤ n.tdiv wide ∧ n.tdiv wide ≤ 100 := by
  rw [Int.tdiv_eq_ediv_of_nonneg h0]
  exact ⟨Int.ediv_nonneg h0 (by omega), Int.le_trans (Int.ediv_le_self wide h0) h1⟩

set_option maxHeartbeats 8000000 in
theorem boundFrom_any (L B : Nat) (A : Option Addr) (c : Nat) (cs : List In) (An : Value) (q : Int) (L' B' : Nat) (A' : Option Addr) (c' : Nat) (xs : List Int) (wide : Int) (w : World) (hl : cs.length ≤ 20) (hes : RS In.enc 5 w L B A cs) (hB : B ≤ w.heap.size) (hlen : xs.length = cs.length) (hq : 0 ≤ q ∧ q ≤ 1000) (hw : 1 ≤ wide ∧ wide ≤ 3) (hc1 : 1 ≤ cgE xs q xs.length) (hns : IS w L' B' A' xs) (hB' : B' ≤ w.heap.size) :
    Calls Try.prog 203 #[.agg #[.slice A cs.length c, An], .int .i64 q, .slice A' cs.length c', .int .i64 wide] w fun e w' => e = .returned (.int .i64 (bdE cs xs wide q 9223372036854775807)) ∧ Below w.heap.size w w' := by
  have hbx := Lib.hid ((Below.refl w.heap.size w).alloc (Nat.le_refl _) (.cells #[.slice A cs.length c, An] 97))
  have hP := Lib.hid (PB.new w (.slice A cs.length c) An)
  have hE := Lib.hid fun (W : World) (hW : Below w.heap.size w W) => hes.below hW hB
  have hIS := Lib.hid fun (W : World) (hW : Below w.heap.size w W) => hns.below hW hB'
  have hLen := Lib.hid hlen
  have hGy := Lib.hid fun (k : Nat) (hk : k < xs.length) (h : q ≤ xs.getD k 0) => cgE_yes hk h
  have hGn := Lib.hid fun (k : Nat) (hk : k < xs.length) (h : ¬ q ≤ xs.getD k 0) => cgE_no hk h
  have hGb := Lib.hid (cgE_bd xs q)
  have hG0 := Lib.hid (cgE_zero xs q)
  have hLs := Lib.hid (lcE_succ cs xs q 9223372036854775807)
  have hLb := Lib.hid (lcE_bd cs xs q (a := 9223372036854775807) (by omega))
  have hL0 : Hid (lcE cs xs q 9223372036854775807 0 = 9223372036854775807) := rfl
  have hCe : Hid (∀ i (h : i < cs.length), cstA cs i = (fm cs[i].op).c) := fun i h => by unfold cstA; rw [inAt_eq h]
  have hR : Hid (bdE cs xs wide q 9223372036854775807 = q + (cgE xs q cs.length + wide - 1).tdiv wide + lcE cs xs q 9223372036854775807 cs.length - 1) := by unfold Hid bdE; rw [hlen]
  have hAl := Lib.hid (lcE_alt cs xs q (a := 9223372036854775807) (by omega) xs.length (Nat.le_refl _))
  have hA4 := Lib.hid (lcE_bd cs xs q (a := 4) (by omega) xs.length)
  rw [hlen] at hAl hA4 hc1
  have hC1 := Lib.hid hc1
  clear hes hns hB hB' hlen hc1
  generalize bdE cs xs wide q 9223372036854775807 = RR at *
  generalize lcE cs xs q 4 cs.length = l4 at *
  generalize cgE xs q = G at *
  generalize lcE cs xs q 9223372036854775807 = F at *
  go_enter Try.func203, Try.ntmps203
  go_wp2_with (fail)
  have p0 := PB.c0 hP.out
  have p1 := PB.c1 hP.out
  go_wp2_with (fail)
  clear p0 p1
  obtain ⟨g1, hg1⟩ : ∃ g1, g1 = w.heap.size := ⟨_, rfl⟩
  rw [← hg1]
  clear hP hg1
  generalize w.alloc (.cells #[.slice A cs.length c, An] 97) = W1 at *
  go_loopw [9, 10, 16] (fun u v q9 wr => ∃ k : Nat, k ≤ cs.length ∧ q9 = .int .i64 k ∧ u = .int .i64 (G k) ∧ v = .int .i64 (F k) ∧ Below W1.heap.size W1 wr) (fun _ _ q9 _ => cs.length - (intOf q9).toNat)
  case atStart => exact ⟨0, Nat.zero_le _, rfl, by rw [hG0.out], by rw [hL0.out], Below.refl _ _⟩
  case round =>
    obtain ⟨k, hk, rfl, rfl, rfl, hbel⟩ := hrel
    have hBL := Lib.hid hbel
    clear hbel
    by_cases hlt : k < cs.length
    · have hki : (k : Int) < (cs.length : Int) := by omega
      have hk0 : (0 : Int) ≤ (k : Int) := by omega
      have hbw := hbx.out.trans (hBL.out.mono hbx.out.size)
      have hkx : k < xs.length := by rw [hLen.out]; exact hlt
      obtain ⟨b, o, rfl, ⟨_, hbB⟩, hc⟩ := In.cells (hE.out wr hbw) (by omega)
      obtain ⟨c1, c2, c3, c4, c5⟩ := hc k hlt
      obtain ⟨xb, xo, rfl, ⟨_, hxb⟩, hxc⟩ := (hIS.out wr hbw) (by rw [hLen.out]; omega)
      have x0 := hxc k hkx
      have hgd : xs.getD k 0 = xs[k] := by rw [List.getD_eq_getElem?_getD, List.getElem?_eq_getElem hkx]; rfl
      rw [← hgd] at x0
      have hLk := hLs.out k
      have hgb := hGb.out k
      rw [hLen.out] at hgb
      have hlb := hLb.out k
      have hYy := hGy.out k hkx
      have hYn := hGn.out k hkx
      rw [hCe.out k hlt] at hLk
      clear hc hxc hgd hbw
      generalize hGG : G (k + 1) = g2 at *
      have hGh := Lib.hid hGG
      clear hGG
      generalize hFF : F (k + 1) = f2 at *
      have hFh := Lib.hid hFF
      clear hFF
      generalize G k = gk at *
      generalize F k = fk at *
      generalize xs.getD k 0 = y at *
      generalize cs[k] = nd at *
      obtain ⟨op, d, a, bb, m⟩ := nd
      dsimp only at *
      have hC := Lib.hid fun (W : World) => costOf_any op d a bb m W
      have hfc := fm_c op
      generalize (fm op).c = t at *
      have hX := Lib.hid (XB.newI9 wr ⟨op, d, a, bb, m⟩)
      have ha := Lib.hid ((Below.refl wr.heap.size wr).alloc (Nat.le_refl _) (.cells #[.string op, .int .i64 d, .int .i64 a, .int .i64 bb, .int .i64 m] 88))
      have x1 := (ha.out.cell (p := ⟨xb, xo + k, none⟩) (by
        rcases Nat.lt_or_ge xb wr.heap.size with h9 | h9
        · exact h9
        · simp [World.cell?, Array.getElem?_eq_none h9] at x0)).trans x0
      have hB1 := Lib.hid (hBL.out.trans (ha.out.mono hBL.out.size))
      have hw1 : IntKind.i64.wrap (gk + 1) = gk + 1 := IntWalk.i64_in _ (by omega)
      by_cases hy : q ≤ y
      · have hg2 : g2 = gk + 1 := hYy hy
        rw [if_pos hy] at hLk
        have hG2 := Lib.hid hg2
        have hF2 := Lib.hid hLk
        clear hg2 hLk hYy hYn
        go_wp2_with (fail)
        clear c1 c2 c3 c4 c5 x0 ha
        refine (hC.out _).mono ?_
        rintro e w2 ⟨rfl, hb2⟩
        have hB2 := Lib.hid (hB1.out.trans (hb2.mono hB1.out.size))
        clear hb2 x1
        go_wp2
        go_roundw
        case rel => exact ⟨k + 1, by omega, by go_num, by rw [hGh.out, hG2.out], by rw [hFh.out, hF2.out], hB2.out⟩
        case measure => simp [intOf]; omega
      · have hg2 : g2 = gk := hYn (by omega)
        rw [if_neg hy] at hLk
        have hG2 := Lib.hid hg2
        have hF2 := Lib.hid hLk
        clear hg2 hLk hYy hYn
        go_wp2
        go_roundw
        case rel => exact ⟨k + 1, by omega, by go_num, by rw [hGh.out, hG2.out], by rw [hFh.out, hF2.out], hB1.out⟩
        case measure => simp [intOf]; omega
    · obtain rfl : k = cs.length := by omega
      have hfin := Lib.hid (hbx.out.trans (hBL.out.mono hbx.out.size))
      have hgb := hGb.out cs.length
      rw [hLen.out] at hgb
      have h1 := hC1.out
      have h2 := hA4.out
      have hF4 : F cs.length = l4 := by
        rcases hAl.out with h | h
        · omega
        · exact h.2
      rw [hF4] at hR ⊢
      have hn0 : 0 ≤ G cs.length + wide - 1 ∧ G cs.length + wide - 1 ≤ 100 := by omega
      have ht := tdiv_bd hn0.1 hn0.2 hw.1
      clear hF4
      generalize G cs.length = n at *
      have hw1 : IntKind.i64.wrap (n + wide) = n + wide := IntWalk.i64_in _ (by omega)
      have hw2 : IntKind.i64.wrap (n + wide - 1) = n + wide - 1 := IntWalk.i64_in _ (by omega)
      have hwz : ¬ wide = 0 := by omega
      have hR2 := Lib.hid hR.out
      clear hR
      generalize hdv : (n + wide - 1).tdiv wide = dv at *
      have hw3 : IntKind.i64.wrap dv = dv := IntWalk.i64_in _ (by omega)
      have hw4 : IntKind.i64.wrap (q + dv) = q + dv := IntWalk.i64_in _ (by omega)
      have hw5 : IntKind.i64.wrap (q + dv + l4) = q + dv + l4 := IntWalk.i64_in _ (by omega)
      have hw6 : IntKind.i64.wrap (q + dv + l4 - 1) = q + dv + l4 - 1 := IntWalk.i64_in _ (by omega)
      go_wp2
      go_ret
      exact ⟨by rw [hR2.out]; rfl, hfin.out⟩

theorem wb_bd {cs : List In} {xs : List Int} {wide q a : Int} (hx : xs.length ≤ 20) (hq : 0 ≤ q ∧ q ≤ 1000) (hw : 1 ≤ wide ∧ wide ≤ 3) (ha : 0 ≤ a ∧ a ≤ 100) : -1 ≤ bdE cs xs wide q a ∧ bdE cs xs wide q a ≤ 1300 := by
  have h1 := cgE_bd xs q xs.length
  have h2 := lcE_bd cs xs q ha.1 xs.length
  have h3 := tdiv_bd (n := cgE xs q xs.length + wide - 1) (wide := wide) (by omega) (by omega) hw.1
  unfold bdE
  omega
theorem wbE_bd {cs : List In} {xs : List Int} {wide : Int} (hx : xs.length ≤ 20) (hb : ∀ x ∈ xs, 0 ≤ x ∧ x ≤ 1000) (hw : 1 ≤ wide ∧ wide ≤ 3) : ∀ k, 0 ≤ wbE cs xs wide k ∧ wbE cs xs wide k ≤ 1300
  | 0 => ⟨Int.le_refl _, by show (0 : Int) ≤ 1300; omega⟩
  | k + 1 => by
    rw [wbE_succ]
    have := wbE_bd (cs := cs) hx hb hw k
    have := wb_bd (cs := cs) (wide := wide) hx (getD_bd9 hb k) hw (a := 100) (by omega)
    omega
theorem er_bd9 {cs : List In} (h : cs.length ≤ 20) : ∀ x ∈ er cs cs.length, 0 ≤ x ∧ x ≤ 1000 := fun x hx => by
  have := er_bd cs cs.length x hx; omega
theorem cg_one {xs : List Int} {q : Nat} (hq : q < xs.length) : 1 ≤ cgE xs (xs.getD q 0) xs.length := by
  have h1 := cgE_mono xs (xs.getD q 0) xs.length (k := q + 1) hq (Nat.le_refl _)
  rw [cgE_yes hq (Int.le_refl _)] at h1
  have h0 := cgE_bd xs (xs.getD q 0) q
  omega
set_option maxHeartbeats 8000000 in
theorem wideBound_any (L B L1 B1 : Nat) (A : Option Addr) (c : Nat) (cs : List In) (An : Option Addr) (cn : Nat) (wide : Int) (w : World) (hl : cs.length ≤ 20) (hes : RS In.enc 5 w L B A cs) (hB : B ≤ w.heap.size) (hp : PN w L1 B1 An (nds cs)) (hB1 : B1 ≤ w.heap.size) (hw : 1 ≤ wide ∧ wide ≤ 3) :
    Calls Try.prog 163 #[.agg #[.slice A cs.length c, .slice An cs.length cn], .int .i64 wide] w fun e w' => e = .returned (.int .i64 (wbE cs (er cs cs.length) wide cs.length)) ∧ Below w.heap.size w w' := by
  have hbx := Lib.hid ((Below.refl w.heap.size w).alloc (Nat.le_refl _) (.cells #[.slice A cs.length c, .slice An cs.length cn] 97))
  have hP := Lib.hid (PB.new w (.slice A cs.length c) (.slice An cs.length cn))
  have hEr := Lib.hid (earliest_any A c L1 B1 An cn cs (w.alloc (.cells #[.slice A cs.length c, .slice An cs.length cn] 97)) hl (hp.below hbx.out hB1) (Nat.le_trans hB1 hbx.out.size))
  have hEl := er_len cs cs.length
  have hEb := er_bd9 hl
  have hBf := Lib.hid fun (W : World) (hW : Below w.heap.size w W) (k : Nat) (hk : k < cs.length) (L2 : Nat) (A2 : Option Addr) (c2 B2 : Nat) (hx : IS W L2 B2 A2 (er cs cs.length)) (hB2 : B2 ≤ W.heap.size) => boundFrom_any L B A c cs (.slice An cs.length cn) ((er cs cs.length).getD k 0) L2 B2 A2 c2 (er cs cs.length) wide W hl (hes.below hW hB) (Nat.le_trans hB hW.size) hEl (getD_bd9 hEb k) hw (cg_one (by rw [hEl]; exact hk)) hx hB2
  have hTw := Lib.hid fun (k : Nat) (hk : k < cs.length) => bdE_two (cs := cs) (wide := wide) (xs := er cs cs.length) (q := k) (by rw [hEl]; exact hk) (a := 9223372036854775807) (by omega)
  have hWs := Lib.hid (wbE_succ cs (er cs cs.length) wide)
  have hWb := Lib.hid (wbE_bd (cs := cs) (xs := er cs cs.length) (wide := wide) (by omega) hEb hw)
  have hW0 : Hid (wbE cs (er cs cs.length) wide 0 = 0) := rfl
  have hXb := Lib.hid fun (k : Nat) => wb_bd (cs := cs) (xs := er cs cs.length) (wide := wide) (by omega) (getD_bd9 hEb k) hw (a := 100) (by omega)
  have hLen := Lib.hid hEl
  clear hes hB hp hB1 hEb hEl
  generalize wbE cs (er cs cs.length) wide = WB at *
  generalize er cs cs.length = xs at *
  have hTw2 : Hid (∀ k, k < cs.length → bdE cs xs wide (xs.getD k 0) 9223372036854775807 = bdE cs xs wide (xs.getD k 0) 100) := fun k hk => hTw.out k hk
  clear hTw
  go_enter Try.func163, Try.ntmps163
  go_wp2_with (fail)
  have p0 := PB.c0 hP.out
  have p1 := PB.c1 hP.out
  go_wp2_with (fail)
  refine hEr.out.mono ?_
  rintro e w2 ⟨A2, c2, rfl, ho2, hb2⟩
  have hO2 := Lib.hid (OW.rs ho2)
  have hB2 := Lib.hid hb2
  have hlt0 : w.heap.size < (w.alloc (.cells #[.slice A cs.length c, .slice An cs.length cn] 97)).heap.size := by simp
  have hP2 := Lib.hid (CB.below hP.out hb2 hlt0)
  have hBw := Lib.hid (hbx.out.trans (hb2.mono hbx.out.size))
  have hlt2 := CB.lt hP2.out
  clear ho2 hb2 p0 p1 hP hlt0
  rw [hLen.out]
  go_wp2
  go_loopw [5, 13] (fun v q wr => ∃ k : Nat, k ≤ cs.length ∧ q = .int .i64 k ∧ v = .int .i64 (WB k) ∧ Below w2.heap.size w2 wr) (fun _ q _ => cs.length - (intOf q).toNat)
  case atStart => exact ⟨0, Nat.zero_le _, rfl, by rw [hW0.out], Below.refl _ _⟩
  case round =>
    obtain ⟨k, hk, rfl, rfl, hbel⟩ := hrel
    have hBL := Lib.hid hbel
    clear hbel
    by_cases hlt : k < cs.length
    · have hki : (k : Int) < (cs.length : Int) := by omega
      have hk0 : (0 : Int) ≤ (k : Int) := by omega
      have hkx : k < xs.length := by rw [hLen.out]; exact hlt
      have hx := hO2.out.below hBL.out (Nat.le_refl _)
      have hC := Lib.hid (hBf.out wr (hBw.out.trans (hBL.out.mono hBw.out.size)) k hlt _ A2 c2 _ hx hBL.out.size)
      obtain ⟨xb, xo, rfl, _, hxc⟩ := hx (by omega)
      have x0 := hxc k hkx
      have hgd : xs.getD k 0 = xs[k] := by rw [List.getD_eq_getElem?_getD, List.getElem?_eq_getElem hkx]; rfl
      rw [← hgd] at x0
      have hWk := Lib.hid (hWs.out k)
      have h1 := hWb.out k
      have h2 := hXb.out k
      have hPr := CB.below hP2.out hBL.out hlt2
      have p0 := PB.c0 hPr
      have p1 := PB.c1 hPr
      rw [hTw2.out k hlt] at hC
      clear hxc hgd hPr
      generalize hTT : WB (k + 1) = z1 at *
      have hTh := Lib.hid hTT
      clear hTT
      generalize WB k = z at *
      generalize bdE cs xs wide (xs.getD k 0) 100 = bd at *
      generalize xs.getD k 0 = y at *
      go_wp2_with (fail)
      refine hC.out.mono ?_
      rintro e w3 ⟨rfl, hb3⟩
      have hB3 := Lib.hid (hBL.out.trans (hb3.mono hBL.out.size))
      clear hb3 p0 p1 x0
      go_wp2
      go_roundw
      case rel => exact ⟨k + 1, by omega, by go_num, by rw [hTh.out, hWk.out], hB3.out⟩
      case measure => simp [intOf]; omega
    · obtain rfl : k = cs.length := by omega
      have hfin := Lib.hid (hBw.out.trans (hBL.out.mono hBw.out.size))
      go_wp2
      go_ret
      exact ⟨rfl, hfin.out⟩
def wbK (cs : List In) (wide : Int) : Bool := orGood cs && inR wide 1 3
def wbR (cs : List In) (wide : Int) : Int := if wbK cs wide = true then wbE cs (er cs cs.length) wide cs.length else 0
theorem wbK_no1 {cs : List In} (wide : Int) (h : orGood cs = false) : wbK cs wide = false := by unfold wbK; rw [h]; rfl
theorem wbK_no2 (cs : List In) {wide : Int} (h : inR wide 1 3 = false) : wbK cs wide = false := by unfold wbK; rw [h]; simp
theorem wbK_yes {cs : List In} {wide : Int} (h : orGood cs = true) (h2 : inR wide 1 3 = true) : wbK cs wide = true := by unfold wbK; rw [h, h2]; rfl
theorem wbR_no {cs : List In} {wide : Int} (h : wbK cs wide = false) : wbR cs wide = 0 := by unfold wbR; rw [h]; rfl
theorem wbR_yes {cs : List In} {wide : Int} (h : wbK cs wide = true) : wbR cs wide = wbE cs (er cs cs.length) wide cs.length := by unfold wbR; rw [if_pos h]
end Go.Proofs.Ytaaloepoegehkaa

/- Chapter 9: bounds by the width, of the model. -/
namespace Go.Proofs.Ytaaloepoegehkaa
open Go.RowKit
set_option linter.unusedVariables false
set_option maxRecDepth 100000

theorem l1Least_9 (a b : Int) (w : World) : Calls Try.prog 201 #[.int .i64 a, .int .i64 b] w fun e w' => e = .returned (.int .i64 (min a b)) ∧ w = w' := by
  by_cases h : a < b
  all_goals
    go_enter Try.func201, Try.ntmps201
    go_wp2
    go_ret
    exact ⟨ret_int (by omega), rfl⟩
set_option maxHeartbeats 8000000 in
theorem orBound_any (L B : Nat) (A : Option Addr) (c : Nat) (cs : List In) (wide : Int) (w : World) (hl : cs.length ≤ 20) (hgood : ∀ x ∈ cs, goodIn x = true) (hes : RS In.enc 5 w L B A cs) (hB : B ≤ w.heap.size) (hw : 1 ≤ wide ∧ wide ≤ 3) :
    Calls Try.prog 160 #[.slice A cs.length c, .int .i64 wide] w fun e w' => e = .returned (.int .i64 (wbE cs (er cs cs.length) wide cs.length)) ∧ Below w.heap.size w w' := by
  have HE := Lib.hid (orEarliest_any L B A c cs w hl hgood hes hB)
  have hEl := er_len cs cs.length
  have hEb := er_bd9 hl
  have hE := Lib.hid fun (W : World) (hW : Below w.heap.size w W) => hes.below hW hB
  have hWs := Lib.hid (wbE_succ cs (er cs cs.length) wide)
  have hWb := Lib.hid (wbE_bd (cs := cs) (xs := er cs cs.length) (wide := wide) (by omega) hEb hw)
  have hW0 : Hid (wbE cs (er cs cs.length) wide 0 = 0) := rfl
  have hXb := Lib.hid (getD_bd9 hEb)
  have hGd := Lib.hid hgood
  have hLen := Lib.hid hEl
  have hCe : Hid (∀ i (h : i < cs.length), cstA cs i = (fm cs[i].op).c) := fun i h => by unfold cstA; rw [inAt_eq h]
  clear hes hB hEb hEl hgood
  generalize wbE cs (er cs cs.length) wide = WB at *
  generalize er cs cs.length = xs at *
  have hGy := Lib.hid fun (q : Int) (k : Nat) (hk : k < xs.length) (h : q ≤ xs.getD k 0) => cgE_yes hk h
  have hGn := Lib.hid fun (q : Int) (k : Nat) (hk : k < xs.length) (h : ¬ q ≤ xs.getD k 0) => cgE_no hk h
  have hGb := Lib.hid (cgE_bd xs)
  have hG0 := Lib.hid (cgE_zero xs)
  have hLs := Lib.hid fun (q : Int) => lcE_succ cs xs q 100
  have hLb := Lib.hid fun (q : Int) => lcE_bd cs xs q (a := 100) (by omega)
  have hL0 : Hid (∀ q, lcE cs xs q 100 0 = 100) := fun _ => rfl
  have hBe : Hid (∀ q, bdE cs xs wide q 100 = q + (cgE xs q cs.length + wide - 1).tdiv wide + lcE cs xs q 100 cs.length - 1) := fun q => by unfold bdE; rw [hLen.out]
  generalize cgE xs = G at *
  generalize (fun q => lcE cs xs q 100) = F0 at *
  go_enter Try.func160, Try.ntmps160
  go_wp2_with (fail)
  refine HE.out.mono ?_
  rintro e w2 ⟨A2, c2, rfl, ho2, hb2⟩
  have hO2 := Lib.hid (OW.rs ho2)
  have hBw := Lib.hid hb2
  clear ho2 hb2
  rw [hLen.out]
  go_wp2
  go_loopw [6, 17] (fun v q wr => ∃ k : Nat, k ≤ cs.length ∧ q = .int .i64 k ∧ v = .int .i64 (WB k) ∧ Below w2.heap.size w2 wr) (fun _ q _ => cs.length - (intOf q).toNat)
  case atStart => exact ⟨0, Nat.zero_le _, rfl, by rw [hW0.out], Below.refl _ _⟩
  case round =>
    obtain ⟨p, hp, rfl, rfl, hbel⟩ := hrel
    have hBL := Lib.hid hbel
    clear hbel
    by_cases hlt : p < cs.length
    · have hpi : (p : Int) < (cs.length : Int) := by omega
      have hp0 : (0 : Int) ≤ (p : Int) := by omega
      have hpx : p < xs.length := by rw [hLen.out]; exact hlt
      obtain ⟨xb, xo, rfl, ⟨_, hxb⟩, hxc⟩ := hO2.out (by omega)
      have x0 := (hBL.out.cell (p := ⟨xb, xo + p, none⟩) hxb).trans (hxc p hpx)
      have hgd : xs.getD p 0 = xs[p] := by rw [List.getD_eq_getElem?_getD, List.getElem?_eq_getElem hpx]; rfl
      rw [← hgd] at x0
      have hWk := hWs.out p
      have h1 := hWb.out p
      have h2 := hXb.out p
      have hbe := hBe.out (xs.getD p 0)
      rw [hbe] at hWk
      have hWk := Lib.hid hWk
      have hGyq := Lib.hid (hGy.out (xs.getD p 0))
      have hGnq := Lib.hid (hGn.out (xs.getD p 0))
      have hGbq := Lib.hid (hGb.out (xs.getD p 0))
      have hG0q := Lib.hid (hG0.out (xs.getD p 0))
      have hLsq := Lib.hid (hLs.out (xs.getD p 0))
      have hLbq := Lib.hid (hLb.out (xs.getD p 0))
      have hL0q := Lib.hid (hL0.out (xs.getD p 0))
      have hxcs := Lib.hid hxc
      have hxbs := Lib.hid hxb
      clear hxc hgd hbe hxb
      generalize hTT : WB (p + 1) = z1 at *
      have hTh := Lib.hid hTT
      clear hTT
      generalize WB p = z at *
      generalize xs.getD p 0 = q at *
      generalize lcE cs xs q 100 = F at *
      generalize G q = g at *
      go_wp2
      clear x0
      go_loopw [9, 10, 23] (fun u v q9 wq => ∃ k : Nat, k ≤ cs.length ∧ q9 = .int .i64 k ∧ u = .int .i64 (g k) ∧ v = .int .i64 (F k) ∧ Below w2.heap.size w2 wq) (fun _ _ q9 _ => cs.length - (intOf q9).toNat)
      case atStart => exact ⟨0, Nat.zero_le _, rfl, by rw [hG0q.out], by rw [hL0q.out], hBL.out⟩
      case round =>
        clear hBL
        obtain ⟨k, hk, rfl, rfl, rfl, hbel⟩ := hrel
        have hBL := Lib.hid hbel
        clear hbel
        by_cases hltk : k < cs.length
        · have hki : (k : Int) < (cs.length : Int) := by omega
          have hk0 : (0 : Int) ≤ (k : Int) := by omega
          have hkx : k < xs.length := by rw [hLen.out]; exact hltk
          obtain ⟨b, o, rfl, ⟨_, hbB⟩, hc⟩ := In.cells (hE.out wr (hBw.out.trans (hBL.out.mono hBw.out.size))) (by omega)
          obtain ⟨c1, c2', c3, c4, c5⟩ := hc k hltk
          have y0 := (hBL.out.cell (p := ⟨xb, xo + k, none⟩) hxbs.out).trans (hxcs.out k hkx)
          have hgd : xs.getD k 0 = xs[k] := by rw [List.getD_eq_getElem?_getD, List.getElem?_eq_getElem hkx]; rfl
          rw [← hgd] at y0
          have hLk := hLsq.out k
          have hgb := hGbq.out k
          rw [hLen.out] at hgb
          have hlb := hLbq.out k
          have hYy := hGyq.out k hkx
          have hYn := hGnq.out k hkx
          rw [hCe.out k hltk] at hLk
          have hok := (good_parts (hGd.out _ (List.getElem_mem hltk))).2.2.2.1
          clear hc hgd
          generalize hGG : g (k + 1) = g2 at *
          have hGh := Lib.hid hGG
          clear hGG
          generalize hFF : F (k + 1) = f2 at *
          have hFh := Lib.hid hFF
          clear hFF
          generalize g k = gk at *
          generalize F k = fk at *
          generalize xs.getD k 0 = y at *
          generalize cs[k] = nd at *
          obtain ⟨op, d, a, bb, m⟩ := nd
          dsimp only at *
          have hC := Lib.hid fun (W : World) => cdCost_any op W hok
          have hfc := fm_c op
          generalize (fm op).c = t at *
          clear hok
          have hX := Lib.hid (XB.newI9 wr ⟨op, d, a, bb, m⟩)
          have ha := Lib.hid ((Below.refl wr.heap.size wr).alloc (Nat.le_refl _) (.cells #[.string op, .int .i64 d, .int .i64 a, .int .i64 bb, .int .i64 m] 88))
          have y1 := (ha.out.cell (p := ⟨xb, xo + k, none⟩) (by
            rcases Nat.lt_or_ge xb wr.heap.size with h9 | h9
            · exact h9
            · simp [World.cell?, Array.getElem?_eq_none h9] at y0)).trans y0
          have hB1 := Lib.hid (hBL.out.trans (ha.out.mono hBL.out.size))
          have hw1 : IntKind.i64.wrap (gk + 1) = gk + 1 := IntWalk.i64_in _ (by omega)
          by_cases hy : q ≤ y
          · have hg2 : g2 = gk + 1 := hYy hy
            rw [if_pos hy] at hLk
            have hG2 := Lib.hid hg2
            have hF2 := Lib.hid hLk
            clear hg2 hLk hYy hYn
            go_wp2_with (fail)
            clear c1 c2' c3 c4 c5 y0 ha
            refine (hC.out _).mono ?_
            rintro e w3 ⟨rfl, rfl⟩
            go_wp2_with (fail)
            refine (l1Least_9 _ _ _).mono ?_
            rintro e w3 ⟨rfl, rfl⟩
            go_wp2
            go_roundw
            case rel => exact ⟨k + 1, by omega, by go_num, by rw [hGh.out, hG2.out], by rw [hFh.out, hF2.out], hB1.out⟩
            case measure => simp [intOf]; omega
          · have hg2 : g2 = gk := hYn (by omega)
            rw [if_neg hy] at hLk
            have hG2 := Lib.hid hg2
            have hF2 := Lib.hid hLk
            clear hg2 hLk hYy hYn
            go_wp2
            go_roundw
            case rel => exact ⟨k + 1, by omega, by go_num, by rw [hGh.out, hG2.out], by rw [hFh.out, hF2.out], hB1.out⟩
            case measure => simp [intOf]; omega
        · obtain rfl : k = cs.length := by omega
          have hgb := hGbq.out cs.length
          rw [hLen.out] at hgb
          have hlb := hLbq.out cs.length
          have hn0 : 0 ≤ g cs.length + wide - 1 ∧ g cs.length + wide - 1 ≤ 100 := by omega
          have ht := tdiv_bd hn0.1 hn0.2 hw.1
          generalize g cs.length = n at *
          generalize F cs.length = l4 at *
          have hw1 : IntKind.i64.wrap (n + wide) = n + wide := IntWalk.i64_in _ (by omega)
          have hw2 : IntKind.i64.wrap (n + wide - 1) = n + wide - 1 := IntWalk.i64_in _ (by omega)
          have hwz : ¬ wide = 0 := by omega
          have hW2 := hWk.out
          generalize hdv : (n + wide - 1).tdiv wide = dv at *
          have hW2 := Lib.hid hW2
          have hw3 : IntKind.i64.wrap dv = dv := IntWalk.i64_in _ (by omega)
          have hw4 : IntKind.i64.wrap (q + dv) = q + dv := IntWalk.i64_in _ (by omega)
          have hw5 : IntKind.i64.wrap (q + dv + l4) = q + dv + l4 := IntWalk.i64_in _ (by omega)
          have hw6 : IntKind.i64.wrap (q + dv + l4 - 1) = q + dv + l4 - 1 := IntWalk.i64_in _ (by omega)
          go_wp2_with (fail)
          refine (l1Most_9 _ _ _).mono ?_
          rintro e w3 ⟨rfl, rfl⟩
          go_wp2
          go_roundw
          case rel => exact ⟨p + 1, by omega, by go_num, by rw [hTh.out, hW2.out], hBL.out⟩
          case measure => simp [intOf]; omega
    · obtain rfl : p = cs.length := by omega
      have hfin := Lib.hid (hBw.out.trans (hBL.out.mono hBw.out.size))
      go_wp2
      go_ret
      exact ⟨rfl, hfin.out⟩
end Go.Proofs.Ytaaloepoegehkaa

/- Chapter 9: ListSchedule, both. -/
namespace Go.Proofs.Ytaaloepoegehkaa
open Go.RowKit
set_option linter.unusedVariables false
set_option maxRecDepth 100000

theorem lsIn_len (cs : List In) (hs : List Int) (now : Int) : ∀ r xs, (lsIn cs hs now r xs).length = xs.length
  | 0, xs => rfl
  | r + 1, xs => by
    rw [lsIn]; split
    · rw [lsIn_len, List.length_set]
    · rfl
theorem lsOut_len (cs : List In) (hs : List Int) (wide : Nat) : ∀ f now xs, (lsOut cs hs wide f now xs).length = xs.length
  | 0, _, _ => rfl
  | f + 1, now, xs => by
    rw [lsOut]; split
    · rw [lsOut_len, lsIn_len]
    · rfl
theorem lsR_len (cs : List In) (wide : Nat) : (lsR cs wide).length = cs.length := by unfold lsR; rw [lsOut_len, noneL_len]
def liR (cs : List In) (wide : Int) : List Int := if wbK cs wide = true then lsR cs wide.toNat else []
theorem liR_no {cs : List In} {wide : Int} (h : wbK cs wide = false) : liR cs wide = [] := by unfold liR; rw [h]; rfl
theorem liR_yes {cs : List In} {wide : Int} (h : wbK cs wide = true) : liR cs wide = lsR cs wide.toNat := by unfold liR; rw [if_pos h]
theorem liR_len (cs : List In) (wide : Int) : (liR cs wide).length ≤ 1048576 := by
  cases h : wbK cs wide
  · rw [liR_no h]; simp
  · rw [liR_yes h, lsR_len]
    unfold wbK at h
    rw [Bool.and_eq_true] at h
    have := (orGood_parts h.1).1; omega

set_option maxHeartbeats 4000000 in
theorem iListSchedule_k (L B : Nat) (A : Option Addr) (c : Nat) (cs : List In) (wide : Int) (w : World) (hl : cs.length ≤ 1048576) (hes : RS In.enc 5 w L B A cs) (hB : B ≤ w.heap.size) (hcap : cs.length ≤ c) :
    Calls Try.prog 26 #[.slice A cs.length c, .int .i64 wide] w (ResListSchedule (liR cs wide) (wbK cs wide) w) := by
  cases hg : orGood cs
  · have H := Lib.hid (planOf_no L B A c cs w hg hl hes hB hcap)
    have hK := Lib.hid (wbK_no1 wide hg)
    have hR := Lib.hid (liR_no hK.out)
    clear hg hes
    generalize liR cs wide = R at *
    generalize wbK cs wide = K at *
    go_enter Try.func26, Try.ntmps26
    go_wp2_with (fail)
    refine H.out.mono ?_
    rintro e w1 ⟨rfl, hb1⟩
    have hB1 := Lib.hid (hb1.alloc hb1.size (.cells #[.slice none 0 0, .slice none 0 0] 97))
    clear hb1
    go_wp2
    go_ret2
    rw [hR.out, hK.out]
    exact ⟨none, 0, rfl, OW.nil _ _ _, hB1.out⟩
  have H := Lib.hid (planOf_yes L B A c cs w hg hl hes hB hcap)
  have h20 := (orGood_parts hg).1
  have HN := Lib.hid (isWide_any wide)
  cases hr : inR wide 1 3
  · have hK := Lib.hid (wbK_no2 cs hr)
    have hR := Lib.hid (liR_no hK.out)
    rw [hr] at HN
    clear hg hes hr
    generalize liR cs wide = R at *
    generalize wbK cs wide = K at *
    go_enter Try.func26, Try.ntmps26
    go_wp2_with (fail)
    refine H.out.mono ?_
    rintro e w1 ⟨An, cn, rfl, hpn, hb1⟩
    have hB1 := Lib.hid (hb1.alloc hb1.size (.cells #[.slice A cs.length c, .slice An cs.length cn] 97))
    clear hb1 hpn
    go_wp2_with (fail)
    refine (HN.out _).mono ?_
    rintro e w3 ⟨rfl, rfl⟩
    go_wp2
    go_ret2
    rw [hR.out, hK.out]
    exact ⟨none, 0, rfl, OW.nil _ _ _, hB1.out⟩
  have hwd : 1 ≤ wide ∧ wide ≤ 3 := (inR_iff _ _ _).1 hr
  have hK := Lib.hid (wbK_yes hg hr)
  have hR := Lib.hid (liR_yes hK.out)
  rw [hr] at HN
  obtain ⟨wd, hwe⟩ := Int.eq_ofNat_of_zero_le (show 0 ≤ wide by omega)
  subst hwe
  rw [Int.toNat_natCast] at hR
  have HL := Lib.hid fun (L1 B1 : Nat) (An : Option Addr) (cn : Nat) (W : World) (hW : Below w.heap.size w W) (hpn : PN W L1 B1 An (nds cs)) (hB1 : B1 ≤ W.heap.size) => listSchedule_any L B A c cs wd L1 B1 An cn W h20 (by omega) (hes.below hW hB) (Nat.le_trans hB hW.size) hpn hB1
  have hLl := Lib.hid (lsR_len cs wd)
  clear hg hes hr hwd
  generalize liR cs wd = R at *
  generalize wbK cs wd = K at *
  generalize lsR cs wd = LL at *
  go_enter Try.func26, Try.ntmps26
  go_wp2_with (fail)
  refine H.out.mono ?_
  rintro e w1 ⟨An, cn, rfl, hpn, hb1⟩
  have a1 := (Below.refl w1.heap.size w1).alloc (Nat.le_refl _) (.cells #[.slice A cs.length c, .slice An cs.length cn] 97)
  have hB1 := Lib.hid (hb1.trans (a1.mono hb1.size))
  have hP1 := Lib.hid (PB.new w1 (.slice A cs.length c) (.slice An cs.length cn))
  have H3 := Lib.hid (HL.out _ _ An cn _ hB1.out (hpn.below a1 (Nat.le_refl _)) a1.size)
  clear a1 hb1 hpn
  have q0 := PB.c0 hP1.out
  have q1 := PB.c1 hP1.out
  go_wp2_with (fail)
  refine (HN.out _).mono ?_
  rintro e w3 ⟨rfl, rfl⟩
  go_wp2_with (fail)
  refine H3.out.mono ?_
  rintro e w4 ⟨A4, c4, rfl, ho4, hb4⟩
  have hO4 := Lib.hid (ho4.lower hB1.out.size)
  have hB4 := Lib.hid (hB1.out.trans (hb4.mono hB1.out.size))
  clear ho4 hb4 q0 q1
  go_wp2
  go_ret2
  rw [hR.out, hK.out]
  exact ⟨A4, c4, rfl, hO4.out, hB4.out⟩

set_option maxHeartbeats 4000000 in
theorem sListSchedule_k (L B : Nat) (A : Option Addr) (c : Nat) (cs : List In) (wide : Int) (w : World) (hl : cs.length ≤ 1048576) (hes : RS In.enc 5 w L B A cs) (hB : B ≤ w.heap.size) :
    Calls Try.prog 25 #[.slice A cs.length c, .int .i64 wide] w (ResListSchedule (liR cs wide) (wbK cs wide) w) := by
  have H := Lib.hid (orGood_any L B A c cs w hl hes hB)
  cases hg : orGood cs
  · have hK := Lib.hid (wbK_no1 wide hg)
    have hR := Lib.hid (liR_no hK.out)
    rw [hg] at H
    clear hg hes
    generalize liR cs wide = R at *
    generalize wbK cs wide = K at *
    go_enter Try.func25, Try.ntmps25
    go_wp2_with (fail)
    refine H.out.mono ?_
    rintro e w1 ⟨rfl, hb1⟩
    have hB1 := Lib.hid hb1
    clear hb1
    go_wp2
    go_ret2
    rw [hR.out, hK.out]
    exact ⟨none, 0, rfl, OW.nil _ _ _, hB1.out⟩
  rw [hg] at H
  have HW := Lib.hid (orWide_any wide)
  cases hw : inR wide 1 3
  · have hK := Lib.hid (wbK_no2 cs hw)
    have hR := Lib.hid (liR_no hK.out)
    rw [hw] at HW
    clear hg hes hw
    generalize liR cs wide = R at *
    generalize wbK cs wide = K at *
    go_enter Try.func25, Try.ntmps25
    go_wp2_with (fail)
    refine H.out.mono ?_
    rintro e w1 ⟨rfl, hb1⟩
    have hB1 := Lib.hid hb1
    clear hb1
    go_wp2_with (fail)
    refine (HW.out _).mono ?_
    rintro e w2 ⟨rfl, rfl⟩
    go_wp2
    go_ret2
    rw [hR.out, hK.out]
    exact ⟨none, 0, rfl, OW.nil _ _ _, hB1.out⟩
  · have hK := Lib.hid (wbK_yes hg hw)
    have hR := Lib.hid (liR_yes hK.out)
    have hwi := (inR_iff _ _ _).1 hw
    have hGp := orGood_parts hg
    obtain ⟨wd, hwe⟩ := Int.eq_ofNat_of_zero_le (show 0 ≤ wide by omega)
    subst hwe
    rw [Int.toNat_natCast] at hR
    have HB := Lib.hid fun (W : World) (hW : Below w.heap.size w W) => orList_any L B A c cs wd W hGp.1 hGp.2 (by omega) (hes.below hW hB) (Nat.le_trans hB hW.size)
    rw [hw] at HW
    clear hg hes hw hwi hGp
    generalize liR cs wd = R at *
    generalize wbK cs wd = K at *
    generalize lsR cs wd = E at *
    go_enter Try.func25, Try.ntmps25
    go_wp2_with (fail)
    refine H.out.mono ?_
    rintro e w1 ⟨rfl, hb1⟩
    have hB1 := Lib.hid hb1
    clear hb1
    go_wp2_with (fail)
    refine (HW.out _).mono ?_
    rintro e w2 ⟨rfl, rfl⟩
    go_wp2_with (fail)
    refine (HB.out _ hB1.out).mono ?_
    rintro e w4 ⟨A4, c4, rfl, ho4, hb4⟩
    have hO4 := Lib.hid (ho4.lower hB1.out.size)
    have hB4 := Lib.hid (hB1.out.trans (hb4.mono hB1.out.size))
    clear ho4 hb4
    go_wp2
    go_ret2
    rw [hR.out, hK.out]
    exact ⟨A4, c4, rfl, hO4.out, hB4.out⟩
end Go.Proofs.Ytaaloepoegehkaa

/- Arguments of the types []laws.Instr, laws.Instr and []int opened. -/
namespace Go.Proofs.Ytaaloepoegehkaa
open Go.ChangeShapes Go.WideShapes Go.ChangeAt Go.RowKit Go.Deep
open Go.ChangeMaps (open_string shut_string)
set_option linter.unusedVariables false

theorem cellsIn : Try.prog.cellsOf 82 = 5 := by kernel_rfl
theorem cellsStr : Try.prog.cellsOf 9 = 1 := by kernel_rfl
theorem cellsInt : Try.prog.cellsOf 3 = 1 := by kernel_rfl

set_option maxRecDepth 100000 in
theorem in_of_trod {H : Type} {enc : TypeId × Value → H} {w : World} {base : Nat} {spare : Nat → Bool} {held : Bool} {n : Nat} {cs : List Value} {x : DataW H × List MemPlace}
    (h : DataW.trod enc Try.prog w base spare held n 82 cs = some x) : ∃ nd : In, cs = nd.enc ∧ nd.op.size ≤ maxLen := by
  obtain ⟨xs, m, _, _, hlen, hxl, hf⟩ := DataW.trod_struct Try.underlying82 h
  rw [cellsIn] at hlen
  match cs, hlen with
  | [c0, c1, c2, c3, c4], _ =>
    match xs, hxl with
    | [y0, y1, y2, y3, y4], _ =>
      have h0 := hf 0 _ rfl
      change DataW.trod enc Try.prog w base spare held m 9 (([c0, c1, c2, c3, c4].drop 0).take (Try.prog.cellsOf 9)) = _ at h0
      rw [cellsStr] at h0
      have h1 := hf 1 _ rfl
      change DataW.trod enc Try.prog w base spare held m 3 (([c0, c1, c2, c3, c4].drop 1).take (Try.prog.cellsOf 3)) = _ at h1
      rw [cellsInt] at h1
      have h2 := hf 2 _ rfl
      change DataW.trod enc Try.prog w base spare held m 3 (([c0, c1, c2, c3, c4].drop 2).take (Try.prog.cellsOf 3)) = _ at h2
      rw [cellsInt] at h2
      have h3 := hf 3 _ rfl
      change DataW.trod enc Try.prog w base spare held m 3 (([c0, c1, c2, c3, c4].drop 3).take (Try.prog.cellsOf 3)) = _ at h3
      rw [cellsInt] at h3
      have h4 := hf 4 _ rfl
      change DataW.trod enc Try.prog w base spare held m 3 (([c0, c1, c2, c3, c4].drop 4).take (Try.prog.cellsOf 3)) = _ at h4
      rw [cellsInt] at h4
      obtain ⟨s, e0, _, hs⟩ := DataW.trod_string Try.underlying9 h0
      obtain ⟨d, e1, _, _⟩ := DataW.trod_int Try.underlying3 h1
      obtain ⟨a, e2, _, _⟩ := DataW.trod_int Try.underlying3 h2
      obtain ⟨b, e3, _, _⟩ := DataW.trod_int Try.underlying3 h3
      obtain ⟨m, e4, _, _⟩ := DataW.trod_int Try.underlying3 h4
      have e0 : c0 = .string s := by simpa using e0
      have e1 : c1 = .int .i64 d := by simpa using e1
      have e2 : c2 = .int .i64 a := by simpa using e2
      have e3 : c3 = .int .i64 b := by simpa using e3
      have e4 : c4 = .int .i64 m := by simpa using e4
      exact ⟨⟨s, d, a, b, m⟩, by rw [e0, e1, e2, e3, e4]; rfl, hs⟩

theorem cell_lt_heap {w : World} {a : Addr} {v : Value} (h : w.cell? a = some v) : a.block < w.heap.size := by
  rcases Nat.lt_or_ge a.block w.heap.size with hlt | hge
  · exact hlt
  · unfold World.cell? at h; rw [Array.getElem?_eq_none hge] at h; simp at h

set_option maxRecDepth 100000 in
theorem x_of_trod {H : Type} {enc : TypeId × Value → H} {w : World} {r : Reach} {b0 : Nat} {spare : Nat → Bool} {held : Bool} {v : Value} {d : DataW H} {p : List MemPlace}
    (hv : Value.okWide Try.prog w r b0 82 v) (h : DataW.Trod enc Try.prog w 0 spare held 82 v d p) :
    ∃ x : In, v = .agg #[.string x.op, .int .i64 x.d, .int .i64 x.a, .int .i64 x.b, .int .i64 x.m] ∧ x.op.size ≤ 9223372036854775807 := by
  obtain ⟨cs, rfl, hsz⟩ := okWide_struct Try.underlying82 hv
  obtain ⟨fuel, hf⟩ := h
  obtain ⟨x, hx, hs⟩ := in_of_trod hf
  refine ⟨x, ?_, by unfold maxLen at hs; omega⟩
  obtain ⟨l⟩ := cs
  have hx' : l = x.enc := by simpa [Value.cells] using hx
  subst hx'; rfl

set_option maxRecDepth 100000 in
theorem ins_of_trod {H : Type} {enc : TypeId × Value → H} {w : World} {spare : Nat → Bool} {held : Bool} {A : Option Addr} {len cap : Nat} {d : DataW H} {p : List MemPlace}
    (h : DataW.Trod enc Try.prog w 0 spare held 22 (.slice A len cap) d p) :
    ∃ es : List In, es.length = len ∧ RS In.enc 5 w 0 w.heap.size A es ∧ (∀ n ∈ es, n.op.size ≤ 9223372036854775807) ∧ len ≤ 9223372036854775807 := by
  obtain ⟨fuel, hf⟩ := h
  rcases open_slice Try.underlying22 hf with ⟨hcs, _⟩ | ⟨a, l, c, m, n, D, Pl, hcs, _, hl, hm, hmm, _, hi⟩
  · simp [Value.cells] at hcs
    obtain ⟨rfl, rfl, rfl⟩ := hcs
    exact ⟨[], rfl, fun h => absurd h (by simp), (fun n hn => by cases hn), by omega⟩
  · simp [Value.cells] at hcs
    obtain ⟨rfl, rfl, rfl⟩ := hcs
    have hlm : len ≤ m := by rw [hmm]; split <;> omega
    have hex : ∀ i, i < len → ∃ nd : In, (∀ j v, nd.enc[j]? = some v → w.cell? (a.add (i * 5 + j)) = some v) ∧ nd.op.size ≤ maxLen := by
      intro i hil
      obtain ⟨cs', hc, ht⟩ := hi i (by omega)
      rw [cellsIn] at hc
      obtain ⟨nd, rfl, hs⟩ := in_of_trod ht
      obtain ⟨_, _, hat⟩ := World.cells?_some hc
      refine ⟨nd, fun j v hv => ?_, hs⟩
      have hj : j < 5 := kflat_lt In.hk hv
      have := hat j hj
      rw [add_add, hv] at this; exact this
    obtain ⟨f, hf2⟩ := Classical.axiomOfChoice (fun i : {i // i < len} => hex i.1 i.2)
    have hget : ∀ i (h : i < (List.ofFn fun i : Fin len => f ⟨i.1, i.2⟩).length), (List.ofFn fun i : Fin len => f ⟨i.1, i.2⟩)[i] = f ⟨i, by simpa using h⟩ := fun i h => by simp
    refine ⟨List.ofFn fun i : Fin len => f ⟨i.1, i.2⟩, by simp, ?_, ?_, by unfold maxLen at hm; omega⟩
    · intro hpos
      have hpos' : 0 < len := by simpa using hpos
      have h0 := (hf2 ⟨0, hpos'⟩).1 0 _ rfl
      obtain ⟨b, o, spot⟩ := a
      have hspot : spot = none := by have := World.cell?_spot h0; simpa [Addr.add] using this
      subst hspot
      have hadd : ∀ k, (⟨b, o, none⟩ : Addr).add k = ⟨b, o + k, none⟩ := fun k => by simp [Addr.add]
      refine ⟨b, o, rfl, ⟨Nat.zero_le _, ?_⟩, fun i hi j v hv => ?_⟩
      · rw [hadd] at h0
        exact cell_lt_heap h0
      · have hi' : i < len := by simpa using hi
        rw [hget i hi] at hv
        have := (hf2 ⟨i, hi'⟩).1 j v hv
        simp only [hadd, ← Nat.add_assoc] at this
        exact this
    · intro n hn
      obtain ⟨i, rfl⟩ := List.mem_ofFn.1 hn
      have := (hf2 ⟨i.1, i.2⟩).2
      unfold maxLen at this; omega

set_option maxRecDepth 100000 in
theorem ints_of_trod {H : Type} {enc : TypeId × Value → H} {w : World} {spare : Nat → Bool} {held : Bool} {A : Option Addr} {len cap : Nat} {d : DataW H} {p : List MemPlace}
    (h : DataW.Trod enc Try.prog w 0 spare held 34 (.slice A len cap) d p) :
    ∃ xs : List Int, xs.length = len ∧ IS w 0 w.heap.size A xs ∧ len ≤ 9223372036854775807 := by
  obtain ⟨fuel, hf⟩ := h
  rcases open_slice Try.underlying34 hf with ⟨hcs, _⟩ | ⟨a, l, c, m, n, D, Pl, hcs, _, hl, hm, hmm, _, hi⟩
  · simp [Value.cells] at hcs
    obtain ⟨rfl, rfl, rfl⟩ := hcs
    exact ⟨[], rfl, fun h => absurd h (by simp), by omega⟩
  · simp [Value.cells] at hcs
    obtain ⟨rfl, rfl, rfl⟩ := hcs
    have hlm : len ≤ m := by rw [hmm]; split <;> omega
    have hex : ∀ i, i < len → ∃ x : Int, w.cell? (a.add i) = some (.int .i64 x) := by
      intro i hil
      obtain ⟨cs', hc, ht⟩ := hi i (by omega)
      rw [cellsInt, Nat.mul_one] at hc
      obtain ⟨x, hx, _, _⟩ := DataW.trod_int Try.underlying3 ht
      obtain ⟨_, _, hat⟩ := World.cells?_some hc
      have := hat 0 (by omega)
      rw [add_add, hx] at this
      exact ⟨x, by simpa using this⟩
    obtain ⟨f, hf2⟩ := Classical.axiomOfChoice (fun i : {i // i < len} => hex i.1 i.2)
    have hget : ∀ i (h : i < (List.ofFn fun i : Fin len => f ⟨i.1, i.2⟩).length), (List.ofFn fun i : Fin len => f ⟨i.1, i.2⟩)[i] = f ⟨i, by simpa using h⟩ := fun i h => by simp
    refine ⟨List.ofFn fun i : Fin len => f ⟨i.1, i.2⟩, by simp, ?_, by unfold maxLen at hm; omega⟩
    intro hpos
    have hpos' : 0 < len := by simpa using hpos
    have h0 := hf2 ⟨0, hpos'⟩
    obtain ⟨b, o, spot⟩ := a
    have hspot : spot = none := by have := World.cell?_spot h0; simpa [Addr.add] using this
    subst hspot
    have hadd : ∀ k, (⟨b, o, none⟩ : Addr).add k = ⟨b, o + k, none⟩ := fun k => by simp [Addr.add]
    refine ⟨b, o, rfl, ⟨Nat.zero_le _, ?_⟩, fun i hi => ?_⟩
    · rw [hadd] at h0
      exact cell_lt_heap h0
    · have hi' : i < len := by simpa using hi
      rw [hget i hi]
      have := hf2 ⟨i, hi'⟩
      simp only [hadd] at this
      exact this
end Go.Proofs.Ytaaloepoegehkaa
