/- Texts of this proof, one behind the other: CR, CS, DFP, TF, TS, DM. -/
import Derived.Test.YtdleiondfhmjdaaZ4
import Derived.WalkKit
import Derived.WalkSpells
import Derived.WalkLawsBesides
import Derived.Lib.Hide
import Derived.Test.YtdleiondfhmjdaaTP
import Derived.Test.YtdleiondfhmjdaaLI
import Derived.StillTailTactics
import Derived.Deep.QuietTactic
import Derived.BigQuiet
namespace Go.Proofs.Ytdleiondfhmjdaa
open Go.RowKit
set_option linter.unusedVariables false
set_option maxRecDepth 100000

set_option maxHeartbeats 4000000 in
theorem runSteps_any (L B : Nat) (A : Option Addr) (c : Nat) (es : List In) (g : Nat) (rs : List Int) (w : World) (hok : okCode es = true) (hes : RS In.enc 5 w L B A es) (hB : B ≤ g) (h6 : words6 rs) (hI : IB w g 74 rs) :
    Calls Try.prog 67 #[.slice A es.length c, .func (.func 105) #[.pointer (some ⟨g, 0, none⟩)] #[]] w (StepM w g (runL es rs)) := by
  have hl := okCode_len hok
  have hall := Lib.hid (okCode_all hok)
  have hE := Lib.hid hes
  have hBB := Lib.hid hB
  have hH6 := Lib.hid h6
  have hM0 := Lib.hid hI
  have hgl := hI.lt
  have hc0 := Lib.hid (Chg.refl g (g + 1) w)
  clear hes hB hok h6 hI
  go_enter Try.func67, Try.ntmps67
  go_wp2
  go_loopw [8] (fun i wr => ∃ k : Nat, k ≤ es.length ∧ i = .int .i64 k ∧ IB wr g 74 (runL (es.take k) rs) ∧ Chg g (g + 1) w wr) (fun i _ => es.length - (intOf i).toNat)
  case atStart => exact ⟨0, Nat.zero_le _, rfl, hM0.out, hc0.out⟩
  case round =>
    obtain ⟨k, hk, rfl, hib, hchg⟩ := hrel
    have hM := Lib.hid hib
    have hgw := hib.lt
    have hCh := Lib.hid hchg
    clear hib
    by_cases hlt : k < es.length
    · obtain ⟨b, o, rfl, ⟨_, hbB⟩, hc⟩ := In.cells (hE.out.chg hchg (Nat.le_of_lt (Nat.lt_of_le_of_lt hBB.out hgl)) (.inl hBB.out)) (by omega)
      obtain ⟨d1, d2, d3, d4, d5⟩ := hc k hlt
      clear hc hchg
      have hx := Lib.hid (hall.out _ (List.getElem_mem hlt))
      have hS := Lib.hid (runL_snoc (rs := rs) hlt)
      have hW := Lib.hid (runL_words_take hall.out hH6.out k)
      generalize es[k] = nd at *
      obtain ⟨op, d, a, bb, m⟩ := nd
      have hM2 := fun o => Lib.hid (hM.out.below ((Below.refl wr.heap.size wr).alloc (Nat.le_refl _) o) hgw)
      have hC2 := fun o => Lib.hid (hCh.out.alloc o)
      go_wp2_with (fail)
      refine (stepM_any ⟨op, d, a, bb, m⟩ g _ _ hx.out hW.out (hM2 _).out).mono ?_
      rintro e w3 ⟨rfl, hm3, hc3⟩
      have hM3 := Lib.hid hm3
      have hC3 := Lib.hid ((hC2 _).out.trans hc3)
      clear hm3 hc3 d1 d2 d3 d4 d5
      go_wp2
      go_roundw
      case rel => exact ⟨k + 1, by omega, by go_num, by rw [hS.out]; exact hM3.out, hC3.out⟩
      case measure => simp [intOf]; omega
    · obtain rfl : k = es.length := by omega
      clear hchg
      go_wp2
      go_end0
      exact ⟨rfl, by have := hM.out; rwa [List.take_length] at this, hCh.out⟩

theorem okCode_one (x : In) : okCode [x] = goodIn x := by simp [okCode]
theorem runR_one (x : In) (rs : List Int) : runR [x] rs = stepR x rs := by simp only [runR, stepR, okCode_one]; rfl
/-- One instruction in a new slice. -/
theorem one_slice {w : World} {t : TypeId} (x : In) : RS In.enc 5 (w.alloc (.cells #[.string x.op, .int .i64 x.d, .int .i64 x.a, .int .i64 x.b, .int .i64 x.m] t)) w.heap.size (w.heap.size + 1) (some ⟨w.heap.size, 0, none⟩) [x] := In.boxed x
end Go.Proofs.Ytdleiondfhmjdaa

namespace Go.Proofs.Ytdleiondfhmjdaa
open Go.RowKit
set_option linter.unusedVariables false
set_option maxRecDepth 100000

def resOk (es : List In) (x0 x1 r : Int) : Bool := okCode es && isW x0 && isW x1 && reg r
def resR (es : List In) (x0 x1 r : Int) : Int := if resOk es x0 x1 r = true then (runL es [x0, x1, 0, 0, 0, 0]).getD r.toNat 0 else 0
theorem start_words {x0 x1 : Int} (h0 : isW x0 = true) (h1 : isW x1 = true) : words6 [x0, x1, 0, 0, 0, 0] := by
  have a : inR x0 0 63 = true := h0
  have b : inR x1 0 63 = true := h1
  have z : inR 0 0 63 = true := by decide
  exact ⟨rfl, by simp [a, b, z]⟩
theorem cdStart_any (x0 x1 : Int) (w : World) :
    Calls Try.prog 129 #[.int .i64 x0, .int .i64 x1] w fun e w' => e = .returned (.slice (some ⟨w.heap.size, 0, none⟩) 6 6) ∧ IB w' w.heap.size 3 [x0, x1, 0, 0, 0, 0] ∧ Below w.heap.size w w' := by
  have hmk : (Instr.makeSlice 23 (.int .i64 6) (.int .i64 6)).run Try.prog w = .ok (.slice (some ⟨w.heap.size, 0, none⟩) 6 6) (w.alloc (.cells (intCells [0, 0, 0, 0, 0, 0]) 3)) := run_make_ints 6 (by omega) w
  have hi0 : IB (w.alloc (.cells (intCells [0, 0, 0, 0, 0, 0]) 3)) w.heap.size 3 [0, 0, 0, 0, 0, 0] := heap_alloc_new w _
  have hI0 := Lib.hid hi0
  have c0 := hi0.cell 0 (by simp)
  have f0 := hi0.frozen 0
  have c1 := (hi0.set 0 x0).cell 1 (by simp)
  have f1 := (hi0.set 0 x0).frozen 1
  have hI2 := Lib.hid ((hi0.set 0 x0).set 1 x1)
  have hB := Lib.hid ((((Below.refl w.heap.size w).alloc (Nat.le_refl _) (.cells (intCells [0, 0, 0, 0, 0, 0]) 3)).setCell (p := ⟨w.heap.size, 0, none⟩) (Nat.le_refl _) (.int .i64 x0)).setCell (p := ⟨w.heap.size, 1, none⟩) (Nat.le_refl _) (.int .i64 x1))
  clear hi0
  go_enter Try.func129, Try.ntmps129
  go_wp2
  go_ret
  exact ⟨rfl, heap_alloc_new w _, (Below.refl _ _).alloc (Nat.le_refl _) _⟩

set_option maxHeartbeats 4000000 in
theorem iResultOf_any (L B : Nat) (A : Option Addr) (c : Nat) (es : List In) (x0 x1 r : Int) (w : World) (hl : es.length ≤ 1048576) (hes : RS In.enc 5 w L B A es) (hB : B ≤ w.heap.size) :
    Calls Try.prog 161 #[.slice A es.length c, .int .i64 x0, .int .i64 x1, .int .i64 r] w (ResResultOf (resR es x0 x1 r) (resOk es x0 x1 r) w) := by
  have H := Lib.hid (IsCode_any L B A c es w hl hes hB)
  have hE := Lib.hid hes
  have hBB := Lib.hid hB
  clear hes hB
  go_enter Try.func161, Try.ntmps161
  go_wp2_with (fail)
  refine H.out.mono ?_
  rintro e w2 ⟨rfl, hb⟩
  have hbb := Lib.hid hb
  have hz := hb.size
  have hE2 := Lib.hid (hE.out.below hb hBB.out)
  clear hb
  cases h0 : okCode es
  · have hK : Hid (resOk es x0 x1 r = false) := by simp [Hid, resOk, h0]
    have hR : Hid (resR es x0 x1 r = 0) := by simp [Hid, resR, hK.out]
    go_wp2_with (first | (go_at_call 144; refine (isWord_any _ _).mono ?_; rintro e w' ⟨rfl, rfl⟩) | (go_at_call 132; refine (isRegister_any _ _).mono ?_; rintro e w' ⟨rfl, rfl⟩))
    go_ret2
    rw [hR.out, hK.out]; exact ⟨rfl, hbb.out⟩
  cases h1 : isW x0
  · have hK : Hid (resOk es x0 x1 r = false) := by simp [Hid, resOk, h0, h1]
    have hR : Hid (resR es x0 x1 r = 0) := by simp [Hid, resR, hK.out]
    go_wp2_with (first | (go_at_call 144; refine (isWord_any _ _).mono ?_; rintro e w' ⟨rfl, rfl⟩) | (go_at_call 132; refine (isRegister_any _ _).mono ?_; rintro e w' ⟨rfl, rfl⟩))
    go_ret2
    rw [hR.out, hK.out]; exact ⟨rfl, hbb.out⟩
  cases h2 : isW x1
  · have hK : Hid (resOk es x0 x1 r = false) := by simp [Hid, resOk, h0, h1, h2]
    have hR : Hid (resR es x0 x1 r = 0) := by simp [Hid, resR, hK.out]
    go_wp2_with (first | (go_at_call 144; refine (isWord_any _ _).mono ?_; rintro e w' ⟨rfl, rfl⟩) | (go_at_call 132; refine (isRegister_any _ _).mono ?_; rintro e w' ⟨rfl, rfl⟩))
    go_ret2
    rw [hR.out, hK.out]; exact ⟨rfl, hbb.out⟩
  cases h3 : reg r
  · have hK : Hid (resOk es x0 x1 r = false) := by simp [Hid, resOk, h0, h1, h2, h3]
    have hR : Hid (resR es x0 x1 r = 0) := by simp [Hid, resR, hK.out]
    go_wp2_with (first | (go_at_call 144; refine (isWord_any _ _).mono ?_; rintro e w' ⟨rfl, rfl⟩) | (go_at_call 132; refine (isRegister_any _ _).mono ?_; rintro e w' ⟨rfl, rfl⟩))
    go_ret2
    rw [hR.out, hK.out]; exact ⟨rfl, hbb.out⟩
  have hK : Hid (resOk es x0 x1 r = true) := by simp [Hid, resOk, h0, h1, h2, h3]
  have hR : Hid (resR es x0 x1 r = (runL es [x0, x1, 0, 0, 0, 0]).getD r.toNat 0) := by simp [Hid, resR, hK.out]
  have hW := Lib.hid (start_words h1 h2)
  have hG := Lib.hid h0
  have hrl := Lib.hid (runL_words (okCode_all h0) hW.out).1
  obtain ⟨hr0, hr1⟩ := (inR_iff _ _ _).1 h3
  obtain ⟨nr, rfl⟩ := Int.eq_ofNat_of_zero_le hr0
  simp only [Int.toNat_natCast] at hR
  have hc1 := h1
  have hc2 := h2
  have hc3 := h3
  clear h0 hr0
  have hbel3 := fun o => Lib.hid (hbb.out.alloc hz o)
  have hE3 := fun o => Lib.hid (hE2.out.below ((Below.refl w2.heap.size w2).alloc (Nat.le_refl _) o) (by have := hBB.out; omega))
  go_wp2_with (first | (go_at_call 144; refine (isWord_any _ _).mono ?_; rintro e w' ⟨rfl, rfl⟩) | (go_at_call 132; refine (isRegister_any _ _).mono ?_; rintro e w' ⟨rfl, rfl⟩))
  clear h1 h2 h3 hc1 hc2 hc3
  refine (runSteps_any L B A c es w2.heap.size [x0, x1, 0, 0, 0, 0] _ hG.out (hE3 _).out (by have := hBB.out; omega) hW.out (heap_alloc_new w2 _)).mono ?_
  rintro e w5 ⟨rfl, hm5, hc5⟩
  have hbel6 := Lib.hid (below_chg (hbel3 _).out hc5 (by simp; omega) (by omega))
  have d1 : w5.cell? ⟨w2.heap.size, nr, none⟩ = some (.int .i64 ((runL es [x0, x1, 0, 0, 0, 0]).getD nr 0)) := by have := hm5.six hrl.out nr (by omega); rwa [Nat.zero_add] at this
  generalize (runL es [x0, x1, 0, 0, 0, 0]).getD nr 0 = y at d1 hR
  clear hm5 hc5
  have i0 : (0 : Int) ≤ (nr : Int) := by omega
  have i1 : (nr : Int) < 6 := by omega
  go_wp2
  go_ret2
  rw [hR.out, hK.out]; exact ⟨rfl, hbel6.out⟩
end Go.Proofs.Ytdleiondfhmjdaa

/- What the differences of code and an expression are. -/
namespace Go.Proofs.Ytdleiondfhmjdaa
open Go.RowKit
set_option linter.unusedVariables false

def wrB (es : List Nd) (cs : List In) (r : Int) : Bool := good es && okCode cs && reg r
/-- The table of a register behind code. -/
def rsT (cs : List In) (r : Int) : List Int := tabTo (fun x0 x1 => resR cs x0 x1 r) 4096
theorem rsT_len (cs : List In) (r : Int) : (rsT cs r).length = 4096 := tabTo_len _ _
theorem words6_get {rs : List Int} (h : words6 rs) (i : Nat) : 0 ≤ rs.getD i 0 ∧ rs.getD i 0 ≤ 63 := by
  obtain ⟨hl, ha⟩ := h
  by_cases hi : i < rs.length
  · rw [getD_get hi]
    have := (List.all_eq_true.1 ha) rs[i] (List.getElem_mem hi)
    exact (inR_iff _ _ _).1 this
  · rw [List.getD_eq_getElem?_getD, List.getElem?_eq_none (by omega)]; exact ⟨Int.le_refl _, by show (0 : Int) ≤ 63; omega⟩
theorem resR_W (cs : List In) (x0 x1 r : Int) : 0 ≤ resR cs x0 x1 r ∧ resR cs x0 x1 r ≤ 63 := by
  unfold resR
  by_cases h : resOk cs x0 x1 r = true
  · rw [if_pos h]
    simp only [resOk, Bool.and_eq_true] at h
    exact words6_get (runL_words (okCode_all h.1.1.1) (start_words h.1.1.2 h.1.2)) _
  · rw [if_neg h]; omega
theorem rsT_W (cs : List In) (r : Int) : W64 (rsT cs r) := by
  intro i
  by_cases hi : i < 4096
  · rw [rsT, tabTo_get _ hi]; exact resR_W _ _ _ _
  · rw [List.getD_eq_getElem?_getD, List.getElem?_eq_none (by rw [rsT_len]; omega)]; exact ⟨Int.le_refl _, by show (0 : Int) ≤ 63; omega⟩
def wrR (es : List Nd) (cs : List In) (r : Int) : List Int := if wrB es cs r = true then difT (tab es) (rsT cs r) else []
def wfR (es : List Nd) (cs : List In) (r : Int) : Int := if wrB es cs r = true then firstI (neI (tab es) (rsT cs r)) 4096 else -1
def wf0 (es : List Nd) (cs : List In) (r : Int) : Int := if wfR es cs r < 0 then 0 else wfR es cs r / 64
def wf1 (es : List Nd) (cs : List In) (r : Int) : Int := if wfR es cs r < 0 then 0 else wfR es cs r % 64
def wfB (es : List Nd) (cs : List In) (r : Int) : Bool := decide (0 ≤ wfR es cs r)
def wcR (es : List Nd) (cs : List In) (r : Int) : Bool := wrB es cs r && decide (wfR es cs r < 0)
theorem wrR_len (es : List Nd) (cs : List In) (r : Int) : (wrR es cs r).length ≤ 4096 := by
  unfold wrR; split
  · rw [difT_len]; omega
  · simp
theorem wrR_first (es : List Nd) (cs : List In) (r : Int) : firstI (fun i => (wrR es cs r).getD i 0 != 0) (wrR es cs r).length = wfR es cs r := by
  unfold wrR wfR
  by_cases h : wrB es cs r = true
  · rw [if_pos h, if_pos h, difT_len]
    simp only [wrB, Bool.and_eq_true] at h
    exact firstI_ext fun i hi => by rw [difT_get _ _ hi, xorI_ne (tab_W h.1.1) (rsT_W cs r)]
  · rw [if_neg h, if_neg h]; rfl
theorem countI_zero {p : Nat → Bool} : ∀ {n : Nat}, countI p n = 0 ↔ ∀ i, i < n → p i = false
  | 0 => ⟨fun _ i hi => absurd hi (Nat.not_lt_zero _), fun _ => rfl⟩
  | n + 1 => by
    have hb := countI_bd p n
    rw [countI]
    constructor
    · intro h i hi
      have h2 : p n = false := by
        cases hp : p n
        · rfl
        · rw [hp, if_pos rfl] at h; omega
      rw [h2, if_neg (by simp)] at h
      by_cases e : i = n
      · rw [e]; exact h2
      · exact (countI_zero (n := n)).1 (by omega) i (by omega)
    · intro h
      rw [h n (by omega), if_neg (by simp), (countI_zero (n := n)).2 (fun i hi => h i (by omega))]; rfl
theorem wrR_count (es : List Nd) (cs : List In) (r : Int) (h : wrB es cs r = true) : (countI (fun i => (wrR es cs r).getD i 0 != 0) (wrR es cs r).length == 0) = wcR es cs r := by
  have h1 := wrR_first es cs r
  unfold wcR
  rw [h, Bool.true_and, ← h1, Bool.eq_iff_iff, beq_iff_eq, decide_eq_true_eq, countI_zero, firstI_neg]
end Go.Proofs.Ytdleiondfhmjdaa

/- The model's helpers of chapter 3 over tables. -/
namespace Go.Proofs.Ytdleiondfhmjdaa
open Go.RowKit
set_option linter.unusedVariables false
set_option maxRecDepth 100000


end Go.Proofs.Ytdleiondfhmjdaa

/- The model's functions of two expressions. -/
namespace Go.Proofs.Ytdleiondfhmjdaa
open Go.RowKit
set_option linter.unusedVariables false
set_option maxRecDepth 100000

end Go.Proofs.Ytdleiondfhmjdaa

/- The model's DifferenceOf and ComputesExpr. -/
namespace Go.Proofs.Ytdleiondfhmjdaa
open Go.RowKit
set_option linter.unusedVariables false
set_option maxRecDepth 100000

/-- The registers at the start, in a block of the call's own. -/
def SS6 (B : Nat) (x0 x1 : Int) (g : Nat) (W : World) : Prop := B ≤ g ∧ IB W g 3 [x0, x1, 0, 0, 0, 0]
theorem firstI_64 {p : Nat → Bool} {k n : Nat} (hk : k < 64) (hn : n < 64) (hp : p (64 * k + n) = true) (h : ∀ i, i < 64 * k + n → p i = false) : firstI p 4096 / 64 = k ∧ firstI p 4096 % 64 = n ∧ ¬ firstI p 4096 < 0 := by
  rw [firstI_some (show 64 * k + n < 4096 by omega) hp h]
  omega

set_option maxHeartbeats 8000000 in
theorem seDifference_any (L B : Nat) (A : Option Addr) (c : Nat) (es : List Nd) (L' B' : Nat) (A' : Option Addr) (c' : Nat) (cs : List In) (r : Int) (w : World) (hes : NS w L B A es) (hB : B ≤ w.heap.size) (hcs : RS In.enc 5 w L' B' A' cs) (hB' : B' ≤ w.heap.size) (hw : wrB es cs r = true) :
    Calls Try.prog 91 #[.slice A es.length c, .slice A' cs.length c', .int .i64 r] w fun e w' => e = .returned (.tuple #[.int .i64 (wf0 es cs r), .int .i64 (wf1 es cs r), .bool (wfB es cs r)]) ∧ Below w.heap.size w w' := by
  have hq : Hid (wfR es cs r = firstI (neI (tab es) (rsT cs r)) 4096) := by unfold Hid wfR; rw [if_pos hw]
  have h0 : Hid (wf0 es cs r = if wfR es cs r < 0 then 0 else wfR es cs r / 64) := rfl
  have h1 : Hid (wf1 es cs r = if wfR es cs r < 0 then 0 else wfR es cs r % 64) := rfl
  have h2 : Hid (wfB es cs r = decide (0 ≤ wfR es cs r)) := rfl
  rw [hq.out] at h0 h1 h2
  clear hq
  simp only [wrB, Bool.and_eq_true] at hw
  obtain ⟨⟨hg, hok⟩, hr⟩ := hw
  obtain ⟨hl1, hl24, hke⟩ := good_len hg
  obtain ⟨hr0, hr1⟩ := (inR_iff _ _ _).1 hr
  obtain ⟨nr, rfl⟩ := Int.eq_ofNat_of_zero_le hr0
  have hP : ∀ k n : Nat, k < 64 → n < 64 → neI (tab es) (rsT cs (nr : Int)) (64 * k + n) = ((runL cs [(k : Int), (n : Int), 0, 0, 0, 0]).getD nr 0 != (vals es (k : Int) (n : Int)).getD (es.length - 1) 0) := by
    intro k n hk hn
    have e1 : (64 * k + n) / 64 = k := by omega
    have e2 : (64 * k + n) % 64 = n := by omega
    unfold neI tab rsT
    rw [tabTo_get _ (by omega), tabTo_get _ (by omega), e1, e2, bne_comm]
    have hk1 : isW (k : Int) = true := (isW_iff _).2 (by omega)
    have hn1 : isW (n : Int) = true := (isW_iff _).2 (by omega)
    show (resR cs (k : Int) (n : Int) (nr : Int) != at2 es (k : Int) (n : Int)) = _
    unfold resR at2
    rw [if_pos (by unfold resOk; rw [hok, hk1, hn1, hr]; rfl)]
    rfl
  have HS := Lib.hid fun (k n : Nat) (W : World) (hW : Below w.heap.size w W) => (cdStart_any (k : Int) (n : Int) W).mono (R' := fun e W' => ∃ g, e = .returned (.slice (some ⟨g, 0, none⟩) 6 6) ∧ SS6 w.heap.size (k : Int) (n : Int) g W' ∧ Below w.heap.size w W') (by rintro e W' ⟨rfl, hi, hb⟩; exact ⟨_, rfl, ⟨hW.size, hi⟩, hW.trans (hb.mono hW.size)⟩)
  have HX := Lib.hid fun (k n : Nat) (hk : k < 64) (hn : n < 64) (W : World) (hW : Below w.heap.size w W) => (exAt_any L B A c es (k : Int) (n : Int) W hl24 hl1 (hes.below hW hB) (Nat.le_trans hB hW.size) hke ⟨by omega, by omega⟩ ⟨by omega, by omega⟩).mono (R' := fun e W' => e = .returned (.int .i64 ((vals es (k : Int) (n : Int)).getD (es.length - 1) 0)) ∧ Below w.heap.size w W' ∧ (∀ g, SS6 w.heap.size (k : Int) (n : Int) g W → SS6 w.heap.size (k : Int) (n : Int) g W') ∧ ∀ g v, g < W.heap.size → W.cell? ⟨g, nr, none⟩ = some v → W'.cell? ⟨g, nr, none⟩ = some v)
    (by rintro e W' ⟨rfl, hb⟩; exact ⟨rfl, hW.trans (hb.mono hW.size), fun g hg => ⟨hg.1, hg.2.below hb hg.2.lt⟩, fun g v hg hv => (hb.cell (p := ⟨g, nr, none⟩) hg).trans hv⟩)
  have HR := Lib.hid fun (k n : Nat) (hk : k < 64) (hn : n < 64) (W : World) (g : Nat) (hW : Below w.heap.size w W) (hs : SS6 w.heap.size (k : Int) (n : Int) g W) => (cdRun_any L' B' A' c' cs g 0 6 [(k : Int), (n : Int), 0, 0, 0, 0] g (g + 1) W hok (hcs.below hW hB') (Nat.le_trans hB' hW.size) (start_words ((isW_iff _).2 (by omega)) ((isW_iff _).2 (by omega))) hs.2.toIS hs.2.lt).mono
    (R' := fun e W' => ∃ g4 c4, e = .returned (.slice (some ⟨g4, 0, none⟩) 6 c4) ∧ g4 < W'.heap.size ∧ W'.cell? ⟨g4, nr, none⟩ = some (.int .i64 ((runL cs [(k : Int), (n : Int), 0, 0, 0, 0]).getD nr 0)) ∧ Below w.heap.size w W')
    (by
      rintro e W' ⟨g4, c4, rfl, hg4, ho4, hb4⟩
      have hrl := (runL_words (okCode_all hok) (start_words (x0 := (k : Int)) (x1 := (n : Int)) ((isW_iff _).2 (by omega)) ((isW_iff _).2 (by omega)))).1
      have hd := ho4.at6 nr (by rw [hrl]; omega)
      exact ⟨g4, c4, rfl, (ho4.1.lt g4 rfl).2, hd, hW.trans (hb4.mono hW.size)⟩)
  have i0 : (0 : Int) ≤ (nr : Int) := by omega
  have i1 : (nr : Int) < 6 := by omega
  have hPP := Lib.hid hP
  have b0 := Lib.hid (Below.refl w.heap.size w)
  clear hP hes hcs hB hB' hg hok hr hl1 hl24 hke hr0 hr1
  generalize neI (tab es) (rsT cs (nr : Int)) = P at *
  generalize es.length = m1 at *
  generalize cs.length = m2 at *
  generalize wf0 es cs (nr : Int) = R0 at *
  generalize wf1 es cs (nr : Int) = R1 at *
  generalize wfB es cs (nr : Int) = R2 at *
  generalize hF : (fun (k n : Nat) => (runL cs [(k : Int), (n : Int), 0, 0, 0, 0]).getD nr 0) = F at *
  generalize hG : (fun (k n : Nat) => (vals es (k : Int) (n : Int)).getD (m1 - 1) 0) = G at *
  have hF' : ∀ k n : Nat, (runL cs [(k : Int), (n : Int), 0, 0, 0, 0]).getD nr 0 = F k n := fun k n => by rw [← hF]
  have hG' : ∀ k n : Nat, (vals es (k : Int) (n : Int)).getD (m1 - 1) 0 = G k n := fun k n => by rw [← hG]
  simp only [hF', hG'] at HR HX hPP
  clear hF' hG' hF hG
  go_enter Try.func91, Try.ntmps91
  go_wp2
  go_loopw [9] (fun i wr => ∃ k : Nat, k ≤ 64 ∧ i = .int .i64 k ∧ (∀ j, j < 64 * k + 0 → P j = false) ∧ Below w.heap.size w wr) (fun i _ => 64 - (intOf i).toNat)
  case atStart => exact ⟨0, Nat.zero_le _, rfl, fun j hj => absurd hj (Nat.not_lt_zero _), b0.out⟩
  case round =>
    obtain ⟨k, hk, rfl, hh, hbel⟩ := hrel
    have hH := Lib.hid hh
    have hBL := Lib.hid hbel
    clear hh hbel
    by_cases hlt : k < 64
    · obtain ⟨wo, hwo⟩ : ∃ wo : World, wo = wr := ⟨_, rfl⟩
      rw [← hwo] at hBL ⊢
      clear hwo
      have hk63 : (k : Int) ≤ 63 := by omega
      have hd63 : decide ((k : Int) ≤ 63) = true := by simpa using hk63
      go_wp2
      go_loopw [10] (fun j wr => ∃ n : Nat, n ≤ 64 ∧ j = .int .i64 n ∧ (∀ j, j < 64 * k + n → P j = false) ∧ Below w.heap.size w wr) (fun j _ => 64 - (intOf j).toNat)
      case atStart => exact ⟨0, Nat.zero_le _, rfl, hH.out, hBL.out⟩
      case round =>
        obtain ⟨n, hn, rfl, hh, hbel⟩ := hrel
        have hJ := Lib.hid hh
        have hCL := Lib.hid hbel
        clear hh hbel
        by_cases hlt2 : n < 64
        · have hn63 : (n : Int) ≤ 63 := by omega
          have hdn63 : decide ((n : Int) ≤ 63) = true := by simpa using hn63
          have hPN := Lib.hid (hPP.out k n hlt hlt2)
          have hS := Lib.hid (HS.out k n)
          have hX := Lib.hid (HX.out k n hlt hlt2)
          have hR := Lib.hid (HR.out k n hlt hlt2)
          have bd := Lib.hid hCL.out.drew
          generalize F k n = y at *
          generalize G k n = x at *
          cases hb : (y != x)
          · go_wp2_with (fail)
            go_region_law (first
              | (go_simp; go_at_call 129; (with_reducible refine (hS.out _ ?_).mono ?_); (first | exact bx.out | exact bd.out); rintro e ws ⟨g, rfl, ss, bs'⟩; have bs := Lib.hid bs')
              | (go_simp; go_at_call 130; (with_reducible refine (hX.out _ ?_).mono ?_); (first | exact br.out | exact bs.out | exact bd.out); rintro e wx ⟨rfl, bx', hx, hv⟩; have bx := Lib.hid bx'; try have d2 := hv _ _ hg4 d1)
              | (go_simp; go_at_call 128; (with_reducible refine (hR.out _ _ ?_ ?_).mono ?_); (first | exact bx.out | exact bs.out); (first | exact ss | exact hx _ ss); rintro e w4 ⟨g4, c4, rfl, hg4, d1, br'⟩; have br := Lib.hid br'))
            all_goals
              go_wp2
              go_roundw
              case rel => exact ⟨n + 1, by omega, by go_num, fun j hj => by
                by_cases e : j = 64 * k + n
                · rw [e, hPN.out]; exact hb
                · exact hJ.out j (by omega), by first | exact br.out | exact bx.out⟩
              case measure => simp [intOf]; omega
          · have hf := Lib.hid (firstI_64 hlt hlt2 (by rw [hPN.out]; exact hb) hJ.out)
            rw [if_neg hf.out.2.2] at h0 h1
            rw [decide_eq_true (by have := hf.out.2.2; omega : 0 ≤ firstI P 4096)] at h2
            rw [hf.out.1] at h0
            rw [hf.out.2.1] at h1
            go_wp2_with (fail)
            go_region_law (first
              | (go_simp; go_at_call 129; (with_reducible refine (hS.out _ ?_).mono ?_); (first | exact bx.out | exact bd.out); rintro e ws ⟨g, rfl, ss, bs'⟩; have bs := Lib.hid bs')
              | (go_simp; go_at_call 130; (with_reducible refine (hX.out _ ?_).mono ?_); (first | exact br.out | exact bs.out | exact bd.out); rintro e wx ⟨rfl, bx', hx, hv⟩; have bx := Lib.hid bx'; try have d2 := hv _ _ hg4 d1)
              | (go_simp; go_at_call 128; (with_reducible refine (hR.out _ _ ?_ ?_).mono ?_); (first | exact bx.out | exact bs.out); (first | exact ss | exact hx _ ss); rintro e w4 ⟨g4, c4, rfl, hg4, d1, br'⟩; have br := Lib.hid br'))
            all_goals
              go_wp2
              go_ret3
              exact ⟨by rw [h0.out, h1.out, h2.out]; rfl, by first | exact br.out | exact bx.out⟩
        · obtain rfl : n = 64 := by omega
          go_wp2
          go_roundw
          case rel => exact ⟨k + 1, by omega, by go_num, fun j hj => hJ.out j (by omega), hCL.out⟩
          case measure => simp [intOf]; omega
    · obtain rfl : k = 64 := by omega
      have hf := Lib.hid (firstI_none (p := P) (n := 4096) fun i hi => hH.out i (by omega))
      rw [hf.out] at h0 h1 h2
      go_wp2
      go_ret3
      exact ⟨by rw [h0.out, h1.out, h2.out]; rfl, hBL.out⟩
end Go.Proofs.Ytdleiondfhmjdaa
