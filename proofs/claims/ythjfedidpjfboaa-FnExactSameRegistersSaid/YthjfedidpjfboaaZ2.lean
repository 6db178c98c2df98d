/- Texts of this proof, one behind the other: SF, VF, BY, CS, SG, VG. -/
import Derived.Test.YthjfedidpjfboaaZ3
import Derived.WalkKit
import Derived.WalkSpells
import Derived.WalkLawsBesides
import Derived.Deep.RegionHeld3
import Derived.Lib.Hide
import Derived.Test.YthjfedidpjfboaaZ10
import Derived.Test.YthjfedidpjfboaaZ8
import Derived.Test.YthjfedidpjfboaaLawVB
import Derived.Test.YthjfedidpjfboaaLawC
import Derived.Test.YthjfedidpjfboaaCR
import Derived.Deep.RegionLaw
import Derived.Test.YthjfedidpjfboaaCO
import Derived.Deep.QuietTactic
import Derived.BigQuiet
/- isBlock, FollowPath of the program. -/
namespace Go.Proofs.Ythjfedidpjfboaa
open Go.RowKit
set_option linter.unusedVariables false
set_option maxRecDepth 100000

theorem isBlock_any (L B : Nat) (A : Option Addr) (c : Nat) (es : List In) (w : World) (hl : es.length ≤ 1048576) (hes : RS In.enc 5 w L B A es) (hB : B ≤ w.heap.size) :
    Calls Try.prog 83 #[.slice A es.length c] w fun e w' => e = .returned (.bool (blkOk es)) ∧ Below w.heap.size w w' := by
  have H := Lib.hid (IsCode_any L B A c es w hl hes hB)
  have hk : Hid (blkOk es = (decide (es.length ≤ 20) && okCode es)) := rfl
  have b0 := Lib.hid (Below.refl w.heap.size w)
  clear hes
  generalize blkOk es = r at *
  generalize okCode es = q at *
  by_cases h20 : es.length ≤ 20
  · have h1 : (es.length : Int) ≤ 20 := by omega
    have h2 : decide (es.length ≤ 20) = true := decide_eq_true h20
    rw [h2] at hk
    clear h2
    go_enter Try.func83, Try.ntmps83
    go_wp2_with (fail)
    refine H.out.mono ?_
    rintro e w1 ⟨rfl, hb⟩
    have hbh := Lib.hid hb
    clear hb
    go_wp2
    go_ret
    exact ⟨by rw [hk.out]; rfl, hbh.out⟩
  · have h1 : ¬ (es.length : Int) ≤ 20 := by omega
    have h2 : decide (es.length ≤ 20) = false := decide_eq_false h20
    rw [h2] at hk
    clear h2
    go_enter Try.func83, Try.ntmps83
    go_wp2
    go_ret
    exact ⟨by rw [hk.out]; rfl, b0.out⟩
set_option maxHeartbeats 1000000 in
theorem CloneC_all (L B : Nat) (A : Option Addr) (c : Nat) (xs : List In) (w : World) (hl : xs.length ≤ 1048576) (hx : RS In.enc 5 w L B A xs) (hB : B ≤ w.heap.size) :
    Calls Try.prog 84 #[.slice A xs.length c] w (FreshInstr w xs) := by
  have b0 := Lib.hid (Below.refl w.heap.size w)
  rcases A with _ | ad
  · have h0 : xs = [] := by
      rcases xs with _ | ⟨x, xs⟩
      · rfl
      · obtain ⟨b, o, e, _⟩ := hx (by simp)
        cases e
    subst h0
    have heq := Lib.run_eql_slice_nil (P := Try.prog) w 34 90 none 0 c 0 0 Try.underlying34
    simp only [Option.isNone_none] at heq
    go_enter Try.func84, Try.ntmps84
    go_wp2
    go_ret
    exact ⟨none, 0, rfl, OK.nil _ _ _ _, b0.out⟩
  obtain ⟨i0, hi, hz0, hz1, hz2⟩ := info_parts Try.infoInstr
  have hb0 := Lib.hid ((Below.refl w.heap.size w).alloc (Nat.le_refl _) (.cells #[] 90))
  have hnews := Lib.hid (show ∀ j u, (xs.flatMap In.enc)[j]? = some u → (w.alloc (.cells #[] 90)).cell? (ad.add j) = some u from fun j u hu => by
    have h0 : 0 < xs.length := by
      rcases xs with _ | ⟨x, xs⟩
      · simp at hu
      · simp
    obtain ⟨a, e, h⟩ := (hx.below hb0.out hB).news In.hk h0
    injection e with e; subst e
    exact h j u hu)
  have hown := Lib.hid (World.ownsRow_made (base := w.heap.size) (e := 90) (size := 5) w #[] 0 (Nat.le_refl _) (by unfold maxLen; omega) (by simp))
  clear hx
  have heq := Lib.run_eql_slice_nil (P := Try.prog) w 34 90 (some ad) xs.length c 0 0 Try.underlying34
  simp only [Option.isNone_some] at heq
  go_enter Try.func84, Try.ntmps84
  go_wp2_with (at_builtin; refine wpList_append_src rfl _ _ 34 rfl w.heap.size 90 i0 _ 5 48 Try.underlying34 hi hz0 hz1 hz2 rfl (by decide) _ 0 [] rfl hown.out (some ad) xs.length c (xs.flatMap In.enc) rfl (kflat_len In.hk xs) (fun _ => ⟨ad, rfl, hnews.out⟩) (five_ones xs) (by unfold maxLen; omega) (by omega) (by simp) ?_; intro v' w1 hown' hgrow _)
  simp only [Nat.zero_add, List.nil_append] at hown'
  have ho : Hid (OK In.enc 5 90 w1 w.heap.size w1.heap.size v' xs) := OK.ofRow hown' rfl
  have hb : Hid (Below w.heap.size w w1) := hb0.out.grown hgrow (by simp) (fun k hk => by cases hk; exact Nat.le_refl _)
  obtain ⟨A', c', rfl, _⟩ := OK.form In.hk ho.out
  clear hown' hgrow
  go_wp2
  go_ret
  exact ⟨_, _, rfl, ho.out, hb.out⟩

set_option maxHeartbeats 4000000 in
theorem iFollowPath_any (L B : Nat) (A : Option Addr) (c : Nat) (es : List In) (L' B' : Nat) (A' : Option Addr) (c' : Nat) (path : List Int) (w : World) (hl : es.length ≤ 1048576) (hes : RS In.enc 5 w L B A es) (hB : B ≤ w.heap.size) (hn : path.length ≤ 1048576) (hns : IS w L' B' A' path) (hB' : B' ≤ w.heap.size) :
    Calls Try.prog 29 #[.slice A es.length c, .slice A' path.length c'] w (ResFollowPath (folC es path) (folB es path) w) := by
  have H := Lib.hid (isBlock_any L B A c es w hl hes hB)
  cases hb : blkOk es
  · have hN := Lib.hid (fol_none (folR_no path hb))
    rw [hb] at H
    clear hb hes hns
    go_enter Try.func29, Try.ntmps29
    go_wp2_with (fail)
    refine H.out.mono ?_
    rintro e w1 ⟨rfl, hb1⟩
    have hbh := Lib.hid hb1
    clear hb1
    go_wp2
    go_ret2
    rw [hN.out.1, hN.out.2]
    exact ⟨none, 0, rfl, OK.nil _ _ _ _, hbh.out⟩
  have hFR := Lib.hid (folR_yes path hb)
  have hok := (blkOk_parts hb).2
  have hSt := Lib.hid (MvInv.start hok)
  have hSucc := Lib.hid fun (k : Nat) (h : k < path.length) => folS_succ (es, []) h
  have hNo := Lib.hid fun (k : Nat) (h : folS (es, []) (path.take k) = none) => folS_no h
  have hInv := Lib.hid fun (k : Nat) (s : Mv) (h : folS (es, []) (path.take k) = some s) => (MvInv.fol _ hSt.out h).1
  have hL20 := okCode_len hok
  have hCl := Lib.hid fun (W : World) (hW : Below w.heap.size w W) => CloneC_all L B A c es W hl (hes.below hW hB) (Nat.le_trans hB hW.size)
  have hPa := Lib.hid fun (W : World) (hW : Below w.heap.size w W) => hns.below hW hB'
  have hBB' := Lib.hid hB'
  rw [hb] at H
  clear hb hes hns hok
  go_enter Try.func29, Try.ntmps29
  go_wp2_with (fail)
  refine H.out.mono ?_
  rintro e w1 ⟨rfl, hb1⟩
  have hbh := Lib.hid hb1
  clear hb1
  go_wp2_with (fail)
  refine (hCl.out _ hbh.out).mono ?_
  rintro e w2 ⟨A2, c2, rfl, ho2, hb2⟩
  have hB2 := hbh.out.trans (hb2.mono hbh.out.size)
  have A3 := (Below.refl w2.heap.size w2).alloc (Nat.le_refl _) (.cells #[.slice A2 es.length c2, .slice none 0 0] 94)
  have S0 : Hid (SwSt w w2.heap.size true (.slice A2 es.length c2) (.slice none 0 0) es [] (w2.alloc (.cells #[.slice A2 es.length c2, .slice none 0 0] 94))) :=
    ⟨hB2.size, heap_alloc_new w2 _, ⟨A2, c2, rfl, OK.cap ho2, .inr (((ho2.lower hbh.out.size).below A3 (Nat.le_refl _)).more A3.size)⟩, OW.nil _ _ _, hB2.alloc hB2.size _⟩
  have hB2h := Lib.hid hB2
  clear A3 ho2 hb2 hB2
  go_wp2
  obtain ⟨W3, hW3⟩ : ∃ W3, W3 = w2.alloc (.cells #[.slice A2 es.length c2, .slice none 0 0] 94) := ⟨_, rfl⟩
  rw [← hW3] at S0 ⊢
  obtain ⟨g, hg⟩ : ∃ g, g = w2.heap.size := ⟨_, rfl⟩
  rw [← hg] at S0 ⊢
  clear hW3 hg
  go_loopw [17] (fun i wr => ∃ (k : Nat) (s : Mv) (V P : Value), k ≤ path.length ∧ i = .int .i64 k ∧ folS (es, []) (path.take k) = some s ∧ SwSt w g true V P s.1 s.2 wr) (fun i _ => path.length - (intOf i).toNat)
  case atStart => exact ⟨0, (es, []), _, _, Nat.zero_le _, rfl, rfl, S0.out⟩
  case round =>
    obtain ⟨k, s, V, P, hk, rfl, hs, hst⟩ := hrel
    have hI := hInv.out k s hs
    obtain ⟨cs, p⟩ := s
    have hSS := Lib.hid hst
    have hS := Lib.hid hs
    have hlc := hI.len
    have hlp := hI.most
    dsimp only at hlc hlp
    clear hI hs
    by_cases hlt : k < path.length
    · obtain ⟨pb, po, rfl, ⟨_, hpb⟩, hcc⟩ := (hPa.out _ hst.be) (by omega)
      have y1 := hcc k hlt
      have hsu := Lib.hid (hSucc.out k hlt)
      clear hcc hst
      generalize path[k] = pk at *
      have hSw := Lib.hid (swap_any w g true V P cs p pk wr (by omega) hlp hSS.out)
      go_wp2_with (fail)
      refine hSw.out.mono ?_
      rintro e w4 ⟨rfl, hb4, hnx⟩
      have hN4 := Lib.hid hnx
      have hB4 := Lib.hid hb4
      have hsu2 : Hid (folS (es, []) (path.take (k + 1)) = mvS (cs, p) pk) := by rw [Hid, hsu.out, hS.out]; rfl
      clear hnx hb4 hsu hSw
      cases hm : mvS (cs, p) pk with
      | none =>
        rw [hm] at hsu2
        have hF := Lib.hid (fol_none (hFR.out.trans (hNo.out _ hsu2.out)))
        clear hm hN4 hsu2
        dsimp only [Option.isSome_none]
        go_wp2
        go_ret2
        rw [hF.out.1, hF.out.2]
        exact ⟨none, 0, rfl, OK.nil _ _ _ _, hB4.out⟩
      | some s2 =>
        rw [hm] at hsu2
        obtain ⟨V2, P2, h2⟩ := hN4.out s2 hm
        have H2 := Lib.hid h2
        clear h2 hm hN4
        dsimp only [Option.isSome_some]
        go_wp2
        go_roundw
        case rel => exact ⟨k + 1, s2, V2, P2, by omega, by go_num, hsu2.out, H2.out⟩
        case measure => simp [intOf]; omega
    · obtain rfl : k = path.length := by omega
      have hF := Lib.hid (fol_some (hFR.out.trans (by rw [← hS.out, List.take_length])))
      obtain ⟨A5, c5, rfl, hO5⟩ := hst.code.own
      have u0 := hst.bx.cell 0
      simp only [List.getElem?_cons_zero] at u0
      have hO5h := Lib.hid hO5
      dsimp only at u0 hO5h hF
      clear hst hO5
      go_wp2
      go_ret2
      rw [hF.out.1, hF.out.2]
      exact ⟨A5, c5, by rw [show cs.length = es.length from hlc]; rfl, hO5h.out, hSS.out.be⟩
end Go.Proofs.Ythjfedidpjfboaa

/- The first inputs and the least register in which machines differ: plain, and witnessOf of the program. -/
namespace Go.Proofs.Ythjfedidpjfboaa
open Go.RowKit
set_option linter.unusedVariables false
set_option maxRecDepth 100000

def wt2 (ra rb out : List Int) : Option Int := out.find? fun r => ra.getD r.toNat 0 != rb.getD r.toNat 0
theorem wt2_none {ra rb out : List Int} (h : ∀ j, j < out.length → ra.getD (out.getD j 0).toNat 0 = rb.getD (out.getD j 0).toNat 0) : wt2 ra rb out = none := by
  unfold wt2
  rw [List.find?_eq_none]
  intro r hr
  obtain ⟨j, hj, e⟩ := List.mem_iff_getElem.1 hr
  have := h j hj
  have e9 : out.getD j 0 = r := by rw [List.getD_eq_getElem?_getD, List.getElem?_eq_getElem hj, ← e]; rfl
  rw [e9] at this
  rw [this]; simp
theorem wt2_some {ra rb out : List Int} {k : Nat} (hk : k < out.length) (hd : ra.getD out[k].toNat 0 ≠ rb.getD out[k].toNat 0) (h : ∀ j, j < k → ra.getD (out.getD j 0).toNat 0 = rb.getD (out.getD j 0).toNat 0) : wt2 ra rb out = some out[k] := by
  unfold wt2
  rw [List.find?_eq_some_iff_append]
  refine ⟨by simpa using hd, out.take k, out.drop (k + 1), ?_, fun r hr => ?_⟩
  · rw [← List.drop_eq_getElem_cons hk, List.take_append_drop]
  · obtain ⟨j, hj, e⟩ := List.mem_iff_getElem.1 hr
    rw [List.length_take] at hj
    have hj1 := Nat.lt_of_lt_of_le hj (Nat.min_le_left _ _)
    have hj2 := Nat.lt_of_lt_of_le hj (Nat.min_le_right _ _)
    have := h j hj1
    rw [List.getElem_take] at e
    have e9 : out.getD j 0 = r := by rw [List.getD_eq_getElem?_getD, List.getElem?_eq_getElem hj2, ← e]; rfl
    rw [e9] at this
    rw [this]; simp
def wtS (n : Nat) (RA RB : Nat → List Int) (out : List Int) : Option (Nat × Int) := (List.range n).findSome? fun i => (wt2 (RA i) (RB i) out).map fun r => (i, r)
theorem wtS_none {n : Nat} {RA RB : Nat → List Int} {out : List Int} (h : ∀ i, i < n → wt2 (RA i) (RB i) out = none) : wtS n RA RB out = none := by
  unfold wtS
  rw [List.findSome?_eq_none_iff]
  intro i hi
  rw [h i (List.mem_range.1 hi)]; rfl
theorem wtS_some {n k : Nat} {RA RB : Nat → List Int} {out : List Int} {r : Int} (hk : k < n) (hr : wt2 (RA k) (RB k) out = some r) (h : ∀ i, i < k → wt2 (RA i) (RB i) out = none) : wtS n RA RB out = some (k, r) := by
  unfold wtS
  obtain ⟨m, rfl⟩ : ∃ m, n = k + (1 + m) := ⟨n - k - 1, by omega⟩
  rw [List.range_add, List.findSome?_append]
  have h1 : (List.range k).findSome? (fun i => (wt2 (RA i) (RB i) out).map fun r => (i, r)) = none := by
    rw [List.findSome?_eq_none_iff]
    intro i hi
    rw [h i (List.mem_range.1 hi)]; rfl
  rw [h1, Nat.add_comm 1 m, List.range_succ_eq_map, List.map_cons, List.findSome?_cons, Nat.add_zero, hr]; rfl
def wtL (o : Option (Nat × Int)) : List Int := match o with
  | some (i, r) => [(i : Int) / 64, (i : Int) % 64, r]
  | none => []
theorem wtL_len (o : Option (Nat × Int)) : (wtL o).length ≤ 3 := by unfold wtL; split <;> simp
def WitGot (w : World) (o : Option (Nat × Int)) (e : Ending) (w' : World) : Prop := ∃ A c, e = .returned (.slice A (wtL o).length c) ∧ A.isNone = o.isNone ∧ OW w' w.heap.size w'.heap.size (.slice A (wtL o).length c) (wtL o) ∧ Below w.heap.size w w'

set_option maxHeartbeats 4000000 in
theorem witnessOf_any (gA gB : Nat) (RA RB : Nat → List Int) (L B : Nat) (A : Option Addr) (c : Nat) (out : List Int) (w : World) (hl : out.length ≤ 1048576) (hin : ∀ r ∈ out, In6 r) (hA : MB w gA RA) (hBm : MB w gB RB) (hx : IS w L B A out) (hB : B ≤ w.heap.size) :
    Calls Try.prog 121 #[.slice (some ⟨gA, 0, none⟩) 4096 4096, .slice (some ⟨gB, 0, none⟩) 4096 4096, .slice A out.length c] w (WitGot w (wtS 4096 RA RB out)) := by
  have hMA := Lib.hid hA
  have hMB := Lib.hid hBm
  have hgA := hA.lt
  have hgB := hBm.lt
  have hX := Lib.hid fun (W : World) (hW : Below w.heap.size w W) => hx.below hW hB
  have hI := Lib.hid hin
  have hIn := Lib.hid inputsAtV_any
  have hNone : Hid ((∀ i, i < 4096 → wt2 (RA i) (RB i) out = none) → wtS 4096 RA RB out = none) := fun h => wtS_none h
  have hSome : Hid (∀ (k : Nat) (r : Int), k < 4096 → wt2 (RA k) (RB k) out = some r → (∀ i, i < k → wt2 (RA i) (RB i) out = none) → wtS 4096 RA RB out = some (k, r)) := fun k r h1 h2 h3 => wtS_some h1 h2 h3
  clear hA hBm hx hB hin
  generalize wtS 4096 RA RB out = O at *
  go_enter Try.func121, Try.ntmps121
  go_wp2
  go_loopw [14] (fun i wr => ∃ k : Nat, k ≤ 4096 ∧ i = .int .i64 k ∧ (∀ i, i < k → wt2 (RA i) (RB i) out = none) ∧ Below w.heap.size w wr) (fun i _ => 4096 - (intOf i).toNat)
  case atStart => exact ⟨0, by omega, rfl, fun i hi => by omega, Below.refl _ _⟩
  case round =>
    obtain ⟨k, hk, rfl, hno, hbel⟩ := hrel
    have hNo := Lib.hid hno
    have hBL := Lib.hid hbel
    clear hno
    by_cases hlt : k < 4096
    · have hki : (k : Int) < 4096 := by omega
      have hk0 : (0 : Int) ≤ (k : Int) := by omega
      clear hbel
      obtain ⟨wo, hwo⟩ : ∃ wo : World, wo = wr := ⟨_, rfl⟩
      rw [← hwo] at hBL ⊢
      clear hwo
      go_wp2
      go_loopw [19] (fun q wr => ∃ j : Nat, j ≤ out.length ∧ q = .int .i64 j ∧ (∀ i, i < j → (RA k).getD (out.getD i 0).toNat 0 = (RB k).getD (out.getD i 0).toNat 0) ∧ Below w.heap.size w wr) (fun q _ => out.length - (intOf q).toNat)
      case atStart => exact ⟨0, Nat.zero_le _, rfl, fun i hi => by omega, hBL.out⟩
      case round =>
        obtain ⟨j, hj, rfl, hnj, hbel⟩ := hrel
        have hNj := Lib.hid hnj
        have hBj := Lib.hid hbel
        clear hnj
        by_cases hlj : j < out.length
        · obtain ⟨xb, xo, rfl, _, hc⟩ := (hX.out _ hbel) (by omega)
          have y1 := hc j hlj
          have hri := hI.out out[j] (List.getElem_mem hlj)
          have hgd : Hid (out.getD j 0 = out[j]) := by rw [Hid, List.getD_eq_getElem?_getD, List.getElem?_eq_getElem hlj]; rfl
          have hW2 : Hid ((RA k).getD out[j].toNat 0 ≠ (RB k).getD out[j].toNat 0 → wt2 (RA k) (RB k) out = some out[j]) := fun h => wt2_some hlj h hNj.out
          generalize out[j] = r at *
          unfold In6 at hri
          obtain ⟨n, rfl⟩ := Int.eq_ofNat_of_zero_le hri.1
          rw [Int.toNat_natCast] at hW2
          have hn6 : n < 6 := by omega
          have hn6i : (n : Int) < 6 := by omega
          have hn0 : (0 : Int) ≤ (n : Int) := by omega
          have cA := MB.cellM (IB.below hMA.out hbel hgA) hlt hn6
          have cB := MB.cellM (IB.below hMB.out hbel hgB) hlt hn6
          have hSj : Hid ((RA k).getD n 0 = (RB k).getD n 0 → ∀ i, i < j + 1 → (RA k).getD (out.getD i 0).toNat 0 = (RB k).getD (out.getD i 0).toNat 0) := fun h i hi => by
            by_cases e : i = j
            · subst e; rw [hgd.out, Int.toNat_natCast]; exact h
            · exact hNj.out i (by omega)
          clear hc hbel hri
          generalize (RA k).getD n 0 = ya at *
          generalize (RB k).getD n 0 = yb at *
          by_cases hy : ya = yb
          · have hq : (ya != yb) = false := by simpa using hy
            have hS2 := Lib.hid (hSj.out hy)
            clear hy hW2
            go_wp2_with (fail)
            go_quiet (fail)
            all_goals go_wp2
            all_goals go_roundw
            case rel => exact ⟨j + 1, by omega, by go_num, hS2.out, below_drewN hBj.out _⟩
            case measure => simp [intOf]; omega
          · have hq : (ya != yb) = true := by simpa using hy
            have hO := Lib.hid (hSome.out k _ hlt (hW2.out hy) hNo.out)
            clear hy hW2 hSj
            go_wp2_with (fail)
            go_quiet (fail)
            all_goals
              have hBd := Lib.hid (below_drewN hBj.out nq)
              generalize wr.drewN nq = W6 at *
              go_wp2_with (fail)
              refine (hIn.out k _ hlt).mono ?_
              rintro e w7 ⟨rfl, rfl⟩
              have hnew : IB (W6.alloc (.cells #[.int .i64 ((k : Int) / 64), .int .i64 ((k : Int) % 64), .int .i64 (n : Int)] 3)) W6.heap.size 3 [(k : Int) / 64, (k : Int) % 64, (n : Int)] := heap_alloc_new W6 _
              have hOW := Lib.hid (OW.ofIB hnew (by simp) (Nat.le_trans hBd.out.size (Nat.le_refl _)) (by simp) : OW _ w.heap.size (W6.alloc (.cells #[.int .i64 ((k : Int) / 64), .int .i64 ((k : Int) % 64), .int .i64 (n : Int)] 3)).heap.size _ _)
              have hB8 := Lib.hid (hBd.out.alloc hBd.out.size (.cells #[.int .i64 ((k : Int) / 64), .int .i64 ((k : Int) % 64), .int .i64 (n : Int)] 3))
              clear hnew cA cB y1
              go_wp2
              go_ret
              rw [hO.out]
              exact ⟨_, 3, rfl, rfl, hOW.out, hB8.out⟩
        · obtain rfl : j = out.length := by omega
          have hNk := Lib.hid (show ∀ i, i < k + 1 → wt2 (RA i) (RB i) out = none from fun i hi => by
            by_cases e : i = k
            · subst e; exact wt2_none hNj.out
            · exact hNo.out i (by omega))
          clear hbel
          go_wp2
          go_roundw
          case rel => exact ⟨k + 1, by omega, by go_num, hNk.out, hBj.out⟩
          case measure => simp [intOf]; omega
    · obtain rfl : k = 4096 := by omega
      have hO := Lib.hid (hNone.out hNo.out)
      clear hbel
      go_wp2
      go_ret
      rw [hO.out]
      exact ⟨none, 0, rfl, rfl, OW.nil _ _ _, hBL.out⟩
end Go.Proofs.Ythjfedidpjfboaa

/- LiveBefore, MostAlive: both sides. -/
namespace Go.Proofs.Ythjfedidpjfboaa
open Go.RowKit
set_option linter.unusedVariables false
set_option maxRecDepth 100000

theorem OX.at {w : World} {lo hi n c : Nat} {A : Option Addr} {xss : List (List Int)} (h : OX w lo hi (.slice A n c) xss) {i : Nat} (hi' : i < xss.length) :
    ∃ b o Ai ci, A = some ⟨b, o, none⟩ ∧ w.cell? ⟨b, o + i, none⟩ = some (.slice Ai (xss[i]).length ci) ∧ OW w lo hi (.slice Ai (xss[i]).length ci) xss[i] := by
  obtain ⟨vs, hO, hR⟩ := h.parts
  obtain ⟨b, o, e, _, hc⟩ := okv_rs hO (by rw [hR.len]; omega)
  have hiv : i < vs.length := by rw [hR.len]; exact hi'
  obtain ⟨⟨Ai, ci, e2⟩, hOW⟩ := hR.row i hiv hi'
  have h1 := hc i hiv 0 vs[i] rfl
  rw [e2] at h1 hOW
  exact ⟨b, o, Ai, ci, e, by simpa using h1, hOW⟩
def lbR (cs : List In) (out : List Int) : List Int := if ddOk cs out = true then mkT (lvS (setsTo out out.length) cs) else []
theorem lbR_len (cs : List In) (out : List Int) : (lbR cs out).length ≤ 1048576 := by
  unfold lbR
  split
  · have := mkT_len6 (lvS (setsTo out out.length) cs); omega
  · simp
theorem lbR_no {cs : List In} {out : List Int} (h : ddOk cs out = false) : lbR cs out = [] := by unfold lbR; rw [h]; rfl
theorem ls_first {cs : List In} {out : List Int} (h : ddOk cs out = true) : ∃ h0 : 0 < (lsR cs out).length, (lsR cs out)[0] = lbR cs out := by
  have e : lsR cs out = lvX (setsTo out out.length) cs := by unfold lsR; rw [if_pos h]
  have e2 : lbR cs out = mkT (lvS (setsTo out out.length) cs) := by unfold lbR; rw [if_pos h]
  obtain ⟨t, ht⟩ := lvX_head (setsTo out out.length) cs
  rw [e, e2]
  refine ⟨by rw [lvX_len]; omega, ?_⟩
  simp only [ht, List.getElem_cons_zero]
def maxTo (xss : List (List Int)) (k : Nat) : Int := (xss.take k).foldl (fun m xs => max m (xs.length : Int)) 0
theorem maxTo_succ {xss : List (List Int)} {k : Nat} (h : k < xss.length) : maxTo xss (k + 1) = max (maxTo xss k) (xss[k].length : Int) := by
  unfold maxTo; rw [List.take_succ_eq_append_getElem h, List.foldl_append]; rfl
def maR (cs : List In) (out : List Int) : Int := maxTo (lsR cs out) (lsR cs out).length
theorem maR_no {cs : List In} {out : List Int} (h : ddOk cs out = false) : maR cs out = 0 := by
  have e : lsR cs out = [] := by unfold lsR; rw [h]; rfl
  unfold maR; rw [e]; rfl

set_option maxHeartbeats 4000000 in
theorem iLiveBefore_k (L B : Nat) (A : Option Addr) (c : Nat) (cs : List In) (L' B' : Nat) (A' : Option Addr) (c' : Nat) (out : List Int) (w : World) (hl : cs.length ≤ 1048576) (hes : RS In.enc 5 w L B A cs) (hB : B ≤ w.heap.size) (hn : out.length ≤ 1048576) (hns : IS w L' B' A' out) (hB' : B' ≤ w.heap.size) :
    Calls Try.prog 41 #[.slice A cs.length c, .slice A' out.length c'] w (ResLiveBefore (lbR cs out) (ddOk cs out) w) := by
  have H := Lib.hid (iLiveSets_k L B A c cs L' B' A' c' out w hl hes hB hn hns hB')
  clear hes hns
  cases hd : ddOk cs out
  · have hR := Lib.hid (lbR_no hd)
    rw [hd] at H
    clear hd
    go_enter Try.func41, Try.ntmps41
    go_wp2_with (fail)
    refine H.out.mono ?_
    rintro e w1 ⟨A1, c1, rfl, ho1, hb1⟩
    have hbh := Lib.hid hb1
    clear hb1 ho1
    go_wp2
    go_ret2
    rw [hR.out]
    exact ⟨none, 0, rfl, OW.nil _ _ _, hbh.out⟩
  · obtain ⟨h0, hf⟩ := ls_first hd
    have hF := Lib.hid hf
    rw [hd] at H
    clear hd hf
    go_enter Try.func41, Try.ntmps41
    go_wp2_with (fail)
    refine H.out.mono ?_
    rintro e w1 ⟨A1, c1, rfl, ho1, hb1⟩
    obtain ⟨b, o, Ai, ci, rfl, hc, hOW⟩ := ho1.at h0
    have hbh := Lib.hid hb1
    have hOWh := Lib.hid hOW
    rw [hF.out] at hc hOWh
    have hc0 : w1.cell? ⟨b, o, none⟩ = some (.slice Ai (lbR cs out).length ci) := hc
    have h0i : (0 : Int) < ((lsR cs out).length : Int) := by omega
    clear hb1 ho1 hOW hc hF
    generalize lbR cs out = R at *
    generalize lsR cs out = X at *
    go_wp2
    go_ret2
    exact ⟨Ai, ci, rfl, hOWh.out, hbh.out⟩
set_option maxHeartbeats 4000000 in
theorem iMostAlive_k (L B : Nat) (A : Option Addr) (c : Nat) (cs : List In) (L' B' : Nat) (A' : Option Addr) (c' : Nat) (out : List Int) (w : World) (hl : cs.length ≤ 1048576) (hes : RS In.enc 5 w L B A cs) (hB : B ≤ w.heap.size) (hn : out.length ≤ 1048576) (hns : IS w L' B' A' out) (hB' : B' ≤ w.heap.size) :
    Calls Try.prog 48 #[.slice A cs.length c, .slice A' out.length c'] w (ResMostAlive (maR cs out) (ddOk cs out) w) := by
  have H := Lib.hid (iLiveSets_k L B A c cs L' B' A' c' out w hl hes hB hn hns hB')
  have hS := Lib.hid (lsR_small cs out).1
  have hR : Hid (maR cs out = maxTo (lsR cs out) (lsR cs out).length) := rfl
  clear hes hns
  generalize maR cs out = R at *
  generalize ddOk cs out = q at *
  generalize lsR cs out = X at *
  have hsu := Lib.hid fun (k : Nat) (h : k < X.length) => maxTo_succ h
  have h00 : Hid (maxTo X 0 = 0) := rfl
  generalize maxTo X = F at *
  go_enter Try.func48, Try.ntmps48
  go_wp2_with (fail)
  refine H.out.mono ?_
  rintro e w1 ⟨A1, c1, rfl, ho1, hb1⟩
  have hbh := Lib.hid hb1
  have hO := Lib.hid ho1
  have hl := hS.out
  clear hb1 ho1
  go_wp2
  go_loop [8, 19] (fun m i => ∃ k : Nat, k ≤ X.length ∧ i = .int .i64 k ∧ m = .int .i64 (F k)) (fun _ i => X.length - (intOf i).toNat)
  case atStart => exact ⟨0, Nat.zero_le _, rfl, by rw [h00.out]⟩
  case round =>
    obtain ⟨k, hk, rfl, rfl⟩ := hrel
    by_cases hlt : k < X.length
    · obtain ⟨b, o, Ai, ci, rfl, hc, hOW⟩ := hO.out.at hlt
      have hs := Lib.hid (hsu.out k hlt)
      have hki : (k : Int) < (X.length : Int) := by omega
      clear hOW
      generalize hz : (X[k]).length = z at *
      clear hz
      generalize hnx : F (k + 1) = nx at *
      have hnx2 := Lib.hid hnx
      clear hnx
      generalize F k = fk at *
      go_wp2
      go_round
      case rel => exact ⟨k + 1, by omega, by go_num, by rw [hnx2.out, hs.out]⟩
      case measure => simp [intOf]; omega
    · obtain rfl : k = X.length := by omega
      go_wp2
      go_ret2
      exact ⟨by rw [hR.out]; rfl, hbh.out⟩
set_option maxHeartbeats 4000000 in
theorem sLiveBefore_k (L B : Nat) (A : Option Addr) (c : Nat) (cs : List In) (L' B' : Nat) (A' : Option Addr) (c' : Nat) (out : List Int) (w : World) (hl : cs.length ≤ 1048576) (hes : RS In.enc 5 w L B A cs) (hB : B ≤ w.heap.size) (hn : out.length ≤ 1048576) (hns : IS w L' B' A' out) (hB' : B' ≤ w.heap.size) :
    Calls Try.prog 40 #[.slice A cs.length c, .slice A' out.length c'] w (ResLiveBefore (lbR cs out) (ddOk cs out) w) := by
  have H := Lib.hid (cdCode_any L B A c cs w hl hes hB)
  cases hk : okCode cs
  · have hR := Lib.hid (ddOk_no1 out hk).1
    have hN := Lib.hid (lbR_no hR.out)
    rw [hk] at H
    clear hk hes hns
    go_enter Try.func40, Try.ntmps40
    go_wp2_with (fail)
    refine H.out.mono ?_
    rintro e w1 ⟨rfl, hb1⟩
    have hbh := Lib.hid hb1
    clear hb1
    go_wp2
    go_ret2
    rw [hR.out, hN.out]
    exact ⟨none, 0, rfl, OW.nil _ _ _, hbh.out⟩
  have H2 := Lib.hid fun (W : World) (hW : Below w.heap.size w W) => cdWanted_any L' B' A' c' out W hn (hns.below hW hB')
  cases hr : riseB out
  · have hR := Lib.hid (ddOk_no2 cs hr).1
    have hN := Lib.hid (lbR_no hR.out)
    rw [hk] at H
    rw [hr] at H2
    clear hk hr hes hns
    go_enter Try.func40, Try.ntmps40
    go_wp2_with (fail)
    refine H.out.mono ?_
    rintro e w1 ⟨rfl, hb1⟩
    have hbh := Lib.hid hb1
    clear hb1
    go_wp2_with (fail)
    refine (H2.out _ hbh.out).mono ?_
    rintro e w2 ⟨rfl, rfl⟩
    go_wp2
    go_ret2
    rw [hR.out, hN.out]
    exact ⟨none, 0, rfl, OW.nil _ _ _, hbh.out⟩
  have hR := Lib.hid (ddOk_yes hk hr)
  have hX := Lib.hid fun (W : World) (hW : Below w.heap.size w W) => (show Calls Try.prog 100 #[.slice A cs.length c, .slice A' out.length c'] W (SetsGot W (lsR cs out)) from by
    have h := cdSets_any L B L' B' A A' c c' cs (setsTo out out.length) W (okCode_len hk) (okCode_all hk) (setsTo_len _ _) (hes.below hW hB) (Nat.le_trans hB hW.size) (by rw [(rise_bits hr).2]; exact hns.below hW hB') (Nat.le_trans hB' hW.size)
    rw [(rise_bits hr).2] at h
    rw [hR.out.2]
    exact h)
  have hdd := Lib.hid hR.out.1
  rw [hk] at H
  rw [hr] at H2
  clear hk hr hes hns hR
  obtain ⟨h0, hf⟩ := ls_first hdd.out
  have hF := Lib.hid hf
  have h0i : (0 : Int) < ((lsR cs out).length : Int) := by omega
  rw [hdd.out]
  clear hf
  go_enter Try.func40, Try.ntmps40
  go_wp2_with (fail)
  refine H.out.mono ?_
  rintro e w1 ⟨rfl, hb1⟩
  have hbh := Lib.hid hb1
  clear hb1
  go_wp2_with (fail)
  refine (H2.out _ hbh.out).mono ?_
  rintro e w2 ⟨rfl, rfl⟩
  go_wp2_with (fail)
  refine (hX.out _ hbh.out).mono ?_
  rintro e w3 ⟨A3, c3, rfl, ho3, hb3⟩
  obtain ⟨b, o, Ai, ci, rfl, hc, hOW⟩ := ho3.at h0
  have hOWh := Lib.hid (hOW.lower hbh.out.size)
  have hB3 := Lib.hid (hbh.out.trans (hb3.mono hbh.out.size))
  rw [hF.out] at hc hOWh
  have hc0 : w3.cell? ⟨b, o, none⟩ = some (.slice Ai (lbR cs out).length ci) := hc
  clear ho3 hb3 hOW hc hF hdd
  generalize lbR cs out = R at *
  generalize lsR cs out = X at *
  go_wp2
  go_ret2
  exact ⟨Ai, ci, rfl, hOWh.out, hB3.out⟩
set_option maxHeartbeats 4000000 in
theorem sMostAlive_k (L B : Nat) (A : Option Addr) (c : Nat) (cs : List In) (L' B' : Nat) (A' : Option Addr) (c' : Nat) (out : List Int) (w : World) (hl : cs.length ≤ 1048576) (hes : RS In.enc 5 w L B A cs) (hB : B ≤ w.heap.size) (hn : out.length ≤ 1048576) (hns : IS w L' B' A' out) (hB' : B' ≤ w.heap.size) :
    Calls Try.prog 47 #[.slice A cs.length c, .slice A' out.length c'] w (ResMostAlive (maR cs out) (ddOk cs out) w) := by
  have H := Lib.hid (cdCode_any L B A c cs w hl hes hB)
  cases hk : okCode cs
  · have hR := Lib.hid (ddOk_no1 out hk).1
    have hN := Lib.hid (maR_no hR.out)
    rw [hk] at H
    clear hk hes hns
    go_enter Try.func47, Try.ntmps47
    go_wp2_with (fail)
    refine H.out.mono ?_
    rintro e w1 ⟨rfl, hb1⟩
    have hbh := Lib.hid hb1
    clear hb1
    go_wp2
    go_ret2
    rw [hR.out, hN.out]
    exact ⟨rfl, hbh.out⟩
  have H2 := Lib.hid fun (W : World) (hW : Below w.heap.size w W) => cdWanted_any L' B' A' c' out W hn (hns.below hW hB')
  cases hr : riseB out
  · have hR := Lib.hid (ddOk_no2 cs hr).1
    have hN := Lib.hid (maR_no hR.out)
    rw [hk] at H
    rw [hr] at H2
    clear hk hr hes hns
    go_enter Try.func47, Try.ntmps47
    go_wp2_with (fail)
    refine H.out.mono ?_
    rintro e w1 ⟨rfl, hb1⟩
    have hbh := Lib.hid hb1
    clear hb1
    go_wp2_with (fail)
    refine (H2.out _ hbh.out).mono ?_
    rintro e w2 ⟨rfl, rfl⟩
    go_wp2
    go_ret2
    rw [hR.out, hN.out]
    exact ⟨rfl, hbh.out⟩
  have hR := Lib.hid (ddOk_yes hk hr)
  have hX := Lib.hid fun (W : World) (hW : Below w.heap.size w W) => (show Calls Try.prog 100 #[.slice A cs.length c, .slice A' out.length c'] W (SetsGot W (lsR cs out)) from by
    have h := cdSets_any L B L' B' A A' c c' cs (setsTo out out.length) W (okCode_len hk) (okCode_all hk) (setsTo_len _ _) (hes.below hW hB) (Nat.le_trans hB hW.size) (by rw [(rise_bits hr).2]; exact hns.below hW hB') (Nat.le_trans hB' hW.size)
    rw [(rise_bits hr).2] at h
    rw [hR.out.2]
    exact h)
  have hdd := Lib.hid hR.out.1
  rw [hk] at H
  rw [hr] at H2
  clear hk hr hes hns hR
  have hRm : Hid (maR cs out = maxTo (lsR cs out) (lsR cs out).length) := rfl
  have hS := Lib.hid (lsR_small cs out).1
  rw [hdd.out]
  clear hdd
  generalize maR cs out = R at *
  generalize lsR cs out = X at *
  have hsu := Lib.hid fun (k : Nat) (h : k < X.length) => maxTo_succ h
  have h00 : Hid (maxTo X 0 = 0) := rfl
  have hMx := Lib.hid l1Most_any
  generalize maxTo X = F at *
  go_enter Try.func47, Try.ntmps47
  go_wp2_with (fail)
  refine H.out.mono ?_
  rintro e w1 ⟨rfl, hb1⟩
  have hbh := Lib.hid hb1
  clear hb1
  go_wp2_with (fail)
  refine (H2.out _ hbh.out).mono ?_
  rintro e w2 ⟨rfl, rfl⟩
  go_wp2_with (fail)
  refine (hX.out _ hbh.out).mono ?_
  rintro e w3 ⟨A3, c3, rfl, ho3, hb3⟩
  have hO := Lib.hid ho3
  have hB3 := Lib.hid (hbh.out.trans (hb3.mono hbh.out.size))
  have hl := hS.out
  clear ho3 hb3
  go_wp2
  go_loopw [6, 21] (fun m i wr => ∃ k : Nat, k ≤ X.length ∧ i = .int .i64 k ∧ m = .int .i64 (F k) ∧ wr = w3) (fun _ i _ => X.length - (intOf i).toNat)
  case atStart => exact ⟨0, Nat.zero_le _, rfl, by rw [h00.out], by first | rfl | trivial⟩
  case round =>
    obtain ⟨k, hk, rfl, rfl, rfl⟩ := hrel
    by_cases hlt : k < X.length
    · obtain ⟨b, o, Ai, ci, rfl, hc, hOW⟩ := hO.out.at hlt
      have hs := Lib.hid (hsu.out k hlt)
      have hki : (k : Int) < (X.length : Int) := by omega
      clear hOW
      generalize hz : (X[k]).length = z at *
      clear hz
      generalize hnx : F (k + 1) = nx at *
      have hnx2 := Lib.hid hnx
      clear hnx
      generalize F k = fk at *
      go_wp2_with (fail)
      refine (hMx.out _ _ _).mono ?_
      rintro e w4 ⟨rfl, rfl⟩
      go_wp2
      go_roundw
      case rel => exact ⟨k + 1, by omega, by go_num, by rw [hnx2.out, hs.out], by first | rfl | trivial⟩
      case measure => simp [intOf]; omega
    · obtain rfl : k = X.length := by omega
      go_wp2
      go_ret2
      exact ⟨by rw [hRm.out]; rfl, hB3.out⟩
end Go.Proofs.Ythjfedidpjfboaa

namespace Go.Proofs.Ythjfedidpjfboaa
open Go.RowKit
set_option linter.unusedVariables false
set_option maxRecDepth 100000

def resOk (es : List In) (x0 x1 r : Int) : Bool := okCode es && isW x0 && isW x1 && reg r
def resR (es : List In) (x0 x1 r : Int) : Int := if resOk es x0 x1 r = true then (runL es [x0, x1, 0, 0, 0, 0]).getD r.toNat 0 else 0
theorem start_words {x0 x1 : Int} (h0 : isW x0 = true) (h1 : isW x1 = true) : words6 [x0, x1, 0, 0, 0, 0] := by
  have a : inR x0 0 63 = true := h0
  have b : inR x1 0 63 = true := h1
  have z : inR 0 0 63 = true := by decide
  exact ⟨rfl, by simp [a, b, z]⟩
theorem cdStart_any (x0 x1 : Int) (w : World) :
    Calls Try.prog 113 #[.int .i64 x0, .int .i64 x1] w fun e w' => e = .returned (.slice (some ⟨w.heap.size, 0, none⟩) 6 6) ∧ IB w' w.heap.size 3 [x0, x1, 0, 0, 0, 0] ∧ Below w.heap.size w w' := by
  have hmk : (Instr.makeSlice 32 (.int .i64 6) (.int .i64 6)).run Try.prog w = .ok (.slice (some ⟨w.heap.size, 0, none⟩) 6 6) (w.alloc (.cells (intCells [0, 0, 0, 0, 0, 0]) 3)) := run_make_ints 6 (by omega) w
  have hi0 : IB (w.alloc (.cells (intCells [0, 0, 0, 0, 0, 0]) 3)) w.heap.size 3 [0, 0, 0, 0, 0, 0] := heap_alloc_new w _
  have hI0 := Lib.hid hi0
  have c0 := hi0.cell 0 (by simp)
  have f0 := hi0.frozen 0
  have c1 := (hi0.set 0 x0).cell 1 (by simp)
  have f1 := (hi0.set 0 x0).frozen 1
  have hI2 := Lib.hid ((hi0.set 0 x0).set 1 x1)
  have hB := Lib.hid ((((Below.refl w.heap.size w).alloc (Nat.le_refl _) (.cells (intCells [0, 0, 0, 0, 0, 0]) 3)).setCell (p := ⟨w.heap.size, 0, none⟩) (Nat.le_refl _) (.int .i64 x0)).setCell (p := ⟨w.heap.size, 1, none⟩) (Nat.le_refl _) (.int .i64 x1))
  clear hi0
  go_enter Try.func113, Try.ntmps113
  go_wp2
  go_ret
  exact ⟨rfl, heap_alloc_new w _, (Below.refl _ _).alloc (Nat.le_refl _) _⟩

set_option maxHeartbeats 4000000 in
theorem iResultOf_any (L B : Nat) (A : Option Addr) (c : Nat) (es : List In) (x0 x1 r : Int) (w : World) (hl : es.length ≤ 1048576) (hes : RS In.enc 5 w L B A es) (hB : B ≤ w.heap.size) :
    Calls Try.prog 117 #[.slice A es.length c, .int .i64 x0, .int .i64 x1, .int .i64 r] w (ResResultOf (resR es x0 x1 r) (resOk es x0 x1 r) w) := by
  have H := Lib.hid (IsCode_any L B A c es w hl hes hB)
  have hE := Lib.hid hes
  have hBB := Lib.hid hB
  clear hes hB
  go_enter Try.func117, Try.ntmps117
  go_wp2_with (fail)
  refine H.out.mono ?_
  rintro e w2 ⟨rfl, hb⟩
  have hbb := Lib.hid hb
  have hz := hb.size
  have hE2 := Lib.hid (hE.out.below hb hBB.out)
  clear hb
  cases h0 : okCode es
  · have hK : Hid (resOk es x0 x1 r = false) := by simp [Hid, resOk, h0]
    have hR : Hid (resR es x0 x1 r = 0) := by simp [Hid, resR, hK.out]
    go_wp2_with (first | (go_at_call 160; refine (isWord_any _ _).mono ?_; rintro e w' ⟨rfl, rfl⟩) | (go_at_call 114; refine (isRegister_any _ _).mono ?_; rintro e w' ⟨rfl, rfl⟩))
    go_ret2
    rw [hR.out, hK.out]; exact ⟨rfl, hbb.out⟩
  cases h1 : isW x0
  · have hK : Hid (resOk es x0 x1 r = false) := by simp [Hid, resOk, h0, h1]
    have hR : Hid (resR es x0 x1 r = 0) := by simp [Hid, resR, hK.out]
    go_wp2_with (first | (go_at_call 160; refine (isWord_any _ _).mono ?_; rintro e w' ⟨rfl, rfl⟩) | (go_at_call 114; refine (isRegister_any _ _).mono ?_; rintro e w' ⟨rfl, rfl⟩))
    go_ret2
    rw [hR.out, hK.out]; exact ⟨rfl, hbb.out⟩
  cases h2 : isW x1
  · have hK : Hid (resOk es x0 x1 r = false) := by simp [Hid, resOk, h0, h1, h2]
    have hR : Hid (resR es x0 x1 r = 0) := by simp [Hid, resR, hK.out]
    go_wp2_with (first | (go_at_call 160; refine (isWord_any _ _).mono ?_; rintro e w' ⟨rfl, rfl⟩) | (go_at_call 114; refine (isRegister_any _ _).mono ?_; rintro e w' ⟨rfl, rfl⟩))
    go_ret2
    rw [hR.out, hK.out]; exact ⟨rfl, hbb.out⟩
  cases h3 : reg r
  · have hK : Hid (resOk es x0 x1 r = false) := by simp [Hid, resOk, h0, h1, h2, h3]
    have hR : Hid (resR es x0 x1 r = 0) := by simp [Hid, resR, hK.out]
    go_wp2_with (first | (go_at_call 160; refine (isWord_any _ _).mono ?_; rintro e w' ⟨rfl, rfl⟩) | (go_at_call 114; refine (isRegister_any _ _).mono ?_; rintro e w' ⟨rfl, rfl⟩))
    go_ret2
    rw [hR.out, hK.out]; exact ⟨rfl, hbb.out⟩
  have hK : Hid (resOk es x0 x1 r = true) := by simp [Hid, resOk, h0, h1, h2, h3]
  have hR : Hid (resR es x0 x1 r = (runL es [x0, x1, 0, 0, 0, 0]).getD r.toNat 0) := by simp [Hid, resR, hK.out]
  have hW := Lib.hid (start_words h1 h2)
  have hG := Lib.hid h0
  have hrl := Lib.hid (runL_words (okCode_all h0) hW.out).1
  obtain ⟨hr0, hr1⟩ := (inR_iff _ _ _).1 h3
  obtain ⟨nr, rfl⟩ := Int.eq_ofNat_of_zero_le hr0
  simp only [Int.toNat_natCast] at hR
  have hc1 := h1
  have hc2 := h2
  have hc3 := h3
  clear h0 hr0
  have hbel3 := fun o => Lib.hid (hbb.out.alloc hz o)
  have hE3 := fun o => Lib.hid (hE2.out.below ((Below.refl w2.heap.size w2).alloc (Nat.le_refl _) o) (by have := hBB.out; omega))
  go_wp2_with (first | (go_at_call 160; refine (isWord_any _ _).mono ?_; rintro e w' ⟨rfl, rfl⟩) | (go_at_call 114; refine (isRegister_any _ _).mono ?_; rintro e w' ⟨rfl, rfl⟩))
  clear h1 h2 h3 hc1 hc2 hc3
  refine (runSteps_any L B A c es w2.heap.size [x0, x1, 0, 0, 0, 0] _ hG.out (hE3 _).out (by have := hBB.out; omega) hW.out (heap_alloc_new w2 _)).mono ?_
  rintro e w5 ⟨rfl, hm5, hc5⟩
  have hbel6 := Lib.hid (below_chg (hbel3 _).out hc5 (by simp; omega) (by omega))
  have d1 : w5.cell? ⟨w2.heap.size, nr, none⟩ = some (.int .i64 ((runL es [x0, x1, 0, 0, 0, 0]).getD nr 0)) := by have := hm5.six hrl.out nr (by omega); rwa [Nat.zero_add] at this
  generalize (runL es [x0, x1, 0, 0, 0, 0]).getD nr 0 = y at d1 hR
  clear hm5 hc5
  have i0 : (0 : Int) ≤ (nr : Int) := by omega
  have i1 : (nr : Int) < 6 := by omega
  go_wp2
  go_ret2
  rw [hR.out, hK.out]; exact ⟨rfl, hbel6.out⟩
end Go.Proofs.Ythjfedidpjfboaa

/- vaSwap, FollowPath of the model. -/
namespace Go.Proofs.Ythjfedidpjfboaa
open Go.RowKit
set_option linter.unusedVariables false
set_option maxRecDepth 100000

def ResSw (R0 : List In) (R1 : Bool) (w : World) (e : Ending) (w' : World) : Prop := ∃ (A0 : Option Addr) (c0 : Nat), e = .returned (.tuple #[.slice A0 R0.length c0, .bool R1]) ∧ OK In.enc 5 90 w' w.heap.size w'.heap.size (.slice A0 R0.length c0) R0 ∧ Below w.heap.size w w'
set_option maxHeartbeats 8000000 in
theorem vaSwap_any (L B : Nat) (A : Option Addr) (c : Nat) (es : List In) (n : Nat) (w : World) (hk : okCode es = true) (hn : n + 1 < es.length) (hes : RS In.enc 5 w L B A es) (hB : B ≤ w.heap.size) :
    Calls Try.prog 81 #[.slice A es.length c, .int .i64 (n : Int)] w (ResSw (swapR es n) (swOk es n) w) := by
  have hl : es.length ≤ 1048576 := by have := okCode_len hk; omega
  have hE := Lib.hid hes
  have hBB := Lib.hid hB
  have hG := Lib.hid hk
  have hall := Lib.hid (okCode_all hk)
  have hlen := Lib.hid (okCode_len hk)
  have hr' : Hid (inR (n : Int) 0 ((es.length : Int) - 2) = true) := by rw [Hid, inR_iff]; omega
  have hn' : n < es.length := by omega
  obtain ⟨b, o, rfl, ⟨_, hbB⟩, hc⟩ := In.cells hes (by omega)
  obtain ⟨c1, c2, c3, c4, c5⟩ := hc n hn'
  obtain ⟨d1, d2, d3, d4, d5⟩ := hc (n + 1) hn
  have hg0 : es.getD n zeroIn = es[n] := by rw [List.getD_eq_getElem?_getD, List.getElem?_eq_getElem hn']; rfl
  have hg1 : es.getD (n + 1) zeroIn = es[n + 1] := by rw [List.getD_eq_getElem?_getD, List.getElem?_eq_getElem hn]; rfl
  have hK0 : Hid (swOk es n = freeB es[n] es[n + 1]) := by rw [Hid, swOk, hG.out, hr'.out, Int.toNat_natCast, hg0, hg1]; rfl
  have hR0 : Hid (swOk es n = true → swapR es n = (es.set n es[n + 1]).set (n + 1) es[n]) := by intro h; rw [swapR, if_pos h, Int.toNat_natCast, hg0, hg1]
  have hA := Lib.hid (fun W => cdFree_any es[n] es[n + 1] W)
  clear hg0 hg1 hc hes hB hk
  have i1 : (n : Int) < es.length := by omega
  have i2 : (n : Int) + 1 < es.length := by omega
  have hw1 : IntKind.i64.wrap ((n : Int) + 1) = (n : Int) + 1 := IntWalk.i64_in _ (by omega)
  have hw2 : ((n : Int) + 1).toNat = n + 1 := by omega
  have i0' : (0 : Int) ≤ (n : Int) + 1 := by omega
  generalize hx : es[n] = x at *
  generalize hy : es[n + 1] = y at *
  obtain ⟨op, d, a, b1, m⟩ := x
  obtain ⟨op', d', a', b1', m'⟩ := y
  have hxx := Lib.hid hx
  have hyy := Lib.hid hy
  clear hx hy
  simp only at c1 c2 c3 c4 c5 d1 d2 d3 d4 d5 hA
  generalize hf : freeB ⟨op, d, a, b1, m⟩ ⟨op', d', a', b1', m'⟩ = F at *
  clear hf
  go_enter Try.func81, Try.ntmps81
  go_wp2_with (fail)
  go_region_law (go_simp; go_at_call 146; (with_reducible refine (hA.out _).mono ?_); rintro e w3 ⟨rfl, hb3⟩)
  all_goals
    have hb3' := Lib.hid ((Below.refl w.heap.size w).drew.trans hb3)
    have hbb3 := hb3'
    have hz3 := hb3'.out.size
    have hz2' : w.heap.size ≤ w.heap.size := Nat.le_refl _
    have hE3 := Lib.hid (hE.out.below hbb3.out hBB.out)
    clear hb3 c1 c2 c3 c4 c5 d1 d2 d3 d4 d5
    cases F
    · have hK : Hid (swOk es n = false) := hK0.out
      have hR := Lib.hid (swapR_no hK.out)
      go_wp2
      go_ret2
      rw [hR.out, hK.out]; exact ⟨none, 0, rfl, OK.nil _ _ _ _, hbb3.out⟩
    have hK : Hid (swOk es n = true) := hK0.out
    have hR := Lib.hid (hR0.out hK.out)
    obtain ⟨i0, hi, hz0, hz1, hz2x⟩ := info_parts Try.infoInstr
    have hz3' : Hid (w.heap.size ≤ w3.heap.size) := Nat.le_trans hz2' hz3
    have hBz : Hid (B ≤ w3.heap.size) := Nat.le_trans hBB.out hz3'.out
    have hb3w : Hid (b < w3.heap.size) := Nat.lt_of_lt_of_le hbB hBz.out
    have hb0 := Lib.hid ((Below.refl w3.heap.size w3).alloc (Nat.le_refl _) (.cells #[] 90))
    have hnews := Lib.hid ((hE3.out.below hb0.out (by have := hBB.out; omega)).news In.hk)
    have hown := Lib.hid (World.ownsRow_made (base := w3.heap.size) (e := 90) (size := 5) w3 #[] 0 (Nat.le_refl _) (by unfold maxLen; omega) (by simp))
    go_wp2_with (at_builtin; refine wpList_append_src rfl _ _ 34 rfl w3.heap.size 90 i0 _ 5 48 Try.underlying34 hi hz0 hz1 hz2x rfl (by decide) _ 0 [] rfl hown.out (some ⟨b, o, none⟩) es.length c (es.flatMap In.enc) rfl (kflat_len In.hk es) hnews.out (five_ones es) (by unfold maxLen; omega) (by omega) (by simp) ?_; intro v' w4 hown' hgrow _; simp only [Nat.zero_add, List.nil_append] at hown'; have ho4 := OK.ofRow hown' rfl; have hb4 : Below w3.heap.size w3 w4 := (hb0.out.grown hgrow (by simp) (fun k hk => (by cases hk; exact Nat.le_refl _))); have hz4 := hb4.size; have hbb4 := Lib.hid (hbb3.out.trans (hb4.mono hz3'.out)); obtain ⟨⟨c1, c2, c3, c4, c5⟩, ⟨d1, d2, d3, d4, d5⟩⟩ := code_two (hE3.out.below hb4 hBz.out) hn hxx.out hyy.out; simp only at c1 c2 c3 c4 c5 d1 d2 d3 d4 d5; obtain ⟨g, cap, rest, rfl, hgl, hgh, hlc, hcm, hcb, hcl⟩ := OK.some' ho4 (Nat.lt_of_le_of_lt (Nat.zero_le _) hn); have hCB := Lib.hid hcb; have hgl' := Lib.hid hgl; have hcl' := Lib.hid hcl; have hcm' := Lib.hid hcm; have hlc' := Lib.hid hlc; obtain ⟨z0, z1, z2, z3, z4, p1, p2, p3, p4, p5⟩ := In.cellsB hcb n hn'; obtain ⟨y0, y1, y2, y3, y4, q1, q2, q3, q4, q5⟩ := In.cellsB hcb (n + 1) hn; have f1 := hcb.frozen (n * 5); have f2 := hcb.frozen (n * 5 + 1); have f3 := hcb.frozen (n * 5 + 2); have f4 := hcb.frozen (n * 5 + 3); have f5 := hcb.frozen (n * 5 + 4); have g1 := hcb.frozen ((n + 1) * 5); have g2 := hcb.frozen ((n + 1) * 5 + 1); have g3 := hcb.frozen ((n + 1) * 5 + 2); have g4 := hcb.frozen ((n + 1) * 5 + 3); have g5 := hcb.frozen ((n + 1) * 5 + 4); have hne : ¬ b = g := (fun e => by rw [e] at hb3w; exact absurd (Nat.lt_of_lt_of_le hb3w.out hgl) (Nat.lt_irrefl _)); have hne' : ¬ g = b := fun h => hne h.symm; clear hcb ho4 hown' hgrow hcl hcm hgl hgh hb4 hi hz0 hz1 hz2x)
    have hgw : w.heap.size ≤ g := Nat.le_trans hz3'.out hgl'.out
    have h1 := hCB.out.store In.hk n hn' ⟨op', d', a', b1', m'⟩
    have h2 := h1.store In.hk (n + 1) (by rw [List.length_set]; exact hn) ⟨op, d, a, b1, m⟩
    have hle : ((es.set n (⟨op', d', a', b1', m'⟩ : In)).set (n + 1) ⟨op, d, a, b1, m⟩).length = es.length := by rw [List.length_set, List.length_set]
    have h3 := OK.close (lo := w.heap.size) In.hk h2 hgw (CB.lt h2) (by rw [hle]; exact hlc) hcm'.out (by have hcl := hcl'.out; rw [List.length_append, kflat_len In.hk, hle]; rw [List.length_append, kflat_len In.hk] at hcl; exact hcl)
    have hfin := Lib.hid h3
    have hle' := Lib.hid hle
    have hbf := Lib.hid (below_setCells (In.enc ⟨op, d, a, b1, m⟩) g ((n + 1) * 5) (below_setCells (In.enc ⟨op', d', a', b1', m'⟩) g (n * 5) hbb4.out hgw) hgw)
    clear h1 h2 h3 hle
    simp only [setCells, In.enc, Nat.add_assoc, Nat.reduceAdd] at hfin hbf
    clear c1 c2 c3 c4 c5 d1 d2 d3 d4 d5 p1 p2 p3 p4 p5 q1 q2 q3 q4 q5 f1 f2 f3 f4 f5 g1 g2 g3 g4 g5 hCB
    generalize (World.setCell _ _ _) = W at hfin hbf ⊢
    generalize ((es.set n (⟨op', d', a', b1', m'⟩ : In)).set (n + 1) ⟨op, d, a, b1, m⟩) = Z at *
    go_ret2
    rw [hR.out, hK.out]
    refine ⟨some ⟨g, 0, none⟩, cap, by rw [hle'.out]; rfl, ?_, ?_⟩
    · exact hfin.out
    · first | exact hbf.out | exact hbf.out.drew

theorem vaGood_any (L B : Nat) (A : Option Addr) (c : Nat) (es : List In) (w : World) (hl : es.length ≤ 1048576) (hes : RS In.enc 5 w L B A es) (hB : B ≤ w.heap.size) :
    Calls Try.prog 79 #[.slice A es.length c] w fun e w' => e = .returned (.bool (blkOk es)) ∧ Below w.heap.size w w' := by
  have H := Lib.hid (cdCode_any L B A c es w hl hes hB)
  have hk : Hid (blkOk es = (decide (es.length ≤ 20) && okCode es)) := rfl
  have b0 := Lib.hid (Below.refl w.heap.size w)
  clear hes
  generalize blkOk es = r at *
  generalize okCode es = q at *
  by_cases h20 : es.length ≤ 20
  · have h1 : (es.length : Int) ≤ 20 := by omega
    have h2 : decide (es.length ≤ 20) = true := decide_eq_true h20
    rw [h2] at hk
    clear h2
    go_enter Try.func79, Try.ntmps79
    go_wp2_with (fail)
    refine H.out.mono ?_
    rintro e w1 ⟨rfl, hb⟩
    have hbh := Lib.hid hb
    clear hb
    go_wp2
    go_ret
    exact ⟨by rw [hk.out]; rfl, hbh.out⟩
  · have h1 : ¬ (es.length : Int) ≤ 20 := by omega
    have h2 : decide (es.length ≤ 20) = false := decide_eq_false h20
    rw [h2] at hk
    clear h2
    go_enter Try.func79, Try.ntmps79
    go_wp2
    go_ret
    exact ⟨by rw [hk.out]; rfl, b0.out⟩
end Go.Proofs.Ythjfedidpjfboaa

/- vaEnds, vaWitness of the model. -/
namespace Go.Proofs.Ythjfedidpjfboaa
open Go.RowKit
set_option linter.unusedVariables false
set_option maxRecDepth 100000

def endsL (es : List In) (n : Nat) : List (List Int) := (List.range n).map (endR es)
theorem endsL_len (es : List In) (n : Nat) : (endsL es n).length = n := by simp [endsL]
theorem endsL_succ (es : List In) (n : Nat) : endsL es (n + 1) = endsL es n ++ [endR es n] := by unfold endsL; rw [List.range_succ, List.map_append]; rfl
theorem endsL_at {es : List In} {n k : Nat} (h : k < (endsL es n).length) : (endsL es n)[k] = endR es k := by simp [endsL]
theorem start6_of {a b : Nat} (ha : a ≤ 63) (hb : b ≤ 63) : start6 (64 * a + b) = [(a : Int), (b : Int), 0, 0, 0, 0] := by
  unfold start6
  have h1 : ((64 * a + b : Nat) : Int) / 64 = (a : Int) := by omega
  have h2 : ((64 * a + b : Nat) : Int) % 64 = (b : Int) := by omega
  rw [h1, h2]
theorem endR_words {es : List In} (h : okCode es = true) {i : Nat} (hi : i < 4096) : words6 (endR es i) := runL_words (okCode_all h) (start6_words hi)
def EndsGot (w : World) (es : List In) (e : Ending) (w' : World) : Prop := ∃ A0 c0, e = .returned (.slice A0 4096 c0) ∧ OX w' w.heap.size w'.heap.size (.slice A0 4096 c0) (endsL es 4096) ∧ Below w.heap.size w w'

set_option maxHeartbeats 8000000 in
theorem vaEnds_any (L B : Nat) (A : Option Addr) (c : Nat) (es : List In) (w : World) (hok : okCode es = true) (hes : RS In.enc 5 w L B A es) (hB : B ≤ w.heap.size) :
    Calls Try.prog 120 #[.slice A es.length c] w (EndsGot w es) := by
  obtain ⟨i0, hi', hz0', hz1', hz2'⟩ := info_parts Try.infoII
  have hJ0 := Lib.hid hi'
  have hJ1 := Lib.hid hz0'
  have hJ2 := Lib.hid hz1'
  have hJ3 := Lib.hid hz2'
  clear hi' hz0' hz1' hz2'
  have hF : Hid (∀ n, endsL es (n + 1) = endsL es n ++ [endR es n]) := endsL_succ es
  have hFl : Hid (∀ n, (endsL es n).length = n) := endsL_len es
  have hF0 : Hid (endsL es 0 = []) := rfl
  have hFin : Hid (EndsGot w es = fun e w' => ∃ A0 c0, e = .returned (.slice A0 4096 c0) ∧ OX w' w.heap.size w'.heap.size (.slice A0 4096 c0) (endsL es 4096) ∧ Below w.heap.size w w') := rfl
  rw [hFin.out]
  clear hFin
  have hSt := Lib.hid cdStart_any
  have hRun := Lib.hid fun (a b : Nat) (ha : a ≤ 63) (hb : b ≤ 63) (g : Nat) (W : World) (hW : Below w.heap.size w W) (hI : IB W g 3 [(a : Int), (b : Int), 0, 0, 0, 0]) => (show Calls Try.prog 112 #[.slice A es.length c, .slice (some ⟨g, 0, none⟩) 6 6] W (Own6 W (endR es (64 * a + b))) from by
    have h := cdRun_any L B A c es g 0 6 (start6 (64 * a + b)) g (g + 1) W hok (hes.below hW hB) (Nat.le_trans hB hW.size) (start6_words (by omega)) (by rw [start6_of ha hb]; exact hI.toIS) hI.lt
    exact h)
  have h6 := Lib.hid fun (i : Nat) (hi : i < 4096) => (endR_words hok hi).1
  clear hok hes hB
  generalize endsL es = F at *
  generalize endR es = E at *
  go_enter Try.func120, Try.ntmps120
  go_wp2
  go_loopw [3, 4] (fun v i wr => ∃ a : Nat, a ≤ 64 ∧ i = .int .i64 a ∧ OX wr w.heap.size wr.heap.size v (F (64 * a)) ∧ Below w.heap.size w wr) (fun _ i _ => 64 - (intOf i).toNat)
  case atStart => exact ⟨0, by omega, rfl, by rw [Nat.mul_zero, hF0.out]; exact OX.nil _ _ _, Below.refl _ _⟩
  case round =>
    obtain ⟨a, ha, rfl, hox, hbel⟩ := hrel
    obtain ⟨A5, c5, rfl⟩ := hox.form
    have hX := Lib.hid hox
    have hBL := Lib.hid hbel
    clear hox hbel
    by_cases hlt : a ≤ 63
    · have hai : (a : Int) ≤ 63 := by omega
      obtain ⟨wo, hwo⟩ : ∃ wo : World, wo = wr := ⟨_, rfl⟩
      rw [← hwo] at hX hBL ⊢
      clear hwo
      go_wp2
      go_loopw [3, 5] (fun v i wr => ∃ b : Nat, b ≤ 64 ∧ i = .int .i64 b ∧ OX wr w.heap.size wr.heap.size v (F (64 * a + b)) ∧ Below w.heap.size w wr) (fun _ i _ => 64 - (intOf i).toNat)
      case atStart => exact ⟨0, by omega, rfl, by rw [Nat.add_zero]; exact hX.out, hBL.out⟩
      case round =>
        obtain ⟨b, hb, rfl, hox, hbel⟩ := hrel
        obtain ⟨A6, c6, rfl⟩ := hox.form
        have hX6 := Lib.hid hox
        have hB6 := Lib.hid hbel
        clear hox hbel
        by_cases hltb : b ≤ 63
        · have hbi : (b : Int) ≤ 63 := by omega
          have hFs := Lib.hid (hF.out (64 * a + b))
          have hFn := Lib.hid (hFl.out (64 * a + b))
          have h6n := h6.out (64 * a + b) (by omega)
          obtain ⟨n, hn⟩ : ∃ n, n = 64 * a + b := ⟨_, rfl⟩
          have hnN := Lib.hid hn
          have hn4 : n < 4096 := by omega
          rw [hFn.out] at hX6 ⊢
          rw [← hn] at hX6 hFs h6n ⊢
          have hRn := Lib.hid fun (g : Nat) (W : World) (hW : Below w.heap.size w W) (hI : IB W g 3 [(a : Int), (b : Int), 0, 0, 0, 0]) => hRun.out a b hlt hltb g W hW hI
          rw [← hn] at hRn
          have hH6 := Lib.hid h6n
          have hFn1 : Hid (64 * a + (b + 1) = n + 1) := by rw [Hid, hn]; omega
          clear hn h6n hFn
          generalize hFF : F (n + 1) = Fn at *
          have hFFh := Lib.hid hFF
          clear hFF
          generalize F n = Fk at *
          go_wp2_with (first
            | (go_at_call 113; refine (hSt.out _ _ _).mono ?_; rintro e w1 ⟨rfl, hib, hb1⟩; have hIB := Lib.hid hib; have hB1 := Lib.hid hb1; clear hib hb1)
            | (go_at_call 112; refine (hRn.out _ w1 (hB6.out.trans (hB1.out.mono hB6.out.size)) hIB.out).mono ?_; rintro e w2 ⟨g2, c2, rfl, hg2, ho2, hb2⟩; have hW2 := hB1.out.trans (hb2.mono hB1.out.size); have hO2 := (ho2.lower (Nat.le_trans hB1.out.size hg2)).more (ho2.1.lt g2 rfl).2; obtain ⟨vs, hvn, HL, HN, H1, HK, Hlo⟩ := snocX hX6.out hB6.out.size hW2 hO2; have hB2 := Lib.hid (hB6.out.trans (hW2.mono hB6.out.size)); have HL := Lib.hid HL; have HN := Lib.hid HN; have H1 := Lib.hid H1; have HK := Lib.hid HK; have Hlo := Lib.hid Hlo; clear ho2 hb2 hW2 hO2 hg2)
            | (at_builtin; go_loud (refine wpList_append_own _ rfl _ _ 48 rfl w.heap.size 32 i0 _ 1 24 Try.underlying48 hJ0.out hJ1.out hJ2.out hJ3.out rfl (by decide) _ n _ rfl HL.out ⟨w2.heap.size, 0, none⟩ 1 1 _ rfl rfl HN.out H1.out (by unfold maxLen; omega) (by omega) (by have := hB2.out.size; simp; omega) ?_); intro v' w7 hown7 hgr7 _; obtain ⟨g7, c7, rfl⟩ := ownsRow_succ hown7; have hX7 := Lib.hid (HK.out g7 c7 w7 hown7 hgr7); have hB7 := Lib.hid ((hB2.out.alloc hB2.out.size (.cells #[.slice (some ⟨g2, 0, none⟩) 6 c2] 32)).grown hgr7 (by have := hB2.out.size; simp; omega) (fun j hj => Hlo.out j hj)); clear hown7 hgr7))
          go_roundw
          case rel => exact ⟨b + 1, by omega, by go_num, by rw [hFn1.out, hFFh.out, hFs.out]; exact hX7.out, hB7.out⟩
          case measure => simp [intOf]; omega
        · obtain rfl : b = 64 := by omega
          go_wp2
          go_roundw
          case rel => exact ⟨a + 1, by omega, by go_num, hX6.out, hB6.out⟩
          case measure => simp [intOf]; omega
    · obtain rfl : a = 64 := by omega
      rw [hFl.out] at hX ⊢
      go_wp2
      go_ret
      exact ⟨A5, c5, rfl, hX.out, hBL.out⟩
end Go.Proofs.Ythjfedidpjfboaa
