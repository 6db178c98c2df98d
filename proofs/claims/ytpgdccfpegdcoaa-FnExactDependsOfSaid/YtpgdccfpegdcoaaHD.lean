import Derived.Test.YtpgdccfpegdcoaaHC
/- Slices of slices of ints of the call's own: marked. -/
namespace Go.Proofs.Ytpgdccfpegdcoaa
open Go.RowKit
set_option linter.unusedVariables false

/-- A slice of slices of ints of the call's own: no two of its rows share a block, none lies in the outer slice's. -/
def OX (w : World) (lo hi : Nat) (v : Value) (xss : List (List Int)) : Prop :=
  ∃ vs : List Value, vs.length = xss.length ∧ OK encV 1 38 w lo hi v vs ∧ (∀ i (h : i < vs.length) (h' : i < xss.length), (∃ Ai ci, vs[i] = .slice Ai (xss[i]).length ci) ∧ OW w lo hi vs[i] xss[i]) ∧
    (∀ i j (h : i < vs.length) (h' : j < vs.length), i ≠ j → ∀ b, vs[i].ownBlock = some b → vs[j].ownBlock ≠ some b) ∧ (∀ b, v.ownBlock = some b → ∀ i (h : i < vs.length), vs[i].ownBlock ≠ some b)
theorem okv_rs {w : World} {lo hi n c : Nat} {A : Option Addr} {vs : List Value} (h : OK encV 1 38 w lo hi (.slice A n c) vs) : RS encV 1 w lo hi A vs := by
  obtain ⟨A', c', e, hr⟩ := OK.form (enc := encV) (k := 1) (fun _ => rfl) h
  injection e with e1 e2 e3
  subst e1
  exact hr
theorem OX.rs {w : World} {lo hi n c : Nat} {A : Option Addr} {xss : List (List Int)} (h : OX w lo hi (.slice A n c) xss) : XS w lo hi A xss := by
  obtain ⟨vs, hl, hr, hx, _⟩ := h
  refine ⟨vs, hl, okv_rs hr, fun i h h' => ?_⟩
  obtain ⟨⟨Ai, ci, e⟩, ho⟩ := hx i h h'
  rw [e] at ho
  exact ⟨Ai, ci, e, ho.rs⟩
theorem OW.turned {w w' : World} {lo hi : Nat} {v u : Value} {xs : List Int} (h : OW w lo hi v xs) (hg : w.grownBy w' u.ownBlock) (hne : ∀ b, u.ownBlock = some b → v.ownBlock ≠ some b) : OW w' lo hi v xs :=
  ⟨h.1.kept hg (by
    cases hv : v.ownBlock with
    | none => exact .inl rfl
    | some b => exact .inr (fun e => hne b e.symm (by rw [hv]))), h.2⟩
def markedX (xss : List (List Int)) (k0 : Int) (k i : Nat) : List Int := if i < k then marks (k0 + (((xss.map List.length).take i).sum : Nat)) (xss.getD i []).length else xss.getD i []
theorem markedX_other {xss : List (List Int)} {k0 : Int} {k i : Nat} (h : i ≠ k) : markedX xss k0 (k + 1) i = markedX xss k0 k i := by
  unfold markedX
  by_cases h1 : i < k
  · rw [if_pos (by omega), if_pos h1]
  · rw [if_neg (by omega), if_neg h1]
theorem markedX_at {xss : List (List Int)} {k0 : Int} {k : Nat} : markedX xss k0 (k + 1) k = marks (k0 + (((xss.map List.length).take k).sum : Nat)) (xss.getD k []).length := by unfold markedX; rw [if_pos (by omega)]
theorem markedX_self {xss : List (List Int)} {k0 : Int} {k : Nat} : markedX xss k0 k k = xss.getD k [] := by unfold markedX; rw [if_neg (by omega)]
theorem markedX_len {xss : List (List Int)} {k0 : Int} {k i : Nat} : (markedX xss k0 k i).length = (xss.getD i []).length := by unfold markedX; split <;> simp [marks]
theorem okv_kept {w w' : World} {lo hi : Nat} {v u : Value} {vs : List Value} (h : OK encV 1 38 w lo hi v vs) (hg : w.grownBy w' u.ownBlock) (hne : ∀ b, v.ownBlock = some b → u.ownBlock ≠ some b) : OK encV 1 38 w' lo hi v vs :=
  ⟨h.1.kept hg (by
    cases hv : v.ownBlock with
    | none => exact .inl rfl
    | some b => exact .inr (fun e => hne b hv e.symm)), h.2⟩
def MarkedX (w : World) (lo hi : Nat) (v : Value) (xss : List (List Int)) (k0 : Int) (e : Ending) (w' : World) : Prop :=
  e = .returned (.int .i64 (k0 + ((xss.map List.length).sum : Nat))) ∧ OX w' lo hi v (marksSS k0 (xss.map List.length)) ∧ Chg lo hi w w'

set_option maxHeartbeats 4000000 in
theorem markIntSS_any (lo hi : Nat) (A : Option Addr) (c : Nat) (xss : List (List Int)) (k0 : Int) (w : World) (hl : xss.length ≤ 1048576) (hs : (xss.map List.length).sum ≤ 1048576) (hk0 : 0 ≤ k0) (hk1 : k0 ≤ 1000000) (hx : OX w lo hi (.slice A xss.length c) xss) :
    Calls Try.prog 31 #[.slice A xss.length c, .int .i64 k0] w (MarkedX w lo hi (.slice A xss.length c) xss k0) := by
  obtain ⟨vs, hvl, hr, hx, hd, hA⟩ := hx
  have hDJ := Lib.hid hd
  have hAD := Lib.hid hA
  have hVL := Lib.hid hvl
  have hSM := Lib.hid hs
  have hR0 := Lib.hid hr
  have hX0 : Hid (∀ i (h : i < vs.length), (∃ Ai ci, vs[i] = .slice Ai (markedX xss k0 0 i).length ci) ∧ OW w lo hi vs[i] (markedX xss k0 0 i)) := fun i h => by
    have := hx i h (by omega)
    unfold markedX
    rw [if_neg (by omega), List.getD_eq_getElem?_getD, List.getElem?_eq_getElem (by omega)]
    exact this
  clear hd hA hvl hs hr hx
  go_enter Try.func31, Try.ntmps31
  go_wp2
  go_loopw [1, 5] (fun q i wr => ∃ k : Nat, k ≤ xss.length ∧ i = .int .i64 k ∧ q = .int .i64 (k0 + (((xss.map List.length).take k).sum : Nat)) ∧ OK encV 1 38 wr lo hi (.slice A xss.length c) vs ∧ (∀ i (h : i < vs.length), (∃ Ai ci, vs[i] = .slice Ai (markedX xss k0 k i).length ci) ∧ OW wr lo hi vs[i] (markedX xss k0 k i)) ∧ Chg lo hi w wr) (fun _ i _ => xss.length - (intOf i).toNat)
  case atStart => exact ⟨0, Nat.zero_le _, rfl, by simp, hR0.out, hX0.out, Chg.refl _ _ _⟩
  case round =>
    obtain ⟨k, hk, rfl, rfl, hr, hx, hch⟩ := hrel
    have hRJ := Lib.hid hr
    have hXJ := Lib.hid hx
    have hCJ := Lib.hid hch
    clear hX0 hR0
    by_cases hlt : k < xss.length
    · have hkv : k < vs.length := by rw [hVL.out]; exact hlt
      obtain ⟨⟨Ai, ci, ev⟩, ho⟩ := hx k hkv
      obtain ⟨b, o, rfl, ⟨_, hbB⟩, hc⟩ := (okv_rs hr) (by omega)
      have c1 := hc k hkv 0 vs[k] rfl
      have ho2 := ho
      rw [ev] at c1 ho
      rw [markedX_self] at c1 ho
      simp only [Nat.mul_one, Nat.add_zero] at c1
      have hlen : (xss.map List.length)[k]'(by simpa using hlt) = (xss.getD k []).length := by
        rw [List.getElem_map, List.getD_eq_getElem?_getD, List.getElem?_eq_getElem hlt]; rfl
      have h1 := sum_take_le (xss.map List.length) k
      have h2 := sum_take_le (xss.map List.length) (k + 1)
      have h3 := sum_take_succ (xss.map List.length) (i := k) (by simpa using hlt)
      rw [hlen] at h3
      have h4 := hSM.out
      have hM := Lib.hid (markIntS_any lo hi Ai ci (xss.getD k []) (k0 + (((xss.map List.length).take k).sum : Nat)) wr (by omega) (by omega) (by omega) ho)
      have hev : Hid ((Value.slice Ai (xss.getD k []).length ci) = vs[k]) := by unfold Hid; rw [ev, markedX_self]
      have hsum := Lib.hid (show k0 + (((xss.map List.length).take k).sum : Nat) + ((xss.getD k []).length : Nat) = k0 + ((((xss.map List.length).take (k + 1)).sum : Nat) : Int) by rw [h3]; omega)
      have hma := Lib.hid (markedX_at (xss := xss) (k0 := k0) (k := k))
      have hki : (k : Int) < (xss.length : Int) := by omega
      have hjh := Lib.hid hlt
      clear hc hr hx hch ho ho2 ev h1 h2 h3 h4 hlen
      generalize hxk : xss.getD k [] = xk at *
      have hxkh := Lib.hid hxk
      clear hxk
      generalize k0 + (((xss.map List.length).take k).sum : Nat) = s at *
      go_wp2_with (go_at_call 39; refine hM.out.mono ?_; rintro e w2 ⟨rfl, how, hgr⟩; have hO := Lib.hid how; have hG := Lib.hid hgr; clear how hgr)
      have := hjh.out
      have hg := hG.out
      have hO2 := hO.out
      rw [hev.out] at hg hO2
      refine ⟨⟨k + 1, hjh.out, by go_num, by rw [hsum.out], okv_kept hRJ.out hg (fun b' e => hAD.out b' e k hkv), fun i h => ?_, hCJ.out.trans (Chg.ofGrown hg (fun q e => (hXJ.out k hkv).2.lo q e))⟩, by simp [intOf]; omega⟩
      · by_cases e : i = k
        · subst e
          rw [hma.out]
          refine ⟨⟨Ai, ci, ?_⟩, hO2⟩
          rw [marks_len, hev.out]
        · rw [markedX_other e]
          exact ⟨(hXJ.out i h).1, OW.turned (hXJ.out i h).2 hg (fun b' e2 => hDJ.out k i hkv h (fun e3 => e e3.symm) b' e2)⟩
    · obtain rfl : k = xss.length := by omega
      have hsum := Lib.hid (show ((xss.map List.length).take xss.length).sum = (xss.map List.length).sum by rw [List.take_of_length_le (by simp)])
      rw [hsum.out]
      clear hr hx hch
      go_wp2
      go_ret
      refine ⟨rfl, ⟨vs, by rw [marksSS_len, List.length_map]; exact hVL.out, hRJ.out, fun i h h' => ?_, hDJ.out, hAD.out⟩, hCJ.out⟩
      have hi : i < xss.length := by rw [← hVL.out]; exact h
      rw [marksSS_get k0 _ i h' (by simpa using hi)]
      have := hXJ.out i h
      unfold markedX at this
      rw [if_pos hi, List.getD_eq_getElem?_getD, List.getElem?_eq_getElem hi] at this
      rw [List.getElem_map]
      exact this
end Go.Proofs.Ytpgdccfpegdcoaa
