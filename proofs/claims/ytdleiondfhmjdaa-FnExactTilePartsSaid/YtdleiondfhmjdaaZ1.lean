/- Texts of this proof, one behind the other: EL, EM, EU, EV, OC, ON. -/
import Derived.Test.YtdleiondfhmjdaaZ3
import Derived.Test.YtdleiondfhmjdaaZ2
import Derived.Test.YtdleiondfhmjdaaJ
import Derived.WalkKit
import Derived.WalkSpells
import Derived.WalkLawsBesides
import Derived.BigQuiet
import Derived.Lib.Hide
import Derived.Test.YtdleiondfhmjdaaZ4
import Derived.Test.YtdleiondfhmjdaaLawEA
import Derived.Test.YtdleiondfhmjdaaZ8
import Derived.ProofKit
import Derived.OpenShut
import Derived.ShutString
import Derived.ChangeOld
import Derived.Below
import Derived.Deep.Slices
import Derived.Deep.Fields
import Derived.Test.YtdleiondfhmjdaaKMNode
/- tileOf of the program, and what the first laws of chapter 5 ask of it. -/
namespace Go.Proofs.Ytdleiondfhmjdaa
open Go.RowKit
set_option linter.unusedVariables false

def tAt (es : List Nd) (i : Int) : Bool := treeR es && inR i 0 ((es.length : Int) - 1)
def tOf (es : List Nd) (i t : Int) : Option Ti := if tAt es i = true then tileO es (nodeAt es i) t else none
def noTi : Ti := ⟨0, [], [], 0⟩
theorem tilesOf_w (LE BE : Nat) (A : Option Addr) (c : Nat) (es : List Nd) (k : Nat) (hk : k < es.length) (w : World) (hes : NS w LE BE A es) (hB : BE ≤ w.heap.size) (hl : es.length ≤ 24) (hok : okFrom es 0 = true) :
    Calls Try.prog 83 #[.slice A es.length c, .int .i64 (k : Int)] w (TilesAre w (tilesL es es[k])) :=
  tilesOf_any LE BE A c es k hk w hes hB hl hok (fun L f hf r W hr hb => tileAt_any L LE BE f hf r A c es k hk W hr (hes.below hb hB) (Nat.le_trans hB hb.size) hl hok)

def TileGot (w : World) (o : Option Ti) (e : Ending) (w' : World) : Prop :=
  ∃ r : Rt, e = .returned (.tuple #[.agg #[.int .i64 r.num, r.p, r.q, .int .i64 r.c], .bool o.isSome]) ∧ RtOk w' w.heap.size w'.heap.size r (o.getD noTi) ∧ Below w.heap.size w w'

set_option maxHeartbeats 8000000 in
theorem tileOf_any (L B : Nat) (A : Option Addr) (c : Nat) (es : List Nd) (i t : Int) (w : World) (hl : es.length ≤ 1048576) (hes : NS w L B A es) (hB : B ≤ w.heap.size) :
    Calls Try.prog 75 #[.slice A es.length c, .int .i64 i, .int .i64 t] w (TileGot w (tOf es i t)) := by
  have hB1 := fun o => (Below.refl w.heap.size w).alloc (Nat.le_refl _) o
  have hTR := Lib.hid (fun W (h : Below w.heap.size w W) => iIsTree_any L B A c es W hl (hes.below h hB) (Nat.le_trans hB h.size))
  have hNew := Lib.hid (TX.new (w := w) (g := w.heap.size) zeroRt rfl)
  have hNil := Lib.hid (fun (W : World) => RtOk.nil W w.heap.size W.heap.size 0 0)
  have hB1h := Lib.hid hB1
  cases htr : treeR es
  · have hO : Hid (tOf es i t = none) := by simp [Hid, tOf, tAt, htr]
    rw [hO.out]
    go_enter Try.func75, Try.ntmps75
    go_wp2_with (fail)
    refine (hTR.out _ (hB1 _)).mono ?_
    rw [htr]
    rintro e w1 ⟨rfl, hb1⟩
    have hT1 := CB.below hNew.out hb1 (by simp)
    have q0 := (TX.cells hT1).1; have q1 := (TX.cells hT1).2.1; have q2 := (TX.cells hT1).2.2.1; have q3 := (TX.cells hT1).2.2.2
    have k0 := (TX.fz hT1).1; have k1 := (TX.fz hT1).2.1; have k2 := (TX.fz hT1).2.2.1; have k3 := (TX.fz hT1).2.2.2
    have hT1h := Lib.hid (TX.put hT1 zeroRt)
    have hb1h := Lib.hid (below_put4t ((hB1 _).trans (hb1.mono (by simp))) (Nat.le_refl w.heap.size) zeroRt)
    clear hT1 hb1
    go_wp2
    refine tile_ret2 (g := w.heap.size) (r := zeroRt) rfl rfl rfl ?_ ?_
    · exact hT1h.out
    · exact ⟨zeroRt, rfl, hNil.out _, hb1h.out⟩
  · cases hin : inR i 0 ((es.length : Int) - 1)
    · have hO : Hid (tOf es i t = none) := by simp [Hid, tOf, tAt, htr, hin]
      rw [hO.out]
      go_enter Try.func75, Try.ntmps75
      go_wp2_with (fail)
      refine (hTR.out _ (hB1 _)).mono ?_
      rw [htr]
      rintro e w1 ⟨rfl, hb1⟩
      have hT1 := CB.below hNew.out hb1 (by simp)
      have q0 := (TX.cells hT1).1; have q1 := (TX.cells hT1).2.1; have q2 := (TX.cells hT1).2.2.1; have q3 := (TX.cells hT1).2.2.2
      have k0 := (TX.fz hT1).1; have k1 := (TX.fz hT1).2.1; have k2 := (TX.fz hT1).2.2.1; have k3 := (TX.fz hT1).2.2.2
      have hT1h := Lib.hid (TX.put hT1 zeroRt)
      have hb1h := Lib.hid (below_put4t ((hB1 _).trans (hb1.mono (by simp))) (Nat.le_refl w.heap.size) zeroRt)
      clear hT1 hb1
      go_wp2_with (go_at_call 82; refine (isIndex_any _ _ _).mono ?_; rw [hin]; rintro e w' ⟨rfl, rfl⟩)
      refine tile_ret2 (g := w.heap.size) (r := zeroRt) rfl rfl rfl ?_ ?_
      · exact hT1h.out
      · exact ⟨zeroRt, rfl, hNil.out _, hb1h.out⟩
    · have hg : good es = true := by simp [treeR] at htr; exact htr.1
      obtain ⟨hl1, hl24, hok⟩ := good_len hg
      obtain ⟨h0, h1⟩ := (inR_iff _ _ _).1 hin
      obtain ⟨k, rfl⟩ : ∃ k : Nat, i = (k : Int) := ⟨i.toNat, by omega⟩
      have hk : k < es.length := by omega
      have hO : Hid (tOf es k t = tileO es es[k] t) := by simp only [Hid, tOf, tAt, htr, hin]; rw [nodeAt_nat hk]; rfl
      rw [hO.out]
      have hTs := Lib.hid (fun W (h : Below w.heap.size w W) => tilesOf_w L B A c es k hk W (hes.below h hB) (Nat.le_trans hB h.size) hl24 hok)
      have hYes : Hid (∀ x ∈ tilesL es es[k], x.num = t → tileO es es[k] t = some x) := fun x h1 h2 => tile_of_mem h1 h2
      have hNo : Hid ((∀ x ∈ tilesL es es[k], x.num ≠ t) → tileO es es[k] t = none) := fun h => tile_none h
      have hLen := Lib.hid (show (tilesL es es[k]).length ≤ 13 by unfold tilesL; have := List.length_filterMap_le (mt es es[k]) (List.range 13); simpa using this)
      generalize tileO es es[k] t = to at *
      generalize tilesL es es[k] = ts at *
      clear hes hO
      go_enter Try.func75, Try.ntmps75
      go_wp2_with (fail)
      refine (hTR.out _ (hB1 _)).mono ?_
      rw [htr]
      rintro e w1 ⟨rfl, hb1⟩
      have hT1 := Lib.hid (CB.below hNew.out hb1 (by simp))
      have hb1h := Lib.hid ((hB1 _).trans (hb1.mono (by simp)))
      have hz1 := hb1.size
      rw [World.size_alloc] at hz1
      clear hb1
      go_wp2_with (go_at_call 82; refine (isIndex_any _ _ _).mono ?_; rw [hin]; rintro e w' ⟨rfl, rfl⟩)
      refine (hTs.out _ hb1h.out).mono ?_
      rintro e w2 ⟨TA, tc, rs, rfl, hrs, hall, hb2⟩
      have hT2 := Lib.hid (CB.below hT1.out hb2 (by omega))
      have hb2h := Lib.hid (hb1h.out.trans (hb2.mono hb1h.out.size))
      have hRS := Lib.hid (hrs.more hb1h.out.size (Nat.le_refl _))
      have hAL := Lib.hid hall
      have hb1s := hb1h.out.size
      have hz2 := hb2.size
      have hz12 : w.heap.size < w2.heap.size := by omega
      clear hb2 hrs hall hT1 hTs hTR hb1h
      have hl2 := hLen.out
      go_wp2_with (fail)
      go_loopw [31] (fun q wr => ∃ j : Nat, j ≤ ts.length ∧ q = .int .i64 j ∧ (∀ x ∈ ts.take j, x.num ≠ t) ∧ Below w2.heap.size w2 wr) (fun q _ => ts.length - (intOf q).toNat)
      case atStart => exact ⟨0, Nat.zero_le _, rfl, by simp, Below.refl _ _⟩
      case round =>
        obtain ⟨j, hj, rfl, hne, hbr⟩ := hrel
        have hNe := Lib.hid hne
        have hBr := Lib.hid hbr
        have hzr := hbr.size
        clear hne hbr
        by_cases hlt : j < ts.length
        · have hjr : j < rs.length := by rw [hAL.out.1]; exact hlt
          have hok4 := hAL.out.2 j hjr hlt
          obtain ⟨tb, to', rfl, ⟨_, htb⟩, hcc⟩ := (hRS.out.below hBr.out (Nat.le_refl _)) (by omega)
          have x1 := hcc j hjr 0 _ rfl
          have x2 := hcc j hjr 1 _ rfl
          have x3 := hcc j hjr 2 _ rfl
          have x4 := hcc j hjr 3 _ rfl
          simp only [Nat.add_zero] at x1
          have hmem : ts[j] ∈ ts := List.getElem_mem _
          have hY : Hid (ts[j].num = t → to = some ts[j]) := hYes.out ts[j] hmem
          have hTk := Lib.hid (show ts.take (j + 1) = ts.take j ++ [ts[j]] from List.take_succ_eq_append_getElem hlt)
          generalize rs[j] = r at *
          obtain ⟨PA, pc, QA, qc, rfl, hp, hq⟩ := hok4.form
          dsimp only at x1 x2 x3 x4
          have hR4 := Lib.hid ((hok4.below hBr.out (Nat.le_refl _)).more (Nat.le_refl _) hzr)
          clear hcc hok4 hp hq hmem
          have hT4 := CB.below hT2.out hBr.out hz12
          generalize ts[j] = x at *
          cases he : (x.num == t)
          · have hne2 : ¬ x.num = t := by simpa using he
            clear hT4
            go_wp2
            go_roundw
            case rel =>
              refine ⟨j + 1, by omega, by go_num, ?_, hBr.out.trans (((Below.refl _ _).alloc (Nat.le_refl _) _).mono hzr)⟩
              rw [hTk.out]
              intro y hy
              rcases List.mem_append.1 hy with h | h
              · exact hNe.out y h
              · simp at h; subst h; exact hne2
            case measure => simp [intOf]; omega
          · have heq : x.num = t := by simpa using he
            obtain rfl : to = some x := hY.out heq
            subst heq
            have hzw : w.heap.size < wr.heap.size := by omega
            have q0 := (TX.cells hT4).1; have q1 := (TX.cells hT4).2.1; have q2 := (TX.cells hT4).2.2.1; have q3 := (TX.cells hT4).2.2.2
            have k0 := (TX.fz hT4).1; have k1 := (TX.fz hT4).2.1; have k2 := (TX.fz hT4).2.2.1; have k3 := (TX.fz hT4).2.2.2
            obtain ⟨rr, hrr⟩ : ∃ rr : Rt, rr = ⟨x.num, .slice PA x.ps.length pc, .slice QA x.ins.length qc, x.c⟩ := ⟨_, rfl⟩
            have hPT := TX.put hT4 rr
            have hsz := size_put4t wr w.heap.size rr
            have bal := (Below.refl (put4t wr w.heap.size rr).heap.size (put4t wr w.heap.size rr)).alloc (Nat.le_refl _) (.cells #[.int .i64 x.num, .slice PA x.ps.length pc, .slice QA x.ins.length qc, .int .i64 x.c] 91)
            have hX := Lib.hid (CB.below hPT bal (by omega))
            have hY2 := Lib.hid ((below_put4t (hb2h.out.trans (hBr.out.mono (by omega))) (Nat.le_refl w.heap.size) rr).trans (bal.mono (by omega)))
            have hR6 := Lib.hid (((hR4.out.put4t (g := w.heap.size) (by omega) rr).below bal (by omega)).more hb1s (Nat.le_refl _))
            have hzz := Lib.hid (show wr.heap.size ≤ ((put4t wr w.heap.size rr).alloc (.cells #[.int .i64 x.num, .slice PA x.ps.length pc, .slice QA x.ins.length qc, .int .i64 x.c] 91)).heap.size by rw [World.size_alloc]; omega)
            subst hrr
            clear hT4 bal hPT hsz
            go_wp2
            refine tile_ret2 (g := w.heap.size) (r := ⟨x.num, .slice PA x.ps.length pc, .slice QA x.ins.length qc, x.c⟩) rfl rfl rfl ?_ ?_
            · exact hX.out
            · refine ⟨⟨x.num, .slice PA x.ps.length pc, .slice QA x.ins.length qc, x.c⟩, rfl, ?_, hY2.out⟩
              exact (hR6.out).more (Nat.le_refl _) hzz.out
        · obtain rfl : j = ts.length := by omega
          have hN := hNe.out
          rw [List.take_length] at hN
          obtain rfl : to = none := hNo.out hN
          have hT4 := CB.below hT2.out hBr.out hz12
          have q0 := (TX.cells hT4).1; have q1 := (TX.cells hT4).2.1; have q2 := (TX.cells hT4).2.2.1; have q3 := (TX.cells hT4).2.2.2
          have k0 := (TX.fz hT4).1; have k1 := (TX.fz hT4).2.1; have k2 := (TX.fz hT4).2.2.1; have k3 := (TX.fz hT4).2.2.2
          have hT1h := Lib.hid (TX.put hT4 zeroRt)
          have hbe := Lib.hid (below_put4t (hb2h.out.trans (hBr.out.mono (by omega))) (Nat.le_refl w.heap.size) zeroRt)
          clear hT4
          go_wp2
          refine tile_ret2 (g := w.heap.size) (r := zeroRt) rfl rfl rfl ?_ ?_
          · exact hT1h.out
          · exact ⟨zeroRt, rfl, hNil.out _, hbe.out⟩
end Go.Proofs.Ytdleiondfhmjdaa

/- TileParts, TileInner, TileCost of the program. -/
namespace Go.Proofs.Ytdleiondfhmjdaa
open Go.RowKit
set_option linter.unusedVariables false

def partsR (es : List Nd) (i t : Int) : List Int := ((tOf es i t).getD noTi).ps
def innerR (es : List Nd) (i t : Int) : List Int := ((tOf es i t).getD noTi).ins
def tcostR (es : List Nd) (i t : Int) : Int := ((tOf es i t).getD noTi).c
def tokR (es : List Nd) (i t : Int) : Bool := (tOf es i t).isSome

set_option maxHeartbeats 4000000 in
theorem iTileParts_any (L B : Nat) (A : Option Addr) (c : Nat) (es : List Nd) (i t : Int) (w : World) (hl : es.length ≤ 1048576) (hes : NS w L B A es) (hB : B ≤ w.heap.size) :
    Calls Try.prog 31 #[.slice A es.length c, .int .i64 i, .int .i64 t] w (IntsRes w (partsR es i t) (tokR es i t)) := by
  have H := Lib.hid (tileOf_any L B A c es i t w hl hes hB)
  unfold partsR tokR
  clear hes
  go_enter Try.func31, Try.ntmps31
  go_wp2_with (fail)
  refine H.out.mono ?_
  clear H
  rintro e w1 ⟨r, rfl, hr, hb⟩
  generalize tOf es i t = o at *
  generalize o.getD noTi = x at *
  obtain ⟨PA, pc, QA, qc, rfl, hp, hq⟩ := hr.form
  have ba := fun o => (Below.refl w1.heap.size w1).alloc (Nat.le_refl _) o
  have hp' := fun o => Lib.hid ((hp.below (ba o) (Nat.le_refl _)).more (ba o).size)
  have hbh := fun o => Lib.hid (hb.trans ((ba o).mono hb.size))
  clear ba hr hp hq hb
  dsimp only
  go_wp2
  go_ret2
  exact ⟨_, _, rfl, (hp' _).out, (hbh _).out⟩

set_option maxHeartbeats 4000000 in
theorem iTileInner_any (L B : Nat) (A : Option Addr) (c : Nat) (es : List Nd) (i t : Int) (w : World) (hl : es.length ≤ 1048576) (hes : NS w L B A es) (hB : B ≤ w.heap.size) :
    Calls Try.prog 36 #[.slice A es.length c, .int .i64 i, .int .i64 t] w (IntsRes w (innerR es i t) (tokR es i t)) := by
  have H := Lib.hid (tileOf_any L B A c es i t w hl hes hB)
  unfold innerR tokR
  clear hes
  go_enter Try.func36, Try.ntmps36
  go_wp2_with (fail)
  refine H.out.mono ?_
  clear H
  rintro e w1 ⟨r, rfl, hr, hb⟩
  generalize tOf es i t = o at *
  generalize o.getD noTi = x at *
  obtain ⟨PA, pc, QA, qc, rfl, hp, hq⟩ := hr.form
  have ba := fun o => (Below.refl w1.heap.size w1).alloc (Nat.le_refl _) o
  have hq' := fun o => Lib.hid ((hq.below (ba o) (Nat.le_refl _)).more (ba o).size)
  have hbh := fun o => Lib.hid (hb.trans ((ba o).mono hb.size))
  clear ba hr hp hq hb
  dsimp only
  go_wp2
  go_ret2
  exact ⟨_, _, rfl, (hq' _).out, (hbh _).out⟩

def IntRes (w : World) (x : Int) (ok : Bool) (e : Ending) (w' : World) : Prop := e = .returned (.tuple #[.int .i64 x, .bool ok]) ∧ Below w.heap.size w w'
set_option maxHeartbeats 4000000 in
theorem iTileCost_any (L B : Nat) (A : Option Addr) (c : Nat) (es : List Nd) (i t : Int) (w : World) (hl : es.length ≤ 1048576) (hes : NS w L B A es) (hB : B ≤ w.heap.size) :
    Calls Try.prog 38 #[.slice A es.length c, .int .i64 i, .int .i64 t] w (IntRes w (tcostR es i t) (tokR es i t)) := by
  have H := Lib.hid (tileOf_any L B A c es i t w hl hes hB)
  unfold tcostR tokR
  clear hes
  go_enter Try.func38, Try.ntmps38
  go_wp2_with (fail)
  refine H.out.mono ?_
  clear H
  rintro e w1 ⟨r, rfl, hr, hb⟩
  generalize tOf es i t = o at *
  generalize o.getD noTi = x at *
  obtain ⟨PA, pc, QA, qc, rfl, hp, hq⟩ := hr.form
  have ba := fun o => (Below.refl w1.heap.size w1).alloc (Nat.le_refl _) o
  have hbh := fun o => Lib.hid (hb.trans ((ba o).mono hb.size))
  clear ba hr hp hq hb
  dsimp only
  go_wp2
  go_ret2
  exact ⟨rfl, (hbh _).out⟩
end Go.Proofs.Ytdleiondfhmjdaa

/- The model's TileParts, TileInner, TileCost. -/
namespace Go.Proofs.Ytdleiondfhmjdaa
open Go.RowKit
set_option linter.unusedVariables false

def ctN (n : Nat) (nd : Nd) : Int := if n = 0 then 0 else if n = 3 then cst nd.op else 1
theorem foO_c {es : List Nd} {nd : Nd} {f : Fo} {x : Ti} (h : foO es nd f = some x) : x.c = 1 := by
  unfold foO at h
  split at h
  · injection h with h; subst h; unfold foTi; split <;> rfl
  · cases h
theorem mt_c {es : List Nd} {nd : Nd} {n : Nat} {x : Ti} (h : mt es nd n = some x) : x.c = ctN n nd := by
  match n with
  | 0 | 1 | 2 | 3 =>
    simp only [mt] at h
    split at h
    · injection h with h
      subst h
      rfl
    · cases h
  | m + 4 =>
    simp only [mt] at h
    rw [Option.bind_eq_some_iff] at h
    obtain ⟨f, _, h⟩ := h
    rw [foO_c h]
    unfold ctN
    rw [if_neg (by omega), if_neg (by omega)]
/-- What a tile that is told is. -/
theorem tok_parts {es : List Nd} {i t : Int} (h : tokR es i t = true) : ∃ k n : Nat, ∃ hk : k < es.length, i = (k : Int) ∧ t = (n : Int) ∧ n < 13 ∧ okFrom es 0 = true ∧ es.length ≤ 24 ∧ tOf es i t = mt es es[k] n := by
  unfold tokR at h
  unfold tOf at h ⊢
  by_cases h1 : tAt es i = true
  · rw [if_pos h1] at h ⊢
    unfold tAt treeR at h1
    simp only [Bool.and_eq_true] at h1
    obtain ⟨⟨hg, _⟩, hi⟩ := h1
    obtain ⟨hl1, hl24, hok⟩ := good_len hg
    have hi2 := (inR_iff _ _ _).1 hi
    obtain ⟨k, rfl⟩ := Int.eq_ofNat_of_zero_le hi2.1
    have hk : k < es.length := by omega
    rw [nodeAt_nat hk] at h ⊢
    unfold tileO at h ⊢
    by_cases h2 : inR t 0 12 = true
    · rw [if_pos h2]
      have ht := (inR_iff _ _ _).1 h2
      obtain ⟨n, rfl⟩ := Int.eq_ofNat_of_zero_le ht.1
      exact ⟨k, n, hk, rfl, rfl, by omega, hok, hl24, rfl⟩
    · rw [if_neg h2] at h; cases h
  · rw [if_neg h1] at h; cases h
theorem tok_no {es : List Nd} {i t : Int} (h : treeR es = false ∨ inR i 0 ((es.length : Int) - 1) = false ∨ inR t 0 12 = false) : tokR es i t = false := by
  unfold tokR tOf tAt tileO
  rcases h with h | h | h
  · rw [h]; rfl
  · rw [h, Bool.and_false]; rfl
  · split
    · rw [h]; rfl
    · rfl

set_option maxHeartbeats 4000000 in
theorem cvAt_any (L B : Nat) (A : Option Addr) (c : Nat) (es : List Nd) (i t : Int) (w : World) (hl : es.length ≤ 1048576) (hes : NS w L B A es) (hB : B ≤ w.heap.size) :
    Calls Try.prog 72 #[.slice A es.length c, .int .i64 i, .int .i64 t] w (BoolB w (tokR es i t)) := by
  have H := Lib.hid (cvTree_any L B A c es w hl hes hB)
  have H2 := Lib.hid fun (k n : Nat) (hk : k < es.length) (hn : n < 13) (hok : okFrom es 0 = true) (W : World) (hW : Below w.heap.size w W) => cvTile_n L B A c es k hk n hn W (hes.below hW hB) (Nat.le_trans hB hW.size) hok
  clear hes hB
  have hl1 : (es.length : Int) ≤ 1048576 := by omega
  cases ht : treeR es
  · have hk := Lib.hid (tok_no (es := es) (i := i) (t := t) (.inl ht))
    rw [ht] at H
    clear ht H2
    go_enter Try.func72, Try.ntmps72
    go_wp2_with (go_at_call 78; refine H.out.mono ?_; rintro e w1 ⟨rfl, hb1⟩; have hbh := Lib.hid hb1; clear hb1)
    go_ret
    exact ⟨by rw [hk.out]; rfl, hbh.out⟩
  have hlpos : 1 ≤ es.length := by
    unfold treeR at ht; simp only [Bool.and_eq_true] at ht; exact (good_len ht.1).1
  have hw1 : IntKind.i64.wrap ((es.length : Int) - 1) = (es.length : Int) - 1 := by rw [IntKind.wrap_i64]; omega
  cases hi : inR i 0 ((es.length : Int) - 1)
  · have hk := Lib.hid (tok_no (es := es) (i := i) (t := t) (.inr (.inl hi)))
    have HI := Lib.hid fun (W : World) => l1In_r i 0 ((es.length : Int) - 1) W
    rw [hi] at HI
    rw [ht] at H
    clear ht H2 hi
    generalize es.length = m at *
    go_enter Try.func72, Try.ntmps72
    go_wp2_with (first | (go_at_call 78; refine H.out.mono ?_; rintro e w1 ⟨rfl, hb1⟩; have hbh := Lib.hid hb1; clear hb1) | (go_at_call 79; (with_reducible refine (HI.out _).mono ?_); rintro e w' ⟨rfl, rfl⟩))
    go_ret
    exact ⟨by rw [hk.out]; rfl, hbh.out⟩
  cases hj : inR t 0 12
  · have hk := Lib.hid (tok_no (es := es) (i := i) (t := t) (.inr (.inr hj)))
    have HI := Lib.hid fun (W : World) => l1In_r i 0 ((es.length : Int) - 1) W
    have HJ := Lib.hid fun (W : World) => l1In_r t 0 12 W
    rw [hi] at HI
    rw [hj] at HJ
    rw [ht] at H
    clear ht H2 hi hj
    generalize es.length = m at *
    go_enter Try.func72, Try.ntmps72
    go_wp2_with (first | (go_at_call 78; refine H.out.mono ?_; rintro e w1 ⟨rfl, hb1⟩; have hbh := Lib.hid hb1; clear hb1) | (go_at_call 79; (with_reducible refine (HI.out _).mono ?_); rintro e w' ⟨rfl, rfl⟩) | (go_at_call 79; (with_reducible refine (HJ.out _).mono ?_); rintro e w' ⟨rfl, rfl⟩))
    go_ret
    exact ⟨by rw [hk.out]; rfl, hbh.out⟩
  have hi2 := (inR_iff _ _ _).1 hi
  have hj2 := (inR_iff _ _ _).1 hj
  obtain ⟨k, rfl⟩ := Int.eq_ofNat_of_zero_le hi2.1
  obtain ⟨n, rfl⟩ := Int.eq_ofNat_of_zero_le hj2.1
  have hk : k < es.length := by omega
  have hok : okFrom es 0 = true := by
    unfold treeR at ht; simp only [Bool.and_eq_true] at ht; exact (good_len ht.1).2.2
  have hT := Lib.hid fun W hW => H2.out k n hk (by omega) hok W hW
  have hR := Lib.hid (show tokR es (k : Int) (n : Int) = (mt es es[k] n).isSome by
    unfold tokR tOf tAt tileO
    rw [ht, hi, hj, nodeAt_nat hk, Int.toNat_natCast]; rfl)
  have HI := Lib.hid fun (W : World) => l1In_r (k : Int) 0 ((es.length : Int) - 1) W
  have HJ := Lib.hid fun (W : World) => l1In_r (n : Int) 0 12 W
  rw [hi] at HI
  rw [hj] at HJ
  rw [ht] at H
  clear ht H2 hi hj hok hi2 hj2
  generalize mt es es[k] n = o at *
  clear hk
  generalize es.length = m at *
  go_enter Try.func72, Try.ntmps72
  go_wp2_with (first | (go_at_call 78; refine H.out.mono ?_; rintro e w1 ⟨rfl, hb1⟩; have hbh := Lib.hid hb1; clear hb1) | (go_at_call 79; (with_reducible refine (HI.out _).mono ?_); rintro e w' ⟨rfl, rfl⟩) | (go_at_call 79; (with_reducible refine (HJ.out _).mono ?_); rintro e w' ⟨rfl, rfl⟩) | (go_at_call 73; (with_reducible refine (hT.out _ hbh.out).mono ?_); rintro e w2 ⟨PA, pc, QA, qc, rfl, _, _, hb2⟩; have hbi := Lib.hid (hbh.out.trans (hb2.mono hbh.out.size)); clear hb2))
  go_ret
  exact ⟨by rw [hR.out]; rfl, hbi.out⟩

set_option maxHeartbeats 2000000 in
theorem cvCost_any (L B : Nat) (A : Option Addr) (c : Nat) (es : List Nd) (k n : Nat) (hk : k < es.length) (w : World) (hes : NS w L B A es) :
    Calls Try.prog 77 #[.slice A es.length c, .int .i64 (k : Int), .int .i64 (n : Int)] w fun e w' => e = .returned (.int .i64 (ctN n es[k])) ∧ w = w' := by
  have k1 : (k : Int) < (es.length : Int) := by omega
  obtain ⟨b0, o0, rfl, _, hc⟩ := hes (by omega)
  obtain ⟨c1, c2, c3, c4⟩ := hc k hk
  clear hc hes
  by_cases h0 : n = 0
  · subst h0
    have hR : Hid (ctN 0 es[k] = 0) := rfl
    generalize ctN 0 es[k] = R at *
    go_enter Try.func77, Try.ntmps77
    go_wp2
    go_ret
    exact ⟨by rw [hR.out]; rfl, rfl⟩
  by_cases h3 : n = 3
  · subst h3
    have hR : Hid (ctN 3 es[k] = cst es[k].op) := rfl
    generalize ctN 3 es[k] = R at *
    generalize es[k] = nd at *
    obtain ⟨s, a, b, v⟩ := nd
    dsimp only at c1 c2 c3 c4 hR
    go_enter Try.func77, Try.ntmps77
    go_wp2_with (go_at_call 112; refine (ruCdCost_any _ _).mono ?_; rintro e w' ⟨rfl, rfl⟩)
    go_ret
    exact ⟨by rw [hR.out]; rfl, rfl⟩
  · have hR : Hid (ctN n es[k] = 1) := by unfold Hid ctN; rw [if_neg h0, if_neg h3]
    generalize ctN n es[k] = R at *
    have g0 : ¬ (n : Int) = 0 := by omega
    have g3 : ¬ (n : Int) = 3 := by omega
    go_enter Try.func77, Try.ntmps77
    go_wp2
    go_ret
    exact ⟨by rw [hR.out]; rfl, rfl⟩
end Go.Proofs.Ytdleiondfhmjdaa

/- TileParts, TileInner, TileCost: the model; the contracts as the laws take them. -/
namespace Go.Proofs.Ytdleiondfhmjdaa
open Go.RowKit
set_option linter.unusedVariables false

theorem foTi_len (es : List Nd) (f : Fo) (nd : Nd) : (foTi es f nd).ps.length ≤ 2 ∧ (foTi es f nd).ins.length ≤ 2 := by
  unfold foTi; split <;> simp
theorem mt_len {es : List Nd} {nd : Nd} {n : Nat} {x : Ti} (h : mt es nd n = some x) : x.ps.length ≤ 2 ∧ x.ins.length ≤ 2 := by
  match n with
  | 0 | 1 | 2 | 3 =>
    simp only [mt] at h
    split at h
    · injection h with h
      subst h
      simp
    · cases h
  | m + 4 =>
    simp only [mt] at h
    rw [Option.bind_eq_some_iff] at h
    obtain ⟨f, _, h⟩ := h
    unfold foO at h
    split at h
    · injection h with h; subst h; exact foTi_len es f nd
    · cases h

set_option maxHeartbeats 2000000 in
theorem sTileParts_any (L B : Nat) (A : Option Addr) (c : Nat) (es : List Nd) (i t : Int) (w : World) (hl : es.length ≤ 1048576) (hes : NS w L B A es) (hB : B ≤ w.heap.size) :
    Calls Try.prog 29 #[.slice A es.length c, .int .i64 i, .int .i64 t] w (IntsRes w (partsR es i t) (tokR es i t)) := by
  have H := Lib.hid (cvAt_any L B A c es i t w hl hes hB)
  have H2 := Lib.hid fun (k n : Nat) (hk : k < es.length) (hn : n < 13) (hok : okFrom es 0 = true) (W : World) (hW : Below w.heap.size w W) => cvTile_n L B A c es k hk n hn W (hes.below hW hB) (Nat.le_trans hB hW.size) hok
  clear hes hB
  cases ht : tokR es i t
  · have hR := Lib.hid (show partsR es i t = [] by
      unfold tokR at ht
      unfold partsR
      rw [Option.isSome_eq_false_iff, Option.isNone_iff_eq_none] at ht
      rw [ht]; rfl)
    rw [ht] at H
    clear ht H2
    go_enter Try.func29, Try.ntmps29
    go_wp2_with (go_at_call 72; refine H.out.mono ?_; rintro e w1 ⟨rfl, hb1⟩; have hbh := Lib.hid hb1; clear hb1)
    go_ret2
    exact ⟨none, 0, by rw [hR.out]; rfl, by rw [hR.out]; exact OW.nil _ _ _, hbh.out⟩
  · obtain ⟨k, n, hk, rfl, rfl, hn, hok, hl24, hT⟩ := tok_parts ht
    have HT := Lib.hid fun W hW => H2.out k n hk hn hok W hW
    have hR := Lib.hid (show partsR es (k : Int) (n : Int) = ((mt es es[k] n).map Ti.ps).getD [] by
      unfold partsR
      unfold tokR at ht
      rw [hT] at ht ⊢
      cases hm : mt es es[k] n with
      | none => rw [hm] at ht; cases ht
      | some x => rfl)
    rw [ht] at H
    clear ht H2 hT hok hl24
    generalize mt es es[k] n = o at *
    clear hk
    go_enter Try.func29, Try.ntmps29
    go_wp2_with (first | (go_at_call 72; refine H.out.mono ?_; rintro e w1 ⟨rfl, hb1⟩; have hbh := Lib.hid hb1; clear hb1) | (go_at_call 73; (with_reducible refine (HT.out _ hbh.out).mono ?_); rintro e w2 ⟨PA, pc, QA, qc, rfl, hp, hq, hb2⟩; have hbi := Lib.hid (hbh.out.trans (hb2.mono hbh.out.size)); have hpp := Lib.hid (hp.lower hbh.out.size); clear hb2 hp hq))
    go_ret2
    exact ⟨PA, pc, by rw [hR.out]; rfl, by rw [hR.out]; exact hpp.out, hbi.out⟩
theorem sTileParts_k (L B : Nat) (A : Option Addr) (c : Nat) (es : List Nd) (i t : Int) (w : World) (hl : es.length ≤ 1048576) (hes : RS Nd.enc 4 w L B A es) (hB : B ≤ w.heap.size) :
    Calls Try.prog 29 #[.slice A es.length c, .int .i64 i, .int .i64 t] w (ResTileParts (partsR es i t) (tokR es i t) w) := sTileParts_any L B A c es i t w hl hes.ns hB
theorem iTileParts_k (L B : Nat) (A : Option Addr) (c : Nat) (es : List Nd) (i t : Int) (w : World) (hl : es.length ≤ 1048576) (hes : RS Nd.enc 4 w L B A es) (hB : B ≤ w.heap.size) :
    Calls Try.prog 31 #[.slice A es.length c, .int .i64 i, .int .i64 t] w (ResTileParts (partsR es i t) (tokR es i t) w) := iTileParts_any L B A c es i t w hl hes.ns hB
theorem partsR_len {es : List Nd} {i t : Int} : (partsR es i t).length ≤ 1048576 := by
  cases ht : tokR es i t
  · unfold tokR at ht
    unfold partsR
    rw [Option.isSome_eq_false_iff, Option.isNone_iff_eq_none] at ht
    rw [ht]; simp [noTi]
  · obtain ⟨k, n, hk, rfl, rfl, hn, hok, hl24, hT⟩ := tok_parts ht
    unfold partsR
    rw [hT]
    cases hm : mt es es[k] n with
    | none => simp [noTi]
    | some x => have := mt_len hm; simp only [Option.getD_some]; omega

set_option maxHeartbeats 2000000 in
theorem sTileInner_any (L B : Nat) (A : Option Addr) (c : Nat) (es : List Nd) (i t : Int) (w : World) (hl : es.length ≤ 1048576) (hes : NS w L B A es) (hB : B ≤ w.heap.size) :
    Calls Try.prog 35 #[.slice A es.length c, .int .i64 i, .int .i64 t] w (IntsRes w (innerR es i t) (tokR es i t)) := by
  have H := Lib.hid (cvAt_any L B A c es i t w hl hes hB)
  have H2 := Lib.hid fun (k n : Nat) (hk : k < es.length) (hn : n < 13) (hok : okFrom es 0 = true) (W : World) (hW : Below w.heap.size w W) => cvTile_n L B A c es k hk n hn W (hes.below hW hB) (Nat.le_trans hB hW.size) hok
  clear hes hB
  cases ht : tokR es i t
  · have hR := Lib.hid (show innerR es i t = [] by
      unfold tokR at ht
      unfold innerR
      rw [Option.isSome_eq_false_iff, Option.isNone_iff_eq_none] at ht
      rw [ht]; rfl)
    rw [ht] at H
    clear ht H2
    go_enter Try.func35, Try.ntmps35
    go_wp2_with (go_at_call 72; refine H.out.mono ?_; rintro e w1 ⟨rfl, hb1⟩; have hbh := Lib.hid hb1; clear hb1)
    go_ret2
    exact ⟨none, 0, by rw [hR.out]; rfl, by rw [hR.out]; exact OW.nil _ _ _, hbh.out⟩
  · obtain ⟨k, n, hk, rfl, rfl, hn, hok, hl24, hT⟩ := tok_parts ht
    have HT := Lib.hid fun W hW => H2.out k n hk hn hok W hW
    have hR := Lib.hid (show innerR es (k : Int) (n : Int) = ((mt es es[k] n).map Ti.ins).getD [] by
      unfold innerR
      unfold tokR at ht
      rw [hT] at ht ⊢
      cases hm : mt es es[k] n with
      | none => rw [hm] at ht; cases ht
      | some x => rfl)
    rw [ht] at H
    clear ht H2 hT hok hl24
    generalize mt es es[k] n = o at *
    clear hk
    go_enter Try.func35, Try.ntmps35
    go_wp2_with (first | (go_at_call 72; refine H.out.mono ?_; rintro e w1 ⟨rfl, hb1⟩; have hbh := Lib.hid hb1; clear hb1) | (go_at_call 73; (with_reducible refine (HT.out _ hbh.out).mono ?_); rintro e w2 ⟨PA, pc, QA, qc, rfl, hp, hq, hb2⟩; have hbi := Lib.hid (hbh.out.trans (hb2.mono hbh.out.size)); have hpp := Lib.hid (hq.lower hbh.out.size); clear hb2 hp hq))
    go_ret2
    exact ⟨QA, qc, by rw [hR.out]; rfl, by rw [hR.out]; exact hpp.out, hbi.out⟩
theorem sTileInner_k (L B : Nat) (A : Option Addr) (c : Nat) (es : List Nd) (i t : Int) (w : World) (hl : es.length ≤ 1048576) (hes : RS Nd.enc 4 w L B A es) (hB : B ≤ w.heap.size) :
    Calls Try.prog 35 #[.slice A es.length c, .int .i64 i, .int .i64 t] w (ResTileInner (innerR es i t) (tokR es i t) w) := sTileInner_any L B A c es i t w hl hes.ns hB
theorem iTileInner_k (L B : Nat) (A : Option Addr) (c : Nat) (es : List Nd) (i t : Int) (w : World) (hl : es.length ≤ 1048576) (hes : RS Nd.enc 4 w L B A es) (hB : B ≤ w.heap.size) :
    Calls Try.prog 36 #[.slice A es.length c, .int .i64 i, .int .i64 t] w (ResTileInner (innerR es i t) (tokR es i t) w) := iTileInner_any L B A c es i t w hl hes.ns hB
theorem innerR_len {es : List Nd} {i t : Int} : (innerR es i t).length ≤ 1048576 := by
  cases ht : tokR es i t
  · unfold tokR at ht
    unfold innerR
    rw [Option.isSome_eq_false_iff, Option.isNone_iff_eq_none] at ht
    rw [ht]; simp [noTi]
  · obtain ⟨k, n, hk, rfl, rfl, hn, hok, hl24, hT⟩ := tok_parts ht
    unfold innerR
    rw [hT]
    cases hm : mt es es[k] n with
    | none => simp [noTi]
    | some x => have := mt_len hm; simp only [Option.getD_some]; omega

set_option maxHeartbeats 2000000 in
theorem sTileCost_any (L B : Nat) (A : Option Addr) (c : Nat) (es : List Nd) (i t : Int) (w : World) (hl : es.length ≤ 1048576) (hes : NS w L B A es) (hB : B ≤ w.heap.size) :
    Calls Try.prog 37 #[.slice A es.length c, .int .i64 i, .int .i64 t] w (IntRes w (tcostR es i t) (tokR es i t)) := by
  have H := Lib.hid (cvAt_any L B A c es i t w hl hes hB)
  have H2 := Lib.hid fun (k n : Nat) (hk : k < es.length) (W : World) (hW : Below w.heap.size w W) => cvCost_any L B A c es k n hk W (hes.below hW hB)
  clear hes hB
  cases ht : tokR es i t
  · have hR := Lib.hid (show tcostR es i t = 0 by
      unfold tokR at ht
      unfold tcostR
      rw [Option.isSome_eq_false_iff, Option.isNone_iff_eq_none] at ht
      rw [ht]; rfl)
    rw [ht] at H
    clear ht H2
    go_enter Try.func37, Try.ntmps37
    go_wp2_with (go_at_call 72; refine H.out.mono ?_; rintro e w1 ⟨rfl, hb1⟩; have hbh := Lib.hid hb1; clear hb1)
    go_ret2
    exact ⟨by rw [hR.out]; rfl, hbh.out⟩
  · obtain ⟨k, n, hk, rfl, rfl, hn, hok, hl24, hT⟩ := tok_parts ht
    have HT := Lib.hid fun W hW => H2.out k n hk W hW
    have hR := Lib.hid (show tcostR es (k : Int) (n : Int) = ctN n es[k] by
      unfold tcostR
      unfold tokR at ht
      rw [hT] at ht ⊢
      cases hm : mt es es[k] n with
      | none => rw [hm] at ht; cases ht
      | some x => exact mt_c hm)
    rw [ht] at H
    clear ht H2 hT hok hl24
    generalize ctN n es[k] = R at *
    clear hk
    go_enter Try.func37, Try.ntmps37
    go_wp2_with (first | (go_at_call 72; refine H.out.mono ?_; rintro e w1 ⟨rfl, hb1⟩; have hbh := Lib.hid hb1; clear hb1) | (go_at_call 77; (with_reducible refine (HT.out _ hbh.out).mono ?_); rintro e w2 ⟨rfl, rfl⟩))
    go_ret2
    exact ⟨by rw [hR.out]; rfl, hbh.out⟩
theorem sTileCost_k (L B : Nat) (A : Option Addr) (c : Nat) (es : List Nd) (i t : Int) (w : World) (hl : es.length ≤ 1048576) (hes : RS Nd.enc 4 w L B A es) (hB : B ≤ w.heap.size) :
    Calls Try.prog 37 #[.slice A es.length c, .int .i64 i, .int .i64 t] w (ResTileCost (tcostR es i t) (tokR es i t) w) := sTileCost_any L B A c es i t w hl hes.ns hB
theorem iTileCost_k (L B : Nat) (A : Option Addr) (c : Nat) (es : List Nd) (i t : Int) (w : World) (hl : es.length ≤ 1048576) (hes : RS Nd.enc 4 w L B A es) (hB : B ≤ w.heap.size) :
    Calls Try.prog 38 #[.slice A es.length c, .int .i64 i, .int .i64 t] w (ResTileCost (tcostR es i t) (tokR es i t) w) := iTileCost_any L B A c es i t w hl hes.ns hB
end Go.Proofs.Ytdleiondfhmjdaa

/- Arguments of the types []laws.Instr, laws.Instr and []int opened. -/
namespace Go.Proofs.Ytdleiondfhmjdaa
open Go.ChangeShapes Go.WideShapes Go.ChangeAt Go.RowKit Go.Deep
open Go.ChangeMaps (open_string shut_string)
set_option linter.unusedVariables false

theorem cellsIn : Try.prog.cellsOf 67 = 5 := by kernel_rfl
theorem cellsStr : Try.prog.cellsOf 9 = 1 := by kernel_rfl
theorem cellsInt : Try.prog.cellsOf 3 = 1 := by kernel_rfl

set_option maxRecDepth 100000 in
theorem in_of_trod {H : Type} {enc : TypeId × Value → H} {w : World} {base : Nat} {spare : Nat → Bool} {held : Bool} {n : Nat} {cs : List Value} {x : DataW H × List MemPlace}
    (h : DataW.trod enc Try.prog w base spare held n 67 cs = some x) : ∃ nd : In, cs = nd.enc ∧ nd.op.size ≤ maxLen := by
  obtain ⟨xs, m, _, _, hlen, hxl, hf⟩ := DataW.trod_struct Try.underlying67 h
  rw [cellsIn] at hlen
  match cs, hlen with
  | [c0, c1, c2, c3, c4], _ =>
    match xs, hxl with
    | [y0, y1, y2, y3, y4], _ =>
      have h0 := hf 0 _ rfl
      change DataW.trod enc Try.prog w base spare held m 9 (([c0, c1, c2, c3, c4].drop 0).take (Try.prog.cellsOf 9)) = _ at h0
      rw [cellsStr] at h0
      have h1 := hf 1 _ rfl
      change DataW.trod enc Try.prog w base spare held m 3 (([c0, c1, c2, c3, c4].drop 1).take (Try.prog.cellsOf 3)) = _ at h1
      rw [cellsInt] at h1
      have h2 := hf 2 _ rfl
      change DataW.trod enc Try.prog w base spare held m 3 (([c0, c1, c2, c3, c4].drop 2).take (Try.prog.cellsOf 3)) = _ at h2
      rw [cellsInt] at h2
      have h3 := hf 3 _ rfl
      change DataW.trod enc Try.prog w base spare held m 3 (([c0, c1, c2, c3, c4].drop 3).take (Try.prog.cellsOf 3)) = _ at h3
      rw [cellsInt] at h3
      have h4 := hf 4 _ rfl
      change DataW.trod enc Try.prog w base spare held m 3 (([c0, c1, c2, c3, c4].drop 4).take (Try.prog.cellsOf 3)) = _ at h4
      rw [cellsInt] at h4
      obtain ⟨s, e0, _, hs⟩ := DataW.trod_string Try.underlying9 h0
      obtain ⟨d, e1, _, _⟩ := DataW.trod_int Try.underlying3 h1
      obtain ⟨a, e2, _, _⟩ := DataW.trod_int Try.underlying3 h2
      obtain ⟨b, e3, _, _⟩ := DataW.trod_int Try.underlying3 h3
      obtain ⟨m, e4, _, _⟩ := DataW.trod_int Try.underlying3 h4
      have e0 : c0 = .string s := by simpa using e0
      have e1 : c1 = .int .i64 d := by simpa using e1
      have e2 : c2 = .int .i64 a := by simpa using e2
      have e3 : c3 = .int .i64 b := by simpa using e3
      have e4 : c4 = .int .i64 m := by simpa using e4
      exact ⟨⟨s, d, a, b, m⟩, by rw [e0, e1, e2, e3, e4]; rfl, hs⟩

theorem cell_lt_heap {w : World} {a : Addr} {v : Value} (h : w.cell? a = some v) : a.block < w.heap.size := by
  rcases Nat.lt_or_ge a.block w.heap.size with hlt | hge
  · exact hlt
  · unfold World.cell? at h; rw [Array.getElem?_eq_none hge] at h; simp at h

set_option maxRecDepth 100000 in
theorem x_of_trod {H : Type} {enc : TypeId × Value → H} {w : World} {r : Reach} {b0 : Nat} {spare : Nat → Bool} {held : Bool} {v : Value} {d : DataW H} {p : List MemPlace}
    (hv : Value.okWide Try.prog w r b0 67 v) (h : DataW.Trod enc Try.prog w 0 spare held 67 v d p) :
    ∃ x : In, v = .agg #[.string x.op, .int .i64 x.d, .int .i64 x.a, .int .i64 x.b, .int .i64 x.m] ∧ x.op.size ≤ 9223372036854775807 := by
  obtain ⟨cs, rfl, hsz⟩ := okWide_struct Try.underlying67 hv
  obtain ⟨fuel, hf⟩ := h
  obtain ⟨x, hx, hs⟩ := in_of_trod hf
  refine ⟨x, ?_, by unfold maxLen at hs; omega⟩
  obtain ⟨l⟩ := cs
  have hx' : l = x.enc := by simpa [Value.cells] using hx
  subst hx'; rfl

set_option maxRecDepth 100000 in
theorem ins_of_trod {H : Type} {enc : TypeId × Value → H} {w : World} {spare : Nat → Bool} {held : Bool} {A : Option Addr} {len cap : Nat} {d : DataW H} {p : List MemPlace}
    (h : DataW.Trod enc Try.prog w 0 spare held 22 (.slice A len cap) d p) :
    ∃ es : List In, es.length = len ∧ RS In.enc 5 w 0 w.heap.size A es ∧ (∀ n ∈ es, n.op.size ≤ 9223372036854775807) ∧ len ≤ 9223372036854775807 := by
  obtain ⟨fuel, hf⟩ := h
  rcases open_slice Try.underlying22 hf with ⟨hcs, _⟩ | ⟨a, l, c, m, n, D, Pl, hcs, _, hl, hm, hmm, _, hi⟩
  · simp [Value.cells] at hcs
    obtain ⟨rfl, rfl, rfl⟩ := hcs
    exact ⟨[], rfl, fun h => absurd h (by simp), (fun n hn => by cases hn), by omega⟩
  · simp [Value.cells] at hcs
    obtain ⟨rfl, rfl, rfl⟩ := hcs
    have hlm : len ≤ m := by rw [hmm]; split <;> omega
    have hex : ∀ i, i < len → ∃ nd : In, (∀ j v, nd.enc[j]? = some v → w.cell? (a.add (i * 5 + j)) = some v) ∧ nd.op.size ≤ maxLen := by
      intro i hil
      obtain ⟨cs', hc, ht⟩ := hi i (by omega)
      rw [cellsIn] at hc
      obtain ⟨nd, rfl, hs⟩ := in_of_trod ht
      obtain ⟨_, _, hat⟩ := World.cells?_some hc
      refine ⟨nd, fun j v hv => ?_, hs⟩
      have hj : j < 5 := kflat_lt In.hk hv
      have := hat j hj
      rw [add_add, hv] at this; exact this
    obtain ⟨f, hf2⟩ := Classical.axiomOfChoice (fun i : {i // i < len} => hex i.1 i.2)
    have hget : ∀ i (h : i < (List.ofFn fun i : Fin len => f ⟨i.1, i.2⟩).length), (List.ofFn fun i : Fin len => f ⟨i.1, i.2⟩)[i] = f ⟨i, by simpa using h⟩ := fun i h => by simp
    refine ⟨List.ofFn fun i : Fin len => f ⟨i.1, i.2⟩, by simp, ?_, ?_, by unfold maxLen at hm; omega⟩
    · intro hpos
      have hpos' : 0 < len := by simpa using hpos
      have h0 := (hf2 ⟨0, hpos'⟩).1 0 _ rfl
      obtain ⟨b, o, spot⟩ := a
      have hspot : spot = none := by have := World.cell?_spot h0; simpa [Addr.add] using this
      subst hspot
      have hadd : ∀ k, (⟨b, o, none⟩ : Addr).add k = ⟨b, o + k, none⟩ := fun k => by simp [Addr.add]
      refine ⟨b, o, rfl, ⟨Nat.zero_le _, ?_⟩, fun i hi j v hv => ?_⟩
      · rw [hadd] at h0
        exact cell_lt_heap h0
      · have hi' : i < len := by simpa using hi
        rw [hget i hi] at hv
        have := (hf2 ⟨i, hi'⟩).1 j v hv
        simp only [hadd, ← Nat.add_assoc] at this
        exact this
    · intro n hn
      obtain ⟨i, rfl⟩ := List.mem_ofFn.1 hn
      have := (hf2 ⟨i.1, i.2⟩).2
      unfold maxLen at this; omega

set_option maxRecDepth 100000 in
theorem ints_of_trod {H : Type} {enc : TypeId × Value → H} {w : World} {spare : Nat → Bool} {held : Bool} {A : Option Addr} {len cap : Nat} {d : DataW H} {p : List MemPlace}
    (h : DataW.Trod enc Try.prog w 0 spare held 23 (.slice A len cap) d p) :
    ∃ xs : List Int, xs.length = len ∧ IS w 0 w.heap.size A xs ∧ len ≤ 9223372036854775807 := by
  obtain ⟨fuel, hf⟩ := h
  rcases open_slice Try.underlying23 hf with ⟨hcs, _⟩ | ⟨a, l, c, m, n, D, Pl, hcs, _, hl, hm, hmm, _, hi⟩
  · simp [Value.cells] at hcs
    obtain ⟨rfl, rfl, rfl⟩ := hcs
    exact ⟨[], rfl, fun h => absurd h (by simp), by omega⟩
  · simp [Value.cells] at hcs
    obtain ⟨rfl, rfl, rfl⟩ := hcs
    have hlm : len ≤ m := by rw [hmm]; split <;> omega
    have hex : ∀ i, i < len → ∃ x : Int, w.cell? (a.add i) = some (.int .i64 x) := by
      intro i hil
      obtain ⟨cs', hc, ht⟩ := hi i (by omega)
      rw [cellsInt, Nat.mul_one] at hc
      obtain ⟨x, hx, _, _⟩ := DataW.trod_int Try.underlying3 ht
      obtain ⟨_, _, hat⟩ := World.cells?_some hc
      have := hat 0 (by omega)
      rw [add_add, hx] at this
      exact ⟨x, by simpa using this⟩
    obtain ⟨f, hf2⟩ := Classical.axiomOfChoice (fun i : {i // i < len} => hex i.1 i.2)
    have hget : ∀ i (h : i < (List.ofFn fun i : Fin len => f ⟨i.1, i.2⟩).length), (List.ofFn fun i : Fin len => f ⟨i.1, i.2⟩)[i] = f ⟨i, by simpa using h⟩ := fun i h => by simp
    refine ⟨List.ofFn fun i : Fin len => f ⟨i.1, i.2⟩, by simp, ?_, by unfold maxLen at hm; omega⟩
    intro hpos
    have hpos' : 0 < len := by simpa using hpos
    have h0 := hf2 ⟨0, hpos'⟩
    obtain ⟨b, o, spot⟩ := a
    have hspot : spot = none := by have := World.cell?_spot h0; simpa [Addr.add] using this
    subst hspot
    have hadd : ∀ k, (⟨b, o, none⟩ : Addr).add k = ⟨b, o + k, none⟩ := fun k => by simp [Addr.add]
    refine ⟨b, o, rfl, ⟨Nat.zero_le _, ?_⟩, fun i hi => ?_⟩
    · rw [hadd] at h0
      exact cell_lt_heap h0
    · have hi' : i < len := by simpa using hi
      rw [hget i hi]
      have := hf2 ⟨i, hi'⟩
      simp only [hadd] at this
      exact this
end Go.Proofs.Ytdleiondfhmjdaa

/- An argument of type []laws.Node opened as a list of nodes. -/
namespace Go.Proofs.Ytdleiondfhmjdaa
open Go.ChangeShapes Go.WideShapes Go.ChangeAt Go.RowKit Go.Deep
open Go.ChangeMaps (open_string shut_string)
set_option linter.unusedVariables false
set_option maxRecDepth 100000

theorem cellsNode : Try.prog.cellsOf 84 = 4 := by kernel_rfl

theorem node_of_trod {H : Type} {enc : TypeId × Value → H} {w : World} {base : Nat} {spare : Nat → Bool} {held : Bool} {n : Nat} {cs : List Value} {x : DataW H × List MemPlace}
    (h : DataW.trod enc Try.prog w base spare held n 84 cs = some x) : ∃ nd : Nd, cs = nd.cells ∧ nd.op.size ≤ maxLen := by
  obtain ⟨xs, m, _, _, hlen, hxl, hf⟩ := DataW.trod_struct Try.underlying84 h
  rw [cellsNode] at hlen
  match cs, hlen with
  | [c0, c1, c2, c3], _ =>
    match xs, hxl with
    | [y0, y1, y2, y3], _ =>
      have h0 := hf 0 _ rfl
      change DataW.trod enc Try.prog w base spare held m 9 (([c0, c1, c2, c3].drop 0).take (Try.prog.cellsOf 9)) = _ at h0
      rw [cellsStr] at h0
      have h1 := hf 1 _ rfl
      change DataW.trod enc Try.prog w base spare held m 3 (([c0, c1, c2, c3].drop 1).take (Try.prog.cellsOf 3)) = _ at h1
      rw [cellsInt] at h1
      have h2 := hf 2 _ rfl
      change DataW.trod enc Try.prog w base spare held m 3 (([c0, c1, c2, c3].drop 2).take (Try.prog.cellsOf 3)) = _ at h2
      rw [cellsInt] at h2
      have h3 := hf 3 _ rfl
      change DataW.trod enc Try.prog w base spare held m 3 (([c0, c1, c2, c3].drop 3).take (Try.prog.cellsOf 3)) = _ at h3
      rw [cellsInt] at h3
      obtain ⟨s, e0, _, hs⟩ := DataW.trod_string Try.underlying9 h0
      obtain ⟨a, e1, _, _⟩ := DataW.trod_int Try.underlying3 h1
      obtain ⟨b, e2, _, _⟩ := DataW.trod_int Try.underlying3 h2
      obtain ⟨v, e3, _, _⟩ := DataW.trod_int Try.underlying3 h3
      have e0 : c0 = .string s := by simpa using e0
      have e1 : c1 = .int .i64 a := by simpa using e1
      have e2 : c2 = .int .i64 b := by simpa using e2
      have e3 : c3 = .int .i64 v := by simpa using e3
      exact ⟨⟨s, a, b, v⟩, by rw [e0, e1, e2, e3]; rfl, hs⟩

theorem nodes_of_trod_ns {H : Type} {enc : TypeId × Value → H} {w : World} {spare : Nat → Bool} {held : Bool} {A : Option Addr} {len cap : Nat} {d : DataW H} {p : List MemPlace}
    (h : DataW.Trod enc Try.prog w 0 spare held 38 (.slice A len cap) d p) :
    ∃ es : List Nd, es.length = len ∧ NS w 0 w.heap.size A es ∧ (∀ n ∈ es, n.op.size ≤ 9223372036854775807) ∧ len ≤ 9223372036854775807 := by
  obtain ⟨fuel, hf⟩ := h
  rcases open_slice Try.underlying38 hf with ⟨hcs, _⟩ | ⟨a, l, c, m, n, D, Pl, hcs, _, hl, hm, hmm, _, hi⟩
  · simp [Value.cells] at hcs
    obtain ⟨rfl, rfl, rfl⟩ := hcs
    exact ⟨[], rfl, fun h => absurd h (by simp), (fun n hn => by cases hn), by omega⟩
  · simp [Value.cells] at hcs
    obtain ⟨rfl, rfl, rfl⟩ := hcs
    have hlm : len ≤ m := by rw [hmm]; split <;> omega
    have hex : ∀ i, i < len → ∃ nd : Nd, (w.cell? (a.add (i * 4)) = some (.string nd.op) ∧ w.cell? (a.add (i * 4 + 1)) = some (.int .i64 nd.a) ∧ w.cell? (a.add (i * 4 + 2)) = some (.int .i64 nd.b) ∧ w.cell? (a.add (i * 4 + 3)) = some (.int .i64 nd.v)) ∧ nd.op.size ≤ maxLen := by
      intro i hil
      obtain ⟨cs', hc, ht⟩ := hi i (by omega)
      rw [cellsNode] at hc
      obtain ⟨nd, rfl, hs⟩ := node_of_trod ht
      obtain ⟨_, _, hat⟩ := World.cells?_some hc
      refine ⟨nd, ⟨?_, ?_, ?_, ?_⟩, hs⟩
      · have := hat 0 (by omega); rw [add_add] at this; exact this
      · have := hat 1 (by omega); rw [add_add] at this; exact this
      · have := hat 2 (by omega); rw [add_add] at this; exact this
      · have := hat 3 (by omega); rw [add_add] at this; exact this
    obtain ⟨f, hf2⟩ := Classical.axiomOfChoice (fun i : {i // i < len} => hex i.1 i.2)
    have hget : ∀ i (h : i < (List.ofFn fun i : Fin len => f ⟨i.1, i.2⟩).length), (List.ofFn fun i : Fin len => f ⟨i.1, i.2⟩)[i] = f ⟨i, by simpa using h⟩ := fun i h => by simp
    refine ⟨List.ofFn fun i : Fin len => f ⟨i.1, i.2⟩, by simp, ?_, ?_, by unfold maxLen at hm; omega⟩
    · intro hpos
      have hpos' : 0 < len := by simpa using hpos
      have h0 := (hf2 ⟨0, hpos'⟩).1.1
      obtain ⟨b, o, spot⟩ := a
      have hspot : spot = none := by have := World.cell?_spot h0; simpa [Addr.add] using this
      subst hspot
      have hadd : ∀ k, (⟨b, o, none⟩ : Addr).add k = ⟨b, o + k, none⟩ := fun k => by simp [Addr.add]
      refine ⟨b, o, rfl, ⟨Nat.zero_le _, ?_⟩, fun i hi => ?_⟩
      · rw [hadd] at h0
        exact cell_lt_heap h0
      · have hi' : i < len := by simpa using hi
        rw [hget i hi]
        have := (hf2 ⟨i, hi'⟩).1
        simp only [hadd, ← Nat.add_assoc] at this
        exact this
    · intro n hn
      obtain ⟨i, rfl⟩ := List.mem_ofFn.1 hn
      have := (hf2 ⟨i.1, i.2⟩).2
      unfold maxLen at this; omega
theorem nodes_of_trod {H : Type} {enc : TypeId × Value → H} {w : World} {spare : Nat → Bool} {held : Bool} {A : Option Addr} {len cap : Nat} {d : DataW H} {p : List MemPlace}
    (h : DataW.Trod enc Try.prog w 0 spare held 38 (.slice A len cap) d p) :
    ∃ es : List Nd, es.length = len ∧ RS Nd.enc 4 w 0 w.heap.size A es ∧ (∀ n ∈ es, n.op.size ≤ 9223372036854775807) ∧ len ≤ 9223372036854775807 := by
  obtain ⟨es, h1, h2, h3⟩ := nodes_of_trod_ns h
  exact ⟨es, h1, h2.rs, h3⟩
end Go.Proofs.Ytdleiondfhmjdaa
