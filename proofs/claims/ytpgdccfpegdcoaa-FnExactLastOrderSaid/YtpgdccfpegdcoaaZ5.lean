/- Texts of this proof, one behind the other: N9E, HB, HC, HD, HE, BR. -/
import Derived.Test.YtpgdccfpegdcoaaZ6
import Derived.Test.YtpgdccfpegdcoaaZ7
import Derived.Test.YtpgdccfpegdcoaaCY
import Derived.WalkKit
import Derived.WalkSpells
import Derived.WalkLawsBesides
import Derived.Deep.RegionLaw
import Derived.Deep.RegionHeld3
import Derived.Deep.DeepCutAuto
import Derived.Lib.Hide
import Derived.Test.YtpgdccfpegdcoaaLI
import Derived.Test.YtpgdccfpegdcoaaV
import Derived.Test.YtpgdccfpegdcoaaV2
import Derived.Test.YtpgdccfpegdcoaaV3
/- Chapter 9: delays, of the model. -/
namespace Go.Proofs.Ytpgdccfpegdcoaa
open Go.RowKit
set_option linter.unusedVariables false
set_option maxRecDepth 100000


def dL (qa qb : Bool) : Int := if qb = true then 1 else if qa = true then 0 else -1
theorem dl_eq {cs : List In} {i j : Nat} {x y : In} (hx : inAt cs i = x) (hy : inAt cs j = y) : dl cs i j = if (hasI (readsL y) x.d && !btw cs i j) = true then (fm x.op).c else dL (hasI (readsL x) y.d) (x.d == y.d) := by
  subst hx; subst hy; unfold dl dL; rfl
theorem dL_bd (qa qb : Bool) : -1 ≤ dL qa qb ∧ dL qa qb ≤ 1 := by cases qa <;> cases qb <;> simp [dL]
set_option maxHeartbeats 8000000 in
theorem orDelay_any (L B : Nat) (A : Option Addr) (c : Nat) (cs : List In) (i j : Nat) (w : World) (hl : cs.length ≤ 20) (hgood : ∀ x ∈ cs, goodIn x = true) (hes : RS In.enc 5 w L B A cs) (hB : B ≤ w.heap.size) (hij : i < j) (hj : j < cs.length) :
    Calls Try.prog 134 #[.slice A cs.length c, .int .i64 i, .int .i64 j] w fun e w' => e = .returned (.int .i64 (dl cs i j)) ∧ Below w.heap.size w w' := by
  have hi : i < cs.length := by omega
  have hE := Lib.hid fun (W' : World) (h : Below w.heap.size w W') => hes.below h hB
  obtain ⟨g9, o9, hA, ⟨_, hbB⟩, hcc⟩ := In.cells hes (by omega)
  obtain ⟨xa, xb, xc, xd, xe⟩ := hcc i hi
  obtain ⟨ya, yb, yc, yd, ye⟩ := hcc j hj
  subst hA
  have hbW : g9 < w.heap.size := by omega
  have i0 : (0 : Int) ≤ (i : Int) := by omega
  have i1 : (i : Int) < (cs.length : Int) := by omega
  have j0 : (0 : Int) ≤ (j : Int) := by omega
  have j1 : (j : Int) < (cs.length : Int) := by omega
  have hgx := hgood _ (List.getElem_mem hi)
  have hD := Lib.hid (dl_eq (cs := cs) (i := i) (j := j) (inAt_eq hi) (inAt_eq hj))
  have hSn := Lib.hid fun (k : Nat) (h1 : i < k) (h2 : k < cs.length) => btw_snoc (cs := cs) (i := i) h1 h2
  rw [inAt_eq hi] at hSn
  have hS0 := Lib.hid (btw_self cs i)
  have one := fun (k : Nat) (v : Value) (h : w.cell? ⟨g9, k, none⟩ = some v) u => (((Below.refl w.heap.size w).alloc (Nat.le_refl _) u).cell (p := ⟨g9, k, none⟩) hbW).trans h
  have two := fun (k : Nat) (v : Value) (h : w.cell? ⟨g9, k, none⟩ = some v) u u' => ((((Below.refl w.heap.size w).alloc (Nat.le_refl _) u).alloc (by simp) u').cell (p := ⟨g9, k, none⟩) hbW).trans h
  have oxa := one _ _ xa
  have txa := two _ _ xa
  have oxb := one _ _ xb
  have txb := two _ _ xb
  have oxc := one _ _ xc
  have txc := two _ _ xc
  have oxd := one _ _ xd
  have txd := two _ _ xd
  have oxe := one _ _ xe
  have txe := two _ _ xe
  have oya := one _ _ ya
  have tya := two _ _ ya
  have oyb := one _ _ yb
  have tyb := two _ _ yb
  have oyc := one _ _ yc
  have tyc := two _ _ yc
  have oyd := one _ _ yd
  have tyd := two _ _ yd
  have oye := one _ _ ye
  have tye := two _ _ ye
  clear one two
  have hfm := good_parts hgx
  have hc1 := Lib.hid (fm_c1 hfm.2.2.2.1)
  have hC := Lib.hid (fun W => cdCost_any cs[i].op W hfm.2.2.2.1)
  have hRx := Lib.hid (cdReads_any cs[i])
  have hRy := Lib.hid (cdReads_any cs[j])
  have hLx := Lib.hid (readsL_len cs[i])
  have hLy := Lib.hid (readsL_len cs[j])
  clear hcc hes hgood hgx hfm
  generalize dl cs i j = D at *
  generalize readsL cs[i] = Rx at *
  generalize readsL cs[j] = Ry at *
  generalize cs[i] = x at *
  generalize cs[j] = y at *
  obtain ⟨op, d, a, b, m⟩ := x
  obtain ⟨op', d', a', b', m'⟩ := y
  dsimp only at *
  have hHx := Lib.hid (fun L B A c W (h : IS W L B A Rx) => l1Has_eq L B A Rx.length c Rx d' W rfl (by have := hLx.out; omega) h)
  have hHy := Lib.hid (fun L B A c W (h : IS W L B A Ry) => l1Has_eq L B A Ry.length c Ry d W rfl (by have := hLy.out; omega) h)
  generalize hasI Rx d' = qa at *
  generalize hasI Ry d = qc at *
  generalize hqb : (d == d') = qb at *
  generalize (fm op).c = cost at *
  have hQb := Lib.hid hqb
  have hBo := Lib.hid hbW
  clear hqb hbW hbB
  go_enter Try.func134, Try.ntmps134
  go_upto_region 1 with fail
  go_cut [7, 8] (fun p q wx => ∃ gx gy, p = .pointer (some ⟨gx, 0, none⟩) ∧ q = .pointer (some ⟨gy, 0, none⟩) ∧ TwoX w gx gy ⟨op, d, a, b, m⟩ ⟨op', d', a', b', m'⟩ wx)
  case first =>
    go_region
    all_goals (go_wp2_with fail; go_meet; refine alt_ex ?_; first | exact .inl ⟨rfl, rfl, twoX_a _ _ _ _ _ _ _ _ _ _ _⟩ | exact .inr ⟨rfl, rfl, twoX_a _ _ _ _ _ _ _ _ _ _ _⟩)
  case rest =>
  clear xa oxa txa xb oxb txb xc oxc txc xd oxd txd xe oxe txe ya oya tya yb oyb tyb yc oyc tyc yd oyd tyd ye oye tye
  obtain ⟨gx, gy, rfl, rfl, hT⟩ := hcut
  have hT1 := Lib.hid (hT.next (Below.refl _ _).drew)
  obtain ⟨⟨xa, xb, xc, xd, xe⟩, ⟨ya, yb, yc, yd, ye⟩⟩ := hT.cells
  dsimp only at xa xb xc xd xe ya yb yc yd ye
  clear hT
  go_upto_region 3 with fail
  go_cut [24] (fun r wx => r = .bool qa ∧ TwoX w gx gy ⟨op, d, a, b, m⟩ ⟨op', d', a', b', m'⟩ wx)
  case first =>
    go_region_law (first
      | (go_simp; go_at_call 160; (with_reducible refine (hRx.out _).mono ?_); rintro e w2 ⟨A2, c2, rfl, ho2, hb2⟩; have hT2 := Lib.hid (hT1.out.next hb2); obtain ⟨⟨xa2, xb2, xc2, xd2, xe2⟩, ⟨ya2, yb2, yc2, yd2, ye2⟩⟩ := hT2.out.cells; dsimp only at xa2 xb2 xc2 xd2 xe2 ya2 yb2 yc2 yd2 ye2)
      | (go_simp; go_at_call 93; (with_reducible refine (hHx.out _ _ _ _ _ (by exact ho2.rs)).mono ?_); rintro e w' ⟨rfl, rfl⟩))
    all_goals (go_wp2_with fail; go_meet; exact ⟨rfl, hT2.out⟩)
  case rest =>
  clear xa xb xc xd xe ya yb yc yd ye hT1
  obtain ⟨rfl, hT⟩ := hcut
  have hTh := Lib.hid hT
  clear hT
  go_upto_if 24 with fail
  go_cut [9] (fun v wx => v = .int .i64 (if qa = true then 0 else -1) ∧ TwoX w gx gy ⟨op, d, a, b, m⟩ ⟨op', d', a', b', m'⟩ wx)
  case first =>
    cases qa
    all_goals (go_wp2_with fail; go_meet; exact ⟨rfl, hTh.out⟩)
  case rest =>
  obtain ⟨rfl, hT⟩ := hcut
  have hQ0 : Hid (dL qa qb = if qb = true then 1 else if qa = true then 0 else -1) := rfl
  have hD1 : Hid (dL qa qb ≤ 1) := (dL_bd qa qb).2
  generalize (if qa = true then (0 : Int) else -1) = v0 at *
  generalize dL qa qb = D1 at *
  obtain ⟨⟨xa, xb, xc, xd, xe⟩, ⟨ya, yb, yc, yd, ye⟩⟩ := hT.cells
  dsimp only at xa xb xc xd xe ya yb yc yd ye
  have hTh := Lib.hid hT
  clear hT
  go_upto_if 29 with fail
  go_cut [9] (fun v wx => v = .int .i64 D1 ∧ TwoX w gx gy ⟨op, d, a, b, m⟩ ⟨op', d', a', b', m'⟩ wx)
  case first =>
    rw [hQb.out]
    cases qb
    all_goals (go_wp2_with fail; go_meet; exact ⟨by rw [hQ0.out]; rfl, hTh.out⟩)
  case rest =>
  clear xa xb xc xd xe ya yb yc yd ye
  obtain ⟨rfl, hT⟩ := hcut
  have hT1 := Lib.hid (hT.next (Below.refl _ _).drew)
  obtain ⟨⟨xa, xb, xc, xd, xe⟩, ⟨ya, yb, yc, yd, ye⟩⟩ := hT.cells
  dsimp only at xa xb xc xd xe ya yb yc yd ye
  clear hT
  go_upto_region 7 with fail
  go_cut [34] (fun r wx => r = .bool qc ∧ TwoX w gx gy ⟨op, d, a, b, m⟩ ⟨op', d', a', b', m'⟩ wx)
  case first =>
    go_region_law (first
      | (go_simp; go_at_call 160; (with_reducible refine (hRy.out _).mono ?_); rintro e w2 ⟨A2, c2, rfl, ho2, hb2⟩; have hT2 := Lib.hid (hT1.out.next hb2); obtain ⟨⟨xa2, xb2, xc2, xd2, xe2⟩, ⟨ya2, yb2, yc2, yd2, ye2⟩⟩ := hT2.out.cells; dsimp only at xa2 xb2 xc2 xd2 xe2 ya2 yb2 yc2 yd2 ye2)
      | (go_simp; go_at_call 93; (with_reducible refine (hHy.out _ _ _ _ _ (by exact ho2.rs)).mono ?_); rintro e w' ⟨rfl, rfl⟩))
    all_goals (go_wp2_with fail; go_meet; exact ⟨rfl, hT2.out⟩)
  case rest =>
  clear xa xb xc xd xe ya yb yc yd ye hT1
  obtain ⟨rfl, hT⟩ := hcut
  have hTh := Lib.hid hT
  clear hT
  cases qc
  · have hD0 : Hid (D = D1) := hD.out
    clear hD
    go_wp2_with fail
    go_ret
    exact ⟨by rw [hD0.out]; rfl, hTh.out.be⟩
  have hD0 : Hid (D = if (!btw cs i j) = true then cost else D1) := by rw [Hid, hD.out, Bool.true_and]
  have hi2 : (i : Int) + 1 ≤ 20 := by omega
  clear hD hQ0 hQb hRx hRy hHx hHy hLx hLy
  go_wp2_with fail
  go_loopw [10, 11] (fun l k wr => ∃ (kk : Nat) (ll : Nat), i < kk ∧ kk ≤ j ∧ k = .int .i64 kk ∧ l = .int .i64 ll ∧ (ll == i) = (!btw cs i kk) ∧ i ≤ ll ∧ ll < kk ∧ TwoX w gx gy ⟨op, d, a, b, m⟩ ⟨op', d', a', b', m'⟩ wr) (fun _ k _ => j - (intOf k).toNat)
  case atStart => exact ⟨i + 1, i, Nat.lt_succ_self _, hij, by go_num, rfl, by rw [hS0.out]; simp, Nat.le_refl _, Nat.lt_succ_self _, hTh.out⟩
  case round =>
    obtain ⟨kk, ll, hk1, hk2, rfl, rfl, hbt, hl1, hl2, hT⟩ := hrel
    have hBt := Lib.hid hbt
    have hTr := Lib.hid hT
    obtain ⟨⟨xa, xb, xc, xd, xe⟩, ⟨ya, yb, yc, yd, ye⟩⟩ := hT.cells
    dsimp only at xa xb xc xd xe ya yb yc yd ye
    clear hbt hT
    by_cases hlt : kk < j
    · have hkl : kk < cs.length := by omega
      obtain ⟨g8, o8, e8, ⟨_, hbB⟩, hcc⟩ := In.cells (hE.out _ hTr.out.be) (by omega)
      injection e8 with e8
      injection e8 with e8 e9 _
      subst e8; subst e9
      obtain ⟨z0, z1, z2, z3, z4⟩ := hcc kk hkl
      have hSk := Lib.hid (hSn.out kk hk1 hkl)
      clear hcc
      generalize cs[kk] = z at *
      obtain ⟨zop, zd, za, zb, zm⟩ := z
      dsimp only at *
      have k0 : (0 : Int) ≤ (kk : Int) := by omega
      have k1 : (kk : Int) < (cs.length : Int) := by omega
      have k2 : (kk : Int) < (j : Int) := by omega
      by_cases hz : zd = d
      · have hz' : (zd == d) = true := by simpa using hz
        rw [hz', Bool.or_true] at hSk
        clear hz
        go_wp2_with fail
        go_region
        all_goals go_wp2
        all_goals go_roundw
        case rel => exact ⟨kk + 1, kk, by omega, by omega, by go_num, rfl, by rw [hSk.out]; simp; omega, by omega, by omega, hTr.out.next (Below.refl _ _).drew⟩
        case measure => simp [intOf]; omega
      · have hz' : (zd == d) = false := by simpa using hz
        rw [hz', Bool.or_false] at hSk
        clear hz
        go_wp2_with fail
        go_region
        all_goals go_wp2
        all_goals go_roundw
        case rel => exact ⟨kk + 1, ll, by omega, by omega, by go_num, rfl, by rw [hSk.out]; exact hBt.out, by omega, by omega, hTr.out.next (Below.refl _ _).drew⟩
        case measure => simp [intOf]; omega
    · obtain rfl : kk = j := by omega
      cases hb : btw cs i kk
      · rw [hb] at hBt hD0
        have hD2 : Hid (D = cost) := hD0.out
        have hM : Hid (max D1 cost = cost) := by have := hD1.out; have := hc1.out; unfold Hid; omega
        have hli : ll = i := by simpa using hBt.out
        subst hli
        have hlj : ¬ (kk : Int) < (kk : Int) := by omega
        clear hBt hb hD0
        go_wp2_with fail
        refine (hC.out _).mono ?_
        rintro e w1 ⟨rfl, rfl⟩
        go_wp2_with fail
        refine (l1Most_9 _ _ _).mono ?_
        rintro e w1 ⟨rfl, rfl⟩
        go_wp2
        go_ret
        exact ⟨by rw [hD2.out, hM.out]; rfl, hTr.out.be⟩
      · rw [hb] at hBt hD0
        have hD2 : Hid (D = D1) := hD0.out
        have hli : ((ll : Int) == (i : Int)) = false := by
          have h1 : (ll == i) = false := hBt.out
          simp at h1 ⊢
          omega
        clear hBt hb hD0
        go_wp2
        go_ret
        exact ⟨by rw [hD2.out]; rfl, hTr.out.be⟩

end Go.Proofs.Ytpgdccfpegdcoaa

/- Slices of slices of ints. -/
namespace Go.Proofs.Ytpgdccfpegdcoaa
open Go.RowKit
set_option linter.unusedVariables false

def encV (v : Value) : List Value := [v]
/-- A slice of slices of ints, read. -/
def XS (w : World) (L B : Nat) (A : Option Addr) (xss : List (List Int)) : Prop :=
  ∃ vs : List Value, vs.length = xss.length ∧ RS encV 1 w L B A vs ∧ ∀ i (h : i < vs.length) (h' : i < xss.length), ∃ Ai ci, vs[i] = .slice Ai (xss[i]).length ci ∧ IS w L B Ai xss[i]
theorem XS.below {w w' : World} {L B C : Nat} {A : Option Addr} {xss : List (List Int)} (h : XS w L B A xss) (hb : Below C w w') (hC : B ≤ C) : XS w' L B A xss := by
  obtain ⟨vs, hl, hr, hi⟩ := h
  exact ⟨vs, hl, hr.below hb hC, fun i h h' => by obtain ⟨Ai, ci, e, hx⟩ := hi i h h'; exact ⟨Ai, ci, e, hx.below hb hC⟩⟩
theorem XS.at {w : World} {L B : Nat} {A : Option Addr} {xss : List (List Int)} (h : XS w L B A xss) {i : Nat} (hi : i < xss.length) :
    ∃ b o Ai ci, A = some ⟨b, o, none⟩ ∧ b < B ∧ w.cell? ⟨b, o + i, none⟩ = some (.slice Ai (xss[i]).length ci) ∧ IS w L B Ai xss[i] := by
  obtain ⟨vs, hl, hr, hx⟩ := h
  obtain ⟨b, o, e, ⟨_, hb⟩, hc⟩ := hr (by omega)
  obtain ⟨Ai, ci, e2, hI⟩ := hx i (by omega) hi
  have h1 := hc i (by omega) 0 vs[i] rfl
  rw [e2] at h1
  exact ⟨b, o, Ai, ci, e, hb, by simpa using h1, hI⟩

set_option maxHeartbeats 4000000 in
theorem eqIntSS_any (L B L' B' : Nat) (A A' : Option Addr) (c c' : Nat) (xss : List (List Int)) (w : World) (hl : xss.length ≤ 1048576) (hls : ∀ xs ∈ xss, xs.length ≤ 1048576) (hx : XS w L B A xss) (hx' : XS w L' B' A' xss) (hB : B ≤ w.heap.size) (hB' : B' ≤ w.heap.size) :
    Calls Try.prog 27 #[.slice A xss.length c, .slice A' xss.length c'] w fun e w' => e = .returned (.bool true) ∧ Below w.heap.size w w' := by
  have hX := Lib.hid hx
  have hY := Lib.hid hx'
  have hL := Lib.hid hls
  clear hx hx' hls
  go_enter Try.func27, Try.ntmps27
  go_wp2
  go_loopw [5] (fun i wr => ∃ k : Nat, k ≤ xss.length ∧ i = .int .i64 k ∧ Below w.heap.size w wr) (fun i _ => xss.length - (intOf i).toNat)
  case atStart => exact ⟨0, Nat.zero_le _, rfl, Below.refl _ _⟩
  case round =>
    obtain ⟨k, hk, rfl, hbel⟩ := hrel
    have hBl := Lib.hid hbel
    by_cases hlt : k < xss.length
    · obtain ⟨b, o, Ai, ci, rfl, z1, c1, hI⟩ := (hX.out.below hbel hB).at hlt
      obtain ⟨b', o', Ai', ci', rfl, z2, d1, hI'⟩ := (hY.out.below hbel hB').at hlt
      have hE := Lib.hid fun (W : World) (hW : Below wr.heap.size wr W) => eqIntS_any L B L' B' Ai Ai' xss[k].length xss[k].length ci ci' xss[k] xss[k] W rfl rfl (hL.out _ (List.getElem_mem _)) (hI.below hW (Nat.le_trans hB hbel.size)) (hI'.below hW (Nat.le_trans hB' hbel.size)) (Nat.le_trans (Nat.le_trans hB hbel.size) hW.size) (Nat.le_trans (Nat.le_trans hB' hbel.size) hW.size) rfl
      have hBd := Lib.hid (Below.refl wr.heap.size wr).drew
      have hz1 : b < wr.heap.size := Nat.lt_of_lt_of_le z1 (Nat.le_trans hB hbel.size)
      have hz2 : b' < wr.heap.size := Nat.lt_of_lt_of_le z2 (Nat.le_trans hB' hbel.size)
      have hki : (k : Int) < (xss.length : Int) := by omega
      have hk0 : (0 : Int) ≤ (k : Int) := by omega
      have hjh := Lib.hid hlt
      clear hI hI' hbel
      generalize (xss[k]).length = m at *
      go_wp2_with (fail)
      go_region_held3 (fun w' => w'.cell? ⟨b, o + k, none⟩ = some (.slice Ai m ci) ∧ w'.cell? ⟨b', o' + k, none⟩ = some (.slice Ai' m ci')) (first | exact ⟨(hb2.cell hz1).trans c1, (hb2.cell hz2).trans d1⟩ | go_keep) ((go_at_call 36; refine (hE.out _ hBd.out).mono ?_; rintro e w2 ⟨rfl, hb2⟩; have hBi := Lib.hid ((hBl.out.trans (hBd.out.mono hBl.out.size)).trans (hb2.mono (Nat.le_trans hBl.out.size hBd.out.size)))))
      clear hb2
      go_wp2
      have := hjh.out
      exact ⟨⟨k + 1, hjh.out, by go_num, hBi.out⟩, by simp [intOf]; omega⟩
    · obtain rfl : k = xss.length := by omega
      go_wp2
      go_ret
      exact ⟨rfl, hBl.out⟩
end Go.Proofs.Ytpgdccfpegdcoaa

/- Slices of slices of ints: what the marks read. -/
namespace Go.Proofs.Ytpgdccfpegdcoaa
open Go.RowKit
set_option linter.unusedVariables false

def marksSS : Int → List Nat → List (List Int)
  | _, [] => []
  | k0, n :: ns => marks k0 n :: marksSS (k0 + n) ns
theorem marksSS_len : ∀ (k0 : Int) (ns : List Nat), (marksSS k0 ns).length = ns.length
  | _, [] => rfl
  | k0, n :: ns => by simp [marksSS, marksSS_len]
theorem marksSS_get : ∀ (k0 : Int) (ns : List Nat) (i : Nat) (h : i < (marksSS k0 ns).length) (h' : i < ns.length), (marksSS k0 ns)[i] = marks (k0 + ((ns.take i).sum : Nat)) ns[i]
  | _, [], i, h, h' => by simp at h'
  | k0, n :: ns, 0, h, h' => by simp [marksSS]
  | k0, n :: ns, i + 1, h, h' => by
    have := marksSS_get (k0 + n) ns i (by rw [marksSS_len]; simpa using h') (by simpa using h')
    simp only [marksSS, List.getElem_cons_succ, List.take_succ_cons, List.sum_cons]
    rw [this]; congr 1; omega
theorem sum_take_le : ∀ (ns : List Nat) (i : Nat), (ns.take i).sum ≤ ns.sum
  | [], i => by simp
  | n :: ns, 0 => by simp
  | n :: ns, i + 1 => by simp only [List.take_succ_cons, List.sum_cons]; have := sum_take_le ns i; omega
theorem sum_take_succ (ns : List Nat) {i : Nat} (h : i < ns.length) : (ns.take (i + 1)).sum = (ns.take i).sum + ns[i] := by
  rw [List.take_succ_eq_append_getElem h, List.sum_append]; simp
theorem marks_len (k0 : Int) (n : Nat) : (marks k0 n).length = n := by simp [marks]

set_option maxHeartbeats 4000000 in
theorem heldIntSS_any (L B : Nat) (A : Option Addr) (c : Nat) (ns : List Nat) (k0 : Int) (w : World) (hl : ns.length ≤ 1048576) (hs : ns.sum ≤ 1048576) (hk0 : 0 ≤ k0) (hk1 : k0 ≤ 1000000) (hx : XS w L B A (marksSS k0 ns)) :
    Calls Try.prog 32 #[.slice A ns.length c, .int .i64 k0] w fun e w' => e = .returned (.int .i64 (k0 + (ns.sum : Nat))) ∧ w = w' := by
  have hX := Lib.hid hx
  have hS := Lib.hid hs
  clear hx hs
  go_enter Try.func32, Try.ntmps32
  go_wp2
  go_loop [1, 5] (fun q i => ∃ k : Nat, k ≤ ns.length ∧ i = .int .i64 k ∧ q = .int .i64 (k0 + ((ns.take k).sum : Nat))) (fun _ i => ns.length - (intOf i).toNat)
  case atStart => exact ⟨0, Nat.zero_le _, rfl, by simp⟩
  case round =>
    obtain ⟨k, hk, rfl, rfl⟩ := hrel
    by_cases hlt : k < ns.length
    · obtain ⟨b, o, Ai, ci, rfl, z1, c1, hI⟩ := hX.out.at (by rw [marksSS_len]; exact hlt)
      rw [marksSS_get k0 ns k (by rw [marksSS_len]; exact hlt) hlt] at c1 hI
      rw [marks_len] at c1
      have h1 := sum_take_le ns k
      have h2 := sum_take_le ns (k + 1)
      have h3 := sum_take_succ ns hlt
      have h4 := hS.out
      have hE := Lib.hid (heldIntS_any L B Ai ns[k] ci (k0 + ((ns.take k).sum : Nat)) w (by omega) (by omega) (by omega) hI)
      have hsum := Lib.hid (show k0 + ((ns.take k).sum : Nat) + (ns[k] : Nat) = k0 + (((ns.take (k + 1)).sum : Nat) : Int) by rw [h3]; omega)
      have hge : (0 : Int) ≤ k0 + ((ns.take k).sum : Nat) + (ns[k] : Nat) := by omega
      have hki : (k : Int) < (ns.length : Int) := by omega
      have hjh := Lib.hid hlt
      clear hI h1 h2 h3 h4
      generalize ns[k] = m at *
      generalize k0 + ((ns.take k).sum : Nat) = s at *
      have hng : ¬ (s + (m : Int)) < 0 := by omega
      go_wp2_with (go_at_call 45; refine hE.out.mono ?_; rintro e w2 ⟨rfl, rfl⟩)
      have := hjh.out
      exact ⟨⟨k + 1, hjh.out, by go_num, by rw [hsum.out]⟩, by simp [intOf]; omega⟩
    · obtain rfl : k = ns.length := by omega
      rw [List.take_length]
      go_wp2
      go_ret
      exact ⟨rfl, rfl⟩
end Go.Proofs.Ytpgdccfpegdcoaa

/- Slices of slices of ints of the call's own: marked. -/
namespace Go.Proofs.Ytpgdccfpegdcoaa
open Go.RowKit
set_option linter.unusedVariables false

/-- A slice of slices of ints of the call's own: no two of its rows share a block, none lies in the outer slice's. -/
def OX (w : World) (lo hi : Nat) (v : Value) (xss : List (List Int)) : Prop :=
  ∃ vs : List Value, vs.length = xss.length ∧ OK encV 1 38 w lo hi v vs ∧ (∀ i (h : i < vs.length) (h' : i < xss.length), (∃ Ai ci, vs[i] = .slice Ai (xss[i]).length ci) ∧ OW w lo hi vs[i] xss[i]) ∧
    (∀ i j (h : i < vs.length) (h' : j < vs.length), i ≠ j → ∀ b, vs[i].ownBlock = some b → vs[j].ownBlock ≠ some b) ∧ (∀ b, v.ownBlock = some b → ∀ i (h : i < vs.length), vs[i].ownBlock ≠ some b)
theorem okv_rs {w : World} {lo hi n c : Nat} {A : Option Addr} {vs : List Value} (h : OK encV 1 38 w lo hi (.slice A n c) vs) : RS encV 1 w lo hi A vs := by
  obtain ⟨A', c', e, hr⟩ := OK.form (enc := encV) (k := 1) (fun _ => rfl) h
  injection e with e1 e2 e3
  subst e1
  exact hr
theorem OX.rs {w : World} {lo hi n c : Nat} {A : Option Addr} {xss : List (List Int)} (h : OX w lo hi (.slice A n c) xss) : XS w lo hi A xss := by
  obtain ⟨vs, hl, hr, hx, _⟩ := h
  refine ⟨vs, hl, okv_rs hr, fun i h h' => ?_⟩
  obtain ⟨⟨Ai, ci, e⟩, ho⟩ := hx i h h'
  rw [e] at ho
  exact ⟨Ai, ci, e, ho.rs⟩
theorem OW.turned {w w' : World} {lo hi : Nat} {v u : Value} {xs : List Int} (h : OW w lo hi v xs) (hg : w.grownBy w' u.ownBlock) (hne : ∀ b, u.ownBlock = some b → v.ownBlock ≠ some b) : OW w' lo hi v xs :=
  ⟨h.1.kept hg (by
    cases hv : v.ownBlock with
    | none => exact .inl rfl
    | some b => exact .inr (fun e => hne b e.symm (by rw [hv]))), h.2⟩
def markedX (xss : List (List Int)) (k0 : Int) (k i : Nat) : List Int := if i < k then marks (k0 + (((xss.map List.length).take i).sum : Nat)) (xss.getD i []).length else xss.getD i []
theorem markedX_other {xss : List (List Int)} {k0 : Int} {k i : Nat} (h : i ≠ k) : markedX xss k0 (k + 1) i = markedX xss k0 k i := by
  unfold markedX
  by_cases h1 : i < k
  · rw [if_pos (by omega), if_pos h1]
  · rw [if_neg (by omega), if_neg h1]
theorem markedX_at {xss : List (List Int)} {k0 : Int} {k : Nat} : markedX xss k0 (k + 1) k = marks (k0 + (((xss.map List.length).take k).sum : Nat)) (xss.getD k []).length := by unfold markedX; rw [if_pos (by omega)]
theorem markedX_self {xss : List (List Int)} {k0 : Int} {k : Nat} : markedX xss k0 k k = xss.getD k [] := by unfold markedX; rw [if_neg (by omega)]
theorem markedX_len {xss : List (List Int)} {k0 : Int} {k i : Nat} : (markedX xss k0 k i).length = (xss.getD i []).length := by unfold markedX; split <;> simp [marks]
theorem okv_kept {w w' : World} {lo hi : Nat} {v u : Value} {vs : List Value} (h : OK encV 1 38 w lo hi v vs) (hg : w.grownBy w' u.ownBlock) (hne : ∀ b, v.ownBlock = some b → u.ownBlock ≠ some b) : OK encV 1 38 w' lo hi v vs :=
  ⟨h.1.kept hg (by
    cases hv : v.ownBlock with
    | none => exact .inl rfl
    | some b => exact .inr (fun e => hne b hv e.symm)), h.2⟩
def MarkedX (w : World) (lo hi : Nat) (v : Value) (xss : List (List Int)) (k0 : Int) (e : Ending) (w' : World) : Prop :=
  e = .returned (.int .i64 (k0 + ((xss.map List.length).sum : Nat))) ∧ OX w' lo hi v (marksSS k0 (xss.map List.length)) ∧ Chg lo hi w w'

set_option maxHeartbeats 4000000 in
theorem markIntSS_any (lo hi : Nat) (A : Option Addr) (c : Nat) (xss : List (List Int)) (k0 : Int) (w : World) (hl : xss.length ≤ 1048576) (hs : (xss.map List.length).sum ≤ 1048576) (hk0 : 0 ≤ k0) (hk1 : k0 ≤ 1000000) (hx : OX w lo hi (.slice A xss.length c) xss) :
    Calls Try.prog 31 #[.slice A xss.length c, .int .i64 k0] w (MarkedX w lo hi (.slice A xss.length c) xss k0) := by
  obtain ⟨vs, hvl, hr, hx, hd, hA⟩ := hx
  have hDJ := Lib.hid hd
  have hAD := Lib.hid hA
  have hVL := Lib.hid hvl
  have hSM := Lib.hid hs
  have hR0 := Lib.hid hr
  have hX0 : Hid (∀ i (h : i < vs.length), (∃ Ai ci, vs[i] = .slice Ai (markedX xss k0 0 i).length ci) ∧ OW w lo hi vs[i] (markedX xss k0 0 i)) := fun i h => by
    have := hx i h (by omega)
    unfold markedX
    rw [if_neg (by omega), List.getD_eq_getElem?_getD, List.getElem?_eq_getElem (by omega)]
    exact this
  clear hd hA hvl hs hr hx
  go_enter Try.func31, Try.ntmps31
  go_wp2
  go_loopw [1, 5] (fun q i wr => ∃ k : Nat, k ≤ xss.length ∧ i = .int .i64 k ∧ q = .int .i64 (k0 + (((xss.map List.length).take k).sum : Nat)) ∧ OK encV 1 38 wr lo hi (.slice A xss.length c) vs ∧ (∀ i (h : i < vs.length), (∃ Ai ci, vs[i] = .slice Ai (markedX xss k0 k i).length ci) ∧ OW wr lo hi vs[i] (markedX xss k0 k i)) ∧ Chg lo hi w wr) (fun _ i _ => xss.length - (intOf i).toNat)
  case atStart => exact ⟨0, Nat.zero_le _, rfl, by simp, hR0.out, hX0.out, Chg.refl _ _ _⟩
  case round =>
    obtain ⟨k, hk, rfl, rfl, hr, hx, hch⟩ := hrel
    have hRJ := Lib.hid hr
    have hXJ := Lib.hid hx
    have hCJ := Lib.hid hch
    clear hX0 hR0
    by_cases hlt : k < xss.length
    · have hkv : k < vs.length := by rw [hVL.out]; exact hlt
      obtain ⟨⟨Ai, ci, ev⟩, ho⟩ := hx k hkv
      obtain ⟨b, o, rfl, ⟨_, hbB⟩, hc⟩ := (okv_rs hr) (by omega)
      have c1 := hc k hkv 0 vs[k] rfl
      have ho2 := ho
      rw [ev] at c1 ho
      rw [markedX_self] at c1 ho
      simp only [Nat.mul_one, Nat.add_zero] at c1
      have hlen : (xss.map List.length)[k]'(by simpa using hlt) = (xss.getD k []).length := by
        rw [List.getElem_map, List.getD_eq_getElem?_getD, List.getElem?_eq_getElem hlt]; rfl
      have h1 := sum_take_le (xss.map List.length) k
      have h2 := sum_take_le (xss.map List.length) (k + 1)
      have h3 := sum_take_succ (xss.map List.length) (i := k) (by simpa using hlt)
      rw [hlen] at h3
      have h4 := hSM.out
      have hM := Lib.hid (markIntS_any lo hi Ai ci (xss.getD k []) (k0 + (((xss.map List.length).take k).sum : Nat)) wr (by omega) (by omega) (by omega) ho)
      have hev : Hid ((Value.slice Ai (xss.getD k []).length ci) = vs[k]) := by unfold Hid; rw [ev, markedX_self]
      have hsum := Lib.hid (show k0 + (((xss.map List.length).take k).sum : Nat) + ((xss.getD k []).length : Nat) = k0 + ((((xss.map List.length).take (k + 1)).sum : Nat) : Int) by rw [h3]; omega)
      have hma := Lib.hid (markedX_at (xss := xss) (k0 := k0) (k := k))
      have hki : (k : Int) < (xss.length : Int) := by omega
      have hjh := Lib.hid hlt
      clear hc hr hx hch ho ho2 ev h1 h2 h3 h4 hlen
      generalize hxk : xss.getD k [] = xk at *
      have hxkh := Lib.hid hxk
      clear hxk
      generalize k0 + (((xss.map List.length).take k).sum : Nat) = s at *
      go_wp2_with (go_at_call 39; refine hM.out.mono ?_; rintro e w2 ⟨rfl, how, hgr⟩; have hO := Lib.hid how; have hG := Lib.hid hgr; clear how hgr)
      have := hjh.out
      have hg := hG.out
      have hO2 := hO.out
      rw [hev.out] at hg hO2
      refine ⟨⟨k + 1, hjh.out, by go_num, by rw [hsum.out], okv_kept hRJ.out hg (fun b' e => hAD.out b' e k hkv), fun i h => ?_, hCJ.out.trans (Chg.ofGrown hg (fun q e => (hXJ.out k hkv).2.lo q e))⟩, by simp [intOf]; omega⟩
      · by_cases e : i = k
        · subst e
          rw [hma.out]
          refine ⟨⟨Ai, ci, ?_⟩, hO2⟩
          rw [marks_len, hev.out]
        · rw [markedX_other e]
          exact ⟨(hXJ.out i h).1, OW.turned (hXJ.out i h).2 hg (fun b' e2 => hDJ.out k i hkv h (fun e3 => e e3.symm) b' e2)⟩
    · obtain rfl : k = xss.length := by omega
      have hsum := Lib.hid (show ((xss.map List.length).take xss.length).sum = (xss.map List.length).sum by rw [List.take_of_length_le (by simp)])
      rw [hsum.out]
      clear hr hx hch
      go_wp2
      go_ret
      refine ⟨rfl, ⟨vs, by rw [marksSS_len, List.length_map]; exact hVL.out, hRJ.out, fun i h h' => ?_, hDJ.out, hAD.out⟩, hCJ.out⟩
      have hi : i < xss.length := by rw [← hVL.out]; exact h
      rw [marksSS_get k0 _ i h' (by simpa using hi)]
      have := hXJ.out i h
      unfold markedX at this
      rw [if_pos hi, List.getD_eq_getElem?_getD, List.getElem?_eq_getElem hi] at this
      rw [List.getElem_map]
      exact this
end Go.Proofs.Ytpgdccfpegdcoaa

/- Slices of slices of ints, in the form that glawu.py's calls take. -/
namespace Go.Proofs.Ytpgdccfpegdcoaa
open Go.RowKit
set_option linter.unusedVariables false

def SmallX (xss : List (List Int)) : Prop := xss.length ≤ 1048576 ∧ (xss.map List.length).sum ≤ 1048576
theorem le_sum_of_mem {n : Nat} : ∀ {ns : List Nat}, n ∈ ns → n ≤ ns.sum
  | m :: ns, h => by
    rw [List.sum_cons]
    rcases List.mem_cons.1 h with rfl | h
    · omega
    · have := le_sum_of_mem h; omega
theorem SmallX.rows {xss : List (List Int)} (h : SmallX xss) : ∀ xs ∈ xss, xs.length ≤ 1048576 := fun xs hx => Nat.le_trans (le_sum_of_mem (List.mem_map.2 ⟨xs, hx, rfl⟩)) h.2
theorem OX.chg {w w' : World} {L B lo hi : Nat} {v : Value} {xss : List (List Int)} (h : OX w L B v xss) (hc : Chg lo hi w w') (hd : B ≤ lo ∨ hi ≤ L) : OX w' L B v xss := by
  obtain ⟨vs, hl, hr, hx, hD, hA⟩ := h
  exact ⟨vs, hl, hr.chg hc hd, fun i h h' => ⟨(hx i h h').1, (hx i h h').2.chg hc hd⟩, hD, hA⟩
theorem OX.more {w : World} {L B B' : Nat} {v : Value} {xss : List (List Int)} (h : OX w L B v xss) (hB : B ≤ B') : OX w L B' v xss := by
  obtain ⟨vs, hl, hr, hx, hD, hA⟩ := h
  exact ⟨vs, hl, hr.more hB, fun i h h' => ⟨(hx i h h').1, (hx i h h').2.more hB⟩, hD, hA⟩
theorem OX.nil (w : World) (L B : Nat) : OX w L B (.slice none 0 0) [] := ⟨[], rfl, OK.nil _ _ _ _, fun i h => absurd h (by simp), fun i j h => absurd h (by simp), fun _ _ i h => absurd h (by simp)⟩
theorem eqIntSS_k (L B L' B' : Nat) (A A' : Option Addr) (m m' c c' : Nat) (xss xss' : List (List Int)) (w : World) (hm : m = xss.length) (hm' : m' = xss'.length) (hl : SmallX xss) (hx : XS w L B A xss) (hx' : XS w L' B' A' xss') (hB : B ≤ w.heap.size) (hB' : B' ≤ w.heap.size) (heq : xss = xss') :
    Calls Try.prog 27 #[.slice A m c, .slice A' m' c'] w fun e w' => e = .returned (.bool true) ∧ Below w.heap.size w w' := by
  subst heq; subst hm; obtain rfl := hm'
  exact eqIntSS_any L B L' B' A A' c c' xss w hl.1 hl.rows hx hx' hB hB'
theorem marksSS_lens : ∀ (k0 : Int) (ns : List Nat), (marksSS k0 ns).map List.length = ns
  | _, [] => rfl
  | k0, n :: ns => by simp [marksSS, marksSS_lens, marks_len]
theorem heldIntSS_k (L B : Nat) (A : Option Addr) (c : Nat) (xss : List (List Int)) (n : Nat) (k0 : Int) (w : World) (hl : SmallX xss) (hn : n = xss.length) (hk0 : 0 ≤ k0) (hk1 : k0 ≤ 1000000) (hx : XS w L B A (marksSS k0 (xss.map List.length))) :
    Calls Try.prog 32 #[.slice A n c, .int .i64 k0] w fun e w' => e = .returned (.int .i64 (k0 + ((xss.map List.length).sum : Nat))) ∧ Below w.heap.size w w' := by
  subst hn
  have := heldIntSS_any L B A c (xss.map List.length) k0 w (by rw [List.length_map]; exact hl.1) hl.2 hk0 hk1 hx
  rw [List.length_map] at this
  exact this.mono fun e w' ⟨h1, h2⟩ => ⟨h1, by subst h2; exact Below.refl _ _⟩
theorem markIntSS_k (lo hi : Nat) (A : Option Addr) (c : Nat) (xss : List (List Int)) (k0 : Int) (w : World) (hl : SmallX xss) (hk0 : 0 ≤ k0) (hk1 : k0 ≤ 1000000) (hx : OX w lo hi (.slice A xss.length c) xss) :
    Calls Try.prog 31 #[.slice A xss.length c, .int .i64 k0] w (MarkedX w lo hi (.slice A xss.length c) xss k0) := markIntSS_any lo hi A c xss k0 w hl.1 hl.2 hk0 hk1 hx
end Go.Proofs.Ytpgdccfpegdcoaa

/- Slices of slices of ints of the call's own: made, laid ahead, laid behind, stored into. -/
namespace Go.Proofs.Ytpgdccfpegdcoaa
open Go.RowKit
set_option linter.unusedVariables false

theorem Try.infoII : (Try.prog.info? 38).map (fun i => (i.zero, i.size, i.bytes)) = some (some (.slice none 0 0), 1, 24) := by kernel_rfl
theorem rowNeX {w : World} {L1 L2 k1 k2 n1 n2 : Nat} {t1 t2 : TypeId} {v1 v2 : Value} {x1 x2 : List Value} (h1 : w.ownsRow L1 t1 k1 v1 n1 x1) (h2 : w.ownsRow L2 t2 k2 v2 n2 x2) (ht : t1 ≠ t2) : ∀ j, v1.ownBlock = some j → v2.ownBlock ≠ some j := by
  intro j e1 e2
  rcases h1.2 with ⟨rfl, _⟩ | ⟨g, cap, cur, rfl, _, hh, _⟩
  · simp [Value.ownBlock] at e1
  · rcases h2.2 with ⟨rfl, _⟩ | ⟨g', cap', cur', rfl, _, hh', _⟩
    · simp [Value.ownBlock] at e2
    · have a1 : g = j := by simpa [Value.ownBlock] using e1
      have a2 : g' = j := by simpa [Value.ownBlock] using e2
      subst a1; subst a2
      rw [hh] at hh'; injection hh' with hh'; injection hh' with _ h9
      exact ht h9
/-- The rows: each of the call's own, no two in one block. -/
structure RowsX (w : World) (lo hi : Nat) (vs : List Value) (xss : List (List Int)) : Prop where
  len : vs.length = xss.length
  row : ∀ i (h : i < vs.length) (h' : i < xss.length), (∃ Ai ci, vs[i] = .slice Ai (xss[i]).length ci) ∧ OW w lo hi vs[i] xss[i]
  apart : ∀ i j (h : i < vs.length) (h' : j < vs.length), i ≠ j → ∀ b, vs[i].ownBlock = some b → vs[j].ownBlock ≠ some b
theorem OX.of {w : World} {lo hi : Nat} {v : Value} {vs : List Value} {xss : List (List Int)} (hO : OK encV 1 38 w lo hi v vs) (h : RowsX w lo hi vs xss) : OX w lo hi v xss :=
  ⟨vs, h.len, hO, h.row, h.apart, fun b hb i hi' => rowNeX hO.1 (h.row i hi' (by rw [← h.len]; exact hi')).2.1 (by decide) b hb⟩
theorem OX.parts {w : World} {lo hi : Nat} {v : Value} {xss : List (List Int)} (h : OX w lo hi v xss) : ∃ vs, OK encV 1 38 w lo hi v vs ∧ RowsX w lo hi vs xss := by
  obtain ⟨vs, hl, hO, hr, hd, _⟩ := h
  exact ⟨vs, hO, hl, hr, hd⟩
theorem RowsX.mk1 {w : World} {lo hi : Nat} {v0 : Value} {xs : List Int} (h : OW w lo hi v0 xs) : RowsX w lo hi [v0] [xs] := by
  refine ⟨rfl, fun i h1 h2 => ?_, fun i j h1 h2 hne => ?_⟩
  · obtain rfl : i = 0 := by simpa using h1
    obtain ⟨A, c, e, _⟩ := h.form
    exact ⟨⟨A, c, e⟩, h⟩
  · simp at h1 h2; omega
theorem OW.fresh {w : World} {lo hi b : Nat} {v : Value} {xs : List Int} (h : OW w lo hi v xs) (e : v.ownBlock = some b) : lo ≤ b ∧ b < hi := h.lo b e
theorem RowsX.cons {w : World} {lo hi hi0 : Nat} {v0 : Value} {xs : List Int} {vs : List Value} {xss : List (List Int)} (h : RowsX w lo hi vs xss) (h0 : OW w hi hi0 v0 xs) (hle : hi ≤ hi0) (hlo : lo ≤ hi) : RowsX w lo hi0 (v0 :: vs) (xs :: xss) := by
  refine ⟨by simp [h.len], fun i h1 h2 => ?_, fun i j h1 h2 hne b hb => ?_⟩
  · cases i with
    | zero =>
      obtain ⟨A, c, e, _⟩ := h0.form
      exact ⟨⟨A, c, e⟩, h0.lower hlo⟩
    | succ i =>
      have hr := h.row i (by simpa using h1) (by simpa using h2)
      exact ⟨hr.1, hr.2.more hle⟩
  · cases i with
    | zero =>
      cases j with
      | zero => omega
      | succ j =>
        intro e
        have h3 : j < vs.length := by simpa using h2
        have := (h.row j h3 (by rw [← h.len]; exact h3)).2.fresh (by simpa using e)
        have := h0.fresh (by simpa using hb)
        omega
    | succ i =>
      have h3 : i < vs.length := by simpa using h1
      cases j with
      | zero =>
        intro e
        have := (h.row i h3 (by rw [← h.len]; exact h3)).2.fresh (by simpa using hb)
        have := h0.fresh (by simpa using e)
        omega
      | succ j => exact h.apart i j h3 (by simpa using h2) (by omega) b (by simpa using hb)
theorem RowsX.set {w : World} {lo hi hi0 : Nat} {v0 : Value} {xs : List Int} {vs : List Value} {xss : List (List Int)} (h : RowsX w lo hi vs xss) (k : Nat) (h0 : OW w hi hi0 v0 xs) (hle : hi ≤ hi0) (hlo : lo ≤ hi) : RowsX w lo hi0 (vs.set k v0) (xss.set k xs) := by
  refine ⟨by simp [h.len], fun i h1 h2 => ?_, fun i j h1 h2 hne b hb => ?_⟩
  · rw [List.length_set] at h1 h2
    rw [List.getElem_set, List.getElem_set]
    by_cases e : k = i
    · rw [if_pos e, if_pos e]
      obtain ⟨A, c, e2, _⟩ := h0.form
      exact ⟨⟨A, c, e2⟩, h0.lower hlo⟩
    · rw [if_neg e, if_neg e]
      have hr := h.row i h1 h2
      exact ⟨hr.1, hr.2.more hle⟩
  · rw [List.length_set] at h1 h2
    rw [List.getElem_set] at hb ⊢
    by_cases e1 : k = i
    · rw [if_pos e1] at hb
      rw [if_neg (by omega)]
      intro e
      have := (h.row j h2 (by rw [← h.len]; exact h2)).2.fresh e
      have := h0.fresh hb
      omega
    · rw [if_neg e1] at hb
      by_cases e2 : k = j
      · rw [if_pos e2]
        intro e
        have := (h.row i h1 (by rw [← h.len]; exact h1)).2.fresh hb
        have := h0.fresh e
        omega
      · rw [if_neg e2]; exact h.apart i j h1 h2 hne b hb
theorem RowsX.snoc {w : World} {lo hi hi0 : Nat} {v0 : Value} {xs : List Int} {vs : List Value} {xss : List (List Int)} (h : RowsX w lo hi vs xss) (h0 : OW w hi hi0 v0 xs) (hle : hi ≤ hi0) (hlo : lo ≤ hi) : RowsX w lo hi0 (vs ++ [v0]) (xss ++ [xs]) := by
  have hl := h.len
  refine ⟨by simp [h.len], fun i h1 h2 => ?_, fun i j h1 h2 hne b hb => ?_⟩
  · by_cases e : i < vs.length
    · rw [List.getElem_append_left e, List.getElem_append_left (by omega)]
      have hr := h.row i e (by omega)
      exact ⟨hr.1, hr.2.more hle⟩
    · have e2 : i = vs.length := by simp at h1; omega
      subst e2
      rw [List.getElem_append_right (Nat.le_refl _), List.getElem_append_right (by omega)]
      obtain ⟨A, c, e2, _⟩ := h0.form
      simp only [hl, Nat.sub_self, List.getElem_cons_zero]
      exact ⟨⟨A, c, e2⟩, h0.lower hlo⟩
  · by_cases e1 : i < vs.length
    · rw [List.getElem_append_left e1] at hb
      by_cases e2 : j < vs.length
      · rw [List.getElem_append_left e2]; exact h.apart i j e1 e2 hne b hb
      · have e3 : j = vs.length := by simp at h2; omega
        subst e3
        rw [List.getElem_append_right (Nat.le_refl _)]
        simp only [Nat.sub_self, List.getElem_cons_zero]
        intro e
        have := (h.row i e1 (by omega)).2.fresh hb
        have := h0.fresh e
        omega
    · have e3 : i = vs.length := by simp at h1; omega
      subst e3
      rw [List.getElem_append_right (Nat.le_refl _)] at hb
      simp only [Nat.sub_self, List.getElem_cons_zero] at hb
      have e2 : j < vs.length := by simp at h2; omega
      rw [List.getElem_append_left e2]
      intro e
      have := (h.row j e2 (by omega)).2.fresh e
      have := h0.fresh hb
      omega
theorem RowsX.more {w : World} {lo hi hi' : Nat} {vs : List Value} {xss : List (List Int)} (h : RowsX w lo hi vs xss) (hh : hi ≤ hi') : RowsX w lo hi' vs xss :=
  ⟨h.len, fun i h1 h2 => ⟨(h.row i h1 h2).1, (h.row i h1 h2).2.more hh⟩, h.apart⟩
theorem RowsX.chg {w w' : World} {L B lo hi : Nat} {vs : List Value} {xss : List (List Int)} (h : RowsX w L B vs xss) (hc : Chg lo hi w w') (hd : B ≤ lo ∨ hi ≤ L) : RowsX w' L B vs xss :=
  ⟨h.len, fun i h1 h2 => ⟨(h.row i h1 h2).1, (h.row i h1 h2).2.chg hc hd⟩, h.apart⟩
/-- A slice of another type grows. -/
theorem RowsX.grown {w w' : World} {lo hi L n : Nat} {u : Value} {xs : List Value} {vs : List Value} {xss : List (List Int)} (h : RowsX w lo hi vs xss) (hu : w.ownsRow L 38 1 u n xs) (hg : w.grownBy w' u.ownBlock) : RowsX w' lo hi vs xss :=
  ⟨h.len, fun i h1 h2 => ⟨(h.row i h1 h2).1, (h.row i h1 h2).2.turned hg (fun b hb => rowNeX hu (h.row i h1 h2).2.1 (by decide) b hb)⟩, h.apart⟩
/-- A block of another type is stored into. -/
theorem RowsX.stored {w : World} {lo hi g k : Nat} {t : TypeId} {cur : List Value} {u : Value} {vs : List Value} {xss : List (List Int)} (h : RowsX w lo hi vs xss) (hb : CB t w g cur) (ht : t ≠ 3) : RowsX (w.setCell ⟨g, k, none⟩ u) lo hi vs xss :=
  ⟨h.len, fun i h1 h2 => ⟨(h.row i h1 h2).1, by
    have hO := (h.row i h1 h2).2
    refine ⟨hO.1.kept (row := some g) ⟨rfl, rfl, rfl, Nat.le_of_eq (World.size_setCell _ _ _).symm, fun k _ hk => Below.heap_setCell _ _ _ k (fun e => hk (by rw [e]))⟩ ?_, hO.2⟩
    rcases hV : vs[i].ownBlock with _ | j
    · exact .inl rfl
    · refine .inr (fun e => ?_)
      injection e with e; subst e
      rcases hO.1.2 with ⟨h0, _⟩ | ⟨g', cap, cur', h0, _, hh, _⟩
      · rw [h0] at hV; simp [Value.ownBlock] at hV
      · rw [h0] at hV
        have e1 : g' = j := by simpa [Value.ownBlock] using hV
        subst e1
        unfold CB at hb
        rw [hb] at hh; injection hh with hh; injection hh with _ h9
        exact ht h9⟩, h.apart⟩
theorem flat_encV (vs : List Value) : vs.flatMap encV = vs := by induction vs with | nil => rfl | cons v vs ih => rw [List.flatMap_cons, ih]; rfl
theorem encV_one (v : Value) : (encV v).length = 1 := rfl
theorem okv_of {w : World} {lo n : Nat} {v : Value} {vs : List Value} (h : w.ownsRow lo 38 1 v n vs) (hn : n = vs.length) : OK encV 1 38 w lo w.heap.size v vs := by
  subst hn; exact ⟨by rw [flat_encV]; exact h, fun j hj => (h.lt j hj).2⟩
theorem okv_row {w : World} {lo hi : Nat} {v : Value} {vs : List Value} (h : OK encV 1 38 w lo hi v vs) : w.ownsRow lo 38 1 v vs.length vs := by
  have := h.1; rwa [flat_encV] at this
theorem rows_one {w : World} {lo hi : Nat} {vs : List Value} {xss : List (List Int)} (h : RowsX w lo hi vs xss) : ∀ u ∈ vs, u.oneCell' = true := by
  intro u hu
  obtain ⟨i, hi', e⟩ := List.mem_iff_getElem.1 hu
  obtain ⟨⟨A, c, e2⟩, _⟩ := h.row i hi' (by rw [← h.len]; exact hi')
  rw [← e, e2]; rfl
/-- One slice in a block. -/
theorem okv_one {w : World} {lo hi g : Nat} {v0 : Value} (h : CB 38 w g [v0]) (hlo : lo ≤ g) (hhi : g < hi) : OK encV 1 38 w lo hi (.slice (some ⟨g, 0, none⟩) 1 1) [v0] :=
  OK.close (enc := encV) (k := 1) (rest := []) encV_one (by simpa [encV] using h) hlo hhi (Nat.le_refl _) (by unfold maxLen; omega) rfl
theorem OX.below {w w' : World} {L B C : Nat} {v : Value} {xss : List (List Int)} (h : OX w L B v xss) (hb : Below C w w') (hC : B ≤ C) : OX w' L B v xss := by
  obtain ⟨vs, hO, hR⟩ := h.parts
  exact OX.of (hO.below hb hC) ⟨hR.len, fun i h1 h2 => ⟨(hR.row i h1 h2).1, (hR.row i h1 h2).2.below hb hC⟩, hR.apart⟩
theorem OX.form {w : World} {L B : Nat} {v : Value} {xss : List (List Int)} (h : OX w L B v xss) : ∃ A c, v = .slice A xss.length c := by
  obtain ⟨vs, hO, hR⟩ := h.parts
  obtain ⟨A, c, e, _⟩ := OK.form (enc := encV) (k := 1) encV_one hO
  exact ⟨A, c, by rw [e, hR.len]⟩
/-- 'append([][]int{v0}, rows...)'. -/
theorem consX {wr w3 : World} {lo b o n c5 : Nat} {v3 : Value} {xs : List Int} {xss : List (List Int)} (hX : OX wr lo wr.heap.size (.slice (some ⟨b, o, none⟩) n c5) xss) (hlo : lo ≤ wr.heap.size) (hw : Below wr.heap.size wr w3) (h3 : OW w3 wr.heap.size w3.heap.size v3 xs) (h0 : 0 < xss.length) :
    ∃ vs, vs.length = n ∧ (w3.alloc (.cells #[v3] 38)).ownsRow lo 38 1 (.slice (some ⟨w3.heap.size, 0, none⟩) 1 1) 1 [v3] ∧
      (∀ j u, vs[j]? = some u → (w3.alloc (.cells #[v3] 38)).cell? ((⟨b, o, none⟩ : Addr).add j) = some u) ∧ (∀ u ∈ vs, u.oneCell' = true) ∧
      (∀ g' cap w5, w5.ownsRow lo 38 1 (.slice (some ⟨g', 0, none⟩) (1 + n) cap) (1 + n) ([v3] ++ vs) → (w3.alloc (.cells #[v3] 38)).grownBy w5 (Value.slice (some ⟨w3.heap.size, 0, none⟩) 1 1).ownBlock →
        OX w5 lo w5.heap.size (.slice (some ⟨g', 0, none⟩) (1 + n) cap) (xs :: xss)) := by
  obtain ⟨vs, hO, hR⟩ := hX.parts
  have hvn : vs.length = n := by
    obtain ⟨A, c, e, _⟩ := OK.form (enc := encV) (k := 1) encV_one hO
    injection e with _ e2 _; exact e2.symm
  have A4 := (Below.refl w3.heap.size w3).alloc (Nat.le_refl _) (.cells #[v3] 38)
  have hcb : CB 38 (w3.alloc (.cells #[v3] 38)) w3.heap.size [v3] := heap_alloc_new w3 _
  have hz3 := hw.size
  have hz4 : (w3.alloc (.cells #[v3] 38)).heap.size = w3.heap.size + 1 := World.size_alloc _ _
  have hlit := okv_one (lo := lo) (hi := w3.heap.size + 1) hcb (by omega) (Nat.lt_succ_self _)
  have hO4 : OK encV 1 38 (w3.alloc (.cells #[v3] 38)) lo wr.heap.size (.slice (some ⟨b, o, none⟩) n c5) vs := (hO.below hw (Nat.le_refl _)).below A4 hz3
  have hR4 : RowsX (w3.alloc (.cells #[v3] 38)) lo wr.heap.size vs xss := ⟨hR.len, fun i h1 h2 => ⟨(hR.row i h1 h2).1, ((hR.row i h1 h2).2.below hw (Nat.le_refl _)).below A4 hz3⟩, hR.apart⟩
  have h34 : OW (w3.alloc (.cells #[v3] 38)) wr.heap.size w3.heap.size v3 xs := h3.below A4 (Nat.le_refl _)
  have hC := hR4.cons h34 hz3 hlo
  refine ⟨vs, hvn, okv_row hlit, fun j u hu => ?_, rows_one hR4, fun g' cap w5 hown hgr => ?_⟩
  · obtain ⟨a, e, h⟩ := (okv_rs hO4).news encV_one (by rw [hR.len]; exact h0)
    injection e with e; subst e
    exact h j u (by rw [flat_encV]; exact hu)
  · have hRf := (hC.more (Nat.le_succ_of_le (Nat.le_refl w3.heap.size))).grown (okv_row hlit) hgr
    have hsz := hgr.size
    exact OX.of (okv_of (by simpa using hown) (by simp [hvn]; omega)) (hRf.more (by omega))
/-- 'append(rows, v0)'. -/
theorem snocX {wr w3 : World} {lo n c5 : Nat} {A : Option Addr} {v3 : Value} {xs : List Int} {xss : List (List Int)} (hX : OX wr lo wr.heap.size (.slice A n c5) xss) (hlo : lo ≤ wr.heap.size) (hw : Below wr.heap.size wr w3) (h3 : OW w3 wr.heap.size w3.heap.size v3 xs) :
    ∃ vs, vs.length = n ∧ (w3.alloc (.cells #[v3] 38)).ownsRow lo 38 1 (.slice A n c5) n vs ∧
      (∀ j u, [v3][j]? = some u → (w3.alloc (.cells #[v3] 38)).cell? ((⟨w3.heap.size, 0, none⟩ : Addr).add j) = some u) ∧ (∀ u ∈ [v3], u.oneCell' = true) ∧
      (∀ g' cap w5, w5.ownsRow lo 38 1 (.slice (some ⟨g', 0, none⟩) (n + 1) cap) (n + 1) (vs ++ [v3]) → (w3.alloc (.cells #[v3] 38)).grownBy w5 (Value.slice A n c5).ownBlock →
        OX w5 lo w5.heap.size (.slice (some ⟨g', 0, none⟩) (n + 1) cap) (xss ++ [xs])) ∧
      (∀ b, (Value.slice A n c5).ownBlock = some b → lo ≤ b) := by
  obtain ⟨vs, hO, hR⟩ := hX.parts
  have hvn : vs.length = n := by
    obtain ⟨A, c, e, _⟩ := OK.form (enc := encV) (k := 1) encV_one hO
    injection e with _ e2 _; exact e2.symm
  have A4 := (Below.refl w3.heap.size w3).alloc (Nat.le_refl _) (.cells #[v3] 38)
  have hcb : CB 38 (w3.alloc (.cells #[v3] 38)) w3.heap.size [v3] := heap_alloc_new w3 _
  have hz3 := hw.size
  have hz4 : (w3.alloc (.cells #[v3] 38)).heap.size = w3.heap.size + 1 := World.size_alloc _ _
  have hO4 : OK encV 1 38 (w3.alloc (.cells #[v3] 38)) lo wr.heap.size (.slice A n c5) vs := (hO.below hw (Nat.le_refl _)).below A4 hz3
  have hR4 : RowsX (w3.alloc (.cells #[v3] 38)) lo wr.heap.size vs xss := ⟨hR.len, fun i h1 h2 => ⟨(hR.row i h1 h2).1, ((hR.row i h1 h2).2.below hw (Nat.le_refl _)).below A4 hz3⟩, hR.apart⟩
  have h34 : OW (w3.alloc (.cells #[v3] 38)) wr.heap.size w3.heap.size v3 xs := h3.below A4 (Nat.le_refl _)
  have hC := hR4.snoc h34 hz3 hlo
  obtain ⟨A3, c3, e3, _⟩ := h3.form
  refine ⟨vs, hvn, by have := okv_row hO4; rwa [hvn] at this, fun j u hu => ?_, fun u hu => by simp at hu; rw [hu, e3]; rfl, fun g' cap w5 hown hgr => ?_, fun b hb => (hO.lo b hb).1⟩
  · rw [addr_add, hcb.cell]; exact hu
  · have hRf := (hC.more (Nat.le_succ_of_le (Nat.le_refl w3.heap.size))).grown (okv_row hO4) hgr
    have hsz := hgr.size
    exact OX.of (okv_of hown (by simp [hvn])) (hRf.more (by omega))
end Go.Proofs.Ytpgdccfpegdcoaa
