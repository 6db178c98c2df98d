import Derived.Test.YtieljgfocgdngaaRG
import Derived.Test.YtieljgfocgdngaaRF
import Derived.Test.YtieljgfocgdngaaFA
import Derived.WalkKit
import Derived.WalkSpells
import Derived.WalkLawsBesides
import Derived.Lib.Hide
/- The model's tree in the order of its walk. -/
namespace Go.Proofs.Ytieljgfocgdngaa
open Go.RowKit
set_option linter.unusedVariables false
set_option maxRecDepth 100000

theorem row_ne {w : World} {L1 L2 k1 k2 n1 n2 : Nat} {t1 t2 : TypeId} {v1 v2 : Value} {x1 x2 : List Value} (h1 : w.ownsRow L1 t1 k1 v1 n1 x1) (h2 : w.ownsRow L2 t2 k2 v2 n2 x2) (ht : t1 ≠ t2) : ∀ j, v1.ownBlock = some j → v2.ownBlock ≠ some j := by
  intro j e1 e2
  rcases h1.2 with ⟨rfl, _⟩ | ⟨g, cap, cur, rfl, _, hh, _⟩
  · simp [Value.ownBlock] at e1
  · rcases h2.2 with ⟨rfl, _⟩ | ⟨g', cap', cur', rfl, _, hh', _⟩
    · simp [Value.ownBlock] at e2
    · have a1 : g = j := by simpa [Value.ownBlock] using e1
      have a2 : g' = j := by simpa [Value.ownBlock] using e2
      subst a1; subst a2
      rw [hh] at hh'
      injection hh' with hh'
      injection hh' with _ h9
      exact ht h9
theorem OW.fr {w w' : World} {lo hi q : Nat} {r : Option Nat} {v : Value} {xs : List Int} (h : OW w lo hi v xs) (hf : Fr q r w w') (hne : ∀ j, v.ownBlock = some j → j ≠ q ∧ r ≠ some j) : OW w' lo hi v xs := by
  refine ⟨⟨h.1.1, ?_⟩, h.2⟩
  rcases h.1.2 with hn | ⟨g, cap, cur, rfl, hg, hh, hr⟩
  · exact .inl hn
  · have := hne g rfl
    exact .inr ⟨g, cap, cur, rfl, hg, (hf.block g (Array.getElem?_eq_some_iff.1 hh).1 this.1 this.2).trans hh, hr⟩
theorem Fr.thenBelow {q : Nat} {r : Option Nat} {a b c : World} (h : Fr q r a b) (k : Below a.heap.size b c) : Fr q r a c :=
  ⟨k.os.trans h.os, k.tape.trans h.tape, k.output.trans h.output, Nat.le_trans h.size k.size, fun j hj h1 h2 => (k.block j hj).trans (h.block j hj h1 h2)⟩

def cN (es : List Nd) (F : Nat) (n : Nd) (xs : List Nd) : Nat → List Nd
  | 0 => xs
  | j + 1 => cN es F n xs j ++ tr es F (cN es F n xs j).length ((parts n).getD j 0).toNat
def cI (es : List Nd) (F : Nat) (n : Nd) (xs : List Nd) : Nat → List Int
  | 0 => []
  | j + 1 => cI es F n xs j ++ [((cN es F n xs (j + 1)).length : Int) - 1]
theorem cI_len (es : List Nd) (F : Nat) (n : Nd) (xs : List Nd) : ∀ j, (cI es F n xs j).length = j := by
  intro j
  induction j with
  | zero => rfl
  | succ j ih => rw [cI, List.length_append, ih]; rfl
theorem cN_mono (es : List Nd) (F : Nat) (n : Nd) (xs : List Nd) (j d : Nat) : (cN es F n xs j).length ≤ (cN es F n xs (j + d)).length := by
  induction d with
  | zero => exact Nat.le_refl _
  | succ d ih => refine Nat.le_trans ih ?_; rw [← Nat.add_assoc, cN, List.length_append]; omega
theorem c_tr {es : List Nd} {F i : Nat} {n : Nd} (xs : List Nd) (hi : i < es.length) (he : es[i] = n) (hn : isNode n i = true) : cN es F n xs (parts n).length ++ [pnode n (cI es F n xs (parts n).length)] = xs ++ tr es (F + 1) xs.length i := by
  unfold tr; simp only []; rw [getD_nd hi, he]
  rcases ar_cases_nd hn with ⟨h1, h2, h3, -, -⟩ | ⟨h1, h2, h3, ha, ha', -⟩ | ⟨h1, h2, h3, ha, ha', hb, hb'⟩
  · rw [if_neg (by omega), if_neg (by omega), parts_ar.2.2 h2 h3]; simp [cN, cI, pnode]
  · rw [if_pos h1, parts_ar.1 h1 h2]; simp [cN, cI, pnode, parts_ar.1 h1 h2]
  · rw [if_neg (by omega), if_pos h1, parts_ar.2.1 h2 h3]; simp [cN, cI, pnode, parts_ar.2.1 h2 h3]; omega

theorem ruPut_any (q L Lp Bp : Nat) (xs : List Nd) (v : Value) (n : Nd) (PA : Option Addr) (pc : Nat) (ps : List Int) (w : World) (hps : ps.length ≤ 2) (hx : xs.length < 100000) (hL : L ≤ w.heap.size) (hBp : Bp ≤ w.heap.size) (hs : HS q L xs v w) (hp : IS w Lp Bp PA ps) :
    Calls Try.prog 145 #[.pointer (some ⟨q, 0, none⟩), .agg #[.string n.op, .int .i64 n.a, .int .i64 n.b, .int .i64 n.v], .slice PA ps.length pc] w fun e w' => e = .returned (.int .i64 xs.length) ∧ HP q L v w (xs ++ [pnode n ps]) w' := by
  match ps, hps, hp with
  | [], _, hp => exact ruPut0 q L Lp Bp xs v n PA pc w hx hL hBp hs hp
  | [a], _, hp => exact ruPut1 q L Lp Bp xs v n PA pc a w hx hL hBp hs hp
  | [a, b], _, hp => exact ruPut2 q L Lp Bp xs v n PA pc a b w hx hL hBp hs hp

set_option maxHeartbeats 1000000 in
theorem copied_any (L0 B q L C : Nat) (A : Option Addr) (c : Nat) (es : List Nd) (w0 : World) (hl : es.length ≤ 24) (hok : okFrom es 0 = true) (hes : NS w0 L0 B A es) (hBC : B ≤ C) (hC : C ≤ w0.heap.size) (hCq : C ≤ q) (hCL : C ≤ L) (hL : L ≤ w0.heap.size) :
    ∀ (F i : Nat) (xs : List Nd) (v : Value) (W : World), i < F → i < es.length → xs.length + (tr es F xs.length i).length ≤ 1000 → Below C w0 W → HS q L xs v W →
    Calls Try.prog 144 #[.pointer (some ⟨q, 0, none⟩), .slice A es.length c, .int .i64 i] W fun e w' => e = .returned (.int .i64 (((xs.length + (tr es F xs.length i).length : Nat) : Int) - 1)) ∧ HP q L v W (xs ++ tr es F xs.length i) w' := by
  intro F
  induction F with
  | zero => intro i xs v W hi; omega
  | succ F ih =>
    intro i xs v W hi hie hbd hb hs
    have hnd := ok_get hok hie
    obtain ⟨b, o, hA, ⟨_, hbB⟩, hcc⟩ := (hes.below hb hBC) (by omega)
    obtain ⟨c1, c2, c3, c4⟩ := hcc i hie
    subst hA
    have hbC : b < C := by omega
    have k0 : (0 : Int) ≤ (i : Int) := by omega
    have k1 : (i : Int) < (es.length : Int) := by omega
    have hbs := hb.size
    have hCT := c_tr (F := F) xs hie rfl hnd
    have hpl := parts_le es[i]
    have hpi := parts_in hnd
    have hcl := congrArg List.length hCT
    rw [List.length_append, List.length_append] at hcl
    simp only [List.length_cons, List.length_nil] at hcl
    have hmono := Lib.hid fun j (hj : j ≤ (parts es[i]).length) => (show (cN es F es[i] xs j).length ≤ 1000 by
      have := cN_mono es F es[i] xs j ((parts es[i]).length - j)
      rw [show j + ((parts es[i]).length - j) = (parts es[i]).length by omega] at this; omega)
    have hIH := Lib.hid fun (j : Nat) (hj : j < (parts es[i]).length) (v' : Value) (W' : World) (h' : Below C w0 W') (s' : HS q L (cN es F es[i] xs j) v' W') => (show Calls Try.prog 144 #[.pointer (some ⟨q, 0, none⟩), .slice (some ⟨b, o, none⟩) es.length c, .int .i64 ((parts es[i])[j])] W' fun e w' => e = .returned (.int .i64 (((cN es F es[i] xs (j + 1)).length : Int) - 1)) ∧ HP q L v' W' (cN es F es[i] xs (j + 1)) w' by
      have hp9 := hpi _ (List.getElem_mem hj)
      obtain ⟨p, hp⟩ := Int.eq_ofNat_of_zero_le hp9.1
      rw [hp] at hp9 ⊢
      have hgd : (parts es[i]).getD j 0 = (p : Int) := by rw [List.getD_eq_getElem?_getD, List.getElem?_eq_getElem hj, ← hp]; rfl
      have hsucc : cN es F es[i] xs (j + 1) = cN es F es[i] xs j ++ tr es F (cN es F es[i] xs j).length p := by rw [cN, hgd]; rfl
      have hp2 := hp9.2
      rw [Int.toNat_natCast] at hp2
      have hlen := hmono.out (j + 1) (by omega)
      rw [hsucc, List.length_append] at hlen
      rw [hsucc, List.length_append]
      exact ih p _ v' W' (by omega) (by omega) hlen h' s')
    have hcI := Lib.hid (cI_len es F es[i] xs)
    have hcS := Lib.hid fun j => (show cI es F es[i] xs (j + 1) = cI es F es[i] xs j ++ [((cN es F es[i] xs (j + 1)).length : Int) - 1] from rfl)
    have hN0 : cN es F es[i] xs 0 = xs := rfl
    have hI0 : cI es F es[i] xs 0 = [] := rfl
    have hRes : Hid (((xs.length + (tr es (F + 1) xs.length i).length : Nat) : Int) - 1 = ((cN es F es[i] xs (parts es[i]).length).length : Int)) := by unfold Hid; rw [← hcl]; omega
    rw [hRes.out, ← hCT]
    clear ih hcc hCT hcl hpi hbd
    have hcell := Lib.hid fun (W' : World) (h : Below C w0 W') => (show W'.cell? ⟨b, o + i * 4, none⟩ = some (.string es[i].op) ∧ W'.cell? ⟨b, o + i * 4 + 1, none⟩ = some (.int .i64 es[i].a) ∧ W'.cell? ⟨b, o + i * 4 + 2, none⟩ = some (.int .i64 es[i].b) ∧ W'.cell? ⟨b, o + i * 4 + 3, none⟩ = some (.int .i64 es[i].v) from
      ⟨(h.cell (p := ⟨b, _, none⟩) hbC).trans ((hb.cell (p := ⟨b, _, none⟩) hbC).symm.trans c1), (h.cell (p := ⟨b, _, none⟩) hbC).trans ((hb.cell (p := ⟨b, _, none⟩) hbC).symm.trans c2), (h.cell (p := ⟨b, _, none⟩) hbC).trans ((hb.cell (p := ⟨b, _, none⟩) hbC).symm.trans c3), (h.cell (p := ⟨b, _, none⟩) hbC).trans ((hb.cell (p := ⟨b, _, none⟩) hbC).symm.trans c4)⟩)
    have hPt := Lib.hid fun (W' : World) => exParts_any es[i].op es[i].a es[i].b es[i].v W'
    have hpe : parts ⟨es[i].op, es[i].a, es[i].b, es[i].v⟩ = parts es[i] := rfl
    have hPut := Lib.hid fun (ps : List Int) (ys : List Nd) (v' : Value) (PA : Option Addr) (pc Lp Bp : Nat) (W' : World) => ruPut_any q L Lp Bp ys v' es[i] PA pc ps W'
    obtain ⟨iI, hii0, hii1, hii2, hii3⟩ := info_parts Try.infoInt
    have hJ0 := Lib.hid hii0
    have hJ1 := Lib.hid hii1
    have hJ2 := Lib.hid hii2
    have hJ3 := Lib.hid hii3
    clear hii0 hii1 hii2 hii3
    generalize cN es F es[i] xs = NN at *
    generalize cI es F es[i] xs = II at *
    generalize hPS : parts es[i] = ps at *
    rw [hpe] at hPt
    clear hPS hpe
    generalize es[i] = nd at *
    obtain ⟨op, a, bb, x⟩ := nd
    dsimp only at *
    have HSs := Lib.hid hs
    have HB := Lib.hid hb
    have hq0 := hs.lt
    have hown0 := Lib.hid fun j hj => hs.own j hj
    go_enter Try.func144, Try.ntmps144
    go_wp2_with (fail)
    refine (hPt.out W).mono ?_
    rintro e w2 ⟨A2, cc2, rfl, hIS, hb2⟩
    have hI2 := Lib.hid hIS
    have s2 := Lib.hid (HSs.out.next hb2)
    have B2 := Lib.hid (HB.out.trans (hb2.mono (by omega)))
    have z2 := hb2.size
    have hbW := Lib.hid hb2
    clear hIS hb2 c1 c2 c3 c4
    go_wp2
    go_loopw [7, 16] (fun pv j wi => ∃ (k : Nat) (v1 : Value), k ≤ ps.length ∧ j = .int .i64 k ∧ OW wi w2.heap.size wi.heap.size pv (II k) ∧ HS q L (NN k) v1 wi ∧ Fr q v.ownBlock w2 wi ∧ (∀ u, v1.ownBlock = some u → v.ownBlock = some u ∨ w2.heap.size ≤ u)) (fun _ j _ => ps.length - (intOf j).toNat)
    case atStart =>
      refine ⟨0, v, Nat.zero_le _, rfl, ?_, ?_, Fr.refl _ _ _, fun u hu => .inl hu⟩
      · rw [hI0]; exact OW.nil _ _ _
      · rw [hN0]; exact s2.out
    case round =>
      obtain ⟨k, v1, hk, rfl, how, hst, hfr, hon⟩ := hrel
      obtain ⟨PA, pc, rfl, _⟩ := how.form
      have hOW := Lib.hid how
      have hS := Lib.hid hst
      have hF := Lib.hid hfr
      have hO := Lib.hid hon
      have hbl : Hid (Below C w0 wr) := by
        unfold Hid
        exact B2.out.trans (hfr.below (by omega) hCq (fun j hj => Nat.le_trans hCL (hown0.out j hj).1))
      have hzr := hfr.size
      clear how hst hfr hon
      by_cases hlt : k < ps.length
      · obtain ⟨b2, o2, rfl, ⟨hb2l, hb2B⟩, hpc⟩ := hI2.out (by omega)
        have hc0 := hpc k hlt
        have hcr : wr.cell? ⟨b2, o2 + k, none⟩ = some (.int .i64 ps[k]) := by
          refine Eq.trans (World.cell?_of_block (hF.out.block b2 (by omega) (by omega) (fun e => by have := (hown0.out _ e).2; omega))) hc0
        have i0 : (0 : Int) ≤ (k : Int) := by omega
        have i1 : (k : Int) < (ps.length : Int) := by omega
        have hCp := Lib.hid (hIH.out k hlt v1 wr hbl.out hS.out)
        have hIl := hcI.out k
        have hn1 := hmono.out (k + 1) (by omega)
        clear hpc hc0
        generalize ps[k] = pk at *
        go_wp2_with (fail)
        refine hCp.out.mono ?_
        rintro e w3 ⟨rfl, v3, s3, f3, o3⟩
        have S3 := Lib.hid s3
        have F3 := Lib.hid (hF.out.trans f3 (fun j hj => hO.out j hj))
        have O3 : Hid (∀ u, v3.ownBlock = some u → v.ownBlock = some u ∨ w2.heap.size ≤ u) := fun u hu => by
          rcases o3 u hu with e | e
          · exact hO.out u e
          · exact .inr (Nat.le_trans hzr e)
        have W3 : Hid (OW w3 w2.heap.size wr.heap.size (.slice PA (II k).length pc) (II k)) := by
          unfold Hid
          refine hOW.out.fr f3 fun j hj => ⟨?_, ?_⟩
          · have := (hOW.out.lo j hj).1; omega
          · exact row_ne hOW.out.1 hS.out.2.1 (by decide) j hj
        have z3 := f3.size
        clear s3 f3 o3 hcr
        have hal := fun u => (Below.refl w3.heap.size w3).alloc (Nat.le_refl _) u
        have hO4 := fun u => Lib.hid (show (w3.alloc u).ownsRow w2.heap.size 3 1 (.slice PA k pc) k ((II k).map (Value.int .i64)) from (by have h7 := (W3.out.below (hal u) z3).1; rw [hIl] at h7; exact h7))
        have hlo : Hid (∀ j, (Value.slice PA k pc).ownBlock = some j → w2.heap.size ≤ j ∧ j < wr.heap.size) := by have h7 := W3.out.lo; rw [hIl] at h7; exact h7
        have hrow : Hid (w3.ownsRow w2.heap.size 3 1 (.slice PA k pc) k ((II k).map (Value.int .i64))) := by have h7 := W3.out.1; rw [hIl] at h7; exact h7
        generalize hr : ((NN (k + 1)).length : Int) - 1 = rr at *
        have HR := Lib.hid hr
        clear hr
        have hz4 : w2.heap.size ≤ w3.heap.size := by omega
        go_wp2_with (at_builtin; refine wpList_append_own _ rfl _ _ 76 rfl w2.heap.size 3 iI (.int .i64 0) 1 8 Try.underlying76 hJ0.out hJ1.out hJ2.out hJ3.out rfl (by decide) (.slice PA k pc) k _ rfl (hO4 _).out ⟨w3.heap.size, 0, none⟩ 1 1 [.int .i64 rr] rfl rfl (new1 rfl) (one1 _) (by unfold maxLen; omega) (by omega) (by simp; omega) ?_; intro v' w5 hown5 hgr5 _)
        go_roundw
        case rel =>
          have hb5 : Below w2.heap.size w3 w5 := ((hal (.cells #[.int .i64 rr] 3)).mono hz4).grown hgr5 (by simp; omega) (fun u hu => (hlo.out u hu).1)
          refine ⟨k + 1, v3, by omega, by go_num, ?_, ?_, F3.out.thenBelow hb5, O3.out⟩
          · rw [hcS.out k, HR.out]; exact OW.push (by rw [hIl]; simpa using hown5)
          · refine S3.out.keep ?_ ?_
            · exact (hgr5.block q (by simp; have := S3.out.lt; omega) (fun e => by have := (hlo.out q e.symm).1; omega)).trans ((hal _).block q S3.out.lt)
            · intro j hj
              have hj3 := (S3.out.own j hj).2
              exact (hgr5.block j (by simp; omega) (fun e => row_ne hrow.out S3.out.2.1 (by decide) j e.symm hj)).trans ((hal _).block j hj3)
        case measure => simp [intOf]; omega
      · obtain rfl : k = ps.length := by omega
        have hIl := hcI.out ps.length
        have hn1 := hmono.out ps.length (Nat.le_refl _)
        have hPp := Lib.hid (hPut.out (II ps.length) (NN ps.length) v1 PA pc w2.heap.size wr.heap.size wr (by omega) (by omega) (by omega) (Nat.le_refl _) hS.out hOW.out.rs)
        rw [hIl] at hPp
        obtain ⟨c1, c2, c3, c4⟩ := hcell.out wr hbl.out
        go_wp2_with (fail)
        (with_reducible refine hPp.out.mono ?_)
        rintro e w6 ⟨rfl, h6⟩
        have H6 := Lib.hid (HP.trans ((Fr.ofBelow (q := q) (r := v.ownBlock) hbW.out).trans hF.out (fun j hj => .inl hj)) (fun j hj => by rcases hO.out j hj with e | e; exact .inl e; exact .inr (by omega)) h6)
        clear h6
        go_wp2
        go_ret
        exact ⟨rfl, H6.out⟩
end Go.Proofs.Ytieljgfocgdngaa
