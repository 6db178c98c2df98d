/- Texts of this proof, one behind the other: EH5, EH6, EK, Q, EL, EM. -/
import Derived.Test.YtgcbfiamhpfkhaaZ13
import Derived.WalkKit
import Derived.WalkSpells
import Derived.WalkLawsBesides
import Derived.BigQuiet
import Derived.Lib.Hide
import Derived.Test.YtgcbfiamhpfkhaaZ12
import Derived.Test.YtgcbfiamhpfkhaaJ
import Derived.Test.YtgcbfiamhpfkhaaLI
/- tileAt of the program, one of its paths. -/
namespace Go.Proofs.Ytgcbfiamhpfkhaa
open Go.RowKit
set_option linter.unusedVariables false

set_option maxHeartbeats 8000000 in
theorem tileAt_p5 (L LE BE : Nat) (f : Fo) (hf : f ∈ fos) (r : Rf) (A : Option Addr) (c : Nat) (es : List Nd) (k : Nat) (hk : k < es.length) (w : World) (hr : RfOk L f r w) (hes : NS w LE BE A es) (hB : BE ≤ w.heap.size) (hl : es.length ≤ 24) (hok : okFrom es 0 = true)
    (hh : hasS f.ops es[k].op = true) (hfst : f.fst = false) (hnb0 : noBtw f = false) (heq : ((nodeAt es (fTaken f es[k])).op.toList == f.btw.toList) = false) :
    Calls Try.prog 118 #[.agg #[.int .i64 r.num, r.o, .string r.btw, .bool r.fst, r.q], .slice A es.length c, .int .i64 (k : Int)] w (TileRes w (foOk es f es[k]) (foTi es f es[k])) := by
  obtain ⟨num, o, btw, fst, q⟩ := r
  obtain ⟨e1, e2, e3, ⟨OA, oc, e4, ho⟩, hq⟩ := hr
  dsimp only at e1 e2 e3 e4 hq ⊢
  have hws : f.ws.length ≤ 5 := by
    have : ∀ f ∈ fos, f.ws.length ≤ 5 := by decide
    exact this f hf
  have hops : f.ops.length ≤ 5 := by
    have : ∀ f ∈ fos, f.ops.length ≤ 5 := by decide
    exact this f hf
  have hTk := Lib.hid (fun s a b v W (hb : Below w.heap.size w W) => takes_any L f f.num (.slice OA f.ops.length oc) f.btw f.fst q s a b v W (hq.next hb) hws)
  obtain ⟨QA, qc, e5, hqi⟩ := hq
  subst e1 e2 e3 e4 e5
  obtain ⟨b0, o0, rfl, ⟨_, hbB⟩, hc⟩ := hes (by omega)
  have hbw : b0 < w.heap.size := by omega
  clear hbB hB hes
  have hN := ok_get hok hk
  obtain ⟨c1, c2, c3, c4⟩ := hc k hk
  have h2 : hasS f.ops es[k].op = true → isTwo es[k].op = true := two_of_has hf
  have hbd : isTwo es[k].op = true → 0 ≤ es[k].a ∧ es[k].a < (k : Int) ∧ 0 ≤ es[k].b ∧ es[k].b < (k : Int) := two_bd hN
  have hHS := Lib.hid (fun s W (hb : Below w.heap.size w W) => ContainsS_any L _ OA _ oc f.ops s W rfl (by omega) (RS.below ho hb (Nat.le_refl _)))
  have hB3 := fun o1 o2 o3 => Lib.hid ((((Below.refl w.heap.size w).alloc (Nat.le_refl _) o1).alloc (by simp) o2).alloc (by simp; omega) o3)
  have hFo : Hid (foOk es f es[k] = (hasS f.ops es[k].op && (if noBtw f = true then takes f (nodeAt es (fTaken f es[k])) else (nodeAt es (fTaken f es[k])).op.toList == f.btw.toList && takes f (nodeAt es (nodeAt es (fTaken f es[k])).b)))) := rfl
  rw [hh, Bool.true_and] at hFo
  obtain ⟨ha0, hak, hb0, hbk⟩ := hbd (h2 hh)
  obtain ⟨ja, hja⟩ : ∃ ja : Nat, es[k].a = (ja : Int) := ⟨es[k].a.toNat, by omega⟩
  obtain ⟨jb, hjb⟩ : ∃ jb : Nat, es[k].b = (jb : Int) := ⟨es[k].b.toNat, by omega⟩
  have hjak : ja < es.length := by omega
  have hjbk : jb < es.length := by omega
  have hTi : Hid (foTi es f es[k] = if noBtw f = true then ⟨f.num, [fPart f es[k]], [fTaken f es[k]], 1⟩ else ⟨f.num, [fPart f es[k], (nodeAt es (fTaken f es[k])).a], [(nodeAt es (fTaken f es[k])).b, fTaken f es[k]], 1⟩) := rfl
  have hbt := two_of_btw hf
  have hP : Hid (fPart f es[k] = if f.fst = true then es[k].b else es[k].a) := rfl
  have hQ : Hid (fTaken f es[k] = if f.fst = true then es[k].a else es[k].b) := rfl
  have hNb : Hid ((f.btw.toList == []) = false) := hnb0
  rw [hnb0] at hTi hFo
  simp only [Bool.false_eq_true, if_false] at hTi hFo
  rw [heq] at hFo
  simp only [Bool.false_and] at hFo
  generalize foOk es f es[k] = ok at *
  generalize foTi es f es[k] = ti at *
  obtain ⟨fnum, fops, fbtw, ffst, fws⟩ := f
  dsimp only at *
  subst hfst
  simp only [Bool.false_eq_true, if_false] at hP hQ
  rw [hP.out, hQ.out, hja, hjb, nodeAt_nat hjbk] at hTi
  rw [hQ.out, hjb, nodeAt_nat hjbk] at heq
  rw [hTi.out]
  obtain ⟨m1, m2, m3, m4⟩ := hc jb hjbk
  have hnb : (fbtw.toList == []) = false := hNb.out
  clear hTk hTi hbt hP hQ hNb hN h2 hbd hc hnb0
  have hok0 : ok = false := hFo.out
  subst hok0
  generalize es[jb] = md at *
  obtain ⟨mds, mda, mdb, mdv⟩ := md
  dsimp only at m1 m2 m3 m4 heq ⊢
  generalize es[k] = nd at *
  obtain ⟨s, a, b, v⟩ := nd
  dsimp only at hja hjb c1 c2 c3 c4 hh
  subst hja hjb
  go_enter Try.func118, Try.ntmps118
  go_wp2_with (go_at_call 161; refine (hHS.out _ _ (hB3 _ _ _).out).mono ?_; rw [hh]; rintro e w' ⟨rfl, rfl⟩)
  go_quiet (fail)
  generalize hV : World.drewN _ _ = V
  obtain ⟨vsz, f1, f2, hbV⟩ := three_facts hV
  clear hV hB3 hHS
  have F1 : CB 133 V w.heap.size [.int .i64 fnum, .slice OA fops.length oc, .string fbtw, .bool false, .slice QA fws.length qc] := f1
  have F2 : TX V (w.heap.size + 1) zeroRt := f2
  have x1 := F1.cell 0; have x2 := F1.cell 1; have x3 := F1.cell 2; have x4 := F1.cell 3; have x5 := F1.cell 4
  simp only [List.getElem?_cons_zero, List.getElem?_cons_succ] at x1 x2 x3 x4 x5
  obtain ⟨t1, t2, t3, t4⟩ := F2.cells
  obtain ⟨u1, u2, u3, u4⟩ := F2.fz
  have n1 := (hbV.cell (p := ⟨b0, o0 + jb * 4, none⟩) hbw).trans m1
  have n2 := (hbV.cell (p := ⟨b0, o0 + jb * 4 + 1, none⟩) hbw).trans m2
  have n3 := (hbV.cell (p := ⟨b0, o0 + jb * 4 + 2, none⟩) hbw).trans m3
  have n4 := (hbV.cell (p := ⟨b0, o0 + jb * 4 + 3, none⟩) hbw).trans m4
  have hF1 := Lib.hid F1
  have hF2 := Lib.hid F2
  have hbVh := Lib.hid hbV
  have vz := Lib.hid vsz
  have vb : b0 < V.heap.size := by omega
  have v0 : w.heap.size < V.heap.size := by omega
  have v1 : w.heap.size + 1 < V.heap.size := by omega
  have vb_1 : b0 < V.heap.size + 1 := by omega
  have vb_2 : b0 < V.heap.size + 1 + 1 := by omega
  have vb_3 : b0 < V.heap.size + 1 + 1 + 1 := by omega
  have vb_4 : b0 < V.heap.size + 1 + 1 + 1 + 1 := by omega
  have vb_5 : b0 < V.heap.size + 1 + 1 + 1 + 1 + 1 := by omega
  have vb_6 : b0 < V.heap.size + 1 + 1 + 1 + 1 + 1 + 1 := by omega
  have v0_1 : w.heap.size < V.heap.size + 1 := by omega
  have v0_2 : w.heap.size < V.heap.size + 1 + 1 := by omega
  have v0_3 : w.heap.size < V.heap.size + 1 + 1 + 1 := by omega
  have v0_4 : w.heap.size < V.heap.size + 1 + 1 + 1 + 1 := by omega
  have v0_5 : w.heap.size < V.heap.size + 1 + 1 + 1 + 1 + 1 := by omega
  have v0_6 : w.heap.size < V.heap.size + 1 + 1 + 1 + 1 + 1 + 1 := by omega
  have v1_1 : w.heap.size + 1 < V.heap.size + 1 := by omega
  have v1_2 : w.heap.size + 1 < V.heap.size + 1 + 1 := by omega
  have v1_3 : w.heap.size + 1 < V.heap.size + 1 + 1 + 1 := by omega
  have v1_4 : w.heap.size + 1 < V.heap.size + 1 + 1 + 1 + 1 := by omega
  have v1_5 : w.heap.size + 1 < V.heap.size + 1 + 1 + 1 + 1 + 1 := by omega
  have v1_6 : w.heap.size + 1 < V.heap.size + 1 + 1 + 1 + 1 + 1 + 1 := by omega
  clear F1 F2 f1 f2 hbV m1 m2 m3 m4 c1 c2 c3 c4 vsz
  have hV0 := below_put4t hbVh.out (show w.heap.size ≤ w.heap.size + 1 by omega) zeroRt
  have zV0 : (put4t V (w.heap.size + 1) zeroRt).heap.size = V.heap.size := size_put4t _ _ _
  have al4 := fun o1 o2 o3 o4 => Lib.hid ((((hV0.alloc (by omega) o1).alloc (by simp; omega) o2).alloc (by simp; omega) o3).alloc (by simp; omega) o4)
  have tx4 := fun o1 o2 o3 o4 => Lib.hid (CB.below (hF2.out.put zeroRt) (((((Below.refl _ (put4t V (w.heap.size + 1) zeroRt)).alloc (Nat.le_refl _) o1).alloc (by simp) o2).alloc (by simp; omega) o3).alloc (by simp; omega) o4) (by rw [zV0]; omega))
  clear hV0 zV0
  go_wp2
  refine tile_ret2 (g := w.heap.size + 1) (r := zeroRt) rfl rfl rfl ?_ ?_
  · exact (tx4 _ _ _ _).out
  · exact ⟨zeroRt, rfl, (fun h => by cases h), (al4 _ _ _ _).out, ⟨_, _, _, rfl⟩, ⟨_, _, _, rfl⟩⟩
end Go.Proofs.Ytgcbfiamhpfkhaa

/- tileAt of the program, one of its paths. -/
namespace Go.Proofs.Ytgcbfiamhpfkhaa
open Go.RowKit
set_option linter.unusedVariables false

set_option maxHeartbeats 8000000 in
theorem tileAt_p6 (L LE BE : Nat) (f : Fo) (hf : f ∈ fos) (r : Rf) (A : Option Addr) (c : Nat) (es : List Nd) (k : Nat) (hk : k < es.length) (w : World) (hr : RfOk L f r w) (hes : NS w LE BE A es) (hB : BE ≤ w.heap.size) (hl : es.length ≤ 24) (hok : okFrom es 0 = true)
    (hh : hasS f.ops es[k].op = true) (hfst : f.fst = true) (hnb0 : noBtw f = false) (heq : ((nodeAt es (fTaken f es[k])).op.toList == f.btw.toList) = false) :
    Calls Try.prog 118 #[.agg #[.int .i64 r.num, r.o, .string r.btw, .bool r.fst, r.q], .slice A es.length c, .int .i64 (k : Int)] w (TileRes w (foOk es f es[k]) (foTi es f es[k])) := by
  obtain ⟨num, o, btw, fst, q⟩ := r
  obtain ⟨e1, e2, e3, ⟨OA, oc, e4, ho⟩, hq⟩ := hr
  dsimp only at e1 e2 e3 e4 hq ⊢
  have hws : f.ws.length ≤ 5 := by
    have : ∀ f ∈ fos, f.ws.length ≤ 5 := by decide
    exact this f hf
  have hops : f.ops.length ≤ 5 := by
    have : ∀ f ∈ fos, f.ops.length ≤ 5 := by decide
    exact this f hf
  have hTk := Lib.hid (fun s a b v W (hb : Below w.heap.size w W) => takes_any L f f.num (.slice OA f.ops.length oc) f.btw f.fst q s a b v W (hq.next hb) hws)
  obtain ⟨QA, qc, e5, hqi⟩ := hq
  subst e1 e2 e3 e4 e5
  obtain ⟨b0, o0, rfl, ⟨_, hbB⟩, hc⟩ := hes (by omega)
  have hbw : b0 < w.heap.size := by omega
  clear hbB hB hes
  have hN := ok_get hok hk
  obtain ⟨c1, c2, c3, c4⟩ := hc k hk
  have h2 : hasS f.ops es[k].op = true → isTwo es[k].op = true := two_of_has hf
  have hbd : isTwo es[k].op = true → 0 ≤ es[k].a ∧ es[k].a < (k : Int) ∧ 0 ≤ es[k].b ∧ es[k].b < (k : Int) := two_bd hN
  have hHS := Lib.hid (fun s W (hb : Below w.heap.size w W) => ContainsS_any L _ OA _ oc f.ops s W rfl (by omega) (RS.below ho hb (Nat.le_refl _)))
  have hB3 := fun o1 o2 o3 => Lib.hid ((((Below.refl w.heap.size w).alloc (Nat.le_refl _) o1).alloc (by simp) o2).alloc (by simp; omega) o3)
  have hFo : Hid (foOk es f es[k] = (hasS f.ops es[k].op && (if noBtw f = true then takes f (nodeAt es (fTaken f es[k])) else (nodeAt es (fTaken f es[k])).op.toList == f.btw.toList && takes f (nodeAt es (nodeAt es (fTaken f es[k])).b)))) := rfl
  rw [hh, Bool.true_and] at hFo
  obtain ⟨ha0, hak, hb0, hbk⟩ := hbd (h2 hh)
  obtain ⟨ja, hja⟩ : ∃ ja : Nat, es[k].a = (ja : Int) := ⟨es[k].a.toNat, by omega⟩
  obtain ⟨jb, hjb⟩ : ∃ jb : Nat, es[k].b = (jb : Int) := ⟨es[k].b.toNat, by omega⟩
  have hjak : ja < es.length := by omega
  have hjbk : jb < es.length := by omega
  have hTi : Hid (foTi es f es[k] = if noBtw f = true then ⟨f.num, [fPart f es[k]], [fTaken f es[k]], 1⟩ else ⟨f.num, [fPart f es[k], (nodeAt es (fTaken f es[k])).a], [(nodeAt es (fTaken f es[k])).b, fTaken f es[k]], 1⟩) := rfl
  have hbt := two_of_btw hf
  have hP : Hid (fPart f es[k] = if f.fst = true then es[k].b else es[k].a) := rfl
  have hQ : Hid (fTaken f es[k] = if f.fst = true then es[k].a else es[k].b) := rfl
  have hNb : Hid ((f.btw.toList == []) = false) := hnb0
  rw [hnb0] at hTi hFo
  simp only [Bool.false_eq_true, if_false] at hTi hFo
  rw [heq] at hFo
  simp only [Bool.false_and] at hFo
  generalize foOk es f es[k] = ok at *
  generalize foTi es f es[k] = ti at *
  obtain ⟨fnum, fops, fbtw, ffst, fws⟩ := f
  dsimp only at *
  subst hfst
  simp only [if_true] at hP hQ
  rw [hP.out, hQ.out, hja, hjb, nodeAt_nat hjak] at hTi
  rw [hQ.out, hja, nodeAt_nat hjak] at heq
  rw [hTi.out]
  obtain ⟨m1, m2, m3, m4⟩ := hc ja hjak
  have hnb : (fbtw.toList == []) = false := hNb.out
  clear hTk hTi hbt hP hQ hNb hN h2 hbd hc hnb0
  have hok0 : ok = false := hFo.out
  subst hok0
  generalize es[ja] = md at *
  obtain ⟨mds, mda, mdb, mdv⟩ := md
  dsimp only at m1 m2 m3 m4 heq ⊢
  generalize es[k] = nd at *
  obtain ⟨s, a, b, v⟩ := nd
  dsimp only at hja hjb c1 c2 c3 c4 hh
  subst hja hjb
  go_enter Try.func118, Try.ntmps118
  go_wp2_with (go_at_call 161; refine (hHS.out _ _ (hB3 _ _ _).out).mono ?_; rw [hh]; rintro e w' ⟨rfl, rfl⟩)
  go_quiet (fail)
  go_wp2
  go_quiet (fail)
  generalize hV : World.drewN _ _ = V
  obtain ⟨vsz, f1, f2, hbV⟩ := three_facts2 hV
  clear hV hB3 hHS
  have F1 : CB 133 V w.heap.size [.int .i64 fnum, .slice OA fops.length oc, .string fbtw, .bool true, .slice QA fws.length qc] := f1
  have F2 : TX V (w.heap.size + 1) zeroRt := f2
  have x1 := F1.cell 0; have x2 := F1.cell 1; have x3 := F1.cell 2; have x4 := F1.cell 3; have x5 := F1.cell 4
  simp only [List.getElem?_cons_zero, List.getElem?_cons_succ] at x1 x2 x3 x4 x5
  obtain ⟨t1, t2, t3, t4⟩ := F2.cells
  obtain ⟨u1, u2, u3, u4⟩ := F2.fz
  have n1 := (hbV.cell (p := ⟨b0, o0 + ja * 4, none⟩) hbw).trans m1
  have n2 := (hbV.cell (p := ⟨b0, o0 + ja * 4 + 1, none⟩) hbw).trans m2
  have n3 := (hbV.cell (p := ⟨b0, o0 + ja * 4 + 2, none⟩) hbw).trans m3
  have n4 := (hbV.cell (p := ⟨b0, o0 + ja * 4 + 3, none⟩) hbw).trans m4
  have hF1 := Lib.hid F1
  have hF2 := Lib.hid F2
  have hbVh := Lib.hid hbV
  have vz := Lib.hid vsz
  have vb : b0 < V.heap.size := by omega
  have v0 : w.heap.size < V.heap.size := by omega
  have v1 : w.heap.size + 1 < V.heap.size := by omega
  have vb_1 : b0 < V.heap.size + 1 := by omega
  have vb_2 : b0 < V.heap.size + 1 + 1 := by omega
  have vb_3 : b0 < V.heap.size + 1 + 1 + 1 := by omega
  have vb_4 : b0 < V.heap.size + 1 + 1 + 1 + 1 := by omega
  have vb_5 : b0 < V.heap.size + 1 + 1 + 1 + 1 + 1 := by omega
  have vb_6 : b0 < V.heap.size + 1 + 1 + 1 + 1 + 1 + 1 := by omega
  have v0_1 : w.heap.size < V.heap.size + 1 := by omega
  have v0_2 : w.heap.size < V.heap.size + 1 + 1 := by omega
  have v0_3 : w.heap.size < V.heap.size + 1 + 1 + 1 := by omega
  have v0_4 : w.heap.size < V.heap.size + 1 + 1 + 1 + 1 := by omega
  have v0_5 : w.heap.size < V.heap.size + 1 + 1 + 1 + 1 + 1 := by omega
  have v0_6 : w.heap.size < V.heap.size + 1 + 1 + 1 + 1 + 1 + 1 := by omega
  have v1_1 : w.heap.size + 1 < V.heap.size + 1 := by omega
  have v1_2 : w.heap.size + 1 < V.heap.size + 1 + 1 := by omega
  have v1_3 : w.heap.size + 1 < V.heap.size + 1 + 1 + 1 := by omega
  have v1_4 : w.heap.size + 1 < V.heap.size + 1 + 1 + 1 + 1 := by omega
  have v1_5 : w.heap.size + 1 < V.heap.size + 1 + 1 + 1 + 1 + 1 := by omega
  have v1_6 : w.heap.size + 1 < V.heap.size + 1 + 1 + 1 + 1 + 1 + 1 := by omega
  clear F1 F2 f1 f2 hbV m1 m2 m3 m4 c1 c2 c3 c4 vsz
  have hV0 := below_put4t hbVh.out (show w.heap.size ≤ w.heap.size + 1 by omega) zeroRt
  have zV0 : (put4t V (w.heap.size + 1) zeroRt).heap.size = V.heap.size := size_put4t _ _ _
  have al4 := fun o1 o2 o3 o4 => Lib.hid ((((hV0.alloc (by omega) o1).alloc (by simp; omega) o2).alloc (by simp; omega) o3).alloc (by simp; omega) o4)
  have tx4 := fun o1 o2 o3 o4 => Lib.hid (CB.below (hF2.out.put zeroRt) (((((Below.refl _ (put4t V (w.heap.size + 1) zeroRt)).alloc (Nat.le_refl _) o1).alloc (by simp) o2).alloc (by simp; omega) o3).alloc (by simp; omega) o4) (by rw [zV0]; omega))
  clear hV0 zV0
  go_wp2
  refine tile_ret2 (g := w.heap.size + 1) (r := zeroRt) rfl rfl rfl ?_ ?_
  · exact (tx4 _ _ _ _).out
  · exact ⟨zeroRt, rfl, (fun h => by cases h), (al4 _ _ _ _).out, ⟨_, _, _, rfl⟩, ⟨_, _, _, rfl⟩⟩
end Go.Proofs.Ytgcbfiamhpfkhaa

/- tileAt of the program, on all its paths. -/
namespace Go.Proofs.Ytgcbfiamhpfkhaa
open Go.RowKit
set_option linter.unusedVariables false

theorem tileAt_any (L LE BE : Nat) (f : Fo) (hf : f ∈ fos) (r : Rf) (A : Option Addr) (c : Nat) (es : List Nd) (k : Nat) (hk : k < es.length) (w : World) (hr : RfOk L f r w) (hes : NS w LE BE A es) (hB : BE ≤ w.heap.size) (hl : es.length ≤ 24) (hok : okFrom es 0 = true) :
    Calls Try.prog 118 #[.agg #[.int .i64 r.num, r.o, .string r.btw, .bool r.fst, r.q], .slice A es.length c, .int .i64 (k : Int)] w (TileRes w (foOk es f es[k]) (foTi es f es[k])) := by
  cases hh : hasS f.ops es[k].op
  · have h := tileAt_no L LE BE f hf r A c es k hk w hr hes hB hl hok hh
    rwa [show foOk es f es[k] = false by unfold foOk; rw [hh]; rfl] at h ⊢
  · cases hn : noBtw f
    · cases hf0 : f.fst <;> cases he : ((nodeAt es (fTaken f es[k])).op.toList == f.btw.toList)
      · exact tileAt_p5 L LE BE f hf r A c es k hk w hr hes hB hl hok hh hf0 hn he
      · exact tileAt_p3 L LE BE f hf r A c es k hk w hr hes hB hl hok hh hf0 hn he
      · exact tileAt_p6 L LE BE f hf r A c es k hk w hr hes hB hl hok hh hf0 hn he
      · exact tileAt_p4 L LE BE f hf r A c es k hk w hr hes hB hl hok hh hf0 hn he
    · cases hf0 : f.fst
      · exact tileAt_p1 L LE BE f hf r A c es k hk w hr hes hB hl hok hh hf0 hn
      · exact tileAt_p2 L LE BE f hf r A c es k hk w hr hes hB hl hok hh hf0 hn
end Go.Proofs.Ytgcbfiamhpfkhaa

namespace Go.Proofs.Ytgcbfiamhpfkhaa
open Go.RowKit
set_option linter.unusedVariables false

/-- What a function with a list of ints and a bool leaves. -/
def IntsRes (w : World) (xs : List Int) (ok : Bool) (e : Ending) (w' : World) : Prop :=
  ∃ A c, e = .returned (.tuple #[.slice A xs.length c, .bool ok]) ∧ OW w' w.heap.size w'.heap.size (.slice A xs.length c) xs ∧ Below w.heap.size w w'
def usesR (es : List Nd) : List Int := if good es = true then uses es else []
theorem usesR_len (es : List Nd) : (usesR es).length ≤ 1048576 := by
  unfold usesR
  cases h : good es
  · simp
  · have := good_len h; simp [show (uses es).length = es.length from usesAt_len es _]; omega

end Go.Proofs.Ytgcbfiamhpfkhaa

/- tileOf of the program, and what the first laws of chapter 5 ask of it. -/
namespace Go.Proofs.Ytgcbfiamhpfkhaa
open Go.RowKit
set_option linter.unusedVariables false

def tAt (es : List Nd) (i : Int) : Bool := treeR es && inR i 0 ((es.length : Int) - 1)
def tOf (es : List Nd) (i t : Int) : Option Ti := if tAt es i = true then tileO es (nodeAt es i) t else none
def noTi : Ti := ⟨0, [], [], 0⟩
theorem tilesOf_w (LE BE : Nat) (A : Option Addr) (c : Nat) (es : List Nd) (k : Nat) (hk : k < es.length) (w : World) (hes : NS w LE BE A es) (hB : BE ≤ w.heap.size) (hl : es.length ≤ 24) (hok : okFrom es 0 = true) :
    Calls Try.prog 62 #[.slice A es.length c, .int .i64 (k : Int)] w (TilesAre w (tilesL es es[k])) :=
  tilesOf_any LE BE A c es k hk w hes hB hl hok (fun L f hf r W hr hb => tileAt_any L LE BE f hf r A c es k hk W hr (hes.below hb hB) (Nat.le_trans hB hb.size) hl hok)

def TileGot (w : World) (o : Option Ti) (e : Ending) (w' : World) : Prop :=
  ∃ r : Rt, e = .returned (.tuple #[.agg #[.int .i64 r.num, r.p, r.q, .int .i64 r.c], .bool o.isSome]) ∧ RtOk w' w.heap.size w'.heap.size r (o.getD noTi) ∧ Below w.heap.size w w'

set_option maxHeartbeats 8000000 in
theorem tileOf_any (L B : Nat) (A : Option Addr) (c : Nat) (es : List Nd) (i t : Int) (w : World) (hl : es.length ≤ 1048576) (hes : NS w L B A es) (hB : B ≤ w.heap.size) :
    Calls Try.prog 137 #[.slice A es.length c, .int .i64 i, .int .i64 t] w (TileGot w (tOf es i t)) := by
  have hB1 := fun o => (Below.refl w.heap.size w).alloc (Nat.le_refl _) o
  have hTR := Lib.hid (fun W (h : Below w.heap.size w W) => iIsTree_any L B A c es W hl (hes.below h hB) (Nat.le_trans hB h.size))
  have hNew := Lib.hid (TX.new (w := w) (g := w.heap.size) zeroRt rfl)
  have hNil := Lib.hid (fun (W : World) => RtOk.nil W w.heap.size W.heap.size 0 0)
  have hB1h := Lib.hid hB1
  cases htr : treeR es
  · have hO : Hid (tOf es i t = none) := by simp [Hid, tOf, tAt, htr]
    rw [hO.out]
    go_enter Try.func137, Try.ntmps137
    go_wp2_with (fail)
    refine (hTR.out _ (hB1 _)).mono ?_
    rw [htr]
    rintro e w1 ⟨rfl, hb1⟩
    have hT1 := CB.below hNew.out hb1 (by simp)
    have q0 := (TX.cells hT1).1; have q1 := (TX.cells hT1).2.1; have q2 := (TX.cells hT1).2.2.1; have q3 := (TX.cells hT1).2.2.2
    have k0 := (TX.fz hT1).1; have k1 := (TX.fz hT1).2.1; have k2 := (TX.fz hT1).2.2.1; have k3 := (TX.fz hT1).2.2.2
    have hT1h := Lib.hid (TX.put hT1 zeroRt)
    have hb1h := Lib.hid (below_put4t ((hB1 _).trans (hb1.mono (by simp))) (Nat.le_refl w.heap.size) zeroRt)
    clear hT1 hb1
    go_wp2
    refine tile_ret2 (g := w.heap.size) (r := zeroRt) rfl rfl rfl ?_ ?_
    · exact hT1h.out
    · exact ⟨zeroRt, rfl, hNil.out _, hb1h.out⟩
  · cases hin : inR i 0 ((es.length : Int) - 1)
    · have hO : Hid (tOf es i t = none) := by simp [Hid, tOf, tAt, htr, hin]
      rw [hO.out]
      go_enter Try.func137, Try.ntmps137
      go_wp2_with (fail)
      refine (hTR.out _ (hB1 _)).mono ?_
      rw [htr]
      rintro e w1 ⟨rfl, hb1⟩
      have hT1 := CB.below hNew.out hb1 (by simp)
      have q0 := (TX.cells hT1).1; have q1 := (TX.cells hT1).2.1; have q2 := (TX.cells hT1).2.2.1; have q3 := (TX.cells hT1).2.2.2
      have k0 := (TX.fz hT1).1; have k1 := (TX.fz hT1).2.1; have k2 := (TX.fz hT1).2.2.1; have k3 := (TX.fz hT1).2.2.2
      have hT1h := Lib.hid (TX.put hT1 zeroRt)
      have hb1h := Lib.hid (below_put4t ((hB1 _).trans (hb1.mono (by simp))) (Nat.le_refl w.heap.size) zeroRt)
      clear hT1 hb1
      go_wp2_with (go_at_call 168; refine (isIndex_any _ _ _).mono ?_; rw [hin]; rintro e w' ⟨rfl, rfl⟩)
      refine tile_ret2 (g := w.heap.size) (r := zeroRt) rfl rfl rfl ?_ ?_
      · exact hT1h.out
      · exact ⟨zeroRt, rfl, hNil.out _, hb1h.out⟩
    · have hg : good es = true := by simp [treeR] at htr; exact htr.1
      obtain ⟨hl1, hl24, hok⟩ := good_len hg
      obtain ⟨h0, h1⟩ := (inR_iff _ _ _).1 hin
      obtain ⟨k, rfl⟩ : ∃ k : Nat, i = (k : Int) := ⟨i.toNat, by omega⟩
      have hk : k < es.length := by omega
      have hO : Hid (tOf es k t = tileO es es[k] t) := by simp only [Hid, tOf, tAt, htr, hin]; rw [nodeAt_nat hk]; rfl
      rw [hO.out]
      have hTs := Lib.hid (fun W (h : Below w.heap.size w W) => tilesOf_w L B A c es k hk W (hes.below h hB) (Nat.le_trans hB h.size) hl24 hok)
      have hYes : Hid (∀ x ∈ tilesL es es[k], x.num = t → tileO es es[k] t = some x) := fun x h1 h2 => tile_of_mem h1 h2
      have hNo : Hid ((∀ x ∈ tilesL es es[k], x.num ≠ t) → tileO es es[k] t = none) := fun h => tile_none h
      have hLen := Lib.hid (show (tilesL es es[k]).length ≤ 13 by unfold tilesL; have := List.length_filterMap_le (mt es es[k]) (List.range 13); simpa using this)
      generalize tileO es es[k] t = to at *
      generalize tilesL es es[k] = ts at *
      clear hes hO
      go_enter Try.func137, Try.ntmps137
      go_wp2_with (fail)
      refine (hTR.out _ (hB1 _)).mono ?_
      rw [htr]
      rintro e w1 ⟨rfl, hb1⟩
      have hT1 := Lib.hid (CB.below hNew.out hb1 (by simp))
      have hb1h := Lib.hid ((hB1 _).trans (hb1.mono (by simp)))
      have hz1 := hb1.size
      rw [World.size_alloc] at hz1
      clear hb1
      go_wp2_with (go_at_call 168; refine (isIndex_any _ _ _).mono ?_; rw [hin]; rintro e w' ⟨rfl, rfl⟩)
      refine (hTs.out _ hb1h.out).mono ?_
      rintro e w2 ⟨TA, tc, rs, rfl, hrs, hall, hb2⟩
      have hT2 := Lib.hid (CB.below hT1.out hb2 (by omega))
      have hb2h := Lib.hid (hb1h.out.trans (hb2.mono hb1h.out.size))
      have hRS := Lib.hid (hrs.more hb1h.out.size (Nat.le_refl _))
      have hAL := Lib.hid hall
      have hb1s := hb1h.out.size
      have hz2 := hb2.size
      have hz12 : w.heap.size < w2.heap.size := by omega
      clear hb2 hrs hall hT1 hTs hTR hb1h
      have hl2 := hLen.out
      go_wp2_with (fail)
      go_loopw [31] (fun q wr => ∃ j : Nat, j ≤ ts.length ∧ q = .int .i64 j ∧ (∀ x ∈ ts.take j, x.num ≠ t) ∧ Below w2.heap.size w2 wr) (fun q _ => ts.length - (intOf q).toNat)
      case atStart => exact ⟨0, Nat.zero_le _, rfl, by simp, Below.refl _ _⟩
      case round =>
        obtain ⟨j, hj, rfl, hne, hbr⟩ := hrel
        have hNe := Lib.hid hne
        have hBr := Lib.hid hbr
        have hzr := hbr.size
        clear hne hbr
        by_cases hlt : j < ts.length
        · have hjr : j < rs.length := by rw [hAL.out.1]; exact hlt
          have hok4 := hAL.out.2 j hjr hlt
          obtain ⟨tb, to', rfl, ⟨_, htb⟩, hcc⟩ := (hRS.out.below hBr.out (Nat.le_refl _)) (by omega)
          have x1 := hcc j hjr 0 _ rfl
          have x2 := hcc j hjr 1 _ rfl
          have x3 := hcc j hjr 2 _ rfl
          have x4 := hcc j hjr 3 _ rfl
          simp only [Nat.add_zero] at x1
          have hmem : ts[j] ∈ ts := List.getElem_mem _
          have hY : Hid (ts[j].num = t → to = some ts[j]) := hYes.out ts[j] hmem
          have hTk := Lib.hid (show ts.take (j + 1) = ts.take j ++ [ts[j]] from List.take_succ_eq_append_getElem hlt)
          generalize rs[j] = r at *
          obtain ⟨PA, pc, QA, qc, rfl, hp, hq⟩ := hok4.form
          dsimp only at x1 x2 x3 x4
          have hR4 := Lib.hid ((hok4.below hBr.out (Nat.le_refl _)).more (Nat.le_refl _) hzr)
          clear hcc hok4 hp hq hmem
          have hT4 := CB.below hT2.out hBr.out hz12
          generalize ts[j] = x at *
          cases he : (x.num == t)
          · have hne2 : ¬ x.num = t := by simpa using he
            clear hT4
            go_wp2
            go_roundw
            case rel =>
              refine ⟨j + 1, by omega, by go_num, ?_, hBr.out.trans (((Below.refl _ _).alloc (Nat.le_refl _) _).mono hzr)⟩
              rw [hTk.out]
              intro y hy
              rcases List.mem_append.1 hy with h | h
              · exact hNe.out y h
              · simp at h; subst h; exact hne2
            case measure => simp [intOf]; omega
          · have heq : x.num = t := by simpa using he
            obtain rfl : to = some x := hY.out heq
            subst heq
            have hzw : w.heap.size < wr.heap.size := by omega
            have q0 := (TX.cells hT4).1; have q1 := (TX.cells hT4).2.1; have q2 := (TX.cells hT4).2.2.1; have q3 := (TX.cells hT4).2.2.2
            have k0 := (TX.fz hT4).1; have k1 := (TX.fz hT4).2.1; have k2 := (TX.fz hT4).2.2.1; have k3 := (TX.fz hT4).2.2.2
            obtain ⟨rr, hrr⟩ : ∃ rr : Rt, rr = ⟨x.num, .slice PA x.ps.length pc, .slice QA x.ins.length qc, x.c⟩ := ⟨_, rfl⟩
            have hPT := TX.put hT4 rr
            have hsz := size_put4t wr w.heap.size rr
            have bal := (Below.refl (put4t wr w.heap.size rr).heap.size (put4t wr w.heap.size rr)).alloc (Nat.le_refl _) (.cells #[.int .i64 x.num, .slice PA x.ps.length pc, .slice QA x.ins.length qc, .int .i64 x.c] 77)
            have hX := Lib.hid (CB.below hPT bal (by omega))
            have hY2 := Lib.hid ((below_put4t (hb2h.out.trans (hBr.out.mono (by omega))) (Nat.le_refl w.heap.size) rr).trans (bal.mono (by omega)))
            have hR6 := Lib.hid (((hR4.out.put4t (g := w.heap.size) (by omega) rr).below bal (by omega)).more hb1s (Nat.le_refl _))
            have hzz := Lib.hid (show wr.heap.size ≤ ((put4t wr w.heap.size rr).alloc (.cells #[.int .i64 x.num, .slice PA x.ps.length pc, .slice QA x.ins.length qc, .int .i64 x.c] 77)).heap.size by rw [World.size_alloc]; omega)
            subst hrr
            clear hT4 bal hPT hsz
            go_wp2
            refine tile_ret2 (g := w.heap.size) (r := ⟨x.num, .slice PA x.ps.length pc, .slice QA x.ins.length qc, x.c⟩) rfl rfl rfl ?_ ?_
            · exact hX.out
            · refine ⟨⟨x.num, .slice PA x.ps.length pc, .slice QA x.ins.length qc, x.c⟩, rfl, ?_, hY2.out⟩
              exact (hR6.out).more (Nat.le_refl _) hzz.out
        · obtain rfl : j = ts.length := by omega
          have hN := hNe.out
          rw [List.take_length] at hN
          obtain rfl : to = none := hNo.out hN
          have hT4 := CB.below hT2.out hBr.out hz12
          have q0 := (TX.cells hT4).1; have q1 := (TX.cells hT4).2.1; have q2 := (TX.cells hT4).2.2.1; have q3 := (TX.cells hT4).2.2.2
          have k0 := (TX.fz hT4).1; have k1 := (TX.fz hT4).2.1; have k2 := (TX.fz hT4).2.2.1; have k3 := (TX.fz hT4).2.2.2
          have hT1h := Lib.hid (TX.put hT4 zeroRt)
          have hbe := Lib.hid (below_put4t (hb2h.out.trans (hBr.out.mono (by omega))) (Nat.le_refl w.heap.size) zeroRt)
          clear hT4
          go_wp2
          refine tile_ret2 (g := w.heap.size) (r := zeroRt) rfl rfl rfl ?_ ?_
          · exact hT1h.out
          · exact ⟨zeroRt, rfl, hNil.out _, hbe.out⟩
end Go.Proofs.Ytgcbfiamhpfkhaa

/- TileParts, TileInner, TileCost of the program. -/
namespace Go.Proofs.Ytgcbfiamhpfkhaa
open Go.RowKit
set_option linter.unusedVariables false

def partsR (es : List Nd) (i t : Int) : List Int := ((tOf es i t).getD noTi).ps
def innerR (es : List Nd) (i t : Int) : List Int := ((tOf es i t).getD noTi).ins
def tcostR (es : List Nd) (i t : Int) : Int := ((tOf es i t).getD noTi).c
def tokR (es : List Nd) (i t : Int) : Bool := (tOf es i t).isSome

def IntRes (w : World) (x : Int) (ok : Bool) (e : Ending) (w' : World) : Prop := e = .returned (.tuple #[.int .i64 x, .bool ok]) ∧ Below w.heap.size w w'
end Go.Proofs.Ytgcbfiamhpfkhaa
