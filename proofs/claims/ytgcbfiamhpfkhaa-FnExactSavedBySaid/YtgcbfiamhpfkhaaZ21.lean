/- Texts of this proof, one behind the other: GF, AT, LawEB. -/
import Derived.Test.YtgcbfiamhpfkhaaZ7
import Derived.Test.YtgcbfiamhpfkhaaZ4
import Derived.RangeFuncNested
import Derived.RangeFuncBound
import Derived.RangeFuncCalls
import Derived.RangeFuncLeaves
import Derived.RangeFuncBox
import Derived.Shelf.Abstract
import Derived.Shelf.RegionOpen
import Derived.WalkKit
import Derived.OwnWalkIn
import Derived.TacticsInMore
import Derived.LoopNIn
import Derived.LoopIn
import Derived.Lib.Hide
import Derived.Test.YtgcbfiamhpfkhaaLI
import Derived.Test.YtgcbfiamhpfkhaaKNode
import Derived.Test.YtgcbfiamhpfkhaaKMNode
import Derived.WalkSpells
import Derived.WalkLawsBesides
import Derived.Test.YtgcbfiamhpfkhaaZ5
import Derived.Deep.RegionHeld3
/- tilesOfCover of the program. -/
namespace Go.Proofs.Ytgcbfiamhpfkhaa
open Go.RowKit Go.Shelf
set_option linter.unusedVariables false
set_option maxRecDepth 100000
attribute [local go_sem] Oper.semAt_some

def CoverGot (w : World) (o : Option (List Ti)) (e : Ending) (w' : World) : Prop :=
  ∃ A c rs, e = .returned (.tuple #[.slice A (o.getD []).length c, .bool o.isSome]) ∧ RS Rt.enc 4 w' w.heap.size w'.heap.size A rs ∧ AllOk w' w.heap.size w'.heap.size rs (o.getD []) ∧ Below w.heap.size w w'
/-- What lies in the boxes of tilesOfCover. -/
structure TB (w0 W : World) (es : List Nd) (A A' : Option Addr) (c c' m : Nat) (q g h : Nat) (V : Value) (cs : List Int) (out : List Ti) : Prop where
  b2 : BX W w0.heap.size 27 (.slice A es.length c)
  b3 : BX W (w0.heap.size + 1) 23 (.slice A' m c')
  b4 : BX W (w0.heap.size + 1 + 1) 74 (.slice none 0 0)
  b5 : BX W (w0.heap.size + 1 + 1 + 1) 4 (.bool false)
  q4 : w0.heap.size + 1 + 1 + 1 < q
  b8 : BX W q 74 V
  gq : q < g
  ib : IB W g 3 cs
  gh : g < h
  b9 : BX W h 23 (.slice (some ⟨g, 0, none⟩) es.length es.length)
  rows : ∃ rs : List Rt, (∃ VA vc, V = .slice VA out.length vc) ∧ OK Rt.enc 4 77 W (h + 1) W.heap.size V rs ∧ AllOk W (h + 1) W.heap.size rs out
  be : Below w0.heap.size w0 W

theorem own_not {w : World} {row : Option Nat} {base size n : Nat} {e : TypeId} {v : Value} {xs : List Value} (h : w.ownsRow base e size v n xs) (hr : ∀ r, row = some r → ∃ o : Obj, w.heap[r]? = some o ∧ o.isCells = false) : v.ownBlock = none ∨ v.ownBlock ≠ row := by
  rcases h.2 with ⟨rfl, _⟩ | ⟨g, cap, cur, rfl, _, hh, _⟩
  · exact .inl rfl
  · exact .inr (fun e => row_not hh hr e.symm)
theorem OW.keptO {w w' : World} {lo hi : Nat} {v : Value} {xs : List Int} {row : Option Nat} (h : OW w lo hi v xs) (hg : w.grownBy w' row) (hr : ∀ r, row = some r → ∃ o : Obj, w.heap[r]? = some o ∧ o.isCells = false) : OW w' lo hi v xs := ⟨h.1.kept hg (own_not h.1 hr), h.2⟩
theorem RtOk.keptO {w w' : World} {L B : Nat} {r : Rt} {t : Ti} {row : Option Nat} (h : RtOk w L B r t) (hg : w.grownBy w' row) (hr : ∀ r, row = some r → ∃ o : Obj, w.heap[r]? = some o ∧ o.isCells = false) : RtOk w' L B r t := ⟨h.1, h.2.1, h.2.2.1.keptO hg hr, h.2.2.2.keptO hg hr⟩
theorem TB.kept {w0 W W' : World} {es : List Nd} {A A' : Option Addr} {c c' m q g h : Nat} {V : Value} {cs : List Int} {out : List Ti} {row : Option Nat} (hT : TB w0 W es A A' c c' m q g h V cs out) (hg : W.grownBy W' row) (hr : ∀ r, row = some r → w0.heap.size ≤ r ∧ ∃ o : Obj, W.heap[r]? = some o ∧ o.isCells = false) : TB w0 W' es A A' c c' m q g h V cs out := by
  have hr' : ∀ r, row = some r → ∃ o : Obj, W.heap[r]? = some o ∧ o.isCells = false := fun r e => (hr r e).2
  have bx : ∀ {b : Nat} {t : TypeId} {v : Value}, BX W b t v → BX W' b t v := fun hb => hb.kept hg (row_not hb hr')
  obtain ⟨rs, hV, ho, ha⟩ := hT.rows
  refine ⟨bx hT.b2, bx hT.b3, bx hT.b4, bx hT.b5, hT.q4, bx hT.b8, hT.gq, ?_, hT.gh, bx hT.b9, ?_, ?_⟩
  · exact (hg.block g hT.ib.lt (fun e => row_not (show W.heap[g]? = some (.cells (intCells cs) 3 (0, 0)) from hT.ib) hr' e.symm)).trans hT.ib
  · exact ⟨rs, hV, OK.more ⟨ho.1.kept hg (own_not ho.1 hr'), ho.2⟩ hg.size, ⟨ha.1, fun k h1 h2 => ((ha.2 k h1 h2).keptO hg hr').more (Nat.le_refl _) hg.size⟩⟩
  · exact hT.be.grown hg hT.be.size (fun k e => (hr k e).1)

theorem AllOk.chg {w w' : World} {L B lo hi : Nat} {rs : List Rt} {ts : List Ti} (h : AllOk w L B rs ts) (hc : Chg lo hi w w') (hd : B ≤ lo ∨ hi ≤ L) : AllOk w' L B rs ts := ⟨h.1, fun k h1 h2 => (h.2 k h1 h2).chg hc hd⟩
theorem TB.below {w0 W W' : World} {es : List Nd} {A A' : Option Addr} {c c' m q g h : Nat} {V : Value} {cs : List Int} {out : List Ti} (hT : TB w0 W es A A' c c' m q g h V cs out) (hb : Below W.heap.size W W') : TB w0 W' es A A' c c' m q g h V cs out := by
  obtain ⟨rs, hV, ho, ha⟩ := hT.rows
  refine ⟨hT.b2.next hb, hT.b3.next hb, hT.b4.next hb, hT.b5.next hb, hT.q4, hT.b8.next hb, hT.gq, hT.ib.below hb hT.ib.lt, hT.gh, hT.b9.next hb, ?_, hT.be.trans (hb.mono hT.be.size)⟩
  exact ⟨rs, hV, (ho.below hb (Nat.le_refl _)).more hb.size, (ha.below hb (Nat.le_refl _)).more (Nat.le_refl _) hb.size⟩
/-- The cover's row is written. -/
theorem TB.lay {w0 W W' : World} {es : List Nd} {A A' : Option Addr} {c c' m q g h : Nat} {V : Value} {cs cs' : List Int} {out : List Ti} (hT : TB w0 W es A A' c c' m q g h V cs out) (hc : Chg g (g + 1) W W') (hi : IB W' g 3 cs') : TB w0 W' es A A' c c' m q g h V cs' out := by
  have q4 := hT.q4; have gq := hT.gq; have gh := hT.gh
  obtain ⟨rs, hV, ho, ha⟩ := hT.rows
  refine ⟨hT.b2.chg hc (.inl (by omega)), hT.b3.chg hc (.inl (by omega)), hT.b4.chg hc (.inl (by omega)), hT.b5.chg hc (.inl (by omega)), q4, hT.b8.chg hc (.inl gq), gq, hi, gh, hT.b9.chg hc (.inr (by omega)), ?_, below_chg hT.be hc hT.be.size (by omega)⟩
  exact ⟨rs, hV, (ho.chg hc (.inr (by omega))).more hc.size, (ha.chg hc (.inr (by omega))).more (Nat.le_refl _) hc.size⟩
/-- A tile is appended. -/
theorem TB.push {w0 W W' : World} {es : List Nd} {A A' : Option Addr} {c c' m q g h : Nat} {V v' : Value} {cs : List Int} {out : List Ti} {rs : List Rt} {r : Rt} {y : Ti} (hT : TB w0 W es A A' c c' m q g h V cs out) (ho : OK Rt.enc 4 77 W (h + 1) W.heap.size V rs) (ha : AllOk W (h + 1) W.heap.size rs out) (hr : RtOk W (h + 1) W.heap.size r y)
    (hown : W'.ownsRow (h + 1) 77 4 v' (out.length + 1) (rs.flatMap Rt.enc ++ r.enc)) (hg : W.grownBy W' V.ownBlock) : TB w0 (W'.setCell ⟨q, 0, none⟩ v') es A A' c c' m q g h v' cs (out ++ [y]) := by
  have q4 := hT.q4; have gq := hT.gq; have gh := hT.gh
  have hlo := ho.lo
  have nb : ∀ b, b ≤ h → V.ownBlock ≠ some b := fun b hb e => by have := (hlo b e).1; omega
  have hz := hT.b9.lt
  have bx : ∀ {b : Nat} {t : TypeId} {v : Value}, b ≤ h → b ≠ q → BX W b t v → BX (W'.setCell ⟨q, 0, none⟩ v') b t v := fun h1 h2 hb => (hb.kept hg (nb _ h1)).other 0 v' (Ne.symm h2)
  obtain ⟨ga, ca, rfl⟩ := ownsRow_succ hown
  have hc : Chg q (q + 1) W' (W'.setCell ⟨q, 0, none⟩ (.slice (some ⟨ga, 0, none⟩) (out.length + 1) ca)) := (Chg.refl q (q + 1) W').setCell (p := ⟨q, 0, none⟩) ⟨Nat.le_refl _, Nat.lt_succ_self _⟩ _
  refine ⟨bx (by omega) (by omega) hT.b2, bx (by omega) (by omega) hT.b3, bx (by omega) (by omega) hT.b4, bx (by omega) (by omega) hT.b5, q4, (hT.b8.kept hg (nb _ (by omega))).set _, gq, ?_, gh, bx (Nat.le_refl _) (by omega) hT.b9, ?_, ?_⟩
  · exact IB.other ((hg.block g hT.ib.lt (fun e => nb g (by omega) e.symm)).trans hT.ib) 0 _ (by omega)
  · refine ⟨rs ++ [r], ⟨some ⟨ga, 0, none⟩, ca, by rw [List.length_append]; rfl⟩, ?_, ?_⟩
    · have hO : OK Rt.enc 4 77 W' (h + 1) W'.heap.size (.slice (some ⟨ga, 0, none⟩) (out.length + 1) ca) (rs ++ [r]) := by
        refine ⟨?_, fun jj hjj => (hown.lt jj hjj).2⟩
        rw [rtflat_snoc, List.length_append, ha.1]; exact hown
      exact (hO.chg hc (.inr (by omega))).more hc.size
    · have hA : AllOk W' (h + 1) W.heap.size (rs ++ [r]) (out ++ [y]) := (ha.grown ho.1 hg).snoc (hr.grown ho.1 hg)
      exact (hA.chg hc (.inr (by omega))).more (Nat.le_refl _) (Nat.le_trans hg.size hc.size)
  · exact below_chg (hT.be.grown hg hT.be.size (fun k e => by have := (hlo k e).1; omega)) hc (Nat.le_trans hT.be.size hg.size) (by omega)

theorem keeps_below {n Bs : Nat} {t : TypeId} {W W' : World} (hb : Below W.heap.size W W') (hn : n ≤ W.heap.size) : KeepsOthers W W' ∧ KpB n Bs t W W' :=
  ⟨⟨hb.size, fun k o hk _ => (hb.block k (Array.getElem?_eq_some_iff.1 hk).1).trans hk⟩, hb.mono hn, fun v h => h.next hb⟩
theorem keeps_lay {n Bs g : Nat} {t : TypeId} {W W' : World} {cs : List Int} (hi : IB W g 3 cs) (hc : Chg g (g + 1) W W') (hn : n ≤ g) (hB : g < Bs) : KeepsOthers W W' ∧ KpB n Bs t W W' := by
  refine ⟨⟨hc.size, fun k o hk ho => ?_⟩, below_chg (Below.refl n W) hc (by have := hi.lt; omega) hn, fun v h => h.chg hc (.inr hB)⟩
  have hne : k ≠ g := by
    intro e
    subst e
    rw [show W.heap[k]? = some (.cells (intCells cs) 3 (0, 0)) from hi] at hk
    injection hk with hk; subst hk; cases ho
  exact (hc.block k (Array.getElem?_eq_some_iff.1 hk).1 (by omega)).trans hk
theorem own_ne_bx {w : World} {base size m b : Nat} {e t : TypeId} {v u : Value} {xs : List Value} (h : w.ownsRow base e size v m xs) (hb : BX w b t u) (hne : e ≠ t) : v.ownBlock ≠ some b := by
  intro hv
  rcases h.2 with ⟨rfl, _⟩ | ⟨g, cap, cur, rfl, _, hh, _⟩
  · simp [Value.ownBlock] at hv
  · have e1 : g = b := by simpa [Value.ownBlock] using hv
    subst e1
    unfold BX at hb
    rw [hh] at hb
    injection hb with hb
    injection hb with _ h9
    exact hne h9
theorem keeps_push {n Bs q base m : Nat} {W W' : World} {V v' : Value} {xs : List Value} (ho : W.ownsRow base 77 4 V m xs) (hg : W.grownBy W' V.ownBlock) (hb : n ≤ base) (hs : n ≤ W.heap.size) (hq : n ≤ q) (hqB : q ≠ Bs) : KeepsOthers W (W'.setCell ⟨q, 0, none⟩ v') ∧ KpB n Bs 27 W (W'.setCell ⟨q, 0, none⟩ v') := by
  have hrow : ∀ (j : Nat) (o : Obj), V.ownBlock = some j → W.heap[j]? = some o → o.isCells = true := by
    intro j o hj hh
    rcases ho.2 with ⟨rfl, _⟩ | ⟨g, cap, cur, rfl, _, hgg, _⟩
    · simp [Value.ownBlock] at hj
    · have e1 : g = j := by simpa [Value.ownBlock] using hj
      subst e1
      rw [hgg] at hh; injection hh with hh; subst hh; rfl
  refine ⟨(KeepsOthers.of_grownBy hg hrow).trans (KeepsOthers.setCell _ _ _), ?_, fun v h => (h.kept hg (own_ne_bx ho h (by decide))).other 0 v' hqB⟩
  exact ((Below.refl n W).grown hg hs (fun k e => Nat.le_trans hb (ho.lt k e).1)).setCell (p := ⟨q, 0, none⟩) hq v'

theorem AllOk.keptO {w w' : World} {L B : Nat} {rs : List Rt} {ts : List Ti} {row : Option Nat} (h : AllOk w L B rs ts) (hg : w.grownBy w' row) (hr : ∀ r, row = some r → ∃ o : Obj, w.heap[r]? = some o ∧ o.isCells = false) : AllOk w' L B rs ts := ⟨h.1, fun k h1 h2 => (h.2 k h1 h2).keptO hg hr⟩
/-- What is handed back lies when the function's record of deferred calls is put down. -/
theorem cover_ends {w W : World} {D lo : Nat} {V : Value} {rs : List Rt} {o : Option (List Ti)} (hn : w.heap.size ≤ lo) (hK : W.heap[D]? = some (.deferred (some []))) (hD : w.heap.size ≤ D)
    (hO : OK Rt.enc 4 77 W lo W.heap.size V rs) (hA : AllOk W lo W.heap.size rs (o.getD [])) (hbe : Below w.heap.size w W) :
    ∃ A c rs, V = .slice A (o.getD []).length c ∧ RS Rt.enc 4 (W.putObj D (.deferred none)) w.heap.size (W.putObj D (.deferred none)).heap.size A rs ∧ AllOk (W.putObj D (.deferred none)) w.heap.size (W.putObj D (.deferred none)).heap.size rs (o.getD []) ∧ Below w.heap.size w (W.putObj D (.deferred none)) := by
  have gr := grownBy_putObj' W D (.deferred none)
  have rD : ∀ r, some D = some r → ∃ o : Obj, W.heap[r]? = some o ∧ o.isCells = false := fun r e => by cases e; exact ⟨_, hK, rfl⟩
  have hO' : OK Rt.enc 4 77 (W.putObj D (.deferred none)) lo W.heap.size V rs := ⟨hO.1.kept gr (own_not hO.1 rD), hO.2⟩
  obtain ⟨A, c, hV, hRS⟩ := OK.form (enc := Rt.enc) (k := 4) (fun _ => rfl) hO'
  have hl : rs.length = (o.getD []).length := hA.1
  exact ⟨A, c, rs, by rw [← hl]; exact hV, hRS.more hn gr.size, ⟨hA.1, fun k h1 h2 => ((hA.2 k h1 h2).keptO gr rD).more hn gr.size⟩, hbe.grown gr hbe.size (fun k e => by cases e; exact hD)⟩
theorem firstI_eq {xs ys : List Int} {n : Nat} (hx : xs.length = n) (hy : ys.length = n) : decide (firstI (neI xs ys) n < 0) = decide (xs = ys) := by
  rw [decide_eq_decide, firstI_neg]
  constructor
  · intro h
    refine List.ext_getElem (by omega) fun i h1 h2 => ?_
    have := h i (by omega)
    simp only [neI, bne_eq_false_iff_eq] at this
    rwa [getD_get h1, getD_get h2] at this
  · rintro rfl i hi
    simp [neI]
set_option maxHeartbeats 4000000 in
theorem tilesOfCover_go (L B L' B' : Nat) (A A' : Option Addr) (c c' : Nat) (es : List Nd) (nums : List Int) (w : World) (ht : treeR es = true) (hlen : nums.length = es.length) (hes : NS w L B A es) (hB : B ≤ w.heap.size) (hn : IS w L' B' A' nums) (hB' : B' ≤ w.heap.size) :
    Calls Try.prog 139 #[.slice A es.length c, .slice A' es.length c'] w (CoverGot w (tocR es nums)) := by
  have hg : good es = true := by unfold treeR at ht; simp only [Bool.and_eq_true] at ht; exact ht.1
  obtain ⟨hl1, hl24, hok⟩ := good_len hg
  have hl : es.length ≤ 1048576 := by omega
  have HT := Lib.hid fun (W : World) (hW : Below w.heap.size w W) => iIsTree_any L B A c es W hl (hes.below hW hB) (Nat.le_trans hB hW.size)
  have HO := Lib.hid fun (W : World) => openCover_any A c es.length W hl1 hl24
  rw [ht] at HT
  have hn0 := hn
  obtain ⟨nb, no, rfl, ⟨_, hnb⟩, hnc⟩ := hn (by omega)
  have hISn := Lib.hid hn0
  have hBn := Lib.hid hB'
  have hLn := Lib.hid hlen
  have hnbw : nb < w.heap.size := by omega
  have hNC := Lib.hid hnc
  clear hnc hnb hn hB' hn0
  obtain ⟨W4, hW4⟩ : ∃ W4, W4 = ((((w.alloc (.cells #[.slice A es.length c] 27)).alloc (.cells #[.slice (some ⟨nb, no, none⟩) es.length c'] 23)).alloc (.cells #[.slice none 0 0] 74)).alloc (.cells #[.bool false] 4)) := ⟨_, rfl⟩
  have z1 := World.size_alloc w (.cells #[.slice A es.length c] 27)
  have z2 := World.size_alloc (w.alloc (.cells #[.slice A es.length c] 27)) (.cells #[.slice (some ⟨nb, no, none⟩) es.length c'] 23)
  have z3 := World.size_alloc ((w.alloc (.cells #[.slice A es.length c] 27)).alloc (.cells #[.slice (some ⟨nb, no, none⟩) es.length c'] 23)) (.cells #[.slice none 0 0] 74)
  have z4 : W4.heap.size = w.heap.size + 1 + 1 + 1 + 1 := by rw [hW4, World.size_alloc, z3, z2, z1]
  have B4 : Below w.heap.size w W4 := by rw [hW4]; exact ((((Below.refl _ w).alloc (Nat.le_refl _) _).alloc (by omega) _).alloc (by omega) _).alloc (by omega) _
  have k2 : BX W4 w.heap.size 27 (.slice A es.length c) := by rw [hW4]; exact (((BX.new w _ _).al _).al _).al _
  have k3 : BX W4 (w.heap.size + 1) 23 (.slice (some ⟨nb, no, none⟩) es.length c') := by
    rw [hW4]; have h := ((BX.new (w.alloc (.cells #[.slice A es.length c] 27)) 23 (.slice (some ⟨nb, no, none⟩) es.length c')).al (.cells #[.slice none 0 0] 74)).al (.cells #[.bool false] 4)
    rw [z1] at h; exact h
  have k4 : BX W4 (w.heap.size + 1 + 1) 74 (.slice none 0 0) := by
    rw [hW4]; have h := (BX.new ((w.alloc (.cells #[.slice A es.length c] 27)).alloc (.cells #[.slice (some ⟨nb, no, none⟩) es.length c'] 23)) 74 (.slice none 0 0)).al (.cells #[.bool false] 4)
    rw [z2, z1] at h; exact h
  have k5 : BX W4 (w.heap.size + 1 + 1 + 1) 4 (.bool false) := by
    rw [hW4]; have h := BX.new (((w.alloc (.cells #[.slice A es.length c] 27)).alloc (.cells #[.slice (some ⟨nb, no, none⟩) es.length c'] 23)).alloc (.cells #[.slice none 0 0] 74)) 4 (.bool false)
    rw [z3, z2, z1] at h; exact h
  have hW4h := Lib.hid hW4.symm
  have B4h := Lib.hid B4
  have K2 := Lib.hid k2
  have K3 := Lib.hid k3
  have K4 := Lib.hid k4
  have K5 := Lib.hid k5
  have Z4 := Lib.hid z4
  clear z1 z2 z3 z4 hW4 B4 k2 k3 k4 k5
  obtain ⟨i0, hi', hz0, hz1, hz2⟩ := info_parts Try.infoTile
  have hJ0 := Lib.hid hi'
  have hJ1 := Lib.hid hz0
  have hJ2 := Lib.hid hz1
  have hJ3 := Lib.hid hz2
  clear hi' hz0 hz1 hz2
  refine (callsIn_wide (n := 6)).1 ?_
  refine callsIn_of_wp_marks Try.func139 rfl trivial ?_ rfl
  simp only [Try.ntmps139, List.size_toArray, List.length_cons, List.length_nil, Nat.reduceAdd, Nat.reduceSub, Array.replicate_succ, Array.replicate_zero, List.push_toArray, List.append_toArray, List.nil_append, List.cons_append]
  gi_wp2
  rw [hW4h.out]
  refine ⟨trivial, callsIn_wide.2 ((HT.out _ B4h.out).mono ?_)⟩
  rintro e W5 ⟨rfl, hb5⟩
  have B5 := Lib.hid (B4h.out.trans (hb5.mono B4h.out.size))
  have P2 := Lib.hid (K2.out.next hb5)
  have P3 := Lib.hid (K3.out.next hb5)
  have P4 := Lib.hid (K4.out.next hb5)
  have P5 := Lib.hid (K5.out.next hb5)
  have Z5 := Lib.hid (show w.heap.size + 1 + 1 + 1 + 1 ≤ W5.heap.size by have := Z4.out; have := hb5.size; omega)
  have m2 := P2.out.cell
  have m3 := P3.out.cell
  clear hb5 K2 K3 K4 K5 Z4 B4h hW4h
  have s2 : w.heap.size < W5.heap.size := by have := Z5.out; omega
  have s3 : w.heap.size + 1 < W5.heap.size := by have := Z5.out; omega
  have z6 := World.size_alloc W5 (.cells #[.slice none 0 0] 74)
  have a6 := (Below.refl W5.heap.size W5).alloc (Nat.le_refl _) (.cells #[.slice none 0 0] 74)
  have P8 := Lib.hid (BX.new W5 74 (.slice none 0 0))
  have Q2 := Lib.hid (P2.out.next a6)
  have Q3 := Lib.hid (P3.out.next a6)
  have Q4 := Lib.hid (P4.out.next a6)
  have Q5 := Lib.hid (P5.out.next a6)
  have B6 := Lib.hid (B5.out.trans (a6.mono B5.out.size))
  have Z6 := Lib.hid z6
  clear a6 P2 P3 P4 P5 B5 z6
  gi_wp2
  obtain ⟨W6, hW6⟩ : ∃ W6, W6 = W5.alloc (.cells #[.slice none 0 0] 74) := ⟨_, rfl⟩
  obtain ⟨q, hq⟩ : ∃ q, q = W5.heap.size := ⟨_, rfl⟩
  rw [← hW6]
  rw [← hW6, ← hq] at P8
  rw [← hW6] at Q2 Q3 Q4 Q5 B6
  rw [← hW6, ← hq] at Z6
  have Zq := Lib.hid (show w.heap.size + 1 + 1 + 1 < q by have := Z5.out; omega)
  try rw [← hq]
  clear hW6 hq Z5 s2 s3 m2 m3
  refine ⟨trivial, callsIn_wide.2 ((HO.out W6).mono ?_)⟩
  rintro e W7 ⟨g, rfl, hg7, hib, hb7⟩
  have I7 := Lib.hid hib
  have R2 := Lib.hid (Q2.out.next hb7)
  have R3 := Lib.hid (Q3.out.next hb7)
  have R4 := Lib.hid (Q4.out.next hb7)
  have R5 := Lib.hid (Q5.out.next hb7)
  have R8 := Lib.hid (P8.out.next hb7)
  have B7 := Lib.hid (B6.out.trans (hb7.mono B6.out.size))
  have Zg := Lib.hid (show q < g by have := Z6.out; omega)
  have hgl := hib.lt
  have m2 := R2.out.cell
  have s2 : w.heap.size < W7.heap.size := R2.out.lt
  clear hib hb7 hg7 Q2 Q3 Q4 Q5 P8 B6 Z6 HT HO
  gi_wp2
  have z8 := World.size_alloc W7 (.cells #[.slice (some ⟨g, 0, none⟩) es.length es.length] 23)
  have a8 := (Below.refl W7.heap.size W7).alloc (Nat.le_refl _) (.cells #[.slice (some ⟨g, 0, none⟩) es.length es.length] 23)
  have S9 := Lib.hid (BX.new W7 23 (.slice (some ⟨g, 0, none⟩) es.length es.length))
  have S2 := Lib.hid (R2.out.next a8)
  have S3 := Lib.hid (R3.out.next a8)
  have S4 := Lib.hid (R4.out.next a8)
  have S5 := Lib.hid (R5.out.next a8)
  have S8 := Lib.hid (R8.out.next a8)
  have I8 := Lib.hid (I7.out.below a8 hgl)
  have B8 := Lib.hid (B7.out.trans (a8.mono B7.out.size))
  obtain ⟨W8, hW8⟩ : ∃ W8, W8 = W7.alloc (.cells #[.slice (some ⟨g, 0, none⟩) es.length es.length] 23) := ⟨_, rfl⟩
  obtain ⟨h, hh⟩ : ∃ h, h = W7.heap.size := ⟨_, rfl⟩
  rw [← hW8, ← hh]
  rw [← hW8, ← hh] at S9 z8
  rw [← hW8] at S2 S3 S4 S5 S8 I8 B8
  have Zh := Lib.hid (show g < h by omega)
  have Z8 := Lib.hid z8
  clear a8 R2 R3 R4 R5 R8 I7 B7 hW8 hh m2 s2 hgl z8
  refine ⟨trivial, (bw_in Fence.wide 5 trivial rfl A es.length c W8).mono ?_⟩
  rintro e W9 ⟨rfl, rfl⟩
  have a9 := (Below.refl W8.heap.size W8).alloc (Nat.le_refl _) (.cells #[.slice A es.length c] 27)
  have T9 := Lib.hid (S9.out.next a9)
  have T2 := Lib.hid (S2.out.next a9)
  have T3 := Lib.hid (S3.out.next a9)
  have T4 := Lib.hid (S4.out.next a9)
  have T5 := Lib.hid (S5.out.next a9)
  have T8 := Lib.hid (S8.out.next a9)
  have I9 := Lib.hid (I8.out.below a9 I8.out.lt)
  have B9 := Lib.hid (B8.out.trans (a9.mono B8.out.size))
  have TB9 := Lib.hid (BX.new W8 27 (.slice A es.length c))
  have hes9 := Lib.hid (hes.below B9.out hB)
  have Zb := Lib.hid (show h < W8.heap.size by have := Z8.out; omega)
  obtain ⟨Bs, hBs⟩ : ∃ Bs, Bs = W8.heap.size := ⟨_, rfl⟩
  obtain ⟨W9, hW9⟩ : ∃ W9, W9 = W8.alloc (.cells #[.slice A es.length c] 27) := ⟨_, rfl⟩
  rw [← hBs, ← hW9]
  rw [← hW9] at T9 T2 T3 T4 T5 T8 I9 B9 hes9 TB9
  rw [← hBs] at Zb TB9
  clear a9 S2 S3 S4 S5 S8 S9 I8 B8 hW9 hBs Z8
  gi_wp2
  refine wpIn_rangeFunc_ownF rfl (by omega) (gf := 163) (lb := #[.pointer (some ⟨Bs, 0, none⟩)]) rfl trivial (enters_of Try.func163 (by kernel_rfl) rfl)
    (bw_stops Fence.wide 5 trivial rfl (by omega) Bs w.heap.size L B A c es hl hl1 W9 B9.out.size TB9.out hes9.out hB) KpB.t (KpB.b B9.out.size) (Below.refl _ _) (fun _ => rfl)
    (fun pre W => ∃ cs out V, stF es nums pre = some (cs, out) ∧ TB w W es A (some ⟨nb, no, none⟩) c c' es.length q g h V cs out)
    (fun cd pre W => cd = .ret ∧ stF es nums pre = none ∧ BX W (w.heap.size + 1 + 1) 74 (.slice none 0 0) ∧ BX W (w.heap.size + 1 + 1 + 1) 4 (.bool false) ∧ Below w.heap.size w W)
    ?hI ?hIx ?h0 ?a1 ?assign ?body ?done ?stop
  case assign =>
    intro l x W K hK
    gi_wp2
    exact hK
  case hI =>
    rintro pre W W' row ⟨cs, out, V, hst, hTB⟩ hg hr
    exact ⟨cs, out, V, hst, hTB.kept hg (fun r e => ⟨Nat.le_trans B9.out.size (hr r e).1, (hr r e).2⟩)⟩
  case hIx =>
    rintro cd pre W W' row ⟨hcd, hst, k4, k5, hbe⟩ hg hr
    have hr' : ∀ r, row = some r → ∃ o : Obj, W.heap[r]? = some o ∧ o.isCells = false := fun r e => (hr r e).2
    exact ⟨hcd, hst, k4.kept hg (row_not k4 hr'), k5.kept hg (row_not k5 hr'), hbe.grown hg hbe.size (fun k e => Nat.le_trans B9.out.size (hr k e).1)⟩
  case h0 =>
    exact ⟨_, _, _, stF_nil es nums, T2.out, T3.out, T4.out, T5.out, Zq.out, T8.out, Zg.out, I9.out, Zh.out, T9.out, ⟨[], ⟨none, 0, rfl⟩, OK.nil _ _ _ _, ⟨rfl, fun k h1 _ => absurd h1 (Nat.not_lt_zero _)⟩⟩, B9.out⟩
  case body =>
    rintro l pre x W ⟨cs, out, V, hst, hTB⟩ hpl
    obtain ⟨⟨k, nd⟩, hk⟩ := x
    have hk' : k < es.length := hk
    have hsl := stF_len pre hst
    have hslh := Lib.hid hsl
    have hgW : g < W.heap.size := hTB.ib.lt
    have hghW := Lib.hid (show h + 1 ≤ W.heap.size from hTB.b9.lt)
    have hgh' := Lib.hid hTB.gh
    have hq4' := Lib.hid hTB.q4
    have hgq' := Lib.hid hTB.gq
    have hki : (k : Int) < (es.length : Int) := by omega
    have hk0 : (0 : Int) ≤ (k : Int) := by omega
    have y9 := hTB.b9.cell
    have yg := hTB.ib.cell k (by omega)
    rw [show cs[k]'(by omega) = cs.getD k 0 from (getD_get (by omega)).symm] at yg
    by_cases hc : cs.getD k 0 = -2
    rotate_left
    · have hN := Lib.hid (stF_skip hst ⟨(k, nd), hk⟩ hc)
      have hTBh := Lib.hid hTB
      have hcb : (cs.getD k 0 != -2) = true := by simpa using hc
      clear hTB hst hsl
      generalize cs.getD k 0 = xk at *
      gi_wp2
      exact ⟨KeepsOthers.refl _, ⟨Below.refl _ _, fun _ h => h⟩, ⟨cs, out, V, hN.out, hTBh.out⟩⟩
    rw [hc] at yg
    have hB0 := Lib.hid hTB.be
    have hzW := hTB.be.size
    have l2 : w.heap.size < W.heap.size := hTB.b2.lt
    have l3 : w.heap.size + 1 < W.heap.size := hTB.b3.lt
    have ln : nb < W.heap.size := by omega
    have y2 := hTB.b2.cell
    have y3 := hTB.b3.cell
    have yn := ((hTB.be.cell (p := ⟨nb, no + k, none⟩) hnbw)).trans (hNC.out k (by omega))
    rw [show nums[k]'(by omega) = nums.getD k 0 from (getD_get (by omega)).symm] at yn
    have hTo := Lib.hid fun (W' : World) (hW' : Below w.heap.size w W') => tileOf_any L B A c es (k : Int) (nums.getD k 0) W' hl (hes.below hW' hB) (Nat.le_trans hB hW'.size)
    cases ho : tOf es (k : Int) (nums.getD k 0) with
    | none =>
      have hN := Lib.hid (stF_fail hst ⟨(k, nd), hk⟩ hc ho)
      rw [ho] at hTo
      generalize nums.getD k 0 = tk at *
      have hTBh := Lib.hid hTB
      clear hTB hst hc ho
      gi_wp2
      have hBa := Lib.hid (hB0.out.drew.alloc hB0.out.size (.cells #[.int .i64 0, .slice none 0 0, .slice none 0 0, .int .i64 0] 77))
      -- REGION 9 NONE
      have hBd := Lib.hid hB0.out.drew
      have d2 := y2
      have d3 := y3
      have dn := yn
      refine region_round (S := fun w' => w'.cell? ⟨w.heap.size, 0, none⟩ = some (.slice A es.length c) ∧ w'.cell? ⟨w.heap.size + 1, 0, none⟩ = some (.slice (some ⟨nb, no, none⟩) es.length c') ∧ w'.cell? ⟨nb, no + k, none⟩ = some (.int .i64 tk)) (by kernel_rfl) (by kernel_rfl) (fun _ _ h => h) ⟨d2, d3, dn⟩ (fun hHeld => ?_)
      refine wpAnyH_take (i := 0) (v := ?_) rfl (by kernel_rfl) (by kernel_rfl) (by kernel_rfl) (fun _ _ _ h => h) (Or.inl ⟨by rfl, ?_⟩) (by assumption) ?_
      rotate_left 1
      · (intro w hSw; (try dsimp only at hSw); go_simp; try with_reducible rfl)
      try simp only [Act.put, List.setIfInBounds_toArray, List.set_cons_zero, List.set_cons_succ]
      refine wpAnyH_take (i := 1) (v := ?_) rfl (by kernel_rfl) (by kernel_rfl) (by kernel_rfl) (fun _ _ _ h => h) (Or.inl ⟨by rfl, ?_⟩) (by assumption) ?_
      rotate_left 1
      · (intro w hSw; (try dsimp only at hSw); go_simp; try with_reducible rfl)
      try simp only [Act.put, List.setIfInBounds_toArray, List.set_cons_zero, List.set_cons_succ]
      refine wpAnyH_take (i := 2) (v := ?_) rfl (by kernel_rfl) (by kernel_rfl) (by kernel_rfl) (fun _ _ _ h => h) (Or.inl ⟨by rfl, ?_⟩) (by assumption) ?_
      rotate_left 1
      · (intro w hSw; (try dsimp only at hSw); go_simp; try with_reducible rfl)
      try simp only [Act.put, List.setIfInBounds_toArray, List.set_cons_zero, List.set_cons_succ]
      refine wpAnyH_take (i := 3) (v := ?_) rfl (by kernel_rfl) (by kernel_rfl) (by kernel_rfl) (fun _ _ _ h => h) (Or.inl ⟨by rfl, ?_⟩) (by assumption) ?_
      rotate_left 1
      · (intro w hSw; (try dsimp only at hSw); go_simp; try with_reducible rfl)
      try simp only [Act.put, List.setIfInBounds_toArray, List.set_cons_zero, List.set_cons_succ]
      refine wpAnyH_take (i := 4) (v := ?_) rfl (by kernel_rfl) (by kernel_rfl) (by kernel_rfl) (fun _ _ _ h => h) (Or.inl ⟨by rfl, ?_⟩) (by assumption) ?_
      rotate_left 1
      · (intro w hSw; (try dsimp only at hSw); go_simp; try with_reducible rfl)
      try simp only [Act.put, List.setIfInBounds_toArray, List.set_cons_zero, List.set_cons_succ]
      refine wpAnyH_take (i := 5) (v := ?_) rfl (by kernel_rfl) (by kernel_rfl) (by kernel_rfl) (fun _ _ _ h => h) (Or.inl ⟨by rfl, ?_⟩) (by assumption) ?_
      rotate_left 1
      · (intro w hSw; (try dsimp only at hSw); go_simp; try with_reducible rfl)
      try simp only [Act.put, List.setIfInBounds_toArray, List.set_cons_zero, List.set_cons_succ]
      refine wpAnyH_ready (rs := [6, 10]) (by kernel_rfl) (by simp) ?_
      refine AllReadyH.cons rfl (fun K hK => ?_) (AllReadyH.cons rfl (fun K hK => ?_) AllReadyH.nil)
      · try simp only [List.getElem_toArray, List.getElem_cons_zero, List.getElem_cons_succ]
        go_simp
        go_at_call 137
        refine (hTo.out _ hBd.out).mono ?_
        rintro e w2 ⟨r, rfl, hr, hb2⟩
        dsimp only [Option.getD_some, Option.isSome_some] at hr ⊢
        obtain ⟨PA, pc, QA, qc, rfl, hp, hq⟩ := hr.form
        dsimp only
        have l2w : w.heap.size < w2.heap.size := Nat.lt_of_lt_of_le l2 hb2.size
        have l3w : w.heap.size + 1 < w2.heap.size := Nat.lt_of_lt_of_le l3 hb2.size
        have lnw : nb < w2.heap.size := Nat.lt_of_lt_of_le ln hb2.size
        have e2 := (hb2.cell (p := ⟨w.heap.size, 0, none⟩) l2).trans d2
        have e3 := (hb2.cell (p := ⟨w.heap.size + 1, 0, none⟩) l3).trans d3
        have en := (hb2.cell (p := ⟨nb, no + k, none⟩) ln).trans dn
        refine hK.out _ _ ⟨e2, e3, en⟩ (fun hHeld => ?_)
        clear hK K
        try simp only [Act.put, List.setIfInBounds_toArray, List.set_cons_zero, List.set_cons_succ]
        refine wpAnyH_take (i := 7) (v := ?_) rfl (by kernel_rfl) (by kernel_rfl) (by kernel_rfl) (fun _ _ _ h => h) (Or.inl ⟨by rfl, ?_⟩) (by assumption) ?_
        rotate_left 1
        · (intro w hSw; (try dsimp only at hSw); go_simp; try with_reducible rfl)
        try simp only [Act.put, List.setIfInBounds_toArray, List.set_cons_zero, List.set_cons_succ]
        refine wpAnyH_take (i := 8) (v := ?_) rfl (by kernel_rfl) (by kernel_rfl) (by kernel_rfl) (fun _ _ _ h => h) (Or.inl ⟨by rfl, ?_⟩) (by assumption) ?_
        rotate_left 1
        · (intro w hSw; (try dsimp only at hSw); go_simp; try with_reducible rfl)
        try simp only [Act.put, List.setIfInBounds_toArray, List.set_cons_zero, List.set_cons_succ]
        refine wpAnyH_take (i := 9) (v := ?_) rfl (by kernel_rfl) (by kernel_rfl) (by kernel_rfl) (fun _ _ _ h => h) (Or.inl ⟨by rfl, ?_⟩) (by assumption) ?_
        rotate_left 1
        · (intro w hSw; (try dsimp only at hSw); go_simp; try with_reducible rfl)
        try simp only [Act.put, List.setIfInBounds_toArray, List.set_cons_zero, List.set_cons_succ]
        refine wpAnyH_ready (rs := [10]) (by kernel_rfl) (by simp) ?_
        refine AllReadyH.cons rfl (fun K hK => ?_) AllReadyH.nil
        try simp only [List.getElem_toArray, List.getElem_cons_zero, List.getElem_cons_succ]
        go_simp
        have a3 := (Below.refl w2.heap.size w2).alloc (Nat.le_refl _) (.cells #[.int .i64 0, .slice none 0 0, .slice none 0 0, .int .i64 0] 77)
        refine hK.out _ _ ⟨(a3.cell (p := ⟨w.heap.size, 0, none⟩) l2w).trans e2, (a3.cell (p := ⟨w.heap.size + 1, 0, none⟩) l3w).trans e3, (a3.cell (p := ⟨nb, no + k, none⟩) lnw).trans en⟩ (fun hHeld => ?_)
        clear hK K
        try simp only [Act.put, List.setIfInBounds_toArray, List.set_cons_zero, List.set_cons_succ]
        refine wpAnyH_ready (rs := [11]) (by kernel_rfl) (by simp) ?_
        refine AllReadyH.cons rfl (fun K hK => ?_) AllReadyH.nil
        try simp only [List.getElem_toArray, List.getElem_cons_zero, List.getElem_cons_succ]
        go_simp
        have a4 := (Below.refl w2.heap.size w2).alloc (Nat.le_refl _) (.cells #[.int .i64 noTi.num, .slice PA noTi.ps.length pc, .slice QA noTi.ins.length qc, .int .i64 noTi.c] 77)
        refine hK.out _ _ ⟨(a4.cell (p := ⟨w.heap.size, 0, none⟩) l2w).trans e2, (a4.cell (p := ⟨w.heap.size + 1, 0, none⟩) l3w).trans e3, (a4.cell (p := ⟨nb, no + k, none⟩) lnw).trans en⟩ (fun hHeld => ?_)
        clear hK K
        try simp only [Act.put, List.setIfInBounds_toArray, List.set_cons_zero, List.set_cons_succ]
        refine wpAnyH_take (i := 12) (v := ?_) rfl (by kernel_rfl) (by kernel_rfl) (by kernel_rfl) (fun _ _ _ h => h) (Or.inl ⟨by rfl, ?_⟩) (by assumption) ?_
        rotate_left 1
        · (intro w hSw; (try dsimp only at hSw); go_simp; try with_reducible rfl)
        try simp only [Act.put, List.setIfInBounds_toArray, List.set_cons_zero, List.set_cons_succ]
        refine wpAnyH_done (by kernel_rfl) ?_ _
        dsimp only [OnlyN]
        have hX := TX.new (w := w2) (g := w2.heap.size) (⟨noTi.num, .slice PA noTi.ps.length pc, .slice QA noTi.ins.length qc, noTi.c⟩ : Rt) rfl
        have hBe : Below W.heap.size W (w2.alloc (.cells #[.int .i64 noTi.num, .slice PA noTi.ps.length pc, .slice QA noTi.ins.length qc, .int .i64 noTi.c] 77)) := (show Below W.heap.size W w2 from ⟨hb2.os, hb2.tape, hb2.output, hb2.size, hb2.block⟩).trans (a4.mono hb2.size)
        have hR := (hr.below a4 (Nat.le_refl _)).more (show W.heap.size ≤ W.drew.heap.size from Nat.le_refl _) a4.size
        have hpz : W.heap.size ≤ w2.heap.size := hb2.size
        dsimp only at hX
        obtain ⟨p, hp0⟩ : ∃ p, p = w2.heap.size := ⟨_, rfl⟩
        obtain ⟨w3, hw3⟩ : ∃ w3, w3 = w2.alloc (.cells #[.int .i64 noTi.num, .slice PA noTi.ps.length pc, .slice QA noTi.ins.length qc, .int .i64 noTi.c] 77) := ⟨_, rfl⟩
        rw [← hw3, ← hp0] at hX
        rw [← hw3] at hBe hR
        rw [← hp0] at hpz
        rw [← hw3, ← hp0]
        clear hw3 hp0 a3 a4 hb2 hp hq hr e2 e3 en d2 d3 dn hHeld
        try simp only [Act.put, List.getElem_toArray, List.getElem_cons_zero, List.getElem_cons_succ, List.setIfInBounds_toArray, List.set_cons_zero, List.set_cons_succ]
        have hT3 := hTBh.out.below hBe
        have u4 := hT3.b4.cell
        have u5 := hT3.b5.cell
        have v4 := hT3.b4.fz
        have v5 := hT3.b5.fz
        have hk3 := keeps_below (n := w.heap.size) (Bs := Bs) (t := 27) hBe hB0.out.size
        have hT3h := Lib.hid hT3
        have hk3h := Lib.hid hk3
        clear hT3 hk3 hBe hR hX
        gi_wp2
        exact ⟨(hk3h.out.1.trans (KeepsOthers.setCell _ _ _)).trans (KeepsOthers.setCell _ _ _), rfl, hN.out, (hT3h.out.b4.set _).other 0 _ (by omega), (hT3h.out.b5.other 0 _ (by omega)).set _, (hT3h.out.be.setCell (p := ⟨w.heap.size + 1 + 1, 0, none⟩) (show w.heap.size ≤ w.heap.size + 1 + 1 by omega) _).setCell (p := ⟨w.heap.size + 1 + 1 + 1, 0, none⟩) (show w.heap.size ≤ w.heap.size + 1 + 1 + 1 by omega) _⟩
      · try simp only [List.getElem_toArray, List.getElem_cons_zero, List.getElem_cons_succ]
        go_simp
        have aB := (Below.refl W.drew.heap.size W.drew).alloc (Nat.le_refl _) (.cells #[.int .i64 0, .slice none 0 0, .slice none 0 0, .int .i64 0] 77)
        have hNB := TX.new (w := W.drew) (g := W.heap.size) zeroRt rfl
        have l2b := (aB.cell (p := ⟨w.heap.size, 0, none⟩) l2).trans d2
        have l3b := (aB.cell (p := ⟨w.heap.size + 1, 0, none⟩) l3).trans d3
        have lnb := (aB.cell (p := ⟨nb, no + k, none⟩) ln).trans dn
        have zB : (W.drew.alloc (.cells #[.int .i64 0, .slice none 0 0, .slice none 0 0, .int .i64 0] 77)).heap.size = W.heap.size + 1 := World.size_alloc _ _
        refine hK.out _ _ ⟨l2b, l3b, lnb⟩ (fun hHeld => ?_)
        clear hK K
        try simp only [Act.put, List.setIfInBounds_toArray, List.set_cons_zero, List.set_cons_succ]
        refine wpAnyH_ready (rs := [6]) (by kernel_rfl) (by simp) ?_
        refine AllReadyH.cons rfl (fun K hK => ?_) AllReadyH.nil
        try simp only [List.getElem_toArray, List.getElem_cons_zero, List.getElem_cons_succ]
        go_simp
        go_at_call 137
        refine (hTo.out _ hBa.out).mono ?_
        rintro e w2 ⟨r, rfl, hr, hb2⟩
        dsimp only [Option.getD_some, Option.isSome_some] at hr ⊢
        obtain ⟨PA, pc, QA, qc, rfl, hp, hq⟩ := hr.form
        dsimp only
        have hb3 : Below (W.heap.size + 1) (W.drew.alloc (.cells #[.int .i64 0, .slice none 0 0, .slice none 0 0, .int .i64 0] 77)) w2 := by rw [← zB]; exact hb2
        have l2w : w.heap.size < W.heap.size + 1 := by omega
        have l3w : w.heap.size + 1 < W.heap.size + 1 := by omega
        have lnw : nb < W.heap.size + 1 := by omega
        have e2 := (hb3.cell (p := ⟨w.heap.size, 0, none⟩) l2w).trans l2b
        have e3 := (hb3.cell (p := ⟨w.heap.size + 1, 0, none⟩) l3w).trans l3b
        have en := (hb3.cell (p := ⟨nb, no + k, none⟩) lnw).trans lnb
        have hT4 : TX w2 W.heap.size zeroRt := CB.below hNB hb3 (Nat.lt_succ_self _)
        have q0 := (TX.cells hT4).1
        have q1 := (TX.cells hT4).2.1
        have q2 := (TX.cells hT4).2.2.1
        have q3 := (TX.cells hT4).2.2.2
        have f0 := (TX.fz hT4).1
        have f1 := (TX.fz hT4).2.1
        have f2 := (TX.fz hT4).2.2.1
        have f3 := (TX.fz hT4).2.2.2
        refine hK.out _ _ ⟨e2, e3, en⟩ (fun hHeld => ?_)
        clear hK K
        try simp only [Act.put, List.setIfInBounds_toArray, List.set_cons_zero, List.set_cons_succ]
        refine wpAnyH_take (i := 7) (v := ?_) rfl (by kernel_rfl) (by kernel_rfl) (by kernel_rfl) (fun _ _ _ h => h) (Or.inl ⟨by rfl, ?_⟩) (by assumption) ?_
        rotate_left 1
        · (intro w hSw; (try dsimp only at hSw); go_simp; try with_reducible rfl)
        try simp only [Act.put, List.setIfInBounds_toArray, List.set_cons_zero, List.set_cons_succ]
        refine wpAnyH_take (i := 8) (v := ?_) rfl (by kernel_rfl) (by kernel_rfl) (by kernel_rfl) (fun _ _ _ h => h) (Or.inl ⟨by rfl, ?_⟩) (by assumption) ?_
        rotate_left 1
        · (intro w hSw; (try dsimp only at hSw); go_simp; try with_reducible rfl)
        try simp only [Act.put, List.setIfInBounds_toArray, List.set_cons_zero, List.set_cons_succ]
        refine wpAnyH_take (i := 9) (v := ?_) rfl (by kernel_rfl) (by kernel_rfl) (by kernel_rfl) (fun _ _ _ h => h) (Or.inl ⟨by rfl, ?_⟩) (by assumption) ?_
        rotate_left 1
        · (intro w hSw; (try dsimp only at hSw); go_simp; try with_reducible rfl)
        try simp only [Act.put, List.setIfInBounds_toArray, List.set_cons_zero, List.set_cons_succ]
        refine wpAnyH_ready (rs := [11]) (by kernel_rfl) (by simp) ?_
        refine AllReadyH.cons rfl (fun K hK => ?_) AllReadyH.nil
        try simp only [List.getElem_toArray, List.getElem_cons_zero, List.getElem_cons_succ]
        go_simp
        have a5 := below_put4t (Below.refl W.heap.size w2) (Nat.le_refl _) (⟨noTi.num, .slice PA noTi.ps.length pc, .slice QA noTi.ins.length qc, noTi.c⟩ : Rt)
        refine hK.out _ _ ⟨(a5.cell (p := ⟨w.heap.size, 0, none⟩) l2).trans e2, (a5.cell (p := ⟨w.heap.size + 1, 0, none⟩) l3).trans e3, (a5.cell (p := ⟨nb, no + k, none⟩) ln).trans en⟩ (fun hHeld => ?_)
        clear hK K
        try simp only [Act.put, List.setIfInBounds_toArray, List.set_cons_zero, List.set_cons_succ]
        refine wpAnyH_take (i := 12) (v := ?_) rfl (by kernel_rfl) (by kernel_rfl) (by kernel_rfl) (fun _ _ _ h => h) (Or.inl ⟨by rfl, ?_⟩) (by assumption) ?_
        rotate_left 1
        · (intro w hSw; (try dsimp only at hSw); go_simp; try with_reducible rfl)
        try simp only [Act.put, List.setIfInBounds_toArray, List.set_cons_zero, List.set_cons_succ]
        refine wpAnyH_done (by kernel_rfl) ?_ _
        dsimp only [OnlyN]
        have hX := TX.put hT4 (⟨noTi.num, .slice PA noTi.ps.length pc, .slice QA noTi.ins.length qc, noTi.c⟩ : Rt)
        have hBe : Below W.heap.size W (put4t w2 W.heap.size (⟨noTi.num, .slice PA noTi.ps.length pc, .slice QA noTi.ins.length qc, noTi.c⟩ : Rt)) := ((show Below W.heap.size W (W.drew.alloc (.cells #[.int .i64 0, .slice none 0 0, .slice none 0 0, .int .i64 0] 77)) from ⟨aB.os, aB.tape, aB.output, aB.size, aB.block⟩).trans (hb3.mono (Nat.le_succ _))).trans a5
        have c5 : Chg W.heap.size (W.heap.size + 1) w2 (put4t w2 W.heap.size (⟨noTi.num, .slice PA noTi.ps.length pc, .slice QA noTi.ins.length qc, noTi.c⟩ : Rt)) := ((((Chg.refl _ _ w2).setCell (p := ⟨W.heap.size, 0, none⟩) ⟨Nat.le_refl _, Nat.lt_succ_self _⟩ _).setCell (p := ⟨W.heap.size, 1, none⟩) ⟨Nat.le_refl _, Nat.lt_succ_self _⟩ _).setCell (p := ⟨W.heap.size, 2, none⟩) ⟨Nat.le_refl _, Nat.lt_succ_self _⟩ _).setCell (p := ⟨W.heap.size, 3, none⟩) ⟨Nat.le_refl _, Nat.lt_succ_self _⟩ _
        have hR := ((hr.chg c5 (.inr (Nat.le_of_eq zB.symm))).more (L' := W.heap.size) (by rw [zB]; exact Nat.le_succ _) c5.size)
        have hpz : W.heap.size ≤ W.heap.size := Nat.le_refl _
        obtain ⟨w3, hw3⟩ : ∃ w3, w3 = put4t w2 W.heap.size (⟨noTi.num, .slice PA noTi.ps.length pc, .slice QA noTi.ins.length qc, noTi.c⟩ : Rt) := ⟨_, rfl⟩
        rw [← hw3] at hBe hR hX
        show Exit.then _ _ _ _ (put4t w2 W.heap.size (⟨noTi.num, .slice PA noTi.ps.length pc, .slice QA noTi.ins.length qc, noTi.c⟩ : Rt))
        rw [← hw3]
        clear hw3 a5 c5 aB hNB zB hb2 hb3 hp hq hr e2 e3 en d2 d3 dn hHeld l2b l3b lnb hT4 q0 q1 q2 q3 f0 f1 f2 f3
        try simp only [Act.put, List.getElem_toArray, List.getElem_cons_zero, List.getElem_cons_succ, List.setIfInBounds_toArray, List.set_cons_zero, List.set_cons_succ]
        have hT3 := hTBh.out.below hBe
        have u4 := hT3.b4.cell
        have u5 := hT3.b5.cell
        have v4 := hT3.b4.fz
        have v5 := hT3.b5.fz
        have hk3 := keeps_below (n := w.heap.size) (Bs := Bs) (t := 27) hBe hB0.out.size
        have hT3h := Lib.hid hT3
        have hk3h := Lib.hid hk3
        clear hT3 hk3 hBe hR hX
        gi_wp2
        exact ⟨(hk3h.out.1.trans (KeepsOthers.setCell _ _ _)).trans (KeepsOthers.setCell _ _ _), rfl, hN.out, (hT3h.out.b4.set _).other 0 _ (by omega), (hT3h.out.b5.other 0 _ (by omega)).set _, (hT3h.out.be.setCell (p := ⟨w.heap.size + 1 + 1, 0, none⟩) (show w.heap.size ≤ w.heap.size + 1 + 1 by omega) _).setCell (p := ⟨w.heap.size + 1 + 1 + 1, 0, none⟩) (show w.heap.size ≤ w.heap.size + 1 + 1 + 1 by omega) _⟩
      all_goals skip
    | some y =>
      have hN := Lib.hid (stF_lay hst ⟨(k, nd), hk⟩ hc ho)
      rw [ho] at hTo
      have hps := Lib.hid (tOf_ps ho)
      generalize nums.getD k 0 = tk at *
      have hTBh := Lib.hid hTB
      clear hTB hst hc ho
      gi_wp2
      have hBa := Lib.hid (hB0.out.drew.alloc hB0.out.size (.cells #[.int .i64 0, .slice none 0 0, .slice none 0 0, .int .i64 0] 77))
      -- REGION 9 SOME
      have hBd := Lib.hid hB0.out.drew
      have d2 := y2
      have d3 := y3
      have dn := yn
      refine region_round (S := fun w' => w'.cell? ⟨w.heap.size, 0, none⟩ = some (.slice A es.length c) ∧ w'.cell? ⟨w.heap.size + 1, 0, none⟩ = some (.slice (some ⟨nb, no, none⟩) es.length c') ∧ w'.cell? ⟨nb, no + k, none⟩ = some (.int .i64 tk)) (by kernel_rfl) (by kernel_rfl) (fun _ _ h => h) ⟨d2, d3, dn⟩ (fun hHeld => ?_)
      refine wpAnyH_take (i := 0) (v := ?_) rfl (by kernel_rfl) (by kernel_rfl) (by kernel_rfl) (fun _ _ _ h => h) (Or.inl ⟨by rfl, ?_⟩) (by assumption) ?_
      rotate_left 1
      · (intro w hSw; (try dsimp only at hSw); go_simp; try with_reducible rfl)
      try simp only [Act.put, List.setIfInBounds_toArray, List.set_cons_zero, List.set_cons_succ]
      refine wpAnyH_take (i := 1) (v := ?_) rfl (by kernel_rfl) (by kernel_rfl) (by kernel_rfl) (fun _ _ _ h => h) (Or.inl ⟨by rfl, ?_⟩) (by assumption) ?_
      rotate_left 1
      · (intro w hSw; (try dsimp only at hSw); go_simp; try with_reducible rfl)
      try simp only [Act.put, List.setIfInBounds_toArray, List.set_cons_zero, List.set_cons_succ]
      refine wpAnyH_take (i := 2) (v := ?_) rfl (by kernel_rfl) (by kernel_rfl) (by kernel_rfl) (fun _ _ _ h => h) (Or.inl ⟨by rfl, ?_⟩) (by assumption) ?_
      rotate_left 1
      · (intro w hSw; (try dsimp only at hSw); go_simp; try with_reducible rfl)
      try simp only [Act.put, List.setIfInBounds_toArray, List.set_cons_zero, List.set_cons_succ]
      refine wpAnyH_take (i := 3) (v := ?_) rfl (by kernel_rfl) (by kernel_rfl) (by kernel_rfl) (fun _ _ _ h => h) (Or.inl ⟨by rfl, ?_⟩) (by assumption) ?_
      rotate_left 1
      · (intro w hSw; (try dsimp only at hSw); go_simp; try with_reducible rfl)
      try simp only [Act.put, List.setIfInBounds_toArray, List.set_cons_zero, List.set_cons_succ]
      refine wpAnyH_take (i := 4) (v := ?_) rfl (by kernel_rfl) (by kernel_rfl) (by kernel_rfl) (fun _ _ _ h => h) (Or.inl ⟨by rfl, ?_⟩) (by assumption) ?_
      rotate_left 1
      · (intro w hSw; (try dsimp only at hSw); go_simp; try with_reducible rfl)
      try simp only [Act.put, List.setIfInBounds_toArray, List.set_cons_zero, List.set_cons_succ]
      refine wpAnyH_take (i := 5) (v := ?_) rfl (by kernel_rfl) (by kernel_rfl) (by kernel_rfl) (fun _ _ _ h => h) (Or.inl ⟨by rfl, ?_⟩) (by assumption) ?_
      rotate_left 1
      · (intro w hSw; (try dsimp only at hSw); go_simp; try with_reducible rfl)
      try simp only [Act.put, List.setIfInBounds_toArray, List.set_cons_zero, List.set_cons_succ]
      refine wpAnyH_ready (rs := [6, 10]) (by kernel_rfl) (by simp) ?_
      refine AllReadyH.cons rfl (fun K hK => ?_) (AllReadyH.cons rfl (fun K hK => ?_) AllReadyH.nil)
      · try simp only [List.getElem_toArray, List.getElem_cons_zero, List.getElem_cons_succ]
        go_simp
        go_at_call 137
        refine (hTo.out _ hBd.out).mono ?_
        rintro e w2 ⟨r, rfl, hr, hb2⟩
        dsimp only [Option.getD_some, Option.isSome_some] at hr ⊢
        obtain ⟨PA, pc, QA, qc, rfl, hp, hq⟩ := hr.form
        dsimp only
        have l2w : w.heap.size < w2.heap.size := Nat.lt_of_lt_of_le l2 hb2.size
        have l3w : w.heap.size + 1 < w2.heap.size := Nat.lt_of_lt_of_le l3 hb2.size
        have lnw : nb < w2.heap.size := Nat.lt_of_lt_of_le ln hb2.size
        have e2 := (hb2.cell (p := ⟨w.heap.size, 0, none⟩) l2).trans d2
        have e3 := (hb2.cell (p := ⟨w.heap.size + 1, 0, none⟩) l3).trans d3
        have en := (hb2.cell (p := ⟨nb, no + k, none⟩) ln).trans dn
        refine hK.out _ _ ⟨e2, e3, en⟩ (fun hHeld => ?_)
        clear hK K
        try simp only [Act.put, List.setIfInBounds_toArray, List.set_cons_zero, List.set_cons_succ]
        refine wpAnyH_take (i := 7) (v := ?_) rfl (by kernel_rfl) (by kernel_rfl) (by kernel_rfl) (fun _ _ _ h => h) (Or.inl ⟨by rfl, ?_⟩) (by assumption) ?_
        rotate_left 1
        · (intro w hSw; (try dsimp only at hSw); go_simp; try with_reducible rfl)
        try simp only [Act.put, List.setIfInBounds_toArray, List.set_cons_zero, List.set_cons_succ]
        refine wpAnyH_take (i := 8) (v := ?_) rfl (by kernel_rfl) (by kernel_rfl) (by kernel_rfl) (fun _ _ _ h => h) (Or.inl ⟨by rfl, ?_⟩) (by assumption) ?_
        rotate_left 1
        · (intro w hSw; (try dsimp only at hSw); go_simp; try with_reducible rfl)
        try simp only [Act.put, List.setIfInBounds_toArray, List.set_cons_zero, List.set_cons_succ]
        refine wpAnyH_take (i := 9) (v := ?_) rfl (by kernel_rfl) (by kernel_rfl) (by kernel_rfl) (fun _ _ _ h => h) (Or.inl ⟨by rfl, ?_⟩) (by assumption) ?_
        rotate_left 1
        · (intro w hSw; (try dsimp only at hSw); go_simp; try with_reducible rfl)
        try simp only [Act.put, List.setIfInBounds_toArray, List.set_cons_zero, List.set_cons_succ]
        refine wpAnyH_ready (rs := [10]) (by kernel_rfl) (by simp) ?_
        refine AllReadyH.cons rfl (fun K hK => ?_) AllReadyH.nil
        try simp only [List.getElem_toArray, List.getElem_cons_zero, List.getElem_cons_succ]
        go_simp
        have a3 := (Below.refl w2.heap.size w2).alloc (Nat.le_refl _) (.cells #[.int .i64 0, .slice none 0 0, .slice none 0 0, .int .i64 0] 77)
        refine hK.out _ _ ⟨(a3.cell (p := ⟨w.heap.size, 0, none⟩) l2w).trans e2, (a3.cell (p := ⟨w.heap.size + 1, 0, none⟩) l3w).trans e3, (a3.cell (p := ⟨nb, no + k, none⟩) lnw).trans en⟩ (fun hHeld => ?_)
        clear hK K
        try simp only [Act.put, List.setIfInBounds_toArray, List.set_cons_zero, List.set_cons_succ]
        refine wpAnyH_ready (rs := [11]) (by kernel_rfl) (by simp) ?_
        refine AllReadyH.cons rfl (fun K hK => ?_) AllReadyH.nil
        try simp only [List.getElem_toArray, List.getElem_cons_zero, List.getElem_cons_succ]
        go_simp
        have a4 := (Below.refl w2.heap.size w2).alloc (Nat.le_refl _) (.cells #[.int .i64 y.num, .slice PA y.ps.length pc, .slice QA y.ins.length qc, .int .i64 y.c] 77)
        refine hK.out _ _ ⟨(a4.cell (p := ⟨w.heap.size, 0, none⟩) l2w).trans e2, (a4.cell (p := ⟨w.heap.size + 1, 0, none⟩) l3w).trans e3, (a4.cell (p := ⟨nb, no + k, none⟩) lnw).trans en⟩ (fun hHeld => ?_)
        clear hK K
        try simp only [Act.put, List.setIfInBounds_toArray, List.set_cons_zero, List.set_cons_succ]
        refine wpAnyH_take (i := 12) (v := ?_) rfl (by kernel_rfl) (by kernel_rfl) (by kernel_rfl) (fun _ _ _ h => h) (Or.inl ⟨by rfl, ?_⟩) (by assumption) ?_
        rotate_left 1
        · (intro w hSw; (try dsimp only at hSw); go_simp; try with_reducible rfl)
        try simp only [Act.put, List.setIfInBounds_toArray, List.set_cons_zero, List.set_cons_succ]
        refine wpAnyH_done (by kernel_rfl) ?_ _
        dsimp only [OnlyN]
        have hX := TX.new (w := w2) (g := w2.heap.size) (⟨y.num, .slice PA y.ps.length pc, .slice QA y.ins.length qc, y.c⟩ : Rt) rfl
        have hBe : Below W.heap.size W (w2.alloc (.cells #[.int .i64 y.num, .slice PA y.ps.length pc, .slice QA y.ins.length qc, .int .i64 y.c] 77)) := (show Below W.heap.size W w2 from ⟨hb2.os, hb2.tape, hb2.output, hb2.size, hb2.block⟩).trans (a4.mono hb2.size)
        have hR := (hr.below a4 (Nat.le_refl _)).more (show W.heap.size ≤ W.drew.heap.size from Nat.le_refl _) a4.size
        have hpz : W.heap.size ≤ w2.heap.size := hb2.size
        dsimp only at hX
        obtain ⟨p, hp0⟩ : ∃ p, p = w2.heap.size := ⟨_, rfl⟩
        obtain ⟨w3, hw3⟩ : ∃ w3, w3 = w2.alloc (.cells #[.int .i64 y.num, .slice PA y.ps.length pc, .slice QA y.ins.length qc, .int .i64 y.c] 77) := ⟨_, rfl⟩
        rw [← hw3, ← hp0] at hX
        rw [← hw3] at hBe hR
        rw [← hp0] at hpz
        rw [← hw3, ← hp0]
        clear hw3 hp0 a3 a4 hb2 hp hq hr e2 e3 en d2 d3 dn hHeld
        try simp only [Act.put, List.getElem_toArray, List.getElem_cons_zero, List.getElem_cons_succ, List.setIfInBounds_toArray, List.set_cons_zero, List.set_cons_succ]
        have hT3 := hTBh.out.below hBe
        have u9 := hT3.b9.cell
        have q0 := (TX.cells hX).1
        have q1 := (TX.cells hX).2.1
        have q2 := (TX.cells hX).2.2.1
        have q3 := (TX.cells hX).2.2.2
        have hXlt : p < w3.heap.size := by rcases Nat.lt_or_ge p w3.heap.size with hh | hh; exact hh; exact absurd (show w3.heap[p]? = some _ from hX) (by rw [Array.getElem?_eq_none hh]; simp)
        have hLay := Lib.hid (layTile_any g es.length W.heap.size w3.heap.size k cs (⟨y.num, .slice PA y.ps.length pc, .slice QA y.ins.length qc, y.c⟩ : Rt) y w3 hslh.out.1 hk' hl24 hT3.ib hR (Nat.le_refl _) (.inl hgW) hps.out.1 hps.out.2.1)
        have hT3h := Lib.hid hT3
        have hBeh := Lib.hid hBe
        have hRh := Lib.hid hR
        have hXh := Lib.hid hX
        clear hT3 hBe hR hX
        gi_wp2
        refine ⟨trivial, (CallsIn.inRound l (callsIn_wide.2 hLay.out)).mono ?_⟩
        rintro e w4 ⟨rfl, hI4, hC4⟩
        have hk4 := Lib.hid (keeps_lay (n := w.heap.size) (Bs := Bs) (t := 27) hT3h.out.ib hC4 (by have := hq4'.out; have := hgq'.out; omega) (by have := hgh'.out; have := Zb.out; omega))
        have hT4 := hT3h.out.lay hC4 hI4
        have hX4 : TX w4 p (⟨y.num, .slice PA y.ps.length pc, .slice QA y.ins.length qc, y.c⟩ : Rt) := (hC4.block p hXlt (.inr (by omega))).trans hXh.out
        have r0 := (TX.cells hX4).1
        have r1 := (TX.cells hX4).2.1
        have r2 := (TX.cells hX4).2.2.1
        have r3 := (TX.cells hX4).2.2.2
        have u8 := hT4.b8.cell
        have hR4 := (hRh.out.chg hC4 (.inr (by omega))).more hghW.out hC4.size
        have z34 := hC4.size
        obtain ⟨rs, ⟨VA, vc, rfl⟩, hOK, hAll⟩ := hT4.rows
        have ba := (Below.refl w4.heap.size w4).alloc (Nat.le_refl _) (.cells #[.int .i64 y.num, .slice PA y.ps.length pc, .slice QA y.ins.length qc, .int .i64 y.c] 77)
        have hT5 := Lib.hid (hT4.below ba)
        have hO5 := Lib.hid ((hOK.below ba (Nat.le_refl _)).more ba.size)
        have hA5 := Lib.hid ((hAll.below ba (Nat.le_refl _)).more (Nat.le_refl _) ba.size)
        have hR5 := Lib.hid ((hR4.below ba (Nat.le_refl _)).more (Nat.le_refl _) ba.size)
        have hk5 := Lib.hid (keeps_below (n := w.heap.size) (Bs := Bs) (t := 27) ba hT4.be.size)
        have hrl : rs.length = out.length := hAll.1
        have hO6 := Lib.hid (show (w4.alloc (.cells #[.int .i64 y.num, .slice PA y.ps.length pc, .slice QA y.ins.length qc, .int .i64 y.c] 77)).ownsRow (h + 1) 77 4 (.slice VA out.length vc) out.length (rs.flatMap Rt.enc) from by have := hO5.out.1; rwa [hrl] at this)
        have hone := Lib.hid (rt_one hR4)
        have h24 : out.length + 1 ≤ 25 := by have := hslh.out.2; omega
        have zh : h + 1 ≤ w4.heap.size := by have := hghW.out; have := hBeh.out.size; omega
        have b8 := Lib.hid hT5.out.b8
        clear hT4 hOK hAll hR4 ba hrl hX4 hC4 hI4
        gi_wp2_with (gi_at_builtin; go_loud (refine wpListIn_append_own _ rfl _ _ 74 rfl (h + 1) 77 i0 _ 4 64 Try.underlying74 hJ0.out hJ1.out hJ2.out hJ3.out rfl (by decide) (.slice VA out.length vc) out.length _ rfl hO6.out ⟨w4.heap.size, 0, none⟩ 1 1 (Rt.enc (⟨y.num, .slice PA y.ps.length pc, .slice QA y.ins.length qc, y.c⟩ : Rt)) rfl rfl (four_ofs (r := (⟨y.num, .slice PA y.ps.length pc, .slice QA y.ins.length qc, y.c⟩ : Rt)) rfl) hone.out (by unfold maxLen; omega) (by omega) (by simp; omega) ?_); intro v' w5 hown hgr _; have hb8 := b8.out.kept hgr (fun e => by have := (hO6.out.lt q e).1; have := hgq'.out; have := hgh'.out; omega); have u85 := hb8.cell; have f85 := hb8.fz; obtain ⟨ga, ca, rfl⟩ := ownsRow_succ hown)
        have hFin := TB.push hT5.out hO5.out hA5.out hR5.out hown hgr
        have hk6 := keeps_push (n := w.heap.size) (Bs := Bs) (q := q) (v' := .slice (some ⟨ga, 0, none⟩) (out.length + 1) ca) hO6.out hgr (by have := hq4'.out; have := hgq'.out; have := hgh'.out; omega) hT5.out.be.size (by have := hq4'.out; omega) (by have := hgq'.out; have := hgh'.out; have := Zb.out; omega)
        have hk3 := keeps_below (n := w.heap.size) (Bs := Bs) (t := 27) hBeh.out hB0.out.size
        exact ⟨((hk3.1.trans hk4.out.1).trans hk5.out.1).trans hk6.1, ((hk3.2.t hk4.out.2).t hk5.out.2).t hk6.2, ⟨_, _, _, hN.out, hFin⟩⟩
      · try simp only [List.getElem_toArray, List.getElem_cons_zero, List.getElem_cons_succ]
        go_simp
        have aB := (Below.refl W.drew.heap.size W.drew).alloc (Nat.le_refl _) (.cells #[.int .i64 0, .slice none 0 0, .slice none 0 0, .int .i64 0] 77)
        have hNB := TX.new (w := W.drew) (g := W.heap.size) zeroRt rfl
        have l2b := (aB.cell (p := ⟨w.heap.size, 0, none⟩) l2).trans d2
        have l3b := (aB.cell (p := ⟨w.heap.size + 1, 0, none⟩) l3).trans d3
        have lnb := (aB.cell (p := ⟨nb, no + k, none⟩) ln).trans dn
        have zB : (W.drew.alloc (.cells #[.int .i64 0, .slice none 0 0, .slice none 0 0, .int .i64 0] 77)).heap.size = W.heap.size + 1 := World.size_alloc _ _
        refine hK.out _ _ ⟨l2b, l3b, lnb⟩ (fun hHeld => ?_)
        clear hK K
        try simp only [Act.put, List.setIfInBounds_toArray, List.set_cons_zero, List.set_cons_succ]
        refine wpAnyH_ready (rs := [6]) (by kernel_rfl) (by simp) ?_
        refine AllReadyH.cons rfl (fun K hK => ?_) AllReadyH.nil
        try simp only [List.getElem_toArray, List.getElem_cons_zero, List.getElem_cons_succ]
        go_simp
        go_at_call 137
        refine (hTo.out _ hBa.out).mono ?_
        rintro e w2 ⟨r, rfl, hr, hb2⟩
        dsimp only [Option.getD_some, Option.isSome_some] at hr ⊢
        obtain ⟨PA, pc, QA, qc, rfl, hp, hq⟩ := hr.form
        dsimp only
        have hb3 : Below (W.heap.size + 1) (W.drew.alloc (.cells #[.int .i64 0, .slice none 0 0, .slice none 0 0, .int .i64 0] 77)) w2 := by rw [← zB]; exact hb2
        have l2w : w.heap.size < W.heap.size + 1 := by omega
        have l3w : w.heap.size + 1 < W.heap.size + 1 := by omega
        have lnw : nb < W.heap.size + 1 := by omega
        have e2 := (hb3.cell (p := ⟨w.heap.size, 0, none⟩) l2w).trans l2b
        have e3 := (hb3.cell (p := ⟨w.heap.size + 1, 0, none⟩) l3w).trans l3b
        have en := (hb3.cell (p := ⟨nb, no + k, none⟩) lnw).trans lnb
        have hT4 : TX w2 W.heap.size zeroRt := CB.below hNB hb3 (Nat.lt_succ_self _)
        have q0 := (TX.cells hT4).1
        have q1 := (TX.cells hT4).2.1
        have q2 := (TX.cells hT4).2.2.1
        have q3 := (TX.cells hT4).2.2.2
        have f0 := (TX.fz hT4).1
        have f1 := (TX.fz hT4).2.1
        have f2 := (TX.fz hT4).2.2.1
        have f3 := (TX.fz hT4).2.2.2
        refine hK.out _ _ ⟨e2, e3, en⟩ (fun hHeld => ?_)
        clear hK K
        try simp only [Act.put, List.setIfInBounds_toArray, List.set_cons_zero, List.set_cons_succ]
        refine wpAnyH_take (i := 7) (v := ?_) rfl (by kernel_rfl) (by kernel_rfl) (by kernel_rfl) (fun _ _ _ h => h) (Or.inl ⟨by rfl, ?_⟩) (by assumption) ?_
        rotate_left 1
        · (intro w hSw; (try dsimp only at hSw); go_simp; try with_reducible rfl)
        try simp only [Act.put, List.setIfInBounds_toArray, List.set_cons_zero, List.set_cons_succ]
        refine wpAnyH_take (i := 8) (v := ?_) rfl (by kernel_rfl) (by kernel_rfl) (by kernel_rfl) (fun _ _ _ h => h) (Or.inl ⟨by rfl, ?_⟩) (by assumption) ?_
        rotate_left 1
        · (intro w hSw; (try dsimp only at hSw); go_simp; try with_reducible rfl)
        try simp only [Act.put, List.setIfInBounds_toArray, List.set_cons_zero, List.set_cons_succ]
        refine wpAnyH_take (i := 9) (v := ?_) rfl (by kernel_rfl) (by kernel_rfl) (by kernel_rfl) (fun _ _ _ h => h) (Or.inl ⟨by rfl, ?_⟩) (by assumption) ?_
        rotate_left 1
        · (intro w hSw; (try dsimp only at hSw); go_simp; try with_reducible rfl)
        try simp only [Act.put, List.setIfInBounds_toArray, List.set_cons_zero, List.set_cons_succ]
        refine wpAnyH_ready (rs := [11]) (by kernel_rfl) (by simp) ?_
        refine AllReadyH.cons rfl (fun K hK => ?_) AllReadyH.nil
        try simp only [List.getElem_toArray, List.getElem_cons_zero, List.getElem_cons_succ]
        go_simp
        have a5 := below_put4t (Below.refl W.heap.size w2) (Nat.le_refl _) (⟨y.num, .slice PA y.ps.length pc, .slice QA y.ins.length qc, y.c⟩ : Rt)
        refine hK.out _ _ ⟨(a5.cell (p := ⟨w.heap.size, 0, none⟩) l2).trans e2, (a5.cell (p := ⟨w.heap.size + 1, 0, none⟩) l3).trans e3, (a5.cell (p := ⟨nb, no + k, none⟩) ln).trans en⟩ (fun hHeld => ?_)
        clear hK K
        try simp only [Act.put, List.setIfInBounds_toArray, List.set_cons_zero, List.set_cons_succ]
        refine wpAnyH_take (i := 12) (v := ?_) rfl (by kernel_rfl) (by kernel_rfl) (by kernel_rfl) (fun _ _ _ h => h) (Or.inl ⟨by rfl, ?_⟩) (by assumption) ?_
        rotate_left 1
        · (intro w hSw; (try dsimp only at hSw); go_simp; try with_reducible rfl)
        try simp only [Act.put, List.setIfInBounds_toArray, List.set_cons_zero, List.set_cons_succ]
        refine wpAnyH_done (by kernel_rfl) ?_ _
        dsimp only [OnlyN]
        have hX := TX.put hT4 (⟨y.num, .slice PA y.ps.length pc, .slice QA y.ins.length qc, y.c⟩ : Rt)
        have hBe : Below W.heap.size W (put4t w2 W.heap.size (⟨y.num, .slice PA y.ps.length pc, .slice QA y.ins.length qc, y.c⟩ : Rt)) := ((show Below W.heap.size W (W.drew.alloc (.cells #[.int .i64 0, .slice none 0 0, .slice none 0 0, .int .i64 0] 77)) from ⟨aB.os, aB.tape, aB.output, aB.size, aB.block⟩).trans (hb3.mono (Nat.le_succ _))).trans a5
        have c5 : Chg W.heap.size (W.heap.size + 1) w2 (put4t w2 W.heap.size (⟨y.num, .slice PA y.ps.length pc, .slice QA y.ins.length qc, y.c⟩ : Rt)) := ((((Chg.refl _ _ w2).setCell (p := ⟨W.heap.size, 0, none⟩) ⟨Nat.le_refl _, Nat.lt_succ_self _⟩ _).setCell (p := ⟨W.heap.size, 1, none⟩) ⟨Nat.le_refl _, Nat.lt_succ_self _⟩ _).setCell (p := ⟨W.heap.size, 2, none⟩) ⟨Nat.le_refl _, Nat.lt_succ_self _⟩ _).setCell (p := ⟨W.heap.size, 3, none⟩) ⟨Nat.le_refl _, Nat.lt_succ_self _⟩ _
        have hR := ((hr.chg c5 (.inr (Nat.le_of_eq zB.symm))).more (L' := W.heap.size) (by rw [zB]; exact Nat.le_succ _) c5.size)
        have hpz : W.heap.size ≤ W.heap.size := Nat.le_refl _
        obtain ⟨w3, hw3⟩ : ∃ w3, w3 = put4t w2 W.heap.size (⟨y.num, .slice PA y.ps.length pc, .slice QA y.ins.length qc, y.c⟩ : Rt) := ⟨_, rfl⟩
        rw [← hw3] at hBe hR hX
        show Exit.then _ _ _ _ (put4t w2 W.heap.size (⟨y.num, .slice PA y.ps.length pc, .slice QA y.ins.length qc, y.c⟩ : Rt))
        rw [← hw3]
        clear hw3 a5 c5 aB hNB zB hb2 hb3 hp hq hr e2 e3 en d2 d3 dn hHeld l2b l3b lnb hT4 q0 q1 q2 q3 f0 f1 f2 f3
        try simp only [Act.put, List.getElem_toArray, List.getElem_cons_zero, List.getElem_cons_succ, List.setIfInBounds_toArray, List.set_cons_zero, List.set_cons_succ]
        have hT3 := hTBh.out.below hBe
        have u9 := hT3.b9.cell
        have q0 := (TX.cells hX).1
        have q1 := (TX.cells hX).2.1
        have q2 := (TX.cells hX).2.2.1
        have q3 := (TX.cells hX).2.2.2
        have hXlt : W.heap.size < w3.heap.size := by rcases Nat.lt_or_ge W.heap.size w3.heap.size with hh | hh; exact hh; exact absurd (show w3.heap[W.heap.size]? = some _ from hX) (by rw [Array.getElem?_eq_none hh]; simp)
        have hLay := Lib.hid (layTile_any g es.length W.heap.size w3.heap.size k cs (⟨y.num, .slice PA y.ps.length pc, .slice QA y.ins.length qc, y.c⟩ : Rt) y w3 hslh.out.1 hk' hl24 hT3.ib hR (Nat.le_refl _) (.inl hgW) hps.out.1 hps.out.2.1)
        have hT3h := Lib.hid hT3
        have hBeh := Lib.hid hBe
        have hRh := Lib.hid hR
        have hXh := Lib.hid hX
        clear hT3 hBe hR hX
        gi_wp2
        refine ⟨trivial, (CallsIn.inRound l (callsIn_wide.2 hLay.out)).mono ?_⟩
        rintro e w4 ⟨rfl, hI4, hC4⟩
        have hk4 := Lib.hid (keeps_lay (n := w.heap.size) (Bs := Bs) (t := 27) hT3h.out.ib hC4 (by have := hq4'.out; have := hgq'.out; omega) (by have := hgh'.out; have := Zb.out; omega))
        have hT4 := hT3h.out.lay hC4 hI4
        have hX4 : TX w4 W.heap.size (⟨y.num, .slice PA y.ps.length pc, .slice QA y.ins.length qc, y.c⟩ : Rt) := (hC4.block W.heap.size hXlt (.inr (by omega))).trans hXh.out
        have r0 := (TX.cells hX4).1
        have r1 := (TX.cells hX4).2.1
        have r2 := (TX.cells hX4).2.2.1
        have r3 := (TX.cells hX4).2.2.2
        have u8 := hT4.b8.cell
        have hR4 := (hRh.out.chg hC4 (.inr (by omega))).more hghW.out hC4.size
        have z34 := hC4.size
        obtain ⟨rs, ⟨VA, vc, rfl⟩, hOK, hAll⟩ := hT4.rows
        have ba := (Below.refl w4.heap.size w4).alloc (Nat.le_refl _) (.cells #[.int .i64 y.num, .slice PA y.ps.length pc, .slice QA y.ins.length qc, .int .i64 y.c] 77)
        have hT5 := Lib.hid (hT4.below ba)
        have hO5 := Lib.hid ((hOK.below ba (Nat.le_refl _)).more ba.size)
        have hA5 := Lib.hid ((hAll.below ba (Nat.le_refl _)).more (Nat.le_refl _) ba.size)
        have hR5 := Lib.hid ((hR4.below ba (Nat.le_refl _)).more (Nat.le_refl _) ba.size)
        have hk5 := Lib.hid (keeps_below (n := w.heap.size) (Bs := Bs) (t := 27) ba hT4.be.size)
        have hrl : rs.length = out.length := hAll.1
        have hO6 := Lib.hid (show (w4.alloc (.cells #[.int .i64 y.num, .slice PA y.ps.length pc, .slice QA y.ins.length qc, .int .i64 y.c] 77)).ownsRow (h + 1) 77 4 (.slice VA out.length vc) out.length (rs.flatMap Rt.enc) from by have := hO5.out.1; rwa [hrl] at this)
        have hone := Lib.hid (rt_one hR4)
        have h24 : out.length + 1 ≤ 25 := by have := hslh.out.2; omega
        have zh : h + 1 ≤ w4.heap.size := by have := hghW.out; have := hBeh.out.size; omega
        have b8 := Lib.hid hT5.out.b8
        clear hT4 hOK hAll hR4 ba hrl hX4 hC4 hI4
        gi_wp2_with (gi_at_builtin; go_loud (refine wpListIn_append_own _ rfl _ _ 74 rfl (h + 1) 77 i0 _ 4 64 Try.underlying74 hJ0.out hJ1.out hJ2.out hJ3.out rfl (by decide) (.slice VA out.length vc) out.length _ rfl hO6.out ⟨w4.heap.size, 0, none⟩ 1 1 (Rt.enc (⟨y.num, .slice PA y.ps.length pc, .slice QA y.ins.length qc, y.c⟩ : Rt)) rfl rfl (four_ofs (r := (⟨y.num, .slice PA y.ps.length pc, .slice QA y.ins.length qc, y.c⟩ : Rt)) rfl) hone.out (by unfold maxLen; omega) (by omega) (by simp; omega) ?_); intro v' w5 hown hgr _; have hb8 := b8.out.kept hgr (fun e => by have := (hO6.out.lt q e).1; have := hgq'.out; have := hgh'.out; omega); have u85 := hb8.cell; have f85 := hb8.fz; obtain ⟨ga, ca, rfl⟩ := ownsRow_succ hown)
        have hFin := TB.push hT5.out hO5.out hA5.out hR5.out hown hgr
        have hk6 := keeps_push (n := w.heap.size) (Bs := Bs) (q := q) (v' := .slice (some ⟨ga, 0, none⟩) (out.length + 1) ca) hO6.out hgr (by have := hq4'.out; have := hgq'.out; have := hgh'.out; omega) hT5.out.be.size (by have := hq4'.out; omega) (by have := hgq'.out; have := hgh'.out; have := Zb.out; omega)
        have hk3 := keeps_below (n := w.heap.size) (Bs := Bs) (t := 27) hBeh.out hB0.out.size
        exact ⟨((hk3.1.trans hk4.out.1).trans hk5.out.1).trans hk6.1, ((hk3.2.t hk4.out.2).t hk5.out.2).t hk6.2, ⟨_, _, _, hN.out, hFin⟩⟩
      all_goals skip -- some
  case done =>
    rintro D ys W hD rfl ⟨cs, out, V, hst, hTB⟩ hK
    rw [stF_upto] at hst
    have hlen' := cvSt_len hst
    have hE := Lib.hid (slEqual_any g (g + 1) L' B' (some ⟨g, 0, none⟩) (some ⟨nb, no, none⟩) es.length c' es.length cs nums W hl hlen'.1 hLn.out hTB.ib.toIS (hISn.out.below hTB.be hBn.out) hTB.ib.lt (Nat.le_trans hBn.out hTB.be.size))
    rw [firstI_eq hlen'.1 hLn.out] at hE
    have u9 := hTB.b9.cell
    have u3 := hTB.b3.cell
    obtain ⟨rs, ⟨VA, vc, rfl⟩, hOK, hAll⟩ := hTB.rows
    have hOKh := Lib.hid hOK
    have hAllh := Lib.hid hAll
    have hTBh := Lib.hid hTB
    have hsth := Lib.hid hst
    have hKh := Lib.hid hK
    clear hTB hst hK hOK hAll
    gi_wp2
    refine ⟨trivial, callsIn_wide.2 (hE.out.mono ?_)⟩
    rintro e W' ⟨rfl, hb⟩
    have hT := hTBh.out.below hb
    have hK2 : W'.heap[D]? = some (.deferred (some [])) := (hb.block D (Array.getElem?_eq_some_iff.1 hKh.out).1).trans hKh.out
    have hTh := Lib.hid hT
    have hK2h := Lib.hid hK2
    have v8 := hT.b8.cell
    have v4 := hT.b4.cell
    have v5 := hT.b5.cell
    have f4 := hT.b4.fz
    have f5 := hT.b5.fz
    clear hT hK2
    by_cases hq : cs = nums
    · rw [decide_eq_true hq]
      gi_wp2
      obtain ⟨W2, hW2⟩ : ∃ W2, W2 = (W'.setCell ⟨w.heap.size + 1 + 1, 0, none⟩ (.slice VA out.length vc)).setCell ⟨w.heap.size + 1 + 1 + 1, 0, none⟩ (.bool true) := ⟨_, rfl⟩
      rw [← hW2]
      have hT := hTh.out
      have q4 := hT.q4; have gq := hT.gq; have gh := hT.gh
      have g4 : BX W2 (w.heap.size + 1 + 1) 74 (.slice VA out.length vc) := by rw [hW2]; exact (hT.b4.set _).other 0 _ (by omega)
      have g5 : BX W2 (w.heap.size + 1 + 1 + 1) 4 (.bool true) := by rw [hW2]; exact (hT.b5.other 0 _ (by omega)).set _
      have hK3 : W2.heap[D]? = some (.deferred (some [])) := by rw [hW2]; exact ((KeepsOthers.setCell _ _ _).trans (KeepsOthers.setCell _ _ _)).same D _ hK2h.out rfl
      have hch : Chg (w.heap.size + 1 + 1) (w.heap.size + 1 + 1 + 1 + 1) W' W2 := by rw [hW2]; exact ((Chg.refl _ _ W').setCell (p := ⟨w.heap.size + 1 + 1, 0, none⟩) ⟨Nat.le_refl _, Nat.lt_succ_of_lt (Nat.lt_succ_self _)⟩ _).setCell (p := ⟨w.heap.size + 1 + 1 + 1, 0, none⟩) ⟨Nat.le_succ _, Nat.lt_succ_self _⟩ _
      have hO2 := ((hOKh.out.below hb (Nat.le_refl _)).more hb.size |>.chg hch (.inr (by omega))).more hch.size
      have hA2 := ((hAllh.out.below hb (Nat.le_refl _)).more (Nat.le_refl _) hb.size |>.chg hch (.inr (by omega))).more (Nat.le_refl _) hch.size
      have hb2 : Below w.heap.size w W2 := below_chg hT.be hch hT.be.size (by omega)
      have hto : tocR es nums = some out := by unfold tocR; rw [if_pos ⟨ht, hLn.out⟩, hsth.out]; simp only; rw [if_pos hq]
      have hDw : w.heap.size ≤ D := Nat.le_trans B9.out.size hD
      obtain ⟨A1, c1, rs1, hV, hR1, hA1, hB1⟩ := cover_ends (o := some out) (lo := h + 1) (by omega) hK3 hDw hO2 hA2 hb2
      have rD : ∀ r, some D = some r → ∃ o : Obj, W2.heap[r]? = some o ∧ o.isCells = false := fun r e => by cases e; exact ⟨_, hK3, rfl⟩
      have c4 := (g4.kept (grownBy_putObj' W2 D (.deferred none)) (row_not g4 rD)).cell
      have c5 := (g5.kept (grownBy_putObj' W2 D (.deferred none)) (row_not g5 rD)).cell
      rw [hto]
      rw [hV] at c4
      refine ⟨by simp, .inl ⟨_, _, rfl, run_takeDeferred hK3, ?_⟩⟩
      refine ⟨_, ?_, A1, c1, rs1, rfl, hR1, hA1, hB1⟩
      simp [results, Try.f139, go_sem, c4, c5]
    · rw [decide_eq_false hq]
      gi_wp2
      obtain ⟨W2, hW2⟩ : ∃ W2, W2 = (W'.setCell ⟨w.heap.size + 1 + 1, 0, none⟩ (.slice none 0 0)).setCell ⟨w.heap.size + 1 + 1 + 1, 0, none⟩ (.bool false) := ⟨_, rfl⟩
      rw [← hW2]
      have hT := hTh.out
      have g4 : BX W2 (w.heap.size + 1 + 1) 74 (.slice none 0 0) := by rw [hW2]; exact (hT.b4.set _).other 0 _ (by omega)
      have g5 : BX W2 (w.heap.size + 1 + 1 + 1) 4 (.bool false) := by rw [hW2]; exact (hT.b5.other 0 _ (by omega)).set _
      have hK3 : W2.heap[D]? = some (.deferred (some [])) := by rw [hW2]; exact ((KeepsOthers.setCell _ _ _).trans (KeepsOthers.setCell _ _ _)).same D _ hK2h.out rfl
      have hb2 : Below w.heap.size w W2 := by rw [hW2]; exact (hT.be.setCell (p := ⟨w.heap.size + 1 + 1, 0, none⟩) (show w.heap.size ≤ w.heap.size + 1 + 1 by omega) _).setCell (p := ⟨w.heap.size + 1 + 1 + 1, 0, none⟩) (show w.heap.size ≤ w.heap.size + 1 + 1 + 1 by omega) _
      have hto : tocR es nums = none := by unfold tocR; rw [if_pos ⟨ht, hLn.out⟩, hsth.out]; simp only; rw [if_neg hq]
      have hDw : w.heap.size ≤ D := Nat.le_trans B9.out.size hD
      obtain ⟨A1, c1, rs1, hV, hR1, hA1, hB1⟩ := cover_ends (o := none) (lo := w.heap.size) (Nat.le_refl _) hK3 hDw (OK.nil _ _ _ _) ⟨rfl, fun k h1 _ => absurd h1 (Nat.not_lt_zero _)⟩ hb2
      have rD : ∀ r, some D = some r → ∃ o : Obj, W2.heap[r]? = some o ∧ o.isCells = false := fun r e => by cases e; exact ⟨_, hK3, rfl⟩
      have c4 := (g4.kept (grownBy_putObj' W2 D (.deferred none)) (row_not g4 rD)).cell
      have c5 := (g5.kept (grownBy_putObj' W2 D (.deferred none)) (row_not g5 rD)).cell
      rw [hto]
      rw [hV] at c4
      refine ⟨by simp, .inl ⟨_, _, rfl, run_takeDeferred hK3, ?_⟩⟩
      refine ⟨_, ?_, A1, c1, rs1, rfl, hR1, hA1, hB1⟩
      simp [results, Try.f139, go_sem, c4, c5]
  case stop =>
    rintro D cd pre W hD ⟨k, hk, rfl⟩ ⟨rfl, hst, k4, k5, hbe⟩ hK
    rw [stF_upto] at hst
    have hsth := Lib.hid (cvSt_none hst es.length hk)
    clear hst
    gi_wp2
    have hto : tocR es nums = none := by unfold tocR; rw [if_pos ⟨ht, hLn.out⟩, hsth.out]
    have hDw : w.heap.size ≤ D := Nat.le_trans B9.out.size hD
    obtain ⟨A1, c1, rs1, hV, hR1, hA1, hB1⟩ := cover_ends (o := none) (lo := w.heap.size) (Nat.le_refl _) hK hDw (OK.nil _ _ _ _) ⟨rfl, fun k h1 _ => absurd h1 (Nat.not_lt_zero _)⟩ hbe
    have rD : ∀ r, some D = some r → ∃ o : Obj, W.heap[r]? = some o ∧ o.isCells = false := fun r e => by cases e; exact ⟨_, hK, rfl⟩
    have c4 := (k4.kept (grownBy_putObj' W D (.deferred none)) (row_not k4 rD)).cell
    have c5 := (k5.kept (grownBy_putObj' W D (.deferred none)) (row_not k5 rD)).cell
    rw [hto]
    rw [hV] at c4
    refine ⟨by simp, .inl ⟨_, _, rfl, run_takeDeferred hK, ?_⟩⟩
    refine ⟨_, ?_, A1, c1, rs1, rfl, hR1, hA1, hB1⟩
    simp [results, Try.f139, go_sem, c4, c5]
end Go.Proofs.Ytgcbfiamhpfkhaa

/- The cover that a comparison chooses: the program. -/
namespace Go.Proofs.Ytgcbfiamhpfkhaa
open Go.RowKit Go.Shelf
set_option linter.unusedVariables false
set_option maxRecDepth 100000
attribute [local go_sem] Oper.semAt_some

/-- The cover when some rounds have been. -/
def chFG (es : List Nd) (ch : Nat → Ti) (pre : List (Bw es)) : List Int := pre.foldl (fun cs x => if cs.getD x.1.1 0 = -2 then layL cs x.1.1 (ch x.1.1) else cs) (opn es.length)
theorem chFG_snoc (es : List Nd) (ch : Nat → Ti) (pre : List (Bw es)) (x : Bw es) : chFG es ch (pre ++ [x]) = if (chFG es ch pre).getD x.1.1 0 = -2 then layL (chFG es ch pre) x.1.1 (ch x.1.1) else chFG es ch pre := by
  unfold chFG; rw [List.foldl_append]; rfl
theorem chFG_upto (es : List Nd) (ch : Nat → Ti) (h : 1 ≤ es.length) : ∀ k, chFG es ch (uptoB (bwF es h) k) = chSt es.length ch k
  | 0 => rfl
  | k + 1 => by rw [uptoB_succ, chFG_snoc, chFG_upto es ch h k]; rfl
theorem chFG_len (es : List Nd) (ch : Nat → Ti) (pre : List (Bw es)) : (chFG es ch pre).length = es.length := by
  unfold chFG
  have : ∀ (l : List (Bw es)) (cs : List Int), (l.foldl (fun cs x => if cs.getD x.1.1 0 = -2 then layL cs x.1.1 (ch x.1.1) else cs) cs).length = cs.length := by
    intro l
    induction l with
    | nil => intro cs; rfl
    | cons x l ih => intro cs; rw [List.foldl_cons, ih]; split; exact layL_len _ _ _; rfl
  rw [this, opn_len]
/-- What lies in the boxes of chosenCover. -/
structure CXG (w0 W : World) (n : Nat) (A : Option Addr) (c : Nat) (F : Value) (g h : Nat) (cs : List Int) : Prop where
  b2 : BX W w0.heap.size 27 (.slice A n c)
  b3 : BX W (w0.heap.size + 1) 83 F
  gq : w0.heap.size + 1 < g
  ib : IB W g 3 cs
  gh : g < h
  b9 : BX W h 23 (.slice (some ⟨g, 0, none⟩) n n)
  be : Below w0.heap.size w0 W
theorem CXG.kept {w0 W W' : World} {n : Nat} {A : Option Addr} {c : Nat} {F : Value} {g h : Nat} {cs : List Int} {row : Option Nat} (hT : CXG w0 W n A c F g h cs) (hg : W.grownBy W' row) (hr : ∀ r, row = some r → w0.heap.size ≤ r ∧ ∃ o : Obj, W.heap[r]? = some o ∧ o.isCells = false) : CXG w0 W' n A c F g h cs := by
  have hr' : ∀ r, row = some r → ∃ o : Obj, W.heap[r]? = some o ∧ o.isCells = false := fun r e => (hr r e).2
  have bx : ∀ {b : Nat} {t : TypeId} {v : Value}, BX W b t v → BX W' b t v := fun hb => hb.kept hg (row_not hb hr')
  exact ⟨bx hT.b2, bx hT.b3, hT.gq, (hg.block g hT.ib.lt (fun e => row_not (show W.heap[g]? = some (.cells (intCells cs) 3 (0, 0)) from hT.ib) hr' e.symm)).trans hT.ib, hT.gh, bx hT.b9, hT.be.grown hg hT.be.size (fun k e => (hr k e).1)⟩
theorem CXG.below {w0 W W' : World} {n : Nat} {A : Option Addr} {c : Nat} {F : Value} {g h : Nat} {cs : List Int} (hT : CXG w0 W n A c F g h cs) (hb : Below W.heap.size W W') : CXG w0 W' n A c F g h cs :=
  ⟨hT.b2.next hb, hT.b3.next hb, hT.gq, hT.ib.below hb hT.ib.lt, hT.gh, hT.b9.next hb, hT.be.trans (hb.mono hT.be.size)⟩
theorem CXG.lay {w0 W W' : World} {n : Nat} {A : Option Addr} {c : Nat} {F : Value} {g h : Nat} {cs cs' : List Int} (hT : CXG w0 W n A c F g h cs) (hc : Chg g (g + 1) W W') (hi : IB W' g 3 cs') : CXG w0 W' n A c F g h cs' := by
  have gq := hT.gq; have gh := hT.gh
  exact ⟨hT.b2.chg hc (.inl (by omega)), hT.b3.chg hc (.inl (by omega)), gq, hi, gh, hT.b9.chg hc (.inr (by omega)), below_chg hT.be hc hT.be.size (by omega)⟩

set_option maxHeartbeats 8000000 in
theorem chosenG_any (L B : Nat)  (A : Option Addr) (c : Nat) (es : List Nd) (w : World) (ht : treeR es = true) (hes : NS w L B A es) (hB : B ≤ w.heap.size)  :
    Calls Try.prog 66 #[.slice A es.length c, .func (.func 74) #[] #[]] w fun e w' => ∃ g, e = .returned (.slice (some ⟨g, 0, none⟩) es.length es.length) ∧ w.heap.size ≤ g ∧ IB w' g 3 (chR es.length (chE kG es)) ∧ Below w.heap.size w w' := by
  have hg : good es = true := by unfold treeR at ht; simp only [Bool.and_eq_true] at ht; exact ht.1
  obtain ⟨hl1, hl24, hok⟩ := good_len hg
  have hl : es.length ≤ 1048576 := by omega
  have HO := Lib.hid fun (W : World) => openCover_any A c es.length W hl1 hl24
  have HT := Lib.hid fun (k : Nat) (hk : k < es.length) (W : World) (hW : Below w.heap.size w W) => (show Calls Try.prog 62 #[.slice A es.length c, .int .i64 (k : Int)] W (TilesAre W (tsN es k)) from by rw [tsN_eq hk]; exact tilesOf_w L B A c es k hk W (hes.below hW hB) (Nat.le_trans hB hW.size) hl24 hok)
  have HM := Lib.hid fun (k : Nat) (hk : k < es.length) (L' B' : Nat) (A' : Option Addr) (c' : Nat) (rs : List Rt) (W : World) (hrs : RS Rt.enc 4 W L' B' A' rs) (hall : AllOk W L' B' rs (tsN es k)) (hB' : B' ≤ W.heap.size) (hW : Below w.heap.size w W) => (show Calls Try.prog 123 #[.slice A' rs.length c', .func (.func 74) #[] #[]] W fun e w' => ∃ r : Rt, e = .returned (.agg #[.int .i64 r.num, r.p, r.q, .int .i64 r.c]) ∧ RtOk w' L' B' r (chE kG es k) ∧ Below W.heap.size W w' from by
    have hl1 := tsN_pos hok hk
    have hl13 : (tsN es k).length ≤ 13 := tilesL_len _ _
    have hps : ∀ x ∈ tsN es k, ∀ p ∈ x.ps, 0 ≤ p ∧ p < (es.length : Int) := fun x hx p hp => by have := tsN_ps hok hk x hx p hp; omega
    have hp2 : ∀ x ∈ tsN es k, x.ps.length ≤ 2 := tsN_ps2
    have hcl : ∀ x ∈ tsN es k, (0 ≤ x.c ∧ x.c ≤ 4) ∧ x.ins.length ≤ 2 := fun x hx => ⟨tsN_cb hk x hx, by obtain ⟨t, _, _, _, hm⟩ := tsN_c hk hx; exact (mt_len hm).2⟩
    exact minFuncG_any L' B' A' c' rs (tsN es k) W hl1 hl13 hrs hall hB' hcl)
  have hps := Lib.hid (chE_ps hok kG)
  have hps2 := Lib.hid (chE_ps2 hok kG)
  have HN := Lib.hid fun (W : World) (hW : Below w.heap.size w W) => hes.below hW hB
  have HKb := Lib.hid fun (W : World) (hW : Below w.heap.size w W) => hes.below hW hB
  clear HN
  obtain ⟨F, hF⟩ : ∃ F, F = (Value.func (.func 74) #[] #[]) := ⟨_, rfl⟩
  obtain ⟨W2, hW2⟩ : ∃ W2, W2 = (w.alloc (.cells #[.slice A es.length c] 27)).alloc (.cells #[Value.func (.func 74) #[] #[]] 83) := ⟨_, rfl⟩
  have z1 := World.size_alloc w (.cells #[.slice A es.length c] 27)
  have z2 : W2.heap.size = w.heap.size + 1 + 1 := by rw [hW2, World.size_alloc, z1]
  have B2 : Below w.heap.size w W2 := by rw [hW2]; exact ((Below.refl _ w).alloc (Nat.le_refl _) _).alloc (by omega) _
  have k2 : BX W2 w.heap.size 27 (.slice A es.length c) := by rw [hW2]; exact (BX.new w _ _).al _
  have k3 : BX W2 (w.heap.size + 1) 83 (Value.func (.func 74) #[] #[]) := by
    rw [hW2]; have h := BX.new (w.alloc (.cells #[.slice A es.length c] 27)) 83 (Value.func (.func 74) #[] #[])
    rw [z1] at h; exact h
  have hW2h := Lib.hid hW2.symm
  have B2h := Lib.hid B2
  have K2 := Lib.hid k2
  have K3 := Lib.hid k3
  have Z2 := Lib.hid z2
  have m2 := k2.cell
  clear z1 z2 hW2 B2 k2 k3
  refine (callsIn_wide (n := 6)).1 ?_
  refine callsIn_of_wp_marks Try.func66 rfl trivial ?_ rfl
  simp only [Try.ntmps66, List.size_toArray, List.length_cons, List.length_nil, Nat.reduceAdd, Nat.reduceSub, Array.replicate_succ, Array.replicate_zero, List.push_toArray, List.append_toArray, List.nil_append, List.cons_append]
  gi_wp2
  rw [hW2h.out]
  gi_wp2
  refine ⟨trivial, callsIn_wide.2 ((HO.out W2).mono ?_)⟩
  rintro e W7 ⟨g, rfl, hg7, hib, hb7⟩
  have I7 := Lib.hid hib
  have R2 := Lib.hid (K2.out.next hb7)
  have R3 := Lib.hid (K3.out.next hb7)
  have B7 := Lib.hid (B2h.out.trans (hb7.mono B2h.out.size))
  have Zg := Lib.hid (show w.heap.size + 1 < g by have := Z2.out; omega)
  have hgl := hib.lt
  have m3 := R2.out.cell
  have s2 : w.heap.size < W7.heap.size := R2.out.lt
  clear hib hb7 hg7 K2 K3 B2h Z2 HO m2 hW2h
  gi_wp2
  have z8 := World.size_alloc W7 (.cells #[.slice (some ⟨g, 0, none⟩) es.length es.length] 23)
  have a8 := (Below.refl W7.heap.size W7).alloc (Nat.le_refl _) (.cells #[.slice (some ⟨g, 0, none⟩) es.length es.length] 23)
  have S9 := Lib.hid (BX.new W7 23 (.slice (some ⟨g, 0, none⟩) es.length es.length))
  have S2 := Lib.hid (R2.out.next a8)
  have S3 := Lib.hid (R3.out.next a8)
  have I8 := Lib.hid (I7.out.below a8 hgl)
  have B8 := Lib.hid (B7.out.trans (a8.mono B7.out.size))
  obtain ⟨W8, hW8⟩ : ∃ W8, W8 = W7.alloc (.cells #[.slice (some ⟨g, 0, none⟩) es.length es.length] 23) := ⟨_, rfl⟩
  obtain ⟨h, hh⟩ : ∃ h, h = W7.heap.size := ⟨_, rfl⟩
  rw [← hW8, ← hh]
  rw [← hW8, ← hh] at S9 z8
  rw [← hW8] at S2 S3 I8 B8
  have Zh := Lib.hid (show g < h by omega)
  have Z8 := Lib.hid z8
  clear a8 R2 R3 I7 B7 hW8 hh m3 s2 hgl z8
  refine ⟨trivial, (bw_in Fence.wide 5 trivial rfl A es.length c W8).mono ?_⟩
  rintro e W9 ⟨rfl, rfl⟩
  have a9 := (Below.refl W8.heap.size W8).alloc (Nat.le_refl _) (.cells #[.slice A es.length c] 27)
  have T9 := Lib.hid (S9.out.next a9)
  have T2 := Lib.hid (S2.out.next a9)
  have T3 := Lib.hid (S3.out.next a9)
  have I9 := Lib.hid (I8.out.below a9 I8.out.lt)
  have B9 := Lib.hid (B8.out.trans (a9.mono B8.out.size))
  have TB9 := Lib.hid (BX.new W8 27 (.slice A es.length c))
  have hes9 := Lib.hid (HKb.out _ B9.out)
  have Zb := Lib.hid (show h < W8.heap.size by have := Z8.out; omega)
  obtain ⟨Bs, hBs⟩ : ∃ Bs, Bs = W8.heap.size := ⟨_, rfl⟩
  obtain ⟨W9, hW9⟩ : ∃ W9, W9 = W8.alloc (.cells #[.slice A es.length c] 27) := ⟨_, rfl⟩
  rw [← hBs, ← hW9]
  rw [← hW9] at T9 T2 T3 I9 B9 hes9 TB9
  rw [← hBs] at Zb TB9
  clear a9 S2 S3 S9 I8 B8 hW9 hBs Z8
  gi_wp2
  refine wpIn_rangeFunc_ownF rfl (by omega) (gf := 163) (lb := #[.pointer (some ⟨Bs, 0, none⟩)]) rfl trivial (enters_of Try.func163 (by kernel_rfl) rfl)
    (bw_stops Fence.wide 5 trivial rfl (by omega) Bs w.heap.size L B A c es hl hl1 W9 B9.out.size TB9.out hes9.out hB) KpB.t (KpB.b B9.out.size) (Below.refl _ _) (fun _ => rfl)
    (fun pre W => CXG w W es.length A c (Value.func (.func 74) #[] #[]) g h (chFG es (chE kG es) pre))
    (fun _ _ _ => False)
    ?hI ?hIx ?h0 ?a1 ?assign ?body ?done ?stop
  case assign =>
    intro l x W K hK
    gi_wp2
    exact hK
  case hI =>
    rintro pre W W' row hCX hg hr
    exact hCX.kept hg (fun r e => ⟨Nat.le_trans B9.out.size (hr r e).1, (hr r e).2⟩)
  case hIx =>
    rintro cd pre W W' row hh hg hr
    exact hh
  case h0 => exact ⟨T2.out, T3.out, Zg.out, I9.out, Zh.out, T9.out, B9.out⟩
  case stop =>
    rintro D cd pre W _ _ hh _
    exact hh.elim
  case done =>
    rintro D ys W hD rfl hCX hK
    rw [chFG_upto] at hCX
    have y9 := hCX.b9.cell
    have hCXh := Lib.hid hCX
    clear hCX
    gi_wp2
    have hDw : w.heap.size ≤ D := Nat.le_trans B9.out.size hD
    have hCX := hCXh.out
    have rD : ∀ r, some D = some r → w.heap.size ≤ r ∧ ∃ o : Obj, W.heap[r]? = some o ∧ o.isCells = false := fun r e => by cases e; exact ⟨hDw, _, hK, rfl⟩
    have hC2 := hCX.kept (grownBy_putObj' W D (.deferred none)) rD
    refine ⟨by simp, .inl ⟨_, _, rfl, run_takeDeferred hK, ?_⟩⟩
    exact ⟨_, results_tmp rfl _ _ _, g, rfl, by have := hC2.gq; omega, hC2.ib, hC2.be⟩
  case body =>
    rintro l pre x W hCX hpl
    obtain ⟨⟨k, nd⟩, hk⟩ := x
    have hk' : k < es.length := hk
    have hsl := chFG_len es (chE kG es) pre
    have hsn := Lib.hid (chFG_snoc es (chE kG es) pre ⟨(k, nd), hk⟩)
    have hki : (k : Int) < (es.length : Int) := by omega
    have hk0 : (0 : Int) ≤ (k : Int) := by omega
    have y9 := hCX.b9.cell
    have yg := hCX.ib.cell k (by omega)
    rw [show (chFG es (chE kG es) pre)[k]'(by omega) = (chFG es (chE kG es) pre).getD k 0 from (getD_get (by omega)).symm] at yg
    have hgW : g < W.heap.size := hCX.ib.lt
    have hhW : h < W.heap.size := hCX.b9.lt
    have hghh := Lib.hid hCX.gh
    have hgq' := Lib.hid hCX.gq
    generalize hcn : chFG es (chE kG es) (pre ++ [⟨(k, nd), hk⟩]) = cn at *
    have hCN := Lib.hid hcn
    clear hcn
    generalize chFG es (chE kG es) pre = cs at *
    by_cases hc : cs.getD k 0 = -2
    rotate_left
    · have hs := Lib.hid (show cn = cs from by rw [hsn.out]; exact if_neg hc)
      have hCXh := Lib.hid hCX
      have hcb : (cs.getD k 0 == -2) = false := by simpa using hc
      clear hCX hsl hsn
      generalize cs.getD k 0 = xk at *
      gi_wp2
      exact ⟨KeepsOthers.refl _, ⟨Below.refl _ _, fun _ h => h⟩, by dsimp only; rw [hCN.out, hs.out]; exact hCXh.out⟩
    have hs := Lib.hid (show cn = layL cs k (chE kG es k) from by rw [hsn.out]; exact if_pos hc)
    rw [hc] at yg
    have hB0 := Lib.hid hCX.be
    have hzW := hCX.be.size
    have y2 := hCX.b2.cell
    have y3 := hCX.b3.cell
    have hTi := Lib.hid (HT.out k hk')
    have hMi := Lib.hid (HM.out k hk')
    have hpi := Lib.hid (hps.out k hk')
    have hpi2 := hps2.out k hk'
    have hCXh := Lib.hid hCX
    have hslh := Lib.hid hsl
    have hkh := Lib.hid hk'
    clear hCX hsn hc hsl
    generalize tsN es k = ts at *
    generalize chE kG es k = y at *
    gi_wp2
    have l2 : w.heap.size < W.heap.size := hCXh.out.b2.lt
    have l3 : w.heap.size + 1 < W.heap.size := hCXh.out.b3.lt
    have hBd := Lib.hid hB0.out.drew
    refine region_round (S := fun w' => w'.cell? ⟨h, 0, none⟩ = some (.slice (some ⟨g, 0, none⟩) es.length es.length) ∧ w'.cell? ⟨w.heap.size, 0, none⟩ = some (.slice A es.length c) ∧ w'.cell? ⟨w.heap.size + 1, 0, none⟩ = some (Value.func (.func 74) #[] #[])) (by kernel_rfl) (by kernel_rfl) (fun _ _ h => h) ⟨y9, y2, y3⟩ (fun hHeld => ?_)
    refine wpAnyH_take (i := 0) (v := ?_) rfl (by kernel_rfl) (by kernel_rfl) (by kernel_rfl) (fun _ _ _ h => h) (Or.inl ⟨by rfl, ?_⟩) (by assumption) ?_
    rotate_left 1
    · (intro w hSw; (try dsimp only at hSw); go_simp; try with_reducible rfl)
    try simp only [Act.put, List.setIfInBounds_toArray, List.set_cons_zero, List.set_cons_succ]
    refine wpAnyH_take (i := 1) (v := ?_) rfl (by kernel_rfl) (by kernel_rfl) (by kernel_rfl) (fun _ _ _ h => h) (Or.inl ⟨by rfl, ?_⟩) (by assumption) ?_
    rotate_left 1
    · (intro w hSw; (try dsimp only at hSw); go_simp; try with_reducible rfl)
    try simp only [Act.put, List.setIfInBounds_toArray, List.set_cons_zero, List.set_cons_succ]
    refine wpAnyH_take (i := 2) (v := ?_) rfl (by kernel_rfl) (by kernel_rfl) (by kernel_rfl) (fun _ _ _ h => h) (Or.inl ⟨by rfl, ?_⟩) (by assumption) ?_
    rotate_left 1
    · (intro w hSw; (try dsimp only at hSw); go_simp; try with_reducible rfl)
    try simp only [Act.put, List.setIfInBounds_toArray, List.set_cons_zero, List.set_cons_succ]
    refine wpAnyH_take (i := 3) (v := ?_) rfl (by kernel_rfl) (by kernel_rfl) (by kernel_rfl) (fun _ _ _ h => h) (Or.inl ⟨by rfl, ?_⟩) (by assumption) ?_
    rotate_left 1
    · (intro w hSw; (try dsimp only at hSw); go_simp; try with_reducible rfl)
    try simp only [Act.put, List.setIfInBounds_toArray, List.set_cons_zero, List.set_cons_succ]
    refine wpAnyH_take (i := 5) (v := ?_) rfl (by kernel_rfl) (by kernel_rfl) (by kernel_rfl) (fun _ _ _ h => h) (Or.inl ⟨by rfl, ?_⟩) (by assumption) ?_
    rotate_left 1
    · (intro w hSw; (try dsimp only at hSw); go_simp; try with_reducible rfl)
    try simp only [Act.put, List.setIfInBounds_toArray, List.set_cons_zero, List.set_cons_succ]
    refine wpAnyH_ready (rs := [4]) (by kernel_rfl) (by simp) ?_
    refine AllReadyH.cons rfl (fun K hK => ?_) AllReadyH.nil
    try simp only [List.getElem_toArray, List.getElem_cons_zero, List.getElem_cons_succ]
    go_simp
    go_at_call 62
    refine (hTi.out _ hBd.out).mono ?_
    rintro e w2 ⟨TA, tc, rs, rfl, hrs, hall, hb2⟩
    have hb2' : Below W.heap.size W w2 := ⟨hb2.os, hb2.tape, hb2.output, hb2.size, hb2.block⟩
    have e9 := (hb2'.cell (p := ⟨h, 0, none⟩) hhW).trans y9
    have e2 := (hb2'.cell (p := ⟨w.heap.size, 0, none⟩) l2).trans y2
    have e3 := (hb2'.cell (p := ⟨w.heap.size + 1, 0, none⟩) l3).trans y3
    have hMc := Lib.hid (hMi.out _ _ TA tc rs w2 hrs hall (Nat.le_refl _) (hB0.out.trans (hb2'.mono hB0.out.size)))
    rw [hall.1] at hMc
    refine hK.out _ _ ⟨e9, e2, e3⟩ (fun hHeld => ?_)
    clear hK K
    try simp only [Act.put, List.setIfInBounds_toArray, List.set_cons_zero, List.set_cons_succ]
    refine wpAnyH_ready (rs := [6]) (by kernel_rfl) (by simp) ?_
    refine AllReadyH.cons rfl (fun K hK => ?_) AllReadyH.nil
    try simp only [List.getElem_toArray, List.getElem_cons_zero, List.getElem_cons_succ]
    go_simp
    go_at_call 123
    refine hMc.out.mono ?_
    rintro e w4 ⟨r, rfl, hr, hb4⟩
    obtain ⟨PA, pc, QA, qc, rfl, _, _⟩ := hr.form
    dsimp only
    have hb24 : Below W.heap.size W w4 := hb2'.trans (hb4.mono hb2'.size)
    have hC4 := hCXh.out.below hb24
    have hLay := Lib.hid (layTile_any g es.length _ _ k cs _ y w4 hslh.out hkh.out hl24 hC4.ib (hr) (Nat.le_trans (Nat.le_refl _) hb4.size) (.inl hgW) hpi.out hpi2)
    dsimp only at hLay
    have hk24 := keeps_below (n := w.heap.size) (Bs := Bs) (t := 27) hb24 hB0.out.size
    have u9 := hC4.b9.cell
    have u2 := hC4.b2.cell
    have u3 := hC4.b3.cell
    refine hK.out _ _ ⟨u9, u2, u3⟩ (fun hHeld => ?_)
    clear hK K
    try simp only [Act.put, List.setIfInBounds_toArray, List.set_cons_zero, List.set_cons_succ]
    refine wpAnyH_ready (rs := [7]) (by kernel_rfl) (by simp) ?_
    refine AllReadyH.cons rfl (fun K hK => ?_) AllReadyH.nil
    try simp only [List.getElem_toArray, List.getElem_cons_zero, List.getElem_cons_succ]
    go_simp
    go_at_call 122
    refine hLay.out.mono ?_
    rintro e w5 ⟨rfl, hI5, hC5⟩
    have hC6 := hC4.lay hC5 hI5
    have hk5 := keeps_lay (n := w.heap.size) (Bs := Bs) (t := 27) hC4.ib hC5 (by have := hgq'.out; omega) (by have := hghh.out; have := Zb.out; omega)
    refine hK.out _ _ ⟨hC6.b9.cell, hC6.b2.cell, hC6.b3.cell⟩ (fun hHeld => ?_)
    clear hK K
    try simp only [Act.put, List.setIfInBounds_toArray, List.set_cons_zero, List.set_cons_succ]
    refine wpAnyH_done (by kernel_rfl) ?_ _
    dsimp only [OnlyN]
    refine ⟨hk24.1.trans hk5.1, hk24.2.t hk5.2, ?_⟩
    dsimp only
    rw [hCN.out, hs.out]
    exact hC6
end Go.Proofs.Ytgcbfiamhpfkhaa

namespace Go.Proofs.Ytgcbfiamhpfkhaa
open Go.RowKit
set_option linter.unusedVariables false

def ResIsCover (R0 : Bool) (R1 : Bool) (w : World) (e : Ending) (w' : World) : Prop := e = .returned (.tuple #[.bool R0, .bool R1]) ∧ Below w.heap.size w w'
def ResCoverCost (R0 : Int) (R1 : Bool) (w : World) (e : Ending) (w' : World) : Prop := e = .returned (.tuple #[.int .i64 R0, .bool R1]) ∧ Below w.heap.size w w'
def ResTileUses (R0 : List (Int)) (R1 : Bool) (w : World) (e : Ending) (w' : World) : Prop := ∃ (A0 : Option Addr) (c0 : Nat), e = .returned (.tuple #[.slice A0 R0.length c0, .bool R1]) ∧ OW w' w.heap.size w'.heap.size (.slice A0 R0.length c0) R0 ∧ Below w.heap.size w w'
def ResAreFair (R0 : Bool) (R1 : Bool) (w : World) (e : Ending) (w' : World) : Prop := e = .returned (.tuple #[.bool R0, .bool R1]) ∧ Below w.heap.size w w'
set_option maxHeartbeats 4000000 in
theorem lawAreFair (A0 : Option Addr) (c0 : Nat) (a0 : List Nd) (A1 : Option Addr) (c1 : Nat) (a1 : List Int) (w : World) (hl0 : a0.length ≤ 9223372036854775807) (h0 : RS Nd.enc 4 w 0 w.heap.size A0 a0) (hs0 : ∀ n ∈ a0, n.op.size ≤ 9223372036854775807) (hl1 : a1.length ≤ 9223372036854775807) (h1 : IS w 0 w.heap.size A1 a1) (R0 : Bool) (R1 : Bool)
    (hS : ∀ (L0 B0 : Nat) (A0 : Option Addr) (c0 : Nat) (L1 B1 : Nat) (A1 : Option Addr) (c1 : Nat) (w : World), a0.length ≤ 1048576 → RS Nd.enc 4 w L0 B0 A0 a0 → B0 ≤ w.heap.size → a1.length ≤ 1048576 → IS w L1 B1 A1 a1 → B1 ≤ w.heap.size → Calls Try.prog 15 #[.slice A0 a0.length c0, .slice A1 a1.length c1] w (ResAreFair R0 R1 w))
    (hI : ∀ (L0 B0 : Nat) (A0 : Option Addr) (c0 : Nat) (L1 B1 : Nat) (A1 : Option Addr) (c1 : Nat) (w : World), a0.length ≤ 1048576 → RS Nd.enc 4 w L0 B0 A0 a0 → B0 ≤ w.heap.size → a1.length ≤ 1048576 → IS w L1 B1 A1 a1 → B1 ≤ w.heap.size → Calls Try.prog 18 #[.slice A0 a0.length c0, .slice A1 a1.length c1] w (ResAreFair R0 R1 w)) :
    Calls Try.prog 3 #[.slice A0 a0.length c0, .slice A1 a1.length c1] w fun e w' => e = .returned (.bool true) ∧ Below w.heap.size w w' := by
  have S := Lib.hid hS
  have I := Lib.hid hI
  have E0 := Lib.hid h0
  have E1 := Lib.hid h1
  have Z0 := Lib.hid hs0
  clear hS hI h0 h1 hs0
  by_cases g1 : a1.length ≤ 1048576
  rotate_left
  · have g1' : (1048576 : Int) < (a1.length : Int) := by omega
    clear g1
    go_enter Try.func3, Try.ntmps3
    go_wp2
    go_ret
    exact ⟨rfl, Below.refl _ _⟩
  have b0 := Lib.hid (Below.refl w.heap.size w)
  go_enter Try.func3, Try.ntmps3
  go_wp2_with (fail)
  refine (szNodeS_k 0 _ A0 c0 a0 1048576 _ hl0 (E0.out.below b0.out (Nat.le_refl _)) b0.out.size Z0.out (by omega) (by omega)).mono ?_
  rintro e w1 ⟨r0, rfl, hr0a, hr0b, hr0c, hb⟩
  have b1 := Lib.hid (b0.out.trans (hb.mono b0.out.size))
  have z1 := hb.size
  clear hb
  by_cases hr0 : 0 ≤ r0
  rotate_left
  · go_wp2
    go_ret
    exact ⟨rfl, b1.out⟩
  have hlen0 : a0.length ≤ 1048576 := by have := hr0b hr0; omega
  clear hr0b
  have hlen1 : a1.length ≤ 1048576 := g1
  have e0 : (R0 != R0) = false := by simp
  have e1 : (R1 != R1) = false := by simp
  go_wp2_with (fail)
  refine (toNodeS_k 0 _ A0 c0 a0 _ hlen0 (E0.out.below b1.out (Nat.le_refl _)) b1.out.size).mono ?_
  rintro e w2 ⟨Ap0, cp0, rfl, ho, hb⟩
  have b2 := Lib.hid (b1.out.trans (hb.mono b1.out.size))
  have z2 := hb.size
  clear hb
  have op0 := Lib.hid ho
  clear ho
  go_wp2_with (fail)
  refine (toIntS_any 0 _ A1 c1 a1 _ hlen1 (E1.out.below b2.out (Nat.le_refl _)) b2.out.size).mono ?_
  rintro e w3 ⟨Ap1, cp1, rfl, ho, hb⟩
  have b3 := Lib.hid (b2.out.trans (hb.mono b2.out.size))
  have z3 := hb.size
  replace op0 := Lib.hid (op0.out.chg (Chg.ofBelow (lo := 0) (hi := 0) hb) (.inr (Nat.zero_le _)))
  clear hb
  have op1 := Lib.hid ho
  clear ho
  go_wp2_with (fail)
  refine (S.out _ _ _ _ _ _ _ _ _ hlen0 (Nd.rs op0.out) (by omega) hlen1 (OW.rs op1.out) (by omega)).mono ?_
  rintro e w4 ⟨rfl, hb⟩
  have b4 := Lib.hid (b3.out.trans (hb.mono b3.out.size))
  have z4 := hb.size
  replace op0 := Lib.hid (op0.out.chg (Chg.ofBelow (lo := 0) (hi := 0) hb) (.inr (Nat.zero_le _)))
  replace op1 := Lib.hid (op1.out.chg (Chg.ofBelow (lo := 0) (hi := 0) hb) (.inr (Nat.zero_le _)))
  clear hb
  go_wp2_with (fail)
  refine (toNodeS_k 0 _ A0 c0 a0 _ hlen0 (E0.out.below b4.out (Nat.le_refl _)) b4.out.size).mono ?_
  rintro e w5 ⟨Aq0, cq0, rfl, ho, hb⟩
  have b5 := Lib.hid (b4.out.trans (hb.mono b4.out.size))
  have z5 := hb.size
  clear hb
  have oq0 := Lib.hid ho
  clear ho
  go_wp2_with (fail)
  refine (toIntS_any 0 _ A1 c1 a1 _ hlen1 (E1.out.below b5.out (Nat.le_refl _)) b5.out.size).mono ?_
  rintro e w6 ⟨Aq1, cq1, rfl, ho, hb⟩
  have b6 := Lib.hid (b5.out.trans (hb.mono b5.out.size))
  have z6 := hb.size
  replace oq0 := Lib.hid (oq0.out.chg (Chg.ofBelow (lo := 0) (hi := 0) hb) (.inr (Nat.zero_le _)))
  clear hb
  have oq1 := Lib.hid ho
  clear ho
  go_wp2_with (fail)
  refine (I.out _ _ _ _ _ _ _ _ _ hlen0 (Nd.rs oq0.out) (by omega) hlen1 (OW.rs oq1.out) (by omega)).mono ?_
  rintro e w7 ⟨rfl, hb⟩
  have b7 := Lib.hid (b6.out.trans (hb.mono b6.out.size))
  have z7 := hb.size
  replace oq0 := Lib.hid (oq0.out.chg (Chg.ofBelow (lo := 0) (hi := 0) hb) (.inr (Nat.zero_le _)))
  replace oq1 := Lib.hid (oq1.out.chg (Chg.ofBelow (lo := 0) (hi := 0) hb) (.inr (Nat.zero_le _)))
  clear hb
  go_wp2_with (fail)
  refine (toNodeS_k 0 _ A0 c0 a0 _ hlen0 (E0.out.below b7.out (Nat.le_refl _)) b7.out.size).mono ?_
  rintro e w8 ⟨As0, cs0, rfl, ho, hb⟩
  have b8 := Lib.hid (b7.out.trans (hb.mono b7.out.size))
  have z8 := hb.size
  replace oq0 := Lib.hid (oq0.out.chg (Chg.ofBelow (lo := 0) (hi := 0) hb) (.inr (Nat.zero_le _)))
  replace oq1 := Lib.hid (oq1.out.chg (Chg.ofBelow (lo := 0) (hi := 0) hb) (.inr (Nat.zero_le _)))
  clear hb
  have os0 := Lib.hid ho
  clear ho
  go_wp2_with (fail)
  refine (eqNodeS_k _ _ _ _ _ _ _ _ _ _ a0 a0 _ rfl rfl hlen0 (Nd.rs oq0.out) (Nd.rs os0.out) (by omega) (by omega) rfl).mono ?_
  rintro e w9 ⟨rfl, hb⟩
  have b9 := Lib.hid (b8.out.trans (hb.mono b8.out.size))
  have z9 := hb.size
  replace oq0 := Lib.hid (oq0.out.chg (Chg.ofBelow (lo := 0) (hi := 0) hb) (.inr (Nat.zero_le _)))
  replace oq1 := Lib.hid (oq1.out.chg (Chg.ofBelow (lo := 0) (hi := 0) hb) (.inr (Nat.zero_le _)))
  replace os0 := Lib.hid (os0.out.chg (Chg.ofBelow (lo := 0) (hi := 0) hb) (.inr (Nat.zero_le _)))
  clear hb
  go_wp2_with (fail)
  refine (toIntS_any 0 _ A1 c1 a1 _ hlen1 (E1.out.below b9.out (Nat.le_refl _)) b9.out.size).mono ?_
  rintro e w10 ⟨As1, cs1, rfl, ho, hb⟩
  have b10 := Lib.hid (b9.out.trans (hb.mono b9.out.size))
  have z10 := hb.size
  replace oq0 := Lib.hid (oq0.out.chg (Chg.ofBelow (lo := 0) (hi := 0) hb) (.inr (Nat.zero_le _)))
  replace oq1 := Lib.hid (oq1.out.chg (Chg.ofBelow (lo := 0) (hi := 0) hb) (.inr (Nat.zero_le _)))
  clear hb
  have os1 := Lib.hid ho
  clear ho
  go_wp2_with (fail)
  refine (eqIntS_any _ _ _ _ _ _ _ _ _ _ a1 a1 _ rfl rfl hlen1 (OW.rs oq1.out) (OW.rs os1.out) (by omega) (by omega) rfl).mono ?_
  rintro e w11 ⟨rfl, hb⟩
  have b11 := Lib.hid (b10.out.trans (hb.mono b10.out.size))
  have z11 := hb.size
  replace oq0 := Lib.hid (oq0.out.chg (Chg.ofBelow (lo := 0) (hi := 0) hb) (.inr (Nat.zero_le _)))
  replace oq1 := Lib.hid (oq1.out.chg (Chg.ofBelow (lo := 0) (hi := 0) hb) (.inr (Nat.zero_le _)))
  replace os1 := Lib.hid (os1.out.chg (Chg.ofBelow (lo := 0) (hi := 0) hb) (.inr (Nat.zero_le _)))
  clear hb
  go_wp2
  go_ret
  exact ⟨rfl, b11.out⟩

def ResUnfairAt (R0 : Int) (R1 : Int) (R2 : Bool) (w : World) (e : Ending) (w' : World) : Prop := e = .returned (.tuple #[.int .i64 R0, .int .i64 R1, .bool R2]) ∧ Below w.heap.size w w'
set_option maxHeartbeats 4000000 in
theorem lawUnfairAt (A0 : Option Addr) (c0 : Nat) (a0 : List Nd) (A1 : Option Addr) (c1 : Nat) (a1 : List Int) (w : World) (hl0 : a0.length ≤ 9223372036854775807) (h0 : RS Nd.enc 4 w 0 w.heap.size A0 a0) (hs0 : ∀ n ∈ a0, n.op.size ≤ 9223372036854775807) (hl1 : a1.length ≤ 9223372036854775807) (h1 : IS w 0 w.heap.size A1 a1) (R0 : Int) (R1 : Int) (R2 : Bool)
    (hS : ∀ (L0 B0 : Nat) (A0 : Option Addr) (c0 : Nat) (L1 B1 : Nat) (A1 : Option Addr) (c1 : Nat) (w : World), a0.length ≤ 1048576 → RS Nd.enc 4 w L0 B0 A0 a0 → B0 ≤ w.heap.size → a1.length ≤ 1048576 → IS w L1 B1 A1 a1 → B1 ≤ w.heap.size → Calls Try.prog 21 #[.slice A0 a0.length c0, .slice A1 a1.length c1] w (ResUnfairAt R0 R1 R2 w))
    (hI : ∀ (L0 B0 : Nat) (A0 : Option Addr) (c0 : Nat) (L1 B1 : Nat) (A1 : Option Addr) (c1 : Nat) (w : World), a0.length ≤ 1048576 → RS Nd.enc 4 w L0 B0 A0 a0 → B0 ≤ w.heap.size → a1.length ≤ 1048576 → IS w L1 B1 A1 a1 → B1 ≤ w.heap.size → Calls Try.prog 22 #[.slice A0 a0.length c0, .slice A1 a1.length c1] w (ResUnfairAt R0 R1 R2 w)) :
    Calls Try.prog 4 #[.slice A0 a0.length c0, .slice A1 a1.length c1] w fun e w' => e = .returned (.bool true) ∧ Below w.heap.size w w' := by
  have S := Lib.hid hS
  have I := Lib.hid hI
  have E0 := Lib.hid h0
  have E1 := Lib.hid h1
  have Z0 := Lib.hid hs0
  clear hS hI h0 h1 hs0
  by_cases g1 : a1.length ≤ 1048576
  rotate_left
  · have g1' : (1048576 : Int) < (a1.length : Int) := by omega
    clear g1
    go_enter Try.func4, Try.ntmps4
    go_wp2
    go_ret
    exact ⟨rfl, Below.refl _ _⟩
  have b0 := Lib.hid (Below.refl w.heap.size w)
  go_enter Try.func4, Try.ntmps4
  go_wp2_with (fail)
  refine (szNodeS_k 0 _ A0 c0 a0 1048576 _ hl0 (E0.out.below b0.out (Nat.le_refl _)) b0.out.size Z0.out (by omega) (by omega)).mono ?_
  rintro e w1 ⟨r0, rfl, hr0a, hr0b, hr0c, hb⟩
  have b1 := Lib.hid (b0.out.trans (hb.mono b0.out.size))
  have z1 := hb.size
  clear hb
  by_cases hr0 : 0 ≤ r0
  rotate_left
  · go_wp2
    go_ret
    exact ⟨rfl, b1.out⟩
  have hlen0 : a0.length ≤ 1048576 := by have := hr0b hr0; omega
  clear hr0b
  have hlen1 : a1.length ≤ 1048576 := g1
  have e0 : (R0 != R0) = false := by simp
  have e1 : (R1 != R1) = false := by simp
  have e2 : (R2 != R2) = false := by simp
  go_wp2_with (fail)
  refine (toNodeS_k 0 _ A0 c0 a0 _ hlen0 (E0.out.below b1.out (Nat.le_refl _)) b1.out.size).mono ?_
  rintro e w2 ⟨Ap0, cp0, rfl, ho, hb⟩
  have b2 := Lib.hid (b1.out.trans (hb.mono b1.out.size))
  have z2 := hb.size
  clear hb
  have op0 := Lib.hid ho
  clear ho
  go_wp2_with (fail)
  refine (toIntS_any 0 _ A1 c1 a1 _ hlen1 (E1.out.below b2.out (Nat.le_refl _)) b2.out.size).mono ?_
  rintro e w3 ⟨Ap1, cp1, rfl, ho, hb⟩
  have b3 := Lib.hid (b2.out.trans (hb.mono b2.out.size))
  have z3 := hb.size
  replace op0 := Lib.hid (op0.out.chg (Chg.ofBelow (lo := 0) (hi := 0) hb) (.inr (Nat.zero_le _)))
  clear hb
  have op1 := Lib.hid ho
  clear ho
  go_wp2_with (fail)
  refine (S.out _ _ _ _ _ _ _ _ _ hlen0 (Nd.rs op0.out) (by omega) hlen1 (OW.rs op1.out) (by omega)).mono ?_
  rintro e w4 ⟨rfl, hb⟩
  have b4 := Lib.hid (b3.out.trans (hb.mono b3.out.size))
  have z4 := hb.size
  replace op0 := Lib.hid (op0.out.chg (Chg.ofBelow (lo := 0) (hi := 0) hb) (.inr (Nat.zero_le _)))
  replace op1 := Lib.hid (op1.out.chg (Chg.ofBelow (lo := 0) (hi := 0) hb) (.inr (Nat.zero_le _)))
  clear hb
  go_wp2_with (fail)
  refine (toNodeS_k 0 _ A0 c0 a0 _ hlen0 (E0.out.below b4.out (Nat.le_refl _)) b4.out.size).mono ?_
  rintro e w5 ⟨Aq0, cq0, rfl, ho, hb⟩
  have b5 := Lib.hid (b4.out.trans (hb.mono b4.out.size))
  have z5 := hb.size
  clear hb
  have oq0 := Lib.hid ho
  clear ho
  go_wp2_with (fail)
  refine (toIntS_any 0 _ A1 c1 a1 _ hlen1 (E1.out.below b5.out (Nat.le_refl _)) b5.out.size).mono ?_
  rintro e w6 ⟨Aq1, cq1, rfl, ho, hb⟩
  have b6 := Lib.hid (b5.out.trans (hb.mono b5.out.size))
  have z6 := hb.size
  replace oq0 := Lib.hid (oq0.out.chg (Chg.ofBelow (lo := 0) (hi := 0) hb) (.inr (Nat.zero_le _)))
  clear hb
  have oq1 := Lib.hid ho
  clear ho
  go_wp2_with (fail)
  refine (I.out _ _ _ _ _ _ _ _ _ hlen0 (Nd.rs oq0.out) (by omega) hlen1 (OW.rs oq1.out) (by omega)).mono ?_
  rintro e w7 ⟨rfl, hb⟩
  have b7 := Lib.hid (b6.out.trans (hb.mono b6.out.size))
  have z7 := hb.size
  replace oq0 := Lib.hid (oq0.out.chg (Chg.ofBelow (lo := 0) (hi := 0) hb) (.inr (Nat.zero_le _)))
  replace oq1 := Lib.hid (oq1.out.chg (Chg.ofBelow (lo := 0) (hi := 0) hb) (.inr (Nat.zero_le _)))
  clear hb
  go_wp2_with (fail)
  refine (toNodeS_k 0 _ A0 c0 a0 _ hlen0 (E0.out.below b7.out (Nat.le_refl _)) b7.out.size).mono ?_
  rintro e w8 ⟨As0, cs0, rfl, ho, hb⟩
  have b8 := Lib.hid (b7.out.trans (hb.mono b7.out.size))
  have z8 := hb.size
  replace oq0 := Lib.hid (oq0.out.chg (Chg.ofBelow (lo := 0) (hi := 0) hb) (.inr (Nat.zero_le _)))
  replace oq1 := Lib.hid (oq1.out.chg (Chg.ofBelow (lo := 0) (hi := 0) hb) (.inr (Nat.zero_le _)))
  clear hb
  have os0 := Lib.hid ho
  clear ho
  go_wp2_with (fail)
  refine (eqNodeS_k _ _ _ _ _ _ _ _ _ _ a0 a0 _ rfl rfl hlen0 (Nd.rs oq0.out) (Nd.rs os0.out) (by omega) (by omega) rfl).mono ?_
  rintro e w9 ⟨rfl, hb⟩
  have b9 := Lib.hid (b8.out.trans (hb.mono b8.out.size))
  have z9 := hb.size
  replace oq0 := Lib.hid (oq0.out.chg (Chg.ofBelow (lo := 0) (hi := 0) hb) (.inr (Nat.zero_le _)))
  replace oq1 := Lib.hid (oq1.out.chg (Chg.ofBelow (lo := 0) (hi := 0) hb) (.inr (Nat.zero_le _)))
  replace os0 := Lib.hid (os0.out.chg (Chg.ofBelow (lo := 0) (hi := 0) hb) (.inr (Nat.zero_le _)))
  clear hb
  go_wp2_with (fail)
  refine (toIntS_any 0 _ A1 c1 a1 _ hlen1 (E1.out.below b9.out (Nat.le_refl _)) b9.out.size).mono ?_
  rintro e w10 ⟨As1, cs1, rfl, ho, hb⟩
  have b10 := Lib.hid (b9.out.trans (hb.mono b9.out.size))
  have z10 := hb.size
  replace oq0 := Lib.hid (oq0.out.chg (Chg.ofBelow (lo := 0) (hi := 0) hb) (.inr (Nat.zero_le _)))
  replace oq1 := Lib.hid (oq1.out.chg (Chg.ofBelow (lo := 0) (hi := 0) hb) (.inr (Nat.zero_le _)))
  clear hb
  have os1 := Lib.hid ho
  clear ho
  go_wp2_with (fail)
  refine (eqIntS_any _ _ _ _ _ _ _ _ _ _ a1 a1 _ rfl rfl hlen1 (OW.rs oq1.out) (OW.rs os1.out) (by omega) (by omega) rfl).mono ?_
  rintro e w11 ⟨rfl, hb⟩
  have b11 := Lib.hid (b10.out.trans (hb.mono b10.out.size))
  have z11 := hb.size
  replace oq0 := Lib.hid (oq0.out.chg (Chg.ofBelow (lo := 0) (hi := 0) hb) (.inr (Nat.zero_le _)))
  replace oq1 := Lib.hid (oq1.out.chg (Chg.ofBelow (lo := 0) (hi := 0) hb) (.inr (Nat.zero_le _)))
  replace os1 := Lib.hid (os1.out.chg (Chg.ofBelow (lo := 0) (hi := 0) hb) (.inr (Nat.zero_le _)))
  clear hb
  go_wp2
  go_ret
  exact ⟨rfl, b11.out⟩

def ResBestCover (R0 : List (Int)) (R1 : Bool) (w : World) (e : Ending) (w' : World) : Prop := ∃ (A0 : Option Addr) (c0 : Nat), e = .returned (.tuple #[.slice A0 R0.length c0, .bool R1]) ∧ OW w' w.heap.size w'.heap.size (.slice A0 R0.length c0) R0 ∧ Below w.heap.size w w'
set_option maxHeartbeats 4000000 in
theorem lawBestCover (A0 : Option Addr) (c0 : Nat) (a0 : List Nd) (w : World) (hl0 : a0.length ≤ 9223372036854775807) (h0 : RS Nd.enc 4 w 0 w.heap.size A0 a0) (hs0 : ∀ n ∈ a0, n.op.size ≤ 9223372036854775807) (R0 : List (Int)) (R1 : Bool) (hR0 : R0.length ≤ 1048576)
    (hS : ∀ (L0 B0 : Nat) (A0 : Option Addr) (c0 : Nat) (w : World), a0.length ≤ 1048576 → RS Nd.enc 4 w L0 B0 A0 a0 → B0 ≤ w.heap.size → Calls Try.prog 23 #[.slice A0 a0.length c0] w (ResBestCover R0 R1 w))
    (hI : ∀ (L0 B0 : Nat) (A0 : Option Addr) (c0 : Nat) (w : World), a0.length ≤ 1048576 → RS Nd.enc 4 w L0 B0 A0 a0 → B0 ≤ w.heap.size → Calls Try.prog 24 #[.slice A0 a0.length c0] w (ResBestCover R0 R1 w)) :
    Calls Try.prog 5 #[.slice A0 a0.length c0] w fun e w' => e = .returned (.bool true) ∧ Below w.heap.size w w' := by
  have S := Lib.hid hS
  have I := Lib.hid hI
  have E0 := Lib.hid h0
  have Z0 := Lib.hid hs0
  clear hS hI h0 hs0
  have b0 := Lib.hid (Below.refl w.heap.size w)
  go_enter Try.func5, Try.ntmps5
  go_wp2_with (fail)
  refine (szNodeS_k 0 _ A0 c0 a0 1048576 _ hl0 (E0.out.below b0.out (Nat.le_refl _)) b0.out.size Z0.out (by omega) (by omega)).mono ?_
  rintro e w1 ⟨r0, rfl, hr0a, hr0b, hr0c, hb⟩
  have b1 := Lib.hid (b0.out.trans (hb.mono b0.out.size))
  have z1 := hb.size
  clear hb
  by_cases hr0 : 0 ≤ r0
  rotate_left
  · go_wp2
    go_ret
    exact ⟨rfl, b1.out⟩
  have hlen0 : a0.length ≤ 1048576 := by have := hr0b hr0; omega
  clear hr0b
  have e1 : (R1 != R1) = false := by simp
  go_wp2_with (fail)
  refine (toNodeS_k 0 _ A0 c0 a0 _ hlen0 (E0.out.below b1.out (Nat.le_refl _)) b1.out.size).mono ?_
  rintro e w2 ⟨Ap0, cp0, rfl, ho, hb⟩
  have b2 := Lib.hid (b1.out.trans (hb.mono b1.out.size))
  have z2 := hb.size
  clear hb
  have op0 := Lib.hid ho
  clear ho
  go_wp2_with (fail)
  refine (S.out _ _ _ _ _ hlen0 (Nd.rs op0.out) (by omega)).mono ?_
  rintro e w3 ⟨AW0, cW0, rfl, ho0, hb⟩
  have b3 := Lib.hid (b2.out.trans (hb.mono b2.out.size))
  have z3 := hb.size
  replace op0 := Lib.hid (op0.out.chg (Chg.ofBelow (lo := 0) (hi := 0) hb) (.inr (Nat.zero_le _)))
  clear hb
  have oW0 := Lib.hid ho0
  clear ho0
  go_wp2_with (fail)
  refine (toNodeS_k 0 _ A0 c0 a0 _ hlen0 (E0.out.below b3.out (Nat.le_refl _)) b3.out.size).mono ?_
  rintro e w4 ⟨Aq0, cq0, rfl, ho, hb⟩
  have b4 := Lib.hid (b3.out.trans (hb.mono b3.out.size))
  have z4 := hb.size
  replace oW0 := Lib.hid (oW0.out.chg (Chg.ofBelow (lo := 0) (hi := 0) hb) (.inr (Nat.zero_le _)))
  clear hb
  have oq0 := Lib.hid ho
  clear ho
  go_wp2_with (fail)
  refine (I.out _ _ _ _ _ hlen0 (Nd.rs oq0.out) (by omega)).mono ?_
  rintro e w5 ⟨AG0, cG0, rfl, ho0, hb⟩
  have b5 := Lib.hid (b4.out.trans (hb.mono b4.out.size))
  have z5 := hb.size
  replace oW0 := Lib.hid (oW0.out.chg (Chg.ofBelow (lo := 0) (hi := 0) hb) (.inr (Nat.zero_le _)))
  replace oq0 := Lib.hid (oq0.out.chg (Chg.ofBelow (lo := 0) (hi := 0) hb) (.inr (Nat.zero_le _)))
  clear hb
  have oG0 := Lib.hid ho0
  clear ho0
  go_wp2_with (fail)
  refine (eqIntS_any _ _ _ _ _ _ _ _ _ _ R0 R0 _ rfl rfl hR0 (OW.rs oG0.out) (OW.rs oW0.out) (by omega) (by omega) rfl).mono ?_
  rintro e w6 ⟨rfl, hb⟩
  have b6 := Lib.hid (b5.out.trans (hb.mono b5.out.size))
  have z6 := hb.size
  replace oW0 := Lib.hid (oW0.out.chg (Chg.ofBelow (lo := 0) (hi := 0) hb) (.inr (Nat.zero_le _)))
  replace oq0 := Lib.hid (oq0.out.chg (Chg.ofBelow (lo := 0) (hi := 0) hb) (.inr (Nat.zero_le _)))
  replace oG0 := Lib.hid (oG0.out.chg (Chg.ofBelow (lo := 0) (hi := 0) hb) (.inr (Nat.zero_le _)))
  clear hb
  go_wp2_with (fail)
  refine (toNodeS_k 0 _ A0 c0 a0 _ hlen0 (E0.out.below b6.out (Nat.le_refl _)) b6.out.size).mono ?_
  rintro e w7 ⟨As0, cs0, rfl, ho, hb⟩
  have b7 := Lib.hid (b6.out.trans (hb.mono b6.out.size))
  have z7 := hb.size
  replace oW0 := Lib.hid (oW0.out.chg (Chg.ofBelow (lo := 0) (hi := 0) hb) (.inr (Nat.zero_le _)))
  replace oq0 := Lib.hid (oq0.out.chg (Chg.ofBelow (lo := 0) (hi := 0) hb) (.inr (Nat.zero_le _)))
  replace oG0 := Lib.hid (oG0.out.chg (Chg.ofBelow (lo := 0) (hi := 0) hb) (.inr (Nat.zero_le _)))
  clear hb
  have os0 := Lib.hid ho
  clear ho
  go_wp2_with (fail)
  refine (eqNodeS_k _ _ _ _ _ _ _ _ _ _ a0 a0 _ rfl rfl hlen0 (Nd.rs oq0.out) (Nd.rs os0.out) (by omega) (by omega) rfl).mono ?_
  rintro e w8 ⟨rfl, hb⟩
  have b8 := Lib.hid (b7.out.trans (hb.mono b7.out.size))
  have z8 := hb.size
  replace oW0 := Lib.hid (oW0.out.chg (Chg.ofBelow (lo := 0) (hi := 0) hb) (.inr (Nat.zero_le _)))
  replace oq0 := Lib.hid (oq0.out.chg (Chg.ofBelow (lo := 0) (hi := 0) hb) (.inr (Nat.zero_le _)))
  replace oG0 := Lib.hid (oG0.out.chg (Chg.ofBelow (lo := 0) (hi := 0) hb) (.inr (Nat.zero_le _)))
  replace os0 := Lib.hid (os0.out.chg (Chg.ofBelow (lo := 0) (hi := 0) hb) (.inr (Nat.zero_le _)))
  clear hb
  go_wp2_with (fail)
  refine (markNodeS_k _ _ _ _ a0 (1) _ hlen0 (by omega) (by omega) oq0.out).mono ?_
  rintro e w9 ⟨rfl, _, hc⟩
  have b9 := Lib.hid (below_chg b8.out hc b8.out.size (by omega))
  have z9 := hc.size
  replace oW0 := Lib.hid (oW0.out.chg hc (by omega))
  replace oG0 := Lib.hid (oG0.out.chg hc (by omega))
  clear hc
  have hk : (0 : Int) ≤ 1 + 4 * (a0.length : Int) := by omega
  go_wp2_with (fail)
  refine (eqIntS_any _ _ _ _ _ _ _ _ _ _ R0 R0 _ rfl rfl hR0 (OW.rs oG0.out) (OW.rs oW0.out) (by omega) (by omega) rfl).mono ?_
  rintro e w10 ⟨rfl, hb⟩
  have b10 := Lib.hid (b9.out.trans (hb.mono b9.out.size))
  have z10 := hb.size
  replace oW0 := Lib.hid (oW0.out.chg (Chg.ofBelow (lo := 0) (hi := 0) hb) (.inr (Nat.zero_le _)))
  replace oG0 := Lib.hid (oG0.out.chg (Chg.ofBelow (lo := 0) (hi := 0) hb) (.inr (Nat.zero_le _)))
  clear hb
  go_wp2_with (fail)
  refine (markIntS_c _ _ _ _ R0 (1) _ hR0 (by omega) (by omega) oG0.out).mono ?_
  rintro e w11 ⟨rfl, ho, hc⟩
  have b11 := Lib.hid (below_chg b10.out hc b10.out.size (by omega))
  have z11 := hc.size
  replace oW0 := Lib.hid (oW0.out.chg hc (by omega))
  clear hc
  replace oG0 := Lib.hid ho
  clear ho
  have hq : (0 : Int) ≤ 1 + (R0.length : Int) := by omega
  go_wp2_with (fail)
  refine (heldIntS_any _ _ _ _ _ 1 _ hR0 (by omega) (by omega) (OW.rs oG0.out) ).mono ?_
  rintro e w_ ⟨rfl, rfl⟩
  go_wp2_with (fail)
  refine (toNodeS_k 0 _ A0 c0 a0 _ hlen0 (E0.out.below b11.out (Nat.le_refl _)) b11.out.size).mono ?_
  rintro e w12 ⟨Ah0, ch0, rfl, ho, hb⟩
  have b12 := Lib.hid (b11.out.trans (hb.mono b11.out.size))
  have z12 := hb.size
  replace oW0 := Lib.hid (oW0.out.chg (Chg.ofBelow (lo := 0) (hi := 0) hb) (.inr (Nat.zero_le _)))
  replace oG0 := Lib.hid (oG0.out.chg (Chg.ofBelow (lo := 0) (hi := 0) hb) (.inr (Nat.zero_le _)))
  clear hb
  have oh0 := Lib.hid ho
  clear ho
  go_wp2_with (fail)
  refine (I.out _ _ _ _ _ hlen0 (Nd.rs oh0.out) (by omega)).mono ?_
  rintro e w13 ⟨AH0, cH0, rfl, ho0, hb⟩
  have b13 := Lib.hid (b12.out.trans (hb.mono b12.out.size))
  have z13 := hb.size
  replace oW0 := Lib.hid (oW0.out.chg (Chg.ofBelow (lo := 0) (hi := 0) hb) (.inr (Nat.zero_le _)))
  replace oG0 := Lib.hid (oG0.out.chg (Chg.ofBelow (lo := 0) (hi := 0) hb) (.inr (Nat.zero_le _)))
  replace oh0 := Lib.hid (oh0.out.chg (Chg.ofBelow (lo := 0) (hi := 0) hb) (.inr (Nat.zero_le _)))
  clear hb
  have oH0 := Lib.hid ho0
  clear ho0
  go_wp2_with (fail)
  refine (eqIntS_any _ _ _ _ _ _ _ _ _ _ R0 R0 _ rfl rfl hR0 (OW.rs oH0.out) (OW.rs oW0.out) (by omega) (by omega) rfl).mono ?_
  rintro e w14 ⟨rfl, hb⟩
  have b14 := Lib.hid (b13.out.trans (hb.mono b13.out.size))
  have z14 := hb.size
  replace oW0 := Lib.hid (oW0.out.chg (Chg.ofBelow (lo := 0) (hi := 0) hb) (.inr (Nat.zero_le _)))
  replace oG0 := Lib.hid (oG0.out.chg (Chg.ofBelow (lo := 0) (hi := 0) hb) (.inr (Nat.zero_le _)))
  replace oh0 := Lib.hid (oh0.out.chg (Chg.ofBelow (lo := 0) (hi := 0) hb) (.inr (Nat.zero_le _)))
  replace oH0 := Lib.hid (oH0.out.chg (Chg.ofBelow (lo := 0) (hi := 0) hb) (.inr (Nat.zero_le _)))
  clear hb
  go_wp2_with (fail)
  refine (heldIntS_any _ _ _ _ _ 1 _ hR0 (by omega) (by omega) (OW.rs oG0.out) ).mono ?_
  rintro e w_ ⟨rfl, rfl⟩
  go_wp2
  go_ret
  exact ⟨rfl, b14.out⟩

def ResLargestCover (R0 : List (Int)) (R1 : Bool) (w : World) (e : Ending) (w' : World) : Prop := ∃ (A0 : Option Addr) (c0 : Nat), e = .returned (.tuple #[.slice A0 R0.length c0, .bool R1]) ∧ OW w' w.heap.size w'.heap.size (.slice A0 R0.length c0) R0 ∧ Below w.heap.size w w'
set_option maxHeartbeats 4000000 in
theorem lawLargestCover (A0 : Option Addr) (c0 : Nat) (a0 : List Nd) (w : World) (hl0 : a0.length ≤ 9223372036854775807) (h0 : RS Nd.enc 4 w 0 w.heap.size A0 a0) (hs0 : ∀ n ∈ a0, n.op.size ≤ 9223372036854775807) (R0 : List (Int)) (R1 : Bool) (hR0 : R0.length ≤ 1048576)
    (hS : ∀ (L0 B0 : Nat) (A0 : Option Addr) (c0 : Nat) (w : World), a0.length ≤ 1048576 → RS Nd.enc 4 w L0 B0 A0 a0 → B0 ≤ w.heap.size → Calls Try.prog 28 #[.slice A0 a0.length c0] w (ResLargestCover R0 R1 w))
    (hI : ∀ (L0 B0 : Nat) (A0 : Option Addr) (c0 : Nat) (w : World), a0.length ≤ 1048576 → RS Nd.enc 4 w L0 B0 A0 a0 → B0 ≤ w.heap.size → Calls Try.prog 29 #[.slice A0 a0.length c0] w (ResLargestCover R0 R1 w)) :
    Calls Try.prog 6 #[.slice A0 a0.length c0] w fun e w' => e = .returned (.bool true) ∧ Below w.heap.size w w' := by
  have S := Lib.hid hS
  have I := Lib.hid hI
  have E0 := Lib.hid h0
  have Z0 := Lib.hid hs0
  clear hS hI h0 hs0
  have b0 := Lib.hid (Below.refl w.heap.size w)
  go_enter Try.func6, Try.ntmps6
  go_wp2_with (fail)
  refine (szNodeS_k 0 _ A0 c0 a0 1048576 _ hl0 (E0.out.below b0.out (Nat.le_refl _)) b0.out.size Z0.out (by omega) (by omega)).mono ?_
  rintro e w1 ⟨r0, rfl, hr0a, hr0b, hr0c, hb⟩
  have b1 := Lib.hid (b0.out.trans (hb.mono b0.out.size))
  have z1 := hb.size
  clear hb
  by_cases hr0 : 0 ≤ r0
  rotate_left
  · go_wp2
    go_ret
    exact ⟨rfl, b1.out⟩
  have hlen0 : a0.length ≤ 1048576 := by have := hr0b hr0; omega
  clear hr0b
  have e1 : (R1 != R1) = false := by simp
  go_wp2_with (fail)
  refine (toNodeS_k 0 _ A0 c0 a0 _ hlen0 (E0.out.below b1.out (Nat.le_refl _)) b1.out.size).mono ?_
  rintro e w2 ⟨Ap0, cp0, rfl, ho, hb⟩
  have b2 := Lib.hid (b1.out.trans (hb.mono b1.out.size))
  have z2 := hb.size
  clear hb
  have op0 := Lib.hid ho
  clear ho
  go_wp2_with (fail)
  refine (S.out _ _ _ _ _ hlen0 (Nd.rs op0.out) (by omega)).mono ?_
  rintro e w3 ⟨AW0, cW0, rfl, ho0, hb⟩
  have b3 := Lib.hid (b2.out.trans (hb.mono b2.out.size))
  have z3 := hb.size
  replace op0 := Lib.hid (op0.out.chg (Chg.ofBelow (lo := 0) (hi := 0) hb) (.inr (Nat.zero_le _)))
  clear hb
  have oW0 := Lib.hid ho0
  clear ho0
  go_wp2_with (fail)
  refine (toNodeS_k 0 _ A0 c0 a0 _ hlen0 (E0.out.below b3.out (Nat.le_refl _)) b3.out.size).mono ?_
  rintro e w4 ⟨Aq0, cq0, rfl, ho, hb⟩
  have b4 := Lib.hid (b3.out.trans (hb.mono b3.out.size))
  have z4 := hb.size
  replace oW0 := Lib.hid (oW0.out.chg (Chg.ofBelow (lo := 0) (hi := 0) hb) (.inr (Nat.zero_le _)))
  clear hb
  have oq0 := Lib.hid ho
  clear ho
  go_wp2_with (fail)
  refine (I.out _ _ _ _ _ hlen0 (Nd.rs oq0.out) (by omega)).mono ?_
  rintro e w5 ⟨AG0, cG0, rfl, ho0, hb⟩
  have b5 := Lib.hid (b4.out.trans (hb.mono b4.out.size))
  have z5 := hb.size
  replace oW0 := Lib.hid (oW0.out.chg (Chg.ofBelow (lo := 0) (hi := 0) hb) (.inr (Nat.zero_le _)))
  replace oq0 := Lib.hid (oq0.out.chg (Chg.ofBelow (lo := 0) (hi := 0) hb) (.inr (Nat.zero_le _)))
  clear hb
  have oG0 := Lib.hid ho0
  clear ho0
  go_wp2_with (fail)
  refine (eqIntS_any _ _ _ _ _ _ _ _ _ _ R0 R0 _ rfl rfl hR0 (OW.rs oG0.out) (OW.rs oW0.out) (by omega) (by omega) rfl).mono ?_
  rintro e w6 ⟨rfl, hb⟩
  have b6 := Lib.hid (b5.out.trans (hb.mono b5.out.size))
  have z6 := hb.size
  replace oW0 := Lib.hid (oW0.out.chg (Chg.ofBelow (lo := 0) (hi := 0) hb) (.inr (Nat.zero_le _)))
  replace oq0 := Lib.hid (oq0.out.chg (Chg.ofBelow (lo := 0) (hi := 0) hb) (.inr (Nat.zero_le _)))
  replace oG0 := Lib.hid (oG0.out.chg (Chg.ofBelow (lo := 0) (hi := 0) hb) (.inr (Nat.zero_le _)))
  clear hb
  go_wp2_with (fail)
  refine (toNodeS_k 0 _ A0 c0 a0 _ hlen0 (E0.out.below b6.out (Nat.le_refl _)) b6.out.size).mono ?_
  rintro e w7 ⟨As0, cs0, rfl, ho, hb⟩
  have b7 := Lib.hid (b6.out.trans (hb.mono b6.out.size))
  have z7 := hb.size
  replace oW0 := Lib.hid (oW0.out.chg (Chg.ofBelow (lo := 0) (hi := 0) hb) (.inr (Nat.zero_le _)))
  replace oq0 := Lib.hid (oq0.out.chg (Chg.ofBelow (lo := 0) (hi := 0) hb) (.inr (Nat.zero_le _)))
  replace oG0 := Lib.hid (oG0.out.chg (Chg.ofBelow (lo := 0) (hi := 0) hb) (.inr (Nat.zero_le _)))
  clear hb
  have os0 := Lib.hid ho
  clear ho
  go_wp2_with (fail)
  refine (eqNodeS_k _ _ _ _ _ _ _ _ _ _ a0 a0 _ rfl rfl hlen0 (Nd.rs oq0.out) (Nd.rs os0.out) (by omega) (by omega) rfl).mono ?_
  rintro e w8 ⟨rfl, hb⟩
  have b8 := Lib.hid (b7.out.trans (hb.mono b7.out.size))
  have z8 := hb.size
  replace oW0 := Lib.hid (oW0.out.chg (Chg.ofBelow (lo := 0) (hi := 0) hb) (.inr (Nat.zero_le _)))
  replace oq0 := Lib.hid (oq0.out.chg (Chg.ofBelow (lo := 0) (hi := 0) hb) (.inr (Nat.zero_le _)))
  replace oG0 := Lib.hid (oG0.out.chg (Chg.ofBelow (lo := 0) (hi := 0) hb) (.inr (Nat.zero_le _)))
  replace os0 := Lib.hid (os0.out.chg (Chg.ofBelow (lo := 0) (hi := 0) hb) (.inr (Nat.zero_le _)))
  clear hb
  go_wp2_with (fail)
  refine (markNodeS_k _ _ _ _ a0 (1) _ hlen0 (by omega) (by omega) oq0.out).mono ?_
  rintro e w9 ⟨rfl, _, hc⟩
  have b9 := Lib.hid (below_chg b8.out hc b8.out.size (by omega))
  have z9 := hc.size
  replace oW0 := Lib.hid (oW0.out.chg hc (by omega))
  replace oG0 := Lib.hid (oG0.out.chg hc (by omega))
  clear hc
  have hk : (0 : Int) ≤ 1 + 4 * (a0.length : Int) := by omega
  go_wp2_with (fail)
  refine (eqIntS_any _ _ _ _ _ _ _ _ _ _ R0 R0 _ rfl rfl hR0 (OW.rs oG0.out) (OW.rs oW0.out) (by omega) (by omega) rfl).mono ?_
  rintro e w10 ⟨rfl, hb⟩
  have b10 := Lib.hid (b9.out.trans (hb.mono b9.out.size))
  have z10 := hb.size
  replace oW0 := Lib.hid (oW0.out.chg (Chg.ofBelow (lo := 0) (hi := 0) hb) (.inr (Nat.zero_le _)))
  replace oG0 := Lib.hid (oG0.out.chg (Chg.ofBelow (lo := 0) (hi := 0) hb) (.inr (Nat.zero_le _)))
  clear hb
  go_wp2_with (fail)
  refine (markIntS_c _ _ _ _ R0 (1) _ hR0 (by omega) (by omega) oG0.out).mono ?_
  rintro e w11 ⟨rfl, ho, hc⟩
  have b11 := Lib.hid (below_chg b10.out hc b10.out.size (by omega))
  have z11 := hc.size
  replace oW0 := Lib.hid (oW0.out.chg hc (by omega))
  clear hc
  replace oG0 := Lib.hid ho
  clear ho
  have hq : (0 : Int) ≤ 1 + (R0.length : Int) := by omega
  go_wp2_with (fail)
  refine (heldIntS_any _ _ _ _ _ 1 _ hR0 (by omega) (by omega) (OW.rs oG0.out) ).mono ?_
  rintro e w_ ⟨rfl, rfl⟩
  go_wp2_with (fail)
  refine (toNodeS_k 0 _ A0 c0 a0 _ hlen0 (E0.out.below b11.out (Nat.le_refl _)) b11.out.size).mono ?_
  rintro e w12 ⟨Ah0, ch0, rfl, ho, hb⟩
  have b12 := Lib.hid (b11.out.trans (hb.mono b11.out.size))
  have z12 := hb.size
  replace oW0 := Lib.hid (oW0.out.chg (Chg.ofBelow (lo := 0) (hi := 0) hb) (.inr (Nat.zero_le _)))
  replace oG0 := Lib.hid (oG0.out.chg (Chg.ofBelow (lo := 0) (hi := 0) hb) (.inr (Nat.zero_le _)))
  clear hb
  have oh0 := Lib.hid ho
  clear ho
  go_wp2_with (fail)
  refine (I.out _ _ _ _ _ hlen0 (Nd.rs oh0.out) (by omega)).mono ?_
  rintro e w13 ⟨AH0, cH0, rfl, ho0, hb⟩
  have b13 := Lib.hid (b12.out.trans (hb.mono b12.out.size))
  have z13 := hb.size
  replace oW0 := Lib.hid (oW0.out.chg (Chg.ofBelow (lo := 0) (hi := 0) hb) (.inr (Nat.zero_le _)))
  replace oG0 := Lib.hid (oG0.out.chg (Chg.ofBelow (lo := 0) (hi := 0) hb) (.inr (Nat.zero_le _)))
  replace oh0 := Lib.hid (oh0.out.chg (Chg.ofBelow (lo := 0) (hi := 0) hb) (.inr (Nat.zero_le _)))
  clear hb
  have oH0 := Lib.hid ho0
  clear ho0
  go_wp2_with (fail)
  refine (eqIntS_any _ _ _ _ _ _ _ _ _ _ R0 R0 _ rfl rfl hR0 (OW.rs oH0.out) (OW.rs oW0.out) (by omega) (by omega) rfl).mono ?_
  rintro e w14 ⟨rfl, hb⟩
  have b14 := Lib.hid (b13.out.trans (hb.mono b13.out.size))
  have z14 := hb.size
  replace oW0 := Lib.hid (oW0.out.chg (Chg.ofBelow (lo := 0) (hi := 0) hb) (.inr (Nat.zero_le _)))
  replace oG0 := Lib.hid (oG0.out.chg (Chg.ofBelow (lo := 0) (hi := 0) hb) (.inr (Nat.zero_le _)))
  replace oh0 := Lib.hid (oh0.out.chg (Chg.ofBelow (lo := 0) (hi := 0) hb) (.inr (Nat.zero_le _)))
  replace oH0 := Lib.hid (oH0.out.chg (Chg.ofBelow (lo := 0) (hi := 0) hb) (.inr (Nat.zero_le _)))
  clear hb
  go_wp2_with (fail)
  refine (heldIntS_any _ _ _ _ _ 1 _ hR0 (by omega) (by omega) (OW.rs oG0.out) ).mono ?_
  rintro e w_ ⟨rfl, rfl⟩
  go_wp2
  go_ret
  exact ⟨rfl, b14.out⟩
end Go.Proofs.Ytgcbfiamhpfkhaa
