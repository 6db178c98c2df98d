/- Texts of this proof, one behind the other: RI, RB, RC, YB, YC. -/
import Derived.Test.YtieljgfocgdngaaRH
import Derived.Test.YtieljgfocgdngaaXH
import Derived.WalkKit
import Derived.WalkSpells
import Derived.WalkLawsBesides
import Derived.Lib.Hide
import Derived.Test.YtieljgfocgdngaaKNode
import Derived.Test.YtieljgfocgdngaaVC
import Derived.Test.YtieljgfocgdngaaKMNode
import Derived.Deep.RegionHeld3
import Derived.Test.YtieljgfocgdngaaB2
import Derived.Test.YtieljgfocgdngaaCA
/- Whether an expression is a tree in the order of the walk of its root. -/
namespace Go.Proofs.Ytieljgfocgdngaa
open Go.RowKit
set_option linter.unusedVariables false
set_option maxRecDepth 100000

set_option maxHeartbeats 1000000 in
theorem ruWalk_any (L B : Nat) (A : Option Addr) (c i : Nat) (es : List Nd) (w : World) (hl : es.length ≤ 24) (hi : i < es.length) (hok : okFrom es 0 = true) (hes : NS w L B A es) (hB : B ≤ w.heap.size) (hbd : (tr es es.length 0 i).length ≤ 1000) :
    Calls Try.prog 141 #[.slice A es.length c, .int .i64 i] w (FreshNode w (tr es es.length 0 i)) := by
  obtain ⟨W1, hW1⟩ : ∃ W1, W1 = w.alloc (.cells #[.slice none 0 0] 148) := ⟨_, rfl⟩
  have b1 : Below w.heap.size w W1 := by rw [hW1]; exact (Below.refl _ _).alloc (Nat.le_refl _) _
  have G1 : HS w.heap.size (w.heap.size + 1) [] (.slice none 0 0) W1 := by rw [hW1]; exact HS.nil _ _
  have z1 : W1.heap.size = w.heap.size + 1 := by rw [hW1]; simp
  have hC := Lib.hid (copied_any L B w.heap.size (w.heap.size + 1) w.heap.size A c es W1 hl hok (hes.below b1 hB) hB (by omega) (Nat.le_refl _) (by omega) (by omega) es.length i [] (.slice none 0 0) W1 hi hi (by simpa using hbd) (Below.refl _ _) G1)
  simp only [List.length_nil, List.nil_append, Nat.zero_add] at hC
  have e1 := Lib.hid hW1
  have B1 := Lib.hid b1
  clear hW1 b1 G1 hes
  generalize tr es es.length 0 i = T at *
  go_enter Try.func141, Try.ntmps141
  go_wp2_with (fail)
  rw [← e1.out]
  refine hC.out.mono ?_
  rintro e w2 ⟨rfl, v2, g2, f2, o2⟩
  have B2 := Lib.hid (B1.out.trans (f2.below (B := w.heap.size) (by omega) (Nat.le_refl _) (fun j hj => by simp [Value.ownBlock] at hj)))
  have G2 := Lib.hid g2
  obtain ⟨A2, c2, rfl⟩ := g2.form
  have c0 := g2.c0
  clear g2 f2 o2
  go_wp2
  go_ret
  exact ⟨A2, c2, rfl, G2.out.ok.lower (by omega), B2.out⟩

set_option maxHeartbeats 1000000 in
theorem ruWalked_any (L B : Nat) (A : Option Addr) (c : Nat) (es : List Nd) (w : World) (hl : es.length ≤ 1048576) (hes : NS w L B A es) (hB : B ≤ w.heap.size) :
    Calls Try.prog 118 #[.slice A es.length c] w fun e w' => e = .returned (.bool (walked es)) ∧ Below w.heap.size w w' := by
  have H := Lib.hid (exGood_any L B A c es w hl hes hB)
  have hE := Lib.hid fun (W : World) (hW : Below w.heap.size w W) => hes.below hW hB
  clear hes
  cases hg : good es
  · have hK : Hid (walked es = false) := by unfold Hid walked expandOk; rw [hg]; rfl
    rw [hg] at H
    clear hg
    go_enter Try.func118, Try.ntmps118
    go_wp2_with (fail)
    refine H.out.mono ?_
    rintro e w2 ⟨rfl, hb⟩
    have hbb := Lib.hid hb
    clear hb
    go_wp2
    go_ret
    exact ⟨ret_bool (by rw [hK.out]), hbb.out⟩
  obtain ⟨hl1, hl24, hok⟩ := good_len hg
  have hW := Lib.hid (walked_tree hg)
  have hS := Lib.hid (tree_size hg)
  have hT := Lib.hid fun (W : World) (hW : Below w.heap.size w W) => exTree_any L B A c es W hl24 (hE.out W hW) (Nat.le_trans hB hW.size) hok
  rw [hg] at H
  have hOk := Lib.hid hok
  clear hg hok
  cases ht : tree es
  · rw [ht] at hT hW
    have hK : Hid (walked es = false) := by rw [Hid, hW.out]; rfl
    clear ht hS
    go_enter Try.func118, Try.ntmps118
    go_wp2_with (fail)
    refine H.out.mono ?_
    rintro e w2 ⟨rfl, hb⟩
    have hbb := Lib.hid hb
    clear hb
    go_wp2_with (fail)
    refine (hT.out w2 hbb.out).mono ?_
    rintro e w3 ⟨rfl, hb⟩
    have hbc := Lib.hid (hbb.out.trans (hb.mono hbb.out.size))
    clear hb
    go_wp2
    go_ret
    exact ⟨ret_bool (by rw [hK.out]), hbc.out⟩
  · have hsz := Lib.hid (hS.out.1 ht)
    rw [ht] at hT hW
    rw [Bool.true_and] at hW
    clear ht hS
    obtain ⟨m, hm⟩ : ∃ m, es.length = m + 1 := ⟨es.length - 1, by omega⟩
    have hM := Lib.hid hm
    have hmm : es.length - 1 = m := by omega
    have hmi : (es.length : Int) - 1 = (m : Int) := by omega
    have hMI := Lib.hid hmi
    have hRW := Lib.hid fun (W : World) (hW' : Below w.heap.size w W) => ruWalk_any L B A c m es W hl24 (by omega) hOk.out (hE.out W hW') (Nat.le_trans hB hW'.size) (by have := hsz.out; unfold expandL at this; rw [hmm] at this; omega)
    have hXl : tr es es.length 0 m = expandL es := by unfold expandL; rw [hmm]
    rw [hXl] at hRW
    clear hm hmi hmm hXl
    have hX24 : (expandL es).length ≤ 24 := by have := hsz.out; omega
    generalize expandL es = T at *
    go_enter Try.func118, Try.ntmps118
    go_wp2_with (fail)
    refine H.out.mono ?_
    rintro e w2 ⟨rfl, hb⟩
    have hbb := Lib.hid hb
    clear hb
    go_wp2_with (fail)
    refine (hT.out w2 hbb.out).mono ?_
    rintro e w3 ⟨rfl, hb⟩
    have hbc := Lib.hid (hbb.out.trans (hb.mono hbb.out.size))
    clear hb
    go_wp2_with (fail)
    rw [hMI.out]
    refine (hRW.out w3 hbc.out).mono ?_
    rintro e w4 ⟨A4, c4, rfl, ho, hb⟩
    have hbd := Lib.hid (hbc.out.trans (hb.mono hbc.out.size))
    have hSm := Lib.hid (ruSame_any w3.heap.size w4.heap.size L B A4 A c4 c T es w4 (by omega) hl (Nd.rs ho).ns (hE.out w4 hbd.out) (Nat.le_refl _) (Nat.le_trans hB hbd.out.size))
    clear hb ho
    go_wp2_with (fail)
    refine hSm.out.mono ?_
    rintro e w5 ⟨rfl, hb⟩
    have hbe := Lib.hid (hbd.out.trans (hb.mono hbd.out.size))
    clear hb
    go_wp2
    go_ret
    exact ⟨ret_bool (by rw [hW.out]), hbe.out⟩

set_option maxHeartbeats 1000000 in
theorem isWalked_any (L B : Nat) (A : Option Addr) (c : Nat) (es : List Nd) (w : World) (hl : es.length ≤ 1048576) (hes : NS w L B A es) (hB : B ≤ w.heap.size) :
    Calls Try.prog 80 #[.slice A es.length c] w fun e w' => e = .returned (.bool (walked es)) ∧ Below w.heap.size w w' := by
  have H := Lib.hid (iExpandExpr_any L B A c es w hl hes hB)
  have hE := Lib.hid fun (W : World) (hW : Below w.heap.size w W) => hes.below hW hB
  have hW : Hid (walked es = (expandOk es && sameL (expandL es) es)) := rfl
  have hRl := expandR_len es
  clear hes
  cases hk : expandOk es
  · rw [hk] at H hW
    clear hk
    go_enter Try.func80, Try.ntmps80
    go_wp2_with (fail)
    refine H.out.mono ?_
    rintro e w2 ⟨A2, c2, rfl, _, hb⟩
    have hbb := Lib.hid hb
    clear hb
    go_wp2
    go_ret
    exact ⟨ret_bool (by rw [hW.out]; rfl), hbb.out⟩
  · have hR : expandR es = expandL es := by unfold expandR; rw [if_pos hk]
    rw [hk] at H hW
    rw [Bool.true_and, ← hR] at hW
    clear hk hR
    generalize expandR es = T at *
    go_enter Try.func80, Try.ntmps80
    go_wp2_with (fail)
    refine H.out.mono ?_
    rintro e w2 ⟨A2, c2, rfl, ho, hb⟩
    have hbb := Lib.hid hb
    have hSm := Lib.hid (equalN_any w.heap.size w2.heap.size L B A2 A c2 c T es w2 hRl hl (Nd.rs ho).ns (hE.out w2 hb) (Nat.le_refl _) (Nat.le_trans hB hb.size))
    clear hb ho
    go_wp2_with (fail)
    refine hSm.out.mono ?_
    rintro e w3 ⟨rfl, hb⟩
    have hbc := Lib.hid (hbb.out.trans (hb.mono hbb.out.size))
    clear hb
    go_wp2
    go_ret
    exact ⟨ret_bool (by rw [hW.out]), hbc.out⟩
end Go.Proofs.Ytieljgfocgdngaa

/- Rules: a box of two slices and a string; what the laws do with rules. -/
namespace Go.Proofs.Ytieljgfocgdngaa
open Go.RowKit
set_option linter.unusedVariables false
set_option maxRecDepth 100000

def RX (t : TypeId) (w : World) (g : Nat) (v1 v2 : Value) (s : ByteArray) : Prop := w.heap[g]? = some (.cells #[v1, v2, .string s] t (0, 0))
theorem RX.lt {t : TypeId} {w : World} {g : Nat} {v1 v2 : Value} {s : ByteArray} (h : RX t w g v1 v2 s) : g < w.heap.size := by
  rcases Nat.lt_or_ge g w.heap.size with hlt | hge
  · exact hlt
  · unfold RX at h; rw [Array.getElem?_eq_none hge] at h; cases h
theorem RX.next {t : TypeId} {w w' : World} {g : Nat} {v1 v2 : Value} {s : ByteArray} (h : RX t w g v1 v2 s) (hb : Below w.heap.size w w') : RX t w' g v1 v2 s := (hb.block g h.lt).trans h
theorem RX.cells {t : TypeId} {w : World} {g : Nat} {v1 v2 : Value} {s : ByteArray} (h : RX t w g v1 v2 s) : w.cell? ⟨g, 0, none⟩ = some v1 ∧ w.cell? ⟨g, 1, none⟩ = some v2 ∧ w.cell? ⟨g, 2, none⟩ = some (.string s) := by
  unfold RX at h; simp [World.cell?, h]
theorem RX.fz {t : TypeId} {w : World} {g : Nat} {v1 v2 : Value} {s : ByteArray} (h : RX t w g v1 v2 s) (i : Nat) : w.frozen? ⟨g, i, none⟩ = false := by
  unfold RX at h; simp [World.frozen?, h]
theorem RX.set0 {t : TypeId} {w : World} {g : Nat} {v1 v2 : Value} {s : ByteArray} (h : RX t w g v1 v2 s) (x : Value) : RX t (w.setCell ⟨g, 0, none⟩ x) g x v2 s := by
  unfold RX at h ⊢; simp [World.setCell, Array.getElem?_modify, h]
theorem RX.set1 {t : TypeId} {w : World} {g : Nat} {v1 v2 : Value} {s : ByteArray} (h : RX t w g v1 v2 s) (x : Value) : RX t (w.setCell ⟨g, 1, none⟩ x) g v1 x s := by
  unfold RX at h ⊢; simp [World.setCell, Array.getElem?_modify, h]
theorem RX.set2 {t : TypeId} {w : World} {g : Nat} {v1 v2 : Value} {s : ByteArray} (h : RX t w g v1 v2 s) (x : ByteArray) : RX t (w.setCell ⟨g, 2, none⟩ (.string x)) g v1 v2 x := by
  unfold RX at h ⊢; simp [World.setCell, Array.getElem?_modify, h]
theorem RX.other {t : TypeId} {w : World} {g q : Nat} {v1 v2 : Value} {s : ByteArray} (h : RX t w g v1 v2 s) (j : Nat) (x : Value) (hne : q ≠ g) : RX t (w.setCell ⟨q, j, none⟩ x) g v1 v2 s :=
  (Below.heap_setCell w ⟨q, j, none⟩ x g (by simpa using fun e => hne e.symm)).trans h
theorem rx_new (t : TypeId) (w : World) (v1 v2 : Value) (s : ByteArray) : RX t (w.alloc (.cells #[v1, v2, .string s] t)) w.heap.size v1 v2 s := heap_alloc_new w _
theorem OK.far {t : TypeId} {w : World} {lo hi : Nat} {v : Value} {xs : List Nd} (h : OK Nd.enc 4 t w lo hi v xs) {p : Addr} (hp : p.block < lo ∨ hi ≤ p.block) (u : Value) : OK Nd.enc 4 t (w.setCell p u) lo hi v xs := by
  refine ⟨⟨h.1.1, ?_⟩, h.2⟩
  rcases h.1.2 with hn | ⟨g, cap, cur, rfl, hg, hh, hr⟩
  · exact .inl hn
  · have hB : g < hi := h.2 g rfl
    exact .inr ⟨g, cap, cur, rfl, hg, (Below.heap_setCell w p u g (by omega)).trans hh, hr⟩
/-- A function whose result is a rule in a cell. -/
theorem rule_ret {fn : Func} {Q : Ending → World → Prop} {tmps : Array Value} {w : World} {g : Nat} {v1 v2 : Value} {sd : ByteArray} {s : Tmp} (hr : fn.results = #[.cell s 45]) (hs : tmps.getD s undef = .pointer (some ⟨g, 0, none⟩))
    (h : RX 45 w g v1 v2 sd) (hq : Q (.returned (.agg #[v1, v2, .string sd])) w) : bodyPost Try.prog fn Q .ret ⟨tmps, []⟩ w := by
  obtain ⟨q0, q1, q2⟩ := h.cells
  refine bodyPost_ret (v := .agg #[v1, v2, .string sd]) ?_ rfl hq
  have hs' : tmps[s]?.getD undef = .pointer (some ⟨g, 0, none⟩) := by simpa using hs
  simp [results, hr, hs', go_sem, q0, q1, q2]

def FreshRule (w : World) (fr to : List Nd) (s : ByteArray) (e : Ending) (w' : World) : Prop :=
  ∃ A1 c1 A2 c2, e = .returned (.agg #[.slice A1 fr.length c1, .slice A2 to.length c2, .string s]) ∧ OK Nd.enc 4 62 w' w.heap.size w'.heap.size (.slice A1 fr.length c1) fr ∧ OK Nd.enc 4 62 w' w.heap.size w'.heap.size (.slice A2 to.length c2) to ∧ Below w.heap.size w w'

set_option maxHeartbeats 4000000 in
theorem toRule_k (L B : Nat) (A1 A2 : Option Addr) (c1 c2 : Nat) (fr to : List Nd) (s : ByteArray) (w : World) (hl1 : fr.length ≤ 1048576) (hl2 : to.length ≤ 1048576) (h1 : RS Nd.enc 4 w L B A1 fr) (h2 : RS Nd.enc 4 w L B A2 to) (hB : B ≤ w.heap.size) :
    Calls Try.prog 38 #[.agg #[.slice A1 fr.length c1, .slice A2 to.length c2, .string s]] w (FreshRule w fr to s) := by
  have hT1 := Lib.hid fun (W : World) (hW : Below w.heap.size w W) => toNodeS_k L B A1 c1 fr W hl1 (h1.below hW hB) (Nat.le_trans hB hW.size)
  have hT2 := Lib.hid fun (W : World) (hW : Below w.heap.size w W) => toNodeS_k L B A2 c2 to W hl2 (h2.below hW hB) (Nat.le_trans hB hW.size)
  clear h1 h2
  obtain ⟨W1, hW1⟩ : ∃ W1, W1 = w.alloc (.cells #[.slice A1 fr.length c1, .slice A2 to.length c2, .string s] 41) := ⟨_, rfl⟩
  have b1 : Below w.heap.size w W1 := by rw [hW1]; exact (Below.refl _ _).alloc (Nat.le_refl _) _
  have x1 : RX 41 W1 w.heap.size (.slice A1 fr.length c1) (.slice A2 to.length c2) s := by rw [hW1]; exact rx_new _ _ _ _ _
  have z1 : W1.heap.size = w.heap.size + 1 := by rw [hW1]; simp
  obtain ⟨W2, hW2⟩ : ∃ W2, W2 = W1.alloc (.cells #[.slice none 0 0, .slice none 0 0, .string ⟨#[]⟩] 45) := ⟨_, rfl⟩
  have b2 : Below W1.heap.size W1 W2 := by rw [hW2]; exact (Below.refl _ _).alloc (Nat.le_refl _) _
  have r2 : RX 45 W2 (w.heap.size + 1) (.slice none 0 0) (.slice none 0 0) ⟨#[]⟩ := by rw [hW2, ← z1]; exact rx_new _ _ _ _ _
  have z2 : W2.heap.size = w.heap.size + 2 := by rw [hW2]; simp [z1]
  obtain ⟨W3, hW3⟩ : ∃ W3, W3 = W2.alloc (.cells #[.slice none 0 0, .slice none 0 0, .string ⟨#[]⟩] 45) := ⟨_, rfl⟩
  have b3 : Below W2.heap.size W2 W3 := by rw [hW3]; exact (Below.refl _ _).alloc (Nat.le_refl _) _
  have o3 : Hid (RX 45 W3 (w.heap.size + 2) (.slice none 0 0) (.slice none 0 0) ⟨#[]⟩) := by unfold Hid; rw [hW3, ← z2]; exact rx_new _ _ _ _ _
  have r3 := Lib.hid (r2.next b3)
  have x3 := Lib.hid ((x1.next b2).next b3)
  have B3 := Lib.hid ((b1.trans (b2.mono b1.size)).trans (b3.mono (by omega)))
  have z3 : W3.heap.size = w.heap.size + 3 := by rw [hW3]; simp [z2]
  have e3 : Hid (W3 = ((w.alloc (.cells #[.slice A1 fr.length c1, .slice A2 to.length c2, .string s] 41)).alloc (.cells #[.slice none 0 0, .slice none 0 0, .string ⟨#[]⟩] 45)).alloc (.cells #[.slice none 0 0, .slice none 0 0, .string ⟨#[]⟩] 45)) := by unfold Hid; rw [hW3, hW2, hW1]
  clear hW1 hW2 hW3 b1 x1 z1 b2 r2 z2 b3
  obtain ⟨k0, k1, k2⟩ := x3.out.cells
  rw [e3.out] at k0 k1 k2
  go_enter Try.func38, Try.ntmps38
  go_wp2_with (fail)
  rw [← e3.out]
  refine (hT1.out W3 B3.out).mono ?_
  rintro e w4 ⟨A1', c1', rfl, ho1, hb4⟩
  have z4 := hb4.size
  have x4 := Lib.hid (x3.out.next hb4)
  have r4 := Lib.hid (r3.out.next hb4)
  have o4 := Lib.hid (o3.out.next hb4)
  have B4 := Lib.hid (B3.out.trans (hb4.mono (by omega)))
  have O4 := Lib.hid ho1
  clear hb4 ho1 k0 k1 k2
  obtain ⟨W5, hW5⟩ : ∃ W5, W5 = w4.setCell ⟨w.heap.size + 2, 0, none⟩ (.slice A1' fr.length c1') := ⟨_, rfl⟩
  have x5 : Hid (RX 41 W5 w.heap.size (.slice A1 fr.length c1) (.slice A2 to.length c2) s) := by unfold Hid; rw [hW5]; exact x4.out.other (q := w.heap.size + 2) 0 _ (by omega)
  have r5 : Hid (RX 45 W5 (w.heap.size + 1) (.slice none 0 0) (.slice none 0 0) ⟨#[]⟩) := by unfold Hid; rw [hW5]; exact r4.out.other (q := w.heap.size + 2) 0 _ (by omega)
  have o5 : Hid (RX 45 W5 (w.heap.size + 2) (.slice A1' fr.length c1') (.slice none 0 0) ⟨#[]⟩) := by unfold Hid; rw [hW5]; exact o4.out.set0 _
  have B5 : Hid (Below w.heap.size w W5) := by unfold Hid; rw [hW5]; exact B4.out.setCell (p := ⟨w.heap.size + 2, 0, none⟩) (by simp) _
  have z5 : W5.heap.size = w4.heap.size := by rw [hW5]; simp [World.setCell]
  have O5 : Hid (OK Nd.enc 4 62 W5 W3.heap.size w4.heap.size (.slice A1' fr.length c1') fr) := by unfold Hid; rw [hW5]; exact O4.out.far (p := ⟨w.heap.size + 2, 0, none⟩) (.inl (by simp; omega)) _
  have q0 := o4.out.fz 0
  obtain ⟨l0, l1, l2⟩ := o4.out.cells
  obtain ⟨k0, k1, k2⟩ := x5.out.cells
  rw [hW5] at k0 k1 k2
  have HW5 := Lib.hid hW5
  clear hW5
  go_wp2_with (fail)
  rw [← HW5.out]
  refine (hT2.out W5 B5.out).mono ?_
  rintro e w6 ⟨A2', c2', rfl, ho2, hb6⟩
  have z6 := hb6.size
  have x6 := Lib.hid (x5.out.next hb6)
  have r6 := Lib.hid (r5.out.next hb6)
  have o6 := Lib.hid (o5.out.next hb6)
  have B6 := Lib.hid (B5.out.trans (hb6.mono (by omega)))
  have O6 := Lib.hid (O5.out.below hb6 (by omega))
  have P6 := Lib.hid ho2
  clear hb6 ho2 k0 k1 k2 l0 l1 l2 q0
  have q1 := o6.out.fz 1
  obtain ⟨l0, l1, l2⟩ := o6.out.cells
  have o7 := Lib.hid (o6.out.set1 (.slice A2' to.length c2'))
  have x7 := Lib.hid (x6.out.other (q := w.heap.size + 2) 1 (.slice A2' to.length c2') (by omega))
  have r7 := Lib.hid (r6.out.other (q := w.heap.size + 2) 1 (.slice A2' to.length c2') (by omega))
  obtain ⟨k0, k1, k2⟩ := x7.out.cells
  have q2 := o7.out.fz 2
  obtain ⟨j0, j1, j2⟩ := o7.out.cells
  have o8 := Lib.hid (o7.out.set2 s)
  have r8 := Lib.hid (r7.out.other (q := w.heap.size + 2) 2 (.string s) (by omega))
  obtain ⟨i0, i1, i2⟩ := o8.out.cells
  obtain ⟨h0, h1, h2⟩ := r8.out.cells
  have f0 := r8.out.fz 0
  have f1 := r8.out.fz 1
  have f2 := r8.out.fz 2
  have R := Lib.hid (((r8.out.set0 (.slice A1' fr.length c1')).set1 (.slice A2' to.length c2')).set2 s)
  have hlo : ∀ p : Addr, p.block < W3.heap.size → p.block < W3.heap.size ∨ w4.heap.size ≤ p.block := fun p h => .inl h
  have RO1 := Lib.hid (((((O6.out.far (p := ⟨w.heap.size + 2, 1, none⟩) (.inl (by simp; omega)) (.slice A2' to.length c2')).far (p := ⟨w.heap.size + 2, 2, none⟩) (.inl (by simp; omega)) (.string s)).far (p := ⟨w.heap.size + 1, 0, none⟩) (.inl (by simp; omega)) (.slice A1' fr.length c1')).far (p := ⟨w.heap.size + 1, 1, none⟩) (.inl (by simp; omega)) (.slice A2' to.length c2')).far (p := ⟨w.heap.size + 1, 2, none⟩) (.inl (by simp; omega)) (.string s))
  have RO2 := Lib.hid (((((P6.out.far (p := ⟨w.heap.size + 2, 1, none⟩) (.inl (by simp; omega)) (.slice A2' to.length c2')).far (p := ⟨w.heap.size + 2, 2, none⟩) (.inl (by simp; omega)) (.string s)).far (p := ⟨w.heap.size + 1, 0, none⟩) (.inl (by simp; omega)) (.slice A1' fr.length c1')).far (p := ⟨w.heap.size + 1, 1, none⟩) (.inl (by simp; omega)) (.slice A2' to.length c2')).far (p := ⟨w.heap.size + 1, 2, none⟩) (.inl (by simp; omega)) (.string s))
  have RB := Lib.hid (((((B6.out.setCell (p := ⟨w.heap.size + 2, 1, none⟩) (by simp) (.slice A2' to.length c2')).setCell (p := ⟨w.heap.size + 2, 2, none⟩) (by simp) (.string s)).setCell (p := ⟨w.heap.size + 1, 0, none⟩) (by simp) (.slice A1' fr.length c1')).setCell (p := ⟨w.heap.size + 1, 1, none⟩) (by simp) (.slice A2' to.length c2')).setCell (p := ⟨w.heap.size + 1, 2, none⟩) (by simp) (.string s))
  go_wp2
  refine rule_ret rfl rfl R.out ⟨A1', c1', A2', c2', rfl, (RO1.out.lower (by omega)).more (by simp [World.setCell]; omega), (RO2.out.lower (by omega)).more (by simp [World.setCell]), RB.out⟩
end Go.Proofs.Ytieljgfocgdngaa

/- The exact laws over one rule by value. -/
namespace Go.Proofs.Ytieljgfocgdngaa
open Go.RowKit
set_option linter.unusedVariables false
set_option maxRecDepth 100000

def SzRule (w : World) (n m : Nat) (s : ByteArray) (e : Ending) (w' : World) : Prop := ∃ r : Int, e = .returned (.int .i64 r) ∧ (0 ≤ r → n ≤ 1048576 ∧ m ≤ 1048576 ∧ s.size ≤ 1048576) ∧ Below w.heap.size w w'
set_option maxHeartbeats 2000000 in
theorem szRule_k (L B : Nat) (A1 A2 : Option Addr) (c1 c2 : Nat) (fr to : List Nd) (s : ByteArray) (w : World) (hl1 : fr.length ≤ 9223372036854775807) (hl2 : to.length ≤ 9223372036854775807) (hs1 : ∀ n ∈ fr, n.op.size ≤ 9223372036854775807) (hs2 : ∀ n ∈ to, n.op.size ≤ 9223372036854775807) (hs : s.size ≤ 9223372036854775807) (h1 : RS Nd.enc 4 w L B A1 fr) (h2 : RS Nd.enc 4 w L B A2 to) (hB : B ≤ w.heap.size) :
    Calls Try.prog 36 #[.agg #[.slice A1 fr.length c1, .slice A2 to.length c2, .string s], .int .i64 1048576] w (SzRule w fr.length to.length s) := by
  have hT1 := Lib.hid fun (W : World) (hW : Below w.heap.size w W) => szNodeS_k L B A1 c1 fr 1048576 W hl1 (h1.below hW hB) (Nat.le_trans hB hW.size) hs1 (by omega) (by omega)
  have hT2 := Lib.hid fun (W : World) (l : Int) (hW : Below w.heap.size w W) (h0 : 0 ≤ l) (h1' : l ≤ 1048576) => szNodeS_k L B A2 c2 to l W hl2 (h2.below hW hB) (Nat.le_trans hB hW.size) hs2 h0 h1'
  have s0 : (0 : Int) ≤ (s.size : Int) := by omega
  have s1 : (s.size : Int) ≤ 9223372036854775807 := by omega
  clear h1 h2 hs1 hs2
  obtain ⟨W1, hW1⟩ : ∃ W1, W1 = w.alloc (.cells #[.slice A1 fr.length c1, .slice A2 to.length c2, .string s] 41) := ⟨_, rfl⟩
  have b1 : Hid (Below w.heap.size w W1) := by unfold Hid; rw [hW1]; exact (Below.refl _ _).alloc (Nat.le_refl _) _
  have x1 : Hid (RX 41 W1 w.heap.size (.slice A1 fr.length c1) (.slice A2 to.length c2) s) := by unfold Hid; rw [hW1]; exact rx_new _ _ _ _ _
  have e1 := Lib.hid hW1
  obtain ⟨k0, k1, k2⟩ := x1.out.cells
  rw [hW1] at k0 k1 k2
  clear hW1
  go_enter Try.func36, Try.ntmps36
  go_wp2_with (fail)
  rw [← e1.out]
  refine (hT1.out W1 b1.out).mono ?_
  rintro e w2 ⟨r1, rfl, ha, hb, hc, hbel⟩
  have b2 := Lib.hid (b1.out.trans (hbel.mono b1.out.size))
  have x2 := Lib.hid (x1.out.next hbel)
  clear hbel k0 k1 k2
  obtain ⟨k0, k1, k2⟩ := x2.out.cells
  by_cases hr1 : 0 ≤ r1
  rotate_left
  · go_wp2
    go_ret
    exact ⟨-1, rfl, fun h => absurd h (by omega), b2.out⟩
  have hn := Lib.hid (hb hr1)
  clear hb
  go_wp2_with (fail)
  refine (hT2.out w2 r1 b2.out hr1 ha).mono ?_
  rintro e w3 ⟨r2, rfl, ha2, hb2, hc2, hbel⟩
  have b3 := Lib.hid (b2.out.trans (hbel.mono b2.out.size))
  have x3 := Lib.hid (x2.out.next hbel)
  clear hbel k0 k1 k2
  obtain ⟨k0, k1, k2⟩ := x3.out.cells
  by_cases hr2 : 0 ≤ r2
  rotate_left
  · go_wp2
    go_ret
    exact ⟨-1, rfl, fun h => absurd h (by omega), b3.out⟩
  have hm := Lib.hid (hb2 hr2)
  clear hb2
  by_cases hr3 : 0 ≤ r2 - (s.size : Int)
  · go_wp2
    go_ret
    exact ⟨_, rfl, fun _ => ⟨by have := hn.out; omega, by have := hm.out; omega, by omega⟩, b3.out⟩
  · go_wp2
    go_ret
    exact ⟨-1, rfl, fun h => absurd h (by omega), b3.out⟩

set_option maxHeartbeats 2000000 in
theorem eqRule_k (L B L' B' : Nat) (A1 A2 A1' A2' : Option Addr) (c1 c2 c1' c2' : Nat) (fr to : List Nd) (s : ByteArray) (w : World) (hl1 : fr.length ≤ 1048576) (hl2 : to.length ≤ 1048576) (h1 : RS Nd.enc 4 w L B A1 fr) (h2 : RS Nd.enc 4 w L B A2 to) (hB : B ≤ w.heap.size) (h1' : RS Nd.enc 4 w L' B' A1' fr) (h2' : RS Nd.enc 4 w L' B' A2' to) (hB' : B' ≤ w.heap.size) :
    Calls Try.prog 40 #[.agg #[.slice A1 fr.length c1, .slice A2 to.length c2, .string s], .agg #[.slice A1' fr.length c1', .slice A2' to.length c2', .string s]] w fun e w' => e = .returned (.bool true) ∧ Below w.heap.size w w' := by
  have hT1 := Lib.hid fun (W : World) (hW : Below w.heap.size w W) => eqNodeS_k L B L' B' A1 A1' fr.length fr.length c1 c1' fr fr W rfl rfl hl1 (h1.below hW hB) (h1'.below hW hB') (Nat.le_trans hB hW.size) (Nat.le_trans hB' hW.size) rfl
  have hT2 := Lib.hid fun (W : World) (hW : Below w.heap.size w W) => eqNodeS_k L B L' B' A2 A2' to.length to.length c2 c2' to to W rfl rfl hl2 (h2.below hW hB) (h2'.below hW hB') (Nat.le_trans hB hW.size) (Nat.le_trans hB' hW.size) rfl
  clear h1 h2 h1' h2'
  obtain ⟨W1, hW1⟩ : ∃ W1, W1 = w.alloc (.cells #[.slice A1 fr.length c1, .slice A2 to.length c2, .string s] 45) := ⟨_, rfl⟩
  have b1 : Below w.heap.size w W1 := by rw [hW1]; exact (Below.refl _ _).alloc (Nat.le_refl _) _
  have x1 : RX 45 W1 w.heap.size (.slice A1 fr.length c1) (.slice A2 to.length c2) s := by rw [hW1]; exact rx_new _ _ _ _ _
  have z1 : W1.heap.size = w.heap.size + 1 := by rw [hW1]; simp
  obtain ⟨W2, hW2⟩ : ∃ W2, W2 = W1.alloc (.cells #[.slice A1' fr.length c1', .slice A2' to.length c2', .string s] 45) := ⟨_, rfl⟩
  have b2 : Below W1.heap.size W1 W2 := by rw [hW2]; exact (Below.refl _ _).alloc (Nat.le_refl _) _
  have y2 : Hid (RX 45 W2 (w.heap.size + 1) (.slice A1' fr.length c1') (.slice A2' to.length c2') s) := by unfold Hid; rw [hW2, ← z1]; exact rx_new _ _ _ _ _
  have x2 := Lib.hid (x1.next b2)
  have B2 := Lib.hid (b1.trans (b2.mono b1.size))
  have e2 : Hid (W2 = (w.alloc (.cells #[.slice A1 fr.length c1, .slice A2 to.length c2, .string s] 45)).alloc (.cells #[.slice A1' fr.length c1', .slice A2' to.length c2', .string s] 45)) := by unfold Hid; rw [hW2, hW1]
  clear hW1 hW2 b1 x1 z1 b2
  obtain ⟨k0, k1, k2⟩ := x2.out.cells
  obtain ⟨l0, l1, l2⟩ := y2.out.cells
  rw [e2.out] at k0 k1 k2 l0 l1 l2
  go_enter Try.func40, Try.ntmps40
  go_wp2_with (fail)
  rw [← e2.out]
  refine (hT1.out W2 B2.out).mono ?_
  rintro e w3 ⟨rfl, hb⟩
  have B3 := Lib.hid (B2.out.trans (hb.mono B2.out.size))
  have x3 := Lib.hid (x2.out.next hb)
  have y3 := Lib.hid (y2.out.next hb)
  clear hb k0 k1 k2 l0 l1 l2
  obtain ⟨k0, k1, k2⟩ := x3.out.cells
  obtain ⟨l0, l1, l2⟩ := y3.out.cells
  go_wp2_with (fail)
  refine (hT2.out w3 B3.out).mono ?_
  rintro e w4 ⟨rfl, hb⟩
  have B4 := Lib.hid (B3.out.trans (hb.mono B3.out.size))
  have x4 := Lib.hid (x3.out.next hb)
  have y4 := Lib.hid (y3.out.next hb)
  clear hb k0 k1 k2 l0 l1 l2
  obtain ⟨k0, k1, k2⟩ := x4.out.cells
  obtain ⟨l0, l1, l2⟩ := y4.out.cells
  go_wp2
  go_ret
  exact ⟨rfl, B4.out⟩

def ResIsRule (R0 : Bool) (w : World) (e : Ending) (w' : World) : Prop := e = .returned (.bool R0) ∧ Below w.heap.size w w'
set_option maxHeartbeats 4000000 in
theorem lawIsRule (A1 A2 : Option Addr) (c1 c2 : Nat) (fr to : List Nd) (s : ByteArray) (w : World) (hl1 : fr.length ≤ 9223372036854775807) (hl2 : to.length ≤ 9223372036854775807) (hs1 : ∀ n ∈ fr, n.op.size ≤ 9223372036854775807) (hs2 : ∀ n ∈ to, n.op.size ≤ 9223372036854775807) (hs : s.size ≤ 9223372036854775807) (h1 : RS Nd.enc 4 w 0 w.heap.size A1 fr) (h2 : RS Nd.enc 4 w 0 w.heap.size A2 to) (R0 : Bool)
    (hS : ∀ (L B : Nat) (A1 A2 : Option Addr) (c1 c2 : Nat) (w : World), fr.length ≤ 1048576 → to.length ≤ 1048576 → s.size ≤ 1048576 → RS Nd.enc 4 w L B A1 fr → RS Nd.enc 4 w L B A2 to → B ≤ w.heap.size → Calls Try.prog 37 #[.agg #[.slice A1 fr.length c1, .slice A2 to.length c2, .string s]] w (ResIsRule R0 w))
    (hI : ∀ (L B : Nat) (A1 A2 : Option Addr) (c1 c2 : Nat) (w : World), fr.length ≤ 1048576 → to.length ≤ 1048576 → s.size ≤ 1048576 → RS Nd.enc 4 w L B A1 fr → RS Nd.enc 4 w L B A2 to → B ≤ w.heap.size → fr.length ≤ c1 → to.length ≤ c2 → Calls Try.prog 39 #[.agg #[.slice A1 fr.length c1, .slice A2 to.length c2, .string s]] w (ResIsRule R0 w)) :
    Calls Try.prog 10 #[.agg #[.slice A1 fr.length c1, .slice A2 to.length c2, .string s]] w fun e w' => e = .returned (.bool true) ∧ Below w.heap.size w w' := by
  have S := Lib.hid hS
  have I := Lib.hid hI
  have E1 := Lib.hid fun (W : World) (hW : Below w.heap.size w W) => h1.below hW (Nat.le_refl _)
  have E2 := Lib.hid fun (W : World) (hW : Below w.heap.size w W) => h2.below hW (Nat.le_refl _)
  have SZ := Lib.hid fun (W : World) (hW : Below w.heap.size w W) => szRule_k 0 w.heap.size A1 A2 c1 c2 fr to s W hl1 hl2 hs1 hs2 hs (h1.below hW (Nat.le_refl _)) (h2.below hW (Nat.le_refl _)) hW.size
  clear hS hI h1 h2 hs1 hs2
  obtain ⟨W1, hW1⟩ : ∃ W1, W1 = w.alloc (.cells #[.slice A1 fr.length c1, .slice A2 to.length c2, .string s] 41) := ⟨_, rfl⟩
  have b1 : Hid (Below w.heap.size w W1) := by unfold Hid; rw [hW1]; exact (Below.refl _ _).alloc (Nat.le_refl _) _
  have x1 : Hid (RX 41 W1 w.heap.size (.slice A1 fr.length c1) (.slice A2 to.length c2) s) := by unfold Hid; rw [hW1]; exact rx_new _ _ _ _ _
  have e0' := Lib.hid hW1
  obtain ⟨k0, k1, k2⟩ := x1.out.cells
  rw [hW1] at k0 k1 k2
  clear hW1
  have e0 : (R0 != R0) = false := by simp
  go_enter Try.func10, Try.ntmps10
  go_wp2_with (fail)
  rw [← e0'.out]
  refine (SZ.out W1 b1.out).mono ?_
  rintro e w2 ⟨r, rfl, hr, hb⟩
  have b2 := Lib.hid (b1.out.trans (hb.mono b1.out.size))
  have x2 := Lib.hid (x1.out.next hb)
  clear hb k0 k1 k2
  obtain ⟨k0, k1, k2⟩ := x2.out.cells
  by_cases hr0 : 0 ≤ r
  rotate_left
  · go_wp2
    go_ret
    exact ⟨rfl, b2.out⟩
  obtain ⟨n1, n2, n3⟩ := hr hr0
  clear hr
  have TR := Lib.hid fun (W : World) (hW : Below w.heap.size w W) => toRule_k 0 w.heap.size A1 A2 c1 c2 fr to s W n1 n2 (E1.out W hW) (E2.out W hW) hW.size
  go_wp2_with (fail)
  refine (TR.out w2 b2.out).mono ?_
  rintro e w3 ⟨A1', c1', A2', c2', rfl, ho1, ho2, hb⟩
  have S3 := Lib.hid (S.out w2.heap.size w3.heap.size A1' A2' c1' c2' w3 n1 n2 n3 (Nd.rs ho1) (Nd.rs ho2) (Nat.le_refl _))
  have b3 := Lib.hid (b2.out.trans (hb.mono b2.out.size))
  have x3 := Lib.hid (x2.out.next hb)
  clear hb k0 k1 k2 ho1 ho2
  go_wp2_with (fail)
  refine S3.out.mono ?_
  rintro e w4 ⟨rfl, hb⟩
  have b4 := Lib.hid (b3.out.trans (hb.mono b3.out.size))
  have x4 := Lib.hid (x3.out.next hb)
  clear hb
  obtain ⟨k0, k1, k2⟩ := x4.out.cells
  go_wp2_with (fail)
  refine (TR.out w4 b4.out).mono ?_
  rintro e w5 ⟨P1, d1, P2, d2, rfl, ho1, ho2, hb⟩
  have O1 := Lib.hid ho1
  have O2 := Lib.hid ho2
  have b5 := Lib.hid (b4.out.trans (hb.mono b4.out.size))
  have x5 := Lib.hid (x4.out.next hb)
  have z5 := hb.size
  clear hb k0 k1 k2 ho1 ho2
  obtain ⟨W6, hW6⟩ : ∃ W6, W6 = w5.alloc (.cells #[.slice P1 fr.length d1, .slice P2 to.length d2, .string s] 45) := ⟨_, rfl⟩
  have a6 : Below w5.heap.size w5 W6 := by rw [hW6]; exact (Below.refl _ _).alloc (Nat.le_refl _) _
  have y6 : Hid (RX 45 W6 w5.heap.size (.slice P1 fr.length d1) (.slice P2 to.length d2) s) := by unfold Hid; rw [hW6]; exact rx_new _ _ _ _ _
  have x6 := Lib.hid (x5.out.next a6)
  have b6 := Lib.hid (b5.out.trans (a6.mono b5.out.size))
  have z6 := a6.size
  have G1 := Lib.hid (O1.out.below a6 (Nat.le_refl _))
  have G2 := Lib.hid (O2.out.below a6 (Nat.le_refl _))
  have I6 := Lib.hid (I.out w4.heap.size w5.heap.size P1 P2 d1 d2 W6 n1 n2 n3 (Nd.rs G1.out) (Nd.rs G2.out) z6 (OK.cap O1.out) (OK.cap O2.out))
  obtain ⟨k0, k1, k2⟩ := y6.out.cells
  rw [hW6] at k0 k1 k2
  have e6 := Lib.hid hW6
  clear a6 hW6
  go_wp2_with (fail)
  rw [← e6.out]
  refine I6.out.mono ?_
  rintro e w7 ⟨rfl, hb⟩
  have b7 := Lib.hid (b6.out.trans (hb.mono b6.out.size))
  have x7 := Lib.hid (x6.out.next hb)
  have y7 := Lib.hid (y6.out.next hb)
  have F1 := Lib.hid (G1.out.below hb z6)
  have F2 := Lib.hid (G2.out.below hb z6)
  have z7 := hb.size
  clear hb k0 k1 k2
  obtain ⟨k0, k1, k2⟩ := y7.out.cells
  obtain ⟨l0, l1, l2⟩ := x7.out.cells
  have hEq := Lib.hid fun (W : World) (Q1 Q2 : Option Addr) (f1 f2 : Nat) (hW : Below w7.heap.size w7 W) (g1 : OK Nd.enc 4 62 W w7.heap.size W.heap.size (.slice Q1 fr.length f1) fr) (g2 : OK Nd.enc 4 62 W w7.heap.size W.heap.size (.slice Q2 to.length f2) to) =>
    eqRule_k w4.heap.size w5.heap.size w7.heap.size W.heap.size P1 P2 Q1 Q2 d1 d2 f1 f2 fr to s W n1 n2 (Nd.rs (F1.out.below hW (by omega))) (Nd.rs (F2.out.below hW (by omega))) (by have := hW.size; omega) (Nd.rs g1) (Nd.rs g2) (Nat.le_refl _)
  go_wp2_with (fail)
  go_region_held3 (fun w' => w'.cell? ⟨w5.heap.size, 0, none⟩ = some (.slice P1 fr.length d1) ∧ w'.cell? ⟨w5.heap.size, 1, none⟩ = some (.slice P2 to.length d2) ∧ w'.cell? ⟨w5.heap.size, 2, none⟩ = some (.string s) ∧ w'.cell? ⟨w.heap.size, 0, none⟩ = some (.slice A1 fr.length c1) ∧ w'.cell? ⟨w.heap.size, 1, none⟩ = some (.slice A2 to.length c2) ∧ w'.cell? ⟨w.heap.size, 2, none⟩ = some (.string s))
    (first | exact K9 | exact K8 | assumption | go_keep)
    (first
      | (go_at_call 38; refine (TR.out _ (by first | exact b7.out | exact b7.out.drew)).mono ?_; rintro e w8 ⟨Q1, f1, Q2, f2, rfl, q1, q2, hb8'⟩; have hb8 : Below w7.heap.size w7 w8 := (by first | exact hb8' | exact (Below.refl w7.heap.size w7).drew.trans hb8'); have q1' : OK Nd.enc 4 62 w8 w7.heap.size w8.heap.size (.slice Q1 fr.length f1) fr := q1; have q2' : OK Nd.enc 4 62 w8 w7.heap.size w8.heap.size (.slice Q2 to.length f2) to := q2; have y8 := RX.next y7.out hb8; have x8 := RX.next x7.out hb8; have K8 := And.intro y8.cells.1 (And.intro y8.cells.2.1 (And.intro y8.cells.2.2 x8.cells)))
      | (go_at_call 40; refine (hEq.out w8 Q1 Q2 f1 f2 hb8 q1' q2').mono ?_; rintro e w9 ⟨rfl, hb9⟩; have y9 := RX.next y8 hb9; have x9 := RX.next x8 hb9; have K9 := And.intro y9.cells.1 (And.intro y9.cells.2.1 (And.intro y9.cells.2.2 x9.cells))))
  all_goals
    have B9 := Lib.hid ((b7.out.trans (hb8.mono b7.out.size)).trans (hb9.mono (Nat.le_trans b7.out.size hb8.size)))
    clear hb8 hb8' hb9 q1 q2 q1' q2' y8 x8 y9 x9 K8 K9
    go_wp2
    go_ret
    exact ⟨rfl, B9.out⟩

def ResIsFalling (R0 : Bool) (R1 : Bool) (w : World) (e : Ending) (w' : World) : Prop := e = .returned (.tuple #[.bool R0, .bool R1]) ∧ Below w.heap.size w w'
set_option maxHeartbeats 4000000 in
theorem lawIsFalling (A1 A2 : Option Addr) (c1 c2 : Nat) (fr to : List Nd) (s : ByteArray) (w : World) (hl1 : fr.length ≤ 9223372036854775807) (hl2 : to.length ≤ 9223372036854775807) (hs1 : ∀ n ∈ fr, n.op.size ≤ 9223372036854775807) (hs2 : ∀ n ∈ to, n.op.size ≤ 9223372036854775807) (hs : s.size ≤ 9223372036854775807) (h1 : RS Nd.enc 4 w 0 w.heap.size A1 fr) (h2 : RS Nd.enc 4 w 0 w.heap.size A2 to) (R0 : Bool) (R1 : Bool)
    (hS : ∀ (L B : Nat) (A1 A2 : Option Addr) (c1 c2 : Nat) (w : World), fr.length ≤ 1048576 → to.length ≤ 1048576 → s.size ≤ 1048576 → RS Nd.enc 4 w L B A1 fr → RS Nd.enc 4 w L B A2 to → B ≤ w.heap.size → Calls Try.prog 45 #[.agg #[.slice A1 fr.length c1, .slice A2 to.length c2, .string s]] w (ResIsFalling R0 R1 w))
    (hI : ∀ (L B : Nat) (A1 A2 : Option Addr) (c1 c2 : Nat) (w : World), fr.length ≤ 1048576 → to.length ≤ 1048576 → s.size ≤ 1048576 → RS Nd.enc 4 w L B A1 fr → RS Nd.enc 4 w L B A2 to → B ≤ w.heap.size → fr.length ≤ c1 → to.length ≤ c2 → Calls Try.prog 46 #[.agg #[.slice A1 fr.length c1, .slice A2 to.length c2, .string s]] w (ResIsFalling R0 R1 w)) :
    Calls Try.prog 13 #[.agg #[.slice A1 fr.length c1, .slice A2 to.length c2, .string s]] w fun e w' => e = .returned (.bool true) ∧ Below w.heap.size w w' := by
  have S := Lib.hid hS
  have I := Lib.hid hI
  have E1 := Lib.hid fun (W : World) (hW : Below w.heap.size w W) => h1.below hW (Nat.le_refl _)
  have E2 := Lib.hid fun (W : World) (hW : Below w.heap.size w W) => h2.below hW (Nat.le_refl _)
  have SZ := Lib.hid fun (W : World) (hW : Below w.heap.size w W) => szRule_k 0 w.heap.size A1 A2 c1 c2 fr to s W hl1 hl2 hs1 hs2 hs (h1.below hW (Nat.le_refl _)) (h2.below hW (Nat.le_refl _)) hW.size
  clear hS hI h1 h2 hs1 hs2
  obtain ⟨W1, hW1⟩ : ∃ W1, W1 = w.alloc (.cells #[.slice A1 fr.length c1, .slice A2 to.length c2, .string s] 41) := ⟨_, rfl⟩
  have b1 : Hid (Below w.heap.size w W1) := by unfold Hid; rw [hW1]; exact (Below.refl _ _).alloc (Nat.le_refl _) _
  have x1 : Hid (RX 41 W1 w.heap.size (.slice A1 fr.length c1) (.slice A2 to.length c2) s) := by unfold Hid; rw [hW1]; exact rx_new _ _ _ _ _
  have e0' := Lib.hid hW1
  obtain ⟨k0, k1, k2⟩ := x1.out.cells
  rw [hW1] at k0 k1 k2
  clear hW1
  have e0 : (R0 != R0) = false := by simp
  have e1 : (R1 != R1) = false := by simp
  go_enter Try.func13, Try.ntmps13
  go_wp2_with (fail)
  rw [← e0'.out]
  refine (SZ.out W1 b1.out).mono ?_
  rintro e w2 ⟨r, rfl, hr, hb⟩
  have b2 := Lib.hid (b1.out.trans (hb.mono b1.out.size))
  have x2 := Lib.hid (x1.out.next hb)
  clear hb k0 k1 k2
  obtain ⟨k0, k1, k2⟩ := x2.out.cells
  by_cases hr0 : 0 ≤ r
  rotate_left
  · go_wp2
    go_ret
    exact ⟨rfl, b2.out⟩
  obtain ⟨n1, n2, n3⟩ := hr hr0
  clear hr
  have TR := Lib.hid fun (W : World) (hW : Below w.heap.size w W) => toRule_k 0 w.heap.size A1 A2 c1 c2 fr to s W n1 n2 (E1.out W hW) (E2.out W hW) hW.size
  go_wp2_with (fail)
  refine (TR.out w2 b2.out).mono ?_
  rintro e w3 ⟨A1', c1', A2', c2', rfl, ho1, ho2, hb⟩
  have S3 := Lib.hid (S.out w2.heap.size w3.heap.size A1' A2' c1' c2' w3 n1 n2 n3 (Nd.rs ho1) (Nd.rs ho2) (Nat.le_refl _))
  have b3 := Lib.hid (b2.out.trans (hb.mono b2.out.size))
  have x3 := Lib.hid (x2.out.next hb)
  clear hb k0 k1 k2 ho1 ho2
  go_wp2_with (fail)
  refine S3.out.mono ?_
  rintro e w4 ⟨rfl, hb⟩
  have b4 := Lib.hid (b3.out.trans (hb.mono b3.out.size))
  have x4 := Lib.hid (x3.out.next hb)
  clear hb
  obtain ⟨k0, k1, k2⟩ := x4.out.cells
  go_wp2_with (fail)
  refine (TR.out w4 b4.out).mono ?_
  rintro e w5 ⟨P1, d1, P2, d2, rfl, ho1, ho2, hb⟩
  have O1 := Lib.hid ho1
  have O2 := Lib.hid ho2
  have b5 := Lib.hid (b4.out.trans (hb.mono b4.out.size))
  have x5 := Lib.hid (x4.out.next hb)
  have z5 := hb.size
  clear hb k0 k1 k2 ho1 ho2
  obtain ⟨W6, hW6⟩ : ∃ W6, W6 = w5.alloc (.cells #[.slice P1 fr.length d1, .slice P2 to.length d2, .string s] 45) := ⟨_, rfl⟩
  have a6 : Below w5.heap.size w5 W6 := by rw [hW6]; exact (Below.refl _ _).alloc (Nat.le_refl _) _
  have y6 : Hid (RX 45 W6 w5.heap.size (.slice P1 fr.length d1) (.slice P2 to.length d2) s) := by unfold Hid; rw [hW6]; exact rx_new _ _ _ _ _
  have x6 := Lib.hid (x5.out.next a6)
  have b6 := Lib.hid (b5.out.trans (a6.mono b5.out.size))
  have z6 := a6.size
  have G1 := Lib.hid (O1.out.below a6 (Nat.le_refl _))
  have G2 := Lib.hid (O2.out.below a6 (Nat.le_refl _))
  have I6 := Lib.hid (I.out w4.heap.size w5.heap.size P1 P2 d1 d2 W6 n1 n2 n3 (Nd.rs G1.out) (Nd.rs G2.out) z6 (OK.cap O1.out) (OK.cap O2.out))
  obtain ⟨k0, k1, k2⟩ := y6.out.cells
  rw [hW6] at k0 k1 k2
  have e6 := Lib.hid hW6
  clear a6 hW6
  go_wp2_with (fail)
  rw [← e6.out]
  refine I6.out.mono ?_
  rintro e w7 ⟨rfl, hb⟩
  have b7 := Lib.hid (b6.out.trans (hb.mono b6.out.size))
  have x7 := Lib.hid (x6.out.next hb)
  have y7 := Lib.hid (y6.out.next hb)
  have F1 := Lib.hid (G1.out.below hb z6)
  have F2 := Lib.hid (G2.out.below hb z6)
  have z7 := hb.size
  clear hb k0 k1 k2
  obtain ⟨k0, k1, k2⟩ := y7.out.cells
  obtain ⟨l0, l1, l2⟩ := x7.out.cells
  have hEq := Lib.hid fun (W : World) (Q1 Q2 : Option Addr) (f1 f2 : Nat) (hW : Below w7.heap.size w7 W) (g1 : OK Nd.enc 4 62 W w7.heap.size W.heap.size (.slice Q1 fr.length f1) fr) (g2 : OK Nd.enc 4 62 W w7.heap.size W.heap.size (.slice Q2 to.length f2) to) =>
    eqRule_k w4.heap.size w5.heap.size w7.heap.size W.heap.size P1 P2 Q1 Q2 d1 d2 f1 f2 fr to s W n1 n2 (Nd.rs (F1.out.below hW (by omega))) (Nd.rs (F2.out.below hW (by omega))) (by have := hW.size; omega) (Nd.rs g1) (Nd.rs g2) (Nat.le_refl _)
  go_wp2_with (fail)
  go_region_held3 (fun w' => w'.cell? ⟨w5.heap.size, 0, none⟩ = some (.slice P1 fr.length d1) ∧ w'.cell? ⟨w5.heap.size, 1, none⟩ = some (.slice P2 to.length d2) ∧ w'.cell? ⟨w5.heap.size, 2, none⟩ = some (.string s) ∧ w'.cell? ⟨w.heap.size, 0, none⟩ = some (.slice A1 fr.length c1) ∧ w'.cell? ⟨w.heap.size, 1, none⟩ = some (.slice A2 to.length c2) ∧ w'.cell? ⟨w.heap.size, 2, none⟩ = some (.string s))
    (first | exact K9 | exact K8 | assumption | go_keep)
    (first
      | (go_at_call 38; refine (TR.out _ (by first | exact b7.out | exact b7.out.drew)).mono ?_; rintro e w8 ⟨Q1, f1, Q2, f2, rfl, q1, q2, hb8'⟩; have hb8 : Below w7.heap.size w7 w8 := (by first | exact hb8' | exact (Below.refl w7.heap.size w7).drew.trans hb8'); have q1' : OK Nd.enc 4 62 w8 w7.heap.size w8.heap.size (.slice Q1 fr.length f1) fr := q1; have q2' : OK Nd.enc 4 62 w8 w7.heap.size w8.heap.size (.slice Q2 to.length f2) to := q2; have y8 := RX.next y7.out hb8; have x8 := RX.next x7.out hb8; have K8 := And.intro y8.cells.1 (And.intro y8.cells.2.1 (And.intro y8.cells.2.2 x8.cells)))
      | (go_at_call 40; refine (hEq.out w8 Q1 Q2 f1 f2 hb8 q1' q2').mono ?_; rintro e w9 ⟨rfl, hb9⟩; have y9 := RX.next y8 hb9; have x9 := RX.next x8 hb9; have K9 := And.intro y9.cells.1 (And.intro y9.cells.2.1 (And.intro y9.cells.2.2 x9.cells))))
  all_goals
    have B9 := Lib.hid ((b7.out.trans (hb8.mono b7.out.size)).trans (hb9.mono (Nat.le_trans b7.out.size hb8.size)))
    clear hb8 hb8' hb9 q1 q2 q1' q2' y8 x8 y9 x9 K8 K9
    go_wp2
    go_ret
    exact ⟨rfl, B9.out⟩

def ResProveRule (R0 : Bool) (R1 : Bool) (w : World) (e : Ending) (w' : World) : Prop := e = .returned (.tuple #[.bool R0, .bool R1]) ∧ Below w.heap.size w w'
set_option maxHeartbeats 4000000 in
theorem lawProveRule (A1 A2 : Option Addr) (c1 c2 : Nat) (fr to : List Nd) (s : ByteArray) (w : World) (hl1 : fr.length ≤ 9223372036854775807) (hl2 : to.length ≤ 9223372036854775807) (hs1 : ∀ n ∈ fr, n.op.size ≤ 9223372036854775807) (hs2 : ∀ n ∈ to, n.op.size ≤ 9223372036854775807) (hs : s.size ≤ 9223372036854775807) (h1 : RS Nd.enc 4 w 0 w.heap.size A1 fr) (h2 : RS Nd.enc 4 w 0 w.heap.size A2 to) (R0 : Bool) (R1 : Bool)
    (hS : ∀ (L B : Nat) (A1 A2 : Option Addr) (c1 c2 : Nat) (w : World), fr.length ≤ 1048576 → to.length ≤ 1048576 → s.size ≤ 1048576 → RS Nd.enc 4 w L B A1 fr → RS Nd.enc 4 w L B A2 to → B ≤ w.heap.size → Calls Try.prog 47 #[.agg #[.slice A1 fr.length c1, .slice A2 to.length c2, .string s]] w (ResProveRule R0 R1 w))
    (hI : ∀ (L B : Nat) (A1 A2 : Option Addr) (c1 c2 : Nat) (w : World), fr.length ≤ 1048576 → to.length ≤ 1048576 → s.size ≤ 1048576 → RS Nd.enc 4 w L B A1 fr → RS Nd.enc 4 w L B A2 to → B ≤ w.heap.size → fr.length ≤ c1 → to.length ≤ c2 → Calls Try.prog 48 #[.agg #[.slice A1 fr.length c1, .slice A2 to.length c2, .string s]] w (ResProveRule R0 R1 w)) :
    Calls Try.prog 14 #[.agg #[.slice A1 fr.length c1, .slice A2 to.length c2, .string s]] w fun e w' => e = .returned (.bool true) ∧ Below w.heap.size w w' := by
  have S := Lib.hid hS
  have I := Lib.hid hI
  have E1 := Lib.hid fun (W : World) (hW : Below w.heap.size w W) => h1.below hW (Nat.le_refl _)
  have E2 := Lib.hid fun (W : World) (hW : Below w.heap.size w W) => h2.below hW (Nat.le_refl _)
  have SZ := Lib.hid fun (W : World) (hW : Below w.heap.size w W) => szRule_k 0 w.heap.size A1 A2 c1 c2 fr to s W hl1 hl2 hs1 hs2 hs (h1.below hW (Nat.le_refl _)) (h2.below hW (Nat.le_refl _)) hW.size
  clear hS hI h1 h2 hs1 hs2
  obtain ⟨W1, hW1⟩ : ∃ W1, W1 = w.alloc (.cells #[.slice A1 fr.length c1, .slice A2 to.length c2, .string s] 41) := ⟨_, rfl⟩
  have b1 : Hid (Below w.heap.size w W1) := by unfold Hid; rw [hW1]; exact (Below.refl _ _).alloc (Nat.le_refl _) _
  have x1 : Hid (RX 41 W1 w.heap.size (.slice A1 fr.length c1) (.slice A2 to.length c2) s) := by unfold Hid; rw [hW1]; exact rx_new _ _ _ _ _
  have e0' := Lib.hid hW1
  obtain ⟨k0, k1, k2⟩ := x1.out.cells
  rw [hW1] at k0 k1 k2
  clear hW1
  have e0 : (R0 != R0) = false := by simp
  have e1 : (R1 != R1) = false := by simp
  go_enter Try.func14, Try.ntmps14
  go_wp2_with (fail)
  rw [← e0'.out]
  refine (SZ.out W1 b1.out).mono ?_
  rintro e w2 ⟨r, rfl, hr, hb⟩
  have b2 := Lib.hid (b1.out.trans (hb.mono b1.out.size))
  have x2 := Lib.hid (x1.out.next hb)
  clear hb k0 k1 k2
  obtain ⟨k0, k1, k2⟩ := x2.out.cells
  by_cases hr0 : 0 ≤ r
  rotate_left
  · go_wp2
    go_ret
    exact ⟨rfl, b2.out⟩
  obtain ⟨n1, n2, n3⟩ := hr hr0
  clear hr
  have TR := Lib.hid fun (W : World) (hW : Below w.heap.size w W) => toRule_k 0 w.heap.size A1 A2 c1 c2 fr to s W n1 n2 (E1.out W hW) (E2.out W hW) hW.size
  go_wp2_with (fail)
  refine (TR.out w2 b2.out).mono ?_
  rintro e w3 ⟨A1', c1', A2', c2', rfl, ho1, ho2, hb⟩
  have S3 := Lib.hid (S.out w2.heap.size w3.heap.size A1' A2' c1' c2' w3 n1 n2 n3 (Nd.rs ho1) (Nd.rs ho2) (Nat.le_refl _))
  have b3 := Lib.hid (b2.out.trans (hb.mono b2.out.size))
  have x3 := Lib.hid (x2.out.next hb)
  clear hb k0 k1 k2 ho1 ho2
  go_wp2_with (fail)
  refine S3.out.mono ?_
  rintro e w4 ⟨rfl, hb⟩
  have b4 := Lib.hid (b3.out.trans (hb.mono b3.out.size))
  have x4 := Lib.hid (x3.out.next hb)
  clear hb
  obtain ⟨k0, k1, k2⟩ := x4.out.cells
  go_wp2_with (fail)
  refine (TR.out w4 b4.out).mono ?_
  rintro e w5 ⟨P1, d1, P2, d2, rfl, ho1, ho2, hb⟩
  have O1 := Lib.hid ho1
  have O2 := Lib.hid ho2
  have b5 := Lib.hid (b4.out.trans (hb.mono b4.out.size))
  have x5 := Lib.hid (x4.out.next hb)
  have z5 := hb.size
  clear hb k0 k1 k2 ho1 ho2
  obtain ⟨W6, hW6⟩ : ∃ W6, W6 = w5.alloc (.cells #[.slice P1 fr.length d1, .slice P2 to.length d2, .string s] 45) := ⟨_, rfl⟩
  have a6 : Below w5.heap.size w5 W6 := by rw [hW6]; exact (Below.refl _ _).alloc (Nat.le_refl _) _
  have y6 : Hid (RX 45 W6 w5.heap.size (.slice P1 fr.length d1) (.slice P2 to.length d2) s) := by unfold Hid; rw [hW6]; exact rx_new _ _ _ _ _
  have x6 := Lib.hid (x5.out.next a6)
  have b6 := Lib.hid (b5.out.trans (a6.mono b5.out.size))
  have z6 := a6.size
  have G1 := Lib.hid (O1.out.below a6 (Nat.le_refl _))
  have G2 := Lib.hid (O2.out.below a6 (Nat.le_refl _))
  have I6 := Lib.hid (I.out w4.heap.size w5.heap.size P1 P2 d1 d2 W6 n1 n2 n3 (Nd.rs G1.out) (Nd.rs G2.out) z6 (OK.cap O1.out) (OK.cap O2.out))
  obtain ⟨k0, k1, k2⟩ := y6.out.cells
  rw [hW6] at k0 k1 k2
  have e6 := Lib.hid hW6
  clear a6 hW6
  go_wp2_with (fail)
  rw [← e6.out]
  refine I6.out.mono ?_
  rintro e w7 ⟨rfl, hb⟩
  have b7 := Lib.hid (b6.out.trans (hb.mono b6.out.size))
  have x7 := Lib.hid (x6.out.next hb)
  have y7 := Lib.hid (y6.out.next hb)
  have F1 := Lib.hid (G1.out.below hb z6)
  have F2 := Lib.hid (G2.out.below hb z6)
  have z7 := hb.size
  clear hb k0 k1 k2
  obtain ⟨k0, k1, k2⟩ := y7.out.cells
  obtain ⟨l0, l1, l2⟩ := x7.out.cells
  have hEq := Lib.hid fun (W : World) (Q1 Q2 : Option Addr) (f1 f2 : Nat) (hW : Below w7.heap.size w7 W) (g1 : OK Nd.enc 4 62 W w7.heap.size W.heap.size (.slice Q1 fr.length f1) fr) (g2 : OK Nd.enc 4 62 W w7.heap.size W.heap.size (.slice Q2 to.length f2) to) =>
    eqRule_k w4.heap.size w5.heap.size w7.heap.size W.heap.size P1 P2 Q1 Q2 d1 d2 f1 f2 fr to s W n1 n2 (Nd.rs (F1.out.below hW (by omega))) (Nd.rs (F2.out.below hW (by omega))) (by have := hW.size; omega) (Nd.rs g1) (Nd.rs g2) (Nat.le_refl _)
  go_wp2_with (fail)
  go_region_held3 (fun w' => w'.cell? ⟨w5.heap.size, 0, none⟩ = some (.slice P1 fr.length d1) ∧ w'.cell? ⟨w5.heap.size, 1, none⟩ = some (.slice P2 to.length d2) ∧ w'.cell? ⟨w5.heap.size, 2, none⟩ = some (.string s) ∧ w'.cell? ⟨w.heap.size, 0, none⟩ = some (.slice A1 fr.length c1) ∧ w'.cell? ⟨w.heap.size, 1, none⟩ = some (.slice A2 to.length c2) ∧ w'.cell? ⟨w.heap.size, 2, none⟩ = some (.string s))
    (first | exact K9 | exact K8 | assumption | go_keep)
    (first
      | (go_at_call 38; refine (TR.out _ (by first | exact b7.out | exact b7.out.drew)).mono ?_; rintro e w8 ⟨Q1, f1, Q2, f2, rfl, q1, q2, hb8'⟩; have hb8 : Below w7.heap.size w7 w8 := (by first | exact hb8' | exact (Below.refl w7.heap.size w7).drew.trans hb8'); have q1' : OK Nd.enc 4 62 w8 w7.heap.size w8.heap.size (.slice Q1 fr.length f1) fr := q1; have q2' : OK Nd.enc 4 62 w8 w7.heap.size w8.heap.size (.slice Q2 to.length f2) to := q2; have y8 := RX.next y7.out hb8; have x8 := RX.next x7.out hb8; have K8 := And.intro y8.cells.1 (And.intro y8.cells.2.1 (And.intro y8.cells.2.2 x8.cells)))
      | (go_at_call 40; refine (hEq.out w8 Q1 Q2 f1 f2 hb8 q1' q2').mono ?_; rintro e w9 ⟨rfl, hb9⟩; have y9 := RX.next y8 hb9; have x9 := RX.next x8 hb9; have K9 := And.intro y9.cells.1 (And.intro y9.cells.2.1 (And.intro y9.cells.2.2 x9.cells))))
  all_goals
    have B9 := Lib.hid ((b7.out.trans (hb8.mono b7.out.size)).trans (hb9.mono (Nat.le_trans b7.out.size hb8.size)))
    clear hb8 hb8' hb9 q1 q2 q1' q2' y8 x8 y9 x9 K8 K9
    go_wp2
    go_ret
    exact ⟨rfl, B9.out⟩

def ResRefuteRule (R0 : Int) (R1 : Int) (R2 : Bool) (w : World) (e : Ending) (w' : World) : Prop := e = .returned (.tuple #[.int .i64 R0, .int .i64 R1, .bool R2]) ∧ Below w.heap.size w w'
set_option maxHeartbeats 4000000 in
theorem lawRefuteRule (A1 A2 : Option Addr) (c1 c2 : Nat) (fr to : List Nd) (s : ByteArray) (w : World) (hl1 : fr.length ≤ 9223372036854775807) (hl2 : to.length ≤ 9223372036854775807) (hs1 : ∀ n ∈ fr, n.op.size ≤ 9223372036854775807) (hs2 : ∀ n ∈ to, n.op.size ≤ 9223372036854775807) (hs : s.size ≤ 9223372036854775807) (h1 : RS Nd.enc 4 w 0 w.heap.size A1 fr) (h2 : RS Nd.enc 4 w 0 w.heap.size A2 to) (R0 : Int) (R1 : Int) (R2 : Bool)
    (hS : ∀ (L B : Nat) (A1 A2 : Option Addr) (c1 c2 : Nat) (w : World), fr.length ≤ 1048576 → to.length ≤ 1048576 → s.size ≤ 1048576 → RS Nd.enc 4 w L B A1 fr → RS Nd.enc 4 w L B A2 to → B ≤ w.heap.size → Calls Try.prog 49 #[.agg #[.slice A1 fr.length c1, .slice A2 to.length c2, .string s]] w (ResRefuteRule R0 R1 R2 w))
    (hI : ∀ (L B : Nat) (A1 A2 : Option Addr) (c1 c2 : Nat) (w : World), fr.length ≤ 1048576 → to.length ≤ 1048576 → s.size ≤ 1048576 → RS Nd.enc 4 w L B A1 fr → RS Nd.enc 4 w L B A2 to → B ≤ w.heap.size → fr.length ≤ c1 → to.length ≤ c2 → Calls Try.prog 50 #[.agg #[.slice A1 fr.length c1, .slice A2 to.length c2, .string s]] w (ResRefuteRule R0 R1 R2 w)) :
    Calls Try.prog 15 #[.agg #[.slice A1 fr.length c1, .slice A2 to.length c2, .string s]] w fun e w' => e = .returned (.bool true) ∧ Below w.heap.size w w' := by
  have S := Lib.hid hS
  have I := Lib.hid hI
  have E1 := Lib.hid fun (W : World) (hW : Below w.heap.size w W) => h1.below hW (Nat.le_refl _)
  have E2 := Lib.hid fun (W : World) (hW : Below w.heap.size w W) => h2.below hW (Nat.le_refl _)
  have SZ := Lib.hid fun (W : World) (hW : Below w.heap.size w W) => szRule_k 0 w.heap.size A1 A2 c1 c2 fr to s W hl1 hl2 hs1 hs2 hs (h1.below hW (Nat.le_refl _)) (h2.below hW (Nat.le_refl _)) hW.size
  clear hS hI h1 h2 hs1 hs2
  obtain ⟨W1, hW1⟩ : ∃ W1, W1 = w.alloc (.cells #[.slice A1 fr.length c1, .slice A2 to.length c2, .string s] 41) := ⟨_, rfl⟩
  have b1 : Hid (Below w.heap.size w W1) := by unfold Hid; rw [hW1]; exact (Below.refl _ _).alloc (Nat.le_refl _) _
  have x1 : Hid (RX 41 W1 w.heap.size (.slice A1 fr.length c1) (.slice A2 to.length c2) s) := by unfold Hid; rw [hW1]; exact rx_new _ _ _ _ _
  have e0' := Lib.hid hW1
  obtain ⟨k0, k1, k2⟩ := x1.out.cells
  rw [hW1] at k0 k1 k2
  clear hW1
  have e0 : (R0 != R0) = false := by simp
  have e1 : (R1 != R1) = false := by simp
  have e2 : (R2 != R2) = false := by simp
  go_enter Try.func15, Try.ntmps15
  go_wp2_with (fail)
  rw [← e0'.out]
  refine (SZ.out W1 b1.out).mono ?_
  rintro e w2 ⟨r, rfl, hr, hb⟩
  have b2 := Lib.hid (b1.out.trans (hb.mono b1.out.size))
  have x2 := Lib.hid (x1.out.next hb)
  clear hb k0 k1 k2
  obtain ⟨k0, k1, k2⟩ := x2.out.cells
  by_cases hr0 : 0 ≤ r
  rotate_left
  · go_wp2
    go_ret
    exact ⟨rfl, b2.out⟩
  obtain ⟨n1, n2, n3⟩ := hr hr0
  clear hr
  have TR := Lib.hid fun (W : World) (hW : Below w.heap.size w W) => toRule_k 0 w.heap.size A1 A2 c1 c2 fr to s W n1 n2 (E1.out W hW) (E2.out W hW) hW.size
  go_wp2_with (fail)
  refine (TR.out w2 b2.out).mono ?_
  rintro e w3 ⟨A1', c1', A2', c2', rfl, ho1, ho2, hb⟩
  have S3 := Lib.hid (S.out w2.heap.size w3.heap.size A1' A2' c1' c2' w3 n1 n2 n3 (Nd.rs ho1) (Nd.rs ho2) (Nat.le_refl _))
  have b3 := Lib.hid (b2.out.trans (hb.mono b2.out.size))
  have x3 := Lib.hid (x2.out.next hb)
  clear hb k0 k1 k2 ho1 ho2
  go_wp2_with (fail)
  refine S3.out.mono ?_
  rintro e w4 ⟨rfl, hb⟩
  have b4 := Lib.hid (b3.out.trans (hb.mono b3.out.size))
  have x4 := Lib.hid (x3.out.next hb)
  clear hb
  obtain ⟨k0, k1, k2⟩ := x4.out.cells
  go_wp2_with (fail)
  refine (TR.out w4 b4.out).mono ?_
  rintro e w5 ⟨P1, d1, P2, d2, rfl, ho1, ho2, hb⟩
  have O1 := Lib.hid ho1
  have O2 := Lib.hid ho2
  have b5 := Lib.hid (b4.out.trans (hb.mono b4.out.size))
  have x5 := Lib.hid (x4.out.next hb)
  have z5 := hb.size
  clear hb k0 k1 k2 ho1 ho2
  obtain ⟨W6, hW6⟩ : ∃ W6, W6 = w5.alloc (.cells #[.slice P1 fr.length d1, .slice P2 to.length d2, .string s] 45) := ⟨_, rfl⟩
  have a6 : Below w5.heap.size w5 W6 := by rw [hW6]; exact (Below.refl _ _).alloc (Nat.le_refl _) _
  have y6 : Hid (RX 45 W6 w5.heap.size (.slice P1 fr.length d1) (.slice P2 to.length d2) s) := by unfold Hid; rw [hW6]; exact rx_new _ _ _ _ _
  have x6 := Lib.hid (x5.out.next a6)
  have b6 := Lib.hid (b5.out.trans (a6.mono b5.out.size))
  have z6 := a6.size
  have G1 := Lib.hid (O1.out.below a6 (Nat.le_refl _))
  have G2 := Lib.hid (O2.out.below a6 (Nat.le_refl _))
  have I6 := Lib.hid (I.out w4.heap.size w5.heap.size P1 P2 d1 d2 W6 n1 n2 n3 (Nd.rs G1.out) (Nd.rs G2.out) z6 (OK.cap O1.out) (OK.cap O2.out))
  obtain ⟨k0, k1, k2⟩ := y6.out.cells
  rw [hW6] at k0 k1 k2
  have e6 := Lib.hid hW6
  clear a6 hW6
  go_wp2_with (fail)
  rw [← e6.out]
  refine I6.out.mono ?_
  rintro e w7 ⟨rfl, hb⟩
  have b7 := Lib.hid (b6.out.trans (hb.mono b6.out.size))
  have x7 := Lib.hid (x6.out.next hb)
  have y7 := Lib.hid (y6.out.next hb)
  have F1 := Lib.hid (G1.out.below hb z6)
  have F2 := Lib.hid (G2.out.below hb z6)
  have z7 := hb.size
  clear hb k0 k1 k2
  obtain ⟨k0, k1, k2⟩ := y7.out.cells
  obtain ⟨l0, l1, l2⟩ := x7.out.cells
  have hEq := Lib.hid fun (W : World) (Q1 Q2 : Option Addr) (f1 f2 : Nat) (hW : Below w7.heap.size w7 W) (g1 : OK Nd.enc 4 62 W w7.heap.size W.heap.size (.slice Q1 fr.length f1) fr) (g2 : OK Nd.enc 4 62 W w7.heap.size W.heap.size (.slice Q2 to.length f2) to) =>
    eqRule_k w4.heap.size w5.heap.size w7.heap.size W.heap.size P1 P2 Q1 Q2 d1 d2 f1 f2 fr to s W n1 n2 (Nd.rs (F1.out.below hW (by omega))) (Nd.rs (F2.out.below hW (by omega))) (by have := hW.size; omega) (Nd.rs g1) (Nd.rs g2) (Nat.le_refl _)
  go_wp2_with (fail)
  go_region_held3 (fun w' => w'.cell? ⟨w5.heap.size, 0, none⟩ = some (.slice P1 fr.length d1) ∧ w'.cell? ⟨w5.heap.size, 1, none⟩ = some (.slice P2 to.length d2) ∧ w'.cell? ⟨w5.heap.size, 2, none⟩ = some (.string s) ∧ w'.cell? ⟨w.heap.size, 0, none⟩ = some (.slice A1 fr.length c1) ∧ w'.cell? ⟨w.heap.size, 1, none⟩ = some (.slice A2 to.length c2) ∧ w'.cell? ⟨w.heap.size, 2, none⟩ = some (.string s))
    (first | exact K9 | exact K8 | assumption | go_keep)
    (first
      | (go_at_call 38; refine (TR.out _ (by first | exact b7.out | exact b7.out.drew)).mono ?_; rintro e w8 ⟨Q1, f1, Q2, f2, rfl, q1, q2, hb8'⟩; have hb8 : Below w7.heap.size w7 w8 := (by first | exact hb8' | exact (Below.refl w7.heap.size w7).drew.trans hb8'); have q1' : OK Nd.enc 4 62 w8 w7.heap.size w8.heap.size (.slice Q1 fr.length f1) fr := q1; have q2' : OK Nd.enc 4 62 w8 w7.heap.size w8.heap.size (.slice Q2 to.length f2) to := q2; have y8 := RX.next y7.out hb8; have x8 := RX.next x7.out hb8; have K8 := And.intro y8.cells.1 (And.intro y8.cells.2.1 (And.intro y8.cells.2.2 x8.cells)))
      | (go_at_call 40; refine (hEq.out w8 Q1 Q2 f1 f2 hb8 q1' q2').mono ?_; rintro e w9 ⟨rfl, hb9⟩; have y9 := RX.next y8 hb9; have x9 := RX.next x8 hb9; have K9 := And.intro y9.cells.1 (And.intro y9.cells.2.1 (And.intro y9.cells.2.2 x9.cells))))
  all_goals
    have B9 := Lib.hid ((b7.out.trans (hb8.mono b7.out.size)).trans (hb9.mono (Nat.le_trans b7.out.size hb8.size)))
    clear hb8 hb8' hb9 q1 q2 q1' q2' y8 x8 y9 x9 K8 K9
    go_wp2
    go_ret
    exact ⟨rfl, B9.out⟩

def ResCountRefuting (R0 : Int) (R1 : Bool) (w : World) (e : Ending) (w' : World) : Prop := e = .returned (.tuple #[.int .i64 R0, .bool R1]) ∧ Below w.heap.size w w'
set_option maxHeartbeats 4000000 in
theorem lawCountRefuting (A1 A2 : Option Addr) (c1 c2 : Nat) (fr to : List Nd) (s : ByteArray) (w : World) (hl1 : fr.length ≤ 9223372036854775807) (hl2 : to.length ≤ 9223372036854775807) (hs1 : ∀ n ∈ fr, n.op.size ≤ 9223372036854775807) (hs2 : ∀ n ∈ to, n.op.size ≤ 9223372036854775807) (hs : s.size ≤ 9223372036854775807) (h1 : RS Nd.enc 4 w 0 w.heap.size A1 fr) (h2 : RS Nd.enc 4 w 0 w.heap.size A2 to) (R0 : Int) (R1 : Bool)
    (hS : ∀ (L B : Nat) (A1 A2 : Option Addr) (c1 c2 : Nat) (w : World), fr.length ≤ 1048576 → to.length ≤ 1048576 → s.size ≤ 1048576 → RS Nd.enc 4 w L B A1 fr → RS Nd.enc 4 w L B A2 to → B ≤ w.heap.size → Calls Try.prog 51 #[.agg #[.slice A1 fr.length c1, .slice A2 to.length c2, .string s]] w (ResCountRefuting R0 R1 w))
    (hI : ∀ (L B : Nat) (A1 A2 : Option Addr) (c1 c2 : Nat) (w : World), fr.length ≤ 1048576 → to.length ≤ 1048576 → s.size ≤ 1048576 → RS Nd.enc 4 w L B A1 fr → RS Nd.enc 4 w L B A2 to → B ≤ w.heap.size → fr.length ≤ c1 → to.length ≤ c2 → Calls Try.prog 52 #[.agg #[.slice A1 fr.length c1, .slice A2 to.length c2, .string s]] w (ResCountRefuting R0 R1 w)) :
    Calls Try.prog 16 #[.agg #[.slice A1 fr.length c1, .slice A2 to.length c2, .string s]] w fun e w' => e = .returned (.bool true) ∧ Below w.heap.size w w' := by
  have S := Lib.hid hS
  have I := Lib.hid hI
  have E1 := Lib.hid fun (W : World) (hW : Below w.heap.size w W) => h1.below hW (Nat.le_refl _)
  have E2 := Lib.hid fun (W : World) (hW : Below w.heap.size w W) => h2.below hW (Nat.le_refl _)
  have SZ := Lib.hid fun (W : World) (hW : Below w.heap.size w W) => szRule_k 0 w.heap.size A1 A2 c1 c2 fr to s W hl1 hl2 hs1 hs2 hs (h1.below hW (Nat.le_refl _)) (h2.below hW (Nat.le_refl _)) hW.size
  clear hS hI h1 h2 hs1 hs2
  obtain ⟨W1, hW1⟩ : ∃ W1, W1 = w.alloc (.cells #[.slice A1 fr.length c1, .slice A2 to.length c2, .string s] 41) := ⟨_, rfl⟩
  have b1 : Hid (Below w.heap.size w W1) := by unfold Hid; rw [hW1]; exact (Below.refl _ _).alloc (Nat.le_refl _) _
  have x1 : Hid (RX 41 W1 w.heap.size (.slice A1 fr.length c1) (.slice A2 to.length c2) s) := by unfold Hid; rw [hW1]; exact rx_new _ _ _ _ _
  have e0' := Lib.hid hW1
  obtain ⟨k0, k1, k2⟩ := x1.out.cells
  rw [hW1] at k0 k1 k2
  clear hW1
  have e0 : (R0 != R0) = false := by simp
  have e1 : (R1 != R1) = false := by simp
  go_enter Try.func16, Try.ntmps16
  go_wp2_with (fail)
  rw [← e0'.out]
  refine (SZ.out W1 b1.out).mono ?_
  rintro e w2 ⟨r, rfl, hr, hb⟩
  have b2 := Lib.hid (b1.out.trans (hb.mono b1.out.size))
  have x2 := Lib.hid (x1.out.next hb)
  clear hb k0 k1 k2
  obtain ⟨k0, k1, k2⟩ := x2.out.cells
  by_cases hr0 : 0 ≤ r
  rotate_left
  · go_wp2
    go_ret
    exact ⟨rfl, b2.out⟩
  obtain ⟨n1, n2, n3⟩ := hr hr0
  clear hr
  have TR := Lib.hid fun (W : World) (hW : Below w.heap.size w W) => toRule_k 0 w.heap.size A1 A2 c1 c2 fr to s W n1 n2 (E1.out W hW) (E2.out W hW) hW.size
  go_wp2_with (fail)
  refine (TR.out w2 b2.out).mono ?_
  rintro e w3 ⟨A1', c1', A2', c2', rfl, ho1, ho2, hb⟩
  have S3 := Lib.hid (S.out w2.heap.size w3.heap.size A1' A2' c1' c2' w3 n1 n2 n3 (Nd.rs ho1) (Nd.rs ho2) (Nat.le_refl _))
  have b3 := Lib.hid (b2.out.trans (hb.mono b2.out.size))
  have x3 := Lib.hid (x2.out.next hb)
  clear hb k0 k1 k2 ho1 ho2
  go_wp2_with (fail)
  refine S3.out.mono ?_
  rintro e w4 ⟨rfl, hb⟩
  have b4 := Lib.hid (b3.out.trans (hb.mono b3.out.size))
  have x4 := Lib.hid (x3.out.next hb)
  clear hb
  obtain ⟨k0, k1, k2⟩ := x4.out.cells
  go_wp2_with (fail)
  refine (TR.out w4 b4.out).mono ?_
  rintro e w5 ⟨P1, d1, P2, d2, rfl, ho1, ho2, hb⟩
  have O1 := Lib.hid ho1
  have O2 := Lib.hid ho2
  have b5 := Lib.hid (b4.out.trans (hb.mono b4.out.size))
  have x5 := Lib.hid (x4.out.next hb)
  have z5 := hb.size
  clear hb k0 k1 k2 ho1 ho2
  obtain ⟨W6, hW6⟩ : ∃ W6, W6 = w5.alloc (.cells #[.slice P1 fr.length d1, .slice P2 to.length d2, .string s] 45) := ⟨_, rfl⟩
  have a6 : Below w5.heap.size w5 W6 := by rw [hW6]; exact (Below.refl _ _).alloc (Nat.le_refl _) _
  have y6 : Hid (RX 45 W6 w5.heap.size (.slice P1 fr.length d1) (.slice P2 to.length d2) s) := by unfold Hid; rw [hW6]; exact rx_new _ _ _ _ _
  have x6 := Lib.hid (x5.out.next a6)
  have b6 := Lib.hid (b5.out.trans (a6.mono b5.out.size))
  have z6 := a6.size
  have G1 := Lib.hid (O1.out.below a6 (Nat.le_refl _))
  have G2 := Lib.hid (O2.out.below a6 (Nat.le_refl _))
  have I6 := Lib.hid (I.out w4.heap.size w5.heap.size P1 P2 d1 d2 W6 n1 n2 n3 (Nd.rs G1.out) (Nd.rs G2.out) z6 (OK.cap O1.out) (OK.cap O2.out))
  obtain ⟨k0, k1, k2⟩ := y6.out.cells
  rw [hW6] at k0 k1 k2
  have e6 := Lib.hid hW6
  clear a6 hW6
  go_wp2_with (fail)
  rw [← e6.out]
  refine I6.out.mono ?_
  rintro e w7 ⟨rfl, hb⟩
  have b7 := Lib.hid (b6.out.trans (hb.mono b6.out.size))
  have x7 := Lib.hid (x6.out.next hb)
  have y7 := Lib.hid (y6.out.next hb)
  have F1 := Lib.hid (G1.out.below hb z6)
  have F2 := Lib.hid (G2.out.below hb z6)
  have z7 := hb.size
  clear hb k0 k1 k2
  obtain ⟨k0, k1, k2⟩ := y7.out.cells
  obtain ⟨l0, l1, l2⟩ := x7.out.cells
  have hEq := Lib.hid fun (W : World) (Q1 Q2 : Option Addr) (f1 f2 : Nat) (hW : Below w7.heap.size w7 W) (g1 : OK Nd.enc 4 62 W w7.heap.size W.heap.size (.slice Q1 fr.length f1) fr) (g2 : OK Nd.enc 4 62 W w7.heap.size W.heap.size (.slice Q2 to.length f2) to) =>
    eqRule_k w4.heap.size w5.heap.size w7.heap.size W.heap.size P1 P2 Q1 Q2 d1 d2 f1 f2 fr to s W n1 n2 (Nd.rs (F1.out.below hW (by omega))) (Nd.rs (F2.out.below hW (by omega))) (by have := hW.size; omega) (Nd.rs g1) (Nd.rs g2) (Nat.le_refl _)
  go_wp2_with (fail)
  go_region_held3 (fun w' => w'.cell? ⟨w5.heap.size, 0, none⟩ = some (.slice P1 fr.length d1) ∧ w'.cell? ⟨w5.heap.size, 1, none⟩ = some (.slice P2 to.length d2) ∧ w'.cell? ⟨w5.heap.size, 2, none⟩ = some (.string s) ∧ w'.cell? ⟨w.heap.size, 0, none⟩ = some (.slice A1 fr.length c1) ∧ w'.cell? ⟨w.heap.size, 1, none⟩ = some (.slice A2 to.length c2) ∧ w'.cell? ⟨w.heap.size, 2, none⟩ = some (.string s))
    (first | exact K9 | exact K8 | assumption | go_keep)
    (first
      | (go_at_call 38; refine (TR.out _ (by first | exact b7.out | exact b7.out.drew)).mono ?_; rintro e w8 ⟨Q1, f1, Q2, f2, rfl, q1, q2, hb8'⟩; have hb8 : Below w7.heap.size w7 w8 := (by first | exact hb8' | exact (Below.refl w7.heap.size w7).drew.trans hb8'); have q1' : OK Nd.enc 4 62 w8 w7.heap.size w8.heap.size (.slice Q1 fr.length f1) fr := q1; have q2' : OK Nd.enc 4 62 w8 w7.heap.size w8.heap.size (.slice Q2 to.length f2) to := q2; have y8 := RX.next y7.out hb8; have x8 := RX.next x7.out hb8; have K8 := And.intro y8.cells.1 (And.intro y8.cells.2.1 (And.intro y8.cells.2.2 x8.cells)))
      | (go_at_call 40; refine (hEq.out w8 Q1 Q2 f1 f2 hb8 q1' q2').mono ?_; rintro e w9 ⟨rfl, hb9⟩; have y9 := RX.next y8 hb9; have x9 := RX.next x8 hb9; have K9 := And.intro y9.cells.1 (And.intro y9.cells.2.1 (And.intro y9.cells.2.2 x9.cells))))
  all_goals
    have B9 := Lib.hid ((b7.out.trans (hb8.mono b7.out.size)).trans (hb9.mono (Nat.le_trans b7.out.size hb8.size)))
    clear hb8 hb8' hb9 q1 q2 q1' q2' y8 x8 y9 x9 K8 K9
    go_wp2
    go_ret
    exact ⟨rfl, B9.out⟩
end Go.Proofs.Ytieljgfocgdngaa

/- Sides of rules: which words they tell. -/
namespace Go.Proofs.Ytieljgfocgdngaa
open Go.RowKit
set_option linter.unusedVariables false

def sideList : List (List UInt8) := [[97,110,121], [99,111,110,115,116], [111,100,100], [112,111,119,101,114], [115,109,97,108,108]]
def isSide (s : ByteArray) : Bool := sideList.any fun t => t == s.toList
def isPow (n : Int) : Bool := n == 1 || n == 2 || n == 4 || n == 8 || n == 16 || n == 32
def fitS (s : ByteArray) (n : Int) : Bool :=
  if s.toList = [111,100,100] then n % 2 == 1 else if s.toList = [112,111,119,101,114] then isPow n else if s.toList = [115,109,97,108,108] then inR n 1 5 else true
def fsB (s : ByteArray) (n : Int) : Bool := isW n && isSide s
def fsR (s : ByteArray) (n : Int) : Bool := fsB s n && fitS s n

theorem side_cases (s : ByteArray) : s.toList = [97,110,121] ∨ s.toList = [99,111,110,115,116] ∨ s.toList = [111,100,100] ∨ s.toList = [112,111,119,101,114] ∨ s.toList = [115,109,97,108,108] ∨
    ((s.toList == [97,110,121]) = false ∧ (s.toList == [99,111,110,115,116]) = false ∧ (s.toList == [111,100,100]) = false ∧ (s.toList == [112,111,119,101,114]) = false ∧ (s.toList == [115,109,97,108,108]) = false) := by
  by_cases h1 : s.toList = [97,110,121]; · exact .inl h1
  by_cases h2 : s.toList = [99,111,110,115,116]; · exact .inr (.inl h2)
  by_cases h3 : s.toList = [111,100,100]; · simp [h3]
  by_cases h4 : s.toList = [112,111,119,101,114]; · simp [h4]
  by_cases h5 : s.toList = [115,109,97,108,108]; · simp [h5]
  simp [*]

def sideArr : Array Value := #[.string ⟨#[97,110,121]⟩, .string ⟨#[99,111,110,115,116]⟩, .string ⟨#[111,100,100]⟩, .string ⟨#[112,111,119,101,114]⟩, .string ⟨#[115,109,97,108,108]⟩]
def sideBs : List ByteArray := [⟨#[97,110,121]⟩, ⟨#[99,111,110,115,116]⟩, ⟨#[111,100,100]⟩, ⟨#[112,111,119,101,114]⟩, ⟨#[115,109,97,108,108]⟩]
theorem hasS_side (s : ByteArray) : hasS sideBs s = isSide s := by
  have e : sideBs.map ByteArray.toList = sideList := by decide +kernel
  unfold hasS isSide; rw [← e, List.any_map]; rfl
theorem sideArr_cell (k : Nat) (h : k < sideBs.length) : sideArr[k]? = some (.string sideBs[k]) := by
  match k, h with
  | 0, _ => rfl
  | 1, _ => rfl
  | 2, _ => rfl
  | 3, _ => rfl
  | 4, _ => rfl

theorem ruSide_any (s : ByteArray) (w : World) :
    Calls Try.prog 82 #[.string s] w fun e w' => e = .returned (.bool (isSide s)) ∧ Below w.heap.size w w' := by
  have HS := fun c => l1HasS_any w.heap.size 0 c sideBs s (w.alloc (.cells sideArr 9)) (by decide) (fun k h => by
    rw [Nat.zero_add, cell_of_row _ w.heap.size k sideArr 9 (0,0) (heap_alloc_new _ _)]; exact sideArr_cell k h)
  rw [hasS_side] at HS
  have HH := Lib.hid HS; clear HS
  have hB1 := fun o => (Below.refl w.heap.size w).alloc (Nat.le_refl _) o
  go_enter Try.func82, Try.ntmps82
  go_wp2_with (fail)
  refine (HH.out _).mono ?_
  rintro e w' ⟨rfl, rfl⟩
  go_wp2
  go_ret
  exact ⟨rfl, hB1 _⟩

theorem pow_word : ∀ k : Nat, k < 64 → ((decide (0 < (k : Int)) && (bits .and .i64 (k : Int) ((k : Int) - 1) == 0)) = isPow k) := by decide +kernel

set_option maxHeartbeats 1000000 in
theorem ruFits_any (s : ByteArray) (n : Int) (w : World) (hn : isW n = true) :
    Calls Try.prog 84 #[.string s, .int .i64 n] w fun e w' => e = .returned (.bool (fitS s n)) ∧ w = w' := by
  obtain ⟨h0, h1⟩ := (isW_iff n).mp hn
  clear hn
  obtain ⟨k, rfl⟩ := Int.eq_ofNat_of_zero_le h0
  have hk : k < 64 := by omega
  have hP := Lib.hid (pow_word k hk)
  rcases side_cases s with h|h|h|h|h|⟨g1, g2, g3, g4, g5⟩
  · have H := Lib.hid (show fitS s k = true by simp [fitS, h])
    go_enter Try.func84, Try.ntmps84
    go_wp2
    go_ret
    exact ⟨by rw [H.out]; rfl, rfl⟩
  · have H := Lib.hid (show fitS s k = true by simp [fitS, h])
    go_enter Try.func84, Try.ntmps84
    go_wp2
    go_ret
    exact ⟨by rw [H.out]; rfl, rfl⟩
  · have H := Lib.hid (show fitS s k = ((k : Int) % 2 == 1) by simp [fitS, h])
    go_enter Try.func84, Try.ntmps84
    go_wp2
    all_goals go_ret
    all_goals exact ⟨ret_bool (by rw [H.out]; try first | rfl | (simp; done) | (simp; omega)), rfl⟩
  · have H := Lib.hid (show fitS s k = isPow k by simp [fitS, h])
    go_enter Try.func84, Try.ntmps84
    go_wp2
    all_goals go_ret
    all_goals exact ⟨ret_bool (by rw [H.out, ← hP.out]; simp_all), rfl⟩
  · have H := Lib.hid (show fitS s k = inR k 1 5 by simp [fitS, h])
    go_enter Try.func84, Try.ntmps84
    go_wp2_with (go_at_call 55; refine (l1In_any _ _ _ _).mono ?_; rintro e w' ⟨rfl, rfl⟩)
    go_ret
    exact ⟨ret_bool (by rw [H.out]; rfl), rfl⟩
  · have H := Lib.hid (show fitS s k = true by
      have f : ∀ t : List UInt8, (s.toList == t) = false → ¬ s.toList = t := fun t h => by rwa [beq_eq_false_iff_ne] at h
      unfold fitS; rw [if_neg (f _ g3), if_neg (f _ g4), if_neg (f _ g5)])
    go_enter Try.func84, Try.ntmps84
    go_wp2
    go_ret
    exact ⟨by rw [H.out]; rfl, rfl⟩
end Go.Proofs.Ytieljgfocgdngaa

/- Sides of rules: the program's bits. -/
namespace Go.Proofs.Ytieljgfocgdngaa
open Go.RowKit
set_option linter.unusedVariables false

def pc (k : Nat) : Int := ((k % 2 + k / 2 % 2 + k / 4 % 2 + k / 8 % 2 + k / 16 % 2 + k / 32 % 2 : Nat) : Int)
theorem pc_pow : ∀ k : Nat, k < 64 → (pc k == 1) = isPow k := by decide +kernel

set_option maxHeartbeats 1000000 in
theorem onesCount64_any (k : Nat) (w : World) (hk : k < 64) :
    Calls Try.prog 123 #[.int .u64 k] w fun e w' => e = .returned (.int .i64 (pc k)) ∧ w = w' := by
  have h0 : (0 : Int) ≤ (k : Int) := by omega
  have h1 : (k : Int) < 64 := by omega
  go_enter Try.func123, Try.ntmps123
  go_wp2
  go_ret
  refine ⟨ret_int ?_, rfl⟩
  clear h0 h1
  revert hk
  revert k
  decide +kernel
theorem onesCount_any (k : Nat) (w : World) (hk : k < 64) :
    Calls Try.prog 86 #[.int .u64 k] w fun e w' => e = .returned (.int .i64 (pc k)) ∧ w = w' := by
  have HC := Lib.hid (onesCount64_any k w hk)
  have h0 : (0 : Int) ≤ (k : Int) := by omega
  have h1 : (k : Int) < 64 := by omega
  go_enter Try.func86, Try.ntmps86
  go_wp2_with (fail)
  refine HC.out.mono ?_
  rintro e w' ⟨rfl, rfl⟩
  go_wp2
  go_ret
  exact ⟨rfl, rfl⟩

set_option maxHeartbeats 1000000 in
theorem iFitsSide_any (s : ByteArray) (n : Int) (w : World) :
    Calls Try.prog 42 #[.string s, .int .i64 n] w fun e w' => e = .returned (.tuple #[.bool (fsR s n), .bool (fsB s n)]) ∧ w = w' := by
  have HW := Lib.hid fun W => isWord_any n W
  cases hw : isW n
  · have H1 := Lib.hid (show fsB s n = false by unfold fsB; rw [hw]; rfl)
    have H2 := Lib.hid (show fsR s n = false by unfold fsR; rw [H1.out]; rfl)
    rw [hw] at HW
    clear hw
    go_enter Try.func42, Try.ntmps42
    go_wp2_with (fail)
    refine (HW.out _).mono ?_
    rintro e w' ⟨rfl, rfl⟩
    go_wp2
    go_ret2
    exact ⟨by rw [H1.out, H2.out]; rfl, rfl⟩
  obtain ⟨h0, h1⟩ := (isW_iff n).mp hw
  rw [hw] at HW
  have hS := Lib.hid (show fsB s n = isSide s by unfold fsB; rw [hw]; rfl)
  have hR := Lib.hid (show fsR s n = (isSide s && fitS s n) by unfold fsR; rw [hS.out])
  clear hw
  obtain ⟨k, rfl⟩ := Int.eq_ofNat_of_zero_le h0
  have hk : k < 64 := by omega
  have hP := Lib.hid (pc_pow k hk)
  have hO := Lib.hid fun W => onesCount_any k W hk
  rcases side_cases s with h|h|h|h|h|⟨g1, g2, g3, g4, g5⟩
  · have H1 := Lib.hid (show fsB s k = true by rw [hS.out]; simp [isSide, sideList, h])
    have H2 := Lib.hid (show fsR s k = true by rw [hR.out]; simp [fitS, isSide, sideList, h])
    go_enter Try.func42, Try.ntmps42
    go_wp2_with (fail)
    refine (HW.out _).mono ?_
    rintro e w' ⟨rfl, rfl⟩
    go_wp2
    go_ret2
    exact ⟨by rw [H1.out, H2.out]; rfl, rfl⟩
  · have H1 := Lib.hid (show fsB s k = true by rw [hS.out]; simp [isSide, sideList, h])
    have H2 := Lib.hid (show fsR s k = true by rw [hR.out]; simp [fitS, isSide, sideList, h])
    go_enter Try.func42, Try.ntmps42
    go_wp2_with (fail)
    refine (HW.out _).mono ?_
    rintro e w' ⟨rfl, rfl⟩
    go_wp2
    go_ret2
    exact ⟨by rw [H1.out, H2.out]; rfl, rfl⟩
  · have H1 := Lib.hid (show fsB s k = true by rw [hS.out]; simp [isSide, sideList, h])
    have H2 := Lib.hid (show fsR s k = ((k : Int).tmod 2 == 1) by rw [hR.out, Int.tmod_eq_emod_of_nonneg (by omega)]; simp [fitS, isSide, sideList, h])
    go_enter Try.func42, Try.ntmps42
    go_wp2_with (fail)
    refine (HW.out _).mono ?_
    rintro e w' ⟨rfl, rfl⟩
    go_wp2
    go_ret2
    exact ⟨by rw [H1.out, H2.out]; rfl, rfl⟩
  · have H1 := Lib.hid (show fsB s k = true by rw [hS.out]; simp [isSide, sideList, h])
    have H2 := Lib.hid (show fsR s k = (pc k == 1) by rw [hR.out, hP.out]; simp [fitS, isSide, sideList, h])
    clear hP
    generalize pc k = q at *
    go_enter Try.func42, Try.ntmps42
    go_wp2_with (fail)
    refine (HW.out _).mono ?_
    rintro e w' ⟨rfl, rfl⟩
    go_wp2_with (fail)
    refine (hO.out _).mono ?_
    rintro e w' ⟨rfl, rfl⟩
    go_wp2
    go_ret2
    exact ⟨by rw [H1.out, H2.out]; rfl, rfl⟩
  · have H1 := Lib.hid (show fsB s k = true by rw [hS.out]; simp [isSide, sideList, h])
    have H2 := Lib.hid (show fsR s k = (decide (1 ≤ (k : Int)) && decide ((k : Int) ≤ 5)) by rw [hR.out]; simp [fitS, isSide, sideList, h, inR])
    by_cases hz : 1 ≤ (k : Int)
    · rw [decide_eq_true hz] at H2
      go_enter Try.func42, Try.ntmps42
      go_wp2_with (fail)
      refine (HW.out _).mono ?_
      rintro e w' ⟨rfl, rfl⟩
      go_wp2
      go_ret2
      exact ⟨by rw [H1.out, H2.out]; rfl, rfl⟩
    · rw [decide_eq_false hz] at H2
      go_enter Try.func42, Try.ntmps42
      go_wp2_with (fail)
      refine (HW.out _).mono ?_
      rintro e w' ⟨rfl, rfl⟩
      go_wp2
      go_ret2
      exact ⟨by rw [H1.out, H2.out]; rfl, rfl⟩
  · have f : ∀ t : List UInt8, (s.toList == t) = false → (t == s.toList) = false := fun t h => by
      rw [beq_eq_false_iff_ne] at h ⊢; exact Ne.symm h
    have H1 := Lib.hid (show fsB s k = false by rw [hS.out]; simp only [isSide, sideList, List.any_cons, List.any_nil, f _ g1, f _ g2, f _ g3, f _ g4, f _ g5, Bool.or_false])
    have H2 := Lib.hid (show fsR s k = false by unfold fsR; rw [H1.out]; rfl)
    clear f
    go_enter Try.func42, Try.ntmps42
    go_wp2_with (fail)
    refine (HW.out _).mono ?_
    rintro e w' ⟨rfl, rfl⟩
    go_wp2
    go_ret2
    exact ⟨by rw [H1.out, H2.out]; rfl, rfl⟩

theorem sFitsSide_any (s : ByteArray) (n : Int) (w : World) :
    Calls Try.prog 41 #[.string s, .int .i64 n] w fun e w' => e = .returned (.tuple #[.bool (fsR s n), .bool (fsB s n)]) ∧ Below w.heap.size w w' := by
  have HS := Lib.hid (ruSide_any s w)
  have HW := Lib.hid fun W => exWord_w n W
  cases hs : isSide s
  · have H1 := Lib.hid (show fsB s n = false by unfold fsB; rw [hs, Bool.and_false])
    have H2 := Lib.hid (show fsR s n = false by unfold fsR; rw [H1.out]; rfl)
    rw [hs] at HS
    clear hs
    go_enter Try.func41, Try.ntmps41
    go_wp2_with (fail)
    refine HS.out.mono ?_
    rintro e w1 ⟨rfl, hb⟩
    go_wp2
    go_ret2
    exact ⟨by rw [H1.out, H2.out]; rfl, hb⟩
  rw [hs] at HS
  cases hw : isW n
  · have H1 := Lib.hid (show fsB s n = false by unfold fsB; rw [hw, Bool.false_and])
    have H2 := Lib.hid (show fsR s n = false by unfold fsR; rw [H1.out]; rfl)
    rw [hw] at HW
    clear hs hw
    go_enter Try.func41, Try.ntmps41
    go_wp2_with (fail)
    refine HS.out.mono ?_
    rintro e w1 ⟨rfl, hb⟩
    have hb1 := Lib.hid hb
    clear hb
    go_wp2_with (fail)
    refine (HW.out _).mono ?_
    rintro e w' ⟨rfl, rfl⟩
    go_wp2
    go_ret2
    exact ⟨by rw [H1.out, H2.out]; rfl, hb1.out⟩
  have H1 := Lib.hid (show fsB s n = true by unfold fsB; rw [hs, hw]; rfl)
  have H2 := Lib.hid (show fsR s n = fitS s n by unfold fsR; rw [H1.out, Bool.true_and])
  have HF := Lib.hid fun W => ruFits_any s n W hw
  rw [hw] at HW
  clear hs hw
  generalize fitS s n = q at *
  go_enter Try.func41, Try.ntmps41
  go_wp2_with (fail)
  refine HS.out.mono ?_
  rintro e w1 ⟨rfl, hb⟩
  have hb1 := Lib.hid hb
  clear hb
  go_wp2_with (fail)
  refine (HW.out _).mono ?_
  rintro e w' ⟨rfl, rfl⟩
  go_wp2_with (fail)
  refine (HF.out _).mono ?_
  rintro e w' ⟨rfl, rfl⟩
  go_wp2
  go_ret2
  exact ⟨by rw [H1.out, H2.out]; rfl, hb1.out⟩

theorem lawFitsSide (s : ByteArray) (n : Int) (w : World) (hs : s.size ≤ 9223372036854775807) :
    Calls Try.prog 11 #[.string s, .int .i64 n] w fun e w' => e = .returned (.bool true) ∧ Below w.heap.size w w' := by
  have hB := Below.refl w.heap.size w
  by_cases h : s.size ≤ 1048576
  · go_enter Try.func11, Try.ntmps11
    go_wp2_with (fail)
    refine (sFitsSide_any _ _ _).mono ?_
    rintro e w1 ⟨rfl, h1⟩
    go_wp2_with (fail)
    refine (iFitsSide_any _ _ _).mono ?_
    rintro e w2 ⟨rfl, rfl⟩
    go_wp2_with (fail)
    go_ret
    exact ⟨rfl, h1⟩
  · go_enter Try.func11, Try.ntmps11
    go_wp2_with (fail)
    go_ret
    exact ⟨rfl, hB⟩
end Go.Proofs.Ytieljgfocgdngaa
