/- Texts of this proof, one behind the other: RI, RB. -/
import Derived.Test.YtieljgfocgdngaaRH
import Derived.Test.YtieljgfocgdngaaXH
import Derived.WalkKit
import Derived.WalkSpells
import Derived.WalkLawsBesides
import Derived.Lib.Hide
import Derived.Test.YtieljgfocgdngaaKNode
import Derived.Test.YtieljgfocgdngaaVC
/- Whether an expression is a tree in the order of the walk of its root. -/
namespace Go.Proofs.Ytieljgfocgdngaa
open Go.RowKit
set_option linter.unusedVariables false
set_option maxRecDepth 100000

set_option maxHeartbeats 1000000 in
theorem ruWalk_any (L B : Nat) (A : Option Addr) (c i : Nat) (es : List Nd) (w : World) (hl : es.length ≤ 24) (hi : i < es.length) (hok : okFrom es 0 = true) (hes : NS w L B A es) (hB : B ≤ w.heap.size) (hbd : (tr es es.length 0 i).length ≤ 1000) :
    Calls Try.prog 141 #[.slice A es.length c, .int .i64 i] w (FreshNode w (tr es es.length 0 i)) := by
  obtain ⟨W1, hW1⟩ : ∃ W1, W1 = w.alloc (.cells #[.slice none 0 0] 148) := ⟨_, rfl⟩
  have b1 : Below w.heap.size w W1 := by rw [hW1]; exact (Below.refl _ _).alloc (Nat.le_refl _) _
  have G1 : HS w.heap.size (w.heap.size + 1) [] (.slice none 0 0) W1 := by rw [hW1]; exact HS.nil _ _
  have z1 : W1.heap.size = w.heap.size + 1 := by rw [hW1]; simp
  have hC := Lib.hid (copied_any L B w.heap.size (w.heap.size + 1) w.heap.size A c es W1 hl hok (hes.below b1 hB) hB (by omega) (Nat.le_refl _) (by omega) (by omega) es.length i [] (.slice none 0 0) W1 hi hi (by simpa using hbd) (Below.refl _ _) G1)
  simp only [List.length_nil, List.nil_append, Nat.zero_add] at hC
  have e1 := Lib.hid hW1
  have B1 := Lib.hid b1
  clear hW1 b1 G1 hes
  generalize tr es es.length 0 i = T at *
  go_enter Try.func141, Try.ntmps141
  go_wp2_with (fail)
  rw [← e1.out]
  refine hC.out.mono ?_
  rintro e w2 ⟨rfl, v2, g2, f2, o2⟩
  have B2 := Lib.hid (B1.out.trans (f2.below (B := w.heap.size) (by omega) (Nat.le_refl _) (fun j hj => by simp [Value.ownBlock] at hj)))
  have G2 := Lib.hid g2
  obtain ⟨A2, c2, rfl⟩ := g2.form
  have c0 := g2.c0
  clear g2 f2 o2
  go_wp2
  go_ret
  exact ⟨A2, c2, rfl, G2.out.ok.lower (by omega), B2.out⟩

set_option maxHeartbeats 1000000 in
theorem ruWalked_any (L B : Nat) (A : Option Addr) (c : Nat) (es : List Nd) (w : World) (hl : es.length ≤ 1048576) (hes : NS w L B A es) (hB : B ≤ w.heap.size) :
    Calls Try.prog 118 #[.slice A es.length c] w fun e w' => e = .returned (.bool (walked es)) ∧ Below w.heap.size w w' := by
  have H := Lib.hid (exGood_any L B A c es w hl hes hB)
  have hE := Lib.hid fun (W : World) (hW : Below w.heap.size w W) => hes.below hW hB
  clear hes
  cases hg : good es
  · have hK : Hid (walked es = false) := by unfold Hid walked expandOk; rw [hg]; rfl
    rw [hg] at H
    clear hg
    go_enter Try.func118, Try.ntmps118
    go_wp2_with (fail)
    refine H.out.mono ?_
    rintro e w2 ⟨rfl, hb⟩
    have hbb := Lib.hid hb
    clear hb
    go_wp2
    go_ret
    exact ⟨ret_bool (by rw [hK.out]), hbb.out⟩
  obtain ⟨hl1, hl24, hok⟩ := good_len hg
  have hW := Lib.hid (walked_tree hg)
  have hS := Lib.hid (tree_size hg)
  have hT := Lib.hid fun (W : World) (hW : Below w.heap.size w W) => exTree_any L B A c es W hl24 (hE.out W hW) (Nat.le_trans hB hW.size) hok
  rw [hg] at H
  have hOk := Lib.hid hok
  clear hg hok
  cases ht : tree es
  · rw [ht] at hT hW
    have hK : Hid (walked es = false) := by rw [Hid, hW.out]; rfl
    clear ht hS
    go_enter Try.func118, Try.ntmps118
    go_wp2_with (fail)
    refine H.out.mono ?_
    rintro e w2 ⟨rfl, hb⟩
    have hbb := Lib.hid hb
    clear hb
    go_wp2_with (fail)
    refine (hT.out w2 hbb.out).mono ?_
    rintro e w3 ⟨rfl, hb⟩
    have hbc := Lib.hid (hbb.out.trans (hb.mono hbb.out.size))
    clear hb
    go_wp2
    go_ret
    exact ⟨ret_bool (by rw [hK.out]), hbc.out⟩
  · have hsz := Lib.hid (hS.out.1 ht)
    rw [ht] at hT hW
    rw [Bool.true_and] at hW
    clear ht hS
    obtain ⟨m, hm⟩ : ∃ m, es.length = m + 1 := ⟨es.length - 1, by omega⟩
    have hM := Lib.hid hm
    have hmm : es.length - 1 = m := by omega
    have hmi : (es.length : Int) - 1 = (m : Int) := by omega
    have hMI := Lib.hid hmi
    have hRW := Lib.hid fun (W : World) (hW' : Below w.heap.size w W) => ruWalk_any L B A c m es W hl24 (by omega) hOk.out (hE.out W hW') (Nat.le_trans hB hW'.size) (by have := hsz.out; unfold expandL at this; rw [hmm] at this; omega)
    have hXl : tr es es.length 0 m = expandL es := by unfold expandL; rw [hmm]
    rw [hXl] at hRW
    clear hm hmi hmm hXl
    have hX24 : (expandL es).length ≤ 24 := by have := hsz.out; omega
    generalize expandL es = T at *
    go_enter Try.func118, Try.ntmps118
    go_wp2_with (fail)
    refine H.out.mono ?_
    rintro e w2 ⟨rfl, hb⟩
    have hbb := Lib.hid hb
    clear hb
    go_wp2_with (fail)
    refine (hT.out w2 hbb.out).mono ?_
    rintro e w3 ⟨rfl, hb⟩
    have hbc := Lib.hid (hbb.out.trans (hb.mono hbb.out.size))
    clear hb
    go_wp2_with (fail)
    rw [hMI.out]
    refine (hRW.out w3 hbc.out).mono ?_
    rintro e w4 ⟨A4, c4, rfl, ho, hb⟩
    have hbd := Lib.hid (hbc.out.trans (hb.mono hbc.out.size))
    have hSm := Lib.hid (ruSame_any w3.heap.size w4.heap.size L B A4 A c4 c T es w4 (by omega) hl (Nd.rs ho).ns (hE.out w4 hbd.out) (Nat.le_refl _) (Nat.le_trans hB hbd.out.size))
    clear hb ho
    go_wp2_with (fail)
    refine hSm.out.mono ?_
    rintro e w5 ⟨rfl, hb⟩
    have hbe := Lib.hid (hbd.out.trans (hb.mono hbd.out.size))
    clear hb
    go_wp2
    go_ret
    exact ⟨ret_bool (by rw [hW.out]), hbe.out⟩

set_option maxHeartbeats 1000000 in
theorem isWalked_any (L B : Nat) (A : Option Addr) (c : Nat) (es : List Nd) (w : World) (hl : es.length ≤ 1048576) (hes : NS w L B A es) (hB : B ≤ w.heap.size) :
    Calls Try.prog 80 #[.slice A es.length c] w fun e w' => e = .returned (.bool (walked es)) ∧ Below w.heap.size w w' := by
  have H := Lib.hid (iExpandExpr_any L B A c es w hl hes hB)
  have hE := Lib.hid fun (W : World) (hW : Below w.heap.size w W) => hes.below hW hB
  have hW : Hid (walked es = (expandOk es && sameL (expandL es) es)) := rfl
  have hRl := expandR_len es
  clear hes
  cases hk : expandOk es
  · rw [hk] at H hW
    clear hk
    go_enter Try.func80, Try.ntmps80
    go_wp2_with (fail)
    refine H.out.mono ?_
    rintro e w2 ⟨A2, c2, rfl, _, hb⟩
    have hbb := Lib.hid hb
    clear hb
    go_wp2
    go_ret
    exact ⟨ret_bool (by rw [hW.out]; rfl), hbb.out⟩
  · have hR : expandR es = expandL es := by unfold expandR; rw [if_pos hk]
    rw [hk] at H hW
    rw [Bool.true_and, ← hR] at hW
    clear hk hR
    generalize expandR es = T at *
    go_enter Try.func80, Try.ntmps80
    go_wp2_with (fail)
    refine H.out.mono ?_
    rintro e w2 ⟨A2, c2, rfl, ho, hb⟩
    have hbb := Lib.hid hb
    have hSm := Lib.hid (equalN_any w.heap.size w2.heap.size L B A2 A c2 c T es w2 hRl hl (Nd.rs ho).ns (hE.out w2 hb) (Nat.le_refl _) (Nat.le_trans hB hb.size))
    clear hb ho
    go_wp2_with (fail)
    refine hSm.out.mono ?_
    rintro e w3 ⟨rfl, hb⟩
    have hbc := Lib.hid (hbb.out.trans (hb.mono hbb.out.size))
    clear hb
    go_wp2
    go_ret
    exact ⟨ret_bool (by rw [hW.out]), hbc.out⟩
end Go.Proofs.Ytieljgfocgdngaa

/- Rules: a box of two slices and a string; what the laws do with rules. -/
namespace Go.Proofs.Ytieljgfocgdngaa
open Go.RowKit
set_option linter.unusedVariables false
set_option maxRecDepth 100000

def RX (t : TypeId) (w : World) (g : Nat) (v1 v2 : Value) (s : ByteArray) : Prop := w.heap[g]? = some (.cells #[v1, v2, .string s] t (0, 0))
theorem RX.lt {t : TypeId} {w : World} {g : Nat} {v1 v2 : Value} {s : ByteArray} (h : RX t w g v1 v2 s) : g < w.heap.size := by
  rcases Nat.lt_or_ge g w.heap.size with hlt | hge
  · exact hlt
  · unfold RX at h; rw [Array.getElem?_eq_none hge] at h; cases h
theorem RX.next {t : TypeId} {w w' : World} {g : Nat} {v1 v2 : Value} {s : ByteArray} (h : RX t w g v1 v2 s) (hb : Below w.heap.size w w') : RX t w' g v1 v2 s := (hb.block g h.lt).trans h
theorem RX.cells {t : TypeId} {w : World} {g : Nat} {v1 v2 : Value} {s : ByteArray} (h : RX t w g v1 v2 s) : w.cell? ⟨g, 0, none⟩ = some v1 ∧ w.cell? ⟨g, 1, none⟩ = some v2 ∧ w.cell? ⟨g, 2, none⟩ = some (.string s) := by
  unfold RX at h; simp [World.cell?, h]
theorem RX.fz {t : TypeId} {w : World} {g : Nat} {v1 v2 : Value} {s : ByteArray} (h : RX t w g v1 v2 s) (i : Nat) : w.frozen? ⟨g, i, none⟩ = false := by
  unfold RX at h; simp [World.frozen?, h]
theorem RX.set0 {t : TypeId} {w : World} {g : Nat} {v1 v2 : Value} {s : ByteArray} (h : RX t w g v1 v2 s) (x : Value) : RX t (w.setCell ⟨g, 0, none⟩ x) g x v2 s := by
  unfold RX at h ⊢; simp [World.setCell, Array.getElem?_modify, h]
theorem RX.set1 {t : TypeId} {w : World} {g : Nat} {v1 v2 : Value} {s : ByteArray} (h : RX t w g v1 v2 s) (x : Value) : RX t (w.setCell ⟨g, 1, none⟩ x) g v1 x s := by
  unfold RX at h ⊢; simp [World.setCell, Array.getElem?_modify, h]
theorem RX.set2 {t : TypeId} {w : World} {g : Nat} {v1 v2 : Value} {s : ByteArray} (h : RX t w g v1 v2 s) (x : ByteArray) : RX t (w.setCell ⟨g, 2, none⟩ (.string x)) g v1 v2 x := by
  unfold RX at h ⊢; simp [World.setCell, Array.getElem?_modify, h]
theorem RX.other {t : TypeId} {w : World} {g q : Nat} {v1 v2 : Value} {s : ByteArray} (h : RX t w g v1 v2 s) (j : Nat) (x : Value) (hne : q ≠ g) : RX t (w.setCell ⟨q, j, none⟩ x) g v1 v2 s :=
  (Below.heap_setCell w ⟨q, j, none⟩ x g (by simpa using fun e => hne e.symm)).trans h
theorem rx_new (t : TypeId) (w : World) (v1 v2 : Value) (s : ByteArray) : RX t (w.alloc (.cells #[v1, v2, .string s] t)) w.heap.size v1 v2 s := heap_alloc_new w _
theorem OK.far {t : TypeId} {w : World} {lo hi : Nat} {v : Value} {xs : List Nd} (h : OK Nd.enc 4 t w lo hi v xs) {p : Addr} (hp : p.block < lo ∨ hi ≤ p.block) (u : Value) : OK Nd.enc 4 t (w.setCell p u) lo hi v xs := by
  refine ⟨⟨h.1.1, ?_⟩, h.2⟩
  rcases h.1.2 with hn | ⟨g, cap, cur, rfl, hg, hh, hr⟩
  · exact .inl hn
  · have hB : g < hi := h.2 g rfl
    exact .inr ⟨g, cap, cur, rfl, hg, (Below.heap_setCell w p u g (by omega)).trans hh, hr⟩
/-- A function whose result is a rule in a cell. -/
theorem rule_ret {fn : Func} {Q : Ending → World → Prop} {tmps : Array Value} {w : World} {g : Nat} {v1 v2 : Value} {sd : ByteArray} {s : Tmp} (hr : fn.results = #[.cell s 45]) (hs : tmps.getD s undef = .pointer (some ⟨g, 0, none⟩))
    (h : RX 45 w g v1 v2 sd) (hq : Q (.returned (.agg #[v1, v2, .string sd])) w) : bodyPost Try.prog fn Q .ret ⟨tmps, []⟩ w := by
  obtain ⟨q0, q1, q2⟩ := h.cells
  refine bodyPost_ret (v := .agg #[v1, v2, .string sd]) ?_ rfl hq
  have hs' : tmps[s]?.getD undef = .pointer (some ⟨g, 0, none⟩) := by simpa using hs
  simp [results, hr, hs', go_sem, q0, q1, q2]

def FreshRule (w : World) (fr to : List Nd) (s : ByteArray) (e : Ending) (w' : World) : Prop :=
  ∃ A1 c1 A2 c2, e = .returned (.agg #[.slice A1 fr.length c1, .slice A2 to.length c2, .string s]) ∧ OK Nd.enc 4 62 w' w.heap.size w'.heap.size (.slice A1 fr.length c1) fr ∧ OK Nd.enc 4 62 w' w.heap.size w'.heap.size (.slice A2 to.length c2) to ∧ Below w.heap.size w w'

set_option maxHeartbeats 4000000 in
theorem toRule_k (L B : Nat) (A1 A2 : Option Addr) (c1 c2 : Nat) (fr to : List Nd) (s : ByteArray) (w : World) (hl1 : fr.length ≤ 1048576) (hl2 : to.length ≤ 1048576) (h1 : RS Nd.enc 4 w L B A1 fr) (h2 : RS Nd.enc 4 w L B A2 to) (hB : B ≤ w.heap.size) :
    Calls Try.prog 38 #[.agg #[.slice A1 fr.length c1, .slice A2 to.length c2, .string s]] w (FreshRule w fr to s) := by
  have hT1 := Lib.hid fun (W : World) (hW : Below w.heap.size w W) => toNodeS_k L B A1 c1 fr W hl1 (h1.below hW hB) (Nat.le_trans hB hW.size)
  have hT2 := Lib.hid fun (W : World) (hW : Below w.heap.size w W) => toNodeS_k L B A2 c2 to W hl2 (h2.below hW hB) (Nat.le_trans hB hW.size)
  clear h1 h2
  obtain ⟨W1, hW1⟩ : ∃ W1, W1 = w.alloc (.cells #[.slice A1 fr.length c1, .slice A2 to.length c2, .string s] 41) := ⟨_, rfl⟩
  have b1 : Below w.heap.size w W1 := by rw [hW1]; exact (Below.refl _ _).alloc (Nat.le_refl _) _
  have x1 : RX 41 W1 w.heap.size (.slice A1 fr.length c1) (.slice A2 to.length c2) s := by rw [hW1]; exact rx_new _ _ _ _ _
  have z1 : W1.heap.size = w.heap.size + 1 := by rw [hW1]; simp
  obtain ⟨W2, hW2⟩ : ∃ W2, W2 = W1.alloc (.cells #[.slice none 0 0, .slice none 0 0, .string ⟨#[]⟩] 45) := ⟨_, rfl⟩
  have b2 : Below W1.heap.size W1 W2 := by rw [hW2]; exact (Below.refl _ _).alloc (Nat.le_refl _) _
  have r2 : RX 45 W2 (w.heap.size + 1) (.slice none 0 0) (.slice none 0 0) ⟨#[]⟩ := by rw [hW2, ← z1]; exact rx_new _ _ _ _ _
  have z2 : W2.heap.size = w.heap.size + 2 := by rw [hW2]; simp [z1]
  obtain ⟨W3, hW3⟩ : ∃ W3, W3 = W2.alloc (.cells #[.slice none 0 0, .slice none 0 0, .string ⟨#[]⟩] 45) := ⟨_, rfl⟩
  have b3 : Below W2.heap.size W2 W3 := by rw [hW3]; exact (Below.refl _ _).alloc (Nat.le_refl _) _
  have o3 : Hid (RX 45 W3 (w.heap.size + 2) (.slice none 0 0) (.slice none 0 0) ⟨#[]⟩) := by unfold Hid; rw [hW3, ← z2]; exact rx_new _ _ _ _ _
  have r3 := Lib.hid (r2.next b3)
  have x3 := Lib.hid ((x1.next b2).next b3)
  have B3 := Lib.hid ((b1.trans (b2.mono b1.size)).trans (b3.mono (by omega)))
  have z3 : W3.heap.size = w.heap.size + 3 := by rw [hW3]; simp [z2]
  have e3 : Hid (W3 = ((w.alloc (.cells #[.slice A1 fr.length c1, .slice A2 to.length c2, .string s] 41)).alloc (.cells #[.slice none 0 0, .slice none 0 0, .string ⟨#[]⟩] 45)).alloc (.cells #[.slice none 0 0, .slice none 0 0, .string ⟨#[]⟩] 45)) := by unfold Hid; rw [hW3, hW2, hW1]
  clear hW1 hW2 hW3 b1 x1 z1 b2 r2 z2 b3
  obtain ⟨k0, k1, k2⟩ := x3.out.cells
  rw [e3.out] at k0 k1 k2
  go_enter Try.func38, Try.ntmps38
  go_wp2_with (fail)
  rw [← e3.out]
  refine (hT1.out W3 B3.out).mono ?_
  rintro e w4 ⟨A1', c1', rfl, ho1, hb4⟩
  have z4 := hb4.size
  have x4 := Lib.hid (x3.out.next hb4)
  have r4 := Lib.hid (r3.out.next hb4)
  have o4 := Lib.hid (o3.out.next hb4)
  have B4 := Lib.hid (B3.out.trans (hb4.mono (by omega)))
  have O4 := Lib.hid ho1
  clear hb4 ho1 k0 k1 k2
  obtain ⟨W5, hW5⟩ : ∃ W5, W5 = w4.setCell ⟨w.heap.size + 2, 0, none⟩ (.slice A1' fr.length c1') := ⟨_, rfl⟩
  have x5 : Hid (RX 41 W5 w.heap.size (.slice A1 fr.length c1) (.slice A2 to.length c2) s) := by unfold Hid; rw [hW5]; exact x4.out.other (q := w.heap.size + 2) 0 _ (by omega)
  have r5 : Hid (RX 45 W5 (w.heap.size + 1) (.slice none 0 0) (.slice none 0 0) ⟨#[]⟩) := by unfold Hid; rw [hW5]; exact r4.out.other (q := w.heap.size + 2) 0 _ (by omega)
  have o5 : Hid (RX 45 W5 (w.heap.size + 2) (.slice A1' fr.length c1') (.slice none 0 0) ⟨#[]⟩) := by unfold Hid; rw [hW5]; exact o4.out.set0 _
  have B5 : Hid (Below w.heap.size w W5) := by unfold Hid; rw [hW5]; exact B4.out.setCell (p := ⟨w.heap.size + 2, 0, none⟩) (by simp) _
  have z5 : W5.heap.size = w4.heap.size := by rw [hW5]; simp [World.setCell]
  have O5 : Hid (OK Nd.enc 4 62 W5 W3.heap.size w4.heap.size (.slice A1' fr.length c1') fr) := by unfold Hid; rw [hW5]; exact O4.out.far (p := ⟨w.heap.size + 2, 0, none⟩) (.inl (by simp; omega)) _
  have q0 := o4.out.fz 0
  obtain ⟨l0, l1, l2⟩ := o4.out.cells
  obtain ⟨k0, k1, k2⟩ := x5.out.cells
  rw [hW5] at k0 k1 k2
  have HW5 := Lib.hid hW5
  clear hW5
  go_wp2_with (fail)
  rw [← HW5.out]
  refine (hT2.out W5 B5.out).mono ?_
  rintro e w6 ⟨A2', c2', rfl, ho2, hb6⟩
  have z6 := hb6.size
  have x6 := Lib.hid (x5.out.next hb6)
  have r6 := Lib.hid (r5.out.next hb6)
  have o6 := Lib.hid (o5.out.next hb6)
  have B6 := Lib.hid (B5.out.trans (hb6.mono (by omega)))
  have O6 := Lib.hid (O5.out.below hb6 (by omega))
  have P6 := Lib.hid ho2
  clear hb6 ho2 k0 k1 k2 l0 l1 l2 q0
  have q1 := o6.out.fz 1
  obtain ⟨l0, l1, l2⟩ := o6.out.cells
  have o7 := Lib.hid (o6.out.set1 (.slice A2' to.length c2'))
  have x7 := Lib.hid (x6.out.other (q := w.heap.size + 2) 1 (.slice A2' to.length c2') (by omega))
  have r7 := Lib.hid (r6.out.other (q := w.heap.size + 2) 1 (.slice A2' to.length c2') (by omega))
  obtain ⟨k0, k1, k2⟩ := x7.out.cells
  have q2 := o7.out.fz 2
  obtain ⟨j0, j1, j2⟩ := o7.out.cells
  have o8 := Lib.hid (o7.out.set2 s)
  have r8 := Lib.hid (r7.out.other (q := w.heap.size + 2) 2 (.string s) (by omega))
  obtain ⟨i0, i1, i2⟩ := o8.out.cells
  obtain ⟨h0, h1, h2⟩ := r8.out.cells
  have f0 := r8.out.fz 0
  have f1 := r8.out.fz 1
  have f2 := r8.out.fz 2
  have R := Lib.hid (((r8.out.set0 (.slice A1' fr.length c1')).set1 (.slice A2' to.length c2')).set2 s)
  have hlo : ∀ p : Addr, p.block < W3.heap.size → p.block < W3.heap.size ∨ w4.heap.size ≤ p.block := fun p h => .inl h
  have RO1 := Lib.hid (((((O6.out.far (p := ⟨w.heap.size + 2, 1, none⟩) (.inl (by simp; omega)) (.slice A2' to.length c2')).far (p := ⟨w.heap.size + 2, 2, none⟩) (.inl (by simp; omega)) (.string s)).far (p := ⟨w.heap.size + 1, 0, none⟩) (.inl (by simp; omega)) (.slice A1' fr.length c1')).far (p := ⟨w.heap.size + 1, 1, none⟩) (.inl (by simp; omega)) (.slice A2' to.length c2')).far (p := ⟨w.heap.size + 1, 2, none⟩) (.inl (by simp; omega)) (.string s))
  have RO2 := Lib.hid (((((P6.out.far (p := ⟨w.heap.size + 2, 1, none⟩) (.inl (by simp; omega)) (.slice A2' to.length c2')).far (p := ⟨w.heap.size + 2, 2, none⟩) (.inl (by simp; omega)) (.string s)).far (p := ⟨w.heap.size + 1, 0, none⟩) (.inl (by simp; omega)) (.slice A1' fr.length c1')).far (p := ⟨w.heap.size + 1, 1, none⟩) (.inl (by simp; omega)) (.slice A2' to.length c2')).far (p := ⟨w.heap.size + 1, 2, none⟩) (.inl (by simp; omega)) (.string s))
  have RB := Lib.hid (((((B6.out.setCell (p := ⟨w.heap.size + 2, 1, none⟩) (by simp) (.slice A2' to.length c2')).setCell (p := ⟨w.heap.size + 2, 2, none⟩) (by simp) (.string s)).setCell (p := ⟨w.heap.size + 1, 0, none⟩) (by simp) (.slice A1' fr.length c1')).setCell (p := ⟨w.heap.size + 1, 1, none⟩) (by simp) (.slice A2' to.length c2')).setCell (p := ⟨w.heap.size + 1, 2, none⟩) (by simp) (.string s))
  go_wp2
  refine rule_ret rfl rfl R.out ⟨A1', c1', A2', c2', rfl, (RO1.out.lower (by omega)).more (by simp [World.setCell]; omega), (RO2.out.lower (by omega)).more (by simp [World.setCell]), RB.out⟩
end Go.Proofs.Ytieljgfocgdngaa
