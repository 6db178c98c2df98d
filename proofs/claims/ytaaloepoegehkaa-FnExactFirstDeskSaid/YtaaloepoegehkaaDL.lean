import Derived.Test.YtaaloepoegehkaaDKa
import Derived.WalkKit
import Derived.WalkSpells
import Derived.WalkLawsBesides
import Derived.Deep.RegionLaw
import Derived.Deep.DeepCutAuto
import Derived.Lib.Hide
/- FirstDesk: both sides, and the exact law's walk. -/
namespace Go.Proofs.Ytaaloepoegehkaa
open Go.RowKit
set_option linter.unusedVariables false
set_option maxRecDepth 100000

def fdN : Nd := ⟨⟨#[105, 110]⟩, 0, 0, 0⟩
def FirstD (w : World) (e : Ending) (w' : World) : Prop :=
  ∃ A1 c1, e = .returned (.agg #[.slice A1 1 c1, .slice none 0 0]) ∧ OK Nd.enc 4 108 w' w.heap.size w'.heap.size (.slice A1 1 c1) [fdN] ∧ Below w.heap.size w w'
set_option maxHeartbeats 2000000 in
theorem sFirstDesk_any (w : World) : Calls Try.prog 38 #[] w (FirstD w) := by
  have hx := Lib.hid ((dx_new 48 w (.slice (some ⟨w.heap.size + 1, 0, none⟩) 1 1) (.slice none 0 0)).next ((Below.refl _ _).alloc (Nat.le_refl _) (.cells #[.string ⟨#[105, 110]⟩, .int .i64 0, .int .i64 0, .int .i64 0] 108)))
  have hb := Lib.hid (((Below.refl w.heap.size w).alloc (Nat.le_refl _) (.cells #[.slice (some ⟨w.heap.size + 1, 0, none⟩) 1 1, .slice none 0 0] 48)).alloc (by simp) (.cells #[.string ⟨#[105, 110]⟩, .int .i64 0, .int .i64 0, .int .i64 0] 108))
  have hk : KB Nd.enc 108 ((w.alloc (.cells #[.slice (some ⟨w.heap.size + 1, 0, none⟩) 1 1, .slice none 0 0] 48)).alloc (.cells #[.string ⟨#[105, 110]⟩, .int .i64 0, .int .i64 0, .int .i64 0] 108)) (w.heap.size + 1) [fdN] := by
    have h := heap_alloc_new (w.alloc (.cells #[.slice (some ⟨w.heap.size + 1, 0, none⟩) 1 1, .slice none 0 0] 48)) (.cells #[.string ⟨#[105, 110]⟩, .int .i64 0, .int .i64 0, .int .i64 0] 108)
    rw [World.size_alloc] at h
    exact h
  have hO := Lib.hid (hk.toOK Nd.hk (lo := w.heap.size) (hi := ((w.alloc (.cells #[.slice (some ⟨w.heap.size + 1, 0, none⟩) 1 1, .slice none 0 0] 48)).alloc (.cells #[.string ⟨#[105, 110]⟩, .int .i64 0, .int .i64 0, .int .i64 0] 108)).heap.size) (by unfold maxLen; decide) (by omega) hk.lt)
  clear hk
  go_enter Try.func38, Try.ntmps38
  go_wp2
  exact desk_ret rfl rfl hx.out ⟨_, 1, rfl, hO.out, hb.out⟩
set_option maxHeartbeats 2000000 in
theorem iFirstDesk_any (w : World) : Calls Try.prog 39 #[] w (FirstD w) := by
  have hx := Lib.hid ((dx_new 48 w (.slice (some ⟨w.heap.size + 1, 0, none⟩) 1 1) (.slice none 0 0)).next ((Below.refl _ _).alloc (Nat.le_refl _) (.cells #[.string ⟨#[105, 110]⟩, .int .i64 0, .int .i64 0, .int .i64 0] 108)))
  have hb := Lib.hid (((Below.refl w.heap.size w).alloc (Nat.le_refl _) (.cells #[.slice (some ⟨w.heap.size + 1, 0, none⟩) 1 1, .slice none 0 0] 48)).alloc (by simp) (.cells #[.string ⟨#[105, 110]⟩, .int .i64 0, .int .i64 0, .int .i64 0] 108))
  have hk : KB Nd.enc 108 ((w.alloc (.cells #[.slice (some ⟨w.heap.size + 1, 0, none⟩) 1 1, .slice none 0 0] 48)).alloc (.cells #[.string ⟨#[105, 110]⟩, .int .i64 0, .int .i64 0, .int .i64 0] 108)) (w.heap.size + 1) [fdN] := by
    have h := heap_alloc_new (w.alloc (.cells #[.slice (some ⟨w.heap.size + 1, 0, none⟩) 1 1, .slice none 0 0] 48)) (.cells #[.string ⟨#[105, 110]⟩, .int .i64 0, .int .i64 0, .int .i64 0] 108)
    rw [World.size_alloc] at h
    exact h
  have hO := Lib.hid (hk.toOK Nd.hk (lo := w.heap.size) (hi := ((w.alloc (.cells #[.slice (some ⟨w.heap.size + 1, 0, none⟩) 1 1, .slice none 0 0] 48)).alloc (.cells #[.string ⟨#[105, 110]⟩, .int .i64 0, .int .i64 0, .int .i64 0] 108)).heap.size) (by unfold maxLen; decide) (by omega) hk.lt)
  clear hk
  go_enter Try.func39, Try.ntmps39
  go_wp2
  exact desk_ret rfl rfl hx.out ⟨_, 1, rfl, hO.out, hb.out⟩

theorem rs_nilD {α : Type} {enc : α → List Value} {k : Nat} (w : World) (L B : Nat) (A : Option Addr) : RS enc k w L B A [] := fun h => absurd h (by simp)
set_option maxHeartbeats 2000000 in
theorem markDesk1 (lo hi : Nat) (A : Option Addr) (c : Nat) (es : List Nd) (k0 : Int) (w : World) (hl : es.length ≤ 1048576) (hk0 : 0 ≤ k0) (hk1 : k0 ≤ 100) (hlo : lo ≤ w.heap.size) (hhi : hi ≤ w.heap.size) (hx : OK Nd.enc 4 108 w lo hi (.slice A es.length c) es) :
    Calls Try.prog 41 #[.agg #[.slice A es.length c, .slice none 0 0], .int .i64 k0] w fun e w' => e = .returned (.int .i64 (k0 + 4 * es.length)) ∧ OK Nd.enc 4 108 w' lo hi (.slice A es.length c) (marksNd k0 es.length) ∧ Chg lo hi w w' := by
  obtain ⟨W1, hW1⟩ : ∃ W1, W1 = w.alloc (.cells #[.slice A es.length c, .slice none 0 0] 48) := ⟨_, rfl⟩
  have a1 : Below w.heap.size w W1 := by rw [hW1]; exact (Below.refl _ _).alloc (Nat.le_refl _) _
  have x1 : DX 48 W1 w.heap.size (.slice A es.length c) (.slice none 0 0) := by rw [hW1]; exact dx_new _ _ _ _
  have H1 := Lib.hid (markNodeS_k lo hi A c es k0 W1 hl hk0 (by omega) (hx.below a1 hhi))
  have H2 := Lib.hid fun (k : Int) (W : World) (h0 : 0 ≤ k) (h1 : k ≤ 100000000) => (markInstrS_any W.heap.size W.heap.size none 0 [] k W (by simp) h0 h1 (OK.nil _ _ _ _) : Calls Try.prog 28 #[.slice none 0 0, .int .i64 k] W (MarkedInstr W W.heap.size W.heap.size (.slice none 0 0) 0 k))
  obtain ⟨k0', k1'⟩ := x1.cells
  rw [hW1] at k0' k1'
  have e1 := Lib.hid hW1
  have A1 := Lib.hid a1
  have X1 := Lib.hid x1
  clear hW1 a1 x1 hx
  go_enter Try.func41, Try.ntmps41
  go_wp2_with (fail)
  rw [← e1.out]
  refine H1.out.mono ?_
  rintro e w2 ⟨rfl, ho, hc⟩
  have hO := Lib.hid ho
  have hC := Lib.hid ((Chg.ofBelow (lo := lo) (hi := hi) A1.out).trans hc)
  have x2 : DX 48 w2 w.heap.size (.slice A es.length c) (.slice none 0 0) := (hc.block w.heap.size X1.out.lt (.inr hhi)).trans X1.out
  clear ho hc k0' k1'
  obtain ⟨k0', k1'⟩ := x2.cells
  clear x2
  go_wp2_with (fail)
  refine (H2.out _ _ (by omega) (by omega)).mono ?_
  rintro e w3 ⟨rfl, _, hc⟩
  have hb3 := hc.below (Nat.le_refl _)
  have hC3 := Lib.hid (hC.out.trans (Chg.ofBelow hb3))
  have hO3 := Lib.hid (hO.out.below hb3 (Nat.le_trans hhi hC.out.size))
  clear hc hb3 k0' k1'
  have hz : k0 + 4 * (es.length : Int) + 5 * (([] : List In).length : Int) = k0 + 4 * (es.length : Int) := by simp
  rw [hz]
  go_wp2
  go_ret
  exact ⟨rfl, hO3.out, hC3.out⟩
set_option maxHeartbeats 2000000 in
theorem heldDesk1 (L B : Nat) (A : Option Addr) (n c : Nat) (k0 : Int) (w : World) (hl : n ≤ 1048576) (hk0 : 0 ≤ k0) (hk1 : k0 ≤ 100) (hB : B ≤ w.heap.size) (hx : RS Nd.enc 4 w L B A (marksNd k0 n)) :
    Calls Try.prog 42 #[.agg #[.slice A n c, .slice none 0 0], .int .i64 k0] w fun e w' => e = .returned (.int .i64 (k0 + 4 * n)) ∧ Below w.heap.size w w' := by
  obtain ⟨W1, hW1⟩ : ∃ W1, W1 = w.alloc (.cells #[.slice A n c, .slice none 0 0] 48) := ⟨_, rfl⟩
  have a1 : Below w.heap.size w W1 := by rw [hW1]; exact (Below.refl _ _).alloc (Nat.le_refl _) _
  have x1 : DX 48 W1 w.heap.size (.slice A n c) (.slice none 0 0) := by rw [hW1]; exact dx_new _ _ _ _
  have H1 := Lib.hid (heldNodeS_k L B A n c k0 W1 hl hk0 (by omega) (hx.below a1 hB) (Nat.le_trans hB a1.size))
  have H2 := Lib.hid fun (k : Int) (W : World) (h0 : 0 ≤ k) (h1 : k ≤ 100000000) => (heldInstrS_any 0 0 none 0 0 k W (by omega) h0 h1 (rs_nilD _ _ _ _) (Nat.zero_le _) : Calls Try.prog 55 #[.slice none 0 0, .int .i64 k] W fun e w' => e = .returned (.int .i64 (k + 5 * ((0 : Nat) : Int))) ∧ Below W.heap.size W w')
  obtain ⟨k0', k1'⟩ := x1.cells
  rw [hW1] at k0' k1'
  have e1 := Lib.hid hW1
  have A1 := Lib.hid a1
  have X1 := Lib.hid x1
  clear hW1 a1 x1 hx
  go_enter Try.func42, Try.ntmps42
  go_wp2_with (fail)
  rw [← e1.out]
  refine H1.out.mono ?_
  rintro e w2 ⟨rfl, hb⟩
  have hB2 := Lib.hid (A1.out.trans (hb.mono A1.out.size))
  have x2 := X1.out.next hb
  clear hb k0' k1'
  obtain ⟨k0', k1'⟩ := x2.cells
  clear x2
  go_wp2_with (fail)
  refine (H2.out _ _ (by omega) (by omega)).mono ?_
  rintro e w3 ⟨rfl, hb⟩
  have hB3 := Lib.hid (hB2.out.trans (hb.mono hB2.out.size))
  clear hb k0' k1'
  have hz : k0 + 4 * (n : Int) + 5 * ((0 : Nat) : Int) = k0 + 4 * (n : Int) := by simp
  rw [hz]
  go_wp2
  go_ret
  exact ⟨rfl, hB3.out⟩

/-- A first desk in a box. -/
structure FD (w0 : World) (g : Nat) (A : Option Addr) (c lo hi : Nat) (xs : List Nd) (W : World) : Prop where
  bx : DX 48 W g (.slice A 1 c) (.slice none 0 0)
  ok : OK Nd.enc 4 108 W lo hi (.slice A 1 c) xs
  l1 : w0.heap.size ≤ lo
  l2 : hi ≤ W.heap.size
  ap : g < lo ∨ hi ≤ g
  lg : w0.heap.size ≤ g
  be : Below w0.heap.size w0 W
theorem FD.below {w0 : World} {g : Nat} {A : Option Addr} {c lo hi : Nat} {xs : List Nd} {W W' : World} (h : FD w0 g A c lo hi xs W) (hb : Below W.heap.size W W') : FD w0 g A c lo hi xs W' :=
  ⟨h.bx.next hb, h.ok.below hb h.l2, h.l1, Nat.le_trans h.l2 hb.size, h.ap, h.lg, h.be.trans (hb.mono h.be.size)⟩
theorem FD.chg {w0 : World} {g : Nat} {A : Option Addr} {c lo hi lo' hi' : Nat} {xs : List Nd} {W W' : World} (h : FD w0 g A c lo hi xs W) (hc : Chg lo' hi' W W') (h1 : hi ≤ lo' ∨ hi' ≤ lo) (h2 : g < lo' ∨ hi' ≤ g) (h3 : w0.heap.size ≤ lo') : FD w0 g A c lo hi xs W' :=
  ⟨(hc.block g h.bx.lt h2).trans h.bx, h.ok.chg hc h1, h.l1, Nat.le_trans h.l2 hc.size, h.ap, h.lg, below_chg h.be hc h.be.size h3⟩
theorem FD.mark {w0 : World} {g : Nat} {A : Option Addr} {c lo hi : Nat} {xs ys : List Nd} {W W' : World} (h : FD w0 g A c lo hi xs W) (hc : Chg lo hi W W') (ho : OK Nd.enc 4 108 W' lo hi (.slice A 1 c) ys) : FD w0 g A c lo hi ys W' :=
  ⟨(hc.block g h.bx.lt h.ap).trans h.bx, ho, h.l1, Nat.le_trans h.l2 hc.size, h.ap, h.lg, below_chg h.be hc h.be.size h.l1⟩
theorem FD.call {w w3 : World} {A : Option Addr} {c : Nat} (ho : OK Nd.enc 4 108 w3 w.heap.size w3.heap.size (.slice A 1 c) [fdN]) (hb : Below w.heap.size w w3) :
    FD w w3.heap.size A c w.heap.size w3.heap.size [fdN] (w3.alloc (.cells #[.slice A 1 c, .slice none 0 0] 48)) := by
  have ha := (Below.refl w3.heap.size w3).alloc (Nat.le_refl _) (.cells #[.slice A 1 c, .slice none 0 0] 48)
  exact ⟨dx_new _ _ _ _, OK.below ho ha (Nat.le_refl _), Nat.le_refl _, ha.size, .inr (Nat.le_refl _), hb.size, hb.trans (ha.mono hb.size)⟩
theorem FD.two {w0 : World} {g : Nat} {A : Option Addr} {c lo hi : Nat} {xs : List Nd} {W W3 : World} (h : FD w0 g A c lo hi xs W) (hb : Below W.heap.size W W3) (o : Obj) : FD w0 g A c lo hi xs (W3.alloc o) :=
  (h.below hb).below ((Below.refl _ _).alloc (Nat.le_refl _) o)
end Go.Proofs.Ytaaloepoegehkaa
