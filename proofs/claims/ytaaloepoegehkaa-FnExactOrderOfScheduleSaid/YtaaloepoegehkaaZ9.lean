/- Texts of this proof, one behind the other: N9G, N9H, N9I, N9J, N9K, N9C. -/
import Derived.Test.YtaaloepoegehkaaZ11
import Derived.Test.YtaaloepoegehkaaZ13
import Derived.WalkKit
import Derived.WalkSpells
import Derived.WalkLawsBesides
import Derived.Deep.RegionLaw
import Derived.Deep.RegionHeld3
import Derived.Lib.Hide
import Derived.Deep.DeepCutAuto
import Derived.Test.YtaaloepoegehkaaZ10
import Derived.Deep.AppendLies
import Derived.Test.YtaaloepoegehkaaN9A
/- Chapter 9: whether one of some instructions writes a register: slices.ContainsFunc with the closure of delayBetween. -/
namespace Go.Proofs.Ytaaloepoegehkaa
open Go.RowKit
set_option linter.unusedVariables false
set_option maxRecDepth 100000

def anyD (zs : List In) (d : Int) : Bool := zs.any fun z => z.d == d
theorem anyD_snoc {zs : List In} {k : Nat} (d : Int) (h : k < zs.length) : anyD (zs.take (k + 1)) d = (anyD (zs.take k) d || (zs[k].d == d)) := by
  unfold anyD; rw [List.take_succ_eq_append_getElem h, List.any_append]; simp
theorem anyD_of {zs : List In} {d : Int} {j : Nat} (h : anyD (zs.take j) d = true) : anyD zs d = true := by
  unfold anyD at *
  rw [List.any_eq_true] at *
  obtain ⟨x, hx, hp⟩ := h
  exact ⟨x, List.mem_of_mem_take hx, hp⟩
theorem RS.sub9 {w : World} {L B b o i j : Nat} {es : List In} (h : RS In.enc 5 w L B (some ⟨b, o, none⟩) es) (hj : j ≤ es.length) (hi : i ≤ j) : RS In.enc 5 w L B (some ⟨b, o + i * 5, none⟩) ((es.take j).drop i) := by
  intro hn
  rw [List.length_drop, List.length_take] at hn
  obtain ⟨b', o', e, hb, hc⟩ := h (by omega)
  injection e with e; injection e with e1 e2 _; subst e1; subst e2
  refine ⟨b, o + i * 5, rfl, hb, fun k hk q v hv => ?_⟩
  rw [List.length_drop, List.length_take] at hk
  have h2 := hc (i + k) (by omega) q v (by rw [← hv]; congr 1; rw [List.getElem_drop, List.getElem_take])
  rw [← h2]; congr 2; rw [Nat.add_mul]; omega

theorem writes1_any (zop : ByteArray) (zd za zb zm d : Int) (bx : Nat) (w : World) (hc : w.cell? ⟨bx, 1, none⟩ = some (.int .i64 d)) (hbx : bx < w.heap.size) :
    Calls Try.prog 217 #[.agg #[.string zop, .int .i64 zd, .int .i64 za, .int .i64 zb, .int .i64 zm], .pointer (some ⟨bx, 0, none⟩)] w fun e w' => e = .returned (.bool (zd == d)) ∧ Below w.heap.size w w' := by
  have hB1 := Lib.hid (fun o => (Below.refl w.heap.size w).alloc (Nat.le_refl _) o)
  have hc1 := fun o => ((hB1.out o).cell (p := ⟨bx, 1, none⟩) hbx).trans hc
  go_enter Try.func217, Try.ntmps217
  go_wp2
  go_ret
  exact ⟨rfl, hB1.out _⟩

def SomeD (zs : List In) (d : Int) (w : World) (e : Ending) (w' : World) : Prop := ∃ j : Int, e = .returned (.int .i64 j) ∧ decide (0 ≤ j) = anyD zs d ∧ Below w.heap.size w w'
set_option maxHeartbeats 1000000 in
theorem IndexFuncD_any (L B : Nat) (A : Option Addr) (c : Nat) (zs : List In) (d : Int) (bx : Nat) (w : World) (hl : zs.length ≤ 1048576) (hes : RS In.enc 5 w L B A zs) (hB : B ≤ w.heap.size) (hc : w.cell? ⟨bx, 1, none⟩ = some (.int .i64 d)) (hbx : bx < w.heap.size) :
    Calls Try.prog 235 #[.slice A zs.length c, .func (.func 217) #[] #[.pointer (some ⟨bx, 0, none⟩)]] w (SomeD zs d w) := by
  have hE := Lib.hid hes
  have hBB := Lib.hid hB
  have hC := Lib.hid (And.intro hc hbx)
  have hBel0 := Below.refl w.heap.size w
  clear hes hB hc hbx
  go_enter Try.func235, Try.ntmps235
  go_wp2
  go_loopw [5, 8] (fun _ i wr => ∃ j : Nat, j ≤ zs.length ∧ i = .int .i64 j ∧ anyD (zs.take j) d = false ∧ Below w.heap.size w wr) (fun _ i _ => zs.length - (intOf i).toNat)
  case atStart => exact ⟨0, Nat.zero_le _, rfl, rfl, hBel0⟩
  case round =>
    obtain ⟨j, hj, rfl, hno, hbel⟩ := hrel
    have hNo := Lib.hid hno
    have hBL := Lib.hid hbel
    clear hno
    by_cases hlt : j < zs.length
    · obtain ⟨b, o, rfl, ⟨_, hbB⟩, hcc⟩ := In.cells (hE.out.below hbel hBB.out) (by omega)
      obtain ⟨c1, c2, c3, c4, c5⟩ := hcc j hlt
      have hck := Lib.hid ((hbel.cell (p := ⟨bx, 1, none⟩) hC.out.2).trans hC.out.1)
      have hbk2 := Lib.hid (Nat.lt_of_lt_of_le hC.out.2 hbel.size)
      clear hcc hbel
      have hS := Lib.hid (anyD_snoc d hlt)
      have hOf := Lib.hid (fun h => anyD_of (zs := zs) (d := d) (j := j + 1) h)
      generalize zs[j] = z at *
      obtain ⟨zop, zd, za, zb, zm⟩ := z
      dsimp only at *
      have hcl := Lib.hid (writes1_any zop zd za zb zm d bx wr hck.out hbk2.out)
      cases hp : (zd == d)
      · rw [hp] at hcl
        have hx : Hid (anyD (zs.take (j + 1)) d = false) := by rw [Hid, hS.out, hNo.out, hp]; rfl
        clear hp
        go_wp2_with (go_at_call 217; (with_reducible refine hcl.out.mono ?_); rintro e w3 ⟨rfl, hb3⟩)
        have hB3 := Lib.hid (hBL.out.trans (hb3.mono hBL.out.size))
        clear hb3
        go_roundw
        case rel => exact ⟨j + 1, by omega, by go_num, hx.out, hB3.out⟩
        case measure => simp [intOf]; omega
      · rw [hp] at hcl
        have hx : Hid (anyD zs d = true) := hOf.out (by rw [hS.out, hp]; simp)
        clear hp
        go_wp2_with (go_at_call 217; (with_reducible refine hcl.out.mono ?_); rintro e w3 ⟨rfl, hb3⟩)
        have hB3 := Lib.hid (hBL.out.trans (hb3.mono hBL.out.size))
        clear hb3
        go_ret
        exact ⟨j, rfl, by rw [hx.out]; simp, hB3.out⟩
    · obtain rfl : j = zs.length := by omega
      go_wp2
      go_ret
      exact ⟨-1, rfl, by have := hNo.out; rw [List.take_length] at this; rw [this]; rfl, hbel⟩
theorem ContainsFuncD_any (L B : Nat) (A : Option Addr) (m c : Nat) (zs : List In) (d : Int) (bx : Nat) (w : World) (hm : m = zs.length) (hl : zs.length ≤ 1048576) (hes : RS In.enc 5 w L B A zs) (hB : B ≤ w.heap.size) (hc : w.cell? ⟨bx, 1, none⟩ = some (.int .i64 d)) (hbx : bx < w.heap.size) :
    Calls Try.prog 219 #[.slice A m c, .func (.func 217) #[] #[.pointer (some ⟨bx, 0, none⟩)]] w fun e w' => e = .returned (.bool (anyD zs d)) ∧ Below w.heap.size w w' := by
  subst hm
  have H := Lib.hid (IndexFuncD_any L B A c zs d bx w hl hes hB hc hbx)
  clear hes hB hc hbx
  go_enter Try.func219, Try.ntmps219
  go_wp2_with (fail)
  refine H.out.mono ?_
  rintro e w' ⟨j, rfl, hk, hb⟩
  have hK := Lib.hid hk; clear hk
  go_wp2
  go_ret
  exact ⟨ret_bool hK.out, hb⟩
end Go.Proofs.Ytaaloepoegehkaa

/- Chapter 9: delays, of the program. -/
namespace Go.Proofs.Ytaaloepoegehkaa
open Go.RowKit
set_option linter.unusedVariables false
set_option maxRecDepth 100000

theorem anyD_btw (cs : List In) (i j : Nat) {x : In} (hx : inAt cs i = x) : anyD ((cs.take j).drop (i + 1)) x.d = btw cs i j := by subst hx; rfl
set_option maxHeartbeats 8000000 in
theorem delayBetween_any (L B : Nat) (A : Option Addr) (c : Nat) (cs : List In) (i j : Nat) (w : World) (hcap : cs.length ≤ c) (hl : cs.length ≤ 20) (hgood : ∀ x ∈ cs, goodIn x = true) (hes : RS In.enc 5 w L B A cs) (hB : B ≤ w.heap.size) (hij : i < j) (hj : j < cs.length) :
    Calls Try.prog 194 #[.slice A cs.length c, .int .i64 i, .int .i64 j] w fun e w' => e = .returned (.tuple #[.int .i64 (max (dl cs i j) 0), .bool (decide (0 ≤ dl cs i j))]) ∧ Below w.heap.size w w' := by
  have hi : i < cs.length := by omega
  have hE := Lib.hid fun (W' : World) (h : Below w.heap.size w W') => hes.below h hB
  obtain ⟨g9, o9, hA, ⟨_, hbB⟩, hcc⟩ := In.cells hes (by omega)
  obtain ⟨xa, xb, xc, xd, xe⟩ := hcc i hi
  obtain ⟨ya, yb, yc, yd, ye⟩ := hcc j hj
  subst hA
  have hbW : g9 < w.heap.size := by omega
  have i0 : (0 : Int) ≤ (i : Int) := by omega
  have i1 : (i : Int) < (cs.length : Int) := by omega
  have j0 : (0 : Int) ≤ (j : Int) := by omega
  have j1 : (j : Int) < (cs.length : Int) := by omega
  have hgx := hgood _ (List.getElem_mem hi)
  have hD := Lib.hid (dl_eq (cs := cs) (i := i) (j := j) (inAt_eq hi) (inAt_eq hj))
  have hBt := Lib.hid (anyD_btw cs i j (inAt_eq hi))
  have hSl := Lib.hid fun (W : World) (hW : Below w.heap.size w W) (bx : Nat) (h1 : W.cell? ⟨bx, 1, none⟩ = some (.int .i64 cs[i].d)) (h2 : bx < W.heap.size) => ContainsFuncD_any L B (some ⟨g9, o9 + (i + 1) * 5, none⟩) (j - (i + 1)) (c - (i + 1)) ((cs.take j).drop (i + 1)) cs[i].d bx W (by rw [List.length_drop, List.length_take]; omega) (by rw [List.length_drop, List.length_take]; omega) ((RS.sub9 hes (by omega) (by omega)).below hW hB) (Nat.le_trans hB hW.size) h1 h2
  have one := fun (k : Nat) (v : Value) (h : w.cell? ⟨g9, k, none⟩ = some v) u => (((Below.refl w.heap.size w).alloc (Nat.le_refl _) u).cell (p := ⟨g9, k, none⟩) hbW).trans h
  have two := fun (k : Nat) (v : Value) (h : w.cell? ⟨g9, k, none⟩ = some v) u u' => ((((Below.refl w.heap.size w).alloc (Nat.le_refl _) u).alloc (by simp) u').cell (p := ⟨g9, k, none⟩) hbW).trans h
  have oxa := one _ _ xa
  have txa := two _ _ xa
  have oxb := one _ _ xb
  have txb := two _ _ xb
  have oxc := one _ _ xc
  have txc := two _ _ xc
  have oxd := one _ _ xd
  have txd := two _ _ xd
  have oxe := one _ _ xe
  have txe := two _ _ xe
  have oya := one _ _ ya
  have tya := two _ _ ya
  have oyb := one _ _ yb
  have tyb := two _ _ yb
  have oyc := one _ _ yc
  have tyc := two _ _ yc
  have oyd := one _ _ yd
  have tyd := two _ _ yd
  have oye := one _ _ ye
  have tye := two _ _ ye
  clear one two
  have hfm := good_parts hgx
  have hc1 := Lib.hid (fm_c1 hfm.2.2.2.1)
  have hC := Lib.hid (fun W => costOf_any cs[i].op cs[i].d cs[i].a cs[i].b cs[i].m W)
  have hRx := Lib.hid (readsOf_any cs[i])
  have hRy := Lib.hid (readsOf_any cs[j])
  have hLx := Lib.hid (readsL_len cs[i])
  have hLy := Lib.hid (readsL_len cs[j])
  clear hcc hes hgood hgx hfm
  generalize dl cs i j = D at *
  generalize (cs.take j).drop (i + 1) = zs at *
  generalize readsL cs[i] = Rx at *
  generalize readsL cs[j] = Ry at *
  generalize cs[i] = x at *
  generalize cs[j] = y at *
  obtain ⟨op, d, a, b, m⟩ := x
  obtain ⟨op', d', a', b', m'⟩ := y
  dsimp only at *
  have hHx := Lib.hid (fun L B A c W (h : IS W L B A Rx) => Contains_eq L B A Rx.length c Rx d' W rfl (by have := hLx.out; omega) h)
  have hHy := Lib.hid (fun L B A c W (h : IS W L B A Ry) => Contains_eq L B A Ry.length c Ry d W rfl (by have := hLy.out; omega) h)
  rw [← hBt.out] at hD
  generalize hasI Rx d' = qa at *
  generalize hasI Ry d = qc at *
  generalize anyD zs d = bt at *
  generalize hqb : (d == d') = qb at *
  generalize (fm op).c = cost at *
  have hQb := Lib.hid hqb
  have hBo := Lib.hid hbW
  clear hqb hbW hbB
  go_enter Try.func194, Try.ntmps194
  go_upto_region 1 with fail
  go_cut [8, 9] (fun p q wx => ∃ gx gy, p = .pointer (some ⟨gx, 0, none⟩) ∧ q = .pointer (some ⟨gy, 0, none⟩) ∧ TwoX w gx gy ⟨op, d, a, b, m⟩ ⟨op', d', a', b', m'⟩ wx)
  case first =>
    go_region
    all_goals (go_wp2_with fail; go_meet; refine alt_ex ?_; first | exact .inl ⟨rfl, rfl, twoX_a _ _ _ _ _ _ _ _ _ _ _⟩ | exact .inr ⟨rfl, rfl, twoX_a _ _ _ _ _ _ _ _ _ _ _⟩)
  case rest =>
  clear xa oxa txa xb oxb txb xc oxc txc xd oxd txd xe oxe txe ya oya tya yb oyb tyb yc oyc tyc yd oyd tyd ye oye tye
  obtain ⟨gx, gy, rfl, rfl, hT⟩ := hcut
  have hT1 := Lib.hid (hT.next (Below.refl _ _).drew)
  have hT0 := Lib.hid hT
  obtain ⟨⟨xa, xb, xc, xd, xe⟩, ⟨ya, yb, yc, yd, ye⟩⟩ := hT.cells
  dsimp only at xa xb xc xd xe ya yb yc yd ye
  clear hT
  obtain ⟨n9, hn9⟩ : ∃ n9, n9 = i + 1 := ⟨_, rfl⟩
  rw [← hn9] at hSl
  have hw9 : IntKind.i64.wrap ((i : Int) + 1) = (n9 : Int) := by rw [IntWalk.i64_in _ (by omega)]; omega
  have hn0 : (0 : Int) ≤ (n9 : Int) := by omega
  have hnj : (n9 : Int) ≤ (j : Int) := by omega
  have hnc : ¬ c = n9 := by omega
  have hjc : (j : Int) ≤ (c : Int) := by omega
  have hN9 := Lib.hid hn9
  clear hn9
  go_upto_region 3 with fail
  go_cut [20] (fun r wx => r = .bool (qc && !bt) ∧ TwoX w gx gy ⟨op, d, a, b, m⟩ ⟨op', d', a', b', m'⟩ wx)
  case first =>
    cases qc
    · clear hSl
      refine wp_region_any (by kernel_rfl) ?_
      try (change wpAny _ _ _ _ _ _ _ (World.drew _))
      refine wpAny_take (i := 2) (v := ?_) rfl (by kernel_rfl) (by kernel_rfl) (by kernel_rfl) (fun _ _ _ h => h) (Or.inl ⟨by rfl, ?_⟩) ?_
      rotate_left 1
      · (intro w; go_simp; try with_reducible rfl)
      try simp only [Act.put, List.setIfInBounds_toArray, List.set_cons_zero, List.set_cons_succ, List.getElem_toArray, List.getElem_cons_zero, List.getElem_cons_succ]
      refine wpAny_ready (rs := [0, 3]) (by kernel_rfl) (by simp) ?_
      refine AllReady.cons rfl (fun K hK => ?_) (AllReady.cons rfl (fun K hK => ?_) (AllReady.nil))
      try simp only [List.setIfInBounds_toArray, List.set_cons_zero, List.set_cons_succ, List.getElem_toArray, List.getElem_cons_zero, List.getElem_cons_succ]
      go_simp
      try (refine hK _ _ ?_; clear hK K)
      refine wpAny_ready (rs := [1, 3]) (by kernel_rfl) (by simp) ?_
      refine AllReady.cons rfl (fun K hK => ?_) (AllReady.cons rfl (fun K hK => ?_) (AllReady.nil))
      try simp only [List.setIfInBounds_toArray, List.set_cons_zero, List.set_cons_succ, List.getElem_toArray, List.getElem_cons_zero, List.getElem_cons_succ]
      (go_simp; first | (go_at_call 218; (with_reducible refine (hRy.out _).mono ?_); rintro e w2 ⟨A2, c2, rfl, ho2, hb2⟩; have hT2 := Lib.hid (hT1.out.next hb2); obtain ⟨⟨xa2, xb2, xc2, xd2, xe2⟩, ⟨ya2, yb2, yc2, yd2, ye2⟩⟩ := hT2.out.cells; dsimp only at xa2 xb2 xc2 xd2 xe2 ya2 yb2 yc2 yd2 ye2) | (go_at_call 151; (with_reducible refine (hHy.out _ _ _ _ _ (by exact ho2.rs)).mono ?_); rintro e w' ⟨rfl, rfl⟩))
      try go_simp
      try (refine hK _ _ ?_; clear hK K)
      refine wpAny_ready (rs := [3]) (by kernel_rfl) (by simp) ?_
      refine AllReady.cons rfl (fun K hK => ?_) (AllReady.nil)
      try simp only [List.setIfInBounds_toArray, List.set_cons_zero, List.set_cons_succ, List.getElem_toArray, List.getElem_cons_zero, List.getElem_cons_succ]
      go_simp
      try (refine hK _ _ ?_; clear hK K)
      refine wpAny_ready (rs := [4]) (by kernel_rfl) (by simp) ?_
      refine AllReady.cons rfl (fun K hK => ?_) (AllReady.nil)
      try simp only [List.setIfInBounds_toArray, List.set_cons_zero, List.set_cons_succ, List.getElem_toArray, List.getElem_cons_zero, List.getElem_cons_succ]
      (go_simp; first | (go_at_call 218; (with_reducible refine (hRy.out _).mono ?_); rintro e w2 ⟨A2, c2, rfl, ho2, hb2⟩; have hT2 := Lib.hid (hT1.out.next hb2); obtain ⟨⟨xa2, xb2, xc2, xd2, xe2⟩, ⟨ya2, yb2, yc2, yd2, ye2⟩⟩ := hT2.out.cells; dsimp only at xa2 xb2 xc2 xd2 xe2 ya2 yb2 yc2 yd2 ye2) | (go_at_call 151; (with_reducible refine (hHy.out _ _ _ _ _ (by exact ho2.rs)).mono ?_); rintro e w' ⟨rfl, rfl⟩))
      try go_simp
      try (refine hK _ _ ?_; clear hK K)
      refine wpAny_take (i := 5) (v := ?_) rfl (by kernel_rfl) (by kernel_rfl) (by kernel_rfl) (fun _ _ _ h => h) (Or.inl ⟨by rfl, ?_⟩) ?_
      rotate_left 1
      · (intro w; go_simp; try with_reducible rfl)
      try simp only [Act.put, List.setIfInBounds_toArray, List.set_cons_zero, List.set_cons_succ, List.getElem_toArray, List.getElem_cons_zero, List.getElem_cons_succ]
      refine wpAny_take (i := 6) (v := undef) rfl (by kernel_rfl) (by kernel_rfl) (by kernel_rfl) (fun _ _ _ h => h) (Or.inr ⟨by rfl, rfl⟩) ?_
      try simp only [Act.put, List.setIfInBounds_toArray, List.set_cons_zero, List.set_cons_succ, List.getElem_toArray, List.getElem_cons_zero, List.getElem_cons_succ]
      refine wpAny_take (i := 7) (v := undef) rfl (by kernel_rfl) (by kernel_rfl) (by kernel_rfl) (fun _ _ _ h => h) (Or.inr ⟨by rfl, rfl⟩) ?_
      try simp only [Act.put, List.setIfInBounds_toArray, List.set_cons_zero, List.set_cons_succ, List.getElem_toArray, List.getElem_cons_zero, List.getElem_cons_succ]
      refine wpAny_take (i := 8) (v := undef) rfl (by kernel_rfl) (by kernel_rfl) (by kernel_rfl) (fun _ _ _ h => h) (Or.inr ⟨by rfl, rfl⟩) ?_
      try simp only [Act.put, List.setIfInBounds_toArray, List.set_cons_zero, List.set_cons_succ, List.getElem_toArray, List.getElem_cons_zero, List.getElem_cons_succ]
      refine wpAny_take (i := 9) (v := undef) rfl (by kernel_rfl) (by kernel_rfl) (by kernel_rfl) (fun _ _ _ h => h) (Or.inr ⟨by rfl, rfl⟩) ?_
      try simp only [Act.put, List.setIfInBounds_toArray, List.set_cons_zero, List.set_cons_succ, List.getElem_toArray, List.getElem_cons_zero, List.getElem_cons_succ]
      refine wpAny_take (i := 10) (v := undef) rfl (by kernel_rfl) (by kernel_rfl) (by kernel_rfl) (fun _ _ _ h => h) (Or.inr ⟨by rfl, rfl⟩) ?_
      try simp only [Act.put, List.setIfInBounds_toArray, List.set_cons_zero, List.set_cons_succ, List.getElem_toArray, List.getElem_cons_zero, List.getElem_cons_succ]
      refine wpAny_take (i := 11) (v := undef) rfl (by kernel_rfl) (by kernel_rfl) (by kernel_rfl) (fun _ _ _ h => h) (Or.inr ⟨by rfl, rfl⟩) ?_
      try simp only [Act.put, List.setIfInBounds_toArray, List.set_cons_zero, List.set_cons_succ, List.getElem_toArray, List.getElem_cons_zero, List.getElem_cons_succ]
      refine wpAny_take (i := 12) (v := undef) rfl (by kernel_rfl) (by kernel_rfl) (by kernel_rfl) (fun _ _ _ h => h) (Or.inr ⟨by rfl, rfl⟩) ?_
      try simp only [Act.put, List.setIfInBounds_toArray, List.set_cons_zero, List.set_cons_succ, List.getElem_toArray, List.getElem_cons_zero, List.getElem_cons_succ]
      refine wpAny_take (i := 13) (v := undef) rfl (by kernel_rfl) (by kernel_rfl) (by kernel_rfl) (fun _ _ _ h => h) (Or.inr ⟨by rfl, rfl⟩) ?_
      try simp only [Act.put, List.setIfInBounds_toArray, List.set_cons_zero, List.set_cons_succ, List.getElem_toArray, List.getElem_cons_zero, List.getElem_cons_succ]
      refine wpAny_take (i := 14) (v := ?_) rfl (by kernel_rfl) (by kernel_rfl) (by kernel_rfl) (fun _ _ _ h => h) (Or.inl ⟨by rfl, ?_⟩) ?_
      rotate_left 1
      · (intro w; go_simp; try with_reducible rfl)
      try simp only [Act.put, List.setIfInBounds_toArray, List.set_cons_zero, List.set_cons_succ, List.getElem_toArray, List.getElem_cons_zero, List.getElem_cons_succ]
      refine wpAny_take (i := 15) (v := ?_) rfl (by kernel_rfl) (by kernel_rfl) (by kernel_rfl) (fun _ _ _ h => h) (Or.inl ⟨by rfl, ?_⟩) ?_
      rotate_left 1
      · (intro w; go_simp; try with_reducible rfl)
      try simp only [Act.put, List.setIfInBounds_toArray, List.set_cons_zero, List.set_cons_succ, List.getElem_toArray, List.getElem_cons_zero, List.getElem_cons_succ]
      refine wpAny_done (by kernel_rfl) ?_ _
      rotate_left 1
      try simp only [List.setIfInBounds_toArray, List.set_cons_zero, List.set_cons_succ, List.getElem_toArray, List.getElem_cons_zero, List.getElem_cons_succ]
      go_simp
      try (refine hK _ _ ?_; clear hK K)
      refine wpAny_ready (rs := [1]) (by kernel_rfl) (by simp) ?_
      refine AllReady.cons rfl (fun K hK => ?_) (AllReady.nil)
      try simp only [List.setIfInBounds_toArray, List.set_cons_zero, List.set_cons_succ, List.getElem_toArray, List.getElem_cons_zero, List.getElem_cons_succ]
      (go_simp; first | (go_at_call 218; (with_reducible refine (hRy.out _).mono ?_); rintro e w2 ⟨A2, c2, rfl, ho2, hb2⟩; have hT2 := Lib.hid (hT1.out.next hb2); obtain ⟨⟨xa2, xb2, xc2, xd2, xe2⟩, ⟨ya2, yb2, yc2, yd2, ye2⟩⟩ := hT2.out.cells; dsimp only at xa2 xb2 xc2 xd2 xe2 ya2 yb2 yc2 yd2 ye2) | (go_at_call 151; (with_reducible refine (hHy.out _ _ _ _ _ (by exact ho2.rs)).mono ?_); rintro e w' ⟨rfl, rfl⟩))
      try go_simp
      try (refine hK _ _ ?_; clear hK K)
      refine wpAny_ready (rs := [4]) (by kernel_rfl) (by simp) ?_
      refine AllReady.cons rfl (fun K hK => ?_) (AllReady.nil)
      try simp only [List.setIfInBounds_toArray, List.set_cons_zero, List.set_cons_succ, List.getElem_toArray, List.getElem_cons_zero, List.getElem_cons_succ]
      (go_simp; first | (go_at_call 218; (with_reducible refine (hRy.out _).mono ?_); rintro e w2 ⟨A2, c2, rfl, ho2, hb2⟩; have hT2 := Lib.hid (hT1.out.next hb2); obtain ⟨⟨xa2, xb2, xc2, xd2, xe2⟩, ⟨ya2, yb2, yc2, yd2, ye2⟩⟩ := hT2.out.cells; dsimp only at xa2 xb2 xc2 xd2 xe2 ya2 yb2 yc2 yd2 ye2) | (go_at_call 151; (with_reducible refine (hHy.out _ _ _ _ _ (by exact ho2.rs)).mono ?_); rintro e w' ⟨rfl, rfl⟩))
      try go_simp
      try (refine hK _ _ ?_; clear hK K)
      refine wpAny_take (i := 5) (v := ?_) rfl (by kernel_rfl) (by kernel_rfl) (by kernel_rfl) (fun _ _ _ h => h) (Or.inl ⟨by rfl, ?_⟩) ?_
      rotate_left 1
      · (intro w; go_simp; try with_reducible rfl)
      try simp only [Act.put, List.setIfInBounds_toArray, List.set_cons_zero, List.set_cons_succ, List.getElem_toArray, List.getElem_cons_zero, List.getElem_cons_succ]
      refine wpAny_take (i := 6) (v := undef) rfl (by kernel_rfl) (by kernel_rfl) (by kernel_rfl) (fun _ _ _ h => h) (Or.inr ⟨by rfl, rfl⟩) ?_
      try simp only [Act.put, List.setIfInBounds_toArray, List.set_cons_zero, List.set_cons_succ, List.getElem_toArray, List.getElem_cons_zero, List.getElem_cons_succ]
      refine wpAny_take (i := 7) (v := undef) rfl (by kernel_rfl) (by kernel_rfl) (by kernel_rfl) (fun _ _ _ h => h) (Or.inr ⟨by rfl, rfl⟩) ?_
      try simp only [Act.put, List.setIfInBounds_toArray, List.set_cons_zero, List.set_cons_succ, List.getElem_toArray, List.getElem_cons_zero, List.getElem_cons_succ]
      refine wpAny_take (i := 8) (v := undef) rfl (by kernel_rfl) (by kernel_rfl) (by kernel_rfl) (fun _ _ _ h => h) (Or.inr ⟨by rfl, rfl⟩) ?_
      try simp only [Act.put, List.setIfInBounds_toArray, List.set_cons_zero, List.set_cons_succ, List.getElem_toArray, List.getElem_cons_zero, List.getElem_cons_succ]
      refine wpAny_take (i := 9) (v := undef) rfl (by kernel_rfl) (by kernel_rfl) (by kernel_rfl) (fun _ _ _ h => h) (Or.inr ⟨by rfl, rfl⟩) ?_
      try simp only [Act.put, List.setIfInBounds_toArray, List.set_cons_zero, List.set_cons_succ, List.getElem_toArray, List.getElem_cons_zero, List.getElem_cons_succ]
      refine wpAny_take (i := 10) (v := undef) rfl (by kernel_rfl) (by kernel_rfl) (by kernel_rfl) (fun _ _ _ h => h) (Or.inr ⟨by rfl, rfl⟩) ?_
      try simp only [Act.put, List.setIfInBounds_toArray, List.set_cons_zero, List.set_cons_succ, List.getElem_toArray, List.getElem_cons_zero, List.getElem_cons_succ]
      refine wpAny_take (i := 11) (v := undef) rfl (by kernel_rfl) (by kernel_rfl) (by kernel_rfl) (fun _ _ _ h => h) (Or.inr ⟨by rfl, rfl⟩) ?_
      try simp only [Act.put, List.setIfInBounds_toArray, List.set_cons_zero, List.set_cons_succ, List.getElem_toArray, List.getElem_cons_zero, List.getElem_cons_succ]
      refine wpAny_take (i := 12) (v := undef) rfl (by kernel_rfl) (by kernel_rfl) (by kernel_rfl) (fun _ _ _ h => h) (Or.inr ⟨by rfl, rfl⟩) ?_
      try simp only [Act.put, List.setIfInBounds_toArray, List.set_cons_zero, List.set_cons_succ, List.getElem_toArray, List.getElem_cons_zero, List.getElem_cons_succ]
      refine wpAny_take (i := 13) (v := undef) rfl (by kernel_rfl) (by kernel_rfl) (by kernel_rfl) (fun _ _ _ h => h) (Or.inr ⟨by rfl, rfl⟩) ?_
      try simp only [Act.put, List.setIfInBounds_toArray, List.set_cons_zero, List.set_cons_succ, List.getElem_toArray, List.getElem_cons_zero, List.getElem_cons_succ]
      refine wpAny_take (i := 14) (v := ?_) rfl (by kernel_rfl) (by kernel_rfl) (by kernel_rfl) (fun _ _ _ h => h) (Or.inl ⟨by rfl, ?_⟩) ?_
      rotate_left 1
      · (intro w; go_simp; try with_reducible rfl)
      try simp only [Act.put, List.setIfInBounds_toArray, List.set_cons_zero, List.set_cons_succ, List.getElem_toArray, List.getElem_cons_zero, List.getElem_cons_succ]
      refine wpAny_take (i := 15) (v := ?_) rfl (by kernel_rfl) (by kernel_rfl) (by kernel_rfl) (fun _ _ _ h => h) (Or.inl ⟨by rfl, ?_⟩) ?_
      rotate_left 1
      · (intro w; go_simp; try with_reducible rfl)
      try simp only [Act.put, List.setIfInBounds_toArray, List.set_cons_zero, List.set_cons_succ, List.getElem_toArray, List.getElem_cons_zero, List.getElem_cons_succ]
      refine wpAny_done (by kernel_rfl) ?_ _
      rotate_left 1
      try simp only [List.setIfInBounds_toArray, List.set_cons_zero, List.set_cons_succ, List.getElem_toArray, List.getElem_cons_zero, List.getElem_cons_succ]
      go_simp
      try (refine hK _ _ ?_; clear hK K)
      refine wpAny_ready (rs := [0]) (by kernel_rfl) (by simp) ?_
      refine AllReady.cons rfl (fun K hK => ?_) (AllReady.nil)
      try simp only [List.setIfInBounds_toArray, List.set_cons_zero, List.set_cons_succ, List.getElem_toArray, List.getElem_cons_zero, List.getElem_cons_succ]
      go_simp
      try (refine hK _ _ ?_; clear hK K)
      refine wpAny_ready (rs := [1]) (by kernel_rfl) (by simp) ?_
      refine AllReady.cons rfl (fun K hK => ?_) (AllReady.nil)
      try simp only [List.setIfInBounds_toArray, List.set_cons_zero, List.set_cons_succ, List.getElem_toArray, List.getElem_cons_zero, List.getElem_cons_succ]
      (go_simp; first | (go_at_call 218; (with_reducible refine (hRy.out _).mono ?_); rintro e w2 ⟨A2, c2, rfl, ho2, hb2⟩; have hT2 := Lib.hid (hT1.out.next hb2); obtain ⟨⟨xa2, xb2, xc2, xd2, xe2⟩, ⟨ya2, yb2, yc2, yd2, ye2⟩⟩ := hT2.out.cells; dsimp only at xa2 xb2 xc2 xd2 xe2 ya2 yb2 yc2 yd2 ye2) | (go_at_call 151; (with_reducible refine (hHy.out _ _ _ _ _ (by exact ho2.rs)).mono ?_); rintro e w' ⟨rfl, rfl⟩))
      try go_simp
      try (refine hK _ _ ?_; clear hK K)
      refine wpAny_ready (rs := [4]) (by kernel_rfl) (by simp) ?_
      refine AllReady.cons rfl (fun K hK => ?_) (AllReady.nil)
      try simp only [List.setIfInBounds_toArray, List.set_cons_zero, List.set_cons_succ, List.getElem_toArray, List.getElem_cons_zero, List.getElem_cons_succ]
      (go_simp; first | (go_at_call 218; (with_reducible refine (hRy.out _).mono ?_); rintro e w2 ⟨A2, c2, rfl, ho2, hb2⟩; have hT2 := Lib.hid (hT1.out.next hb2); obtain ⟨⟨xa2, xb2, xc2, xd2, xe2⟩, ⟨ya2, yb2, yc2, yd2, ye2⟩⟩ := hT2.out.cells; dsimp only at xa2 xb2 xc2 xd2 xe2 ya2 yb2 yc2 yd2 ye2) | (go_at_call 151; (with_reducible refine (hHy.out _ _ _ _ _ (by exact ho2.rs)).mono ?_); rintro e w' ⟨rfl, rfl⟩))
      try go_simp
      try (refine hK _ _ ?_; clear hK K)
      refine wpAny_take (i := 5) (v := ?_) rfl (by kernel_rfl) (by kernel_rfl) (by kernel_rfl) (fun _ _ _ h => h) (Or.inl ⟨by rfl, ?_⟩) ?_
      rotate_left 1
      · (intro w; go_simp; try with_reducible rfl)
      try simp only [Act.put, List.setIfInBounds_toArray, List.set_cons_zero, List.set_cons_succ, List.getElem_toArray, List.getElem_cons_zero, List.getElem_cons_succ]
      refine wpAny_take (i := 6) (v := undef) rfl (by kernel_rfl) (by kernel_rfl) (by kernel_rfl) (fun _ _ _ h => h) (Or.inr ⟨by rfl, rfl⟩) ?_
      try simp only [Act.put, List.setIfInBounds_toArray, List.set_cons_zero, List.set_cons_succ, List.getElem_toArray, List.getElem_cons_zero, List.getElem_cons_succ]
      refine wpAny_take (i := 7) (v := undef) rfl (by kernel_rfl) (by kernel_rfl) (by kernel_rfl) (fun _ _ _ h => h) (Or.inr ⟨by rfl, rfl⟩) ?_
      try simp only [Act.put, List.setIfInBounds_toArray, List.set_cons_zero, List.set_cons_succ, List.getElem_toArray, List.getElem_cons_zero, List.getElem_cons_succ]
      refine wpAny_take (i := 8) (v := undef) rfl (by kernel_rfl) (by kernel_rfl) (by kernel_rfl) (fun _ _ _ h => h) (Or.inr ⟨by rfl, rfl⟩) ?_
      try simp only [Act.put, List.setIfInBounds_toArray, List.set_cons_zero, List.set_cons_succ, List.getElem_toArray, List.getElem_cons_zero, List.getElem_cons_succ]
      refine wpAny_take (i := 9) (v := undef) rfl (by kernel_rfl) (by kernel_rfl) (by kernel_rfl) (fun _ _ _ h => h) (Or.inr ⟨by rfl, rfl⟩) ?_
      try simp only [Act.put, List.setIfInBounds_toArray, List.set_cons_zero, List.set_cons_succ, List.getElem_toArray, List.getElem_cons_zero, List.getElem_cons_succ]
      refine wpAny_take (i := 10) (v := undef) rfl (by kernel_rfl) (by kernel_rfl) (by kernel_rfl) (fun _ _ _ h => h) (Or.inr ⟨by rfl, rfl⟩) ?_
      try simp only [Act.put, List.setIfInBounds_toArray, List.set_cons_zero, List.set_cons_succ, List.getElem_toArray, List.getElem_cons_zero, List.getElem_cons_succ]
      refine wpAny_take (i := 11) (v := undef) rfl (by kernel_rfl) (by kernel_rfl) (by kernel_rfl) (fun _ _ _ h => h) (Or.inr ⟨by rfl, rfl⟩) ?_
      try simp only [Act.put, List.setIfInBounds_toArray, List.set_cons_zero, List.set_cons_succ, List.getElem_toArray, List.getElem_cons_zero, List.getElem_cons_succ]
      refine wpAny_take (i := 12) (v := undef) rfl (by kernel_rfl) (by kernel_rfl) (by kernel_rfl) (fun _ _ _ h => h) (Or.inr ⟨by rfl, rfl⟩) ?_
      try simp only [Act.put, List.setIfInBounds_toArray, List.set_cons_zero, List.set_cons_succ, List.getElem_toArray, List.getElem_cons_zero, List.getElem_cons_succ]
      refine wpAny_take (i := 13) (v := undef) rfl (by kernel_rfl) (by kernel_rfl) (by kernel_rfl) (fun _ _ _ h => h) (Or.inr ⟨by rfl, rfl⟩) ?_
      try simp only [Act.put, List.setIfInBounds_toArray, List.set_cons_zero, List.set_cons_succ, List.getElem_toArray, List.getElem_cons_zero, List.getElem_cons_succ]
      refine wpAny_take (i := 14) (v := ?_) rfl (by kernel_rfl) (by kernel_rfl) (by kernel_rfl) (fun _ _ _ h => h) (Or.inl ⟨by rfl, ?_⟩) ?_
      rotate_left 1
      · (intro w; go_simp; try with_reducible rfl)
      try simp only [Act.put, List.setIfInBounds_toArray, List.set_cons_zero, List.set_cons_succ, List.getElem_toArray, List.getElem_cons_zero, List.getElem_cons_succ]
      refine wpAny_take (i := 15) (v := ?_) rfl (by kernel_rfl) (by kernel_rfl) (by kernel_rfl) (fun _ _ _ h => h) (Or.inl ⟨by rfl, ?_⟩) ?_
      rotate_left 1
      · (intro w; go_simp; try with_reducible rfl)
      try simp only [Act.put, List.setIfInBounds_toArray, List.set_cons_zero, List.set_cons_succ, List.getElem_toArray, List.getElem_cons_zero, List.getElem_cons_succ]
      refine wpAny_done (by kernel_rfl) ?_ _
      rotate_left 1
      all_goals (go_wp2_with fail; go_meet; exact ⟨rfl, hT2.out⟩)
    · go_region_law (first
        | (go_simp; go_at_call 218; (with_reducible refine (hRy.out _).mono ?_); rintro e w2 ⟨A2, c2, rfl, ho2, hb2⟩; have hT2 := Lib.hid (hT1.out.next hb2); have hS2 := Lib.hid (hSl.out w2 hT2.out.be gx hT2.out.cells.1.2.1 (CB.lt hT2.out.bx)); obtain ⟨⟨xa2, xb2, xc2, xd2, xe2⟩, ⟨ya2, yb2, yc2, yd2, ye2⟩⟩ := hT2.out.cells; dsimp only at xa2 xb2 xc2 xd2 xe2 ya2 yb2 yc2 yd2 ye2)
        | (go_simp; go_at_call 151; (with_reducible refine (hHy.out _ _ _ _ _ (by exact ho2.rs)).mono ?_); rintro e w' ⟨rfl, rfl⟩)
        | (go_simp; go_at_call 219; (with_reducible refine hS2.out.mono ?_); rintro e w3 ⟨rfl, hb3⟩; have hT3 := Lib.hid (hT2.out.next hb3)))
      all_goals (go_wp2_with fail; go_meet; exact ⟨rfl, hT3.out⟩)
  case rest =>
  clear xa xb xc xd xe ya yb yc yd ye hT1 hT0
  obtain ⟨rfl, hT⟩ := hcut
  have hT1 := Lib.hid (hT.next (Below.refl _ _).drew)
  have hTh := Lib.hid hT
  obtain ⟨⟨xa, xb, xc, xd, xe⟩, ⟨ya, yb, yc, yd, ye⟩⟩ := hT.cells
  dsimp only at xa xb xc xd xe ya yb yc yd ye
  clear hT
  clear hSl hRy hHy hLy hBt
  cases hq : (qc && !bt)
  · have hD0 : Hid (D = dL qa qb) := by rw [Hid, hD.out, hq]; rfl
    clear hD hq hC
    cases qb
    · have hde := hQb.out
      clear hQb
      cases qa
      · go_wp2_with fail
        go_region_law (first
          | (go_simp; go_at_call 218; (with_reducible refine (hRx.out _).mono ?_); rintro e w2 ⟨A2, c2, rfl, ho2, hb2⟩; have hT2 := Lib.hid (hT1.out.next hb2); obtain ⟨⟨xa2, xb2, xc2, xd2, xe2⟩, ⟨ya2, yb2, yc2, yd2, ye2⟩⟩ := hT2.out.cells; dsimp only at xa2 xb2 xc2 xd2 xe2 ya2 yb2 yc2 yd2 ye2)
          | (go_simp; go_at_call 151; (with_reducible refine (hHx.out _ _ _ _ _ (by exact ho2.rs)).mono ?_); rintro e w' ⟨rfl, rfl⟩))
        all_goals (go_wp2; go_ret2; exact ⟨by rw [hD0.out]; rfl, hT2.out.be⟩)
      · go_wp2_with fail
        go_region_law (first
          | (go_simp; go_at_call 218; (with_reducible refine (hRx.out _).mono ?_); rintro e w2 ⟨A2, c2, rfl, ho2, hb2⟩; have hT2 := Lib.hid (hT1.out.next hb2); obtain ⟨⟨xa2, xb2, xc2, xd2, xe2⟩, ⟨ya2, yb2, yc2, yd2, ye2⟩⟩ := hT2.out.cells; dsimp only at xa2 xb2 xc2 xd2 xe2 ya2 yb2 yc2 yd2 ye2)
          | (go_simp; go_at_call 151; (with_reducible refine (hHx.out _ _ _ _ _ (by exact ho2.rs)).mono ?_); rintro e w' ⟨rfl, rfl⟩))
        all_goals (go_wp2; go_ret2; exact ⟨by rw [hD0.out]; rfl, hT2.out.be⟩)
    · have hde := hQb.out
      clear hQb
      go_wp2
      go_ret2
      exact ⟨by rw [hD0.out]; rfl, hTh.out.be⟩
  · have hD0 : Hid (D = cost) := by rw [Hid, hD.out, hq]; rfl
    have hm : Hid (max cost 0 = cost) := by have := hc1.out; unfold Hid; omega
    have hd : Hid (decide (0 ≤ cost) = true) := by have := hc1.out; unfold Hid; rw [decide_eq_true_eq]; omega
    clear hD hq hRx hHx hQb
    go_wp2_with fail
    refine (hC.out _).mono ?_
    rintro e w5 ⟨rfl, hb5⟩
    have hT5 := Lib.hid (hTh.out.next hb5)
    clear hb5
    go_wp2
    go_ret2
    exact ⟨by rw [hD0.out, hm.out, hd.out]; rfl, hT5.out.be⟩
end Go.Proofs.Ytaaloepoegehkaa

/- Chapter 9: DependsOf of the program. -/
namespace Go.Proofs.Ytaaloepoegehkaa
open Go.RowKit
set_option linter.unusedVariables false
set_option maxRecDepth 100000

set_option maxHeartbeats 8000000 in
theorem iDependsOf_k (L B : Nat) (A : Option Addr) (c : Nat) (cs : List In) (w : World) (hl : cs.length ≤ 1048576) (hes : RS In.enc 5 w L B A cs) (hB : B ≤ w.heap.size) (hcap : cs.length ≤ c) :
    Calls Try.prog 145 #[.slice A cs.length c] w (ResDependsOf (dpR cs) (orGood cs) w) := by
  obtain ⟨i0, hi', hz0', hz1', hz2'⟩ := info_parts Try.infoII
  have hJ0 := Lib.hid hi'
  have hJ1 := Lib.hid hz0'
  have hJ2 := Lib.hid hz1'
  have hJ3 := Lib.hid hz2'
  clear hi' hz0' hz1' hz2'
  have H := Lib.hid (isOrderable_any L B A c cs w hl hes hB)
  cases hg : orGood cs
  · have hR := Lib.hid (dpR_no hg)
    rw [hg] at H
    clear hg hes
    generalize dpR cs = R at *
    go_enter Try.func145, Try.ntmps145
    go_wp2_with (fail)
    refine H.out.mono ?_
    rintro e w1 ⟨rfl, hb1⟩
    have hbh := Lib.hid hb1
    clear hb1
    go_wp2
    go_ret2
    rw [hR.out]
    exact ⟨none, 0, rfl, OX.nil _ _ _, hbh.out⟩
  have hR := Lib.hid (dpR_yes hg)
  have hGp := orGood_parts hg
  have h20 := hGp.1
  have HD := Lib.hid fun (i j : Nat) (W : World) (hW : Below w.heap.size w W) (hij : i < j) (hj : j < cs.length) => delayBetween_any L B A c cs i j W hcap hGp.1 hGp.2 (hes.below hW hB) (Nat.le_trans hB hW.size) hij hj
  have hS1 := Lib.hid fun (k : Nat) => dSt_skip cs k (k + 1) (Nat.le_refl _)
  have hSy := Lib.hid fun (k m : Nat) (h : 0 ≤ dT cs k m) => dSt_yes h
  have hSn := Lib.hid fun (k m : Nat) (h : ¬ 0 ≤ dT cs k m) => dSt_no h
  have hSe := Lib.hid fun (k : Nat) => dSt_end cs k
  have hA0 := Lib.hid (dAll_zero cs)
  have hLen := Lib.hid fun (k m : Nat) (hk : k ≤ cs.length) (hm : m ≤ cs.length) => dSt_len hGp.1 hk hm
  have hlt' := Lib.hid fun (i j : Nat) (h : i < j) => dT_lt (cs := cs) h
  rw [hg] at H
  clear hg hes hGp hB hl
  generalize hRR : dpR cs = RR at *
  clear hRR
  generalize dSt cs = S at *
  generalize hAA : dAll cs = AL at *
  clear hAA
  generalize dT cs = E at *
  generalize dl cs = D at *
  go_enter Try.func145, Try.ntmps145
  go_wp2_with (fail)
  refine H.out.mono ?_
  rintro e w2 ⟨rfl, hb1⟩
  have hB2 := Lib.hid hb1
  clear hb1
  go_wp2
  go_loopw [4, 14] (fun v q wr => ∃ k : Nat, k ≤ cs.length ∧ q = .int .i64 k ∧ OX wr w2.heap.size wr.heap.size v (AL k) ∧ Below w2.heap.size w2 wr) (fun _ q _ => cs.length - (intOf q).toNat)
  case atStart => exact ⟨0, Nat.zero_le _, rfl, by rw [hA0.out]; exact OX.nil _ _ _, Below.refl _ _⟩
  case round =>
    obtain ⟨k, hk, rfl, hox, hbel⟩ := hrel
    obtain ⟨A5, c5, rfl⟩ := hox.form
    have hX := Lib.hid hox
    have hBL := Lib.hid hbel
    clear hox hbel
    by_cases hlt : k < cs.length
    · have hki : (k : Int) < (cs.length : Int) := by omega
      have hk20 : (k : Int) + 1 ≤ 20 := by omega
      go_wp2
      go_loopw [4, 6] (fun v q wq => ∃ m : Nat, k + 1 ≤ m ∧ m ≤ cs.length ∧ q = .int .i64 m ∧ OX wq w2.heap.size wq.heap.size v (S k m) ∧ Below w2.heap.size w2 wq) (fun _ q _ => cs.length - (intOf q).toNat)
      case atStart => exact ⟨k + 1, Nat.le_refl _, hlt, by go_num, by rw [hS1.out]; exact hX.out, hBL.out⟩
      case round =>
        clear hX hBL
        obtain ⟨m, hkm, hm, rfl, hox, hbq⟩ := hrel
        obtain ⟨A6, c6, rfl⟩ := hox.form
        have hO := Lib.hid hox
        have hBq := Lib.hid hbq
        clear hox hbq
        by_cases hmt : m < cs.length
        · have hmi : (m : Int) < (cs.length : Int) := by omega
          have hC := Lib.hid (HD.out k m wr (hB2.out.trans (hBq.out.mono hB2.out.size)) (by omega) hmt)
          have hEq := hlt'.out k m (by omega)
          have hlen := hLen.out k m hk hm
          have hYes := hSy.out k m
          have hNo := hSn.out k m
          rw [hEq] at hYes hNo
          have hYes := Lib.hid hYes
          have hNo := Lib.hid hNo
          clear hEq
          generalize hSS : S k (m + 1) = Sn at *
          have hSSh := Lib.hid hSS
          clear hSS
          generalize S k m = xs at *
          generalize D k m = e9 at *
          have hlo6 := hBq.out.size
          by_cases h0 : 0 ≤ e9
          · have hSn' := Lib.hid (hYes.out h0)
            have h1 : decide (0 ≤ e9) = true := decide_eq_true h0
            have h2 : max e9 0 = e9 := by omega
            rw [h1, h2] at hC
            clear h1 h2 hYes hNo
            go_wp2_with (fail)
            refine hC.out.mono ?_
            rintro e w4 ⟨rfl, hb4⟩
            have ha3 := hb4.trans ((Below.refl w4.heap.size w4).alloc (Nat.le_refl _) (.cells #[.int .i64 k, .int .i64 m, .int .i64 e9] 3) |>.mono hb4.size)
            obtain ⟨vs, hvn, HL, HN, H1, HK, Hlo⟩ := snocX hO.out hlo6 ha3 (cells3 w4 wr.heap.size k m e9 hb4.size)
            rw [World.size_alloc] at HN
            have HL := Lib.hid HL
            have HN := Lib.hid HN
            have H1 := Lib.hid H1
            have HK := Lib.hid HK
            have Hlo := Lib.hid Hlo
            have hB3 := Lib.hid (hBq.out.trans (ha3.mono hBq.out.size))
            have hz3 := Lib.hid hB3.out.size
            have hz4 := hb4.size
            clear ha3 hb4
            go_wp2_with (at_builtin; go_loud (refine wpList_append_own _ rfl _ _ 23 rfl w2.heap.size 34 i0 _ 1 24 Try.underlying23 hJ0.out hJ1.out hJ2.out hJ3.out rfl (by decide) _ xs.length _ rfl HL.out ⟨w4.heap.size + 1, 0, none⟩ 1 1 _ rfl rfl HN.out H1.out (by unfold maxLen; omega) (by omega) (by simp; omega) ?_); intro v' w7 hown7 hgr7 _; obtain ⟨g7, c7, rfl⟩ := ownsRow_succ hown7; have hX7 := Lib.hid (HK.out g7 c7 w7 hown7 hgr7); have hB7 := Lib.hid ((hB3.out.alloc hz3.out (.cells #[.slice (some ⟨w4.heap.size, 0, none⟩) 3 3] 34)).grown hgr7 (by have := hz3.out; simp at this; simp; omega) (fun j hj => Hlo.out j hj)); have hX8 := Lib.hid (show OX w7 w2.heap.size w7.heap.size (.slice (some ⟨g7, 0, none⟩) (xs.length + 1) c7) Sn from by rw [hSn'.out]; exact hX7.out); clear hown7 hgr7 hX7)
            go_roundw
            case rel => exact ⟨m + 1, by omega, by omega, by go_num, by rw [hSSh.out]; exact hX8.out, hB7.out⟩
            case measure => simp [intOf]; omega
          · have hSn' := Lib.hid (hNo.out (by omega))
            have h1 : decide (0 ≤ e9) = false := decide_eq_false h0
            rw [h1] at hC
            clear h1 hYes hNo
            go_wp2_with (fail)
            refine hC.out.mono ?_
            rintro e w4 ⟨rfl, hb4⟩
            have hB3 := Lib.hid (hBq.out.trans (hb4.mono hBq.out.size))
            have hO4 := Lib.hid ((hO.out.below hb4 (Nat.le_refl _)).more hb4.size)
            clear hb4
            go_wp2
            go_roundw
            case rel => exact ⟨m + 1, by omega, by omega, by go_num, by rw [hSSh.out, hSn'.out]; exact hO4.out, hB3.out⟩
            case measure => simp [intOf]; omega
        · obtain rfl : m = cs.length := by omega
          have hE9 := Lib.hid (hSe.out k)
          go_wp2
          go_roundw
          case rel => exact ⟨k + 1, by omega, by go_num, by rw [← hE9.out]; exact hO.out, hBq.out⟩
          case measure => simp [intOf]; omega
    · obtain rfl : k = cs.length := by omega
      have hfin := Lib.hid (hB2.out.trans (hBL.out.mono hB2.out.size))
      have hX9 := Lib.hid (oxLower hX.out hB2.out.size)
      clear hX
      rw [← hR.out] at hX9 ⊢
      go_wp2
      go_ret2
      exact ⟨A5, c5, rfl, hX9.out, hfin.out⟩
end Go.Proofs.Ytaaloepoegehkaa

/- Chapter 9: needs in memory. -/
namespace Go.Proofs.Ytaaloepoegehkaa
open Go.RowKit
set_option linter.unusedVariables false
set_option maxRecDepth 100000

def ndE (d : Int × Int) : List Value := [.int .i64 d.1, .int .i64 d.2]
theorem ndE_len : ∀ d, (ndE d).length = 2 := fun _ => rfl
theorem Try.infoNds : (Try.prog.info? 153).map (fun i => (i.zero, i.size, i.bytes)) = some (some (.slice none 0 0), 1, 24) := by kernel_rfl
theorem Try.infoNd : (Try.prog.info? 155).map (fun i => (i.zero, i.size, i.bytes)) = some (some (.agg #[.int .i64 0, .int .i64 0]), 2, 16) := by kernel_rfl
theorem run_make_nds (n : Nat) (hn : n ≤ 1048576) (W : World) : (Instr.makeSlice 95 (.int .i64 (n : Int)) (.int .i64 (n : Int))).run Try.prog W = .ok (.slice (some ⟨W.heap.size, 0, none⟩) n n) (W.alloc (.cells (List.replicate n (Value.slice none 0 0)).toArray 153)) := by
  obtain ⟨i0, hi, hz0, hz1, hz2⟩ := info_parts Try.infoNds
  have h := run_make (P := Try.prog) W 95 153 i0 _ Try.underlying95 hi hz0 .i64 .i64 n n (by omega) (by omega) (by rw [hz2]; omega) (by omega)
  rw [h]
  simp only [Int.toNat_natCast, hz1, Nat.mul_one]
  refine congrArg (fun c => Result.ok (Value.slice (some ⟨W.heap.size, 0, none⟩) n n) (W.alloc (.cells c 153))) ?_
  apply Array.ext'
  exact toList_madeCells_one _ _

/-- The rows of needs: each of the call's own, no two in one block. -/
structure RowsN (w : World) (lo : Nat) (vs : List Value) (nss : List (List (Int × Int))) : Prop where
  len : vs.length = nss.length
  row : ∀ i (h : i < vs.length) (h' : i < nss.length), (∃ Ai ci, vs[i] = .slice Ai (nss[i]).length ci) ∧ OK ndE 2 155 w lo w.heap.size vs[i] nss[i]
  apart : ∀ i j (h : i < vs.length) (h' : j < vs.length), i ≠ j → ∀ b, vs[i].ownBlock = some b → vs[j].ownBlock ≠ some b
theorem RowsN.nil (w : World) (lo n : Nat) : RowsN w lo (List.replicate n (Value.slice none 0 0)) (List.replicate n []) := by
  refine ⟨by simp, fun i h1 h2 => ?_, fun i j h1 h2 hne b hb => ?_⟩
  · simp only [List.getElem_replicate]
    exact ⟨⟨none, 0, rfl⟩, OK.nil _ _ _ _⟩
  · simp only [List.getElem_replicate] at hb
    simp [Value.ownBlock] at hb
theorem RowsN.below {w w' : World} {lo : Nat} {vs : List Value} {nss : List (List (Int × Int))} (h : RowsN w lo vs nss) (hb : Below w.heap.size w w') : RowsN w' lo vs nss :=
  ⟨h.len, fun i h1 h2 => ⟨(h.row i h1 h2).1, ((h.row i h1 h2).2.below hb (Nat.le_refl _)).more hb.size⟩, h.apart⟩
theorem RowsN.chg {w w' : World} {lo a b : Nat} {vs : List Value} {nss : List (List (Int × Int))} (h : RowsN w lo vs nss) (hc : Chg a b w w') (hd : b ≤ lo) : RowsN w' lo vs nss :=
  ⟨h.len, fun i h1 h2 => ⟨(h.row i h1 h2).1, ((h.row i h1 h2).2.chg hc (.inr hd)).more hc.size⟩, h.apart⟩
theorem OK.keptNe9 {w w' : World} {lo hi : Nat} {v : Value} {xs : List (Int × Int)} {row : Option Nat} (h : OK ndE 2 155 w lo hi v xs) (hg : w.grownBy w' row) (hne : ∀ k, v.ownBlock = some k → row ≠ some k) : OK ndE 2 155 w' lo hi v xs := by
  refine ⟨h.1.kept hg ?_, h.2⟩
  cases hv : v.ownBlock with
  | none => exact .inl rfl
  | some k => exact .inr (fun e => hne k hv e.symm)
/-- A need is put behind those of one instruction. -/
theorem RowsN.push {w w' : World} {lo j n g cap : Nat} {d : Int × Int} {vs : List Value} {nss : List (List (Int × Int))} (h : RowsN w lo vs nss) (hj : j < vs.length) (hj' : j < nss.length) (hg : w.grownBy w' vs[j].ownBlock)
    (hn : n = (nss[j]).length) (hown : w'.ownsRow lo 155 2 (.slice (some ⟨g, 0, none⟩) (n + 1) cap) (n + 1) ((nss[j]).flatMap ndE ++ ndE d)) (hat : vs[j].ownBlock = some g ∨ g = w.heap.size) (hlt : g < w'.heap.size) :
    RowsN w' lo (vs.set j (.slice (some ⟨g, 0, none⟩) (n + 1) cap)) (nss.set j (nss[j] ++ [d])) := by
  have hsz := hg.size
  refine ⟨by simp [h.len], fun i h1 h2 => ?_, fun i k h1 h2 hne b hb => ?_⟩
  · rw [List.length_set] at h1 h2
    rw [List.getElem_set, List.getElem_set]
    by_cases e : j = i
    · rw [if_pos e, if_pos e]
      refine ⟨⟨_, _, by rw [List.length_append, hn]; rfl⟩, ?_, fun b hb => ?_⟩
      · rw [List.length_append, List.flatMap_append, ← hn]
        simpa using hown
      · simp only [Value.ownBlock, Option.some.injEq] at hb; omega
    · rw [if_neg e, if_neg e]
      have hr := h.row i h1 h2
      exact ⟨hr.1, (hr.2.keptNe9 hg fun b hb e2 => h.apart i j h1 hj (by omega) b hb e2).more hsz⟩
  · rw [List.length_set] at h1 h2
    rw [List.getElem_set] at hb ⊢
    by_cases e1 : j = i
    · rw [if_pos e1] at hb
      rw [if_neg (by omega)]
      simp only [Value.ownBlock, Option.some.injEq] at hb
      intro e2
      rcases hat with h3 | h3
      · rw [hb] at h3; exact h.apart j k hj h2 (by omega) b h3 e2
      · have := (h.row k h2 (by rw [← h.len]; exact h2)).2.2 b e2
        omega
    · rw [if_neg e1] at hb
      by_cases e2 : j = k
      · rw [if_pos e2]
        simp only [Value.ownBlock, ne_eq, Option.some.injEq]
        intro e3
        rcases hat with h3 | h3
        · rw [e3] at h3; exact h.apart i j h1 hj (by omega) b hb h3
        · have := (h.row i h1 (by rw [← h.len]; exact h1)).2.2 b hb
          omega
      · rw [if_neg e2]; exact h.apart i k h1 h2 (by omega) b hb

/-- Needs, read. -/
def PN (w : World) (L B : Nat) (A : Option Addr) (nss : List (List (Int × Int))) : Prop :=
  0 < nss.length → ∃ b, A = some ⟨b, 0, none⟩ ∧ (L ≤ b ∧ b < B) ∧ ∀ i (h : i < nss.length), ∃ Ai ci, w.cell? ⟨b, i, none⟩ = some (.slice Ai (nss[i]).length ci) ∧ RS ndE 2 w L B Ai nss[i]
theorem PN.below {w w' : World} {L B C : Nat} {A : Option Addr} {nss : List (List (Int × Int))} (h : PN w L B A nss) (hb : Below C w w') (hC : B ≤ C) : PN w' L B A nss := by
  intro hn
  obtain ⟨b, e, hB, hc⟩ := h hn
  exact ⟨b, e, hB, fun i hi => by
    obtain ⟨Ai, ci, h1, h2⟩ := hc i hi
    exact ⟨Ai, ci, (hb.cell (p := ⟨b, i, none⟩) (by show b < C; omega)).trans h1, h2.below hb hC⟩⟩
theorem PN.of {w : World} {lo L gn : Nat} {vs : List Value} {nss : List (List (Int × Int))} (hc : CB 153 w gn vs) (hr : RowsN w lo vs nss) (hL : L ≤ gn) (hl : L ≤ lo) : PN w L w.heap.size (some ⟨gn, 0, none⟩) nss := by
  intro hn
  refine ⟨gn, rfl, ⟨hL, hc.lt⟩, fun i hi => ?_⟩
  have hi' : i < vs.length := by rw [hr.len]; exact hi
  obtain ⟨⟨Ai, ci, e⟩, hO⟩ := hr.row i hi' hi
  refine ⟨Ai, ci, by rw [hc.cell, List.getElem?_eq_getElem hi', e], ?_⟩
  rw [e] at hO
  obtain ⟨A2, c2, e2, h2⟩ := OK.form ndE_len hO
  injection e2 with e2 _ _
  subst e2
  exact h2.more hl (Nat.le_refl _)
theorem nd_cells {w : World} {L B : Nat} {A : Option Addr} {ns : List (Int × Int)} (h : RS ndE 2 w L B A ns) {p : Nat} (hp : p < ns.length) : ∃ b o, A = some ⟨b, o, none⟩ ∧ b < B ∧ w.cell? ⟨b, o + p * 2, none⟩ = some (.int .i64 ns[p].1) ∧ w.cell? ⟨b, o + p * 2 + 1, none⟩ = some (.int .i64 ns[p].2) := by
  obtain ⟨b, o, e, hb, hc⟩ := h (by omega)
  exact ⟨b, o, e, hb.2, by have := hc p hp 0 _ rfl; simpa using this, hc p hp 1 _ rfl⟩
end Go.Proofs.Ytaaloepoegehkaa

/- Chapter 9: planOf of the program. -/
namespace Go.Proofs.Ytaaloepoegehkaa
open Go.RowKit
set_option linter.unusedVariables false
set_option maxRecDepth 100000

/-- A plan in a box. -/
def PB (w : World) (g : Nat) (a b : Value) : Prop := CB 97 w g [a, b]
theorem PB.c0 {w : World} {g : Nat} {a b : Value} (h : PB w g a b) : w.cell? ⟨g, 0, none⟩ = some a := by rw [CB.cell h]; rfl
theorem PB.c1 {w : World} {g : Nat} {a b : Value} (h : PB w g a b) : w.cell? ⟨g, 1, none⟩ = some b := by rw [CB.cell h]; rfl
theorem PB.new (w : World) (a b : Value) : PB (w.alloc (.cells #[a, b] 97)) w.heap.size a b := heap_alloc_new w _
theorem PB.put {w : World} {g : Nat} {a b : Value} (h : PB w g a b) (a' b' : Value) : PB ((w.setCell ⟨g, 0, none⟩ a').setCell ⟨g, 1, none⟩ b') g a' b' := by
  have := (CB.set h 0 a').set 1 b'
  exact this
def NoPlan (w : World) (e : Ending) (w' : World) : Prop := e = .returned (.tuple #[.agg #[.slice none 0 0, .slice none 0 0], .bool false]) ∧ Below w.heap.size w w'
def GotPlan (w : World) (A : Option Addr) (c : Nat) (cs : List In) (e : Ending) (w' : World) : Prop := ∃ An cn, e = .returned (.tuple #[.agg #[.slice A cs.length c, .slice An cs.length cn], .bool true]) ∧ PN w' w.heap.size w'.heap.size An (nds cs) ∧ Below w.heap.size w w'
theorem plan_ret {fn : Func} {Q : Ending → World → Prop} {tmps : Array Value} {w : World} {g : Nat} {a b r : Value} {s s2 : Tmp} (hr : fn.results = #[.cell s 97, .tmp s2]) (hs : tmps.getD s undef = .pointer (some ⟨g, 0, none⟩)) (hs2 : tmps.getD s2 undef = r)
    (h : PB w g a b) (h1 : a.oneCell' = true) (h2 : b.oneCell' = true) (hq : Q (.returned (.tuple #[.agg #[a, b], r])) w) : bodyPost Try.prog fn Q .ret ⟨tmps, []⟩ w := by
  have q0 := h.c0
  have q1 := h.c1
  refine bodyPost_ret (v := .tuple #[.agg #[a, b], r]) ?_ rfl hq
  have hs' : tmps[s]?.getD undef = .pointer (some ⟨g, 0, none⟩) := by simpa using hs
  have hs2' : tmps[s2]?.getD undef = r := by simpa using hs2
  simp [results, hr, hs', hs2', go_sem, q0, q1]

set_option maxHeartbeats 8000000 in
theorem planOf_no (L B : Nat) (A : Option Addr) (c : Nat) (cs : List In) (w : World) (hg : orGood cs = false) (hl : cs.length ≤ 1048576) (hes : RS In.enc 5 w L B A cs) (hB : B ≤ w.heap.size) (hcap : cs.length ≤ c) :
    Calls Try.prog 83 #[.slice A cs.length c] w (NoPlan w) := by
  have hb0 := Lib.hid ((Below.refl w.heap.size w).alloc (Nat.le_refl _) (.cells #[.slice none 0 0, .slice none 0 0] 97))
  have hP0 := Lib.hid (PB.new w (.slice none 0 0) (.slice none 0 0))
  have H := Lib.hid (iDependsOf_k L B A c cs (w.alloc (.cells #[.slice none 0 0, .slice none 0 0] 97)) hl (hes.below hb0.out hB) (Nat.le_trans hB hb0.out.size) hcap)
  have hz0 : w.heap.size < (w.alloc (.cells #[.slice none 0 0, .slice none 0 0] 97)).heap.size := by simp
  rw [hg, dpR_no hg] at H
  clear hes hg hB
  go_enter Try.func83, Try.ntmps83
  go_wp2_with (fail)
  refine H.out.mono ?_
  rintro e w1 ⟨A1, c1, rfl, ho1, hb1⟩
  have hB1 := Lib.hid (hb0.out.trans (hb1.mono (by simp)))
  have hP1 := Lib.hid (CB.below hP0.out hb1 hz0)
  have hP2 := Lib.hid (PB.put hP1.out (.slice none 0 0) (.slice none 0 0))
  have hB2 := Lib.hid ((hB1.out.setCell (p := ⟨w.heap.size, 0, none⟩) (Nat.le_refl _) (.slice none 0 0)).setCell (p := ⟨w.heap.size, 1, none⟩) (Nat.le_refl _) (.slice none 0 0))
  obtain ⟨q0, q1⟩ := And.intro (PB.c0 hP1.out) (PB.c1 hP1.out)
  have f0 := CB.frozen hP1.out 0
  have f1 := CB.frozen hP1.out 1
  clear ho1 hb1 hz0
  go_wp2
  exact plan_ret rfl rfl rfl hP2.out rfl rfl ⟨rfl, hB2.out⟩
end Go.Proofs.Ytaaloepoegehkaa

/- Chapter 9, plain: earliest cycles, heights. -/
namespace Go.Proofs.Ytaaloepoegehkaa
open Go.RowKit
set_option linter.unusedVariables false

/-- The least cycle by needs. -/
def lcF (cyc : List Int) (ns : List (Int × Int)) : Int := ns.foldl (fun m d => max m (cyc.getD d.1.toNat 0 + d.2)) 0
theorem lcF_nil (cyc : List Int) : lcF cyc [] = 0 := rfl
theorem lcF_snoc (cyc : List Int) (ns : List (Int × Int)) (d : Int × Int) : lcF cyc (ns ++ [d]) = max (lcF cyc ns) (cyc.getD d.1.toNat 0 + d.2) := by
  unfold lcF; rw [List.foldl_append]; rfl
theorem lcF_take (cyc : List Int) {ns : List (Int × Int)} {k : Nat} (h : k < ns.length) : lcF cyc (ns.take (k + 1)) = max (lcF cyc (ns.take k)) (cyc.getD ns[k].1.toNat 0 + ns[k].2) := by
  rw [List.take_succ_eq_append_getElem h, lcF_snoc]
theorem lcFrom_bd {cyc : List Int} {b : Int} : ∀ {ns : List (Int × Int)} {a : Int}, 0 ≤ a → a ≤ b → (∀ d ∈ ns, cyc.getD d.1.toNat 0 + d.2 ≤ b) → 0 ≤ ns.foldl (fun m d => max m (cyc.getD d.1.toNat 0 + d.2)) a ∧ ns.foldl (fun m d => max m (cyc.getD d.1.toNat 0 + d.2)) a ≤ b
  | [], a, h0, h1, _ => ⟨h0, h1⟩
  | d :: ns, a, h0, h1, h => by
    have h2 := h d (by simp)
    exact lcFrom_bd (ns := ns) (a := max a (cyc.getD d.1.toNat 0 + d.2)) (by omega) (by omega) fun e he => h e (by simp [he])
theorem lcF_bd {cyc : List Int} {b : Int} {ns : List (Int × Int)} (h0 : 0 ≤ b) (h : ∀ d ∈ ns, cyc.getD d.1.toNat 0 + d.2 ≤ b) : 0 ≤ lcF cyc ns ∧ lcF cyc ns ≤ b := lcFrom_bd (Int.le_refl _) h0 h
theorem ndL_succ (cs : List In) (j k : Nat) : ndL cs j (k + 1) = ndL cs j k ++ (ndEnt cs j k).toList := by
  unfold ndL
  rw [List.range_succ, List.filterMap_append]
  cases h : ndEnt cs j k <;> simp [h]
theorem ndL_yes {cs : List In} {j k : Nat} (h : 0 ≤ dT cs k j) : ndL cs j (k + 1) = ndL cs j k ++ [((k : Int), dT cs k j)] := by
  rw [ndL_succ]; unfold ndEnt; rw [if_pos h]; rfl
theorem ndL_no {cs : List In} {j k : Nat} (h : ¬ 0 ≤ dT cs k j) : ndL cs j (k + 1) = ndL cs j k := by
  rw [ndL_succ]; unfold ndEnt; rw [if_neg h]; simp
/-- Behind the instruction itself there are no needs. -/
theorem ndL_stop (cs : List In) (j : Nat) : ∀ k, j ≤ k → ndL cs j k = ndL cs j j
  | 0, h => by obtain rfl : j = 0 := by omega
               rfl
  | k + 1, h => by
    rcases Nat.lt_or_ge k j with h1 | h1
    · obtain rfl : j = k + 1 := by omega
      rfl
    · rw [ndL_no (by rw [dT_ge (by omega)]; omega)]; exact ndL_stop cs j k h1

/- The earliest cycles. -/
def er (cs : List In) : Nat → List Int
  | 0 => []
  | k + 1 => er cs k ++ [lcF (er cs k) (ndL cs k cs.length)]
theorem er_len (cs : List In) : ∀ k, (er cs k).length = k
  | 0 => rfl
  | k + 1 => by simp [er, er_len cs k]
theorem er_bd (cs : List In) : ∀ k, ∀ x ∈ er cs k, 0 ≤ x ∧ x ≤ 4 * (k : Int)
  | 0, x, h => by simp [er] at h
  | k + 1, x, h => by
    have ih := er_bd cs k
    rw [er] at h
    rcases List.mem_append.1 h with h | h
    · have := ih x h; omega
    · simp at h
      subst h
      have := lcF_bd (cyc := er cs k) (b := 4 * (k : Int) + 4) (ns := ndL cs k cs.length) (by omega) (fun d hd => by
        obtain ⟨i, h1, h2, h3, rfl⟩ := mem_ndL hd
        have h4 := dT_bd cs i k
        simp only [Int.toNat_natCast]
        have h5 : i < (er cs k).length := by rw [er_len]; exact h1
        have h6 := ih _ (List.getElem_mem h5)
        rw [List.getD_eq_getElem?_getD, List.getElem?_eq_getElem h5, Option.getD_some]
        omega)
      omega
theorem er_at (cs : List In) {i k : Nat} (h : i < k) : (er cs k).getD i 0 = lcF (er cs i) (ndL cs i cs.length) := by
  induction k with
  | zero => omega
  | succ k ih =>
    rw [er, List.getD_eq_getElem?_getD]
    by_cases h1 : i < k
    · rw [List.getElem?_append_left (by rw [er_len]; exact h1), ← List.getD_eq_getElem?_getD]; exact ih h1
    · obtain rfl : i = k := by omega
      rw [List.getElem?_append_right (by rw [er_len]; exact Nat.le_refl _), er_len]; simp

/- Heights. -/
def mx (l : List Int) (a : Int) : Int := l.foldl max a
theorem mx_le (l : List Int) : ∀ a, (∀ x ∈ l, x ≤ mx l a) ∧ a ≤ mx l a := by
  induction l with
  | nil => intro a; exact ⟨by simp, Int.le_refl _⟩
  | cons y l ih =>
    intro a
    have := ih (max a y)
    show (∀ x ∈ y :: l, x ≤ mx l (max a y)) ∧ a ≤ mx l (max a y)
    refine ⟨fun x hx => ?_, by omega⟩
    rcases List.mem_cons.1 hx with rfl | hx
    · omega
    · exact this.1 x hx
theorem mx_in (l : List Int) : ∀ a, mx l a = a ∨ mx l a ∈ l := by
  induction l with
  | nil => intro a; exact .inl rfl
  | cons y l ih =>
    intro a
    show mx l (max a y) = a ∨ mx l (max a y) ∈ y :: l
    rcases ih (max a y) with h | h
    · rw [h]
      rcases Int.le_total a y with h1 | h1
      · right; rw [Int.max_eq_right h1]; simp
      · left; exact Int.max_eq_left h1
    · right; exact List.mem_cons_of_mem _ h
theorem mx_eq {l l' : List Int} {a b : Int} (h : ∀ x, (x ∈ l ∨ x = a) ↔ (x ∈ l' ∨ x = b)) : mx l a = mx l' b := by
  have h1 := mx_le l a
  have h2 := mx_le l' b
  refine Int.le_antisymm ?_ ?_
  · rcases mx_in l a with e | e
    · rcases (h a).1 (.inr rfl) with h3 | h3
      · rw [e]; exact h2.1 _ h3
      · rw [e, h3]; exact h2.2
    · rcases (h _).1 (.inl e) with h3 | h3
      · exact h2.1 _ h3
      · rw [h3]; exact h2.2
  · rcases mx_in l' b with e | e
    · rcases (h b).2 (.inr rfl) with h3 | h3
      · rw [e]; exact h1.1 _ h3
      · rw [e, h3]; exact h1.2
    · rcases (h _).2 (.inl e) with h3 | h3
      · exact h1.1 _ h3
      · rw [h3]; exact h1.2
theorem mx_snoc (l : List Int) (a x : Int) : mx (l ++ [x]) a = max (mx l a) x := by unfold mx; rw [List.foldl_append]; rfl
end Go.Proofs.Ytaaloepoegehkaa
