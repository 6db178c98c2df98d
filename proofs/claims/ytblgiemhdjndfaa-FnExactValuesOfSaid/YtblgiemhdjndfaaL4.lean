import Derived.Test.YtblgiemhdjndfaaK3
import Derived.Test.YtblgiemhdjndfaaH3
import Derived.Test.YtblgiemhdjndfaaH2
import Derived.WalkKit
import Derived.WalkSpells
import Derived.WalkLawsBesides
import Derived.Lib.Hide
namespace Go.Proofs.Ytblgiemhdjndfaa
open Go.RowKit
set_option linter.unusedVariables false

set_option maxHeartbeats 2000000 in
theorem lawValuesOf (L B : Nat) (A : Option Addr) (c : Nat) (es : List Nd) (x0 x1 : Int) (w : World) (hl : es.length ≤ 9223372036854775807) (hes : NS w L B A es) (hB : B ≤ w.heap.size) (hs : ∀ n ∈ es, n.op.size ≤ 9223372036854775807) :
    Calls Try.prog 5 #[.slice A es.length c, .int .i64 x0, .int .i64 x1] w fun e w' => e = .returned (.bool true) ∧ Below w.heap.size w w' := by
  have hE := Lib.hid hes
  have H1 := Lib.hid (szNodeS_any L B A c es w hl hes hB hs)
  have hBB := Lib.hid hB
  have hRl := valsR_len es x0 x1
  clear hes hs hB
  go_enter Try.func5, Try.ntmps5
  go_wp2_with (fail)
  refine H1.out.mono ?_
  rintro e w1 ⟨r, rfl, _, hr, _, hb1⟩
  have b1 := Lib.hid hb1
  clear hb1
  by_cases hr0 : 0 ≤ r
  · have hlen : es.length ≤ 1048576 := by have := hr hr0; omega
    clear hr
    go_wp2_with (fail)
    refine (toNodeS_any L B A c es _ hlen (hE.out.below b1.out hBB.out) (Nat.le_trans hBB.out b1.out.size)).mono ?_
    rintro e w2 ⟨g2, rfl, hg2, hn2, hb2⟩
    have n2 := Lib.hid hn2
    have b2 := Lib.hid (b1.out.trans (hb2.mono b1.out.size))
    clear hn2 hb2 hg2
    go_wp2_with (fail)
    refine (sValuesOf_any _ _ _ _ es x0 x1 _ hlen n2.out.toNS n2.out.lt).mono ?_
    rintro e w3 ⟨AS, cS, rfl, hs3, hb3⟩
    have s3 := Lib.hid hs3
    have b3 := Lib.hid (b2.out.trans (hb3.mono b2.out.size))
    have z23 := hb3.size
    clear hb3 hs3
    go_wp2_with (fail)
    refine (toNodeS_any L B A c es _ hlen (hE.out.below b3.out hBB.out) (Nat.le_trans hBB.out b3.out.size)).mono ?_
    rintro e w4 ⟨g4, rfl, hg4, hn4, hb4⟩
    have n4 := Lib.hid hn4
    have b4 := Lib.hid (b3.out.trans (hb4.mono b3.out.size))
    have s4 := Lib.hid (s3.out.below hb4 (Nat.le_refl _))
    have z34 := hb4.size
    clear hn4 hb4
    have hg4' := n4.out.lt
    go_wp2_with (fail)
    refine (iValuesOf_any _ _ _ _ es x0 x1 _ hlen n4.out.toNS n4.out.lt).mono ?_
    rintro e w5 ⟨AG, cG, rfl, ho5, hb5⟩
    have o5 := Lib.hid ho5
    have b5 := Lib.hid (b4.out.trans (hb5.mono b4.out.size))
    have s5 := Lib.hid (s4.out.below hb5 (by omega))
    have n5 := Lib.hid (n4.out.below hb5 n4.out.lt)
    have z45 := hb5.size
    clear hb5 ho5
    have e5 : (valsOk es x0 x1 != valsOk es x0 x1) = false := by simp
    obtain ⟨_, _, hAS, iS5⟩ := s5.out.form
    obtain ⟨rfl, rfl⟩ : AS = _ ∧ cS = _ := by injection hAS with a _ b; exact ⟨a, b⟩
    obtain ⟨_, _, hAG, iG5⟩ := o5.out.form
    obtain ⟨rfl, rfl⟩ : AG = _ ∧ cG = _ := by injection hAG with a _ b; exact ⟨a, b⟩
    clear hAS hAG
    have jS5 := Lib.hid iS5
    have jG5 := Lib.hid iG5
    clear iS5 iG5
    go_wp2_with (fail)
    refine (eqIntS_any _ _ _ _ _ _ _ _ _ _ (valsR es x0 x1) (valsR es x0 x1) _ rfl rfl hRl jG5.out jS5.out (Nat.le_refl _) (by omega) rfl).mono ?_
    rintro e w6 ⟨rfl, hb6⟩
    have b6 := Lib.hid (b5.out.trans (hb6.mono b5.out.size))
    have s6 := Lib.hid (s5.out.below hb6 (by omega))
    have o6 := Lib.hid (o5.out.below hb6 (Nat.le_refl _))
    have n6 := Lib.hid (n5.out.below hb6 (by omega))
    have z56 := hb6.size
    clear hb6
    go_wp2_with (fail)
    refine (toNodeS_any L B A c es _ hlen (hE.out.below b6.out hBB.out) (Nat.le_trans hBB.out b6.out.size)).mono ?_
    rintro e w7 ⟨g7, rfl, hg7, hn7, hb7⟩
    have n7 := Lib.hid hn7
    have n7' := Lib.hid (n6.out.below hb7 n6.out.lt)
    have b7 := Lib.hid (b6.out.trans (hb7.mono b6.out.size))
    have s7 := Lib.hid (s6.out.below hb7 (by omega))
    have o7 := Lib.hid (o6.out.below hb7 (by omega))
    have z67 := hb7.size
    clear hn7 hb7
    go_wp2_with (fail)
    refine (eqNodeS_any _ _ _ _ _ _ _ _ _ _ es es _ rfl rfl hlen hlen n7'.out.toNS n7.out.toNS n7'.out.lt n7.out.lt rfl).mono ?_
    rintro e w8 ⟨rfl, hb8⟩
    have b8 := Lib.hid (b7.out.trans (hb8.mono b7.out.size))
    have s8 := Lib.hid (s7.out.below hb8 (by omega))
    have o8 := Lib.hid (o7.out.below hb8 (by omega))
    have n8 := Lib.hid (n7'.out.below hb8 n7'.out.lt)
    have z78 := hb8.size
    clear hb8
    go_wp2_with (fail)
    refine (markNodeS_any g4 _ es 1 _ hlen (by omega) (by omega) n8.out).mono ?_
    rintro e w9 ⟨rfl, _, hgr⟩
    have z12 := b1.out.size
    have z1w := b3.out.size
    have b9 := Lib.hid (b8.out.grown hgr b8.out.size (fun k hk => by injection hk with hk; subst hk; omega))
    have s9 := Lib.hid (s8.out.kept hgr (fun k hk => by injection hk with hk; subst hk; omega))
    have o9 := Lib.hid (o8.out.kept hgr (fun k hk => by injection hk with hk; subst hk; omega))
    have z89 := hgr.size
    clear hgr
    have hpos : (0 : Int) ≤ 1 + 4 * (es.length : Int) := by omega
    obtain ⟨_, _, hAS, iS9⟩ := s9.out.form
    obtain ⟨rfl, rfl⟩ : AS = _ ∧ cS = _ := by injection hAS with a _ b; exact ⟨a, b⟩
    obtain ⟨_, _, hAG, iG9⟩ := o9.out.form
    obtain ⟨rfl, rfl⟩ : AG = _ ∧ cG = _ := by injection hAG with a _ b; exact ⟨a, b⟩
    clear hAS hAG
    have jS9 := Lib.hid iS9
    have jG9 := Lib.hid iG9
    clear iS9 iG9
    go_wp2_with (fail)
    refine (eqIntS_any _ _ _ _ _ _ _ _ _ _ (valsR es x0 x1) (valsR es x0 x1) _ rfl rfl hRl jG9.out jS9.out (by omega) (by omega) rfl).mono ?_
    rintro e w10 ⟨rfl, hb10⟩
    have b10 := Lib.hid (b9.out.trans (hb10.mono b9.out.size))
    have s10 := Lib.hid (s9.out.below hb10 (by omega))
    have o10 := Lib.hid (o9.out.below hb10 (by omega))
    have z910 := hb10.size
    clear hb10
    go_wp2_with (fail)
    refine (markIntS_any _ _ _ _ (valsR es x0 x1) 1 _ hRl (by omega) (by omega) o10.out).mono ?_
    rintro e w11 ⟨rfl, ho11, hgr⟩
    have o11 := Lib.hid ho11
    have hlo := Lib.hid o10.out.lo
    have b11 := Lib.hid (b10.out.grown hgr b10.out.size (fun k hk => by have := (hlo.out k hk); omega))
    have s11 := Lib.hid (s10.out.kept hgr (fun k hk => by have := (hlo.out k hk); omega))
    have z1011 := hgr.size
    clear hgr ho11
    obtain ⟨_, _, hAG, iG11⟩ := o11.out.form
    have hml : (marks 1 (valsR es x0 x1).length).length = (valsR es x0 x1).length := by simp [marks]
    obtain ⟨rfl, rfl⟩ : AG = _ ∧ cG = _ := by injection hAG with a _ b; exact ⟨a, b⟩
    clear hAG
    have jG11 := Lib.hid iG11
    clear iG11
    have hML := Lib.hid hml
    clear hml
    have hq1 : (0 : Int) ≤ 1 + ((valsR es x0 x1).length : Int) := by omega
    go_wp2_with (fail)
    refine (heldIntS_any _ _ _ _ _ 1 _ hRl (by omega) (by omega) jG11.out).mono ?_
    rintro e w12 ⟨rfl, rfl⟩
    go_wp2_with (fail)
    refine (toNodeS_any L B A c es _ hlen (hE.out.below b11.out hBB.out) (Nat.le_trans hBB.out b11.out.size)).mono ?_
    rintro e w13 ⟨g13, rfl, hg13, hn13, hb13⟩
    have n13 := Lib.hid hn13
    have b13 := Lib.hid (b11.out.trans (hb13.mono b11.out.size))
    have s13 := Lib.hid (s11.out.below hb13 (by omega))
    have o13 := Lib.hid (o11.out.below hb13 (by omega))
    have z1113 := hb13.size
    clear hn13 hb13
    go_wp2_with (fail)
    refine (iValuesOf_any _ _ _ _ es x0 x1 _ hlen n13.out.toNS n13.out.lt).mono ?_
    rintro e w14 ⟨AH, cH, rfl, hh14, hb14⟩
    have h14 := Lib.hid hh14
    have b14 := Lib.hid (b13.out.trans (hb14.mono b13.out.size))
    have s14 := Lib.hid (s13.out.below hb14 (by omega))
    have o14 := Lib.hid (o13.out.below hb14 (by omega))
    have z1314 := hb14.size
    clear hh14 hb14
    obtain ⟨_, _, hAS, iS14⟩ := s14.out.form
    obtain ⟨rfl, rfl⟩ : AS = _ ∧ cS = _ := by injection hAS with a _ b; exact ⟨a, b⟩
    obtain ⟨_, _, hAH, iH14⟩ := h14.out.form
    obtain ⟨rfl, rfl⟩ : AH = _ ∧ cH = _ := by injection hAH with a _ b; exact ⟨a, b⟩
    clear hAS hAH
    have jS14 := Lib.hid iS14
    have jH14 := Lib.hid iH14
    clear iS14 iH14
    go_wp2_with (fail)
    refine (eqIntS_any _ _ _ _ _ _ _ _ _ _ (valsR es x0 x1) (valsR es x0 x1) _ rfl rfl hRl jH14.out jS14.out (Nat.le_refl _) (by omega) rfl).mono ?_
    rintro e w15 ⟨rfl, hb15⟩
    have b15 := Lib.hid (b14.out.trans (hb15.mono b14.out.size))
    have o15 := Lib.hid (o14.out.below hb15 (by omega))
    clear hb15
    obtain ⟨_, _, hAG, iG15⟩ := o15.out.form
    obtain ⟨rfl, rfl⟩ : AG = _ ∧ cG = _ := by injection hAG with a _ b; exact ⟨a, b⟩
    have jG15 := Lib.hid iG15
    clear iG15 hAG
    go_wp2_with (fail)
    refine (heldIntS_any _ _ _ _ _ 1 _ hRl (by omega) (by omega) jG15.out).mono ?_
    rintro e w16 ⟨rfl, rfl⟩
    go_wp2
    go_ret
    exact ⟨rfl, b15.out⟩
  · go_wp2
    go_ret
    exact ⟨rfl, b1.out⟩
end Go.Proofs.Ytblgiemhdjndfaa
