import Derived.Test.YtjnbgnnlpeoaoaaRP
import Derived.WalkKit
import Derived.WalkSpells
import Derived.WalkLawsBesides
import Derived.Lib.Hide
namespace Go.Proofs.Ytjnbgnnlpeoaoaa
open Go.RowKit
set_option linter.unusedVariables false
set_option maxRecDepth 100000

theorem IS.six' {w : World} {L B b o : Nat} {rs : List Int} (h : IS w L B (some ⟨b, o, none⟩) rs) (h6 : rs.length = 6) : b < B ∧ Six w b o rs := by
  obtain ⟨b', o', e, hb, hs⟩ := h.six h6
  injection e with e; injection e with e1 e2 _; subst e1; subst e2; exact ⟨hb.2, hs⟩
theorem renR_no1 {es : List In} (ns : List Int) (h : okCode es = false) : renR es ns = [] := by simp [renR, h]
theorem renR_no2 (es : List In) {ns : List Int} (h : namesOk ns = false) : renR es ns = [] := by simp [renR, h]
set_option maxHeartbeats 4000000 in
theorem iRenameCode_any (L B : Nat) (A : Option Addr) (c : Nat) (es : List In) (L' B' : Nat) (A' : Option Addr) (c' : Nat) (ns : List Int) (w : World) (hl : es.length ≤ 1048576) (hes : RS In.enc 5 w L B A es) (hB : B ≤ w.heap.size) (hl' : ns.length ≤ 1048576) (hI : IS w L' B' A' ns) (hB' : B' ≤ w.heap.size) :
    Calls Try.prog 59 #[.slice A es.length c, .slice A' ns.length c'] w (ResRenameCode (renR es ns) (okCode es && namesOk ns) w) := by
  have H := Lib.hid (IsCode_any L B A c es w hl hes hB)
  have hE := Lib.hid hes
  have hE' := Lib.hid hI
  have hBB := Lib.hid hB
  have hBB' := Lib.hid hB'
  clear hes hI hB hB'
  go_enter Try.func59, Try.ntmps59
  go_wp2_with (fail)
  refine H.out.mono ?_
  rintro e w2 ⟨rfl, hb⟩
  have hbb := Lib.hid hb
  have hz := hb.size
  have hE2' := Lib.hid (hE'.out.below hb hBB'.out)
  have hE2 := Lib.hid (hE.out.below hb hBB.out)
  clear hb
  cases hg : okCode es
  · have hR := Lib.hid (renR_no1 ns hg)
    have hK : Hid ((okCode es && namesOk ns) = false) := by simp [Hid, hg]
    go_wp2
    go_ret2
    rw [hR.out, hK.out]; exact ⟨none, 0, rfl, OK.nil _ _ _ _, hbb.out⟩
  · have hG := Lib.hid hg
    have hC := Lib.hid (areNames_any L' B' A' c' ns w2 hl' hE2'.out (by have := hBB'.out; omega))
    cases hr : namesOk ns
    · have hR := Lib.hid (renR_no2 es hr)
      have hK : Hid ((okCode es && namesOk ns) = false) := by simp [Hid, hr]
      rw [hr] at hC
      go_wp2_with (fail)
      refine hC.out.mono ?_
      rintro e w3 ⟨rfl, hb3⟩
      have hbb3 := Lib.hid (hbb.out.trans (hb3.mono hbb.out.size))
      clear hb3
      go_wp2
      go_ret2
      rw [hR.out, hK.out]; exact ⟨none, 0, rfl, OK.nil _ _ _ _, hbb3.out⟩
    · have hR : Hid (renR es ns = es.map (ren ns)) := by simp [Hid, renR, hr, hg]
      have hK : Hid ((okCode es && namesOk ns) = true) := by simp [Hid, hr, hg]
      have h6 := names6 hr
      have hall := Lib.hid (okCode_all hg)
      rw [hr] at hC
      obtain ⟨b', o', rfl, _, _⟩ := hE2'.out.six h6
      have hlm : Hid ((es.map (ren ns)).length = es.length) := by simp [Hid]
      rw [h6] at hC
      clear hr hg
      go_wp2_with (fail)
      refine hC.out.mono ?_
      rintro e w3 ⟨rfl, hb3⟩
      have hbb3 := Lib.hid (hbb.out.trans (hb3.mono hbb.out.size))
      have hz3 := hb3.size
      have hE3' := Lib.hid (hE2'.out.below hb3 (by have := hBB'.out; omega))
      have hE3 := Lib.hid (hE2.out.below hb3 (by have := hBB.out; omega))
      clear hb3
      have hmk := run_make_Instr es.length hl
      have hU0 : Hid (CB 26 (w3.alloc (.cells ((List.replicate es.length zeroIn).flatMap In.enc).toArray 26)) w3.heap.size ((over (es.map (ren ns)) (List.replicate es.length zeroIn) 0).flatMap In.enc ++ [])) := by
        rw [over_zero, List.append_nil]; exact heap_alloc_new w3 _
      have hBel0 := Lib.hid ((Below.refl w3.heap.size w3).alloc (Nat.le_refl _) (.cells ((List.replicate es.length zeroIn).flatMap In.enc).toArray 26))
      have h6' := Lib.hid h6
      clear h6
      go_wp2
      go_loopw [22] (fun i wr => ∃ k : Nat, k ≤ es.length ∧ i = .int .i64 k ∧ CB 26 wr w3.heap.size ((over (es.map (ren ns)) (List.replicate es.length zeroIn) k).flatMap In.enc ++ []) ∧ Below w3.heap.size w3 wr) (fun i _ => es.length - (intOf i).toNat)
      case atStart => exact ⟨0, Nat.zero_le _, rfl, hU0.out, hBel0.out⟩
      case round =>
        obtain ⟨k, hk, rfl, hib, hbel⟩ := hrel
        have hIB := Lib.hid hib
        have hglt := hib.lt
        have hbelH := Lib.hid hbel
        clear hib hmk hBel0 hU0
        by_cases hlt : k < es.length
        · obtain ⟨b, o, rfl, ⟨_, hbB⟩, hc⟩ := In.cells (hE3.out.below hbel (by have := hBB.out; omega)) (by omega)
          obtain ⟨c1, c2, c3, c4, c5⟩ := hc k hlt
          clear hc
          have hov : Hid ((over (es.map (ren ns)) (List.replicate es.length zeroIn) k).set k (ren ns es[k]) = over (es.map (ren ns)) (List.replicate es.length zeroIn) (k + 1)) := by
            have := over_succ (ys := es.map (ren ns)) (xs := List.replicate es.length zeroIn) (i := k) (by simpa using hlt) (by simp)
            rwa [List.getElem_map] at this
          have hol : Hid ((over (es.map (ren ns)) (List.replicate es.length zeroIn) k).length = es.length) := by rw [Hid, over_len (by simp; omega) (by simp)]; simp
          have hgood := Lib.hid (hall.out _ (List.getElem_mem hlt))
          have hbelx := fun o1 => Lib.hid (hbelH.out.alloc hbelH.out.size o1)
          generalize hnd : es[k] = nd at *
          obtain ⟨op, d, a, bb, m⟩ := nd
          have hIBx := fun o1 => Lib.hid (hIB.out.below ((Below.refl wr.heap.size wr).alloc (Nat.le_refl _) o1) hglt)
          have hE4 := fun o1 => Lib.hid ((hE3'.out.below (hbelx o1).out (by have := hBB'.out; omega)).six' h6'.out)
          have hb'lt := Lib.hid (((hE3'.out.six' h6'.out).1))
          have hzr := hbelH.out.size
          clear hnd hbel
          simp only at c1 c2 c3 c4 c5
          go_wp2_with (fail)
          refine (renameInstr_any ⟨op, d, a, bb, m⟩ b' o' c' ns _ hgood.out (by have := hb'lt.out; have := hBB'.out; simp; omega) (hE4 _).out.2).mono ?_
          rintro e w4 ⟨rfl, hb4⟩
          have hIB2 : Hid (CB 26 w4 w3.heap.size ((over (es.map (ren ns)) (List.replicate es.length zeroIn) k).flatMap In.enc ++ [])) := (hIBx _).out.below hb4 (by simp; omega)
          have hbel2 : Hid (Below w3.heap.size w3 w4) := (hbelx _).out.trans (hb4.mono (by simp; omega))
          generalize ren ns ⟨op, d, a, bb, m⟩ = y at *
          obtain ⟨y0, y1, y2, y3, y4⟩ := y
          clear c1 c2 c3 c4 c5 hb4 hIBx hbelx hE4
          obtain ⟨z0, z1, z2, z3, z4, d1, d2, d3, d4, d5⟩ := In.cellsB hIB2.out k (by rw [hol.out]; exact hlt)
          have f1 := hIB2.out.frozen (k * 5)
          have f2 := hIB2.out.frozen (k * 5 + 1)
          have f3 := hIB2.out.frozen (k * 5 + 2)
          have f4 := hIB2.out.frozen (k * 5 + 3)
          have f5 := hIB2.out.frozen (k * 5 + 4)
          have hst : Hid (CB 26 (setCells w4 w3.heap.size (k * 5) (In.enc ⟨y0, y1, y2, y3, y4⟩)) w3.heap.size ((over (es.map (ren ns)) (List.replicate es.length zeroIn) (k + 1)).flatMap In.enc ++ [])) := by
            have h1 := hIB2.out.store In.hk k (by rw [hol.out]; exact hlt) ⟨y0, y1, y2, y3, y4⟩
            rw [hov.out] at h1; exact h1
          have hbs := Lib.hid (below_setCells (In.enc ⟨y0, y1, y2, y3, y4⟩) w3.heap.size (k * 5) hbel2.out (Nat.le_refl _))
          simp only
          go_wp2
          go_roundw
          case rel => exact ⟨k + 1, by omega, by go_num, hst.out, hbs.out⟩
          case measure => simp [intOf]; omega
        · obtain rfl : k = es.length := by omega
          go_wp2
          go_ret2
          rw [hR.out, hK.out]
          have h1 := hIB.out
          rw [show es.length = (es.map (ren ns)).length by simp, over_all (by simp)] at h1
          have h2 := (cb_nil h1).toOK (lo := w.heap.size) (hi := wr.heap.size) In.hk (by rw [hlm.out]; unfold maxLen; omega) (by omega) hglt
          rw [hlm.out] at h2
          exact ⟨some ⟨w3.heap.size, 0, none⟩, es.length, by rw [hlm.out]; rfl, by rw [hlm.out]; exact h2, hbb3.out.trans (hbelH.out.mono hbb3.out.size)⟩
end Go.Proofs.Ytjnbgnnlpeoaoaa
