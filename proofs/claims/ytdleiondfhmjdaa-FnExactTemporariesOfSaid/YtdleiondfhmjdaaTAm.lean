import Derived.Test.YtdleiondfhmjdaaTA
import Derived.Test.YtdleiondfhmjdaaCE
import Derived.Test.YtdleiondfhmjdaaCT
import Derived.WalkKit
import Derived.WalkSpells
import Derived.WalkLawsBesides
import Derived.Lib.Hide
/- The model's TemporariesOf. -/
namespace Go.Proofs.Ytdleiondfhmjdaa
open Go.RowKit
set_option linter.unusedVariables false
set_option maxRecDepth 100000

set_option maxHeartbeats 4000000 in
theorem sTemporariesOf_any (L B : Nat) (A : Option Addr) (c : Nat) (cs : List In) (w : World) (hl : cs.length ≤ 1048576) (hcs : RS In.enc 5 w L B A cs) (hB : B ≤ w.heap.size) :
    Calls Try.prog 55 #[.slice A cs.length c] w fun e w' => e = .returned (.tuple #[.int .i64 (tmR cs), .bool (okCode cs)]) ∧ Below w.heap.size w w' := by
  have H := Lib.hid (cdCode_any L B A c cs w hl hcs hB)
  have hE := Lib.hid hcs
  have hBB := Lib.hid hB
  clear hcs hB
  cases hk : okCode cs
  · have hR := Lib.hid (show tmR cs = 0 by unfold tmR; rw [if_neg (by rw [hk]; decide)])
    rw [hk] at H
    clear hk
    go_enter Try.func55, Try.ntmps55
    go_wp2_with (fail)
    refine H.out.mono ?_
    rintro e w1 ⟨rfl, hb⟩
    have b1 := Lib.hid hb; clear hb
    go_wp2_with (fail)
    go_ret2
    exact ⟨by rw [hR.out]; rfl, b1.out⟩
  have hR := Lib.hid (show tmR cs = ((mkT (foT cs)).length : Int) by unfold tmR; rw [if_pos hk])
  have hall := Lib.hid (okCode_all hk)
  have hl40 := okCode_len hk
  rw [hk] at H
  clear hk
  go_enter Try.func55, Try.ntmps55
  go_wp2_with (fail)
  refine H.out.mono ?_
  rintro e w1 ⟨rfl, hb⟩
  have b1 := Lib.hid hb; clear hb
  go_wp2
  go_loopw [4, 12] (fun v i wr => ∃ k : Nat, k ≤ cs.length ∧ i = .int .i64 k ∧ OW wr w.heap.size wr.heap.size v (mkT (foT (cs.take k))) ∧ Below w.heap.size w wr) (fun _ i _ => cs.length - (intOf i).toNat)
  case atStart => exact ⟨0, Nat.zero_le _, rfl, OW.nil _ _ _, b1.out⟩
  case round =>
    obtain ⟨k, hkl, rfl, how, hbel⟩ := hrel
    by_cases hlt : k < cs.length
    · obtain ⟨b, o, rfl, ⟨_, hbB⟩, hc⟩ := In.cells (hE.out.below hbel hBB.out) (by omega)
      obtain ⟨d1, d2, d3, d4, d5⟩ := hc k hlt
      clear hc
      have hx := (good_parts (hall.out _ (List.getElem_mem hlt))).1
      have hS := Lib.hid (foT_snoc (cs := cs) hlt)
      have hT := Lib.hid (step_T (foT_is hall.out k hkl) hx.1 hx.2)
      have hTl := Lib.hid (mkTo_len (foT (cs.take k)) 6)
      obtain ⟨A2, c2, rfl, _⟩ := how.form
      have hO := Lib.hid how
      have hBL := Lib.hid hbel
      have hbs := hbel.size
      have hn2 := fun o => Lib.hid ((Below.refl wr.heap.size wr).alloc (Nat.le_refl _) o)
      have hbel2 := fun o => Lib.hid (hbel.alloc hbel.size o)
      clear how hbel
      rw [mkTo_all] at hTl
      generalize foT (cs.take k) = bs at *
      generalize cs[k] = nd at *
      obtain ⟨op, d, a, bb, m⟩ := nd
      by_cases hd : 1 < d
      · have hT2 := Lib.hid (show mkT (foT (cs.take (k + 1))) = put (mkT bs) d by have := hT.out.1; simp only at this; rw [hS.out, this, if_pos hd])
        clear hT
        generalize mkT bs = ts at *
        have hPut := fun (o : Obj) => Lib.hid (l1Put_any w.heap.size (wr.alloc o).heap.size A2 ts.length c2 ts d (wr.alloc o) rfl (by have := hTl.out; omega) ((hO.out.below (hn2 o).out (Nat.le_refl _)).more (by simp)) (by simp; omega) (Nat.le_refl _))
        go_wp2_with (go_at_call 95; (with_reducible refine (hPut _).out.mono ?_); rintro e w3 ⟨A3, c3, rfl, ho3, hb3⟩)
        have hO3 := Lib.hid ho3
        have hB3 := Lib.hid ((hbel2 _).out.trans (hb3.mono (by simp; omega)))
        clear ho3 hb3
        go_roundw
        case rel => exact ⟨k + 1, by omega, by go_num, by rw [hT2.out]; exact hO3.out, hB3.out⟩
        case measure => simp [intOf]; omega
      · have hT2 := Lib.hid (show mkT (foT (cs.take (k + 1))) = mkT bs by have := hT.out.1; simp only at this; rw [hS.out, this, if_neg hd])
        clear hT
        generalize mkT bs = ts at *
        go_wp2
        go_roundw
        case rel => exact ⟨k + 1, by omega, by go_num, by rw [hT2.out]; exact (hO.out.below (hn2 _).out (Nat.le_refl _)).more (by simp), (hbel2 _).out⟩
        case measure => simp [intOf]; omega
    · obtain rfl : k = cs.length := by omega
      rw [List.take_length] at how
      obtain ⟨A2, c2, rfl, _⟩ := how.form
      have hBL := Lib.hid hbel
      clear how hbel
      go_wp2
      go_ret2
      exact ⟨by rw [hR.out]; rfl, hBL.out⟩
end Go.Proofs.Ytdleiondfhmjdaa
