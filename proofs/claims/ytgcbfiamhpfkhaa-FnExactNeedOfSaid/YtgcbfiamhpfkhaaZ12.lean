/- Texts of this proof, one behind the other: EJ, EH1, EH2, EH3, EG2, EH4. -/
import Derived.Test.YtgcbfiamhpfkhaaZ13
import Derived.WalkKit
import Derived.WalkSpells
import Derived.WalkLawsBesides
import Derived.BigQuiet
import Derived.Lib.Hide
/- tilesOf of the program. -/
namespace Go.Proofs.Ytgcbfiamhpfkhaa
open Go.RowKit
set_option linter.unusedVariables false

set_option maxHeartbeats 8000000 in
theorem tilesOf_any (LE BE : Nat) (A : Option Addr) (c : Nat) (es : List Nd) (k : Nat) (hk : k < es.length) (w : World) (hes : NS w LE BE A es) (hB : BE ≤ w.heap.size) (hl : es.length ≤ 24) (hok : okFrom es 0 = true)
    (hTA : ∀ (L : Nat) (f : Fo), f ∈ fos → ∀ (r : Rf) (W : World), RfOk L f r W → Below w.heap.size w W → Calls Try.prog 118 #[.agg #[.int .i64 r.num, r.o, .string r.btw, .bool r.fst, r.q], .slice A es.length c, .int .i64 (k : Int)] W (TileRes W (foOk es f es[k]) (foTi es f es[k]))) :
    Calls Try.prog 62 #[.slice A es.length c, .int .i64 (k : Int)] w (TilesAre w (tilesL es es[k])) := by
  have hN := ok_get hok hk
  rw [← prog_tiles hN, ← tilesTo_all]
  have hLen := Lib.hid (tilesTo_len es es[k])
  have hSucc : Hid (∀ j (h : j < fos.length), tilesTo es es[k] (j + 1) = if foOk es fos[j] es[k] = true then tilesTo es es[k] j ++ [foTi es fos[j] es[k]] else tilesTo es es[k] j) := fun j h => tilesTo_succ h
  have hZero : Hid (tilesTo es es[k] 0 = [plainT es[k]]) := rfl
  obtain ⟨b0, o0, rfl, ⟨_, hbB⟩, hc⟩ := hes (by omega)
  have hbw : b0 < w.heap.size := by omega
  obtain ⟨c1, c2, c3, c4⟩ := hc k hk
  have hTAh := Lib.hid hTA
  clear hTA hc hbB hB hes hN
  have hPl := Lib.hid (fun W => plainTile_any es[k].op es[k].a es[k].b es[k].v W)
  rw [show (⟨es[k].op, es[k].a, es[k].b, es[k].v⟩ : Nd) = es[k] from rfl] at hPl
  generalize hT : tilesTo es es[k] = T at *
  clear hT
  generalize es[k] = nd at *
  obtain ⟨s, a, b, v⟩ := nd
  dsimp only at c1 c2 c3 c4 hPl
  generalize plainT ⟨s, a, b, v⟩ = pt at *
  obtain ⟨i0, hi', hz0, hz1, hz2⟩ := info_parts Try.infoTile
  have hJ0 := Lib.hid hi'
  have hJ1 := Lib.hid hz0
  have hJ2 := Lib.hid hz1
  have hJ3 := Lib.hid hz2
  clear hi' hz0 hz1 hz2
  have k1 : (k : Int) < (es.length : Int) := by omega
  go_enter Try.func62, Try.ntmps62
  go_wp2_with (fail)
  refine (hPl.out _).mono ?_
  rintro e w1 ⟨r0, rfl, hr0, hb1⟩
  obtain ⟨PA, pc, QA, qc, rfl, hp0, hq0⟩ := hr0.form
  dsimp only
  have hz1' := hb1.size
  have hb1h := Lib.hid hb1
  have hr0h := Lib.hid hr0
  clear hb1 hr0 hp0 hq0 c1 c2 c3 c4
  go_wp2_with (fail)
  obtain ⟨w2, hw2⟩ : ∃ w2, w2 = w1.alloc (.cells #[.int .i64 pt.num, .slice PA pt.ps.length pc, .slice QA pt.ins.length qc, .int .i64 pt.c] 77) := ⟨_, rfl⟩
  have z2 : w2.heap.size = w1.heap.size + 1 := by rw [hw2]; exact World.size_alloc _ _
  have b2 := (Below.refl w1.heap.size w1).alloc (Nat.le_refl _) (.cells #[.int .i64 pt.num, .slice PA pt.ps.length pc, .slice QA pt.ins.length qc, .int .i64 pt.c] 77)
  have kb : KB Rt.enc 77 (w1.alloc (.cells #[.int .i64 pt.num, .slice PA pt.ps.length pc, .slice QA pt.ins.length qc, .int .i64 pt.c] 77)) w1.heap.size [⟨pt.num, .slice PA pt.ps.length pc, .slice QA pt.ins.length qc, pt.c⟩] := heap_alloc_new w1 _
  rw [← hw2] at b2 kb ⊢
  have o2 : OK Rt.enc 4 77 w2 w.heap.size w2.heap.size (.slice (some ⟨w1.heap.size, 0, none⟩) 1 1) [⟨pt.num, .slice PA pt.ps.length pc, .slice QA pt.ins.length qc, pt.c⟩] := kb.toOK rt4 (by unfold maxLen; simp) (by omega) (by omega)
  have a2 : RtOk w2 w.heap.size w2.heap.size ⟨pt.num, .slice PA pt.ps.length pc, .slice QA pt.ins.length qc, pt.c⟩ pt := (hr0h.out.below b2 (Nat.le_refl _)).more (Nat.le_refl _) (by omega)
  have bw2 := hb1h.out.trans (b2.mono (by omega))
  clear hw2 kb b2 hr0h hb1h
  have z2h := Lib.hid z2
  refine (takingForms_any w2).mono ?_
  rintro e w3 ⟨hb3, v3, rfl, FA, fc, rfs, rfl, hFA⟩
  have z3 := hb3.size
  have o3 := Lib.hid ((o2.below hb3 (Nat.le_refl _)).more z3)
  have a3 := Lib.hid ((a2.below hb3 (Nat.le_refl _)).more (Nat.le_refl _) z3)
  have bw3 := Lib.hid (bw2.trans (hb3.mono (by omega)))
  have hF3 := Lib.hid hFA
  clear hb3 o2 a2 bw2 hFA
  generalize hR0 : (⟨pt.num, .slice PA pt.ps.length pc, .slice QA pt.ins.length qc, pt.c⟩ : Rt) = rt0 at o3 a3
  clear hR0
  have hfl : fos.length = 9 := rfl
  have hg1 : w1.heap.size < w2.heap.size := by omega
  have hg0 : w.heap.size ≤ w2.heap.size := by omega
  generalize w1.heap.size = g1 at *
  clear z2
  have z3h := Lib.hid z3
  go_wp2_with (fail)
  go_loopw [5, 18] (fun v i wi => ∃ (j : Nat) (rs : List Rt), j ≤ 9 ∧ i = .int .i64 j ∧ (∃ g cap, v = .slice (some ⟨g, 0, none⟩) (T j).length cap ∧ (g < w2.heap.size ∨ w3.heap.size ≤ g)) ∧ OK Rt.enc 4 77 wi w.heap.size wi.heap.size v rs ∧ AllOk wi w.heap.size wi.heap.size rs (T j) ∧
      (∀ b, w2.heap.size ≤ b → b < w3.heap.size → wi.heap[b]? = w3.heap[b]?) ∧ w3.heap.size ≤ wi.heap.size ∧ Below w.heap.size w wi) (fun _ i _ => 9 - (intOf i).toNat)
  case atStart =>
    refine ⟨0, [rt0], by omega, rfl, ⟨g1, 1, by rw [hZero.out]; rfl, .inl hg1⟩, o3.out, ?_, fun _ _ _ => rfl, Nat.le_refl _, bw3.out⟩
    rw [hZero.out]
    exact ⟨rfl, fun q h1 h2 => by obtain rfl : q = 0 := by simp at h1; exact h1
                                  exact a3.out⟩
  case round =>
    obtain ⟨j, rs, hj, rfl, ⟨g, cap, rfl, hgg⟩, ho, ha, hkeep, hzi, hbel⟩ := hrel
    have hGG := Lib.hid hgg
    have hO := Lib.hid ho
    have hA := Lib.hid ha
    have hK := Lib.hid hkeep
    have hZi := Lib.hid hzi
    have hBe := Lib.hid hbel
    clear hgg ho ha hkeep hzi hbel o3 a3
    by_cases hlt : j < 9
    · have hfi := hF3.out.keep (fun b h1 h2 => hK.out b h1 h2) hZi.out
      obtain ⟨fb, fo, rfl, ⟨hfb1, hfb2⟩, hfc⟩ := hfi.1 (by rw [hfi.2.1]; decide)
      have hjl : j < rfs.length := by rw [hfi.2.1]; exact hlt
      have x1 := hfc j hjl 0 _ rfl
      have x2 := hfc j hjl 1 _ rfl
      have x3 := hfc j hjl 2 _ rfl
      have x4 := hfc j hjl 3 _ rfl
      have x5 := hfc j hjl 4 _ rfl
      simp only [Nat.add_zero] at x1
      have hro := hfi.2.2 j hjl hlt
      have hmem : fos[j] ∈ fos := List.getElem_mem _
      have hS := Lib.hid (hSucc.out j hlt)
      have hjn : (j : Int) < 9 := by omega
      have hTj := Lib.hid (show (T j).length ≤ 1 + j from hLen.out j)
      have hTA := Lib.hid (hTAh.out w2.heap.size fos[j] hmem)
      clear hfi hfc hmem hSucc
      generalize foOk es fos[j] ⟨s, a, b, v⟩ = okj at *
      generalize foTi es fos[j] ⟨s, a, b, v⟩ = tij at *
      generalize hrf : rfs[j] = rf at *
      clear hrf
      obtain ⟨num, o, btw, fst, q⟩ := rf
      have hro' := Lib.hid hro
      obtain ⟨ge1, ge2, ge3, ⟨OA, oc, e4, _⟩, ⟨QB, qd, e5, _⟩⟩ := hro
      clear ge1 ge2 ge3
      dsimp only at e4 e5 x1 x2 x3 x4 x5
      subst e4 e5
      have hB1 := (Below.refl wr.heap.size wr).alloc (Nat.le_refl _) (.cells #[.int .i64 num, .slice OA fos[j].ops.length oc, .string btw, .bool fst, .slice QB fos[j].ws.length qd] 133)
      have hC4 := Lib.hid (hTA.out ⟨num, .slice OA fos[j].ops.length oc, btw, fst, .slice QB fos[j].ws.length qd⟩ _ (hro'.out.next hB1) (hBe.out.trans (hB1.mono hBe.out.size)))
      dsimp only at hC4
      have hB1h := Lib.hid hB1
      clear hTA hB1 hro'
      generalize fos[j].ops.length = ol at *
      generalize fos[j].ws.length = wl at *
      have fbw : fb < wr.heap.size := by omega
      go_wp2_with (fail)
      (with_reducible refine (hC4.out).mono ?_)
      rintro e w4 ⟨r4, rfl, hok4, hb4, ⟨PB, pn, pd, ep⟩, ⟨QC, qn, qe, eq⟩⟩
      obtain ⟨rn, rp, rq, rc⟩ := r4
      dsimp only at ep eq hok4 ⊢
      subst ep eq
      have hz4 := hb4.size
      have zb : (wr.alloc (.cells #[.int .i64 num, .slice OA ol oc, .string btw, .bool fst, .slice QB wl qd] 133)).heap.size = wr.heap.size + 1 := World.size_alloc _ _
      have hB4 := Lib.hid (hB1h.out.trans (hb4.mono (by omega)))
      have hz4' : wr.heap.size < w4.heap.size := by omega
      have hZ4 := Lib.hid hz4'
      have hB5 := Lib.hid (hBe.out.trans (hB4.out.mono hBe.out.size))
      have hO4 := Lib.hid ((hO.out.below hB4.out (Nat.le_refl _)).more (Nat.le_of_lt hz4'))
      have hA4 := Lib.hid ((hA.out.below hB4.out (Nat.le_refl _)).more (Nat.le_refl _) (Nat.le_of_lt hz4'))
      have hK4 : Hid (∀ b, w2.heap.size ≤ b → b < w3.heap.size → w4.heap[b]? = w3.heap[b]?) := fun b h1 h2 => (hB4.out.block b (by have := hZi.out; omega)).trans (hK.out b h1 h2)
      have hX4 : Hid (okj = true → RtOk w4 w.heap.size w4.heap.size ⟨rn, .slice PB pn pd, .slice QC qn qe, rc⟩ tij) := fun h => (hok4 h).more (by have := hBe.out.size; omega) (Nat.le_refl _)
      have hzw := Lib.hid (show w.heap.size ≤ w4.heap.size by have := hBe.out.size; omega)
      clear hb4 hok4 hz4 zb hB1h hO hA hK x1 x2 x3 x4 x5 hC4
      cases okj
      · simp only [Bool.false_eq_true, if_false] at hS
        go_wp2
        go_roundw
        case rel =>
          have ba := (Below.refl w4.heap.size w4).alloc (Nat.le_refl _) (.cells #[.int .i64 rn, .slice PB pn pd, .slice QC qn qe, .int .i64 rc] 77)
          refine ⟨j + 1, rs, by omega, by go_num, ⟨g, cap, by rw [hS.out], hGG.out⟩, ?_, ?_, ?_, ?_, ?_⟩
          · exact (hO4.out.below ba (Nat.le_refl _)).more ba.size
          · rw [hS.out]; exact (hA4.out.below ba (Nat.le_refl _)).more (Nat.le_refl _) ba.size
          · exact fun b h1 h2 => (ba.block b (by have := hZi.out; have := hZ4.out; omega)).trans (hK4.out b h1 h2)
          · have := ba.size; have := hZi.out; have := hZ4.out; omega
          · exact hB5.out.trans (ba.mono hzw.out)
        case measure => simp [intOf]; omega
      · simp only [if_true] at hS
        have hrl : rs.length = (T j).length := hA4.out.1
        have bal := fun o o' => ((Below.refl w4.heap.size w4).alloc (Nat.le_refl _) o).alloc (by simp) o'
        have hO5 := fun o o' => Lib.hid (show ((w4.alloc o).alloc o').ownsRow w.heap.size 77 4 (.slice (some ⟨g, 0, none⟩) (T j).length cap) (T j).length (rs.flatMap Rt.enc) from by have := (hO4.out.below (bal o o') (Nat.le_refl _)).1; rwa [hrl] at this)
        have hone := Lib.hid (rt_one (hX4.out rfl))
        have hzw' := hzw.out
        have hlj := hTj.out
        have balh := fun o o' => Lib.hid (bal o o')
        have hrlh := Lib.hid hrl
        clear bal hrl
        go_wp2_with (at_builtin; refine wpList_append_lies _ rfl _ _ 74 rfl w.heap.size 77 i0 _ 4 64 Try.underlying74 hJ0.out hJ1.out hJ2.out hJ3.out rfl (by decide) (.slice (some ⟨g, 0, none⟩) (T j).length cap) (T j).length _ rfl (hO5 _ _).out ⟨w4.heap.size + 1, 0, none⟩ 1 1 (Rt.enc ⟨rn, .slice PB pn pd, .slice QC qn qe, rc⟩) rfl rfl (four_ofs (r := ⟨rn, .slice PB pn pd, .slice QC qn qe, rc⟩) (by simp)) hone.out (by decide) (by unfold maxLen; omega) (by omega) (by simp; omega) _ rfl ?_; intro g' cap' w5 hown1 hgr1 hat1 hlt1)
        go_roundw
        case rel =>
          have b5 := (balh (.cells #[.int .i64 rn, .slice PB pn pd, .slice QC qn qe, .int .i64 rc] 77) (.cells #[.int .i64 rn, .slice PB pn pd, .slice QC qn qe, .int .i64 rc] 77)).out
          have o5 := (hO5 (.cells #[.int .i64 rn, .slice PB pn pd, .slice QC qn qe, .int .i64 rc] 77) (.cells #[.int .i64 rn, .slice PB pn pd, .slice QC qn qe, .int .i64 rc] 77)).out
          have hs5 := hgr1.size
          have hz5 := b5.size
          have hgl := (o5.lt g rfl).1
          have hA5 : AllOk w5 w.heap.size w4.heap.size rs (T j) := (hA4.out.below b5 (Nat.le_refl _)).grown o5 hgr1
          have hX5 : RtOk w5 w.heap.size w4.heap.size ⟨rn, .slice PB pn pd, .slice QC qn qe, rc⟩ tij := ((hX4.out rfl).below b5 (Nat.le_refl _)).grown o5 hgr1
          refine ⟨j + 1, rs ++ [⟨rn, .slice PB pn pd, .slice QC qn qe, rc⟩], by omega, by go_num, ⟨g', cap', by rw [hS.out, List.length_append]; rfl, ?_⟩, ?_, ?_, ?_, ?_, ?_⟩
          · rcases hat1 with h | h
            · have : g = g' := by simpa [Value.ownBlock] using h
              rw [← this]; exact hGG.out
            · have := hZi.out; have := hZ4.out; exact .inr (by omega)
          · refine ⟨?_, fun jj hjj => (hown1.lt jj hjj).2⟩
            rw [rtflat_snoc, List.length_append, hrlh.out]; exact hown1
          · rw [hS.out]; exact (hA5.snoc hX5).more (Nat.le_refl _) (by omega)
          · intro b h1 h2
            have := hZi.out; have := hZ4.out
            exact (hgr1.block b (by omega) (fun e => by have e' : b = g := (by simpa [Value.ownBlock] using e); have := hGG.out; omega)).trans ((b5.block b (by omega)).trans (hK4.out b h1 h2))
          · have := hZi.out; have := hZ4.out; omega
          · exact (hB5.out.trans (b5.mono hzw')).grown hgr1 (by omega) (fun jj hjj => by have e' : g = jj := (by simpa [Value.ownBlock] using hjj); omega)
        case measure => simp [intOf]; omega
    · obtain rfl : j = 9 := by omega
      have hret := hO.out.1
      go_wp2
      go_ret
      obtain ⟨A1, c1, e1, hrs⟩ := hO.out.form rt4
      injection e1 with e2 e3 e4
      exact ⟨_, _, rs, rfl, (by rw [e2]; exact hrs), hA.out, hBe.out⟩
end Go.Proofs.Ytgcbfiamhpfkhaa

/- tileAt of the program, one of its paths. -/
namespace Go.Proofs.Ytgcbfiamhpfkhaa
open Go.RowKit
set_option linter.unusedVariables false

set_option maxHeartbeats 8000000 in
theorem tileAt_p1 (L LE BE : Nat) (f : Fo) (hf : f ∈ fos) (r : Rf) (A : Option Addr) (c : Nat) (es : List Nd) (k : Nat) (hk : k < es.length) (w : World) (hr : RfOk L f r w) (hes : NS w LE BE A es) (hB : BE ≤ w.heap.size) (hl : es.length ≤ 24) (hok : okFrom es 0 = true)
    (hh : hasS f.ops es[k].op = true) (hfst : f.fst = false) (hnb0 : noBtw f = true) :
    Calls Try.prog 118 #[.agg #[.int .i64 r.num, r.o, .string r.btw, .bool r.fst, r.q], .slice A es.length c, .int .i64 (k : Int)] w (TileRes w (foOk es f es[k]) (foTi es f es[k])) := by
  obtain ⟨num, o, btw, fst, q⟩ := r
  obtain ⟨e1, e2, e3, ⟨OA, oc, e4, ho⟩, hq⟩ := hr
  dsimp only at e1 e2 e3 e4 hq ⊢
  have hws : f.ws.length ≤ 5 := by
    have : ∀ f ∈ fos, f.ws.length ≤ 5 := by decide
    exact this f hf
  have hops : f.ops.length ≤ 5 := by
    have : ∀ f ∈ fos, f.ops.length ≤ 5 := by decide
    exact this f hf
  have hTk := Lib.hid (fun s a b v W (hb : Below w.heap.size w W) => takes_any L f f.num (.slice OA f.ops.length oc) f.btw f.fst q s a b v W (hq.next hb) hws)
  obtain ⟨QA, qc, e5, hqi⟩ := hq
  subst e1 e2 e3 e4 e5
  obtain ⟨b0, o0, rfl, ⟨_, hbB⟩, hc⟩ := hes (by omega)
  have hbw : b0 < w.heap.size := by omega
  clear hbB hB hes
  have hN := ok_get hok hk
  obtain ⟨c1, c2, c3, c4⟩ := hc k hk
  have h2 : hasS f.ops es[k].op = true → isTwo es[k].op = true := two_of_has hf
  have hbd : isTwo es[k].op = true → 0 ≤ es[k].a ∧ es[k].a < (k : Int) ∧ 0 ≤ es[k].b ∧ es[k].b < (k : Int) := two_bd hN
  have hHS := Lib.hid (fun s W (hb : Below w.heap.size w W) => ContainsS_any L _ OA _ oc f.ops s W rfl (by omega) (RS.below ho hb (Nat.le_refl _)))
  have hB3 := fun o1 o2 o3 => Lib.hid ((((Below.refl w.heap.size w).alloc (Nat.le_refl _) o1).alloc (by simp) o2).alloc (by simp; omega) o3)
  have hFo : Hid (foOk es f es[k] = (hasS f.ops es[k].op && (if noBtw f = true then takes f (nodeAt es (fTaken f es[k])) else (nodeAt es (fTaken f es[k])).op.toList == f.btw.toList && takes f (nodeAt es (nodeAt es (fTaken f es[k])).b)))) := rfl
  rw [hh, Bool.true_and] at hFo
  obtain ⟨ha0, hak, hb0, hbk⟩ := hbd (h2 hh)
  obtain ⟨ja, hja⟩ : ∃ ja : Nat, es[k].a = (ja : Int) := ⟨es[k].a.toNat, by omega⟩
  obtain ⟨jb, hjb⟩ : ∃ jb : Nat, es[k].b = (jb : Int) := ⟨es[k].b.toNat, by omega⟩
  have hjak : ja < es.length := by omega
  have hjbk : jb < es.length := by omega
  have hTi : Hid (foTi es f es[k] = if noBtw f = true then ⟨f.num, [fPart f es[k]], [fTaken f es[k]], 1⟩ else ⟨f.num, [fPart f es[k], (nodeAt es (fTaken f es[k])).a], [(nodeAt es (fTaken f es[k])).b, fTaken f es[k]], 1⟩) := rfl
  have hbt := two_of_btw hf
  have hP : Hid (fPart f es[k] = if f.fst = true then es[k].b else es[k].a) := rfl
  have hQ : Hid (fTaken f es[k] = if f.fst = true then es[k].a else es[k].b) := rfl
  have hNb : Hid ((f.btw.toList == []) = true) := hnb0
  rw [hnb0] at hTi hFo
  simp only [if_true] at hTi hFo
  generalize foOk es f es[k] = ok at *
  generalize foTi es f es[k] = ti at *
  obtain ⟨fnum, fops, fbtw, ffst, fws⟩ := f
  dsimp only at *
  subst hfst
  simp only [Bool.false_eq_true, if_false] at hP hQ
  rw [hP.out, hQ.out, hja, hjb] at hTi
  rw [hQ.out, hjb, nodeAt_nat hjbk] at hFo
  rw [hTi.out]
  obtain ⟨d1, d2, d3, d4⟩ := hc jb hjbk
  have hT1 := Lib.hid (fun W hb => hTk.out es[jb].op es[jb].a es[jb].b es[jb].v W hb)
  rw [show (⟨es[jb].op, es[jb].a, es[jb].b, es[jb].v⟩ : Nd) = es[jb] from rfl, ← hFo.out] at hT1
  have hnb : (fbtw.toList == []) = true := hNb.out
  clear hTk hTi hFo hbt hP hQ hNb hN h2 hbd hc hnb0
  generalize es[jb] = mb at *
  obtain ⟨ms, ma, mbb, mv⟩ := mb
  dsimp only at d1 d2 d3 d4 hT1
  generalize es[k] = nd at *
  obtain ⟨s, a, b, v⟩ := nd
  dsimp only at hja hjb c1 c2 c3 c4 hh
  subst hja hjb
  go_enter Try.func118, Try.ntmps118
  go_wp2_with (go_at_call 161; refine (hHS.out _ _ (hB3 _ _ _).out).mono ?_; rw [hh]; rintro e w' ⟨rfl, rfl⟩)
  go_quiet (fail)
  go_wp2
  generalize hW : World.alloc _ _ = W
  obtain ⟨hsz, f1, f2, f4, f5, f6, hbW⟩ := six_facts hW
  clear hW
  have F1 : CB 133 W w.heap.size [.int .i64 fnum, .slice OA fops.length oc, .string fbtw, .bool false, .slice QA fws.length qc] := f1
  have F2 : TX W (w.heap.size + 1) zeroRt := f2
  have G4 := Lib.hid (show OW W.drew (w.heap.size + 1 + 1 + 1) W.heap.size (.slice (some ⟨w.heap.size + 1 + 1 + 1, 0, none⟩) 1 1) [(ja : Int)] from OW.ofIB (show IB W (w.heap.size + 1 + 1 + 1) 3 [(ja : Int)] from f4) (by simp) (Nat.le_refl _) (by omega))
  have F5 : IB W (w.heap.size + 1 + 1 + 1 + 1) 3 [(jb : Int)] := f5
  have G5 := Lib.hid (show OW W.drew (w.heap.size + 1 + 1 + 1 + 1) W.heap.size (.slice (some ⟨w.heap.size + 1 + 1 + 1 + 1, 0, none⟩) 1 1) [(jb : Int)] from OW.ofIB F5 (by simp) (Nat.le_refl _) (by omega))
  have F6 : TX W (w.heap.size + 5) ⟨fnum, .slice (some ⟨w.heap.size + 1 + 1 + 1, 0, none⟩) 1 1, .slice (some ⟨w.heap.size + 1 + 1 + 1 + 1, 0, none⟩) 1 1, 1⟩ := f6
  have x1 := F1.cell 0; have x2 := F1.cell 1; have x3 := F1.cell 2; have x4 := F1.cell 3; have x5 := F1.cell 4
  simp only [List.getElem?_cons_zero, List.getElem?_cons_succ] at x1 x2 x3 x4 x5
  obtain ⟨y1, y2, y3, y4⟩ := F6.cells
  dsimp only at y1 y2 y3 y4
  have y5 := F5.cell 0 (by simp)
  simp only [List.getElem_cons_zero] at y5
  clear f1 f2 f4 f5 f6 c1 c2 c3 c4
  have v1 := (hbW.cell (p := ⟨b0, o0 + jb * 4, none⟩) hbw).trans d1
  have v2 := (hbW.cell (p := ⟨b0, o0 + jb * 4 + 1, none⟩) hbw).trans d2
  have v3 := (hbW.cell (p := ⟨b0, o0 + jb * 4 + 2, none⟩) hbw).trans d3
  have v4 := (hbW.cell (p := ⟨b0, o0 + jb * 4 + 3, none⟩) hbw).trans d4
  have F2h := Lib.hid (show TX W.drew (w.heap.size + 1) zeroRt from F2)
  have zd : w.heap.size + 1 < W.drew.heap.size := by show w.heap.size + 1 < W.heap.size; omega
  have hbWh := Lib.hid hbW
  have z0 : w.heap.size < W.heap.size := by omega
  have z4 : w.heap.size + 1 + 1 + 1 + 1 < W.heap.size := by omega
  have z5 : w.heap.size + 5 < W.heap.size := by omega
  have zb : b0 < W.heap.size := by omega
  have ne1 : b0 ≠ w.heap.size + 1 := by omega
  have ne2 : w.heap.size + 1 ≠ b0 := by omega
  clear F2 F5 F6 F1 d1 d2 d3 d4
  go_region_held3 (fun w' => w'.cell? ⟨w.heap.size, 0, none⟩ = some (.int .i64 fnum) ∧ w'.cell? ⟨w.heap.size, 1, none⟩ = some (.slice OA fops.length oc) ∧ w'.cell? ⟨w.heap.size, 2, none⟩ = some (.string fbtw) ∧ w'.cell? ⟨w.heap.size, 3, none⟩ = some (.bool false) ∧ w'.cell? ⟨w.heap.size, 4, none⟩ = some (.slice QA fws.length qc) ∧
      w'.cell? ⟨w.heap.size + 5, 0, none⟩ = some (.int .i64 fnum) ∧ w'.cell? ⟨w.heap.size + 5, 1, none⟩ = some (.slice (some ⟨w.heap.size + 1 + 1 + 1, 0, none⟩) 1 1) ∧ w'.cell? ⟨w.heap.size + 5, 2, none⟩ = some (.slice (some ⟨w.heap.size + 1 + 1 + 1 + 1, 0, none⟩) 1 1) ∧ w'.cell? ⟨w.heap.size + 5, 3, none⟩ = some (.int .i64 1) ∧
      w'.cell? ⟨w.heap.size + 1 + 1 + 1 + 1, 0, none⟩ = some (.int .i64 (jb : Int)) ∧ w'.cell? ⟨b0, o0 + jb * 4, none⟩ = some (.string ms) ∧ w'.cell? ⟨b0, o0 + jb * 4 + 1, none⟩ = some (.int .i64 ma) ∧ w'.cell? ⟨b0, o0 + jb * 4 + 2, none⟩ = some (.int .i64 mbb) ∧ w'.cell? ⟨b0, o0 + jb * 4 + 3, none⟩ = some (.int .i64 mv))
    (first | exact ⟨x1, x2, x3, x4, x5, y1, y2, y3, y4, y5, v1, v2, v3, v4⟩ | exact ⟨(hb6.cell z0).trans x1, (hb6.cell z0).trans x2, (hb6.cell z0).trans x3, (hb6.cell z0).trans x4, (hb6.cell z0).trans x5, (hb6.cell z5).trans y1, (hb6.cell z5).trans y2, (hb6.cell z5).trans y3, (hb6.cell z5).trans y4, (hb6.cell z4).trans y5, (hb6.cell zb).trans v1, (hb6.cell zb).trans v2, (hb6.cell zb).trans v3, (hb6.cell zb).trans v4⟩ | go_keep)
    ((go_at_call 162; (with_reducible refine (hT1.out _ ?_).mono ?_); exact hbWh.out.drew; rintro e w6 ⟨rfl, hb6⟩; have R6 : TX w6 (w.heap.size + 1) zeroRt := CB.below F2h.out hb6 zd; have q0 := R6.cells.1; have q1 := R6.cells.2.1; have q2 := R6.cells.2.2.1; have q3 := R6.cells.2.2.2; have k0 := R6.fz.1; have k1 := R6.fz.2.1; have k2 := R6.fz.2.2.1; have k3 := R6.fz.2.2.2))
  have zW : W.drew.heap.size = W.heap.size := rfl
  have hz6 := hb6.size
  have hX := Lib.hid (R6.put ⟨fnum, .slice (some ⟨w.heap.size + 1 + 1 + 1, 0, none⟩) 1 1, .slice (some ⟨w.heap.size + 1 + 1 + 1 + 1, 0, none⟩) 1 1, 1⟩)
  have hY := Lib.hid (below_put4t (g := w.heap.size + 1) (hbWh.out.drew.trans (hb6.mono (by omega))) (by omega) ⟨fnum, .slice (some ⟨w.heap.size + 1 + 1 + 1, 0, none⟩) 1 1, .slice (some ⟨w.heap.size + 1 + 1 + 1 + 1, 0, none⟩) 1 1, 1⟩)
  have hU := Lib.hid ((((G4.out : OW W.drew _ _ _ _).below hb6 (by omega)).put4t (g := w.heap.size + 1) (by omega) ⟨fnum, .slice (some ⟨w.heap.size + 1 + 1 + 1, 0, none⟩) 1 1, .slice (some ⟨w.heap.size + 1 + 1 + 1 + 1, 0, none⟩) 1 1, 1⟩))
  have hV := Lib.hid ((((G5.out : OW W.drew _ _ _ _).below hb6 (by omega)).put4t (g := w.heap.size + 1) (by omega) ⟨fnum, .slice (some ⟨w.heap.size + 1 + 1 + 1, 0, none⟩) 1 1, .slice (some ⟨w.heap.size + 1 + 1 + 1 + 1, 0, none⟩) 1 1, 1⟩))
  clear q0 q1 q2 q3 k0 k1 k2 k3 R6 x1 x2 x3 x4 x5 y1 y2 y3 y4 y5 v1 v2 v3 v4
  go_wp2
  refine tile_ret2 (g := w.heap.size + 1) (r := ⟨fnum, .slice (some ⟨w.heap.size + 1 + 1 + 1, 0, none⟩) 1 1, .slice (some ⟨w.heap.size + 1 + 1 + 1 + 1, 0, none⟩) 1 1, 1⟩) rfl rfl rfl ?_ ?_
  · exact hX.out
  · refine ⟨⟨fnum, .slice (some ⟨w.heap.size + 1 + 1 + 1, 0, none⟩) 1 1, .slice (some ⟨w.heap.size + 1 + 1 + 1 + 1, 0, none⟩) 1 1, 1⟩, rfl, (fun _ => ?_), hY.out, ⟨_, _, _, rfl⟩, ⟨_, _, _, rfl⟩⟩
    exact ⟨rfl, rfl, (hU.out.lower (by omega)).more (show W.heap.size ≤ (put4t w6 (w.heap.size + 1) ⟨fnum, .slice (some ⟨w.heap.size + 1 + 1 + 1, 0, none⟩) 1 1, .slice (some ⟨w.heap.size + 1 + 1 + 1 + 1, 0, none⟩) 1 1, 1⟩).heap.size by rw [size_put4t]; omega), (hV.out.lower (by omega)).more (show W.heap.size ≤ (put4t w6 (w.heap.size + 1) ⟨fnum, .slice (some ⟨w.heap.size + 1 + 1 + 1, 0, none⟩) 1 1, .slice (some ⟨w.heap.size + 1 + 1 + 1 + 1, 0, none⟩) 1 1, 1⟩).heap.size by rw [size_put4t]; omega)⟩
end Go.Proofs.Ytgcbfiamhpfkhaa

/- tileAt of the program, one of its paths. -/
namespace Go.Proofs.Ytgcbfiamhpfkhaa
open Go.RowKit
set_option linter.unusedVariables false

set_option maxHeartbeats 8000000 in
theorem tileAt_p2 (L LE BE : Nat) (f : Fo) (hf : f ∈ fos) (r : Rf) (A : Option Addr) (c : Nat) (es : List Nd) (k : Nat) (hk : k < es.length) (w : World) (hr : RfOk L f r w) (hes : NS w LE BE A es) (hB : BE ≤ w.heap.size) (hl : es.length ≤ 24) (hok : okFrom es 0 = true)
    (hh : hasS f.ops es[k].op = true) (hfst : f.fst = true) (hnb0 : noBtw f = true) :
    Calls Try.prog 118 #[.agg #[.int .i64 r.num, r.o, .string r.btw, .bool r.fst, r.q], .slice A es.length c, .int .i64 (k : Int)] w (TileRes w (foOk es f es[k]) (foTi es f es[k])) := by
  obtain ⟨num, o, btw, fst, q⟩ := r
  obtain ⟨e1, e2, e3, ⟨OA, oc, e4, ho⟩, hq⟩ := hr
  dsimp only at e1 e2 e3 e4 hq ⊢
  have hws : f.ws.length ≤ 5 := by
    have : ∀ f ∈ fos, f.ws.length ≤ 5 := by decide
    exact this f hf
  have hops : f.ops.length ≤ 5 := by
    have : ∀ f ∈ fos, f.ops.length ≤ 5 := by decide
    exact this f hf
  have hTk := Lib.hid (fun s a b v W (hb : Below w.heap.size w W) => takes_any L f f.num (.slice OA f.ops.length oc) f.btw f.fst q s a b v W (hq.next hb) hws)
  obtain ⟨QA, qc, e5, hqi⟩ := hq
  subst e1 e2 e3 e4 e5
  obtain ⟨b0, o0, rfl, ⟨_, hbB⟩, hc⟩ := hes (by omega)
  have hbw : b0 < w.heap.size := by omega
  clear hbB hB hes
  have hN := ok_get hok hk
  obtain ⟨c1, c2, c3, c4⟩ := hc k hk
  have h2 : hasS f.ops es[k].op = true → isTwo es[k].op = true := two_of_has hf
  have hbd : isTwo es[k].op = true → 0 ≤ es[k].a ∧ es[k].a < (k : Int) ∧ 0 ≤ es[k].b ∧ es[k].b < (k : Int) := two_bd hN
  have hHS := Lib.hid (fun s W (hb : Below w.heap.size w W) => ContainsS_any L _ OA _ oc f.ops s W rfl (by omega) (RS.below ho hb (Nat.le_refl _)))
  have hB3 := fun o1 o2 o3 => Lib.hid ((((Below.refl w.heap.size w).alloc (Nat.le_refl _) o1).alloc (by simp) o2).alloc (by simp; omega) o3)
  have hFo : Hid (foOk es f es[k] = (hasS f.ops es[k].op && (if noBtw f = true then takes f (nodeAt es (fTaken f es[k])) else (nodeAt es (fTaken f es[k])).op.toList == f.btw.toList && takes f (nodeAt es (nodeAt es (fTaken f es[k])).b)))) := rfl
  rw [hh, Bool.true_and] at hFo
  obtain ⟨ha0, hak, hb0, hbk⟩ := hbd (h2 hh)
  obtain ⟨ja, hja⟩ : ∃ ja : Nat, es[k].a = (ja : Int) := ⟨es[k].a.toNat, by omega⟩
  obtain ⟨jb, hjb⟩ : ∃ jb : Nat, es[k].b = (jb : Int) := ⟨es[k].b.toNat, by omega⟩
  have hjak : ja < es.length := by omega
  have hjbk : jb < es.length := by omega
  have hTi : Hid (foTi es f es[k] = if noBtw f = true then ⟨f.num, [fPart f es[k]], [fTaken f es[k]], 1⟩ else ⟨f.num, [fPart f es[k], (nodeAt es (fTaken f es[k])).a], [(nodeAt es (fTaken f es[k])).b, fTaken f es[k]], 1⟩) := rfl
  have hbt := two_of_btw hf
  have hP : Hid (fPart f es[k] = if f.fst = true then es[k].b else es[k].a) := rfl
  have hQ : Hid (fTaken f es[k] = if f.fst = true then es[k].a else es[k].b) := rfl
  have hNb : Hid ((f.btw.toList == []) = true) := hnb0
  rw [hnb0] at hTi hFo
  simp only [if_true] at hTi hFo
  generalize foOk es f es[k] = ok at *
  generalize foTi es f es[k] = ti at *
  obtain ⟨fnum, fops, fbtw, ffst, fws⟩ := f
  dsimp only at *
  subst hfst
  simp only [if_true] at hP hQ
  rw [hP.out, hQ.out, hja, hjb] at hTi
  rw [hQ.out, hja, nodeAt_nat hjak] at hFo
  rw [hTi.out]
  obtain ⟨d1, d2, d3, d4⟩ := hc ja hjak
  have hT1 := Lib.hid (fun W hb => hTk.out es[ja].op es[ja].a es[ja].b es[ja].v W hb)
  rw [show (⟨es[ja].op, es[ja].a, es[ja].b, es[ja].v⟩ : Nd) = es[ja] from rfl, ← hFo.out] at hT1
  have hnb : (fbtw.toList == []) = true := hNb.out
  clear hTk hTi hFo hbt hP hQ hNb hN h2 hbd hc hnb0
  generalize es[ja] = mb at *
  obtain ⟨ms, ma, mbb, mv⟩ := mb
  dsimp only at d1 d2 d3 d4 hT1
  generalize es[k] = nd at *
  obtain ⟨s, a, b, v⟩ := nd
  dsimp only at hja hjb c1 c2 c3 c4 hh
  subst hja hjb
  go_enter Try.func118, Try.ntmps118
  go_wp2_with (go_at_call 161; refine (hHS.out _ _ (hB3 _ _ _).out).mono ?_; rw [hh]; rintro e w' ⟨rfl, rfl⟩)
  go_quiet (fail)
  go_wp2
  go_quiet (fail)
  go_wp2
  generalize hW : World.alloc _ _ = W
  obtain ⟨hsz, f1, f2, f4, f5, f6, hbW⟩ := six_facts hW
  clear hW
  have F1 : CB 133 W w.heap.size [.int .i64 fnum, .slice OA fops.length oc, .string fbtw, .bool true, .slice QA fws.length qc] := f1
  have F2 : TX W (w.heap.size + 1) zeroRt := f2
  have G4 := Lib.hid (show OW W.drew (w.heap.size + 1 + 1 + 1) W.heap.size (.slice (some ⟨w.heap.size + 1 + 1 + 1, 0, none⟩) 1 1) [(jb : Int)] from OW.ofIB (show IB W (w.heap.size + 1 + 1 + 1) 3 [(jb : Int)] from f4) (by simp) (Nat.le_refl _) (by omega))
  have F5 : IB W (w.heap.size + 1 + 1 + 1 + 1) 3 [(ja : Int)] := f5
  have G5 := Lib.hid (show OW W.drew (w.heap.size + 1 + 1 + 1 + 1) W.heap.size (.slice (some ⟨w.heap.size + 1 + 1 + 1 + 1, 0, none⟩) 1 1) [(ja : Int)] from OW.ofIB F5 (by simp) (Nat.le_refl _) (by omega))
  have F6 : TX W (w.heap.size + 5) ⟨fnum, .slice (some ⟨w.heap.size + 1 + 1 + 1, 0, none⟩) 1 1, .slice (some ⟨w.heap.size + 1 + 1 + 1 + 1, 0, none⟩) 1 1, 1⟩ := f6
  have x1 := F1.cell 0; have x2 := F1.cell 1; have x3 := F1.cell 2; have x4 := F1.cell 3; have x5 := F1.cell 4
  simp only [List.getElem?_cons_zero, List.getElem?_cons_succ] at x1 x2 x3 x4 x5
  obtain ⟨y1, y2, y3, y4⟩ := F6.cells
  dsimp only at y1 y2 y3 y4
  have y5 := F5.cell 0 (by simp)
  simp only [List.getElem_cons_zero] at y5
  clear f1 f2 f4 f5 f6 c1 c2 c3 c4
  have v1 := (hbW.cell (p := ⟨b0, o0 + ja * 4, none⟩) hbw).trans d1
  have v2 := (hbW.cell (p := ⟨b0, o0 + ja * 4 + 1, none⟩) hbw).trans d2
  have v3 := (hbW.cell (p := ⟨b0, o0 + ja * 4 + 2, none⟩) hbw).trans d3
  have v4 := (hbW.cell (p := ⟨b0, o0 + ja * 4 + 3, none⟩) hbw).trans d4
  have F2h := Lib.hid (show TX W.drew (w.heap.size + 1) zeroRt from F2)
  have zd : w.heap.size + 1 < W.drew.heap.size := by show w.heap.size + 1 < W.heap.size; omega
  have hbWh := Lib.hid hbW
  have z0 : w.heap.size < W.heap.size := by omega
  have z4 : w.heap.size + 1 + 1 + 1 + 1 < W.heap.size := by omega
  have z5 : w.heap.size + 5 < W.heap.size := by omega
  have zb : b0 < W.heap.size := by omega
  have ne1 : b0 ≠ w.heap.size + 1 := by omega
  have ne2 : w.heap.size + 1 ≠ b0 := by omega
  clear F2 F5 F6 F1 d1 d2 d3 d4
  go_region_held3 (fun w' => w'.cell? ⟨w.heap.size, 0, none⟩ = some (.int .i64 fnum) ∧ w'.cell? ⟨w.heap.size, 1, none⟩ = some (.slice OA fops.length oc) ∧ w'.cell? ⟨w.heap.size, 2, none⟩ = some (.string fbtw) ∧ w'.cell? ⟨w.heap.size, 3, none⟩ = some (.bool true) ∧ w'.cell? ⟨w.heap.size, 4, none⟩ = some (.slice QA fws.length qc) ∧
      w'.cell? ⟨w.heap.size + 5, 0, none⟩ = some (.int .i64 fnum) ∧ w'.cell? ⟨w.heap.size + 5, 1, none⟩ = some (.slice (some ⟨w.heap.size + 1 + 1 + 1, 0, none⟩) 1 1) ∧ w'.cell? ⟨w.heap.size + 5, 2, none⟩ = some (.slice (some ⟨w.heap.size + 1 + 1 + 1 + 1, 0, none⟩) 1 1) ∧ w'.cell? ⟨w.heap.size + 5, 3, none⟩ = some (.int .i64 1) ∧
      w'.cell? ⟨w.heap.size + 1 + 1 + 1 + 1, 0, none⟩ = some (.int .i64 (ja : Int)) ∧ w'.cell? ⟨b0, o0 + ja * 4, none⟩ = some (.string ms) ∧ w'.cell? ⟨b0, o0 + ja * 4 + 1, none⟩ = some (.int .i64 ma) ∧ w'.cell? ⟨b0, o0 + ja * 4 + 2, none⟩ = some (.int .i64 mbb) ∧ w'.cell? ⟨b0, o0 + ja * 4 + 3, none⟩ = some (.int .i64 mv))
    (first | exact ⟨x1, x2, x3, x4, x5, y1, y2, y3, y4, y5, v1, v2, v3, v4⟩ | exact ⟨(hb6.cell z0).trans x1, (hb6.cell z0).trans x2, (hb6.cell z0).trans x3, (hb6.cell z0).trans x4, (hb6.cell z0).trans x5, (hb6.cell z5).trans y1, (hb6.cell z5).trans y2, (hb6.cell z5).trans y3, (hb6.cell z5).trans y4, (hb6.cell z4).trans y5, (hb6.cell zb).trans v1, (hb6.cell zb).trans v2, (hb6.cell zb).trans v3, (hb6.cell zb).trans v4⟩ | go_keep)
    ((go_at_call 162; (with_reducible refine (hT1.out _ ?_).mono ?_); exact hbWh.out.drew; rintro e w6 ⟨rfl, hb6⟩; have R6 : TX w6 (w.heap.size + 1) zeroRt := CB.below F2h.out hb6 zd; have q0 := R6.cells.1; have q1 := R6.cells.2.1; have q2 := R6.cells.2.2.1; have q3 := R6.cells.2.2.2; have k0 := R6.fz.1; have k1 := R6.fz.2.1; have k2 := R6.fz.2.2.1; have k3 := R6.fz.2.2.2))
  have zW : W.drew.heap.size = W.heap.size := rfl
  have hz6 := hb6.size
  have hX := Lib.hid (R6.put ⟨fnum, .slice (some ⟨w.heap.size + 1 + 1 + 1, 0, none⟩) 1 1, .slice (some ⟨w.heap.size + 1 + 1 + 1 + 1, 0, none⟩) 1 1, 1⟩)
  have hY := Lib.hid (below_put4t (g := w.heap.size + 1) (hbWh.out.drew.trans (hb6.mono (by omega))) (by omega) ⟨fnum, .slice (some ⟨w.heap.size + 1 + 1 + 1, 0, none⟩) 1 1, .slice (some ⟨w.heap.size + 1 + 1 + 1 + 1, 0, none⟩) 1 1, 1⟩)
  have hU := Lib.hid ((((G4.out : OW W.drew _ _ _ _).below hb6 (by omega)).put4t (g := w.heap.size + 1) (by omega) ⟨fnum, .slice (some ⟨w.heap.size + 1 + 1 + 1, 0, none⟩) 1 1, .slice (some ⟨w.heap.size + 1 + 1 + 1 + 1, 0, none⟩) 1 1, 1⟩))
  have hV := Lib.hid ((((G5.out : OW W.drew _ _ _ _).below hb6 (by omega)).put4t (g := w.heap.size + 1) (by omega) ⟨fnum, .slice (some ⟨w.heap.size + 1 + 1 + 1, 0, none⟩) 1 1, .slice (some ⟨w.heap.size + 1 + 1 + 1 + 1, 0, none⟩) 1 1, 1⟩))
  clear q0 q1 q2 q3 k0 k1 k2 k3 R6 x1 x2 x3 x4 x5 y1 y2 y3 y4 y5 v1 v2 v3 v4
  go_wp2
  refine tile_ret2 (g := w.heap.size + 1) (r := ⟨fnum, .slice (some ⟨w.heap.size + 1 + 1 + 1, 0, none⟩) 1 1, .slice (some ⟨w.heap.size + 1 + 1 + 1 + 1, 0, none⟩) 1 1, 1⟩) rfl rfl rfl ?_ ?_
  · exact hX.out
  · refine ⟨⟨fnum, .slice (some ⟨w.heap.size + 1 + 1 + 1, 0, none⟩) 1 1, .slice (some ⟨w.heap.size + 1 + 1 + 1 + 1, 0, none⟩) 1 1, 1⟩, rfl, (fun _ => ?_), hY.out, ⟨_, _, _, rfl⟩, ⟨_, _, _, rfl⟩⟩
    exact ⟨rfl, rfl, (hU.out.lower (by omega)).more (show W.heap.size ≤ (put4t w6 (w.heap.size + 1) ⟨fnum, .slice (some ⟨w.heap.size + 1 + 1 + 1, 0, none⟩) 1 1, .slice (some ⟨w.heap.size + 1 + 1 + 1 + 1, 0, none⟩) 1 1, 1⟩).heap.size by rw [size_put4t]; omega), (hV.out.lower (by omega)).more (show W.heap.size ≤ (put4t w6 (w.heap.size + 1) ⟨fnum, .slice (some ⟨w.heap.size + 1 + 1 + 1, 0, none⟩) 1 1, .slice (some ⟨w.heap.size + 1 + 1 + 1 + 1, 0, none⟩) 1 1, 1⟩).heap.size by rw [size_put4t]; omega)⟩
end Go.Proofs.Ytgcbfiamhpfkhaa

/- tileAt of the program, one of its paths. -/
namespace Go.Proofs.Ytgcbfiamhpfkhaa
open Go.RowKit
set_option linter.unusedVariables false

set_option maxHeartbeats 8000000 in
theorem tileAt_p3 (L LE BE : Nat) (f : Fo) (hf : f ∈ fos) (r : Rf) (A : Option Addr) (c : Nat) (es : List Nd) (k : Nat) (hk : k < es.length) (w : World) (hr : RfOk L f r w) (hes : NS w LE BE A es) (hB : BE ≤ w.heap.size) (hl : es.length ≤ 24) (hok : okFrom es 0 = true)
    (hh : hasS f.ops es[k].op = true) (hfst : f.fst = false) (hnb0 : noBtw f = false) (heq : ((nodeAt es (fTaken f es[k])).op.toList == f.btw.toList) = true) :
    Calls Try.prog 118 #[.agg #[.int .i64 r.num, r.o, .string r.btw, .bool r.fst, r.q], .slice A es.length c, .int .i64 (k : Int)] w (TileRes w (foOk es f es[k]) (foTi es f es[k])) := by
  obtain ⟨num, o, btw, fst, q⟩ := r
  obtain ⟨e1, e2, e3, ⟨OA, oc, e4, ho⟩, hq⟩ := hr
  dsimp only at e1 e2 e3 e4 hq ⊢
  have hws : f.ws.length ≤ 5 := by
    have : ∀ f ∈ fos, f.ws.length ≤ 5 := by decide
    exact this f hf
  have hops : f.ops.length ≤ 5 := by
    have : ∀ f ∈ fos, f.ops.length ≤ 5 := by decide
    exact this f hf
  have hTk := Lib.hid (fun s a b v W (hb : Below w.heap.size w W) => takes_any L f f.num (.slice OA f.ops.length oc) f.btw f.fst q s a b v W (hq.next hb) hws)
  obtain ⟨QA, qc, e5, hqi⟩ := hq
  subst e1 e2 e3 e4 e5
  obtain ⟨b0, o0, rfl, ⟨_, hbB⟩, hc⟩ := hes (by omega)
  have hbw : b0 < w.heap.size := by omega
  clear hbB hB hes
  have hN := ok_get hok hk
  obtain ⟨c1, c2, c3, c4⟩ := hc k hk
  have h2 : hasS f.ops es[k].op = true → isTwo es[k].op = true := two_of_has hf
  have hbd : isTwo es[k].op = true → 0 ≤ es[k].a ∧ es[k].a < (k : Int) ∧ 0 ≤ es[k].b ∧ es[k].b < (k : Int) := two_bd hN
  have hHS := Lib.hid (fun s W (hb : Below w.heap.size w W) => ContainsS_any L _ OA _ oc f.ops s W rfl (by omega) (RS.below ho hb (Nat.le_refl _)))
  have hB3 := fun o1 o2 o3 => Lib.hid ((((Below.refl w.heap.size w).alloc (Nat.le_refl _) o1).alloc (by simp) o2).alloc (by simp; omega) o3)
  have hFo : Hid (foOk es f es[k] = (hasS f.ops es[k].op && (if noBtw f = true then takes f (nodeAt es (fTaken f es[k])) else (nodeAt es (fTaken f es[k])).op.toList == f.btw.toList && takes f (nodeAt es (nodeAt es (fTaken f es[k])).b)))) := rfl
  rw [hh, Bool.true_and] at hFo
  obtain ⟨ha0, hak, hb0, hbk⟩ := hbd (h2 hh)
  obtain ⟨ja, hja⟩ : ∃ ja : Nat, es[k].a = (ja : Int) := ⟨es[k].a.toNat, by omega⟩
  obtain ⟨jb, hjb⟩ : ∃ jb : Nat, es[k].b = (jb : Int) := ⟨es[k].b.toNat, by omega⟩
  have hjak : ja < es.length := by omega
  have hjbk : jb < es.length := by omega
  have hTi : Hid (foTi es f es[k] = if noBtw f = true then ⟨f.num, [fPart f es[k]], [fTaken f es[k]], 1⟩ else ⟨f.num, [fPart f es[k], (nodeAt es (fTaken f es[k])).a], [(nodeAt es (fTaken f es[k])).b, fTaken f es[k]], 1⟩) := rfl
  have hbt := two_of_btw hf
  have hP : Hid (fPart f es[k] = if f.fst = true then es[k].b else es[k].a) := rfl
  have hQ : Hid (fTaken f es[k] = if f.fst = true then es[k].a else es[k].b) := rfl
  have hNb : Hid ((f.btw.toList == []) = false) := hnb0
  rw [hnb0] at hTi hFo
  simp only [Bool.false_eq_true, if_false] at hTi hFo
  rw [heq] at hFo
  simp only [Bool.true_and] at hFo
  generalize foOk es f es[k] = ok at *
  generalize foTi es f es[k] = ti at *
  obtain ⟨fnum, fops, fbtw, ffst, fws⟩ := f
  dsimp only at *
  subst hfst
  simp only [Bool.false_eq_true, if_false] at hP hQ
  rw [hP.out, hQ.out, hja, hjb, nodeAt_nat hjbk] at hTi
  rw [hQ.out, hjb, nodeAt_nat hjbk] at heq
  rw [hQ.out, hjb, nodeAt_nat hjbk] at hFo
  have hm2 : isTwo es[jb].op = true := by
    have e : es[jb].op.toList = fbtw.toList := by simpa using heq
    have h3 := hbt hnb0
    unfold isTwo at h3 ⊢
    rw [e]; exact h3
  obtain ⟨hma0, hmak, hmb0, hmbk⟩ := two_bd (ok_get hok hjbk) hm2
  obtain ⟨jm, hjm⟩ : ∃ jm : Nat, es[jb].b = (jm : Int) := ⟨es[jb].b.toNat, by omega⟩
  have hjmk : jm < es.length := by omega
  rw [hjm, nodeAt_nat hjmk] at hFo
  rw [hjm] at hTi
  rw [hTi.out]
  obtain ⟨m1, m2, m3, m4⟩ := hc jb hjbk
  rw [hjm] at m3
  obtain ⟨d1, d2, d3, d4⟩ := hc jm hjmk
  have hT1 := Lib.hid (fun W hb => hTk.out es[jm].op es[jm].a es[jm].b es[jm].v W hb)
  rw [show (⟨es[jm].op, es[jm].a, es[jm].b, es[jm].v⟩ : Nd) = es[jm] from rfl, ← hFo.out] at hT1
  have hnb : (fbtw.toList == []) = false := hNb.out
  clear hTk hTi hbt hP hQ hNb hN h2 hbd hc hnb0 hm2 hjm
  generalize es[jm] = mb at *
  obtain ⟨ms, ma, mbb, mv⟩ := mb
  dsimp only at d1 d2 d3 d4 hT1
  generalize es[jb] = md at *
  obtain ⟨mds, mda, mdb, mdv⟩ := md
  dsimp only at m1 m2 m3 m4 heq ⊢
  generalize es[k] = nd at *
  obtain ⟨s, a, b, v⟩ := nd
  dsimp only at hja hjb c1 c2 c3 c4 hh
  subst hja hjb
  go_enter Try.func118, Try.ntmps118
  go_wp2_with (go_at_call 161; refine (hHS.out _ _ (hB3 _ _ _).out).mono ?_; rw [hh]; rintro e w' ⟨rfl, rfl⟩)
  go_quiet (fail)
  generalize hV : World.drewN _ _ = V
  obtain ⟨vsz, f1, f2, hbV⟩ := three_facts hV
  clear hV hB3 hHS
  have F1 : CB 133 V w.heap.size [.int .i64 fnum, .slice OA fops.length oc, .string fbtw, .bool false, .slice QA fws.length qc] := f1
  have F2 : TX V (w.heap.size + 1) zeroRt := f2
  have x1 := F1.cell 0; have x2 := F1.cell 1; have x3 := F1.cell 2; have x4 := F1.cell 3; have x5 := F1.cell 4
  simp only [List.getElem?_cons_zero, List.getElem?_cons_succ] at x1 x2 x3 x4 x5
  obtain ⟨t1, t2, t3, t4⟩ := F2.cells
  obtain ⟨u1, u2, u3, u4⟩ := F2.fz
  have n1 := (hbV.cell (p := ⟨b0, o0 + jb * 4, none⟩) hbw).trans m1
  have n2 := (hbV.cell (p := ⟨b0, o0 + jb * 4 + 1, none⟩) hbw).trans m2
  have n3 := (hbV.cell (p := ⟨b0, o0 + jb * 4 + 2, none⟩) hbw).trans m3
  have n4 := (hbV.cell (p := ⟨b0, o0 + jb * 4 + 3, none⟩) hbw).trans m4
  have hF1 := Lib.hid F1
  have hF2 := Lib.hid F2
  have hbVh := Lib.hid hbV
  have vz := Lib.hid vsz
  have vb : b0 < V.heap.size := by omega
  have v0 : w.heap.size < V.heap.size := by omega
  have v1 : w.heap.size + 1 < V.heap.size := by omega
  have vb_1 : b0 < V.heap.size + 1 := by omega
  have vb_2 : b0 < V.heap.size + 1 + 1 := by omega
  have vb_3 : b0 < V.heap.size + 1 + 1 + 1 := by omega
  have vb_4 : b0 < V.heap.size + 1 + 1 + 1 + 1 := by omega
  have vb_5 : b0 < V.heap.size + 1 + 1 + 1 + 1 + 1 := by omega
  have vb_6 : b0 < V.heap.size + 1 + 1 + 1 + 1 + 1 + 1 := by omega
  have v0_1 : w.heap.size < V.heap.size + 1 := by omega
  have v0_2 : w.heap.size < V.heap.size + 1 + 1 := by omega
  have v0_3 : w.heap.size < V.heap.size + 1 + 1 + 1 := by omega
  have v0_4 : w.heap.size < V.heap.size + 1 + 1 + 1 + 1 := by omega
  have v0_5 : w.heap.size < V.heap.size + 1 + 1 + 1 + 1 + 1 := by omega
  have v0_6 : w.heap.size < V.heap.size + 1 + 1 + 1 + 1 + 1 + 1 := by omega
  have v1_1 : w.heap.size + 1 < V.heap.size + 1 := by omega
  have v1_2 : w.heap.size + 1 < V.heap.size + 1 + 1 := by omega
  have v1_3 : w.heap.size + 1 < V.heap.size + 1 + 1 + 1 := by omega
  have v1_4 : w.heap.size + 1 < V.heap.size + 1 + 1 + 1 + 1 := by omega
  have v1_5 : w.heap.size + 1 < V.heap.size + 1 + 1 + 1 + 1 + 1 := by omega
  have v1_6 : w.heap.size + 1 < V.heap.size + 1 + 1 + 1 + 1 + 1 + 1 := by omega
  clear F1 F2 f1 f2 hbV m1 m2 m3 m4 c1 c2 c3 c4 vsz
  go_wp2
  generalize hW : World.alloc _ _ = W
  obtain ⟨hsz, f3, f5, f6, hbW0⟩ := six_plain hW
  clear hW x1 x2 x3 x4 x5 t1 t2 t3 t4 u1 u2 u3 u4 n1 n2 n3 n4
  have F1 : CB 133 W w.heap.size [.int .i64 fnum, .slice OA fops.length oc, .string fbtw, .bool false, .slice QA fws.length qc] := CB.below hF1.out hbW0 v0
  have F2 : TX W (w.heap.size + 1) zeroRt := CB.below hF2.out hbW0 v1
  have hbW := hbVh.out.trans (hbW0.mono (by omega))
  have F5 : IB W (V.heap.size + 1 + 1 + 1 + 1 + 1) 3 [(jm : Int), (jb : Int)] := f6
  have G4 := Lib.hid (show OW W.drew (V.heap.size + 1 + 1 + 1 + 1) W.heap.size (.slice (some ⟨V.heap.size + 1 + 1 + 1 + 1, 0, none⟩) 2 2) [(ja : Int), mda] from OW.ofIB (show IB W (V.heap.size + 1 + 1 + 1 + 1) 3 [(ja : Int), mda] from f5) (by simp) (Nat.le_refl _) (by omega))
  have G5 := Lib.hid (show OW W.drew (V.heap.size + 1 + 1 + 1 + 1 + 1) W.heap.size (.slice (some ⟨V.heap.size + 1 + 1 + 1 + 1 + 1, 0, none⟩) 2 2) [(jm : Int), (jb : Int)] from OW.ofIB F5 (by simp) (Nat.le_refl _) (by omega))
  have F6 : TX W (V.heap.size + 1 + 1) ⟨fnum, .slice (some ⟨V.heap.size + 1 + 1 + 1 + 1, 0, none⟩) 2 2, .slice (some ⟨V.heap.size + 1 + 1 + 1 + 1 + 1, 0, none⟩) 2 2, 1⟩ := f3
  clear hbW0 hF1 hF2 hbVh
  generalize V.heap.size = n0 at *
  obtain rfl : n0 = w.heap.size + 3 := vz.out
  have x1 := F1.cell 0; have x2 := F1.cell 1; have x3 := F1.cell 2; have x4 := F1.cell 3; have x5 := F1.cell 4
  simp only [List.getElem?_cons_zero, List.getElem?_cons_succ] at x1 x2 x3 x4 x5
  obtain ⟨y1, y2, y3, y4⟩ := F6.cells
  dsimp only at y1 y2 y3 y4
  have y5 := F5.cell 0 (by simp)
  simp only [List.getElem_cons_zero] at y5
  have v1 := (hbW.cell (p := ⟨b0, o0 + jm * 4, none⟩) hbw).trans d1
  have v2 := (hbW.cell (p := ⟨b0, o0 + jm * 4 + 1, none⟩) hbw).trans d2
  have v3 := (hbW.cell (p := ⟨b0, o0 + jm * 4 + 2, none⟩) hbw).trans d3
  have v4 := (hbW.cell (p := ⟨b0, o0 + jm * 4 + 3, none⟩) hbw).trans d4
  have F2h := Lib.hid (show TX W.drew (w.heap.size + 1) zeroRt from F2)
  have zd : w.heap.size + 1 < W.drew.heap.size := by show w.heap.size + 1 < W.heap.size; omega
  have hbWh := Lib.hid hbW
  have z0 : w.heap.size < W.heap.size := by omega
  have z4 : w.heap.size + 3 + 1 + 1 + 1 + 1 + 1 < W.heap.size := by omega
  have z5 : w.heap.size + 3 + 1 + 1 < W.heap.size := by omega
  have zb : b0 < W.heap.size := by omega
  have ne1 : b0 ≠ w.heap.size + 1 := by omega
  have ne2 : w.heap.size + 1 ≠ b0 := by omega
  have ne3 : w.heap.size + 3 + 1 + 1 ≠ w.heap.size + 1 := by omega
  have ne4 : w.heap.size + 1 ≠ w.heap.size + 3 + 1 + 1 := by omega
  have ne5 : w.heap.size + 3 + 1 + 1 + 1 + 1 + 1 ≠ w.heap.size + 1 := by omega
  have ne6 : w.heap.size + 1 ≠ w.heap.size + 3 + 1 + 1 + 1 + 1 + 1 := by omega
  clear F2 F5 F6 F1 d1 d2 d3 d4
  go_region_held3 (fun w' => w'.cell? ⟨w.heap.size, 0, none⟩ = some (.int .i64 fnum) ∧ w'.cell? ⟨w.heap.size, 1, none⟩ = some (.slice OA fops.length oc) ∧ w'.cell? ⟨w.heap.size, 2, none⟩ = some (.string fbtw) ∧ w'.cell? ⟨w.heap.size, 3, none⟩ = some (.bool false) ∧ w'.cell? ⟨w.heap.size, 4, none⟩ = some (.slice QA fws.length qc) ∧
      w'.cell? ⟨w.heap.size + 3 + 1 + 1, 0, none⟩ = some (.int .i64 fnum) ∧ w'.cell? ⟨w.heap.size + 3 + 1 + 1, 1, none⟩ = some (.slice (some ⟨w.heap.size + 3 + 1 + 1 + 1 + 1, 0, none⟩) 2 2) ∧ w'.cell? ⟨w.heap.size + 3 + 1 + 1, 2, none⟩ = some (.slice (some ⟨w.heap.size + 3 + 1 + 1 + 1 + 1 + 1, 0, none⟩) 2 2) ∧ w'.cell? ⟨w.heap.size + 3 + 1 + 1, 3, none⟩ = some (.int .i64 1) ∧
      w'.cell? ⟨w.heap.size + 3 + 1 + 1 + 1 + 1 + 1, 0, none⟩ = some (.int .i64 (jm : Int)) ∧ w'.cell? ⟨b0, o0 + jm * 4, none⟩ = some (.string ms) ∧ w'.cell? ⟨b0, o0 + jm * 4 + 1, none⟩ = some (.int .i64 ma) ∧ w'.cell? ⟨b0, o0 + jm * 4 + 2, none⟩ = some (.int .i64 mbb) ∧ w'.cell? ⟨b0, o0 + jm * 4 + 3, none⟩ = some (.int .i64 mv))
    (first | exact ⟨x1, x2, x3, x4, x5, y1, y2, y3, y4, y5, v1, v2, v3, v4⟩ | exact ⟨(hb6.cell z0).trans x1, (hb6.cell z0).trans x2, (hb6.cell z0).trans x3, (hb6.cell z0).trans x4, (hb6.cell z0).trans x5, (hb6.cell z5).trans y1, (hb6.cell z5).trans y2, (hb6.cell z5).trans y3, (hb6.cell z5).trans y4, (hb6.cell z4).trans y5, (hb6.cell zb).trans v1, (hb6.cell zb).trans v2, (hb6.cell zb).trans v3, (hb6.cell zb).trans v4⟩ | go_keep)
    ((go_at_call 162; (with_reducible refine (hT1.out _ ?_).mono ?_); exact hbWh.out.drew; rintro e w6 ⟨rfl, hb6⟩; have R6 : TX w6 (w.heap.size + 1) zeroRt := CB.below F2h.out hb6 zd; have q0 := R6.cells.1; have q1 := R6.cells.2.1; have q2 := R6.cells.2.2.1; have q3 := R6.cells.2.2.2; have k0 := R6.fz.1; have k1 := R6.fz.2.1; have k2 := R6.fz.2.2.1; have k3 := R6.fz.2.2.2))
  have zW : W.drew.heap.size = W.heap.size := rfl
  have hz6 := hb6.size
  have hX := Lib.hid (R6.put ⟨fnum, .slice (some ⟨w.heap.size + 3 + 1 + 1 + 1 + 1, 0, none⟩) 2 2, .slice (some ⟨w.heap.size + 3 + 1 + 1 + 1 + 1 + 1, 0, none⟩) 2 2, 1⟩)
  have hY := Lib.hid (below_put4t (g := w.heap.size + 1) (hbWh.out.drew.trans (hb6.mono (by omega))) (by omega) ⟨fnum, .slice (some ⟨w.heap.size + 3 + 1 + 1 + 1 + 1, 0, none⟩) 2 2, .slice (some ⟨w.heap.size + 3 + 1 + 1 + 1 + 1 + 1, 0, none⟩) 2 2, 1⟩)
  have hU := Lib.hid ((((G4.out : OW W.drew _ _ _ _).below hb6 (by omega)).put4t (g := w.heap.size + 1) (by omega) ⟨fnum, .slice (some ⟨w.heap.size + 3 + 1 + 1 + 1 + 1, 0, none⟩) 2 2, .slice (some ⟨w.heap.size + 3 + 1 + 1 + 1 + 1 + 1, 0, none⟩) 2 2, 1⟩))
  have hV := Lib.hid ((((G5.out : OW W.drew _ _ _ _).below hb6 (by omega)).put4t (g := w.heap.size + 1) (by omega) ⟨fnum, .slice (some ⟨w.heap.size + 3 + 1 + 1 + 1 + 1, 0, none⟩) 2 2, .slice (some ⟨w.heap.size + 3 + 1 + 1 + 1 + 1 + 1, 0, none⟩) 2 2, 1⟩))
  clear q0 q1 q2 q3 k0 k1 k2 k3 R6 x1 x2 x3 x4 x5 y1 y2 y3 y4 y5 v1 v2 v3 v4
  go_wp2
  refine tile_ret2 (g := w.heap.size + 1) (r := ⟨fnum, .slice (some ⟨w.heap.size + 3 + 1 + 1 + 1 + 1, 0, none⟩) 2 2, .slice (some ⟨w.heap.size + 3 + 1 + 1 + 1 + 1 + 1, 0, none⟩) 2 2, 1⟩) rfl rfl rfl ?_ ?_
  · exact hX.out
  · refine ⟨⟨fnum, .slice (some ⟨w.heap.size + 3 + 1 + 1 + 1 + 1, 0, none⟩) 2 2, .slice (some ⟨w.heap.size + 3 + 1 + 1 + 1 + 1 + 1, 0, none⟩) 2 2, 1⟩, rfl, (fun _ => ?_), hY.out, ⟨_, _, _, rfl⟩, ⟨_, _, _, rfl⟩⟩
    exact ⟨rfl, rfl, (hU.out.lower (by omega)).more (show W.heap.size ≤ (put4t w6 (w.heap.size + 1) ⟨fnum, .slice (some ⟨w.heap.size + 3 + 1 + 1 + 1 + 1, 0, none⟩) 2 2, .slice (some ⟨w.heap.size + 3 + 1 + 1 + 1 + 1 + 1, 0, none⟩) 2 2, 1⟩).heap.size by rw [size_put4t]; omega), (hV.out.lower (by omega)).more (show W.heap.size ≤ (put4t w6 (w.heap.size + 1) ⟨fnum, .slice (some ⟨w.heap.size + 3 + 1 + 1 + 1 + 1, 0, none⟩) 2 2, .slice (some ⟨w.heap.size + 3 + 1 + 1 + 1 + 1 + 1, 0, none⟩) 2 2, 1⟩).heap.size by rw [size_put4t]; omega)⟩
end Go.Proofs.Ytgcbfiamhpfkhaa

namespace Go.Proofs.Ytgcbfiamhpfkhaa
open Go.RowKit
set_option linter.unusedVariables false
theorem three_facts2 {w W : World} {o1 o2 o3 : Obj} {nq nr : Nat} (hW : ((((w.alloc o1).alloc o2).alloc o3).drewN nq).drewN nr = W) :
    W.heap.size = w.heap.size + 3 ∧ W.heap[w.heap.size]? = some o1 ∧ W.heap[w.heap.size + 1]? = some o2 ∧ Below w.heap.size w W := by
  subst hW
  have st := fun (V : World) (o : Obj) (B : Nat) (a : World) (h : Below B a V) (hB : B ≤ V.heap.size) => h.alloc hB o
  have sz : ∀ (V : World) (o : Obj), (V.alloc o).heap.size = V.heap.size + 1 := fun V o => World.size_alloc V o
  obtain ⟨V1, e1⟩ : ∃ V, V = w.alloc o1 := ⟨_, rfl⟩
  have z1 := sz w o1; have h1 := heap_alloc_new w o1; have b1 := st w o1 _ _ (Below.refl w.heap.size w) (Nat.le_refl _)
  rw [← e1] at z1 h1 b1 ⊢
  clear e1
  obtain ⟨V2, e2⟩ : ∃ V, V = V1.alloc o2 := ⟨_, rfl⟩
  have z2 := sz V1 o2; have h2 := heap_alloc_new V1 o2; have b2 := st V1 o2 _ _ (Below.refl V1.heap.size V1) (Nat.le_refl _)
  rw [← e2] at z2 h2 b2 ⊢
  clear e2
  have z3 : (((V2.alloc o3).drewN nq).drewN nr).heap.size = V2.heap.size + 1 := sz V2 o3
  have b3 := below_drewN (below_drewN (st V2 o3 _ _ (Below.refl V2.heap.size V2) (Nat.le_refl _)) nq) nr
  have n1 : V1.heap.size = w.heap.size + 1 := z1
  rw [n1] at h2
  refine ⟨by omega, ?_, ?_, ?_⟩
  · exact ((b3.block _ (by omega)).trans (b2.block _ (by omega))).trans h1
  · exact (b3.block _ (by omega)).trans h2
  · exact (b1.trans (b2.mono (by omega))).trans (b3.mono (by omega))
end Go.Proofs.Ytgcbfiamhpfkhaa

/- tileAt of the program, one of its paths. -/
namespace Go.Proofs.Ytgcbfiamhpfkhaa
open Go.RowKit
set_option linter.unusedVariables false

set_option maxHeartbeats 8000000 in
theorem tileAt_p4 (L LE BE : Nat) (f : Fo) (hf : f ∈ fos) (r : Rf) (A : Option Addr) (c : Nat) (es : List Nd) (k : Nat) (hk : k < es.length) (w : World) (hr : RfOk L f r w) (hes : NS w LE BE A es) (hB : BE ≤ w.heap.size) (hl : es.length ≤ 24) (hok : okFrom es 0 = true)
    (hh : hasS f.ops es[k].op = true) (hfst : f.fst = true) (hnb0 : noBtw f = false) (heq : ((nodeAt es (fTaken f es[k])).op.toList == f.btw.toList) = true) :
    Calls Try.prog 118 #[.agg #[.int .i64 r.num, r.o, .string r.btw, .bool r.fst, r.q], .slice A es.length c, .int .i64 (k : Int)] w (TileRes w (foOk es f es[k]) (foTi es f es[k])) := by
  obtain ⟨num, o, btw, fst, q⟩ := r
  obtain ⟨e1, e2, e3, ⟨OA, oc, e4, ho⟩, hq⟩ := hr
  dsimp only at e1 e2 e3 e4 hq ⊢
  have hws : f.ws.length ≤ 5 := by
    have : ∀ f ∈ fos, f.ws.length ≤ 5 := by decide
    exact this f hf
  have hops : f.ops.length ≤ 5 := by
    have : ∀ f ∈ fos, f.ops.length ≤ 5 := by decide
    exact this f hf
  have hTk := Lib.hid (fun s a b v W (hb : Below w.heap.size w W) => takes_any L f f.num (.slice OA f.ops.length oc) f.btw f.fst q s a b v W (hq.next hb) hws)
  obtain ⟨QA, qc, e5, hqi⟩ := hq
  subst e1 e2 e3 e4 e5
  obtain ⟨b0, o0, rfl, ⟨_, hbB⟩, hc⟩ := hes (by omega)
  have hbw : b0 < w.heap.size := by omega
  clear hbB hB hes
  have hN := ok_get hok hk
  obtain ⟨c1, c2, c3, c4⟩ := hc k hk
  have h2 : hasS f.ops es[k].op = true → isTwo es[k].op = true := two_of_has hf
  have hbd : isTwo es[k].op = true → 0 ≤ es[k].a ∧ es[k].a < (k : Int) ∧ 0 ≤ es[k].b ∧ es[k].b < (k : Int) := two_bd hN
  have hHS := Lib.hid (fun s W (hb : Below w.heap.size w W) => ContainsS_any L _ OA _ oc f.ops s W rfl (by omega) (RS.below ho hb (Nat.le_refl _)))
  have hB3 := fun o1 o2 o3 => Lib.hid ((((Below.refl w.heap.size w).alloc (Nat.le_refl _) o1).alloc (by simp) o2).alloc (by simp; omega) o3)
  have hFo : Hid (foOk es f es[k] = (hasS f.ops es[k].op && (if noBtw f = true then takes f (nodeAt es (fTaken f es[k])) else (nodeAt es (fTaken f es[k])).op.toList == f.btw.toList && takes f (nodeAt es (nodeAt es (fTaken f es[k])).b)))) := rfl
  rw [hh, Bool.true_and] at hFo
  obtain ⟨ha0, hak, hb0, hbk⟩ := hbd (h2 hh)
  obtain ⟨ja, hja⟩ : ∃ ja : Nat, es[k].a = (ja : Int) := ⟨es[k].a.toNat, by omega⟩
  obtain ⟨jb, hjb⟩ : ∃ jb : Nat, es[k].b = (jb : Int) := ⟨es[k].b.toNat, by omega⟩
  have hjak : ja < es.length := by omega
  have hjbk : jb < es.length := by omega
  have hTi : Hid (foTi es f es[k] = if noBtw f = true then ⟨f.num, [fPart f es[k]], [fTaken f es[k]], 1⟩ else ⟨f.num, [fPart f es[k], (nodeAt es (fTaken f es[k])).a], [(nodeAt es (fTaken f es[k])).b, fTaken f es[k]], 1⟩) := rfl
  have hbt := two_of_btw hf
  have hP : Hid (fPart f es[k] = if f.fst = true then es[k].b else es[k].a) := rfl
  have hQ : Hid (fTaken f es[k] = if f.fst = true then es[k].a else es[k].b) := rfl
  have hNb : Hid ((f.btw.toList == []) = false) := hnb0
  rw [hnb0] at hTi hFo
  simp only [Bool.false_eq_true, if_false] at hTi hFo
  rw [heq] at hFo
  simp only [Bool.true_and] at hFo
  generalize foOk es f es[k] = ok at *
  generalize foTi es f es[k] = ti at *
  obtain ⟨fnum, fops, fbtw, ffst, fws⟩ := f
  dsimp only at *
  subst hfst
  simp only [if_true] at hP hQ
  rw [hP.out, hQ.out, hja, hjb, nodeAt_nat hjak] at hTi
  rw [hQ.out, hja, nodeAt_nat hjak] at heq
  rw [hQ.out, hja, nodeAt_nat hjak] at hFo
  have hm2 : isTwo es[ja].op = true := by
    have e : es[ja].op.toList = fbtw.toList := by simpa using heq
    have h3 := hbt hnb0
    unfold isTwo at h3 ⊢
    rw [e]; exact h3
  obtain ⟨hma0, hmak, hmb0, hmbk⟩ := two_bd (ok_get hok hjak) hm2
  obtain ⟨jm, hjm⟩ : ∃ jm : Nat, es[ja].b = (jm : Int) := ⟨es[ja].b.toNat, by omega⟩
  have hjmk : jm < es.length := by omega
  rw [hjm, nodeAt_nat hjmk] at hFo
  rw [hjm] at hTi
  rw [hTi.out]
  obtain ⟨m1, m2, m3, m4⟩ := hc ja hjak
  rw [hjm] at m3
  obtain ⟨d1, d2, d3, d4⟩ := hc jm hjmk
  have hT1 := Lib.hid (fun W hb => hTk.out es[jm].op es[jm].a es[jm].b es[jm].v W hb)
  rw [show (⟨es[jm].op, es[jm].a, es[jm].b, es[jm].v⟩ : Nd) = es[jm] from rfl, ← hFo.out] at hT1
  have hnb : (fbtw.toList == []) = false := hNb.out
  clear hTk hTi hbt hP hQ hNb hN h2 hbd hc hnb0 hm2 hjm
  generalize es[jm] = mb at *
  obtain ⟨ms, ma, mbb, mv⟩ := mb
  dsimp only at d1 d2 d3 d4 hT1
  generalize es[ja] = md at *
  obtain ⟨mds, mda, mdb, mdv⟩ := md
  dsimp only at m1 m2 m3 m4 heq ⊢
  generalize es[k] = nd at *
  obtain ⟨s, a, b, v⟩ := nd
  dsimp only at hja hjb c1 c2 c3 c4 hh
  subst hja hjb
  go_enter Try.func118, Try.ntmps118
  go_wp2_with (go_at_call 161; refine (hHS.out _ _ (hB3 _ _ _).out).mono ?_; rw [hh]; rintro e w' ⟨rfl, rfl⟩)
  go_quiet (fail)
  go_wp2
  go_quiet (fail)
  generalize hV : World.drewN _ _ = V
  obtain ⟨vsz, f1, f2, hbV⟩ := three_facts2 hV
  clear hV hB3 hHS
  have F1 : CB 133 V w.heap.size [.int .i64 fnum, .slice OA fops.length oc, .string fbtw, .bool true, .slice QA fws.length qc] := f1
  have F2 : TX V (w.heap.size + 1) zeroRt := f2
  have x1 := F1.cell 0; have x2 := F1.cell 1; have x3 := F1.cell 2; have x4 := F1.cell 3; have x5 := F1.cell 4
  simp only [List.getElem?_cons_zero, List.getElem?_cons_succ] at x1 x2 x3 x4 x5
  obtain ⟨t1, t2, t3, t4⟩ := F2.cells
  obtain ⟨u1, u2, u3, u4⟩ := F2.fz
  have n1 := (hbV.cell (p := ⟨b0, o0 + ja * 4, none⟩) hbw).trans m1
  have n2 := (hbV.cell (p := ⟨b0, o0 + ja * 4 + 1, none⟩) hbw).trans m2
  have n3 := (hbV.cell (p := ⟨b0, o0 + ja * 4 + 2, none⟩) hbw).trans m3
  have n4 := (hbV.cell (p := ⟨b0, o0 + ja * 4 + 3, none⟩) hbw).trans m4
  have hF1 := Lib.hid F1
  have hF2 := Lib.hid F2
  have hbVh := Lib.hid hbV
  have vz := Lib.hid vsz
  have vb : b0 < V.heap.size := by omega
  have v0 : w.heap.size < V.heap.size := by omega
  have v1 : w.heap.size + 1 < V.heap.size := by omega
  have vb_1 : b0 < V.heap.size + 1 := by omega
  have vb_2 : b0 < V.heap.size + 1 + 1 := by omega
  have vb_3 : b0 < V.heap.size + 1 + 1 + 1 := by omega
  have vb_4 : b0 < V.heap.size + 1 + 1 + 1 + 1 := by omega
  have vb_5 : b0 < V.heap.size + 1 + 1 + 1 + 1 + 1 := by omega
  have vb_6 : b0 < V.heap.size + 1 + 1 + 1 + 1 + 1 + 1 := by omega
  have v0_1 : w.heap.size < V.heap.size + 1 := by omega
  have v0_2 : w.heap.size < V.heap.size + 1 + 1 := by omega
  have v0_3 : w.heap.size < V.heap.size + 1 + 1 + 1 := by omega
  have v0_4 : w.heap.size < V.heap.size + 1 + 1 + 1 + 1 := by omega
  have v0_5 : w.heap.size < V.heap.size + 1 + 1 + 1 + 1 + 1 := by omega
  have v0_6 : w.heap.size < V.heap.size + 1 + 1 + 1 + 1 + 1 + 1 := by omega
  have v1_1 : w.heap.size + 1 < V.heap.size + 1 := by omega
  have v1_2 : w.heap.size + 1 < V.heap.size + 1 + 1 := by omega
  have v1_3 : w.heap.size + 1 < V.heap.size + 1 + 1 + 1 := by omega
  have v1_4 : w.heap.size + 1 < V.heap.size + 1 + 1 + 1 + 1 := by omega
  have v1_5 : w.heap.size + 1 < V.heap.size + 1 + 1 + 1 + 1 + 1 := by omega
  have v1_6 : w.heap.size + 1 < V.heap.size + 1 + 1 + 1 + 1 + 1 + 1 := by omega
  clear F1 F2 f1 f2 hbV m1 m2 m3 m4 c1 c2 c3 c4 vsz
  go_wp2
  generalize hW : World.alloc _ _ = W
  obtain ⟨hsz, f3, f5, f6, hbW0⟩ := six_plain hW
  clear hW x1 x2 x3 x4 x5 t1 t2 t3 t4 u1 u2 u3 u4 n1 n2 n3 n4
  have F1 : CB 133 W w.heap.size [.int .i64 fnum, .slice OA fops.length oc, .string fbtw, .bool true, .slice QA fws.length qc] := CB.below hF1.out hbW0 v0
  have F2 : TX W (w.heap.size + 1) zeroRt := CB.below hF2.out hbW0 v1
  have hbW := hbVh.out.trans (hbW0.mono (by omega))
  have F5 : IB W (V.heap.size + 1 + 1 + 1 + 1 + 1) 3 [(jm : Int), (ja : Int)] := f6
  have G4 := Lib.hid (show OW W.drew (V.heap.size + 1 + 1 + 1 + 1) W.heap.size (.slice (some ⟨V.heap.size + 1 + 1 + 1 + 1, 0, none⟩) 2 2) [(jb : Int), mda] from OW.ofIB (show IB W (V.heap.size + 1 + 1 + 1 + 1) 3 [(jb : Int), mda] from f5) (by simp) (Nat.le_refl _) (by omega))
  have G5 := Lib.hid (show OW W.drew (V.heap.size + 1 + 1 + 1 + 1 + 1) W.heap.size (.slice (some ⟨V.heap.size + 1 + 1 + 1 + 1 + 1, 0, none⟩) 2 2) [(jm : Int), (ja : Int)] from OW.ofIB F5 (by simp) (Nat.le_refl _) (by omega))
  have F6 : TX W (V.heap.size + 1 + 1) ⟨fnum, .slice (some ⟨V.heap.size + 1 + 1 + 1 + 1, 0, none⟩) 2 2, .slice (some ⟨V.heap.size + 1 + 1 + 1 + 1 + 1, 0, none⟩) 2 2, 1⟩ := f3
  clear hbW0 hF1 hF2 hbVh
  generalize V.heap.size = n0 at *
  obtain rfl : n0 = w.heap.size + 3 := vz.out
  have x1 := F1.cell 0; have x2 := F1.cell 1; have x3 := F1.cell 2; have x4 := F1.cell 3; have x5 := F1.cell 4
  simp only [List.getElem?_cons_zero, List.getElem?_cons_succ] at x1 x2 x3 x4 x5
  obtain ⟨y1, y2, y3, y4⟩ := F6.cells
  dsimp only at y1 y2 y3 y4
  have y5 := F5.cell 0 (by simp)
  simp only [List.getElem_cons_zero] at y5
  have v1 := (hbW.cell (p := ⟨b0, o0 + jm * 4, none⟩) hbw).trans d1
  have v2 := (hbW.cell (p := ⟨b0, o0 + jm * 4 + 1, none⟩) hbw).trans d2
  have v3 := (hbW.cell (p := ⟨b0, o0 + jm * 4 + 2, none⟩) hbw).trans d3
  have v4 := (hbW.cell (p := ⟨b0, o0 + jm * 4 + 3, none⟩) hbw).trans d4
  have F2h := Lib.hid (show TX W.drew (w.heap.size + 1) zeroRt from F2)
  have zd : w.heap.size + 1 < W.drew.heap.size := by show w.heap.size + 1 < W.heap.size; omega
  have hbWh := Lib.hid hbW
  have z0 : w.heap.size < W.heap.size := by omega
  have z4 : w.heap.size + 3 + 1 + 1 + 1 + 1 + 1 < W.heap.size := by omega
  have z5 : w.heap.size + 3 + 1 + 1 < W.heap.size := by omega
  have zb : b0 < W.heap.size := by omega
  have ne1 : b0 ≠ w.heap.size + 1 := by omega
  have ne2 : w.heap.size + 1 ≠ b0 := by omega
  have ne3 : w.heap.size + 3 + 1 + 1 ≠ w.heap.size + 1 := by omega
  have ne4 : w.heap.size + 1 ≠ w.heap.size + 3 + 1 + 1 := by omega
  have ne5 : w.heap.size + 3 + 1 + 1 + 1 + 1 + 1 ≠ w.heap.size + 1 := by omega
  have ne6 : w.heap.size + 1 ≠ w.heap.size + 3 + 1 + 1 + 1 + 1 + 1 := by omega
  clear F2 F5 F6 F1 d1 d2 d3 d4
  go_region_held3 (fun w' => w'.cell? ⟨w.heap.size, 0, none⟩ = some (.int .i64 fnum) ∧ w'.cell? ⟨w.heap.size, 1, none⟩ = some (.slice OA fops.length oc) ∧ w'.cell? ⟨w.heap.size, 2, none⟩ = some (.string fbtw) ∧ w'.cell? ⟨w.heap.size, 3, none⟩ = some (.bool true) ∧ w'.cell? ⟨w.heap.size, 4, none⟩ = some (.slice QA fws.length qc) ∧
      w'.cell? ⟨w.heap.size + 3 + 1 + 1, 0, none⟩ = some (.int .i64 fnum) ∧ w'.cell? ⟨w.heap.size + 3 + 1 + 1, 1, none⟩ = some (.slice (some ⟨w.heap.size + 3 + 1 + 1 + 1 + 1, 0, none⟩) 2 2) ∧ w'.cell? ⟨w.heap.size + 3 + 1 + 1, 2, none⟩ = some (.slice (some ⟨w.heap.size + 3 + 1 + 1 + 1 + 1 + 1, 0, none⟩) 2 2) ∧ w'.cell? ⟨w.heap.size + 3 + 1 + 1, 3, none⟩ = some (.int .i64 1) ∧
      w'.cell? ⟨w.heap.size + 3 + 1 + 1 + 1 + 1 + 1, 0, none⟩ = some (.int .i64 (jm : Int)) ∧ w'.cell? ⟨b0, o0 + jm * 4, none⟩ = some (.string ms) ∧ w'.cell? ⟨b0, o0 + jm * 4 + 1, none⟩ = some (.int .i64 ma) ∧ w'.cell? ⟨b0, o0 + jm * 4 + 2, none⟩ = some (.int .i64 mbb) ∧ w'.cell? ⟨b0, o0 + jm * 4 + 3, none⟩ = some (.int .i64 mv))
    (first | exact ⟨x1, x2, x3, x4, x5, y1, y2, y3, y4, y5, v1, v2, v3, v4⟩ | exact ⟨(hb6.cell z0).trans x1, (hb6.cell z0).trans x2, (hb6.cell z0).trans x3, (hb6.cell z0).trans x4, (hb6.cell z0).trans x5, (hb6.cell z5).trans y1, (hb6.cell z5).trans y2, (hb6.cell z5).trans y3, (hb6.cell z5).trans y4, (hb6.cell z4).trans y5, (hb6.cell zb).trans v1, (hb6.cell zb).trans v2, (hb6.cell zb).trans v3, (hb6.cell zb).trans v4⟩ | go_keep)
    ((go_at_call 162; (with_reducible refine (hT1.out _ ?_).mono ?_); exact hbWh.out.drew; rintro e w6 ⟨rfl, hb6⟩; have R6 : TX w6 (w.heap.size + 1) zeroRt := CB.below F2h.out hb6 zd; have q0 := R6.cells.1; have q1 := R6.cells.2.1; have q2 := R6.cells.2.2.1; have q3 := R6.cells.2.2.2; have k0 := R6.fz.1; have k1 := R6.fz.2.1; have k2 := R6.fz.2.2.1; have k3 := R6.fz.2.2.2))
  have zW : W.drew.heap.size = W.heap.size := rfl
  have hz6 := hb6.size
  have hX := Lib.hid (R6.put ⟨fnum, .slice (some ⟨w.heap.size + 3 + 1 + 1 + 1 + 1, 0, none⟩) 2 2, .slice (some ⟨w.heap.size + 3 + 1 + 1 + 1 + 1 + 1, 0, none⟩) 2 2, 1⟩)
  have hY := Lib.hid (below_put4t (g := w.heap.size + 1) (hbWh.out.drew.trans (hb6.mono (by omega))) (by omega) ⟨fnum, .slice (some ⟨w.heap.size + 3 + 1 + 1 + 1 + 1, 0, none⟩) 2 2, .slice (some ⟨w.heap.size + 3 + 1 + 1 + 1 + 1 + 1, 0, none⟩) 2 2, 1⟩)
  have hU := Lib.hid ((((G4.out : OW W.drew _ _ _ _).below hb6 (by omega)).put4t (g := w.heap.size + 1) (by omega) ⟨fnum, .slice (some ⟨w.heap.size + 3 + 1 + 1 + 1 + 1, 0, none⟩) 2 2, .slice (some ⟨w.heap.size + 3 + 1 + 1 + 1 + 1 + 1, 0, none⟩) 2 2, 1⟩))
  have hV := Lib.hid ((((G5.out : OW W.drew _ _ _ _).below hb6 (by omega)).put4t (g := w.heap.size + 1) (by omega) ⟨fnum, .slice (some ⟨w.heap.size + 3 + 1 + 1 + 1 + 1, 0, none⟩) 2 2, .slice (some ⟨w.heap.size + 3 + 1 + 1 + 1 + 1 + 1, 0, none⟩) 2 2, 1⟩))
  clear q0 q1 q2 q3 k0 k1 k2 k3 R6 x1 x2 x3 x4 x5 y1 y2 y3 y4 y5 v1 v2 v3 v4
  go_wp2
  refine tile_ret2 (g := w.heap.size + 1) (r := ⟨fnum, .slice (some ⟨w.heap.size + 3 + 1 + 1 + 1 + 1, 0, none⟩) 2 2, .slice (some ⟨w.heap.size + 3 + 1 + 1 + 1 + 1 + 1, 0, none⟩) 2 2, 1⟩) rfl rfl rfl ?_ ?_
  · exact hX.out
  · refine ⟨⟨fnum, .slice (some ⟨w.heap.size + 3 + 1 + 1 + 1 + 1, 0, none⟩) 2 2, .slice (some ⟨w.heap.size + 3 + 1 + 1 + 1 + 1 + 1, 0, none⟩) 2 2, 1⟩, rfl, (fun _ => ?_), hY.out, ⟨_, _, _, rfl⟩, ⟨_, _, _, rfl⟩⟩
    exact ⟨rfl, rfl, (hU.out.lower (by omega)).more (show W.heap.size ≤ (put4t w6 (w.heap.size + 1) ⟨fnum, .slice (some ⟨w.heap.size + 3 + 1 + 1 + 1 + 1, 0, none⟩) 2 2, .slice (some ⟨w.heap.size + 3 + 1 + 1 + 1 + 1 + 1, 0, none⟩) 2 2, 1⟩).heap.size by rw [size_put4t]; omega), (hV.out.lower (by omega)).more (show W.heap.size ≤ (put4t w6 (w.heap.size + 1) ⟨fnum, .slice (some ⟨w.heap.size + 3 + 1 + 1 + 1 + 1, 0, none⟩) 2 2, .slice (some ⟨w.heap.size + 3 + 1 + 1 + 1 + 1 + 1, 0, none⟩) 2 2, 1⟩).heap.size by rw [size_put4t]; omega)⟩
end Go.Proofs.Ytgcbfiamhpfkhaa
