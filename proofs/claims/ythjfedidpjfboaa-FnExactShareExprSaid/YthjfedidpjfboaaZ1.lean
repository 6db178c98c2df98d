/- Texts of this proof, one behind the other: UH, MI2, KInstr, KMInstr, OC, ON. -/
import Derived.Test.YthjfedidpjfboaaZ2
import Derived.WalkKit
import Derived.WalkSpells
import Derived.WalkLawsBesides
import Derived.Lib.Hide
import Derived.Test.YthjfedidpjfboaaMI
import Derived.Test.YthjfedidpjfboaaRows
import Derived.Test.YthjfedidpjfboaaV2
import Derived.Laws.MakeOwn
import Derived.StillTailTactics
import Derived.Deep.QuietTactic
import Derived.BigQuiet
import Derived.Test.YthjfedidpjfboaaLT
import Derived.Test.YthjfedidpjfboaaLI
import Derived.Deep.RegionHeld3
import Derived.ProofKit
import Derived.OpenShut
import Derived.ShutString
import Derived.ChangeOld
import Derived.Below
import Derived.Deep.Slices
import Derived.Deep.Fields
import Derived.Test.YthjfedidpjfboaaKMNode
/- ShareExpr: the model. -/
namespace Go.Proofs.Ythjfedidpjfboaa
open Go.RowKit
set_option linter.unusedVariables false
set_option maxRecDepth 100000

def negFill (k n : Nat) : List Int := List.replicate k (-1) ++ zeros (n - k)
theorem neg_fill_zero (n : Nat) : negFill 0 n = zeros n := by simp [negFill]
theorem neg_fill_end (n : Nat) : negFill n n = List.replicate n (-1) := by simp [negFill, zeros]
theorem neg_fill_len {k n : Nat} (h : k ≤ n) : (negFill k n).length = n := by simp [negFill, zeros]; omega
theorem neg_fill_set {k n : Nat} (h : k < n) : (negFill k n).set k (-1) = negFill (k + 1) n := by
  unfold negFill zeros
  rw [List.set_append_right _ _ (by simp)]
  obtain ⟨m, hm⟩ : ∃ m, n - k = m + 1 := ⟨n - k - 1, by omega⟩
  have h2 : n - (k + 1) = m := by omega
  rw [hm, h2, List.replicate_succ' (n := k), List.append_assoc]
  simp [List.replicate_succ]

set_option maxHeartbeats 2000000 in
theorem once_tail (L B q d : Nat) (A : Option Addr) (c m : Nat) (es : List Nd) (w W3 : World) (hl24 : es.length ≤ 24) (hm : es.length = m + 1) (hg : good es = true) (hes : NS w L B A es) (hB : B ≤ w.heap.size) (hb : Below w.heap.size w W3) (hq : w.heap.size ≤ q) (hd : w.heap.size ≤ d) (hqd : q ≠ d) (hdl : d < W3.heap.size)
    (hx : W3.heap[q]? = some (.cells #[.slice none 0 0, .bool true] 148 (0, 0))) (hi : IB W3 d 3 (List.replicate es.length (-1))) :
    Calls Try.prog 140 #[.pointer (some ⟨q, 0, none⟩), .slice A es.length c, .int .i64 m, .slice (some ⟨d, 0, none⟩) es.length es.length] W3 fun e w' => (∃ r : Int, e = .returned (.int .i64 r)) ∧ Below w.heap.size w w' ∧ ∃ v', GS 148 [] q W3.heap.size (shareR es) true v' w' := by
  obtain ⟨hl1, _, hok⟩ := good_len hg
  have hS : OnSt q d W3.heap.size ([], List.replicate es.length (-1)) (.slice none 0 0) W3 :=
    ⟨⟨hx, World.ownsRow_nil _ _ _ _, fun e => by simp [Value.ownBlock] at e⟩, hi⟩
  have hW := once_any L B q d W3.heap.size w.heap.size A c es W3 hl24 hok (hes.below hb hB) hB hb.size hq hd hb.size (Nat.le_refl _) hqd hdl es.length m ([], List.replicate es.length (-1)) (.slice none 0 0) W3 (by omega) (by omega) (inv_start _) (Below.mono (Below.refl W3.heap.size W3) hb.size) hS
  refine hW.mono ?_
  rintro e w' ⟨rfl, v', ⟨s1, s2⟩, f, o⟩
  refine ⟨⟨_, rfl⟩, hb.trans (f.below hb.size (by rintro j (rfl | rfl) <;> assumption) (fun j hj => by simp [Value.ownBlock] at hj)), v', ?_⟩
  have : shareR es = (on es es.length m ([], List.replicate es.length (-1))).1.1 := by unfold shareR shareL; rw [if_pos hg, show es.length - 1 = m by omega]
  rw [this]; exact s1

set_option maxHeartbeats 4000000 in
theorem exShare_any (L B : Nat) (A : Option Addr) (c : Nat) (es : List Nd) (w : World) (hg : good es = true) (hes : NS w L B A es) (hB : B ≤ w.heap.size) :
    Calls Try.prog 72 #[.slice A es.length c] w fun e w' => ∃ (A' : Option Addr) (c' : Nat), e = .returned (.slice A' (shareR es).length c') ∧ OK Nd.enc 4 79 w' w.heap.size w'.heap.size (.slice A' (shareR es).length c') (shareR es) ∧ Below w.heap.size w w' := by
  obtain ⟨hl1, hl24, hok⟩ := good_len hg
  have hE := Lib.hid hes
  have hG := Lib.hid hg
  clear hg hes hok
  obtain ⟨m, hm⟩ : ∃ m, es.length = m + 1 := ⟨es.length - 1, by omega⟩
  have hM := Lib.hid hm
  have hmi : (es.length : Int) - 1 = (m : Int) := by omega
  have hMI := Lib.hid hmi
  clear hm hmi
  have hmk := run_make_ints es.length (by omega)
  obtain ⟨W1, hW1⟩ : ∃ W1, W1 = w.alloc (.cells #[.slice none 0 0, .bool true] 148) := ⟨_, rfl⟩
  obtain ⟨W2, hW2⟩ : ∃ W2, W2 = W1.alloc (.cells (intCells (zeros es.length)) 3) := ⟨_, rfl⟩
  have z1 : W1.heap.size = w.heap.size + 1 := by rw [hW1]; simp
  have z2 : W2.heap.size = w.heap.size + 2 := by rw [hW2]; simp [z1]
  have b1 : Below w.heap.size w W1 := by rw [hW1]; exact (Below.refl _ _).alloc (Nat.le_refl _) _
  have a2 : Below W1.heap.size W1 W2 := by rw [hW2]; exact (Below.refl _ _).alloc (Nat.le_refl _) _
  have i2 : Hid (IB W2 (w.heap.size + 1) 3 (negFill 0 es.length)) := by
    unfold Hid; rw [neg_fill_zero, ← z1, hW2]; exact heap_alloc_new W1 _
  have x1 : W1.heap[w.heap.size]? = some (.cells #[.slice none 0 0, .bool true] 148 (0, 0)) := by rw [hW1]; exact heap_alloc_new w _
  have x2 := Lib.hid ((a2.block _ (by omega)).trans x1)
  have B2 := Lib.hid (b1.trans (a2.mono b1.size))
  have e2 := Lib.hid hW2
  have e1 := Lib.hid hW1
  clear x1 b1 a2 hW1 hW2
  go_enter Try.func72, Try.ntmps72
  go_wp2
  rw [← e1.out, ← e2.out]
  go_loopw [5, 13] (fun _ i wr => ∃ k : Nat, k ≤ es.length ∧ i = .int .i64 k ∧ IB wr (w.heap.size + 1) 3 (negFill k es.length) ∧ wr.heap[w.heap.size]? = some (.cells #[.slice none 0 0, .bool true] 148 (0, 0)) ∧ w.heap.size + 2 ≤ wr.heap.size ∧ Below w.heap.size w wr) (fun _ i _ => es.length - (intOf i).toNat)
  case atStart => exact ⟨0, Nat.zero_le _, rfl, i2.out, x2.out, by omega, B2.out⟩
  case round =>
    obtain ⟨j, hj, rfl, hi, hx, hz, hb⟩ := hrel
    have I := Lib.hid hi
    have X := Lib.hid hx
    have Bb := Lib.hid hb
    clear hi hx hb
    by_cases hlt : j < es.length
    · have k0 : (0 : Int) ≤ (j : Int) := by omega
      have k1 : (j : Int) < (es.length : Int) := by omega
      have s1 := I.out.cell j (by rw [neg_fill_len hj]; exact hlt)
      have s2 := I.out.frozen j
      go_wp2
      go_roundw
      case rel =>
        refine ⟨j + 1, by omega, by go_num, ?_, ?_, ?_, ?_⟩
        · rw [← neg_fill_set hlt]; exact I.out.set j _
        · exact (Below.heap_setCell wr ⟨w.heap.size + 1, j, none⟩ _ w.heap.size (by simp)).trans X.out
        · simp [World.setCell]; omega
        · exact Bb.out.setCell (p := ⟨w.heap.size + 1, j, none⟩) (by simp) _
      case measure => simp [intOf]; omega
    · obtain rfl : j = es.length := by omega
      have hT := Lib.hid (once_tail L B w.heap.size (w.heap.size + 1) A c m es w wr hl24 hM.out hG.out hE.out hB Bb.out (Nat.le_refl _) (by omega) (by omega) (by omega) X.out (by rw [← neg_fill_end]; exact I.out))
      go_wp2_with (fail)
      rw [hMI.out]
      refine hT.out.mono ?_
      rintro e w4 ⟨⟨r, rfl⟩, hb4, v', g4⟩
      have G4 := Lib.hid g4
      have B4 := Lib.hid hb4
      clear g4 hb4
      obtain ⟨A5, c5, rfl⟩ := G4.out.form
      have q0 := G4.out.c0
      go_wp2
      go_ret
      exact ⟨A5, c5, rfl, G4.out.ok.lower (by omega), B4.out⟩

set_option maxHeartbeats 2000000 in
theorem sShareExpr_any (L B : Nat) (A : Option Addr) (c : Nat) (es : List Nd) (w : World) (hl : es.length ≤ 1048576) (hes : NS w L B A es) (hB : B ≤ w.heap.size) :
    Calls Try.prog 19 #[.slice A es.length c] w (ResShareExpr (shareR es) (good es) w) := by
  have H := Lib.hid (exGood_any L B A c es w hl hes hB)
  cases hg : good es
  · have hR : Hid (shareR es = []) := by simp [Hid, shareR, hg]
    rw [hg] at H
    clear hg hes
    go_enter Try.func19, Try.ntmps19
    go_wp2_with (fail)
    refine H.out.mono ?_
    rintro e w2 ⟨rfl, hb⟩
    have hbb := Lib.hid hb
    clear hb
    go_wp2_with (fail)
    go_ret2
    rw [hR.out]
    exact ⟨none, 0, rfl, OK.nil _ _ _ _, hbb.out⟩
  · have hE := Lib.hid hes
    have hG := Lib.hid hg
    rw [hg] at H
    clear hg hes
    go_enter Try.func19, Try.ntmps19
    go_wp2_with (fail)
    refine H.out.mono ?_
    rintro e w2 ⟨rfl, hb⟩
    have hb2 := Lib.hid hb
    clear hb
    go_wp2_with (fail)
    refine (exShare_any L B A c es w2 hG.out (hE.out.below hb2.out hB) (Nat.le_trans hB hb2.out.size)).mono ?_
    rintro e w3 ⟨A3, c3, rfl, ho, hb⟩
    have hO := Lib.hid ho
    have hb3 := Lib.hid (hb2.out.trans (hb.mono hb2.out.size))
    have z2 := hb2.out.size
    clear ho hb
    go_wp2_with (fail)
    go_ret2
    exact ⟨A3, c3, rfl, hO.out.lower z2, hb3.out⟩
theorem sShareExpr_k (L B : Nat) (A : Option Addr) (c : Nat) (es : List Nd) (w : World) (hl : es.length ≤ 1048576) (hes : RS Nd.enc 4 w L B A es) (hB : B ≤ w.heap.size) :
    Calls Try.prog 19 #[.slice A es.length c] w (ResShareExpr (shareR es) (good es) w) := sShareExpr_any L B A c es w hl hes.ns hB
end Go.Proofs.Ythjfedidpjfboaa

/- Cases of ops of the machine. No program. -/
namespace Go.Proofs.Ythjfedidpjfboaa
open Go.RowKit
set_option linter.unusedVariables false
set_option maxRecDepth 10000
theorem cop_cases (s : ByteArray) : s.toList = [115,101,116] ∨ s.toList = [109,111,118] ∨ s.toList = [110,111,116] ∨ s.toList = [110,101,103] ∨ s.toList = [97,100,100] ∨ s.toList = [115,117,98] ∨ s.toList = [97,110,100] ∨ s.toList = [111,114] ∨ s.toList = [120,111,114] ∨ s.toList = [108,101,115,115] ∨ s.toList = [101,113] ∨ s.toList = [115,104,108] ∨ s.toList = [115,104,114] ∨ s.toList = [109,117,108] ∨ s.toList = [97,100,100,105] ∨ s.toList = [97,110,100,105] ∨ s.toList = [120,111,114,105] ∨ s.toList = [115,104,108,105] ∨ s.toList = [115,104,114,105] ∨ s.toList = [108,101,97] ∨ ((s.toList == [115,101,116]) = false ∧ (s.toList == [109,111,118]) = false ∧ (s.toList == [110,111,116]) = false ∧ (s.toList == [110,101,103]) = false ∧ (s.toList == [97,100,100]) = false ∧ (s.toList == [115,117,98]) = false ∧ (s.toList == [97,110,100]) = false ∧ (s.toList == [111,114]) = false ∧ (s.toList == [120,111,114]) = false ∧ (s.toList == [108,101,115,115]) = false ∧ (s.toList == [101,113]) = false ∧ (s.toList == [115,104,108]) = false ∧ (s.toList == [115,104,114]) = false ∧ (s.toList == [109,117,108]) = false ∧ (s.toList == [97,100,100,105]) = false ∧ (s.toList == [97,110,100,105]) = false ∧ (s.toList == [120,111,114,105]) = false ∧ (s.toList == [115,104,108,105]) = false ∧ (s.toList == [115,104,114,105]) = false ∧ (s.toList == [108,101,97]) = false) := by
  by_cases h0 : s.toList = [115,101,116]; · exact .inl h0
  by_cases h1 : s.toList = [109,111,118]; · exact .inr (.inl h1)
  by_cases h2 : s.toList = [110,111,116]; · exact .inr (.inr (.inl h2))
  by_cases h3 : s.toList = [110,101,103]; · exact .inr (.inr (.inr (.inl h3)))
  by_cases h4 : s.toList = [97,100,100]; · exact .inr (.inr (.inr (.inr (.inl h4))))
  by_cases h5 : s.toList = [115,117,98]; · exact .inr (.inr (.inr (.inr (.inr (.inl h5)))))
  by_cases h6 : s.toList = [97,110,100]; · exact .inr (.inr (.inr (.inr (.inr (.inr (.inl h6))))))
  by_cases h7 : s.toList = [111,114]; · exact .inr (.inr (.inr (.inr (.inr (.inr (.inr (.inl h7)))))))
  by_cases h8 : s.toList = [120,111,114]; · exact .inr (.inr (.inr (.inr (.inr (.inr (.inr (.inr (.inl h8))))))))
  by_cases h9 : s.toList = [108,101,115,115]; · exact .inr (.inr (.inr (.inr (.inr (.inr (.inr (.inr (.inr (.inl h9)))))))))
  by_cases h10 : s.toList = [101,113]; · exact .inr (.inr (.inr (.inr (.inr (.inr (.inr (.inr (.inr (.inr (.inl h10))))))))))
  by_cases h11 : s.toList = [115,104,108]; · exact .inr (.inr (.inr (.inr (.inr (.inr (.inr (.inr (.inr (.inr (.inr (.inl h11)))))))))))
  by_cases h12 : s.toList = [115,104,114]; · exact .inr (.inr (.inr (.inr (.inr (.inr (.inr (.inr (.inr (.inr (.inr (.inr (.inl h12))))))))))))
  by_cases h13 : s.toList = [109,117,108]; · exact .inr (.inr (.inr (.inr (.inr (.inr (.inr (.inr (.inr (.inr (.inr (.inr (.inr (.inl h13)))))))))))))
  by_cases h14 : s.toList = [97,100,100,105]; · exact .inr (.inr (.inr (.inr (.inr (.inr (.inr (.inr (.inr (.inr (.inr (.inr (.inr (.inr (.inl h14))))))))))))))
  by_cases h15 : s.toList = [97,110,100,105]; · exact .inr (.inr (.inr (.inr (.inr (.inr (.inr (.inr (.inr (.inr (.inr (.inr (.inr (.inr (.inr (.inl h15)))))))))))))))
  by_cases h16 : s.toList = [120,111,114,105]; · exact .inr (.inr (.inr (.inr (.inr (.inr (.inr (.inr (.inr (.inr (.inr (.inr (.inr (.inr (.inr (.inr (.inl h16))))))))))))))))
  by_cases h17 : s.toList = [115,104,108,105]; · exact .inr (.inr (.inr (.inr (.inr (.inr (.inr (.inr (.inr (.inr (.inr (.inr (.inr (.inr (.inr (.inr (.inr (.inl h17)))))))))))))))))
  by_cases h18 : s.toList = [115,104,114,105]; · exact .inr (.inr (.inr (.inr (.inr (.inr (.inr (.inr (.inr (.inr (.inr (.inr (.inr (.inr (.inr (.inr (.inr (.inr (.inl h18))))))))))))))))))
  by_cases h19 : s.toList = [108,101,97]; · exact .inr (.inr (.inr (.inr (.inr (.inr (.inr (.inr (.inr (.inr (.inr (.inr (.inr (.inr (.inr (.inr (.inr (.inr (.inr (.inl h19)))))))))))))))))))
  exact .inr (.inr (.inr (.inr (.inr (.inr (.inr (.inr (.inr (.inr (.inr (.inr (.inr (.inr (.inr (.inr (.inr (.inr (.inr (.inr (by simp [*]))))))))))))))))))))
theorem fm_set {s : ByteArray} (h : s.toList = [115,101,116]) : fm s = ⟨true, false, false, 0, 63, 1⟩ := by simp [fm, h]
theorem fm_mov {s : ByteArray} (h : s.toList = [109,111,118]) : fm s = ⟨true, true, false, 0, 0, 1⟩ := by simp [fm, h]
theorem fm_not {s : ByteArray} (h : s.toList = [110,111,116]) : fm s = ⟨true, true, false, 0, 0, 1⟩ := by simp [fm, h]
theorem fm_neg {s : ByteArray} (h : s.toList = [110,101,103]) : fm s = ⟨true, true, false, 0, 0, 1⟩ := by simp [fm, h]
theorem fm_add {s : ByteArray} (h : s.toList = [97,100,100]) : fm s = ⟨true, true, true, 0, 0, 1⟩ := by simp [fm, h]
theorem fm_sub {s : ByteArray} (h : s.toList = [115,117,98]) : fm s = ⟨true, true, true, 0, 0, 1⟩ := by simp [fm, h]
theorem fm_and {s : ByteArray} (h : s.toList = [97,110,100]) : fm s = ⟨true, true, true, 0, 0, 1⟩ := by simp [fm, h]
theorem fm_or {s : ByteArray} (h : s.toList = [111,114]) : fm s = ⟨true, true, true, 0, 0, 1⟩ := by simp [fm, h]
theorem fm_xor {s : ByteArray} (h : s.toList = [120,111,114]) : fm s = ⟨true, true, true, 0, 0, 1⟩ := by simp [fm, h]
theorem fm_less {s : ByteArray} (h : s.toList = [108,101,115,115]) : fm s = ⟨true, true, true, 0, 0, 1⟩ := by simp [fm, h]
theorem fm_eq {s : ByteArray} (h : s.toList = [101,113]) : fm s = ⟨true, true, true, 0, 0, 1⟩ := by simp [fm, h]
theorem fm_shl {s : ByteArray} (h : s.toList = [115,104,108]) : fm s = ⟨true, true, true, 0, 0, 2⟩ := by simp [fm, h]
theorem fm_shr {s : ByteArray} (h : s.toList = [115,104,114]) : fm s = ⟨true, true, true, 0, 0, 2⟩ := by simp [fm, h]
theorem fm_mul {s : ByteArray} (h : s.toList = [109,117,108]) : fm s = ⟨true, true, true, 0, 0, 4⟩ := by simp [fm, h]
theorem fm_addi {s : ByteArray} (h : s.toList = [97,100,100,105]) : fm s = ⟨true, true, false, 0, 63, 1⟩ := by simp [fm, h]
theorem fm_andi {s : ByteArray} (h : s.toList = [97,110,100,105]) : fm s = ⟨true, true, false, 0, 63, 1⟩ := by simp [fm, h]
theorem fm_xori {s : ByteArray} (h : s.toList = [120,111,114,105]) : fm s = ⟨true, true, false, 0, 63, 1⟩ := by simp [fm, h]
theorem fm_shli {s : ByteArray} (h : s.toList = [115,104,108,105]) : fm s = ⟨true, true, false, 1, 5, 1⟩ := by simp [fm, h]
theorem fm_shri {s : ByteArray} (h : s.toList = [115,104,114,105]) : fm s = ⟨true, true, false, 1, 5, 1⟩ := by simp [fm, h]
theorem fm_lea {s : ByteArray} (h : s.toList = [108,101,97]) : fm s = ⟨true, true, true, 1, 3, 1⟩ := by simp [fm, h]
theorem fm_no {s : ByteArray} (h : (s.toList == [115,101,116]) = false ∧ (s.toList == [109,111,118]) = false ∧ (s.toList == [110,111,116]) = false ∧ (s.toList == [110,101,103]) = false ∧ (s.toList == [97,100,100]) = false ∧ (s.toList == [115,117,98]) = false ∧ (s.toList == [97,110,100]) = false ∧ (s.toList == [111,114]) = false ∧ (s.toList == [120,111,114]) = false ∧ (s.toList == [108,101,115,115]) = false ∧ (s.toList == [101,113]) = false ∧ (s.toList == [115,104,108]) = false ∧ (s.toList == [115,104,114]) = false ∧ (s.toList == [109,117,108]) = false ∧ (s.toList == [97,100,100,105]) = false ∧ (s.toList == [97,110,100,105]) = false ∧ (s.toList == [120,111,114,105]) = false ∧ (s.toList == [115,104,108,105]) = false ∧ (s.toList == [115,104,114,105]) = false ∧ (s.toList == [108,101,97]) = false) : fm s = ⟨false, false, false, 0, 0, 0⟩ := by
  simp only [beq_eq_false_iff_ne] at h
  simp [fm, h]
end Go.Proofs.Ythjfedidpjfboaa

/- Slices of Instr: what the laws do with them. -/
namespace Go.Proofs.Ythjfedidpjfboaa
open Go.RowKit
set_option linter.unusedVariables false

theorem In.hk : ∀ x : In, (In.enc x).length = 5 := fun _ => rfl
theorem In.cells {w : World} {lo hi : Nat} {A : Option Addr} {es : List In} (h : RS In.enc 5 w lo hi A es) (hn : 0 < es.length) : ∃ b o, A = some ⟨b, o, none⟩ ∧ (lo ≤ b ∧ b < hi) ∧ ∀ i (h : i < es.length),
    w.cell? ⟨b, o + i * 5, none⟩ = some (.string es[i].op) ∧ w.cell? ⟨b, o + i * 5 + 1, none⟩ = some (.int .i64 es[i].d) ∧ w.cell? ⟨b, o + i * 5 + 2, none⟩ = some (.int .i64 es[i].a) ∧ w.cell? ⟨b, o + i * 5 + 3, none⟩ = some (.int .i64 es[i].b) ∧ w.cell? ⟨b, o + i * 5 + 4, none⟩ = some (.int .i64 es[i].m) := by
  obtain ⟨b, o, e, hb, hc⟩ := h hn
  exact ⟨b, o, e, hb, fun i hi => ⟨hc i hi 0 _ rfl, hc i hi 1 _ rfl, hc i hi 2 _ rfl, hc i hi 3 _ rfl, hc i hi 4 _ rfl⟩⟩
theorem In.cellsB {t : TypeId} {w : World} {g : Nat} {es : List In} {rest : List Value} (h : CB t w g (es.flatMap In.enc ++ rest)) (i : Nat) (hi : i < es.length) :
    ∃ z0 z1 z2 z3 z4, w.cell? ⟨g, i * 5, none⟩ = some (.string z0) ∧ w.cell? ⟨g, i * 5 + 1, none⟩ = some (.int .i64 z1) ∧ w.cell? ⟨g, i * 5 + 2, none⟩ = some (.int .i64 z2) ∧ w.cell? ⟨g, i * 5 + 3, none⟩ = some (.int .i64 z3) ∧ w.cell? ⟨g, i * 5 + 4, none⟩ = some (.int .i64 z4) :=
  ⟨_, _, _, _, _, h.at In.hk i hi 0 _ rfl, h.at In.hk i hi 1 _ rfl, h.at In.hk i hi 2 _ rfl, h.at In.hk i hi 3 _ rfl, h.at In.hk i hi 4 _ rfl⟩


def SzInstr (w : World) (left : Int) (n : Nat) (e : Ending) (w' : World) : Prop := ∃ r : Int, e = .returned (.int .i64 r) ∧ r ≤ left ∧ (0 ≤ r → (n : Int) ≤ left) ∧ -1 ≤ r ∧ Below w.heap.size w w'
theorem szInstr_any (op : ByteArray) (d : Int) (a : Int) (b : Int) (m : Int) (left : Int) (w : World) (hs : op.size ≤ 9223372036854775807) (h0 : 0 ≤ left) (h1 : left ≤ 1048576) :
    Calls Try.prog 78 #[.agg #[.string op, .int .i64 d, .int .i64 a, .int .i64 b, .int .i64 m], .int .i64 left] w (SzInstr w left 0) := by
  have hB := (Below.refl w.heap.size w).alloc (Nat.le_refl _)
  by_cases h : (op.size : Int) ≤ left
  · go_enter Try.func78, Try.ntmps78
    go_wp2
    go_ret
    exact ⟨left - op.size, rfl, by omega, fun _ => by omega, by omega, hB _⟩
  · go_enter Try.func78, Try.ntmps78
    go_wp2
    go_ret
    exact ⟨-1, rfl, by omega, fun _ => by omega, by omega, hB _⟩


theorem szInstrS_any (L B : Nat) (A : Option Addr) (c : Nat) (es : List In) (left0 : Int) (w : World) (hl : es.length ≤ 9223372036854775807) (hes : RS In.enc 5 w L B A es) (hB : B ≤ w.heap.size) (hs : ∀ n ∈ es, n.op.size ≤ 9223372036854775807) (h0 : 0 ≤ left0) (h1 : left0 ≤ 1048576) :
    Calls Try.prog 25 #[.slice A es.length c, .int .i64 left0] w (SzInstr w left0 es.length) := by
  have hE := Lib.hid hes
  have hS := Lib.hid hs
  have hBB := Lib.hid hB
  have hBel0 := Lib.hid (Below.refl w.heap.size w)
  clear hes hs hB
  by_cases h : (es.length : Int) ≤ left0
  · go_enter Try.func25, Try.ntmps25
    go_wp2
    go_loopw [1, 5] (fun l i wr => ∃ (k : Nat) (left : Int), k ≤ es.length ∧ i = .int .i64 k ∧ l = .int .i64 left ∧ 0 ≤ left ∧ left ≤ left0 ∧ Below w.heap.size w wr) (fun _ i _ => es.length - (intOf i).toNat)
    case atStart => exact ⟨0, left0 - es.length, Nat.zero_le _, rfl, rfl, by omega, by omega, hBel0.out⟩
    case round =>
      obtain ⟨k, left, hk, rfl, rfl, hl0, hl1, hbel⟩ := hrel
      by_cases hlt : k < es.length
      · obtain ⟨b, o, rfl, ⟨_, hbB⟩, hc⟩ := In.cells (hE.out.below hbel hBB.out) (by omega)
        obtain ⟨c1, c2, c3, c4, c5⟩ := hc k hlt
        clear hc
        have hsz := hS.out _ (List.getElem_mem hlt)
        generalize es[k] = nd at *
        obtain ⟨op, d, a, bb, m⟩ := nd
        have hBelB := Lib.hid hbel
        go_wp2_with (fail)
        refine (szInstr_any _ _ _ _ _ _ _ hsz hl0 (by omega)).mono ?_
        rintro e w2 ⟨r, rfl, hr1, _, hr3, hb2⟩
        have hbel2 : Below w.heap.size w w2 := hBelB.out.trans (hb2.mono hBelB.out.size)
        clear hb2 hbel c1 c2 c3 c4 c5
        by_cases hr : 0 ≤ r
        · go_wp2
          go_roundw
          case rel => exact ⟨k + 1, r, by omega, by go_num, rfl, hr, by omega, hbel2⟩
          case measure => simp [intOf]; omega
        · go_wp2
          go_ret
          exact ⟨-1, rfl, by omega, fun _ => by omega, by omega, hbel2⟩
      · obtain rfl : k = es.length := by omega
        go_wp2
        go_ret
        exact ⟨left, rfl, by omega, fun _ => h, by omega, hbel⟩
  · go_enter Try.func25, Try.ntmps25
    go_wp2
    go_ret
    exact ⟨-1, rfl, by omega, fun _ => by omega, by omega, hBel0.out⟩


theorem toInstr_any (op : ByteArray) (d : Int) (a : Int) (b : Int) (m : Int) (w : World) :
    Calls Try.prog 82 #[.agg #[.string op, .int .i64 d, .int .i64 a, .int .i64 b, .int .i64 m]] w fun e w' => e = .returned (.agg #[.string op, .int .i64 d, .int .i64 a, .int .i64 b, .int .i64 m]) ∧ Below w.heap.size w w' := by
  have hB1 := fun o => (Below.refl w.heap.size w).alloc (Nat.le_refl _) o
  have hB2 := fun o o' => (hB1 o).alloc (by simp) o'
  have hB3 := fun o o' o'' => (hB2 o o').alloc (by simp; omega) o''
  go_enter Try.func82, Try.ntmps82
  go_wp2
  simp [bodyPost, results, Try.results82, go_sem]
  exact hB3 _ _ _


theorem eqInstr_any (op : ByteArray) (d : Int) (a : Int) (b : Int) (m : Int) (op' : ByteArray) (d' : Int) (a' : Int) (b' : Int) (m' : Int) (w : World) :
    Calls Try.prog 86 #[.agg #[.string op, .int .i64 d, .int .i64 a, .int .i64 b, .int .i64 m], .agg #[.string op', .int .i64 d', .int .i64 a', .int .i64 b', .int .i64 m']] w fun e w' =>
      e = .returned (.bool (op.toList == op'.toList && d == d' && a == a' && b == b' && m == m')) ∧ Below w.heap.size w w' := by
  have hB1 := fun o => (Below.refl w.heap.size w).alloc (Nat.le_refl _) o
  have hB2 := fun o o' => (hB1 o).alloc (by simp) o'
  go_enter Try.func86, Try.ntmps86
  go_wp2
  all_goals go_ret
  all_goals exact ⟨ret_bool (by simp_all), hB2 _ _⟩

def zeroIn : In := ⟨ByteArray.empty, 0, 0, 0, 0⟩
theorem Try.infoInstr : (Try.prog.info? 90).map (fun i => (i.zero, i.size, i.bytes)) = some (some (.agg #[.string ByteArray.empty, .int .i64 0, .int .i64 0, .int .i64 0, .int .i64 0]), 5, 48) := by kernel_rfl
theorem run_make_Instr (n : Nat) (hn : n ≤ 1048576) (W : World) : (Instr.makeSlice 34 (.int .i64 (n : Int)) (.int .i64 (n : Int))).run Try.prog W = .ok (.slice (some ⟨W.heap.size, 0, none⟩) n n) (W.alloc (.cells ((List.replicate n zeroIn).flatMap In.enc).toArray 90)) := by
  obtain ⟨i0, hi, hz0, hz1, hz2⟩ := info_parts Try.infoInstr
  have h := run_make (P := Try.prog) W 34 90 i0 _ Try.underlying34 hi hz0 .i64 .i64 n n (by omega) (by omega) (by rw [hz2]; omega) (by omega)
  rw [h]
  simp only [Int.toNat_natCast, hz1]
  refine congrArg (fun c => Result.ok (Value.slice (some ⟨W.heap.size, 0, none⟩) n n) (W.alloc (.cells c 90))) ?_
  apply Array.ext'
  exact made_flat In.hk zeroIn n

/-- A new slice that reads as es. -/
def FreshInstr (w : World) (es : List In) (e : Ending) (w' : World) : Prop :=
  ∃ A c, e = .returned (.slice A es.length c) ∧ OK In.enc 5 90 w' w.heap.size w'.heap.size (.slice A es.length c) es ∧ Below w.heap.size w w'
theorem cb_nil {t : TypeId} {w : World} {g : Nat} {xs : List In} (h : CB t w g (xs.flatMap In.enc ++ [])) : KB In.enc t w g xs := by
  unfold CB at h; unfold KB; rw [List.append_nil] at h; exact h
theorem toInstrS_any (L B : Nat) (A : Option Addr) (c : Nat) (es : List In) (w : World) (hl : es.length ≤ 1048576) (hes : RS In.enc 5 w L B A es) (hB : B ≤ w.heap.size) :
    Calls Try.prog 27 #[.slice A es.length c] w (FreshInstr w es) := by
  have hmk := run_make_Instr es.length hl
  have hU0 : Hid (CB 90 (w.alloc (.cells ((List.replicate es.length zeroIn).flatMap In.enc).toArray 90)) w.heap.size ((over es (List.replicate es.length zeroIn) 0).flatMap In.enc ++ [])) := by
    rw [over_zero, List.append_nil]; exact heap_alloc_new w _
  have hBel0 := (Below.refl w.heap.size w).alloc (Nat.le_refl _) (.cells ((List.replicate es.length zeroIn).flatMap In.enc).toArray 90)
  have hE := Lib.hid hes
  clear hes
  go_enter Try.func27, Try.ntmps27
  go_wp2
  go_loopw [4] (fun i wr => ∃ k : Nat, k ≤ es.length ∧ i = .int .i64 k ∧ CB 90 wr w.heap.size ((over es (List.replicate es.length zeroIn) k).flatMap In.enc ++ []) ∧ Below w.heap.size w wr) (fun i _ => es.length - (intOf i).toNat)
  case atStart => exact ⟨0, Nat.zero_le _, rfl, hU0.out, hBel0⟩
  case round =>
    obtain ⟨k, hk, rfl, hib, hbel⟩ := hrel
    have hIB := Lib.hid hib
    have hglt := hib.lt
    clear hib hmk hBel0 hU0
    by_cases hlt : k < es.length
    · obtain ⟨b, o, rfl, ⟨_, hbB⟩, hc⟩ := In.cells (hE.out.below hbel hB) (by omega)
      obtain ⟨c1, c2, c3, c4, c5⟩ := hc k hlt
      clear hc
      have hBelB := Lib.hid hbel
      have hov : Hid ((over es (List.replicate es.length zeroIn) k).set k es[k] = over es (List.replicate es.length zeroIn) (k + 1)) := over_succ hlt (by simp)
      have hol : Hid ((over es (List.replicate es.length zeroIn) k).length = es.length) := by rw [Hid, over_len (by omega) (by simp)]; simp
      generalize hnd : es[k] = nd at *
      obtain ⟨op, d, a, bb, m⟩ := nd
      have hND := Lib.hid hnd
      clear hnd hbel
      go_wp2_with (fail)
      refine (toInstr_any _ _ _ _ _ _).mono ?_
      rintro e w2 ⟨rfl, hb2⟩
      have hIB2 : Hid (CB 90 w2 w.heap.size ((over es (List.replicate es.length zeroIn) k).flatMap In.enc ++ [])) := hIB.out.below hb2 hglt
      have hbel2 : Hid (Below w.heap.size w w2) := hBelB.out.trans (hb2.mono hBelB.out.size)
      clear c1 c2 c3 c4 c5 hb2
      obtain ⟨z0, z1, z2, z3, z4, d1, d2, d3, d4, d5⟩ := In.cellsB hIB2.out k (by rw [hol.out]; exact hlt)
      have f1 := hIB2.out.frozen (k * 5)
      have f2 := hIB2.out.frozen (k * 5 + 1)
      have f3 := hIB2.out.frozen (k * 5 + 2)
      have f4 := hIB2.out.frozen (k * 5 + 3)
      have f5 := hIB2.out.frozen (k * 5 + 4)
      have hst : Hid (CB 90 (setCells w2 w.heap.size (k * 5) (In.enc ⟨op, d, a, bb, m⟩)) w.heap.size ((over es (List.replicate es.length zeroIn) (k + 1)).flatMap In.enc ++ [])) := by
        have h1 := hIB2.out.store In.hk k (by rw [hol.out]; exact hlt) ⟨op, d, a, bb, m⟩
        rw [hov.out] at h1; exact h1
      have hbs := Lib.hid (below_setCells (In.enc ⟨op, d, a, bb, m⟩) w.heap.size (k * 5) hbel2.out (Nat.le_refl _))
      go_wp2
      go_roundw
      case rel => exact ⟨k + 1, by omega, by go_num, hst.out, hbs.out⟩
      case measure => simp [intOf]; omega
    · obtain rfl : k = es.length := by omega
      go_wp2
      go_ret
      refine ⟨_, _, rfl, ?_, hbel⟩
      have h1 := hIB.out
      rw [over_all (by simp)] at h1
      exact (cb_nil h1).toOK In.hk (by unfold maxLen; omega) (Nat.le_refl _) hglt

set_option maxRecDepth 100000 in
set_option maxHeartbeats 1000000 in
theorem eqInstrS_any (L B L' B' : Nat) (A A' : Option Addr) (m m' c c' : Nat) (es es' : List In) (w : World) (hm : m = es.length) (hm' : m' = es'.length) (hl : es.length ≤ 1048576) (hes : RS In.enc 5 w L B A es) (hes' : RS In.enc 5 w L' B' A' es') (hB : B ≤ w.heap.size) (hB' : B' ≤ w.heap.size) (heq : es = es') :
    Calls Try.prog 30 #[.slice A m c, .slice A' m' c'] w fun e w' => e = .returned (.bool true) ∧ Below w.heap.size w w' := by
  subst heq
  subst hm
  obtain rfl := hm'
  have hE := Lib.hid hes
  have hE' := Lib.hid hes'
  have hBB := Lib.hid hB
  have hBB' := Lib.hid hB'
  have hBel0 := Below.refl w.heap.size w
  clear hes hes' hB hB'
  go_enter Try.func30, Try.ntmps30
  go_wp2
  go_loopw [5] (fun i wr => ∃ k : Nat, k ≤ es.length ∧ i = .int .i64 k ∧ Below w.heap.size w wr) (fun i _ => es.length - (intOf i).toNat)
  case atStart => exact ⟨0, Nat.zero_le _, rfl, hBel0⟩
  case round =>
    obtain ⟨k, hk, rfl, hbel⟩ := hrel
    by_cases hlt : k < es.length
    · obtain ⟨b, o, rfl, ⟨_, hbB⟩, hc⟩ := In.cells (hE.out.below hbel hBB.out) (by omega)
      obtain ⟨b', o', rfl, ⟨_, hbB'⟩, hc'⟩ := In.cells (hE'.out.below hbel hBB'.out) (by omega)
      obtain ⟨c1, c2, c3, c4, c5⟩ := hc k hlt
      obtain ⟨d1, d2, d3, d4, d5⟩ := hc' k hlt
      clear hc hc'
      have hBelB := Lib.hid hbel
      generalize es[k] = nd at *
      obtain ⟨op, d, a, bb, m⟩ := nd
      have i1 : (k : Int) < (es.length : Int) := by omega
      have i0 : (0 : Int) ≤ (k : Int) := by omega
      go_wp2_with (fail)
      go_still_tail 8, (by kernel_rfl)
      change wpList _ _ _ _ _ wr.drew
      have hbd := Lib.hid (hBelB.out.drew)
      generalize wr.drew = wd at *
      clear c1 c2 c3 c4 c5 d1 d2 d3 d4 d5 hbel
      go_wp2_with (fail)
      refine (eqInstr_any _ _ _ _ _ _ _ _ _ _ _).mono ?_
      rintro e w2 ⟨rfl, hb2⟩
      have hbel2 := Lib.hid (hbd.out.trans (hb2.mono hbd.out.size))
      have e1 : (op.toList == op.toList && d == d && a == a && bb == bb && m == m) = true := by simp
      clear hb2
      rw [e1]
      go_wp2
      go_roundw
      case rel => exact ⟨k + 1, by omega, by go_num, hbel2.out⟩
      case measure => simp [intOf]; omega
    · obtain rfl : k = es.length := by omega
      go_wp2
      go_ret
      exact ⟨rfl, hbel⟩

end Go.Proofs.Ythjfedidpjfboaa

/- Slices of Instr: marks. -/
namespace Go.Proofs.Ythjfedidpjfboaa
open Go.RowKit
set_option linter.unusedVariables false

theorem In.rs {t : TypeId} {w : World} {lo hi n c : Nat} {A : Option Addr} {xs : List In} (h : OK In.enc 5 t w lo hi (.slice A n c) xs) : RS In.enc 5 w lo hi A xs := by
  obtain ⟨A', c', e, his⟩ := h.form In.hk
  injection e with a _ _; subst a; exact his
theorem In.boxed {t : TypeId} {w : World} (x : In) : RS In.enc 5 (w.alloc (.cells #[.string x.op, .int .i64 x.d, .int .i64 x.a, .int .i64 x.b, .int .i64 x.m] t)) w.heap.size (w.heap.size + 1) (some ⟨w.heap.size, 0, none⟩) [x] :=
  KB.toRS In.hk (t := t) (by unfold KB; rw [heap_alloc_new]; rfl)
theorem In.box {w : World} {lo hi g : Nat} {x : In} (h : RS In.enc 5 w lo hi (some ⟨g, 0, none⟩) [x]) : w.cell? ⟨g, 0, none⟩ = some (.string x.op) ∧ w.cell? ⟨g, 1, none⟩ = some (.int .i64 x.d) ∧ w.cell? ⟨g, 2, none⟩ = some (.int .i64 x.a) ∧ w.cell? ⟨g, 3, none⟩ = some (.int .i64 x.b) ∧ w.cell? ⟨g, 4, none⟩ = some (.int .i64 x.m) := by
  obtain ⟨b, o, e, _, hc⟩ := h (by simp)
  injection e with e; injection e with e1 e2 _; subst e1; subst e2
  have := fun j v hv => hc 0 (by simp) j v hv
  simp only [Nat.zero_mul, Nat.zero_add, List.getElem_cons_zero] at this
  exact ⟨this 0 _ rfl, this 1 _ rfl, this 2 _ rfl, this 3 _ rfl, this 4 _ rfl⟩
def markIn (k0 : Int) (i : Nat) : In := ⟨mtx (k0 + 5 * (i : Int)), k0 + 5 * (i : Int) + 1, k0 + 5 * (i : Int) + 1 + 1, k0 + 5 * (i : Int) + 1 + 1 + 1, k0 + 5 * (i : Int) + 1 + 1 + 1 + 1⟩
def marksIn (k0 : Int) (n : Nat) : List In := (List.range n).map (markIn k0)
theorem marksIn_len (k0 : Int) (n : Nat) : (marksIn k0 n).length = n := by simp [marksIn]
def MarkedInstr (w : World) (lo hi : Nat) (sl : Value) (n : Nat) (k0 : Int) (e : Ending) (w' : World) : Prop :=
  e = .returned (.int .i64 (k0 + 5 * n)) ∧ OK In.enc 5 90 w' lo hi sl (marksIn k0 n) ∧ Chg lo hi w w'
set_option maxRecDepth 100000 in
set_option maxHeartbeats 2000000 in
theorem markInstrS_any (lo hi : Nat) (A : Option Addr) (c : Nat) (es : List In) (k0 : Int) (w : World) (hl : es.length ≤ 1048576) (hk0 : 0 ≤ k0) (hk1 : k0 ≤ 100000000) (hx : OK In.enc 5 90 w lo hi (.slice A es.length c) es) :
    Calls Try.prog 32 #[.slice A es.length c, .int .i64 k0] w (MarkedInstr w lo hi (.slice A es.length c) es.length k0) := by
  have hml := Lib.hid (marksIn_len k0 es.length)
  have hX0 : Hid (OK In.enc 5 90 w lo hi (.slice A es.length c) (over (marksIn k0 es.length) es 0)) := by rw [over_zero]; exact hx
  have hG0 := Lib.hid (Chg.refl lo hi w)
  clear hx
  go_enter Try.func32, Try.ntmps32
  go_wp2
  go_loopw [1, 5] (fun q i wr => ∃ k : Nat, k ≤ es.length ∧ i = .int .i64 k ∧ q = .int .i64 (k0 + 5 * k) ∧ OK In.enc 5 90 wr lo hi (.slice A es.length c) (over (marksIn k0 es.length) es k) ∧ Chg lo hi w wr) (fun _ i _ => es.length - (intOf i).toNat)
  case atStart => exact ⟨0, Nat.zero_le _, rfl, by simp, hX0.out, hG0.out⟩
  case round =>
    obtain ⟨k, hk, rfl, rfl, how, hgr⟩ := hrel
    have hOW := Lib.hid how
    have hGR := Lib.hid hgr
    clear how hgr
    have hol : Hid ((over (marksIn k0 es.length) es k).length = es.length) := over_len (by rw [hml.out]; exact hk) hml.out
    by_cases hlt : k < es.length
    · have hov : Hid ((over (marksIn k0 es.length) es k).set k (markIn k0 k) = over (marksIn k0 es.length) es (k + 1)) := by
        have := over_succ (ys := marksIn k0 es.length) (xs := es) (i := k) (by rw [hml.out]; exact hlt) hml.out
        rw [Hid, ← this]; simp [marksIn]
      obtain ⟨g, cap, hv, hg1, hg2, hcap, hcm, rest, hCB, hCL⟩ : ∃ g cap, Value.slice A es.length c = .slice (some ⟨g, 0, none⟩) es.length cap ∧ lo ≤ g ∧ g < hi ∧ es.length ≤ cap ∧ cap ≤ maxLen ∧ ∃ rest, CB 90 wr g ((over (marksIn k0 es.length) es k).flatMap In.enc ++ rest) ∧ ((over (marksIn k0 es.length) es k).flatMap In.enc ++ rest).length = cap * 5 := by
        have h1 := hOW.out.open
        rw [hol.out] at h1
        rcases h1 with ⟨_, h0⟩ | h
        · omega
        · exact h
      obtain ⟨rfl, rfl⟩ : A = some ⟨g, 0, none⟩ ∧ c = cap := by injection hv with a _ b; exact ⟨a, b⟩
      have hC := Lib.hid hCB
      have hL := Lib.hid hCL
      have hM := Lib.hid hcm
      clear hv hCB hCL hcm
      go_wp2_with (fail)
      refine (markText_any _ _ (by omega) (by omega)).mono ?_
      rintro e w2 ⟨rfl, hb2⟩
      have hC2 : Hid (CB 90 w2 g ((over (marksIn k0 es.length) es k).flatMap In.enc ++ rest)) := hC.out.below hb2 hC.out.lt
      have hGR2 : Hid (Chg lo hi w w2) := hGR.out.trans (Chg.ofBelow hb2)
      clear hb2 hC
      obtain ⟨z0, z1, z2, z3, z4, d1, d2, d3, d4, d5⟩ := In.cellsB hC2.out k (by rw [hol.out]; exact hlt)
      have f1 := hC2.out.frozen (k * 5)
      have f2 := hC2.out.frozen (k * 5 + 1)
      have f3 := hC2.out.frozen (k * 5 + 2)
      have f4 := hC2.out.frozen (k * 5 + 3)
      have f5 := hC2.out.frozen (k * 5 + 4)
      have hst : Hid (CB 90 (setCells w2 g (k * 5) (In.enc (markIn k0 k))) g ((over (marksIn k0 es.length) es (k + 1)).flatMap In.enc ++ rest)) := by
        have h1 := hC2.out.store In.hk k (by rw [hol.out]; exact hlt) (markIn k0 k)
        rw [hov.out] at h1; exact h1
      have hgs := Lib.hid (chg_setCells (In.enc (markIn k0 k)) g (k * 5) hGR2.out ⟨hg1, hg2⟩)
      have hfin : Hid (OK In.enc 5 90 (setCells w2 g (k * 5) (In.enc (markIn k0 k))) lo hi (.slice (some ⟨g, 0, none⟩) es.length c) (over (marksIn k0 es.length) es (k + 1))) := by
        have hl2 : (over (marksIn k0 es.length) es (k + 1)).length = es.length := over_len (by rw [hml.out]; omega) hml.out
        have h1 := OK.close In.hk (cap := c) hst.out hg1 hg2 (by rw [hl2]; exact hcap) hM.out (by
          have := hL.out
          rw [List.length_append, kflat_len In.hk, hol.out] at this
          rw [List.length_append, kflat_len In.hk, hl2]; exact this)
        rw [hl2] at h1; exact h1
      clear hst hC2 hGR2
      go_wp2
      go_roundw
      case rel => exact ⟨k + 1, by omega, by go_num, by go_num, hfin.out, hgs.out⟩
      case measure => simp [intOf]; omega
    · obtain rfl : k = es.length := by omega
      have hN : Hid (OK In.enc 5 90 wr lo hi (.slice A es.length c) (marksIn k0 es.length)) := by
        have h1 := hOW.out
        have h2 : over (marksIn k0 es.length) es es.length = marksIn k0 es.length := by
          have := over_all (ys := marksIn k0 es.length) (xs := es) hml.out; rwa [hml.out] at this
        rwa [h2] at h1
      go_wp2
      go_ret
      exact ⟨rfl, hN.out, hGR.out⟩

set_option maxRecDepth 100000 in
set_option maxHeartbeats 2000000 in
theorem heldInstrS_any (L B : Nat) (A : Option Addr) (n c : Nat) (k0 : Int) (w : World) (hl : n ≤ 1048576) (hk0 : 0 ≤ k0) (hk1 : k0 ≤ 100000000) (hx : RS In.enc 5 w L B A (marksIn k0 n)) (hB : B ≤ w.heap.size) :
    Calls Try.prog 34 #[.slice A n c, .int .i64 k0] w fun e w' => e = .returned (.int .i64 (k0 + 5 * n)) ∧ Below w.heap.size w w' := by
  have hE := Lib.hid hx
  have hBB := Lib.hid hB
  have hBel0 := Below.refl w.heap.size w
  have hml := Lib.hid (marksIn_len k0 n)
  clear hx hB
  go_enter Try.func34, Try.ntmps34
  go_wp2
  go_loopw [1, 5] (fun q i wr => ∃ k : Nat, k ≤ n ∧ i = .int .i64 k ∧ q = .int .i64 (k0 + 5 * k) ∧ Below w.heap.size w wr) (fun _ i _ => n - (intOf i).toNat)
  case atStart => exact ⟨0, Nat.zero_le _, rfl, by simp, hBel0⟩
  case round =>
    obtain ⟨k, hk, rfl, rfl, hbel⟩ := hrel
    by_cases hlt : k < n
    · obtain ⟨b, o, rfl, ⟨_, hbB⟩, hc⟩ := In.cells (hE.out.below hbel hBB.out) (by rw [hml.out]; omega)
      obtain ⟨c1, c2, c3, c4, c5⟩ := hc k (by rw [hml.out]; exact hlt)
      have hmk : (marksIn k0 n)[k]'(by rw [hml.out]; exact hlt) = markIn k0 k := by simp [marksIn]
      rw [hmk] at c1 c2 c3 c4 c5
      simp only [markIn] at c1 c2 c3 c4 c5
      clear hc hmk
      have hbb : b < wr.heap.size := by have := hbel.size; have := hBB.out; omega
      have hBelB := Lib.hid hbel
      have i1 : (k : Int) < (n : Int) := by omega
      have i0 : (0 : Int) ≤ (k : Int) := by omega
      have e1 : ((k0 + 5 * (k : Int) + 1) != (k0 + 5 * (k : Int) + 1)) = false := by simp
      have e2 : ((k0 + 5 * (k : Int) + 1 + 1) != (k0 + 5 * (k : Int) + 1 + 1)) = false := by simp
      have e3 : ((k0 + 5 * (k : Int) + 1 + 1 + 1) != (k0 + 5 * (k : Int) + 1 + 1 + 1)) = false := by simp
      have e4 : ((k0 + 5 * (k : Int) + 1 + 1 + 1 + 1) != (k0 + 5 * (k : Int) + 1 + 1 + 1 + 1)) = false := by simp
      go_wp2_with (fail)
      go_region_held3 (fun w' => w'.cell? ⟨b, o + k * 5, none⟩ = some (.string (mtx (k0 + 5 * k))))
        (first | go_keep | exact (hb2.cell (by simp; omega)).trans (by assumption) | exact (hb2.cell (by simp; omega)).trans c1)
        ((first | (go_at_call 77; refine (markText_any _ _ (by omega) (by omega)).mono ?_; rintro e w2 ⟨rfl, hb2⟩)))
      have c2' : w2.cell? ⟨b, o + k * 5 + 1, none⟩ = _ := (hb2.cell hbb).trans c2
      have c3' : w2.cell? ⟨b, o + k * 5 + 2, none⟩ = _ := (hb2.cell hbb).trans c3
      have c4' : w2.cell? ⟨b, o + k * 5 + 3, none⟩ = _ := (hb2.cell hbb).trans c4
      have c5' : w2.cell? ⟨b, o + k * 5 + 4, none⟩ = _ := (hb2.cell hbb).trans c5
      have hbel2 := Lib.hid (hBelB.out.drew.trans (hb2.mono hBelB.out.size))
      clear c1 c2 c3 c4 c5 hb2 hbel
      go_wp2
      go_roundw
      case rel => exact ⟨k + 1, by omega, by go_num, by go_num, hbel2.out⟩
      case measure => simp [intOf]; omega
    · obtain rfl : k = n := by omega
      go_wp2
      go_ret
      exact ⟨rfl, hbel⟩
end Go.Proofs.Ythjfedidpjfboaa

/- Arguments of the types []laws.Instr, laws.Instr and []int opened. -/
namespace Go.Proofs.Ythjfedidpjfboaa
open Go.ChangeShapes Go.WideShapes Go.ChangeAt Go.RowKit Go.Deep
open Go.ChangeMaps (open_string shut_string)
set_option linter.unusedVariables false

theorem cellsIn : Try.prog.cellsOf 86 = 5 := by kernel_rfl
theorem cellsStr : Try.prog.cellsOf 9 = 1 := by kernel_rfl
theorem cellsInt : Try.prog.cellsOf 3 = 1 := by kernel_rfl

set_option maxRecDepth 100000 in
theorem in_of_trod {H : Type} {enc : TypeId × Value → H} {w : World} {base : Nat} {spare : Nat → Bool} {held : Bool} {n : Nat} {cs : List Value} {x : DataW H × List MemPlace}
    (h : DataW.trod enc Try.prog w base spare held n 86 cs = some x) : ∃ nd : In, cs = nd.enc ∧ nd.op.size ≤ maxLen := by
  obtain ⟨xs, m, _, _, hlen, hxl, hf⟩ := DataW.trod_struct Try.underlying86 h
  rw [cellsIn] at hlen
  match cs, hlen with
  | [c0, c1, c2, c3, c4], _ =>
    match xs, hxl with
    | [y0, y1, y2, y3, y4], _ =>
      have h0 := hf 0 _ rfl
      change DataW.trod enc Try.prog w base spare held m 9 (([c0, c1, c2, c3, c4].drop 0).take (Try.prog.cellsOf 9)) = _ at h0
      rw [cellsStr] at h0
      have h1 := hf 1 _ rfl
      change DataW.trod enc Try.prog w base spare held m 3 (([c0, c1, c2, c3, c4].drop 1).take (Try.prog.cellsOf 3)) = _ at h1
      rw [cellsInt] at h1
      have h2 := hf 2 _ rfl
      change DataW.trod enc Try.prog w base spare held m 3 (([c0, c1, c2, c3, c4].drop 2).take (Try.prog.cellsOf 3)) = _ at h2
      rw [cellsInt] at h2
      have h3 := hf 3 _ rfl
      change DataW.trod enc Try.prog w base spare held m 3 (([c0, c1, c2, c3, c4].drop 3).take (Try.prog.cellsOf 3)) = _ at h3
      rw [cellsInt] at h3
      have h4 := hf 4 _ rfl
      change DataW.trod enc Try.prog w base spare held m 3 (([c0, c1, c2, c3, c4].drop 4).take (Try.prog.cellsOf 3)) = _ at h4
      rw [cellsInt] at h4
      obtain ⟨s, e0, _, hs⟩ := DataW.trod_string Try.underlying9 h0
      obtain ⟨d, e1, _, _⟩ := DataW.trod_int Try.underlying3 h1
      obtain ⟨a, e2, _, _⟩ := DataW.trod_int Try.underlying3 h2
      obtain ⟨b, e3, _, _⟩ := DataW.trod_int Try.underlying3 h3
      obtain ⟨m, e4, _, _⟩ := DataW.trod_int Try.underlying3 h4
      have e0 : c0 = .string s := by simpa using e0
      have e1 : c1 = .int .i64 d := by simpa using e1
      have e2 : c2 = .int .i64 a := by simpa using e2
      have e3 : c3 = .int .i64 b := by simpa using e3
      have e4 : c4 = .int .i64 m := by simpa using e4
      exact ⟨⟨s, d, a, b, m⟩, by rw [e0, e1, e2, e3, e4]; rfl, hs⟩

theorem cell_lt_heap {w : World} {a : Addr} {v : Value} (h : w.cell? a = some v) : a.block < w.heap.size := by
  rcases Nat.lt_or_ge a.block w.heap.size with hlt | hge
  · exact hlt
  · unfold World.cell? at h; rw [Array.getElem?_eq_none hge] at h; simp at h

set_option maxRecDepth 100000 in
theorem x_of_trod {H : Type} {enc : TypeId × Value → H} {w : World} {r : Reach} {b0 : Nat} {spare : Nat → Bool} {held : Bool} {v : Value} {d : DataW H} {p : List MemPlace}
    (hv : Value.okWide Try.prog w r b0 86 v) (h : DataW.Trod enc Try.prog w 0 spare held 86 v d p) :
    ∃ x : In, v = .agg #[.string x.op, .int .i64 x.d, .int .i64 x.a, .int .i64 x.b, .int .i64 x.m] ∧ x.op.size ≤ 9223372036854775807 := by
  obtain ⟨cs, rfl, hsz⟩ := okWide_struct Try.underlying86 hv
  obtain ⟨fuel, hf⟩ := h
  obtain ⟨x, hx, hs⟩ := in_of_trod hf
  refine ⟨x, ?_, by unfold maxLen at hs; omega⟩
  obtain ⟨l⟩ := cs
  have hx' : l = x.enc := by simpa [Value.cells] using hx
  subst hx'; rfl

set_option maxRecDepth 100000 in
theorem ins_of_trod {H : Type} {enc : TypeId × Value → H} {w : World} {spare : Nat → Bool} {held : Bool} {A : Option Addr} {len cap : Nat} {d : DataW H} {p : List MemPlace}
    (h : DataW.Trod enc Try.prog w 0 spare held 31 (.slice A len cap) d p) :
    ∃ es : List In, es.length = len ∧ RS In.enc 5 w 0 w.heap.size A es ∧ (∀ n ∈ es, n.op.size ≤ 9223372036854775807) ∧ len ≤ 9223372036854775807 := by
  obtain ⟨fuel, hf⟩ := h
  rcases open_slice Try.underlying31 hf with ⟨hcs, _⟩ | ⟨a, l, c, m, n, D, Pl, hcs, _, hl, hm, hmm, _, hi⟩
  · simp [Value.cells] at hcs
    obtain ⟨rfl, rfl, rfl⟩ := hcs
    exact ⟨[], rfl, fun h => absurd h (by simp), (fun n hn => by cases hn), by omega⟩
  · simp [Value.cells] at hcs
    obtain ⟨rfl, rfl, rfl⟩ := hcs
    have hlm : len ≤ m := by rw [hmm]; split <;> omega
    have hex : ∀ i, i < len → ∃ nd : In, (∀ j v, nd.enc[j]? = some v → w.cell? (a.add (i * 5 + j)) = some v) ∧ nd.op.size ≤ maxLen := by
      intro i hil
      obtain ⟨cs', hc, ht⟩ := hi i (by omega)
      rw [cellsIn] at hc
      obtain ⟨nd, rfl, hs⟩ := in_of_trod ht
      obtain ⟨_, _, hat⟩ := World.cells?_some hc
      refine ⟨nd, fun j v hv => ?_, hs⟩
      have hj : j < 5 := kflat_lt In.hk hv
      have := hat j hj
      rw [add_add, hv] at this; exact this
    obtain ⟨f, hf2⟩ := Classical.axiomOfChoice (fun i : {i // i < len} => hex i.1 i.2)
    have hget : ∀ i (h : i < (List.ofFn fun i : Fin len => f ⟨i.1, i.2⟩).length), (List.ofFn fun i : Fin len => f ⟨i.1, i.2⟩)[i] = f ⟨i, by simpa using h⟩ := fun i h => by simp
    refine ⟨List.ofFn fun i : Fin len => f ⟨i.1, i.2⟩, by simp, ?_, ?_, by unfold maxLen at hm; omega⟩
    · intro hpos
      have hpos' : 0 < len := by simpa using hpos
      have h0 := (hf2 ⟨0, hpos'⟩).1 0 _ rfl
      obtain ⟨b, o, spot⟩ := a
      have hspot : spot = none := by have := World.cell?_spot h0; simpa [Addr.add] using this
      subst hspot
      have hadd : ∀ k, (⟨b, o, none⟩ : Addr).add k = ⟨b, o + k, none⟩ := fun k => by simp [Addr.add]
      refine ⟨b, o, rfl, ⟨Nat.zero_le _, ?_⟩, fun i hi j v hv => ?_⟩
      · rw [hadd] at h0
        exact cell_lt_heap h0
      · have hi' : i < len := by simpa using hi
        rw [hget i hi] at hv
        have := (hf2 ⟨i, hi'⟩).1 j v hv
        simp only [hadd, ← Nat.add_assoc] at this
        exact this
    · intro n hn
      obtain ⟨i, rfl⟩ := List.mem_ofFn.1 hn
      have := (hf2 ⟨i.1, i.2⟩).2
      unfold maxLen at this; omega

set_option maxRecDepth 100000 in
theorem ints_of_trod {H : Type} {enc : TypeId × Value → H} {w : World} {spare : Nat → Bool} {held : Bool} {A : Option Addr} {len cap : Nat} {d : DataW H} {p : List MemPlace}
    (h : DataW.Trod enc Try.prog w 0 spare held 32 (.slice A len cap) d p) :
    ∃ xs : List Int, xs.length = len ∧ IS w 0 w.heap.size A xs ∧ len ≤ 9223372036854775807 := by
  obtain ⟨fuel, hf⟩ := h
  rcases open_slice Try.underlying32 hf with ⟨hcs, _⟩ | ⟨a, l, c, m, n, D, Pl, hcs, _, hl, hm, hmm, _, hi⟩
  · simp [Value.cells] at hcs
    obtain ⟨rfl, rfl, rfl⟩ := hcs
    exact ⟨[], rfl, fun h => absurd h (by simp), by omega⟩
  · simp [Value.cells] at hcs
    obtain ⟨rfl, rfl, rfl⟩ := hcs
    have hlm : len ≤ m := by rw [hmm]; split <;> omega
    have hex : ∀ i, i < len → ∃ x : Int, w.cell? (a.add i) = some (.int .i64 x) := by
      intro i hil
      obtain ⟨cs', hc, ht⟩ := hi i (by omega)
      rw [cellsInt, Nat.mul_one] at hc
      obtain ⟨x, hx, _, _⟩ := DataW.trod_int Try.underlying3 ht
      obtain ⟨_, _, hat⟩ := World.cells?_some hc
      have := hat 0 (by omega)
      rw [add_add, hx] at this
      exact ⟨x, by simpa using this⟩
    obtain ⟨f, hf2⟩ := Classical.axiomOfChoice (fun i : {i // i < len} => hex i.1 i.2)
    have hget : ∀ i (h : i < (List.ofFn fun i : Fin len => f ⟨i.1, i.2⟩).length), (List.ofFn fun i : Fin len => f ⟨i.1, i.2⟩)[i] = f ⟨i, by simpa using h⟩ := fun i h => by simp
    refine ⟨List.ofFn fun i : Fin len => f ⟨i.1, i.2⟩, by simp, ?_, by unfold maxLen at hm; omega⟩
    intro hpos
    have hpos' : 0 < len := by simpa using hpos
    have h0 := hf2 ⟨0, hpos'⟩
    obtain ⟨b, o, spot⟩ := a
    have hspot : spot = none := by have := World.cell?_spot h0; simpa [Addr.add] using this
    subst hspot
    have hadd : ∀ k, (⟨b, o, none⟩ : Addr).add k = ⟨b, o + k, none⟩ := fun k => by simp [Addr.add]
    refine ⟨b, o, rfl, ⟨Nat.zero_le _, ?_⟩, fun i hi => ?_⟩
    · rw [hadd] at h0
      exact cell_lt_heap h0
    · have hi' : i < len := by simpa using hi
      rw [hget i hi]
      have := hf2 ⟨i, hi'⟩
      simp only [hadd] at this
      exact this
end Go.Proofs.Ythjfedidpjfboaa

/- An argument of type []laws.Node opened as a list of nodes. -/
namespace Go.Proofs.Ythjfedidpjfboaa
open Go.ChangeShapes Go.WideShapes Go.ChangeAt Go.RowKit Go.Deep
open Go.ChangeMaps (open_string shut_string)
set_option linter.unusedVariables false
set_option maxRecDepth 100000

theorem cellsNode : Try.prog.cellsOf 76 = 4 := by kernel_rfl

theorem node_of_trod {H : Type} {enc : TypeId × Value → H} {w : World} {base : Nat} {spare : Nat → Bool} {held : Bool} {n : Nat} {cs : List Value} {x : DataW H × List MemPlace}
    (h : DataW.trod enc Try.prog w base spare held n 76 cs = some x) : ∃ nd : Nd, cs = nd.cells ∧ nd.op.size ≤ maxLen := by
  obtain ⟨xs, m, _, _, hlen, hxl, hf⟩ := DataW.trod_struct Try.underlying76 h
  rw [cellsNode] at hlen
  match cs, hlen with
  | [c0, c1, c2, c3], _ =>
    match xs, hxl with
    | [y0, y1, y2, y3], _ =>
      have h0 := hf 0 _ rfl
      change DataW.trod enc Try.prog w base spare held m 9 (([c0, c1, c2, c3].drop 0).take (Try.prog.cellsOf 9)) = _ at h0
      rw [cellsStr] at h0
      have h1 := hf 1 _ rfl
      change DataW.trod enc Try.prog w base spare held m 3 (([c0, c1, c2, c3].drop 1).take (Try.prog.cellsOf 3)) = _ at h1
      rw [cellsInt] at h1
      have h2 := hf 2 _ rfl
      change DataW.trod enc Try.prog w base spare held m 3 (([c0, c1, c2, c3].drop 2).take (Try.prog.cellsOf 3)) = _ at h2
      rw [cellsInt] at h2
      have h3 := hf 3 _ rfl
      change DataW.trod enc Try.prog w base spare held m 3 (([c0, c1, c2, c3].drop 3).take (Try.prog.cellsOf 3)) = _ at h3
      rw [cellsInt] at h3
      obtain ⟨s, e0, _, hs⟩ := DataW.trod_string Try.underlying9 h0
      obtain ⟨a, e1, _, _⟩ := DataW.trod_int Try.underlying3 h1
      obtain ⟨b, e2, _, _⟩ := DataW.trod_int Try.underlying3 h2
      obtain ⟨v, e3, _, _⟩ := DataW.trod_int Try.underlying3 h3
      have e0 : c0 = .string s := by simpa using e0
      have e1 : c1 = .int .i64 a := by simpa using e1
      have e2 : c2 = .int .i64 b := by simpa using e2
      have e3 : c3 = .int .i64 v := by simpa using e3
      exact ⟨⟨s, a, b, v⟩, by rw [e0, e1, e2, e3]; rfl, hs⟩

theorem nodes_of_trod_ns {H : Type} {enc : TypeId × Value → H} {w : World} {spare : Nat → Bool} {held : Bool} {A : Option Addr} {len cap : Nat} {d : DataW H} {p : List MemPlace}
    (h : DataW.Trod enc Try.prog w 0 spare held 22 (.slice A len cap) d p) :
    ∃ es : List Nd, es.length = len ∧ NS w 0 w.heap.size A es ∧ (∀ n ∈ es, n.op.size ≤ 9223372036854775807) ∧ len ≤ 9223372036854775807 := by
  obtain ⟨fuel, hf⟩ := h
  rcases open_slice Try.underlying22 hf with ⟨hcs, _⟩ | ⟨a, l, c, m, n, D, Pl, hcs, _, hl, hm, hmm, _, hi⟩
  · simp [Value.cells] at hcs
    obtain ⟨rfl, rfl, rfl⟩ := hcs
    exact ⟨[], rfl, fun h => absurd h (by simp), (fun n hn => by cases hn), by omega⟩
  · simp [Value.cells] at hcs
    obtain ⟨rfl, rfl, rfl⟩ := hcs
    have hlm : len ≤ m := by rw [hmm]; split <;> omega
    have hex : ∀ i, i < len → ∃ nd : Nd, (w.cell? (a.add (i * 4)) = some (.string nd.op) ∧ w.cell? (a.add (i * 4 + 1)) = some (.int .i64 nd.a) ∧ w.cell? (a.add (i * 4 + 2)) = some (.int .i64 nd.b) ∧ w.cell? (a.add (i * 4 + 3)) = some (.int .i64 nd.v)) ∧ nd.op.size ≤ maxLen := by
      intro i hil
      obtain ⟨cs', hc, ht⟩ := hi i (by omega)
      rw [cellsNode] at hc
      obtain ⟨nd, rfl, hs⟩ := node_of_trod ht
      obtain ⟨_, _, hat⟩ := World.cells?_some hc
      refine ⟨nd, ⟨?_, ?_, ?_, ?_⟩, hs⟩
      · have := hat 0 (by omega); rw [add_add] at this; exact this
      · have := hat 1 (by omega); rw [add_add] at this; exact this
      · have := hat 2 (by omega); rw [add_add] at this; exact this
      · have := hat 3 (by omega); rw [add_add] at this; exact this
    obtain ⟨f, hf2⟩ := Classical.axiomOfChoice (fun i : {i // i < len} => hex i.1 i.2)
    have hget : ∀ i (h : i < (List.ofFn fun i : Fin len => f ⟨i.1, i.2⟩).length), (List.ofFn fun i : Fin len => f ⟨i.1, i.2⟩)[i] = f ⟨i, by simpa using h⟩ := fun i h => by simp
    refine ⟨List.ofFn fun i : Fin len => f ⟨i.1, i.2⟩, by simp, ?_, ?_, by unfold maxLen at hm; omega⟩
    · intro hpos
      have hpos' : 0 < len := by simpa using hpos
      have h0 := (hf2 ⟨0, hpos'⟩).1.1
      obtain ⟨b, o, spot⟩ := a
      have hspot : spot = none := by have := World.cell?_spot h0; simpa [Addr.add] using this
      subst hspot
      have hadd : ∀ k, (⟨b, o, none⟩ : Addr).add k = ⟨b, o + k, none⟩ := fun k => by simp [Addr.add]
      refine ⟨b, o, rfl, ⟨Nat.zero_le _, ?_⟩, fun i hi => ?_⟩
      · rw [hadd] at h0
        exact cell_lt_heap h0
      · have hi' : i < len := by simpa using hi
        rw [hget i hi]
        have := (hf2 ⟨i, hi'⟩).1
        simp only [hadd, ← Nat.add_assoc] at this
        exact this
    · intro n hn
      obtain ⟨i, rfl⟩ := List.mem_ofFn.1 hn
      have := (hf2 ⟨i.1, i.2⟩).2
      unfold maxLen at this; omega
theorem nodes_of_trod {H : Type} {enc : TypeId × Value → H} {w : World} {spare : Nat → Bool} {held : Bool} {A : Option Addr} {len cap : Nat} {d : DataW H} {p : List MemPlace}
    (h : DataW.Trod enc Try.prog w 0 spare held 22 (.slice A len cap) d p) :
    ∃ es : List Nd, es.length = len ∧ RS Nd.enc 4 w 0 w.heap.size A es ∧ (∀ n ∈ es, n.op.size ≤ 9223372036854775807) ∧ len ≤ 9223372036854775807 := by
  obtain ⟨es, h1, h2, h3⟩ := nodes_of_trod_ns h
  exact ⟨es, h1, h2.rs, h3⟩
end Go.Proofs.Ythjfedidpjfboaa
