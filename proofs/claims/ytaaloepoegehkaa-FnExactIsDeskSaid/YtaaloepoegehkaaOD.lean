import Derived.Test.YtaaloepoegehkaaON
import Derived.Test.YtaaloepoegehkaaOC
import Derived.Test.YtaaloepoegehkaaDK
import Derived.WalkKit
import Derived.ProofKit
import Derived.OpenShut
import Derived.ShutString
import Derived.ChangeOld
import Derived.Below
import Derived.Deep.Slices
import Derived.Deep.Fields
/- An argument of type laws.Desk opened. -/
namespace Go.Proofs.Ytaaloepoegehkaa
open Go.ChangeShapes Go.WideShapes Go.ChangeAt Go.RowKit Go.Deep
open Go.ChangeMaps (open_string shut_string)
set_option linter.unusedVariables false
set_option maxRecDepth 100000

theorem cellsDesk : Try.prog.cellsOf 55 = 2 := by kernel_rfl
theorem cellsNodesD : Try.prog.cellsOf 53 = 1 := by kernel_rfl
theorem cellsInstrsD : Try.prog.cellsOf 22 = 1 := by kernel_rfl
theorem nodes_of_trodD {H : Type} {enc : TypeId × Value → H} {w : World} {spare : Nat → Bool} {held : Bool} {m : Nat} {c0 : Value} {x : DataW H × List MemPlace}
    (h : DataW.trod enc Try.prog w 0 spare held m 53 [c0] = some x) : ∃ A c, ∃ es : List Nd, c0 = .slice A es.length c ∧ RS Nd.enc 4 w 0 w.heap.size A es ∧ (∀ n ∈ es, n.op.size ≤ 9223372036854775807) ∧ es.length ≤ 9223372036854775807 := by
  obtain ⟨d, p⟩ := x
  have key : ∀ A l c, c0 = .slice A l c → ∃ A c, ∃ es : List Nd, c0 = .slice A es.length c ∧ RS Nd.enc 4 w 0 w.heap.size A es ∧ (∀ n ∈ es, n.op.size ≤ 9223372036854775807) ∧ es.length ≤ 9223372036854775807 := by
    intro A l c e
    subst e
    obtain ⟨es, h1, h2, h3, h4⟩ := nodes_of_trod (A := A) (len := l) (cap := c) (d := d) (p := p) ⟨m, h⟩
    subst h1
    exact ⟨A, c, es, rfl, h2, h3, h4⟩
  rcases open_slice Try.underlying53 h with ⟨hcs, _⟩ | ⟨a, l, c, _, _, _, _, hcs, _⟩
  · exact key _ _ _ (by simpa using hcs)
  · exact key _ _ _ (by simpa using hcs)
theorem instrs_of_trodD {H : Type} {enc : TypeId × Value → H} {w : World} {spare : Nat → Bool} {held : Bool} {m : Nat} {c0 : Value} {x : DataW H × List MemPlace}
    (h : DataW.trod enc Try.prog w 0 spare held m 22 [c0] = some x) : ∃ A c, ∃ es : List In, c0 = .slice A es.length c ∧ RS In.enc 5 w 0 w.heap.size A es ∧ (∀ n ∈ es, n.op.size ≤ 9223372036854775807) ∧ es.length ≤ 9223372036854775807 := by
  obtain ⟨d, p⟩ := x
  have key : ∀ A l c, c0 = .slice A l c → ∃ A c, ∃ es : List In, c0 = .slice A es.length c ∧ RS In.enc 5 w 0 w.heap.size A es ∧ (∀ n ∈ es, n.op.size ≤ 9223372036854775807) ∧ es.length ≤ 9223372036854775807 := by
    intro A l c e
    subst e
    obtain ⟨es, h1, h2, h3, h4⟩ := ins_of_trod (A := A) (len := l) (cap := c) (d := d) (p := p) ⟨m, h⟩
    subst h1
    exact ⟨A, c, es, rfl, h2, h3, h4⟩
  rcases open_slice Try.underlying22 h with ⟨hcs, _⟩ | ⟨a, l, c, _, _, _, _, hcs, _⟩
  · exact key _ _ _ (by simpa using hcs)
  · exact key _ _ _ (by simpa using hcs)
theorem desk_of_trod {H : Type} {enc : TypeId × Value → H} {w : World} {spare : Nat → Bool} {held : Bool} {n : Nat} {cs : List Value} {x : DataW H × List MemPlace}
    (h : DataW.trod enc Try.prog w 0 spare held n 55 cs = some x) : ∃ A1 c1 A2 c2, ∃ fr : List Nd, ∃ to : List In, cs = [.slice A1 fr.length c1, .slice A2 to.length c2] ∧
      (RS Nd.enc 4 w 0 w.heap.size A1 fr ∧ (∀ n ∈ fr, n.op.size ≤ 9223372036854775807) ∧ fr.length ≤ 9223372036854775807) ∧ (RS In.enc 5 w 0 w.heap.size A2 to ∧ (∀ n ∈ to, n.op.size ≤ 9223372036854775807) ∧ to.length ≤ 9223372036854775807) := by
  obtain ⟨xs, m, _, _, hlen, hxl, hf⟩ := DataW.trod_struct Try.underlying55 h
  rw [cellsDesk] at hlen
  match cs, hlen with
  | [c0, c1], _ =>
    match xs, hxl with
    | [y0, y1], _ =>
      have h0 := hf 0 _ rfl
      change DataW.trod enc Try.prog w 0 spare held m 53 (([c0, c1].drop 0).take (Try.prog.cellsOf 53)) = _ at h0
      rw [cellsNodesD] at h0
      have h1 := hf 1 _ rfl
      change DataW.trod enc Try.prog w 0 spare held m 22 (([c0, c1].drop 1).take (Try.prog.cellsOf 22)) = _ at h1
      rw [cellsInstrsD] at h1
      obtain ⟨A1, q1, fr, e0, g1⟩ := nodes_of_trodD (c0 := c0) h0
      obtain ⟨A2, q2, to, e1, g2⟩ := instrs_of_trodD (c0 := c1) h1
      exact ⟨A1, q1, A2, q2, fr, to, by rw [e0, e1], g1, g2⟩
theorem dk_of_trod {H : Type} {enc : TypeId × Value → H} {w : World} {r : Reach} {b0 : Nat} {spare : Nat → Bool} {held : Bool} {v : Value} {d : DataW H} {p : List MemPlace}
    (hv : Value.okWide Try.prog w r b0 55 v) (h : DataW.Trod enc Try.prog w 0 spare held 55 v d p) :
    ∃ A1 c1 A2 c2, ∃ fr : List Nd, ∃ to : List In, v = .agg #[.slice A1 fr.length c1, .slice A2 to.length c2] ∧
      (RS Nd.enc 4 w 0 w.heap.size A1 fr ∧ (∀ n ∈ fr, n.op.size ≤ 9223372036854775807) ∧ fr.length ≤ 9223372036854775807) ∧ (RS In.enc 5 w 0 w.heap.size A2 to ∧ (∀ n ∈ to, n.op.size ≤ 9223372036854775807) ∧ to.length ≤ 9223372036854775807) := by
  obtain ⟨cs, rfl, hsz⟩ := okWide_struct Try.underlying55 hv
  obtain ⟨fuel, hf⟩ := h
  obtain ⟨A1, c1, A2, c2, fr, to, hx, g1, g2⟩ := desk_of_trod hf
  refine ⟨A1, c1, A2, c2, fr, to, ?_, g1, g2⟩
  obtain ⟨l⟩ := cs
  have hx' : l = [.slice A1 fr.length c1, .slice A2 to.length c2] := by simpa [Value.cells] using hx
  subst hx'; rfl
end Go.Proofs.Ytaaloepoegehkaa
