import Derived.Test.YtaaloepoegehkaaV2
/- Nodes as cells; the two words for a slice of nodes are one. No program. -/
namespace Go.Proofs.Ytaaloepoegehkaa
open Go.RowKit
set_option linter.unusedVariables false
def Nd.enc (n : Nd) : List Value := [.string n.op, .int .i64 n.a, .int .i64 n.b, .int .i64 n.v]
theorem NS.rs {w : World} {L B : Nat} {A : Option Addr} {es : List Nd} (h : NS w L B A es) : RS Nd.enc 4 w L B A es := by
  intro hn
  obtain ⟨b, o, e, hb, hc⟩ := h hn
  refine ⟨b, o, e, hb, fun i hi j v hv => ?_⟩
  obtain ⟨h1, h2, h3, h4⟩ := hc i hi
  match j, hv with
  | 0, hv => cases hv; exact h1
  | 1, hv => cases hv; exact h2
  | 2, hv => cases hv; exact h3
  | 3, hv => cases hv; exact h4
theorem RS.ns {w : World} {L B : Nat} {A : Option Addr} {es : List Nd} (h : RS Nd.enc 4 w L B A es) : NS w L B A es := by
  intro hn
  obtain ⟨b, o, e, hb, hc⟩ := h hn
  exact ⟨b, o, e, hb, fun i hi => ⟨hc i hi 0 _ rfl, hc i hi 1 _ rfl, hc i hi 2 _ rfl, hc i hi 3 _ rfl⟩⟩
end Go.Proofs.Ytaaloepoegehkaa
