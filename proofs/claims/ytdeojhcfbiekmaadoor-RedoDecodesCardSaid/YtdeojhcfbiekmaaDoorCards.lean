/-
  DERIVED. GIVEN WITH THE SEED: THE CARDS: each row of YtdeojhcfbiekmaaDoorRows.lean that lists a variable, with what it lists TIED to the program's text (the seventh form; the later family's looks); each row that meets fmt, with fmt's text TOLD by the authors' own Lean function (tested against real Go, not proved from fmt's source: count such statements apart). THE CARD IS WHAT COUNTS. Prove the row's statement (the work); the ties are given (YtdeojhcfbiekmaaDoorTie.lean); close each card by the builder's one call (the guide's Derived/Test/ToyasCard.lean, 'card_holds'). Laid BY PROGRAM, IN A SANDBOX (cutbox-door.mjs). By AI agents, Wed Nov 11 2026. No macro, syntax, notation, axiom, sorry.
-/
import Derived.Test.YtdeojhcfbiekmaaDoorRows
import GoSem.ClaimSeven
namespace Go.Proofs.YtdeojhcfbiekmaaDoor
namespace Rows

/-- THE TIED CARD OF 'citadellaw10.RedoEncodes'. -/
def redoEncodesCard : Claim7 := { stood := { row := redoEncodesRow, standIns := [], harness := (true, "02ea7121c43e2a3ca2ba9c5335c4e2fd07ee2246b670e7239163a3305a411b98"), looks := true }, kinds := [], alts := [], laidByText := true, laidKinds := [.data], laidTests := true, laidLooks := .later }
def RedoEncodesCardSaid : Prop := Claim7.holds Tryd.pinned (.plain (OpenSpec.ofChange redoEncodesSpec)) redoEncodesCard

/-- THE TIED CARD OF 'citadellaw10.RedoDecodes'. -/
def redoDecodesCard : Claim7 := { stood := { row := redoDecodesRow, standIns := [], harness := (true, "02ea7121c43e2a3ca2ba9c5335c4e2fd07ee2246b670e7239163a3305a411b98"), looks := true }, kinds := [], alts := [], laidByText := true, laidKinds := [.data], laidTests := true, laidLooks := .later }
def RedoDecodesCardSaid : Prop := Claim7.holds Tryd.pinned (.plain (OpenSpec.ofChange redoDecodesSpec)) redoDecodesCard

/-- THE TIED CARD OF 'citadellaw10.RedoReturns'. -/
def redoReturnsCard : Claim7 := { stood := { row := redoReturnsRow, standIns := [], harness := (true, "02ea7121c43e2a3ca2ba9c5335c4e2fd07ee2246b670e7239163a3305a411b98"), looks := true }, kinds := [], alts := [], laidByText := true, laidKinds := [.data], laidTests := true, laidLooks := .later }
def RedoReturnsCardSaid : Prop := Claim7.holds Tryd.pinned (.plain (OpenSpec.ofChange redoReturnsSpec)) redoReturnsCard

/-- THE TIED CARD OF 'citadellaw10.RedoMixed'. -/
def redoMixedCard : Claim7 := { stood := { row := redoMixedRow, standIns := [], harness := (true, "02ea7121c43e2a3ca2ba9c5335c4e2fd07ee2246b670e7239163a3305a411b98"), looks := true }, kinds := [], alts := [], laidByText := true, laidKinds := [.data], laidTests := true, laidLooks := .later }
def RedoMixedCardSaid : Prop := Claim7.holds Tryd.pinned (.plain (OpenSpec.ofChange redoMixedSpec)) redoMixedCard

/-- THE TIED CARD OF 'citadellaw10.RedoApart'. -/
def redoApartCard : Claim7 := { stood := { row := redoApartRow, standIns := [], harness := (true, "02ea7121c43e2a3ca2ba9c5335c4e2fd07ee2246b670e7239163a3305a411b98"), looks := true }, kinds := [], alts := [], laidByText := true, laidKinds := [.data], laidTests := true, laidLooks := .later }
def RedoApartCardSaid : Prop := Claim7.holds Tryd.pinned (.plain (OpenSpec.ofChange redoApartSpec)) redoApartCard

/-- THE SECOND FORM's CARD OF 'citadellaw10.RedoEncodes'. -/
def redoEncodesUptoCard : Claim7 := { stood := { row := redoEncodesUptoRow, standIns := [], harness := (true, "02ea7121c43e2a3ca2ba9c5335c4e2fd07ee2246b670e7239163a3305a411b98"), looks := true }, kinds := [], alts := [], laidByText := true, laidKinds := [.data], laidTests := true, laidLooks := .later }
def RedoEncodesUptoCardSaid : Prop := Claim7.holds Tryd.pinned (.plain (OpenSpec.upto redoEncodesSpec)) redoEncodesUptoCard

/-- THE SECOND FORM's CARD OF 'citadellaw10.RedoDecodes'. -/
def redoDecodesUptoCard : Claim7 := { stood := { row := redoDecodesUptoRow, standIns := [], harness := (true, "02ea7121c43e2a3ca2ba9c5335c4e2fd07ee2246b670e7239163a3305a411b98"), looks := true }, kinds := [], alts := [], laidByText := true, laidKinds := [.data], laidTests := true, laidLooks := .later }
def RedoDecodesUptoCardSaid : Prop := Claim7.holds Tryd.pinned (.plain (OpenSpec.upto redoDecodesSpec)) redoDecodesUptoCard

/-- THE SECOND FORM's CARD OF 'citadellaw10.RedoReturns'. -/
def redoReturnsUptoCard : Claim7 := { stood := { row := redoReturnsUptoRow, standIns := [], harness := (true, "02ea7121c43e2a3ca2ba9c5335c4e2fd07ee2246b670e7239163a3305a411b98"), looks := true }, kinds := [], alts := [], laidByText := true, laidKinds := [.data], laidTests := true, laidLooks := .later }
def RedoReturnsUptoCardSaid : Prop := Claim7.holds Tryd.pinned (.plain (OpenSpec.upto redoReturnsSpec)) redoReturnsUptoCard

/-- THE SECOND FORM's CARD OF 'citadellaw10.RedoMixed'. -/
def redoMixedUptoCard : Claim7 := { stood := { row := redoMixedUptoRow, standIns := [], harness := (true, "02ea7121c43e2a3ca2ba9c5335c4e2fd07ee2246b670e7239163a3305a411b98"), looks := true }, kinds := [], alts := [], laidByText := true, laidKinds := [.data], laidTests := true, laidLooks := .later }
def RedoMixedUptoCardSaid : Prop := Claim7.holds Tryd.pinned (.plain (OpenSpec.upto redoMixedSpec)) redoMixedUptoCard

/-- THE SECOND FORM's CARD OF 'citadellaw10.RedoApart'. -/
def redoApartUptoCard : Claim7 := { stood := { row := redoApartUptoRow, standIns := [], harness := (true, "02ea7121c43e2a3ca2ba9c5335c4e2fd07ee2246b670e7239163a3305a411b98"), looks := true }, kinds := [], alts := [], laidByText := true, laidKinds := [.data], laidTests := true, laidLooks := .later }
def RedoApartUptoCardSaid : Prop := Claim7.holds Tryd.pinned (.plain (OpenSpec.upto redoApartSpec)) redoApartUptoCard
end Rows
end Go.Proofs.YtdeojhcfbiekmaaDoor
