/-
  DERIVED. GIVEN WITH THE SEED: THE CARDS: each row of YtfjbehobpkmjbaaDoorRows.lean that lists a variable, with what it lists TIED to the program's text (the seventh form; the later family's looks); each row that meets fmt, with fmt's text TOLD by the authors' own Lean function (tested against real Go, not proved from fmt's source: count such statements apart). THE CARD IS WHAT COUNTS. Prove the row's statement (the work); the ties are given (YtfjbehobpkmjbaaDoorTie.lean); close each card by the builder's one call (the guide's Derived/Test/ToyasCard.lean, 'card_holds'). Laid BY PROGRAM, IN A SANDBOX (cutbox-door.mjs). By AI agents, Wed Nov 11 2026. No macro, syntax, notation, axiom, sorry.
-/
import Derived.Test.YtfjbehobpkmjbaaDoorRows
import GoSem.ClaimSeven
namespace Go.Proofs.YtfjbehobpkmjbaaDoor
namespace Rows

/-- THE TIED CARD OF 'citadellaw05.MacPiece'. -/
def macPieceCard : Claim7 := { stood := { row := macPieceRow, standIns := [], harness := (true, "72f2077fc948681907f26b31a4bacbb36c81689644d2b26bb4272bed603e5c38"), looks := false }, kinds := [], alts := [], laidByText := true, laidKinds := [.data], laidTests := true, laidLooks := .later }
def MacPieceCardSaid : Prop := Claim7.holds Tryd.pinned (.plain (OpenSpec.ofChange macPieceSpec)) macPieceCard

/-- THE TIED CARD OF 'citadellaw05.MacTag'. -/
def macTagCard : Claim7 := { stood := { row := macTagRow, standIns := [], harness := (true, "72f2077fc948681907f26b31a4bacbb36c81689644d2b26bb4272bed603e5c38"), looks := false }, kinds := [], alts := [], laidByText := true, laidKinds := [.data], laidTests := true, laidLooks := .later }
def MacTagCardSaid : Prop := Claim7.holds Tryd.pinned (.plain (OpenSpec.ofChange macTagSpec)) macTagCard

/-- THE TIED CARD OF 'citadellaw05.MacParted'. -/
def macPartedCard : Claim7 := { stood := { row := macPartedRow, standIns := [], harness := (true, "72f2077fc948681907f26b31a4bacbb36c81689644d2b26bb4272bed603e5c38"), looks := false }, kinds := [], alts := [], laidByText := true, laidKinds := [.data], laidTests := true, laidLooks := .later }
def MacPartedCardSaid : Prop := Claim7.holds Tryd.pinned (.plain (OpenSpec.ofChange macPartedSpec)) macPartedCard

/-- THE TIED CARD OF 'citadellaw05.MacStream'. -/
def macStreamCard : Claim7 := { stood := { row := macStreamRow, standIns := [], harness := (true, "72f2077fc948681907f26b31a4bacbb36c81689644d2b26bb4272bed603e5c38"), looks := false }, kinds := [], alts := [], laidByText := true, laidKinds := [.data], laidTests := true, laidLooks := .later }
def MacStreamCardSaid : Prop := Claim7.holds Tryd.pinned (.plain (OpenSpec.ofChange macStreamSpec)) macStreamCard

/-- THE TIED CARD OF 'citadellaw05.MacDerives'. -/
def macDerivesCard : Claim7 := { stood := { row := macDerivesRow, standIns := [], harness := (true, "72f2077fc948681907f26b31a4bacbb36c81689644d2b26bb4272bed603e5c38"), looks := false }, kinds := [], alts := [], laidByText := true, laidKinds := [.data], laidTests := true, laidLooks := .later }
def MacDerivesCardSaid : Prop := Claim7.holds Tryd.pinned (.plain (OpenSpec.ofChange macDerivesSpec)) macDerivesCard

/-- THE TIED CARD OF 'citadellaw05.MacLonger'. -/
def macLongerCard : Claim7 := { stood := { row := macLongerRow, standIns := [], harness := (true, "72f2077fc948681907f26b31a4bacbb36c81689644d2b26bb4272bed603e5c38"), looks := false }, kinds := [], alts := [], laidByText := true, laidKinds := [.data], laidTests := true, laidLooks := .later }
def MacLongerCardSaid : Prop := Claim7.holds Tryd.pinned (.plain (OpenSpec.ofChange macLongerSpec)) macLongerCard

/-- THE TIED CARD OF 'citadellaw05.MacKeys'. -/
def macKeysCard : Claim7 := { stood := { row := macKeysRow, standIns := [], harness := (true, "72f2077fc948681907f26b31a4bacbb36c81689644d2b26bb4272bed603e5c38"), looks := false }, kinds := [], alts := [], laidByText := true, laidKinds := [.data], laidTests := true, laidLooks := .later }
def MacKeysCardSaid : Prop := Claim7.holds Tryd.pinned (.plain (OpenSpec.ofChange macKeysSpec)) macKeysCard

/-- THE SECOND FORM's CARD OF 'citadellaw05.MacPiece'. -/
def macPieceUptoCard : Claim7 := { stood := { row := macPieceUptoRow, standIns := [], harness := (true, "72f2077fc948681907f26b31a4bacbb36c81689644d2b26bb4272bed603e5c38"), looks := false }, kinds := [], alts := [], laidByText := true, laidKinds := [.data], laidTests := true, laidLooks := .later }
def MacPieceUptoCardSaid : Prop := Claim7.holds Tryd.pinned (.plain (OpenSpec.upto macPieceSpec)) macPieceUptoCard

/-- THE SECOND FORM's CARD OF 'citadellaw05.MacTag'. -/
def macTagUptoCard : Claim7 := { stood := { row := macTagUptoRow, standIns := [], harness := (true, "72f2077fc948681907f26b31a4bacbb36c81689644d2b26bb4272bed603e5c38"), looks := false }, kinds := [], alts := [], laidByText := true, laidKinds := [.data], laidTests := true, laidLooks := .later }
def MacTagUptoCardSaid : Prop := Claim7.holds Tryd.pinned (.plain (OpenSpec.upto macTagSpec)) macTagUptoCard

/-- THE SECOND FORM's CARD OF 'citadellaw05.MacParted'. -/
def macPartedUptoCard : Claim7 := { stood := { row := macPartedUptoRow, standIns := [], harness := (true, "72f2077fc948681907f26b31a4bacbb36c81689644d2b26bb4272bed603e5c38"), looks := false }, kinds := [], alts := [], laidByText := true, laidKinds := [.data], laidTests := true, laidLooks := .later }
def MacPartedUptoCardSaid : Prop := Claim7.holds Tryd.pinned (.plain (OpenSpec.upto macPartedSpec)) macPartedUptoCard

/-- THE SECOND FORM's CARD OF 'citadellaw05.MacStream'. -/
def macStreamUptoCard : Claim7 := { stood := { row := macStreamUptoRow, standIns := [], harness := (true, "72f2077fc948681907f26b31a4bacbb36c81689644d2b26bb4272bed603e5c38"), looks := false }, kinds := [], alts := [], laidByText := true, laidKinds := [.data], laidTests := true, laidLooks := .later }
def MacStreamUptoCardSaid : Prop := Claim7.holds Tryd.pinned (.plain (OpenSpec.upto macStreamSpec)) macStreamUptoCard

/-- THE SECOND FORM's CARD OF 'citadellaw05.MacDerives'. -/
def macDerivesUptoCard : Claim7 := { stood := { row := macDerivesUptoRow, standIns := [], harness := (true, "72f2077fc948681907f26b31a4bacbb36c81689644d2b26bb4272bed603e5c38"), looks := false }, kinds := [], alts := [], laidByText := true, laidKinds := [.data], laidTests := true, laidLooks := .later }
def MacDerivesUptoCardSaid : Prop := Claim7.holds Tryd.pinned (.plain (OpenSpec.upto macDerivesSpec)) macDerivesUptoCard

/-- THE SECOND FORM's CARD OF 'citadellaw05.MacLonger'. -/
def macLongerUptoCard : Claim7 := { stood := { row := macLongerUptoRow, standIns := [], harness := (true, "72f2077fc948681907f26b31a4bacbb36c81689644d2b26bb4272bed603e5c38"), looks := false }, kinds := [], alts := [], laidByText := true, laidKinds := [.data], laidTests := true, laidLooks := .later }
def MacLongerUptoCardSaid : Prop := Claim7.holds Tryd.pinned (.plain (OpenSpec.upto macLongerSpec)) macLongerUptoCard

/-- THE SECOND FORM's CARD OF 'citadellaw05.MacKeys'. -/
def macKeysUptoCard : Claim7 := { stood := { row := macKeysUptoRow, standIns := [], harness := (true, "72f2077fc948681907f26b31a4bacbb36c81689644d2b26bb4272bed603e5c38"), looks := false }, kinds := [], alts := [], laidByText := true, laidKinds := [.data], laidTests := true, laidLooks := .later }
def MacKeysUptoCardSaid : Prop := Claim7.holds Tryd.pinned (.plain (OpenSpec.upto macKeysSpec)) macKeysUptoCard
end Rows
end Go.Proofs.YtfjbehobpkmjbaaDoor
