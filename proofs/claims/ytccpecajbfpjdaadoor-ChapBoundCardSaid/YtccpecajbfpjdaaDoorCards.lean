/-
  DERIVED. GIVEN WITH THE SEED: THE CARDS: each row of YtccpecajbfpjdaaDoorRows.lean that lists a variable, with what it lists TIED to the program's text (the seventh form; the later family's looks); each row that meets fmt, with fmt's text TOLD by the authors' own Lean function (tested against real Go, not proved from fmt's source: count such statements apart). THE CARD IS WHAT COUNTS. Prove the row's statement (the work); the ties are given (YtccpecajbfpjdaaDoorTie.lean); close each card by the builder's one call (the guide's Derived/Test/ToyasCard.lean, 'card_holds'). Laid BY PROGRAM, IN A SANDBOX (cutbox-door.mjs). By AI agents, Wed Nov 11 2026. No macro, syntax, notation, axiom, sorry.
-/
import Derived.Test.YtccpecajbfpjdaaDoorRows
import GoSem.ClaimSeven
namespace Go.Proofs.YtccpecajbfpjdaaDoor
namespace Rows

/-- THE TIED CARD OF 'citadellaw16.ChapAnswers'. -/
def chapAnswersCard : Claim7 := { stood := { row := chapAnswersRow, standIns := [], harness := (true, "fe2b54f320b46724d36697ff86eea2ee1142ca5255bc475a87788847d3b0ab21"), looks := false }, kinds := [], alts := [], laidByText := true, laidKinds := [.data], laidTests := true, laidLooks := .later }
def ChapAnswersCardSaid : Prop := Claim7.holds Tryd.pinned (.plain (OpenSpec.ofChange chapAnswersSpec)) chapAnswersCard

/-- THE TIED CARD OF 'citadellaw16.ChapRights'. -/
def chapRightsCard : Claim7 := { stood := { row := chapRightsRow, standIns := [], harness := (true, "fe2b54f320b46724d36697ff86eea2ee1142ca5255bc475a87788847d3b0ab21"), looks := false }, kinds := [], alts := [], laidByText := true, laidKinds := [.data], laidTests := true, laidLooks := .later }
def ChapRightsCardSaid : Prop := Claim7.holds Tryd.pinned (.plain (OpenSpec.ofChange chapRightsSpec)) chapRightsCard

/-- THE TIED CARD OF 'citadellaw16.ChapBound'. -/
def chapBoundCard : Claim7 := { stood := { row := chapBoundRow, standIns := [], harness := (true, "fe2b54f320b46724d36697ff86eea2ee1142ca5255bc475a87788847d3b0ab21"), looks := false }, kinds := [], alts := [], laidByText := true, laidKinds := [.data], laidTests := true, laidLooks := .later }
def ChapBoundCardSaid : Prop := Claim7.holds Tryd.pinned (.plain (OpenSpec.ofChange chapBoundSpec)) chapBoundCard

/-- THE TIED CARD OF 'citadellaw16.ChapDraws'. -/
def chapDrawsCard : Claim7 := { stood := { row := chapDrawsRow, standIns := [], harness := (true, "fe2b54f320b46724d36697ff86eea2ee1142ca5255bc475a87788847d3b0ab21"), looks := false }, kinds := [], alts := [], laidByText := true, laidKinds := [.data], laidTests := true, laidLooks := .later }
def ChapDrawsCardSaid : Prop := Claim7.holds Tryd.pinned (.plain (OpenSpec.ofChange chapDrawsSpec)) chapDrawsCard

/-- THE TIED CARD OF 'citadellaw16.ChapFresh'. -/
def chapFreshCard : Claim7 := { stood := { row := chapFreshRow, standIns := [], harness := (true, "fe2b54f320b46724d36697ff86eea2ee1142ca5255bc475a87788847d3b0ab21"), looks := false }, kinds := [], alts := [], laidByText := true, laidKinds := [.data], laidTests := true, laidLooks := .later }
def ChapFreshCardSaid : Prop := Claim7.holds Tryd.pinned (.plain (OpenSpec.ofChange chapFreshSpec)) chapFreshCard

/-- THE TIED CARD OF 'citadellaw16.ChapGoes'. -/
def chapGoesCard : Claim7 := { stood := { row := chapGoesRow, standIns := [], harness := (true, "fe2b54f320b46724d36697ff86eea2ee1142ca5255bc475a87788847d3b0ab21"), looks := false }, kinds := [], alts := [], laidByText := true, laidKinds := [.data], laidTests := true, laidLooks := .later }
def ChapGoesCardSaid : Prop := Claim7.holds Tryd.pinned (.plain (OpenSpec.ofChange chapGoesSpec)) chapGoesCard

/-- THE SECOND FORM's CARD OF 'citadellaw16.ChapAnswers'. -/
def chapAnswersUptoCard : Claim7 := { stood := { row := chapAnswersUptoRow, standIns := [], harness := (true, "fe2b54f320b46724d36697ff86eea2ee1142ca5255bc475a87788847d3b0ab21"), looks := false }, kinds := [], alts := [], laidByText := true, laidKinds := [.data], laidTests := true, laidLooks := .later }
def ChapAnswersUptoCardSaid : Prop := Claim7.holds Tryd.pinned (.plain (OpenSpec.upto chapAnswersSpec)) chapAnswersUptoCard

/-- THE SECOND FORM's CARD OF 'citadellaw16.ChapRights'. -/
def chapRightsUptoCard : Claim7 := { stood := { row := chapRightsUptoRow, standIns := [], harness := (true, "fe2b54f320b46724d36697ff86eea2ee1142ca5255bc475a87788847d3b0ab21"), looks := false }, kinds := [], alts := [], laidByText := true, laidKinds := [.data], laidTests := true, laidLooks := .later }
def ChapRightsUptoCardSaid : Prop := Claim7.holds Tryd.pinned (.plain (OpenSpec.upto chapRightsSpec)) chapRightsUptoCard

/-- THE SECOND FORM's CARD OF 'citadellaw16.ChapBound'. -/
def chapBoundUptoCard : Claim7 := { stood := { row := chapBoundUptoRow, standIns := [], harness := (true, "fe2b54f320b46724d36697ff86eea2ee1142ca5255bc475a87788847d3b0ab21"), looks := false }, kinds := [], alts := [], laidByText := true, laidKinds := [.data], laidTests := true, laidLooks := .later }
def ChapBoundUptoCardSaid : Prop := Claim7.holds Tryd.pinned (.plain (OpenSpec.upto chapBoundSpec)) chapBoundUptoCard

/-- THE SECOND FORM's CARD OF 'citadellaw16.ChapDraws'. -/
def chapDrawsUptoCard : Claim7 := { stood := { row := chapDrawsUptoRow, standIns := [], harness := (true, "fe2b54f320b46724d36697ff86eea2ee1142ca5255bc475a87788847d3b0ab21"), looks := false }, kinds := [], alts := [], laidByText := true, laidKinds := [.data], laidTests := true, laidLooks := .later }
def ChapDrawsUptoCardSaid : Prop := Claim7.holds Tryd.pinned (.plain (OpenSpec.upto chapDrawsSpec)) chapDrawsUptoCard

/-- THE SECOND FORM's CARD OF 'citadellaw16.ChapFresh'. -/
def chapFreshUptoCard : Claim7 := { stood := { row := chapFreshUptoRow, standIns := [], harness := (true, "fe2b54f320b46724d36697ff86eea2ee1142ca5255bc475a87788847d3b0ab21"), looks := false }, kinds := [], alts := [], laidByText := true, laidKinds := [.data], laidTests := true, laidLooks := .later }
def ChapFreshUptoCardSaid : Prop := Claim7.holds Tryd.pinned (.plain (OpenSpec.upto chapFreshSpec)) chapFreshUptoCard

/-- THE SECOND FORM's CARD OF 'citadellaw16.ChapGoes'. -/
def chapGoesUptoCard : Claim7 := { stood := { row := chapGoesUptoRow, standIns := [], harness := (true, "fe2b54f320b46724d36697ff86eea2ee1142ca5255bc475a87788847d3b0ab21"), looks := false }, kinds := [], alts := [], laidByText := true, laidKinds := [.data], laidTests := true, laidLooks := .later }
def ChapGoesUptoCardSaid : Prop := Claim7.holds Tryd.pinned (.plain (OpenSpec.upto chapGoesSpec)) chapGoesUptoCard
end Rows
end Go.Proofs.YtccpecajbfpjdaaDoor
