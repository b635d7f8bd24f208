/-
  DERIVED. GIVEN WITH THE SEED: THE CARDS: each row of YtibbnnechjmdmaaDoorRows.lean that lists a variable, with what it lists TIED to the program's text (the seventh form; the later family's looks); each row that meets fmt, with fmt's text TOLD by the authors' own Lean function (tested against real Go, not proved from fmt's source: count such statements apart). THE CARD IS WHAT COUNTS. Prove the row's statement (the work); the ties are given (YtibbnnechjmdmaaDoorTie.lean); close each card by the builder's one call (the guide's Derived/Test/ToyasCard.lean, 'card_holds'). Laid BY PROGRAM, IN A SANDBOX (cutbox-door.mjs). By AI agents, Wed Nov 11 2026. No macro, syntax, notation, axiom, sorry.
-/
import Derived.Test.YtibbnnechjmdmaaDoorRows
import GoSem.ClaimSeven
namespace Go.Proofs.YtibbnnechjmdmaaDoor
namespace Rows

/-- THE TIED CARD OF 'citadellaw04.DigestTake'. -/
def digestTakeCard : Claim7 := { stood := { row := digestTakeRow, standIns := [], harness := (true, "f7205cfd815a6bad1c86f1bccfe71f72fe6628e239341f6fbb660aec02113458"), looks := false }, kinds := [], alts := [], laidByText := true, laidKinds := [.data], laidTests := true, laidLooks := .later }
def DigestTakeCardSaid : Prop := Claim7.holds Tryd.pinned (.plain (OpenSpec.ofChange digestTakeSpec)) digestTakeCard

/-- THE TIED CARD OF 'citadellaw04.DigestConstants'. -/
def digestConstantsCard : Claim7 := { stood := { row := digestConstantsRow, standIns := [], harness := (true, "f7205cfd815a6bad1c86f1bccfe71f72fe6628e239341f6fbb660aec02113458"), looks := false }, kinds := [], alts := [], laidByText := true, laidKinds := [.data], laidTests := true, laidLooks := .later }
def DigestConstantsCardSaid : Prop := Claim7.holds Tryd.pinned (.plain (OpenSpec.ofChange digestConstantsSpec)) digestConstantsCard

/-- THE TIED CARD OF 'citadellaw04.DigestOf'. -/
def digestOfCard : Claim7 := { stood := { row := digestOfRow, standIns := [], harness := (true, "f7205cfd815a6bad1c86f1bccfe71f72fe6628e239341f6fbb660aec02113458"), looks := false }, kinds := [], alts := [], laidByText := true, laidKinds := [.data], laidTests := true, laidLooks := .later }
def DigestOfCardSaid : Prop := Claim7.holds Tryd.pinned (.plain (OpenSpec.ofChange digestOfSpec)) digestOfCard

/-- THE TIED CARD OF 'citadellaw04.DigestParts'. -/
def digestPartsCard : Claim7 := { stood := { row := digestPartsRow, standIns := [], harness := (true, "f7205cfd815a6bad1c86f1bccfe71f72fe6628e239341f6fbb660aec02113458"), looks := false }, kinds := [], alts := [], laidByText := true, laidKinds := [.data], laidTests := true, laidLooks := .later }
def DigestPartsCardSaid : Prop := Claim7.holds Tryd.pinned (.plain (OpenSpec.ofChange digestPartsSpec)) digestPartsCard

/-- THE TIED CARD OF 'citadellaw04.DigestPieces'. -/
def digestPiecesCard : Claim7 := { stood := { row := digestPiecesRow, standIns := [], harness := (true, "f7205cfd815a6bad1c86f1bccfe71f72fe6628e239341f6fbb660aec02113458"), looks := false }, kinds := [], alts := [], laidByText := true, laidKinds := [.data], laidTests := true, laidLooks := .later }
def DigestPiecesCardSaid : Prop := Claim7.holds Tryd.pinned (.plain (OpenSpec.ofChange digestPiecesSpec)) digestPiecesCard

/-- THE TIED CARD OF 'citadellaw04.DigestChains'. -/
def digestChainsCard : Claim7 := { stood := { row := digestChainsRow, standIns := [], harness := (true, "f7205cfd815a6bad1c86f1bccfe71f72fe6628e239341f6fbb660aec02113458"), looks := false }, kinds := [], alts := [], laidByText := true, laidKinds := [.data], laidTests := true, laidLooks := .later }
def DigestChainsCardSaid : Prop := Claim7.holds Tryd.pinned (.plain (OpenSpec.ofChange digestChainsSpec)) digestChainsCard

/-- THE SECOND FORM's CARD OF 'citadellaw04.DigestTake'. -/
def digestTakeUptoCard : Claim7 := { stood := { row := digestTakeUptoRow, standIns := [], harness := (true, "f7205cfd815a6bad1c86f1bccfe71f72fe6628e239341f6fbb660aec02113458"), looks := false }, kinds := [], alts := [], laidByText := true, laidKinds := [.data], laidTests := true, laidLooks := .later }
def DigestTakeUptoCardSaid : Prop := Claim7.holds Tryd.pinned (.plain (OpenSpec.upto digestTakeSpec)) digestTakeUptoCard

/-- THE SECOND FORM's CARD OF 'citadellaw04.DigestConstants'. -/
def digestConstantsUptoCard : Claim7 := { stood := { row := digestConstantsUptoRow, standIns := [], harness := (true, "f7205cfd815a6bad1c86f1bccfe71f72fe6628e239341f6fbb660aec02113458"), looks := false }, kinds := [], alts := [], laidByText := true, laidKinds := [.data], laidTests := true, laidLooks := .later }
def DigestConstantsUptoCardSaid : Prop := Claim7.holds Tryd.pinned (.plain (OpenSpec.upto digestConstantsSpec)) digestConstantsUptoCard

/-- THE SECOND FORM's CARD OF 'citadellaw04.DigestOf'. -/
def digestOfUptoCard : Claim7 := { stood := { row := digestOfUptoRow, standIns := [], harness := (true, "f7205cfd815a6bad1c86f1bccfe71f72fe6628e239341f6fbb660aec02113458"), looks := false }, kinds := [], alts := [], laidByText := true, laidKinds := [.data], laidTests := true, laidLooks := .later }
def DigestOfUptoCardSaid : Prop := Claim7.holds Tryd.pinned (.plain (OpenSpec.upto digestOfSpec)) digestOfUptoCard

/-- THE SECOND FORM's CARD OF 'citadellaw04.DigestParts'. -/
def digestPartsUptoCard : Claim7 := { stood := { row := digestPartsUptoRow, standIns := [], harness := (true, "f7205cfd815a6bad1c86f1bccfe71f72fe6628e239341f6fbb660aec02113458"), looks := false }, kinds := [], alts := [], laidByText := true, laidKinds := [.data], laidTests := true, laidLooks := .later }
def DigestPartsUptoCardSaid : Prop := Claim7.holds Tryd.pinned (.plain (OpenSpec.upto digestPartsSpec)) digestPartsUptoCard

/-- THE SECOND FORM's CARD OF 'citadellaw04.DigestPieces'. -/
def digestPiecesUptoCard : Claim7 := { stood := { row := digestPiecesUptoRow, standIns := [], harness := (true, "f7205cfd815a6bad1c86f1bccfe71f72fe6628e239341f6fbb660aec02113458"), looks := false }, kinds := [], alts := [], laidByText := true, laidKinds := [.data], laidTests := true, laidLooks := .later }
def DigestPiecesUptoCardSaid : Prop := Claim7.holds Tryd.pinned (.plain (OpenSpec.upto digestPiecesSpec)) digestPiecesUptoCard

/-- THE SECOND FORM's CARD OF 'citadellaw04.DigestChains'. -/
def digestChainsUptoCard : Claim7 := { stood := { row := digestChainsUptoRow, standIns := [], harness := (true, "f7205cfd815a6bad1c86f1bccfe71f72fe6628e239341f6fbb660aec02113458"), looks := false }, kinds := [], alts := [], laidByText := true, laidKinds := [.data], laidTests := true, laidLooks := .later }
def DigestChainsUptoCardSaid : Prop := Claim7.holds Tryd.pinned (.plain (OpenSpec.upto digestChainsSpec)) digestChainsUptoCard
end Rows
end Go.Proofs.YtibbnnechjmdmaaDoor
