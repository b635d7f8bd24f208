/-
  DERIVED. GIVEN WITH THE SEED: THE CARDS: each row of YtbdldnhpgpjnoaaDoorRows.lean that lists a variable, with what it lists TIED to the program's text (the seventh form; the later family's looks); each row that meets fmt, with fmt's text TOLD by the authors' own Lean function (tested against real Go, not proved from fmt's source: count such statements apart). THE CARD IS WHAT COUNTS. Prove the row's statement (the work); the ties are given (YtbdldnhpgpjnoaaDoorTie.lean); close each card by the builder's one call (the guide's Derived/Test/ToyasCard.lean, 'card_holds'). Laid BY PROGRAM, IN A SANDBOX (cutbox-door.mjs). By AI agents, Wed Nov 11 2026. No macro, syntax, notation, axiom, sorry.
-/
import Derived.Test.YtbdldnhpgpjnoaaDoorRows
import GoSem.ClaimSeven
namespace Go.Proofs.YtbdldnhpgpjnoaaDoor
namespace Rows

/-- THE TIED CARD OF 'citadellaw11.TreeLeaf'. -/
def treeLeafCard : Claim7 := { stood := { row := treeLeafRow, standIns := [], harness := (true, "9cdaf957ca4f470c175790aa6dd30bf08ec4d45d6deccd3b138243499fd01b2a"), looks := true }, kinds := [], alts := [], laidByText := true, laidKinds := [.data], laidTests := true, laidLooks := .later }
def TreeLeafCardSaid : Prop := Claim7.holds Tryd.pinned (.plain (OpenSpec.ofChange treeLeafSpec)) treeLeafCard

/-- THE TIED CARD OF 'citadellaw11.TreeJoins'. -/
def treeJoinsCard : Claim7 := { stood := { row := treeJoinsRow, standIns := [], harness := (true, "9cdaf957ca4f470c175790aa6dd30bf08ec4d45d6deccd3b138243499fd01b2a"), looks := true }, kinds := [], alts := [], laidByText := true, laidKinds := [.data], laidTests := true, laidLooks := .later }
def TreeJoinsCardSaid : Prop := Claim7.holds Tryd.pinned (.plain (OpenSpec.ofChange treeJoinsSpec)) treeJoinsCard

/-- THE TIED CARD OF 'citadellaw11.TreePath'. -/
def treePathCard : Claim7 := { stood := { row := treePathRow, standIns := [], harness := (true, "9cdaf957ca4f470c175790aa6dd30bf08ec4d45d6deccd3b138243499fd01b2a"), looks := true }, kinds := [], alts := [], laidByText := true, laidKinds := [.data], laidTests := true, laidLooks := .later }
def TreePathCardSaid : Prop := Claim7.holds Tryd.pinned (.plain (OpenSpec.ofChange treePathSpec)) treePathCard

/-- THE TIED CARD OF 'citadellaw11.TreeBuilds'. -/
def treeBuildsCard : Claim7 := { stood := { row := treeBuildsRow, standIns := [], harness := (true, "9cdaf957ca4f470c175790aa6dd30bf08ec4d45d6deccd3b138243499fd01b2a"), looks := true }, kinds := [], alts := [], laidByText := true, laidKinds := [.data], laidTests := true, laidLooks := .later }
def TreeBuildsCardSaid : Prop := Claim7.holds Tryd.pinned (.plain (OpenSpec.ofChange treeBuildsSpec)) treeBuildsCard

/-- THE TIED CARD OF 'citadellaw11.TreeTurns'. -/
def treeTurnsCard : Claim7 := { stood := { row := treeTurnsRow, standIns := [], harness := (true, "9cdaf957ca4f470c175790aa6dd30bf08ec4d45d6deccd3b138243499fd01b2a"), looks := true }, kinds := [], alts := [], laidByText := true, laidKinds := [.data], laidTests := true, laidLooks := .later }
def TreeTurnsCardSaid : Prop := Claim7.holds Tryd.pinned (.plain (OpenSpec.ofChange treeTurnsSpec)) treeTurnsCard

/-- THE TIED CARD OF 'citadellaw11.TreeHolds'. -/
def treeHoldsCard : Claim7 := { stood := { row := treeHoldsRow, standIns := [], harness := (true, "9cdaf957ca4f470c175790aa6dd30bf08ec4d45d6deccd3b138243499fd01b2a"), looks := true }, kinds := [], alts := [], laidByText := true, laidKinds := [.data], laidTests := true, laidLooks := .later }
def TreeHoldsCardSaid : Prop := Claim7.holds Tryd.pinned (.plain (OpenSpec.ofChange treeHoldsSpec)) treeHoldsCard

/-- THE TIED CARD OF 'citadellaw11.TreeBinds'. -/
def treeBindsCard : Claim7 := { stood := { row := treeBindsRow, standIns := [], harness := (true, "9cdaf957ca4f470c175790aa6dd30bf08ec4d45d6deccd3b138243499fd01b2a"), looks := true }, kinds := [], alts := [], laidByText := true, laidKinds := [.data], laidTests := true, laidLooks := .later }
def TreeBindsCardSaid : Prop := Claim7.holds Tryd.pinned (.plain (OpenSpec.ofChange treeBindsSpec)) treeBindsCard

/-- THE TIED CARD OF 'citadellaw11.TreeOthers'. -/
def treeOthersCard : Claim7 := { stood := { row := treeOthersRow, standIns := [], harness := (true, "9cdaf957ca4f470c175790aa6dd30bf08ec4d45d6deccd3b138243499fd01b2a"), looks := true }, kinds := [], alts := [], laidByText := true, laidKinds := [.data], laidTests := true, laidLooks := .later }
def TreeOthersCardSaid : Prop := Claim7.holds Tryd.pinned (.plain (OpenSpec.ofChange treeOthersSpec)) treeOthersCard

/-- THE SECOND FORM's CARD OF 'citadellaw11.TreeLeaf'. -/
def treeLeafUptoCard : Claim7 := { stood := { row := treeLeafUptoRow, standIns := [], harness := (true, "9cdaf957ca4f470c175790aa6dd30bf08ec4d45d6deccd3b138243499fd01b2a"), looks := true }, kinds := [], alts := [], laidByText := true, laidKinds := [.data], laidTests := true, laidLooks := .later }
def TreeLeafUptoCardSaid : Prop := Claim7.holds Tryd.pinned (.plain (OpenSpec.upto treeLeafSpec)) treeLeafUptoCard

/-- THE SECOND FORM's CARD OF 'citadellaw11.TreeJoins'. -/
def treeJoinsUptoCard : Claim7 := { stood := { row := treeJoinsUptoRow, standIns := [], harness := (true, "9cdaf957ca4f470c175790aa6dd30bf08ec4d45d6deccd3b138243499fd01b2a"), looks := true }, kinds := [], alts := [], laidByText := true, laidKinds := [.data], laidTests := true, laidLooks := .later }
def TreeJoinsUptoCardSaid : Prop := Claim7.holds Tryd.pinned (.plain (OpenSpec.upto treeJoinsSpec)) treeJoinsUptoCard

/-- THE SECOND FORM's CARD OF 'citadellaw11.TreePath'. -/
def treePathUptoCard : Claim7 := { stood := { row := treePathUptoRow, standIns := [], harness := (true, "9cdaf957ca4f470c175790aa6dd30bf08ec4d45d6deccd3b138243499fd01b2a"), looks := true }, kinds := [], alts := [], laidByText := true, laidKinds := [.data], laidTests := true, laidLooks := .later }
def TreePathUptoCardSaid : Prop := Claim7.holds Tryd.pinned (.plain (OpenSpec.upto treePathSpec)) treePathUptoCard

/-- THE SECOND FORM's CARD OF 'citadellaw11.TreeBuilds'. -/
def treeBuildsUptoCard : Claim7 := { stood := { row := treeBuildsUptoRow, standIns := [], harness := (true, "9cdaf957ca4f470c175790aa6dd30bf08ec4d45d6deccd3b138243499fd01b2a"), looks := true }, kinds := [], alts := [], laidByText := true, laidKinds := [.data], laidTests := true, laidLooks := .later }
def TreeBuildsUptoCardSaid : Prop := Claim7.holds Tryd.pinned (.plain (OpenSpec.upto treeBuildsSpec)) treeBuildsUptoCard

/-- THE SECOND FORM's CARD OF 'citadellaw11.TreeTurns'. -/
def treeTurnsUptoCard : Claim7 := { stood := { row := treeTurnsUptoRow, standIns := [], harness := (true, "9cdaf957ca4f470c175790aa6dd30bf08ec4d45d6deccd3b138243499fd01b2a"), looks := true }, kinds := [], alts := [], laidByText := true, laidKinds := [.data], laidTests := true, laidLooks := .later }
def TreeTurnsUptoCardSaid : Prop := Claim7.holds Tryd.pinned (.plain (OpenSpec.upto treeTurnsSpec)) treeTurnsUptoCard

/-- THE SECOND FORM's CARD OF 'citadellaw11.TreeHolds'. -/
def treeHoldsUptoCard : Claim7 := { stood := { row := treeHoldsUptoRow, standIns := [], harness := (true, "9cdaf957ca4f470c175790aa6dd30bf08ec4d45d6deccd3b138243499fd01b2a"), looks := true }, kinds := [], alts := [], laidByText := true, laidKinds := [.data], laidTests := true, laidLooks := .later }
def TreeHoldsUptoCardSaid : Prop := Claim7.holds Tryd.pinned (.plain (OpenSpec.upto treeHoldsSpec)) treeHoldsUptoCard

/-- THE SECOND FORM's CARD OF 'citadellaw11.TreeBinds'. -/
def treeBindsUptoCard : Claim7 := { stood := { row := treeBindsUptoRow, standIns := [], harness := (true, "9cdaf957ca4f470c175790aa6dd30bf08ec4d45d6deccd3b138243499fd01b2a"), looks := true }, kinds := [], alts := [], laidByText := true, laidKinds := [.data], laidTests := true, laidLooks := .later }
def TreeBindsUptoCardSaid : Prop := Claim7.holds Tryd.pinned (.plain (OpenSpec.upto treeBindsSpec)) treeBindsUptoCard

/-- THE SECOND FORM's CARD OF 'citadellaw11.TreeOthers'. -/
def treeOthersUptoCard : Claim7 := { stood := { row := treeOthersUptoRow, standIns := [], harness := (true, "9cdaf957ca4f470c175790aa6dd30bf08ec4d45d6deccd3b138243499fd01b2a"), looks := true }, kinds := [], alts := [], laidByText := true, laidKinds := [.data], laidTests := true, laidLooks := .later }
def TreeOthersUptoCardSaid : Prop := Claim7.holds Tryd.pinned (.plain (OpenSpec.upto treeOthersSpec)) treeOthersUptoCard
end Rows
end Go.Proofs.YtbdldnhpgpjnoaaDoor
