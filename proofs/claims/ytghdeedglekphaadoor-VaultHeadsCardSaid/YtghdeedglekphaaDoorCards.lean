/-
  DERIVED. GIVEN WITH THE SEED: THE CARDS: each row of YtghdeedglekphaaDoorRows.lean that lists a variable, with what it lists TIED to the program's text (the seventh form; the later family's looks); each row that meets fmt, with fmt's text TOLD by the authors' own Lean function (tested against real Go, not proved from fmt's source: count such statements apart). THE CARD IS WHAT COUNTS. Prove the row's statement (the work); the ties are given (YtghdeedglekphaaDoorTie.lean); close each card by the builder's one call (the guide's Derived/Test/ToyasCard.lean, 'card_holds'). Laid BY PROGRAM, IN A SANDBOX (cutbox-door.mjs). By AI agents, Wed Nov 11 2026. No macro, syntax, notation, axiom, sorry.
-/
import Derived.Test.YtghdeedglekphaaDoorRows
import GoSem.ClaimSeven
namespace Go.Proofs.YtghdeedglekphaaDoor
namespace Rows

/-- THE TIED CARD OF 'citadellaw12.VaultHeads'. -/
def vaultHeadsCard : Claim7 := { stood := { row := vaultHeadsRow, standIns := [], harness := (true, "c2c55f2df901e1abbdb2cabfb0729378e22169877fe7c90cd93a8fe0c3e1ba08"), looks := true }, kinds := [], alts := [], laidByText := true, laidKinds := [.data], laidTests := true, laidLooks := .later }
def VaultHeadsCardSaid : Prop := Claim7.holds Tryd.pinned (.plain (OpenSpec.ofChange vaultHeadsSpec)) vaultHeadsCard

/-- THE TIED CARD OF 'citadellaw11.TreeBinds'. -/
def treeBindsCard : Claim7 := { stood := { row := treeBindsRow, standIns := [], harness := (true, "c2c55f2df901e1abbdb2cabfb0729378e22169877fe7c90cd93a8fe0c3e1ba08"), looks := true }, kinds := [], alts := [], laidByText := true, laidKinds := [.data], laidTests := true, laidLooks := .later }
def TreeBindsCardSaid : Prop := Claim7.holds Tryd.pinned (.plain (OpenSpec.ofChange treeBindsSpec)) treeBindsCard

/-- THE SECOND FORM's CARD OF 'citadellaw12.VaultHeads'. -/
def vaultHeadsUptoCard : Claim7 := { stood := { row := vaultHeadsUptoRow, standIns := [], harness := (true, "c2c55f2df901e1abbdb2cabfb0729378e22169877fe7c90cd93a8fe0c3e1ba08"), looks := true }, kinds := [], alts := [], laidByText := true, laidKinds := [.data], laidTests := true, laidLooks := .later }
def VaultHeadsUptoCardSaid : Prop := Claim7.holds Tryd.pinned (.plain (OpenSpec.upto vaultHeadsSpec)) vaultHeadsUptoCard

/-- THE SECOND FORM's CARD OF 'citadellaw11.TreeBinds'. -/
def treeBindsUptoCard : Claim7 := { stood := { row := treeBindsUptoRow, standIns := [], harness := (true, "c2c55f2df901e1abbdb2cabfb0729378e22169877fe7c90cd93a8fe0c3e1ba08"), looks := true }, kinds := [], alts := [], laidByText := true, laidKinds := [.data], laidTests := true, laidLooks := .later }
def TreeBindsUptoCardSaid : Prop := Claim7.holds Tryd.pinned (.plain (OpenSpec.upto treeBindsSpec)) treeBindsUptoCard
end Rows
end Go.Proofs.YtghdeedglekphaaDoor
