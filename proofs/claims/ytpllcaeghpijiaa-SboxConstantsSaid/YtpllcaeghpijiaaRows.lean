/-
  No cell of these rows narrows 'for every input' (looked for: loops, veiled, ifaces, maps, wideKeys, modest, calm, conditions, laid).
  DERIVED. THE GIVEN ROWS OF THIS SEAT. 6 by the template 'for every input the law returns true; each argument reads behind the call as it read before'; 0 by the template 'total and deterministic' (their statements: YtpllcaeghpijiaaTotals.lean).
  GIVEN WITH THE SEED: the statements are not yours to turn. If you find one false, say at which input.
  Laid BY PROGRAM, IN A SANDBOX (cutbox-rows.mjs): the forced cells as the released guide's own fill.sh prints them over the translation d0e432a10298ed41… (all of the seat's roots in one cut). By AI agents, Wed Nov 11 2026. No macro, syntax, notation, axiom, sorry.
-/
import Derived.Test.YtpllcaeghpijiaaChecked
import GoSem.Claim
import GoSem.ClaimJoined
import GoSem.ClaimMapViews
import Derived.JoinedTies
import Derived.KernelRfl
namespace Go.Proofs.Ytpllcaeghpijiaa
/- THE CELL 'sum', in the pinned program and in every row, IS THE sha256 OF THE DUMP (.gsa) THAT YtpllcaeghpijiaaProg.lean LOADS. Nothing in Lean hashes anything: it is a label: what it is worth is what the hold of that sum in a sandbox is worth. -/
noncomputable def Try.pinned : Pinned := { name := "ytpllcaeghpijiaa", sum := "d0e432a10298ed41ec45f98dec192deea565db77648c859a038df42e380e6572", checked := Try.checked }
namespace Rows
def none {H : Type} : Left H := { results := [], args := [] }

/-- 'citadellaw02.SboxSub': WHATEVER THE INPUT: true; the input reads as it did. -/
def sboxSubSpec : ChangeSpec := { name := "sboxSub", fn := fun _ => fun
  | [d] => { results := [.lit (.bool true)], args := [d] }
  | _ => none }
def sboxSubRow : OpenClaim := { program := "ytpllcaeghpijiaa", sum := "d0e432a10298ed41ec45f98dec192deea565db77648c859a038df42e380e6572", func := "citadel/citadellaw02.SboxSub", spec := "sboxSub", apart := false }
def SboxSubSaid : Prop := sboxSubRow.holds Try.pinned (OpenSpec.ofChange sboxSubSpec)

/-- ITS FALSE NEIGHBOUR: 'it returns false'. Refute it at one input. -/
def sboxSubWrong : ChangeSpec := { name := "sboxSub", fn := fun _ => fun
  | [d] => { results := [.lit (.bool false)], args := [d] }
  | _ => none }
def SboxSubWrongFalsely : Prop := sboxSubRow.holds Try.pinned (OpenSpec.ofChange sboxSubWrong)

/-- 'citadellaw02.SboxBack': WHATEVER THE INPUT: true; the input reads as it did. -/
def sboxBackSpec : ChangeSpec := { name := "sboxBack", fn := fun _ => fun
  | [d] => { results := [.lit (.bool true)], args := [d] }
  | _ => none }
def sboxBackRow : OpenClaim := { program := "ytpllcaeghpijiaa", sum := "d0e432a10298ed41ec45f98dec192deea565db77648c859a038df42e380e6572", func := "citadel/citadellaw02.SboxBack", spec := "sboxBack", apart := false }
def SboxBackSaid : Prop := sboxBackRow.holds Try.pinned (OpenSpec.ofChange sboxBackSpec)

/-- ITS FALSE NEIGHBOUR: 'it returns false'. Refute it at one input. -/
def sboxBackWrong : ChangeSpec := { name := "sboxBack", fn := fun _ => fun
  | [d] => { results := [.lit (.bool false)], args := [d] }
  | _ => none }
def SboxBackWrongFalsely : Prop := sboxBackRow.holds Try.pinned (OpenSpec.ofChange sboxBackWrong)

/-- 'citadellaw02.SboxTurns': WHATEVER THE INPUT: true; the input reads as it did. -/
def sboxTurnsSpec : ChangeSpec := { name := "sboxTurns", fn := fun _ => fun
  | [d] => { results := [.lit (.bool true)], args := [d] }
  | _ => none }
def sboxTurnsRow : OpenClaim := { program := "ytpllcaeghpijiaa", sum := "d0e432a10298ed41ec45f98dec192deea565db77648c859a038df42e380e6572", func := "citadel/citadellaw02.SboxTurns", spec := "sboxTurns", apart := false }
def SboxTurnsSaid : Prop := sboxTurnsRow.holds Try.pinned (OpenSpec.ofChange sboxTurnsSpec)

/-- ITS FALSE NEIGHBOUR: 'it returns false'. Refute it at one input. -/
def sboxTurnsWrong : ChangeSpec := { name := "sboxTurns", fn := fun _ => fun
  | [d] => { results := [.lit (.bool false)], args := [d] }
  | _ => none }
def SboxTurnsWrongFalsely : Prop := sboxTurnsRow.holds Try.pinned (OpenSpec.ofChange sboxTurnsWrong)

/-- 'citadellaw02.SboxWords': WHATEVER THE INPUT: true; the input reads as it did. -/
def sboxWordsSpec : ChangeSpec := { name := "sboxWords", fn := fun _ => fun
  | [d] => { results := [.lit (.bool true)], args := [d] }
  | _ => none }
def sboxWordsRow : OpenClaim := { program := "ytpllcaeghpijiaa", sum := "d0e432a10298ed41ec45f98dec192deea565db77648c859a038df42e380e6572", func := "citadel/citadellaw02.SboxWords", spec := "sboxWords", apart := false }
def SboxWordsSaid : Prop := sboxWordsRow.holds Try.pinned (OpenSpec.ofChange sboxWordsSpec)

/-- ITS FALSE NEIGHBOUR: 'it returns false'. Refute it at one input. -/
def sboxWordsWrong : ChangeSpec := { name := "sboxWords", fn := fun _ => fun
  | [d] => { results := [.lit (.bool false)], args := [d] }
  | _ => none }
def SboxWordsWrongFalsely : Prop := sboxWordsRow.holds Try.pinned (OpenSpec.ofChange sboxWordsWrong)

/-- 'citadellaw02.SboxConstants': WHATEVER THE INPUT: true; the input reads as it did. -/
def sboxConstantsSpec : ChangeSpec := { name := "sboxConstants", fn := fun _ => fun
  | [d] => { results := [.lit (.bool true)], args := [d] }
  | _ => none }
def sboxConstantsRow : OpenClaim := { program := "ytpllcaeghpijiaa", sum := "d0e432a10298ed41ec45f98dec192deea565db77648c859a038df42e380e6572", func := "citadel/citadellaw02.SboxConstants", spec := "sboxConstants", unfollowed := true, recurses := true, apart := false }
def SboxConstantsSaid : Prop := sboxConstantsRow.holds Try.pinned (OpenSpec.ofChange sboxConstantsSpec)

/-- ITS FALSE NEIGHBOUR: 'it returns false'. Refute it at one input. -/
def sboxConstantsWrong : ChangeSpec := { name := "sboxConstants", fn := fun _ => fun
  | [d] => { results := [.lit (.bool false)], args := [d] }
  | _ => none }
def SboxConstantsWrongFalsely : Prop := sboxConstantsRow.holds Try.pinned (OpenSpec.ofChange sboxConstantsWrong)

/-- 'citadellaw02.SboxBlocks': WHATEVER THE INPUT: true; the input reads as it did. -/
def sboxBlocksSpec : ChangeSpec := { name := "sboxBlocks", fn := fun _ => fun
  | [d] => { results := [.lit (.bool true)], args := [d] }
  | _ => none }
def sboxBlocksRow : OpenClaim := { program := "ytpllcaeghpijiaa", sum := "d0e432a10298ed41ec45f98dec192deea565db77648c859a038df42e380e6572", func := "citadel/citadellaw02.SboxBlocks", spec := "sboxBlocks", apart := false }
def SboxBlocksSaid : Prop := sboxBlocksRow.holds Try.pinned (OpenSpec.ofChange sboxBlocksSpec)

/-- ITS FALSE NEIGHBOUR: 'it returns false'. Refute it at one input. -/
def sboxBlocksWrong : ChangeSpec := { name := "sboxBlocks", fn := fun _ => fun
  | [d] => { results := [.lit (.bool false)], args := [d] }
  | _ => none }
def SboxBlocksWrongFalsely : Prop := sboxBlocksRow.holds Try.pinned (OpenSpec.ofChange sboxBlocksWrong)

/- THE SECOND FORM. 'bulk': how many values and letters a reading holds, each counted each time it is reached (what is shared counts as often as it is met; a slice's spare places count too). A statement '..UptoSaid' is the law's where the arguments, and the package variables that the reading takes, are together of bulk at most 1048576: NARROWER than '..Said'. Prove '..Said' where nothing that the law and all that it calls make is longer than what came in: it says more and counts as full. Else prove '..UptoSaid'. A law counts once. -/
mutual
def uptoBulk {H : Type} : DataW H → Nat
  | .lit (.string bytes) => bytes.length + 1
  | .lit _ => 1
  | .nil => 1
  | .ptr d => uptoBulk d + 1
  | .slice elems spare => uptoBulkAll elems + uptoBulkAll spare + 1
  | .agg parts => uptoBulkAll parts + 1
  | .iface _ d => uptoBulk d + 1
  | .map entries => uptoBulkEntries entries + 1
  | .held _ => 1
def uptoBulkAll {H : Type} : List (DataW H) → Nat
  | [] => 0
  | d :: r => uptoBulk d + uptoBulkAll r
def uptoBulkEntries {H : Type} : List (Lit × DataW H) → Nat
  | [] => 0
  | x :: r => uptoBulkEntry x + uptoBulkEntries r
def uptoBulkEntry {H : Type} : Lit × DataW H → Nat
  | (.string bytes, d) => bytes.length + uptoBulk d + 1
  | (_, d) => uptoBulk d + 1
 end
def uptoSmall : (H : Type) → List (DataW H) → Bool := fun _ ds => decide (uptoBulkAll ds ≤ 1048576)
def OpenSpec.upto (s : _root_.Go.ChangeSpec) : _root_.Go.OpenSpec := { _root_.Go.OpenSpec.ofChange s with cond := some uptoSmall }

/-- 'citadellaw02.SboxSub', WHERE WHAT IT READS IS OF BULK AT MOST 1048576: true; the input reads as it did. -/
def sboxSubUptoRow : OpenClaim := { program := "ytpllcaeghpijiaa", sum := "d0e432a10298ed41ec45f98dec192deea565db77648c859a038df42e380e6572", func := "citadel/citadellaw02.SboxSub", spec := "sboxSub", apart := false, narrowed := true }
def SboxSubUptoSaid : Prop := sboxSubUptoRow.holds Try.pinned (OpenSpec.upto sboxSubSpec)

/-- 'citadellaw02.SboxBack', WHERE WHAT IT READS IS OF BULK AT MOST 1048576: true; the input reads as it did. -/
def sboxBackUptoRow : OpenClaim := { program := "ytpllcaeghpijiaa", sum := "d0e432a10298ed41ec45f98dec192deea565db77648c859a038df42e380e6572", func := "citadel/citadellaw02.SboxBack", spec := "sboxBack", apart := false, narrowed := true }
def SboxBackUptoSaid : Prop := sboxBackUptoRow.holds Try.pinned (OpenSpec.upto sboxBackSpec)

/-- 'citadellaw02.SboxTurns', WHERE WHAT IT READS IS OF BULK AT MOST 1048576: true; the input reads as it did. -/
def sboxTurnsUptoRow : OpenClaim := { program := "ytpllcaeghpijiaa", sum := "d0e432a10298ed41ec45f98dec192deea565db77648c859a038df42e380e6572", func := "citadel/citadellaw02.SboxTurns", spec := "sboxTurns", apart := false, narrowed := true }
def SboxTurnsUptoSaid : Prop := sboxTurnsUptoRow.holds Try.pinned (OpenSpec.upto sboxTurnsSpec)

/-- 'citadellaw02.SboxWords', WHERE WHAT IT READS IS OF BULK AT MOST 1048576: true; the input reads as it did. -/
def sboxWordsUptoRow : OpenClaim := { program := "ytpllcaeghpijiaa", sum := "d0e432a10298ed41ec45f98dec192deea565db77648c859a038df42e380e6572", func := "citadel/citadellaw02.SboxWords", spec := "sboxWords", apart := false, narrowed := true }
def SboxWordsUptoSaid : Prop := sboxWordsUptoRow.holds Try.pinned (OpenSpec.upto sboxWordsSpec)

/-- 'citadellaw02.SboxConstants', WHERE WHAT IT READS IS OF BULK AT MOST 1048576: true; the input reads as it did. -/
def sboxConstantsUptoRow : OpenClaim := { program := "ytpllcaeghpijiaa", sum := "d0e432a10298ed41ec45f98dec192deea565db77648c859a038df42e380e6572", func := "citadel/citadellaw02.SboxConstants", spec := "sboxConstants", unfollowed := true, recurses := true, apart := false, narrowed := true }
def SboxConstantsUptoSaid : Prop := sboxConstantsUptoRow.holds Try.pinned (OpenSpec.upto sboxConstantsSpec)

/-- 'citadellaw02.SboxBlocks', WHERE WHAT IT READS IS OF BULK AT MOST 1048576: true; the input reads as it did. -/
def sboxBlocksUptoRow : OpenClaim := { program := "ytpllcaeghpijiaa", sum := "d0e432a10298ed41ec45f98dec192deea565db77648c859a038df42e380e6572", func := "citadel/citadellaw02.SboxBlocks", spec := "sboxBlocks", apart := false, narrowed := true }
def SboxBlocksUptoSaid : Prop := sboxBlocksUptoRow.holds Try.pinned (OpenSpec.upto sboxBlocksSpec)

end Rows
end Go.Proofs.Ytpllcaeghpijiaa
