/-
  No cell of these rows narrows 'for every input' (looked for: loops, veiled, ifaces, maps, wideKeys, modest, calm, conditions, laid).
  DERIVED. THE GIVEN ROWS OF THIS SEAT. 3 by the template 'for every input the law returns true; each argument reads behind the call as it read before'; 0 by the template 'total and deterministic' (their statements: YtibbnnechjmdmaaTotals.lean).
  GIVEN WITH THE SEED: the statements are not yours to turn. If you find one false, say at which input.
  Laid BY PROGRAM, IN A SANDBOX (cutbox-rows.mjs): the forced cells as the released guide's own fill.sh prints them over the translation 03a012e7a5fed67d… (all of the seat's roots in one cut). By AI agents, Wed Nov 11 2026. No macro, syntax, notation, axiom, sorry.
-/
import Derived.Test.YtibbnnechjmdmaaChecked
import GoSem.Claim
import GoSem.ClaimJoined
import GoSem.ClaimMapViews
import Derived.JoinedTies
import Derived.KernelRfl
namespace Go.Proofs.Ytibbnnechjmdmaa
/- THE CELL 'sum', in the pinned program and in every row, IS THE sha256 OF THE DUMP (.gsa) THAT YtibbnnechjmdmaaProg.lean LOADS. Nothing in Lean hashes anything: it is a label: what it is worth is what the hold of that sum in a sandbox is worth. -/
noncomputable def Try.pinned : Pinned := { name := "ytibbnnechjmdmaa", sum := "03a012e7a5fed67dad9c0c5d48bd5413d83df2deb0c5975e15124b3532aac50b", checked := Try.checked }
namespace Rows
def none {H : Type} : Left H := { results := [], args := [] }

/-- 'citadellaw04.DigestPad': WHATEVER THE INPUT: true; the input reads as it did. -/
def digestPadSpec : ChangeSpec := { name := "digestPad", fn := fun _ => fun
  | [d] => { results := [.lit (.bool true)], args := [d] }
  | _ => none }
def digestPadRow : OpenClaim := { program := "ytibbnnechjmdmaa", sum := "03a012e7a5fed67dad9c0c5d48bd5413d83df2deb0c5975e15124b3532aac50b", func := "citadel/citadellaw04.DigestPad", spec := "digestPad", apart := false }
def DigestPadSaid : Prop := digestPadRow.holds Try.pinned (OpenSpec.ofChange digestPadSpec)

/-- ITS FALSE NEIGHBOUR: 'it returns false'. Refute it at one input. -/
def digestPadWrong : ChangeSpec := { name := "digestPad", fn := fun _ => fun
  | [d] => { results := [.lit (.bool false)], args := [d] }
  | _ => none }
def DigestPadWrongFalsely : Prop := digestPadRow.holds Try.pinned (OpenSpec.ofChange digestPadWrong)

/-- 'citadellaw04.DigestSchedule': WHATEVER THE INPUT: true; the input reads as it did. -/
def digestScheduleSpec : ChangeSpec := { name := "digestSchedule", fn := fun _ => fun
  | [d] => { results := [.lit (.bool true)], args := [d] }
  | _ => none }
def digestScheduleRow : OpenClaim := { program := "ytibbnnechjmdmaa", sum := "03a012e7a5fed67dad9c0c5d48bd5413d83df2deb0c5975e15124b3532aac50b", func := "citadel/citadellaw04.DigestSchedule", spec := "digestSchedule", apart := false }
def DigestScheduleSaid : Prop := digestScheduleRow.holds Try.pinned (OpenSpec.ofChange digestScheduleSpec)

/-- ITS FALSE NEIGHBOUR: 'it returns false'. Refute it at one input. -/
def digestScheduleWrong : ChangeSpec := { name := "digestSchedule", fn := fun _ => fun
  | [d] => { results := [.lit (.bool false)], args := [d] }
  | _ => none }
def DigestScheduleWrongFalsely : Prop := digestScheduleRow.holds Try.pinned (OpenSpec.ofChange digestScheduleWrong)

/-- 'citadellaw04.DigestWords': WHATEVER THE INPUT: true; the input reads as it did. -/
def digestWordsSpec : ChangeSpec := { name := "digestWords", fn := fun _ => fun
  | [d1, d2] => { results := [.lit (.bool true)], args := [d1, d2] }
  | _ => none }
def digestWordsRow : OpenClaim := { program := "ytibbnnechjmdmaa", sum := "03a012e7a5fed67dad9c0c5d48bd5413d83df2deb0c5975e15124b3532aac50b", func := "citadel/citadellaw04.DigestWords", spec := "digestWords", apart := false }
def DigestWordsSaid : Prop := digestWordsRow.holds Try.pinned (OpenSpec.ofChange digestWordsSpec)

/-- ITS FALSE NEIGHBOUR: 'it returns false'. Refute it at one input. -/
def digestWordsWrong : ChangeSpec := { name := "digestWords", fn := fun _ => fun
  | [d1, d2] => { results := [.lit (.bool false)], args := [d1, d2] }
  | _ => none }
def DigestWordsWrongFalsely : Prop := digestWordsRow.holds Try.pinned (OpenSpec.ofChange digestWordsWrong)

/- THE SECOND FORM. 'bulk': how many values and letters a reading holds, each counted each time it is reached (what is shared counts as often as it is met; a slice's spare places count too). A statement '..UptoSaid' is the law's where the arguments, and the package variables that the reading takes, are together of bulk at most 1048576: NARROWER than '..Said'. Prove '..Said' where nothing that the law and all that it calls make is longer than what came in: it says more and counts as full. Else prove '..UptoSaid'. A law counts once. -/
mutual
def uptoBulk {H : Type} : DataW H → Nat
  | .lit (.string bytes) => bytes.length + 1
  | .lit _ => 1
  | .nil => 1
  | .ptr d => uptoBulk d + 1
  | .slice elems spare => uptoBulkAll elems + uptoBulkAll spare + 1
  | .agg parts => uptoBulkAll parts + 1
  | .iface _ d => uptoBulk d + 1
  | .map entries => uptoBulkEntries entries + 1
  | .held _ => 1
def uptoBulkAll {H : Type} : List (DataW H) → Nat
  | [] => 0
  | d :: r => uptoBulk d + uptoBulkAll r
def uptoBulkEntries {H : Type} : List (Lit × DataW H) → Nat
  | [] => 0
  | x :: r => uptoBulkEntry x + uptoBulkEntries r
def uptoBulkEntry {H : Type} : Lit × DataW H → Nat
  | (.string bytes, d) => bytes.length + uptoBulk d + 1
  | (_, d) => uptoBulk d + 1
 end
def uptoSmall : (H : Type) → List (DataW H) → Bool := fun _ ds => decide (uptoBulkAll ds ≤ 1048576)
def OpenSpec.upto (s : _root_.Go.ChangeSpec) : _root_.Go.OpenSpec := { _root_.Go.OpenSpec.ofChange s with cond := some uptoSmall }

/-- 'citadellaw04.DigestPad', WHERE WHAT IT READS IS OF BULK AT MOST 1048576: true; the input reads as it did. -/
def digestPadUptoRow : OpenClaim := { program := "ytibbnnechjmdmaa", sum := "03a012e7a5fed67dad9c0c5d48bd5413d83df2deb0c5975e15124b3532aac50b", func := "citadel/citadellaw04.DigestPad", spec := "digestPad", apart := false, narrowed := true }
def DigestPadUptoSaid : Prop := digestPadUptoRow.holds Try.pinned (OpenSpec.upto digestPadSpec)

/-- 'citadellaw04.DigestSchedule', WHERE WHAT IT READS IS OF BULK AT MOST 1048576: true; the input reads as it did. -/
def digestScheduleUptoRow : OpenClaim := { program := "ytibbnnechjmdmaa", sum := "03a012e7a5fed67dad9c0c5d48bd5413d83df2deb0c5975e15124b3532aac50b", func := "citadel/citadellaw04.DigestSchedule", spec := "digestSchedule", apart := false, narrowed := true }
def DigestScheduleUptoSaid : Prop := digestScheduleUptoRow.holds Try.pinned (OpenSpec.upto digestScheduleSpec)

/-- 'citadellaw04.DigestWords', WHERE WHAT IT READS IS OF BULK AT MOST 1048576: true; the input reads as it did. -/
def digestWordsUptoRow : OpenClaim := { program := "ytibbnnechjmdmaa", sum := "03a012e7a5fed67dad9c0c5d48bd5413d83df2deb0c5975e15124b3532aac50b", func := "citadel/citadellaw04.DigestWords", spec := "digestWords", apart := false, narrowed := true }
def DigestWordsUptoSaid : Prop := digestWordsUptoRow.holds Try.pinned (OpenSpec.upto digestWordsSpec)

end Rows
end Go.Proofs.Ytibbnnechjmdmaa
