/-
  No cell of these rows narrows 'for every input' (looked for: loops, veiled, ifaces, maps, wideKeys, modest, calm, conditions, laid).
  DERIVED. THE GIVEN ROWS OF THIS SEAT. 5 by the template 'for every input the law returns true; each argument reads behind the call as it read before'; 0 by the template 'total and deterministic' (their statements: YtkibeddfkenlkaaTotals.lean).
  GIVEN WITH THE SEED: the statements are not yours to turn. If you find one false, say at which input.
  Laid BY PROGRAM, IN A SANDBOX (cutbox-rows.mjs): the forced cells as the released guide's own fill.sh prints them over the translation 80cdbfdff574679d… (all of the seat's roots in one cut). By AI agents, Wed Nov 11 2026. No macro, syntax, notation, axiom, sorry.
-/
import Derived.Test.YtkibeddfkenlkaaChecked
import GoSem.Claim
import GoSem.ClaimJoined
import GoSem.ClaimMapViews
import Derived.JoinedTies
import Derived.KernelRfl
namespace Go.Proofs.Ytkibeddfkenlkaa
/- THE CELL 'sum', in the pinned program and in every row, IS THE sha256 OF THE DUMP (.gsa) THAT YtkibeddfkenlkaaProg.lean LOADS. Nothing in Lean hashes anything: it is a label: what it is worth is what the hold of that sum in a sandbox is worth. -/
noncomputable def Try.pinned : Pinned := { name := "ytkibeddfkenlkaa", sum := "80cdbfdff574679d01588ded95b451625d03f3b518213820092e8442e5ce8023", checked := Try.checked }
namespace Rows
def none {H : Type} : Left H := { results := [], args := [] }

/-- 'citadellaw15.CdbEncodes': WHATEVER THE INPUT: true; the input reads as it did. -/
def cdbEncodesSpec : ChangeSpec := { name := "cdbEncodes", fn := fun _ => fun
  | [d] => { results := [.lit (.bool true)], args := [d] }
  | _ => none }
def cdbEncodesRow : OpenClaim := { program := "ytkibeddfkenlkaa", sum := "80cdbfdff574679d01588ded95b451625d03f3b518213820092e8442e5ce8023", func := "citadel/citadellaw15.CdbEncodes", spec := "cdbEncodes", apart := false }
def CdbEncodesSaid : Prop := cdbEncodesRow.holds Try.pinned (OpenSpec.ofChange cdbEncodesSpec)

/-- ITS FALSE NEIGHBOUR: 'it returns false'. Refute it at one input. -/
def cdbEncodesWrong : ChangeSpec := { name := "cdbEncodes", fn := fun _ => fun
  | [d] => { results := [.lit (.bool false)], args := [d] }
  | _ => none }
def CdbEncodesWrongFalsely : Prop := cdbEncodesRow.holds Try.pinned (OpenSpec.ofChange cdbEncodesWrong)

/-- 'citadellaw15.CdbDecodes': WHATEVER THE INPUT: true; the input reads as it did. -/
def cdbDecodesSpec : ChangeSpec := { name := "cdbDecodes", fn := fun _ => fun
  | [d] => { results := [.lit (.bool true)], args := [d] }
  | _ => none }
def cdbDecodesRow : OpenClaim := { program := "ytkibeddfkenlkaa", sum := "80cdbfdff574679d01588ded95b451625d03f3b518213820092e8442e5ce8023", func := "citadel/citadellaw15.CdbDecodes", spec := "cdbDecodes", apart := false }
def CdbDecodesSaid : Prop := cdbDecodesRow.holds Try.pinned (OpenSpec.ofChange cdbDecodesSpec)

/-- ITS FALSE NEIGHBOUR: 'it returns false'. Refute it at one input. -/
def cdbDecodesWrong : ChangeSpec := { name := "cdbDecodes", fn := fun _ => fun
  | [d] => { results := [.lit (.bool false)], args := [d] }
  | _ => none }
def CdbDecodesWrongFalsely : Prop := cdbDecodesRow.holds Try.pinned (OpenSpec.ofChange cdbDecodesWrong)

/-- 'citadellaw15.CdbBack': WHATEVER THE INPUT: true; the input reads as it did. -/
def cdbBackSpec : ChangeSpec := { name := "cdbBack", fn := fun _ => fun
  | [d1, d2] => { results := [.lit (.bool true)], args := [d1, d2] }
  | _ => none }
def cdbBackRow : OpenClaim := { program := "ytkibeddfkenlkaa", sum := "80cdbfdff574679d01588ded95b451625d03f3b518213820092e8442e5ce8023", func := "citadel/citadellaw15.CdbBack", spec := "cdbBack", apart := false }
def CdbBackSaid : Prop := cdbBackRow.holds Try.pinned (OpenSpec.ofChange cdbBackSpec)

/-- ITS FALSE NEIGHBOUR: 'it returns false'. Refute it at one input. -/
def cdbBackWrong : ChangeSpec := { name := "cdbBack", fn := fun _ => fun
  | [d1, d2] => { results := [.lit (.bool false)], args := [d1, d2] }
  | _ => none }
def CdbBackWrongFalsely : Prop := cdbBackRow.holds Try.pinned (OpenSpec.ofChange cdbBackWrong)

/-- 'citadellaw15.CdbChecks': WHATEVER THE INPUT: true; the input reads as it did. -/
def cdbChecksSpec : ChangeSpec := { name := "cdbChecks", fn := fun _ => fun
  | [d] => { results := [.lit (.bool true)], args := [d] }
  | _ => none }
def cdbChecksRow : OpenClaim := { program := "ytkibeddfkenlkaa", sum := "80cdbfdff574679d01588ded95b451625d03f3b518213820092e8442e5ce8023", func := "citadel/citadellaw15.CdbChecks", spec := "cdbChecks", apart := false }
def CdbChecksSaid : Prop := cdbChecksRow.holds Try.pinned (OpenSpec.ofChange cdbChecksSpec)

/-- ITS FALSE NEIGHBOUR: 'it returns false'. Refute it at one input. -/
def cdbChecksWrong : ChangeSpec := { name := "cdbChecks", fn := fun _ => fun
  | [d] => { results := [.lit (.bool false)], args := [d] }
  | _ => none }
def CdbChecksWrongFalsely : Prop := cdbChecksRow.holds Try.pinned (OpenSpec.ofChange cdbChecksWrong)

/-- 'citadellaw15.CdbBlocks': WHATEVER THE INPUT: true; the input reads as it did. -/
def cdbBlocksSpec : ChangeSpec := { name := "cdbBlocks", fn := fun _ => fun
  | [d1, d2] => { results := [.lit (.bool true)], args := [d1, d2] }
  | _ => none }
def cdbBlocksRow : OpenClaim := { program := "ytkibeddfkenlkaa", sum := "80cdbfdff574679d01588ded95b451625d03f3b518213820092e8442e5ce8023", func := "citadel/citadellaw15.CdbBlocks", spec := "cdbBlocks", unfollowed := true, recurses := true, apart := false }
def CdbBlocksSaid : Prop := cdbBlocksRow.holds Try.pinned (OpenSpec.ofChange cdbBlocksSpec)

/-- ITS FALSE NEIGHBOUR: 'it returns false'. Refute it at one input. -/
def cdbBlocksWrong : ChangeSpec := { name := "cdbBlocks", fn := fun _ => fun
  | [d1, d2] => { results := [.lit (.bool false)], args := [d1, d2] }
  | _ => none }
def CdbBlocksWrongFalsely : Prop := cdbBlocksRow.holds Try.pinned (OpenSpec.ofChange cdbBlocksWrong)

/- THE SECOND FORM. 'bulk': how many values and letters a reading holds, each counted each time it is reached (what is shared counts as often as it is met; a slice's spare places count too). A statement '..UptoSaid' is the law's where the arguments, and the package variables that the reading takes, are together of bulk at most 1048576: NARROWER than '..Said'. Prove '..Said' where nothing that the law and all that it calls make is longer than what came in: it says more and counts as full. Else prove '..UptoSaid'. A law counts once. -/
mutual
def uptoBulk {H : Type} : DataW H → Nat
  | .lit (.string bytes) => bytes.length + 1
  | .lit _ => 1
  | .nil => 1
  | .ptr d => uptoBulk d + 1
  | .slice elems spare => uptoBulkAll elems + uptoBulkAll spare + 1
  | .agg parts => uptoBulkAll parts + 1
  | .iface _ d => uptoBulk d + 1
  | .map entries => uptoBulkEntries entries + 1
  | .held _ => 1
def uptoBulkAll {H : Type} : List (DataW H) → Nat
  | [] => 0
  | d :: r => uptoBulk d + uptoBulkAll r
def uptoBulkEntries {H : Type} : List (Lit × DataW H) → Nat
  | [] => 0
  | x :: r => uptoBulkEntry x + uptoBulkEntries r
def uptoBulkEntry {H : Type} : Lit × DataW H → Nat
  | (.string bytes, d) => bytes.length + uptoBulk d + 1
  | (_, d) => uptoBulk d + 1
 end
def uptoSmall : (H : Type) → List (DataW H) → Bool := fun _ ds => decide (uptoBulkAll ds ≤ 1048576)
def OpenSpec.upto (s : _root_.Go.ChangeSpec) : _root_.Go.OpenSpec := { _root_.Go.OpenSpec.ofChange s with cond := some uptoSmall }

/-- 'citadellaw15.CdbEncodes', WHERE WHAT IT READS IS OF BULK AT MOST 1048576: true; the input reads as it did. -/
def cdbEncodesUptoRow : OpenClaim := { program := "ytkibeddfkenlkaa", sum := "80cdbfdff574679d01588ded95b451625d03f3b518213820092e8442e5ce8023", func := "citadel/citadellaw15.CdbEncodes", spec := "cdbEncodes", apart := false, narrowed := true }
def CdbEncodesUptoSaid : Prop := cdbEncodesUptoRow.holds Try.pinned (OpenSpec.upto cdbEncodesSpec)

/-- 'citadellaw15.CdbDecodes', WHERE WHAT IT READS IS OF BULK AT MOST 1048576: true; the input reads as it did. -/
def cdbDecodesUptoRow : OpenClaim := { program := "ytkibeddfkenlkaa", sum := "80cdbfdff574679d01588ded95b451625d03f3b518213820092e8442e5ce8023", func := "citadel/citadellaw15.CdbDecodes", spec := "cdbDecodes", apart := false, narrowed := true }
def CdbDecodesUptoSaid : Prop := cdbDecodesUptoRow.holds Try.pinned (OpenSpec.upto cdbDecodesSpec)

/-- 'citadellaw15.CdbBack', WHERE WHAT IT READS IS OF BULK AT MOST 1048576: true; the input reads as it did. -/
def cdbBackUptoRow : OpenClaim := { program := "ytkibeddfkenlkaa", sum := "80cdbfdff574679d01588ded95b451625d03f3b518213820092e8442e5ce8023", func := "citadel/citadellaw15.CdbBack", spec := "cdbBack", apart := false, narrowed := true }
def CdbBackUptoSaid : Prop := cdbBackUptoRow.holds Try.pinned (OpenSpec.upto cdbBackSpec)

/-- 'citadellaw15.CdbChecks', WHERE WHAT IT READS IS OF BULK AT MOST 1048576: true; the input reads as it did. -/
def cdbChecksUptoRow : OpenClaim := { program := "ytkibeddfkenlkaa", sum := "80cdbfdff574679d01588ded95b451625d03f3b518213820092e8442e5ce8023", func := "citadel/citadellaw15.CdbChecks", spec := "cdbChecks", apart := false, narrowed := true }
def CdbChecksUptoSaid : Prop := cdbChecksUptoRow.holds Try.pinned (OpenSpec.upto cdbChecksSpec)

/-- 'citadellaw15.CdbBlocks', WHERE WHAT IT READS IS OF BULK AT MOST 1048576: true; the input reads as it did. -/
def cdbBlocksUptoRow : OpenClaim := { program := "ytkibeddfkenlkaa", sum := "80cdbfdff574679d01588ded95b451625d03f3b518213820092e8442e5ce8023", func := "citadel/citadellaw15.CdbBlocks", spec := "cdbBlocks", unfollowed := true, recurses := true, apart := false, narrowed := true }
def CdbBlocksUptoSaid : Prop := cdbBlocksUptoRow.holds Try.pinned (OpenSpec.upto cdbBlocksSpec)

end Rows
end Go.Proofs.Ytkibeddfkenlkaa
