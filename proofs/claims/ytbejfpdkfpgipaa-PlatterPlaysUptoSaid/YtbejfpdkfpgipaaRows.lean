/-
  No cell of these rows narrows 'for every input' (looked for: loops, veiled, ifaces, maps, wideKeys, modest, calm, conditions, laid).
  DERIVED. THE GIVEN ROWS OF THIS SEAT. 7 by the template 'for every input the law returns true; each argument reads behind the call as it read before'; 0 by the template 'total and deterministic' (their statements: YtbejfpdkfpgipaaTotals.lean).
  GIVEN WITH THE SEED: the statements are not yours to turn. If you find one false, say at which input.
  Laid BY PROGRAM, IN A SANDBOX (cutbox-rows.mjs): the forced cells as the released guide's own fill.sh prints them over the translation 7806d39a670640df… (all of the seat's roots in one cut). By AI agents, Wed Nov 11 2026. No macro, syntax, notation, axiom, sorry.
-/
import Derived.Test.YtbejfpdkfpgipaaChecked
import GoSem.Claim
import GoSem.ClaimJoined
import GoSem.ClaimMapViews
import Derived.JoinedTies
import Derived.KernelRfl
namespace Go.Proofs.Ytbejfpdkfpgipaa
/- THE CELL 'sum', in the pinned program and in every row, IS THE sha256 OF THE DUMP (.gsa) THAT YtbejfpdkfpgipaaProg.lean LOADS. Nothing in Lean hashes anything: it is a label: what it is worth is what the hold of that sum in a sandbox is worth. -/
noncomputable def Try.pinned : Pinned := { name := "ytbejfpdkfpgipaa", sum := "7806d39a670640df184cf2296b33f0745cb72a9e7c89699533afaf442afe61ed", checked := Try.checked }
namespace Rows
def none {H : Type} : Left H := { results := [], args := [] }

/-- 'citadellaw09.PlatterPlays': WHATEVER THE INPUT: true; the input reads as it did. -/
def platterPlaysSpec : ChangeSpec := { name := "platterPlays", fn := fun _ => fun
  | [d1, d2, d3] => { results := [.lit (.bool true)], args := [d1, d2, d3] }
  | _ => none }
def platterPlaysRow : OpenClaim := { program := "ytbejfpdkfpgipaa", sum := "7806d39a670640df184cf2296b33f0745cb72a9e7c89699533afaf442afe61ed", func := "citadel/citadellaw09.PlatterPlays", spec := "platterPlays", unfollowed := true, recurses := true, apart := false }
def PlatterPlaysSaid : Prop := platterPlaysRow.holds Try.pinned (OpenSpec.ofChange platterPlaysSpec)

/-- ITS FALSE NEIGHBOUR: 'it returns false'. Refute it at one input. -/
def platterPlaysWrong : ChangeSpec := { name := "platterPlays", fn := fun _ => fun
  | [d1, d2, d3] => { results := [.lit (.bool false)], args := [d1, d2, d3] }
  | _ => none }
def PlatterPlaysWrongFalsely : Prop := platterPlaysRow.holds Try.pinned (OpenSpec.ofChange platterPlaysWrong)

/-- 'citadellaw09.PlatterSure': WHATEVER THE INPUT: true; the input reads as it did. -/
def platterSureSpec : ChangeSpec := { name := "platterSure", fn := fun _ => fun
  | [d1, d2, d3] => { results := [.lit (.bool true)], args := [d1, d2, d3] }
  | _ => none }
def platterSureRow : OpenClaim := { program := "ytbejfpdkfpgipaa", sum := "7806d39a670640df184cf2296b33f0745cb72a9e7c89699533afaf442afe61ed", func := "citadel/citadellaw09.PlatterSure", spec := "platterSure", unfollowed := true, recurses := true, apart := false }
def PlatterSureSaid : Prop := platterSureRow.holds Try.pinned (OpenSpec.ofChange platterSureSpec)

/-- ITS FALSE NEIGHBOUR: 'it returns false'. Refute it at one input. -/
def platterSureWrong : ChangeSpec := { name := "platterSure", fn := fun _ => fun
  | [d1, d2, d3] => { results := [.lit (.bool false)], args := [d1, d2, d3] }
  | _ => none }
def PlatterSureWrongFalsely : Prop := platterSureRow.holds Try.pinned (OpenSpec.ofChange platterSureWrong)

/-- 'citadellaw09.PlatterArmed': WHATEVER THE INPUT: true; the input reads as it did. -/
def platterArmedSpec : ChangeSpec := { name := "platterArmed", fn := fun _ => fun
  | [d1, d2] => { results := [.lit (.bool true)], args := [d1, d2] }
  | _ => none }
def platterArmedRow : OpenClaim := { program := "ytbejfpdkfpgipaa", sum := "7806d39a670640df184cf2296b33f0745cb72a9e7c89699533afaf442afe61ed", func := "citadel/citadellaw09.PlatterArmed", spec := "platterArmed", unfollowed := true, recurses := true, apart := false }
def PlatterArmedSaid : Prop := platterArmedRow.holds Try.pinned (OpenSpec.ofChange platterArmedSpec)

/-- ITS FALSE NEIGHBOUR: 'it returns false'. Refute it at one input. -/
def platterArmedWrong : ChangeSpec := { name := "platterArmed", fn := fun _ => fun
  | [d1, d2] => { results := [.lit (.bool false)], args := [d1, d2] }
  | _ => none }
def PlatterArmedWrongFalsely : Prop := platterArmedRow.holds Try.pinned (OpenSpec.ofChange platterArmedWrong)

/-- 'citadellaw09.PlatterCounts': WHATEVER THE INPUT: true; the input reads as it did. -/
def platterCountsSpec : ChangeSpec := { name := "platterCounts", fn := fun _ => fun
  | [d1, d2] => { results := [.lit (.bool true)], args := [d1, d2] }
  | _ => none }
def platterCountsRow : OpenClaim := { program := "ytbejfpdkfpgipaa", sum := "7806d39a670640df184cf2296b33f0745cb72a9e7c89699533afaf442afe61ed", func := "citadel/citadellaw09.PlatterCounts", spec := "platterCounts", unfollowed := true, recurses := true, apart := false }
def PlatterCountsSaid : Prop := platterCountsRow.holds Try.pinned (OpenSpec.ofChange platterCountsSpec)

/-- ITS FALSE NEIGHBOUR: 'it returns false'. Refute it at one input. -/
def platterCountsWrong : ChangeSpec := { name := "platterCounts", fn := fun _ => fun
  | [d1, d2] => { results := [.lit (.bool false)], args := [d1, d2] }
  | _ => none }
def PlatterCountsWrongFalsely : Prop := platterCountsRow.holds Try.pinned (OpenSpec.ofChange platterCountsWrong)

/-- 'citadellaw09.PlatterOpens': WHATEVER THE INPUT: true; the input reads as it did. -/
def platterOpensSpec : ChangeSpec := { name := "platterOpens", fn := fun _ => fun
  | [d] => { results := [.lit (.bool true)], args := [d] }
  | _ => none }
def platterOpensRow : OpenClaim := { program := "ytbejfpdkfpgipaa", sum := "7806d39a670640df184cf2296b33f0745cb72a9e7c89699533afaf442afe61ed", func := "citadel/citadellaw09.PlatterOpens", spec := "platterOpens", unfollowed := true, recurses := true, apart := false }
def PlatterOpensSaid : Prop := platterOpensRow.holds Try.pinned (OpenSpec.ofChange platterOpensSpec)

/-- ITS FALSE NEIGHBOUR: 'it returns false'. Refute it at one input. -/
def platterOpensWrong : ChangeSpec := { name := "platterOpens", fn := fun _ => fun
  | [d] => { results := [.lit (.bool false)], args := [d] }
  | _ => none }
def PlatterOpensWrongFalsely : Prop := platterOpensRow.holds Try.pinned (OpenSpec.ofChange platterOpensWrong)

/-- 'citadellaw09.PlatterNone': WHATEVER THE INPUT: true; the input reads as it did. -/
def platterNoneSpec : ChangeSpec := { name := "platterNone", fn := fun _ => fun
  | [d1, d2, d3] => { results := [.lit (.bool true)], args := [d1, d2, d3] }
  | _ => none }
def platterNoneRow : OpenClaim := { program := "ytbejfpdkfpgipaa", sum := "7806d39a670640df184cf2296b33f0745cb72a9e7c89699533afaf442afe61ed", func := "citadel/citadellaw09.PlatterNone", spec := "platterNone", unfollowed := true, recurses := true, apart := false }
def PlatterNoneSaid : Prop := platterNoneRow.holds Try.pinned (OpenSpec.ofChange platterNoneSpec)

/-- ITS FALSE NEIGHBOUR: 'it returns false'. Refute it at one input. -/
def platterNoneWrong : ChangeSpec := { name := "platterNone", fn := fun _ => fun
  | [d1, d2, d3] => { results := [.lit (.bool false)], args := [d1, d2, d3] }
  | _ => none }
def PlatterNoneWrongFalsely : Prop := platterNoneRow.holds Try.pinned (OpenSpec.ofChange platterNoneWrong)

/-- 'citadellaw09.PlatterTouched': WHATEVER THE INPUT: true; the input reads as it did. -/
def platterTouchedSpec : ChangeSpec := { name := "platterTouched", fn := fun _ => fun
  | [d] => { results := [.lit (.bool true)], args := [d] }
  | _ => none }
def platterTouchedRow : OpenClaim := { program := "ytbejfpdkfpgipaa", sum := "7806d39a670640df184cf2296b33f0745cb72a9e7c89699533afaf442afe61ed", func := "citadel/citadellaw09.PlatterTouched", spec := "platterTouched", unfollowed := true, recurses := true, apart := false }
def PlatterTouchedSaid : Prop := platterTouchedRow.holds Try.pinned (OpenSpec.ofChange platterTouchedSpec)

/-- ITS FALSE NEIGHBOUR: 'it returns false'. Refute it at one input. -/
def platterTouchedWrong : ChangeSpec := { name := "platterTouched", fn := fun _ => fun
  | [d] => { results := [.lit (.bool false)], args := [d] }
  | _ => none }
def PlatterTouchedWrongFalsely : Prop := platterTouchedRow.holds Try.pinned (OpenSpec.ofChange platterTouchedWrong)

/- THE SECOND FORM. 'bulk': how many values and letters a reading holds, each counted each time it is reached (what is shared counts as often as it is met; a slice's spare places count too). A statement '..UptoSaid' is the law's where the arguments, and the package variables that the reading takes, are together of bulk at most 1048576: NARROWER than '..Said'. Prove '..Said' where nothing that the law and all that it calls make is longer than what came in: it says more and counts as full. Else prove '..UptoSaid'. A law counts once. -/
mutual
def uptoBulk {H : Type} : DataW H → Nat
  | .lit (.string bytes) => bytes.length + 1
  | .lit _ => 1
  | .nil => 1
  | .ptr d => uptoBulk d + 1
  | .slice elems spare => uptoBulkAll elems + uptoBulkAll spare + 1
  | .agg parts => uptoBulkAll parts + 1
  | .iface _ d => uptoBulk d + 1
  | .map entries => uptoBulkEntries entries + 1
  | .held _ => 1
def uptoBulkAll {H : Type} : List (DataW H) → Nat
  | [] => 0
  | d :: r => uptoBulk d + uptoBulkAll r
def uptoBulkEntries {H : Type} : List (Lit × DataW H) → Nat
  | [] => 0
  | x :: r => uptoBulkEntry x + uptoBulkEntries r
def uptoBulkEntry {H : Type} : Lit × DataW H → Nat
  | (.string bytes, d) => bytes.length + uptoBulk d + 1
  | (_, d) => uptoBulk d + 1
 end
def uptoSmall : (H : Type) → List (DataW H) → Bool := fun _ ds => decide (uptoBulkAll ds ≤ 1048576)
def OpenSpec.upto (s : _root_.Go.ChangeSpec) : _root_.Go.OpenSpec := { _root_.Go.OpenSpec.ofChange s with cond := some uptoSmall }

/-- 'citadellaw09.PlatterPlays', WHERE WHAT IT READS IS OF BULK AT MOST 1048576: true; the input reads as it did. -/
def platterPlaysUptoRow : OpenClaim := { program := "ytbejfpdkfpgipaa", sum := "7806d39a670640df184cf2296b33f0745cb72a9e7c89699533afaf442afe61ed", func := "citadel/citadellaw09.PlatterPlays", spec := "platterPlays", unfollowed := true, recurses := true, apart := false, narrowed := true }
def PlatterPlaysUptoSaid : Prop := platterPlaysUptoRow.holds Try.pinned (OpenSpec.upto platterPlaysSpec)

/-- 'citadellaw09.PlatterSure', WHERE WHAT IT READS IS OF BULK AT MOST 1048576: true; the input reads as it did. -/
def platterSureUptoRow : OpenClaim := { program := "ytbejfpdkfpgipaa", sum := "7806d39a670640df184cf2296b33f0745cb72a9e7c89699533afaf442afe61ed", func := "citadel/citadellaw09.PlatterSure", spec := "platterSure", unfollowed := true, recurses := true, apart := false, narrowed := true }
def PlatterSureUptoSaid : Prop := platterSureUptoRow.holds Try.pinned (OpenSpec.upto platterSureSpec)

/-- 'citadellaw09.PlatterArmed', WHERE WHAT IT READS IS OF BULK AT MOST 1048576: true; the input reads as it did. -/
def platterArmedUptoRow : OpenClaim := { program := "ytbejfpdkfpgipaa", sum := "7806d39a670640df184cf2296b33f0745cb72a9e7c89699533afaf442afe61ed", func := "citadel/citadellaw09.PlatterArmed", spec := "platterArmed", unfollowed := true, recurses := true, apart := false, narrowed := true }
def PlatterArmedUptoSaid : Prop := platterArmedUptoRow.holds Try.pinned (OpenSpec.upto platterArmedSpec)

/-- 'citadellaw09.PlatterCounts', WHERE WHAT IT READS IS OF BULK AT MOST 1048576: true; the input reads as it did. -/
def platterCountsUptoRow : OpenClaim := { program := "ytbejfpdkfpgipaa", sum := "7806d39a670640df184cf2296b33f0745cb72a9e7c89699533afaf442afe61ed", func := "citadel/citadellaw09.PlatterCounts", spec := "platterCounts", unfollowed := true, recurses := true, apart := false, narrowed := true }
def PlatterCountsUptoSaid : Prop := platterCountsUptoRow.holds Try.pinned (OpenSpec.upto platterCountsSpec)

/-- 'citadellaw09.PlatterOpens', WHERE WHAT IT READS IS OF BULK AT MOST 1048576: true; the input reads as it did. -/
def platterOpensUptoRow : OpenClaim := { program := "ytbejfpdkfpgipaa", sum := "7806d39a670640df184cf2296b33f0745cb72a9e7c89699533afaf442afe61ed", func := "citadel/citadellaw09.PlatterOpens", spec := "platterOpens", unfollowed := true, recurses := true, apart := false, narrowed := true }
def PlatterOpensUptoSaid : Prop := platterOpensUptoRow.holds Try.pinned (OpenSpec.upto platterOpensSpec)

/-- 'citadellaw09.PlatterNone', WHERE WHAT IT READS IS OF BULK AT MOST 1048576: true; the input reads as it did. -/
def platterNoneUptoRow : OpenClaim := { program := "ytbejfpdkfpgipaa", sum := "7806d39a670640df184cf2296b33f0745cb72a9e7c89699533afaf442afe61ed", func := "citadel/citadellaw09.PlatterNone", spec := "platterNone", unfollowed := true, recurses := true, apart := false, narrowed := true }
def PlatterNoneUptoSaid : Prop := platterNoneUptoRow.holds Try.pinned (OpenSpec.upto platterNoneSpec)

/-- 'citadellaw09.PlatterTouched', WHERE WHAT IT READS IS OF BULK AT MOST 1048576: true; the input reads as it did. -/
def platterTouchedUptoRow : OpenClaim := { program := "ytbejfpdkfpgipaa", sum := "7806d39a670640df184cf2296b33f0745cb72a9e7c89699533afaf442afe61ed", func := "citadel/citadellaw09.PlatterTouched", spec := "platterTouched", unfollowed := true, recurses := true, apart := false, narrowed := true }
def PlatterTouchedUptoSaid : Prop := platterTouchedUptoRow.holds Try.pinned (OpenSpec.upto platterTouchedSpec)

end Rows
end Go.Proofs.Ytbejfpdkfpgipaa
