/-
  No cell of these rows narrows 'for every input' (looked for: loops, veiled, ifaces, maps, wideKeys, modest, calm, conditions, laid).
  DERIVED. THE GIVEN ROWS OF THIS SEAT. 8 by the template 'for every input the law returns true; each argument reads behind the call as it read before'; 0 by the template 'total and deterministic' (their statements: YtklnnmlegagfoaaTotals.lean).
  GIVEN WITH THE SEED: the statements are not yours to turn. If you find one false, say at which input.
  Laid BY PROGRAM, IN A SANDBOX (cutbox-rows.mjs): the forced cells as the released guide's own fill.sh prints them over the translation 08948782c0bbae85… (all of the seat's roots in one cut). By AI agents, Wed Nov 11 2026. No macro, syntax, notation, axiom, sorry.
-/
import Derived.Test.YtklnnmlegagfoaaChecked
import GoSem.Claim
import GoSem.ClaimJoined
import GoSem.ClaimMapViews
import Derived.JoinedTies
import Derived.KernelRfl
namespace Go.Proofs.Ytklnnmlegagfoaa
/- THE CELL 'sum', in the pinned program and in every row, IS THE sha256 OF THE DUMP (.gsa) THAT YtklnnmlegagfoaaProg.lean LOADS. Nothing in Lean hashes anything: it is a label: what it is worth is what the hold of that sum in a sandbox is worth. -/
noncomputable def Try.pinned : Pinned := { name := "ytklnnmlegagfoaa", sum := "08948782c0bbae85f561891f319e744443f77250fb155bb1d04b1d1aa22a33b7", checked := Try.checked }
namespace Rows
def none {H : Type} : Left H := { results := [], args := [] }

/-- 'citadellaw06.TweakNumbers': WHATEVER THE INPUT: true; the input reads as it did. -/
def tweakNumbersSpec : ChangeSpec := { name := "tweakNumbers", fn := fun _ => fun
  | [d1, d2] => { results := [.lit (.bool true)], args := [d1, d2] }
  | _ => none }
def tweakNumbersRow : OpenClaim := { program := "ytklnnmlegagfoaa", sum := "08948782c0bbae85f561891f319e744443f77250fb155bb1d04b1d1aa22a33b7", func := "citadel/citadellaw06.TweakNumbers", spec := "tweakNumbers", unfollowed := true, recurses := true, apart := false }
def TweakNumbersSaid : Prop := tweakNumbersRow.holds Try.pinned (OpenSpec.ofChange tweakNumbersSpec)

/-- ITS FALSE NEIGHBOUR: 'it returns false'. Refute it at one input. -/
def tweakNumbersWrong : ChangeSpec := { name := "tweakNumbers", fn := fun _ => fun
  | [d1, d2] => { results := [.lit (.bool false)], args := [d1, d2] }
  | _ => none }
def TweakNumbersWrongFalsely : Prop := tweakNumbersRow.holds Try.pinned (OpenSpec.ofChange tweakNumbersWrong)

/-- 'citadellaw06.TweakBlocks': WHATEVER THE INPUT: true; the input reads as it did. -/
def tweakBlocksSpec : ChangeSpec := { name := "tweakBlocks", fn := fun _ => fun
  | [d1, d2] => { results := [.lit (.bool true)], args := [d1, d2] }
  | _ => none }
def tweakBlocksRow : OpenClaim := { program := "ytklnnmlegagfoaa", sum := "08948782c0bbae85f561891f319e744443f77250fb155bb1d04b1d1aa22a33b7", func := "citadel/citadellaw06.TweakBlocks", spec := "tweakBlocks", unfollowed := true, recurses := true, apart := false }
def TweakBlocksSaid : Prop := tweakBlocksRow.holds Try.pinned (OpenSpec.ofChange tweakBlocksSpec)

/-- ITS FALSE NEIGHBOUR: 'it returns false'. Refute it at one input. -/
def tweakBlocksWrong : ChangeSpec := { name := "tweakBlocks", fn := fun _ => fun
  | [d1, d2] => { results := [.lit (.bool false)], args := [d1, d2] }
  | _ => none }
def TweakBlocksWrongFalsely : Prop := tweakBlocksRow.holds Try.pinned (OpenSpec.ofChange tweakBlocksWrong)

/-- 'citadellaw06.TweakOne': WHATEVER THE INPUT: true; the input reads as it did. -/
def tweakOneSpec : ChangeSpec := { name := "tweakOne", fn := fun _ => fun
  | [d1, d2, d3] => { results := [.lit (.bool true)], args := [d1, d2, d3] }
  | _ => none }
def tweakOneRow : OpenClaim := { program := "ytklnnmlegagfoaa", sum := "08948782c0bbae85f561891f319e744443f77250fb155bb1d04b1d1aa22a33b7", func := "citadel/citadellaw06.TweakOne", spec := "tweakOne", unfollowed := true, recurses := true, apart := false }
def TweakOneSaid : Prop := tweakOneRow.holds Try.pinned (OpenSpec.ofChange tweakOneSpec)

/-- ITS FALSE NEIGHBOUR: 'it returns false'. Refute it at one input. -/
def tweakOneWrong : ChangeSpec := { name := "tweakOne", fn := fun _ => fun
  | [d1, d2, d3] => { results := [.lit (.bool false)], args := [d1, d2, d3] }
  | _ => none }
def TweakOneWrongFalsely : Prop := tweakOneRow.holds Try.pinned (OpenSpec.ofChange tweakOneWrong)

/-- 'citadellaw06.TweakHides': WHATEVER THE INPUT: true; the input reads as it did. -/
def tweakHidesSpec : ChangeSpec := { name := "tweakHides", fn := fun _ => fun
  | [d1, d2, d3] => { results := [.lit (.bool true)], args := [d1, d2, d3] }
  | _ => none }
def tweakHidesRow : OpenClaim := { program := "ytklnnmlegagfoaa", sum := "08948782c0bbae85f561891f319e744443f77250fb155bb1d04b1d1aa22a33b7", func := "citadel/citadellaw06.TweakHides", spec := "tweakHides", unfollowed := true, recurses := true, apart := false }
def TweakHidesSaid : Prop := tweakHidesRow.holds Try.pinned (OpenSpec.ofChange tweakHidesSpec)

/-- ITS FALSE NEIGHBOUR: 'it returns false'. Refute it at one input. -/
def tweakHidesWrong : ChangeSpec := { name := "tweakHides", fn := fun _ => fun
  | [d1, d2, d3] => { results := [.lit (.bool false)], args := [d1, d2, d3] }
  | _ => none }
def TweakHidesWrongFalsely : Prop := tweakHidesRow.holds Try.pinned (OpenSpec.ofChange tweakHidesWrong)

/-- 'citadellaw06.TweakShows': WHATEVER THE INPUT: true; the input reads as it did. -/
def tweakShowsSpec : ChangeSpec := { name := "tweakShows", fn := fun _ => fun
  | [d1, d2, d3] => { results := [.lit (.bool true)], args := [d1, d2, d3] }
  | _ => none }
def tweakShowsRow : OpenClaim := { program := "ytklnnmlegagfoaa", sum := "08948782c0bbae85f561891f319e744443f77250fb155bb1d04b1d1aa22a33b7", func := "citadel/citadellaw06.TweakShows", spec := "tweakShows", unfollowed := true, recurses := true, apart := false }
def TweakShowsSaid : Prop := tweakShowsRow.holds Try.pinned (OpenSpec.ofChange tweakShowsSpec)

/-- ITS FALSE NEIGHBOUR: 'it returns false'. Refute it at one input. -/
def tweakShowsWrong : ChangeSpec := { name := "tweakShows", fn := fun _ => fun
  | [d1, d2, d3] => { results := [.lit (.bool false)], args := [d1, d2, d3] }
  | _ => none }
def TweakShowsWrongFalsely : Prop := tweakShowsRow.holds Try.pinned (OpenSpec.ofChange tweakShowsWrong)

/-- 'citadellaw06.TweakBack': WHATEVER THE INPUT: true; the input reads as it did. -/
def tweakBackSpec : ChangeSpec := { name := "tweakBack", fn := fun _ => fun
  | [d1, d2, d3] => { results := [.lit (.bool true)], args := [d1, d2, d3] }
  | _ => none }
def tweakBackRow : OpenClaim := { program := "ytklnnmlegagfoaa", sum := "08948782c0bbae85f561891f319e744443f77250fb155bb1d04b1d1aa22a33b7", func := "citadel/citadellaw06.TweakBack", spec := "tweakBack", unfollowed := true, recurses := true, apart := false }
def TweakBackSaid : Prop := tweakBackRow.holds Try.pinned (OpenSpec.ofChange tweakBackSpec)

/-- ITS FALSE NEIGHBOUR: 'it returns false'. Refute it at one input. -/
def tweakBackWrong : ChangeSpec := { name := "tweakBack", fn := fun _ => fun
  | [d1, d2, d3] => { results := [.lit (.bool false)], args := [d1, d2, d3] }
  | _ => none }
def TweakBackWrongFalsely : Prop := tweakBackRow.holds Try.pinned (OpenSpec.ofChange tweakBackWrong)

/-- 'citadellaw06.TweakAlone': WHATEVER THE INPUT: true; the input reads as it did. -/
def tweakAloneSpec : ChangeSpec := { name := "tweakAlone", fn := fun _ => fun
  | [d] => { results := [.lit (.bool true)], args := [d] }
  | _ => none }
def tweakAloneRow : OpenClaim := { program := "ytklnnmlegagfoaa", sum := "08948782c0bbae85f561891f319e744443f77250fb155bb1d04b1d1aa22a33b7", func := "citadel/citadellaw06.TweakAlone", spec := "tweakAlone", unfollowed := true, recurses := true, apart := false }
def TweakAloneSaid : Prop := tweakAloneRow.holds Try.pinned (OpenSpec.ofChange tweakAloneSpec)

/-- ITS FALSE NEIGHBOUR: 'it returns false'. Refute it at one input. -/
def tweakAloneWrong : ChangeSpec := { name := "tweakAlone", fn := fun _ => fun
  | [d] => { results := [.lit (.bool false)], args := [d] }
  | _ => none }
def TweakAloneWrongFalsely : Prop := tweakAloneRow.holds Try.pinned (OpenSpec.ofChange tweakAloneWrong)

/-- 'citadellaw06.TweakStands': WHATEVER THE INPUT: true; the input reads as it did. -/
def tweakStandsSpec : ChangeSpec := { name := "tweakStands", fn := fun _ => fun
  | [d] => { results := [.lit (.bool true)], args := [d] }
  | _ => none }
def tweakStandsRow : OpenClaim := { program := "ytklnnmlegagfoaa", sum := "08948782c0bbae85f561891f319e744443f77250fb155bb1d04b1d1aa22a33b7", func := "citadel/citadellaw06.TweakStands", spec := "tweakStands", unfollowed := true, recurses := true, apart := false }
def TweakStandsSaid : Prop := tweakStandsRow.holds Try.pinned (OpenSpec.ofChange tweakStandsSpec)

/-- ITS FALSE NEIGHBOUR: 'it returns false'. Refute it at one input. -/
def tweakStandsWrong : ChangeSpec := { name := "tweakStands", fn := fun _ => fun
  | [d] => { results := [.lit (.bool false)], args := [d] }
  | _ => none }
def TweakStandsWrongFalsely : Prop := tweakStandsRow.holds Try.pinned (OpenSpec.ofChange tweakStandsWrong)

/- THE SECOND FORM. 'bulk': how many values and letters a reading holds, each counted each time it is reached (what is shared counts as often as it is met; a slice's spare places count too). A statement '..UptoSaid' is the law's where the arguments, and the package variables that the reading takes, are together of bulk at most 1048576: NARROWER than '..Said'. Prove '..Said' where nothing that the law and all that it calls make is longer than what came in: it says more and counts as full. Else prove '..UptoSaid'. A law counts once. -/
mutual
def uptoBulk {H : Type} : DataW H → Nat
  | .lit (.string bytes) => bytes.length + 1
  | .lit _ => 1
  | .nil => 1
  | .ptr d => uptoBulk d + 1
  | .slice elems spare => uptoBulkAll elems + uptoBulkAll spare + 1
  | .agg parts => uptoBulkAll parts + 1
  | .iface _ d => uptoBulk d + 1
  | .map entries => uptoBulkEntries entries + 1
  | .held _ => 1
def uptoBulkAll {H : Type} : List (DataW H) → Nat
  | [] => 0
  | d :: r => uptoBulk d + uptoBulkAll r
def uptoBulkEntries {H : Type} : List (Lit × DataW H) → Nat
  | [] => 0
  | x :: r => uptoBulkEntry x + uptoBulkEntries r
def uptoBulkEntry {H : Type} : Lit × DataW H → Nat
  | (.string bytes, d) => bytes.length + uptoBulk d + 1
  | (_, d) => uptoBulk d + 1
 end
def uptoSmall : (H : Type) → List (DataW H) → Bool := fun _ ds => decide (uptoBulkAll ds ≤ 1048576)
def OpenSpec.upto (s : _root_.Go.ChangeSpec) : _root_.Go.OpenSpec := { _root_.Go.OpenSpec.ofChange s with cond := some uptoSmall }

/-- 'citadellaw06.TweakNumbers', WHERE WHAT IT READS IS OF BULK AT MOST 1048576: true; the input reads as it did. -/
def tweakNumbersUptoRow : OpenClaim := { program := "ytklnnmlegagfoaa", sum := "08948782c0bbae85f561891f319e744443f77250fb155bb1d04b1d1aa22a33b7", func := "citadel/citadellaw06.TweakNumbers", spec := "tweakNumbers", unfollowed := true, recurses := true, apart := false, narrowed := true }
def TweakNumbersUptoSaid : Prop := tweakNumbersUptoRow.holds Try.pinned (OpenSpec.upto tweakNumbersSpec)

/-- 'citadellaw06.TweakBlocks', WHERE WHAT IT READS IS OF BULK AT MOST 1048576: true; the input reads as it did. -/
def tweakBlocksUptoRow : OpenClaim := { program := "ytklnnmlegagfoaa", sum := "08948782c0bbae85f561891f319e744443f77250fb155bb1d04b1d1aa22a33b7", func := "citadel/citadellaw06.TweakBlocks", spec := "tweakBlocks", unfollowed := true, recurses := true, apart := false, narrowed := true }
def TweakBlocksUptoSaid : Prop := tweakBlocksUptoRow.holds Try.pinned (OpenSpec.upto tweakBlocksSpec)

/-- 'citadellaw06.TweakOne', WHERE WHAT IT READS IS OF BULK AT MOST 1048576: true; the input reads as it did. -/
def tweakOneUptoRow : OpenClaim := { program := "ytklnnmlegagfoaa", sum := "08948782c0bbae85f561891f319e744443f77250fb155bb1d04b1d1aa22a33b7", func := "citadel/citadellaw06.TweakOne", spec := "tweakOne", unfollowed := true, recurses := true, apart := false, narrowed := true }
def TweakOneUptoSaid : Prop := tweakOneUptoRow.holds Try.pinned (OpenSpec.upto tweakOneSpec)

/-- 'citadellaw06.TweakHides', WHERE WHAT IT READS IS OF BULK AT MOST 1048576: true; the input reads as it did. -/
def tweakHidesUptoRow : OpenClaim := { program := "ytklnnmlegagfoaa", sum := "08948782c0bbae85f561891f319e744443f77250fb155bb1d04b1d1aa22a33b7", func := "citadel/citadellaw06.TweakHides", spec := "tweakHides", unfollowed := true, recurses := true, apart := false, narrowed := true }
def TweakHidesUptoSaid : Prop := tweakHidesUptoRow.holds Try.pinned (OpenSpec.upto tweakHidesSpec)

/-- 'citadellaw06.TweakShows', WHERE WHAT IT READS IS OF BULK AT MOST 1048576: true; the input reads as it did. -/
def tweakShowsUptoRow : OpenClaim := { program := "ytklnnmlegagfoaa", sum := "08948782c0bbae85f561891f319e744443f77250fb155bb1d04b1d1aa22a33b7", func := "citadel/citadellaw06.TweakShows", spec := "tweakShows", unfollowed := true, recurses := true, apart := false, narrowed := true }
def TweakShowsUptoSaid : Prop := tweakShowsUptoRow.holds Try.pinned (OpenSpec.upto tweakShowsSpec)

/-- 'citadellaw06.TweakBack', WHERE WHAT IT READS IS OF BULK AT MOST 1048576: true; the input reads as it did. -/
def tweakBackUptoRow : OpenClaim := { program := "ytklnnmlegagfoaa", sum := "08948782c0bbae85f561891f319e744443f77250fb155bb1d04b1d1aa22a33b7", func := "citadel/citadellaw06.TweakBack", spec := "tweakBack", unfollowed := true, recurses := true, apart := false, narrowed := true }
def TweakBackUptoSaid : Prop := tweakBackUptoRow.holds Try.pinned (OpenSpec.upto tweakBackSpec)

/-- 'citadellaw06.TweakAlone', WHERE WHAT IT READS IS OF BULK AT MOST 1048576: true; the input reads as it did. -/
def tweakAloneUptoRow : OpenClaim := { program := "ytklnnmlegagfoaa", sum := "08948782c0bbae85f561891f319e744443f77250fb155bb1d04b1d1aa22a33b7", func := "citadel/citadellaw06.TweakAlone", spec := "tweakAlone", unfollowed := true, recurses := true, apart := false, narrowed := true }
def TweakAloneUptoSaid : Prop := tweakAloneUptoRow.holds Try.pinned (OpenSpec.upto tweakAloneSpec)

/-- 'citadellaw06.TweakStands', WHERE WHAT IT READS IS OF BULK AT MOST 1048576: true; the input reads as it did. -/
def tweakStandsUptoRow : OpenClaim := { program := "ytklnnmlegagfoaa", sum := "08948782c0bbae85f561891f319e744443f77250fb155bb1d04b1d1aa22a33b7", func := "citadel/citadellaw06.TweakStands", spec := "tweakStands", unfollowed := true, recurses := true, apart := false, narrowed := true }
def TweakStandsUptoSaid : Prop := tweakStandsUptoRow.holds Try.pinned (OpenSpec.upto tweakStandsSpec)

end Rows
end Go.Proofs.Ytklnnmlegagfoaa
