/-
  No cell of these rows narrows 'for every input' (looked for: loops, veiled, ifaces, maps, wideKeys, modest, calm, conditions, laid).
  DERIVED. THE GIVEN ROWS OF THIS SEAT. 6 by the template 'for every input the law returns true; each argument reads behind the call as it read before'; 0 by the template 'total and deterministic' (their statements: YtfnkdmdcjliebaaTotals.lean).
  GIVEN WITH THE SEED: the statements are not yours to turn. If you find one false, say at which input.
  Laid BY PROGRAM, IN A SANDBOX (cutbox-rows.mjs): the forced cells as the released guide's own fill.sh prints them over the translation a9c97c04d8f25a17… (all of the seat's roots in one cut). By AI agents, Wed Nov 11 2026. No macro, syntax, notation, axiom, sorry.
-/
import Derived.Test.YtfnkdmdcjliebaaChecked
import GoSem.Claim
import GoSem.ClaimJoined
import GoSem.ClaimMapViews
import Derived.JoinedTies
import Derived.KernelRfl
namespace Go.Proofs.Ytfnkdmdcjliebaa
/- THE CELL 'sum', in the pinned program and in every row, IS THE sha256 OF THE DUMP (.gsa) THAT YtfnkdmdcjliebaaProg.lean LOADS. Nothing in Lean hashes anything: it is a label: what it is worth is what the hold of that sum in a sandbox is worth. -/
noncomputable def Try.pinned : Pinned := { name := "ytfnkdmdcjliebaa", sum := "a9c97c04d8f25a176df26800e8930e5ab789958b1bd4dbc5a18b95ef5f63d80c", checked := Try.checked }
namespace Rows
def none {H : Type} : Left H := { results := [], args := [] }

/-- 'citadellaw14.ResvDoes': WHATEVER THE INPUT: true; the input reads as it did. -/
def resvDoesSpec : ChangeSpec := { name := "resvDoes", fn := fun _ => fun
  | [d1, d2] => { results := [.lit (.bool true)], args := [d1, d2] }
  | _ => none }
def resvDoesRow : OpenClaim := { program := "ytfnkdmdcjliebaa", sum := "a9c97c04d8f25a176df26800e8930e5ab789958b1bd4dbc5a18b95ef5f63d80c", func := "citadel/citadellaw14.ResvDoes", spec := "resvDoes", unfollowed := true, recurses := true, apart := false }
def ResvDoesSaid : Prop := resvDoesRow.holds Try.pinned (OpenSpec.ofChange resvDoesSpec)

/-- ITS FALSE NEIGHBOUR: 'it returns false'. Refute it at one input. -/
def resvDoesWrong : ChangeSpec := { name := "resvDoes", fn := fun _ => fun
  | [d1, d2] => { results := [.lit (.bool false)], args := [d1, d2] }
  | _ => none }
def ResvDoesWrongFalsely : Prop := resvDoesRow.holds Try.pinned (OpenSpec.ofChange resvDoesWrong)

/-- 'citadellaw14.ResvRuns': WHATEVER THE INPUT: true; the input reads as it did. -/
def resvRunsSpec : ChangeSpec := { name := "resvRuns", fn := fun _ => fun
  | [d] => { results := [.lit (.bool true)], args := [d] }
  | _ => none }
def resvRunsRow : OpenClaim := { program := "ytfnkdmdcjliebaa", sum := "a9c97c04d8f25a176df26800e8930e5ab789958b1bd4dbc5a18b95ef5f63d80c", func := "citadel/citadellaw14.ResvRuns", spec := "resvRuns", unfollowed := true, recurses := true, apart := false }
def ResvRunsSaid : Prop := resvRunsRow.holds Try.pinned (OpenSpec.ofChange resvRunsSpec)

/-- ITS FALSE NEIGHBOUR: 'it returns false'. Refute it at one input. -/
def resvRunsWrong : ChangeSpec := { name := "resvRuns", fn := fun _ => fun
  | [d] => { results := [.lit (.bool false)], args := [d] }
  | _ => none }
def ResvRunsWrongFalsely : Prop := resvRunsRow.holds Try.pinned (OpenSpec.ofChange resvRunsWrong)

/-- 'citadellaw14.ResvAllows': WHATEVER THE INPUT: true; the input reads as it did. -/
def resvAllowsSpec : ChangeSpec := { name := "resvAllows", fn := fun _ => fun
  | [d1, d2, d3] => { results := [.lit (.bool true)], args := [d1, d2, d3] }
  | _ => none }
def resvAllowsRow : OpenClaim := { program := "ytfnkdmdcjliebaa", sum := "a9c97c04d8f25a176df26800e8930e5ab789958b1bd4dbc5a18b95ef5f63d80c", func := "citadel/citadellaw14.ResvAllows", spec := "resvAllows", unfollowed := true, recurses := true, apart := false }
def ResvAllowsSaid : Prop := resvAllowsRow.holds Try.pinned (OpenSpec.ofChange resvAllowsSpec)

/-- ITS FALSE NEIGHBOUR: 'it returns false'. Refute it at one input. -/
def resvAllowsWrong : ChangeSpec := { name := "resvAllows", fn := fun _ => fun
  | [d1, d2, d3] => { results := [.lit (.bool false)], args := [d1, d2, d3] }
  | _ => none }
def ResvAllowsWrongFalsely : Prop := resvAllowsRow.holds Try.pinned (OpenSpec.ofChange resvAllowsWrong)

/-- 'citadellaw14.ResvFair': WHATEVER THE INPUT: true; the input reads as it did. -/
def resvFairSpec : ChangeSpec := { name := "resvFair", fn := fun _ => fun
  | [d1, d2] => { results := [.lit (.bool true)], args := [d1, d2] }
  | _ => none }
def resvFairRow : OpenClaim := { program := "ytfnkdmdcjliebaa", sum := "a9c97c04d8f25a176df26800e8930e5ab789958b1bd4dbc5a18b95ef5f63d80c", func := "citadel/citadellaw14.ResvFair", spec := "resvFair", unfollowed := true, recurses := true, apart := false }
def ResvFairSaid : Prop := resvFairRow.holds Try.pinned (OpenSpec.ofChange resvFairSpec)

/-- ITS FALSE NEIGHBOUR: 'it returns false'. Refute it at one input. -/
def resvFairWrong : ChangeSpec := { name := "resvFair", fn := fun _ => fun
  | [d1, d2] => { results := [.lit (.bool false)], args := [d1, d2] }
  | _ => none }
def ResvFairWrongFalsely : Prop := resvFairRow.holds Try.pinned (OpenSpec.ofChange resvFairWrong)

/-- 'citadellaw14.ResvNotes': WHATEVER THE INPUT: true; the input reads as it did. -/
def resvNotesSpec : ChangeSpec := { name := "resvNotes", fn := fun _ => fun
  | [d] => { results := [.lit (.bool true)], args := [d] }
  | _ => none }
def resvNotesRow : OpenClaim := { program := "ytfnkdmdcjliebaa", sum := "a9c97c04d8f25a176df26800e8930e5ab789958b1bd4dbc5a18b95ef5f63d80c", func := "citadel/citadellaw14.ResvNotes", spec := "resvNotes", unfollowed := true, recurses := true, apart := false }
def ResvNotesSaid : Prop := resvNotesRow.holds Try.pinned (OpenSpec.ofChange resvNotesSpec)

/-- ITS FALSE NEIGHBOUR: 'it returns false'. Refute it at one input. -/
def resvNotesWrong : ChangeSpec := { name := "resvNotes", fn := fun _ => fun
  | [d] => { results := [.lit (.bool false)], args := [d] }
  | _ => none }
def ResvNotesWrongFalsely : Prop := resvNotesRow.holds Try.pinned (OpenSpec.ofChange resvNotesWrong)

/-- 'citadellaw14.ResvEnds': WHATEVER THE INPUT: true; the input reads as it did. -/
def resvEndsSpec : ChangeSpec := { name := "resvEnds", fn := fun _ => fun
  | [d1, d2] => { results := [.lit (.bool true)], args := [d1, d2] }
  | _ => none }
def resvEndsRow : OpenClaim := { program := "ytfnkdmdcjliebaa", sum := "a9c97c04d8f25a176df26800e8930e5ab789958b1bd4dbc5a18b95ef5f63d80c", func := "citadel/citadellaw14.ResvEnds", spec := "resvEnds", unfollowed := true, recurses := true, apart := false }
def ResvEndsSaid : Prop := resvEndsRow.holds Try.pinned (OpenSpec.ofChange resvEndsSpec)

/-- ITS FALSE NEIGHBOUR: 'it returns false'. Refute it at one input. -/
def resvEndsWrong : ChangeSpec := { name := "resvEnds", fn := fun _ => fun
  | [d1, d2] => { results := [.lit (.bool false)], args := [d1, d2] }
  | _ => none }
def ResvEndsWrongFalsely : Prop := resvEndsRow.holds Try.pinned (OpenSpec.ofChange resvEndsWrong)

/- THE SECOND FORM. 'bulk': how many values and letters a reading holds, each counted each time it is reached (what is shared counts as often as it is met; a slice's spare places count too). A statement '..UptoSaid' is the law's where the arguments, and the package variables that the reading takes, are together of bulk at most 1048576: NARROWER than '..Said'. Prove '..Said' where nothing that the law and all that it calls make is longer than what came in: it says more and counts as full. Else prove '..UptoSaid'. A law counts once. -/
mutual
def uptoBulk {H : Type} : DataW H → Nat
  | .lit (.string bytes) => bytes.length + 1
  | .lit _ => 1
  | .nil => 1
  | .ptr d => uptoBulk d + 1
  | .slice elems spare => uptoBulkAll elems + uptoBulkAll spare + 1
  | .agg parts => uptoBulkAll parts + 1
  | .iface _ d => uptoBulk d + 1
  | .map entries => uptoBulkEntries entries + 1
  | .held _ => 1
def uptoBulkAll {H : Type} : List (DataW H) → Nat
  | [] => 0
  | d :: r => uptoBulk d + uptoBulkAll r
def uptoBulkEntries {H : Type} : List (Lit × DataW H) → Nat
  | [] => 0
  | x :: r => uptoBulkEntry x + uptoBulkEntries r
def uptoBulkEntry {H : Type} : Lit × DataW H → Nat
  | (.string bytes, d) => bytes.length + uptoBulk d + 1
  | (_, d) => uptoBulk d + 1
 end
def uptoSmall : (H : Type) → List (DataW H) → Bool := fun _ ds => decide (uptoBulkAll ds ≤ 1048576)
def OpenSpec.upto (s : _root_.Go.ChangeSpec) : _root_.Go.OpenSpec := { _root_.Go.OpenSpec.ofChange s with cond := some uptoSmall }

/-- 'citadellaw14.ResvDoes', WHERE WHAT IT READS IS OF BULK AT MOST 1048576: true; the input reads as it did. -/
def resvDoesUptoRow : OpenClaim := { program := "ytfnkdmdcjliebaa", sum := "a9c97c04d8f25a176df26800e8930e5ab789958b1bd4dbc5a18b95ef5f63d80c", func := "citadel/citadellaw14.ResvDoes", spec := "resvDoes", unfollowed := true, recurses := true, apart := false, narrowed := true }
def ResvDoesUptoSaid : Prop := resvDoesUptoRow.holds Try.pinned (OpenSpec.upto resvDoesSpec)

/-- 'citadellaw14.ResvRuns', WHERE WHAT IT READS IS OF BULK AT MOST 1048576: true; the input reads as it did. -/
def resvRunsUptoRow : OpenClaim := { program := "ytfnkdmdcjliebaa", sum := "a9c97c04d8f25a176df26800e8930e5ab789958b1bd4dbc5a18b95ef5f63d80c", func := "citadel/citadellaw14.ResvRuns", spec := "resvRuns", unfollowed := true, recurses := true, apart := false, narrowed := true }
def ResvRunsUptoSaid : Prop := resvRunsUptoRow.holds Try.pinned (OpenSpec.upto resvRunsSpec)

/-- 'citadellaw14.ResvAllows', WHERE WHAT IT READS IS OF BULK AT MOST 1048576: true; the input reads as it did. -/
def resvAllowsUptoRow : OpenClaim := { program := "ytfnkdmdcjliebaa", sum := "a9c97c04d8f25a176df26800e8930e5ab789958b1bd4dbc5a18b95ef5f63d80c", func := "citadel/citadellaw14.ResvAllows", spec := "resvAllows", unfollowed := true, recurses := true, apart := false, narrowed := true }
def ResvAllowsUptoSaid : Prop := resvAllowsUptoRow.holds Try.pinned (OpenSpec.upto resvAllowsSpec)

/-- 'citadellaw14.ResvFair', WHERE WHAT IT READS IS OF BULK AT MOST 1048576: true; the input reads as it did. -/
def resvFairUptoRow : OpenClaim := { program := "ytfnkdmdcjliebaa", sum := "a9c97c04d8f25a176df26800e8930e5ab789958b1bd4dbc5a18b95ef5f63d80c", func := "citadel/citadellaw14.ResvFair", spec := "resvFair", unfollowed := true, recurses := true, apart := false, narrowed := true }
def ResvFairUptoSaid : Prop := resvFairUptoRow.holds Try.pinned (OpenSpec.upto resvFairSpec)

/-- 'citadellaw14.ResvNotes', WHERE WHAT IT READS IS OF BULK AT MOST 1048576: true; the input reads as it did. -/
def resvNotesUptoRow : OpenClaim := { program := "ytfnkdmdcjliebaa", sum := "a9c97c04d8f25a176df26800e8930e5ab789958b1bd4dbc5a18b95ef5f63d80c", func := "citadel/citadellaw14.ResvNotes", spec := "resvNotes", unfollowed := true, recurses := true, apart := false, narrowed := true }
def ResvNotesUptoSaid : Prop := resvNotesUptoRow.holds Try.pinned (OpenSpec.upto resvNotesSpec)

/-- 'citadellaw14.ResvEnds', WHERE WHAT IT READS IS OF BULK AT MOST 1048576: true; the input reads as it did. -/
def resvEndsUptoRow : OpenClaim := { program := "ytfnkdmdcjliebaa", sum := "a9c97c04d8f25a176df26800e8930e5ab789958b1bd4dbc5a18b95ef5f63d80c", func := "citadel/citadellaw14.ResvEnds", spec := "resvEnds", unfollowed := true, recurses := true, apart := false, narrowed := true }
def ResvEndsUptoSaid : Prop := resvEndsUptoRow.holds Try.pinned (OpenSpec.upto resvEndsSpec)

end Rows
end Go.Proofs.Ytfnkdmdcjliebaa
