/-
  No cell of these rows narrows 'for every input' (looked for: loops, veiled, ifaces, maps, wideKeys, modest, calm, conditions, laid).
  DERIVED. THE GIVEN ROWS OF THIS SEAT. 7 by the template 'for every input the law returns true; each argument reads behind the call as it read before'; 0 by the template 'total and deterministic' (their statements: YtfnoiijodcmaeaaTotals.lean).
  GIVEN WITH THE SEED: the statements are not yours to turn. If you find one false, say at which input.
  Laid BY PROGRAM, IN A SANDBOX (cutbox-rows.mjs): the forced cells as the released guide's own fill.sh prints them over the translation 526a35df08b9229d… (all of the seat's roots in one cut). By AI agents, Wed Nov 11 2026. No macro, syntax, notation, axiom, sorry.
-/
import Derived.Test.YtfnoiijodcmaeaaChecked
import GoSem.Claim
import GoSem.ClaimJoined
import GoSem.ClaimMapViews
import Derived.JoinedTies
import Derived.KernelRfl
namespace Go.Proofs.Ytfnoiijodcmaeaa
/- THE CELL 'sum', in the pinned program and in every row, IS THE sha256 OF THE DUMP (.gsa) THAT YtfnoiijodcmaeaaProg.lean LOADS. Nothing in Lean hashes anything: it is a label: what it is worth is what the hold of that sum in a sandbox is worth. -/
noncomputable def Try.pinned : Pinned := { name := "ytfnoiijodcmaeaa", sum := "526a35df08b9229dba27d16adfed160092fc87f833484a1463ba1140fc17f6f8", checked := Try.checked }
namespace Rows
def none {H : Type} : Left H := { results := [], args := [] }

/-- 'citadellaw08.WordsPut': WHATEVER THE INPUT: true; the input reads as it did. -/
def wordsPutSpec : ChangeSpec := { name := "wordsPut", fn := fun _ => fun
  | [d1, d2, d3] => { results := [.lit (.bool true)], args := [d1, d2, d3] }
  | _ => none }
def wordsPutRow : OpenClaim := { program := "ytfnoiijodcmaeaa", sum := "526a35df08b9229dba27d16adfed160092fc87f833484a1463ba1140fc17f6f8", func := "citadel/citadellaw08.WordsPut", spec := "wordsPut", apart := false }
def WordsPutSaid : Prop := wordsPutRow.holds Try.pinned (OpenSpec.ofChange wordsPutSpec)

/-- ITS FALSE NEIGHBOUR: 'it returns false'. Refute it at one input. -/
def wordsPutWrong : ChangeSpec := { name := "wordsPut", fn := fun _ => fun
  | [d1, d2, d3] => { results := [.lit (.bool false)], args := [d1, d2, d3] }
  | _ => none }
def WordsPutWrongFalsely : Prop := wordsPutRow.holds Try.pinned (OpenSpec.ofChange wordsPutWrong)

/-- 'citadellaw08.WordsTake': WHATEVER THE INPUT: true; the input reads as it did. -/
def wordsTakeSpec : ChangeSpec := { name := "wordsTake", fn := fun _ => fun
  | [d1, d2] => { results := [.lit (.bool true)], args := [d1, d2] }
  | _ => none }
def wordsTakeRow : OpenClaim := { program := "ytfnoiijodcmaeaa", sum := "526a35df08b9229dba27d16adfed160092fc87f833484a1463ba1140fc17f6f8", func := "citadel/citadellaw08.WordsTake", spec := "wordsTake", apart := false }
def WordsTakeSaid : Prop := wordsTakeRow.holds Try.pinned (OpenSpec.ofChange wordsTakeSpec)

/-- ITS FALSE NEIGHBOUR: 'it returns false'. Refute it at one input. -/
def wordsTakeWrong : ChangeSpec := { name := "wordsTake", fn := fun _ => fun
  | [d1, d2] => { results := [.lit (.bool false)], args := [d1, d2] }
  | _ => none }
def WordsTakeWrongFalsely : Prop := wordsTakeRow.holds Try.pinned (OpenSpec.ofChange wordsTakeWrong)

/-- 'citadellaw08.WordsBack': WHATEVER THE INPUT: true; the input reads as it did. -/
def wordsBackSpec : ChangeSpec := { name := "wordsBack", fn := fun _ => fun
  | [d1, d2, d3] => { results := [.lit (.bool true)], args := [d1, d2, d3] }
  | _ => none }
def wordsBackRow : OpenClaim := { program := "ytfnoiijodcmaeaa", sum := "526a35df08b9229dba27d16adfed160092fc87f833484a1463ba1140fc17f6f8", func := "citadel/citadellaw08.WordsBack", spec := "wordsBack", apart := false }
def WordsBackSaid : Prop := wordsBackRow.holds Try.pinned (OpenSpec.ofChange wordsBackSpec)

/-- ITS FALSE NEIGHBOUR: 'it returns false'. Refute it at one input. -/
def wordsBackWrong : ChangeSpec := { name := "wordsBack", fn := fun _ => fun
  | [d1, d2, d3] => { results := [.lit (.bool false)], args := [d1, d2, d3] }
  | _ => none }
def WordsBackWrongFalsely : Prop := wordsBackRow.holds Try.pinned (OpenSpec.ofChange wordsBackWrong)

/-- 'citadellaw08.WordsRow': WHATEVER THE INPUT: true; the input reads as it did. -/
def wordsRowSpec : ChangeSpec := { name := "wordsRow", fn := fun _ => fun
  | [d1, d2] => { results := [.lit (.bool true)], args := [d1, d2] }
  | _ => none }
def wordsRowRow : OpenClaim := { program := "ytfnoiijodcmaeaa", sum := "526a35df08b9229dba27d16adfed160092fc87f833484a1463ba1140fc17f6f8", func := "citadel/citadellaw08.WordsRow", spec := "wordsRow", apart := false }
def WordsRowSaid : Prop := wordsRowRow.holds Try.pinned (OpenSpec.ofChange wordsRowSpec)

/-- ITS FALSE NEIGHBOUR: 'it returns false'. Refute it at one input. -/
def wordsRowWrong : ChangeSpec := { name := "wordsRow", fn := fun _ => fun
  | [d1, d2] => { results := [.lit (.bool false)], args := [d1, d2] }
  | _ => none }
def WordsRowWrongFalsely : Prop := wordsRowRow.holds Try.pinned (OpenSpec.ofChange wordsRowWrong)

/-- 'citadellaw08.WordsRows': WHATEVER THE INPUT: true; the input reads as it did. -/
def wordsRowsSpec : ChangeSpec := { name := "wordsRows", fn := fun _ => fun
  | [d1, d2] => { results := [.lit (.bool true)], args := [d1, d2] }
  | _ => none }
def wordsRowsRow : OpenClaim := { program := "ytfnoiijodcmaeaa", sum := "526a35df08b9229dba27d16adfed160092fc87f833484a1463ba1140fc17f6f8", func := "citadel/citadellaw08.WordsRows", spec := "wordsRows", unfollowed := true, recurses := true, apart := false }
def WordsRowsSaid : Prop := wordsRowsRow.holds Try.pinned (OpenSpec.ofChange wordsRowsSpec)

/-- ITS FALSE NEIGHBOUR: 'it returns false'. Refute it at one input. -/
def wordsRowsWrong : ChangeSpec := { name := "wordsRows", fn := fun _ => fun
  | [d1, d2] => { results := [.lit (.bool false)], args := [d1, d2] }
  | _ => none }
def WordsRowsWrongFalsely : Prop := wordsRowsRow.holds Try.pinned (OpenSpec.ofChange wordsRowsWrong)

/-- 'citadellaw08.WordsFill': WHATEVER THE INPUT: true; the input reads as it did. -/
def wordsFillSpec : ChangeSpec := { name := "wordsFill", fn := fun _ => fun
  | [d] => { results := [.lit (.bool true)], args := [d] }
  | _ => none }
def wordsFillRow : OpenClaim := { program := "ytfnoiijodcmaeaa", sum := "526a35df08b9229dba27d16adfed160092fc87f833484a1463ba1140fc17f6f8", func := "citadel/citadellaw08.WordsFill", spec := "wordsFill", apart := false }
def WordsFillSaid : Prop := wordsFillRow.holds Try.pinned (OpenSpec.ofChange wordsFillSpec)

/-- ITS FALSE NEIGHBOUR: 'it returns false'. Refute it at one input. -/
def wordsFillWrong : ChangeSpec := { name := "wordsFill", fn := fun _ => fun
  | [d] => { results := [.lit (.bool false)], args := [d] }
  | _ => none }
def WordsFillWrongFalsely : Prop := wordsFillRow.holds Try.pinned (OpenSpec.ofChange wordsFillWrong)

/-- 'citadellaw08.WordsOrder': WHATEVER THE INPUT: true; the input reads as it did. -/
def wordsOrderSpec : ChangeSpec := { name := "wordsOrder", fn := fun _ => fun
  | [d1, d2, d3] => { results := [.lit (.bool true)], args := [d1, d2, d3] }
  | _ => none }
def wordsOrderRow : OpenClaim := { program := "ytfnoiijodcmaeaa", sum := "526a35df08b9229dba27d16adfed160092fc87f833484a1463ba1140fc17f6f8", func := "citadel/citadellaw08.WordsOrder", spec := "wordsOrder", apart := false }
def WordsOrderSaid : Prop := wordsOrderRow.holds Try.pinned (OpenSpec.ofChange wordsOrderSpec)

/-- ITS FALSE NEIGHBOUR: 'it returns false'. Refute it at one input. -/
def wordsOrderWrong : ChangeSpec := { name := "wordsOrder", fn := fun _ => fun
  | [d1, d2, d3] => { results := [.lit (.bool false)], args := [d1, d2, d3] }
  | _ => none }
def WordsOrderWrongFalsely : Prop := wordsOrderRow.holds Try.pinned (OpenSpec.ofChange wordsOrderWrong)

/- THE SECOND FORM. 'bulk': how many values and letters a reading holds, each counted each time it is reached (what is shared counts as often as it is met; a slice's spare places count too). A statement '..UptoSaid' is the law's where the arguments, and the package variables that the reading takes, are together of bulk at most 1048576: NARROWER than '..Said'. Prove '..Said' where nothing that the law and all that it calls make is longer than what came in: it says more and counts as full. Else prove '..UptoSaid'. A law counts once. -/
mutual
def uptoBulk {H : Type} : DataW H → Nat
  | .lit (.string bytes) => bytes.length + 1
  | .lit _ => 1
  | .nil => 1
  | .ptr d => uptoBulk d + 1
  | .slice elems spare => uptoBulkAll elems + uptoBulkAll spare + 1
  | .agg parts => uptoBulkAll parts + 1
  | .iface _ d => uptoBulk d + 1
  | .map entries => uptoBulkEntries entries + 1
  | .held _ => 1
def uptoBulkAll {H : Type} : List (DataW H) → Nat
  | [] => 0
  | d :: r => uptoBulk d + uptoBulkAll r
def uptoBulkEntries {H : Type} : List (Lit × DataW H) → Nat
  | [] => 0
  | x :: r => uptoBulkEntry x + uptoBulkEntries r
def uptoBulkEntry {H : Type} : Lit × DataW H → Nat
  | (.string bytes, d) => bytes.length + uptoBulk d + 1
  | (_, d) => uptoBulk d + 1
 end
def uptoSmall : (H : Type) → List (DataW H) → Bool := fun _ ds => decide (uptoBulkAll ds ≤ 1048576)
def OpenSpec.upto (s : _root_.Go.ChangeSpec) : _root_.Go.OpenSpec := { _root_.Go.OpenSpec.ofChange s with cond := some uptoSmall }

/-- 'citadellaw08.WordsPut', WHERE WHAT IT READS IS OF BULK AT MOST 1048576: true; the input reads as it did. -/
def wordsPutUptoRow : OpenClaim := { program := "ytfnoiijodcmaeaa", sum := "526a35df08b9229dba27d16adfed160092fc87f833484a1463ba1140fc17f6f8", func := "citadel/citadellaw08.WordsPut", spec := "wordsPut", apart := false, narrowed := true }
def WordsPutUptoSaid : Prop := wordsPutUptoRow.holds Try.pinned (OpenSpec.upto wordsPutSpec)

/-- 'citadellaw08.WordsTake', WHERE WHAT IT READS IS OF BULK AT MOST 1048576: true; the input reads as it did. -/
def wordsTakeUptoRow : OpenClaim := { program := "ytfnoiijodcmaeaa", sum := "526a35df08b9229dba27d16adfed160092fc87f833484a1463ba1140fc17f6f8", func := "citadel/citadellaw08.WordsTake", spec := "wordsTake", apart := false, narrowed := true }
def WordsTakeUptoSaid : Prop := wordsTakeUptoRow.holds Try.pinned (OpenSpec.upto wordsTakeSpec)

/-- 'citadellaw08.WordsBack', WHERE WHAT IT READS IS OF BULK AT MOST 1048576: true; the input reads as it did. -/
def wordsBackUptoRow : OpenClaim := { program := "ytfnoiijodcmaeaa", sum := "526a35df08b9229dba27d16adfed160092fc87f833484a1463ba1140fc17f6f8", func := "citadel/citadellaw08.WordsBack", spec := "wordsBack", apart := false, narrowed := true }
def WordsBackUptoSaid : Prop := wordsBackUptoRow.holds Try.pinned (OpenSpec.upto wordsBackSpec)

/-- 'citadellaw08.WordsRow', WHERE WHAT IT READS IS OF BULK AT MOST 1048576: true; the input reads as it did. -/
def wordsRowUptoRow : OpenClaim := { program := "ytfnoiijodcmaeaa", sum := "526a35df08b9229dba27d16adfed160092fc87f833484a1463ba1140fc17f6f8", func := "citadel/citadellaw08.WordsRow", spec := "wordsRow", apart := false, narrowed := true }
def WordsRowUptoSaid : Prop := wordsRowUptoRow.holds Try.pinned (OpenSpec.upto wordsRowSpec)

/-- 'citadellaw08.WordsRows', WHERE WHAT IT READS IS OF BULK AT MOST 1048576: true; the input reads as it did. -/
def wordsRowsUptoRow : OpenClaim := { program := "ytfnoiijodcmaeaa", sum := "526a35df08b9229dba27d16adfed160092fc87f833484a1463ba1140fc17f6f8", func := "citadel/citadellaw08.WordsRows", spec := "wordsRows", unfollowed := true, recurses := true, apart := false, narrowed := true }
def WordsRowsUptoSaid : Prop := wordsRowsUptoRow.holds Try.pinned (OpenSpec.upto wordsRowsSpec)

/-- 'citadellaw08.WordsFill', WHERE WHAT IT READS IS OF BULK AT MOST 1048576: true; the input reads as it did. -/
def wordsFillUptoRow : OpenClaim := { program := "ytfnoiijodcmaeaa", sum := "526a35df08b9229dba27d16adfed160092fc87f833484a1463ba1140fc17f6f8", func := "citadel/citadellaw08.WordsFill", spec := "wordsFill", apart := false, narrowed := true }
def WordsFillUptoSaid : Prop := wordsFillUptoRow.holds Try.pinned (OpenSpec.upto wordsFillSpec)

/-- 'citadellaw08.WordsOrder', WHERE WHAT IT READS IS OF BULK AT MOST 1048576: true; the input reads as it did. -/
def wordsOrderUptoRow : OpenClaim := { program := "ytfnoiijodcmaeaa", sum := "526a35df08b9229dba27d16adfed160092fc87f833484a1463ba1140fc17f6f8", func := "citadel/citadellaw08.WordsOrder", spec := "wordsOrder", apart := false, narrowed := true }
def WordsOrderUptoSaid : Prop := wordsOrderUptoRow.holds Try.pinned (OpenSpec.upto wordsOrderSpec)

end Rows
end Go.Proofs.Ytfnoiijodcmaeaa
