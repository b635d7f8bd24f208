/-
  NARROWER THAN 'FOR EVERY INPUT', by the rows' own cells (each row's printed sentence says how): TreeLeaf: laid · TreeJoins: laid · TreePath: laid · TreeBuilds: laid · TreeTurns: laid · TreeHolds: laid · TreeBinds: laid · TreeOthers: laid.
  DERIVED. THE GIVEN ROWS OF THIS SEAT. 8 by the template 'for every input the law returns true; each argument reads behind the call as it read before'; 0 by the template 'total and deterministic' (their statements: YtbdldnhpgpjnoaaDoorTotals.lean).
  GIVEN WITH THE SEED: the statements are not yours to turn. If you find one false, say at which input.
  Laid BY PROGRAM, IN A SANDBOX (cutbox-rows.mjs): the forced cells as the released guide's own fill.sh prints them over the translation 72f3bc0c5351427f… (all of the seat's roots in one cut). By AI agents, Wed Nov 11 2026. No macro, syntax, notation, axiom, sorry.
-/
import Derived.Test.YtbdldnhpgpjnoaaDoorChecked
import GoSem.Claim
import GoSem.ClaimJoined
import GoSem.ClaimMapViews
import Derived.JoinedTies
import Derived.KernelRfl
namespace Go.Proofs.YtbdldnhpgpjnoaaDoor
/- THE CELL 'sum', in the pinned program and in every row, IS THE sha256 OF THE DUMP (.gsa) THAT YtbdldnhpgpjnoaaDoorProg.lean LOADS. Nothing in Lean hashes anything: it is a label: what it is worth is what the hold of that sum in a sandbox is worth. -/
noncomputable def Tryd.pinned : Pinned := { name := "ytbdldnhpgpjnoaadoor", sum := "72f3bc0c5351427fee221e842fe6e7420623e036f1e0538f887f96d9d3bc6b6c", checked := Tryd.checked }
namespace Rows
def none {H : Type} : Left H := { results := [], args := [] }

/- WHAT THE LISTED PACKAGE-LEVEL VARIABLES READ AS WHEN THE CALL BEGINS. Each datum BY PROGRAM (the guide's laid-datum.mjs) off the statement by which the dump's own 'gosem.cut.vars' lays the variable. In a bare row this is a premise. The card (YtbdldnhpgpjnoaaDoorCards.lean) ties it to the program's text. -/
def laid_citadel_digest_constants {H : Type} : DataW H := .agg [.lit (.int .u32 1116352408), .lit (.int .u32 1899447441), .lit (.int .u32 3049323471), .lit (.int .u32 3921009573), .lit (.int .u32 961987163), .lit (.int .u32 1508970993), .lit (.int .u32 2453635748), .lit (.int .u32 2870763221), .lit (.int .u32 3624381080), .lit (.int .u32 310598401), .lit (.int .u32 607225278), .lit (.int .u32 1426881987), .lit (.int .u32 1925078388), .lit (.int .u32 2162078206), .lit (.int .u32 2614888103), .lit (.int .u32 3248222580), .lit (.int .u32 3835390401), .lit (.int .u32 4022224774), .lit (.int .u32 264347078), .lit (.int .u32 604807628), .lit (.int .u32 770255983), .lit (.int .u32 1249150122), .lit (.int .u32 1555081692), .lit (.int .u32 1996064986), .lit (.int .u32 2554220882), .lit (.int .u32 2821834349), .lit (.int .u32 2952996808), .lit (.int .u32 3210313671), .lit (.int .u32 3336571891), .lit (.int .u32 3584528711), .lit (.int .u32 113926993), .lit (.int .u32 338241895), .lit (.int .u32 666307205), .lit (.int .u32 773529912), .lit (.int .u32 1294757372), .lit (.int .u32 1396182291), .lit (.int .u32 1695183700), .lit (.int .u32 1986661051), .lit (.int .u32 2177026350), .lit (.int .u32 2456956037), .lit (.int .u32 2730485921), .lit (.int .u32 2820302411), .lit (.int .u32 3259730800), .lit (.int .u32 3345764771), .lit (.int .u32 3516065817), .lit (.int .u32 3600352804), .lit (.int .u32 4094571909), .lit (.int .u32 275423344), .lit (.int .u32 430227734), .lit (.int .u32 506948616), .lit (.int .u32 659060556), .lit (.int .u32 883997877), .lit (.int .u32 958139571), .lit (.int .u32 1322822218), .lit (.int .u32 1537002063), .lit (.int .u32 1747873779), .lit (.int .u32 1955562222), .lit (.int .u32 2024104815), .lit (.int .u32 2227730452), .lit (.int .u32 2361852424), .lit (.int .u32 2428436474), .lit (.int .u32 2756734187), .lit (.int .u32 3204031479), .lit (.int .u32 3329325298)]

/-- 'citadellaw11.TreeLeaf': WHATEVER THE INPUT: true; the input reads as it did. -/
def treeLeafSpec : ChangeSpec := { name := "treeLeaf", fn := fun _ => fun
  | [d1, d2, d3] => { results := [.lit (.bool true)], args := [d1, d2, d3] }
  | _ => none }
def treeLeafRow : OpenClaim := { program := "ytbdldnhpgpjnoaadoor", sum := "72f3bc0c5351427fee221e842fe6e7420623e036f1e0538f887f96d9d3bc6b6c", func := "citadel/citadellaw11.TreeLeaf", spec := "treeLeaf", unfollowed := true, recurses := true, named := ["citadel/digest.constants"], apart := false, laid := [("citadel/digest.constants", laid_citadel_digest_constants)] }
def TreeLeafSaid : Prop := treeLeafRow.holds Tryd.pinned (OpenSpec.ofChange treeLeafSpec)

/-- ITS FALSE NEIGHBOUR: 'it returns false'. Refute it at one input. -/
def treeLeafWrong : ChangeSpec := { name := "treeLeaf", fn := fun _ => fun
  | [d1, d2, d3] => { results := [.lit (.bool false)], args := [d1, d2, d3] }
  | _ => none }
def TreeLeafWrongFalsely : Prop := treeLeafRow.holds Tryd.pinned (OpenSpec.ofChange treeLeafWrong)

/-- 'citadellaw11.TreeJoins': WHATEVER THE INPUT: true; the input reads as it did. -/
def treeJoinsSpec : ChangeSpec := { name := "treeJoins", fn := fun _ => fun
  | [d] => { results := [.lit (.bool true)], args := [d] }
  | _ => none }
def treeJoinsRow : OpenClaim := { program := "ytbdldnhpgpjnoaadoor", sum := "72f3bc0c5351427fee221e842fe6e7420623e036f1e0538f887f96d9d3bc6b6c", func := "citadel/citadellaw11.TreeJoins", spec := "treeJoins", unfollowed := true, recurses := true, named := ["citadel/digest.constants"], apart := false, laid := [("citadel/digest.constants", laid_citadel_digest_constants)] }
def TreeJoinsSaid : Prop := treeJoinsRow.holds Tryd.pinned (OpenSpec.ofChange treeJoinsSpec)

/-- ITS FALSE NEIGHBOUR: 'it returns false'. Refute it at one input. -/
def treeJoinsWrong : ChangeSpec := { name := "treeJoins", fn := fun _ => fun
  | [d] => { results := [.lit (.bool false)], args := [d] }
  | _ => none }
def TreeJoinsWrongFalsely : Prop := treeJoinsRow.holds Tryd.pinned (OpenSpec.ofChange treeJoinsWrong)

/-- 'citadellaw11.TreePath': WHATEVER THE INPUT: true; the input reads as it did. -/
def treePathSpec : ChangeSpec := { name := "treePath", fn := fun _ => fun
  | [d1, d2] => { results := [.lit (.bool true)], args := [d1, d2] }
  | _ => none }
def treePathRow : OpenClaim := { program := "ytbdldnhpgpjnoaadoor", sum := "72f3bc0c5351427fee221e842fe6e7420623e036f1e0538f887f96d9d3bc6b6c", func := "citadel/citadellaw11.TreePath", spec := "treePath", unfollowed := true, recurses := true, named := ["citadel/digest.constants"], apart := false, laid := [("citadel/digest.constants", laid_citadel_digest_constants)] }
def TreePathSaid : Prop := treePathRow.holds Tryd.pinned (OpenSpec.ofChange treePathSpec)

/-- ITS FALSE NEIGHBOUR: 'it returns false'. Refute it at one input. -/
def treePathWrong : ChangeSpec := { name := "treePath", fn := fun _ => fun
  | [d1, d2] => { results := [.lit (.bool false)], args := [d1, d2] }
  | _ => none }
def TreePathWrongFalsely : Prop := treePathRow.holds Tryd.pinned (OpenSpec.ofChange treePathWrong)

/-- 'citadellaw11.TreeBuilds': WHATEVER THE INPUT: true; the input reads as it did. -/
def treeBuildsSpec : ChangeSpec := { name := "treeBuilds", fn := fun _ => fun
  | [d1, d2] => { results := [.lit (.bool true)], args := [d1, d2] }
  | _ => none }
def treeBuildsRow : OpenClaim := { program := "ytbdldnhpgpjnoaadoor", sum := "72f3bc0c5351427fee221e842fe6e7420623e036f1e0538f887f96d9d3bc6b6c", func := "citadel/citadellaw11.TreeBuilds", spec := "treeBuilds", unfollowed := true, recurses := true, named := ["citadel/digest.constants"], apart := false, laid := [("citadel/digest.constants", laid_citadel_digest_constants)] }
def TreeBuildsSaid : Prop := treeBuildsRow.holds Tryd.pinned (OpenSpec.ofChange treeBuildsSpec)

/-- ITS FALSE NEIGHBOUR: 'it returns false'. Refute it at one input. -/
def treeBuildsWrong : ChangeSpec := { name := "treeBuilds", fn := fun _ => fun
  | [d1, d2] => { results := [.lit (.bool false)], args := [d1, d2] }
  | _ => none }
def TreeBuildsWrongFalsely : Prop := treeBuildsRow.holds Tryd.pinned (OpenSpec.ofChange treeBuildsWrong)

/-- 'citadellaw11.TreeTurns': WHATEVER THE INPUT: true; the input reads as it did. -/
def treeTurnsSpec : ChangeSpec := { name := "treeTurns", fn := fun _ => fun
  | [d] => { results := [.lit (.bool true)], args := [d] }
  | _ => none }
def treeTurnsRow : OpenClaim := { program := "ytbdldnhpgpjnoaadoor", sum := "72f3bc0c5351427fee221e842fe6e7420623e036f1e0538f887f96d9d3bc6b6c", func := "citadel/citadellaw11.TreeTurns", spec := "treeTurns", unfollowed := true, recurses := true, named := ["citadel/digest.constants"], apart := false, laid := [("citadel/digest.constants", laid_citadel_digest_constants)] }
def TreeTurnsSaid : Prop := treeTurnsRow.holds Tryd.pinned (OpenSpec.ofChange treeTurnsSpec)

/-- ITS FALSE NEIGHBOUR: 'it returns false'. Refute it at one input. -/
def treeTurnsWrong : ChangeSpec := { name := "treeTurns", fn := fun _ => fun
  | [d] => { results := [.lit (.bool false)], args := [d] }
  | _ => none }
def TreeTurnsWrongFalsely : Prop := treeTurnsRow.holds Tryd.pinned (OpenSpec.ofChange treeTurnsWrong)

/-- 'citadellaw11.TreeHolds': WHATEVER THE INPUT: true; the input reads as it did. -/
def treeHoldsSpec : ChangeSpec := { name := "treeHolds", fn := fun _ => fun
  | [d] => { results := [.lit (.bool true)], args := [d] }
  | _ => none }
def treeHoldsRow : OpenClaim := { program := "ytbdldnhpgpjnoaadoor", sum := "72f3bc0c5351427fee221e842fe6e7420623e036f1e0538f887f96d9d3bc6b6c", func := "citadel/citadellaw11.TreeHolds", spec := "treeHolds", unfollowed := true, recurses := true, named := ["citadel/digest.constants"], apart := false, laid := [("citadel/digest.constants", laid_citadel_digest_constants)] }
def TreeHoldsSaid : Prop := treeHoldsRow.holds Tryd.pinned (OpenSpec.ofChange treeHoldsSpec)

/-- ITS FALSE NEIGHBOUR: 'it returns false'. Refute it at one input. -/
def treeHoldsWrong : ChangeSpec := { name := "treeHolds", fn := fun _ => fun
  | [d] => { results := [.lit (.bool false)], args := [d] }
  | _ => none }
def TreeHoldsWrongFalsely : Prop := treeHoldsRow.holds Tryd.pinned (OpenSpec.ofChange treeHoldsWrong)

/-- 'citadellaw11.TreeBinds': WHATEVER THE INPUT: true; the input reads as it did. -/
def treeBindsSpec : ChangeSpec := { name := "treeBinds", fn := fun _ => fun
  | [d] => { results := [.lit (.bool true)], args := [d] }
  | _ => none }
def treeBindsRow : OpenClaim := { program := "ytbdldnhpgpjnoaadoor", sum := "72f3bc0c5351427fee221e842fe6e7420623e036f1e0538f887f96d9d3bc6b6c", func := "citadel/citadellaw11.TreeBinds", spec := "treeBinds", unfollowed := true, recurses := true, named := ["citadel/digest.constants"], apart := false, laid := [("citadel/digest.constants", laid_citadel_digest_constants)] }
def TreeBindsSaid : Prop := treeBindsRow.holds Tryd.pinned (OpenSpec.ofChange treeBindsSpec)

/-- ITS FALSE NEIGHBOUR: 'it returns false'. Refute it at one input. -/
def treeBindsWrong : ChangeSpec := { name := "treeBinds", fn := fun _ => fun
  | [d] => { results := [.lit (.bool false)], args := [d] }
  | _ => none }
def TreeBindsWrongFalsely : Prop := treeBindsRow.holds Tryd.pinned (OpenSpec.ofChange treeBindsWrong)

/-- 'citadellaw11.TreeOthers': WHATEVER THE INPUT: true; the input reads as it did. -/
def treeOthersSpec : ChangeSpec := { name := "treeOthers", fn := fun _ => fun
  | [d] => { results := [.lit (.bool true)], args := [d] }
  | _ => none }
def treeOthersRow : OpenClaim := { program := "ytbdldnhpgpjnoaadoor", sum := "72f3bc0c5351427fee221e842fe6e7420623e036f1e0538f887f96d9d3bc6b6c", func := "citadel/citadellaw11.TreeOthers", spec := "treeOthers", unfollowed := true, recurses := true, named := ["citadel/digest.constants"], apart := false, laid := [("citadel/digest.constants", laid_citadel_digest_constants)] }
def TreeOthersSaid : Prop := treeOthersRow.holds Tryd.pinned (OpenSpec.ofChange treeOthersSpec)

/-- ITS FALSE NEIGHBOUR: 'it returns false'. Refute it at one input. -/
def treeOthersWrong : ChangeSpec := { name := "treeOthers", fn := fun _ => fun
  | [d] => { results := [.lit (.bool false)], args := [d] }
  | _ => none }
def TreeOthersWrongFalsely : Prop := treeOthersRow.holds Tryd.pinned (OpenSpec.ofChange treeOthersWrong)

/- THE SECOND FORM. 'bulk': how many values and letters a reading holds, each counted each time it is reached (what is shared counts as often as it is met; a slice's spare places count too). A statement '..UptoSaid' is the law's where the arguments, and the package variables that the reading takes, are together of bulk at most 1048576: NARROWER than '..Said'. Prove '..Said' where nothing that the law and all that it calls make is longer than what came in: it says more and counts as full. Else prove '..UptoSaid'. A law counts once. -/
mutual
def uptoBulk {H : Type} : DataW H → Nat
  | .lit (.string bytes) => bytes.length + 1
  | .lit _ => 1
  | .nil => 1
  | .ptr d => uptoBulk d + 1
  | .slice elems spare => uptoBulkAll elems + uptoBulkAll spare + 1
  | .agg parts => uptoBulkAll parts + 1
  | .iface _ d => uptoBulk d + 1
  | .map entries => uptoBulkEntries entries + 1
  | .held _ => 1
def uptoBulkAll {H : Type} : List (DataW H) → Nat
  | [] => 0
  | d :: r => uptoBulk d + uptoBulkAll r
def uptoBulkEntries {H : Type} : List (Lit × DataW H) → Nat
  | [] => 0
  | x :: r => uptoBulkEntry x + uptoBulkEntries r
def uptoBulkEntry {H : Type} : Lit × DataW H → Nat
  | (.string bytes, d) => bytes.length + uptoBulk d + 1
  | (_, d) => uptoBulk d + 1
 end
def uptoSmall : (H : Type) → List (DataW H) → Bool := fun _ ds => decide (uptoBulkAll ds ≤ 1048576)
def OpenSpec.upto (s : _root_.Go.ChangeSpec) : _root_.Go.OpenSpec := { _root_.Go.OpenSpec.ofChange s with cond := some uptoSmall }

/-- 'citadellaw11.TreeLeaf', WHERE WHAT IT READS IS OF BULK AT MOST 1048576: true; the input reads as it did. -/
def treeLeafUptoRow : OpenClaim := { program := "ytbdldnhpgpjnoaadoor", sum := "72f3bc0c5351427fee221e842fe6e7420623e036f1e0538f887f96d9d3bc6b6c", func := "citadel/citadellaw11.TreeLeaf", spec := "treeLeaf", unfollowed := true, recurses := true, named := ["citadel/digest.constants"], apart := false, laid := [("citadel/digest.constants", laid_citadel_digest_constants)], narrowed := true }
def TreeLeafUptoSaid : Prop := treeLeafUptoRow.holds Tryd.pinned (OpenSpec.upto treeLeafSpec)

/-- 'citadellaw11.TreeJoins', WHERE WHAT IT READS IS OF BULK AT MOST 1048576: true; the input reads as it did. -/
def treeJoinsUptoRow : OpenClaim := { program := "ytbdldnhpgpjnoaadoor", sum := "72f3bc0c5351427fee221e842fe6e7420623e036f1e0538f887f96d9d3bc6b6c", func := "citadel/citadellaw11.TreeJoins", spec := "treeJoins", unfollowed := true, recurses := true, named := ["citadel/digest.constants"], apart := false, laid := [("citadel/digest.constants", laid_citadel_digest_constants)], narrowed := true }
def TreeJoinsUptoSaid : Prop := treeJoinsUptoRow.holds Tryd.pinned (OpenSpec.upto treeJoinsSpec)

/-- 'citadellaw11.TreePath', WHERE WHAT IT READS IS OF BULK AT MOST 1048576: true; the input reads as it did. -/
def treePathUptoRow : OpenClaim := { program := "ytbdldnhpgpjnoaadoor", sum := "72f3bc0c5351427fee221e842fe6e7420623e036f1e0538f887f96d9d3bc6b6c", func := "citadel/citadellaw11.TreePath", spec := "treePath", unfollowed := true, recurses := true, named := ["citadel/digest.constants"], apart := false, laid := [("citadel/digest.constants", laid_citadel_digest_constants)], narrowed := true }
def TreePathUptoSaid : Prop := treePathUptoRow.holds Tryd.pinned (OpenSpec.upto treePathSpec)

/-- 'citadellaw11.TreeBuilds', WHERE WHAT IT READS IS OF BULK AT MOST 1048576: true; the input reads as it did. -/
def treeBuildsUptoRow : OpenClaim := { program := "ytbdldnhpgpjnoaadoor", sum := "72f3bc0c5351427fee221e842fe6e7420623e036f1e0538f887f96d9d3bc6b6c", func := "citadel/citadellaw11.TreeBuilds", spec := "treeBuilds", unfollowed := true, recurses := true, named := ["citadel/digest.constants"], apart := false, laid := [("citadel/digest.constants", laid_citadel_digest_constants)], narrowed := true }
def TreeBuildsUptoSaid : Prop := treeBuildsUptoRow.holds Tryd.pinned (OpenSpec.upto treeBuildsSpec)

/-- 'citadellaw11.TreeTurns', WHERE WHAT IT READS IS OF BULK AT MOST 1048576: true; the input reads as it did. -/
def treeTurnsUptoRow : OpenClaim := { program := "ytbdldnhpgpjnoaadoor", sum := "72f3bc0c5351427fee221e842fe6e7420623e036f1e0538f887f96d9d3bc6b6c", func := "citadel/citadellaw11.TreeTurns", spec := "treeTurns", unfollowed := true, recurses := true, named := ["citadel/digest.constants"], apart := false, laid := [("citadel/digest.constants", laid_citadel_digest_constants)], narrowed := true }
def TreeTurnsUptoSaid : Prop := treeTurnsUptoRow.holds Tryd.pinned (OpenSpec.upto treeTurnsSpec)

/-- 'citadellaw11.TreeHolds', WHERE WHAT IT READS IS OF BULK AT MOST 1048576: true; the input reads as it did. -/
def treeHoldsUptoRow : OpenClaim := { program := "ytbdldnhpgpjnoaadoor", sum := "72f3bc0c5351427fee221e842fe6e7420623e036f1e0538f887f96d9d3bc6b6c", func := "citadel/citadellaw11.TreeHolds", spec := "treeHolds", unfollowed := true, recurses := true, named := ["citadel/digest.constants"], apart := false, laid := [("citadel/digest.constants", laid_citadel_digest_constants)], narrowed := true }
def TreeHoldsUptoSaid : Prop := treeHoldsUptoRow.holds Tryd.pinned (OpenSpec.upto treeHoldsSpec)

/-- 'citadellaw11.TreeBinds', WHERE WHAT IT READS IS OF BULK AT MOST 1048576: true; the input reads as it did. -/
def treeBindsUptoRow : OpenClaim := { program := "ytbdldnhpgpjnoaadoor", sum := "72f3bc0c5351427fee221e842fe6e7420623e036f1e0538f887f96d9d3bc6b6c", func := "citadel/citadellaw11.TreeBinds", spec := "treeBinds", unfollowed := true, recurses := true, named := ["citadel/digest.constants"], apart := false, laid := [("citadel/digest.constants", laid_citadel_digest_constants)], narrowed := true }
def TreeBindsUptoSaid : Prop := treeBindsUptoRow.holds Tryd.pinned (OpenSpec.upto treeBindsSpec)

/-- 'citadellaw11.TreeOthers', WHERE WHAT IT READS IS OF BULK AT MOST 1048576: true; the input reads as it did. -/
def treeOthersUptoRow : OpenClaim := { program := "ytbdldnhpgpjnoaadoor", sum := "72f3bc0c5351427fee221e842fe6e7420623e036f1e0538f887f96d9d3bc6b6c", func := "citadel/citadellaw11.TreeOthers", spec := "treeOthers", unfollowed := true, recurses := true, named := ["citadel/digest.constants"], apart := false, laid := [("citadel/digest.constants", laid_citadel_digest_constants)], narrowed := true }
def TreeOthersUptoSaid : Prop := treeOthersUptoRow.holds Tryd.pinned (OpenSpec.upto treeOthersSpec)

end Rows
end Go.Proofs.YtbdldnhpgpjnoaaDoor
