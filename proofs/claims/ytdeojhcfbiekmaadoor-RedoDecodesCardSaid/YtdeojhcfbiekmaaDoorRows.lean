/-
  NARROWER THAN 'FOR EVERY INPUT', by the rows' own cells (each row's printed sentence says how): RedoEncodes: laid · RedoDecodes: laid · RedoReturns: laid · RedoMixed: laid · RedoApart: laid.
  DERIVED. THE GIVEN ROWS OF THIS SEAT. 5 by the template 'for every input the law returns true; each argument reads behind the call as it read before'; 0 by the template 'total and deterministic' (their statements: YtdeojhcfbiekmaaDoorTotals.lean).
  GIVEN WITH THE SEED: the statements are not yours to turn. If you find one false, say at which input.
  Laid BY PROGRAM, IN A SANDBOX (cutbox-rows.mjs): the forced cells as the released guide's own fill.sh prints them over the translation f66bcc684fdacc39… (all of the seat's roots in one cut). By AI agents, Wed Nov 11 2026. No macro, syntax, notation, axiom, sorry.
-/
import Derived.Test.YtdeojhcfbiekmaaDoorChecked
import GoSem.Claim
import GoSem.ClaimJoined
import GoSem.ClaimMapViews
import Derived.JoinedTies
import Derived.KernelRfl
namespace Go.Proofs.YtdeojhcfbiekmaaDoor
/- THE CELL 'sum', in the pinned program and in every row, IS THE sha256 OF THE DUMP (.gsa) THAT YtdeojhcfbiekmaaDoorProg.lean LOADS. Nothing in Lean hashes anything: it is a label: what it is worth is what the hold of that sum in a sandbox is worth. -/
noncomputable def Tryd.pinned : Pinned := { name := "ytdeojhcfbiekmaadoor", sum := "f66bcc684fdacc39e8dccada273bd09e78b7e91c6a633388be17846432e6b9d7", checked := Tryd.checked }
namespace Rows
def none {H : Type} : Left H := { results := [], args := [] }

/- WHAT THE LISTED PACKAGE-LEVEL VARIABLES READ AS WHEN THE CALL BEGINS. Each datum BY PROGRAM (the guide's laid-datum.mjs) off the statement by which the dump's own 'gosem.cut.vars' lays the variable. In a bare row this is a premise. The card (YtdeojhcfbiekmaaDoorCards.lean) ties it to the program's text. -/
def laid_citadel_digest_constants {H : Type} : DataW H := .agg [.lit (.int .u32 1116352408), .lit (.int .u32 1899447441), .lit (.int .u32 3049323471), .lit (.int .u32 3921009573), .lit (.int .u32 961987163), .lit (.int .u32 1508970993), .lit (.int .u32 2453635748), .lit (.int .u32 2870763221), .lit (.int .u32 3624381080), .lit (.int .u32 310598401), .lit (.int .u32 607225278), .lit (.int .u32 1426881987), .lit (.int .u32 1925078388), .lit (.int .u32 2162078206), .lit (.int .u32 2614888103), .lit (.int .u32 3248222580), .lit (.int .u32 3835390401), .lit (.int .u32 4022224774), .lit (.int .u32 264347078), .lit (.int .u32 604807628), .lit (.int .u32 770255983), .lit (.int .u32 1249150122), .lit (.int .u32 1555081692), .lit (.int .u32 1996064986), .lit (.int .u32 2554220882), .lit (.int .u32 2821834349), .lit (.int .u32 2952996808), .lit (.int .u32 3210313671), .lit (.int .u32 3336571891), .lit (.int .u32 3584528711), .lit (.int .u32 113926993), .lit (.int .u32 338241895), .lit (.int .u32 666307205), .lit (.int .u32 773529912), .lit (.int .u32 1294757372), .lit (.int .u32 1396182291), .lit (.int .u32 1695183700), .lit (.int .u32 1986661051), .lit (.int .u32 2177026350), .lit (.int .u32 2456956037), .lit (.int .u32 2730485921), .lit (.int .u32 2820302411), .lit (.int .u32 3259730800), .lit (.int .u32 3345764771), .lit (.int .u32 3516065817), .lit (.int .u32 3600352804), .lit (.int .u32 4094571909), .lit (.int .u32 275423344), .lit (.int .u32 430227734), .lit (.int .u32 506948616), .lit (.int .u32 659060556), .lit (.int .u32 883997877), .lit (.int .u32 958139571), .lit (.int .u32 1322822218), .lit (.int .u32 1537002063), .lit (.int .u32 1747873779), .lit (.int .u32 1955562222), .lit (.int .u32 2024104815), .lit (.int .u32 2227730452), .lit (.int .u32 2361852424), .lit (.int .u32 2428436474), .lit (.int .u32 2756734187), .lit (.int .u32 3204031479), .lit (.int .u32 3329325298)]

/-- 'citadellaw10.RedoEncodes': WHATEVER THE INPUT: true; the input reads as it did. -/
def redoEncodesSpec : ChangeSpec := { name := "redoEncodes", fn := fun _ => fun
  | [d1, d2, d3] => { results := [.lit (.bool true)], args := [d1, d2, d3] }
  | _ => none }
def redoEncodesRow : OpenClaim := { program := "ytdeojhcfbiekmaadoor", sum := "f66bcc684fdacc39e8dccada273bd09e78b7e91c6a633388be17846432e6b9d7", func := "citadel/citadellaw10.RedoEncodes", spec := "redoEncodes", unfollowed := true, recurses := true, named := ["citadel/digest.constants"], apart := false, laid := [("citadel/digest.constants", laid_citadel_digest_constants)] }
def RedoEncodesSaid : Prop := redoEncodesRow.holds Tryd.pinned (OpenSpec.ofChange redoEncodesSpec)

/-- ITS FALSE NEIGHBOUR: 'it returns false'. Refute it at one input. -/
def redoEncodesWrong : ChangeSpec := { name := "redoEncodes", fn := fun _ => fun
  | [d1, d2, d3] => { results := [.lit (.bool false)], args := [d1, d2, d3] }
  | _ => none }
def RedoEncodesWrongFalsely : Prop := redoEncodesRow.holds Tryd.pinned (OpenSpec.ofChange redoEncodesWrong)

/-- 'citadellaw10.RedoDecodes': WHATEVER THE INPUT: true; the input reads as it did. -/
def redoDecodesSpec : ChangeSpec := { name := "redoDecodes", fn := fun _ => fun
  | [d1, d2] => { results := [.lit (.bool true)], args := [d1, d2] }
  | _ => none }
def redoDecodesRow : OpenClaim := { program := "ytdeojhcfbiekmaadoor", sum := "f66bcc684fdacc39e8dccada273bd09e78b7e91c6a633388be17846432e6b9d7", func := "citadel/citadellaw10.RedoDecodes", spec := "redoDecodes", unfollowed := true, recurses := true, named := ["citadel/digest.constants"], apart := false, laid := [("citadel/digest.constants", laid_citadel_digest_constants)] }
def RedoDecodesSaid : Prop := redoDecodesRow.holds Tryd.pinned (OpenSpec.ofChange redoDecodesSpec)

/-- ITS FALSE NEIGHBOUR: 'it returns false'. Refute it at one input. -/
def redoDecodesWrong : ChangeSpec := { name := "redoDecodes", fn := fun _ => fun
  | [d1, d2] => { results := [.lit (.bool false)], args := [d1, d2] }
  | _ => none }
def RedoDecodesWrongFalsely : Prop := redoDecodesRow.holds Tryd.pinned (OpenSpec.ofChange redoDecodesWrong)

/-- 'citadellaw10.RedoReturns': WHATEVER THE INPUT: true; the input reads as it did. -/
def redoReturnsSpec : ChangeSpec := { name := "redoReturns", fn := fun _ => fun
  | [d] => { results := [.lit (.bool true)], args := [d] }
  | _ => none }
def redoReturnsRow : OpenClaim := { program := "ytdeojhcfbiekmaadoor", sum := "f66bcc684fdacc39e8dccada273bd09e78b7e91c6a633388be17846432e6b9d7", func := "citadel/citadellaw10.RedoReturns", spec := "redoReturns", unfollowed := true, recurses := true, named := ["citadel/digest.constants"], apart := false, laid := [("citadel/digest.constants", laid_citadel_digest_constants)] }
def RedoReturnsSaid : Prop := redoReturnsRow.holds Tryd.pinned (OpenSpec.ofChange redoReturnsSpec)

/-- ITS FALSE NEIGHBOUR: 'it returns false'. Refute it at one input. -/
def redoReturnsWrong : ChangeSpec := { name := "redoReturns", fn := fun _ => fun
  | [d] => { results := [.lit (.bool false)], args := [d] }
  | _ => none }
def RedoReturnsWrongFalsely : Prop := redoReturnsRow.holds Tryd.pinned (OpenSpec.ofChange redoReturnsWrong)

/-- 'citadellaw10.RedoMixed': WHATEVER THE INPUT: true; the input reads as it did. -/
def redoMixedSpec : ChangeSpec := { name := "redoMixed", fn := fun _ => fun
  | [d1, d2, d3] => { results := [.lit (.bool true)], args := [d1, d2, d3] }
  | _ => none }
def redoMixedRow : OpenClaim := { program := "ytdeojhcfbiekmaadoor", sum := "f66bcc684fdacc39e8dccada273bd09e78b7e91c6a633388be17846432e6b9d7", func := "citadel/citadellaw10.RedoMixed", spec := "redoMixed", unfollowed := true, recurses := true, named := ["citadel/digest.constants"], apart := false, laid := [("citadel/digest.constants", laid_citadel_digest_constants)] }
def RedoMixedSaid : Prop := redoMixedRow.holds Tryd.pinned (OpenSpec.ofChange redoMixedSpec)

/-- ITS FALSE NEIGHBOUR: 'it returns false'. Refute it at one input. -/
def redoMixedWrong : ChangeSpec := { name := "redoMixed", fn := fun _ => fun
  | [d1, d2, d3] => { results := [.lit (.bool false)], args := [d1, d2, d3] }
  | _ => none }
def RedoMixedWrongFalsely : Prop := redoMixedRow.holds Tryd.pinned (OpenSpec.ofChange redoMixedWrong)

/-- 'citadellaw10.RedoApart': WHATEVER THE INPUT: true; the input reads as it did. -/
def redoApartSpec : ChangeSpec := { name := "redoApart", fn := fun _ => fun
  | [d] => { results := [.lit (.bool true)], args := [d] }
  | _ => none }
def redoApartRow : OpenClaim := { program := "ytdeojhcfbiekmaadoor", sum := "f66bcc684fdacc39e8dccada273bd09e78b7e91c6a633388be17846432e6b9d7", func := "citadel/citadellaw10.RedoApart", spec := "redoApart", unfollowed := true, recurses := true, named := ["citadel/digest.constants"], apart := false, laid := [("citadel/digest.constants", laid_citadel_digest_constants)] }
def RedoApartSaid : Prop := redoApartRow.holds Tryd.pinned (OpenSpec.ofChange redoApartSpec)

/-- ITS FALSE NEIGHBOUR: 'it returns false'. Refute it at one input. -/
def redoApartWrong : ChangeSpec := { name := "redoApart", fn := fun _ => fun
  | [d] => { results := [.lit (.bool false)], args := [d] }
  | _ => none }
def RedoApartWrongFalsely : Prop := redoApartRow.holds Tryd.pinned (OpenSpec.ofChange redoApartWrong)

/- THE SECOND FORM. 'bulk': how many values and letters a reading holds, each counted each time it is reached (what is shared counts as often as it is met; a slice's spare places count too). A statement '..UptoSaid' is the law's where the arguments, and the package variables that the reading takes, are together of bulk at most 1048576: NARROWER than '..Said'. Prove '..Said' where nothing that the law and all that it calls make is longer than what came in: it says more and counts as full. Else prove '..UptoSaid'. A law counts once. -/
mutual
def uptoBulk {H : Type} : DataW H → Nat
  | .lit (.string bytes) => bytes.length + 1
  | .lit _ => 1
  | .nil => 1
  | .ptr d => uptoBulk d + 1
  | .slice elems spare => uptoBulkAll elems + uptoBulkAll spare + 1
  | .agg parts => uptoBulkAll parts + 1
  | .iface _ d => uptoBulk d + 1
  | .map entries => uptoBulkEntries entries + 1
  | .held _ => 1
def uptoBulkAll {H : Type} : List (DataW H) → Nat
  | [] => 0
  | d :: r => uptoBulk d + uptoBulkAll r
def uptoBulkEntries {H : Type} : List (Lit × DataW H) → Nat
  | [] => 0
  | x :: r => uptoBulkEntry x + uptoBulkEntries r
def uptoBulkEntry {H : Type} : Lit × DataW H → Nat
  | (.string bytes, d) => bytes.length + uptoBulk d + 1
  | (_, d) => uptoBulk d + 1
 end
def uptoSmall : (H : Type) → List (DataW H) → Bool := fun _ ds => decide (uptoBulkAll ds ≤ 1048576)
def OpenSpec.upto (s : _root_.Go.ChangeSpec) : _root_.Go.OpenSpec := { _root_.Go.OpenSpec.ofChange s with cond := some uptoSmall }

/-- 'citadellaw10.RedoEncodes', WHERE WHAT IT READS IS OF BULK AT MOST 1048576: true; the input reads as it did. -/
def redoEncodesUptoRow : OpenClaim := { program := "ytdeojhcfbiekmaadoor", sum := "f66bcc684fdacc39e8dccada273bd09e78b7e91c6a633388be17846432e6b9d7", func := "citadel/citadellaw10.RedoEncodes", spec := "redoEncodes", unfollowed := true, recurses := true, named := ["citadel/digest.constants"], apart := false, laid := [("citadel/digest.constants", laid_citadel_digest_constants)], narrowed := true }
def RedoEncodesUptoSaid : Prop := redoEncodesUptoRow.holds Tryd.pinned (OpenSpec.upto redoEncodesSpec)

/-- 'citadellaw10.RedoDecodes', WHERE WHAT IT READS IS OF BULK AT MOST 1048576: true; the input reads as it did. -/
def redoDecodesUptoRow : OpenClaim := { program := "ytdeojhcfbiekmaadoor", sum := "f66bcc684fdacc39e8dccada273bd09e78b7e91c6a633388be17846432e6b9d7", func := "citadel/citadellaw10.RedoDecodes", spec := "redoDecodes", unfollowed := true, recurses := true, named := ["citadel/digest.constants"], apart := false, laid := [("citadel/digest.constants", laid_citadel_digest_constants)], narrowed := true }
def RedoDecodesUptoSaid : Prop := redoDecodesUptoRow.holds Tryd.pinned (OpenSpec.upto redoDecodesSpec)

/-- 'citadellaw10.RedoReturns', WHERE WHAT IT READS IS OF BULK AT MOST 1048576: true; the input reads as it did. -/
def redoReturnsUptoRow : OpenClaim := { program := "ytdeojhcfbiekmaadoor", sum := "f66bcc684fdacc39e8dccada273bd09e78b7e91c6a633388be17846432e6b9d7", func := "citadel/citadellaw10.RedoReturns", spec := "redoReturns", unfollowed := true, recurses := true, named := ["citadel/digest.constants"], apart := false, laid := [("citadel/digest.constants", laid_citadel_digest_constants)], narrowed := true }
def RedoReturnsUptoSaid : Prop := redoReturnsUptoRow.holds Tryd.pinned (OpenSpec.upto redoReturnsSpec)

/-- 'citadellaw10.RedoMixed', WHERE WHAT IT READS IS OF BULK AT MOST 1048576: true; the input reads as it did. -/
def redoMixedUptoRow : OpenClaim := { program := "ytdeojhcfbiekmaadoor", sum := "f66bcc684fdacc39e8dccada273bd09e78b7e91c6a633388be17846432e6b9d7", func := "citadel/citadellaw10.RedoMixed", spec := "redoMixed", unfollowed := true, recurses := true, named := ["citadel/digest.constants"], apart := false, laid := [("citadel/digest.constants", laid_citadel_digest_constants)], narrowed := true }
def RedoMixedUptoSaid : Prop := redoMixedUptoRow.holds Tryd.pinned (OpenSpec.upto redoMixedSpec)

/-- 'citadellaw10.RedoApart', WHERE WHAT IT READS IS OF BULK AT MOST 1048576: true; the input reads as it did. -/
def redoApartUptoRow : OpenClaim := { program := "ytdeojhcfbiekmaadoor", sum := "f66bcc684fdacc39e8dccada273bd09e78b7e91c6a633388be17846432e6b9d7", func := "citadel/citadellaw10.RedoApart", spec := "redoApart", unfollowed := true, recurses := true, named := ["citadel/digest.constants"], apart := false, laid := [("citadel/digest.constants", laid_citadel_digest_constants)], narrowed := true }
def RedoApartUptoSaid : Prop := redoApartUptoRow.holds Tryd.pinned (OpenSpec.upto redoApartSpec)

end Rows
end Go.Proofs.YtdeojhcfbiekmaaDoor
