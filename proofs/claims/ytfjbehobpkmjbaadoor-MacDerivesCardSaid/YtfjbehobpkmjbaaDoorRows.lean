/-
  NARROWER THAN 'FOR EVERY INPUT', by the rows' own cells (each row's printed sentence says how): MacPiece: laid · MacTag: laid · MacParted: laid · MacStream: laid · MacDerives: laid · MacLonger: laid · MacKeys: laid.
  DERIVED. THE GIVEN ROWS OF THIS SEAT. 7 by the template 'for every input the law returns true; each argument reads behind the call as it read before'; 0 by the template 'total and deterministic' (their statements: YtfjbehobpkmjbaaDoorTotals.lean).
  GIVEN WITH THE SEED: the statements are not yours to turn. If you find one false, say at which input.
  Laid BY PROGRAM, IN A SANDBOX (cutbox-rows.mjs): the forced cells as the released guide's own fill.sh prints them over the translation 270ff11a19df169a… (all of the seat's roots in one cut). By AI agents, Wed Nov 11 2026. No macro, syntax, notation, axiom, sorry.
-/
import Derived.Test.YtfjbehobpkmjbaaDoorChecked
import GoSem.Claim
import GoSem.ClaimJoined
import GoSem.ClaimMapViews
import Derived.JoinedTies
import Derived.KernelRfl
namespace Go.Proofs.YtfjbehobpkmjbaaDoor
/- THE CELL 'sum', in the pinned program and in every row, IS THE sha256 OF THE DUMP (.gsa) THAT YtfjbehobpkmjbaaDoorProg.lean LOADS. Nothing in Lean hashes anything: it is a label: what it is worth is what the hold of that sum in a sandbox is worth. -/
noncomputable def Tryd.pinned : Pinned := { name := "ytfjbehobpkmjbaadoor", sum := "270ff11a19df169a0cb1ec9314e4f584994feaf9238e8b5c37b64a4c1ee4d8fb", checked := Tryd.checked }
namespace Rows
def none {H : Type} : Left H := { results := [], args := [] }

/- WHAT THE LISTED PACKAGE-LEVEL VARIABLES READ AS WHEN THE CALL BEGINS. Each datum BY PROGRAM (the guide's laid-datum.mjs) off the statement by which the dump's own 'gosem.cut.vars' lays the variable. In a bare row this is a premise. The card (YtfjbehobpkmjbaaDoorCards.lean) ties it to the program's text. -/
def laid_citadel_digest_constants {H : Type} : DataW H := .agg [.lit (.int .u32 1116352408), .lit (.int .u32 1899447441), .lit (.int .u32 3049323471), .lit (.int .u32 3921009573), .lit (.int .u32 961987163), .lit (.int .u32 1508970993), .lit (.int .u32 2453635748), .lit (.int .u32 2870763221), .lit (.int .u32 3624381080), .lit (.int .u32 310598401), .lit (.int .u32 607225278), .lit (.int .u32 1426881987), .lit (.int .u32 1925078388), .lit (.int .u32 2162078206), .lit (.int .u32 2614888103), .lit (.int .u32 3248222580), .lit (.int .u32 3835390401), .lit (.int .u32 4022224774), .lit (.int .u32 264347078), .lit (.int .u32 604807628), .lit (.int .u32 770255983), .lit (.int .u32 1249150122), .lit (.int .u32 1555081692), .lit (.int .u32 1996064986), .lit (.int .u32 2554220882), .lit (.int .u32 2821834349), .lit (.int .u32 2952996808), .lit (.int .u32 3210313671), .lit (.int .u32 3336571891), .lit (.int .u32 3584528711), .lit (.int .u32 113926993), .lit (.int .u32 338241895), .lit (.int .u32 666307205), .lit (.int .u32 773529912), .lit (.int .u32 1294757372), .lit (.int .u32 1396182291), .lit (.int .u32 1695183700), .lit (.int .u32 1986661051), .lit (.int .u32 2177026350), .lit (.int .u32 2456956037), .lit (.int .u32 2730485921), .lit (.int .u32 2820302411), .lit (.int .u32 3259730800), .lit (.int .u32 3345764771), .lit (.int .u32 3516065817), .lit (.int .u32 3600352804), .lit (.int .u32 4094571909), .lit (.int .u32 275423344), .lit (.int .u32 430227734), .lit (.int .u32 506948616), .lit (.int .u32 659060556), .lit (.int .u32 883997877), .lit (.int .u32 958139571), .lit (.int .u32 1322822218), .lit (.int .u32 1537002063), .lit (.int .u32 1747873779), .lit (.int .u32 1955562222), .lit (.int .u32 2024104815), .lit (.int .u32 2227730452), .lit (.int .u32 2361852424), .lit (.int .u32 2428436474), .lit (.int .u32 2756734187), .lit (.int .u32 3204031479), .lit (.int .u32 3329325298)]

/-- 'citadellaw05.MacPiece': WHATEVER THE INPUT: true; the input reads as it did. -/
def macPieceSpec : ChangeSpec := { name := "macPiece", fn := fun _ => fun
  | [d] => { results := [.lit (.bool true)], args := [d] }
  | _ => none }
def macPieceRow : OpenClaim := { program := "ytfjbehobpkmjbaadoor", sum := "270ff11a19df169a0cb1ec9314e4f584994feaf9238e8b5c37b64a4c1ee4d8fb", func := "citadel/citadellaw05.MacPiece", spec := "macPiece", unfollowed := true, recurses := true, named := ["citadel/digest.constants"], apart := false, laid := [("citadel/digest.constants", laid_citadel_digest_constants)] }
def MacPieceSaid : Prop := macPieceRow.holds Tryd.pinned (OpenSpec.ofChange macPieceSpec)

/-- ITS FALSE NEIGHBOUR: 'it returns false'. Refute it at one input. -/
def macPieceWrong : ChangeSpec := { name := "macPiece", fn := fun _ => fun
  | [d] => { results := [.lit (.bool false)], args := [d] }
  | _ => none }
def MacPieceWrongFalsely : Prop := macPieceRow.holds Tryd.pinned (OpenSpec.ofChange macPieceWrong)

/-- 'citadellaw05.MacTag': WHATEVER THE INPUT: true; the input reads as it did. -/
def macTagSpec : ChangeSpec := { name := "macTag", fn := fun _ => fun
  | [d1, d2] => { results := [.lit (.bool true)], args := [d1, d2] }
  | _ => none }
def macTagRow : OpenClaim := { program := "ytfjbehobpkmjbaadoor", sum := "270ff11a19df169a0cb1ec9314e4f584994feaf9238e8b5c37b64a4c1ee4d8fb", func := "citadel/citadellaw05.MacTag", spec := "macTag", unfollowed := true, recurses := true, named := ["citadel/digest.constants"], apart := false, laid := [("citadel/digest.constants", laid_citadel_digest_constants)] }
def MacTagSaid : Prop := macTagRow.holds Tryd.pinned (OpenSpec.ofChange macTagSpec)

/-- ITS FALSE NEIGHBOUR: 'it returns false'. Refute it at one input. -/
def macTagWrong : ChangeSpec := { name := "macTag", fn := fun _ => fun
  | [d1, d2] => { results := [.lit (.bool false)], args := [d1, d2] }
  | _ => none }
def MacTagWrongFalsely : Prop := macTagRow.holds Tryd.pinned (OpenSpec.ofChange macTagWrong)

/-- 'citadellaw05.MacParted': WHATEVER THE INPUT: true; the input reads as it did. -/
def macPartedSpec : ChangeSpec := { name := "macParted", fn := fun _ => fun
  | [d] => { results := [.lit (.bool true)], args := [d] }
  | _ => none }
def macPartedRow : OpenClaim := { program := "ytfjbehobpkmjbaadoor", sum := "270ff11a19df169a0cb1ec9314e4f584994feaf9238e8b5c37b64a4c1ee4d8fb", func := "citadel/citadellaw05.MacParted", spec := "macParted", unfollowed := true, recurses := true, named := ["citadel/digest.constants"], apart := false, laid := [("citadel/digest.constants", laid_citadel_digest_constants)] }
def MacPartedSaid : Prop := macPartedRow.holds Tryd.pinned (OpenSpec.ofChange macPartedSpec)

/-- ITS FALSE NEIGHBOUR: 'it returns false'. Refute it at one input. -/
def macPartedWrong : ChangeSpec := { name := "macParted", fn := fun _ => fun
  | [d] => { results := [.lit (.bool false)], args := [d] }
  | _ => none }
def MacPartedWrongFalsely : Prop := macPartedRow.holds Tryd.pinned (OpenSpec.ofChange macPartedWrong)

/-- 'citadellaw05.MacStream': WHATEVER THE INPUT: true; the input reads as it did. -/
def macStreamSpec : ChangeSpec := { name := "macStream", fn := fun _ => fun
  | [d1, d2, d3] => { results := [.lit (.bool true)], args := [d1, d2, d3] }
  | _ => none }
def macStreamRow : OpenClaim := { program := "ytfjbehobpkmjbaadoor", sum := "270ff11a19df169a0cb1ec9314e4f584994feaf9238e8b5c37b64a4c1ee4d8fb", func := "citadel/citadellaw05.MacStream", spec := "macStream", unfollowed := true, recurses := true, named := ["citadel/digest.constants"], apart := false, laid := [("citadel/digest.constants", laid_citadel_digest_constants)] }
def MacStreamSaid : Prop := macStreamRow.holds Tryd.pinned (OpenSpec.ofChange macStreamSpec)

/-- ITS FALSE NEIGHBOUR: 'it returns false'. Refute it at one input. -/
def macStreamWrong : ChangeSpec := { name := "macStream", fn := fun _ => fun
  | [d1, d2, d3] => { results := [.lit (.bool false)], args := [d1, d2, d3] }
  | _ => none }
def MacStreamWrongFalsely : Prop := macStreamRow.holds Tryd.pinned (OpenSpec.ofChange macStreamWrong)

/-- 'citadellaw05.MacDerives': WHATEVER THE INPUT: true; the input reads as it did. -/
def macDerivesSpec : ChangeSpec := { name := "macDerives", fn := fun _ => fun
  | [d1, d2, d3] => { results := [.lit (.bool true)], args := [d1, d2, d3] }
  | _ => none }
def macDerivesRow : OpenClaim := { program := "ytfjbehobpkmjbaadoor", sum := "270ff11a19df169a0cb1ec9314e4f584994feaf9238e8b5c37b64a4c1ee4d8fb", func := "citadel/citadellaw05.MacDerives", spec := "macDerives", unfollowed := true, recurses := true, named := ["citadel/digest.constants"], apart := false, laid := [("citadel/digest.constants", laid_citadel_digest_constants)] }
def MacDerivesSaid : Prop := macDerivesRow.holds Tryd.pinned (OpenSpec.ofChange macDerivesSpec)

/-- ITS FALSE NEIGHBOUR: 'it returns false'. Refute it at one input. -/
def macDerivesWrong : ChangeSpec := { name := "macDerives", fn := fun _ => fun
  | [d1, d2, d3] => { results := [.lit (.bool false)], args := [d1, d2, d3] }
  | _ => none }
def MacDerivesWrongFalsely : Prop := macDerivesRow.holds Tryd.pinned (OpenSpec.ofChange macDerivesWrong)

/-- 'citadellaw05.MacLonger': WHATEVER THE INPUT: true; the input reads as it did. -/
def macLongerSpec : ChangeSpec := { name := "macLonger", fn := fun _ => fun
  | [d] => { results := [.lit (.bool true)], args := [d] }
  | _ => none }
def macLongerRow : OpenClaim := { program := "ytfjbehobpkmjbaadoor", sum := "270ff11a19df169a0cb1ec9314e4f584994feaf9238e8b5c37b64a4c1ee4d8fb", func := "citadel/citadellaw05.MacLonger", spec := "macLonger", unfollowed := true, recurses := true, named := ["citadel/digest.constants"], apart := false, laid := [("citadel/digest.constants", laid_citadel_digest_constants)] }
def MacLongerSaid : Prop := macLongerRow.holds Tryd.pinned (OpenSpec.ofChange macLongerSpec)

/-- ITS FALSE NEIGHBOUR: 'it returns false'. Refute it at one input. -/
def macLongerWrong : ChangeSpec := { name := "macLonger", fn := fun _ => fun
  | [d] => { results := [.lit (.bool false)], args := [d] }
  | _ => none }
def MacLongerWrongFalsely : Prop := macLongerRow.holds Tryd.pinned (OpenSpec.ofChange macLongerWrong)

/-- 'citadellaw05.MacKeys': WHATEVER THE INPUT: true; the input reads as it did. -/
def macKeysSpec : ChangeSpec := { name := "macKeys", fn := fun _ => fun
  | [d1, d2] => { results := [.lit (.bool true)], args := [d1, d2] }
  | _ => none }
def macKeysRow : OpenClaim := { program := "ytfjbehobpkmjbaadoor", sum := "270ff11a19df169a0cb1ec9314e4f584994feaf9238e8b5c37b64a4c1ee4d8fb", func := "citadel/citadellaw05.MacKeys", spec := "macKeys", unfollowed := true, recurses := true, named := ["citadel/digest.constants"], apart := false, laid := [("citadel/digest.constants", laid_citadel_digest_constants)] }
def MacKeysSaid : Prop := macKeysRow.holds Tryd.pinned (OpenSpec.ofChange macKeysSpec)

/-- ITS FALSE NEIGHBOUR: 'it returns false'. Refute it at one input. -/
def macKeysWrong : ChangeSpec := { name := "macKeys", fn := fun _ => fun
  | [d1, d2] => { results := [.lit (.bool false)], args := [d1, d2] }
  | _ => none }
def MacKeysWrongFalsely : Prop := macKeysRow.holds Tryd.pinned (OpenSpec.ofChange macKeysWrong)

/- THE SECOND FORM. 'bulk': how many values and letters a reading holds, each counted each time it is reached (what is shared counts as often as it is met; a slice's spare places count too). A statement '..UptoSaid' is the law's where the arguments, and the package variables that the reading takes, are together of bulk at most 1048576: NARROWER than '..Said'. Prove '..Said' where nothing that the law and all that it calls make is longer than what came in: it says more and counts as full. Else prove '..UptoSaid'. A law counts once. -/
mutual
def uptoBulk {H : Type} : DataW H → Nat
  | .lit (.string bytes) => bytes.length + 1
  | .lit _ => 1
  | .nil => 1
  | .ptr d => uptoBulk d + 1
  | .slice elems spare => uptoBulkAll elems + uptoBulkAll spare + 1
  | .agg parts => uptoBulkAll parts + 1
  | .iface _ d => uptoBulk d + 1
  | .map entries => uptoBulkEntries entries + 1
  | .held _ => 1
def uptoBulkAll {H : Type} : List (DataW H) → Nat
  | [] => 0
  | d :: r => uptoBulk d + uptoBulkAll r
def uptoBulkEntries {H : Type} : List (Lit × DataW H) → Nat
  | [] => 0
  | x :: r => uptoBulkEntry x + uptoBulkEntries r
def uptoBulkEntry {H : Type} : Lit × DataW H → Nat
  | (.string bytes, d) => bytes.length + uptoBulk d + 1
  | (_, d) => uptoBulk d + 1
 end
def uptoSmall : (H : Type) → List (DataW H) → Bool := fun _ ds => decide (uptoBulkAll ds ≤ 1048576)
def OpenSpec.upto (s : _root_.Go.ChangeSpec) : _root_.Go.OpenSpec := { _root_.Go.OpenSpec.ofChange s with cond := some uptoSmall }

/-- 'citadellaw05.MacPiece', WHERE WHAT IT READS IS OF BULK AT MOST 1048576: true; the input reads as it did. -/
def macPieceUptoRow : OpenClaim := { program := "ytfjbehobpkmjbaadoor", sum := "270ff11a19df169a0cb1ec9314e4f584994feaf9238e8b5c37b64a4c1ee4d8fb", func := "citadel/citadellaw05.MacPiece", spec := "macPiece", unfollowed := true, recurses := true, named := ["citadel/digest.constants"], apart := false, laid := [("citadel/digest.constants", laid_citadel_digest_constants)], narrowed := true }
def MacPieceUptoSaid : Prop := macPieceUptoRow.holds Tryd.pinned (OpenSpec.upto macPieceSpec)

/-- 'citadellaw05.MacTag', WHERE WHAT IT READS IS OF BULK AT MOST 1048576: true; the input reads as it did. -/
def macTagUptoRow : OpenClaim := { program := "ytfjbehobpkmjbaadoor", sum := "270ff11a19df169a0cb1ec9314e4f584994feaf9238e8b5c37b64a4c1ee4d8fb", func := "citadel/citadellaw05.MacTag", spec := "macTag", unfollowed := true, recurses := true, named := ["citadel/digest.constants"], apart := false, laid := [("citadel/digest.constants", laid_citadel_digest_constants)], narrowed := true }
def MacTagUptoSaid : Prop := macTagUptoRow.holds Tryd.pinned (OpenSpec.upto macTagSpec)

/-- 'citadellaw05.MacParted', WHERE WHAT IT READS IS OF BULK AT MOST 1048576: true; the input reads as it did. -/
def macPartedUptoRow : OpenClaim := { program := "ytfjbehobpkmjbaadoor", sum := "270ff11a19df169a0cb1ec9314e4f584994feaf9238e8b5c37b64a4c1ee4d8fb", func := "citadel/citadellaw05.MacParted", spec := "macParted", unfollowed := true, recurses := true, named := ["citadel/digest.constants"], apart := false, laid := [("citadel/digest.constants", laid_citadel_digest_constants)], narrowed := true }
def MacPartedUptoSaid : Prop := macPartedUptoRow.holds Tryd.pinned (OpenSpec.upto macPartedSpec)

/-- 'citadellaw05.MacStream', WHERE WHAT IT READS IS OF BULK AT MOST 1048576: true; the input reads as it did. -/
def macStreamUptoRow : OpenClaim := { program := "ytfjbehobpkmjbaadoor", sum := "270ff11a19df169a0cb1ec9314e4f584994feaf9238e8b5c37b64a4c1ee4d8fb", func := "citadel/citadellaw05.MacStream", spec := "macStream", unfollowed := true, recurses := true, named := ["citadel/digest.constants"], apart := false, laid := [("citadel/digest.constants", laid_citadel_digest_constants)], narrowed := true }
def MacStreamUptoSaid : Prop := macStreamUptoRow.holds Tryd.pinned (OpenSpec.upto macStreamSpec)

/-- 'citadellaw05.MacDerives', WHERE WHAT IT READS IS OF BULK AT MOST 1048576: true; the input reads as it did. -/
def macDerivesUptoRow : OpenClaim := { program := "ytfjbehobpkmjbaadoor", sum := "270ff11a19df169a0cb1ec9314e4f584994feaf9238e8b5c37b64a4c1ee4d8fb", func := "citadel/citadellaw05.MacDerives", spec := "macDerives", unfollowed := true, recurses := true, named := ["citadel/digest.constants"], apart := false, laid := [("citadel/digest.constants", laid_citadel_digest_constants)], narrowed := true }
def MacDerivesUptoSaid : Prop := macDerivesUptoRow.holds Tryd.pinned (OpenSpec.upto macDerivesSpec)

/-- 'citadellaw05.MacLonger', WHERE WHAT IT READS IS OF BULK AT MOST 1048576: true; the input reads as it did. -/
def macLongerUptoRow : OpenClaim := { program := "ytfjbehobpkmjbaadoor", sum := "270ff11a19df169a0cb1ec9314e4f584994feaf9238e8b5c37b64a4c1ee4d8fb", func := "citadel/citadellaw05.MacLonger", spec := "macLonger", unfollowed := true, recurses := true, named := ["citadel/digest.constants"], apart := false, laid := [("citadel/digest.constants", laid_citadel_digest_constants)], narrowed := true }
def MacLongerUptoSaid : Prop := macLongerUptoRow.holds Tryd.pinned (OpenSpec.upto macLongerSpec)

/-- 'citadellaw05.MacKeys', WHERE WHAT IT READS IS OF BULK AT MOST 1048576: true; the input reads as it did. -/
def macKeysUptoRow : OpenClaim := { program := "ytfjbehobpkmjbaadoor", sum := "270ff11a19df169a0cb1ec9314e4f584994feaf9238e8b5c37b64a4c1ee4d8fb", func := "citadel/citadellaw05.MacKeys", spec := "macKeys", unfollowed := true, recurses := true, named := ["citadel/digest.constants"], apart := false, laid := [("citadel/digest.constants", laid_citadel_digest_constants)], narrowed := true }
def MacKeysUptoSaid : Prop := macKeysUptoRow.holds Tryd.pinned (OpenSpec.upto macKeysSpec)

end Rows
end Go.Proofs.YtfjbehobpkmjbaaDoor
