/-
  No cell of these rows narrows 'for every input' (looked for: loops, veiled, ifaces, maps, wideKeys, modest, calm, conditions, laid).
  DERIVED. THE GIVEN ROWS OF THIS SEAT. 8 by the template 'for every input the law returns true; each argument reads behind the call as it read before'; 0 by the template 'total and deterministic' (their statements: YtilfjmpoiiepkaaTotals.lean).
  GIVEN WITH THE SEED: the statements are not yours to turn. If you find one false, say at which input.
  Laid BY PROGRAM, IN A SANDBOX (cutbox-rows.mjs): the forced cells as the released guide's own fill.sh prints them over the translation 13c3c8e29a011246… (all of the seat's roots in one cut). By AI agents, Wed Nov 11 2026. No macro, syntax, notation, axiom, sorry.
-/
import Derived.Test.YtilfjmpoiiepkaaChecked
import GoSem.Claim
import GoSem.ClaimJoined
import GoSem.ClaimMapViews
import Derived.JoinedTies
import Derived.KernelRfl
namespace Go.Proofs.Ytilfjmpoiiepkaa
/- THE CELL 'sum', in the pinned program and in every row, IS THE sha256 OF THE DUMP (.gsa) THAT YtilfjmpoiiepkaaProg.lean LOADS. Nothing in Lean hashes anything: it is a label: what it is worth is what the hold of that sum in a sandbox is worth. -/
noncomputable def Try.pinned : Pinned := { name := "ytilfjmpoiiepkaa", sum := "13c3c8e29a01124682554490213a8fa955514db5e87441ff32c0e631da64643b", checked := Try.checked }
namespace Rows
def none {H : Type} : Left H := { results := [], args := [] }

/-- 'citadellaw03.CipherShift': WHATEVER THE INPUT: true; the input reads as it did. -/
def cipherShiftSpec : ChangeSpec := { name := "cipherShift", fn := fun _ => fun
  | [d] => { results := [.lit (.bool true)], args := [d] }
  | _ => none }
def cipherShiftRow : OpenClaim := { program := "ytilfjmpoiiepkaa", sum := "13c3c8e29a01124682554490213a8fa955514db5e87441ff32c0e631da64643b", func := "citadel/citadellaw03.CipherShift", spec := "cipherShift", apart := false }
def CipherShiftSaid : Prop := cipherShiftRow.holds Try.pinned (OpenSpec.ofChange cipherShiftSpec)

/-- ITS FALSE NEIGHBOUR: 'it returns false'. Refute it at one input. -/
def cipherShiftWrong : ChangeSpec := { name := "cipherShift", fn := fun _ => fun
  | [d] => { results := [.lit (.bool false)], args := [d] }
  | _ => none }
def CipherShiftWrongFalsely : Prop := cipherShiftRow.holds Try.pinned (OpenSpec.ofChange cipherShiftWrong)

/-- 'citadellaw03.CipherMix': WHATEVER THE INPUT: true; the input reads as it did. -/
def cipherMixSpec : ChangeSpec := { name := "cipherMix", fn := fun _ => fun
  | [d] => { results := [.lit (.bool true)], args := [d] }
  | _ => none }
def cipherMixRow : OpenClaim := { program := "ytilfjmpoiiepkaa", sum := "13c3c8e29a01124682554490213a8fa955514db5e87441ff32c0e631da64643b", func := "citadel/citadellaw03.CipherMix", spec := "cipherMix", apart := false }
def CipherMixSaid : Prop := cipherMixRow.holds Try.pinned (OpenSpec.ofChange cipherMixSpec)

/-- ITS FALSE NEIGHBOUR: 'it returns false'. Refute it at one input. -/
def cipherMixWrong : ChangeSpec := { name := "cipherMix", fn := fun _ => fun
  | [d] => { results := [.lit (.bool false)], args := [d] }
  | _ => none }
def CipherMixWrongFalsely : Prop := cipherMixRow.holds Try.pinned (OpenSpec.ofChange cipherMixWrong)

/-- 'citadellaw03.CipherRounds': WHATEVER THE INPUT: true; the input reads as it did. -/
def cipherRoundsSpec : ChangeSpec := { name := "cipherRounds", fn := fun _ => fun
  | [d] => { results := [.lit (.bool true)], args := [d] }
  | _ => none }
def cipherRoundsRow : OpenClaim := { program := "ytilfjmpoiiepkaa", sum := "13c3c8e29a01124682554490213a8fa955514db5e87441ff32c0e631da64643b", func := "citadel/citadellaw03.CipherRounds", spec := "cipherRounds", unfollowed := true, recurses := true, apart := false }
def CipherRoundsSaid : Prop := cipherRoundsRow.holds Try.pinned (OpenSpec.ofChange cipherRoundsSpec)

/-- ITS FALSE NEIGHBOUR: 'it returns false'. Refute it at one input. -/
def cipherRoundsWrong : ChangeSpec := { name := "cipherRounds", fn := fun _ => fun
  | [d] => { results := [.lit (.bool false)], args := [d] }
  | _ => none }
def CipherRoundsWrongFalsely : Prop := cipherRoundsRow.holds Try.pinned (OpenSpec.ofChange cipherRoundsWrong)

/-- 'citadellaw03.CipherEncrypts': WHATEVER THE INPUT: true; the input reads as it did. -/
def cipherEncryptsSpec : ChangeSpec := { name := "cipherEncrypts", fn := fun _ => fun
  | [d1, d2] => { results := [.lit (.bool true)], args := [d1, d2] }
  | _ => none }
def cipherEncryptsRow : OpenClaim := { program := "ytilfjmpoiiepkaa", sum := "13c3c8e29a01124682554490213a8fa955514db5e87441ff32c0e631da64643b", func := "citadel/citadellaw03.CipherEncrypts", spec := "cipherEncrypts", unfollowed := true, recurses := true, apart := false }
def CipherEncryptsSaid : Prop := cipherEncryptsRow.holds Try.pinned (OpenSpec.ofChange cipherEncryptsSpec)

/-- ITS FALSE NEIGHBOUR: 'it returns false'. Refute it at one input. -/
def cipherEncryptsWrong : ChangeSpec := { name := "cipherEncrypts", fn := fun _ => fun
  | [d1, d2] => { results := [.lit (.bool false)], args := [d1, d2] }
  | _ => none }
def CipherEncryptsWrongFalsely : Prop := cipherEncryptsRow.holds Try.pinned (OpenSpec.ofChange cipherEncryptsWrong)

/-- 'citadellaw03.CipherTurns': WHATEVER THE INPUT: true; the input reads as it did. -/
def cipherTurnsSpec : ChangeSpec := { name := "cipherTurns", fn := fun _ => fun
  | [d1, d2] => { results := [.lit (.bool true)], args := [d1, d2] }
  | _ => none }
def cipherTurnsRow : OpenClaim := { program := "ytilfjmpoiiepkaa", sum := "13c3c8e29a01124682554490213a8fa955514db5e87441ff32c0e631da64643b", func := "citadel/citadellaw03.CipherTurns", spec := "cipherTurns", unfollowed := true, recurses := true, apart := false }
def CipherTurnsSaid : Prop := cipherTurnsRow.holds Try.pinned (OpenSpec.ofChange cipherTurnsSpec)

/-- ITS FALSE NEIGHBOUR: 'it returns false'. Refute it at one input. -/
def cipherTurnsWrong : ChangeSpec := { name := "cipherTurns", fn := fun _ => fun
  | [d1, d2] => { results := [.lit (.bool false)], args := [d1, d2] }
  | _ => none }
def CipherTurnsWrongFalsely : Prop := cipherTurnsRow.holds Try.pinned (OpenSpec.ofChange cipherTurnsWrong)

/-- 'citadellaw03.CipherSeals': WHATEVER THE INPUT: true; the input reads as it did. -/
def cipherSealsSpec : ChangeSpec := { name := "cipherSeals", fn := fun _ => fun
  | [d1, d2] => { results := [.lit (.bool true)], args := [d1, d2] }
  | _ => none }
def cipherSealsRow : OpenClaim := { program := "ytilfjmpoiiepkaa", sum := "13c3c8e29a01124682554490213a8fa955514db5e87441ff32c0e631da64643b", func := "citadel/citadellaw03.CipherSeals", spec := "cipherSeals", unfollowed := true, recurses := true, apart := false }
def CipherSealsSaid : Prop := cipherSealsRow.holds Try.pinned (OpenSpec.ofChange cipherSealsSpec)

/-- ITS FALSE NEIGHBOUR: 'it returns false'. Refute it at one input. -/
def cipherSealsWrong : ChangeSpec := { name := "cipherSeals", fn := fun _ => fun
  | [d1, d2] => { results := [.lit (.bool false)], args := [d1, d2] }
  | _ => none }
def CipherSealsWrongFalsely : Prop := cipherSealsRow.holds Try.pinned (OpenSpec.ofChange cipherSealsWrong)

/-- 'citadellaw03.CipherParts': WHATEVER THE INPUT: true; the input reads as it did. -/
def cipherPartsSpec : ChangeSpec := { name := "cipherParts", fn := fun _ => fun
  | [d1, d2, d3] => { results := [.lit (.bool true)], args := [d1, d2, d3] }
  | _ => none }
def cipherPartsRow : OpenClaim := { program := "ytilfjmpoiiepkaa", sum := "13c3c8e29a01124682554490213a8fa955514db5e87441ff32c0e631da64643b", func := "citadel/citadellaw03.CipherParts", spec := "cipherParts", unfollowed := true, recurses := true, apart := false }
def CipherPartsSaid : Prop := cipherPartsRow.holds Try.pinned (OpenSpec.ofChange cipherPartsSpec)

/-- ITS FALSE NEIGHBOUR: 'it returns false'. Refute it at one input. -/
def cipherPartsWrong : ChangeSpec := { name := "cipherParts", fn := fun _ => fun
  | [d1, d2, d3] => { results := [.lit (.bool false)], args := [d1, d2, d3] }
  | _ => none }
def CipherPartsWrongFalsely : Prop := cipherPartsRow.holds Try.pinned (OpenSpec.ofChange cipherPartsWrong)

/-- 'citadellaw03.CipherSums': WHATEVER THE INPUT: true; the input reads as it did. -/
def cipherSumsSpec : ChangeSpec := { name := "cipherSums", fn := fun _ => fun
  | [d] => { results := [.lit (.bool true)], args := [d] }
  | _ => none }
def cipherSumsRow : OpenClaim := { program := "ytilfjmpoiiepkaa", sum := "13c3c8e29a01124682554490213a8fa955514db5e87441ff32c0e631da64643b", func := "citadel/citadellaw03.CipherSums", spec := "cipherSums", unfollowed := true, recurses := true, apart := false }
def CipherSumsSaid : Prop := cipherSumsRow.holds Try.pinned (OpenSpec.ofChange cipherSumsSpec)

/-- ITS FALSE NEIGHBOUR: 'it returns false'. Refute it at one input. -/
def cipherSumsWrong : ChangeSpec := { name := "cipherSums", fn := fun _ => fun
  | [d] => { results := [.lit (.bool false)], args := [d] }
  | _ => none }
def CipherSumsWrongFalsely : Prop := cipherSumsRow.holds Try.pinned (OpenSpec.ofChange cipherSumsWrong)

/- THE SECOND FORM. 'bulk': how many values and letters a reading holds, each counted each time it is reached (what is shared counts as often as it is met; a slice's spare places count too). A statement '..UptoSaid' is the law's where the arguments, and the package variables that the reading takes, are together of bulk at most 1048576: NARROWER than '..Said'. Prove '..Said' where nothing that the law and all that it calls make is longer than what came in: it says more and counts as full. Else prove '..UptoSaid'. A law counts once. -/
mutual
def uptoBulk {H : Type} : DataW H → Nat
  | .lit (.string bytes) => bytes.length + 1
  | .lit _ => 1
  | .nil => 1
  | .ptr d => uptoBulk d + 1
  | .slice elems spare => uptoBulkAll elems + uptoBulkAll spare + 1
  | .agg parts => uptoBulkAll parts + 1
  | .iface _ d => uptoBulk d + 1
  | .map entries => uptoBulkEntries entries + 1
  | .held _ => 1
def uptoBulkAll {H : Type} : List (DataW H) → Nat
  | [] => 0
  | d :: r => uptoBulk d + uptoBulkAll r
def uptoBulkEntries {H : Type} : List (Lit × DataW H) → Nat
  | [] => 0
  | x :: r => uptoBulkEntry x + uptoBulkEntries r
def uptoBulkEntry {H : Type} : Lit × DataW H → Nat
  | (.string bytes, d) => bytes.length + uptoBulk d + 1
  | (_, d) => uptoBulk d + 1
 end
def uptoSmall : (H : Type) → List (DataW H) → Bool := fun _ ds => decide (uptoBulkAll ds ≤ 1048576)
def OpenSpec.upto (s : _root_.Go.ChangeSpec) : _root_.Go.OpenSpec := { _root_.Go.OpenSpec.ofChange s with cond := some uptoSmall }

/-- 'citadellaw03.CipherShift', WHERE WHAT IT READS IS OF BULK AT MOST 1048576: true; the input reads as it did. -/
def cipherShiftUptoRow : OpenClaim := { program := "ytilfjmpoiiepkaa", sum := "13c3c8e29a01124682554490213a8fa955514db5e87441ff32c0e631da64643b", func := "citadel/citadellaw03.CipherShift", spec := "cipherShift", apart := false, narrowed := true }
def CipherShiftUptoSaid : Prop := cipherShiftUptoRow.holds Try.pinned (OpenSpec.upto cipherShiftSpec)

/-- 'citadellaw03.CipherMix', WHERE WHAT IT READS IS OF BULK AT MOST 1048576: true; the input reads as it did. -/
def cipherMixUptoRow : OpenClaim := { program := "ytilfjmpoiiepkaa", sum := "13c3c8e29a01124682554490213a8fa955514db5e87441ff32c0e631da64643b", func := "citadel/citadellaw03.CipherMix", spec := "cipherMix", apart := false, narrowed := true }
def CipherMixUptoSaid : Prop := cipherMixUptoRow.holds Try.pinned (OpenSpec.upto cipherMixSpec)

/-- 'citadellaw03.CipherRounds', WHERE WHAT IT READS IS OF BULK AT MOST 1048576: true; the input reads as it did. -/
def cipherRoundsUptoRow : OpenClaim := { program := "ytilfjmpoiiepkaa", sum := "13c3c8e29a01124682554490213a8fa955514db5e87441ff32c0e631da64643b", func := "citadel/citadellaw03.CipherRounds", spec := "cipherRounds", unfollowed := true, recurses := true, apart := false, narrowed := true }
def CipherRoundsUptoSaid : Prop := cipherRoundsUptoRow.holds Try.pinned (OpenSpec.upto cipherRoundsSpec)

/-- 'citadellaw03.CipherEncrypts', WHERE WHAT IT READS IS OF BULK AT MOST 1048576: true; the input reads as it did. -/
def cipherEncryptsUptoRow : OpenClaim := { program := "ytilfjmpoiiepkaa", sum := "13c3c8e29a01124682554490213a8fa955514db5e87441ff32c0e631da64643b", func := "citadel/citadellaw03.CipherEncrypts", spec := "cipherEncrypts", unfollowed := true, recurses := true, apart := false, narrowed := true }
def CipherEncryptsUptoSaid : Prop := cipherEncryptsUptoRow.holds Try.pinned (OpenSpec.upto cipherEncryptsSpec)

/-- 'citadellaw03.CipherTurns', WHERE WHAT IT READS IS OF BULK AT MOST 1048576: true; the input reads as it did. -/
def cipherTurnsUptoRow : OpenClaim := { program := "ytilfjmpoiiepkaa", sum := "13c3c8e29a01124682554490213a8fa955514db5e87441ff32c0e631da64643b", func := "citadel/citadellaw03.CipherTurns", spec := "cipherTurns", unfollowed := true, recurses := true, apart := false, narrowed := true }
def CipherTurnsUptoSaid : Prop := cipherTurnsUptoRow.holds Try.pinned (OpenSpec.upto cipherTurnsSpec)

/-- 'citadellaw03.CipherSeals', WHERE WHAT IT READS IS OF BULK AT MOST 1048576: true; the input reads as it did. -/
def cipherSealsUptoRow : OpenClaim := { program := "ytilfjmpoiiepkaa", sum := "13c3c8e29a01124682554490213a8fa955514db5e87441ff32c0e631da64643b", func := "citadel/citadellaw03.CipherSeals", spec := "cipherSeals", unfollowed := true, recurses := true, apart := false, narrowed := true }
def CipherSealsUptoSaid : Prop := cipherSealsUptoRow.holds Try.pinned (OpenSpec.upto cipherSealsSpec)

/-- 'citadellaw03.CipherParts', WHERE WHAT IT READS IS OF BULK AT MOST 1048576: true; the input reads as it did. -/
def cipherPartsUptoRow : OpenClaim := { program := "ytilfjmpoiiepkaa", sum := "13c3c8e29a01124682554490213a8fa955514db5e87441ff32c0e631da64643b", func := "citadel/citadellaw03.CipherParts", spec := "cipherParts", unfollowed := true, recurses := true, apart := false, narrowed := true }
def CipherPartsUptoSaid : Prop := cipherPartsUptoRow.holds Try.pinned (OpenSpec.upto cipherPartsSpec)

/-- 'citadellaw03.CipherSums', WHERE WHAT IT READS IS OF BULK AT MOST 1048576: true; the input reads as it did. -/
def cipherSumsUptoRow : OpenClaim := { program := "ytilfjmpoiiepkaa", sum := "13c3c8e29a01124682554490213a8fa955514db5e87441ff32c0e631da64643b", func := "citadel/citadellaw03.CipherSums", spec := "cipherSums", unfollowed := true, recurses := true, apart := false, narrowed := true }
def CipherSumsUptoSaid : Prop := cipherSumsUptoRow.holds Try.pinned (OpenSpec.upto cipherSumsSpec)

end Rows
end Go.Proofs.Ytilfjmpoiiepkaa
