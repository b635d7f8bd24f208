/- What the statements on trees keep from call to call: lists of tags, and the key. Conditions: as each says. -/
import Derived.Test.YtbdldnhpgpjnoaaDoorTrSame
import Derived.Test.YtbdldnhpgpjnoaaDoorTrRefU
import Derived.Test.YtbdldnhpgpjnoaaDoorTrVer
import Derived.Test.YtbdldnhpgpjnoaaDoorTrBuild
import Derived.Test.YtbdldnhpgpjnoaaDoorRdErr
namespace Go.Proofs.YtbdldnhpgpjnoaaDoor
open Go.ChangeShapes Go.WideShapes Go.ChangeAt Go.RowKit
set_option linter.unusedVariables false
/-- Two lists of the same tags. -/
structure LS (w : World) (pl pc : Option Addr) (L : List (List Int)) (W : World) : Prop where
  b : Below w.heap.size w W
  l : RowsAt 32 sumC W pl L
  c : RowsAt 32 sumC W pc L
theorem LS.on {w W W' : World} {pl pc : Option Addr} {L : List (List Int)} (h : LS w pl pc L W) (hb : Below W.heap.size W W') : LS w pl pc L W' := ⟨h.b.trans (hb.mono h.b.size), h.l.below hb, h.c.below hb⟩
theorem noughts_sum (k : Nat) : ∀ t ∈ List.replicate k nought, IsSum t := fun t ht => by rw [List.eq_of_mem_replicate ht]; exact nought_sum
theorem sums_rows {w : World} {base top n c B : Nat} {L : List (List Int)} (h : OwnL 27 32 sumC w base top (.slice (some ⟨B, 0, none⟩) n c) L) : RowsAt 32 sumC w (some ⟨B, 0, none⟩) L := by
  obtain ⟨p', c', he, _, _, hr, _⟩ := h.rows sumC_len
  cases he; exact hr
end Go.Proofs.YtbdldnhpgpjnoaaDoor
