/- The contracts of package mac's masked, of a piece with a mask, and Piece, of a key's piece. Conditions: bytes are bytes; the package's variable holds the constants; a key has no more than 100000 bytes. -/
import Derived.Test.YtfjbehobpkmjbaaDoorMacNum
import Derived.Test.YtfjbehobpkmjbaaDoorDigLaw
namespace Go.Proofs.YtfjbehobpkmjbaaDoor
open Go.ChangeShapes Go.WideShapes Go.ChangeAt Go.RowKit

theorem IntBlk.cells0 {w : World} {B N : Nat} {t : TypeId} {F : Nat → Nat} (h : IntBlk w B .u8 t (mk N F)) : Cells w B 0 N F := fun j hj => by
  have := h.cells (o := 0) (n := N) (by omega) j hj
  simpa only [Nat.zero_add] using this
/-- A block of bytes is a slice's bytes. -/
theorem IntBlk.bytes {w : World} {B N : Nat} {t : TypeId} {F : Nat → Nat} (h : IntBlk w B .u8 t (mk N F)) : BytesAt w (some ⟨B, 0, none⟩) N F := .inr ⟨B, 0, rfl, h.lt, h.cells0⟩
attribute [local irreducible] digF pieK mskB

set_option maxRecDepth 100000 in
theorem masked_any (f : Nat → Nat) (m : Nat) (hf : ∀ i, i < 64 → f i < 256) (hm : m < 256) (w : World) :
    Calls Tryd.prog 28 #[.agg (cellsOf .u8 (mk 64 f)), .int .u8 m] w fun e w' => e = .returned (.slice (some ⟨w.heap.size, 0, none⟩) 64 64) ∧ IntBlk w' w.heap.size .u8 25 (mk 64 (mskB m f)) ∧ Below w.heap.size w w' := by
  have hz : IntBlk (w.alloc (.cells (cellsOf .u8 (mk 64 f)) 25)) w.heap.size .u8 25 (mk 64 (mskTo m f 0)) := by rw [mskTo_zero]; exact IntBlk.new w .u8 _ (mk 64 f)
  have HZ := Lib.hid hz
  clear hz
  go_enter Tryd.func28, Tryd.ntmps28
  go_wp2
  go_loopw [6] (fun v wr => ∃ k : Nat, k ≤ 64 ∧ v = .int .i64 k ∧ IntBlk wr w.heap.size .u8 25 (mk 64 (mskTo m f k)) ∧ Below w.heap.size w wr) (fun v _ => 64 - (intOf v).toNat)
  case atStart => exact ⟨0, by omega, rfl, HZ.out, (Below.refl _ w).alloc (Nat.le_refl _) _⟩
  case round =>
    clear HZ
    obtain ⟨k, hk, rfl, hz, hb⟩ := hrel
    by_cases h : k < 64
    · have e1 : (k : Int) < 64 := by omega
      have HS := Lib.hid (mskTo_step m f k rfl)
      have cs := hz.cell (i := k) (by rw [mk_len]; omega)
      rw [mk_get h, mskTo_at] at cs
      have fs := hz.free k
      have hv := bits_xor_u8 (hf k h) hm
      have hv2 : bits .xor .u8 (f k : Int) (m : Int) = (mskB m f k : Nat) := by rw [hv]; unfold mskB; rfl
      have l0 : (0 : Int) ≤ k := by omega
      have HZ := Lib.hid hz; have HB := Lib.hid hb
      clear hz hb hv
      generalize mskB m f k = mv at *
      go_wp2
      go_roundw
      case rel => exact ⟨k + 1, by omega, by go_num, by rw [← HS.out]; exact HZ.out.set k _, HB.out.setCell (Nat.le_refl _) _⟩
      case measure => simp [intOf]; omega
    · have e1 : k = 64 := by omega
      have hd1 : decide ((k : Int) < 64) = false := by simp; omega
      rw [e1, mskTo_end] at hz
      have HZ := Lib.hid hz; have HB := Lib.hid hb
      clear hz hb e1 h
      go_wp2
      go_ret
      exact ⟨rfl, HZ.out, HB.out⟩
end Go.Proofs.YtfjbehobpkmjbaaDoor
