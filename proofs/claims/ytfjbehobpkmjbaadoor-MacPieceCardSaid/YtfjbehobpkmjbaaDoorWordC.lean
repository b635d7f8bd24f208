/- The contract of package digest's wordAt: a piece's word. It writes nothing that was there. Conditions: the piece's bytes are bytes, the word's number is below 16. -/
import Derived.Test.YtfjbehobpkmjbaaDoorRotW
namespace Go.Proofs.YtfjbehobpkmjbaaDoor
open Go.ChangeShapes Go.WideShapes Go.ChangeAt Go.RowKit

theorem pow24 : (2 : Nat) ^ 24 = 16777216 := by decide +kernel
theorem pow16 : (2 : Nat) ^ 16 = 65536 := by decide +kernel
theorem pow8 : (2 : Nat) ^ 8 = 256 := by decide +kernel
theorem or_low (i p : Nat) (hp : (2 : Nat) ^ i = p) {b : Nat} (hb : b < p) (a : Nat) : a * p ||| b = a * p + b := by
  subst hp
  rw [← Nat.shiftLeft_eq, ← Nat.shiftLeft_add_eq_or_of_lt hb]
set_option maxRecDepth 100000 in
theorem word_bits {a b c d : Nat} (ha : a < 256) (hb : b < 256) (hc : c < 256) (hd : d < 256) :
    bits .or .u32 (bits .or .u32 (bits .or .u32 ((a : Int) * 16777216) ((b : Int) * 65536)) ((c : Int) * 256)) (d : Int) = ((a * 16777216 + b * 65536 + c * 256 + d : Nat) : Int) := by
  have o1 : a * 16777216 ||| b * 65536 = a * 16777216 + b * 65536 := or_low 24 16777216 pow24 (by omega) a
  have o2 : (a * 16777216 + b * 65536) ||| c * 256 = a * 16777216 + b * 65536 + c * 256 := by
    have := or_low 16 65536 pow16 (b := c * 256) (by omega) (a * 256 + b)
    rw [show (a * 256 + b) * 65536 = a * 16777216 + b * 65536 by omega] at this; exact this
  have o3 : (a * 16777216 + b * 65536 + c * 256) ||| d = a * 16777216 + b * 65536 + c * 256 + d := by
    have := or_low 8 256 pow8 (b := d) (by omega) (a * 65536 + b * 256 + c)
    rw [show (a * 65536 + b * 256 + c) * 256 = a * 16777216 + b * 65536 + c * 256 by omega] at this; exact this
  rw [show (a : Int) * 16777216 = (a * 16777216 : Nat) by omega, show (b : Int) * 65536 = (b * 65536 : Nat) by omega, show (c : Int) * 256 = (c * 256 : Nat) by omega]
  rw [u32_or_nat _ _ (by omega) (by omega), o1, u32_or_nat _ _ (by omega) (by omega), o2, u32_or_nat _ _ (by omega) (by omega), o3]

set_option maxRecDepth 100000 in
set_option maxHeartbeats 1000000 in
theorem wordAt_any (f : Nat → Nat) (hf : ∀ i, i < 64 → f i < 256) (k : Nat) (hk : k < 16) (w : World) :
    Calls Tryd.prog 44 #[.agg (cellsOf .u8 (mk 64 f)), .int .i64 k] w fun e w' => e = .returned (.int .u32 (beW f k : Nat)) ∧ Below w.heap.size w w' := by
  have a0 := hf (4 * k) (by omega); have b0 := hf (4 * k + 1) (by omega); have c0 := hf (4 * k + 2) (by omega); have d0 := hf (4 * k + 3) (by omega)
  have E := Lib.hid (word_bits a0 b0 c0 d0)
  have HE : Hid (beW f k = f (4 * k) * 16777216 + f (4 * k + 1) * 65536 + f (4 * k + 2) * 256 + f (4 * k + 3)) := Lib.hid rfl
  obtain ⟨m, hm⟩ : ∃ m, 4 * k = m := ⟨_, rfl⟩
  rw [hm] at a0 b0 c0 d0 E HE
  have hB := IntBlk.new w .u8 25 (mk 64 f)
  have c1 := hB.cell (i := m) (by rw [mk_len]; omega)
  have c2 := hB.cell (i := m + 1) (by rw [mk_len]; omega)
  have c3 := hB.cell (i := m + 2) (by rw [mk_len]; omega)
  have c4 := hB.cell (i := m + 3) (by rw [mk_len]; omega)
  rw [mk_get (by omega)] at c1 c2 c3 c4
  have q : IntKind.i64.wrap (4 * (k : Int)) = (m : Int) := by rw [IntWalk.i64_in _ (by omega)]; omega
  have q1 : IntKind.i64.wrap ((m : Int) + 1) = (m : Int) + 1 := IntWalk.i64_in _ (by omega)
  have q2 : IntKind.i64.wrap ((m : Int) + 2) = (m : Int) + 2 := IntWalk.i64_in _ (by omega)
  have q3 : IntKind.i64.wrap ((m : Int) + 3) = (m : Int) + 3 := IntWalk.i64_in _ (by omega)
  have l0 : (0 : Int) ≤ m := by omega
  have l1 : (0 : Int) ≤ (m : Int) + 1 := by omega
  have l2 : (0 : Int) ≤ (m : Int) + 2 := by omega
  have l3 : (0 : Int) ≤ (m : Int) + 3 := by omega
  have u0 : (m : Int) < 64 := by omega
  have u1 : (m : Int) + 1 < 64 := by omega
  have u2 : (m : Int) + 2 < 64 := by omega
  have u3 : (m : Int) + 3 < 64 := by omega
  have n1 : ((m : Int) + 1).toNat = m + 1 := by omega
  have n2 : ((m : Int) + 2).toNat = m + 2 := by omega
  have n3 : ((m : Int) + 3).toNat = m + 3 := by omega
  have HB : Hid (Below w.heap.size w (w.alloc (.cells (cellsOf .u8 (mk 64 f)) 25)).drew) := Lib.hid (((Below.refl _ w).alloc (Nat.le_refl _) _).drew)
  generalize f m = a at *
  generalize f (m + 1) = b at *
  generalize f (m + 2) = c at *
  generalize f (m + 3) = d at *
  have w1 : IntKind.u32.wrap ((a : Int) * 16777216) = (a : Int) * 16777216 := by rw [IntKind.wrap_u32']; omega
  have w2 : IntKind.u32.wrap ((b : Int) * 65536) = (b : Int) * 65536 := by rw [IntKind.wrap_u32']; omega
  have w3 : IntKind.u32.wrap ((c : Int) * 256) = (c : Int) * 256 := by rw [IntKind.wrap_u32']; omega
  have x1 : IntKind.u32.wrap (a : Int) = (a : Int) := by rw [IntKind.wrap_u32']; omega
  have x2 : IntKind.u32.wrap (b : Int) = (b : Int) := by rw [IntKind.wrap_u32']; omega
  have x3 : IntKind.u32.wrap (c : Int) = (c : Int) := by rw [IntKind.wrap_u32']; omega
  have x4 : IntKind.u32.wrap (d : Int) = (d : Int) := by rw [IntKind.wrap_u32']; omega
  clear hm hB hf
  go_enter Tryd.func44, Tryd.ntmps44
  go_wp2
  generalize (w.alloc (.cells (cellsOf .u8 (mk 64 f)) 25)) = V at *
  refine wp_region_still_tail 25 (by kernel_rfl) (by kernel_rfl) ?_
  simp only [List.take_succ_cons, List.take_zero, List.drop_succ_cons, List.drop_zero]
  change wpStill _ _ V.drew (fun a' => wpList _ _ _ _ a' V.drew) _ _
  iterate 25 still_step
  refine wpStill_nil ?_
  go_wp2
  go_ret
  rw [HE.out, ← E.out]
  exact ⟨rfl, HB.out⟩
end Go.Proofs.YtfjbehobpkmjbaaDoor
