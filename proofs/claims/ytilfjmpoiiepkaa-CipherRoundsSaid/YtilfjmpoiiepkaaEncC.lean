/- The contracts of package cipher's Encrypt and Decrypt: each answers the key that the plain functions say, with any round keys, and writes nothing that was there. Conditions: all bytes are bytes; there are fewer than 2^32 round keys. -/
import Derived.Test.YtilfjmpoiiepkaaEncNum
import Derived.Test.YtilfjmpoiiepkaaSubK
import Derived.Test.YtilfjmpoiiepkaaTailQ
import Derived.Test.YtilfjmpoiiepkaaXorC
namespace Go.Proofs.Ytilfjmpoiiepkaa
open Go.ChangeShapes Go.WideShapes Go.ChangeAt Go.RowKit

/-- n round keys lie behind a pointer. -/
def KeysAt (w : World) (p : Option Addr) (n : Nat) (R : Nat → Nat → Nat) : Prop := n = 0 ∨ ∃ B o, p = some ⟨B, o, none⟩ ∧ B < w.heap.size ∧ ∀ i, i < n → Cells w B (o + i * 16) 16 (R i)
theorem Cells.below {w w' : World} {B o n M : Nat} {f : Nat → Nat} (h : Cells w B o n f) (hb : Below M w w') (hB : B < M) : Cells w' B o n f := fun j hj => by rw [hb.cell (p := ⟨B, o + j, none⟩) hB]; exact h j hj
theorem KeysAt.below {w w' : World} {p : Option Addr} {n : Nat} {R : Nat → Nat → Nat} (h : KeysAt w p n R) (hb : Below w.heap.size w w') : KeysAt w' p n R := by
  rcases h with h | ⟨B, o, hp, hB, hc⟩
  · exact .inl h
  · exact .inr ⟨B, o, hp, Nat.lt_of_lt_of_le hB hb.size, fun i hi => (hc i hi).below hb hB⟩
theorem keyInfo : (Try.prog.info? 23).map (·.size) = some 16 := by kernel_rfl
theorem subAll_k (f : Nat → Nat) (hf : IsKey f) (w : World) : Calls Try.prog 38 #[.agg (cellsOf .u8 (mk 16 f))] w fun e w' => e = .returned (.agg (cellsOf .u8 (mk 16 (subK f)))) ∧ Below w.heap.size w w' := SubAll_any f hf w
theorem backAll_k (f : Nat → Nat) (hf : IsKey f) (w : World) : Calls Try.prog 41 #[.agg (cellsOf .u8 (mk 16 f))] w fun e w' => e = .returned (.agg (cellsOf .u8 (mk 16 (bakK f)))) ∧ Below w.heap.size w w' := BackAll_any f hf w
attribute [local irreducible] inE inD encTo decTo xorK shK unK subK bakK colK mixK unmK

set_option maxRecDepth 100000 in
set_option maxHeartbeats 4000000 in
theorem Encrypt_any (p : Option Addr) (n cap : Nat) (R : Nat → Nat → Nat) (f : Nat → Nat) (hR : ∀ i, i < n → IsKey (R i)) (hf : IsKey f) (hn : n < 4294967296) (w : World) (hp : KeysAt w p n R) :
    Calls Try.prog 22 #[.slice p n cap, .agg (cellsOf .u8 (mk 16 f))] w fun e w' => e = .returned (.agg (cellsOf .u8 (mk 16 (encK R n f)))) ∧ Below w.heap.size w w' := by
  have q1 : IntKind.i64.wrap ((n : Int) - 1) = (n : Int) - 1 := IntWalk.i64_in _ (by omega)
  rw [encK_is]
  go_enter Try.func22, Try.ntmps22
  go_wp2
  go_loopw [13] (fun v13 wr => ∃ i : Nat, i ≤ n ∧ v13 = .int .i64 i ∧ IntBlk wr w.heap.size .u8 23 (mk 16 (encTo R n f i)) ∧ IntBlk wr (w.heap.size + 1) .u8 23 (mk 16 zeroK) ∧ Below w.heap.size w wr) (fun v13 _ => n - (intOf v13).toNat)
  case atStart => exact ⟨0, by omega, rfl, by rw [encTo_zero]; exact (IntBlk.new w .u8 23 (mk 16 f)).alloc _, blk_two w .u8 23 (mk 16 zeroK) _, below_two w _ _⟩
  case round =>
    obtain ⟨i, hi, rfl, ha, hz, hw⟩ := hrel
    have hs : w.heap.size + 1 < wr.heap.size := hz.lt
    by_cases hlt : i < n
    · rcases hp with hp | ⟨B, o, rfl, hB, hc⟩
      · omega
      have hk := encTo_key hR hf i (by omega)
      have hr := hR i hlt
      have CR := Lib.hid ((hc i hlt).below hw hB)
      have HS := Lib.hid (encTo_step R n f i)
      have A1 := Lib.hid ((ha.alloc (.cells (cellsOf .u8 (mk 16 zeroK)) 23)).otherRow (C := wr.heap.size) (by omega) (cellsOf .u8 (mk 16 (R i))))
      have Z1 := Lib.hid ((hz.alloc (.cells (cellsOf .u8 (mk 16 zeroK)) 23)).otherRow (C := wr.heap.size) (by omega) (cellsOf .u8 (mk 16 (R i))))
      have T1 := Lib.hid ((IntBlk.new wr .u8 23 (mk 16 zeroK)).setRow .u8 (mk 16 (R i)))
      have L1 := Lib.hid (below_setRow (hw.alloc (by omega) (.cells (cellsOf .u8 (mk 16 zeroK)) 23)) (g := wr.heap.size) (by omega) (cellsOf .u8 (mk 16 (R i))))
      clear ha hz hw hc
      generalize encTo R n f i = s at *
      have k1 := subK_key hk
      have k2 := shK_key k1
      have k3 := mixCol_key k2
      by_cases h0 : i = 0
      · have d1 : decide (0 < i) = false := by simp; omega
        have d3 : decide ((0 : Int) < (i : Int)) = false := by simp; omega
        have H0 := Lib.hid h0; clear h0
        go_wp2_with (first
        | (refine wpList_load_part rfl 23 _ rfl B (o + i * 16) 16 (R i) rfl _ CR.out keyUnder rfl keyInfo ?_)
        | (refine store_row_on rfl 23 _ _ rfl rfl wr.heap.size (cellsOf .u8 (mk 16 (R i))) rfl rfl 23 (cellsOf .u8 (mk 16 (zeroK))) (IntBlk.new wr .u8 23 (mk 16 zeroK)) (keySize _) (by rw [cellsOf_size, cellsOf_size, mk_len, mk_len]) (cellsOf_one _ _) ?_)
        | (refine wpList_load_row rfl 23 _ rfl w.heap.size rfl 23 (cellsOf .u8 (mk 16 (s))) (0, 0) _ A1.out keyUnder rfl (keySize _) ?_)
        | (refine wpList_load_row rfl 23 _ rfl wr.heap.size rfl 23 (cellsOf .u8 (mk 16 (R i))) (0, 0) _ T1.out keyUnder rfl (keySize _) ?_)
        | fail)
        refine (Xor_any (s) (R i) hk hr _).mono ?_
        rintro e wx ⟨rfl, hb⟩
        have A2 := Lib.hid (A1.out.below hb A1.out.lt)
        have Z2 := Lib.hid (Z1.out.below hb Z1.out.lt)
        have T2 := Lib.hid (T1.out.below hb T1.out.lt)
        have L2 := Lib.hid (L1.out.trans (hb.mono L1.out.size))
        clear hb A1 Z1 L1 T1
        have A3 := Lib.hid (A2.out.setRow .u8 (mk 16 (xorK (s) (R i))))
        have Z3 := Lib.hid (Z2.out.otherRow (C := w.heap.size) (by omega) (cellsOf .u8 (mk 16 (xorK (s) (R i)))))
        have T3 := Lib.hid (T2.out.otherRow (C := w.heap.size) (by omega) (cellsOf .u8 (mk 16 (xorK (s) (R i)))))
        have L3 := Lib.hid (below_setRow L2.out (g := w.heap.size) (by omega) (cellsOf .u8 (mk 16 (xorK (s) (R i)))))
        go_wp2_with (first
        | (refine store_row_on rfl 23 _ _ rfl rfl w.heap.size (cellsOf .u8 (mk 16 (xorK (s) (R i)))) rfl rfl 23 (cellsOf .u8 (mk 16 (s))) A2.out (keySize _) (by rw [cellsOf_size, cellsOf_size, mk_len, mk_len]) (cellsOf_one _ _) ?_)
        | fail)
        go_roundw
        case rel => exact ⟨i + 1, by omega, by go_num, by rw [HS.out, inE_zero s H0.out]; exact A3.out, Z3.out, L3.out⟩
        case measure => simp [intOf]; omega
      · have d1 : decide ((0 : Int) < (i : Int)) = true := by simp; omega
        by_cases h1 : i + 1 < n
        · have d2 : decide ((i : Int) < (n : Int) - 1) = true := by simp; omega
          go_wp2_with (first
        | (refine wpList_load_part rfl 23 _ rfl B (o + i * 16) 16 (R i) rfl _ CR.out keyUnder rfl keyInfo ?_)
        | (refine store_row_on rfl 23 _ _ rfl rfl wr.heap.size (cellsOf .u8 (mk 16 (R i))) rfl rfl 23 (cellsOf .u8 (mk 16 (zeroK))) (IntBlk.new wr .u8 23 (mk 16 zeroK)) (keySize _) (by rw [cellsOf_size, cellsOf_size, mk_len, mk_len]) (cellsOf_one _ _) ?_)
        | (refine wpList_load_row rfl 23 _ rfl w.heap.size rfl 23 (cellsOf .u8 (mk 16 (s))) (0, 0) _ A1.out keyUnder rfl (keySize _) ?_)
        | fail)
          refine (subAll_k s hk _).mono ?_
          rintro e w2 ⟨rfl, hb⟩
          have A2 := Lib.hid (A1.out.below hb A1.out.lt)
          have Z2 := Lib.hid (Z1.out.below hb Z1.out.lt)
          have T2 := Lib.hid (T1.out.below hb T1.out.lt)
          have L2 := Lib.hid (L1.out.trans (hb.mono L1.out.size))
          clear hb A1 Z1 L1 T1
          go_wp2_with (first
        | fail)
          refine (Shift_any (subK s) _).mono ?_
          rintro e w3 ⟨rfl, hb⟩
          have A3 := Lib.hid (A2.out.below hb A2.out.lt)
          have Z3 := Lib.hid (Z2.out.below hb Z2.out.lt)
          have T3 := Lib.hid (T2.out.below hb T2.out.lt)
          have L3 := Lib.hid (L2.out.trans (hb.mono L2.out.size))
          clear hb A2 Z2 L2 T2
          have A4 := Lib.hid (A3.out.setRow .u8 (mk 16 (shK (subK s))))
          have Z4 := Lib.hid (Z3.out.otherRow (C := w.heap.size) (by omega) (cellsOf .u8 (mk 16 (shK (subK s)))))
          have T4 := Lib.hid (T3.out.otherRow (C := w.heap.size) (by omega) (cellsOf .u8 (mk 16 (shK (subK s)))))
          have L4 := Lib.hid (below_setRow L3.out (g := w.heap.size) (by omega) (cellsOf .u8 (mk 16 (shK (subK s)))))
          go_wp2_with (first
        | (refine store_row_on rfl 23 _ _ rfl rfl w.heap.size (cellsOf .u8 (mk 16 (shK (subK s)))) rfl rfl 23 (cellsOf .u8 (mk 16 (s))) A3.out (keySize _) (by rw [cellsOf_size, cellsOf_size, mk_len, mk_len]) (cellsOf_one _ _) ?_)
        | (refine wpList_load_row rfl 23 _ rfl w.heap.size rfl 23 (cellsOf .u8 (mk 16 (shK (subK s)))) (0, 0) _ A4.out keyUnder rfl (keySize _) ?_)
        | fail)
          refine (mixCols_any (shK (subK s)) k2 _).mono ?_
          rintro e w4 ⟨rfl, hb⟩
          have A5 := Lib.hid (A4.out.below hb A4.out.lt)
          have Z5 := Lib.hid (Z4.out.below hb Z4.out.lt)
          have T5 := Lib.hid (T4.out.below hb T4.out.lt)
          have L5 := Lib.hid (L4.out.trans (hb.mono L4.out.size))
          clear hb A4 Z4 L4 T4
          have A6 := Lib.hid (A5.out.setRow .u8 (mk 16 (colK mixK (shK (subK s)))))
          have Z6 := Lib.hid (Z5.out.otherRow (C := w.heap.size) (by omega) (cellsOf .u8 (mk 16 (colK mixK (shK (subK s))))))
          have T6 := Lib.hid (T5.out.otherRow (C := w.heap.size) (by omega) (cellsOf .u8 (mk 16 (colK mixK (shK (subK s))))))
          have L6 := Lib.hid (below_setRow L5.out (g := w.heap.size) (by omega) (cellsOf .u8 (mk 16 (colK mixK (shK (subK s))))))
          go_wp2_with (first
        | (refine store_row_on rfl 23 _ _ rfl rfl w.heap.size (cellsOf .u8 (mk 16 (colK mixK (shK (subK s))))) rfl rfl 23 (cellsOf .u8 (mk 16 (shK (subK s)))) A5.out (keySize _) (by rw [cellsOf_size, cellsOf_size, mk_len, mk_len]) (cellsOf_one _ _) ?_)
        | (refine wpList_load_row rfl 23 _ rfl w.heap.size rfl 23 (cellsOf .u8 (mk 16 (colK mixK (shK (subK s))))) (0, 0) _ A6.out keyUnder rfl (keySize _) ?_)
        | (refine wpList_load_row rfl 23 _ rfl wr.heap.size rfl 23 (cellsOf .u8 (mk 16 (R i))) (0, 0) _ T6.out keyUnder rfl (keySize _) ?_)
        | fail)
          refine (Xor_any (colK mixK (shK (subK s))) (R i) k3 hr _).mono ?_
          rintro e wx ⟨rfl, hb⟩
          have A7 := Lib.hid (A6.out.below hb A6.out.lt)
          have Z7 := Lib.hid (Z6.out.below hb Z6.out.lt)
          have T7 := Lib.hid (T6.out.below hb T6.out.lt)
          have L7 := Lib.hid (L6.out.trans (hb.mono L6.out.size))
          clear hb A6 Z6 L6 T6
          have A8 := Lib.hid (A7.out.setRow .u8 (mk 16 (xorK (colK mixK (shK (subK s))) (R i))))
          have Z8 := Lib.hid (Z7.out.otherRow (C := w.heap.size) (by omega) (cellsOf .u8 (mk 16 (xorK (colK mixK (shK (subK s))) (R i)))))
          have T8 := Lib.hid (T7.out.otherRow (C := w.heap.size) (by omega) (cellsOf .u8 (mk 16 (xorK (colK mixK (shK (subK s))) (R i)))))
          have L8 := Lib.hid (below_setRow L7.out (g := w.heap.size) (by omega) (cellsOf .u8 (mk 16 (xorK (colK mixK (shK (subK s))) (R i)))))
          go_wp2_with (first
        | (refine store_row_on rfl 23 _ _ rfl rfl w.heap.size (cellsOf .u8 (mk 16 (xorK (colK mixK (shK (subK s))) (R i)))) rfl rfl 23 (cellsOf .u8 (mk 16 (colK mixK (shK (subK s))))) A7.out (keySize _) (by rw [cellsOf_size, cellsOf_size, mk_len, mk_len]) (cellsOf_one _ _) ?_)
        | fail)
          go_roundw
          case rel => exact ⟨i + 1, by omega, by go_num, by rw [HS.out, inE_mid s h0 h1]; exact A8.out, Z8.out, L8.out⟩
          case measure => simp [intOf]; omega
        · have d2 : decide ((i : Int) < (n : Int) - 1) = false := by simp; omega
          go_wp2_with (first
        | (refine wpList_load_part rfl 23 _ rfl B (o + i * 16) 16 (R i) rfl _ CR.out keyUnder rfl keyInfo ?_)
        | (refine store_row_on rfl 23 _ _ rfl rfl wr.heap.size (cellsOf .u8 (mk 16 (R i))) rfl rfl 23 (cellsOf .u8 (mk 16 (zeroK))) (IntBlk.new wr .u8 23 (mk 16 zeroK)) (keySize _) (by rw [cellsOf_size, cellsOf_size, mk_len, mk_len]) (cellsOf_one _ _) ?_)
        | (refine wpList_load_row rfl 23 _ rfl w.heap.size rfl 23 (cellsOf .u8 (mk 16 (s))) (0, 0) _ A1.out keyUnder rfl (keySize _) ?_)
        | fail)
          refine (subAll_k s hk _).mono ?_
          rintro e w2 ⟨rfl, hb⟩
          have A2 := Lib.hid (A1.out.below hb A1.out.lt)
          have Z2 := Lib.hid (Z1.out.below hb Z1.out.lt)
          have T2 := Lib.hid (T1.out.below hb T1.out.lt)
          have L2 := Lib.hid (L1.out.trans (hb.mono L1.out.size))
          clear hb A1 Z1 L1 T1
          go_wp2_with (first
        | fail)
          refine (Shift_any (subK s) _).mono ?_
          rintro e w3 ⟨rfl, hb⟩
          have A3 := Lib.hid (A2.out.below hb A2.out.lt)
          have Z3 := Lib.hid (Z2.out.below hb Z2.out.lt)
          have T3 := Lib.hid (T2.out.below hb T2.out.lt)
          have L3 := Lib.hid (L2.out.trans (hb.mono L2.out.size))
          clear hb A2 Z2 L2 T2
          have A4 := Lib.hid (A3.out.setRow .u8 (mk 16 (shK (subK s))))
          have Z4 := Lib.hid (Z3.out.otherRow (C := w.heap.size) (by omega) (cellsOf .u8 (mk 16 (shK (subK s)))))
          have T4 := Lib.hid (T3.out.otherRow (C := w.heap.size) (by omega) (cellsOf .u8 (mk 16 (shK (subK s)))))
          have L4 := Lib.hid (below_setRow L3.out (g := w.heap.size) (by omega) (cellsOf .u8 (mk 16 (shK (subK s)))))
          go_wp2_with (first
        | (refine store_row_on rfl 23 _ _ rfl rfl w.heap.size (cellsOf .u8 (mk 16 (shK (subK s)))) rfl rfl 23 (cellsOf .u8 (mk 16 (s))) A3.out (keySize _) (by rw [cellsOf_size, cellsOf_size, mk_len, mk_len]) (cellsOf_one _ _) ?_)
        | (refine wpList_load_row rfl 23 _ rfl w.heap.size rfl 23 (cellsOf .u8 (mk 16 (shK (subK s)))) (0, 0) _ A4.out keyUnder rfl (keySize _) ?_)
        | (refine wpList_load_row rfl 23 _ rfl wr.heap.size rfl 23 (cellsOf .u8 (mk 16 (R i))) (0, 0) _ T4.out keyUnder rfl (keySize _) ?_)
        | fail)
          refine (Xor_any (shK (subK s)) (R i) k2 hr _).mono ?_
          rintro e wx ⟨rfl, hb⟩
          have A5 := Lib.hid (A4.out.below hb A4.out.lt)
          have Z5 := Lib.hid (Z4.out.below hb Z4.out.lt)
          have T5 := Lib.hid (T4.out.below hb T4.out.lt)
          have L5 := Lib.hid (L4.out.trans (hb.mono L4.out.size))
          clear hb A4 Z4 L4 T4
          have A6 := Lib.hid (A5.out.setRow .u8 (mk 16 (xorK (shK (subK s)) (R i))))
          have Z6 := Lib.hid (Z5.out.otherRow (C := w.heap.size) (by omega) (cellsOf .u8 (mk 16 (xorK (shK (subK s)) (R i)))))
          have T6 := Lib.hid (T5.out.otherRow (C := w.heap.size) (by omega) (cellsOf .u8 (mk 16 (xorK (shK (subK s)) (R i)))))
          have L6 := Lib.hid (below_setRow L5.out (g := w.heap.size) (by omega) (cellsOf .u8 (mk 16 (xorK (shK (subK s)) (R i)))))
          go_wp2_with (first
        | (refine store_row_on rfl 23 _ _ rfl rfl w.heap.size (cellsOf .u8 (mk 16 (xorK (shK (subK s)) (R i)))) rfl rfl 23 (cellsOf .u8 (mk 16 (shK (subK s)))) A5.out (keySize _) (by rw [cellsOf_size, cellsOf_size, mk_len, mk_len]) (cellsOf_one _ _) ?_)
        | fail)
          go_roundw
          case rel => exact ⟨i + 1, by omega, by go_num, by rw [HS.out, inE_last s h0 h1]; exact A6.out, Z6.out, L6.out⟩
          case measure => simp [intOf]; omega
    · obtain rfl : i = n := by omega
      have HA := Lib.hid ha
      have HZ := Lib.hid hz
      have HW := Lib.hid hw
      clear ha hz hw
      go_wp2_with (first
        | (refine wpList_load_row rfl 23 _ rfl w.heap.size rfl 23 (cellsOf .u8 (mk 16 (encTo R i f i))) (0, 0) _ HA.out keyUnder rfl (keySize _) ?_)
        | (refine wpList_store_row rfl 23 _ _ rfl (w.heap.size + 1) _ rfl rfl 23 (cellsOf .u8 (mk 16 zeroK)) HZ.out (keySize _) (by rw [cellsOf_size, cellsOf_size, mk_len, mk_len]) (cellsOf_one _ _) ?_))
      refine bodyPost_ret (results_cell_row rfl _ _ (w.heap.size + 1) 23 (cellsOf .u8 (mk 16 (encTo R i f i))) (0, 0) _ rfl (HZ.out.setRow .u8 (mk 16 (encTo R i f i))) keyUnder rfl (keySize _)) rfl ⟨rfl, below_setRow HW.out (by omega) _⟩
end Go.Proofs.Ytilfjmpoiiepkaa
