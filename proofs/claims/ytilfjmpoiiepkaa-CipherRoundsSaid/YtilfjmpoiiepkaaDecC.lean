/- The contract of package cipher's Decrypt: it answers the key that the plain functions say, with any round keys, and writes nothing that was there. Conditions: all bytes are bytes; there are fewer than 2^32 round keys. -/
import Derived.Test.YtilfjmpoiiepkaaEncC
namespace Go.Proofs.Ytilfjmpoiiepkaa
open Go.ChangeShapes Go.WideShapes Go.ChangeAt Go.RowKit

/-- An element's place in a slice. -/
theorem quiet_elem {o : Oper} {a : Act} {C : World → Prop} {K : Act → Prop} (t e : TypeId) (sz : Nat) (x y : Operand) (ho : o.op = .indexAddr t x y) (ht : Try.prog.underlying t = some (.slice e)) (hi : (Try.prog.info? e).map (·.size) = some sz)
    (B off n cap k : Nat) (hx : a.eval x = .slice (some ⟨B, off, none⟩) n cap) (hy : a.eval y = .int .i64 k) (hk4 : k < n)
    (hk : K (a.put o.dst (.pointer (some ⟨B, off + k * sz, none⟩)))) : o.quiet Try.prog a C K := by
  refine quiet_value _ (fun w _ => ?_) hk
  have h0 : (k : Int) < n := by omega
  cases hq : Try.prog.info? e with
  | none => simp [hq] at hi
  | some i =>
    have hs : i.size = sz := by simpa [hq] using hi
    unfold execOp
    simp only [ho, hx, hy]
    simp [go_sem, ht, h0, sizeOf, typeInfo, hq, hs, Addr.add]
theorem decTo_left {R : Nat → Nat → Nat} {n i : Nat} (f : Nat → Nat) (h : i < n) : decTo R n f (n - i) = inD n i (xorK (decTo R n f (n - (i + 1))) (R i)) := by
  rw [show n - i = (n - (i + 1)) + 1 by omega, decTo_step, show n - 1 - (n - (i + 1)) = i by omega]
theorem call_xor (args : Array Value) (w : World) : (callFunc 40 args).run Try.prog w = .ok (.enter 40 args) w := by simp [go_sem]
theorem keysUnder : Try.prog.underlying 31 = some (.slice 23) := Try.underlying31
attribute [local irreducible] inE inD encTo decTo xorK shK unK subK bakK colK mixK unmK

set_option maxRecDepth 100000 in
set_option maxHeartbeats 4000000 in
theorem Decrypt_any (p : Option Addr) (n cap : Nat) (R : Nat → Nat → Nat) (f : Nat → Nat) (hR : ∀ i, i < n → IsKey (R i)) (hf : IsKey f) (hn : n < 4294967296) (w : World) (hp : KeysAt w p n R) :
    Calls Try.prog 24 #[.slice p n cap, .agg (cellsOf .u8 (mk 16 f))] w fun e w' => e = .returned (.agg (cellsOf .u8 (mk 16 (decK R n f)))) ∧ Below w.heap.size w w' := by
  have q1 : IntKind.i64.wrap ((n : Int) - 1) = (n : Int) - 1 := IntWalk.i64_in _ (by omega)
  rw [decK_is]
  go_enter Try.func24, Try.ntmps24
  go_wp2
  go_loopw [6] (fun v6 wr => ∃ (m : Nat) (z : Int), m ≤ n ∧ z + 1 = m ∧ v6 = .int .i64 z ∧ IntBlk wr w.heap.size .u8 23 (mk 16 (decTo R n f (n - m))) ∧ IntBlk wr (w.heap.size + 1) .u8 23 (mk 16 zeroK) ∧ Below w.heap.size w wr) (fun v6 _ => (intOf v6 + 1).toNat)
  case atStart => exact ⟨n, (n : Int) - 1, by omega, by omega, rfl, by rw [Nat.sub_self, decTo_zero]; exact (IntBlk.new w .u8 23 (mk 16 f)).alloc _, blk_two w .u8 23 (mk 16 zeroK) _, below_two w _ _⟩
  case round =>
    obtain ⟨m, z, hm, hz1, rfl, ha, hz, hw⟩ := hrel
    have hs : w.heap.size + 1 < wr.heap.size := hz.lt
    cases m with
    | zero =>
      obtain rfl : z = -1 := by omega
      have HA := Lib.hid ha
      have HZ := Lib.hid hz
      have HW := Lib.hid hw
      clear ha hz hw hz1 hm
      go_wp2_with (first
        | (refine wpList_load_row rfl 23 _ rfl w.heap.size rfl 23 (cellsOf .u8 (mk 16 (decTo R n f n))) (0, 0) _ HA.out keyUnder rfl (keySize _) ?_)
        | (refine wpList_store_row rfl 23 _ _ rfl (w.heap.size + 1) _ rfl rfl 23 (cellsOf .u8 (mk 16 zeroK)) HZ.out (keySize _) (by rw [cellsOf_size, cellsOf_size, mk_len, mk_len]) (cellsOf_one _ _) ?_))
      refine bodyPost_ret (results_cell_row rfl _ _ (w.heap.size + 1) 23 (cellsOf .u8 (mk 16 (decTo R n f n))) (0, 0) _ rfl (HZ.out.setRow .u8 (mk 16 (decTo R n f n))) keyUnder rfl (keySize _)) rfl ⟨rfl, below_setRow HW.out (by omega) _⟩
    | succ i =>
      obtain rfl : z = i := by omega
      rcases hp with hp | ⟨B, o, rfl, hB, hc⟩
      · omega
      have hk := decTo_key hR hf (n - (i + 1)) (by omega)
      have hr := hR i hm
      have CR := Lib.hid (fun (w' : World) (h : Below wr.heap.size wr w') => ((hc i hm).below hw hB).below h (by have := hw.size; omega))
      have HS := Lib.hid (decTo_left (R := R) f hm)
      have AC := Lib.hid (fun (w' : World) (h : Below wr.heap.size wr w') => ha.below h ha.lt)
      have ZC := Lib.hid (fun (w' : World) (h : Below wr.heap.size wr w') => hz.below h hz.lt)
      have LC := Lib.hid (fun (w' : World) (h : Below wr.heap.size wr w') => hw.trans (h.mono hw.size))
      clear ha hz hw hc hz1
      generalize decTo R n f (n - (i + 1)) = s at *
      have kx := xorK_key hk hr
      have k1 := unmCol_key kx
      have k2 := unK_key k1
      have k3 := unK_key kx
      have e1 : i < n := hm
      go_wp2
      refine wp_region_class_tail 6 (fun w' => Below wr.heap.size wr w') (by kernel_rfl) (by kernel_rfl) ((Below.refl _ _).drew) ?_
      simp only [List.take_succ_cons, List.take_zero, List.drop_succ_cons, List.drop_zero]
      iterate 6 (first
        | go_big_quiet_skip
        | (go_big_quiet_want
           first
             | (go_big_quiet_op; go_big_quiet_on)
             | ((first
                 | (refine quiet_load _ rfl w.heap.size s rfl AC.out ?_)
                 | (refine quiet_elem 31 23 16 _ _ rfl keysUnder keyInfo B o n cap i rfl rfl e1 ?_)
                 | (refine quiet_load_part 23 _ rfl B (o + i * 16) 16 (R i) rfl _ CR.out keyUnder rfl keyInfo ?_)
                 | (refine quiet_keys _ _ _ _ rfl 40 rfl s rfl (R i) rfl _ call_xor (class_of (Xor_any s (R i) hk hr)) ?_)); go_simp; go_big_quiet_on)))
      refine wpQuiet_nil ?_
      intro wx hwx
      have A1 := Lib.hid (AC.out _ hwx)
      have Z1 := Lib.hid (ZC.out _ hwx)
      have L1 := Lib.hid (LC.out _ hwx)
      clear hwx AC ZC LC CR
      by_cases h0 : i = 0
      · have d1 : decide (0 < i) = false := by simp; omega
        have d3 : decide ((0 : Int) < (i : Int)) = false := by simp; omega
        have H0 := Lib.hid h0; clear h0
        have A2 := Lib.hid (A1.out.setRow .u8 (mk 16 (xorK s (R i))))
        have Z2 := Lib.hid (Z1.out.otherRow (C := w.heap.size) (by omega) (cellsOf .u8 (mk 16 (xorK s (R i)))))
        have L2 := Lib.hid (below_setRow L1.out (g := w.heap.size) (by omega) (cellsOf .u8 (mk 16 (xorK s (R i)))))
        go_wp2_with (first
        | (refine store_row_on rfl 23 _ _ rfl rfl w.heap.size (cellsOf .u8 (mk 16 (xorK s (R i)))) rfl rfl 23 (cellsOf .u8 (mk 16 (s))) A1.out (keySize _) (by rw [cellsOf_size, cellsOf_size, mk_len, mk_len]) (cellsOf_one _ _) ?_)
        | fail)
        go_roundw
        case rel => exact ⟨i, (i : Int) - 1, by omega, by omega, rfl, by rw [HS.out, inD_zero _ H0.out]; exact A2.out, Z2.out, L2.out⟩
        case measure => simp [intOf]
      · have d1 : decide ((0 : Int) < (i : Int)) = true := by simp; omega
        by_cases h1 : i + 1 < n
        · have d2 : decide ((i : Int) < (n : Int) - 1) = true := by simp; omega
          have A2 := Lib.hid (A1.out.setRow .u8 (mk 16 (xorK s (R i))))
          have Z2 := Lib.hid (Z1.out.otherRow (C := w.heap.size) (by omega) (cellsOf .u8 (mk 16 (xorK s (R i)))))
          have L2 := Lib.hid (below_setRow L1.out (g := w.heap.size) (by omega) (cellsOf .u8 (mk 16 (xorK s (R i)))))
          go_wp2_with (first
        | (refine store_row_on rfl 23 _ _ rfl rfl w.heap.size (cellsOf .u8 (mk 16 (xorK s (R i)))) rfl rfl 23 (cellsOf .u8 (mk 16 (s))) A1.out (keySize _) (by rw [cellsOf_size, cellsOf_size, mk_len, mk_len]) (cellsOf_one _ _) ?_)
        | (refine wpList_load_row rfl 23 _ rfl w.heap.size rfl 23 (cellsOf .u8 (mk 16 (xorK s (R i)))) (0, 0) _ A2.out keyUnder rfl (keySize _) ?_)
        | fail)
          refine (unmCols_any (xorK s (R i)) kx _).mono ?_
          rintro e w2 ⟨rfl, hb⟩
          have A3 := Lib.hid (A2.out.below hb A2.out.lt)
          have Z3 := Lib.hid (Z2.out.below hb Z2.out.lt)
          have L3 := Lib.hid (L2.out.trans (hb.mono L2.out.size))
          clear hb A2 Z2 L2
          have A4 := Lib.hid (A3.out.setRow .u8 (mk 16 (colK unmK (xorK s (R i)))))
          have Z4 := Lib.hid (Z3.out.otherRow (C := w.heap.size) (by omega) (cellsOf .u8 (mk 16 (colK unmK (xorK s (R i))))))
          have L4 := Lib.hid (below_setRow L3.out (g := w.heap.size) (by omega) (cellsOf .u8 (mk 16 (colK unmK (xorK s (R i))))))
          go_wp2_with (first
        | (refine store_row_on rfl 23 _ _ rfl rfl w.heap.size (cellsOf .u8 (mk 16 (colK unmK (xorK s (R i))))) rfl rfl 23 (cellsOf .u8 (mk 16 (xorK s (R i)))) A3.out (keySize _) (by rw [cellsOf_size, cellsOf_size, mk_len, mk_len]) (cellsOf_one _ _) ?_)
        | (refine wpList_load_row rfl 23 _ rfl w.heap.size rfl 23 (cellsOf .u8 (mk 16 (colK unmK (xorK s (R i))))) (0, 0) _ A4.out keyUnder rfl (keySize _) ?_)
        | fail)
          refine (Unshift_any (colK unmK (xorK s (R i))) k1 _).mono ?_
          rintro e w3 ⟨rfl, hb⟩
          have A5 := Lib.hid (A4.out.below hb A4.out.lt)
          have Z5 := Lib.hid (Z4.out.below hb Z4.out.lt)
          have L5 := Lib.hid (L4.out.trans (hb.mono L4.out.size))
          clear hb A4 Z4 L4
          go_wp2_with (first
        | fail)
          refine (backAll_k (unK (colK unmK (xorK s (R i)))) k2 _).mono ?_
          rintro e w4 ⟨rfl, hb⟩
          have A6 := Lib.hid (A5.out.below hb A5.out.lt)
          have Z6 := Lib.hid (Z5.out.below hb Z5.out.lt)
          have L6 := Lib.hid (L5.out.trans (hb.mono L5.out.size))
          clear hb A5 Z5 L5
          have A7 := Lib.hid (A6.out.setRow .u8 (mk 16 (bakK (unK (colK unmK (xorK s (R i)))))))
          have Z7 := Lib.hid (Z6.out.otherRow (C := w.heap.size) (by omega) (cellsOf .u8 (mk 16 (bakK (unK (colK unmK (xorK s (R i))))))))
          have L7 := Lib.hid (below_setRow L6.out (g := w.heap.size) (by omega) (cellsOf .u8 (mk 16 (bakK (unK (colK unmK (xorK s (R i))))))))
          go_wp2_with (first
        | (refine store_row_on rfl 23 _ _ rfl rfl w.heap.size (cellsOf .u8 (mk 16 (bakK (unK (colK unmK (xorK s (R i))))))) rfl rfl 23 (cellsOf .u8 (mk 16 (colK unmK (xorK s (R i))))) A6.out (keySize _) (by rw [cellsOf_size, cellsOf_size, mk_len, mk_len]) (cellsOf_one _ _) ?_)
        | fail)
          go_roundw
          case rel => exact ⟨i, (i : Int) - 1, by omega, by omega, rfl, by rw [HS.out, inD_mid _ h0 h1]; exact A7.out, Z7.out, L7.out⟩
          case measure => simp [intOf]
        · have d2 : decide ((i : Int) < (n : Int) - 1) = false := by simp; omega
          have A2 := Lib.hid (A1.out.setRow .u8 (mk 16 (xorK s (R i))))
          have Z2 := Lib.hid (Z1.out.otherRow (C := w.heap.size) (by omega) (cellsOf .u8 (mk 16 (xorK s (R i)))))
          have L2 := Lib.hid (below_setRow L1.out (g := w.heap.size) (by omega) (cellsOf .u8 (mk 16 (xorK s (R i)))))
          go_wp2_with (first
        | (refine store_row_on rfl 23 _ _ rfl rfl w.heap.size (cellsOf .u8 (mk 16 (xorK s (R i)))) rfl rfl 23 (cellsOf .u8 (mk 16 (s))) A1.out (keySize _) (by rw [cellsOf_size, cellsOf_size, mk_len, mk_len]) (cellsOf_one _ _) ?_)
        | (refine wpList_load_row rfl 23 _ rfl w.heap.size rfl 23 (cellsOf .u8 (mk 16 (xorK s (R i)))) (0, 0) _ A2.out keyUnder rfl (keySize _) ?_)
        | fail)
          refine (Unshift_any (xorK s (R i)) kx _).mono ?_
          rintro e w3 ⟨rfl, hb⟩
          have A3 := Lib.hid (A2.out.below hb A2.out.lt)
          have Z3 := Lib.hid (Z2.out.below hb Z2.out.lt)
          have L3 := Lib.hid (L2.out.trans (hb.mono L2.out.size))
          clear hb A2 Z2 L2
          go_wp2_with (first
        | fail)
          refine (backAll_k (unK (xorK s (R i))) k3 _).mono ?_
          rintro e w4 ⟨rfl, hb⟩
          have A4 := Lib.hid (A3.out.below hb A3.out.lt)
          have Z4 := Lib.hid (Z3.out.below hb Z3.out.lt)
          have L4 := Lib.hid (L3.out.trans (hb.mono L3.out.size))
          clear hb A3 Z3 L3
          have A5 := Lib.hid (A4.out.setRow .u8 (mk 16 (bakK (unK (xorK s (R i))))))
          have Z5 := Lib.hid (Z4.out.otherRow (C := w.heap.size) (by omega) (cellsOf .u8 (mk 16 (bakK (unK (xorK s (R i)))))))
          have L5 := Lib.hid (below_setRow L4.out (g := w.heap.size) (by omega) (cellsOf .u8 (mk 16 (bakK (unK (xorK s (R i)))))))
          go_wp2_with (first
        | (refine store_row_on rfl 23 _ _ rfl rfl w.heap.size (cellsOf .u8 (mk 16 (bakK (unK (xorK s (R i)))))) rfl rfl 23 (cellsOf .u8 (mk 16 (xorK s (R i)))) A4.out (keySize _) (by rw [cellsOf_size, cellsOf_size, mk_len, mk_len]) (cellsOf_one _ _) ?_)
        | fail)
          go_roundw
          case rel => exact ⟨i, (i : Int) - 1, by omega, by omega, rfl, by rw [HS.out, inD_last _ h0 h1]; exact A5.out, Z5.out, L5.out⟩
          case measure => simp [intOf]
end Go.Proofs.Ytilfjmpoiiepkaa
