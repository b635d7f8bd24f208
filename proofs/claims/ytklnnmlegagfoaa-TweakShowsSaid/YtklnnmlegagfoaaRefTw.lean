/- The contracts of the document's own Block and Tweak of layer 6. Conditions: the bytes are bytes; the block's number is what a machine holds. -/
import Derived.Test.YtklnnmlegagfoaaTwCipher
import Derived.Test.YtklnnmlegagfoaaTwRefs
import Derived.Test.YtklnnmlegagfoaaRefRounds
import Derived.Test.YtklnnmlegagfoaaTwProg
namespace Go.Proofs.Ytklnnmlegagfoaa
open Go.ChangeShapes Go.WideShapes Go.ChangeAt Go.RowKit

theorem wB_ref (R : Nat → Nat → Nat) (T : Nat) (t f : Nat → Nat) : xorK (encK R T (xorK f t)) t = wB false R T t f := by
  show _ = xorK t (encK R T (xorK t f))
  rw [xor_comm f t, xor_comm (encK R T (xorK t f)) t]
theorem call_refXor (args : Array Value) (w : World) : (callFunc 42 args).run Try.prog w = .ok (.enter 42 args) w := by simp [go_sem]
theorem call_refEnc (args : Array Value) (w : World) : (callFunc 33 args).run Try.prog w = .ok (.enter 33 args) w := by simp [go_sem]
/-- What is left of a number behind k bytes. -/
def uTo (z : Int) : Nat → Int
  | 0 => z % 18446744073709551616
  | k + 1 => uTo z k / 256
theorem uTo_bd (z : Int) : ∀ k, 0 ≤ uTo z k ∧ uTo z k < 18446744073709551616
  | 0 => by unfold uTo; omega
  | k + 1 => by have := uTo_bd z k; unfold uTo; omega
theorem uTo_byte (z : Int) {k : Nat} (h : k < 8) : uTo z k % 256 = z / 2 ^ (8 * k) % 256 := by
  rcases (show k = 0 ∨ k = 1 ∨ k = 2 ∨ k = 3 ∨ k = 4 ∨ k = 5 ∨ k = 6 ∨ k = 7 by omega) with rfl | rfl | rfl | rfl | rfl | rfl | rfl | rfl <;> simp only [uTo]
  · rw [show (2 : Int) ^ (8 * 0) = 1 from rfl]; omega
  · rw [show (2 : Int) ^ (8 * 1) = 256 from rfl]; omega
  · rw [show (2 : Int) ^ (8 * 2) = 65536 from rfl]; omega
  · rw [show (2 : Int) ^ (8 * 3) = 16777216 from rfl]; omega
  · rw [show (2 : Int) ^ (8 * 4) = 4294967296 from rfl]; omega
  · rw [show (2 : Int) ^ (8 * 5) = 1099511627776 from rfl]; omega
  · rw [show (2 : Int) ^ (8 * 6) = 281474976710656 from rfl]; omega
  · rw [show (2 : Int) ^ (8 * 7) = 72057594037927936 from rfl]; omega
attribute [local irreducible] encK rkS numK wB xorK twk dbl uTo

set_option maxRecDepth 100000 in
set_option maxHeartbeats 1000000 in
theorem refBlock_any (p : Option Addr) (n cap : Nat) (R : Nat → Nat → Nat) (t f : Nat → Nat) (hR : ∀ i, i < n → IsKey (R i)) (ht : IsKey t) (hf : IsKey f) (hn : n < 4294967296) (w : World) (hp : KeysAt w p n R) :
    Calls Try.prog 22 #[.slice p n cap, .agg (cellsOf .u8 (mk 16 t)), .agg (cellsOf .u8 (mk 16 f))] w fun e w' => e = .returned (.agg (cellsOf .u8 (mk 16 (wB false R n t f)))) ∧ Below w.heap.size w w' := by
  have BZ := blk_third w .u8 25 (mk 16 zeroK) (.cells (cellsOf .u8 (mk 16 t)) 25) (.cells (cellsOf .u8 (mk 16 f)) 25)
  have BF := blk_second w .u8 25 (mk 16 f) (.cells (cellsOf .u8 (mk 16 t)) 25) (.cells (cellsOf .u8 (mk 16 zeroK)) 25)
  have BT := blk_first w .u8 25 (mk 16 t) (.cells (cellsOf .u8 (mk 16 f)) 25) (.cells (cellsOf .u8 (mk 16 zeroK)) 25)
  have BW := below_three w (.cells (cellsOf .u8 (mk 16 t)) 25) (.cells (cellsOf .u8 (mk 16 f)) 25) (.cells (cellsOf .u8 (mk 16 zeroK)) 25)
  go_enter Try.func22, Try.ntmps22
  go_wp2
  change Code.wp _ _ _ _ (((w.alloc (.cells (cellsOf .u8 (mk 16 t)) 25)).alloc (.cells (cellsOf .u8 (mk 16 f)) 25)).alloc (.cells (cellsOf .u8 (mk 16 zeroK)) 25))
  generalize ((w.alloc (.cells (cellsOf .u8 (mk 16 t)) 25)).alloc (.cells (cellsOf .u8 (mk 16 f)) 25)).alloc (.cells (cellsOf .u8 (mk 16 zeroK)) 25) = W0 at *
  have HT := Lib.hid (fun (w' : World) (h : Below W0.heap.size W0 w') => BT.below h BT.lt)
  have HF := Lib.hid (fun (w' : World) (h : Below W0.heap.size W0 w') => BF.below h BF.lt)
  have HZ := Lib.hid (fun (w' : World) (h : Below W0.heap.size W0 w') => BZ.below h BZ.lt)
  have hx := xorK_key hf ht
  have he : IsKey (encK R n (xorK f t)) := by rw [encK_is]; exact encTo_key hR hx _ (Nat.le_refl _)
  have K1 := Lib.hid (class_of (W0 := W0) (refXor_any f t hf ht))
  have K2 := Lib.hid (show ∀ w', Below W0.heap.size W0 w' → Calls Try.prog 33 #[.slice p n cap, .agg (cellsOf .u8 (mk 16 (xorK f t)))] w' fun e w'' => e = .returned (.agg (cellsOf .u8 (mk 16 (encK R n (xorK f t))))) ∧ Below W0.heap.size W0 w'' from
    fun w' h => (refEncrypt_any p n cap R (xorK f t) hR hx hn w' ((hp.below BW).below h)).mono fun _ _ ⟨he, hb⟩ => ⟨he, h.trans (hb.mono h.size)⟩)
  have K3 := Lib.hid (class_of (W0 := W0) (refXor_any (encK R n (xorK f t)) t he ht))
  have HE := Lib.hid (wB_ref R n t f)
  have HW := Lib.hid BW
  clear BW BZ BF BT hp hx he hR ht hf hn
  refine wp_region_class_tail 7 (fun w' => Below W0.heap.size W0 w') (by kernel_rfl) (by kernel_rfl) ((Below.refl _ _).drew) ?_
  simp only [List.take_succ_cons, List.take_zero, List.drop_succ_cons, List.drop_zero]
  iterate 7 (first
    | go_big_quiet_skip
    | (go_big_quiet_want
       first
         | (go_big_quiet_op; go_big_quiet_on)
         | ((first
             | (refine quiet_load_row 25 _ rfl w.heap.size .u8 (mk 16 t) rfl 16 5 keyUnder (keySize _) HT.out ?_)
             | (refine quiet_load_row 25 _ rfl (w.heap.size + 1) .u8 (mk 16 f) rfl 16 5 keyUnder (keySize _) HF.out ?_)
             | (refine quiet_call2 _ _ _ _ rfl 42 rfl (.agg (cellsOf .u8 (mk 16 f))) (.agg (cellsOf .u8 (mk 16 t))) (.agg (cellsOf .u8 (mk 16 (xorK f t)))) rfl rfl call_refXor K1.out ?_; clear K1)
             | (refine quiet_call2 _ _ _ _ rfl 33 rfl (.slice p n cap) (.agg (cellsOf .u8 (mk 16 (xorK f t)))) (.agg (cellsOf .u8 (mk 16 (encK R n (xorK f t))))) rfl rfl call_refEnc K2.out ?_; clear K2)
             | (refine quiet_call2 _ _ _ _ rfl 42 rfl (.agg (cellsOf .u8 (mk 16 (encK R n (xorK f t))))) (.agg (cellsOf .u8 (mk 16 t))) (.agg (cellsOf .u8 (mk 16 (xorK (encK R n (xorK f t)) t)))) rfl rfl call_refXor K3.out ?_; clear K3)); go_simp; go_big_quiet_on)))
  refine wpQuiet_nil ?_
  rw [HE.out]
  intro wx hwx
  go_wp2_with (refine store_row_on rfl 25 _ _ rfl rfl (w.heap.size + 1 + 1) (cellsOf .u8 (mk 16 (wB false R n t f))) rfl rfl 25 (cellsOf .u8 (mk 16 zeroK)) (HZ.out wx hwx) (keySize _) (by rw [cellsOf_size, cellsOf_size, mk_len, mk_len]) (cellsOf_one _ _) ?_)
  exact bodyPost_ret (results_cell_row rfl _ _ (w.heap.size + 1 + 1) 25 (cellsOf .u8 (mk 16 (wB false R n t f))) (0, 0) _ rfl ((HZ.out wx hwx).setRow .u8 (mk 16 (wB false R n t f))) keyUnder rfl (keySize _)) rfl ⟨rfl, below_setRow (HW.out.trans (hwx.mono HW.out.size)) (by omega) _⟩

set_option maxRecDepth 100000 in
set_option maxHeartbeats 400000 in
theorem refTweak_bad (p : Option Addr) (n cap : Nat) (z j : Int) (h16 : n ≠ 16) (h32 : n ≠ 32) (w : World) :
    Calls Try.prog 13 #[.slice p n cap, .int .i64 z, .int .i64 j] w fun e w' => e = .returned (.tuple #[.agg (cellsOf .u8 (mk 16 zeroK)), .bool false]) ∧ Below w.heap.size w w' := by
  have HZ := Lib.hid (IntBlk.new w .u8 25 (mk 16 zeroK))
  have HL := Lib.hid ((Below.refl _ w).alloc (Nat.le_refl _) (.cells (cellsOf .u8 (mk 16 zeroK)) 25))
  go_enter Try.func13, Try.ntmps13
  go_wp2_with (first
    | (go_at_call 21; refine (refRounds_bad p n cap h16 h32 _).mono ?_; rintro e w1 ⟨rfl, rfl⟩)
    | (refine store_row_on rfl 25 _ _ rfl rfl w.heap.size (cellsOf .u8 (mk 16 zeroK)) rfl rfl 25 (cellsOf .u8 (mk 16 zeroK)) HZ.out (keySize _) rfl (cellsOf_one _ _) ?_))
  exact bodyPost_ret (results_cell_row_tmp rfl _ _ w.heap.size 25 (cellsOf .u8 (mk 16 zeroK)) (0, 0) _ rfl (HZ.out.setRow .u8 (mk 16 zeroK)) keyUnder rfl (keySize _)) rfl ⟨rfl, below_setRow HL.out (Nat.le_refl _) _⟩

set_option maxRecDepth 100000 in
set_option maxHeartbeats 1000000 in
theorem refTweak_ok (p : Option Addr) (n cap N : Nat) (g : Nat → Nat) (z : Int) (j : Nat) (hn : n = 4 * N) (hN : N = 4 ∨ N = 8) (hg : ∀ i, i < n → g i < 256) (hj : j ≤ 1000000) (w : World) (hp : BytesAt w p n g) :
    Calls Try.prog 13 #[.slice p n cap, .int .i64 z, .int .i64 j] w fun e w' => e = .returned (.tuple #[.agg (cellsOf .u8 (mk 16 (twk (twF N g z) j))), .bool true]) ∧ Below w.heap.size w w' := by
  have b0 := (Below.refl _ w).alloc (Nat.le_refl _) (.cells (cellsOf .u8 (mk 16 zeroK)) 25)
  have Z0 := Lib.hid (IntBlk.new w .u8 25 (mk 16 zeroK))
  have RC := Lib.hid (refRounds_ok p n cap N g hn hN hg _ (hp.below b0))
  have hr : ∀ i, i < N + 7 → IsKey (rkS N g i) := fun i _ => rkS_key (fun i hi => hg i (by omega)) i
  have hT : N + 7 < 4294967296 := by omega
  have EC := Lib.hid (fun (q : Option Addr) (c : Nat) (w1 : World) (hk : KeysAt w1 q (N + 7) (rkS N g)) => refEncrypt_any q (N + 7) c (rkS N g) (numK z) hr (numK_key z) hT w1 hk)
  have HTW := Lib.hid (show encK (rkS N g) (N + 7) (numK z) = twF N g z from rfl)
  have kt : IsKey (twF N g z) := twF_key z (fun i hi => hg i (by omega))
  have B0 := Lib.hid b0
  clear hn hN hg b0 hp hr hT
  generalize twF N g z = t at *
  generalize rkS N g = R at *
  generalize N + 7 = T at *
  go_enter Try.func13, Try.ntmps13
  go_wp2_with (first
    | (go_at_call 21; refine RC.out.mono ?_; rintro e w1 ⟨q, c, rfl, hk, hb⟩
       have B1 := Lib.hid (B0.out.trans (hb.mono B0.out.size))
       have Z1 := Lib.hid (Z0.out.below hb Z0.out.lt)
       have K1 := Lib.hid hk
       clear hk hb RC B0 Z0))
  have b2 : Below w1.heap.size w1 (w1.alloc (.cells (cellsOf .u8 (mk 16 zeroK)) 25)) := (Below.refl _ w1).alloc (Nat.le_refl _) _
  go_loopw [11, 12] (fun v11 v12 wr => ∃ k : Nat, k ≤ 8 ∧ v11 = .int .u64 (uTo z k) ∧ v12 = .int .i64 k ∧ IntBlk wr w1.heap.size .u8 25 (mk 16 (numTo z k)) ∧ Below w1.heap.size w1 wr) (fun _ v12 _ => 8 - (intOf v12).toNat)
  case atStart => exact ⟨0, by omega, by unfold uTo; rfl, rfl, by rw [numTo_start]; exact IntBlk.new w1 .u8 _ (mk 16 zeroK), b2⟩
  case round =>
    clear b2
    obtain ⟨k, hk, rfl, rfl, ha, hb⟩ := hrel
    have HA := Lib.hid ha; have HB := Lib.hid hb
    by_cases h8 : k < 8
    · have c1 := ha.cell (i := k) (by rw [mk_len]; omega)
      have f1 := ha.free k
      have e1 : (k : Int) < 8 := by omega
      have e2 : (0 : Int) ≤ k := by omega
      obtain ⟨u0, u1⟩ := uTo_bd z k
      have HS := Lib.hid (numTo_step z h8 (uTo_byte z h8))
      have HN := Lib.hid (show uTo z k / 256 = uTo z (k + 1) by rw [uTo])
      clear ha hb
      generalize uTo z k = U at *
      go_wp2
      go_roundw
      case rel => exact ⟨k + 1, by omega, by rw [← HN.out], by go_num, by rw [← HS.out]; exact HA.out.set k _, HB.out.setCell (Nat.le_refl _) _⟩
      case measure => simp [intOf]; omega
    · obtain rfl : k = 8 := by omega
      rw [numTo_end] at HA
      have B2 := Lib.hid (B1.out.trans (hb.mono B1.out.size))
      have Z2 := Lib.hid (Z1.out.below hb Z1.out.lt)
      have E2 := Lib.hid (EC.out q c wr (K1.out.below hb))
      clear ha hb h8 HB B1 Z1 K1 EC
      go_wp2_with (first
        | (refine wpList_load_row rfl 25 _ rfl w1.heap.size rfl 25 (cellsOf .u8 (mk 16 (numK z))) (0, 0) _ HA.out keyUnder rfl (keySize _) ?_)
        | (go_at_call 33; refine E2.out.mono ?_; rintro e w3 ⟨rfl, hb3⟩
           rw [HTW.out]
           have B3 := Lib.hid (B2.out.trans (hb3.mono B2.out.size))
           have Z3 := Lib.hid (Z2.out.below hb3 Z2.out.lt)
           clear hb3 B2 Z2 E2 HA HTW)
        | (refine store_row_on rfl 25 _ _ rfl rfl w3.heap.size (cellsOf .u8 (mk 16 t)) rfl rfl 25 (cellsOf .u8 (mk 16 zeroK)) (IntBlk.new w3 .u8 _ (mk 16 zeroK)) (keySize _) (by rw [cellsOf_size, cellsOf_size, mk_len, mk_len]) (cellsOf_one _ _) ?_))
      have z4 := (IntBlk.new w3 .u8 25 (mk 16 zeroK)).setRow .u8 (mk 16 t)
      have r4 := (Z3.out.alloc (.cells (cellsOf .u8 (mk 16 zeroK)) 25)).otherRow (C := w3.heap.size) (by have := Z3.out.lt; omega) (cellsOf .u8 (mk 16 t))
      have b4 := below_setRow (g := w3.heap.size) (B3.out.alloc B3.out.size (.cells (cellsOf .u8 (mk 16 zeroK)) 25)) B3.out.size (cellsOf .u8 (mk 16 t))
      have hS3 := B3.out.size
      have hlt3 := Z3.out.lt
      clear B3 Z3
      generalize wr = wo at *
      go_loopw [14] (fun v14 wt => ∃ i : Nat, i ≤ j ∧ v14 = .int .i64 i ∧ IntBlk wt w3.heap.size .u8 25 (mk 16 (twk t i)) ∧ IntBlk wt w.heap.size .u8 25 (mk 16 zeroK) ∧ Below w.heap.size w wt) (fun v14 _ => j - (intOf v14).toNat)
      case atStart => exact ⟨0, by omega, rfl, by rw [twk_zero]; exact z4, r4, b4⟩
      case round =>
        clear z4 r4 b4
        obtain ⟨i, hi, rfl, hz, hr, hb⟩ := hrel
        have HZ := Lib.hid hz; have HR := Lib.hid hr; have HB := Lib.hid hb
        clear hz hr hb
        by_cases hij : i < j
        · have e1 : (i : Int) < j := by omega
          have DC := Lib.hid (refDouble_any (twk t i) (twk_key kt i) wr)
          have HN := Lib.hid (twk_step t i)
          go_wp2_with (first
            | (refine wpList_load_row rfl 25 _ rfl w3.heap.size rfl 25 (cellsOf .u8 (mk 16 (twk t i))) (0, 0) _ HZ.out keyUnder rfl (keySize _) ?_)
            | (go_at_call 18; refine DC.out.mono ?_; rintro e w5 ⟨rfl, hb5⟩
               rw [HN.out]
               have B5 := Lib.hid (HB.out.trans (hb5.mono HB.out.size))
               have Z5 := Lib.hid (HZ.out.below hb5 HZ.out.lt)
               have R5 := Lib.hid (HR.out.below hb5 HR.out.lt)
               clear hb5 HB HZ HR DC)
            | (refine store_row_on rfl 25 _ _ rfl rfl w3.heap.size (cellsOf .u8 (mk 16 (twk t (i + 1)))) rfl rfl 25 (cellsOf .u8 (mk 16 (twk t i))) Z5.out (keySize _) (by rw [cellsOf_size, cellsOf_size, mk_len, mk_len]) (cellsOf_one _ _) ?_))
          go_roundw
          case rel => exact ⟨i + 1, by omega, by go_num, Z5.out.setRow .u8 _, R5.out.otherRow (by omega) _, below_setRow B5.out hS3 _⟩
          case measure => simp [intOf]; omega
        · obtain rfl : i = j := by omega
          have e1 : decide ((i : Int) < (i : Int)) = false := by simp
          clear hij
          go_wp2_with (first
            | (refine wpList_load_row rfl 25 _ rfl w3.heap.size rfl 25 (cellsOf .u8 (mk 16 (twk t i))) (0, 0) _ HZ.out keyUnder rfl (keySize _) ?_)
            | (refine store_row_on rfl 25 _ _ rfl rfl w.heap.size (cellsOf .u8 (mk 16 (twk t i))) rfl rfl 25 (cellsOf .u8 (mk 16 zeroK)) HR.out (keySize _) (by rw [cellsOf_size, cellsOf_size, mk_len, mk_len]) (cellsOf_one _ _) ?_))
          exact bodyPost_ret (results_cell_row_tmp rfl _ _ w.heap.size 25 (cellsOf .u8 (mk 16 (twk t i))) (0, 0) _ rfl (HR.out.setRow .u8 (mk 16 (twk t i))) keyUnder rfl (keySize _)) rfl ⟨rfl, below_setRow HB.out (Nat.le_refl _) _⟩
end Go.Proofs.Ytklnnmlegagfoaa
