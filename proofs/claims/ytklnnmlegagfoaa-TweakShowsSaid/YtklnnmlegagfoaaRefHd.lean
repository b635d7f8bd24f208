/- The contract of the document's own Hide of layer 6: the text hidden, or an error's number. Conditions: the bytes are bytes; lengths are what a machine holds. -/
import Derived.Test.YtklnnmlegagfoaaRefTw
import Derived.Test.YtklnnmlegagfoaaTwProg
import Derived.Test.YtklnnmlegagfoaaTwRefs
namespace Go.Proofs.Ytklnnmlegagfoaa
open Go.ChangeShapes Go.WideShapes Go.ChangeAt Go.RowKit

/-- All whole blocks hidden. -/
def allF (R : Nat → Nat → Nat) (T : Nat) (t G : Nat → Nat) : Nat → Nat := fun p => wB false R T (twk t (p / 16)) (blk G (p / 16)) (p % 16)
theorem allF_blk (R : Nat → Nat → Nat) (T : Nat) (t G : Nat → Nat) (i : Nat) : ∀ j, j < 16 → wB false R T (twk t i) (blk G i) j = allF R T t G (16 * i + j) := fun j hj => by
  unfold allF; rw [show (16 * i + j) / 16 = i by omega, show (16 * i + j) % 16 = j by omega]
theorem allF_txt {R : Nat → Nat → Nat} {T : Nat} {t G : Nat → Nat} {N : Nat} (h0 : N % 16 = 0) : ∀ p, p < N → allF R T t G p = txtW false R T t N G p := fun p hp => by
  rw [txtW_whole h0]; unfold hidW; rw [if_pos (by omega)]; rfl
theorem BytesAt.congr {w : World} {p : Option Addr} {n : Nat} {f g : Nat → Nat} (h : BytesAt w p n f) (e : ∀ j, j < n → f j = g j) : BytesAt w p n g := by
  rcases h with h | ⟨B, o, hp, hB, hc⟩
  · exact .inl h
  · exact .inr ⟨B, o, hp, hB, fun j hj => by rw [← e j hj]; exact hc j hj⟩
attribute [local irreducible] encK rkS numK wB xorK twk dbl uTo twF allF txtW endC endD

set_option maxRecDepth 100000 in
set_option maxHeartbeats 1000000 in
theorem refHide_key (p : Option Addr) (n cap : Nat) (z : Int) (q : Option Addr) (tn tcap : Nat) (h32 : n ≠ 32) (h64 : n ≠ 64) (w : World) :
    Calls Try.prog 25 #[.slice p n cap, .int .i64 z, .slice q tn tcap] w fun e w' => e = .returned (.tuple #[.slice none 0 0, .int .i64 3]) ∧ w = w' := by
  have t1 : ((n : Int) != 32) = true := by simp; omega
  have t2 : ((n : Int) != 64) = true := by simp; omega
  go_enter Try.func25, Try.ntmps25
  go_wp2
  go_ret2
  exact ⟨rfl, rfl⟩
set_option maxRecDepth 100000 in
set_option maxHeartbeats 1000000 in
theorem refHide_form (p : Option Addr) (n cap : Nat) (z : Int) (q : Option Addr) (tn tcap : Nat) (hn : n = 32 ∨ n = 64) (ht : tn < 16 ∨ 65536 < tn) (w : World) :
    Calls Try.prog 25 #[.slice p n cap, .int .i64 z, .slice q tn tcap] w fun e w' => e = .returned (.tuple #[.slice none 0 0, .int .i64 2]) ∧ w = w' := by
  rcases (show (((n : Int) != 32) = false) ∨ (((n : Int) != 32) = true ∧ ((n : Int) != 64) = false) by simp; omega) with t1 | ⟨t1, t2⟩ <;>
  rcases (show decide ((tn : Int) < 16) = true ∨ (decide ((tn : Int) < 16) = false ∧ decide ((65536 : Int) < (tn : Int)) = true) by simp; omega) with d1 | ⟨d1, d2⟩
  all_goals
    clear hn ht
    go_enter Try.func25, Try.ntmps25
    go_wp2
    go_ret2
    exact ⟨rfl, rfl⟩

set_option maxRecDepth 100000 in
set_option maxHeartbeats 4000000 in
theorem refHide_ok (p : Option Addr) (n cap N : Nat) (g : Nat → Nat) (z : Int) (q : Option Addr) (tn tcap : Nat) (G : Nat → Nat) (hn : n = 8 * N) (hN : N = 4 ∨ N = 8) (hcap : n ≤ cap) (hg : ∀ i, i < n → g i < 256) (ht1 : 16 ≤ tn) (ht2 : tn ≤ 65536) (hG : ∀ i, i < tn → G i < 256) (w : World) (hp : BytesAt w p n g) (hq : BytesAt w q tn G) :
    Calls Try.prog 25 #[.slice p n cap, .int .i64 z, .slice q tn tcap] w fun e w' => ∃ q' c, e = .returned (.tuple #[.slice q' tn c, .int .i64 0]) ∧ BytesAt w' q' tn (txtW false (rkS N g) (N + 7) (twF N (fun j => g (n / 2 + j)) z) tn G) ∧ tn ≤ c ∧ c ≤ maxLen ∧ Below w.heap.size w w' := by
  obtain ⟨Bq, oq, rfl, hlq, hcq⟩ : ∃ B o, q = some ⟨B, o, none⟩ ∧ B < w.heap.size ∧ Cells w B o tn G := by
    rcases hq with h | h
    · omega
    · exact h
  have hh : n / 2 ≤ cap := by omega
  have hh2 : n / 2 ≤ n := by omega
  have h4 : n / 2 = 4 * N := by omega
  have h5 : n - n / 2 = 4 * N := by omega
  have hnb : n < 9223372036854775808 := by omega
  have RC := Lib.hid (refRounds_ok p (n / 2) cap N g h4 hN (fun i hi => hg i (by omega)) w (hp.upto hh2))
  have HP := Lib.hid hp
  have TC := Lib.hid (fun (p2 : Option Addr) (w1 : World) (j : Nat) (hj : j ≤ 65536) (h : BytesAt w1 p2 (n - n / 2) (fun j => g (n / 2 + j))) => refTweak_ok p2 (n - n / 2) (cap - n / 2) N (fun j => g (n / 2 + j)) z j h5 hN (fun i hi => hg _ (by omega)) (by omega) w1 h)
  have kt : IsKey (twF N (fun j => g (n / 2 + j)) z) := twF_key z (fun i hi => hg _ (by omega))
  have hr : ∀ i, i < N + 7 → IsKey (rkS N g i) := fun i _ => rkS_key (fun i hi => hg i (by omega)) i
  have hT : N + 7 < 4294967296 := by omega
  have HCQ := Lib.hid hcq
  rcases (show (((n : Int) != 32) = false) ∨ (((n : Int) != 32) = true ∧ ((n : Int) != 64) = false) by simp; omega) with t1 | ⟨t1, t2⟩
  all_goals
    have d1 : decide ((tn : Int) < 16) = false := by simp; omega
    have d2 : decide ((65536 : Int) < (tn : Int)) = false := by simp; omega
    clear hn hN h4 h5 hp hq hg hcq
    generalize twF N (fun j => g (n / 2 + j)) z = t at *
    generalize rkS N g = R at *
    generalize N + 7 = T at *
    go_enter Try.func25, Try.ntmps25
    go_wp2_with (first
      | (refine wpList_upto rfl _ _ rfl p n cap (n / 2) _ rfl rfl rfl hh ?_)
      | (refine wpList_tail rfl _ _ rfl p n cap (n / 2) _ rfl rfl rfl hh2 hcap ?_; intro p2 hp2)
      | (go_at_call 21; refine RC.out.mono ?_; rintro e w1 ⟨qk, ck, rfl, hk, hb⟩
         have B1 := Lib.hid hb
         have K1 := Lib.hid hk
         have C1 := Lib.hid (HCQ.out.below hb hlq)
         have P1 := Lib.hid (HP.out.below hb)
         clear hk hb RC HP HCQ))
    go_loopw [13, 14] (fun v13 v14 wr => ∃ i : Nat, i ≤ tn / 16 ∧ v14 = .int .i64 i ∧ OwnS 5 1 wr w1.heap.size wr.heap.size v13 (16 * i) (allF R T t G) ∧ Below w1.heap.size w1 wr) (fun _ v14 _ => tn / 16 - (intOf v14).toNat)
    case atStart => exact ⟨0, by omega, rfl, OwnS.nil _ _ _ _ _ _, Below.refl _ _⟩
    case round =>
      obtain ⟨i, hi, rfl, ho, hb⟩ := hrel
      have HO := Lib.hid ho; have HB := Lib.hid hb
      clear ho hb
      by_cases him : i < tn / 16
      · have e1 : (i : Int) < (tn : Int) / 16 := by omega
        have TCi := Lib.hid (TC.out p2 wr i (by omega) (hp2 _ _ (P1.out.below HB.out)))
        have hbs := HB.out.size
        generalize wr = wo at *
        go_wp2_with (first
          | (go_at_call 13; refine TCi.out.mono ?_; rintro e w2 ⟨rfl, hb2⟩
             have B2 := Lib.hid (HB.out.trans (hb2.mono HB.out.size))
             have O2 := Lib.hid ((HO.out.same (fun B _ hB => hb2.block B hB)).raise hb2.size)
             have S2 := Lib.hid (Nat.le_trans HB.out.size hb2.size)
             clear hb2 HB HO TCi)
          | (refine store_row_on rfl 25 _ _ rfl rfl w2.heap.size (cellsOf .u8 (mk 16 (twk t i))) rfl rfl 25 (cellsOf .u8 (mk 16 zeroK)) (IntBlk.new w2 .u8 _ (mk 16 zeroK)) (keySize _) (by rw [cellsOf_size, cellsOf_size, mk_len, mk_len]) (cellsOf_one _ _) ?_
             have t3 := (IntBlk.new w2 .u8 25 (mk 16 zeroK)).setRow .u8 (mk 16 (twk t i))
             have e3 : Below w2.heap.size w2 ((w2.alloc (.cells (cellsOf .u8 (mk 16 zeroK)) 25)).setRow w2.heap.size (cellsOf .u8 (mk 16 (twk t i)))) := below_setRow ((Below.refl _ w2).alloc (Nat.le_refl _) _) (Nat.le_refl _) _
             have s3 : ((w2.alloc (.cells (cellsOf .u8 (mk 16 zeroK)) 25)).setRow w2.heap.size (cellsOf .u8 (mk 16 (twk t i)))).heap.size = w2.heap.size + 1 := by simp
             change wpList _ _ _ _ _ ((w2.alloc (.cells (cellsOf .u8 (mk 16 zeroK)) 25)).setRow w2.heap.size (cellsOf .u8 (mk 16 (twk t i))))
             generalize (w2.alloc (.cells (cellsOf .u8 (mk 16 zeroK)) 25)).setRow w2.heap.size (cellsOf .u8 (mk 16 (twk t i))) = w3 at *
             have T3 := Lib.hid t3; have E3 := Lib.hid e3
             clear t3 e3))
        have z4 := IntBlk.new w3 .u8 25 (mk 16 zeroK)
        have e4 : Below w3.heap.size w3 (w3.alloc (.cells (cellsOf .u8 (mk 16 zeroK)) 25)) := (Below.refl _ w3).alloc (Nat.le_refl _) _
        rw [s3] at z4 e4
        go_loopw [18] (fun v18 wr => ∃ k : Nat, k ≤ 16 ∧ v18 = .int .i64 k ∧ IntBlk wr (w2.heap.size + 1) .u8 25 (mk 16 (upTo (blk G i) zeroK k)) ∧ Below (w2.heap.size + 1) w3 wr) (fun v18 _ => 16 - (intOf v18).toNat)
        case atStart => exact ⟨0, by omega, rfl, by rw [upTo_start]; exact z4, e4⟩
        case round =>
          clear z4 e4
          obtain ⟨k, hk, rfl, hz, hb⟩ := hrel
          have HZ := Lib.hid hz; have HB := Lib.hid hb
          by_cases hk16 : k < 16
          · have c1 := hz.cell (i := k) (by rw [mk_len]; omega)
            have f1 := hz.free k
            have cx : wr.cell? ⟨Bq, oq + (16 * i + k), none⟩ = some (.int .u8 (G (16 * i + k))) := by
              have hw := C1.out (16 * i + k) (by omega)
              have hb1 := B1.out.size
              have hs2 := S2.out
              exact (HB.out.cell (p := ⟨Bq, oq + (16 * i + k), none⟩) (by show Bq < _; omega)).trans ((E3.out.cell (p := ⟨Bq, oq + (16 * i + k), none⟩) (by show Bq < _; omega)).trans ((B2.out.cell (p := ⟨Bq, oq + (16 * i + k), none⟩) (by show Bq < _; omega)).trans hw))
            clear hz hb
            go_wp2
            go_roundw
            case rel => exact ⟨k + 1, by omega, by go_num, by rw [← upTo_step]; exact HZ.out.set k _, HB.out.setCell (Nat.le_refl _) _⟩
            case measure => simp [intOf]; omega
          · obtain rfl : k = 16 := by omega
            rw [upTo_end] at HZ
            have kb : IsKey (blk G i) := fun j hj => hG _ (by omega)
            have D4 := Lib.hid (E3.out.trans (HB.out.mono (by omega)))
            have hs2 := S2.out
            have L4 := Lib.hid (B2.out.trans (D4.out.mono S2.out))
            have T4 := Lib.hid (T3.out.below HB.out (by omega))
            have BC := Lib.hid (refBlock_any qk T ck R (twk t i) (blk G i) hr (twk_key kt i) kb hT wr (K1.out.below L4.out))
            clear hz hb hk16 T3 HB E3 kb hs2
            go_wp2_with (first
              | (refine wpList_load_row rfl 25 _ rfl w2.heap.size rfl 25 (cellsOf .u8 (mk 16 (twk t i))) (0, 0) _ T4.out keyUnder rfl (keySize _) ?_)
              | (refine wpList_load_row rfl 25 _ rfl (w2.heap.size + 1) rfl 25 (cellsOf .u8 (mk 16 (blk G i))) (0, 0) _ HZ.out keyUnder rfl (keySize _) ?_)
              | (go_at_call 22; refine BC.out.mono ?_; rintro e w5 ⟨rfl, hb5⟩
                 have D5 := Lib.hid (D4.out.trans (hb5.mono D4.out.size))
                 clear hb5 BC D4 T4 HZ L4)
              | (refine store_row_on rfl 25 _ _ rfl rfl w5.heap.size (cellsOf .u8 (mk 16 (wB false R T (twk t i) (blk G i)))) rfl rfl 25 (cellsOf .u8 (mk 16 zeroK)) (IntBlk.new w5 .u8 _ (mk 16 zeroK)) (keySize _) (by rw [cellsOf_size, cellsOf_size, mk_len, mk_len]) (cellsOf_one _ _) ?_
                 have c6 := (IntBlk.new w5 .u8 25 (mk 16 zeroK)).setRow .u8 (mk 16 (wB false R T (twk t i) (blk G i)))
                 have e6 := below_setRow (g := w5.heap.size) (D5.out.alloc D5.out.size (.cells (cellsOf .u8 (mk 16 zeroK)) 25)) D5.out.size (cellsOf .u8 (mk 16 (wB false R T (twk t i) (blk G i))))
                 change wpList _ _ _ _ _ ((w5.alloc (.cells (cellsOf .u8 (mk 16 zeroK)) 25)).setRow w5.heap.size (cellsOf .u8 (mk 16 (wB false R T (twk t i) (blk G i)))))
                 generalize (w5.alloc (.cells (cellsOf .u8 (mk 16 zeroK)) 25)).setRow w5.heap.size (cellsOf .u8 (mk 16 (wB false R T (twk t i) (blk G i)))) = w6 at *
                 have C6 := Lib.hid (show BytesAt w6 (some ⟨w5.heap.size, 0, none⟩) 16 (wB false R T (twk t i) (blk G i)) from .inr ⟨w5.heap.size, 0, rfl, c6.lt, fun j hj => by have := c6.cells (o := 0) (n := 16) (by omega) j hj; simp only [Nat.zero_add] at this ⊢; exact this⟩)
                 have O6 := Lib.hid ((O2.out.same (fun B _ hB => e6.block B hB)).raise e6.size)
                 have B6 := Lib.hid (B2.out.trans (e6.mono S2.out))
                 have HF := Lib.hid (allF_blk R T t G i)
                 clear c6 e6 D5 O2 B2)
              | (refine wpList_append_own_bytes rfl _ _ rfl w1.heap.size w6.heap.size (16 * i) _ (allF R T t G) (wB false R T (twk t i) (blk G i)) (some ⟨w5.heap.size, 0, none⟩) 16 16 rfl rfl O6.out C6.out HF.out (by omega) B6.out.size ?_; intro v7 w7 o7 b7
                 have O7 := Lib.hid o7
                 have B7 := Lib.hid (B6.out.trans b7)
                 clear o7 b7 O6 C6 HF B6))
            go_roundw
            case rel => exact ⟨i + 1, by omega, by go_num, by rw [show 16 * (i + 1) = 16 * i + 16 by omega]; exact O7.out, B7.out⟩
            case measure => simp [intOf]; omega
      · obtain rfl : i = tn / 16 := by omega
        have e1 : decide (((tn / 16 : Nat) : Int) < (tn : Int) / 16) = false := by simp
        clear him
        by_cases h0 : tn % 16 = 0
        · have e2 : ((tn : Int) % 16 == 0) = true := by simp; omega
          obtain ⟨qo, co, hv, hkc, hcm, hby, _⟩ := HO.out.bytes (Nat.le_refl _)
          rw [show 16 * (tn / 16) = tn by omega] at hv hkc hby
          subst hv
          have hX := Lib.hid (hby.congr (fun p hp => allF_txt h0 p hp))
          have hBw := Lib.hid (B1.out.trans (HB.out.mono B1.out.size))
          clear hby HO HB
          go_wp2
          go_ret2
          exact ⟨qo, co, rfl, hX.out, hkc, hcm, hBw.out⟩
        · have e2 : ((tn : Int) % 16 == 0) = false := by simp; omega
          obtain ⟨qo, co, hv, hkc, hcm, hby, hbo⟩ := HO.out.bytes (Nat.le_refl _)
          subst hv
          obtain ⟨Bo, oo, rfl, hlo, hco⟩ : ∃ B o, qo = some ⟨B, o, none⟩ ∧ B < wr.heap.size ∧ Cells wr B o (16 * (tn / 16)) (allF R T t G) := by
            rcases hby with h | h
            · omega
            · exact h
          have hboo := (hbo Bo oo rfl).1
          have CO := Lib.hid hco
          have z4 := IntBlk.new wr .u8 25 (mk 16 zeroK)
          have e4 : Below wr.heap.size wr (wr.alloc (.cells (cellsOf .u8 (mk 16 zeroK)) 25)) := (Below.refl _ wr).alloc (Nat.le_refl _) _
          have Z4 := Lib.hid z4; have E4 := Lib.hid e4
          clear hby hbo hco HO z4 e4
          go_wp2
          generalize wr = wo at *
          go_loopw [21] (fun v21 wr => ∃ k : Nat, k ≤ 16 ∧ v21 = .int .i64 k ∧ IntBlk wr wo.heap.size .u8 25 (mk 16 (upTo (fun j => allF R T t G (16 * (tn / 16 - 1) + j)) zeroK k)) ∧ Below wo.heap.size wo wr) (fun v21 _ => 16 - (intOf v21).toNat)
          case atStart => exact ⟨0, by omega, rfl, by rw [upTo_start]; exact Z4.out, E4.out⟩
          case round =>
            clear Z4 E4
            obtain ⟨k, hk, rfl, hz, hb⟩ := hrel
            have HZ := Lib.hid hz; have HC := Lib.hid hb
            by_cases hk16 : k < 16
            · have c1 := hz.cell (i := k) (by rw [mk_len]; omega)
              have f1 := hz.free k
              have cx : wr.cell? ⟨Bo, oo + (16 * (tn / 16 - 1) + k), none⟩ = some (.int .u8 (allF R T t G (16 * (tn / 16 - 1) + k))) := (HC.out.cell (p := ⟨Bo, oo + (16 * (tn / 16 - 1) + k), none⟩) hlo).trans (CO.out (16 * (tn / 16 - 1) + k) (by omega))
              clear hz hb
              go_wp2
              go_roundw
              case rel => exact ⟨k + 1, by omega, by go_num, by rw [← upTo_step]; exact HZ.out.set k _, HC.out.setCell (Nat.le_refl _) _⟩
              case measure => simp [intOf]; omega
            · obtain rfl : k = 16 := by omega
              rw [upTo_end] at HZ
              have s5 := HC.out.size
              have hlz := hz.lt
              have kc : IsKey (fun j => allF R T t G (16 * (tn / 16 - 1) + j)) := fun j hj => by
                show allF R T t G (16 * (tn / 16 - 1) + j) < 256
                rw [← allF_blk R T t G (tn / 16 - 1) j hj]
                exact wB_key hr (twk_key kt _) (fun j hj => hG _ (by omega)) j hj
              have X1 := Lib.hid (show ∀ p, p < 16 * (tn / 16 - 1) → allF R T t G p = txtW false R T t tn G p from fun p hp => by
                rw [show p = 16 * (p / 16) + p % 16 by omega, ← allF_blk R T t G (p / 16) (p % 16) (by omega)]
                exact (txtW_in (.inr (by omega)) (by omega)).symm)
              have X2 := Lib.hid (show ∀ j, j < 16 → wB false R T (twk t (tn / 16)) (upTo (blk G (tn / 16)) (fun j => allF R T t G (16 * (tn / 16 - 1) + j)) (tn % 16)) j = txtW false R T t tn G (16 * (tn / 16 - 1) + j) from fun j hj => by
                rw [txtW_mid h0 (by omega) hj]
                unfold endD
                refine eq_wB false R T _ (fun j hj => ?_) j hj
                unfold upTo mixB
                by_cases hjr : j < tn % 16
                · rw [if_pos hjr, if_pos hjr]
                · rw [if_neg hjr, if_neg hjr]; unfold endC; exact (allF_blk R T t G (tn / 16 - 1) j hj).symm)
              have X3 := Lib.hid (show ∀ j, j < tn % 16 → (fun j => allF R T t G (16 * (tn / 16 - 1) + j)) j = txtW false R T t tn G (16 * (tn / 16) + j) from fun j hj => by
                show allF R T t G (16 * (tn / 16 - 1) + j) = _
                rw [txtW_end h0]; unfold endC; exact (allF_blk R T t G (tn / 16 - 1) j (by omega)).symm)
              generalize (fun j => allF R T t G (16 * (tn / 16 - 1) + j)) = C at *
              clear hz hb hk16 hk
              go_wp2_with (first
                | (refine wpList_load_row rfl 25 _ rfl wo.heap.size rfl 25 (cellsOf .u8 (mk 16 C)) (0, 0) _ HZ.out keyUnder rfl (keySize _) ?_)
                | (refine store_row_on rfl 25 _ _ rfl rfl wr.heap.size (cellsOf .u8 (mk 16 C)) rfl rfl 25 (cellsOf .u8 (mk 16 zeroK)) (IntBlk.new wr .u8 _ (mk 16 zeroK)) (keySize _) (by rw [cellsOf_size, cellsOf_size, mk_len, mk_len]) (cellsOf_one _ _) ?_
                   have k6 := (IntBlk.new wr .u8 25 (mk 16 zeroK)).setRow .u8 (mk 16 C)
                   have e6 := below_setRow (g := wr.heap.size) (HC.out.alloc HC.out.size (.cells (cellsOf .u8 (mk 16 zeroK)) 25)) HC.out.size (cellsOf .u8 (mk 16 C))
                   have z6 := (HZ.out.alloc (.cells (cellsOf .u8 (mk 16 zeroK)) 25)).otherRow (C := wr.heap.size) (by omega) (cellsOf .u8 (mk 16 C))
                   change wpList _ _ _ _ _ ((wr.alloc (.cells (cellsOf .u8 (mk 16 zeroK)) 25)).setRow wr.heap.size (cellsOf .u8 (mk 16 C)))
                   generalize (wr.alloc (.cells (cellsOf .u8 (mk 16 zeroK)) 25)).setRow wr.heap.size (cellsOf .u8 (mk 16 C)) = w6 at *
                   have K6 := Lib.hid k6; have E6 := Lib.hid e6; have Z6 := Lib.hid z6
                   clear k6 e6 z6 HZ HC))
              generalize wr.heap.size = KB at *
              clear wr
              go_loopw [23] (fun v23 wr => ∃ i : Nat, i ≤ tn % 16 ∧ v23 = .int .i64 i ∧ IntBlk wr KB .u8 25 (mk 16 (upTo (blk G (tn / 16)) C i)) ∧ IntBlk wr wo.heap.size .u8 25 (mk 16 C) ∧ Below wo.heap.size wo wr) (fun v23 _ => tn % 16 - (intOf v23).toNat)
              case atStart => exact ⟨0, by omega, rfl, by rw [upTo_start]; exact K6.out, Z6.out, E6.out⟩
              case round =>
                clear K6 Z6 E6
                obtain ⟨i, hi, rfl, hk, hz, hb⟩ := hrel
                have HK := Lib.hid hk; have HZ := Lib.hid hz; have HC := Lib.hid hb
                by_cases hir : i < tn % 16
                · have c1 := hk.cell (i := i) (by rw [mk_len]; omega)
                  have f1 := hk.free i
                  have q1 : (i : Int) < (tn : Int) % 16 := by omega
                  have cx : wr.cell? ⟨Bq, oq + (16 * (tn / 16) + i), none⟩ = some (.int .u8 (G (16 * (tn / 16) + i))) := by
                    have hw := C1.out (16 * (tn / 16) + i) (by omega)
                    have hb1 := B1.out.size
                    have hs2 := HB.out.size
                    exact (HC.out.cell (p := ⟨Bq, oq + (16 * (tn / 16) + i), none⟩) (by show Bq < _; omega)).trans ((HB.out.cell (p := ⟨Bq, oq + (16 * (tn / 16) + i), none⟩) (by show Bq < _; omega)).trans hw)
                  clear hk hz hb
                  go_wp2
                  go_roundw
                  case rel => exact ⟨i + 1, by omega, by go_num, by rw [← upTo_step]; exact HK.out.set i _, HZ.out.other (by show KB ≠ _; omega) _, HC.out.setCell (by show _ ≤ KB; omega) _⟩
                  case measure => simp [intOf]; omega
                · have hie : i = tn % 16 := by omega
                  subst hie
                  have q1 : decide (((tn % 16 : Nat) : Int) < (tn : Int) % 16) = false := by simp
                  have hb1 := B1.out.size
                  have hs2 := HB.out.size
                  have LW := Lib.hid (HB.out.trans (HC.out.mono HB.out.size))
                  have TCm := Lib.hid (TC.out p2 wr (tn / 16) (by omega) (hp2 _ _ (P1.out.below LW.out)))
                  have hlk := hk.lt
                  have kmx : IsKey (upTo (blk G (tn / 16)) C (tn % 16)) := fun j hj => by
                    unfold upTo; split
                    · exact hG _ (by omega)
                    · exact kc j hj
                  clear hk hz hb hir hi
                  go_wp2_with (first
                    | (go_at_call 13; refine TCm.out.mono ?_; rintro e w7 ⟨rfl, hb7⟩
                       have K7 := Lib.hid (HK.out.below hb7 HK.out.lt)
                       have Z7 := Lib.hid (HZ.out.below hb7 HZ.out.lt)
                       have C7 := Lib.hid (HC.out.trans (hb7.mono HC.out.size))
                       have s7 := hb7.size
                       clear hb7 HK HZ HC TCm LW)
                    | (refine store_row_on rfl 25 _ _ rfl rfl w7.heap.size (cellsOf .u8 (mk 16 (twk t (tn / 16)))) rfl rfl 25 (cellsOf .u8 (mk 16 zeroK)) (IntBlk.new w7 .u8 _ (mk 16 zeroK)) (keySize _) (by rw [cellsOf_size, cellsOf_size, mk_len, mk_len]) (cellsOf_one _ _) ?_
                       have t8 := (IntBlk.new w7 .u8 25 (mk 16 zeroK)).setRow .u8 (mk 16 (twk t (tn / 16)))
                       have e8 : Below w7.heap.size w7 ((w7.alloc (.cells (cellsOf .u8 (mk 16 zeroK)) 25)).setRow w7.heap.size (cellsOf .u8 (mk 16 (twk t (tn / 16))))) := below_setRow ((Below.refl _ w7).alloc (Nat.le_refl _) _) (Nat.le_refl _) _
                       change wpList _ _ _ _ _ ((w7.alloc (.cells (cellsOf .u8 (mk 16 zeroK)) 25)).setRow w7.heap.size (cellsOf .u8 (mk 16 (twk t (tn / 16)))))
                       generalize (w7.alloc (.cells (cellsOf .u8 (mk 16 zeroK)) 25)).setRow w7.heap.size (cellsOf .u8 (mk 16 (twk t (tn / 16)))) = w8 at *
                       have T8 := Lib.hid t8
                       have K8 := Lib.hid (K7.out.below e8 K7.out.lt)
                       have Z8 := Lib.hid (Z7.out.below e8 Z7.out.lt)
                       have C8 := Lib.hid (C7.out.trans (e8.mono C7.out.size))
                       have BC := Lib.hid (refBlock_any qk T ck R (twk t (tn / 16)) (upTo (blk G (tn / 16)) C (tn % 16)) hr (twk_key kt _) kmx hT w8 (K1.out.below (HB.out.trans (C8.out.mono HB.out.size))))
                       clear t8 e8 K7 Z7 C7)
                    | (refine wpList_load_row rfl 25 _ rfl w7.heap.size rfl 25 (cellsOf .u8 (mk 16 (twk t (tn / 16)))) (0, 0) _ T8.out keyUnder rfl (keySize _) ?_)
                    | (refine wpList_load_row rfl 25 _ rfl KB rfl 25 (cellsOf .u8 (mk 16 (upTo (blk G (tn / 16)) C (tn % 16)))) (0, 0) _ K8.out keyUnder rfl (keySize _) ?_)
                    | (go_at_call 22; refine BC.out.mono ?_; rintro e w9 ⟨rfl, hb9⟩
                       have K9 := Lib.hid (K8.out.below hb9 K8.out.lt)
                       have Z9 := Lib.hid (Z8.out.below hb9 Z8.out.lt)
                       have C9 := Lib.hid (C8.out.trans (hb9.mono C8.out.size))
                       clear hb9 K8 Z8 C8 T8 BC)
                    | (refine store_row_on rfl 25 _ _ rfl rfl KB (cellsOf .u8 (mk 16 (wB false R T (twk t (tn / 16)) (upTo (blk G (tn / 16)) C (tn % 16))))) rfl rfl 25 (cellsOf .u8 (mk 16 (upTo (blk G (tn / 16)) C (tn % 16)))) K9.out (keySize _) (by rw [cellsOf_size, cellsOf_size, mk_len, mk_len]) (cellsOf_one _ _) ?_
                       have k10 := K9.out.setRow .u8 (mk 16 (wB false R T (twk t (tn / 16)) (upTo (blk G (tn / 16)) C (tn % 16))))
                       have z10 := Z9.out.otherRow (C := KB) (by omega) (cellsOf .u8 (mk 16 (wB false R T (twk t (tn / 16)) (upTo (blk G (tn / 16)) C (tn % 16)))))
                       have c10 := below_setRow (g := KB) C9.out (by omega) (cellsOf .u8 (mk 16 (wB false R T (twk t (tn / 16)) (upTo (blk G (tn / 16)) C (tn % 16)))))
                       generalize w9.setRow KB (cellsOf .u8 (mk 16 (wB false R T (twk t (tn / 16)) (upTo (blk G (tn / 16)) C (tn % 16))))) = w10 at *
                       have K10 := Lib.hid (show BytesAt w10 (some ⟨KB, 0, none⟩) 16 (wB false R T (twk t (tn / 16)) (upTo (blk G (tn / 16)) C (tn % 16))) from .inr ⟨KB, 0, rfl, k10.lt, fun j hj => by have := k10.cells (o := 0) (n := 16) (by omega) j hj; simp only [Nat.zero_add] at this ⊢; exact this⟩)
                       have Z10 := Lib.hid (show BytesAt w10 (some ⟨wo.heap.size, 0, none⟩) 16 C from .inr ⟨wo.heap.size, 0, rfl, z10.lt, fun j hj => by have := z10.cells (o := 0) (n := 16) (by omega) j hj; simp only [Nat.zero_add] at this ⊢; exact this⟩)
                       have C10 := Lib.hid c10
                       have O10 := Lib.hid (show BytesAt w10 (some ⟨Bo, oo, none⟩) (16 * (tn / 16 - 1)) (allF R T t G) from .inr ⟨Bo, oo, rfl, Nat.lt_of_lt_of_le hlo c10.size, fun j hj => (c10.cell (p := ⟨Bo, oo + j, none⟩) hlo).trans (CO.out j (by omega))⟩)
                       clear k10 z10 c10 K9 Z9 C9 CO))
                  have q3 : IntKind.i64.wrap ((tn : Int) / 16 - 1) = ((tn / 16 - 1 : Nat) : Int) := by rw [IntWalk.i64_in _ (by omega)]; omega
                  have q4 : IntKind.i64.wrap (16 * ((tn / 16 - 1 : Nat) : Int)) = ((16 * (tn / 16 - 1) : Nat) : Int) := by rw [IntWalk.i64_in _ (by omega)]; omega
                  have c0 : Below w10.heap.size w10 w10.drew := (Below.refl _ w10).drew
                  have hkm : 16 * (tn / 16 - 1) ≤ co := by omega
                  refine wp_region_sched [(1, true), (2, true), (3, true), (4, true), (5, true), (7, true), (0, false), (6, false), (8, false), (9, true)] (fun W => Below w10.heap.size w10 W) (by kernel_rfl) (by kernel_rfl) c0 ?_
                  iterate 6 (
                    refine walk_float rfl rfl (fun K hK => ?_)
                    first
                      | (refine gives_move _ rfl ?_)
                      | (refine gives_int_sub _ _ rfl ((tn : Int) / 16) 1 _ rfl rfl q3 ?_)
                      | (refine gives_int_mul _ _ rfl 16 ((tn / 16 - 1 : Nat) : Int) _ rfl rfl q4 ?_)
                      | (refine gives_upto _ _ rfl (some ⟨Bo, oo, none⟩) (16 * (tn / 16)) co (16 * (tn / 16 - 1)) _ rfl rfl rfl hkm ?_)
                      | (refine gives_key_row _ rfl KB rfl ?_)
                    go_simp
                    refine hK _ ?_
                    clear hK K)
                  refine walk_done rfl rfl (fun K' hK => ?_)
                  refine done_build0 rfl ?_
                  have O11 := OwnS.empty w10.drew (txtW false R T t tn G) w10.heap.size (Nat.le_refl _)
                  have a11 : Below w10.heap.size w10 (w10.drew.alloc (.cells (cellsOf .u8 []) 5)) := c0.alloc (Nat.le_refl _) _
                  refine ⟨a11, ?_⟩
                  generalize w10.drew.alloc (.cells (cellsOf .u8 []) 5) = w11 at *
                  go_simp
                  refine hK _ _ ?_
                  clear hK K'
                  obtain ⟨v12, w12, hr12, o12, b12⟩ := append_own_run (F := txtW false R T t tn G) (f := allF R T t G) w11 22 O11 (some ⟨Bo, oo, none⟩) (16 * (tn / 16 - 1)) co (O10.out.below a11) (fun j hj => by rw [Nat.zero_add]; exact X1.out j hj) (by omega) a11.size
                  have a12 := a11.trans b12
                  refine walk_done rfl rfl (fun K' hK => ?_)
                  refine done_append _ _ 22 22 rfl _ _ rfl rfl v12 w12 hr12 ?_
                  refine ⟨a12, ?_⟩
                  go_simp
                  refine hK _ _ ?_
                  clear hK K' hr12
                  obtain ⟨v13, w13, hr13, o13, b13⟩ := append_own_run (F := txtW false R T t tn G) (f := wB false R T (twk t (tn / 16)) (upTo (blk G (tn / 16)) C (tn % 16))) w12 22 o12 (some ⟨KB, 0, none⟩) 16 16 (K10.out.below a12) (fun j hj => by rw [Nat.zero_add]; exact X2.out j hj) (by omega) a12.size
                  have a13 := a12.trans b13
                  refine walk_done rfl rfl (fun K' hK => ?_)
                  refine done_append _ _ 22 22 rfl _ _ rfl rfl v13 w13 hr13 ?_
                  refine ⟨a13, ?_⟩
                  go_simp
                  refine hK _ _ ?_
                  clear hK K' hr13
                  refine walk_float rfl rfl (fun K hK => ?_)
                  refine gives_assign _ rfl ?_
                  go_simp
                  refine hK _ ?_
                  clear hK K
                  refine walk_nil ?_
                  rw [show 0 + 16 * (tn / 16 - 1) + 16 = 16 * (tn / 16) by omega] at o13
                  have O13 := Lib.hid o13
                  have Z13 := Lib.hid (Z10.out.below a13)
                  have B13 := Lib.hid (C10.out.trans (a13.mono C10.out.size))
                  have s13 := a13.size
                  have C0s := Lib.hid C10.out.size
                  clear o12 o13 b12 b13 a11 a12 a13 O11 O10 K10 Z10 C10 X1 X2 q3 q4
                  have hr16 : tn % 16 ≤ 16 := by omega
                  go_wp2_with (first
                    | (refine wpList_key_upto rfl _ _ rfl wo.heap.size (tn % 16) _ rfl rfl rfl hr16 ?_)
                    | (refine wpList_append_own_bytes rfl _ _ rfl w10.heap.size w13.heap.size (16 * (tn / 16)) _ (txtW false R T t tn G) C (some ⟨wo.heap.size, 0, none⟩) (tn % 16) 16 rfl rfl O13.out (Z13.out.upto (by omega)) X3.out (by omega) s13 ?_; intro v14 w14 o14 b14))
                  rw [show 16 * (tn / 16) + tn % 16 = tn by omega] at o14
                  obtain ⟨q', c', rfl, hkc', hcm', hby', _⟩ := o14.bytes (Nat.le_refl _)
                  have hBw := B1.out.trans ((HB.out.trans ((B13.out.trans (b14.mono (by have := C0s.out; omega))).mono HB.out.size)).mono B1.out.size)
                  go_ret2
                  exact ⟨q', c', rfl, hby', hkc', hcm', hBw⟩
end Go.Proofs.Ytklnnmlegagfoaa
