/- The contract of package citadelref03's Encrypt: it answers the key that the plain functions say, with any round keys, and writes nothing that was there. Conditions: all bytes are bytes; there are fewer than 2^32 round keys. -/
import Derived.Test.YtilfjmpoiiepkaaEncC
import Derived.Test.YtilfjmpoiiepkaaGives
import Derived.Test.YtilfjmpoiiepkaaRefShift
import Derived.Test.YtilfjmpoiiepkaaRefMix
import Derived.Test.YtilfjmpoiiepkaaTable
import Derived.Test.YtilfjmpoiiepkaaXorC
namespace Go.Proofs.Ytilfjmpoiiepkaa
open Go.ChangeShapes Go.WideShapes Go.ChangeAt Go.RowKit

/-- The first q bytes are another key's. -/
def upTo (F G : Nat → Nat) (q : Nat) : Nat → Nat := fun p => if p < q then F p else G p
theorem upTo_start (n : Nat) (F G : Nat → Nat) : mk n (upTo F G 0) = mk n G := mk_ext fun j _ => by unfold upTo; rw [if_neg (by omega)]
theorem upTo_end (n : Nat) (F G : Nat → Nat) : mk n (upTo F G n) = mk n F := mk_ext fun j hj => by unfold upTo; rw [if_pos hj]
theorem upTo_at (F G : Nat → Nat) (q : Nat) : upTo F G q q = G q := by unfold upTo; rw [if_neg (by omega)]
theorem upTo_step (n : Nat) (F G : Nat → Nat) (q : Nat) : (mk n (upTo F G q)).set q (F q : Nat) = mk n (upTo F G (q + 1)) := by
  refine mk_set_is rfl fun j _ => ?_
  unfold upTo
  by_cases e : j = q
  · subst e; rw [if_pos rfl, if_pos (by omega)]
  · rw [if_neg e]
    by_cases l : j < q
    · rw [if_pos l, if_pos (by omega)]
    · rw [if_neg l, if_neg (by omega)]
theorem col_place (m : (Nat → Nat) → Nat → Nat) (s : Nat → Nat) {c j : Nat} (hj : j < 4) : colK m s (4 * c + j) = m (colAt s c) j := by
  unfold colK; rw [show (4 * c + j) / 4 = c by omega, show (4 * c + j) % 4 = j by omega]
theorem subK_at (s : Nat → Nat) (b : Nat) : subK s b = subN (s b) := rfl
theorem call_refmix3 (args : Array Value) (w : World) : (callFunc 15 args).run Try.prog w = .ok (.enter 15 args) w := by simp [go_sem]
attribute [local irreducible] inE inD encTo decTo xorK shK unK subK bakK colK mixK unmK subN upTo

set_option maxRecDepth 100000 in
set_option maxHeartbeats 8000000 in
theorem refEncrypt_any (p : Option Addr) (n cap : Nat) (R : Nat → Nat → Nat) (f : Nat → Nat) (hR : ∀ i, i < n → IsKey (R i)) (hf : IsKey f) (hn : n < 4294967296) (w : World) (hp : KeysAt w p n R) :
    Calls Try.prog 23 #[.slice p n cap, .agg (cellsOf .u8 (mk 16 f))] w fun e w' => e = .returned (.agg (cellsOf .u8 (mk 16 (encK R n f)))) ∧ Below w.heap.size w w' := by
  have q1 : IntKind.i64.wrap ((n : Int) - 1) = (n : Int) - 1 := IntWalk.i64_in _ (by omega)
  have hz0 := tabZero_run
  rw [encK_is]
  go_enter Try.func23, Try.ntmps23
  go_wp2_with fail
  refine (Table_any _).mono ?_
  rintro e w1 ⟨rfl, hb⟩
  have ha := ((IntBlk.new w .u8 23 (mk 16 f)).alloc (.cells (cellsOf .u8 (mk 16 zeroK)) 23)).below hb (by simp; omega)
  have hz := (blk_two w .u8 23 (mk 16 zeroK) (.cells (cellsOf .u8 (mk 16 f)) 23)).below hb (by simp)
  have hw := (below_two w (.cells (cellsOf .u8 (mk 16 f)) 23) (.cells (cellsOf .u8 (mk 16 zeroK)) 23)).trans (hb.mono (by simp; omega))
  have hT : w.heap.size + 1 < w1.heap.size := hz.lt
  clear hb
  have A := Lib.hid ((ha.alloc (.cells (cellsOf .u8 (mk 256 zeroK)) 62)).otherRow (C := w1.heap.size) (by omega) (cellsOf .u8 (mk 256 subN)))
  have Z := Lib.hid ((hz.alloc (.cells (cellsOf .u8 (mk 256 zeroK)) 62)).otherRow (C := w1.heap.size) (by omega) (cellsOf .u8 (mk 256 subN)))
  have N0 := Lib.hid (IntBlk.new w1 .u8 62 (mk 256 zeroK))
  have T := Lib.hid (N0.out.setRow .u8 (mk 256 subN))
  have L := Lib.hid (below_setRow (hw.alloc (by omega) (.cells (cellsOf .u8 (mk 256 zeroK)) 62)) (g := w1.heap.size) (by omega) (cellsOf .u8 (mk 256 subN)))
  clear ha hz hw
  go_wp2_with (first
    | (refine store_row_on rfl 62 _ _ rfl rfl w1.heap.size (cellsOf .u8 (mk 256 subN)) rfl rfl 62 (cellsOf .u8 (mk 256 zeroK)) N0.out (tabSize _) (by rw [cellsOf_size, cellsOf_size, mk_len, mk_len]) (cellsOf_one _ _) ?_)
    | fail)
  clear N0
  go_loopw [6] (fun v6 wr => ∃ i : Nat, i ≤ n ∧ v6 = .int .i64 i ∧ IntBlk wr w.heap.size .u8 23 (mk 16 (encTo R n f i)) ∧ IntBlk wr (w.heap.size + 1) .u8 23 (mk 16 zeroK) ∧ IntBlk wr w1.heap.size .u8 62 (mk 256 subN) ∧ Below w.heap.size w wr) (fun v6 _ => n - (intOf v6).toNat)
  case atStart => exact ⟨0, by omega, rfl, by rw [encTo_zero]; exact A.out, Z.out, T.out, L.out⟩
  case round =>
    obtain ⟨i, ile, rfl, ha, hz, ht, hw⟩ := hrel
    clear A Z T L
    have A := Lib.hid ha
    have Z := Lib.hid hz
    have T := Lib.hid ht
    have L := Lib.hid hw
    by_cases hlti : i < n
    · have ti : decide ((i : Int) < n) = true := by simp; omega
      rcases hp with hp | ⟨B, o, rfl, hB, hc⟩
      · omega
      have hk := encTo_key hR hf i (by omega)
      have HS := Lib.hid (encTo_step R n f i)
      clear ha hz ht hw
      generalize encTo R n f i = s at *
      have k1 := subK_key hk
      have k2 := shK_key k1
      have k3 := mixCol_key k2
      by_cases h0 : i = 0
      · have d1 : decide (0 < i) = false := by simp; omega
        have d3 : decide ((0 : Int) < (i : Int)) = false := by simp; omega
        have H0 := Lib.hid h0; clear h0
        go_wp2
        go_loopw [11] (fun v11 wr => ∃ j : Nat, j ≤ 16 ∧ v11 = .int .i64 j ∧ IntBlk wr w.heap.size .u8 23 (mk 16 (upTo (xorK (s) (R i)) (s) j)) ∧ IntBlk wr (w.heap.size + 1) .u8 23 (mk 16 zeroK) ∧ IntBlk wr w1.heap.size .u8 62 (mk 256 subN) ∧ Below w.heap.size w wr) (fun v11 _ => 16 - (intOf v11).toNat)
        case atStart => exact ⟨0, by omega, rfl, by rw [upTo_start]; exact A.out, Z.out, T.out, L.out⟩
        case round =>
          obtain ⟨j, jle, rfl, ha, hz, ht, hw⟩ := hrel
          clear A Z T L
          have A := Lib.hid ha
          have Z := Lib.hid hz
          have T := Lib.hid ht
          have L := Lib.hid hw
          by_cases hltj : j < 16
          · have tj : decide ((j : Int) < 16) = true := by simp; omega
            have c1 := ha.cell (i := j) (by rw [mk_len]; exact hltj)
            rw [mk_get hltj, upTo_at] at c1
            have f1 := ha.free j
            have c2 := ((hc i hlti).below hw hB) j hltj
            have hx := hk j hltj
            have hy := hR i hlti j hltj
            have HV := Lib.hid (xorK_bits (f := s) (g := R i) hx hy)
            clear ha hz ht hw
            have e0 : (i : Int) < n := by omega
            have e1 : (j : Int) < 16 := by omega
            have e2 : (0 : Int) ≤ j := by omega
            have e3 : (0 : Int) ≤ i := by omega
            go_wp2
            refine wp_region_still_tail 12 (by kernel_rfl) (by kernel_rfl) ?_
            simp only [List.take_succ_cons, List.take_zero, List.drop_succ_cons, List.drop_zero]
            change wpStill _ _ wr.drew (fun a' => wpList _ _ _ _ a' wr.drew) _ _
            iterate 12 still_step
            refine wpStill_nil ?_
            go_wp2
            go_roundw
            case rel => exact ⟨j + 1, by omega, by go_num, by rw [HV.out, ← upTo_step]; exact (A.out.set j _).drew, (Z.out.other (by show w.heap.size ≠ w.heap.size + 1; omega) _).drew, (T.out.other (by show w.heap.size ≠ w1.heap.size; omega) _).drew, (L.out.setCell (by show w.heap.size ≤ w.heap.size; omega) _).drew⟩
            case measure => simp [intOf]; omega
          · obtain rfl : j = 16 := by omega
            clear ha hz ht hw
            go_wp2
            go_roundw
            case rel => exact ⟨i + 1, by omega, by go_num, by rw [HS.out, inE_zero s H0.out, ← upTo_end 16]; exact A.out, Z.out, T.out, L.out⟩
            case measure => simp [intOf]; omega
      · have d1 : decide ((0 : Int) < (i : Int)) = true := by simp; omega
        go_wp2
        go_loopw [7] (fun v7 wr => ∃ b : Nat, b ≤ 16 ∧ v7 = .int .i64 b ∧ IntBlk wr w.heap.size .u8 23 (mk 16 (upTo (subK (s)) (s) b)) ∧ IntBlk wr (w.heap.size + 1) .u8 23 (mk 16 zeroK) ∧ IntBlk wr w1.heap.size .u8 62 (mk 256 subN) ∧ Below w.heap.size w wr) (fun v7 _ => 16 - (intOf v7).toNat)
        case atStart => exact ⟨0, by omega, rfl, by rw [upTo_start]; exact A.out, Z.out, T.out, L.out⟩
        case round =>
          obtain ⟨b, ble, rfl, ha, hz, ht, hw⟩ := hrel
          clear A Z T L
          have A := Lib.hid ha
          have Z := Lib.hid hz
          have T := Lib.hid ht
          have L := Lib.hid hw
          by_cases hltb : b < 16
          · have tb : decide ((b : Int) < 16) = true := by simp; omega
            have c1 := ha.cell (i := b) (by rw [mk_len]; exact hltb)
            rw [mk_get hltb, upTo_at] at c1
            have f1 := ha.free b
            have hx := hk b hltb
            have c2 := ht.cell (i := (s) b) (by rw [mk_len]; exact hx)
            rw [mk_get hx] at c2
            have e1 : (((s) b : Nat) : Int) < 256 := by omega
            have e2 : (0 : Int) ≤ (((s) b : Nat) : Int) := by omega
            clear ha hz ht hw
            go_wp2
            go_roundw
            case rel => exact ⟨b + 1, by omega, by go_num, by rw [← upTo_step, subK_at]; exact A.out.set b _, Z.out.other (by show w.heap.size ≠ w.heap.size + 1; omega) _, T.out.other (by show w.heap.size ≠ w1.heap.size; omega) _, L.out.setCell (by show w.heap.size ≤ w.heap.size; omega) _⟩
            case measure => simp [intOf]; omega
          · obtain rfl : b = 16 := by omega
            clear ha hz ht hw
            go_wp2_with (first
              | (refine wpList_load_row rfl 23 _ rfl (w.heap.size) rfl 23 (cellsOf .u8 (mk 16 (subK (s)))) (0, 0) _ (by rw [← upTo_end 16]; exact A.out) keyUnder rfl (keySize _) ?_)
              | fail)
            refine (refShift_any (subK (s)) _).mono ?_
            rintro e w2 ⟨rfl, hb⟩
            have ha := A.out.below hb A.out.lt
            have hz := Z.out.below hb Z.out.lt
            have ht := T.out.below hb T.out.lt
            have hw := L.out.trans (hb.mono L.out.size)
            clear hb A Z T L
            have B1 := Lib.hid ha
            have A := Lib.hid (ha.setRow .u8 (mk 16 (shK (subK (s)))))
            have Z := Lib.hid (hz.otherRow (C := w.heap.size) (by omega) (cellsOf .u8 (mk 16 (shK (subK (s))))))
            have T := Lib.hid (ht.otherRow (C := w.heap.size) (by omega) (cellsOf .u8 (mk 16 (shK (subK (s))))))
            have L := Lib.hid (below_setRow hw (g := w.heap.size) (by omega) (cellsOf .u8 (mk 16 (shK (subK (s))))))
            clear ha hz ht hw
            by_cases h1 : i + 1 < n
            · have d2 : decide ((i : Int) < (n : Int) - 1) = true := by simp; omega
              go_wp2_with (first
                | (refine store_row_on rfl 23 _ _ rfl rfl (w.heap.size) (cellsOf .u8 (mk 16 (shK (subK (s))))) rfl rfl 23 (cellsOf .u8 (mk 16 (upTo (subK (s)) (s) 16))) B1.out (keySize _) (by rw [cellsOf_size, cellsOf_size, mk_len, mk_len]) (cellsOf_one _ _) ?_)
                | fail)
              clear B1
              go_loopw [8] (fun v8 wr => ∃ c : Nat, c ≤ 4 ∧ v8 = .int .i64 c ∧ IntBlk wr w.heap.size .u8 23 (mk 16 (upTo (colK mixK (shK (subK s))) (shK (subK s)) (4 * c))) ∧ IntBlk wr (w.heap.size + 1) .u8 23 (mk 16 zeroK) ∧ IntBlk wr w1.heap.size .u8 62 (mk 256 subN) ∧ Below w.heap.size w wr) (fun v8 _ => 4 - (intOf v8).toNat)
              case atStart => exact ⟨0, by omega, rfl, by rw [upTo_start]; exact A.out, Z.out, T.out, L.out⟩
              case round =>
                obtain ⟨c, cle, rfl, ha, hz, ht, hw⟩ := hrel
                clear A Z T L
                have A := Lib.hid ha
                have Z := Lib.hid hz
                have T := Lib.hid ht
                have L := Lib.hid hw
                by_cases hltc : c < 4
                · have tc : decide ((c : Int) < 4) = true := by simp; omega
                  have hs2 : w1.heap.size < wr.heap.size := ht.lt
                  obtain ⟨q, hq⟩ : ∃ q, q = 4 * c := ⟨_, rfl⟩
                  obtain ⟨q1, g1⟩ : ∃ x, x = q + 1 := ⟨_, rfl⟩
                  obtain ⟨q2, g2⟩ : ∃ x, x = q + 2 := ⟨_, rfl⟩
                  obtain ⟨q3, g3⟩ : ∃ x, x = q + 3 := ⟨_, rfl⟩
                  have hm : IntKind.i64.wrap (4 * (c : Int)) = (q : Int) := by rw [IntWalk.i64_in _ (by omega)]; omega
                  have hq1 : IntKind.i64.wrap ((q : Int) + 1) = (q1 : Int) := by rw [IntWalk.i64_in _ (by omega)]; omega
                  have hq2 : IntKind.i64.wrap ((q : Int) + 2) = (q2 : Int) := by rw [IntWalk.i64_in _ (by omega)]; omega
                  have hq3 : IntKind.i64.wrap ((q : Int) + 3) = (q3 : Int) := by rw [IntWalk.i64_in _ (by omega)]; omega
                  have hcol := colAt_word k2 hltc
                  have CC : ∀ k j, j < 4 → k = 4 * c + j → ∀ w', Below wr.heap.size wr w' → w'.cell? ⟨w.heap.size, k, none⟩ = some (.int .u8 (colAt (shK (subK s)) c j)) := fun k j hj hk w' h => by
                    have := (ha.below h ha.lt).cell (i := k) (by rw [mk_len]; omega)
                    rw [mk_get (by omega)] at this
                    rw [this, hk]
                    unfold upTo colAt
                    rw [if_neg (by omega)]
                  have HC0 := Lib.hid (CC q 0 (by omega) (by omega))
                  have HC1 := Lib.hid (CC q1 1 (by omega) (by omega))
                  have HC2 := Lib.hid (CC q2 2 (by omega) (by omega))
                  have HC3 := Lib.hid (CC q3 3 (by omega) (by omega))
                  have AC := Lib.hid (fun (w' : World) (h : Below wr.heap.size wr w') => ha.below h ha.lt)
                  have ZC := Lib.hid (fun (w' : World) (h : Below wr.heap.size wr w') => hz.below h hz.lt)
                  have TC := Lib.hid (fun (w' : World) (h : Below wr.heap.size wr w') => ht.below h ht.lt)
                  have LC := Lib.hid (fun (w' : World) (h : Below wr.heap.size wr w') => hw.trans (h.mono hw.size))
                  have b0 : q < 16 := by omega
                  have b1 : q1 < 16 := by omega
                  have b2 : q2 < 16 := by omega
                  have b3 : q3 < 16 := by omega
                  clear CC ha hz ht hw A Z T L hq g1 g2 g3
                  go_wp2
                  generalize wr = W0 at *
                  refine wp_region_tree (.float 0 (.float 1 (.float 2 (.float 3 (.float 4 (.float 5 (.float 6 (.float 7 (.float 8 (.float 9 (.float 10 (.float 11 (.float 12 (.float 13 (.float 14 (.float 15 (.float 16 (.float 17 (.float 18 (.float 19 (.two 20 (.one 21 (.one 22 .over)) 21 (.one 20 (.one 22 .over))))))))))))))))))))))) (fun w' => Below W0.heap.size W0 w') (by kernel_rfl) (by kernel_rfl) ((Below.refl _ _).drew) ?_
                  iterate 20 (
                    refine tree_float rfl rfl (fun K hK => ?_)
                    first
                      | (refine gives_move _ rfl ?_)
                      | (refine gives_int_mul _ _ rfl 4 (c : Int) (q : Int) rfl rfl hm ?_)
                      | (refine gives_int_add _ _ rfl (q : Int) 1 (q1 : Int) rfl rfl hq1 ?_)
                      | (refine gives_int_add _ _ rfl (q : Int) 2 (q2 : Int) rfl rfl hq2 ?_)
                      | (refine gives_int_add _ _ rfl (q : Int) 3 (q3 : Int) rfl rfl hq3 ?_)
                      | (refine gives_place 23 16 _ _ rfl keyUnder w.heap.size q rfl rfl (by omega) ?_)
                      | (refine gives_place 23 16 _ _ rfl keyUnder w.heap.size q1 rfl rfl (by omega) ?_)
                      | (refine gives_place 23 16 _ _ rfl keyUnder w.heap.size q2 rfl rfl (by omega) ?_)
                      | (refine gives_place 23 16 _ _ rfl keyUnder w.heap.size q3 rfl rfl (by omega) ?_)
                      | (refine gives_byte_load _ rfl w.heap.size q _ rfl (HC0.out) ?_)
                      | (refine gives_byte_load _ rfl w.heap.size q1 _ rfl (HC1.out) ?_)
                      | (refine gives_byte_load _ rfl w.heap.size q2 _ rfl (HC2.out) ?_)
                      | (refine gives_byte_load _ rfl w.heap.size q3 _ rfl (HC3.out) ?_)
                      | (refine gives_built 26 _ rfl _ rfl 4 (colAt (shK (subK s)) c) (by kernel_rfl) ?_)
                    go_simp
                    refine hK _ ?_
                    clear hK K)
                  refine tree_two ?_ ?_
                  case' refine_1 =>
                    refine tree_one rfl rfl (fun K hK => ?_)
                    refine done_call1 _ _ _ rfl 15 rfl _ rfl call_refmix3 _ (refMix_any (colAt (shK (subK s)) c) hcol _) ?_
                    intro v1 hb
                    have c0 : Below W0.heap.size W0 W0.drew := (Below.refl _ _).drew
                    have c1 : Below W0.heap.size W0 v1 := c0.trans (hb.mono c0.size)
                    clear c0
                    refine ⟨c1, ?_⟩
                    go_simp
                    refine hK _ _ ?_
                    clear hK K hb
                    refine tree_one rfl rfl (fun K hK => ?_)
                    refine done_alloc 26 rfl _ (wordZero_run _) ?_
                    have c2 : Below W0.heap.size W0 (v1.alloc (.cells (cellsOf .u8 (mk 4 zeroK)) 26)) := c1.alloc c1.size _
                    refine ⟨c2, ?_⟩
                    have D0 := IntBlk.new v1 .u8 26 (mk 4 zeroK)
                    have hD : W0.heap.size ≤ v1.heap.size := c1.size
                    clear c1
                    generalize v1.alloc (.cells (cellsOf .u8 (mk 4 zeroK)) 26) = v2 at *
                    generalize v1.heap.size = D at *
                  case' refine_2 =>
                    refine tree_one rfl rfl (fun K hK => ?_)
                    refine done_alloc 26 rfl _ (wordZero_run _) ?_
                    have c1 : Below W0.heap.size W0 (W0.drew.alloc (.cells (cellsOf .u8 (mk 4 zeroK)) 26)) := ((Below.refl _ _).drew).alloc (Nat.le_refl _) _
                    refine ⟨c1, ?_⟩
                    have D1 : IntBlk (W0.drew.alloc (.cells (cellsOf .u8 (mk 4 zeroK)) 26)) W0.heap.size .u8 26 (mk 4 zeroK) := IntBlk.new W0.drew .u8 26 (mk 4 zeroK)
                    generalize W0.drew.alloc (.cells (cellsOf .u8 (mk 4 zeroK)) 26) = v1 at *
                    go_simp
                    refine hK _ _ ?_
                    clear hK K
                    refine tree_one rfl rfl (fun K hK => ?_)
                    refine done_call1 _ _ _ rfl 15 rfl _ rfl call_refmix3 _ (refMix_any (colAt (shK (subK s)) c) hcol _) ?_
                    intro v2 hb
                    have c2 := c1.trans (hb.mono c1.size)
                    refine ⟨c2, ?_⟩
                    have D0 := D1.below hb D1.lt
                    have hD : W0.heap.size ≤ W0.heap.size := Nat.le_refl _
                    clear D1 c1 hb
                    generalize hDD : (W0.heap.size : Nat) = D at D0 hD ⊢
                  all_goals
                    go_simp
                    refine hK _ _ ?_
                    clear hK K
                    refine tree_one rfl rfl (fun K hK => ?_)
                    refine done_store 26 _ _ rfl D (cellsOf .u8 (mk 4 (mixK (colAt (shK (subK s)) c)))) rfl rfl 26 (cellsOf .u8 (mk 4 zeroK)) D0 (wordSize _) (by rw [cellsOf_size, cellsOf_size, mk_len, mk_len]) (cellsOf_one _ _) ?_
                    have c3 : Below W0.heap.size W0 (v2.setRow D (cellsOf .u8 (mk 4 (mixK (colAt (shK (subK s)) c))))) := below_setRow c2 (by omega) _
                    have D3 := D0.setRow .u8 (mk 4 (mixK (colAt (shK (subK s)) c)))
                    refine ⟨c3, ?_⟩
                    clear c2 D0
                    generalize v2.setRow D (cellsOf .u8 (mk 4 (mixK (colAt (shK (subK s)) c)))) = v3 at *
                    go_simp
                    refine hK _ _ ?_
                    clear hK K
                    refine tree_over ?_
                    have A := Lib.hid (AC.out _ c3)
                    have Z := Lib.hid (ZC.out _ c3)
                    have T := Lib.hid (TC.out _ c3)
                    have L := Lib.hid (LC.out _ c3)
                    have E := Lib.hid D3
                    have hDw : w1.heap.size < D := by omega
                    clear c3 D3 hm hq1 hq2 hq3 b0 b1 b2 b3 HC0 HC1 HC2 HC3 AC ZC TC LC
                    go_wp2
                    go_loopw [10] (fun v10 wr => ∃ m : Nat, m ≤ 4 ∧ v10 = .int .i64 m ∧ IntBlk wr w.heap.size .u8 23 (mk 16 (upTo (colK mixK (shK (subK s))) (shK (subK s)) (4 * c + m))) ∧ IntBlk wr (w.heap.size + 1) .u8 23 (mk 16 zeroK) ∧ IntBlk wr w1.heap.size .u8 62 (mk 256 subN) ∧ Below w.heap.size w wr ∧ IntBlk wr D .u8 26 (mk 4 (mixK (colAt (shK (subK s)) c)))) (fun v10 _ => 4 - (intOf v10).toNat)
                    case atStart => exact ⟨0, by omega, rfl, A.out, Z.out, T.out, L.out, E.out⟩
                    case round =>
                      obtain ⟨m, mle, rfl, ha, hz, ht, hw, hE⟩ := hrel
                      clear A Z T L
                      have A := Lib.hid ha
                      have Z := Lib.hid hz
                      have T := Lib.hid ht
                      have L := Lib.hid hw
                      clear E
                      have E := Lib.hid hE
                      by_cases hltm : m < 4
                      · have tm : decide ((m : Int) < 4) = true := by simp; omega
                        have hp : 4 * c + m < 16 := by omega
                        have c1 := hE.cell (i := m) (by rw [mk_len]; exact hltm)
                        rw [mk_get hltm] at c1
                        have c3 := ha.cell (i := 4 * c + m) (by rw [mk_len]; exact hp)
                        have f3 := ha.free (4 * c + m)
                        have HV := Lib.hid (col_place mixK (shK (subK s)) (c := c) hltm)
                        clear ha hz ht hw hE
                        have g1 : IntKind.i64.wrap (4 * (c : Int)) = 4 * (c : Int) := IntWalk.i64_in _ (by omega)
                        have g2 : IntKind.i64.wrap (4 * (c : Int) + m) = 4 * (c : Int) + m := IntWalk.i64_in _ (by omega)
                        have g3 : (0 : Int) ≤ 4 * (c : Int) + m := by omega
                        have g4 : 4 * (c : Int) + m < 16 := by omega
                        have g5 : (4 * (c : Int) + m).toNat = 4 * c + m := by omega
                        go_wp2
                        go_roundw
                        case rel => exact ⟨m + 1, by omega, by go_num, by rw [show 4 * c + (m + 1) = 4 * c + m + 1 from rfl, ← upTo_step, HV.out]; exact A.out.set (4 * c + m) _, Z.out.other (by show w.heap.size ≠ w.heap.size + 1; omega) _, T.out.other (by show w.heap.size ≠ w1.heap.size; omega) _, L.out.setCell (by show w.heap.size ≤ w.heap.size; omega) _, E.out.other (by show w.heap.size ≠ D; omega) _⟩
                        case measure => simp [intOf]; omega
                      · obtain rfl : m = 4 := by omega
                        clear ha hz ht hw
                        clear hE
                        go_wp2
                        go_roundw
                        case rel => exact ⟨c + 1, by omega, by go_num, by rw [show 4 * (c + 1) = 4 * c + 4 by omega]; exact A.out, Z.out, T.out, L.out⟩
                        case measure => simp [intOf]; omega
                · have HX := Lib.hid (show c = 4 by omega)
                  have t2 : decide ((c : Int) < 4) = false := by simp; omega
                  clear ha hz ht hw
                  go_wp2
                  have A2 := Lib.hid (show IntBlk wr w.heap.size .u8 23 (mk 16 (colK mixK (shK (subK s)))) by rw [← upTo_end 16]; have h := A.out; rwa [HX.out] at h)
                  clear A HX
                  have A := A2
                  clear A2
                  go_loopw [11] (fun v11 wr => ∃ j : Nat, j ≤ 16 ∧ v11 = .int .i64 j ∧ IntBlk wr w.heap.size .u8 23 (mk 16 (upTo (xorK (colK mixK (shK (subK s))) (R i)) (colK mixK (shK (subK s))) j)) ∧ IntBlk wr (w.heap.size + 1) .u8 23 (mk 16 zeroK) ∧ IntBlk wr w1.heap.size .u8 62 (mk 256 subN) ∧ Below w.heap.size w wr) (fun v11 _ => 16 - (intOf v11).toNat)
                  case atStart => exact ⟨0, by omega, rfl, by rw [upTo_start]; exact A.out, Z.out, T.out, L.out⟩
                  case round =>
                    obtain ⟨j, jle, rfl, ha, hz, ht, hw⟩ := hrel
                    clear A Z T L
                    have A := Lib.hid ha
                    have Z := Lib.hid hz
                    have T := Lib.hid ht
                    have L := Lib.hid hw
                    by_cases hltj : j < 16
                    · have tj : decide ((j : Int) < 16) = true := by simp; omega
                      have c1 := ha.cell (i := j) (by rw [mk_len]; exact hltj)
                      rw [mk_get hltj, upTo_at] at c1
                      have f1 := ha.free j
                      have c2 := ((hc i hlti).below hw hB) j hltj
                      have hx := k3 j hltj
                      have hy := hR i hlti j hltj
                      have HV := Lib.hid (xorK_bits (f := colK mixK (shK (subK s))) (g := R i) hx hy)
                      clear ha hz ht hw
                      have e0 : (i : Int) < n := by omega
                      have e1 : (j : Int) < 16 := by omega
                      have e2 : (0 : Int) ≤ j := by omega
                      have e3 : (0 : Int) ≤ i := by omega
                      go_wp2
                      refine wp_region_still_tail 12 (by kernel_rfl) (by kernel_rfl) ?_
                      simp only [List.take_succ_cons, List.take_zero, List.drop_succ_cons, List.drop_zero]
                      change wpStill _ _ wr.drew (fun a' => wpList _ _ _ _ a' wr.drew) _ _
                      iterate 12 still_step
                      refine wpStill_nil ?_
                      go_wp2
                      go_roundw
                      case rel => exact ⟨j + 1, by omega, by go_num, by rw [HV.out, ← upTo_step]; exact (A.out.set j _).drew, (Z.out.other (by show w.heap.size ≠ w.heap.size + 1; omega) _).drew, (T.out.other (by show w.heap.size ≠ w1.heap.size; omega) _).drew, (L.out.setCell (by show w.heap.size ≤ w.heap.size; omega) _).drew⟩
                      case measure => simp [intOf]; omega
                    · obtain rfl : j = 16 := by omega
                      clear ha hz ht hw
                      go_wp2
                      go_roundw
                      case rel => exact ⟨i + 1, by omega, by go_num, by rw [HS.out, inE_mid s h0 h1, ← upTo_end 16]; exact A.out, Z.out, T.out, L.out⟩
                      case measure => simp [intOf]; omega
            · have d2 : decide ((i : Int) < (n : Int) - 1) = false := by simp; omega
              go_wp2_with (first
                | (refine store_row_on rfl 23 _ _ rfl rfl (w.heap.size) (cellsOf .u8 (mk 16 (shK (subK (s))))) rfl rfl 23 (cellsOf .u8 (mk 16 (upTo (subK (s)) (s) 16))) B1.out (keySize _) (by rw [cellsOf_size, cellsOf_size, mk_len, mk_len]) (cellsOf_one _ _) ?_)
                | fail)
              clear B1
              go_loopw [11] (fun v11 wr => ∃ j : Nat, j ≤ 16 ∧ v11 = .int .i64 j ∧ IntBlk wr w.heap.size .u8 23 (mk 16 (upTo (xorK (shK (subK s)) (R i)) (shK (subK s)) j)) ∧ IntBlk wr (w.heap.size + 1) .u8 23 (mk 16 zeroK) ∧ IntBlk wr w1.heap.size .u8 62 (mk 256 subN) ∧ Below w.heap.size w wr) (fun v11 _ => 16 - (intOf v11).toNat)
              case atStart => exact ⟨0, by omega, rfl, by rw [upTo_start]; exact A.out, Z.out, T.out, L.out⟩
              case round =>
                obtain ⟨j, jle, rfl, ha, hz, ht, hw⟩ := hrel
                clear A Z T L
                have A := Lib.hid ha
                have Z := Lib.hid hz
                have T := Lib.hid ht
                have L := Lib.hid hw
                by_cases hltj : j < 16
                · have tj : decide ((j : Int) < 16) = true := by simp; omega
                  have c1 := ha.cell (i := j) (by rw [mk_len]; exact hltj)
                  rw [mk_get hltj, upTo_at] at c1
                  have f1 := ha.free j
                  have c2 := ((hc i hlti).below hw hB) j hltj
                  have hx := k2 j hltj
                  have hy := hR i hlti j hltj
                  have HV := Lib.hid (xorK_bits (f := shK (subK s)) (g := R i) hx hy)
                  clear ha hz ht hw
                  have e0 : (i : Int) < n := by omega
                  have e1 : (j : Int) < 16 := by omega
                  have e2 : (0 : Int) ≤ j := by omega
                  have e3 : (0 : Int) ≤ i := by omega
                  go_wp2
                  refine wp_region_still_tail 12 (by kernel_rfl) (by kernel_rfl) ?_
                  simp only [List.take_succ_cons, List.take_zero, List.drop_succ_cons, List.drop_zero]
                  change wpStill _ _ wr.drew (fun a' => wpList _ _ _ _ a' wr.drew) _ _
                  iterate 12 still_step
                  refine wpStill_nil ?_
                  go_wp2
                  go_roundw
                  case rel => exact ⟨j + 1, by omega, by go_num, by rw [HV.out, ← upTo_step]; exact (A.out.set j _).drew, (Z.out.other (by show w.heap.size ≠ w.heap.size + 1; omega) _).drew, (T.out.other (by show w.heap.size ≠ w1.heap.size; omega) _).drew, (L.out.setCell (by show w.heap.size ≤ w.heap.size; omega) _).drew⟩
                  case measure => simp [intOf]; omega
                · obtain rfl : j = 16 := by omega
                  clear ha hz ht hw
                  go_wp2
                  go_roundw
                  case rel => exact ⟨i + 1, by omega, by go_num, by rw [HS.out, inE_last s h0 h1, ← upTo_end 16]; exact A.out, Z.out, T.out, L.out⟩
                  case measure => simp [intOf]; omega
    · obtain rfl : i = n := by omega
      clear ha hz ht hw
      go_wp2_with (first
        | (refine wpList_load_row rfl 23 _ rfl w.heap.size rfl 23 (cellsOf .u8 (mk 16 (encTo R i f i))) (0, 0) _ A.out keyUnder rfl (keySize _) ?_)
        | (refine wpList_store_row rfl 23 _ _ rfl (w.heap.size + 1) _ rfl rfl 23 (cellsOf .u8 (mk 16 zeroK)) Z.out (keySize _) (by rw [cellsOf_size, cellsOf_size, mk_len, mk_len]) (cellsOf_one _ _) ?_))
      refine bodyPost_ret (results_cell_row rfl _ _ (w.heap.size + 1) 23 (cellsOf .u8 (mk 16 (encTo R i f i))) (0, 0) _ rfl (Z.out.setRow .u8 (mk 16 (encTo R i f i))) keyUnder rfl (keySize _)) rfl ⟨rfl, below_setRow L.out (by omega) _⟩
end Go.Proofs.Ytilfjmpoiiepkaa
