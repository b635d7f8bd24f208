/- Package cipher's Seal and Open are the document's, with every key: the statement CipherSeals. No condition. -/
import Derived.Test.YtilfjmpoiiepkaaSealC
import Derived.Test.YtilfjmpoiiepkaaKnownC
import Derived.Test.YtilfjmpoiiepkaaRefRounds
import Derived.Test.YtilfjmpoiiepkaaRefEnc
import Derived.Test.YtilfjmpoiiepkaaQuietC
namespace Go.Proofs.Ytilfjmpoiiepkaa.cipherSeals
open Go.ChangeShapes Go.WideShapes Go.ChangeAt Go.RowKit
set_option linter.unusedVariables false

theorem own : ownKnob Try.prog.godebug = none := by kernel_rfl
theorem keys_same (f : Nat → Nat) (W : World) : (Op.equalIn 10000 23 (.agg (cellsOf .u8 (mk 16 f))) (.agg (cellsOf .u8 (mk 16 f)))).run Try.prog W = .ok true W := by rw [key_eq]; simp
theorem call_refenc (args : Array Value) (w : World) : (callFunc 23 args).run Try.prog w = .ok (.enter 23 args) w := by simp [go_sem]
theorem seal_known (D : Nat) (w : World) (hp : BytesAt w (some ⟨D, 0, none⟩) 16 keyA) :
    Calls Try.prog 26 #[.slice (some ⟨D, 0, none⟩) 16 16, .agg (cellsOf .u8 (mk 16 keyB))] w fun e w' => e = .returned (.tuple #[.agg (cellsOf .u8 (mk 16 keyC)), .nilIface]) ∧ Below w.heap.size w w' := by
  rw [← example_is]
  exact Seal_ok (some ⟨D, 0, none⟩) 16 16 4 keyA keyB rfl (.inl rfl) (Nat.le_refl _) (fun i hi => by show i < 256; omega) (fun i hi => by show 17 * i < 256; omega) w hp
theorem quiet_nil_eql {o : Oper} {a : Act} {C : World → Prop} {K : Act → Prop} (x : Operand) (ho : o.op = .binOp .eql 33 x (.const .nilIface) 33) (hx : a.eval x = .nilIface) (hk : K (a.put o.dst (.bool true))) : o.quiet Try.prog a C K := by
  refine quiet_value (.bool true) (fun w _ => ?_) hk
  unfold execOp
  simp only [ho, hx]
  simp [go_sem, Act.eval]
section
variable {ops : Array Oper} {rest : List Oper} {o : Oper} {a : Act} {w : World} {Q : Exit → Act → World → Prop}
theorem wanted_step (hw : Region.wanted o (yielded ops a.tmps) = true) (h : ∀ K : Act → World → Prop, (∀ a w, wpList Try.prog ops Q rest a w → K a w) → o.wp Try.prog a w K Q) : wpList Try.prog ops Q (o :: rest) a w :=
  wpList_step fun K hK => by rw [if_pos hw]; exact h K hK
theorem wpList_load_want (hw : Region.wanted o (yielded ops a.tmps) = true) (x : Operand) (ho : o.op = .load 23 x) (B : Nat) (f : Nat → Nat) (hx : a.eval x = .pointer (some ⟨B, 0, none⟩)) (hB : IntBlk w B .u8 23 (mk 16 f))
    (h : wpList Try.prog ops Q rest (a.put o.dst (.agg (cellsOf .u8 (mk 16 f)))) w) : wpList Try.prog ops Q (o :: rest) a w :=
  wanted_step hw fun _ hK => wp_load_row 23 x ho B hx 23 (cellsOf .u8 (mk 16 f)) (0, 0) _ hB keyUnder rfl (keySize f) (hK _ _ h)
theorem wpList_neq_want (hw : Region.wanted o (yielded ops a.tmps) = true) (x y : Operand) (ho : o.op = .binOp .neq 23 x y 23) (f : Nat → Nat) (hx : a.eval x = .agg (cellsOf .u8 (mk 16 f))) (hy : a.eval y = .agg (cellsOf .u8 (mk 16 f)))
    (h : wpList Try.prog ops Q rest (a.put o.dst (.bool false)) w) : wpList Try.prog ops Q (o :: rest) a w :=
  wanted_step hw fun _ hK => by
    have e := keys_same f w
    unfold Oper.wp execOp
    simp only [ho, hx, hy]
    simp [go_sem, e]
    exact hK _ _ h
theorem wpList_eql_want (hw : Region.wanted o (yielded ops a.tmps) = true) (x y : Operand) (ho : o.op = .binOp .eql 23 x y 23) (f : Nat → Nat) (hx : a.eval x = .agg (cellsOf .u8 (mk 16 f))) (hy : a.eval y = .agg (cellsOf .u8 (mk 16 f)))
    (h : wpList Try.prog ops Q rest (a.put o.dst (.bool true)) w) : wpList Try.prog ops Q (o :: rest) a w :=
  wanted_step hw fun _ hK => by
    have e := keys_same f w
    unfold Oper.wp execOp
    simp only [ho, hx, hy]
    simp [go_sem, e]
    exact hK _ _ h
theorem wpList_zero_want (hw : Region.wanted o (yielded ops a.tmps) = true) (ho : o.op = .build 23 #[]) (h : wpList Try.prog ops Q rest (a.put o.dst (.agg (cellsOf .u8 (mk 16 zeroK)))) w) : wpList Try.prog ops Q (o :: rest) a w :=
  wanted_step hw fun _ hK => by
    have e := run_build w 23 #[] _ zero_built
    unfold Oper.wp execOp
    simp only [ho]
    simp [e]
    exact hK _ _ h
end
theorem quiet_refenc {o : Oper} {a : Act} {C : World → Prop} {K : Act → Prop} (x y z : Operand) (ts : Array TypeId) (ho : o.op = .call { callee := .value x, args := #[y, z], argTypes := ts }) (hx : a.eval x = .func (.func 23) #[] #[])
    (u : Value) (hy : a.eval y = u) (f : Nat → Nat) (hz : a.eval z = .agg (cellsOf .u8 (mk 16 f))) (r : Nat → Nat)
    (hc : ∀ w, C w → Calls Try.prog 23 #[u, .agg (cellsOf .u8 (mk 16 f))] w fun e w' => e = .returned (.agg (cellsOf .u8 (mk 16 r))) ∧ C w') (hk : K (a.put o.dst (.agg (cellsOf .u8 (mk 16 r))))) : o.quiet Try.prog a C K :=
  quiet_calls x #[y, z] ts ho 23 _ _ hx (by simp only [List.map_toArray, List.map_cons, List.map_nil, hy, hz]) (fun w => call_refenc _ w) hc hk
attribute [local irreducible] encK decK rkS keyA keyB keyC

set_option maxRecDepth 100000 in
set_option maxHeartbeats 8000000 in
theorem walk (p : Option Addr) (n cap : Nat) (g : Nat → Nat) (f : Nat → Nat) (hg : ∀ i, i < n → g i < 256) (hcap : n ≤ cap) (hmax : cap ≤ maxLen) (hf : IsKey f) (w : World) (hp : BytesAt w p n g) :
    Calls Try.prog 8 #[.slice p n cap, .agg (cellsOf .u8 (mk 16 f))] w fun e w' => e = .returned (.bool true) ∧ Below w.heap.size w w' := by
  by_cases hbig : 65536 < n
  · have d1 : decide (65536 < n) = true := by simp; omega
    have d2 : decide ((65536 : Int) < (n : Int)) = true := by simp; omega
    go_enter Try.func8, Try.ntmps8
    go_wp2
    go_ret
    exact ⟨rfl, (Below.refl _ _).alloc (Nat.le_refl _) _⟩
  · have d1 : decide (65536 < n) = false := by simp; omega
    have d2 : decide ((65536 : Int) < (n : Int)) = false := by simp; omega
    have A3 := Lib.hid (IntBlk.new w .u8 23 (mk 16 f))
    have L := Lib.hid ((Below.refl w.heap.size w).alloc (Nat.le_refl _) (.cells (cellsOf .u8 (mk 16 f)) 23))
    go_enter Try.func8, Try.ntmps8
    go_wp2_with fail
    refine (known_any _).mono ?_
    rintro e w1 ⟨D1, rfl, hk1, hb⟩
    have X := Lib.hid (A3.out.below hb A3.out.lt)
    clear A3
    have A3 := X
    clear X
    have L' := Lib.hid (L.out.trans (hb.mono L.out.size))
    clear L
    have L := L'
    clear L'
    clear hb
    have hs1 : w.heap.size < w1.heap.size := A3.out.lt
    have N6 := Lib.hid ((IntBlk.new w1 .u8 23 (mk 16 zeroK)).alloc (.cells (cellsOf .u8 (mk 16 zeroK)) 23))
    have N7 := Lib.hid (show IntBlk (((w1.alloc (.cells (cellsOf .u8 (mk 16 zeroK)) 23)).alloc (.cells (cellsOf .u8 (mk 16 zeroK)) 23)).setRow w1.heap.size (cellsOf .u8 (mk 16 keyB))) (w1.heap.size + 1) .u8 23 (mk 16 zeroK) from (blk_two w1 .u8 23 (mk 16 zeroK) (.cells (cellsOf .u8 (mk 16 zeroK)) 23)).otherRow (by omega) _)
    have A6 := Lib.hid ((N6.out.setRow .u8 (mk 16 keyB)).otherRow (C := w1.heap.size + 1) (by omega) (cellsOf .u8 (mk 16 keyC)))
    have A7 := Lib.hid (N7.out.setRow .u8 (mk 16 keyC))
    have b2 : Below w1.heap.size w1 ((((w1.alloc (.cells (cellsOf .u8 (mk 16 zeroK)) 23)).alloc (.cells (cellsOf .u8 (mk 16 zeroK)) 23)).setRow w1.heap.size (cellsOf .u8 (mk 16 keyB))).setRow (w1.heap.size + 1) (cellsOf .u8 (mk 16 keyC))) := below_setRow (below_setRow (below_two w1 _ _) (Nat.le_refl _) _) (by omega) _
    have X := Lib.hid (A3.out.below b2 A3.out.lt)
    clear A3
    have A3 := X
    clear X
    have hk2 := hk1.below b2
    have L' := Lib.hid (L.out.trans (b2.mono L.out.size))
    clear L hk1 b2
    have L := L'
    clear L'
    have HK := Lib.hid hk2
    clear hk2
    go_wp2_with (first
      | (refine store_row_on rfl 23 _ _ rfl rfl (w1.heap.size) (cellsOf .u8 (mk 16 (keyB))) rfl rfl 23 (cellsOf .u8 (mk 16 (zeroK))) N6.out (keySize _) (by first | rfl | rw [cellsOf_size, cellsOf_size, mk_len, mk_len]) (cellsOf_one _ _) ?_)
      | (refine store_row_on rfl 23 _ _ rfl rfl (w1.heap.size + 1) (cellsOf .u8 (mk 16 (keyC))) rfl rfl 23 (cellsOf .u8 (mk 16 (zeroK))) N7.out (keySize _) (by first | rfl | rw [cellsOf_size, cellsOf_size, mk_len, mk_len]) (cellsOf_one _ _) ?_)
      | (refine wpList_load_row rfl 23 _ rfl (w1.heap.size) rfl 23 (cellsOf .u8 (mk 16 (keyB))) (0, 0) _ A6.out keyUnder rfl (keySize _) ?_)
      | fail)
    clear N6 N7
    refine (seal_known D1 _ HK.out).mono ?_
    rintro e w3 ⟨rfl, hb⟩
    have X := Lib.hid (A3.out.below hb A3.out.lt)
    clear A3
    have A3 := X
    clear X
    have X := Lib.hid (A7.out.below hb A7.out.lt)
    clear A7
    have A7 := X
    clear X
    have L' := Lib.hid (L.out.trans (hb.mono L.out.size))
    clear L
    have L := L'
    clear L'
    clear hb
    clear HK A6
    have hsA8 : w.heap.size < w3.heap.size := A3.out.lt
    have X := Lib.hid ((A3.out.alloc (.cells (cellsOf .u8 (mk 16 zeroK)) 23)).otherRow (C := w3.heap.size) (by have := A3.out.lt; omega) (cellsOf .u8 (mk 16 (keyC))))
    clear A3
    have A3 := X
    clear X
    have X := Lib.hid ((A7.out.alloc (.cells (cellsOf .u8 (mk 16 zeroK)) 23)).otherRow (C := w3.heap.size) (by have := A7.out.lt; omega) (cellsOf .u8 (mk 16 (keyC))))
    clear A7
    have A7 := X
    clear X
    have L' := Lib.hid (below_setRow (L.out.alloc L.out.size (.cells (cellsOf .u8 (mk 16 zeroK)) 23)) (g := w3.heap.size) (by omega) (cellsOf .u8 (mk 16 (keyC))))
    clear L
    have L := L'
    clear L'
    have A8 := Lib.hid ((IntBlk.new w3 .u8 23 (mk 16 zeroK)).setRow .u8 (mk 16 (keyC)))
    go_wp2_with (first
      | (refine store_row_on rfl 23 _ _ rfl rfl (w3.heap.size) (cellsOf .u8 (mk 16 (keyC))) rfl rfl 23 (cellsOf .u8 (mk 16 (zeroK))) (IntBlk.new w3 .u8 23 (mk 16 zeroK)) (keySize _) (by first | rfl | rw [cellsOf_size, cellsOf_size, mk_len, mk_len]) (cellsOf_one _ _) ?_)
      | (refine wpList_load_want rfl _ rfl w3.heap.size keyC rfl A8.out ?_)
      | (refine wpList_load_want rfl _ rfl (w1.heap.size + 1) keyC rfl A7.out ?_)
      | (refine wpList_neq_want rfl _ _ rfl keyC rfl rfl ?_)
      | (refine wpList_load_row rfl 23 _ rfl (w.heap.size) rfl 23 (cellsOf .u8 (mk 16 (f))) (0, 0) _ A3.out keyUnder rfl (keySize _) ?_)
      | fail)
    clear A7 A8
    have hp3 := Lib.hid (hp.below L.out)
    by_cases hnok : n = 16 ∨ n = 32
    · obtain ⟨N, hn, hN⟩ : ∃ N, n = 4 * N ∧ (N = 4 ∨ N = 8) := by
        rcases hnok with h | h
        · exact ⟨4, by omega, .inl rfl⟩
        · exact ⟨8, by omega, .inr rfl⟩
      clear hnok
      have hr : ∀ i, i < N + 7 → IsKey (rkS N g i) := fun i _ => rkS_key (fun i hi => hg i (by omega)) i
      have SO := Lib.hid (fun W h => Seal_ok p n cap N g f hn hN hcap hg hf W h)
      have OO := Lib.hid (fun W h => Open_ok p n cap N g f hn hN hcap hg hf W h)
      have RO := Lib.hid (fun W h => refRounds_ok p n cap N g hn hN hg W h)
      have hT : N + 7 < 4294967296 := by omega
      clear hn hN hcap hg
      generalize rkS N g = R at *
      generalize N + 7 = T at *
      have HD := Lib.hid (enc_dec hr hf)
      have kd := decTo_key hr hf T (Nat.le_refl T)
      rw [← decK_is] at kd
      refine (SO.out _ hp3.out).mono ?_
      rintro e w5 ⟨rfl, hb⟩
      have X := Lib.hid (A3.out.below hb A3.out.lt)
      clear A3
      have A3 := X
      clear X
      have L' := Lib.hid (L.out.trans (hb.mono L.out.size))
      clear L
      have L := L'
      clear L'
      clear hb
      clear hp3
      have hsA10 : w.heap.size < w5.heap.size := A3.out.lt
      have X := Lib.hid ((A3.out.alloc (.cells (cellsOf .u8 (mk 16 zeroK)) 23)).otherRow (C := w5.heap.size) (by have := A3.out.lt; omega) (cellsOf .u8 (mk 16 (encK R T f))))
      clear A3
      have A3 := X
      clear X
      have L' := Lib.hid (below_setRow (L.out.alloc L.out.size (.cells (cellsOf .u8 (mk 16 zeroK)) 23)) (g := w5.heap.size) (by omega) (cellsOf .u8 (mk 16 (encK R T f))))
      clear L
      have L := L'
      clear L'
      have A10 := Lib.hid ((IntBlk.new w5 .u8 23 (mk 16 zeroK)).setRow .u8 (mk 16 (encK R T f)))
      go_wp2_with (first
        | (refine store_row_on rfl 23 _ _ rfl rfl (w5.heap.size) (cellsOf .u8 (mk 16 (encK R T f))) rfl rfl 23 (cellsOf .u8 (mk 16 (zeroK))) (IntBlk.new w5 .u8 23 (mk 16 zeroK)) (keySize _) (by first | rfl | rw [cellsOf_size, cellsOf_size, mk_len, mk_len]) (cellsOf_one _ _) ?_)
        | (refine wpList_load_row rfl 23 _ rfl (w.heap.size) rfl 23 (cellsOf .u8 (mk 16 (f))) (0, 0) _ A3.out keyUnder rfl (keySize _) ?_)
        | fail)
      refine (OO.out _ (hp.below L.out)).mono ?_
      rintro e w6 ⟨rfl, hb⟩
      have X := Lib.hid (A3.out.below hb A3.out.lt)
      clear A3
      have A3 := X
      clear X
      have X := Lib.hid (A10.out.below hb A10.out.lt)
      clear A10
      have A10 := X
      clear X
      have L' := Lib.hid (L.out.trans (hb.mono L.out.size))
      clear L
      have L := L'
      clear L'
      clear hb
      have hsA12 : w.heap.size < w6.heap.size := A3.out.lt
      have X := Lib.hid ((A3.out.alloc (.cells (cellsOf .u8 (mk 16 zeroK)) 23)).otherRow (C := w6.heap.size) (by have := A3.out.lt; omega) (cellsOf .u8 (mk 16 (decK R T f))))
      clear A3
      have A3 := X
      clear X
      have X := Lib.hid ((A10.out.alloc (.cells (cellsOf .u8 (mk 16 zeroK)) 23)).otherRow (C := w6.heap.size) (by have := A10.out.lt; omega) (cellsOf .u8 (mk 16 (decK R T f))))
      clear A10
      have A10 := X
      clear X
      have L' := Lib.hid (below_setRow (L.out.alloc L.out.size (.cells (cellsOf .u8 (mk 16 zeroK)) 23)) (g := w6.heap.size) (by omega) (cellsOf .u8 (mk 16 (decK R T f))))
      clear L
      have L := L'
      clear L'
      have A12 := Lib.hid ((IntBlk.new w6 .u8 23 (mk 16 zeroK)).setRow .u8 (mk 16 (decK R T f)))
      go_wp2_with (first
        | (refine store_row_on rfl 23 _ _ rfl rfl (w6.heap.size) (cellsOf .u8 (mk 16 (decK R T f))) rfl rfl 23 (cellsOf .u8 (mk 16 (zeroK))) (IntBlk.new w6 .u8 23 (mk 16 zeroK)) (keySize _) (by first | rfl | rw [cellsOf_size, cellsOf_size, mk_len, mk_len]) (cellsOf_one _ _) ?_)
        | fail)
      refine (RO.out _ (hp.below L.out)).mono ?_
      rintro e w7 ⟨q, c7, rfl, hk7, hb⟩
      have X := Lib.hid (A3.out.below hb A3.out.lt)
      clear A3
      have A3 := X
      clear X
      have X := Lib.hid (A10.out.below hb A10.out.lt)
      clear A10
      have A10 := X
      clear X
      have X := Lib.hid (A12.out.below hb A12.out.lt)
      clear A12
      have A12 := X
      clear X
      have L' := Lib.hid (L.out.trans (hb.mono L.out.size))
      clear L
      have L := L'
      clear L'
      clear hb
      clear SO OO RO
      go_wp2
      have G3 := A3.out
      have G10 := A10.out
      have G12 := A12.out
      have GL := L.out
      clear A3 A10 A12 L
      have H3 := Lib.hid (fun (w' : World) (h : Below w7.heap.size w7 w') => G3.below h G3.lt)
      have H10 := Lib.hid (fun (w' : World) (h : Below w7.heap.size w7 w') => G10.below h G10.lt)
      have H12 := Lib.hid (fun (w' : World) (h : Below w7.heap.size w7 w') => G12.below h G12.lt)
      have HL := Lib.hid (fun (w' : World) (h : Below w7.heap.size w7 w') => GL.trans (h.mono GL.size))
      have RC := Lib.hid (fun (s : Nat → Nat) (hs : IsKey s) (w' : World) (h : Below w7.heap.size w7 w') => (refEncrypt_any q T c7 R s hr hs hT w' (hk7.below h)).mono fun _ _ x => (⟨x.1, h.trans (x.2.mono h.size)⟩ : _ ∧ Below w7.heap.size w7 _))
      clear G3 G10 G12 GL hk7
      refine wp_region_class (fun w' => Below w7.heap.size w7 w') (by kernel_rfl) (by kernel_rfl) ((Below.refl _ _).drew) ?_
      iterate 21 (first
        | go_big_quiet_skip
        | (go_big_quiet_want
           first
             | (go_big_quiet_op; go_big_quiet_on)
             | ((first
                 | (refine quiet_pick _ _ _ rfl rfl rfl ?_)
                 | (refine quiet_nil_eql _ rfl rfl ?_)
                 | (refine quiet_load _ rfl w.heap.size f rfl H3.out ?_)
                 | (refine quiet_load _ rfl w5.heap.size (encK R T f) rfl H10.out ?_)
                 | (refine quiet_load _ rfl w6.heap.size (decK R T f) rfl H12.out ?_)
                 | (refine quiet_eql _ _ rfl (encK R T f) (encK R T f) rfl rfl rfl ?_)
                 | (refine quiet_eql _ _ rfl (encK R T (decK R T f)) f rfl rfl HD.out ?_)
                 | (refine quiet_refenc _ _ _ _ rfl rfl _ rfl f rfl (encK R T f) (RC.out f hf) ?_)
                 | (refine quiet_refenc _ _ _ _ rfl rfl _ rfl (decK R T f) rfl (encK R T (decK R T f)) (RC.out _ kd) ?_)); go_simp; go_big_quiet_on)))
      refine wpQuiet_nil ?_
      intro w8 hw8
      have L8 := Lib.hid (HL.out _ hw8)
      clear hw8 H3 H10 H12 HL RC HD
      go_wp2
      go_ret
      exact ⟨rfl, L8.out⟩
    · have h16 : n ≠ 16 := fun h => hnok (.inl h)
      have h32 : n ≠ 32 := fun h => hnok (.inr h)
      clear hnok
      refine (Seal_bad p n cap f h16 h32 _).mono ?_
      rintro e w5 ⟨rfl, hb⟩
      have X := Lib.hid (A3.out.below hb A3.out.lt)
      clear A3
      have A3 := X
      clear X
      have L' := Lib.hid (L.out.trans (hb.mono L.out.size))
      clear L
      have L := L'
      clear L'
      clear hb
      clear hp3
      have hsA10 : w.heap.size < w5.heap.size := A3.out.lt
      have X := Lib.hid ((A3.out.alloc (.cells (cellsOf .u8 (mk 16 zeroK)) 23)).otherRow (C := w5.heap.size) (by have := A3.out.lt; omega) (cellsOf .u8 (mk 16 (zeroK))))
      clear A3
      have A3 := X
      clear X
      have L' := Lib.hid (below_setRow (L.out.alloc L.out.size (.cells (cellsOf .u8 (mk 16 zeroK)) 23)) (g := w5.heap.size) (by omega) (cellsOf .u8 (mk 16 (zeroK))))
      clear L
      have L := L'
      clear L'
      have A10 := Lib.hid ((IntBlk.new w5 .u8 23 (mk 16 zeroK)).setRow .u8 (mk 16 (zeroK)))
      go_wp2_with (first
        | (refine store_row_on rfl 23 _ _ rfl rfl (w5.heap.size) (cellsOf .u8 (mk 16 (zeroK))) rfl rfl 23 (cellsOf .u8 (mk 16 (zeroK))) (IntBlk.new w5 .u8 23 (mk 16 zeroK)) (keySize _) (by first | rfl | rw [cellsOf_size, cellsOf_size, mk_len, mk_len]) (cellsOf_one _ _) ?_)
        | (refine wpList_load_row rfl 23 _ rfl (w.heap.size) rfl 23 (cellsOf .u8 (mk 16 (f))) (0, 0) _ A3.out keyUnder rfl (keySize _) ?_)
        | fail)
      refine (Open_bad p n cap f h16 h32 _).mono ?_
      rintro e w6 ⟨rfl, hb⟩
      have X := Lib.hid (A3.out.below hb A3.out.lt)
      clear A3
      have A3 := X
      clear X
      have X := Lib.hid (A10.out.below hb A10.out.lt)
      clear A10
      have A10 := X
      clear X
      have L' := Lib.hid (L.out.trans (hb.mono L.out.size))
      clear L
      have L := L'
      clear L'
      clear hb
      have hsA12 : w.heap.size < w6.heap.size := A3.out.lt
      have X := Lib.hid ((A3.out.alloc (.cells (cellsOf .u8 (mk 16 zeroK)) 23)).otherRow (C := w6.heap.size) (by have := A3.out.lt; omega) (cellsOf .u8 (mk 16 (zeroK))))
      clear A3
      have A3 := X
      clear X
      have X := Lib.hid ((A10.out.alloc (.cells (cellsOf .u8 (mk 16 zeroK)) 23)).otherRow (C := w6.heap.size) (by have := A10.out.lt; omega) (cellsOf .u8 (mk 16 (zeroK))))
      clear A10
      have A10 := X
      clear X
      have L' := Lib.hid (below_setRow (L.out.alloc L.out.size (.cells (cellsOf .u8 (mk 16 zeroK)) 23)) (g := w6.heap.size) (by omega) (cellsOf .u8 (mk 16 (zeroK))))
      clear L
      have L := L'
      clear L'
      have A12 := Lib.hid ((IntBlk.new w6 .u8 23 (mk 16 zeroK)).setRow .u8 (mk 16 (zeroK)))
      go_wp2_with (first
        | (refine store_row_on rfl 23 _ _ rfl rfl (w6.heap.size) (cellsOf .u8 (mk 16 (zeroK))) rfl rfl 23 (cellsOf .u8 (mk 16 (zeroK))) (IntBlk.new w6 .u8 23 (mk 16 zeroK)) (keySize _) (by first | rfl | rw [cellsOf_size, cellsOf_size, mk_len, mk_len]) (cellsOf_one _ _) ?_)
        | fail)
      refine (refRounds_bad p n cap h16 h32 _).mono ?_
      rintro e w7 ⟨rfl, hw7⟩
      subst hw7
      go_wp2_with (first
        | (go_at_call 21; refine (Is_key _).mono ?_; rintro e w' ⟨rfl, rfl⟩)
        | (refine wpList_load_want rfl _ rfl w5.heap.size zeroK rfl A10.out ?_)
        | (refine wpList_load_want rfl _ rfl w6.heap.size zeroK rfl A12.out ?_)
        | (refine wpList_zero_want rfl rfl ?_)
        | (refine wpList_eql_want rfl _ _ rfl zeroK rfl rfl ?_))
      go_ret
      exact ⟨rfl, L.out⟩

theorem laidOut : laidOutB Try.prog = true := by kernel_rfl
set_option maxRecDepth 100000 in
theorem lifted (os : Os) (started : os.Started) (H : Type) (enc : TypeId × Value → H) :
    ReturnsInHanded {} Try.checked os 8 .any (Rows.cipherSealsSpec.pre6 enc Try.prog Try.f8 Rows.cipherSealsRow.domain false) (Rows.cipherSealsSpec.post enc Try.prog Try.f8 false true false false) := by
  refine returnsInHanded_of_change (C := Try.checked) own started (by kernel_rfl) Try.func8
    (ChangeSpec.witness6 (enc := enc) (C := Try.checked) false ⟨#[], #[.slice none 0 0, .agg #[.int .u8 0, .int .u8 0, .int .u8 0, .int .u8 0, .int .u8 0, .int .u8 0, .int .u8 0, .int .u8 0, .int .u8 0, .int .u8 0, .int .u8 0, .int .u8 0, .int .u8 0, .int .u8 0, .int .u8 0, .int .u8 0]], []⟩ 8 (by kernel_rfl) (by kernel_rfl) (by kernel_rfl) (by kernel_rfl)) ?_
  intro W base args ds gs before hval0 hW hcnd _
  have hval : ∀ (j : Nat) t v, Try.f8.params[j]? = some t → args[j]? = some v → Value.okWide Try.prog W .any base t v := hval0
  have hW' := hW
  obtain ⟨p, q, hA0, hV, rfl, hfz, hnd⟩ := hW
  have hA : DataW.TrodAll enc Try.prog W 0 (fun _ => true) true Try.f8.params.toList args.toList ds p := hA0
  rw [Try.params8] at hA hval
  obtain ⟨v0, vs0, d0, ds0, p0, q0, hargs, rfl, rfl, h0, r0⟩ := trodAll_cons hA
  obtain ⟨v1, vs1, d1, ds1, p1, q1, rfl, rfl, rfl, h1, r1⟩ := trodAll_cons r0
  obtain ⟨rfl, rfl, rfl⟩ := trodAll_nil r1
  obtain rfl : args = #[v0, v1] := by cases args; simp_all
  obtain ⟨rfl, rfl⟩ := trodVars_none hV
  have k0 := h0
  have lt0 : ∀ x ∈ p0, x.block < W.heap.size := by obtain ⟨m, hm⟩ := k0; exact DataW.trod_lt m _ _ _ hm
  obtain ⟨q0, n0, c0, a0, rfl, w0, y0, l0, m0⟩ := open_byteslice (hval 0 29 v0 rfl rfl) h0
  have k1 := h1
  have lt1 : ∀ x ∈ p1, x.block < W.heap.size := by obtain ⟨m, hm⟩ := k1; exact DataW.trod_lt m _ _ _ hm
  obtain ⟨a1, w1, rfl⟩ := open_bytes Try.underlying23 Try.underlying5 (by kernel_rfl) (by kernel_rfl) (hval 1 23 v1 rfl rfl) h1
  clear hA0 hval0
  refine (walk q0 n0 c0 a0 a1 w0 l0 m0 w1 W y0).mono fun e W' ⟨he, bel⟩ => ?_
  subst he
  exact ⟨_, rfl, _, _, _, [], _, [], hW', trodAll_mk1 (shut_bool Try.underlying4 _), (trodAll_cons_mk (Below.trod laidOut (by kernel_rfl) (of_decide_eq_true (by kernel_rfl)) k0 bel lt0) (trodAll_cons_mk (Below.trod laidOut (by kernel_rfl) (of_decide_eq_true (by kernel_rfl)) k1 bel lt1) trodAll_mk0)), rfl, bel.frame _, fun h => by cases h⟩

theorem over : Rows.cipherSealsRow.holds Try.pinned (OpenSpec.ofChange Rows.cipherSealsSpec) :=
  OpenClaim.holds_of_wide 8 Try.f8 rfl rfl rfl rfl rfl rfl rfl ⟨rfl, rfl, rfl, rfl, rfl⟩ rfl rfl rfl rfl rfl (by kernel_rfl) Try.func8 (by kernel_rfl)
    (of_decide_eq_true (by kernel_rfl)) (by unfold Func.isWrapper; first | (rw [if_pos (by decide +kernel)]; kernel_rfl) | (rw [if_neg (by decide +kernel)]; exact ⟨rfl, rfl⟩))
    (fun os started H enc _ => lifted os started H enc)

theorem proved : Rows.CipherSealsSaid := over
end Go.Proofs.Ytilfjmpoiiepkaa.cipherSeals
