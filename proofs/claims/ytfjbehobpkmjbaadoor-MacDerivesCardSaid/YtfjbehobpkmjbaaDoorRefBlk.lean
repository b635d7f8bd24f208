/- The contract of the document's Block: a stream's block. Conditions: the number is from 1 to 2^31; the key and the label have no more than 70000 bytes. -/
import Derived.Test.YtfjbehobpkmjbaaDoorStrmC
import Derived.Test.YtfjbehobpkmjbaaDoorMacRef
namespace Go.Proofs.YtfjbehobpkmjbaaDoor
open Go.ChangeShapes Go.WideShapes Go.ChangeAt Go.RowKit
set_option linter.unusedVariables false

theorem append_own_str {base top : Nat} {w : World} {v : Value} {k : Nat} {F : Nat → Nat} (h : OwnS 5 1 w base top v k F) (s : ByteArray) (hf : ∀ j, j < s.size → sB s j = F (k + j)) (hk : k + s.size ≤ 100000) (hbase : base ≤ w.heap.size) (ty : TypeId) :
    ∃ v' w', (Builtin.append_ #[22, 9] ty #[v, .string s]).run Tryd.prog w = .ok v' w' ∧ OwnS 5 1 w' base w'.heap.size v' (k + s.size) F ∧ Below base w w' := by
  have hi := byteInfo
  have hz := byteZero1
  have hb := byteBytes1
  cases hq : Tryd.prog.info? 5 with
  | none => rw [hq] at hi; simp at hi
  | some i =>
    rw [hq] at hi hz hb
    obtain ⟨v', w', hr, ho, hg, _⟩ := Lib.run_append_own_string (P := Tryd.prog) w base 22 9 ty 5 i bytesUnder stringUnder1 hq (by simpa using hz) (by simpa using hi) (by simpa using hb) v k (bytesList (k * 1) F) h.owns s (by simp only [maxLen]; omega) (by omega) hbase
    refine ⟨v', w', hr, OwnS.of_owns ?_, below_own hg (fun B hB => h.block B hB) hbase⟩
    have : bytesList (k * 1) F ++ Lib.strCells s = bytesList ((k + s.size) * 1) F := by
      rw [Nat.mul_one, Nat.mul_one]
      unfold bytesList Lib.strCells
      rw [List.range_add, List.map_append, List.map_map]
      congr 1
      apply List.ext_getElem?
      intro j
      by_cases hj : j < s.size
      · have hl : j < s.data.toList.length := by simpa using hj
        have := hf j hj
        simp [hj, sB] at this ⊢
        omega
      · rw [List.getElem?_eq_none (by simp; omega), List.getElem?_eq_none (by simp; omega)]
    rw [← this]; exact ho
theorem wpList_append_own_str {ops : Array Oper} {rest : List Oper} {o : Oper} {a : Act} {w : World} {Q : Exit → Act → World → Prop} (hgd : o.guard = none) (x y : Operand)
    (ho : o.op = .call { callee := .builtin .append, args := #[x, y], argTypes := #[22, 9] }) (base top k : Nat) (v : Value) (F : Nat → Nat) (s : ByteArray) (hs : a.eval x = v) (hx : a.eval y = .string s)
    (hv : OwnS 5 1 w base top v k F) (hf : ∀ j, j < s.size → sB s j = F (k + j)) (hk : k + s.size ≤ 100000) (hbase : base ≤ w.heap.size)
    (h : ∀ v' w', OwnS 5 1 w' base w'.heap.size v' (k + s.size) F → Below base w w' → wpList Tryd.prog ops Q rest (a.put o.dst v') w') : wpList Tryd.prog ops Q (o :: rest) a w := by
  obtain ⟨v', w', hr, h1, h2⟩ := append_own_str hv s hf hk hbase o.type
  refine wpList_plain hgd fun K hK => ?_
  unfold Oper.wp
  simp [execOp, ho, resolve, invoke, builtin, hs, hx, hr, Result.andThen]
  exact hK _ _ (h v' w' h1 h2)
theorem numB_bytes (i : Nat) (hi : i ≤ 2147483648) : (i : Int) / 16777216 = (numB i 0 : Nat) ∧ (i : Int) / 65536 % 256 = (numB i 1 : Nat) ∧ (i : Int) / 256 % 256 = (numB i 2 : Nat) ∧ (i : Int) % 256 = (numB i 3 : Nat) := by
  unfold numB; simp only [Nat.reduceSub, Nat.reducePow]
  refine ⟨?_, ?_, ?_, ?_⟩ <;> omega
theorem OwnS.four (w : World) (F : Nat → Nat) (base N : Nat) (hN : w.heap.size = N) (a b c d : Int) (hb : base ≤ N) (h0 : a = (F 0 : Nat)) (h1 : b = (F 1 : Nat)) (h2 : c = (F 2 : Nat)) (h3 : d = (F 3 : Nat)) : OwnS 5 1 (w.alloc (.cells #[.int .u8 a, .int .u8 b, .int .u8 c, .int .u8 d] 5)) base (N + 1) (.slice (some ⟨N, 0, none⟩) 4 4) 4 F := by
  subst hN
  exact .inr ⟨w.heap.size, 4, _, rfl, hb, by omega, heap_alloc_new _ _, Nat.le_refl _, by decide, rfl, by subst h0 h1 h2 h3; rfl⟩
attribute [local irreducible] numB digF pieK labB tagF cat2

set_option maxRecDepth 100000 in
set_option maxHeartbeats 1000000 in
theorem refBlock_any (p : Option Addr) (n cap : Nat) (g : Nat → Nat) (s : ByteArray) (i : Nat) (hn : n ≤ 70000) (hg : ∀ i, i < n → g i < 256) (hs : s.size ≤ 70000) (hi : 1 ≤ i ∧ i ≤ 2147483648) (w : World) (hp : BytesAt w p n g) :
    Calls Tryd.prog 21 #[.slice p n cap, .string s, .int .i64 i] w fun e w' => e = .returned (.agg (cellsOf .u8 (mk 32 (blkF (pieK n g) s (i - 1))))) ∧ Below w.heap.size w w' := by
  obtain ⟨q0, q1, q2, q3⟩ := numB_bytes i hi.2
  obtain ⟨m, hm⟩ : ∃ m, i = m + 1 := ⟨i - 1, by omega⟩
  have f0 : ∀ j, j < 4 → blkT s m j = numB i j := fun j hj => by unfold blkT; rw [cat2_low hj, hm]
  have f1 : ∀ j, j < s.size → sB s j = blkT s m (4 + j) := fun j hj => by unfold blkT; rw [cat2_high]; exact labB_head s j hj
  have f2 : blkT s m (4 + s.size) = 0 := by unfold blkT; rw [cat2_high]; unfold labB; rw [if_neg (by omega)]
  have hm1 : i - 1 = m := by omega
  rw [hm1]
  have F0 := Lib.hid f0; have F1 := Lib.hid f1; have F2 := Lib.hid f2
  clear f0 f1 f2 hm hm1
  have RT := Lib.hid (fun pt ct W hp ht => refTag_any p n cap g pt (4 + (s.size + 1)) ct (blkT s m) (by omega) hg (by omega) (blkT_lt s m) W hp ht)
  have HP := Lib.hid hp
  generalize hn0 : numB i 0 = b0 at *
  generalize hn1 : numB i 1 = b1 at *
  generalize hn2 : numB i 2 = b2 at *
  generalize hn3 : numB i 3 = b3 at *
  have N0 := Lib.hid hn0; have N1 := Lib.hid hn1; have N2 := Lib.hid hn2; have N3 := Lib.hid hn3
  clear hp hn0 hn1 hn2 hn3
  go_enter Tryd.func21, Tryd.ntmps21
  go_wp2_with (first
    | (refine wpList_append_own_str rfl (.tmp 20) (.tmp 21) rfl (w.heap.size + 1) (w.heap.size + 1 + 1) 4 (.slice (some ⟨w.heap.size + 1, 0, none⟩) 4 4) (blkT s m) s rfl rfl ?own F1.out (by omega) (by simp) ?_
       case own => exact OwnS.four _ _ _ (w.heap.size + 1) (by simp) _ _ _ _ (Nat.le_refl _) (by rw [F0.out 0 (by omega), N0.out]) (by rw [F0.out 1 (by omega), N1.out]) (by rw [F0.out 2 (by omega), N2.out]) (by rw [F0.out 3 (by omega), N3.out])
       intro v1 w1 hv1 hb1
       have b1 : Below w.heap.size w w1 := (below_two w _ _).trans (hb1.mono (by omega))
       have c1 : w.heap.size + 1 ≤ w1.heap.size := by have := hb1.size; simp at this; omega
       have z1 : IntBlk w1 w.heap.size .u8 30 (mk 32 zeroK) := (IntBlk.alloc (IntBlk.new w .u8 30 (mk 32 zeroK)) _).below hb1 (by omega)
       have HV1 := Lib.hid hv1; have HB1 := Lib.hid b1; have HC1 := Lib.hid c1; have HZ1 := Lib.hid z1
       clear hv1 hb1 b1 c1 z1)
    | (refine wpList_append_own_bytes rfl (.tmp 24) (.tmp 25) rfl (w.heap.size + 1) w1.heap.size (4 + s.size) v1 (blkT s m) (fun _ => 0) (some ⟨w1.heap.size, 0, none⟩) 1 1 rfl rfl (HV1.out.same ?sm) ?by1 (fun j hj => ?fj) (by omega) (by have := HC1.out; simp; omega) ?_
       case sm => exact fun B hB hB2 => Below.heap_alloc _ _ _ hB2
       case by1 =>
         refine .inr ⟨w1.heap.size, 0, rfl, by simp, fun j hj => ?_⟩
         obtain rfl : j = 0 := by omega
         exact cell_of_one (heap_alloc_new w1 (.cells #[.int .u8 0] 5))
       case fj => obtain rfl : j = 0 := by omega
                  exact F2.out.symm
       intro v2 w2 hv2 hb2
       have b2 : Below (w.heap.size + 1) w1 w2 := ((Below.refl _ w1).alloc HC1.out _).trans hb2
       obtain ⟨p2, c2, rfl, hc2, _, hB2, _⟩ := hv2.bytes (Nat.le_refl _)
       have HB2 := Lib.hid (HB1.out.trans (b2.mono (by omega)))
       have HZ2 := Lib.hid (HZ1.out.below b2 (by omega))
       have HY2 := Lib.hid hB2
       clear hv2 hB2 hb2 b2 HV1 HB1 HC1 HZ1)
    | (go_at_call 17
       refine (RT.out _ _ _ (HP.out.below HB2.out) HY2.out).mono ?_; rintro e w3 ⟨rfl, hb3⟩
       have HB3 := Lib.hid (HB2.out.trans (hb3.mono HB2.out.size))
       have HZ3 := Lib.hid (HZ2.out.below hb3 HZ2.out.lt)
       clear hb3 HB2 HZ2 HY2)
    | (refine store_row_on rfl 30 _ _ rfl rfl w.heap.size (cellsOf .u8 (mk 32 (tagF n g (4 + (s.size + 1)) (blkT s m)))) rfl rfl 30 (cellsOf .u8 (mk 32 zeroK)) HZ3.out (sumSize _) (by rw [cellsOf_size, cellsOf_size, mk_len, mk_len]) (cellsOf_one _ _) ?_))
  have he : blkF (pieK n g) s m = tagF n g (4 + (s.size + 1)) (blkT s m) := by unfold blkF; exact tagF_piece n g _ _
  exact bodyPost_ret (results_cell_row rfl _ _ w.heap.size 30 (cellsOf .u8 (mk 32 (tagF n g (4 + (s.size + 1)) (blkT s m)))) (0, 0) _ rfl (HZ3.out.setRow .u8 _) sumUnder rfl (sumSize _)) rfl ⟨by rw [he], below_setRow HB3.out (Nat.le_refl _) _⟩
end Go.Proofs.YtfjbehobpkmjbaaDoor
