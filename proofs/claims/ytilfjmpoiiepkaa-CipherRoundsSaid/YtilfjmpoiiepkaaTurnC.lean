/- The contract of package cipher's turn: it answers what the word ahead adds, and writes nothing that was there. Conditions: the word's bytes are bytes; a key has at least one word. -/
import Derived.Test.YtilfjmpoiiepkaaRoundsNum
import Derived.Test.YtilfjmpoiiepkaaSubK
import Derived.Test.YtilfjmpoiiepkaaAddC
import Derived.Test.YtilfjmpoiiepkaaTailQ
import Derived.Test.YtilfjmpoiiepkaaQuietC
namespace Go.Proofs.Ytilfjmpoiiepkaa
open Go.ChangeShapes Go.WideShapes Go.ChangeAt Go.RowKit

theorem subWord_k (f : Nat → Nat) (hf : IsWord f) (w : World) : Calls Try.prog 53 #[.agg (cellsOf .u8 (mk 4 f))] w fun e w' => e = .returned (.agg (cellsOf .u8 (mk 4 (subK f)))) ∧ Below w.heap.size w w' := SubWord_any f hf w
theorem call_rotate (args : Array Value) (w : World) : (callFunc 54 args).run Try.prog w = .ok (.enter 54 args) w := by simp [go_sem]
theorem call_subword (args : Array Value) (w : World) : (callFunc 53 args).run Try.prog w = .ok (.enter 53 args) w := by simp [go_sem]
theorem call_constant (args : Array Value) (w : World) : (callFunc 55 args).run Try.prog w = .ok (.enter 55 args) w := by simp [go_sem]
theorem call_add (args : Array Value) (w : World) : (callFunc 47 args).run Try.prog w = .ok (.enter 47 args) w := by simp [go_sem]
theorem quiet_int_quo {o : Oper} {a : Act} {C : World → Prop} {K : Act → Prop} (x y : Operand) (ho : o.op = .binOp .quo 3 x y 3) (i j r : Int) (hx : a.eval x = .int .i64 i) (hy : a.eval y = .int .i64 j) (hj : j ≠ 0)
    (h : IntKind.i64.wrap (i.tdiv j) = r) (hk : K (a.put o.dst (.int .i64 r))) : o.quiet Try.prog a C K := by
  refine quiet_value _ (fun w _ => ?_) hk
  unfold execOp
  simp only [ho, hx, hy]
  simp [go_sem, h, hj]
attribute [local irreducible] subK turnK xorK oneK conN

set_option maxRecDepth 100000 in
set_option maxHeartbeats 2000000 in
theorem turn_any (f : Nat → Nat) (hf : IsWord f) (i n : Nat) (hn : 0 < n) (hn2 : n < 1000) (hi : i < 4294967296) (w : World) :
    Calls Try.prog 48 #[.agg (cellsOf .u8 (mk 4 f)), .int .i64 i, .int .i64 n] w fun e w' => e = .returned (.agg (cellsOf .u8 (mk 4 (tnK n i f)))) ∧ Below w.heap.size w w' := by
  have nz2 : ¬ ((n : Int) = 0) := by omega
  have q0 : IntKind.i64.wrap ((i : Int).tdiv (n : Int)) = ((i / n : Nat) : Int) := by
    rw [Int.tdiv_eq_ediv_of_nonneg (by omega)]
    have h1 : i / n ≤ i := Nat.div_le_self _ _
    rw [show (i : Int) / (n : Int) = ((i / n : Nat) : Int) by simp]
    generalize i / n = q at *
    exact IntWalk.i64_in _ (by omega)
  have A1 := (IntBlk.new w .u8 26 (mk 4 f)).alloc (.cells (cellsOf .u8 (mk 4 zeroK)) 26)
  have Z1 := blk_two w .u8 26 (mk 4 zeroK) (.cells (cellsOf .u8 (mk 4 f)) 26)
  have L1 := below_two w (.cells (cellsOf .u8 (mk 4 f)) 26) (.cells (cellsOf .u8 (mk 4 zeroK)) 26)
  have HA := Lib.hid A1
  have HZ := Lib.hid Z1
  have HL := Lib.hid L1
  clear A1 Z1 L1
  by_cases h0 : i % n = 0
  · have t0 : ((i : Int) % (n : Int) == 0) = true := by
      have : (i : Int) % (n : Int) = ((i % n : Nat) : Int) := by simp
      rw [this, h0]; rfl
    rw [tnK_turn f h0]
    have k1 := turnK_word hf
    have k2 := subK_word k1
    have k3 := oneK_word (conN_lt ((i / n : Nat) : Int))
    clear h0
    go_enter Try.func48, Try.ntmps48
    go_wp2
    change Code.wp _ _ _ _ ((w.alloc (.cells (cellsOf .u8 (mk 4 f)) 26)).alloc (.cells (cellsOf .u8 (mk 4 zeroK)) 26))
    have BA := HA.out
    have BZ := HZ.out
    have BL := HL.out
    clear HA HZ HL
    generalize (w.alloc (.cells (cellsOf .u8 (mk 4 f)) 26)).alloc (.cells (cellsOf .u8 (mk 4 zeroK)) 26) = W0 at *
    have AC := Lib.hid (fun (w' : World) (h : Below W0.heap.size W0 w') => BA.below h BA.lt)
    have ZC := Lib.hid (fun (w' : World) (h : Below W0.heap.size W0 w') => BZ.below h BZ.lt)
    have LC := Lib.hid (fun (w' : World) (h : Below W0.heap.size W0 w') => BL.trans (h.mono BL.size))
    clear BA BZ BL
    refine wp_region_class_tail 8 (fun w' => Below W0.heap.size W0 w') (by kernel_rfl) (by kernel_rfl) ((Below.refl _ _).drew) ?_
    simp only [List.take_succ_cons, List.take_zero, List.drop_succ_cons, List.drop_zero]
    iterate 8 (first
      | go_big_quiet_skip
      | (go_big_quiet_want
         first
           | (go_big_quiet_op; go_big_quiet_on)
           | ((first
               | (refine quiet_word_load _ rfl w.heap.size f rfl AC.out ?_)
               | (refine quiet_int_quo _ _ rfl (i : Int) (n : Int) ((i / n : Nat) : Int) rfl rfl nz2 q0 ?_)
               | (refine quiet_word _ _ _ rfl 54 rfl f rfl (turnK f) call_rotate (class_of (Rotate_any f)) ?_)
               | (refine quiet_word _ _ _ rfl 53 rfl (turnK f) rfl (subK (turnK f)) call_subword (class_of (subWord_k _ k1)) ?_)
               | (refine quiet_int _ _ _ rfl 55 rfl ((i / n : Nat) : Int) rfl _ call_constant (class_of (Constant_any ((i / n : Nat) : Int))) ?_)
               | (refine quiet_words _ _ _ _ rfl 47 rfl (subK (turnK f)) rfl (oneK (conN ((i / n : Nat) : Int))) rfl _ call_add (class_of (add_any _ _ k2 k3)) ?_)); go_simp; go_big_quiet_on)))
    refine wpQuiet_nil ?_
    intro w1 hw1
    have HZ := Lib.hid (ZC.out _ hw1)
    have HL := Lib.hid (LC.out _ hw1); clear hw1 AC ZC LC
    go_wp2_with (refine wpList_store_row rfl 26 _ _ rfl (w.heap.size + 1) _ rfl rfl 26 (cellsOf .u8 (mk 4 zeroK)) HZ.out (wordSize _) (by rw [cellsOf_size, cellsOf_size, mk_len, mk_len]) (cellsOf_one _ _) ?_)
    refine bodyPost_ret (results_cell_row rfl _ _ (w.heap.size + 1) 26 (cellsOf .u8 (mk 4 (xorK (subK (turnK f)) (oneK (conN ((i / n : Nat) : Int)))))) (0, 0) _ rfl (HZ.out.setRow .u8 (mk 4 (xorK (subK (turnK f)) (oneK (conN ((i / n : Nat) : Int)))))) wordUnder rfl (wordSize _)) rfl ⟨rfl, below_setRow HL.out (by omega) _⟩
  · have t0 : ((i : Int) % (n : Int) == 0) = false := by
      have : (i : Int) % (n : Int) = ((i % n : Nat) : Int) := by simp
      rw [this]; simp only [beq_eq_false_iff_ne, ne_eq]; omega
    by_cases h8 : n = 8 ∧ i % 8 = 4
    · rw [tnK_sub f h0 h8]
      have n8 : ((n : Int) == 8) = true := by simp; omega
      have i8 : ((i : Int) % 8 == 4) = true := by simp; omega
      clear h0 h8
      go_enter Try.func48, Try.ntmps48
      go_wp2_with (first
        | (refine wpList_load_row rfl 26 _ rfl w.heap.size rfl 26 (cellsOf .u8 (mk 4 f)) (0, 0) _ HA.out wordUnder rfl (wordSize f) ?_)
        | fail)
      refine (subWord_k f hf _).mono ?_
      rintro e w1 ⟨rfl, hb⟩
      have HZ1 := Lib.hid (HZ.out.below hb HZ.out.lt)
      have HL1 := Lib.hid (HL.out.trans (hb.mono HL.out.size))
      clear hb HA HZ HL
      go_wp2_with (refine wpList_store_row rfl 26 _ _ rfl (w.heap.size + 1) _ rfl rfl 26 (cellsOf .u8 (mk 4 zeroK)) HZ1.out (wordSize _) (by rw [cellsOf_size, cellsOf_size, mk_len, mk_len]) (cellsOf_one _ _) ?_)
      refine bodyPost_ret (results_cell_row rfl _ _ (w.heap.size + 1) 26 (cellsOf .u8 (mk 4 (subK f))) (0, 0) _ rfl (HZ1.out.setRow .u8 (mk 4 (subK f))) wordUnder rfl (wordSize _)) rfl ⟨rfl, below_setRow HL1.out (by omega) _⟩
    · rw [tnK_same f h0 h8]
      by_cases n8 : n = 8
      · have b8 : ((n : Int) == 8) = true := by simp; omega
        have i8 : ((i : Int) % 8 == 4) = false := by simp; omega
        clear h0 h8 n8
        go_enter Try.func48, Try.ntmps48
        go_wp2_with (first
          | (refine wpList_load_row rfl 26 _ rfl w.heap.size rfl 26 (cellsOf .u8 (mk 4 f)) (0, 0) _ HA.out wordUnder rfl (wordSize f) ?_)
          | (refine wpList_store_row rfl 26 _ _ rfl (w.heap.size + 1) _ rfl rfl 26 (cellsOf .u8 (mk 4 zeroK)) HZ.out (wordSize _) (by rw [cellsOf_size, cellsOf_size, mk_len, mk_len]) (cellsOf_one _ _) ?_))
        refine bodyPost_ret (results_cell_row rfl _ _ (w.heap.size + 1) 26 (cellsOf .u8 (mk 4 f)) (0, 0) _ rfl (HZ.out.setRow .u8 (mk 4 f)) wordUnder rfl (wordSize _)) rfl ⟨rfl, below_setRow HL.out (by omega) _⟩
      · have b8 : ((n : Int) == 8) = false := by simp; omega
        clear h0 h8 n8
        go_enter Try.func48, Try.ntmps48
        go_wp2_with (first
          | (refine wpList_load_row rfl 26 _ rfl w.heap.size rfl 26 (cellsOf .u8 (mk 4 f)) (0, 0) _ HA.out wordUnder rfl (wordSize f) ?_)
          | (refine wpList_store_row rfl 26 _ _ rfl (w.heap.size + 1) _ rfl rfl 26 (cellsOf .u8 (mk 4 zeroK)) HZ.out (wordSize _) (by rw [cellsOf_size, cellsOf_size, mk_len, mk_len]) (cellsOf_one _ _) ?_))
        refine bodyPost_ret (results_cell_row rfl _ _ (w.heap.size + 1) 26 (cellsOf .u8 (mk 4 f)) (0, 0) _ rfl (HZ.out.setRow .u8 (mk 4 f)) wordUnder rfl (wordSize _)) rfl ⟨rfl, below_setRow HL.out (by omega) _⟩
end Go.Proofs.Ytilfjmpoiiepkaa
