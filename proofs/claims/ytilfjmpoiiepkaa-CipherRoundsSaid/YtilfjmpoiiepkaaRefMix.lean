/- The contracts of package citadelref03's mul and Mix: each answers what the plain functions say, and writes nothing that was there. Condition: the arguments' bytes are bytes. -/
import Derived.Test.YtilfjmpoiiepkaaMixC
import Derived.Test.YtilfjmpoiiepkaaTailQ
import Derived.Test.YtilfjmpoiiepkaaRef1
namespace Go.Proofs.Ytilfjmpoiiepkaa
open Go.ChangeShapes Go.WideShapes Go.ChangeAt Go.RowKit

/-- Two bytes added. -/
theorem quiet_byte_xor {o : Oper} {a : Act} {C : World → Prop} {K : Act → Prop} (x y : Operand) (ho : o.op = .binOp .xor 5 x y 5) (b c : Nat)
    (hx : a.eval x = .int .u8 b) (hy : a.eval y = .int .u8 c) (hb : b < 256) (hc : c < 256) (hk : K (a.put o.dst (.int .u8 (b ^^^ c : Nat)))) : o.quiet Try.prog a C K := by
  refine quiet_value _ (fun w _ => ?_) hk
  have e := bits_xor_u8 hb hc
  unfold execOp
  simp only [ho, hx, hy]
  simp [go_sem, e]
/-- A call of a function of two bytes. -/
theorem quiet_bytes {o : Oper} {a : Act} {C : World → Prop} {K : Act → Prop} (x y z : Operand) (ts : Array TypeId) (ho : o.op = .call { callee := .value x, args := #[y, z], argTypes := ts }) (g : FuncId) (hx : a.eval x = .func (.func g) #[] #[])
    (b c : Nat) (hy : a.eval y = .int .u8 b) (hz : a.eval z = .int .u8 c) (r : Nat) (hf : ∀ (args : Array Value) (w : World), (callFunc g args).run Try.prog w = .ok (.enter g args) w)
    (hc : ∀ w, C w → Calls Try.prog g #[.int .u8 b, .int .u8 c] w fun e w' => e = .returned (.int .u8 (r : Nat)) ∧ C w') (hk : K (a.put o.dst (.int .u8 (r : Nat)))) : o.quiet Try.prog a C K :=
  quiet_calls x #[y, z] ts ho g _ _ hx (by simp only [List.map_toArray, List.map_cons, List.map_nil, hy, hz]) (fun w => hf _ w) hc hk

theorem refmul_any (x y : Nat) (hx : x < 256) (hy : y < 256) (w : World) :
    Calls Try.prog 33 #[.int .u8 (x : Int), .int .u8 (y : Int)] w fun e w' => e = .returned (.int .u8 (mul x y : Nat)) ∧ Below w.heap.size w w' := by
  have hm : mulI (x : Int) (y : Int) = (mul x y : Nat) := by simp [mulI]
  go_enter Try.func33, Try.ntmps33
  go_wp2_with (go_at_call 46; refine (refMul_any _ _ (by omega) (by omega) (by omega) (by omega) _).mono ?_; rintro e w' ⟨rfl, hb⟩)
  go_ret
  exact ⟨rfl, hb⟩
theorem call_refmul (args : Array Value) (w : World) : (callFunc 33 args).run Try.prog w = .ok (.enter 33 args) w := by simp [go_sem]

def rmK (f : Nat → Nat) (i : Nat) : Nat :=
  if i = 0 then ((mul (f 0) 2 ^^^ mul (f 1) 3) ^^^ f 2) ^^^ f 3
  else if i = 1 then ((f 0 ^^^ mul (f 1) 2) ^^^ mul (f 2) 3) ^^^ f 3
  else if i = 2 then ((f 0 ^^^ f 1) ^^^ mul (f 2) 2) ^^^ mul (f 3) 3
  else ((mul (f 0) 3 ^^^ f 1) ^^^ f 2) ^^^ mul (f 3) 2
theorem mul_one_is (x : Nat) : mul x 1 = x := mul_one'
theorem rmK_is (f : Nat → Nat) : mk 4 (rmK f) = mk 4 (mixK f) := by
  refine mk_ext fun i hi => ?_
  rcases (show i = 0 ∨ i = 1 ∨ i = 2 ∨ i = 3 by omega) with rfl | rfl | rfl | rfl <;>
    simp [rmK, mixK, mxK, mxS, facM, mul_one_is]
attribute [local irreducible] mul

set_option maxRecDepth 100000 in
set_option maxHeartbeats 4000000 in
theorem refMix_any (f : Nat → Nat) (hf : IsWord f) (w : World) :
    Calls Try.prog 15 #[.agg (cellsOf .u8 (mk 4 f))] w fun e w' => e = .returned (.agg (cellsOf .u8 (mk 4 (mixK f)))) ∧ Below w.heap.size w w' := by
  rw [← rmK_is]
  have h0 := hf 0 (by omega)
  have h1 := hf 1 (by omega)
  have h2 := hf 2 (by omega)
  have h3 := hf 3 (by omega)
  go_enter Try.func15, Try.ntmps15
  go_wp2
  have BA : IntBlk ((w.alloc (.cells (cellsOf .u8 (mk 4 f)) 26)).alloc (.cells (cellsOf .u8 (mk 4 zeroK)) 26)) w.heap.size .u8 26 (mk 4 f) := (IntBlk.new w .u8 26 (mk 4 f)).alloc _
  have BB : IntBlk ((w.alloc (.cells (cellsOf .u8 (mk 4 f)) 26)).alloc (.cells (cellsOf .u8 (mk 4 zeroK)) 26)) (w.heap.size + 1) .u8 26 (mk 4 zeroK) := blk_two w .u8 26 (mk 4 zeroK) _
  have BW := below_two w (.cells (cellsOf .u8 (mk 4 f)) 26) (.cells (cellsOf .u8 (mk 4 zeroK)) 26)
  have BS : w.heap.size ≤ ((w.alloc (.cells (cellsOf .u8 (mk 4 f)) 26)).alloc (.cells (cellsOf .u8 (mk 4 zeroK)) 26)).heap.size := by simp; omega
  change Code.wp _ _ _ _ ((w.alloc (.cells (cellsOf .u8 (mk 4 f)) 26)).alloc (.cells (cellsOf .u8 (mk 4 zeroK)) 26))
  generalize (w.alloc (.cells (cellsOf .u8 (mk 4 f)) 26)).alloc (.cells (cellsOf .u8 (mk 4 zeroK)) 26) = W0 at *
  have BC : ∀ k, k < 4 → ∀ w', Below W0.heap.size W0 w' → w'.cell? ⟨w.heap.size, k, none⟩ = some (.int .u8 (f k)) := fun k hk w' h => by
    have := (BA.below h BA.lt).cell (i := k) (by rw [mk_len]; exact hk)
    rwa [mk_get hk] at this
  have HC := Lib.hid BC
  have HB := Lib.hid (fun (w' : World) (h : Below W0.heap.size W0 w') => BB.below h BB.lt)
  have HW := Lib.hid BW
  clear BA BB BW BC
  refine wp_region_class_tail 53 (fun w' => Below W0.heap.size W0 w') (by kernel_rfl) (by kernel_rfl) ((Below.refl _ _).drew) ?_
  simp only [List.take_succ_cons, List.take_zero, List.drop_succ_cons, List.drop_zero]
  iterate 53 (first
    | go_big_quiet_skip
    | (go_big_quiet_want
       first
         | (go_big_quiet_op; go_big_quiet_on)
         | ((first
             | (refine quiet_place 26 4 _ _ rfl wordUnder w.heap.size 0 rfl rfl (by omega) ?_)
             | (refine quiet_place 26 4 _ _ rfl wordUnder w.heap.size 1 rfl rfl (by omega) ?_)
             | (refine quiet_place 26 4 _ _ rfl wordUnder w.heap.size 2 rfl rfl (by omega) ?_)
             | (refine quiet_place 26 4 _ _ rfl wordUnder w.heap.size 3 rfl rfl (by omega) ?_)
             | (refine quiet_byte_load _ rfl w.heap.size 0 _ rfl (HC.out 0 (by omega)) ?_)
             | (refine quiet_byte_load _ rfl w.heap.size 1 _ rfl (HC.out 1 (by omega)) ?_)
             | (refine quiet_byte_load _ rfl w.heap.size 2 _ rfl (HC.out 2 (by omega)) ?_)
             | (refine quiet_byte_load _ rfl w.heap.size 3 _ rfl (HC.out 3 (by omega)) ?_)
             | (refine quiet_bytes _ _ _ _ rfl 33 rfl _ 2 rfl rfl _ call_refmul (class_of (refmul_any _ _ (by assumption) (by omega))) ?_)
             | (refine quiet_bytes _ _ _ _ rfl 33 rfl _ 3 rfl rfl _ call_refmul (class_of (refmul_any _ _ (by assumption) (by omega))) ?_)
             | (refine quiet_byte_xor _ _ rfl _ _ rfl rfl (by repeat (first | assumption | apply xor_lt | apply mul_lt)) (by repeat (first | assumption | apply xor_lt | apply mul_lt)) ?_)
             | (refine quiet_built 26 _ rfl _ rfl 4 (rmK f) (by kernel_rfl) ?_)); go_simp; go_big_quiet_on)))
  refine wpQuiet_nil ?_
  intro w1 hw1
  have HZ := Lib.hid (HB.out _ hw1)
  have H1 := Lib.hid (HW.out.trans (hw1.mono BS)); clear hw1 HB HC
  go_wp2_with (refine wpList_store_row rfl 26 _ _ rfl (w.heap.size + 1) _ rfl rfl 26 (cellsOf .u8 (mk 4 zeroK)) HZ.out (wordSize _) (by rw [cellsOf_size, cellsOf_size, mk_len, mk_len]) (cellsOf_one _ _) ?_)
  refine bodyPost_ret (results_cell_row rfl _ _ (w.heap.size + 1) 26 (cellsOf .u8 (mk 4 (rmK f))) (0, 0) _ rfl (HZ.out.setRow .u8 (mk 4 (rmK f))) wordUnder rfl (wordSize _)) rfl ⟨rfl, below_setRow H1.out (by omega) _⟩
end Go.Proofs.Ytilfjmpoiiepkaa
