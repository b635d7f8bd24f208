/- The contracts of package cipher's Seal and Open, of citadelnum's Num and Is at ErrKey, and of the law's own example: what each answers; and nothing is written that was there. Condition: the bytes are bytes. -/
import Derived.Test.YtilfjmpoiiepkaaRoundsC
import Derived.Test.YtilfjmpoiiepkaaDecC
import Derived.Laws.ResultCell
import Derived.Great.BuildSlice
namespace Go.Proofs.Ytilfjmpoiiepkaa
open Go.ChangeShapes Go.WideShapes Go.ChangeAt Go.RowKit

theorem results_cell_row_tmp {P : Program} {fn : Func} {p u : Tmp} {ty : TypeId} (h : fn.results = #[.cell p ty, .tmp u]) (tmps : Array Value) (w : World) (g : Nat) (t : TypeId) (cs : Array Value) (fr : Nat × Nat) (d : TypeDesc)
    (hp : tmps.getD p undef = .pointer (some ⟨g, 0, none⟩)) (hg : w.heap[g]? = some (.cells cs t fr)) (hu : P.underlying ty = some d) (hd : (match d with | .struct _ | .array _ _ => true | _ => false) = true) (hi : (P.info? ty).map (·.size) = some cs.size) :
    (results fn tmps).run P w = .ok (.tuple #[.agg cs, tmps.getD u undef]) w := by
  rw [results_cell_tmp h, hp]
  simp only [asAddr, Sem.run_pure, Result.andThen_ok, run_loadVar_row w g t ty cs fr d hg hu hd hi]
theorem zero_built : Try.prog.built 23 [] = some (cellsOf .u8 (mk 16 zeroK)) := by kernel_rfl
attribute [local irreducible] encK decK rkS

set_option maxRecDepth 100000 in
set_option maxHeartbeats 2000000 in
theorem withEnc_bad (p : Option Addr) (n cap : Nat) (f : Nat → Nat) (h16 : n ≠ 16) (h32 : n ≠ 32) (w : World) :
    Calls Try.prog 42 #[.slice p n cap, .agg (cellsOf .u8 (mk 16 f)), .func (.func 22) #[] #[]] w fun e w' => e = .returned (.tuple #[.agg (cellsOf .u8 (mk 16 zeroK)), .iface 40 (.int .i64 3)]) ∧ Below w.heap.size w w' := by
  have HZ := Lib.hid (blk_two w .u8 23 (mk 16 zeroK) (.cells (cellsOf .u8 (mk 16 f)) 23))
  have HL := Lib.hid (below_two w (.cells (cellsOf .u8 (mk 16 f)) 23) (.cells (cellsOf .u8 (mk 16 zeroK)) 23))
  go_enter Try.func42, Try.ntmps42
  go_wp2_with fail
  refine (Rounds_bad p n cap h16 h32 _).mono ?_
  rintro e w1 ⟨rfl, rfl⟩
  go_wp2_with (first
    | (refine store_row_on rfl 23 _ _ rfl rfl (w.heap.size + 1) (cellsOf .u8 (mk 16 zeroK)) rfl rfl 23 (cellsOf .u8 (mk 16 zeroK)) HZ.out (keySize _) rfl (cellsOf_one _ _) ?_))
  exact bodyPost_ret (results_cell_row_tmp rfl _ _ (w.heap.size + 1) 23 (cellsOf .u8 (mk 16 zeroK)) (0, 0) _ rfl (HZ.out.setRow .u8 (mk 16 zeroK)) keyUnder rfl (keySize _)) rfl ⟨rfl, below_setRow HL.out (by omega) _⟩

set_option maxRecDepth 100000 in
set_option maxHeartbeats 2000000 in
theorem withEnc_ok (p : Option Addr) (n cap N : Nat) (g f : Nat → Nat) (hn : n = 4 * N) (hN : N = 4 ∨ N = 8) (hcap : n ≤ cap) (hg : ∀ i, i < n → g i < 256) (hf : IsKey f) (w : World) (hp : BytesAt w p n g) :
    Calls Try.prog 42 #[.slice p n cap, .agg (cellsOf .u8 (mk 16 f)), .func (.func 22) #[] #[]] w fun e w' => e = .returned (.tuple #[.agg (cellsOf .u8 (mk 16 (encK (rkS N g) (N + 7) f))), .nilIface]) ∧ Below w.heap.size w w' := by
  have HA := Lib.hid ((IntBlk.new w .u8 23 (mk 16 f)).alloc (.cells (cellsOf .u8 (mk 16 zeroK)) 23))
  have HZ := Lib.hid (blk_two w .u8 23 (mk 16 zeroK) (.cells (cellsOf .u8 (mk 16 f)) 23))
  have HL := Lib.hid (below_two w (.cells (cellsOf .u8 (mk 16 f)) 23) (.cells (cellsOf .u8 (mk 16 zeroK)) 23))
  have RC := Lib.hid (fun W h => Rounds_ok p n cap N g hn hN hcap hg W h)
  have hr : ∀ i, i < N + 7 → IsKey (rkS N g i) := fun i _ => rkS_key (fun i hi => hg i (by omega)) i
  have hT : N + 7 < 4294967296 := by omega
  have HP := Lib.hid (hp.below HL.out)
  clear hn hN hcap hg hp
  generalize rkS N g = R at *
  generalize N + 7 = T at *
  go_enter Try.func42, Try.ntmps42
  go_wp2_with fail
  refine (RC.out _ HP.out).mono ?_
  rintro e w1 ⟨D, rfl, hk, hb⟩
  have A1 := Lib.hid (HA.out.below hb HA.out.lt)
  have Z1 := Lib.hid (HZ.out.below hb HZ.out.lt)
  have L1 := Lib.hid (HL.out.trans (hb.mono HL.out.size))
  clear HA HZ HL HP RC hb
  go_wp2_with (first
    | (refine wpList_load_row rfl 23 _ rfl w.heap.size rfl 23 (cellsOf .u8 (mk 16 f)) (0, 0) _ A1.out keyUnder rfl (keySize f) ?_)
    | fail)
  refine (Encrypt_any (some ⟨D, 0, none⟩) T T R f hr hf hT _ hk).mono ?_
  rintro e w2 ⟨rfl, hb⟩
  have Z2 := Lib.hid (Z1.out.below hb Z1.out.lt)
  have L2 := Lib.hid (L1.out.trans (hb.mono L1.out.size))
  clear A1 Z1 L1 hb hk
  go_wp2_with (first
    | (refine store_row_on rfl 23 _ _ rfl rfl (w.heap.size + 1) (cellsOf .u8 (mk 16 (encK R T f))) rfl rfl 23 (cellsOf .u8 (mk 16 zeroK)) Z2.out (keySize _) (by rw [cellsOf_size, cellsOf_size, mk_len, mk_len]) (cellsOf_one _ _) ?_))
  exact bodyPost_ret (results_cell_row_tmp rfl _ _ (w.heap.size + 1) 23 (cellsOf .u8 (mk 16 (encK R T f))) (0, 0) _ rfl (Z2.out.setRow .u8 (mk 16 (encK R T f))) keyUnder rfl (keySize _)) rfl ⟨rfl, below_setRow L2.out (by omega) _⟩

set_option maxRecDepth 100000 in
set_option maxHeartbeats 2000000 in
theorem Seal_via (p : Option Addr) (n cap : Nat) (f r : Nat → Nat) (v : Value) (w : World)
    (hc : ∀ W, Below w.heap.size w W → Calls Try.prog 42 #[.slice p n cap, .agg (cellsOf .u8 (mk 16 f)), .func (.func 22) #[] #[]] W fun e w' => e = .returned (.tuple #[.agg (cellsOf .u8 (mk 16 r)), v]) ∧ Below W.heap.size W w') :
    Calls Try.prog 26 #[.slice p n cap, .agg (cellsOf .u8 (mk 16 f))] w fun e w' => e = .returned (.tuple #[.agg (cellsOf .u8 (mk 16 r)), v]) ∧ Below w.heap.size w w' := by
  have HA := Lib.hid ((IntBlk.new w .u8 23 (mk 16 f)).alloc (.cells (cellsOf .u8 (mk 16 zeroK)) 23))
  have HZ := Lib.hid (blk_two w .u8 23 (mk 16 zeroK) (.cells (cellsOf .u8 (mk 16 f)) 23))
  have HL := Lib.hid (below_two w (.cells (cellsOf .u8 (mk 16 f)) 23) (.cells (cellsOf .u8 (mk 16 zeroK)) 23))
  have HC := Lib.hid hc
  clear hc
  go_enter Try.func26, Try.ntmps26
  go_wp2_with (first
    | (refine wpList_load_row rfl 23 _ rfl w.heap.size rfl 23 (cellsOf .u8 (mk 16 f)) (0, 0) _ HA.out keyUnder rfl (keySize f) ?_)
    | fail)
  refine (HC.out _ HL.out).mono ?_
  rintro e w1 ⟨rfl, hb⟩
  have Z1 := Lib.hid (HZ.out.below hb HZ.out.lt)
  have L1 := Lib.hid (HL.out.trans (hb.mono HL.out.size))
  clear HA HZ HL HC hb
  go_wp2_with (first
    | (refine store_row_on rfl 23 _ _ rfl rfl (w.heap.size + 1) (cellsOf .u8 (mk 16 r)) rfl rfl 23 (cellsOf .u8 (mk 16 zeroK)) Z1.out (keySize _) (by rw [cellsOf_size, cellsOf_size, mk_len, mk_len]) (cellsOf_one _ _) ?_))
  exact bodyPost_ret (results_cell_row_tmp rfl _ _ (w.heap.size + 1) 23 (cellsOf .u8 (mk 16 r)) (0, 0) _ rfl (Z1.out.setRow .u8 (mk 16 r)) keyUnder rfl (keySize _)) rfl ⟨rfl, below_setRow L1.out (by omega) _⟩
theorem Seal_bad (p : Option Addr) (n cap : Nat) (f : Nat → Nat) (h16 : n ≠ 16) (h32 : n ≠ 32) (w : World) :
    Calls Try.prog 26 #[.slice p n cap, .agg (cellsOf .u8 (mk 16 f))] w fun e w' => e = .returned (.tuple #[.agg (cellsOf .u8 (mk 16 zeroK)), .iface 40 (.int .i64 3)]) ∧ Below w.heap.size w w' :=
  Seal_via p n cap f zeroK _ w fun W _ => withEnc_bad p n cap f h16 h32 W
theorem Seal_ok (p : Option Addr) (n cap N : Nat) (g f : Nat → Nat) (hn : n = 4 * N) (hN : N = 4 ∨ N = 8) (hcap : n ≤ cap) (hg : ∀ i, i < n → g i < 256) (hf : IsKey f) (w : World) (hp : BytesAt w p n g) :
    Calls Try.prog 26 #[.slice p n cap, .agg (cellsOf .u8 (mk 16 f))] w fun e w' => e = .returned (.tuple #[.agg (cellsOf .u8 (mk 16 (encK (rkS N g) (N + 7) f))), .nilIface]) ∧ Below w.heap.size w w' :=
  Seal_via p n cap f (encK (rkS N g) (N + 7) f) _ w fun W h => withEnc_ok p n cap N g f hn hN hcap hg hf W (hp.below h)

set_option maxRecDepth 100000 in
set_option maxHeartbeats 2000000 in
theorem withDec_bad (p : Option Addr) (n cap : Nat) (f : Nat → Nat) (h16 : n ≠ 16) (h32 : n ≠ 32) (w : World) :
    Calls Try.prog 42 #[.slice p n cap, .agg (cellsOf .u8 (mk 16 f)), .func (.func 24) #[] #[]] w fun e w' => e = .returned (.tuple #[.agg (cellsOf .u8 (mk 16 zeroK)), .iface 40 (.int .i64 3)]) ∧ Below w.heap.size w w' := by
  have HZ := Lib.hid (blk_two w .u8 23 (mk 16 zeroK) (.cells (cellsOf .u8 (mk 16 f)) 23))
  have HL := Lib.hid (below_two w (.cells (cellsOf .u8 (mk 16 f)) 23) (.cells (cellsOf .u8 (mk 16 zeroK)) 23))
  go_enter Try.func42, Try.ntmps42
  go_wp2_with fail
  refine (Rounds_bad p n cap h16 h32 _).mono ?_
  rintro e w1 ⟨rfl, rfl⟩
  go_wp2_with (first
    | (refine store_row_on rfl 23 _ _ rfl rfl (w.heap.size + 1) (cellsOf .u8 (mk 16 zeroK)) rfl rfl 23 (cellsOf .u8 (mk 16 zeroK)) HZ.out (keySize _) rfl (cellsOf_one _ _) ?_))
  exact bodyPost_ret (results_cell_row_tmp rfl _ _ (w.heap.size + 1) 23 (cellsOf .u8 (mk 16 zeroK)) (0, 0) _ rfl (HZ.out.setRow .u8 (mk 16 zeroK)) keyUnder rfl (keySize _)) rfl ⟨rfl, below_setRow HL.out (by omega) _⟩

set_option maxRecDepth 100000 in
set_option maxHeartbeats 2000000 in
theorem withDec_ok (p : Option Addr) (n cap N : Nat) (g f : Nat → Nat) (hn : n = 4 * N) (hN : N = 4 ∨ N = 8) (hcap : n ≤ cap) (hg : ∀ i, i < n → g i < 256) (hf : IsKey f) (w : World) (hp : BytesAt w p n g) :
    Calls Try.prog 42 #[.slice p n cap, .agg (cellsOf .u8 (mk 16 f)), .func (.func 24) #[] #[]] w fun e w' => e = .returned (.tuple #[.agg (cellsOf .u8 (mk 16 (decK (rkS N g) (N + 7) f))), .nilIface]) ∧ Below w.heap.size w w' := by
  have HA := Lib.hid ((IntBlk.new w .u8 23 (mk 16 f)).alloc (.cells (cellsOf .u8 (mk 16 zeroK)) 23))
  have HZ := Lib.hid (blk_two w .u8 23 (mk 16 zeroK) (.cells (cellsOf .u8 (mk 16 f)) 23))
  have HL := Lib.hid (below_two w (.cells (cellsOf .u8 (mk 16 f)) 23) (.cells (cellsOf .u8 (mk 16 zeroK)) 23))
  have RC := Lib.hid (fun W h => Rounds_ok p n cap N g hn hN hcap hg W h)
  have hr : ∀ i, i < N + 7 → IsKey (rkS N g i) := fun i _ => rkS_key (fun i hi => hg i (by omega)) i
  have hT : N + 7 < 4294967296 := by omega
  have HP := Lib.hid (hp.below HL.out)
  clear hn hN hcap hg hp
  generalize rkS N g = R at *
  generalize N + 7 = T at *
  go_enter Try.func42, Try.ntmps42
  go_wp2_with fail
  refine (RC.out _ HP.out).mono ?_
  rintro e w1 ⟨D, rfl, hk, hb⟩
  have A1 := Lib.hid (HA.out.below hb HA.out.lt)
  have Z1 := Lib.hid (HZ.out.below hb HZ.out.lt)
  have L1 := Lib.hid (HL.out.trans (hb.mono HL.out.size))
  clear HA HZ HL HP RC hb
  go_wp2_with (first
    | (refine wpList_load_row rfl 23 _ rfl w.heap.size rfl 23 (cellsOf .u8 (mk 16 f)) (0, 0) _ A1.out keyUnder rfl (keySize f) ?_)
    | fail)
  refine (Decrypt_any (some ⟨D, 0, none⟩) T T R f hr hf hT _ hk).mono ?_
  rintro e w2 ⟨rfl, hb⟩
  have Z2 := Lib.hid (Z1.out.below hb Z1.out.lt)
  have L2 := Lib.hid (L1.out.trans (hb.mono L1.out.size))
  clear A1 Z1 L1 hb hk
  go_wp2_with (first
    | (refine store_row_on rfl 23 _ _ rfl rfl (w.heap.size + 1) (cellsOf .u8 (mk 16 (decK R T f))) rfl rfl 23 (cellsOf .u8 (mk 16 zeroK)) Z2.out (keySize _) (by rw [cellsOf_size, cellsOf_size, mk_len, mk_len]) (cellsOf_one _ _) ?_))
  exact bodyPost_ret (results_cell_row_tmp rfl _ _ (w.heap.size + 1) 23 (cellsOf .u8 (mk 16 (decK R T f))) (0, 0) _ rfl (Z2.out.setRow .u8 (mk 16 (decK R T f))) keyUnder rfl (keySize _)) rfl ⟨rfl, below_setRow L2.out (by omega) _⟩

set_option maxRecDepth 100000 in
set_option maxHeartbeats 2000000 in
theorem Open_via (p : Option Addr) (n cap : Nat) (f r : Nat → Nat) (v : Value) (w : World)
    (hc : ∀ W, Below w.heap.size w W → Calls Try.prog 42 #[.slice p n cap, .agg (cellsOf .u8 (mk 16 f)), .func (.func 24) #[] #[]] W fun e w' => e = .returned (.tuple #[.agg (cellsOf .u8 (mk 16 r)), v]) ∧ Below W.heap.size W w') :
    Calls Try.prog 27 #[.slice p n cap, .agg (cellsOf .u8 (mk 16 f))] w fun e w' => e = .returned (.tuple #[.agg (cellsOf .u8 (mk 16 r)), v]) ∧ Below w.heap.size w w' := by
  have HA := Lib.hid ((IntBlk.new w .u8 23 (mk 16 f)).alloc (.cells (cellsOf .u8 (mk 16 zeroK)) 23))
  have HZ := Lib.hid (blk_two w .u8 23 (mk 16 zeroK) (.cells (cellsOf .u8 (mk 16 f)) 23))
  have HL := Lib.hid (below_two w (.cells (cellsOf .u8 (mk 16 f)) 23) (.cells (cellsOf .u8 (mk 16 zeroK)) 23))
  have HC := Lib.hid hc
  clear hc
  go_enter Try.func27, Try.ntmps27
  go_wp2_with (first
    | (refine wpList_load_row rfl 23 _ rfl w.heap.size rfl 23 (cellsOf .u8 (mk 16 f)) (0, 0) _ HA.out keyUnder rfl (keySize f) ?_)
    | fail)
  refine (HC.out _ HL.out).mono ?_
  rintro e w1 ⟨rfl, hb⟩
  have Z1 := Lib.hid (HZ.out.below hb HZ.out.lt)
  have L1 := Lib.hid (HL.out.trans (hb.mono HL.out.size))
  clear HA HZ HL HC hb
  go_wp2_with (first
    | (refine store_row_on rfl 23 _ _ rfl rfl (w.heap.size + 1) (cellsOf .u8 (mk 16 r)) rfl rfl 23 (cellsOf .u8 (mk 16 zeroK)) Z1.out (keySize _) (by rw [cellsOf_size, cellsOf_size, mk_len, mk_len]) (cellsOf_one _ _) ?_))
  exact bodyPost_ret (results_cell_row_tmp rfl _ _ (w.heap.size + 1) 23 (cellsOf .u8 (mk 16 r)) (0, 0) _ rfl (Z1.out.setRow .u8 (mk 16 r)) keyUnder rfl (keySize _)) rfl ⟨rfl, below_setRow L1.out (by omega) _⟩
theorem Open_bad (p : Option Addr) (n cap : Nat) (f : Nat → Nat) (h16 : n ≠ 16) (h32 : n ≠ 32) (w : World) :
    Calls Try.prog 27 #[.slice p n cap, .agg (cellsOf .u8 (mk 16 f))] w fun e w' => e = .returned (.tuple #[.agg (cellsOf .u8 (mk 16 zeroK)), .iface 40 (.int .i64 3)]) ∧ Below w.heap.size w w' :=
  Open_via p n cap f zeroK _ w fun W _ => withDec_bad p n cap f h16 h32 W
theorem Open_ok (p : Option Addr) (n cap N : Nat) (g f : Nat → Nat) (hn : n = 4 * N) (hN : N = 4 ∨ N = 8) (hcap : n ≤ cap) (hg : ∀ i, i < n → g i < 256) (hf : IsKey f) (w : World) (hp : BytesAt w p n g) :
    Calls Try.prog 27 #[.slice p n cap, .agg (cellsOf .u8 (mk 16 f))] w fun e w' => e = .returned (.tuple #[.agg (cellsOf .u8 (mk 16 (decK (rkS N g) (N + 7) f))), .nilIface]) ∧ Below w.heap.size w w' :=
  Open_via p n cap f (decK (rkS N g) (N + 7) f) _ w fun W h => withDec_ok p n cap N g f hn hN hcap hg hf W (hp.below h)

theorem assert_key (v : Value) (w : World) : (Instr.typeAssert (.iface 40 v) 33 40 true).run Try.prog w = .ok (.tuple #[v, .bool true]) w := by
  simp [Instr.typeAssert, run_underlying Try.underlying40]
set_option maxHeartbeats 1000000 in
theorem Is_key (w : World) : Calls Try.prog 21 #[.iface 40 (.int .i64 3), .int .i64 3] w fun e w' => e = .returned (.bool true) ∧ w = w' := by
  have ta := fun W => assert_key (.int .i64 3) W
  go_enter Try.func21, Try.ntmps21
  go_wp2
  go_ret
  exact ⟨rfl, rfl⟩
end Go.Proofs.Ytilfjmpoiiepkaa
