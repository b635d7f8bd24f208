/- The contract of package wrap's Unwrap: a text unwrapped, in memory of its own, or an error. Conditions: the bytes are bytes; lengths are what a machine holds. -/
import Derived.Test.YtghdeedglekphaaWrWrap
namespace Go.Proofs.Ytghdeedglekphaa
open Go.ChangeShapes Go.WideShapes Go.ChangeAt Go.RowKit Go.Shelf
attribute [local go_sem] Oper.semAt_some
set_option linter.unusedVariables false

theorem run_clear_part (B off n c N : Nat) (F : Nat → Nat) (t ty : TypeId) (w : World) (hB : IntBlk w B .u8 t (mk N F)) (hn : 0 < n) (h : off + n ≤ N) :
    (Builtin.clear_ #[22] ty #[.slice (some ⟨B, off, none⟩) n c]).run Try.prog w = .ok (.tuple #[]) (w.setRow B (cellsOf .u8 (mk N (put F off n zeroK)))) := by
  have hzc : (Builtin.zeroCells (Value.int .u8 0).cells n).toList = (mk n zeroK).map (Value.int .u8) := by
    simp only [Value.cells, Builtin.zeroCells]
    apply List.ext_getElem
    · simp [mk_len]
    · intro i h1 h2
      simp [Nat.mod_one, mk, zeroK]
  have hst := run_storeCells_at Try.prog B off t ((mk n zeroK).map (Value.int .u8)) 0 (cellsOf .u8 (mk N F)) w hB (by rw [cellsOf_size, mk_len, List.length_map, mk_len]; omega) (bytes_one _)
  rw [List.length_map, mk_len, Nat.add_zero, List.append_assoc, put_cells N F zeroK h] at hst
  obtain ⟨m, rfl⟩ : ∃ m, n = m + 1 := ⟨n - 1, by omega⟩
  simp [Builtin.clear_, run_underlying bytesUnder, hzc, hst]
theorem wpList_clear_part {ops : Array Oper} {rest : List Oper} {o : Oper} {a : Act} {w : World} {Q : Exit → Act → World → Prop} (hgd : o.guard = none) (x : Operand) (ho : o.op = .call { callee := .builtin .clear, args := #[x], argTypes := #[22] }) (hdst : o.dst = none)
    (B off n c N : Nat) (F : Nat → Nat) (t : TypeId) (hx : a.eval x = .slice (some ⟨B, off, none⟩) n c) (hB : IntBlk w B .u8 t (mk N F)) (hn : 0 < n) (h8 : off + n ≤ N)
    (h : wpList Try.prog ops Q rest a (w.setRow B (cellsOf .u8 (mk N (put F off n zeroK))))) : wpList Try.prog ops Q (o :: rest) a w :=
  wpList_plain hgd fun _ hK => by
    have e := run_clear_part B off n c N F t o.type w hB hn h8
    unfold Oper.wp execOp
    simp only [ho, resolve, invoke, builtin, Sem.run_bind, Sem.run_pure, Result.andThen_ok, List.map_toArray, List.map_cons, List.map_nil, hx, e]
    have := hK _ _ h
    simpa [Oper.upon, hdst, Act.put] using this
section
variable {o : Oper} {a : Act} {C : World → Prop} {K : Act → Prop}
theorem quiet_neq_is (x y : Operand) (ho : o.op = .binOp .neq 65 x y 65) (f g : Nat → Nat) (r : Bool) (hr : (mk 16 f == mk 16 g) = r)
    (hx : a.eval x = .agg (cellsOf .u8 (mk 16 f))) (hy : a.eval y = .agg (cellsOf .u8 (mk 16 g))) (hk : K (a.put o.dst (.bool (!r)))) : o.quiet Try.prog a C K := by
  refine quiet_value (.bool (!r)) (fun w _ => ?_) hk
  have e := key_eq f g w
  rw [hr] at e
  unfold execOp
  simp only [ho, hx, hy]
  simp [go_sem, e]
theorem quiet_part (x y : Operand) (ho : o.op = .slice 22 x (some y) none none) (B off n cap k : Nat) (z : Int) (hz : z = k) (hx : a.eval x = .slice (some ⟨B, off, none⟩) n cap) (hy : a.eval y = .int .i64 z) (hk1 : k < n) (hn : n ≤ cap)
    (hk : K (a.put o.dst (.slice (some ⟨B, off + k, none⟩) (n - k) (cap - k)))) : o.quiet Try.prog a C K := by
  subst hz
  refine quiet_value _ (fun w _ => ?_) hk
  have e1 : (0 : Int) ≤ k := by omega
  have e2 : (k : Int) ≤ n := by omega
  have e3 : ¬ cap = k := by omega
  have hs := byteElem.run_size (P := Try.prog) w
  have hr : (Instr.sliceAt 22 (.slice (some ⟨B, off, none⟩) n cap) (some (.int .i64 k)) none none).run Try.prog w = .ok (.slice (some ⟨B, off + k, none⟩) (n - k) (cap - k)) w := by
    simp [go_sem, e1, e2, e3, hs, addr_add, Program.elem]
  unfold execOp
  simp only [ho, hx]
  simp [hy, hr]
end
theorem call_start (args : Array Value) (w : World) : (callFunc 22 args).run Try.prog w = .ok (.enter 22 args) w := by simp [go_sem]

theorem mod_back {n i : Nat} (hn : 0 < n) (hi : i < 6 * n) : (6 * n - 1 - i) % n = n - 1 - i % n := by
  have hd := Nat.div_add_mod i n
  have hm := Nat.mod_lt i hn
  have hq : i / n < 6 := Nat.div_lt_of_lt_mul (by omega)
  obtain ⟨q, hqe⟩ : ∃ q, i / n = q := ⟨_, rfl⟩
  obtain ⟨r, hre⟩ : ∃ r, i % n = r := ⟨_, rfl⟩
  rw [hqe, hre] at hd
  rw [hre] at hm ⊢
  rw [hqe] at hq
  have e : 6 * n - 1 - i = n * (5 - q) + (n - 1 - r) := by
    rw [Nat.mul_sub]
    have h1 : n * q ≤ n * 5 := Nat.mul_le_mul_left n (by omega)
    omega
  rw [e, Nat.mul_add_mod, Nat.mod_eq_of_lt (by omega)]
/-- A block with word i behind A, when a number was added to A. -/
theorem num_put (t : Nat) (S f : Nat → Nat) (c : Nat) (h : ∀ j, j < 8 → f j = S j) : mk 16 (put (numX t f) 8 8 (fun j => txt S (8 * c + j))) = mk 16 (numX t (gl S c)) := mk_ext fun j hj => by
  unfold put numX gl txt
  by_cases h8 : j < 8
  · rw [if_neg (by omega), if_pos h8, if_pos h8, if_pos h8, h j h8]
  · rw [if_pos (by omega), if_neg h8, if_neg h8]
    show S (8 * c + (j - 8) + 8) = _
    rw [show 8 * c + (j - 8) + 8 = 8 * c + j by omega]
theorem txt_lay (M : Nat) (S k : Nat → Nat) (c : Nat) : mk M (put (txt S) (8 * c) 8 (fun j => k (8 + j))) = mk M (txt (lay S c k)) := mk_ext fun p hp => by
  unfold put txt lay
  by_cases h : 8 * c ≤ p ∧ p < 8 * c + 8
  · rw [if_pos h, if_neg (by omega), if_pos (by omega)]
    show k (8 + (p - 8 * c)) = _
    rw [show 8 + (p - 8 * c) = p + 8 - 8 * c by omega]
  · rw [if_neg h, if_neg (by omega), if_neg (by omega)]
/-- A's first block against the block with A alone. -/
theorem sure_eq (S f : Nat → Nat) (h : ∀ j, j < 8 → f j = S j) : (mk 16 (put f 8 8 zeroK) == mk 16 staK) = sure S := by
  cases hs : sure S
  · simp only [beq_eq_false_iff_ne, ne_eq]
    intro he
    have : sure S = true := List.all_eq_true.2 fun p hp => by
      have hp8 := List.mem_range.1 hp
      have e : (mk 16 (put f 8 8 zeroK)).getD p 0 = (mk 16 staK).getD p 0 := by rw [he]
      rw [mk_get (by omega), mk_get (by omega)] at e
      unfold put staK at e
      rw [if_neg (by omega), if_pos hp8, h p hp8] at e
      simp; omega
    rw [hs] at this; cases this
  · have : mk 16 (put f 8 8 zeroK) = mk 16 staK := mk_ext fun j hj => by
      unfold put staK zeroK
      by_cases h8 : j < 8
      · rw [if_neg (by omega), if_pos h8, h j h8]; exact sure_yes hs j h8
      · rw [if_pos (by omega), if_neg h8]
    rw [this]; simp

theorem txt_start (M : Nat) (G : Nat → Nat) : mk M (put zeroK 0 M (fun j => G (8 + j))) = mk M (txt G) := mk_ext fun p hp => by
  unfold put txt
  rw [if_pos (by omega)]
  show G (8 + (p - 0)) = _
  rw [show 8 + (p - 0) = p + 8 by omega]
def fstK (G : Nat → Nat) : Nat → Nat := put zeroK 0 8 (fun j => G j)
theorem fstK_at (G : Nat → Nat) : ∀ j, j < 8 → fstK G j = G j := fun j hj => by unfold fstK put; rw [if_pos (by omega), Nat.sub_zero]
theorem fstK_key {G : Nat → Nat} (h : ∀ j, j < 8 → G j < 256) : IsKey (fstK G) := fun j hj => by
  unfold fstK put zeroK; split
  · exact h _ (by omega)
  · omega
theorem Cells.from {w : World} {B o n k : Nat} {f : Nat → Nat} (h : Cells w B o n f) (l : Nat) (hk : k + l ≤ n) : Cells w B (o + k) l (fun j => f (k + j)) := fun j hj => by
  rw [Nat.add_assoc]; exact h (k + j) (by omega)
/-- While a text is unwrapped: the words, A's block, and what else the loop reads. -/
structure UnQ (w1 : World) (K D T M m : Nat) (F f : Nat → Nat) (V : World) : Prop where
  rnd : V.heap[w1.heap.size]? = some (.cells #[.slice (some ⟨D, 0, none⟩) T T] 61 (0, 0))
  cnt : V.heap[w1.heap.size + 1]? = some (.cells #[.int .i64 m] 3 (0, 0))
  row : IntBlk V (w1.heap.size + 1 + 1) .u8 5 (mk M F)
  wds : V.heap[w1.heap.size + 3]? = some (.cells #[.slice (some ⟨w1.heap.size + 1 + 1, 0, none⟩) M M] 22 (0, 0))
  key : IntBlk V K .u8 65 (mk 16 f)
  num : V.heap[K + 1]? = some (.cells #[.int .i64 m] 3 (0, 0))
  low : Below w1.heap.size w1 V
  big : K + 2 ≤ V.heap.size
  far : w1.heap.size + 4 ≤ K
section
variable {w1 : World} {K D T M m : Nat} {F f : Nat → Nat} {V V' : World}
theorem UnQ.below (h : UnQ w1 K D T M m F f V) (hb : Below (K + 2) V V') : UnQ w1 K D T M m F f V' := by
  have hf := h.far
  exact ⟨(hb.block _ (by omega)).trans h.rnd, (hb.block _ (by omega)).trans h.cnt, h.row.below hb (by omega), (hb.block _ (by omega)).trans h.wds, h.key.below hb (by omega), (hb.block _ (by omega)).trans h.num, h.low.trans (hb.mono (by omega)), Nat.le_trans h.big hb.size, hf⟩
theorem unQ_setK (h : UnQ w1 K D T M m F f V) (f' : Nat → Nat) : UnQ w1 K D T M m F f' (V.setRow K (cellsOf .u8 (mk 16 f'))) := by
  have hf := h.far
  exact ⟨(setRow_other V _ _ _ (by omega)).trans h.rnd, (setRow_other V _ _ _ (by omega)).trans h.cnt, h.row.otherRow (by omega) _, (setRow_other V _ _ _ (by omega)).trans h.wds, h.key.setRow .u8 _, (setRow_other V _ _ _ (by omega)).trans h.num, below_setRow h.low (by omega) _, by have := h.big; simp; omega, hf⟩
theorem unQ_setF (h : UnQ w1 K D T M m F f V) (F' : Nat → Nat) : UnQ w1 K D T M m F' f (V.setRow (w1.heap.size + 1 + 1) (cellsOf .u8 (mk M F'))) := by
  have hf := h.far
  exact ⟨(setRow_other V _ _ _ (by omega)).trans h.rnd, (setRow_other V _ _ _ (by omega)).trans h.cnt, h.row.setRow .u8 _, (setRow_other V _ _ _ (by omega)).trans h.wds, h.key.otherRow (by omega) _, (setRow_other V _ _ _ (by omega)).trans h.num, below_setRow h.low (by omega) _, by have := h.big; simp; omega, hf⟩
end
theorem four_first (w : World) (o0 o1 o2 o3 : Obj) : ((((w.alloc o0).alloc o1).alloc o2).alloc o3).heap[w.heap.size]? = some o0 :=
  ((below_three (w.alloc o0) o1 o2 o3).block w.heap.size (by simp)).trans (World.alloc_heap_new w o0)
theorem four_second (w : World) (o0 o1 o2 o3 : Obj) : ((((w.alloc o0).alloc o1).alloc o2).alloc o3).heap[w.heap.size + 1]? = some o1 := by
  have h := World.alloc_heap_new (w.alloc o0) o1
  rw [World.size_alloc] at h
  exact ((below_two ((w.alloc o0).alloc o1) o2 o3).block (w.heap.size + 1) (by simp)).trans h
theorem four_fourth (w : World) (o0 o1 o2 o3 : Obj) : ((((w.alloc o0).alloc o1).alloc o2).alloc o3).heap[w.heap.size + 3]? = some o3 := by
  have h := World.alloc_heap_new (((w.alloc o0).alloc o1).alloc o2) o3
  rw [World.size_alloc, World.size_alloc, World.size_alloc] at h
  exact h
set_option maxRecDepth 100000 in
set_option maxHeartbeats 4000000 in
theorem Unwrap_run (p : Option Addr) (n cap N : Nat) (g : Nat → Nat) (q : Option Addr) (tn tcap m : Nat) (G : Nat → Nat) (hn : n = 4 * N) (hN : N = 4 ∨ N = 8) (hcap : n ≤ cap) (hg : ∀ i, i < n → g i < 256)
    (ht : tn = 8 * m + 8) (h2 : 2 ≤ m) (h64 : m ≤ 64) (htc : tn ≤ tcap) (hG : ∀ i, i < tn → G i < 256) (w : World) (hp : BytesAt w p n g) (hq : BytesAt w q tn G) :
    Calls Try.prog 20 #[.slice p n cap, .slice q tn tcap] w fun e w' => Below w.heap.size w w' ∧
      (sure (unwN (rkS N g) (N + 7) m G) = true → ∃ D, e = .returned (.tuple #[.slice (some ⟨D, 0, none⟩) (8 * m) (8 * m), .nilIface]) ∧ IntBlk w' D .u8 5 (mk (8 * m) (txt (unwN (rkS N g) (N + 7) m G))) ∧ w.heap.size ≤ D) ∧
      (sure (unwN (rkS N g) (N + 7) m G) = false → e = .returned (.tuple #[.slice none 0 0, .iface 33 (.int .i64 4)])) := by
  obtain ⟨Bq, oq, rfl, hlq, hcq⟩ : ∃ B o, q = some ⟨B, o, none⟩ ∧ B < w.heap.size ∧ Cells w B o tn G := by
    rcases hq with h | h
    · omega
    · exact h
  obtain ⟨M, hM⟩ : ∃ M, M = 8 * m := ⟨_, rfl⟩
  have PC := Lib.hid (prepare_ok p n cap N g (some ⟨Bq, oq, none⟩) tn tcap 1 m hn hN hcap hg (by omega) h2 h64 (by omega) w hp)
  have hR : ∀ i, i < N + 7 → IsKey (rkS N g i) := fun i _ => rkS_key (fun i hi => hg i (by omega)) i
  have hT : N + 7 < 4294967296 := by omega
  have e2 : IntKind.i64.wrap (8 * (m : Int)) = (M : Int) := by rw [IntWalk.i64_in _ (by omega)]; omega
  have e3 : 8 ≤ tn := by omega
  have e4 : ¬ tn = 8 := by omega
  have hM5 : M ≤ 100000 := by omega
  rw [← hM]
  generalize rkS N g = R at *
  generalize N + 7 = T at *
  have HCQ := Lib.hid hcq; have HM := Lib.hid hM; have HT := Lib.hid ht; have HTC := Lib.hid htc
  clear hcq hM ht hn hN hcap hg hp hq htc
  refine (callsIn_wide (n := 3)).1 ?_
  refine callsIn_of_wp_marks Try.func20 rfl trivial ?_ rfl
  simp only [Try.ntmps20, List.size_toArray, List.length_cons, List.length_nil, Nat.reduceAdd, Nat.reduceSub, Array.replicate_succ, Array.replicate_zero, List.push_toArray, List.append_toArray, List.nil_append, List.cons_append]
  refine wpIn_wide.2 ?_
  go_wp2_with (first
    | (go_at_call 21; refine PC.out.mono ?_; rintro e w1 ⟨D, rfl, hk, hb⟩
       have K1 := Lib.hid hk; have B1 := Lib.hid hb
       clear hk hb PC)
    | (refine wpList_make_noughts rfl _ _ rfl M hM5 rfl rfl ?_))
  have r4 := four_first w1 (.cells #[.slice (some ⟨D, 0, none⟩) T T] 61) (.cells #[.int .i64 m] 3) (.cells (cellsOf .u8 (mk M zeroK)) 5) (.cells #[.slice (some ⟨w1.heap.size + 1 + 1, 0, none⟩) M M] 22)
  have n4 := four_second w1 (.cells #[.slice (some ⟨D, 0, none⟩) T T] 61) (.cells #[.int .i64 m] 3) (.cells (cellsOf .u8 (mk M zeroK)) 5) (.cells #[.slice (some ⟨w1.heap.size + 1 + 1, 0, none⟩) M M] 22)
  have z4 := (blk_third w1 .u8 5 (mk M zeroK) (.cells #[.slice (some ⟨D, 0, none⟩) T T] 61) (.cells #[.int .i64 m] 3)).alloc (.cells #[.slice (some ⟨w1.heap.size + 1 + 1, 0, none⟩) M M] 22)
  have x4 := four_fourth w1 (.cells #[.slice (some ⟨D, 0, none⟩) T T] 61) (.cells #[.int .i64 m] 3) (.cells (cellsOf .u8 (mk M zeroK)) 5) (.cells #[.slice (some ⟨w1.heap.size + 1 + 1, 0, none⟩) M M] 22)
  have b4 := below_four w1 (.cells #[.slice (some ⟨D, 0, none⟩) T T] 61) (.cells #[.int .i64 m] 3) (.cells (cellsOf .u8 (mk M zeroK)) 5) (.cells #[.slice (some ⟨w1.heap.size + 1 + 1, 0, none⟩) M M] 22)
  have s4 : ((((w1.alloc (.cells #[.slice (some ⟨D, 0, none⟩) T T] 61)).alloc (.cells #[.int .i64 m] 3)).alloc (.cells (cellsOf .u8 (mk M zeroK)) 5)).alloc (.cells #[.slice (some ⟨w1.heap.size + 1 + 1, 0, none⟩) M M] 22)).heap.size = w1.heap.size + 4 := by simp
  change Code.wp _ _ _ _ ((((w1.alloc (.cells #[.slice (some ⟨D, 0, none⟩) T T] 61)).alloc (.cells #[.int .i64 m] 3)).alloc (.cells (cellsOf .u8 (mk M zeroK)) 5)).alloc (.cells #[.slice (some ⟨w1.heap.size + 1 + 1, 0, none⟩) M M] 22))
  generalize (((w1.alloc (.cells #[.slice (some ⟨D, 0, none⟩) T T] 61)).alloc (.cells #[.int .i64 m] 3)).alloc (.cells (cellsOf .u8 (mk M zeroK)) 5)).alloc (.cells #[.slice (some ⟨w1.heap.size + 1 + 1, 0, none⟩) M M] 22) = w4 at *
  have R4 := Lib.hid r4; have N4 := Lib.hid n4; have Z4 := Lib.hid z4; have X4 := Lib.hid x4; have B4 := Lib.hid b4; have S4 := Lib.hid s4
  clear r4 n4 z4 x4 b4 s4
  have h8t : 8 < tn := by omega
  have htc := HTC.out
  refine wp_region_class_tail 3 (fun w' => Below w4.heap.size w4 w') (by kernel_rfl) (by kernel_rfl) ((Below.refl _ _).drew) ?_
  simp only [List.take_succ_cons, List.take_zero, List.drop_succ_cons, List.drop_zero]
  iterate 3 (first
    | go_big_quiet_skip
    | (go_big_quiet_want
       first
         | (go_big_quiet_op; go_big_quiet_on)
         | ((first
             | (refine quiet_lie 22 _ rfl ⟨w1.heap.size + 1 + 1 + 1, 0, none⟩ (.slice (some ⟨w1.heap.size + 1 + 1, 0, none⟩) M M) rfl box_slice (fun w' h => (h.cell (p := ⟨w1.heap.size + 1 + 1 + 1, 0, none⟩) (lt_of_block X4.out)).trans (cell_of_one X4.out)) ?_)
             | (refine quiet_part _ _ rfl Bq oq tn tcap 8 _ rfl rfl rfl h8t htc ?_)); go_simp; go_big_quiet_on)))
  refine wpQuiet_nil ?_
  intro wx hwx
  have hM8 : tn - 8 = M := by have := HT.out; have := HM.out; omega
  rw [hM8]
  have R5 := Lib.hid ((hwx.block _ (lt_of_block R4.out)).trans R4.out)
  have N5 := Lib.hid ((hwx.block _ (lt_of_block N4.out)).trans N4.out)
  have Z5 := Lib.hid (Z4.out.below hwx Z4.out.lt)
  have X5 := Lib.hid ((hwx.block _ (lt_of_block X4.out)).trans X4.out)
  have B5 := Lib.hid (B4.out.trans (hwx.mono B4.out.size))
  have C5 := Lib.hid ((HCQ.out.below (B1.out.trans (B5.out.mono B1.out.size)) hlq).from (k := 8) M (by omega))
  have hz5 : w1.heap.size + 4 ≤ wx.heap.size := by have := hwx.size; have := S4.out; omega
  have hCq := HCQ.out.below (B1.out.trans (B5.out.mono B1.out.size)) hlq
  clear hwx R4 N4 Z4 X4 B4 S4 HCQ
  refine wpList_copy_part rfl _ _ 22 22 rfl 5 bytesUnder2 bytesInfo1 (w1.heap.size + 1 + 1) 0 M M Bq (oq + 8) M (tcap - 8) M M zeroK (fun j => G (8 + j)) rfl rfl 5 Z5.out (by omega) (Nat.min_self M).symm C5.out ?_
  rw [txt_start]
  have hlq5 : Bq < w1.heap.size := Nat.lt_of_lt_of_le hlq B1.out.size
  have r6 := (setRow_other wx (w1.heap.size + 1 + 1) w1.heap.size (cellsOf .u8 (mk M (txt G))) (by omega)).trans R5.out
  have n6 := (setRow_other wx (w1.heap.size + 1 + 1) (w1.heap.size + 1) (cellsOf .u8 (mk M (txt G))) (by omega)).trans N5.out
  have z6 := Z5.out.setRow .u8 (mk M (txt G))
  have x6 := (setRow_other wx (w1.heap.size + 1 + 1) (w1.heap.size + 3) (cellsOf .u8 (mk M (txt G))) (by omega)).trans X5.out
  have b6 := below_setRow (g := w1.heap.size + 1 + 1) B5.out (by omega) (cellsOf .u8 (mk M (txt G)))
  have s6 : (wx.setRow (w1.heap.size + 1 + 1) (cellsOf .u8 (mk M (txt G)))).heap.size = wx.heap.size := by simp
  have q6 : Cells (wx.setRow (w1.heap.size + 1 + 1) (cellsOf .u8 (mk M (txt G)))) Bq oq tn G := fun j hj => by rw [World.cell?_of_block (setRow_other wx (w1.heap.size + 1 + 1) Bq _ (by omega))]; exact hCq j hj
  generalize wx.setRow (w1.heap.size + 1 + 1) (cellsOf .u8 (mk M (txt G))) = w6 at *
  rw [← s6] at hz5
  have R6 := Lib.hid r6; have N6 := Lib.hid n6; have Z6 := Lib.hid z6; have X6 := Lib.hid x6; have B6 := Lib.hid b6; have Q6 := Lib.hid q6
  have N6c := cell_of_one n6
  have hmin : 8 = Nat.min tn 8 := (Nat.min_eq_right e3).symm
  have HMN := Lib.hid hmin
  clear r6 n6 z6 x6 b6 q6 s6 hmin hCq R5 N5 Z5 X5 B5 C5 hM8
  have C6 := Lib.hid (show Cells w6 Bq oq 8 G from fun j hj => Q6.out j (by omega))
  clear Q6
  have BQ := Lib.hid (Nat.lt_of_lt_of_le hlq5 (show w1.heap.size ≤ w6.heap.size by omega))
  go_wp2_with (first
    | (refine wpList_key_upto rfl _ _ rfl w6.heap.size 8 _ rfl rfl rfl (by omega) ?_)
    | (refine wpList_copy_part rfl _ _ 22 22 rfl 5 bytesUnder2 bytesInfo1 w6.heap.size 0 8 16 Bq oq tn tcap 8 16 zeroK G rfl rfl 65 (IntBlk.new w6 .u8 65 (mk 16 zeroK)) (by omega) HMN.out (C6.out.below ((Below.refl w6.heap.size w6).alloc (Nat.le_refl _) _) BQ.out) ?_
       change wpList _ _ _ _ _ (World.setRow (w6.alloc (.cells (cellsOf .u8 (mk 16 zeroK)) 65)) w6.heap.size (cellsOf .u8 (mk 16 (fstK G))))
       have k7 := (IntBlk.new w6 .u8 65 (mk 16 zeroK)).setRow .u8 (mk 16 (fstK G))
       have e7 : Below w6.heap.size w6 (World.setRow (w6.alloc (.cells (cellsOf .u8 (mk 16 zeroK)) 65)) w6.heap.size (cellsOf .u8 (mk 16 (fstK G)))) := below_setRow ((Below.refl _ _).alloc (Nat.le_refl _) _) (Nat.le_refl _) _
       have s7 : (World.setRow (w6.alloc (.cells (cellsOf .u8 (mk 16 zeroK)) 65)) w6.heap.size (cellsOf .u8 (mk 16 (fstK G)))).heap.size = w6.heap.size + 1 := by simp
       generalize World.setRow (w6.alloc (.cells (cellsOf .u8 (mk 16 zeroK)) 65)) w6.heap.size (cellsOf .u8 (mk 16 (fstK G))) = w7 at *
       have R7 := Lib.hid ((e7.block _ (lt_of_block R6.out)).trans R6.out)
       have n7 := (e7.block _ (lt_of_block N6.out)).trans N6.out
       have N7 := Lib.hid n7
       have N7c := cell_of_one n7
       have Z7 := Lib.hid (Z6.out.below e7 Z6.out.lt)
       have X7 := Lib.hid ((e7.block _ (lt_of_block X6.out)).trans X6.out)
       have B7 := Lib.hid (B6.out.trans (e7.mono B6.out.size))
       have K7 := Lib.hid k7; have S7 := Lib.hid s7
       clear k7 e7 s7 n7 R6 N6 Z6 X6 B6 C6 BQ N6c HMN)
    | (go_at_call 23; refine (Steps_any _ _).mono ?_; rintro e w8 ⟨rfl, hw8⟩))
  have s8 : w8.heap.size = w6.heap.size + 2 := by subst hw8; simp [S7.out]
  have hI0 : UnQ w1 w6.heap.size D T M m (txt G) (fstK G) w8 := by
    subst hw8
    have a7 : Below w7.heap.size w7 (w7.alloc (.cells #[.int .i64 m] 3)) := (Below.refl _ _).alloc (Nat.le_refl _) _
    refine ⟨(a7.block _ (lt_of_block R7.out)).trans R7.out, (a7.block _ (lt_of_block N7.out)).trans N7.out, Z7.out.below a7 Z7.out.lt, (a7.block _ (lt_of_block X7.out)).trans X7.out, K7.out.below a7 K7.out.lt, ?_, B7.out.trans (a7.mono B7.out.size), by simp [S7.out], hz5⟩
    rw [← S7.out]
    exact heap_alloc_new w7 _
  rw [S7.out]
  clear hw8 R7 N7 Z7 X7 B7 K7 S7 N7c
  obtain ⟨K, hK⟩ : ∃ K, w6.heap.size = K := ⟨_, rfl⟩
  rw [hK] at s8 hI0 hz5 ⊢
  have HI := Lib.hid hI0
  clear hI0 hK
  obtain ⟨S, hS⟩ : ∃ S, uTo R T m G = S := ⟨_, rfl⟩
  have hGr : IsRow (8 * m + 8) G := fun j hj => hG j (by have := HT.out; omega)
  have hS0 : S 0 = G := by rw [← hS]; rfl
  have hSs : ∀ i, S (i + 1) = lay (S i) ((6 * m - 1 - i) % m) (decK R T (numX (6 * m - i) (gl (S i) ((6 * m - 1 - i) % m)))) := fun i => by rw [← hS]; rfl
  have hSr : ∀ i, IsRow (8 * m + 8) (S i) := fun i => by rw [← hS]; exact uTo_row hR (by omega) hGr i
  have hSe : unwN R T m G = S (6 * m) := by rw [← hS]; rfl
  have HS0 := Lib.hid hS0; have HSs := Lib.hid hSs; have HSr := Lib.hid hSr; have HSe := Lib.hid hSe
  clear hS hS0 hSs hSr hSe
  refine (wpIn_wide (n := 3)).1 ?_
  refine range_ends rfl (by omega) (gf := 33) (lb := #[.pointer (some ⟨K + 1, 0, none⟩)]) rfl trivial (enters_of Try.func33 (by kernel_rfl) rfl)
    (stE m) (fun _ i _ x => x = i) (6 * m) (StR (K + 1) m) (fun _ => rfl)
    (fun i V => ∃ f, IsKey f ∧ (∀ j, j < 8 → f j = S i j) ∧ UnQ w1 K D T M m (txt (S i)) f V) (fun _ _ => False) ?rd ?st ?stx ⟨fstK G, fstK_key (fun j hj => hGr j (by omega)), ?s0, ?s1⟩ (steps_gives _ (K + 1) m h2 h64) ?round ?done ?stop
  case s0 => intro j hj; rw [HS0.out]; exact fstK_at G j hj
  case s1 => rw [HS0.out]; exact HI.out
  case rd => exact fun i V ⟨f, _, _, h⟩ => cell_of_one h.num
  case st => exact fun i V V' ⟨f, h1, h2, h⟩ hb => ⟨f, h1, h2, h.below (by rw [s8] at hb; exact hb)⟩
  case stx => exact fun _ _ _ h _ => h
  case stop => exact fun _ _ _ _ h _ => h.elim
  case done =>
    rintro E V hD ⟨f, hf, hA, hq⟩ hd
    rw [s8] at hD
    have HQ := Lib.hid hq; have HD := Lib.hid hd; have HA := Lib.hid hA
    clear hq hd hA HI
    have hBw := B1.out
    have hEw : w.heap.size ≤ E := by have := B1.out.size; omega
    have SE := Lib.hid (sure_eq (S (6 * m)) f HA.out)
    have SC := Lib.hid (fun (W0 : World) => class_of (W0 := W0) start_any)
    cases hsu : sure (S (6 * m))
    all_goals
      rw [hsu] at SE
      go_wp2_with (first
        | (refine wpList_key_from rfl _ _ rfl K rfl rfl ?_)
        | (refine wpList_clear_part rfl _ rfl rfl K 8 8 8 16 f 65 rfl HQ.out.key (by omega) (by omega) ?_
           have Q2 := Lib.hid (unQ_setK HQ.out (put f 8 8 zeroK))
           have D2 := Lib.hid ((setRow_other V K E (cellsOf .u8 (mk 16 (put f 8 8 zeroK))) (by omega)).trans HD.out)
           generalize V.setRow K (cellsOf .u8 (mk 16 (put f 8 8 zeroK))) = V2 at *
           clear HQ HD))
      refine wp_region_class (fun w' => Below V2.heap.size V2 w') (by kernel_rfl) (by kernel_rfl) ((Below.refl _ _).drew) ?_
      go_simp
      iterate 3 (first
        | go_big_quiet_skip
        | (go_big_quiet_want
           first
             | (go_big_quiet_op; go_big_quiet_on)
             | ((first
                 | (refine quiet_load_row 65 _ rfl K .u8 (mk 16 (put f 8 8 zeroK)) rfl 16 5 keyUnder (keySize _) (fun w' h => Q2.out.key.below h Q2.out.key.lt) ?_)
                 | (refine quiet_call0 _ _ rfl 22 rfl (.agg (cellsOf .u8 (mk 16 staK))) call_start (SC.out V2) ?_)
                 | (refine quiet_neq_is _ _ rfl (put f 8 8 zeroK) staK _ SE.out rfl rfl ?_)); go_simp; go_big_quiet_on)))
      refine wpQuiet_nil ?_
      intro wx hwx
      have D3 := Lib.hid ((hwx.block _ (Array.getElem?_eq_some_iff.1 D2.out).1).trans D2.out)
      have Q3 := Lib.hid (Q2.out.below (hwx.mono Q2.out.big))
      have c3 := cell_of_one Q3.out.wds
      clear hwx Q2 D2
    · go_wp2
      refine ⟨by simp, .inl ⟨_, _, rfl, run_takeDeferred D3.out, ?_⟩⟩
      refine ⟨_, results_tmp2 rfl _ _ _, below_turn _ (hBw.trans (Q3.out.low.mono hBw.size)) hEw, fun h => ?_, fun _ => rfl⟩
      rw [HSe.out, hsu] at h; cases h
    · go_wp2
      refine ⟨by simp, .inl ⟨_, _, rfl, run_takeDeferred D3.out, ?_⟩⟩
      refine ⟨_, results_tmp2 rfl _ _ _, below_turn _ (hBw.trans (Q3.out.low.mono hBw.size)) hEw, fun _ => ⟨w1.heap.size + 1 + 1, rfl, ?_, by have := hBw.size; omega⟩, fun h => ?_⟩
      · rw [HSe.out]; exact cells_turn Q3.out.row D3.out rfl
      · rw [HSe.out, hsu] at h; cases h
  case round =>
    rintro l i0 i U hl hi hus ⟨f, hf, hA, hq⟩ rfl
    rw [s8] at hus hl
    have HQ := Lib.hid hq; have HA := Lib.hid hA; have HF := Lib.hid hf
    clear hq hA hf HI
    have hr : i % m < m := Nat.mod_lt _ (by omega)
    have SX := HSs.out i
    rw [mod_back (by omega) hi] at SX
    obtain ⟨r, hrr⟩ : ∃ r, i % m = r := ⟨_, rfl⟩
    have hE : stE m i = #[.int .i64 ((i : Int) + 1), .int .i64 ((r : Int) + 1)] := by unfold stE; rw [hrr]
    rw [hrr] at hr SX
    rw [hE]
    obtain ⟨c, hcc⟩ : ∃ c, m - 1 - r = c := ⟨_, rfl⟩
    obtain ⟨t, htt⟩ : ∃ t, 6 * m - i = t := ⟨_, rfl⟩
    rw [hcc, htt] at SX
    have hc : c < m := by omega
    have SXX := Lib.hid SX
    clear SX hrr hE
    gi_wp2
    refine ⟨Aft.refl _ _, fun V hVs hVk hVb => ?_⟩
    rw [s8] at hVb
    have QV := Lib.hid (HQ.out.below hVb)
    clear hVs hVk hVb HQ
    have c1 := cell_of_one QV.out.wds
    have c2 := cell_of_one QV.out.rnd
    have c3 := cell_of_one QV.out.cnt
    have p1 : IntKind.i64.wrap ((m : Int) + 1) = (m : Int) + 1 := IntWalk.i64_in _ (by omega)
    have p2 : IntKind.i64.wrap ((m : Int) + 1 - ((r : Int) + 1)) = ((c + 1 : Nat) : Int) := by rw [IntWalk.i64_in _ (by omega)]; omega
    have PA := Lib.hid (fun W => part_any (w1.heap.size + 1 + 1) 0 M M (c + 1) (by omega) (by have := HM.out; omega) (Nat.le_refl _) (by omega) W)
    rw [show ((c + 1 : Nat) : Int) = (c : Int) + 1 from rfl] at p2 PA
    rw [Nat.add_sub_cancel, Nat.zero_add] at PA
    have hgl : IsKey (gl (S i) c) := gl_key (HSr.out i) hc
    have hng : IsKey (numX t (gl (S i) c)) := numX_key hgl
    have hde : IsKey (decK R T (numX t (gl (S i) c))) := decK_key hR hng
    have hcM : 8 * c + 8 ≤ M := by have := HM.out; omega
    have P5 := Lib.hid (show IntKind.i64.wrap (6 * (m : Int) + 1 - ((i : Int) + 1)) = (t : Int) by rw [IntWalk.i64_in _ (by omega)]; omega)
    clear htt hcc
    gi_wp2
    refine ⟨trivial, (CallsIn.inRound _ (callsIn_wide.2 (PA.out V))).mono ?_⟩
    rintro e W1 ⟨rfl, rfl⟩
    have p3 : IntKind.i64.wrap (6 * (m : Int)) = 6 * (m : Int) := IntWalk.i64_in _ (by omega)
    have p4 : IntKind.i64.wrap (6 * (m : Int) + 1) = 6 * (m : Int) + 1 := IntWalk.i64_in _ (by omega)
    have p5 : IntKind.i64.wrap (6 * (m : Int) + 1 - ((i : Int) + 1)) = (t : Int) := P5.out
    have NC := Lib.hid (fun W => number_any t f HF.out W)
    have G1 := Lib.hid (num_put t (S i) f c HA.out)
    have HL3 := Lib.hid (txt_lay M (S i) (decK R T (numX t (gl (S i) c))) c)
    rw [← SXX.out] at HL3
    have HNA := Lib.hid (show ∀ j, j < 8 → decK R T (numX t (gl (S i) c)) j = S (i + 1) j from fun j hj => by rw [SXX.out]; unfold lay; rw [if_pos hj])
    generalize hgg : numX t (gl (S i) c) = gk at *
    clear PA c1 hgg hgl SXX HA p1 p2
    gi_wp2_with (first
      | (refine wpListIn_of_list rfl rfl rfl (wpList_load_row rfl 65 _ rfl K rfl 65 (cellsOf .u8 (mk 16 f)) (0, 0) _ QV.out.key keyUnder rfl (keySize _) ⟨rfl, rfl, rfl⟩) ?_))
    refine ⟨trivial, (CallsIn.inRound _ (callsIn_wide.2 (NC.out V))).mono ?_⟩
    rintro e V1 ⟨rfl, hb1⟩
    have Q1 := Lib.hid (QV.out.below (hb1.mono QV.out.big))
    have A1 := Lib.hid (Aft.of_below (K + 2) hb1)
    clear hb1 QV NC c2 c3 p3 p4 p5
    gi_wp2_with (first
      | (refine wpListIn_of_list rfl rfl rfl (store_row_on rfl 65 _ _ rfl rfl K (cellsOf .u8 (mk 16 (numX t f))) rfl rfl 65 (cellsOf .u8 (mk 16 f)) Q1.out.key (keySize _) (by rw [cellsOf_size, cellsOf_size, mk_len, mk_len]) (cellsOf_one _ _) ⟨rfl, rfl, rfl⟩) ?_
         have Q2 := Lib.hid (unQ_setK Q1.out (numX t f))
         have A2 := Lib.hid (A1.out.setRow (g := K) (by omega) (cellsOf .u8 (mk 16 (numX t f))))
         have C2 := Lib.hid (Q2.out.row.cells (o := 8 * c) (n := 8) hcM)
         generalize V1.setRow K (cellsOf .u8 (mk 16 (numX t f))) = V2 at *
         clear Q1 A1)
      | (refine wpListIn_of_list rfl rfl rfl (wpList_key_from rfl _ _ rfl K rfl rfl ⟨rfl, rfl, rfl⟩) ?_)
      | (refine wpListIn_of_list rfl rfl rfl (wpList_copy_part rfl _ _ 22 22 rfl 5 bytesUnder2 bytesInfo1 K 8 8 8 (w1.heap.size + 1 + 1) (8 * c) 8 (M - 8 * c) 8 16 (numX t f) (fun j => txt (S i) (8 * c + j)) rfl rfl 65 Q2.out.key (by omega) rfl C2.out ⟨rfl, rfl, rfl⟩) ?_
         rw [G1.out]
         have Q3 := Lib.hid (unQ_setK Q2.out gk)
         have A3 := Lib.hid (A2.out.setRow (g := K) (by omega) (cellsOf .u8 (mk 16 gk)))
         have c2 := cell_of_one Q3.out.rnd
         generalize V2.setRow K (cellsOf .u8 (mk 16 gk)) = V3 at *
         clear G1 C2 Q2 A2)
      | (refine wpListIn_of_list rfl rfl rfl (wpList_load_row rfl 65 _ rfl K rfl 65 (cellsOf .u8 (mk 16 gk)) (0, 0) _ Q3.out.key keyUnder rfl (keySize _) ⟨rfl, rfl, rfl⟩) ?_))
    refine ⟨trivial, (CallsIn.inRound _ (callsIn_wide.2 (Decrypt_any (some ⟨D, 0, none⟩) T T R gk hR hng hT V3 (K1.out.below Q3.out.low)))).mono ?_⟩
    rintro e V4 ⟨rfl, hb4⟩
    have Q4 := Lib.hid (Q3.out.below (hb4.mono Q3.out.big))
    have A4 := Lib.hid (A3.out.trans (Aft.of_below (K + 2) hb4))
    clear hb4 Q3 A3 c2
    generalize decK R T gk = de at *
    gi_wp2_with (first
      | (refine wpListIn_of_list rfl rfl rfl (store_row_on rfl 65 _ _ rfl rfl K (cellsOf .u8 (mk 16 de)) rfl rfl 65 (cellsOf .u8 (mk 16 gk)) Q4.out.key (keySize _) (by rw [cellsOf_size, cellsOf_size, mk_len, mk_len]) (cellsOf_one _ _) ⟨rfl, rfl, rfl⟩) ?_
         have Q5 := Lib.hid (unQ_setK Q4.out de)
         have A5 := Lib.hid (A4.out.setRow (g := K) (by omega) (cellsOf .u8 (mk 16 de)))
         have C5 := Lib.hid (Q5.out.key.cells (o := 8) (n := 8) (by omega))
         generalize V4.setRow K (cellsOf .u8 (mk 16 de)) = V5 at *
         clear Q4 A4)
      | (refine wpListIn_of_list rfl rfl rfl (wpList_key_from rfl _ _ rfl K rfl rfl ⟨rfl, rfl, rfl⟩) ?_)
      | (refine wpListIn_of_list rfl rfl rfl (wpList_copy_part rfl _ _ 22 22 rfl 5 bytesUnder2 bytesInfo1 (w1.heap.size + 1 + 1) (8 * c) 8 (M - 8 * c) K 8 8 8 8 M (txt (S i)) (fun j => de (8 + j)) rfl rfl 5 Q5.out.row hcM rfl C5.out ⟨rfl, rfl, rfl⟩) ?_
         rw [HL3.out]))
    show Aft w8.heap.size V _ ∧ (∃ f, IsKey f ∧ (∀ j, j < 8 → f j = S (i + 1) j) ∧ UnQ w1 K D T M m (txt (S (i + 1))) f _)
    rw [s8]
    exact ⟨A5.out.setRow (by omega) _, _, hde, HNA.out, unQ_setF Q5.out _⟩
set_option maxRecDepth 100000 in
set_option maxHeartbeats 2000000 in
/-- Another key, or a text of another length. -/
theorem Unwrap_via (p : Option Addr) (n cap : Nat) (q : Option Addr) (tn tcap : Nat) (E : Int) (w : World)
    (hc : Calls Try.prog 21 #[.slice p n cap, .slice q tn tcap, .int .i64 1] w fun e w' => e = .returned (.tuple #[.slice none 0 0, .int .i64 0, .iface 33 (.int .i64 E)]) ∧ Below w.heap.size w w') :
    Calls Try.prog 20 #[.slice p n cap, .slice q tn tcap] w fun e w' => e = .returned (.tuple #[.slice none 0 0, .iface 33 (.int .i64 E)]) ∧ Below w.heap.size w w' := by
  have PC := Lib.hid hc
  clear hc
  refine (callsIn_wide (n := 3)).1 ?_
  refine callsIn_of_wp_marks Try.func20 rfl trivial ?_ rfl
  simp only [Try.ntmps20, List.size_toArray, List.length_cons, List.length_nil, Nat.reduceAdd, Nat.reduceSub, Array.replicate_succ, Array.replicate_zero, List.push_toArray, List.append_toArray, List.nil_append, List.cons_append]
  refine wpIn_wide.2 ?_
  go_wp2_with (first
    | (go_at_call 21; refine PC.out.mono ?_; rintro e w1 ⟨rfl, hb⟩
       have B1 := Lib.hid hb
       clear hb PC))
  exact ⟨_, results_tmp2 rfl _ _ _, rfl, (B1.out.alloc B1.out.size _).alloc (by have := B1.out.size; simp; omega) _⟩
theorem Unwrap_key (p : Option Addr) (n cap : Nat) (q : Option Addr) (tn tcap : Nat) (h16 : n ≠ 16) (h32 : n ≠ 32) (w : World) :
    Calls Try.prog 20 #[.slice p n cap, .slice q tn tcap] w fun e w' => e = .returned (.tuple #[.slice none 0 0, .iface 33 (.int .i64 3)]) ∧ Below w.heap.size w w' :=
  Unwrap_via p n cap q tn tcap 3 w ((prepare_key p n cap q tn tcap 1 h16 h32 w).mono fun e w' ⟨he, hw⟩ => ⟨he, by rw [← hw]; exact Below.refl _ _⟩)
theorem Unwrap_form (p : Option Addr) (n cap N : Nat) (g : Nat → Nat) (q : Option Addr) (tn tcap : Nat) (hn : n = 4 * N) (hN : N = 4 ∨ N = 8) (hcap : n ≤ cap) (hg : ∀ i, i < n → g i < 256)
    (htn : tn < 9223372036854775808) (ht : tn % 8 ≠ 0 ∨ tn < 24 ∨ 520 < tn) (w : World) (hp : BytesAt w p n g) :
    Calls Try.prog 20 #[.slice p n cap, .slice q tn tcap] w fun e w' => e = .returned (.tuple #[.slice none 0 0, .iface 33 (.int .i64 2)]) ∧ Below w.heap.size w w' :=
  Unwrap_via p n cap q tn tcap 2 w (prepare_form p n cap N g q tn tcap 1 hn hN hcap hg htn (by omega) (by omega) w hp)
end Go.Proofs.Ytghdeedglekphaa
