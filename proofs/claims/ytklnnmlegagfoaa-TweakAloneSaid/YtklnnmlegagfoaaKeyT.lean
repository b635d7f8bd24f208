/- The contract of citadelnum's Key at 16 bytes; drawn regions in a round by a tree of orders. No condition. -/
import Derived.Test.YtklnnmlegagfoaaSameC
namespace Go.Proofs.Ytklnnmlegagfoaa
open Go.ChangeShapes Go.WideShapes Go.ChangeAt Go.RowKit
set_option linter.unusedVariables false

set_option maxRecDepth 100000 in
set_option maxHeartbeats 400000 in
theorem Key_any (B off cap : Nat) (g : Nat → Nat) (hg : IsKey g) (w : World) (hc : Cells w B off 16 g) (hB : B < w.heap.size) :
    Calls Try.prog 44 #[.slice (some ⟨B, off, none⟩) 16 cap] w fun e w' => e = .returned (.agg (cellsOf .u8 (mk 16 g))) ∧ Below w.heap.size w w' := by
  have b2 := below_two w (.cells (cellsOf .u8 (mk 16 zeroK)) 25) (.cells (cellsOf .u8 (mk 16 zeroK)) 25)
  have c1 : Cells ((w.alloc (.cells (cellsOf .u8 (mk 16 zeroK)) 25)).alloc (.cells (cellsOf .u8 (mk 16 zeroK)) 25)) B off 16 g := hc.below b2 hB
  have Y0 := Lib.hid ((IntBlk.new w .u8 25 (mk 16 zeroK)).alloc (.cells (cellsOf .u8 (mk 16 zeroK)) 25))
  have Z0 := Lib.hid (blk_two w .u8 25 (mk 16 zeroK) (.cells (cellsOf .u8 (mk 16 zeroK)) 25))
  have B0 := Lib.hid b2
  have HC := Lib.hid c1
  clear hc c1 b2
  go_enter Try.func44, Try.ntmps44
  go_wp2_with (first
    | (refine wpList_copy_part rfl _ _ 22 22 rfl 5 bytesUnder2 bytesInfo1 (w.heap.size + 1) 0 16 16 B off 16 cap 16 16 zeroK g rfl rfl 25 ?q1 ?q2 ?q3 ?q4 ?_
       case q1 => exact Z0.out
       case q2 => omega
       case q3 => rfl
       case q4 => exact HC.out
       rw [put_whole]
       have z1 := Z0.out.setRow .u8 (mk 16 g)
       have y1 := Y0.out.otherRow (C := w.heap.size + 1) (by omega) (cellsOf .u8 (mk 16 g))
       have d1 : Below w.heap.size w _ := below_setRow (g := w.heap.size + 1) B0.out (by omega) (cellsOf .u8 (mk 16 g))
       change wpList _ _ _ _ _ (World.setRow ((w.alloc (.cells (cellsOf .u8 (mk 16 zeroK)) 25)).alloc (.cells (cellsOf .u8 (mk 16 zeroK)) 25)) _ _)
       generalize World.setRow ((w.alloc (.cells (cellsOf .u8 (mk 16 zeroK)) 25)).alloc (.cells (cellsOf .u8 (mk 16 zeroK)) 25)) _ _ = w3 at *
       have Z1 := Lib.hid z1; have D1 := Lib.hid d1; have Y1 := Lib.hid y1
       clear z1 d1 y1 Y0 Z0 B0 HC)
    | (refine wpList_load_row rfl 25 _ rfl (w.heap.size + 1) rfl 25 (cellsOf .u8 (mk 16 g)) (0, 0) _ Z1.out keyUnder rfl (keySize g) ?_)
    | (refine wpList_store_row rfl 25 _ _ rfl w.heap.size (cellsOf .u8 (mk 16 g)) rfl rfl 25 (cellsOf .u8 (mk 16 zeroK)) Y1.out (keySize _) (by rw [cellsOf_size, cellsOf_size, mk_len, mk_len]) (cellsOf_one _ _) ?_))
  refine bodyPost_ret (results_cell_row rfl _ _ w.heap.size 25 (cellsOf .u8 (mk 16 g)) (0, 0) _ rfl (Y1.out.setRow .u8 (mk 16 g)) keyUnder rfl (keySize _)) rfl ⟨rfl, below_setRow D1.out (Nat.le_refl _) _⟩

theorem keyZero_run (W : World) : (zeroValue 25).run Try.prog W = .ok (.agg (cellsOf .u8 (mk 16 zeroK))) W := by
  have h : (Try.prog.info? 25).bind (·.zero) = some (.agg (cellsOf .u8 (mk 16 zeroK))) := by kernel_rfl
  cases hq : Try.prog.info? 25 with
  | none => rw [hq] at h; simp at h
  | some i =>
    rw [hq] at h
    simp only [Option.bind_some] at h
    simp [zeroValue, typeInfo, hq, h]
theorem run_range (B off n cap k : Nat) (hk : k < n) (hk2 : k + 16 ≤ n) (hn : n ≤ cap) (w : World) : (Instr.sliceAt 22 (.slice (some ⟨B, off, none⟩) n cap) (some (.int .i64 k)) (some (.int .i64 (k + 16 : Nat))) none).run Try.prog w = .ok (.slice (some ⟨B, off + k, none⟩) 16 (cap - k)) w := by
  have hs := byteElem.run_size (P := Try.prog) w
  have e1 : (0 : Int) ≤ k := by omega
  have e4 : ¬ cap = k := by omega
  have e6 : (k : Int) ≤ (k : Int) + 16 := by omega
  have e7 : (k : Int) + 16 ≤ cap := by omega
  have e9 : ((k : Int) + 16).toNat - k = 16 := by omega
  simp [go_sem, e1, e4, e6, e7, e9, hs, Program.elem, addr_add]
section
variable {o : Oper} {a : Act} {C : World → Prop} {K : Act → Prop}
theorem gives_range (x y v : Operand) (ho : o.op = .slice 22 x (some y) (some v) none) (B off n cap k : Nat) (z u : Int) (hz : z = k) (hu : u = (k + 16 : Nat)) (hx : a.eval x = .slice (some ⟨B, off, none⟩) n cap) (hy : a.eval y = .int .i64 z) (hv : a.eval v = .int .i64 u) (hk2 : k + 16 ≤ n) (hn : n ≤ cap)
    (hk : K (a.put o.dst (.slice (some ⟨B, off + k, none⟩) 16 (cap - k)))) : ∃ v, Gives Try.prog C o a v ∧ K (a.put o.dst v) := by
  subst hz hu
  refine ⟨_, fun w _ => ?_, hk⟩
  have hr := run_range B off n cap k (by omega) hk2 hn w
  unfold execOp
  simp only [ho, hx]
  simp only [Option.map_some, Option.map_none, hy, hv, Sem.run_bind, hr, Result.andThen_ok, Sem.run_pure]
theorem gives_lie (t : TypeId) (x : Operand) (ho : o.op = .load t x) (p : Addr) (v : Value) (hx : a.eval x = .pointer (some p)) (hu : ∀ w, (isAgg t).run Try.prog w = .ok false w) (hB : ∀ w, C w → w.cell? p = some v) (hk : K (a.put o.dst v)) : ∃ v, Gives Try.prog C o a v ∧ K (a.put o.dst v) :=
  ⟨_, fun w hw => by
    have hc := hB w hw
    unfold execOp
    simp only [ho, hx]
    simp [go_sem, hc, hu], hk⟩
theorem gives_len (x : Operand) (ho : o.op = .call { callee := .builtin .len, args := #[x], argTypes := #[22] }) (p : Option Addr) (n cap : Nat) (hx : a.eval x = .slice p n cap) (hk : K (a.put o.dst (.int .i64 n))) : ∃ v, Gives Try.prog C o a v ∧ K (a.put o.dst v) := by
  refine ⟨.int .i64 n, fun w _ => ?_, hk⟩
  unfold execOp
  simp only [ho]
  cases x with
  | tmp j => simp only [Act.eval] at hx; simp [go_sem]; simp_all [go_sem]
  | const v => have hx' : v = .slice p n cap := hx; simp [go_sem, hx']
  | global j => cases hx
  | func j => cases hx
theorem gives_half (x : Operand) (ho : o.op = .binOp .quo 3 x (.const (.int .i64 2)) 3) (n : Nat) (hn : n < 9223372036854775808) (hx : a.eval x = .int .i64 n) (hk : K (a.put o.dst (.int .i64 (n / 2 : Nat)))) : ∃ v, Gives Try.prog C o a v ∧ K (a.put o.dst v) :=
  ⟨_, fun w _ => by
    have e : IntKind.i64.wrap ((n : Int) / 2) = (n : Int) / 2 := IntWalk.i64_in _ (by omega)
    unfold execOp
    simp only [ho, hx]
    simp [go_sem, Act.eval, e], hk⟩
end

theorem run_string (p : Option Addr) (n cap : Nat) (g : Nat → Nat) (w : World) (hp : BytesAt w p n g) : (convert 22 9 (.slice p n cap)).run Try.prog w = .ok (.string (strOfNums (mk n g))) w := by
  by_cases h0 : n = 0
  · subst h0
    rw [run_convert_bytes_string w _ _ 5 p 0 cap bytesUnder byteUnder1 stringUnder1]
    cases p with
    | none => rfl
    | some ad =>
      rw [run_bytesToString w ad 0 cap [] (by simpa using run_loadCells_list (P := Try.prog) w ad [] (fun j v hj => by simp at hj))]
      rfl
  · rcases hp with hp | ⟨B, off, rfl, hB, hc⟩
    · exact absurd hp h0
    · exact run_convert_bytes_arg w _ 5 bytesUnder byteUnder1 B off n cap (mk n g) (mk_len n g) (fun i hi => by rw [mk_get hi]; exact hc i hi) _ stringUnder1
section
variable {o : Oper} {a : Act} {C : World → Prop} {K : Act → Prop}
theorem gives_nil_neq (x : Operand) (ho : o.op = .binOp .neq 27 x (.const .nilIface) 27) (hx : a.eval x = .nilIface) (hk : K (a.put o.dst (.bool false))) : ∃ v, Gives Try.prog C o a v ∧ K (a.put o.dst v) := by
  refine ⟨.bool false, fun w _ => ?_, hk⟩
  unfold execOp
  simp only [ho, hx]
  simp [go_sem, Act.eval]
theorem gives_string (x : Operand) (ho : o.op = .convert 22 9 x) (p : Option Addr) (n cap : Nat) (g : Nat → Nat) (hx : a.eval x = .slice p n cap) (hp : ∀ w, C w → BytesAt w p n g) (hk : K (a.put o.dst (.string (strOfNums (mk n g))))) : ∃ v, Gives Try.prog C o a v ∧ K (a.put o.dst v) := by
  refine ⟨_, fun w hw => ?_, hk⟩
  have hr := run_string p n cap g w (hp w hw)
  unfold execOp
  simp only [ho, hx]
  simp [hr]
theorem gives_string_neq (x y : Operand) (ho : o.op = .binOp .neq 9 x y 9) (s : ByteArray) (hx : a.eval x = .string s) (hy : a.eval y = .string s) (hk : K (a.put o.dst (.bool false))) : ∃ v, Gives Try.prog C o a v ∧ K (a.put o.dst v) := by
  refine ⟨.bool false, fun w _ => ?_, hk⟩
  unfold execOp
  simp only [ho, hx, hy]
  simp [go_sem]
theorem gives_pick_no (c x y : Operand) (ho : o.op = .pick c x y) (hc : a.eval c = .bool false) (v : Value) (hy : a.eval y = v) (hk : K (a.put o.dst v)) : ∃ v, Gives Try.prog C o a v ∧ K (a.put o.dst v) := by
  refine ⟨v, fun w _ => ?_, hk⟩
  unfold execOp
  simp only [ho, hc, hy]
  simp [go_sem]
end

section
variable {P : Program} {Q : Exit → Act → World → Prop} {l n : Nat}
/-- A region whose order is drawn, in a round, by a tree of orders. -/
theorem region_round_tree {id : Nat} {a : Act} {w : World} {xs : List Oper} (t : Tree) (C : World → Prop) (hm : P.follows .mixedOrders = true) (hd : xs.all noDefer = true) (hq : ¬ LetsOut Q)
    (hB : (Region.noSelect xs.toArray && decide (t.count = xs.length) && t.fits .any xs.toArray (Array.replicate xs.length false)) = true) (hC : C w.drew)
    (h : walkT P xs.toArray C (fun a' w' => Q .normal a' w') t a w.drew) : (Code.region id xs.toArray true).wpIn (Fence.wide.inRound l) n P Q a w := by
  simp only [Bool.and_eq_true, decide_eq_true_eq] at hB
  refine wpIn_region_any hm ?_
  have := any_of_anyC (Q := Q) (fun a w _ h => h) _ _ _ _ hC (anyC_tree (md := .any) hB.1.1 t _ a w.drew hC hB.2 h)
  rw [hB.1.2] at this
  exact wpAnyIn_round (fun o ho => List.all_eq_true.1 hd o (by simpa using ho)) hq _ _ _ _ (by simpa using this)
end
end Go.Proofs.Ytklnnmlegagfoaa
