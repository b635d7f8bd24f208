/- A unit's keys as a value and in blocks; bytes of arrays copied and cut; the contract of package vault's KeysOf. Conditions: as each says. -/
import Derived.Test.YtghdeedglekphaaTsBase
import Derived.Test.YtghdeedglekphaaZeros
import Derived.Test.YtghdeedglekphaaWdRowS
import Derived.DeepKeys
namespace Go.Proofs.Ytghdeedglekphaa
open Go.ChangeShapes Go.WideShapes Go.ChangeAt Go.RowKit
set_option linter.unusedVariables false
/-- A unit's keys: 64 bytes. -/
def IsU (U : List Int) : Prop := U.length = 64 ∧ IsBytes U
theorem IsU.mk' {U : List Int} (h : IsU U) : mk 64 (natF U) = U := by have := mk_natF h.2; rw [h.1] at this; exact this
theorem isU_mk {f : Nat → Nat} (h : ∀ i, i < 64 → f i < 256) : IsU (mk 64 f) := ⟨mk_len _ _, mk_bytes h⟩
def keyC (U : List Int) : List Value := bytC 64 (natF U)
def keyV (U : List Int) : Value := .agg (keyC U).toArray
def noKeys : List Int := mk 64 zeroK
theorem keyC_len (U : List Int) : (keyC U).length = 64 := bytC_len _ _
theorem keyC_one (U : List Int) : ∀ u ∈ keyC U, u.oneCell' = true := bytC_one _ _
theorem keyC_no : keyC noKeys = bytC 64 zeroK := bytC_ext fun j hj => natF_mk hj
theorem keysInf : (Try.prog.info? 27).map (·.size) = some 64 := by kernel_rfl
theorem keysUnd : ∃ d, Try.prog.underlying 27 = some d ∧ d.isRow = true := ⟨_, Try.underlying27, rfl⟩
theorem keyZero_run (W : World) : (zeroValue 27).run Try.prog W = .ok (.agg (keyC noKeys).toArray) W := by
  have h : (Try.prog.info? 27).bind (·.zero) = some (.agg (keyC noKeys).toArray) := by kernel_rfl
  cases hq : Try.prog.info? 27 with
  | none => rw [hq] at h; simp at h
  | some i =>
    rw [hq] at h
    simp only [Option.bind_some] at h
    simp [zeroValue, typeInfo, hq, h]
theorem key_built0 : Try.prog.built 27 [] = some (keyC noKeys).toArray := by kernel_rfl
theorem arr32Und : Try.prog.underlying 25 = some (.array 32 5) := Try.underlying25
theorem arr32Info : (Try.prog.info? 25).map (·.size) = some 32 := by kernel_rfl
theorem size_of_info {t : TypeId} {n : Nat} (hi : (Try.prog.info? t).map (·.size) = some n) (w : World) : (sizeOf t).run Try.prog w = .ok n w := by
  cases hq : Try.prog.info? t with
  | none => simp [hq] at hi
  | some i =>
    have hs : i.size = n := by simpa [hq] using hi
    simp [sizeOf, typeInfo, hq, hs]
theorem key_cut (U : List Int) (k : Nat) (hk : k < 2) : (keyC U).toArray.extract (32 * k) (32 * k + 32) = cellsOf .u8 (mk 32 fun j => natF U (32 * k + j)) := by
  rcases (show k = 0 ∨ k = 1 by omega) with rfl | rfl <;> kernel_rfl
theorem key_part (U : List Int) (k : Nat) (hk : k < 2) (w : World) : (part 25 (keyC U).toArray (32 * k)).run Try.prog w = .ok (.agg (cellsOf .u8 (mk 32 fun j => natF U (32 * k + j)))) w := by
  have h : (isAgg 25).run Try.prog w = .ok true w := by simp [go_sem]
  have hs := size_of_info arr32Info w
  have e := key_cut U k hk
  unfold part
  simp only [Sem.run_bind, h, hs, Result.andThen_ok, if_true, Sem.run_pure, e]
theorem arr32_same (f : Nat → Nat) (w : World) : (Op.equalIn 9999 25 (.agg (cellsOf .u8 (mk 32 f))) (.agg (cellsOf .u8 (mk 32 f)))).run Try.prog w = .ok true w := by
  have := run_equalIn_ints w 9997 (mk 32 f) (mk 32 f) (P := Try.prog) (t := 25) (by rw [mk_len]; exact arr32Und) byteElem rfl
  rw [this]; simp
theorem two_parts (d : Nat) (A X Y : Array Value) (w : World) (p0 : (part 25 A 0).run Try.prog w = .ok (.agg X) w) (p1 : (part 25 A 32).run Try.prog w = .ok (.agg Y) w) (q0 : (Op.equalIn d 25 (.agg X) (.agg X)).run Try.prog w = .ok true w) (q1 : (Op.equalIn d 25 (.agg Y) (.agg Y)).run Try.prog w = .ok true w) :
    (Op.equalIn (d + 1) 27 (.agg A) (.agg A)).run Try.prog w = .ok true w := by
  have hS : Try.prog.underlying 27 = some (.struct (Try.prog.fieldsOf 27)) := by kernel_rfl
  rw [run_equalIn_agg w d 27 _ _ hS (by kernel_rfl)]
  simp only [Program.fieldsOf, Try.underlying27]
  simp only [Op.eqFields]
  rw [if_pos (by decide), if_pos (by decide)]
  simp only [Sem.run_bind, p0, q0, Result.andThen_ok]
  simp [p1, q1]
theorem key_same (U : List Int) (w : World) : (Op.equalIn 10000 27 (keyV U) (keyV U)).run Try.prog w = .ok true w := by
  have p0 := key_part U 0 (by decide) w
  have p1 := key_part U 1 (by decide) w
  rw [Nat.mul_zero] at p0
  rw [Nat.mul_one] at p1
  exact two_parts 9999 _ _ _ w p0 p1 (arr32_same _ w) (arr32_same _ w)
section
variable {ops : Array Oper} {rest : List Oper} {o : Oper} {a : Act} {w : World} {Q : Exit → Act → World → Prop} {C : World → Prop} {K : Act → Prop}
theorem wpList_ukey_alloc (hw : Region.wanted o (yielded ops a.tmps) = true) (ho : o.op = .alloc 27) (S : Nat) (hS : w.heap.size = S)
    (h : ∀ w', CellB w' S (keyC noKeys) → Below S w w' → w'.heap.size = S + 1 → wpList Try.prog ops Q rest (a.put o.dst (.pointer (some ⟨S, 0, none⟩))) w') : wpList Try.prog ops Q (o :: rest) a w :=
  wanted_step hw fun K hK => by
    subst hS
    have e := keyZero_run w
    unfold Oper.wp execOp
    simp only [ho]
    simp [go_sem, e]
    exact hK _ _ (h _ (CellB.new w _ _) ((Below.refl _ _).alloc (Nat.le_refl _) _) (by simp))
theorem wpList_ukey_box (hgd : o.guard = none) (x : Operand) (ho : o.op = .box 27 x) (U : List Int) (hx : a.eval x = keyV U) (S : Nat) (hS : w.heap.size = S)
    (h : ∀ w', CellB w' S (keyC U) → Below S w w' → w'.heap.size = S + 1 → wpList Try.prog ops Q rest (a.put o.dst (.pointer (some ⟨S, 0, none⟩))) w') : wpList Try.prog ops Q (o :: rest) a w :=
  wpList_plain hgd fun K hK => by
    subst hS
    unfold keyV at hx
    unfold Oper.wp execOp
    simp only [ho, hx]
    simp [go_sem]
    exact hK _ _ (h _ (CellB.new w _ _) ((Below.refl _ _).alloc (Nat.le_refl _) _) (by simp))
theorem exec_ukey_load (x : Operand) (ho : o.op = .load 27 x) (B : Nat) (hx : a.eval x = .pointer (some ⟨B, 0, none⟩)) (U : List Int) (hc : w.rangeAt B 0 (keyC U)) : (execOp a.eval o).run Try.prog w = .ok (.value (keyV U)) w := by
  obtain ⟨d, hd, hr⟩ := keysUnd
  have e := run_loadVar_mid w B 0 27 (keyC U) d hc hd hr (by rw [keyC_len]; exact keysInf)
  unfold keyV execOp
  simp only [ho, hx, Instr.loadAt, Instr.sureAddr, Sem.run_bind, Sem.run_pure, Result.andThen_ok, e]
theorem wpList_ukey_load (hw : Region.wanted o (yielded ops a.tmps) = true) (x : Operand) (ho : o.op = .load 27 x) (B : Nat) (hx : a.eval x = .pointer (some ⟨B, 0, none⟩)) (U : List Int) (hc : w.rangeAt B 0 (keyC U)) (h : wpList Try.prog ops Q rest (a.put o.dst (keyV U)) w) : wpList Try.prog ops Q (o :: rest) a w :=
  wanted_step hw fun K hK => by
    unfold Oper.wp
    rw [exec_ukey_load x ho B hx U hc]
    exact hK _ _ h
theorem gives_ukey_load (x : Operand) (ho : o.op = .load 27 x) (B : Nat) (hx : a.eval x = .pointer (some ⟨B, 0, none⟩)) (U : List Int) (hc : ∀ w, C w → w.rangeAt B 0 (keyC U)) (hk : K (a.put o.dst (keyV U))) : ∃ v, Gives Try.prog C o a v ∧ K (a.put o.dst v) :=
  ⟨_, fun w hw => exec_ukey_load x ho B hx U (hc w hw), hk⟩
theorem key_over {B : Nat} {U V : List Int} (h : CellB w B (keyC V)) : CellB (w.setCells B 0 (keyC U)) B (keyC U) := h.over (by rw [keyC_len, keyC_len]; omega) fun j v hv => ⟨fun _ => hv, fun hj => by
  have := (List.getElem?_eq_some_iff.1 hv).1
  rw [keyC_len] at this hj; omega⟩
theorem exec_ukey_store (x y : Operand) (ho : o.op = .store 27 x y) (B : Nat) (hx : a.eval x = .pointer (some ⟨B, 0, none⟩)) (U : List Int) (hy : a.eval y = keyV U) (V : List Int) (hl : CellB w B (keyC V)) : (execOp a.eval o).run Try.prog w = .ok .skip (w.setCells B 0 (keyC U)) := by
  unfold keyV at hy
  unfold execOp
  simp only [ho, hx, hy]
  rw [Sem.run_bind, run_storeAt_mid w B 0 27 (keyC U).toArray (by rw [List.size_toArray, keyC_len]; exact hl.there (by rw [keyC_len]; omega)) (by rw [List.size_toArray, keyC_len]; exact keysInf) (all_oneCell_toArray (keyC_one _))]
  rfl
theorem wpList_ukey_store (hgd : o.guard = none) (x y : Operand) (ho : o.op = .store 27 x y) (hd : o.dst = none) (B : Nat) (hx : a.eval x = .pointer (some ⟨B, 0, none⟩)) (U : List Int) (hy : a.eval y = keyV U) (V : List Int) (hl : CellB w B (keyC V))
    (h : ∀ w', CellB w' B (keyC U) → But B w w' → w'.heap.size = w.heap.size → wpList Try.prog ops Q rest a w') : wpList Try.prog ops Q (o :: rest) a w :=
  wpList_plain hgd fun K hK => by
    have e := exec_ukey_store x y ho B hx U hy V hl
    unfold Oper.wp
    rw [e]
    show K (a.put o.dst undef) _
    rw [hd]
    exact hK _ _ (h _ (key_over hl) (but_setCells B _ _ w) (size_setCells B _ _ w))
theorem done_ukey_store {K : Value → World → Prop} (x y : Operand) (ho : o.op = .store 27 x y) (B : Nat) (hx : a.eval x = .pointer (some ⟨B, 0, none⟩)) (U : List Int) (hy : a.eval y = keyV U) (V : List Int) (hl : CellB w B (keyC V))
    (h : ∀ w', CellB w' B (keyC U) → But B w w' → w'.heap.size = w.heap.size → K undef w') : doneAt Try.prog o a w K := by
  have e := exec_ukey_store x y ho B hx U hy V hl
  unfold doneAt
  rw [e]
  exact h _ (key_over hl) (but_setCells B _ _ w) (size_setCells B _ _ w)
theorem done_cell_store {K : Value → World → Prop} (x y : Operand) (ho : o.op = .store 24 x y) (B : Nat) (hx : a.eval x = .pointer (some ⟨B, 0, none⟩)) (s : List Int) (hy : a.eval y = secVal s) (s0 : List Int) (hl : CellB w B (secC s0))
    (h : ∀ w', CellB w' B (secC s) → But B w w' → w'.heap.size = w.heap.size → K undef w') : doneAt Try.prog o a w K := by
  have e := exec_cell_store x y ho B hx s hy s0 hl
  unfold doneAt
  rw [e]
  exact h _ (cell_over hl) (but_setCells B _ _ w) (size_setCells B _ _ w)
theorem wpList_ukey_build0 (hw : Region.wanted o (yielded ops a.tmps) = true) (ho : o.op = .build 27 #[])
    (h : wpList Try.prog ops Q rest (a.put o.dst (keyV noKeys)) w) : wpList Try.prog ops Q (o :: rest) a w :=
  wanted_step hw fun K hK => by
    have e := run_build w 27 #[] _ key_built0
    unfold keyV at h
    unfold Oper.wp execOp
    simp only [ho]
    simp [e]
    exact hK _ _ h
theorem wpList_ukey_eql (hw : Region.wanted o (yielded ops a.tmps) = true) (x y : Operand) (ho : o.op = .binOp .eql 27 x y 27) (U : List Int) (hx : a.eval x = keyV U) (hy : a.eval y = keyV U) (h : wpList Try.prog ops Q rest (a.put o.dst (.bool true)) w) : wpList Try.prog ops Q (o :: rest) a w :=
  wanted_step hw fun K hK => by
    have p := key_same U w
    unfold keyV at hx hy p
    have g := run_eqGuard_agg (P := Try.prog) w .eql 27 x y (keyC U).toArray (keyC U).toArray (by kernel_rfl)
    have q := run_eql_struct (P := Try.prog) w 27 (keyC U).toArray (keyC U).toArray
    rw [p] at q
    unfold Oper.wp execOp
    simp only [ho, hx, hy, Sem.run_bind, g, q, Result.andThen_ok, Sem.run_pure]
    exact hK _ _ h
theorem wpList_ukey_neq (hw : Region.wanted o (yielded ops a.tmps) = true) (x y : Operand) (ho : o.op = .binOp .neq 27 x y 27) (U : List Int) (hx : a.eval x = keyV U) (hy : a.eval y = keyV U) (h : wpList Try.prog ops Q rest (a.put o.dst (.bool false)) w) : wpList Try.prog ops Q (o :: rest) a w :=
  wanted_step hw fun K hK => by
    have p := key_same U w
    unfold keyV at hx hy p
    have g := run_eqGuard_agg (P := Try.prog) w .neq 27 x y (keyC U).toArray (keyC U).toArray (by kernel_rfl)
    have q := run_neq_struct (P := Try.prog) w 27 (keyC U).toArray (keyC U).toArray
    rw [p] at q
    unfold Oper.wp execOp
    simp only [ho, hx, hy, Sem.run_bind, g, q, Result.andThen_ok, Sem.run_pure]
    exact hK _ _ h
theorem gives_ukey_field (x : Operand) (k : Nat) (ho : o.op = .fieldAddr 27 x k) (hk2 : k < 2) (B p : Nat) (hp : 32 * k = p) (hx : a.eval x = .pointer (some ⟨B, 0, none⟩)) (hk : K (a.put o.dst (.pointer (some ⟨B, p, none⟩)))) : ∃ v, Gives Try.prog C o a v ∧ K (a.put o.dst v) :=
  ⟨_, fun w _ => by
    subst hp
    unfold execOp
    simp only [ho, hx]
    rcases k with _ | _ | k
    all_goals first | (exfalso; omega) | simp [go_sem, addr_add], hk⟩
theorem gives_bytes_from (x y : Operand) (ho : o.op = .slice 22 x (some y) none none) (B off n cap k m c p : Nat) (hx : a.eval x = .slice (some ⟨B, off, none⟩) n cap) (hy : a.eval y = .int .i64 k) (hkn : k ≤ n) (hn : n ≤ cap) (hne : k < cap) (hm : n - k = m) (hc : cap - k = c) (hp : off + k = p) (hk : K (a.put o.dst (.slice (some ⟨B, p, none⟩) m c))) : ∃ v, Gives Try.prog C o a v ∧ K (a.put o.dst v) :=
  ⟨_, fun w _ => by
    subst hm; subst hc; subst hp
    have hr := run_tail (some ⟨B, off, none⟩) n cap k hkn hn w
    rw [if_neg (by omega)] at hr
    unfold execOp
    simp only [ho, hx]
    simp [hy, hr, add_plain], hk⟩
theorem wpList_copy_row (hgd : o.guard = none) (d s : Operand) (ho : o.op = .call { callee := .builtin .copy, args := #[d, s], argTypes := #[22, 22] }) (B off dLen dCap : Nat) (hd : a.eval d = .slice (some ⟨B, off, none⟩) dLen dCap) (C' o' n cap : Nat) (hs : a.eval s = .slice (some ⟨C', o', none⟩) n cap) (m : Nat) (hm : Nat.min n dLen = m) (N : Nat) (g : Nat → Nat) (hB : CellB w B (bytC N (fTo off g))) (hN : off + m ≤ N) (hc : ∀ i, i < m → w.cell? ⟨C', o' + i, none⟩ = some (.int .u8 (g (off + i) : Nat)))
    (h : ∀ w', CellB w' B (bytC N (fTo (off + m) g)) → But B w w' → w'.heap.size = w.heap.size → wpList Try.prog ops Q rest (a.put o.dst (.int .i64 m)) w') : wpList Try.prog ops Q (o :: rest) a w :=
  wpList_copy_cells hgd d s ho B off dLen dCap hd C' o' n cap hs m hm (fun j => g (off + j)) hc (hB.there (by rw [bytC_len]; exact hN)) (h _ (bytC_over hB hN) (but_setCells B _ _ w) (size_setCells B _ _ w))
end
theorem results_key_tmp {fn : Func} {p u : Tmp} (h : fn.results = #[.cell p 27, .tmp u]) (tmps : Array Value) (w : World) (B : Nat) (U : List Int) (hp : tmps.getD p undef = .pointer (some ⟨B, 0, none⟩)) (hB : CellB w B (keyC U)) :
    (results fn tmps).run Try.prog w = .ok (.tuple #[keyV U, tmps.getD u undef]) w := by
  obtain ⟨d, hd, hr⟩ := keysUnd
  rw [results_cell_tmp h, hp]
  unfold keyV
  simp only [asAddr, Sem.run_pure, Result.andThen_ok, run_loadVar_mid w B 0 27 (keyC U) d hB.row hd hr (by rw [keyC_len]; exact keysInf)]
theorem results_sec_tmp {fn : Func} {p u : Tmp} (h : fn.results = #[.cell p 24, .tmp u]) (tmps : Array Value) (w : World) (B : Nat) (s : List Int) (hp : tmps.getD p undef = .pointer (some ⟨B, 0, none⟩)) (hB : CellB w B (secC s)) :
    (results fn tmps).run Try.prog w = .ok (.tuple #[secVal s, tmps.getD u undef]) w := by
  rw [results_cell_tmp h, hp, secVal_cells]
  simp only [asAddr, Sem.run_pure, Result.andThen_ok, run_loadVar_mid w B 0 24 (secC s) _ hB.row secUnd rfl (by rw [secC_len]; exact secInfo)]
theorem keyC_zero (g : Nat → Nat) : keyC noKeys = bytC 64 (fTo 0 g) := by rw [keyC_no, bytC_zero]
theorem keyC_all (g : Nat → Nat) : bytC 64 (fTo 64 g) = keyC (mk 64 g) := by
  rw [bytC_all]
  exact bytC_ext fun j hj => (natF_mk hj).symm
theorem bytesAt_some {w : World} {p : Option Addr} {n : Nat} {g : Nat → Nat} (h : BytesAt w p n g) (hn : 0 < n) : ∃ B o, p = some ⟨B, o, none⟩ ∧ B < w.heap.size ∧ ∀ i, i < n → w.cell? ⟨B, o + i, none⟩ = some (.int .u8 (g i : Nat)) := by
  rcases h with h | ⟨B, o, h1, h2, h3⟩
  · omega
  · exact ⟨B, o, h1, h2, h3⟩
theorem key_bytes {w : World} {B : Nat} {U : List Int} (h : CellB w B (keyC U)) {k : Nat} (hk : k < 2) : BytesAt w (some ⟨B, 32 * k, none⟩) 32 fun j => natF U (32 * k + j) := by
  refine bytes_of_range (h.part fun j v hv => ?_) h.lt
  obtain ⟨hj, rfl⟩ := bytC_is hv
  unfold keyC
  exact bytC_get _ (by omega)
attribute [local irreducible] nought sumVal sumC secVal secC bytC noSec fTo keyC keyV noKeys
set_option maxRecDepth 100000 in
set_option maxHeartbeats 1000000 in
theorem KeysOf_no (q : Option Addr) (n c : Nat) (hn : n ≠ 64) (w : World) :
    Calls Try.prog 5 #[.slice q n c] w fun e w' => e = .returned (.tuple #[keyV noKeys, .iface 33 (.int .i64 3)]) ∧ Below w.heap.size w w' := by
  have d1 : (n == 64) = false := by simp; exact hn
  have d2 : ((n : Int) == 64) = false := by simp; omega
  clear hn
  go_enter Try.func5, Try.ntmps5
  go_wp2_with (first
    | (refine wpList_ukey_alloc rfl rfl w.heap.size rfl ?_; intro w1 hx hb hs
       have R1 := Lib.hid hx; have B1 := Lib.hid hb; clear hx hb hs)
    | (refine wpList_ukey_build0 rfl rfl ?_)
    | (refine wpList_ukey_store rfl _ _ rfl rfl w.heap.size rfl noKeys rfl noKeys R1.out ?_; intro w2 hx hb hs
       have R2 := Lib.hid hx; have B2 := Lib.hid (B1.out.trans (hb.below (Nat.le_refl _) B1.out.size)); clear hx hb hs R1 B1))
  exact bodyPost_ret (results_key_tmp rfl _ _ w.heap.size noKeys rfl R2.out) rfl ⟨rfl, B2.out⟩
set_option maxRecDepth 100000 in
set_option maxHeartbeats 4000000 in
theorem KeysOf_ok (q : Option Addr) (c : Nat) (g : Nat → Nat) (hc : 64 ≤ c) (w : World) (hq : BytesAt w q 64 g) :
    Calls Try.prog 5 #[.slice q 64 c] w fun e w' => e = .returned (.tuple #[keyV (mk 64 g), .nilIface]) ∧ Below w.heap.size w w' := by
  obtain ⟨B, o, rfl, hB, hcs⟩ := bytesAt_some hq (by decide)
  have HC := Lib.hid (fun (W : World) (h : Below w.heap.size w W) i (hi : i < 64) => (h.cell (p := ⟨B, o + i, none⟩) hB).trans (hcs i hi))
  have CC := Lib.hid hc
  have Z0 := Lib.hid (keyC_zero g); have ZA := Lib.hid (keyC_all g)
  clear hq hB hcs hc
  generalize hS : w.heap.size = S at *
  have HS := Lib.hid hS
  clear hS
  go_enter Try.func5, Try.ntmps5
  go_wp2_with (first
    | (refine wpList_ukey_alloc rfl rfl S HS.out ?_; intro w1 hx hb hs
       have R1 := Lib.hid hx; have B1 := Lib.hid hb; have S1 := Lib.hid hs; clear hx hb hs)
    | (refine wpList_ukey_alloc rfl rfl (S + 1) S1.out ?_; intro w2 hx hb hs
       rw [Z0.out] at hx
       have R2 := Lib.hid (R1.out.belowM hb (by omega)); have K2 := Lib.hid hx; have B2 := Lib.hid (B1.out.trans (hb.mono (by omega))); clear hx hb hs R1 B1)
    | (refine wpList_arr_slice rfl 25 5 32 arr32Und rfl _ rfl (S + 1) 0 rfl ?_)
    | (refine wpList_copy_row rfl _ _ rfl (S + 1) 0 32 32 rfl B o 64 c rfl 32 rfl 64 g K2.out (by decide) (fun i hi => by rw [Nat.zero_add]; exact HC.out w2 B2.out i (by omega)) ?_; intro w3 hx hb hs
       have K3 := Lib.hid hx; have R3 := Lib.hid (R2.out.but hb (by omega)); have B3 := Lib.hid (B2.out.trans (hb.below (by omega) (HS.out ▸ B2.out.size))); clear hx hb hs K2 R2 B2))
  have hb4 : Below w3.heap.size w3 w3.drew := (Below.refl _ _).drew
  have K4 := Lib.hid (K3.out.below hb4); have R4 := Lib.hid (R3.out.below hb4); have B4 := Lib.hid (B3.out.trans (hb4.mono (HS.out ▸ B3.out.size)))
  clear hb4 K3 R3 B3
  refine wp_region_sched [(0, true), (1, true), (2, true), (3, true), (4, true), (5, false)] (fun W => True) (by kernel_rfl) (by kernel_rfl) trivial ?_
  refine walk_float rfl rfl (fun K' hK => ?_)
  refine gives_ukey_field _ 1 rfl (by decide) (S + 1) 32 rfl rfl ?_
  go_simp
  refine hK _ ?_
  clear hK K'
  refine walk_float rfl rfl (fun K' hK => ?_)
  refine gives_arr_slice 25 5 32 arr32Und rfl _ rfl (S + 1) 32 rfl ?_
  go_simp
  refine hK _ ?_
  clear hK K'
  refine walk_float rfl rfl (fun K' hK => ?_)
  refine gives_move _ rfl ?_
  go_simp
  refine hK _ ?_
  clear hK K'
  refine walk_float rfl rfl (fun K' hK => ?_)
  refine gives_move _ rfl ?_
  go_simp
  refine hK _ ?_
  clear hK K'
  obtain ⟨c2, hc2⟩ : ∃ c2, c - 32 = c2 := ⟨_, rfl⟩
  refine walk_float rfl rfl (fun K' hK => ?_)
  refine gives_bytes_from _ _ rfl B o 64 c 32 32 c2 (o + 32) rfl rfl (by decide) CC.out (by have := CC.out; omega) rfl hc2 rfl ?_
  go_simp
  refine hK _ ?_
  clear hK K' hc2
  refine walk_done rfl rfl (fun K' hK => ?_)
  refine done_copy_row _ _ rfl (S + 1) 32 32 32 rfl B (o + 32) 32 c2 rfl 32 rfl 64 g K4.out (by decide) (fun i hi => by rw [Nat.add_assoc]; exact HC.out _ B4.out (32 + i) (by omega)) ?_
  intro w5 hx hb hs
  rw [show 32 + 32 = 64 from rfl, ZA.out] at hx
  have K5 := Lib.hid hx; have R5 := Lib.hid (R4.out.but hb (by omega)); have B5 := Lib.hid (B4.out.trans (hb.below (by omega) (HS.out ▸ B4.out.size)))
  clear hx hb hs K4 R4 B4
  refine ⟨trivial, ?_⟩
  go_simp
  refine hK _ _ ?_
  clear hK K'
  refine walk_nil ?_
  go_wp2_with (first
    | (refine wpList_ukey_load rfl _ rfl (S + 1) rfl (mk 64 g) K5.out.row ?_)
    | (refine wpList_ukey_store rfl _ _ rfl rfl S rfl (mk 64 g) rfl noKeys R5.out ?_; intro w6 hx hb hs
       have R6 := Lib.hid hx; have B6 := Lib.hid (B5.out.trans (hb.below (Nat.le_refl _) (HS.out ▸ B5.out.size))); clear hx hb hs R5 B5))
  exact bodyPost_ret (results_key_tmp rfl _ _ S (mk 64 g) rfl R6.out) rfl ⟨rfl, B6.out⟩
end Go.Proofs.Ytghdeedglekphaa
