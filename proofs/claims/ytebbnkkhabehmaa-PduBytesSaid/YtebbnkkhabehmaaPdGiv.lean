/- Laws that the document's Decode asks for: bytes read, slices cut, structs made, in drawn regions. Conditions: as each says. -/
import Derived.Test.YtebbnkkhabehmaaPdRefE
namespace Go.Proofs.Ytebbnkkhabehmaa
open Go.ChangeShapes Go.WideShapes Go.ChangeAt Go.RowKit
set_option linter.unusedVariables false
set_option linter.unusedSimpArgs false
theorem low_put {w V V' : World} {O : Nat} (h : Below w.heap.size w V) (hO : w.heap.size ≤ O) (k : Keeps (fun j => j = O) V V') : Below w.heap.size w V' := h.trans (k.below h.size (fun j hj e => by omega))
set_option maxRecDepth 100000 in
set_option maxHeartbeats 4000000 in
theorem refTake_ok (p : Option Addr) (n cap : Nat) (g : Nat → Nat) (hg : ∀ i, i < n → g i < 256) (s : Nat) (hs : IsSize s) (h : s ≤ n) (w : World) (hp : BytesAt w p n g) :
    Calls Try.prog 29 #[.slice p n cap, .int .i64 s] w fun e w' => e = .returned (.tuple #[.int .i64 (IntKind.i64.wrap (valN s g : Nat)), .bool true]) ∧ w = w' := by
  have d0 : decide ((n : Int) < (s : Int)) = false := by simp; omega
  have d00 : decide (n < s) = false := by simp; omega
  have hv : ∀ k, k ≤ s → valN k g < 256 ^ 8 := fun k hk => Nat.lt_of_lt_of_le (valN_lt k (fun i hi => hg i (by omega))) (Nat.pow_le_pow_right (by omega) (by unfold IsSize at hs; omega))
  have HP := Lib.hid hp
  have HV := Lib.hid hv
  have HG := Lib.hid hg
  have HS := Lib.hid h
  have HS8 := Lib.hid (show s ≤ 8 by unfold IsSize at hs; omega)
  clear hp hv h hg
  rcases hs with hs | hs | hs | hs
  case' inl => have d1 : ((s : Int) != 1) = false := by simp; omega
  case' inr.inl =>
    have d1 : ((s : Int) != 1) = true := by simp; omega
    have d2 : ((s : Int) != 2) = false := by simp; omega
  case' inr.inr.inl =>
    have d1 : ((s : Int) != 1) = true := by simp; omega
    have d2 : ((s : Int) != 2) = true := by simp; omega
    have d4 : ((s : Int) != 4) = false := by simp; omega
  case' inr.inr.inr =>
    have d1 : ((s : Int) != 1) = true := by simp; omega
    have d2 : ((s : Int) != 2) = true := by simp; omega
    have d4 : ((s : Int) != 4) = true := by simp; omega
    have d8 : ((s : Int) != 8) = false := by simp; omega
  all_goals
    clear hs
    go_enter Try.func29, Try.ntmps29
    go_wp2
    go_loopw [7, 6] (fun v v6 wr => ∃ k : Nat, k ≤ s ∧ v = .int .i64 k ∧ v6 = .int .u64 (valN k g : Nat) ∧ w = wr) (fun v _ _ => s - (intOf v).toNat)
    case atStart => exact ⟨0, by omega, rfl, by unfold valN; rfl, rfl⟩
    case round =>
      obtain ⟨k, hk, rfl, rfl, rfl⟩ := hrel
      by_cases hlt : k < s
      · have e1 : (k : Int) < (s : Int) := by omega
        have e2 : (k : Int) < (n : Int) := by have := HS.out; omega
        have e3 : k < n := by omega
        have q1 : IntKind.i64.wrap ((k : Int) + 1) = (k : Int) + 1 := IntWalk.i64_in _ (by have := HS8.out; omega)
        obtain ⟨B, o, rfl, c1⟩ : ∃ B o, p = some ⟨B, o, none⟩ ∧ w.cell? ⟨B, o + k, none⟩ = some (.int .u8 (g k : Nat)) := by
          rcases HP.out with h | ⟨B, o, h, _, hc⟩
          · omega
          · exact ⟨B, o, h, hc k e3⟩
        have hgk := HG.out k e3
        have hv0 := HV.out k (by omega)
        have hv1 := HV.out (k + 1) (by omega)
        rw [valN_succ] at hv1
        have e4 : IntKind.u64.wrap ((valN k g : Nat) * 256) = (valN k g : Nat) * 256 := by rw [IntKind.wrap_u64]; omega
        have e5 : IntKind.u64.wrap ((valN k g : Nat) * 256 + (g k : Nat)) = (valN k g : Nat) * 256 + (g k : Nat) := by rw [IntKind.wrap_u64]; omega
        have e6 : IntKind.u64.wrap (g k : Nat) = (g k : Nat) := by rw [IntKind.wrap_u64]; omega
        have HE := Lib.hid (show ((valN k g : Nat) : Int) * 256 + (g k : Nat) = (valN (k + 1) g : Nat) by rw [valN_succ]; omega)
        clear hv0 hv1 hgk
        generalize ((valN k g : Nat) : Int) = u at *
        go_wp2
        go_roundw
        case rel => exact ⟨k + 1, by omega, by go_num, by rw [← HE.out], trivial⟩
        case measure => simp [intOf]; omega
      · have e1 : ¬ (k : Int) < (s : Int) := by omega
        obtain rfl : k = s := by omega
        go_wp2
        go_ret2
        exact ⟨by rw [← wrap64_is]; rfl, rfl⟩
section
variable {o : Oper} {a : Act} {C : World → Prop} {K : Act → Prop}
theorem gives_at (x y : Operand) (ho : o.op = .indexAddr 22 x y) (B off n cap k : Nat) (z : Int) (hz : z = k) (hx : a.eval x = .slice (some ⟨B, off, none⟩) n cap) (hy : a.eval y = .int .i64 z) (hk4 : k < n) (hk : K (a.put o.dst (.pointer (some ⟨B, off + k, none⟩)))) : ∃ v, Gives Try.prog C o a v ∧ K (a.put o.dst v) := by
  subst hz
  exact ⟨_, fun w _ => by
    have h0 : (k : Int) < n := by omega
    have hi := byteInfo
    cases hq : Try.prog.info? 5 with
    | none => simp [hq] at hi
    | some i =>
      have hs : i.size = 1 := by simpa [hq] using hi
      unfold execOp
      simp only [ho, hx, hy]
      simp [go_sem, h0, sizeOf, typeInfo, hq, hs, addr_add], hk⟩
theorem gives_to_int (x : Operand) (ho : o.op = .convert 5 3 x) (z : Int) (hx : a.eval x = .int .u8 z) (h : 0 ≤ z ∧ z < 256) (hk : K (a.put o.dst (.int .i64 z))) : ∃ v, Gives Try.prog C o a v ∧ K (a.put o.dst v) :=
  ⟨_, fun w _ => by
    have h1 : IntKind.i64.wrap z = z := IntWalk.i64_in _ (by omega)
    have e : (convert 5 3 (.int .u8 z)).run Try.prog w = .ok (.int .i64 z) w := by simp [go_sem, h1]
    unfold execOp
    simp only [ho, hx, Sem.run_bind, e]
    simp, hk⟩
theorem box_byte (w : World) : (isAgg 5).run Try.prog w = .ok false w := by simp [go_sem]
theorem fr_built4 (k n c : Int) (p : Option Addr) (d cd : Nat) : Try.prog.built 24 [(0, .int .i64 k), (1, .int .i64 n), (2, .int .i64 c), (3, .slice p d cd)] = some (frA k n c p d cd) := by kernel_rfl
theorem gives_fr4 (x0 x1 x2 x3 : Operand) (ho : o.op = .build 24 #[(0, x0), (1, x1), (2, x2), (3, x3)]) (k n c : Int) (p : Option Addr) (d cd : Nat) (h0 : a.eval x0 = .int .i64 k) (h1 : a.eval x1 = .int .i64 n) (h2 : a.eval x2 = .int .i64 c) (h3 : a.eval x3 = .slice p d cd) (hk : K (a.put o.dst (.agg (frA k n c p d cd)))) : ∃ v, Gives Try.prog C o a v ∧ K (a.put o.dst v) :=
  gives_build_any 24 _ #[(0, .int .i64 k), (1, .int .i64 n), (2, .int .i64 c), (3, .slice p d cd)] _ ho (by simp [h0, h1, h2, h3]) (fun w => run_build w 24 #[(0, .int .i64 k), (1, .int .i64 n), (2, .int .i64 c), (3, .slice p d cd)] _ (fr_built4 k n c p d cd)) hk
end
set_option maxRecDepth 100000 in
theorem append_at {w : World} (ty : TypeId) {D s : Nat} {F T : Nat → Nat} (h : Cells w D 0 s F) (p : Option Addr) (n cap : Nat) (g : Nat → Nat) (hp : BytesAt w p n g) (h0 : 0 < n) (hk : s + n ≤ 140737488355328) (t1 : ∀ j, j < s → F j = T j) (t2 : ∀ j, j < n → g j = T (s + j)) :
    ∃ C w', (Builtin.append_ #[22, 22] ty #[.slice (some ⟨D, 0, none⟩) s s, .slice p n cap]).run Try.prog w = .ok (.slice (some ⟨w.heap.size, 0, none⟩) (s + n) C) w' ∧ BytesAt w' (some ⟨w.heap.size, 0, none⟩) (s + n) T ∧ Below w.heap.size w w' := by
  have hi := byteInfo
  have hz := byteZero1
  have hb := byteBytes1
  cases hq : Try.prog.info? 5 with
  | none => rw [hq] at hi; simp at hi
  | some i =>
    rw [hq] at hi hb hz
    have hsz : i.size = 1 := by simpa using hi
    have hzz : i.zero = some (.int .u8 0) := by simpa using hz
    have hby : i.bytes = 1 := by simpa using hb
    rcases hp with hp | ⟨B, off, rfl, hB, hc⟩
    · omega
    · have e := run_append_grow (P := Try.prog) w 22 ty 5 i (.int .u8 0) bytesUnder hq hzz ⟨D, 0, none⟩ s s (bytesList s F) (by rw [bytesList_len, hsz, Nat.mul_one]) (fun j u hj => by
          obtain ⟨hj1, rfl⟩ := bytesList_get hj
          rw [addr_add]
          exact h j hj1) ⟨B, off, none⟩ n cap (bytesList n g) (by rw [bytesList_len, hsz, Nat.mul_one]) (fun j u hj => by
          obtain ⟨hj1, rfl⟩ := bytesList_get hj
          rw [addr_add]; exact hc j hj1) (by omega) (by omega) (growslice_fits (by omega) (by rw [hby]; omega))
      refine ⟨_, _, e, .inr ⟨w.heap.size, 0, rfl, by rw [World.size_alloc]; exact Nat.lt_succ_self _, fun j hj => ?_⟩, (Below.refl _ w).drew.alloc (Nat.le_refl _) _⟩
      have hh := heap_alloc_new w.drew (.cells ((bytesList s F).toArray ++ (bytesList n g).toArray ++ Builtin.zeroCells (Value.int .u8 0).cells (grownCap w (s + n) s 5 - (s + n))) 5)
      rw [Nat.zero_add, cell_of_row _ w.heap.size j _ _ (0, 0) hh]
      by_cases hs : j < s
      · rw [← t1 j hs, Array.getElem?_append_left (by simp [bytesList_len]; omega), Array.getElem?_append_left (by simp [bytesList_len]; omega), List.getElem?_toArray]
        exact bytesList_at hs
      · have e2 : T j = g (j - s) := by rw [t2 _ (by omega)]; congr 1; omega
        rw [e2, Array.getElem?_append_left (by simp [bytesList_len]; omega), Array.getElem?_append_right (by simp [bytesList_len]; omega), List.getElem?_toArray]
        simp only [List.size_toArray, bytesList_len]
        exact bytesList_at (by omega)
section
variable {ops : Array Oper} {rest : List Oper} {o : Oper} {a : Act} {w : World} {Q : Exit → Act → World → Prop}
theorem done_boxA_new {K : Value → World → Prop} {T : TypeId} {sz : Nat} {z : Array Value} (R : IsRow T sz z) (ho : o.op = .alloc T)
    (h : ∀ w', BoxA w' w.heap.size T z → Below w.heap.size w w' → w'.heap.size = w.heap.size + 1 → K (.pointer (some ⟨w.heap.size, 0, none⟩)) w') : doneAt Try.prog o a w K := by
  have e := R.zero_run w
  have hh := h _ (BoxA.alloc w T z) ((Below.refl _ w).alloc (Nat.le_refl _) _) (World.size_alloc _ _)
  unfold doneAt execOp
  simp only [ho]
  simp [go_sem, e, doneUpon]
  exact hh
theorem done_boxA_put {K : Value → World → Prop} {T : TypeId} {sz : Nat} {z : Array Value} (R : IsRow T sz z) (x y : Operand) (ho : o.op = .store T x y) (O : Nat) (A old : Array Value) (hA : A.size = sz) (h1 : A.all (·.oneCell') = true) (hold : old.size = sz) (hx : a.eval x = .pointer (some ⟨O, 0, none⟩)) (hy : a.eval y = .agg A) (hO : BoxA w O T old)
    (h : ∀ w', BoxA w' O T A → Keeps (fun k => k = O) w w' → w'.heap.size = w.heap.size → K undef w') : doneAt Try.prog o a w K := by
  have hh := h _ (setRow_heap _ _ _ _ _ (0, 0) hO) (keeps_row O _ w) (by simp)
  unfold doneAt execOp
  simp only [ho, hx, hy, Instr.storeAt, Instr.sureAddr, Sem.run_bind, Sem.run_pure, Result.andThen_ok, run_storeVar_row w O T T old A hO (by rw [hA]; exact R.size) (hold.trans hA.symm) h1]
  exact hh
theorem done_bytes0 {K : Value → World → Prop} (ho : o.op = .buildSlice 22 0 #[]) (F : Nat → Nat)
    (h : ∀ w', OwnS 5 1 w' w.heap.size (w.heap.size + 1) (.slice (some ⟨w.heap.size, 0, none⟩) 0 0) 0 F → Below w.heap.size w w' → w'.heap.size = w.heap.size + 1 → K (.slice (some ⟨w.heap.size, 0, none⟩) 0 0) w') : doneAt Try.prog o a w K := by
  have e : (Instr.buildSlice 22 0 #[]).run Try.prog w = .ok (.slice (some ⟨w.heap.size, 0, none⟩) 0 0) (w.alloc (.cells (cellsOf .u8 []) 5)) := by simp [go_sem, cellsOf]
  have hh := h _ (OwnS.empty w F w.heap.size (Nat.le_refl _)) (Below.alloc (Below.refl w.heap.size w) (Nat.le_refl _) _) (World.size_alloc _ _)
  unfold doneAt execOp
  simp only [ho]
  simp [e, doneUpon]
  exact hh
theorem done_append_bytes {K : Value → World → Prop} (s x : Operand) (ho : o.op = .call { callee := .builtin .append, args := #[s, x], argTypes := #[22, 22] }) (D : Nat) (top : Nat) (F f : Nat → Nat) (p : Option Addr) (n cap : Nat) (hs : a.eval s = .slice (some ⟨D, 0, none⟩) 0 0) (hx : a.eval x = .slice p n cap)
    (hv : OwnS 5 1 w D top (.slice (some ⟨D, 0, none⟩) 0 0) 0 F) (hp : BytesAt w p n f) (hf : ∀ j, j < n → f j = F j) (hk : n ≤ 140737488355328) (hbase : D ≤ w.heap.size)
    (h : ∀ q c w', BytesAt w' q n F → (∀ B o, q = some ⟨B, o, none⟩ → n ≠ 0 → B = D ∨ B = w.heap.size) → Keeps (fun j => j = D) w w' → K (.slice q n c) w') : doneAt Try.prog o a w K := by
  by_cases h0 : n = 0
  · subst h0
    have hi := byteInfo
    cases hq : Try.prog.info? 5 with
    | none => rw [hq] at hi; simp at hi
    | some i =>
      have hsrc : Src Try.prog i.size 22 (.slice p 0 cap) 0 [] w := by
        cases p with
        | none => exact Src.ofNil w bytesUnder cap
        | some ad => exact Src.ofSlice w bytesUnder ad 0 cap [] (by simp) (fun j u hu => by simp at hu) (fun u hu => by cases hu)
      have hrun := run_append_nothing (P := Try.prog) w 22 22 o.type 5 i bytesUnder hq (some ⟨D, 0, none⟩) 0 0 (Nat.le_refl _) (.slice p 0 cap) hsrc
      unfold doneAt
      simp [execOp, ho, resolve, invoke, builtin, hs, hx, hrun, Result.andThen]
      exact h _ _ _ (.inl rfl) (fun B o _ h => absurd rfl h) (Keeps.refl _ _)
  · obtain ⟨C, w', hrun, hb, hl⟩ := append_at (s := 0) (F := F) (T := F) (D := D) o.type (fun j hj => absurd hj (Nat.not_lt_zero _)) p n cap f hp (by omega) (by omega) (fun _ _ => rfl) (fun j hj => by rw [Nat.zero_add]; exact hf j hj)
    rw [Nat.zero_add] at hrun hb
    unfold doneAt
    simp [execOp, ho, resolve, invoke, builtin, hs, hx, hrun, Result.andThen]
    exact h _ _ _ hb (fun B o e _ => by cases e; exact .inr rfl) (.of hl)
end
theorem str_neq {n m : Nat} {f g : Nat → Nat} (hf : ∀ i, i < n → f i < 256) (hg : ∀ i, i < m → g i < 256) : ((strOfNums (mk n f)).toList != (strOfNums (mk m g)).toList) = !decide (mk n f = mk m g) := by
  unfold bne; rw [str_eq hf hg]
end Go.Proofs.Ytebbnkkhabehmaa
