/- What layer 7's statements share: errors as numbers, the same bytes and others, lists of slices that share no memory, noughts made. Conditions: rows of no more than 2^47 - 4096 bytes. -/
import Derived.Test.YtleoljdhaeoepaaApartW
import Derived.Test.YtleoljdhaeoepaaCopyW
import Derived.Test.YtleoljdhaeoepaaWrUnw
import Derived.Test.YtleoljdhaeoepaaWrRefW
import Derived.Lib.Bytes
namespace Go.Proofs.Ytleoljdhaeoepaa
open Go.ChangeShapes Go.WideShapes Go.ChangeAt Go.RowKit
set_option linter.unusedVariables false

section
variable {ops : Array Oper} {rest : List Oper} {o : Oper} {a : Act} {w : World} {Q : Exit → Act → World → Prop}
theorem wanted_step (hw : Region.wanted o (yielded ops a.tmps) = true) (h : ∀ K : Act → World → Prop, (∀ a w, wpList Try.prog ops Q rest a w → K a w) → o.wp Try.prog a w K Q) : wpList Try.prog ops Q (o :: rest) a w :=
  wpList_step fun K hK => by rw [if_pos hw]; exact h K hK
end
theorem Num_nil (w : World) : Calls Try.prog 12 #[.nilIface] w fun e w' => e = .returned (.int .i64 0) ∧ w = w' := by
  go_enter Try.func12, Try.ntmps12
  go_wp2
  go_ret
  exact ⟨rfl, rfl⟩
theorem Num_err (z : Int) (hz : (z == 0) = false) (w : World) : Calls Try.prog 12 #[.iface 36 (.int .i64 z)] w fun e w' => e = .returned (.int .i64 z) ∧ w = w' := by
  have ta := fun W => assert_key (.int .i64 z) W
  go_enter Try.func12, Try.ntmps12
  go_wp2
  go_ret
  exact ⟨rfl, rfl⟩
theorem Is_err (z : Int) (hz : (z == 0) = false) (w : World) : Calls Try.prog 17 #[.iface 36 (.int .i64 z), .int .i64 z] w fun e w' => e = .returned (.bool true) ∧ w = w' := by
  have NC := Lib.hid (fun W => Num_err z hz W)
  clear hz
  go_enter Try.func17, Try.ntmps17
  go_wp2_with (first
    | (go_at_call 12; refine (NC.out _).mono ?_; rintro e w1 ⟨rfl, rfl⟩))
  go_ret
  exact ⟨rfl, rfl⟩
theorem Is_nil (w : World) : Calls Try.prog 17 #[.nilIface, .int .i64 4] w fun e w' => e = .returned (.bool false) ∧ w = w' := by
  have NC := Lib.hid (fun W => Num_nil W)
  go_enter Try.func17, Try.ntmps17
  go_wp2_with (first
    | (go_at_call 12; refine (NC.out _).mono ?_; rintro e w1 ⟨rfl, rfl⟩))
  go_ret
  exact ⟨rfl, rfl⟩
section
variable {ops : Array Oper} {rest : List Oper} {o : Oper} {a : Act} {w : World} {Q : Exit → Act → World → Prop}
theorem run_lists2 (p q : Option Addr) (n m cp cq : Nat) (w : World) : (Instr.buildSlice 33 2 #[(0, .slice p n cp), (1, .slice q m cq)]).run Try.prog w = .ok (.slice (some ⟨w.heap.size, 0, none⟩) 2 2) (w.alloc (.cells #[.slice p n cp, .slice q m cq] 22)) := by
  simp [go_sem]
theorem run_lists3 (p q r : Option Addr) (n m l cp cq cr : Nat) (w : World) : (Instr.buildSlice 33 3 #[(0, .slice p n cp), (1, .slice q m cq), (2, .slice r l cr)]).run Try.prog w = .ok (.slice (some ⟨w.heap.size, 0, none⟩) 3 3) (w.alloc (.cells #[.slice p n cp, .slice q m cq, .slice r l cr] 22)) := by
  simp [go_sem]
theorem wpList_lists2 (hw : Region.wanted o (yielded ops a.tmps) = true) (x y : Operand) (ho : o.op = .buildSlice 33 2 #[(0, x), (1, y)]) (p q : Option Addr) (n m cp cq : Nat) (hx : a.eval x = .slice p n cp) (hy : a.eval y = .slice q m cq)
    (h : wpList Try.prog ops Q rest (a.put o.dst (.slice (some ⟨w.heap.size, 0, none⟩) 2 2)) (w.alloc (.cells #[.slice p n cp, .slice q m cq] 22))) : wpList Try.prog ops Q (o :: rest) a w :=
  wanted_step hw fun _ hK => by
    have e := run_lists2 p q n m cp cq w
    unfold Oper.wp execOp
    simp only [ho]
    simp [hx, hy, e]
    exact hK _ _ h
theorem wpList_lists3 (hw : Region.wanted o (yielded ops a.tmps) = true) (x y v : Operand) (ho : o.op = .buildSlice 33 3 #[(0, x), (1, y), (2, v)]) (p q r : Option Addr) (n m l cp cq cr : Nat) (hx : a.eval x = .slice p n cp) (hy : a.eval y = .slice q m cq) (hv : a.eval v = .slice r l cr)
    (h : wpList Try.prog ops Q rest (a.put o.dst (.slice (some ⟨w.heap.size, 0, none⟩) 3 3)) (w.alloc (.cells #[.slice p n cp, .slice q m cq, .slice r l cr] 22))) : wpList Try.prog ops Q (o :: rest) a w :=
  wanted_step hw fun _ hK => by
    have e := run_lists3 p q r n m l cp cq cr w
    unfold Oper.wp execOp
    simp only [ho]
    simp [hx, hy, hv, e]
    exact hK _ _ h
end
open apart in
theorem Apart_three (p0 : Option Addr) (N0 D1 D2 N1 N2 : Nat) (F0 F1 F2 : Nat → Nat) (T LB : Nat) (w : World)
    (h0 : (p0 = none ∧ N0 = 0) ∨ ∃ D0, p0 = some ⟨D0, 0, none⟩ ∧ D0 ≠ D1 ∧ D0 ≠ D2 ∧ T ≤ D0 ∧ IntBlk w D0 .u8 5 (mk N0 F0)) (hn0 : N0 ≤ 140737488351232) (hn1 : N1 ≤ 140737488351232) (hn2 : N2 ≤ 140737488351232)
    (h1 : IntBlk w D1 .u8 5 (mk (N1 + 2) F1)) (h2 : IntBlk w D2 .u8 5 (mk (N2 + 2) F2)) (h12 : D1 ≠ D2) (t1 : T ≤ D1) (t2 : T ≤ D2) (hT : T ≤ w.heap.size)
    (hL : w.heap[LB]? = some (.cells #[.slice p0 N0 N0, .slice (some ⟨D1, 0, none⟩) N1 (N1 + 2), .slice (some ⟨D2, 0, none⟩) N2 (N2 + 2)] 22 (0, 0))) :
    Calls Try.prog 14 #[.slice (some ⟨LB, 0, none⟩) 3 3] w fun e w' => e = .returned (.bool true) ∧ Below T w w' := by
  have three : ∀ i, i < 3 → i = 0 ∨ i = 1 ∨ i = 2 := fun i hi => by omega
  rcases h0 with ⟨rfl, rfl⟩ | ⟨D0, rfl, n1, n2, t0, hr0⟩
  · refine Apart_any ⟨3, fun i => if i = 1 then D1 else D2, fun i => if i = 0 then 0 else if i = 1 then N1 else N2, fun i => if i = 0 then 0 else if i = 1 then N1 + 2 else N2 + 2, fun i => decide (i = 0)⟩ T LB _ (fun i => if i = 1 then F1 else F2) w ?_ hL ?_
    · refine ⟨(show 1 ≤ 3 by omega), (show 3 ≤ 3 by omega), ?_, ?_, ?_, ?_, ?_, lt_of_block hL, hT⟩
      · intro i hi; rcases three i hi with rfl | rfl | rfl <;> simp <;> omega
      · intro i hi hn; rcases three i hi with rfl | rfl | rfl <;> simp_all
      · intro i j hi hj a b c
        rcases three i hi with rfl | rfl | rfl <;> rcases three j hj with rfl | rfl | rfl <;> simp_all
        exact fun e => h12 e.symm
      · intro i hi hn
        rcases three i hi with rfl | rfl | rfl
        · simp at hn
        · exact ⟨t1, h1.lt⟩
        · exact ⟨t2, h2.lt⟩
      · intro i hi; rcases three i hi with rfl | rfl | rfl <;> simp [Lists.v, Lists.p]
    · intro i hi hn
      rcases three i hi with rfl | rfl | rfl
      · simp at hn
      · exact h1
      · exact h2
  · refine Apart_any ⟨3, fun i => if i = 0 then D0 else if i = 1 then D1 else D2, fun i => if i = 0 then N0 else if i = 1 then N1 else N2, fun i => if i = 0 then N0 else if i = 1 then N1 + 2 else N2 + 2, fun _ => false⟩ T LB _ (fun i => if i = 0 then F0 else if i = 1 then F1 else F2) w ?_ hL ?_
    · refine ⟨(show 1 ≤ 3 by omega), (show 3 ≤ 3 by omega), ?_, ?_, ?_, ?_, ?_, lt_of_block hL, hT⟩
      · intro i hi; rcases three i hi with rfl | rfl | rfl <;> simp <;> omega
      · intro i hi hn; cases hn
      · intro i j hi hj _ _ c
        rcases three i hi with rfl | rfl | rfl <;> rcases three j hj with rfl | rfl | rfl <;> simp_all
        · exact fun e => n1 e.symm
        · exact fun e => n2 e.symm
        · exact fun e => h12 e.symm
      · intro i hi hn
        rcases three i hi with rfl | rfl | rfl
        · exact ⟨t0, hr0.lt⟩
        · exact ⟨t1, h1.lt⟩
        · exact ⟨t2, h2.lt⟩
      · intro i hi; rcases three i hi with rfl | rfl | rfl <;> simp [Lists.v, Lists.p]
    · intro i hi hn
      rcases three i hi with rfl | rfl | rfl
      · exact hr0
      · exact h1
      · exact h2
open apart in
theorem Apart_two (N0 D0 D1 N1 : Nat) (F0 F1 : Nat → Nat) (T LB : Nat) (w : World) (n1 : D0 ≠ D1) (hn0 : N0 ≤ 140737488351232) (hn1 : N1 ≤ 140737488351232)
    (h0 : IntBlk w D0 .u8 5 (mk N0 F0)) (h1 : IntBlk w D1 .u8 5 (mk (N1 + 2) F1)) (t0 : T ≤ D0) (t1 : T ≤ D1) (hT : T ≤ w.heap.size)
    (hL : w.heap[LB]? = some (.cells #[.slice (some ⟨D0, 0, none⟩) N0 N0, .slice (some ⟨D1, 0, none⟩) N1 (N1 + 2)] 22 (0, 0))) :
    Calls Try.prog 14 #[.slice (some ⟨LB, 0, none⟩) 2 2] w fun e w' => e = .returned (.bool true) ∧ Below T w w' := by
  have two : ∀ i, i < 2 → i = 0 ∨ i = 1 := fun i hi => by omega
  refine Apart_any ⟨2, fun i => if i = 0 then D0 else D1, fun i => if i = 0 then N0 else N1, fun i => if i = 0 then N0 else N1 + 2, fun _ => false⟩ T LB _ (fun i => if i = 0 then F0 else F1) w ?_ hL ?_
  · refine ⟨(show 1 ≤ 2 by omega), (show 2 ≤ 3 by omega), ?_, ?_, ?_, ?_, ?_, lt_of_block hL, hT⟩
    · intro i hi; rcases two i hi with rfl | rfl <;> simp <;> omega
    · intro i hi hn; cases hn
    · intro i j hi hj _ _ c
      rcases two i hi with rfl | rfl <;> rcases two j hj with rfl | rfl <;> simp_all
      exact fun e => n1 e.symm
    · intro i hi hn
      rcases two i hi with rfl | rfl
      · exact ⟨t0, h0.lt⟩
      · exact ⟨t1, h1.lt⟩
    · intro i hi; rcases two i hi with rfl | rfl <;> simp [Lists.v, Lists.p]
  · intro i hi hn
    rcases two i hi with rfl | rfl
    · exact h0
    · exact h1
theorem run_noughts (M : Nat) (hM : M ≤ 100000) (w : World) : (Instr.makeSlice 22 (.int .i64 M) (.int .i64 M)).run Try.prog w = .ok (.slice (some ⟨w.heap.size, 0, none⟩) M M) (w.alloc (.cells (cellsOf .u8 (mk M zeroK)) 5)) := by
  have hi := byteInfo
  have hz := byteZero1
  have hb := byteBytes1
  cases hq : Try.prog.info? 5 with
  | none => rw [hq] at hi; simp at hi
  | some i =>
    rw [hq] at hi hz hb
    have hsz : i.size = 1 := by simpa using hi
    have hzz : i.zero = some (.int .u8 0) := by simpa using hz
    have hby : i.bytes = 1 := by simpa using hb
    have e := run_make (P := Try.prog) w 22 5 i _ bytesUnder hq hzz .i64 .i64 M M (by omega) (by omega) (by rw [hby]; omega) (by omega)
    have hc : (Value.int .u8 0).cells = cellsOf .u8 (mk 1 zeroK) := rfl
    rw [hsz, Int.toNat_natCast, made_zero hc (by omega), Nat.mul_one] at e
    exact e
theorem done_noughts {o : Oper} {a : Act} {w : World} {K : Value → World → Prop} (x y : Operand) (ho : o.op = .makeSlice 22 x y) (M : Nat) (hM : M ≤ 100000) (hx : a.eval x = .int .i64 M) (hy : a.eval y = .int .i64 M)
    (h : K (.slice (some ⟨w.heap.size, 0, none⟩) M M) (w.alloc (.cells (cellsOf .u8 (mk M zeroK)) 5))) : doneAt Try.prog o a w K := by
  have e := run_noughts M hM w
  unfold doneAt execOp
  simp only [ho]
  simp [hx, hy, e]
  exact h
theorem gives_take {o : Oper} {a : Act} {C : World → Prop} {K : Act → Prop} (x : Operand) (i : Nat) (ho : o.op = .extract x i) (vs : Array Value) (v : Value) (hx : a.eval x = .tuple vs) (hv : vs[i]? = some v) (hk : K (a.put o.dst v)) : ∃ v, Gives Try.prog C o a v ∧ K (a.put o.dst v) := by
  refine ⟨_, fun w _ => ?_, hk⟩
  unfold execOp
  simp only [ho, hx]
  simp [go_sem, hv]
theorem IntBlk.bytesAt {w : World} {B N : Nat} {t : TypeId} {F : Nat → Nat} (h : IntBlk w B .u8 t (mk N F)) : BytesAt w (some ⟨B, 0, none⟩) N F :=
  .inr ⟨B, 0, rfl, h.lt, fun j hj => by have := h.cells (o := 0) (n := N) (by omega) j hj; simp only [Nat.zero_add] at this ⊢; exact this⟩
theorem bytes_congr {w : World} {p : Option Addr} {n : Nat} {g g' : Nat → Nat} (h : ∀ j, j < n → g j = g' j) (hp : BytesAt w p n g) : BytesAt w p n g' :=
  hp.imp id fun ⟨B, o, e, hl, hc⟩ => ⟨B, o, e, hl, fun i hi => by rw [← h i hi]; exact hc i hi⟩
set_option maxRecDepth 100000 in
set_option maxHeartbeats 400000 in
theorem Same_true (p : Option Addr) (n cap : Nat) (q : Option Addr) (c : Nat) (g g' : Nat → Nat) (h : ∀ j, j < n → g j = g' j) (w : World) (hp : BytesAt w p n g) (hq : BytesAt w q n g') :
    Calls Try.prog 11 #[.slice p n cap, .slice q n c] w fun e w' => e = .returned (.bool true) ∧ w = w' := by
  have hp' := bytes_congr h hp
  have HP := Lib.hid hp'
  have HQ := Lib.hid hq
  clear hp hp' hq
  go_enter Try.func11, Try.ntmps11
  go_wp2_with (first
    | (refine wpList_string rfl (.tmp 5) rfl p n cap rfl g' HP.out ?_)
    | (refine wpList_string rfl (.tmp 7) rfl q n c rfl g' HQ.out ?_))
  go_ret
  exact ⟨rfl, rfl⟩
theorem str_inj {n m : Nat} {f g : Nat → Nat} (hf : ∀ i, i < n → f i < 256) (hg : ∀ i, i < m → g i < 256) : strOfNums (mk n f) = strOfNums (mk m g) ↔ mk n f = mk m g := by
  constructor
  · intro h
    have hd := congrArg (fun s => s.data.toList) h
    simp only [strOfNums_data] at hd
    have hl : n = m := by have := congrArg List.length hd; simpa [mk_len] using this
    subst hl
    refine mk_ext fun i hi => ?_
    have h2 := congrArg (fun l => l[i]?) hd
    simp only [mk, List.map_map, List.getElem?_map, List.getElem?_range hi, Option.map_some, Function.comp, Option.some.injEq, Int.toNat_natCast] at h2
    have h3 := congrArg UInt8.toNat h2
    simp only [UInt8.toNat_ofNat'] at h3
    have a := hf i hi
    have b := hg i hi
    omega
  · intro h; rw [h]
theorem str_eq {n m : Nat} {f g : Nat → Nat} (hf : ∀ i, i < n → f i < 256) (hg : ∀ i, i < m → g i < 256) : ((strOfNums (mk n f)).toList == (strOfNums (mk m g)).toList) = decide (mk n f = mk m g) := by
  rw [Lib.strOfNums_toList, Lib.strOfNums_toList]
  by_cases h : mk n f = mk m g
  · rw [h]; simp
  · rw [decide_eq_false h, beq_eq_false_iff_ne]
    intro hb
    refine h ((str_inj hf hg).1 ?_)
    have : (strOfNums (mk n f)).data.toList = (strOfNums (mk m g)).data.toList := hb
    exact congrArg ByteArray.mk (Array.toList_inj.1 this)
set_option maxRecDepth 100000 in
set_option maxHeartbeats 400000 in
theorem Same_not (p : Option Addr) (n cap : Nat) (q : Option Addr) (m c : Nat) (g g' : Nat → Nat) (hg : ∀ j, j < n → g j < 256) (hg' : ∀ j, j < m → g' j < 256) (h : mk n g ≠ mk m g') (w : World) (hp : BytesAt w p n g) (hq : BytesAt w q m g') :
    Calls Try.prog 11 #[.slice p n cap, .slice q m c] w fun e w' => e = .returned (.bool false) ∧ w = w' := by
  have e1 := str_eq hg hg'
  rw [decide_eq_false h] at e1
  have HP := Lib.hid hp
  have HQ := Lib.hid hq
  clear hp hq h hg hg'
  go_enter Try.func11, Try.ntmps11
  go_wp2_with (first
    | (refine wpList_string rfl (.tmp 5) rfl p n cap rfl g HP.out ?_)
    | (refine wpList_string rfl (.tmp 7) rfl q m c rfl g' HQ.out ?_))
  go_ret
  exact ⟨rfl, rfl⟩
/-- What a byte is changed to is another one. -/
theorem flip_ne (x y : Nat) : x ^^^ (1 ||| y) ≠ x := fun h => by
  have h2 : x ^^^ (x ^^^ (1 ||| y)) = x ^^^ x := by rw [h]
  rw [← Nat.xor_assoc, Nat.xor_self, Nat.zero_xor] at h2
  have : 1 ≤ 1 ||| y := Nat.left_le_or
  omega
end Go.Proofs.Ytleoljdhaeoepaa
