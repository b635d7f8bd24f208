/- The contract of package citadelref03's Rounds: a key of 16 or 32 bytes has its round keys, in memory of its own; every other key none, and false; and nothing is written that was there. Condition: the key's bytes are bytes. -/
import Derived.Test.YtghdeedglekphaaWrSched
import Derived.Test.YtghdeedglekphaaTwBase
import Derived.Test.YtghdeedglekphaaWrRefs
namespace Go.Proofs.Ytghdeedglekphaa
open Go.ChangeShapes Go.WideShapes Go.ChangeAt Go.RowKit

theorem fillW (f : Nat → Nat) : Instr.fill (fun i => some (i * 4, 4)) ((Array.range (1 * 4)).map ((cellsOf .u8 (mk 4 zeroK))[· % (cellsOf .u8 (mk 4 zeroK)).size]!)) [(0, .agg (cellsOf .u8 (mk 4 f)))] = some (cellsOf .u8 (mk 4 f)) := by kernel_rfl
theorem run_words1 (f : Nat → Nat) (w : World) : (Instr.buildSlice 86 1 #[(0, .agg (cellsOf .u8 (mk 4 f)))]).run Try.prog w = .ok (.slice (some ⟨w.heap.size, 0, none⟩) 1 1) (w.alloc (.cells (cellsOf .u8 (mk 4 f)) 87)) := by
  have hi := wordInfo1
  have hz := wordZero1
  cases hq : Try.prog.info? 87 with
  | none => rw [hq] at hi; simp at hi
  | some i =>
    rw [hq] at hi hz
    have hs : i.size = 4 := by simpa using hi
    have hzz : i.zero = some (.agg (cellsOf .u8 (mk 4 zeroK))) := by simpa using hz
    refine run_buildSlice w 86 87 1 _ _ i _ wordsUnder hq hzz (by rw [hs]; omega) (by rw [hs]; omega) ?_
    rw [hs]; exact fillW f
theorem wpList_words1 {ops : Array Oper} {rest : List Oper} {o : Oper} {a : Act} {w : World} {Q : Exit → Act → World → Prop} (hgd : o.guard = none) (x : Operand) (ho : o.op = .buildSlice 86 1 #[(0, x)]) (f : Nat → Nat) (hx : a.eval x = .agg (cellsOf .u8 (mk 4 f)))
    (h : wpList Try.prog ops Q rest (a.put o.dst (.slice (some ⟨w.heap.size, 0, none⟩) 1 1)) (w.alloc (.cells (cellsOf .u8 (mk 4 f)) 87))) : wpList Try.prog ops Q (o :: rest) a w :=
  wpList_plain hgd fun _ hK => by
    have e := run_words1 f w
    unfold Oper.wp execOp
    simp only [ho]
    simp [hx, e]
    exact hK _ _ h
theorem wpList_key1 {ops : Array Oper} {rest : List Oper} {o : Oper} {a : Act} {w : World} {Q : Exit → Act → World → Prop} (hgd : o.guard = none) (x : Operand) (ho : o.op = .buildSlice 61 1 #[(0, x)]) (f : Nat → Nat) (hx : a.eval x = .agg (cellsOf .u8 (mk 16 f)))
    (h : wpList Try.prog ops Q rest (a.put o.dst (.slice (some ⟨w.heap.size, 0, none⟩) 1 1)) (w.alloc (.cells (cellsOf .u8 (mk 16 f)) 65))) : wpList Try.prog ops Q (o :: rest) a w :=
  wpList_plain hgd fun _ hK => by
    have e := run_keys1 f w
    unfold Oper.wp execOp
    simp only [ho]
    simp [hx, e]
    exact hK _ _ h
theorem keyBytes1 : (Try.prog.info? 65).map (·.bytes) = some 16 := by kernel_rfl
/-- The first k values, noughts behind. -/
def wkTo (F : Nat → Nat) (k : Nat) : Nat → Nat := fun j => if j < k then F j else 0
theorem wkTo_start (n : Nat) (F : Nat → Nat) : mk n (wkTo F 0) = mk n zeroK := mk_ext fun j _ => by unfold wkTo zeroK; rw [if_neg (by omega)]
theorem wkTo_end (n : Nat) (F : Nat → Nat) : mk n (wkTo F n) = mk n F := mk_ext fun j hj => by unfold wkTo; rw [if_pos hj]
theorem wkTo_step (n : Nat) (F : Nat → Nat) (k : Nat) : (mk n (wkTo F k)).set k (F k : Nat) = mk n (wkTo F (k + 1)) := by
  refine mk_set_is rfl fun j _ => ?_
  unfold wkTo
  by_cases e : j = k
  · subst e; rw [if_pos rfl, if_pos (by omega)]
  · rw [if_neg e]
    by_cases l : j < k
    · rw [if_pos l, if_pos (by omega)]
    · rw [if_neg l, if_neg (by omega)]
/-- Each word by the words ahead of it. -/
theorem word_rec {N M : Nat} (g : Nat → Nat) {i : Nat} (hi : i < M) (hN : 0 < N) : wdTo N g M i = newW N g (wdTo N g M) i := by
  rw [wdTo_stays N g (k := i + 1) (by omega) (by omega), wdTo_next, if_pos rfl]
  unfold newW
  split
  · rfl
  · rw [wdTo_stays N g (i := i - N) (k := i) (m := M) (by omega) (by omega), wdTo_stays N g (i := i - 1) (k := i) (m := M) (by omega) (by omega)]
/-- A word substituted and turned, with a constant. -/
def stK (f : Nat → Nat) (c : Nat) : Nat → Nat := fun j => if j = 0 then subN (f 1) ^^^ c else if j = 1 then subN (f 2) else if j = 2 then subN (f 3) else subN (f 0)
theorem stK_is (f : Nat → Nat) (c : Nat) : mk 4 (stK f c) = mk 4 (xorK (subK (turnK f)) (oneK c)) := mk_ext fun j hj => by
  rcases (show j = 0 ∨ j = 1 ∨ j = 2 ∨ j = 3 by omega) with rfl | rfl | rfl | rfl <;> simp [stK, xorK, subK, turnK, oneK]
theorem stK_lt {f : Nat → Nat} {c : Nat} (hf : IsWord f) (hc : c < 256) : IsWord (stK f c) := fun j hj => by
  have e : stK f c j = xorK (subK (turnK f)) (oneK c) j := by
    rcases (show j = 0 ∨ j = 1 ∨ j = 2 ∨ j = 3 by omega) with rfl | rfl | rfl | rfl <;> simp [stK, xorK, subK, turnK, oneK]
  rw [e]; exact xorW_word (subK_word (turnK_word hf)) (oneK_word hc) j hj
theorem stK_sum (f h : Nat → Nat) (c : Nat) {j : Nat} (hj : j < 4) : xorK (stK f c) h j = xorK h (xorK (subK (turnK f)) (oneK c)) j := by
  have e : stK f c j = xorK (subK (turnK f)) (oneK c) j := by
    rcases (show j = 0 ∨ j = 1 ∨ j = 2 ∨ j = 3 by omega) with rfl | rfl | rfl | rfl <;> simp [stK, xorK, subK, turnK, oneK]
  show stK f c j ^^^ h j = h j ^^^ xorK (subK (turnK f)) (oneK c) j
  rw [e, Nat.xor_comm]
theorem xor_turn (f h : Nat → Nat) (j : Nat) : xorK f h j = xorK h f j := Nat.xor_comm _ _
theorem refConst_nat (i : Int) (w : World) : Calls Try.prog 40 #[.int .i64 i] w fun e w' => e = .returned (.int .u8 (conN i : Nat)) ∧ Below w.heap.size w w' := by
  rw [conN_is]; exact refConst_any i w
theorem call_refconst (args : Array Value) (w : World) : (callFunc 40 args).run Try.prog w = .ok (.enter 40 args) w := by simp [go_sem]
/-- A place of an array of bytes by a byte. -/
theorem quiet_place_byte {o : Oper} {a : Act} {C : World → Prop} {K : Act → Prop} (t : TypeId) (n : Nat) (x y : Operand) (ho : o.op = .indexAddr t x y) (ht : Try.prog.underlying t = some (.array n 5)) (B k : Nat) (hx : a.eval x = .pointer (some ⟨B, 0, none⟩)) (hy : a.eval y = .int .u8 k) (hk4 : k < n)
    (hk : K (a.put o.dst (.pointer (some ⟨B, k, none⟩)))) : o.quiet Try.prog a C K := by
  refine quiet_value _ (fun w _ => ?_) hk
  have h0 : (k : Int) < n := by omega
  have hs := byteElem.run_size (P := Try.prog) w
  unfold execOp
  simp only [ho, hx, hy]
  simp [go_sem, ht, h0, hs]
theorem tabUnder : Try.prog.underlying 84 = some (.array 256 5) := Try.underlying84

set_option maxHeartbeats 1000000 in
theorem refRounds_bad (p : Option Addr) (n cap : Nat) (h16 : n ≠ 16) (h32 : n ≠ 32) (w : World) :
    Calls Try.prog 28 #[.slice p n cap] w fun e w' => e = .returned (.tuple #[.slice none 0 0, .bool false]) ∧ w = w' := by
  have t1 : ((n : Int) != 16) = true := by simp; omega
  have t2 : ((n : Int) != 32) = true := by simp; omega
  go_enter Try.func28, Try.ntmps28
  go_wp2
  go_ret2
  exact ⟨rfl, rfl⟩
attribute [local irreducible] wdTo newW tnK flat xorK subK subN turnK wkTo stK oneK conN xsTo rkS

set_option maxRecDepth 100000 in
set_option maxHeartbeats 16000000 in
theorem refRounds_ok (p : Option Addr) (n cap N : Nat) (g : Nat → Nat) (hn : n = 4 * N) (hN : N = 4 ∨ N = 8) (hg : ∀ i, i < n → g i < 256) (w : World) (hp : BytesAt w p n g) :
    Calls Try.prog 28 #[.slice p n cap] w fun e w' => ∃ q c, e = .returned (.tuple #[.slice q (N + 7) c, .bool true]) ∧ KeysAt w' q (N + 7) (rkS N g) ∧ Below w.heap.size w w' := by
  have hrk : ∀ i j, rkS N g i j = flat (wdTo N g (4 * N + 28)) (i * 16 + j) := fun i j => by unfold rkS; rfl
  obtain ⟨M, hM⟩ : ∃ M, M = 4 * N + 28 := ⟨_, rfl⟩
  obtain ⟨T, hT⟩ : ∃ T, T = N + 7 := ⟨_, rfl⟩
  rw [← hM] at hrk
  rw [← hT]
  have hgw : ∀ i, i < 4 * N → g i < 256 := fun i hi => hg i (by omega)
  have q4 : (n : Int) / 4 = (N : Int) := by omega
  have qM : 4 * ((N : Int) + 7) = (M : Int) := by omega
  have hN0 : 0 < N := by omega
  have hN8 : N ≤ 8 := by omega
  have hM1 : M ≤ 100 := by omega
  have HN := Lib.hid (And.intro hn (And.intro hM (show M = 4 * T by omega)))
  have HR := Lib.hid hrk
  have hz0 := tabZero_run
  rcases hp with hp | ⟨KB, ko, rfl, hKB, hc⟩
  · omega
  have t0 : n = 16 ∨ n = 32 := by omega
  clear hrk hM hT hn
  rcases t0 with t0 | t0
  case' inl =>
    have b1 : ((n : Int) != 16) = false := by simp; omega
  case' inr =>
    have b1 : ((n : Int) != 16) = true := by simp; omega
    have b2 : ((n : Int) != 32) = false := by simp; omega
  all_goals
    clear t0
    go_enter Try.func28, Try.ntmps28
    go_wp2_with fail
    refine (Table_any _).mono ?_
    rintro e w1 ⟨rfl, hb⟩
    have hTB : w.heap.size ≤ w1.heap.size := hb.size
    have N0 := Lib.hid (IntBlk.new w1 .u8 84 (mk 256 zeroK))
    have T0 := Lib.hid (N0.out.setRow .u8 (mk 256 subN))
    have L0 := Lib.hid (below_setRow (hb.alloc hTB (.cells (cellsOf .u8 (mk 256 zeroK)) 84)) (g := w1.heap.size) (by omega) (cellsOf .u8 (mk 256 subN)))
    have S0 : w1.heap.size + 1 = ((w1.alloc (.cells (cellsOf .u8 (mk 256 zeroK)) 84)).setRow w1.heap.size (cellsOf .u8 (mk 256 subN))).heap.size := by rw [size_setRow, World.size_alloc]
    clear hb
    go_wp2_with (first
      | (refine store_row_on rfl 84 _ _ rfl rfl w1.heap.size (cellsOf .u8 (mk 256 subN)) rfl rfl 84 (cellsOf .u8 (mk 256 zeroK)) N0.out (tabSize _) (by rw [cellsOf_size, cellsOf_size, mk_len, mk_len]) (cellsOf_one _ _) ?_)
      | fail)
    clear N0 hz0 q4 b1
    go_loopw [6, 7] (fun v6 v7 wo => ∃ i : Nat, i ≤ M ∧ v7 = .int .i64 i ∧ IntBlk wo w1.heap.size .u8 84 (mk 256 subN) ∧ OwnS 87 4 wo (w1.heap.size + 1) wo.heap.size v6 i (flat (wdTo N g M)) ∧ w1.heap.size + 1 ≤ wo.heap.size ∧ Below w.heap.size w wo) (fun _ v7 _ => M - (intOf v7).toNat)
    case' atStart => exact ⟨0, by omega, rfl, T0.out, OwnS.nil _ _ _ _ _ _, by omega, L0.out⟩
    case' round =>
      clear T0 L0 S0
      obtain ⟨i, hi, rfl, ht, hv, hsz, hw⟩ := hrel
      generalize wr = wo at *
      by_cases hlt : i < M
      · have d1 : decide ((i : Int) < (M : Int)) = true := by simp; omega
        have T1 := Lib.hid (ht.alloc (.cells (cellsOf .u8 (mk 4 zeroK)) 87))
        have L1 := Lib.hid (hw.alloc (by omega) (.cells (cellsOf .u8 (mk 4 zeroK)) 87))
        have D1 := Lib.hid (IntBlk.new wo .u8 87 (mk 4 zeroK))
        have V1 := Lib.hid (hv.same (w' := wo.alloc (.cells (cellsOf .u8 (mk 4 zeroK)) 87)) (fun B _ hB => Below.heap_alloc _ _ _ hB))
        have hrec := word_rec (M := M) g hlt hN0
        by_cases hiN : i < N
        · have d2 : decide ((i : Int) < (N : Int)) = true := by simp; omega
          have hW : wdTo N g M i = fun j => g (4 * i + j) := by rw [hrec]; exact newW_key g _ hiN
          have HW := Lib.hid hW
          clear hW hrec
          have hcw := hc.below (M := w.heap.size) hw hKB
          have CK : ∀ j, j < 4 → wo.cell? ⟨KB, ko + (4 * i + j), none⟩ = some (.int .u8 (wdTo N g M i j)) := fun j hj => by rw [HW.out]; exact hcw (4 * i + j) (by have := HN.out.1; omega)
          have HC := Lib.hid CK
          have hbn : 4 * i + 4 ≤ n := by have := HN.out.1; omega
          clear ht hv hw hcw CK
          go_wp2
          go_loopw [9] (fun v9 wi => ∃ k : Nat, k ≤ 4 ∧ v9 = .int .i64 k ∧ IntBlk wi wo.heap.size .u8 87 (mk 4 (wkTo (wdTo N g M i) k)) ∧ IntBlk wi w1.heap.size .u8 84 (mk 256 subN) ∧ OwnS 87 4 wi (w1.heap.size + 1) wo.heap.size u6 i (flat (wdTo N g M)) ∧ Below w.heap.size w wi ∧ Below wo.heap.size wo wi) (fun v9 _ => 4 - (intOf v9).toNat)
          case' atStart => exact ⟨0, by omega, rfl, by rw [wkTo_start]; exact D1.out, T1.out, V1.out, L1.out, (Below.refl _ _).alloc (Nat.le_refl _) _⟩
          case' round =>
            clear T1 L1 D1 V1
            obtain ⟨k, hk, rfl, hd, ht, hv, hw, hwo⟩ := hrel
            generalize wr = wi at *
            by_cases hk4 : k < 4
            · have d3 : decide ((k : Int) < 4) = true := by simp; omega
              have c1 := (show wi.cell? ⟨KB, ko + (4 * i + k), none⟩ = some (.int .u8 (wdTo N g M i k : Nat)) by rw [hwo.cell (p := ⟨KB, ko + (4 * i + k), none⟩) (by show KB < wo.heap.size; omega)]; exact HC.out k hk4)
              have c2 := hd.cell (i := k) (by rw [mk_len]; exact hk4)
              have f2 := hd.free k
              have T1 := Lib.hid ht
              have L1 := Lib.hid hw
              have D1 := Lib.hid hd
              have V1 := Lib.hid hv
              have O1 := Lib.hid hwo
              clear hd ht hv hw hwo
              have g1 : IntKind.i64.wrap (4 * (i : Int)) = 4 * (i : Int) := IntWalk.i64_in _ (by omega)
              have g2 : IntKind.i64.wrap (4 * (i : Int) + k) = 4 * (i : Int) + k := IntWalk.i64_in _ (by omega)
              have g3 : (0 : Int) ≤ 4 * (i : Int) + k := by omega
              have g4 : 4 * (i : Int) + k < n := by omega
              have g5 : (4 * (i : Int) + k).toNat = 4 * i + k := by omega
              go_wp2
              go_roundw
              case' rel => exact ⟨k + 1, by omega, by go_num, by rw [← wkTo_step]; exact D1.out.set k _, T1.out.other (by show wo.heap.size ≠ w1.heap.size; omega) _, V1.out.same (fun B _ hB => heap_setCell_other _ _ _ _ (by show B ≠ wo.heap.size; omega)), L1.out.setCell (by show w.heap.size ≤ wo.heap.size; omega) _, O1.out.setCell (by show wo.heap.size ≤ wo.heap.size; omega) _⟩
              case' measure => simp [intOf]; omega
            · have d3 : decide ((k : Int) < 4) = false := by simp; omega
              have D1 := Lib.hid (show IntBlk wi wo.heap.size .u8 87 (mk 4 (wdTo N g M i)) by rw [show k = 4 by omega, wkTo_end] at hd; exact hd)
              have T1 := Lib.hid ht
              have L1 := Lib.hid hw
              have V1 := Lib.hid hv
              clear hd ht hv hw hwo HC HW
              have hlt3 : wo.heap.size < wi.heap.size := D1.out.lt
              go_wp2_with (first
                | (refine wpList_load_row rfl 87 _ rfl wo.heap.size rfl 87 (cellsOf .u8 (mk 4 (wdTo N g M i))) (0, 0) _ D1.out wordUnder rfl (wordSize _) ?_)
                | (refine wpList_words1 rfl _ rfl (wdTo N g M i) rfl ?_)
                | (refine wpList_append_one rfl _ _ 86 87 4 (by omega) (by omega) rfl wordsUnder wordInfo1 wordBytes wordZero1 (w1.heap.size + 1) wo.heap.size i 1 _ (flat (wdTo N g M)) (wdTo N g M i) wi.heap.size rfl rfl
                    (V1.out.same (w' := wi.alloc (.cells (cellsOf .u8 (mk 4 (wdTo N g M i))) 87)) (fun B _ hB => Below.heap_alloc _ _ _ (by omega))) (by have := (IntBlk.new wi .u8 87 (mk 4 (wdTo N g M i))).cells (o := 0) (n := 4) (by omega); simpa using this) (fun j hj => by rw [Nat.mul_comm i 4, flat_word _ i j hj]) (by omega) (by simp; omega) ?_; intro v2 w2 hv2 hb2)
                | fail)
              have T8 := Lib.hid ((T1.out.alloc (.cells (cellsOf .u8 (mk 4 (wdTo N g M i))) 87)).below hb2 (by omega))
              have L8 := Lib.hid ((L1.out.alloc (by omega) (.cells (cellsOf .u8 (mk 4 (wdTo N g M i))) 87)).trans (hb2.mono (by omega)))
              have Z8 := hb2.size
              simp only [World.size_alloc] at Z8
              have V8 := Lib.hid hv2
              clear T1 L1 D1 V1 hb2 hv2
              go_wp2
              go_roundw
              case' rel => exact ⟨i + 1, by omega, by go_num, T8.out, V8.out, by omega, L8.out⟩
              case' measure => simp [intOf]; omega
        · have d2 : decide ((i : Int) < (N : Int)) = false := by simp; omega
          obtain ⟨a, hna⟩ : ∃ a, a = i - N := ⟨_, rfl⟩
          obtain ⟨b, hnb⟩ : ∃ b, b = i - 1 := ⟨_, rfl⟩
          have s1 : IntKind.i64.wrap ((i : Int) - N) = (a : Int) := by rw [IntWalk.i64_in _ (by omega)]; omega
          have s2 : IntKind.i64.wrap ((i : Int) - 1) = (b : Int) := by rw [IntWalk.i64_in _ (by omega)]; omega
          have r1 : (a : Int) < i := by omega
          have r2 : (b : Int) < i := by omega
          have HW := Lib.hid (show wdTo N g M i = xorK (wdTo N g M a) (tnK N i (wdTo N g M b)) by rw [hrec, newW_more g _ hiN, hna, hnb])
          have ka := wdTo_word hgw M a
          have kb := wdTo_word hgw M b
          have kt := tnK_word N i kb
          obtain ⟨B, c, rfl, hB1, hB2, hcells⟩ := hv.cells (by omega)
          have CA := Lib.hid (show ∀ j, j < 4 → wo.cell? ⟨B, a * 4 + j, none⟩ = some (.int .u8 (wdTo N g M a j : Nat)) from fun j hj => by
            have := hcells (a * 4 + j) (by omega)
            rw [Nat.zero_add] at this
            rw [this, Nat.mul_comm a 4, flat_word _ a j hj])
          have CB := Lib.hid (show Cells (wo.alloc (.cells (cellsOf .u8 (mk 4 zeroK)) 87)) B (b * 4) 4 (wdTo N g M b) from fun j hj => by
            have := hcells (b * 4 + j) (by omega)
            rw [Nat.zero_add] at this
            rw [((Below.refl wo.heap.size wo).alloc (Nat.le_refl _) (.cells (cellsOf .u8 (mk 4 zeroK)) 87)).cell (p := ⟨B, b * 4 + j, none⟩) hB2, this, Nat.mul_comm b 4, flat_word _ b j hj])
          clear ht hv hw hcells hrec hna hnb
          have D0 := D1
          clear D1
          have D1 := Lib.hid (D0.out.setRow .u8 (mk 4 (wdTo N g M b)))
          have T0 := T1
          have V0 := V1
          have L0 := L1
          clear T1 V1 L1
          have T1 := Lib.hid (T0.out.otherRow (C := wo.heap.size) (by omega) (cellsOf .u8 (mk 4 (wdTo N g M b))))
          have V1 := Lib.hid (V0.out.same (w' := (wo.alloc (.cells (cellsOf .u8 (mk 4 zeroK)) 87)).setRow wo.heap.size (cellsOf .u8 (mk 4 (wdTo N g M b)))) (fun B _ hB => setRow_other _ _ _ _ (by omega)))
          have L1 := Lib.hid (below_setRow L0.out (g := wo.heap.size) (by omega) (cellsOf .u8 (mk 4 (wdTo N g M b))))
          have O1 := Lib.hid (below_setRow ((Below.refl wo.heap.size wo).alloc (Nat.le_refl _) (.cells (cellsOf .u8 (mk 4 zeroK)) 87)) (g := wo.heap.size) (Nat.le_refl _) (cellsOf .u8 (mk 4 (wdTo N g M b))))
          clear T0 V0 L0
          have nz2 : ¬ ((N : Int) = 0) := by omega
          by_cases h0 : i % N = 0
          · have t0 : ((i : Int) % (N : Int) == 0) = true := by
              have : (i : Int) % (N : Int) = ((i % N : Nat) : Int) := by simp
              rw [this, h0]; rfl
            obtain ⟨q, hq⟩ : ∃ q, q = i / N := ⟨_, rfl⟩
            have ht1 := tnK_turn (k := i) (wdTo N g M b) h0
            rw [← hq] at ht1
            have HT := Lib.hid ht1
            clear ht1
            clear h0
            go_wp2_with (first
              | (refine wpList_load_part rfl 87 _ rfl B (b * 4) 4 (wdTo N g M b) rfl _ CB.out wordUnder rfl wordInfo1 ?_)
              | (refine store_row_on rfl 87 _ _ rfl rfl wo.heap.size (cellsOf .u8 (mk 4 (wdTo N g M b))) rfl rfl 87 (cellsOf .u8 (mk 4 zeroK)) D0.out (wordSize _) (by rw [cellsOf_size, cellsOf_size, mk_len, mk_len]) (cellsOf_one _ _) ?_)
              | fail)
            clear D0 CB
            have BD := D1.out
            have BT := T1.out
            have BV := V1.out
            have BL := L1.out
            have BO := O1.out
            clear D1 T1 V1 L1 O1
            change Code.wp _ _ _ _ ((wo.alloc (.cells (cellsOf .u8 (mk 4 zeroK)) 87)).setRow wo.heap.size (cellsOf .u8 (mk 4 (wdTo N g M b))))
            generalize (wo.alloc (.cells (cellsOf .u8 (mk 4 zeroK)) 87)).setRow wo.heap.size (cellsOf .u8 (mk 4 (wdTo N g M b))) = W0 at *
            have TC := Lib.hid (fun (k : Nat) (hk : k < 256) (w' : World) (h : Below W0.heap.size W0 w') => (show w'.cell? ⟨w1.heap.size, k, none⟩ = some (.int .u8 (subN k : Nat)) by have := (BT.below h BT.lt).cell (i := k) (by rw [mk_len]; exact hk); rwa [mk_get hk] at this))
            have DC := Lib.hid (fun (k : Nat) (hk : k < 4) (w' : World) (h : Below W0.heap.size W0 w') => (show w'.cell? ⟨wo.heap.size, k, none⟩ = some (.int .u8 (wdTo N g M b k : Nat)) by have := (BD.below h BD.lt).cell (i := k) (by rw [mk_len]; exact hk); rwa [mk_get hk] at this))
            have DD := Lib.hid (fun (w' : World) (h : Below W0.heap.size W0 w') => BD.below h BD.lt)
            have TT := Lib.hid (fun (w' : World) (h : Below W0.heap.size W0 w') => BT.below h BT.lt)
            have VV := Lib.hid (fun (w' : World) (h : Below W0.heap.size W0 w') => BV.same (w' := w') (fun B _ hB => h.block B (by have := BD.lt; omega)))
            have LL := Lib.hid (fun (w' : World) (h : Below W0.heap.size W0 w') => BL.trans (h.mono BL.size))
            have OO := Lib.hid (fun (w' : World) (h : Below W0.heap.size W0 w') => BO.trans (h.mono BO.size))
            have s0 := subN_lt (kb 0 (by omega))
            have s1 := subN_lt (kb 1 (by omega))
            have s2 := subN_lt (kb 2 (by omega))
            have s3 := subN_lt (kb 3 (by omega))
            clear BD BT BV BL BO
            have kc := conN_lt (q : Int)
            have qq : IntKind.i64.wrap ((i : Int).tdiv (N : Int)) = (q : Int) := by
              rw [Int.tdiv_eq_ediv_of_nonneg (by omega)]
              have h1 : i / N ≤ i := Nat.div_le_self _ _
              rw [show (i : Int) / (N : Int) = ((i / N : Nat) : Int) by simp, ← hq]
              rw [← hq] at h1
              exact IntWalk.i64_in _ (by omega)
            clear hq
            refine wp_region_class_tail 22 (fun w' => Below W0.heap.size W0 w') (by kernel_rfl) (by kernel_rfl) ((Below.refl _ _).drew) ?_
            simp only [List.take_succ_cons, List.take_zero, List.drop_succ_cons, List.drop_zero]
            iterate 22 (first
              | go_big_quiet_skip
              | (go_big_quiet_want
                 first
                   | (go_big_quiet_op; go_big_quiet_on)
                   | ((first
                       | (refine quiet_place 87 4 _ _ rfl wordUnder wo.heap.size 0 rfl rfl (by omega) ?_)
                       | (refine quiet_place 87 4 _ _ rfl wordUnder wo.heap.size 1 rfl rfl (by omega) ?_)
                       | (refine quiet_place 87 4 _ _ rfl wordUnder wo.heap.size 2 rfl rfl (by omega) ?_)
                       | (refine quiet_place 87 4 _ _ rfl wordUnder wo.heap.size 3 rfl rfl (by omega) ?_)
                       | (refine quiet_byte_load _ rfl wo.heap.size 0 _ rfl (DC.out 0 (by omega)) ?_)
                       | (refine quiet_byte_load _ rfl wo.heap.size 1 _ rfl (DC.out 1 (by omega)) ?_)
                       | (refine quiet_byte_load _ rfl wo.heap.size 2 _ rfl (DC.out 2 (by omega)) ?_)
                       | (refine quiet_byte_load _ rfl wo.heap.size 3 _ rfl (DC.out 3 (by omega)) ?_)
                       | (refine quiet_place_byte 84 256 _ _ rfl tabUnder w1.heap.size (wdTo N g M b 0) rfl rfl (kb 0 (by omega)) ?_)
                       | (refine quiet_place_byte 84 256 _ _ rfl tabUnder w1.heap.size (wdTo N g M b 1) rfl rfl (kb 1 (by omega)) ?_)
                       | (refine quiet_place_byte 84 256 _ _ rfl tabUnder w1.heap.size (wdTo N g M b 2) rfl rfl (kb 2 (by omega)) ?_)
                       | (refine quiet_place_byte 84 256 _ _ rfl tabUnder w1.heap.size (wdTo N g M b 3) rfl rfl (kb 3 (by omega)) ?_)
                       | (refine quiet_byte_load _ rfl w1.heap.size (wdTo N g M b 0) _ rfl (TC.out _ (kb 0 (by omega))) ?_)
                       | (refine quiet_byte_load _ rfl w1.heap.size (wdTo N g M b 1) _ rfl (TC.out _ (kb 1 (by omega))) ?_)
                       | (refine quiet_byte_load _ rfl w1.heap.size (wdTo N g M b 2) _ rfl (TC.out _ (kb 2 (by omega))) ?_)
                       | (refine quiet_byte_load _ rfl w1.heap.size (wdTo N g M b 3) _ rfl (TC.out _ (kb 3 (by omega))) ?_)
                       | (refine quiet_int_quo _ _ rfl (i : Int) (N : Int) (q : Int) rfl rfl nz2 qq ?_)
                       | (refine quiet_int _ _ _ rfl 40 rfl (q : Int) rfl _ call_refconst (class_of (refConst_nat (q : Int))) ?_)
                       | (refine quiet_byte_xor _ _ rfl (subN (wdTo N g M b 1)) (conN (q : Int)) rfl rfl s1 kc ?_)
                       | (refine quiet_built 87 _ rfl _ rfl 4 (stK (wdTo N g M b) (conN (q : Int))) (by kernel_rfl) ?_)); go_simp; go_big_quiet_on)))
            refine wpQuiet_nil ?_
            intro w3 hw3
            have D3 := Lib.hid (DD.out _ hw3)
            have T3 := Lib.hid (TT.out _ hw3)
            have V3 := Lib.hid (VV.out _ hw3)
            have L3 := Lib.hid (LL.out _ hw3)
            have O3 := Lib.hid (OO.out _ hw3)
            clear hw3 DD TT VV LL OO DC TC
            have D1 := Lib.hid (D3.out.setRow .u8 (mk 4 (stK (wdTo N g M b) (conN (q : Int)))))
            have T1 := Lib.hid (T3.out.otherRow (C := wo.heap.size) (by omega) (cellsOf .u8 (mk 4 (stK (wdTo N g M b) (conN (q : Int))))))
            have V1 := Lib.hid (V3.out.same (w' := w3.setRow wo.heap.size (cellsOf .u8 (mk 4 (stK (wdTo N g M b) (conN (q : Int)))))) (fun B _ hB => setRow_other _ _ _ _ (by omega)))
            have L1 := Lib.hid (below_setRow L3.out (g := wo.heap.size) (by omega) (cellsOf .u8 (mk 4 (stK (wdTo N g M b) (conN (q : Int))))))
            have O1 := Lib.hid (below_setRow O3.out (g := wo.heap.size) (by omega) (cellsOf .u8 (mk 4 (stK (wdTo N g M b) (conN (q : Int))))))
            clear T3 V3 L3 O3
            go_wp2_with (first
              | (refine store_row_on rfl 87 _ _ rfl rfl wo.heap.size (cellsOf .u8 (mk 4 (stK (wdTo N g M b) (conN (q : Int))))) rfl rfl 87 (cellsOf .u8 (mk 4 (wdTo N g M b))) D3.out (wordSize _) (by rw [cellsOf_size, cellsOf_size, mk_len, mk_len]) (cellsOf_one _ _) ?_)
              | fail)
            clear D3
            have ks : IsWord (stK (wdTo N g M b) (conN (q : Int))) := fun j hj => stK_lt kb kc j hj
            go_loopw [10] (fun v10 wi => ∃ k : Nat, k ≤ 4 ∧ v10 = .int .i64 k ∧ IntBlk wi wo.heap.size .u8 87 (mk 4 (xsTo (stK (wdTo N g M b) (conN (q : Int))) (wdTo N g M a) k)) ∧ IntBlk wi w1.heap.size .u8 84 (mk 256 subN) ∧ OwnS 87 4 wi (w1.heap.size + 1) wo.heap.size (.slice (some ⟨B, 0, none⟩) i c) i (flat (wdTo N g M)) ∧ Below w.heap.size w wi ∧ Below wo.heap.size wo wi) (fun v10 _ => 4 - (intOf v10).toNat)
            case' atStart => exact ⟨0, by omega, rfl, by rw [xsTo_start]; exact D1.out, T1.out, V1.out, L1.out, O1.out⟩
            case' round =>
              clear T1 L1 D1 V1 O1
              obtain ⟨k, hk, rfl, hd, ht, hv, hw, hwo⟩ := hrel
              generalize wr = wi at *
              by_cases hk4 : k < 4
              · have d3 : decide ((k : Int) < 4) = true := by simp; omega
                have c1 := hd.cell (i := k) (by rw [mk_len]; exact hk4)
                rw [mk_get hk4, xsTo_at] at c1
                have f1 := hd.free k
                have c2 := (show wi.cell? ⟨B, a * 4 + k, none⟩ = some (.int .u8 (wdTo N g M a k : Nat)) by rw [hwo.cell (p := ⟨B, a * 4 + k, none⟩) hB2]; exact CA.out k hk4)
                have hx := ks k hk4
                have hy := ka k hk4
                have HV := Lib.hid (xorK_bits (f := stK (wdTo N g M b) (conN (q : Int))) (g := wdTo N g M a) hx hy)
                have T1 := Lib.hid ht
                have L1 := Lib.hid hw
                have D1 := Lib.hid hd
                have V1 := Lib.hid hv
                have O1 := Lib.hid hwo
                clear hd ht hv hw hwo
                have e1 : (k : Int) < 4 := by omega
                have e2 : (0 : Int) ≤ k := by omega
                go_wp2
                refine wp_region_still_tail 14 (by kernel_rfl) (by kernel_rfl) ?_
                simp only [List.take_succ_cons, List.take_zero, List.drop_succ_cons, List.drop_zero]
                change wpStill _ _ wi.drew (fun a' => wpList _ _ _ _ a' wi.drew) _ _
                iterate 14 still_step
                refine wpStill_nil ?_
                go_wp2
                go_roundw
                case' rel => exact ⟨k + 1, by omega, by go_num, by rw [HV.out, ← xsTo_step]; exact (D1.out.set k _).drew, (T1.out.other (by show wo.heap.size ≠ w1.heap.size; omega) _).drew, V1.out.same (fun B _ hB => heap_setCell_other _ _ _ _ (by show B ≠ wo.heap.size; omega)), (L1.out.setCell (by show w.heap.size ≤ wo.heap.size; omega) _).drew, (O1.out.setCell (by show wo.heap.size ≤ wo.heap.size; omega) _).drew⟩
                case' measure => simp [intOf]; omega
              · have d3 : decide ((k : Int) < 4) = false := by simp; omega
                have D1 := Lib.hid (show IntBlk wi wo.heap.size .u8 87 (mk 4 (xorK (stK (wdTo N g M b) (conN (q : Int))) (wdTo N g M a))) by rw [show k = 4 by omega, xsTo_end] at hd; exact hd)
                have T1 := Lib.hid ht
                have L1 := Lib.hid hw
                have V1 := Lib.hid hv
                have HE : ∀ j, j < 4 → xorK (stK (wdTo N g M b) (conN (q : Int))) (wdTo N g M a) j = flat (wdTo N g M) (i * 4 + j) := fun j hj => by
                  rw [Nat.mul_comm i 4, flat_word _ i j hj, HW.out]
                  exact (by rw [HT.out]; exact stK_sum _ _ _ hj)
                clear hd ht hv hw hwo HW CA
                have hlt3 : wo.heap.size < wi.heap.size := D1.out.lt
                go_wp2_with (first
                  | (refine wpList_load_row rfl 87 _ rfl wo.heap.size rfl 87 (cellsOf .u8 (mk 4 (xorK (stK (wdTo N g M b) (conN (q : Int))) (wdTo N g M a)))) (0, 0) _ D1.out wordUnder rfl (wordSize _) ?_)
                  | (refine wpList_words1 rfl _ rfl (xorK (stK (wdTo N g M b) (conN (q : Int))) (wdTo N g M a)) rfl ?_)
                  | (refine wpList_append_one rfl _ _ 86 87 4 (by omega) (by omega) rfl wordsUnder wordInfo1 wordBytes wordZero1 (w1.heap.size + 1) wo.heap.size i 1 _ (flat (wdTo N g M)) (xorK (stK (wdTo N g M b) (conN (q : Int))) (wdTo N g M a)) wi.heap.size rfl rfl
                      (V1.out.same (w' := wi.alloc (.cells (cellsOf .u8 (mk 4 (xorK (stK (wdTo N g M b) (conN (q : Int))) (wdTo N g M a)))) 87)) (fun B _ hB => Below.heap_alloc _ _ _ (by omega))) (by have := (IntBlk.new wi .u8 87 (mk 4 (xorK (stK (wdTo N g M b) (conN (q : Int))) (wdTo N g M a)))).cells (o := 0) (n := 4) (by omega); simpa using this) HE (by omega) (by simp; omega) ?_; intro v2 w2 hv2 hb2)
                  | fail)
                have T8 := Lib.hid ((T1.out.alloc (.cells (cellsOf .u8 (mk 4 (xorK (stK (wdTo N g M b) (conN (q : Int))) (wdTo N g M a)))) 87)).below hb2 (by omega))
                have L8 := Lib.hid ((L1.out.alloc (by omega) (.cells (cellsOf .u8 (mk 4 (xorK (stK (wdTo N g M b) (conN (q : Int))) (wdTo N g M a)))) 87)).trans (hb2.mono (by omega)))
                have Z8 := hb2.size
                simp only [World.size_alloc] at Z8
                have V8 := Lib.hid hv2
                clear T1 L1 D1 V1 hb2 hv2
                go_wp2
                go_roundw
                case' rel => exact ⟨i + 1, by omega, by go_num, T8.out, V8.out, by omega, L8.out⟩
                case' measure => simp [intOf]; omega
          · have t0 : ((i : Int) % (N : Int) == 0) = false := by
              have : (i : Int) % (N : Int) = ((i % N : Nat) : Int) := by simp
              rw [this]; simp only [beq_eq_false_iff_ne, ne_eq]; omega
            by_cases h8 : N = 8 ∧ i % 8 = 4
            · have HT := Lib.hid (tnK_sub (wdTo N g M b) h0 h8)
              have n8 : ((N : Int) == 8) = true := by simp; omega
              have i8 : ((i : Int) % 8 == 4) = true := by simp; omega
              clear h0 h8
              go_wp2_with (first
                | (refine wpList_load_part rfl 87 _ rfl B (b * 4) 4 (wdTo N g M b) rfl _ CB.out wordUnder rfl wordInfo1 ?_)
                | (refine store_row_on rfl 87 _ _ rfl rfl wo.heap.size (cellsOf .u8 (mk 4 (wdTo N g M b))) rfl rfl 87 (cellsOf .u8 (mk 4 zeroK)) D0.out (wordSize _) (by rw [cellsOf_size, cellsOf_size, mk_len, mk_len]) (cellsOf_one _ _) ?_)
                | fail)
              clear D0 CB
              have BD := D1.out
              have BT := T1.out
              have BV := V1.out
              have BL := L1.out
              have BO := O1.out
              clear D1 T1 V1 L1 O1
              change Code.wp _ _ _ _ ((wo.alloc (.cells (cellsOf .u8 (mk 4 zeroK)) 87)).setRow wo.heap.size (cellsOf .u8 (mk 4 (wdTo N g M b))))
              generalize (wo.alloc (.cells (cellsOf .u8 (mk 4 zeroK)) 87)).setRow wo.heap.size (cellsOf .u8 (mk 4 (wdTo N g M b))) = W0 at *
              have TC := Lib.hid (fun (k : Nat) (hk : k < 256) (w' : World) (h : Below W0.heap.size W0 w') => (show w'.cell? ⟨w1.heap.size, k, none⟩ = some (.int .u8 (subN k : Nat)) by have := (BT.below h BT.lt).cell (i := k) (by rw [mk_len]; exact hk); rwa [mk_get hk] at this))
              have DC := Lib.hid (fun (k : Nat) (hk : k < 4) (w' : World) (h : Below W0.heap.size W0 w') => (show w'.cell? ⟨wo.heap.size, k, none⟩ = some (.int .u8 (wdTo N g M b k : Nat)) by have := (BD.below h BD.lt).cell (i := k) (by rw [mk_len]; exact hk); rwa [mk_get hk] at this))
              have DD := Lib.hid (fun (w' : World) (h : Below W0.heap.size W0 w') => BD.below h BD.lt)
              have TT := Lib.hid (fun (w' : World) (h : Below W0.heap.size W0 w') => BT.below h BT.lt)
              have VV := Lib.hid (fun (w' : World) (h : Below W0.heap.size W0 w') => BV.same (w' := w') (fun B _ hB => h.block B (by have := BD.lt; omega)))
              have LL := Lib.hid (fun (w' : World) (h : Below W0.heap.size W0 w') => BL.trans (h.mono BL.size))
              have OO := Lib.hid (fun (w' : World) (h : Below W0.heap.size W0 w') => BO.trans (h.mono BO.size))
              have s0 := subN_lt (kb 0 (by omega))
              have s1 := subN_lt (kb 1 (by omega))
              have s2 := subN_lt (kb 2 (by omega))
              have s3 := subN_lt (kb 3 (by omega))
              clear BD BT BV BL BO
              refine wp_region_class_tail 17 (fun w' => Below W0.heap.size W0 w') (by kernel_rfl) (by kernel_rfl) ((Below.refl _ _).drew) ?_
              simp only [List.take_succ_cons, List.take_zero, List.drop_succ_cons, List.drop_zero]
              iterate 17 (first
                | go_big_quiet_skip
                | (go_big_quiet_want
                   first
                     | (go_big_quiet_op; go_big_quiet_on)
                     | ((first
                         | (refine quiet_place 87 4 _ _ rfl wordUnder wo.heap.size 0 rfl rfl (by omega) ?_)
                         | (refine quiet_place 87 4 _ _ rfl wordUnder wo.heap.size 1 rfl rfl (by omega) ?_)
                         | (refine quiet_place 87 4 _ _ rfl wordUnder wo.heap.size 2 rfl rfl (by omega) ?_)
                         | (refine quiet_place 87 4 _ _ rfl wordUnder wo.heap.size 3 rfl rfl (by omega) ?_)
                         | (refine quiet_byte_load _ rfl wo.heap.size 0 _ rfl (DC.out 0 (by omega)) ?_)
                         | (refine quiet_byte_load _ rfl wo.heap.size 1 _ rfl (DC.out 1 (by omega)) ?_)
                         | (refine quiet_byte_load _ rfl wo.heap.size 2 _ rfl (DC.out 2 (by omega)) ?_)
                         | (refine quiet_byte_load _ rfl wo.heap.size 3 _ rfl (DC.out 3 (by omega)) ?_)
                         | (refine quiet_place_byte 84 256 _ _ rfl tabUnder w1.heap.size (wdTo N g M b 0) rfl rfl (kb 0 (by omega)) ?_)
                         | (refine quiet_place_byte 84 256 _ _ rfl tabUnder w1.heap.size (wdTo N g M b 1) rfl rfl (kb 1 (by omega)) ?_)
                         | (refine quiet_place_byte 84 256 _ _ rfl tabUnder w1.heap.size (wdTo N g M b 2) rfl rfl (kb 2 (by omega)) ?_)
                         | (refine quiet_place_byte 84 256 _ _ rfl tabUnder w1.heap.size (wdTo N g M b 3) rfl rfl (kb 3 (by omega)) ?_)
                         | (refine quiet_byte_load _ rfl w1.heap.size (wdTo N g M b 0) _ rfl (TC.out _ (kb 0 (by omega))) ?_)
                         | (refine quiet_byte_load _ rfl w1.heap.size (wdTo N g M b 1) _ rfl (TC.out _ (kb 1 (by omega))) ?_)
                         | (refine quiet_byte_load _ rfl w1.heap.size (wdTo N g M b 2) _ rfl (TC.out _ (kb 2 (by omega))) ?_)
                         | (refine quiet_byte_load _ rfl w1.heap.size (wdTo N g M b 3) _ rfl (TC.out _ (kb 3 (by omega))) ?_)
                         | (refine quiet_built 87 _ rfl _ rfl 4 (subK (wdTo N g M b)) (by kernel_rfl) ?_)); go_simp; go_big_quiet_on)))
              refine wpQuiet_nil ?_
              intro w3 hw3
              have D3 := Lib.hid (DD.out _ hw3)
              have T3 := Lib.hid (TT.out _ hw3)
              have V3 := Lib.hid (VV.out _ hw3)
              have L3 := Lib.hid (LL.out _ hw3)
              have O3 := Lib.hid (OO.out _ hw3)
              clear hw3 DD TT VV LL OO DC TC
              have D1 := Lib.hid (D3.out.setRow .u8 (mk 4 (subK (wdTo N g M b))))
              have T1 := Lib.hid (T3.out.otherRow (C := wo.heap.size) (by omega) (cellsOf .u8 (mk 4 (subK (wdTo N g M b)))))
              have V1 := Lib.hid (V3.out.same (w' := w3.setRow wo.heap.size (cellsOf .u8 (mk 4 (subK (wdTo N g M b))))) (fun B _ hB => setRow_other _ _ _ _ (by omega)))
              have L1 := Lib.hid (below_setRow L3.out (g := wo.heap.size) (by omega) (cellsOf .u8 (mk 4 (subK (wdTo N g M b)))))
              have O1 := Lib.hid (below_setRow O3.out (g := wo.heap.size) (by omega) (cellsOf .u8 (mk 4 (subK (wdTo N g M b)))))
              clear T3 V3 L3 O3
              go_wp2_with (first
                | (refine store_row_on rfl 87 _ _ rfl rfl wo.heap.size (cellsOf .u8 (mk 4 (subK (wdTo N g M b)))) rfl rfl 87 (cellsOf .u8 (mk 4 (wdTo N g M b))) D3.out (wordSize _) (by rw [cellsOf_size, cellsOf_size, mk_len, mk_len]) (cellsOf_one _ _) ?_)
                | fail)
              clear D3
              have ks : IsWord (subK (wdTo N g M b)) := subK_word kb
              go_loopw [10] (fun v10 wi => ∃ k : Nat, k ≤ 4 ∧ v10 = .int .i64 k ∧ IntBlk wi wo.heap.size .u8 87 (mk 4 (xsTo (subK (wdTo N g M b)) (wdTo N g M a) k)) ∧ IntBlk wi w1.heap.size .u8 84 (mk 256 subN) ∧ OwnS 87 4 wi (w1.heap.size + 1) wo.heap.size (.slice (some ⟨B, 0, none⟩) i c) i (flat (wdTo N g M)) ∧ Below w.heap.size w wi ∧ Below wo.heap.size wo wi) (fun v10 _ => 4 - (intOf v10).toNat)
              case' atStart => exact ⟨0, by omega, rfl, by rw [xsTo_start]; exact D1.out, T1.out, V1.out, L1.out, O1.out⟩
              case' round =>
                clear T1 L1 D1 V1 O1
                obtain ⟨k, hk, rfl, hd, ht, hv, hw, hwo⟩ := hrel
                generalize wr = wi at *
                by_cases hk4 : k < 4
                · have d3 : decide ((k : Int) < 4) = true := by simp; omega
                  have c1 := hd.cell (i := k) (by rw [mk_len]; exact hk4)
                  rw [mk_get hk4, xsTo_at] at c1
                  have f1 := hd.free k
                  have c2 := (show wi.cell? ⟨B, a * 4 + k, none⟩ = some (.int .u8 (wdTo N g M a k : Nat)) by rw [hwo.cell (p := ⟨B, a * 4 + k, none⟩) hB2]; exact CA.out k hk4)
                  have hx := ks k hk4
                  have hy := ka k hk4
                  have HV := Lib.hid (xorK_bits (f := subK (wdTo N g M b)) (g := wdTo N g M a) hx hy)
                  have T1 := Lib.hid ht
                  have L1 := Lib.hid hw
                  have D1 := Lib.hid hd
                  have V1 := Lib.hid hv
                  have O1 := Lib.hid hwo
                  clear hd ht hv hw hwo
                  have e1 : (k : Int) < 4 := by omega
                  have e2 : (0 : Int) ≤ k := by omega
                  go_wp2
                  refine wp_region_still_tail 14 (by kernel_rfl) (by kernel_rfl) ?_
                  simp only [List.take_succ_cons, List.take_zero, List.drop_succ_cons, List.drop_zero]
                  change wpStill _ _ wi.drew (fun a' => wpList _ _ _ _ a' wi.drew) _ _
                  iterate 14 still_step
                  refine wpStill_nil ?_
                  go_wp2
                  go_roundw
                  case' rel => exact ⟨k + 1, by omega, by go_num, by rw [HV.out, ← xsTo_step]; exact (D1.out.set k _).drew, (T1.out.other (by show wo.heap.size ≠ w1.heap.size; omega) _).drew, V1.out.same (fun B _ hB => heap_setCell_other _ _ _ _ (by show B ≠ wo.heap.size; omega)), (L1.out.setCell (by show w.heap.size ≤ wo.heap.size; omega) _).drew, (O1.out.setCell (by show wo.heap.size ≤ wo.heap.size; omega) _).drew⟩
                  case' measure => simp [intOf]; omega
                · have d3 : decide ((k : Int) < 4) = false := by simp; omega
                  have D1 := Lib.hid (show IntBlk wi wo.heap.size .u8 87 (mk 4 (xorK (subK (wdTo N g M b)) (wdTo N g M a))) by rw [show k = 4 by omega, xsTo_end] at hd; exact hd)
                  have T1 := Lib.hid ht
                  have L1 := Lib.hid hw
                  have V1 := Lib.hid hv
                  have HE : ∀ j, j < 4 → xorK (subK (wdTo N g M b)) (wdTo N g M a) j = flat (wdTo N g M) (i * 4 + j) := fun j hj => by
                    rw [Nat.mul_comm i 4, flat_word _ i j hj, HW.out]
                    exact (by rw [HT.out]; exact xor_turn _ _ _)
                  clear hd ht hv hw hwo HW CA
                  have hlt3 : wo.heap.size < wi.heap.size := D1.out.lt
                  go_wp2_with (first
                    | (refine wpList_load_row rfl 87 _ rfl wo.heap.size rfl 87 (cellsOf .u8 (mk 4 (xorK (subK (wdTo N g M b)) (wdTo N g M a)))) (0, 0) _ D1.out wordUnder rfl (wordSize _) ?_)
                    | (refine wpList_words1 rfl _ rfl (xorK (subK (wdTo N g M b)) (wdTo N g M a)) rfl ?_)
                    | (refine wpList_append_one rfl _ _ 86 87 4 (by omega) (by omega) rfl wordsUnder wordInfo1 wordBytes wordZero1 (w1.heap.size + 1) wo.heap.size i 1 _ (flat (wdTo N g M)) (xorK (subK (wdTo N g M b)) (wdTo N g M a)) wi.heap.size rfl rfl
                        (V1.out.same (w' := wi.alloc (.cells (cellsOf .u8 (mk 4 (xorK (subK (wdTo N g M b)) (wdTo N g M a)))) 87)) (fun B _ hB => Below.heap_alloc _ _ _ (by omega))) (by have := (IntBlk.new wi .u8 87 (mk 4 (xorK (subK (wdTo N g M b)) (wdTo N g M a)))).cells (o := 0) (n := 4) (by omega); simpa using this) HE (by omega) (by simp; omega) ?_; intro v2 w2 hv2 hb2)
                    | fail)
                  have T8 := Lib.hid ((T1.out.alloc (.cells (cellsOf .u8 (mk 4 (xorK (subK (wdTo N g M b)) (wdTo N g M a)))) 87)).below hb2 (by omega))
                  have L8 := Lib.hid ((L1.out.alloc (by omega) (.cells (cellsOf .u8 (mk 4 (xorK (subK (wdTo N g M b)) (wdTo N g M a)))) 87)).trans (hb2.mono (by omega)))
                  have Z8 := hb2.size
                  simp only [World.size_alloc] at Z8
                  have V8 := Lib.hid hv2
                  clear T1 L1 D1 V1 hb2 hv2
                  go_wp2
                  go_roundw
                  case' rel => exact ⟨i + 1, by omega, by go_num, T8.out, V8.out, by omega, L8.out⟩
                  case' measure => simp [intOf]; omega
            · have HT := Lib.hid (tnK_same (wdTo N g M b) h0 h8)
              by_cases n8 : N = 8
              case' pos =>
                have b8 : ((N : Int) == 8) = true := by simp; omega
                have i8 : ((i : Int) % 8 == 4) = false := by simp; omega
              case' neg =>
                have b8 : ((N : Int) == 8) = false := by simp; omega
              all_goals
                clear h0 h8 n8
                go_wp2_with (first
                  | (refine wpList_load_part rfl 87 _ rfl B (b * 4) 4 (wdTo N g M b) rfl _ CB.out wordUnder rfl wordInfo1 ?_)
                  | (refine store_row_on rfl 87 _ _ rfl rfl wo.heap.size (cellsOf .u8 (mk 4 (wdTo N g M b))) rfl rfl 87 (cellsOf .u8 (mk 4 zeroK)) D0.out (wordSize _) (by rw [cellsOf_size, cellsOf_size, mk_len, mk_len]) (cellsOf_one _ _) ?_)
                  | fail)
                clear D0 CB
                go_loopw [10] (fun v10 wi => ∃ k : Nat, k ≤ 4 ∧ v10 = .int .i64 k ∧ IntBlk wi wo.heap.size .u8 87 (mk 4 (xsTo (wdTo N g M b) (wdTo N g M a) k)) ∧ IntBlk wi w1.heap.size .u8 84 (mk 256 subN) ∧ OwnS 87 4 wi (w1.heap.size + 1) wo.heap.size (.slice (some ⟨B, 0, none⟩) i c) i (flat (wdTo N g M)) ∧ Below w.heap.size w wi ∧ Below wo.heap.size wo wi) (fun v10 _ => 4 - (intOf v10).toNat)
                case' atStart => exact ⟨0, by omega, rfl, by rw [xsTo_start]; exact D1.out, T1.out, V1.out, L1.out, O1.out⟩
                case' round =>
                  clear T1 L1 D1 V1 O1
                  obtain ⟨k, hk, rfl, hd, ht, hv, hw, hwo⟩ := hrel
                  generalize wr = wi at *
                  by_cases hk4 : k < 4
                  · have d3 : decide ((k : Int) < 4) = true := by simp; omega
                    have c1 := hd.cell (i := k) (by rw [mk_len]; exact hk4)
                    rw [mk_get hk4, xsTo_at] at c1
                    have f1 := hd.free k
                    have c2 := (show wi.cell? ⟨B, a * 4 + k, none⟩ = some (.int .u8 (wdTo N g M a k : Nat)) by rw [hwo.cell (p := ⟨B, a * 4 + k, none⟩) hB2]; exact CA.out k hk4)
                    have hx := kb k hk4
                    have hy := ka k hk4
                    have HV := Lib.hid (xorK_bits (f := wdTo N g M b) (g := wdTo N g M a) hx hy)
                    have T1 := Lib.hid ht
                    have L1 := Lib.hid hw
                    have D1 := Lib.hid hd
                    have V1 := Lib.hid hv
                    have O1 := Lib.hid hwo
                    clear hd ht hv hw hwo
                    have e1 : (k : Int) < 4 := by omega
                    have e2 : (0 : Int) ≤ k := by omega
                    go_wp2
                    refine wp_region_still_tail 14 (by kernel_rfl) (by kernel_rfl) ?_
                    simp only [List.take_succ_cons, List.take_zero, List.drop_succ_cons, List.drop_zero]
                    change wpStill _ _ wi.drew (fun a' => wpList _ _ _ _ a' wi.drew) _ _
                    iterate 14 still_step
                    refine wpStill_nil ?_
                    go_wp2
                    go_roundw
                    case' rel => exact ⟨k + 1, by omega, by go_num, by rw [HV.out, ← xsTo_step]; exact (D1.out.set k _).drew, (T1.out.other (by show wo.heap.size ≠ w1.heap.size; omega) _).drew, V1.out.same (fun B _ hB => heap_setCell_other _ _ _ _ (by show B ≠ wo.heap.size; omega)), (L1.out.setCell (by show w.heap.size ≤ wo.heap.size; omega) _).drew, (O1.out.setCell (by show wo.heap.size ≤ wo.heap.size; omega) _).drew⟩
                    case' measure => simp [intOf]; omega
                  · have d3 : decide ((k : Int) < 4) = false := by simp; omega
                    have D1 := Lib.hid (show IntBlk wi wo.heap.size .u8 87 (mk 4 (xorK (wdTo N g M b) (wdTo N g M a))) by rw [show k = 4 by omega, xsTo_end] at hd; exact hd)
                    have T1 := Lib.hid ht
                    have L1 := Lib.hid hw
                    have V1 := Lib.hid hv
                    have HE : ∀ j, j < 4 → xorK (wdTo N g M b) (wdTo N g M a) j = flat (wdTo N g M) (i * 4 + j) := fun j hj => by
                      rw [Nat.mul_comm i 4, flat_word _ i j hj, HW.out]
                      exact (by rw [HT.out]; exact xor_turn _ _ _)
                    clear hd ht hv hw hwo HW CA
                    have hlt3 : wo.heap.size < wi.heap.size := D1.out.lt
                    go_wp2_with (first
                      | (refine wpList_load_row rfl 87 _ rfl wo.heap.size rfl 87 (cellsOf .u8 (mk 4 (xorK (wdTo N g M b) (wdTo N g M a)))) (0, 0) _ D1.out wordUnder rfl (wordSize _) ?_)
                      | (refine wpList_words1 rfl _ rfl (xorK (wdTo N g M b) (wdTo N g M a)) rfl ?_)
                      | (refine wpList_append_one rfl _ _ 86 87 4 (by omega) (by omega) rfl wordsUnder wordInfo1 wordBytes wordZero1 (w1.heap.size + 1) wo.heap.size i 1 _ (flat (wdTo N g M)) (xorK (wdTo N g M b) (wdTo N g M a)) wi.heap.size rfl rfl
                          (V1.out.same (w' := wi.alloc (.cells (cellsOf .u8 (mk 4 (xorK (wdTo N g M b) (wdTo N g M a)))) 87)) (fun B _ hB => Below.heap_alloc _ _ _ (by omega))) (by have := (IntBlk.new wi .u8 87 (mk 4 (xorK (wdTo N g M b) (wdTo N g M a)))).cells (o := 0) (n := 4) (by omega); simpa using this) HE (by omega) (by simp; omega) ?_; intro v2 w2 hv2 hb2)
                      | fail)
                    have T8 := Lib.hid ((T1.out.alloc (.cells (cellsOf .u8 (mk 4 (xorK (wdTo N g M b) (wdTo N g M a)))) 87)).below hb2 (by omega))
                    have L8 := Lib.hid ((L1.out.alloc (by omega) (.cells (cellsOf .u8 (mk 4 (xorK (wdTo N g M b) (wdTo N g M a)))) 87)).trans (hb2.mono (by omega)))
                    have Z8 := hb2.size
                    simp only [World.size_alloc] at Z8
                    have V8 := Lib.hid hv2
                    clear T1 L1 D1 V1 hb2 hv2
                    go_wp2
                    go_roundw
                    case' rel => exact ⟨i + 1, by omega, by go_num, T8.out, V8.out, by omega, L8.out⟩
                    case' measure => simp [intOf]; omega
      · have d1 : decide ((i : Int) < (M : Int)) = false := by simp; omega
        have hM0 : M ≠ 0 := by have := HN.out.2.1; omega
        obtain rfl : i = M := by omega
        obtain ⟨B, c, rfl, hB1, hB2, hcells⟩ := hv.cells hM0
        have CM := Lib.hid hcells
        have L9 := Lib.hid hw
        clear ht hv hw hcells
        go_wp2
        generalize wo = w9 at *
        go_loopw [11, 12] (fun v11 v12 wo => ∃ t x : Nat, t ≤ T ∧ x = 4 * t ∧ v12 = .int .i64 x ∧ OwnS 65 16 wo w9.heap.size wo.heap.size v11 t (flat (wdTo N g i)) ∧ w9.heap.size ≤ wo.heap.size ∧ Below w9.heap.size w9 wo) (fun _ v12 _ => i - (intOf v12).toNat)
        case' atStart => exact ⟨0, 0, by omega, rfl, rfl, OwnS.nil _ _ _ _ _ _, Nat.le_refl _, Below.refl _ _⟩
        case' round =>
          obtain ⟨t, x, htT, hx, rfl, hv, hsz, hw⟩ := hrel
          generalize wr = wo at *
          by_cases hlt : t < T
          · have d1 : decide ((x : Int) < (i : Int)) = true := by simp; have := HN.out.2.2; omega
            have D1 := Lib.hid (IntBlk.new wo .u8 65 (mk 16 zeroK))
            have V1 := Lib.hid (hv.same (w' := wo.alloc (.cells (cellsOf .u8 (mk 16 zeroK)) 65)) (fun B _ hB => Below.heap_alloc _ _ _ hB))
            have L1 := Lib.hid (hw.alloc hsz (.cells (cellsOf .u8 (mk 16 zeroK)) 65))
            have CW : ∀ j, j < 16 → wo.cell? ⟨B, (x + j / 4) * 4 + j % 4, none⟩ = some (.int .u8 (flat (wdTo N g i) (t * 16 + j) : Nat)) := fun j hj => by
              rw [hw.cell (p := ⟨B, (x + j / 4) * 4 + j % 4, none⟩) hB2]
              have := CM.out ((x + j / 4) * 4 + j % 4) (by have := HN.out.2.2; omega)
              rw [Nat.zero_add] at this
              rw [this, show (x + j / 4) * 4 + j % 4 = t * 16 + j by omega]
            have HC := Lib.hid CW
            have HX := Lib.hid hx
            have hxM : x + 4 ≤ i := by have := HN.out.2.2; omega
            clear hv hw CW hx
            go_wp2
            go_loopw [14] (fun v14 wi => ∃ j : Nat, j ≤ 16 ∧ v14 = .int .i64 j ∧ IntBlk wi wo.heap.size .u8 65 (mk 16 (wkTo (fun j => flat (wdTo N g i) (t * 16 + j)) j)) ∧ OwnS 65 16 wi w9.heap.size wo.heap.size u11 t (flat (wdTo N g i)) ∧ Below w9.heap.size w9 wi ∧ Below wo.heap.size wo wi) (fun v14 _ => 16 - (intOf v14).toNat)
            case' atStart => exact ⟨0, by omega, rfl, by rw [wkTo_start]; exact D1.out, V1.out, L1.out, (Below.refl _ _).alloc (Nat.le_refl _) _⟩
            case' round =>
              clear D1 V1 L1
              obtain ⟨j, hj, rfl, hd, hv, hw, hwo⟩ := hrel
              generalize wr = wi at *
              by_cases hj16 : j < 16
              · have d3 : decide ((j : Int) < 16) = true := by simp; omega
                have c1 := (show wi.cell? ⟨B, (x + j / 4) * 4 + j % 4, none⟩ = some (.int .u8 (flat (wdTo N g i) (t * 16 + j) : Nat)) by rw [hwo.cell (p := ⟨B, (x + j / 4) * 4 + j % 4, none⟩) (by show B < wo.heap.size; omega)]; exact HC.out j hj16)
                have c2 := hd.cell (i := j) (by rw [mk_len]; exact hj16)
                have f2 := hd.free j
                have D1 := Lib.hid hd
                have V1 := Lib.hid hv
                have L1 := Lib.hid hw
                have O1 := Lib.hid hwo
                clear hd hv hw hwo
                have q1 : IntKind.i64.wrap ((j : Int) / 4) = (j : Int) / 4 := IntWalk.i64_in _ (by omega)
                have q2 : IntKind.i64.wrap ((x : Int) + (j : Int) / 4) = (x : Int) + (j : Int) / 4 := IntWalk.i64_in _ (by omega)
                have q3 : (j : Int).tmod 4 = (j : Int) % 4 := IntWalk.rem_in _ _ (by omega)
                have q4 : (0 : Int) ≤ (x : Int) + (j : Int) / 4 := by omega
                have q5 : (x : Int) + (j : Int) / 4 < i := by omega
                have q6 : (0 : Int) ≤ (j : Int) % 4 := by omega
                have q7 : (j : Int) % 4 < 4 := by omega
                have q8 : ((x : Int) + (j : Int) / 4).toNat = x + j / 4 := by omega
                go_wp2
                go_roundw
                case' rel => exact ⟨j + 1, by omega, by go_num, by rw [← wkTo_step]; exact D1.out.set j _, V1.out.same (fun B _ hB => heap_setCell_other _ _ _ _ (by show B ≠ wo.heap.size; omega)), L1.out.setCell (by show w9.heap.size ≤ wo.heap.size; omega) _, O1.out.setCell (by show wo.heap.size ≤ wo.heap.size; omega) _⟩
                case' measure => simp [intOf]; omega
              · have d3 : decide ((j : Int) < 16) = false := by simp; omega
                have D1 := Lib.hid (show IntBlk wi wo.heap.size .u8 65 (mk 16 (fun j => flat (wdTo N g i) (t * 16 + j))) by rw [show j = 16 by omega, wkTo_end] at hd; exact hd)
                have V1 := Lib.hid hv
                have L1 := Lib.hid hw
                have hlt3 : wo.heap.size < wi.heap.size := hd.lt
                clear hd hv hw hwo HC
                go_wp2_with (first
                  | (refine wpList_load_row rfl 65 _ rfl wo.heap.size rfl 65 (cellsOf .u8 (mk 16 (fun j => flat (wdTo N g i) (t * 16 + j)))) (0, 0) _ D1.out keyUnder rfl (keySize _) ?_)
                  | (refine wpList_key1 rfl _ rfl (fun j => flat (wdTo N g i) (t * 16 + j)) rfl ?_)
                  | (refine wpList_append_one rfl _ _ 61 65 16 (by omega) (by omega) rfl keysUnder1 keyInfo1 keyBytes1 keyZero w9.heap.size wo.heap.size t 1 _ (flat (wdTo N g i)) (fun j => flat (wdTo N g i) (t * 16 + j)) wi.heap.size rfl rfl
                      (V1.out.same (w' := wi.alloc (.cells (cellsOf .u8 (mk 16 (fun j => flat (wdTo N g i) (t * 16 + j)))) 65)) (fun B _ hB => Below.heap_alloc _ _ _ (by omega))) (by have := (IntBlk.new wi .u8 65 (mk 16 (fun j => flat (wdTo N g i) (t * 16 + j)))).cells (o := 0) (n := 16) (by omega); simpa using this) (fun j _ => rfl) (by have := HN.out.2.2; omega) (by simp; omega) ?_; intro v2 w2 hv2 hb2)
                  | fail)
                have L8 := Lib.hid ((L1.out.alloc (by omega) (.cells (cellsOf .u8 (mk 16 (fun j => flat (wdTo N g i) (t * 16 + j)))) 65)).trans hb2)
                have Z8 := hb2.size
                simp only [World.size_alloc] at Z8
                have V8 := Lib.hid hv2
                clear D1 V1 L1 hb2 hv2
                go_wp2
                go_roundw
                case' rel => exact ⟨t + 1, x + 4, by omega, by have := HX.out; omega, by go_num, V8.out, by omega, L8.out⟩
                case' measure => simp [intOf]; omega
          · have d1 : decide ((x : Int) < (i : Int)) = false := by simp; have := HN.out.2.2; omega
            have hTT : t = T := by omega
            have hxi : i ≤ x := by have := HN.out.2.2; omega
            have hT0 : t ≠ 0 := by have := HN.out.2; omega
            obtain ⟨B2, c2, rfl, hB3, hB4, hcells⟩ := hv.cells hT0
            have L1 := Lib.hid (L9.out.trans (hw.mono L9.out.size))
            have KA : KeysAt wo (some ⟨B2, 0, none⟩) t (rkS N g) := .inr ⟨B2, 0, rfl, hB4, fun i hi j hj => by
              have := hcells (i * 16 + j) (by omega)
              rw [Nat.zero_add] at this
              rw [Nat.zero_add, this, HR.out]⟩
            have HK := Lib.hid KA
            have HTT := Lib.hid hTT
            clear hv hw hcells KA hTT
            go_wp2
            go_ret2
            refine ⟨some ⟨B2, 0, none⟩, c2, ?_, ?_, L1.out⟩
            · rw [← HTT.out]; rfl
            · rw [← HTT.out]; exact HK.out
end Go.Proofs.Ytghdeedglekphaa
