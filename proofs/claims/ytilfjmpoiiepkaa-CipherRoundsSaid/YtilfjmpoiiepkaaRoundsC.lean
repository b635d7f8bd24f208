/- The contract of package cipher's Rounds: a key of 16 or 32 bytes has its round keys, in memory of its own; every other key none, and ErrKey; and nothing is written that was there. Condition: the key's bytes are bytes. -/
import Derived.Test.YtilfjmpoiiepkaaSchedC
namespace Go.Proofs.Ytilfjmpoiiepkaa
open Go.ChangeShapes Go.WideShapes Go.ChangeAt Go.RowKit

theorem wpList_make_keys {ops : Array Oper} {rest : List Oper} {o : Oper} {a : Act} {w : World} {Q : Exit → Act → World → Prop} (hgd : o.guard = none) (x y : Operand) (ho : o.op = .makeSlice 31 x y) (M : Nat) (hM : M ≤ 1000) (hx : a.eval x = .int .i64 M) (hy : a.eval y = .int .i64 M)
    (h : wpList Try.prog ops Q rest (a.put o.dst (.slice (some ⟨w.heap.size, 0, none⟩) M M)) (w.alloc (.cells (cellsOf .u8 (mk (M * 16) zeroK)) 23))) : wpList Try.prog ops Q (o :: rest) a w :=
  wpList_plain hgd fun _ hK => by
    have hi := keyInfo
    have hz : (Try.prog.info? 23).bind (·.zero) = some (.agg (cellsOf .u8 (mk 16 zeroK))) := by kernel_rfl
    have hb : (Try.prog.info? 23).map (·.bytes) = some 16 := by kernel_rfl
    cases hq : Try.prog.info? 23 with
    | none => rw [hq] at hi; simp at hi
    | some i =>
      rw [hq] at hi hz hb
      have hsz : i.size = 16 := by simpa using hi
      have hzz : i.zero = some (.agg (cellsOf .u8 (mk 16 zeroK))) := by simpa using hz
      have hby : i.bytes = 16 := by simpa using hb
      have e := run_make (P := Try.prog) w 31 23 i _ keysUnder hq hzz .i64 .i64 M M (by omega) (by omega) (by rw [hby]; omega) (by omega)
      have hc : (Value.agg (cellsOf .u8 (mk 16 zeroK))).cells = cellsOf .u8 (mk 16 zeroK) := rfl
      rw [hsz, Int.toNat_natCast, made_zero hc (by omega)] at e
      unfold Oper.wp execOp
      simp only [ho]
      simp [hx, hy, e]
      exact hK _ _ h
/-- The first 4 k bytes of a row, noughts behind. -/
def rdTo (F : Nat → Nat) (k : Nat) : Nat → Nat := fun p => if p < 4 * k then F p else 0
theorem rdTo_zero (M : Nat) (F : Nat → Nat) : mk M (rdTo F 0) = mk M zeroK := mk_ext fun p _ => by unfold rdTo zeroK; rw [if_neg (by omega)]
theorem rdTo_step (M : Nat) (W : Nat → Nat → Nat) (k : Nat) : mk M (put (rdTo (flat W) k) (4 * k) 4 (W k)) = mk M (rdTo (flat W) (k + 1)) := mk_ext fun p _ => by
  unfold put rdTo
  by_cases h : 4 * k ≤ p ∧ p < 4 * k + 4
  · rw [if_pos h, if_pos (by omega)]
    have := flat_word W k (p - 4 * k) (by omega)
    rw [show 4 * k + (p - 4 * k) = p by omega] at this
    exact this.symm
  · rw [if_neg h]
    by_cases l : p < 4 * k
    · rw [if_pos l, if_pos (by omega)]
    · rw [if_neg l, if_neg (by omega)]
theorem rdTo_all {M k : Nat} (F : Nat → Nat) (h : M = 4 * k) : mk M (rdTo F k) = mk M F := mk_ext fun p hp => by unfold rdTo; rw [if_pos (by omega)]
theorem rdTo_steps {M k o : Nat} (W : Nat → Nat → Nat) (ho : o = 4 * k) : mk M (put (rdTo (flat W) k) o 4 (W k)) = mk M (rdTo (flat W) (k + 1)) := by subst ho; exact rdTo_step M W k
theorem keysAt_row {w : World} {B T : Nat} {t : TypeId} {F : Nat → Nat} (h : IntBlk w B .u8 t (mk (T * 16) F)) : KeysAt w (some ⟨B, 0, none⟩) T (fun i j => F (i * 16 + j)) := .inr ⟨B, 0, rfl, h.lt, fun i hi j hj => by
  have := h.cells (o := i * 16) (n := 16) (by omega) j hj
  rw [Nat.zero_add]; exact this⟩

set_option maxHeartbeats 1000000 in
theorem Rounds_bad (p : Option Addr) (n cap : Nat) (h16 : n ≠ 16) (h32 : n ≠ 32) (w : World) :
    Calls Try.prog 18 #[.slice p n cap] w fun e w' => e = .returned (.tuple #[.slice none 0 0, .iface 40 (.int .i64 3)]) ∧ w = w' := by
  have t1 : ((n : Int) != 16) = true := by simp; omega
  have t2 : ((n : Int) != 32) = true := by simp; omega
  go_enter Try.func18, Try.ntmps18
  go_wp2
  go_ret2
  exact ⟨rfl, rfl⟩
attribute [local irreducible] wdTo flat rdTo

set_option maxRecDepth 100000 in
set_option maxHeartbeats 4000000 in
theorem Rounds_ok (p : Option Addr) (n cap N : Nat) (g : Nat → Nat) (hn : n = 4 * N) (hN : N = 4 ∨ N = 8) (hcap : n ≤ cap) (hg : ∀ i, i < n → g i < 256) (w : World) (hp : BytesAt w p n g) :
    Calls Try.prog 18 #[.slice p n cap] w fun e w' => ∃ D, e = .returned (.tuple #[.slice (some ⟨D, 0, none⟩) (N + 7) (N + 7), .nilIface]) ∧ KeysAt w' (some ⟨D, 0, none⟩) (N + 7) (rkS N g) ∧ Below w.heap.size w w' := by
  have hrk : (fun i j => flat (wdTo N g (4 * N + 28)) (i * 16 + j)) = rkS N g := rfl
  obtain ⟨M, hM⟩ : ∃ M, M = 4 * N + 28 := ⟨_, rfl⟩
  obtain ⟨T, hT⟩ : ∃ T, T = N + 7 := ⟨_, rfl⟩
  rw [← hM] at hrk
  rw [← hT]
  have qT : (M : Int) / 4 = (T : Int) := by omega
  have hT1 : T ≤ 1000 := by omega
  have HN := Lib.hid (show M = 4 * T by omega)
  have H5 := Lib.hid (show M < 1000 by omega)
  have SC := Lib.hid (schedule_any p n cap N M g hn hN hM hcap hg w hp)
  have t0 : n = 16 ∨ n = 32 := by omega
  have HR := Lib.hid hrk
  clear hrk hM hT hn
  go_enter Try.func18, Try.ntmps18
  rcases t0 with rfl | rfl
  all_goals
    go_wp2_with fail
    refine SC.out.mono ?_
    rintro e w1 ⟨rfl, hd, hb⟩
    have hs1 : w.heap.size < w1.heap.size := hd.lt
    go_wp2_with (first
      | (refine wpList_make_keys rfl _ _ rfl T hT1 rfl rfl ?_)
      | fail)
    have h0 := hd.alloc (.cells (cellsOf .u8 (mk (T * 16) zeroK)) 23)
    have h1 := IntBlk.new w1 .u8 23 (mk (T * 16) zeroK)
    have h2 := hb.alloc (show w.heap.size ≤ w1.heap.size by omega) (.cells (cellsOf .u8 (mk (T * 16) zeroK)) 23)
    have H0 := Lib.hid h0
    have H1 := Lib.hid h1
    have H2 := Lib.hid h2
    clear h0 h1 h2 hd hb SC qT hp
    go_loopw [25] (fun v25 wr => ∃ i : Nat, i ≤ M ∧ v25 = .int .i64 i ∧ IntBlk wr w.heap.size .u8 26 (mk (M * 4) (flat (wdTo N g M))) ∧ IntBlk wr w1.heap.size .u8 23 (mk (T * 16) (rdTo (flat (wdTo N g M)) i)) ∧ Below w.heap.size w wr) (fun v25 _ => M - (intOf v25).toNat)
    case' atStart => exact ⟨0, by omega, rfl, H0.out, by rw [rdTo_zero]; exact H1.out, H2.out⟩
    case' round =>
      clear H0 H1 H2
      obtain ⟨i, hi, rfl, hd, hr, hw⟩ := hrel
      by_cases hlt : i < M
      · have t1 : decide ((i : Int) < (M : Int)) = true := by simp; omega
        have hs2 : w1.heap.size < wr.heap.size := hr.lt
        have CW := Lib.hid (flat_cells hd hlt)
        have D1 := Lib.hid ((hd.alloc (.cells (cellsOf .u8 (mk 4 zeroK)) 26)).otherRow (C := wr.heap.size) (by omega) (cellsOf .u8 (mk 4 (wdTo N g M i))))
        have R1 := Lib.hid ((hr.alloc (.cells (cellsOf .u8 (mk 4 zeroK)) 26)).otherRow (C := wr.heap.size) (by omega) (cellsOf .u8 (mk 4 (wdTo N g M i))))
        have N1 := Lib.hid (IntBlk.new wr .u8 26 (mk 4 zeroK))
        have W1 := Lib.hid ((IntBlk.new wr .u8 26 (mk 4 zeroK)).setRow .u8 (mk 4 (wdTo N g M i)))
        have L1 := Lib.hid (below_setRow (hw.alloc (by omega) (.cells (cellsOf .u8 (mk 4 zeroK)) 26)) (g := wr.heap.size) (by omega) (cellsOf .u8 (mk 4 (wdTo N g M i))))
        clear hd hr hw
        have hMT := HN.out
        have e1 : (i : Int) / 4 < T := by omega
        have e2 : (0 : Int) ≤ (i : Int) / 4 := by omega
        have e3 : IntKind.i64.wrap ((i : Int) / 4) = (i : Int) / 4 := IntWalk.i64_in _ (by omega)
        have e4 : (i : Int).tmod 4 = (i : Int) % 4 := IntWalk.rem_in _ _ (by omega)
        have e5 : IntKind.i64.wrap ((i : Int) % 4 * 4) = (i : Int) % 4 * 4 := IntWalk.i64_in _ (by omega)
        have e6 : (0 : Int) ≤ (i : Int) % 4 * 4 := by omega
        have e7 : (i : Int) % 4 * 4 ≤ 16 := by omega
        obtain ⟨s, hs⟩ : ∃ s, s = ((i : Int) % 4 * 4).toNat := ⟨_, rfl⟩
        have e8 : ((i : Int) % 4 * 4).toNat = s := hs.symm
        have e9 : ((i : Int) / 4).toNat * 16 + s = 4 * i := by omega
        have e10 : ¬ (16 = s) := by omega
        have e11 : 4 ≤ 16 - s := by omega
        have e12 : 4 * i + 4 ≤ T * 16 := by omega
        clear hMT hs
        go_wp2_with (first
          | (refine wpList_load_part rfl 26 _ rfl w.heap.size (i * 4) 4 (wdTo N g M i) rfl _ CW.out wordUnder rfl wordInfo1 ?_)
          | (refine store_row_on rfl 26 _ _ rfl rfl wr.heap.size (cellsOf .u8 (mk 4 (wdTo N g M i))) rfl rfl 26 (cellsOf .u8 (mk 4 zeroK)) N1.out (wordSize _) (by rw [cellsOf_size, cellsOf_size, mk_len, mk_len]) (cellsOf_one _ _) ?_)
          | fail)
        change Code.wp _ _ _ _ ((wr.alloc (.cells (cellsOf .u8 (mk 4 zeroK)) 26)).setRow wr.heap.size (cellsOf .u8 (mk 4 (wdTo N g M i))))
        have D2 := D1.out
        have R2 := R1.out
        have W2 := W1.out
        have L2 := L1.out
        clear D1 R1 W1 L1 N1 CW
        generalize (wr.alloc (.cells (cellsOf .u8 (mk 4 zeroK)) 26)).setRow wr.heap.size (cellsOf .u8 (mk 4 (wdTo N g M i))) = w2 at *
        have D1 := Lib.hid D2.drew
        have R1 := Lib.hid R2.drew
        have W1 := Lib.hid W2.drew
        have L1 := Lib.hid L2.drew
        clear D2 R2 W2 L2
        refine wp_region_still_tail 9 (by kernel_rfl) (by kernel_rfl) ?_
        simp only [List.take_succ_cons, List.take_zero, List.drop_succ_cons, List.drop_zero]
        change wpStill _ _ w2.drew (fun a' => wpList _ _ _ _ a' w2.drew) _ _
        iterate 9 still_step
        refine wpStill_nil ?_
        have CD : Cells w2.drew wr.heap.size 0 4 (wdTo N g M i) := by
          have := W1.out.cells (o := 0) (n := 4) (by omega)
          simpa using this
        refine wpList_copy_part rfl _ _ _ _ rfl 5 bytesUnder byteInfo w1.heap.size (4 * i) (16 - s) (16 - s) wr.heap.size 0 4 4 4 (T * 16) (rdTo (flat (wdTo N g M)) i) (wdTo N g M i) rfl rfl 23 R1.out e12 (Nat.min_eq_left e11).symm CD ?_
        have D3 := Lib.hid (D1.out.otherRow (C := w1.heap.size) (by omega) (cellsOf .u8 (mk (T * 16) (put (rdTo (flat (wdTo N g M)) i) (4 * i) 4 (wdTo N g M i)))))
        have R3 := Lib.hid (R1.out.setRow .u8 (mk (T * 16) (put (rdTo (flat (wdTo N g M)) i) (4 * i) 4 (wdTo N g M i))))
        have L3 := Lib.hid (below_setRow L1.out (g := w1.heap.size) (by omega) (cellsOf .u8 (mk (T * 16) (put (rdTo (flat (wdTo N g M)) i) (4 * i) 4 (wdTo N g M i)))))
        clear D1 R1 W1 L1 CD
        go_wp2
        go_roundw
        case' rel => exact ⟨i + 1, by omega, by go_num, D3.out, by rw [← rdTo_step]; exact R3.out, L3.out⟩
        case' measure => simp [intOf]; omega
      · obtain rfl : i = M := by omega
        have t1 : decide ((i : Int) < (i : Int)) = false := by simp
        have HD := Lib.hid hr
        have HW := Lib.hid hw
        clear hd hr hw
        go_wp2
        go_ret2
        refine ⟨w1.heap.size, rfl, ?_, HW.out⟩
        have h := HD.out
        rw [rdTo_all _ (show T * 16 = 4 * i by have := HN.out; omega)] at h
        have k := keysAt_row h
        rw [HR.out] at k; exact k
end Go.Proofs.Ytilfjmpoiiepkaa
