/- The contract of package cipher's schedule: it answers a slice of all words of a key, in memory of its own, and writes nothing that was there. Conditions: the key has four or eight words; its bytes are bytes. -/
import Derived.Test.YtilfjmpoiiepkaaTurnC
import Derived.Test.YtilfjmpoiiepkaaDecC
import Derived.Test.YtilfjmpoiiepkaaOpenS
import Derived.Laws.MakeOwn
namespace Go.Proofs.Ytilfjmpoiiepkaa
open Go.ChangeShapes Go.WideShapes Go.ChangeAt Go.RowKit

theorem made_zero {z : Array Value} {sz : Nat} (hz : z = cellsOf .u8 (mk sz zeroK)) (hs : 0 < sz) (n : Nat) : madeCells z n = cellsOf .u8 (mk n zeroK) := by
  subst hz
  apply Array.ext
  · rw [size_madeCells, cellsOf_size, mk_len]
  · intro i h1 h2
    have hi : i < n := by rw [size_madeCells] at h1; exact h1
    have hsz : (cellsOf .u8 (mk sz zeroK)).size = sz := by rw [cellsOf_size, mk_len]
    have hm : i % sz < sz := Nat.mod_lt _ hs
    have e2 := cellsOf_get .u8 (mk n zeroK) (i := i) (by rw [mk_len]; exact hi)
    rw [mk_get hi, Array.getElem?_eq_getElem h2] at e2
    have e1 := cellsOf_get .u8 (mk sz zeroK) (i := i % sz) (by rw [mk_len]; exact hm)
    rw [mk_get hm] at e1
    have e3 : (madeCells (cellsOf .u8 (mk sz zeroK)) n)[i] = (cellsOf .u8 (mk sz zeroK))[i % sz]! := by
      simp only [madeCells, Array.getElem_map, Array.getElem_range, hsz]
    rw [e3, Array.getElem!_eq_getD, Array.getD_eq_getD_getElem?, e1]
    simp only [Option.some.injEq] at e2
    rw [e2]; rfl
theorem wordsUnder : Try.prog.underlying 60 = some (.slice 26) := Try.underlying60
theorem wordInfo1 : (Try.prog.info? 26).map (·.size) = some 4 := by kernel_rfl
theorem wordZero1 : (Try.prog.info? 26).bind (·.zero) = some (.agg (cellsOf .u8 (mk 4 zeroK))) := by kernel_rfl
theorem wordBytes : (Try.prog.info? 26).map (·.bytes) = some 4 := by kernel_rfl
theorem wpList_make_words {ops : Array Oper} {rest : List Oper} {o : Oper} {a : Act} {w : World} {Q : Exit → Act → World → Prop} (hgd : o.guard = none) (x y : Operand) (ho : o.op = .makeSlice 60 x y) (M : Nat) (hM : M ≤ 1000) (hx : a.eval x = .int .i64 M) (hy : a.eval y = .int .i64 M)
    (h : wpList Try.prog ops Q rest (a.put o.dst (.slice (some ⟨w.heap.size, 0, none⟩) M M)) (w.alloc (.cells (cellsOf .u8 (mk (M * 4) zeroK)) 26))) : wpList Try.prog ops Q (o :: rest) a w :=
  wpList_plain hgd fun _ hK => by
    have hi := wordInfo1
    have hz := wordZero1
    have hb := wordBytes
    cases hq : Try.prog.info? 26 with
    | none => rw [hq] at hi; simp at hi
    | some i =>
      rw [hq] at hi hz hb
      have hsz : i.size = 4 := by simpa using hi
      have hzz : i.zero = some (.agg (cellsOf .u8 (mk 4 zeroK))) := by simpa using hz
      have hby : i.bytes = 4 := by simpa using hb
      have e := run_make (P := Try.prog) w 60 26 i _ wordsUnder hq hzz .i64 .i64 M M (by omega) (by omega) (by rw [hby]; omega) (by omega)
      have hc : (Value.agg (cellsOf .u8 (mk 4 zeroK))).cells = cellsOf .u8 (mk 4 zeroK) := rfl
      rw [hsz, Int.toNat_natCast, made_zero hc (by omega)] at e
      unfold Oper.wp execOp
      simp only [ho]
      simp [hx, hy, e]
      exact hK _ _ h
theorem flat_steps (M N : Nat) (g : Nat → Nat) (k : Nat) : mk M (put (flat (wdTo N g k)) (k * 4) 4 (newW N g (wdTo N g k) k)) = mk M (flat (wdTo N g (k + 1))) := by rw [Nat.mul_comm k 4]; exact flat_step M N g k
theorem flat_cells {w : World} {B M : Nat} {t : TypeId} {W : Nat → Nat → Nat} (h : IntBlk w B .u8 t (mk (M * 4) (flat W))) {a : Nat} (ha : a < M) : Cells w B (a * 4) 4 (W a) := fun j hj => by
  have := h.cells (o := a * 4) (n := 4) (by omega) j hj
  rw [this]
  show some (Value.int .u8 (flat W (a * 4 + j) : Nat)) = _
  rw [Nat.mul_comm a 4, flat_word W a j hj]
theorem quiet_int_sub {o : Oper} {a : Act} {C : World → Prop} {K : Act → Prop} (x y : Operand) (ho : o.op = .binOp .sub 3 x y 3) (i j r : Int) (hx : a.eval x = .int .i64 i) (hy : a.eval y = .int .i64 j)
    (h : IntKind.i64.wrap (i - j) = r) (hk : K (a.put o.dst (.int .i64 r))) : o.quiet Try.prog a C K := by
  refine quiet_value _ (fun w _ => ?_) hk
  unfold execOp
  simp only [ho, hx, hy]
  simp [go_sem, h]
theorem quiet_turn {o : Oper} {a : Act} {C : World → Prop} {K : Act → Prop} (x y z u : Operand) (ts : Array TypeId) (ho : o.op = .call { callee := .value x, args := #[y, z, u], argTypes := ts }) (hx : a.eval x = .func (.func 48) #[] #[])
    (f : Nat → Nat) (hy : a.eval y = .agg (cellsOf .u8 (mk 4 f))) (i j : Int) (hz : a.eval z = .int .i64 i) (hu : a.eval u = .int .i64 j) (r : Nat → Nat)
    (hc : ∀ w, C w → Calls Try.prog 48 #[.agg (cellsOf .u8 (mk 4 f)), .int .i64 i, .int .i64 j] w fun e w' => e = .returned (.agg (cellsOf .u8 (mk 4 r))) ∧ C w') (hk : K (a.put o.dst (.agg (cellsOf .u8 (mk 4 r))))) : o.quiet Try.prog a C K :=
  quiet_calls x #[y, z, u] ts ho 48 _ _ hx (by simp only [List.map_toArray, List.map_cons, List.map_nil, hy, hz, hu]) (fun w => by simp [go_sem]) hc hk
attribute [local irreducible] wdTo newW tnK flat xorK

set_option maxRecDepth 100000 in
set_option maxHeartbeats 4000000 in
theorem schedule_any (p : Option Addr) (n cap N M : Nat) (g : Nat → Nat) (hn : n = 4 * N) (hN : N = 4 ∨ N = 8) (hM : M = 4 * N + 28) (hcap : n ≤ cap) (hg : ∀ i, i < n → g i < 256) (w : World) (hp : BytesAt w p n g) :
    Calls Try.prog 34 #[.slice p n cap] w fun e w' => e = .returned (.slice (some ⟨w.heap.size, 0, none⟩) M M) ∧ IntBlk w' w.heap.size .u8 26 (mk (M * 4) (flat (wdTo N g M))) ∧ Below w.heap.size w w' := by
  have hgw : ∀ i, i < 4 * N → g i < 256 := fun i hi => hg i (by omega)
  have q4 : (n : Int) / 4 = (N : Int) := by omega
  have qM : 4 * (N : Int) + 28 = (M : Int) := by omega
  have hN8 : N ≤ 8 := by omega
  have hN0 : 0 < N := by omega
  have hM1 : M ≤ 1000 := by omega
  rcases hp with hp | ⟨KB, ko, rfl, hKB, hc⟩
  · omega
  have HN := Lib.hid (And.intro hn hM)
  clear hn hM
  go_enter Try.func34, Try.ntmps34
  go_wp2_with (first
    | (refine wpList_make_words rfl _ _ rfl M hM1 rfl rfl ?_)
    | fail)
  clear q4 qM
  go_loopw [15] (fun v15 wr => ∃ k : Nat, k ≤ M ∧ v15 = .int .i64 k ∧ IntBlk wr w.heap.size .u8 26 (mk (M * 4) (flat (wdTo N g k))) ∧ Below w.heap.size w wr) (fun v15 _ => M - (intOf v15).toNat)
  case atStart => exact ⟨0, by omega, rfl, by unfold wdTo flat; exact IntBlk.new w .u8 26 (mk (M * 4) zeroK), (Below.refl _ _).alloc (Nat.le_refl _) _⟩
  case round =>
    obtain ⟨k, hk, rfl, hd, hw⟩ := hrel
    have HD := Lib.hid hd
    have HW := Lib.hid hw
    by_cases hlt : k < M
    · have t1 : decide ((k : Int) < (M : Int)) = true := by simp; omega
      by_cases hkN : k < N
      · have t2 : decide ((k : Int) < (N : Int)) = true := by simp; omega
        have hn := HN.out.1
        have hb4 : 4 * k + 4 ≤ n := by omega
        have hne : ¬ (cap = 4 * k) := by omega
        have hfit : 4 * k + 4 ≤ M * 4 := by omega
        have CK : Cells wr KB (ko + 4 * k) 4 (fun j => g (4 * k + j)) := fun j hj => by
          have := (hc.below hw hKB) (4 * k + j) (by omega)
          rw [show ko + 4 * k + j = ko + (4 * k + j) by omega]; exact this
        have HV := Lib.hid (newW_key g (wdTo N g k) hkN)
        have CC := Lib.hid CK
        clear hd hw hn CK
        have e1 : (k : Int) < M := by omega
        have e2 : (0 : Int) ≤ k := by omega
        have e3 : IntKind.i64.wrap (4 * (k : Int)) = 4 * (k : Int) := IntWalk.i64_in _ (by omega)
        have e4 : (0 : Int) ≤ 4 * (k : Int) := by omega
        have e5 : 4 * (k : Int) ≤ n := by omega
        have e6 : (4 * (k : Int)).toNat = 4 * k := by omega
        go_wp2
        refine wp_region_still_tail 8 (by kernel_rfl) (by kernel_rfl) ?_
        simp only [List.take_succ_cons, List.take_zero, List.drop_succ_cons, List.drop_zero]
        change wpStill _ _ wr.drew (fun a' => wpList _ _ _ _ a' wr.drew) _ _
        iterate 8 still_step
        refine wpStill_nil ?_
        refine wpList_copy_part rfl _ _ _ _ rfl 5 bytesUnder byteInfo w.heap.size (k * 4) 4 4 KB (ko + 4 * k) (n - 4 * k) (cap - 4 * k) 4 (M * 4) (flat (wdTo N g k)) (fun j => g (4 * k + j)) rfl rfl 26 HD.out.drew (by omega) (Nat.min_eq_right (by omega)).symm CC.out ?_
        have HD2 := Lib.hid (HD.out.drew.setRow .u8 (mk (M * 4) (put (flat (wdTo N g k)) (k * 4) 4 (fun j => g (4 * k + j)))))
        have HW2 := Lib.hid (below_setRow HW.out.drew (g := w.heap.size) (Nat.le_refl _) (cellsOf .u8 (mk (M * 4) (put (flat (wdTo N g k)) (k * 4) 4 (fun j => g (4 * k + j))))))
        clear HD HW CC
        go_wp2
        go_roundw
        case rel => exact ⟨k + 1, by omega, by go_num, by rw [← flat_steps, HV.out]; exact HD2.out, HW2.out⟩
        case measure => simp [intOf]; omega
      · have t2 : decide ((k : Int) < (N : Int)) = false := by simp; omega
        obtain ⟨a, hna⟩ : ∃ a, a = k - N := ⟨_, rfl⟩
        obtain ⟨b, hnb⟩ : ∃ b, b = k - 1 := ⟨_, rfl⟩
        have s1 : IntKind.i64.wrap ((k : Int) - N) = (a : Int) := by rw [IntWalk.i64_in _ (by omega)]; omega
        have s2 : IntKind.i64.wrap ((k : Int) - 1) = (b : Int) := by rw [IntWalk.i64_in _ (by omega)]; omega
        have haM : a < M := by omega
        have hbM : b < M := by omega
        have ka := wdTo_word hgw k a
        have kb := wdTo_word hgw k b
        have kt := tnK_word N k kb
        have CA := Lib.hid (fun (w' : World) (h : Below wr.heap.size wr w') => flat_cells (hd.below h hd.lt) haM)
        have CB := Lib.hid (fun (w' : World) (h : Below wr.heap.size wr w') => flat_cells (hd.below h hd.lt) hbM)
        have DC := Lib.hid (fun (w' : World) (h : Below wr.heap.size wr w') => hd.below h hd.lt)
        have LC := Lib.hid (fun (w' : World) (h : Below wr.heap.size wr w') => hw.trans (h.mono hw.size))
        have HV := Lib.hid (show newW N g (wdTo N g k) k = xorK (wdTo N g k a) (tnK N k (wdTo N g k b)) by rw [newW_more g (wdTo N g k) hkN, hna, hnb])
        clear hd hw HD HW hna hnb
        go_wp2
        refine wp_region_class_tail 18 (fun w' => Below wr.heap.size wr w') (by kernel_rfl) (by kernel_rfl) ((Below.refl _ _).drew) ?_
        simp only [List.take_succ_cons, List.take_zero, List.drop_succ_cons, List.drop_zero]
        iterate 18 (first
          | go_big_quiet_skip
          | (go_big_quiet_want
             first
               | (go_big_quiet_op; go_big_quiet_on)
               | ((first
                   | (refine quiet_int_sub _ _ rfl (k : Int) (N : Int) (a : Int) rfl rfl s1 ?_)
                   | (refine quiet_int_sub _ _ rfl (k : Int) 1 (b : Int) rfl rfl s2 ?_)
                   | (refine quiet_elem 60 26 4 _ _ rfl wordsUnder wordInfo1 w.heap.size 0 M M a rfl rfl haM ?_)
                   | (refine quiet_elem 60 26 4 _ _ rfl wordsUnder wordInfo1 w.heap.size 0 M M b rfl rfl hbM ?_)
                   | (refine quiet_elem 60 26 4 _ _ rfl wordsUnder wordInfo1 w.heap.size 0 M M k rfl rfl hlt ?_)
                   | (refine quiet_load_part 26 _ rfl w.heap.size (a * 4) 4 (wdTo N g k a) rfl _ CA.out wordUnder rfl wordInfo1 ?_)
                   | (refine quiet_load_part 26 _ rfl w.heap.size (b * 4) 4 (wdTo N g k b) rfl _ CB.out wordUnder rfl wordInfo1 ?_)
                   | (refine quiet_turn _ _ _ _ _ rfl rfl (wdTo N g k b) rfl (k : Int) (N : Int) rfl rfl (tnK N k (wdTo N g k b)) (class_of (turn_any _ kb k N hN0 (by omega) (by omega))) ?_)
                   | (refine quiet_words _ _ _ _ rfl 47 rfl (wdTo N g k a) rfl (tnK N k (wdTo N g k b)) rfl _ call_add (class_of (add_any _ _ ka kt)) ?_)); go_simp; go_big_quiet_on)))
        refine wpQuiet_nil ?_
        intro w1 hw1
        have B1 := Lib.hid (DC.out _ hw1)
        have L1 := Lib.hid (LC.out _ hw1)
        clear hw1 CA CB DC LC
        refine wpList_store_part rfl 26 _ _ rfl rfl w.heap.size (k * 4) 4 (M * 4) (flat (wdTo N g k)) (xorK (wdTo N g k a) (tnK N k (wdTo N g k b))) rfl rfl 26 B1.out (by omega) wordInfo1 ?_
        have HD2 := Lib.hid (B1.out.setRow .u8 (mk (M * 4) (put (flat (wdTo N g k)) (k * 4) 4 (xorK (wdTo N g k a) (tnK N k (wdTo N g k b))))))
        have HW2 := Lib.hid (below_setRow L1.out (g := w.heap.size) (Nat.le_refl _) (cellsOf .u8 (mk (M * 4) (put (flat (wdTo N g k)) (k * 4) 4 (xorK (wdTo N g k a) (tnK N k (wdTo N g k b)))))))
        clear B1 L1
        go_wp2
        go_roundw
        case rel => exact ⟨k + 1, by omega, by go_num, by rw [← flat_steps, HV.out]; exact HD2.out, HW2.out⟩
        case measure => simp [intOf]; omega
    · obtain rfl : k = M := by omega
      have t1 : decide ((k : Int) < (k : Int)) = false := by simp
      clear hd hw
      go_wp2
      go_ret
      exact ⟨rfl, HD.out, HW.out⟩
end Go.Proofs.Ytilfjmpoiiepkaa
