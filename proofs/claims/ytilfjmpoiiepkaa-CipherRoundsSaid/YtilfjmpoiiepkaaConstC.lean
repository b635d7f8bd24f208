/- The contract of package sbox's Constant: the word whose first byte is a power of 2, if there is such a round, else noughts; and it writes nothing that was there. Condition: the argument is an int. -/
import Derived.Test.YtilfjmpoiiepkaaLoopS
import Derived.Test.YtilfjmpoiiepkaaWordS
import Derived.Test.YtilfjmpoiiepkaaQuietS
namespace Go.Proofs.Ytilfjmpoiiepkaa
open Go.ChangeShapes Go.WideShapes Go.ChangeAt Go.RowKit Go.Shelf
attribute [local go_sem] Oper.semAt_some

theorem keeps_below {W W' : World} (h : Below W.heap.size W W') : KeepsOthers W W' :=
  ⟨h.size, fun k _ hk _ => (h.block k (Array.getElem?_eq_some_iff.1 hk).1).trans hk⟩
/-- A round's constant's first byte. -/
def conI (i : Int) : Int := if 1 ≤ i ∧ i ≤ 60 then powI 2 (i.toNat - 1) else 0
def conN (i : Int) : Nat := (conI i).toNat
theorem conI_bd (i : Int) : 0 ≤ conI i ∧ conI i ≤ 255 := by
  unfold conI; split
  · exact powI_bd _
  · omega
theorem conN_is (i : Int) : ((conN i : Nat) : Int) = conI i := Int.toNat_of_nonneg (conI_bd i).1
theorem conI_in {i : Int} {M : Nat} (h : i = (M : Int)) (h1 : 1 ≤ M) (h2 : M ≤ 60) : conI i = powI 2 (M - 1) := by
  subst h; unfold conI; rw [if_pos (by omega)]; rfl
theorem oneK_set {v : Int} {n : Nat} (hv : v = (n : Int)) : (mk 4 zeroK).set 0 v = mk 4 (oneK n) := mk_set_is hv fun _ _ => rfl

set_option maxRecDepth 100000 in
set_option maxHeartbeats 1000000 in
theorem Constant_out (i : Int) (h : i < 1 ∨ 60 < i) (w : World) :
    Calls Try.prog 55 #[.int .i64 i] w fun e w' => e = .returned (.agg (cellsOf .u8 (mk 4 (oneK (conN i))))) ∧ Below w.heap.size w w' := by
  have hc : mk 4 (oneK (conN i)) = mk 4 zeroK := mk_ext fun j _ => by
    have : conN i = 0 := by unfold conN conI; rw [if_neg (by omega)]; rfl
    unfold oneK zeroK; rw [this]; split <;> rfl
  have HC := Lib.hid hc; clear hc
  have HZ := Lib.hid (blk_third w .u8 26 (mk 4 zeroK) (.cells #[.int .i64 i] 3) (.cells (cellsOf .u8 (mk 4 zeroK)) 26))
  have HD := Lib.hid (blk_second w .u8 26 (mk 4 zeroK) (.cells #[.int .i64 i] 3) (.cells (cellsOf .u8 (mk 4 zeroK)) 26))
  have HB := Lib.hid (below_three w (.cells #[.int .i64 i] 3) (.cells (cellsOf .u8 (mk 4 zeroK)) 26) (.cells (cellsOf .u8 (mk 4 zeroK)) 26))
  by_cases h1 : i < 1
  · have hd : decide (i < 1) = true := by simpa using h1
    go_enter Try.func55, Try.ntmps55
    go_wp2_with (first
      | (refine wpList_load_row rfl 26 _ rfl (w.heap.size + 1 + 1) rfl 26 (cellsOf .u8 (mk 4 zeroK)) (0, 0) _ HZ.out wordUnder rfl (wordSize _) ?_)
      | (refine wpList_store_row rfl 26 _ _ rfl (w.heap.size + 1) _ rfl rfl 26 (cellsOf .u8 (mk 4 zeroK)) HD.out (wordSize _) rfl (cellsOf_one _ _) ?_))
    rw [HC.out]
    refine bodyPost_ret (results_cell_row rfl _ _ (w.heap.size + 1) 26 (cellsOf .u8 (mk 4 zeroK)) (0, 0) _ rfl (HD.out.setRow .u8 (mk 4 zeroK)) wordUnder rfl (wordSize _)) rfl ⟨rfl, below_setRow HB.out (by omega) _⟩
  · have h2 : 60 < i := by omega
    have hd : decide (i < 1) = false := by simpa using h1
    have hd2 : decide (60 < i) = true := by simpa using h2
    go_enter Try.func55, Try.ntmps55
    go_wp2_with (first
      | (refine wpList_load_row rfl 26 _ rfl (w.heap.size + 1 + 1) rfl 26 (cellsOf .u8 (mk 4 zeroK)) (0, 0) _ HZ.out wordUnder rfl (wordSize _) ?_)
      | (refine wpList_store_row rfl 26 _ _ rfl (w.heap.size + 1) _ rfl rfl 26 (cellsOf .u8 (mk 4 zeroK)) HD.out (wordSize _) rfl (cellsOf_one _ _) ?_))
    rw [HC.out]
    refine bodyPost_ret (results_cell_row rfl _ _ (w.heap.size + 1) 26 (cellsOf .u8 (mk 4 zeroK)) (0, 0) _ rfl (HD.out.setRow .u8 (mk 4 zeroK)) wordUnder rfl (wordSize _)) rfl ⟨rfl, below_setRow HB.out (by omega) _⟩

theorem below_cell {M B : Nat} {a w : World} (h : Below M a w) (hB : M ≤ B) (i : Nat) (v : Value) : Below M a (w.setCell ⟨B, i, none⟩ v) := h.setCell hB v
/-- Between two rounds: k of them are over, of M. -/
def CnI (w : World) (M k : Nat) (W : World) : Prop :=
  k < M ∧ IntBlk W w.heap.size .i64 3 [(M : Int)] ∧ IntBlk W (w.heap.size + 1) .u8 26 (mk 4 zeroK) ∧ IntBlk W (w.heap.size + 1 + 1) .u8 26 (mk 4 zeroK) ∧ IntBlk W (w.heap.size + 1 + 1 + 1) .i64 3 [(k : Int) + 1] ∧ IntBlk W (w.heap.size + 1 + 1 + 1 + 1) .u8 5 [2] ∧ Below w.heap.size w W
/-- Behind the last one. -/
def CnX (w : World) (M : Nat) (c : Code) (W : World) : Prop := c = .exit 0 ∧ IntBlk W (w.heap.size + 1) .u8 26 (mk 4 zeroK) ∧ IntBlk W (w.heap.size + 1 + 1) .u8 26 (mk 4 (oneK (powI 2 (M - 1)).toNat)) ∧ Below w.heap.size w W
theorem CnI.turn {w W : World} {M k l : Nat} {o o' : Obj} (h : CnI w M k W) (hl : w.heap.size ≤ l) (ho : W.heap[l]? = some o) (hc : o.isCells = false) : CnI w M k (W.putObj l o') := by
  obtain ⟨h1, h2, h3, h4, h5, h6, h7⟩ := h
  exact ⟨h1, cells_turn h2 ho hc, cells_turn h3 ho hc, cells_turn h4 ho hc, cells_turn h5 ho hc, cells_turn h6 ho hc, below_turn _ h7 hl⟩
theorem CnX.turn {w W : World} {M : Nat} {c : Code} {l : Nat} {o o' : Obj} (h : CnX w M c W) (hl : w.heap.size ≤ l) (ho : W.heap[l]? = some o) (hc : o.isCells = false) : CnX w M c (W.putObj l o') :=
  ⟨h.1, cells_turn h.2.1 ho hc, cells_turn h.2.2.1 ho hc, below_turn _ h.2.2.2 hl⟩
theorem CnI.box {w W : World} {M k : Nat} (h : CnI w M k W) : W.cell? ⟨w.heap.size + 1 + 1 + 1 + 1, 0, none⟩ = some (.int .u8 2) := h.2.2.2.2.2.1.cell (i := 0) (by simp)

set_option maxRecDepth 100000 in
set_option maxHeartbeats 2000000 in
theorem Constant_in (M : Nat) (h1 : 1 ≤ M) (h2 : M ≤ 60) (w : World) :
    Calls Try.prog 55 #[.int .i64 M] w fun e w' => e = .returned (.agg (cellsOf .u8 (mk 4 (oneK (conN M))))) ∧ Below w.heap.size w w' := by
  have hc : conN M = (powI 2 (M - 1)).toNat := by unfold conN; rw [conI_in rfl h1 h2]
  have hd1 : decide ((M : Int) < 1) = false := by simp; omega
  have hd2 : decide (60 < (M : Int)) = false := by simp; omega
  rw [hc]; clear hc
  refine (callsIn_wide (n := 3)).1 ?_
  refine callsIn_of_wp_marks Try.func55 rfl trivial ?_ rfl
  simp only [Try.ntmps55, List.size_toArray, List.length_cons, List.length_nil, Nat.reduceAdd, Nat.reduceSub, Array.replicate_succ, Array.replicate_zero, List.push_toArray, List.append_toArray, List.nil_append, List.cons_append]
  gi_wp2
  refine ⟨trivial, (callsIn_wide.2 (Powers_any 2 _)).mono ?_⟩
  rintro e w2 ⟨rfl, rfl⟩
  gi_wp2
  have hs : (((((w.alloc (.cells #[.int .i64 M] 3)).alloc (.cells (cellsOf .u8 (mk 4 zeroK)) 26)).alloc (.cells (cellsOf .u8 (mk 4 zeroK)) 26)).alloc (.cells #[.int .i64 1] 3)).alloc (.cells #[.int .u8 2] 5)).heap.size = w.heap.size + 5 := by simp
  have BI : ∀ o o', CnI w M 0 (((((((w.alloc (.cells #[.int .i64 M] 3)).alloc (.cells (cellsOf .u8 (mk 4 zeroK)) 26)).alloc (.cells (cellsOf .u8 (mk 4 zeroK)) 26)).alloc (.cells #[.int .i64 1] 3)).alloc (.cells #[.int .u8 2] 5)).alloc o).alloc o') := fun o o' =>
    ⟨by omega, ((((((IntBlk.new w .i64 3 [(M : Int)]).alloc _).alloc _).alloc _).alloc _).alloc _).alloc _, (((((blk_two w .u8 26 (mk 4 zeroK) _).alloc _).alloc _).alloc _).alloc _).alloc _,
      ((((blk_third w .u8 26 (mk 4 zeroK) _ _).alloc _).alloc _).alloc _).alloc _, (((blk_fourth w .i64 3 [1] _ _ _).alloc _).alloc _).alloc _, ((blk_fifth w .u8 5 [2] _ _ _ _).alloc _).alloc _,
      (((below_four w _ _ _ _).alloc (by simp; omega) _).alloc (by simp; omega) _).alloc (by simp; omega) _⟩
  change Code.wpIn _ _ _ _ _ _ (((((w.alloc (.cells #[.int .i64 M] 3)).alloc (.cells (cellsOf .u8 (mk 4 zeroK)) 26)).alloc (.cells (cellsOf .u8 (mk 4 zeroK)) 26)).alloc (.cells #[.int .i64 1] 3)).alloc (.cells #[.int .u8 2] 5))
  generalize ((((w.alloc (.cells #[.int .i64 M] 3)).alloc (.cells (cellsOf .u8 (mk 4 zeroK)) 26)).alloc (.cells (cellsOf .u8 (mk 4 zeroK)) 26)).alloc (.cells #[.int .i64 1] 3)).alloc (.cells #[.int .u8 2] 5) = W0 at *
  have HI := Lib.hid BI
  clear BI
  refine range_told rfl (by omega) (gf := 61) (lb := #[.pointer (some ⟨w.heap.size + 1 + 1 + 1 + 1, 0, none⟩)]) rfl trivial (enters_of Try.func61 (by kernel_rfl) rfl)
    (fun k => #[.int .u8 (powI 2 k)]) (fun _ => rfl) (CnI w M) (CnX w M) (fun k W l o o' hl ho hc h => h.turn (by omega) ho hc) (fun c W l o o' hl ho hc h => h.turn (by omega) ho hc) HI.out
    (powers_told _ (w.heap.size + 1 + 1 + 1 + 1) M 2 (by omega) (by omega) (CnI w M) (fun k W h => Nat.le_of_lt h.1) (fun k W h => h.box))
    (fun k => { tmps := #[.int .i64 M, .pointer (some ⟨w.heap.size, 0, none⟩), .pointer (some ⟨w.heap.size + 1, 0, none⟩), .pointer (some ⟨w.heap.size + 1 + 1, 0, none⟩), .pointer (some ⟨w.heap.size + 1 + 1 + 1, 0, none⟩), .int .u8 (powI 2 k), .int .i64 M, .bool false, .bool false, .int .i64 M, .bool false, .bool false, undef,
      .func (.func 61) #[] #[.pointer (some ⟨w.heap.size + 1 + 1 + 1 + 1, 0, none⟩)], .int .u8 (powI 2 k), undef, undef, undef, undef, undef, undef, undef, undef], defers := [] }) ?assign ?body ?stop
  case assign =>
    intro l k W K hi hK
    clear HI
    gi_wp2
    exact hK
  case stop =>
    rintro D c W hD ⟨rfl, hr, hk, hw⟩ hd
    clear HI
    have r0 := hr.free 0
    have r1 := hr.free 1
    have r2 := hr.free 2
    have r3 := hr.free 3
    have z0 := hr.cell (i := 0) (by rw [mk_len]; omega)
    have z1 := hr.cell (i := 1) (by rw [mk_len]; omega)
    have z2 := hr.cell (i := 2) (by rw [mk_len]; omega)
    have z3 := hr.cell (i := 3) (by rw [mk_len]; omega)
    have k0 := hk.cell (i := 0) (by rw [mk_len]; omega)
    have k1 := hk.cell (i := 1) (by rw [mk_len]; omega)
    have k2 := hk.cell (i := 2) (by rw [mk_len]; omega)
    have k3 := hk.cell (i := 3) (by rw [mk_len]; omega)
    rw [mk_get (by omega)] at k0 k1 k2 k3
    have HR := Lib.hid hr
    have HW := Lib.hid hw
    have HD := Lib.hid hd
    clear hr hk hw hd
    gi_wp2
    have hl : ((((mk 4 zeroK).set 0 (oneK (powI 2 (M - 1)).toNat 0 : Nat)).set 1 (oneK (powI 2 (M - 1)).toNat 1 : Nat)).set 2 (oneK (powI 2 (M - 1)).toNat 2 : Nat)).set 3 (oneK (powI 2 (M - 1)).toNat 3 : Nat) = mk 4 (oneK (powI 2 (M - 1)).toNat) := rfl
    have HB := (((HR.out.set 0 (oneK (powI 2 (M - 1)).toNat 0 : Nat)).set 1 (oneK (powI 2 (M - 1)).toNat 1 : Nat)).set 2 (oneK (powI 2 (M - 1)).toNat 2 : Nat)).set 3 (oneK (powI 2 (M - 1)).toNat 3 : Nat)
    rw [hl] at HB
    have sb : w.heap.size ≤ w.heap.size + 1 := by omega
    have HE := below_cell (below_cell (below_cell (below_cell HW.out sb 0 (.int .u8 (oneK (powI 2 (M - 1)).toNat 0 : Nat))) sb 1 (.int .u8 (oneK (powI 2 (M - 1)).toNat 1 : Nat))) sb 2 (.int .u8 (oneK (powI 2 (M - 1)).toNat 2 : Nat))) sb 3 (.int .u8 (oneK (powI 2 (M - 1)).toNat 3 : Nat))
    have ne : D ≠ w.heap.size + 1 := by omega
    have HF := (Below.heap_setCell (((W.setCell ⟨w.heap.size + 1, 0, none⟩ (.int .u8 (oneK (powI 2 (M - 1)).toNat 0 : Nat))).setCell ⟨w.heap.size + 1, 1, none⟩ (.int .u8 (oneK (powI 2 (M - 1)).toNat 1 : Nat))).setCell ⟨w.heap.size + 1, 2, none⟩ (.int .u8 (oneK (powI 2 (M - 1)).toNat 2 : Nat))) ⟨w.heap.size + 1, 3, none⟩ (.int .u8 (oneK (powI 2 (M - 1)).toNat 3 : Nat)) D ne).trans ((Below.heap_setCell _ ⟨w.heap.size + 1, 2, none⟩ _ D ne).trans ((Below.heap_setCell _ ⟨w.heap.size + 1, 1, none⟩ _ D ne).trans ((Below.heap_setCell _ ⟨w.heap.size + 1, 0, none⟩ _ D ne).trans HD.out)))
    clear HR HW HD hl r0 r1 r2 r3 z0 z1 z2 z3 k0 k1 k2 k3
    generalize (((W.setCell ⟨w.heap.size + 1, 0, none⟩ (.int .u8 (oneK (powI 2 (M - 1)).toNat 0 : Nat))).setCell ⟨w.heap.size + 1, 1, none⟩ (.int .u8 (oneK (powI 2 (M - 1)).toNat 1 : Nat))).setCell ⟨w.heap.size + 1, 2, none⟩ (.int .u8 (oneK (powI 2 (M - 1)).toNat 2 : Nat))).setCell ⟨w.heap.size + 1, 3, none⟩ (.int .u8 (oneK (powI 2 (M - 1)).toNat 3 : Nat)) = V at *
    refine ⟨by simp, .inl ⟨_, _, rfl, run_takeDeferred HF, ?_⟩⟩
    have HG := cells_turn (o' := .deferred none) HB HF rfl
    exact ⟨_, results_cell_row rfl _ _ (w.heap.size + 1) 26 (cellsOf .u8 (mk 4 (oneK (powI 2 (M - 1)).toNat))) (0, 0) _ rfl HG wordUnder rfl (wordSize _), rfl, below_turn _ HE (by omega)⟩
  case body =>
    intro l k W l1 l2 h
    clear HI
    obtain ⟨hi, hb0, hr, hk, hn, hx, hw⟩ := h
    have c0 : W.cell? ⟨w.heap.size, 0, none⟩ = some (.int .i64 M) := hb0.cell (i := 0) (by simp)
    have cn : W.cell? ⟨w.heap.size + 1 + 1 + 1, 0, none⟩ = some (.int .i64 ((k : Int) + 1)) := hn.cell (i := 0) (by simp)
    have fn := hn.free 0
    have ck := hk.cell (i := 0) (by rw [mk_len]; omega)
    rw [mk_get (by omega)] at ck
    have fk := hk.free 0
    have H0 := Lib.hid hb0
    have HR := Lib.hid hr
    have HK := Lib.hid hk
    have HN := Lib.hid hn
    have HX := Lib.hid hx
    have HW := Lib.hid hw
    clear hb0 hr hk hn hx hw
    by_cases hl : k + 1 = M
    · have t1 : ((k : Int) + 1 == (M : Int)) = true := by simp; omega
      have hv := oneK_set (v := powI 2 k) (n := (powI 2 (M - 1)).toNat) (by rw [show M - 1 = k by omega]; have := (powI_bd (b := 2) k).1; omega)
      have HV := Lib.hid hv
      clear hv hl
      gi_wp2
      exact ⟨KeepsOthers.setCell _ _ _, rfl, HR.out.other (by show w.heap.size + 1 + 1 ≠ w.heap.size + 1; omega) _, by rw [← HV.out]; exact HK.out.set 0 _, HW.out.setCell (by show w.heap.size ≤ w.heap.size + 1 + 1; omega) _⟩
    · have t1 : ((k : Int) + 1 == (M : Int)) = false := by simp; omega
      have hlt : k + 1 < M := by omega
      have e1 : IntKind.i64.wrap ((k : Int) + 1 + 1) = (k : Int) + 1 + 1 := IntWalk.i64_in _ (by omega)
      clear hl
      gi_wp2
      exact ⟨KeepsOthers.setCell _ _ _, hlt, H0.out.other (by show w.heap.size + 1 + 1 + 1 ≠ w.heap.size; omega) _, HR.out.other (by show w.heap.size + 1 + 1 + 1 ≠ w.heap.size + 1; omega) _, HK.out.other (by show w.heap.size + 1 + 1 + 1 ≠ w.heap.size + 1 + 1; omega) _,
        HN.out.set 0 _, HX.out.other (by show w.heap.size + 1 + 1 + 1 ≠ w.heap.size + 1 + 1 + 1 + 1; omega) _, HW.out.setCell (by show w.heap.size ≤ w.heap.size + 1 + 1 + 1; omega) _⟩
end Go.Proofs.Ytilfjmpoiiepkaa
