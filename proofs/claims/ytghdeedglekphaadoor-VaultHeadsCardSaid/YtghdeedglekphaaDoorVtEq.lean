/- A head is the same as itself; heads that come in as arguments. Conditions: as each says. -/
import Derived.Test.YtghdeedglekphaaDoorVtTakeR
import Derived.Test.YtghdeedglekphaaDoorRdErr
import Derived.Lib.SmallJoins
import Derived.ChangeMaps5
import Derived.DeepKeys
namespace Go.Proofs.YtghdeedglekphaaDoor
open Go.ChangeShapes Go.WideShapes Go.ChangeAt Go.RowKit
set_option linter.unusedVariables false
theorem restUnd : Tryd.prog.underlying 26 = some (.array 24 5) := Tryd.underlying26
theorem size_of_info {t : TypeId} {n : Nat} (hi : (Tryd.prog.info? t).map (·.size) = some n) (w : World) : (sizeOf t).run Tryd.prog w = .ok n w := by
  cases hq : Tryd.prog.info? t with
  | none => simp [hq] at hi
  | some i =>
    have hs : i.size = n := by simpa [hq] using hi
    simp [sizeOf, typeInfo, hq, hs]
theorem restInfo : (Tryd.prog.info? 26).map (·.size) = some 24 := by kernel_rfl
theorem head_part0 (z : Int) (P : List Int) (w : World) : (part 3 (headC z P).toArray 0).run Tryd.prog w = .ok (.int .i64 z) w := by
  have h : (isAgg 3).run Tryd.prog w = .ok false w := by simp [go_sem]
  unfold part
  simp [h, headC]
theorem head_part1 (z : Int) (P : List Int) (w : World) : (part 25 (headC z P).toArray 1).run Tryd.prog w = .ok (rootsV P) w := by
  have h : (isAgg 25).run Tryd.prog w = .ok true w := by simp [go_sem]
  have hs := size_of_info rootsInfo w
  have e : (headC z P).toArray.extract 1 (1 + 64) = (bytC 64 (natF P)).toArray := by kernel_rfl
  unfold part rootsV
  simp only [Sem.run_bind, h, hs, Result.andThen_ok, if_true, Sem.run_pure, e]
def rest24 (P : List Int) : List Int := mk 24 fun j => natF P (64 + j)
theorem head_part2 (z : Int) (P : List Int) (w : World) : (part 26 (headC z P).toArray 65).run Tryd.prog w = .ok (.agg (cellsOf .u8 (rest24 P))) w := by
  have h : (isAgg 26).run Tryd.prog w = .ok true w := by simp [go_sem]
  have hs := size_of_info restInfo w
  have e : (headC z P).toArray.extract 65 (65 + 24) = cellsOf .u8 (rest24 P) := by kernel_rfl
  unfold part
  simp only [Sem.run_bind, h, hs, Result.andThen_ok, if_true, Sem.run_pure, e]
theorem sum_same (f : Nat → Nat) (w : World) : (Op.equalIn 9998 24 (.agg (cellsOf .u8 (mk 32 f))) (.agg (cellsOf .u8 (mk 32 f)))).run Tryd.prog w = .ok true w := by
  have := run_equalIn_ints w 9996 (mk 32 f) (mk 32 f) (P := Tryd.prog) (t := 24) (by rw [mk_len]; exact sumUnder) byteElem (by rw [mk_len])
  rw [this]; simp
theorem two_same (d : Nat) (A X Y : Array Value) (w : World) (p0 : (part 24 A 0).run Tryd.prog w = .ok (.agg X) w) (p1 : (part 24 A 32).run Tryd.prog w = .ok (.agg Y) w) (e0 : (Op.equalIn d 24 (.agg X) (.agg X)).run Tryd.prog w = .ok true w) (e1 : (Op.equalIn d 24 (.agg Y) (.agg Y)).run Tryd.prog w = .ok true w) :
    (Op.equalIn (d + 1) 25 (.agg A) (.agg A)).run Tryd.prog w = .ok true w := by
  rw [Op.equalIn]
  simp only [Sem.run_bind, run_underlying rootsUnd, Result.andThen_ok, size_sumV]
  simp only [Std.Legacy.Range.forIn_eq_forIn_range', Std.Legacy.Range.size, Nat.sub_zero, Nat.add_sub_cancel, Nat.div_one]
  simp [List.range', p0, p1, e0, e1]
theorem roots_same (P : List Int) (w : World) : (Op.equalIn 9999 25 (rootsV P) (rootsV P)).run Tryd.prog w = .ok true w := by
  have p0 := roots_part P 0 (by decide) w
  have p1 := roots_part P 1 (by decide) w
  rw [Nat.zero_mul] at p0
  rw [Nat.one_mul] at p1
  exact two_same 9998 _ _ _ w p0 p1 (sum_same (natF (rootK P 0)) w) (sum_same (natF (rootK P 1)) w)
theorem head_same (z : Int) (P : List Int) (w : World) : (Op.equalIn 10000 28 (headV z P) (headV z P)).run Tryd.prog w = .ok true w := by
  have hS : Tryd.prog.underlying 28 = some (.struct (Tryd.prog.fieldsOf 28)) := by kernel_rfl
  have q1 : (Op.equalIn 9999 3 (.int .i64 z) (.int .i64 z)).run Tryd.prog w = .ok (z == z) w := run_equalIn_int w 9998 3 .i64 .i64 _ _ Tryd.underlying3
  rw [beq_self_eq_true] at q1
  have q2 := roots_same P w
  have q3 : (Op.equalIn 9999 26 (.agg (cellsOf .u8 (rest24 P))) (.agg (cellsOf .u8 (rest24 P)))).run Tryd.prog w = .ok true w := by
    have := run_equalIn_ints w 9997 (rest24 P) (rest24 P) (P := Tryd.prog) (t := 26) (by unfold rest24; rw [mk_len]; exact restUnd) byteElem rfl
    rw [this]; simp
  unfold headV
  rw [show (10000 : Nat) = 9999 + 1 from rfl, run_equalIn_agg w 9999 28 _ _ hS (by kernel_rfl)]
  simp only [Program.fieldsOf, Tryd.underlying28]
  simp only [Op.eqFields]
  rw [if_pos (by decide), if_pos (by decide), if_pos (by decide)]
  simp only [Sem.run_bind, head_part0, q1, Result.andThen_ok]
  simp [head_part1, head_part2, q2, q3]
section
variable {ops : Array Oper} {rest : List Oper} {o : Oper} {a : Act} {w : World} {Q : Exit → Act → World → Prop}
theorem wpList_head_eql (hw : Region.wanted o (yielded ops a.tmps) = true) (x y : Operand) (ho : o.op = .binOp .eql 28 x y 28) (z : Int) (P : List Int) (hx : a.eval x = headV z P) (hy : a.eval y = headV z P) (h : wpList Tryd.prog ops Q rest (a.put o.dst (.bool true)) w) : wpList Tryd.prog ops Q (o :: rest) a w :=
  wanted_step hw fun K hK => by
    have p := head_same z P w
    unfold headV at hx hy p
    have g := run_eqGuard_agg (P := Tryd.prog) w .eql 28 x y (headC z P).toArray (headC z P).toArray (by kernel_rfl)
    have q := run_eql_struct (P := Tryd.prog) w 28 (headC z P).toArray (headC z P).toArray
    rw [p] at q
    unfold Oper.wp execOp
    simp only [ho, hx, hy, Sem.run_bind, g, q, Result.andThen_ok, Sem.run_pure]
    exact hK _ _ h
theorem wpList_head_neq (hw : Region.wanted o (yielded ops a.tmps) = true) (x y : Operand) (ho : o.op = .binOp .neq 28 x y 28) (z : Int) (P : List Int) (hx : a.eval x = headV z P) (hy : a.eval y = headV z P) (h : wpList Tryd.prog ops Q rest (a.put o.dst (.bool false)) w) : wpList Tryd.prog ops Q (o :: rest) a w :=
  wanted_step hw fun K hK => by
    have p := head_same z P w
    unfold headV at hx hy p
    have g := run_eqGuard_agg (P := Tryd.prog) w .neq 28 x y (headC z P).toArray (headC z P).toArray (by kernel_rfl)
    have q := run_neq_struct (P := Tryd.prog) w 28 (headC z P).toArray (headC z P).toArray
    rw [p] at q
    unfold Oper.wp execOp
    simp only [ho, hx, hy, Sem.run_bind, g, q, Result.andThen_ok, Sem.run_pure]
    exact hK _ _ h
end
/-! ### A head that comes in -/
theorem bytes_of_trod2 {H : Type} {enc : TypeId × Value → H} {P : Program} {W : World} {base fuel : Nat} {spare : Nat → Bool} {held : Bool} {t e : TypeId} {n : Nat} {cs : List Value} {x : DataW H × List MemPlace}
    (ht : P.underlying t = some (.array n e)) (he : P.underlying e = some (.int .u8)) (hc : P.cellsOf e = 1) (h : DataW.trod enc P W base spare held fuel t cs = some x) : ∀ i, i < n → ∃ a : Nat, a < 256 ∧ cs[i]? = some (.int .u8 a) := by
  obtain ⟨xs, m, rfl, hx, hlen, hxn, hel⟩ := DataW.trod_array ht h
  intro i hi
  have hi2 := hel i hi
  rw [hc, Nat.mul_one] at hi2
  have hlt : i < xs.length := by omega
  rw [List.getElem?_eq_getElem hlt] at hi2
  obtain ⟨a, ha, _, hw⟩ := DataW.trod_int he hi2
  have hb := bounds_u8 hw
  refine ⟨a.toNat, by omega, ?_⟩
  rw [show ((a.toNat : Nat) : Int) = a by omega]
  have h0 : (List.take 1 (List.drop i cs))[0]? = some (.int .u8 a) := by rw [ha]; rfl
  rw [List.getElem?_take_of_lt (by omega), List.getElem?_drop] at h0
  simpa using h0
theorem byte_rows_of_trod {H : Type} {enc : TypeId × Value → H} {W : World} {base fuel : Nat} {spare : Nat → Bool} {held : Bool} {cs : List Value} {x : DataW H × List MemPlace} (h : DataW.trod enc Tryd.prog W base spare held fuel 25 cs = some x) (hl : cs.length = 64) : ∀ i, i < 64 → ∃ a : Nat, a < 256 ∧ cs[i]? = some (.int .u8 a) := by
  obtain ⟨xs, m, rfl, hx, hlen, hxn, hel⟩ := DataW.trod_array rootsUnd h
  intro i hi
  have hk : i / 32 < 2 := by omega
  have h2 := hel (i / 32) hk
  rw [show Tryd.prog.cellsOf 24 = 32 by kernel_rfl] at h2
  rw [List.getElem?_eq_getElem (show i / 32 < xs.length by omega)] at h2
  obtain ⟨a, ha, hc⟩ := bytes_of_trod2 sumUnder Tryd.underlying5 (by kernel_rfl) h2 (i % 32) (Nat.mod_lt _ (by decide))
  refine ⟨a, ha, ?_⟩
  rw [List.getElem?_take_of_lt (Nat.mod_lt _ (by decide)), List.getElem?_drop] at hc
  rwa [show i / 32 * 32 + i % 32 = i by omega] at hc
theorem trod_three {H : Type} {enc : TypeId × Value → H} {P : Program} {w : World} {base : Nat} {spare : Nat → Bool} {held : Bool} {t : TypeId} {f0 f1 f2 : Field} {fuel : Nat} {cs : List Value} {x : DataW H × List MemPlace} (ht : P.underlying t = some (.struct #[f0, f1, f2])) (h : DataW.trod enc P w base spare held fuel t cs = some x) :
    ∃ y0 y1 y2 n, cs.length = P.cellsOf t ∧ DataW.trod enc P w base spare held n f0.type ((cs.drop f0.offset).take (P.cellsOf f0.type)) = some y0 ∧
      DataW.trod enc P w base spare held n f1.type ((cs.drop f1.offset).take (P.cellsOf f1.type)) = some y1 ∧ DataW.trod enc P w base spare held n f2.type ((cs.drop f2.offset).take (P.cellsOf f2.type)) = some y2 := by
  obtain ⟨xs, n, _, rfl, hl, hlen, hf⟩ := DataW.trod_struct ht h
  match xs, hlen with
  | [y0, y1, y2], _ => exact ⟨y0, y1, y2, n, hl, by simpa using hf 0 f0 rfl, by simpa using hf 1 f1 rfl, by simpa using hf 2 f2 rfl⟩
set_option maxRecDepth 100000 in
theorem open_head {H : Type} {enc : TypeId × Value → H} {W : World} {r : Reach} {b0 base : Nat} {spare : Nat → Bool} {held : Bool} {v : Value} {d : DataW H} {p : List MemPlace} (hv : Value.okWide Tryd.prog W r b0 28 v) (h : DataW.Trod enc Tryd.prog W base spare held 28 v d p) :
    ∃ (z : Int) (P : List Int), v = headV z P ∧ (Lit.int .i64 z).wf = true ∧ IsRow88 P := by
  obtain ⟨cs, rfl, hsz⟩ := okWide_struct Tryd.underlying28 hv
  rw [show Tryd.prog.cellsOf 28 = 89 by kernel_rfl] at hsz
  obtain ⟨fuel, hf⟩ := h
  obtain ⟨y0, y1, y2, n, hl, t0, t1, t2⟩ := trod_three Tryd.underlying28 hf
  have hdd : (Value.cells (.agg cs)).toList = cs.toList := rfl
  rw [hdd] at t0 t1 t2
  have k1 : Tryd.prog.cellsOf 3 = 1 := by kernel_rfl
  have k2 : Tryd.prog.cellsOf 25 = 64 := by kernel_rfl
  have k3 : Tryd.prog.cellsOf 26 = 24 := by kernel_rfl
  simp only [k1, k2, k3] at t0 t1 t2
  have hcl : cs.toList.length = 89 := by simpa using hsz
  obtain ⟨z, e0, _, w0⟩ := DataW.trod_int Tryd.underlying3 t0
  have b1 := byte_rows_of_trod t1 (by simp only [List.length_take, List.length_drop]; omega)
  have b2 := bytes_of_trod2 restUnd Tryd.underlying5 (by kernel_rfl) t2
  generalize hLE : cs.toList = L at *
  have ch : ∀ i, ∃ a : Nat, a < 256 ∧ (i < 88 → L[1 + i]? = some (.int .u8 a)) := fun i => by
    by_cases hi : i < 64
    · obtain ⟨a, h1, h2⟩ := b1 i hi
      refine ⟨a, h1, fun _ => ?_⟩
      rw [List.getElem?_take_of_lt hi, List.getElem?_drop] at h2
      exact h2
    · by_cases hi2 : i < 88
      · obtain ⟨a, h1, h2⟩ := b2 (i - 64) (by omega)
        refine ⟨a, h1, fun _ => ?_⟩
        rw [List.getElem?_take_of_lt (by omega), List.getElem?_drop] at h2
        rwa [show 65 + (i - 64) = 1 + i by omega] at h2
      · exact ⟨0, by decide, fun h => absurd h hi2⟩
  refine ⟨z, mk 88 fun i => Classical.choose (ch i), ?_, w0, isRow88_mk fun i _ => (Classical.choose_spec (ch i)).1⟩
  unfold headV
  congr 1
  apply Array.ext'
  show cs.toList = _
  rw [hLE]
  apply List.ext_getElem?
  intro i
  rcases i with _ | i
  · rw [headC_count]
    have := congrArg (fun l : List Value => l[0]?) e0
    simpa [List.getElem?_take] using this
  · by_cases hi : i < 88
    · rw [Nat.add_comm i 1, headC_get _ _ hi, natF_mk hi]
      exact (Classical.choose_spec (ch i)).2 hi
    · rw [List.getElem?_eq_none (by omega), List.getElem?_eq_none (by rw [headC_len]; omega)]
end Go.Proofs.YtghdeedglekphaaDoor
