/- Slices of bytes, made: all noughts. Condition: no more than 100000 bytes. -/
import Derived.Test.YtfjbehobpkmjbaaBytesS
import Derived.Laws.MakeOwn
namespace Go.Proofs.Ytfjbehobpkmjbaa
open Go.ChangeShapes Go.WideShapes Go.ChangeAt Go.RowKit

theorem made_zero {z : Array Value} {sz : Nat} (hz : z = cellsOf .u8 (mk sz zeroK)) (hs : 0 < sz) (n : Nat) : madeCells z n = cellsOf .u8 (mk n zeroK) := by
  subst hz
  apply Array.ext
  · rw [size_madeCells, cellsOf_size, mk_len]
  · intro i h1 h2
    have hi : i < n := by rw [size_madeCells] at h1; exact h1
    have hsz : (cellsOf .u8 (mk sz zeroK)).size = sz := by rw [cellsOf_size, mk_len]
    have hm : i % sz < sz := Nat.mod_lt _ hs
    have e2 := cellsOf_get .u8 (mk n zeroK) (i := i) (by rw [mk_len]; exact hi)
    rw [mk_get hi, Array.getElem?_eq_getElem h2] at e2
    have e1 := cellsOf_get .u8 (mk sz zeroK) (i := i % sz) (by rw [mk_len]; exact hm)
    rw [mk_get hm] at e1
    have e3 : (madeCells (cellsOf .u8 (mk sz zeroK)) n)[i] = (cellsOf .u8 (mk sz zeroK))[i % sz]! := by
      simp only [madeCells, Array.getElem_map, Array.getElem_range, hsz]
    rw [e3, Array.getElem!_eq_getD, Array.getD_eq_getD_getElem?, e1]
    simp only [Option.some.injEq] at e2
    rw [e2]; rfl
theorem bytesUnder : Try.prog.underlying 22 = some (.slice 5) := Try.underlying22
theorem byteInfo : (Try.prog.info? 5).map (·.size) = some 1 := by kernel_rfl
theorem byteBytes1 : (Try.prog.info? 5).map (·.bytes) = some 1 := by kernel_rfl
theorem byteZero1 : (Try.prog.info? 5).bind (·.zero) = some (.int .u8 0) := by kernel_rfl
theorem byteUnder1 : Try.prog.underlying 5 = some (.int .u8) := Try.underlying5
theorem wpList_make_noughts {ops : Array Oper} {rest : List Oper} {o : Oper} {a : Act} {w : World} {Q : Exit → Act → World → Prop} (hgd : o.guard = none) (x y : Operand) (ho : o.op = .makeSlice 22 x y) (M : Nat) (hM : M ≤ 100000) (hx : a.eval x = .int .i64 M) (hy : a.eval y = .int .i64 M)
    (h : wpList Try.prog ops Q rest (a.put o.dst (.slice (some ⟨w.heap.size, 0, none⟩) M M)) (w.alloc (.cells (cellsOf .u8 (mk M zeroK)) 5))) : wpList Try.prog ops Q (o :: rest) a w :=
  wpList_plain hgd fun _ hK => by
    have hi := byteInfo
    have hz := byteZero1
    have hb := byteBytes1
    cases hq : Try.prog.info? 5 with
    | none => rw [hq] at hi; simp at hi
    | some i =>
      rw [hq] at hi hz hb
      have hsz : i.size = 1 := by simpa using hi
      have hzz : i.zero = some (.int .u8 0) := by simpa using hz
      have hby : i.bytes = 1 := by simpa using hb
      have e := run_make (P := Try.prog) w 22 5 i _ bytesUnder hq hzz .i64 .i64 M M (by omega) (by omega) (by rw [hby]; omega) (by omega)
      have hc : (Value.int .u8 0).cells = cellsOf .u8 (mk 1 zeroK) := rfl
      rw [hsz, Int.toNat_natCast, made_zero hc (by omega), Nat.mul_one] at e
      unfold Oper.wp execOp
      simp only [ho]
      simp [hx, hy, e]
      exact hK _ _ h
end Go.Proofs.Ytfjbehobpkmjbaa
