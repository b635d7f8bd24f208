/- What the laws of decoding share: bytes made long, the example, both answers by whether the bytes are a command's. Conditions: as each says. -/
import Derived.Test.YtkibeddfkenlkaaCbRefD
import Derived.Test.YtkibeddfkenlkaaCbSame
namespace Go.Proofs.Ytkibeddfkenlkaa
open Go.ChangeShapes Go.WideShapes Go.ChangeAt Go.RowKit
set_option linter.unusedVariables false
set_option linter.unusedSimpArgs false
theorem extF_lt {n : Nat} {g : Nat → Nat} (hg : ∀ i, i < n → g i < 256) (j : Nat) : extF n g j < 256 := by
  unfold extF; split
  · exact hg _ (by assumption)
  · omega
theorem BytesAt.ext {w : World} {p : Option Addr} {n : Nat} {g : Nat → Nat} (h : BytesAt w p n g) : BytesAt w p n (extF n g) := bytes_congr (fun j hj => by unfold extF; rw [if_pos hj]) h
theorem BytesAt.unext {w : World} {p : Option Addr} {n : Nat} {g : Nat → Nat} (h : BytesAt w p n (extF n g)) : BytesAt w p n g := bytes_congr (fun j hj => by unfold extF; rw [if_pos hj]) h
theorem Decode_yes {w : World} {p : Option Addr} {n c : Nat} {G : Nat → Nat} (hp : BytesAt w p n G) (hG : ∀ j, G j < 256) (hc : n ≤ c) (hi : isC n G = true) :
    Calls Try.prog 17 #[.slice p n c] w fun e w' => ∃ q, e = .returned (.tuple #[.agg (cmA q (rawN G n) (rawN G n) (rawC G)), .nilIface]) ∧ DatAt w w' q (rawN G n) (dataF G) ∧ Below w.heap.size w w' :=
  (Decode_any hp hG hc).mono fun e w' h => by
    rcases h with ⟨-, h⟩ | ⟨h, -⟩
    · exact h
    · rw [hi] at h; cases h
theorem Decode_not {w : World} {p : Option Addr} {n c : Nat} {G : Nat → Nat} (hp : BytesAt w p n G) (hG : ∀ j, G j < 256) (hc : n ≤ c) (hi : isC n G = false) :
    Calls Try.prog 17 #[.slice p n c] w fun e w' => e = .returned (.tuple #[.agg (cmA none 0 0 zeroCm), .iface 38 (.int .i64 11)]) ∧ Below w.heap.size w w' :=
  (Decode_any hp hG hc).mono fun e w' h => by
    rcases h with ⟨h, -⟩ | ⟨-, h⟩
    · rw [hi] at h; cases h
    · exact h
theorem refDecode_yes {w : World} {p : Option Addr} {n c : Nat} {G : Nat → Nat} (hp : BytesAt w p n G) (hG : ∀ j, G j < 256) (hc : n ≤ c) (hn : n ≤ 100000) (hi : isC n G = true) :
    Calls Try.prog 19 #[.slice p n c] w fun e w' => ∃ q m, e = .returned (.tuple #[.agg (cmA q (rawN G n) m (rawC G)), .bool true]) ∧ BytesAt w' q (rawN G n) (dataF G) ∧ Below w.heap.size w w' :=
  (refDecode_any hp hG hc hn).mono fun e w' h => by
    rcases h with ⟨-, h⟩ | ⟨h, -⟩
    · exact h
    · rw [hi] at h; cases h
theorem refDecode_not {w : World} {p : Option Addr} {n c : Nat} {G : Nat → Nat} (hp : BytesAt w p n G) (hG : ∀ j, G j < 256) (hc : n ≤ c) (hn : n ≤ 100000) (hi : isC n G = false) :
    Calls Try.prog 19 #[.slice p n c] w fun e w' => e = .returned (.tuple #[.agg (cmA none 0 0 zeroCm), .bool false]) ∧ Below w.heap.size w w' :=
  (refDecode_any hp hG hc hn).mono fun e w' h => by
    rcases h with ⟨h, -⟩ | ⟨-, h⟩
    · rw [hi] at h; cases h
    · exact h
/-- The Data that was told is nil or a row of its own. -/
theorem DatAt.own {w0 V : World} {q : Option Addr} {m : Nat} {F : Nat → Nat} (h : DatAt w0 V q m F) (hm : m ≤ 140737488351232) (K : Nat) (hK : K < w0.heap.size) : ∃ D nl, q = pOf D nl ∧ D ≠ K ∧ ∀ T, T ≤ w0.heap.size → ∀ V', Below V.heap.size V V' → Own V' T D m m nl F := by
  rcases h with ⟨rfl, rfl⟩ | ⟨D, rfl, h2, h3⟩
  · exact ⟨K + 1, true, rfl, Nat.succ_ne_self _, fun _ _ _ _ => .inl ⟨rfl, rfl, rfl⟩⟩
  · exact ⟨D, false, rfl, by omega, fun T hT V' hb => .inr ⟨rfl, Nat.le_trans hT h3, Nat.le_refl _, hm, h2.below hb h2.lt⟩⟩
/-! ### The example -/
def exG : Nat → Nat := fun j => if j < 6 then [1, 1, 0, 2, 0, 3].getD j 0 else 0
theorem exG_lt (j : Nat) : exG j < 256 := by
  unfold exG
  split
  · rename_i h
    rcases j with _ | _ | _ | _ | _ | _ | j
    all_goals first | decide | omega
  · omega
theorem exG_list : mk 6 exG = [1, 1, 0, 2, 0, 3] := by decide +kernel
theorem isC_ex : isC 6 exG = true := by decide +kernel
theorem raw_ex : rawC exG = exC := by
  refine CmdOf.ext' ?_ ?_ ?_ ?_ ?_
  · rfl
  · rfl
  · show ((valN 2 (fun j => exG (2 + j)) : Nat) : Int) = 2; decide +kernel
  · show ((valN 2 (fun j => exG (4 + j)) : Nat) : Int) = 3; decide +kernel
  · rfl
theorem rawN_ex : rawN exG 6 = 0 := rfl
theorem ex_blk (w : World) : IntBlk (w.alloc (.cells #[.int .u8 1, .int .u8 1, .int .u8 0, .int .u8 2, .int .u8 0, .int .u8 3] 5)) w.heap.size .u8 5 (mk 6 exG) := by
  rw [exG_list]; exact IntBlk.new w .u8 _ [1, 1, 0, 2, 0, 3]
theorem Decode_ex {W : World} {p : Option Addr} {c : Nat} (h : BytesAt W p 6 exG) (hc : 6 ≤ c) : Calls Try.prog 17 #[.slice p 6 c] W fun e w' => ∃ q, e = .returned (.tuple #[.agg (cmA q 0 0 exC), .nilIface]) ∧ Below W.heap.size W w' := by
  refine (Decode_yes h exG_lt hc isC_ex).mono ?_
  rw [raw_ex, rawN_ex]
  rintro e w' ⟨q, rfl, -, hl⟩
  exact ⟨q, rfl, hl⟩
theorem refSame_ex {W : World} (q : Option Addr) : Calls Try.prog 18 #[.agg (cmA q 0 0 exC), .agg (cmA none 0 0 exC)] W fun e w' => e = .returned (.bool true) ∧ Below W.heap.size W w' := by
  have h := refSame_cm (w := W) (q := q) (p := none) (n := 0) (c := 0) (m := 0) (d := 0) (x := exC) (y := exC) (g := zeroK) (h := zeroK) (fun _ h => absurd h (Nat.not_lt_zero _)) (fun _ h => absurd h (Nat.not_lt_zero _)) (.inl rfl) (.inl rfl)
  rw [sameB_iff.2 ⟨rfl, by simp⟩] at h
  exact h
theorem refSame_eq {W : World} {q p : Option Addr} {n c d : Nat} {x : CmdOf} {g : Nat → Nat} (hg : ∀ j, j < n → g j < 256) (hq : BytesAt W q n g) (hp : BytesAt W p n g) : Calls Try.prog 18 #[.agg (cmA q n c x), .agg (cmA p n d x)] W fun e w' => e = .returned (.bool true) ∧ Below W.heap.size W w' := by
  have h := refSame_cm (c := c) (d := d) (x := x) (y := x) hg hg hq hp
  rw [sameB_iff.2 ⟨rfl, by simp⟩] at h
  exact h
section
variable {o : Oper} {a : Act} {C : World → Prop} {K : Act → Prop}
theorem gives_nil_neq (x : Operand) (ho : o.op = .binOp .neq 28 x (.const .nilIface) 28) (hx : a.eval x = .nilIface) (hk : K (a.put o.dst (.bool false))) : ∃ v, Gives Try.prog C o a v ∧ K (a.put o.dst v) :=
  ⟨_, fun w _ => by
    unfold execOp
    simp only [ho, hx]
    simp [go_sem, Act.eval], hk⟩
theorem gives_nil_eql (x : Operand) (ho : o.op = .binOp .eql 28 x (.const .nilIface) 28) (hx : a.eval x = .nilIface) (hk : K (a.put o.dst (.bool true))) : ∃ v, Gives Try.prog C o a v ∧ K (a.put o.dst v) :=
  ⟨.bool true, fun w _ => by
    unfold execOp
    simp only [ho, hx]
    simp [go_sem, eqGuard], hk⟩
theorem gives_err_neq (x : Operand) (ho : o.op = .binOp .neq 28 x (.const .nilIface) 28) (z : Int) (hx : a.eval x = .iface 38 (.int .i64 z)) (hk : K (a.put o.dst (.bool true))) : ∃ v, Gives Try.prog C o a v ∧ K (a.put o.dst v) :=
  ⟨_, fun w _ => by
    unfold execOp
    simp only [ho, hx]
    simp [go_sem, Act.eval], hk⟩
theorem done_call0 {w : World} {K : Value → World → Prop} (x : Operand) (ts : Array TypeId) (ho : o.op = .call { callee := .value x, args := #[], argTypes := ts }) (g : FuncId) (hx : a.eval x = .func (.func g) #[] #[]) (hf : ∀ (args : Array Value) (w : World), (callFunc g args).run Try.prog w = .ok (.enter g args) w)
    (hc : Calls Try.prog g #[] w fun e w' => ∃ v, e = .returned v ∧ K v w') : doneAt Try.prog o a w K :=
  done_call x #[] ts ho g #[] hx (by simp) (hf _ w) hc
end
end Go.Proofs.Ytkibeddfkenlkaa
