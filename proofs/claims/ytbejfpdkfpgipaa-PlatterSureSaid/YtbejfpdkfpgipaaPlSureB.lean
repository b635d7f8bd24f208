/- The disk between the steps of PlatterSure, and what each step makes of it. No condition. -/
import Derived.Test.YtbejfpdkfpgipaaPlLists
import Derived.Test.YtbejfpdkfpgipaaPlCnt
import Derived.Test.YtbejfpdkfpgipaaPlCell
namespace Go.Proofs.Ytbejfpdkfpgipaa
open Go.ChangeShapes Go.WideShapes Go.ChangeAt Go.RowKit Go.Maps
set_option linter.unusedVariables false
theorem lit_inj2 {c c' : Int} (h : (DataW.lit (.int .i64 c) : DataW Value) = .lit (.int .i64 c')) : c = c' := by
  injection h with h
  injection h
theorem wpList_look_wanted {w : World} {ops : Array Oper} {rest : List Oper} {o : Oper} {a : Act} {Q : Exit → Act → World → Prop} (hw : Region.wanted o (yielded ops a.tmps) = true) (m x : Operand) (hop : o.op = Op.lookup 70 m x false)
    (b n : Nat) (D : DataW Value) (hm : a.eval m = .map (some b)) (hown : w.ownsMap Try.prog 3 (plainElem Try.prog 3) b n D) (z : Int) (hx : a.eval x = .int .i64 z) (hkey : keyOf Try.prog 3 (.int .i64 z) = some (.int .i64 z)) (c : Int) (hat : D.atKey (.int .i64 z) (.lit (.int .i64 0)) = .lit (.int .i64 c))
    (h : wpList Try.prog ops Q rest (a.put o.dst (.int .i64 c)) w) : wpList Try.prog ops Q (o :: rest) a w :=
  wanted_step hw fun K hK => by
    obtain ⟨c', hrun, hat', _⟩ := hown.lookup_int intKey Try.underlying70 Try.underlying3 (by kernel_rfl) hkey
    obtain rfl : c = c' := lit_inj2 (hat.symm.trans hat')
    unfold Oper.wp
    simp [execOp, hop, hm, hx, hrun, Result.andThen]
    exact hK _ _ h
def secT (T : Nat → TextOf) (i : Nat) : List Int := mk 128 (cellF (T i).n (T i).g)
/-- The disk: m steps made, the open sectors op, the sure ones su. -/
structure SuI (w : World) (b : Blks) (n m : Nat) (op : Int → Option (List Int)) (su : Nat → List Int) (d : Disk) (wr : World) : Prop where
  at' : DiskAt wr b d
  ns : d.ns = n
  made : d.made ≤ m
  armed : d.armed = false
  left : d.left = 0
  down : d.down = false
  opn : ∀ x, d.opn x = op x
  sure : ∀ i, i < n → d.sure i = su i
  low : Below w.heap.size w wr
  olo : ∀ k, b.own k → w.heap.size ≤ k
section
variable {w : World} {b : Blks} {n m : Nat} {op : Int → Option (List Int)} {su : Nat → List Int} {d : Disk} {wr w' : World}
theorem SuI.gone (h : SuI w b n m op su d wr) : d.gone = false := by unfold Disk.gone; rw [h.down, h.armed]; rfl
theorem SuI.below (h : SuI w b n m op su d wr) (hb : Below wr.heap.size wr w') : SuI w b n m op su d w' :=
  ⟨h.at'.below hb, h.ns, h.made, h.armed, h.left, h.down, h.opn, h.sure, h.low.trans (hb.mono h.low.size), h.olo⟩
theorem SuI.kept (h : SuI w b n m op su d wr) (hk : Keeps b.own wr w') : Below w.heap.size w w' := h.low.trans (hk.below h.low.size fun j hj e => absurd (h.olo j e) (by omega))
theorem SuI.ext (h : SuI w b n m op su d wr) {op' : Int → Option (List Int)} {su' : Nat → List Int} {m' : Nat} (hm : m ≤ m') (h1 : ∀ x, op x = op' x) (h2 : ∀ i, i < n → su i = su' i) : SuI w b n m' op' su' d wr :=
  ⟨h.at', h.ns, Nat.le_trans h.made hm, h.armed, h.left, h.down, fun x => (h.opn x).trans (h1 x), fun i hi => (h.sure i hi).trans (h2 i hi), h.low, h.olo⟩
theorem SuI.wrote (h : SuI w b n m op su d wr) (i : Nat) (l : List Int) (hd : DiskAt w' b (d.wrote i l)) (hk : Keeps b.own wr w') : SuI w b n (m + 1) (setO op i (some l)) su (d.wrote i l) w' :=
  ⟨hd, h.ns, by have := h.made; show d.made + 1 ≤ m + 1; omega, h.armed, by show (if d.armed then d.left - 1 else d.left) = 0; rw [h.armed, h.left]; rfl, h.down, fun x => by
    show setO d.opn i (some l) x = _
    unfold setO; rw [h.opn x], h.sure, h.kept hk, h.olo⟩
theorem SuI.flushed (h : SuI w b n m op su d wr) (hn : ∀ x, (op x).isSome = true → 0 ≤ x ∧ x < n) (hd : DiskAt w' b (d.went.settled (askF 0 n))) (hk : Keeps b.own wr w') : SuI w b n (m + 1) (fun _ => none) (fun i => (op i).getD (su i)) (d.went.settled (askF 0 n)) w' := by
  refine ⟨hd, h.ns, by have := h.made; show d.made + 1 ≤ m + 1; omega, h.armed, by show (if d.armed then d.left - 1 else d.left) = 0; rw [h.armed, h.left]; rfl, h.down, fun x => ?_, fun i hi => ?_, h.kept hk, h.olo⟩
  · show (if askF 0 n x then none else d.opn x) = none
    split
    · rfl
    · rename_i hx
      rw [h.opn x]
      by_cases e : (op x).isSome = true
      · have := hn x e
        exact absurd (show askF 0 n x = true from by unfold askF; simp; omega) hx
      · simpa using e
  · show (if askF 0 n (i : Int) then (d.opn i).getD (d.sure i) else d.sure i) = _
    rw [if_pos (show askF 0 n (i : Int) = true from by unfold askF; simp; omega), h.opn, h.sure i hi]
theorem SuI.crashed (h : SuI w b n m op su d wr) (l : List Int) (hd : DiskAt w' b (d.crashed l)) (hk : Keeps b.own wr w') : SuI w b n m (fun _ => none) (fun i => if l.contains (i : Int) then (op i).getD (su i) else su i) (d.crashed l) w' :=
  ⟨hd, h.ns, h.made, rfl, rfl, rfl, fun _ => rfl, fun i hi => by
    show (if l.contains (i : Int) then (d.opn i).getD (d.sure i) else d.sure i) = _
    rw [h.opn, h.sure i hi], h.kept hk, h.olo⟩
/-- Up to k, the texts of a list. -/
def opT (T : Nat → TextOf) (k : Nat) : Int → Option (List Int) := fun x => if 0 ≤ x ∧ x < k then some (secT T x.toNat) else none
theorem opT_zero (T : Nat → TextOf) : ∀ x, (none : Option (List Int)) = opT T 0 x := fun x => by unfold opT; rw [if_neg (by omega)]
theorem opT_step (T : Nat → TextOf) (k : Nat) : ∀ x, setO (opT T k) k (some (mk 128 (cellF (T k).n (T k).g))) x = opT T (k + 1) x := fun x => by
  unfold setO opT
  by_cases e : x = k
  · subst e; rw [if_pos rfl, if_pos ⟨by omega, by omega⟩]; rfl
  · rw [if_neg e]
    by_cases h : 0 ≤ x ∧ x < k
    · rw [if_pos h, if_pos ⟨h.1, by omega⟩]
    · rw [if_neg h, if_neg (by omega)]
theorem opT_some {T : Nat → TextOf} {k : Nat} {x : Int} (h : (opT T k x).isSome = true) : 0 ≤ x ∧ x < k := by
  unfold opT at h
  split at h
  · assumption
  · simp at h
end
/-- The disk, the counts, and a sector that the law asks for, in its own block. -/
structure WnI (w : World) (b : Blks) (n m : Nat) (op : Int → Option (List Int)) (su : Nat → List Int) (d : Disk) (mb K : Nat) (on : Int → Prop) (A : Nat) (F : Nat → Nat) (W : World) : Prop where
  s : SuI w b n m op su d W
  c : CntAt W mb K on
  k : IntBlk W A .u8 40 (mk 128 F)
  own : ¬ b.own A
  nmb : mb ≠ A
  lo : w.heap.size ≤ A
section
variable {w : World} {b : Blks} {n m : Nat} {op : Int → Option (List Int)} {su : Nat → List Int} {d : Disk} {mb K A : Nat} {on : Int → Prop} {F : Nat → Nat} {W W' : World}
theorem WnI.below (h : WnI w b n m op su d mb K on A F W) (hb : Below W.heap.size W W') : WnI w b n m op su d mb K on A F W' :=
  ⟨h.s.below hb, h.c.keep (hb.block mb h.c.lt), h.k.below hb h.k.lt, h.own, h.nmb, h.lo⟩
theorem WnI.put (h : WnI w b n m op su d mb K on A F W) (G : Nat → Nat) : WnI w b n m op su d mb K on A G (W.setRow A (cellsOf .u8 (Go.Proofs.Ytbejfpdkfpgipaa.mk 128 G))) :=
  ⟨⟨h.s.at'.keep fun k hk => setRow_other W A k _ (fun e => h.own (e ▸ hk)), h.s.ns, h.s.made, h.s.armed, h.s.left, h.s.down, h.s.opn, h.s.sure, below_setRow h.s.low h.lo _, h.s.olo⟩, h.c.keep (setRow_other W A mb _ h.nmb), h.k.setRow .u8 _, h.own, h.nmb, h.lo⟩
theorem WnI.start (hs : SuI w b n m op su d W) (hc : CntAt W mb K on) (F : Nat → Nat) : WnI w b n m op su d mb K on W.heap.size F ((W.alloc (.cells (cellsOf .u8 (Go.Proofs.Ytbejfpdkfpgipaa.mk 128 zeroK)) 40)).setRow W.heap.size (cellsOf .u8 (Go.Proofs.Ytbejfpdkfpgipaa.mk 128 F))) := by
  obtain ⟨h1, h2⟩ := sec_laid W F
  exact ⟨hs.below h2, hc.keep (h2.block mb hc.lt), h1, fun e => absurd (hs.at'.lt e) (Nat.lt_irrefl _), Nat.ne_of_lt hc.lt, hs.low.size⟩
end
/-- What is read behind the crash. -/
def suT (T0 T1 : Nat → TextOf) (n0 n1 : Nat) (l : List Int) (i : Nat) : List Int := if l.contains (i : Int) then (opT T1 n1 i).getD ((opT T0 n0 i).getD (mk 128 zeroK)) else (opT T0 n0 i).getD (mk 128 zeroK)
theorem opT_in (T : Nat → TextOf) {n i : Nat} (h : i < n) : opT T n (i : Int) = some (mk 128 (cellF (T i).n (T i).g)) := by
  unfold opT secT; rw [if_pos ⟨by omega, by omega⟩]; simp
theorem opT_out (T : Nat → TextOf) {n i : Nat} (h : ¬ i < n) : opT T n (i : Int) = none := by
  unfold opT; rw [if_neg (by omega)]
theorem suT_second (T0 T1 : Nat → TextOf) {n0 n1 : Nat} {l : List Int} {i : Nat} (h1 : i < n1) (hl : (i : Int) ∈ l) : suT T0 T1 n0 n1 l i = mk 128 (cellF (T1 i).n (T1 i).g) := by
  unfold suT; rw [if_pos (by simpa using hl), opT_in T1 h1]; rfl
theorem suT_first (T0 T1 : Nat → TextOf) {n0 n1 : Nat} {l : List Int} {i : Nat} (h1 : ¬ (i < n1 ∧ (i : Int) ∈ l)) : suT T0 T1 n0 n1 l i = (opT T0 n0 i).getD (mk 128 zeroK) := by
  unfold suT
  by_cases hl : (i : Int) ∈ l
  · rw [if_pos (by simpa using hl), opT_out T1 (fun h => h1 ⟨h, hl⟩)]; rfl
  · rw [if_neg (by simpa using hl)]
end Go.Proofs.Ytbejfpdkfpgipaa
