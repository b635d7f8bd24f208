/- Plain mathematics of commands: which are in form, what their bytes say, and that they can be told from them again. Conditions: as each says. -/
import Derived.Test.YtkibeddfkenlkaaTrGives
import Derived.Test.YtkibeddfkenlkaaCbWd
namespace Go.Proofs.Ytkibeddfkenlkaa
open Go Go.RowKit
set_option linter.unusedVariables false
/-- An operation. -/
structure ROp where
  op : Int
  who : Int
  key : Int
  new : Int
  ty : Int
  s : Bool
/-- A command but for its bytes. -/
structure CmdOf where
  k : Int
  u : Int
  b : Int
  m : Int
  o : ROp
def ROp.ok (o : ROp) : Prop := okI o.op ∧ okI o.who ∧ okI o.key ∧ okI o.new ∧ okI o.ty
def CmdOf.ok (x : CmdOf) : Prop := okI x.k ∧ okI x.u ∧ okI x.b ∧ okI x.m ∧ x.o.ok
def zeroOp : ROp := ⟨0, 0, 0, 0, 0, false⟩
def zeroCm : CmdOf := ⟨0, 0, 0, 0, zeroOp⟩
def inB (z a b : Int) : Bool := decide (a ≤ z) && decide (z ≤ b)
def noOp (o : ROp) : Bool := o.op == 0 && o.who == 0 && o.key == 0 && o.new == 0 && o.ty == 0 && o.s == false
def opG (o : ROp) : Bool := inB o.op 0 255 && decide (0 ≤ o.key) && decide (0 ≤ o.new) && inB o.ty 0 255 && o.who == 0
def dataG (x : CmdOf) (n : Nat) : Bool := if x.k == 2 then decide (x.m ≤ 16) && (n : Int) == 128 * x.m else (n : Int) == 0
def resG (x : CmdOf) : Bool := if x.k == 6 then opG x.o else noOp x.o
/-- Is a command with n bytes of Data in form? -/
def goodC (x : CmdOf) (n : Nat) : Bool := inB x.k 1 7 && inB x.u 0 255 && inB x.b 0 65535 && inB x.m 0 65535 && dataG x n && resG x
/-- What Check answers: an error's number. -/
def checkN (x : CmdOf) (n : Nat) : Int :=
  if goodC x n then (if decide (2 ≤ x.u) then 1 else if (x.k == 1 || x.k == 2) && !(decide (0 < x.m) && decide (x.b + x.m ≤ 16)) then 1 else 0) else 11
def accN (x : CmdOf) : Int := if x.k == 1 then 1 else if x.k == 2 || x.k == 3 || x.k == 4 then 2 else 0
structure GoodC (x : CmdOf) (n : Nat) : Prop where
  k : 1 ≤ x.k ∧ x.k ≤ 7
  u : 0 ≤ x.u ∧ x.u ≤ 255
  b : 0 ≤ x.b ∧ x.b ≤ 65535
  m : 0 ≤ x.m ∧ x.m ≤ 65535
  data : (x.k = 2 → x.m ≤ 16 ∧ (n : Int) = 128 * x.m) ∧ (x.k ≠ 2 → n = 0)
  op : x.k = 6 → (0 ≤ x.o.op ∧ x.o.op ≤ 255) ∧ 0 ≤ x.o.key ∧ 0 ≤ x.o.new ∧ (0 ≤ x.o.ty ∧ x.o.ty ≤ 255) ∧ x.o.who = 0
  none : x.k ≠ 6 → x.o = zeroOp
theorem ROp.ext' {a b : ROp} (h1 : a.op = b.op) (h2 : a.who = b.who) (h3 : a.key = b.key) (h4 : a.new = b.new) (h5 : a.ty = b.ty) (h6 : a.s = b.s) : a = b := by cases a; cases b; simp_all
theorem noOp_iff {o : ROp} : noOp o = true ↔ o = zeroOp := by
  obtain ⟨a, b, c, d, e, f⟩ := o
  unfold noOp zeroOp
  simp only [Bool.and_eq_true, beq_iff_eq, ROp.mk.injEq]
  constructor
  · rintro ⟨⟨⟨⟨⟨h1, h2⟩, h3⟩, h4⟩, h5⟩, h6⟩; exact ⟨h1, h2, h3, h4, h5, h6⟩
  · rintro ⟨h1, h2, h3, h4, h5, h6⟩; exact ⟨⟨⟨⟨⟨h1, h2⟩, h3⟩, h4⟩, h5⟩, h6⟩
theorem good_iff {x : CmdOf} {n : Nat} : goodC x n = true ↔ GoodC x n := by
  have hd : dataG x n = true ↔ ((x.k = 2 → x.m ≤ 16 ∧ (n : Int) = 128 * x.m) ∧ (x.k ≠ 2 → n = 0)) := by
    unfold dataG
    by_cases e : x.k = 2
    · simp [e]
    · have : (x.k == 2) = false := by simpa using e
      simp [this, e]
  have ho : resG x = true ↔ ((x.k = 6 → (0 ≤ x.o.op ∧ x.o.op ≤ 255) ∧ 0 ≤ x.o.key ∧ 0 ≤ x.o.new ∧ (0 ≤ x.o.ty ∧ x.o.ty ≤ 255) ∧ x.o.who = 0) ∧ (x.k ≠ 6 → x.o = zeroOp)) := by
    unfold resG
    by_cases e : x.k = 6
    · simp [e, opG, inB]
      constructor
      · rintro ⟨⟨⟨⟨h1, h2⟩, h3⟩, h4⟩, h5⟩; exact ⟨h1, h2, h3, h4, h5⟩
      · rintro ⟨h1, h2, h3, h4, h5⟩; exact ⟨⟨⟨⟨h1, h2⟩, h3⟩, h4⟩, h5⟩
    · have : (x.k == 6) = false := by simpa using e
      rw [this]
      constructor
      · intro h; exact ⟨fun h' => absurd h' e, fun _ => noOp_iff.1 h⟩
      · intro h; exact noOp_iff.2 (h.2 e)
  unfold goodC inB
  rw [Bool.and_eq_true, Bool.and_eq_true, hd, ho]
  simp only [Bool.and_eq_true, decide_eq_true_eq]
  constructor
  · rintro ⟨⟨⟨⟨⟨h1, h2⟩, h3⟩, h4⟩, h5⟩, h6⟩
    exact ⟨h1, h2, h3, h4, h5, h6.1, h6.2⟩
  · intro h
    exact ⟨⟨⟨⟨⟨h.k, h.u⟩, h.b⟩, h.m⟩, h.data⟩, h.op, h.none⟩
/-- What a command's bytes say ahead of its Data: sizes and numbers. -/
def headC (x : CmdOf) : List (Int × Int) := [(1, x.k), (1, x.u), (2, x.b), (2, x.m)]
def tailC (o : ROp) : List (Int × Int) := [(1, o.op), (8, o.key), (8, o.new), (1, o.ty), (1, if o.s then 1 else 0)]
def numsC (x : CmdOf) : List (Int × Int) := if x.k == 6 then headC x ++ tailC x.o else headC x
theorem nums_six {x : CmdOf} (h : x.k = 6) : numsC x = headC x ++ tailC x.o := by unfold numsC; rw [h]; rfl
theorem nums_not {x : CmdOf} (h : x.k ≠ 6) : numsC x = headC x := by
  unfold numsC
  have : (x.k == 6) = false := by simpa using h
  rw [this]; rfl
theorem head_size (x : CmdOf) : sizeL (headC x) = 6 := rfl
theorem tail_size (o : ROp) : sizeL (tailC o) = 19 := rfl
def lenC (x : CmdOf) : Nat := (bytesN (numsC x)).1
def bytC (x : CmdOf) : Nat → Nat := (bytesN (numsC x)).2
theorem lenC_six {x : CmdOf} (h : x.k = 6) : lenC x = 25 := by
  unfold lenC bytesN
  rw [fold_size, nums_six h, sizeL_append]; rfl
theorem lenC_not {x : CmdOf} (h : x.k ≠ 6) : lenC x = 6 := by
  unfold lenC bytesN
  rw [fold_size, nums_not h]; rfl
theorem lenC_le (x : CmdOf) : lenC x ≤ 25 := by
  by_cases h : x.k = 6
  · rw [lenC_six h]; omega
  · rw [lenC_not h]; omega
/-- All of a command's bytes. -/
def allC (x : CmdOf) (g : Nat → Nat) : Nat → Nat := cat (lenC x) (bytC x) g
theorem allC_lt {x : CmdOf} {g : Nat → Nat} {n : Nat} (hg : ∀ j, j < n → g j < 256) (j : Nat) (hj : j < lenC x + n) : allC x g j < 256 := by
  unfold allC cat
  split
  · exact bytes_lt _ j
  · exact hg _ (by omega)
theorem all_laid (x : CmdOf) (g : Nat → Nat) : Laid (allC x g) 0 (numsC x) := by
  refine laid_ext (numsC x) 0 (fun j hj => ?_) (fold_laid (numsC x) (0, zeroK)).2
  have h := fold_size (numsC x) (0, zeroK)
  have h2 : lenC x = 0 + sizeL (numsC x) := h
  unfold allC cat
  rw [if_pos (by omega)]; rfl
theorem all_head (x : CmdOf) (g : Nat → Nat) : Laid (allC x g) 0 (headC x) := by
  have h := all_laid x g
  by_cases e : x.k = 6
  · rw [nums_six e] at h; exact (laid_append _ _ _ h).1
  · rw [nums_not e] at h; exact h
theorem all_tail {x : CmdOf} (e : x.k = 6) (g : Nat → Nat) : Laid (allC x g) 6 (tailC x.o) := by
  have h := all_laid x g
  rw [nums_six e] at h
  exact (laid_append _ _ _ h).2
structure NumOk (p : Int × Int) : Prop where
  size : IsSize p.1.toNat
  nat : (p.1.toNat : Int) = p.1
  fits : fitsN p.1.toNat p.2
theorem numOk8 (z : Int) : NumOk (8, z) := ⟨.inr (.inr (.inr rfl)), rfl, .inl rfl⟩
theorem numOk1 {z : Int} (h : 0 ≤ z ∧ z ≤ 255) : NumOk (1, z) := ⟨.inl rfl, rfl, .inr ⟨h.1, by rw [show (256 : Int) ^ (((1 : Int), z).1.toNat) = 256 from rfl]; show z < 256; omega⟩⟩
theorem numOk2 {z : Int} (h : 0 ≤ z ∧ z ≤ 65535) : NumOk (2, z) := ⟨.inr (.inl rfl), rfl, .inr ⟨h.1, by rw [show (256 : Int) ^ (((2 : Int), z).1.toNat) = 65536 from rfl]; show z < 65536; omega⟩⟩
theorem nums_ok {x : CmdOf} {n : Nat} (g : GoodC x n) : ∀ p ∈ numsC x, NumOk p := by
  have hh : ∀ p ∈ headC x, NumOk p := fun p hp => by
    simp only [headC, List.mem_cons, List.not_mem_nil, or_false] at hp
    rcases hp with rfl | rfl | rfl | rfl
    · exact numOk1 (by have := g.k; omega)
    · exact numOk1 g.u
    · exact numOk2 g.b
    · exact numOk2 g.m
  intro p hp
  by_cases e : x.k = 6
  · rw [nums_six e] at hp
    rcases List.mem_append.1 hp with h | h
    · exact hh p h
    · have ho := g.op e
      simp only [tailC, List.mem_cons, List.not_mem_nil, or_false] at h
      rcases h with rfl | rfl | rfl | rfl | rfl
      · exact numOk1 ho.1
      · exact numOk8 _
      · exact numOk8 _
      · exact numOk1 ho.2.2.2.1
      · exact numOk1 (by split <;> omega)
  · rw [nums_not e] at hp; exact hh p hp
theorem nums_len (x : CmdOf) : (numsC x).length ≤ 9 := by
  by_cases e : x.k = 6
  · rw [nums_six e]; show 9 ≤ 9; omega
  · rw [nums_not e]; show 4 ≤ 9; omega
/-! ### Told from bytes -/
/-- The command that bytes say, in form or not. -/
def rawO (G : Nat → Nat) : ROp := ⟨G 6, 0, IntKind.i64.wrap (valN 8 (fun j => G (7 + j)) : Nat), IntKind.i64.wrap (valN 8 (fun j => G (15 + j)) : Nat), G 23, ((G 24 : Nat) : Int) == 1⟩
def rawC (G : Nat → Nat) : CmdOf := ⟨G 0, G 1, (valN 2 (fun j => G (2 + j)) : Nat), (valN 2 (fun j => G (4 + j)) : Nat), if ((G 0 : Nat) : Int) == 6 then rawO G else zeroOp⟩
/-- .. and how many bytes of Data. -/
def rawN (G : Nat → Nat) (n : Nat) : Nat := if ((G 0 : Nat) : Int) == 2 then n - 6 else 0
def dataF (G : Nat → Nat) : Nat → Nat := fun j => G (6 + j)
/-- Are they a command's bytes? -/
def isC (n : Nat) (G : Nat → Nat) : Bool := decide (6 ≤ n) && (if ((G 0 : Nat) : Int) == 6 then decide (25 ≤ n) else true) && goodC (rawC G) (rawN G n) && decide (mk (lenC (rawC G) + rawN G n) (allC (rawC G) (dataF G)) = mk n G)
theorem mk_inj {n m : Nat} {F G : Nat → Nat} (h : mk n F = mk m G) : n = m ∧ ∀ j, j < n → F j = G j := by
  have hl : n = m := by have := congrArg List.length h; simpa [mk_len] using this
  subst hl
  refine ⟨rfl, fun j hj => ?_⟩
  have h2 := congrArg (fun l => l[j]?) h
  simp only [mk, List.getElem?_map, List.getElem?_range hj, Option.map_some, Option.some.injEq] at h2
  omega
theorem valN1 (g : Nat → Nat) : valN 1 g = g 0 := by unfold valN valN; simp
theorem okI_small {z : Int} (h : 0 ≤ z ∧ z ≤ 65535) : okI z := by unfold okI; omega
/-- What the bytes of a command in form say. -/
theorem raw_all {x : CmdOf} {n : Nat} {g : Nat → Nat} (h : GoodC x n) (hx : x.ok) : rawC (allC x g) = x ∧ rawN (allC x g) (lenC x + n) = n ∧ ∀ j, j < n → dataF (allC x g) j = g j := by
  obtain ⟨h1, h2, h3, h4, -⟩ := all_head x g
  have w1 : ∀ v : Nat, v ≤ 65535 → IntKind.i64.wrap (v : Int) = (v : Int) := fun v hv => IntWalk.i64_in _ (by omega)
  have e1 := laid_val (s := 1) h1 (.inl rfl) (numOk1 (by have := h.k; omega)).fits (okI_small (by have := h.k; omega))
  have e2 := laid_val (s := 1) h2 (.inl rfl) (numOk1 h.u).fits (okI_small (by have := h.u; omega))
  have e3 := laid_val (s := 2) h3 (.inr (.inl rfl)) (numOk2 h.b).fits (okI_small h.b)
  have e4 := laid_val (s := 2) h4 (.inr (.inl rfl)) (numOk2 h.m).fits (okI_small h.m)
  have lt : ∀ j, j < lenC x → allC x g j < 256 := fun j hj => by unfold allC cat; rw [if_pos hj]; exact bytes_lt _ j
  have l6 : 6 ≤ lenC x := by
    by_cases e : x.k = 6
    · rw [lenC_six e]; omega
    · rw [lenC_not e]; exact Nat.le_refl _
  have v2 : ∀ p, p + 2 ≤ lenC x → valN 2 (fun j => allC x g (p + j)) ≤ 65535 := fun p hp => by
    have := valN_lt (g := fun j => allC x g (p + j)) 2 (fun i hi => lt _ (by omega))
    rw [show (256 : Nat) ^ 2 = 65536 from rfl] at this; omega
  have k1 : ((allC x g 0 : Nat) : Int) = x.k := by
    have e : valN 1 (fun j => allC x g (0 + j)) = allC x g 0 := valN1 _
    have e1' : IntKind.i64.wrap (valN 1 (fun j => allC x g (0 + j)) : Nat) = x.k := e1
    rw [e, w1 _ (by have := lt 0 (by omega); omega)] at e1'; exact e1'
  have k2 : ((allC x g 1 : Nat) : Int) = x.u := by
    have e : valN 1 (fun j => allC x g (0 + 1 + j)) = allC x g 1 := valN1 _
    have e2' : IntKind.i64.wrap (valN 1 (fun j => allC x g (0 + 1 + j)) : Nat) = x.u := e2
    rw [e, w1 _ (by have := lt 1 (by omega); omega)] at e2'; exact e2'
  have k3 : ((valN 2 (fun j => allC x g (2 + j)) : Nat) : Int) = x.b := by
    have e3' : IntKind.i64.wrap (valN 2 (fun j => allC x g (2 + j)) : Nat) = x.b := e3
    rw [w1 _ (v2 2 (by omega))] at e3'; exact e3'
  have k4 : ((valN 2 (fun j => allC x g (4 + j)) : Nat) : Int) = x.m := by
    have e4' : IntKind.i64.wrap (valN 2 (fun j => allC x g (4 + j)) : Nat) = x.m := e4
    rw [w1 _ (v2 4 (by omega))] at e4'; exact e4'
  have k5 : (if ((allC x g 0 : Nat) : Int) == 6 then rawO (allC x g) else zeroOp) = x.o := by
    rw [k1]
    by_cases e : x.k = 6
    · rw [e, show ((6 : Int) == 6) = true from rfl, if_pos rfl]
      obtain ⟨o1, o2, o3, o4, o5⟩ := h.op e
      obtain ⟨t1, t2, t3, t4, t5, -⟩ := all_tail e g
      have l25 := lenC_six e
      have a1 := laid_val (s := 1) t1 (.inl rfl) (numOk1 o1).fits (okI_small (by omega))
      have a2 := laid_val (s := 8) t2 (.inr (.inr (.inr rfl))) (.inl rfl) hx.2.2.2.2.2.2.1
      have a3 := laid_val (s := 8) t3 (.inr (.inr (.inr rfl))) (.inl rfl) hx.2.2.2.2.2.2.2.1
      have a4 := laid_val (s := 1) t4 (.inl rfl) (numOk1 o4).fits (okI_small (by omega))
      have hs : 0 ≤ (if x.o.s then (1 : Int) else 0) ∧ (if x.o.s then (1 : Int) else 0) ≤ 255 := by split <;> omega
      have a5 := laid_val (s := 1) (z := if x.o.s then 1 else 0) t5 (.inl rfl) (numOk1 hs).fits (okI_small ⟨hs.1, by have := hs.2; omega⟩)
      refine ROp.ext' ?_ o5.symm ?_ ?_ ?_ ?_
      · have e' : valN 1 (fun j => allC x g (6 + j)) = allC x g 6 := valN1 _
        have a1' : IntKind.i64.wrap (valN 1 (fun j => allC x g (6 + j)) : Nat) = x.o.op := a1
        rw [e', w1 _ (by have := lt 6 (by omega); omega)] at a1'; exact a1'
      · exact a2
      · exact a3
      · have e' : valN 1 (fun j => allC x g (23 + j)) = allC x g 23 := valN1 _
        have a1' : IntKind.i64.wrap (valN 1 (fun j => allC x g (23 + j)) : Nat) = x.o.ty := a4
        rw [e', w1 _ (by have := lt 23 (by omega); omega)] at a1'; exact a1'
      · have e' : valN 1 (fun j => allC x g (24 + j)) = allC x g 24 := valN1 _
        have a1' : IntKind.i64.wrap (valN 1 (fun j => allC x g (24 + j)) : Nat) = if x.o.s then 1 else 0 := a5
        rw [e', w1 _ (by have := lt 24 (by omega); omega)] at a1'
        show (((allC x g 24 : Nat) : Int) == 1) = x.o.s
        rw [a1']; cases x.o.s <;> rfl
    · have : (x.k == 6) = false := by simpa using e
      rw [this]; exact (h.none e).symm
  refine ⟨?_, ?_, fun j hj => ?_⟩
  · unfold rawC
    rw [k1] at k5
    rw [k1, k2, k3, k4, k5]
  · unfold rawN
    rw [k1]
    by_cases e : x.k = 2
    · rw [e, show ((2 : Int) == 2) = true from rfl, if_pos rfl, lenC_not (by omega)]; omega
    · have : (x.k == 2) = false := by simpa using e
      rw [this, h.data.2 e]; rfl
  · by_cases e : x.k = 2
    · have l6 := lenC_not (x := x) (by omega)
      unfold dataF allC cat
      rw [l6, if_neg (by omega), Nat.add_sub_cancel_left]
    · have := h.data.2 e; omega
theorem isC_all {x : CmdOf} {n : Nat} {g : Nat → Nat} (h : GoodC x n) (hx : x.ok) : isC (lenC x + n) (allC x g) = true := by
  obtain ⟨h1, h2, h3⟩ := raw_all (g := g) h hx
  have hk : ((allC x g 0 : Nat) : Int) = x.k := congrArg CmdOf.k h1
  have l6 : 6 ≤ lenC x := by
    by_cases e : x.k = 6
    · rw [lenC_six e]; omega
    · rw [lenC_not e]; exact Nat.le_refl _
  have e4 : mk (lenC x + n) (allC x (dataF (allC x g))) = mk (lenC x + n) (allC x g) := mk_ext fun j hj => by
    unfold allC at h3 ⊢
    unfold cat
    by_cases e : j < lenC x
    · rw [if_pos e, if_pos e]
    · rw [if_neg e, if_neg e]
      exact h3 _ (by omega)
  unfold isC
  rw [h1, h2, good_iff.2 h, e4, hk, decide_eq_true (show 6 ≤ lenC x + n by omega)]
  simp
  by_cases e : x.k = 6
  · right; rw [lenC_six e]; omega
  · exact .inl e
end Go.Proofs.Ytkibeddfkenlkaa
