/- The contracts of the program's free, end, endAll, reserve, nobodys, Clone, copied. Conditions: as each says. -/
import Derived.Test.YtfnkdmdcjliebaaRvWo
namespace Go.Proofs.Ytfnkdmdcjliebaa
open Go.ChangeShapes Go.WideShapes Go.ChangeAt Go.RowKit
set_option linter.unusedVariables false
set_option linter.unusedSimpArgs false
/-- A struct's box and the result's box, made in this call. -/
structure TwS (w : World) (S R : Nat) (A B : Array Value) (V : World) : Prop where
  s : BoxA V S rvT A
  r : BoxA V R rvT B
  low : Below w.heap.size w V
  lo : w.heap.size ≤ S
  sr : S < R
namespace TwS
variable {w V V' : World} {S R : Nat} {A B A' B' : Array Value}
theorem mono (h : TwS w S R A B V) (hb : Below V.heap.size V V') : TwS w S R A B V' := ⟨h.s.keep (hb.block _ h.s.lt), h.r.keep (hb.block _ h.r.lt), h.low.trans (hb.mono h.low.size), h.lo, h.sr⟩
theorem setS (h : TwS w S R A B V) (x : BoxA V' S rvT A') (k : Keeps (fun j => j = S) V V') : TwS w S R A' B V' := ⟨x, h.r.keep (k.block _ h.r.lt (by have := h.sr; omega)), h.low.trans (k.below h.low.size (fun j hj e => by have := h.lo; omega)), h.lo, h.sr⟩
theorem setR (h : TwS w S R A B V) (x : BoxA V' R rvT B') (k : Keeps (fun j => j = R) V V') : TwS w S R A B' V' := ⟨h.s.keep (k.block _ h.s.lt (by have := h.sr; omega)), x, h.low.trans (k.below h.low.size (fun j hj e => by have := h.lo; have := h.sr; omega)), h.lo, h.sr⟩
theorem c0 {q : Option Addr} {n c : Nat} {r : ResvOf} (h : TwS w S R (resvA q n c r) B V) : V.cell? ⟨S, 0, none⟩ = some (.slice q n c) ∧ V.cell? ⟨S, 1, none⟩ = some (.int .i64 r.h) ∧ V.cell? ⟨S, 2, none⟩ = some (.int .i64 r.t) ∧ V.cell? ⟨S, 3, none⟩ = some (.bool r.s) ∧ V.cell? ⟨S, 4, none⟩ = some (.int .i64 r.g) := boxRv h.s
end TwS
theorem new2 {w w1 w2 : World} {A B : Array Value} (x1 : BoxA w1 w.heap.size rvT A) (l1 : Below w.heap.size w w1) (s1 : w1.heap.size = w.heap.size + 1) (x2 : BoxA w2 (w.heap.size + 1) rvT B) (l2 : Below w1.heap.size w1 w2) : TwS w w.heap.size (w.heap.size + 1) A B w2 :=
  ⟨x1.keep (l2.block _ x1.lt), x2, l1.trans (l2.mono l1.size), Nat.le_refl _, by omega⟩
theorem rvSz (q : Option Addr) (n c : Nat) (r : ResvOf) : (resvA q n c r).size = 5 := rfl
theorem set1 (q : Option Addr) (n c : Nat) (r : ResvOf) (z : Int) : (resvA q n c r).setIfInBounds 1 (.int .i64 z) = resvA q n c { r with h := z } := rfl
theorem set2 (q : Option Addr) (n c : Nat) (r : ResvOf) (z : Int) : (resvA q n c r).setIfInBounds 2 (.int .i64 z) = resvA q n c { r with t := z } := rfl
theorem set4 (q : Option Addr) (n c : Nat) (r : ResvOf) (z : Int) : (resvA q n c r).setIfInBounds 4 (.int .i64 z) = resvA q n c { r with g := z } := rfl
theorem set3 (q : Option Addr) (n c : Nat) (r : ResvOf) (b : Bool) : (resvA q n c r).setIfInBounds 3 (.bool b) = resvA q n c { r with s := b } := rfl
theorem set0 (q p : Option Addr) (n c m d : Nat) (r : ResvOf) : (resvA q n c r).setIfInBounds 0 (.slice p m d) = resvA p m d r := rfl
theorem inc64 (g : Int) : wrap64 (g + 1) = incR g := (IntWalk.i64_left _).symm
theorem resRet {V : World} {q : Option Addr} {n c : Nat} {r : ResvOf} {R : Nat} (h : BoxA V R rvT (resvA q n c r)) : V.heap[R]? = some (.cells (resvA q n c r) rvT (0, 0)) := h
/-- A struct's box, an operation's box and the result's box, made in this call. -/
structure ThS (w : World) (S P R : Nat) (A B : Array Value) (o : ROp) (V : World) : Prop where
  s : BoxA V S rvT A
  p : BoxA V P roT (ropA o)
  r : BoxA V R rvT B
  low : Below w.heap.size w V
  lo : w.heap.size ≤ S
  sp : S < P
  pr : P < R
namespace ThS
variable {w V V' : World} {S P R : Nat} {A B A' B' : Array Value} {o : ROp}
theorem mono (h : ThS w S P R A B o V) (hb : Below V.heap.size V V') : ThS w S P R A B o V' := ⟨h.s.keep (hb.block _ h.s.lt), h.p.keep (hb.block _ h.p.lt), h.r.keep (hb.block _ h.r.lt), h.low.trans (hb.mono h.low.size), h.lo, h.sp, h.pr⟩
theorem above (h : ThS w S P R A B o V) (hb : Below (R + 1) V V') : ThS w S P R A B o V' := ⟨h.s.keep (hb.block _ (by have := h.sp; have := h.pr; omega)), h.p.keep (hb.block _ (by have := h.pr; omega)), h.r.keep (hb.block _ (by omega)), h.low.trans (hb.mono (by have := h.lo; have := h.sp; have := h.pr; omega)), h.lo, h.sp, h.pr⟩
theorem drew (h : ThS w S P R A B o V) : ThS w S P R A B o V.drew := ⟨h.s, h.p, h.r, h.low.drew, h.lo, h.sp, h.pr⟩
theorem setS (h : ThS w S P R A B o V) (x : BoxA V' S rvT A') (k : Keeps (fun j => j = S) V V') : ThS w S P R A' B o V' := ⟨x, h.p.keep (k.block _ h.p.lt (by have := h.sp; omega)), h.r.keep (k.block _ h.r.lt (by have := h.sp; have := h.pr; omega)), h.low.trans (k.below h.low.size (fun j hj e => by have := h.lo; omega)), h.lo, h.sp, h.pr⟩
theorem setR (h : ThS w S P R A B o V) (x : BoxA V' R rvT B') (k : Keeps (fun j => j = R) V V') : ThS w S P R A B' o V' := ⟨h.s.keep (k.block _ h.s.lt (by have := h.sp; have := h.pr; omega)), h.p.keep (k.block _ h.p.lt (by have := h.pr; omega)), x, h.low.trans (k.below h.low.size (fun j hj e => by have := h.lo; have := h.sp; have := h.pr; omega)), h.lo, h.sp, h.pr⟩
theorem c {q : Option Addr} {n c : Nat} {r : ResvOf} (h : ThS w S P R (resvA q n c r) B o V) : V.cell? ⟨S, 0, none⟩ = some (.slice q n c) ∧ V.cell? ⟨S, 1, none⟩ = some (.int .i64 r.h) ∧ V.cell? ⟨S, 2, none⟩ = some (.int .i64 r.t) ∧ V.cell? ⟨S, 3, none⟩ = some (.bool r.s) ∧ V.cell? ⟨S, 4, none⟩ = some (.int .i64 r.g) := boxRv h.s
theorem d (h : ThS w S P R A B o V) : V.cell? ⟨P, 0, none⟩ = some (.int .i64 o.op) ∧ V.cell? ⟨P, 1, none⟩ = some (.int .i64 o.who) ∧ V.cell? ⟨P, 2, none⟩ = some (.int .i64 o.key) ∧ V.cell? ⟨P, 3, none⟩ = some (.int .i64 o.new) ∧ V.cell? ⟨P, 4, none⟩ = some (.int .i64 o.ty) ∧ V.cell? ⟨P, 5, none⟩ = some (.bool o.s) := boxRo h.p
end ThS
theorem new3 {w w1 w2 w3 : World} {A B : Array Value} {o : ROp} (x1 : BoxA w1 w.heap.size rvT A) (l1 : Below w.heap.size w w1) (s1 : w1.heap.size = w.heap.size + 1) (x2 : BoxA w2 (w.heap.size + 1) roT (ropA o)) (l2 : Below w1.heap.size w1 w2) (s2 : w2.heap.size = w.heap.size + 1 + 1) (x3 : BoxA w3 (w.heap.size + 1 + 1) rvT B) (l3 : Below w2.heap.size w2 w3) : ThS w w.heap.size (w.heap.size + 1) (w.heap.size + 1 + 1) A B o w3 :=
  ⟨(x1.keep (l2.block _ x1.lt)).keep (l3.block _ (by omega)), x2.keep (l3.block _ x2.lt), x3, (l1.trans (l2.mono l1.size)).trans (l3.mono (by omega)), Nat.le_refl _, by omega, by omega⟩
section
variable {o : Oper} {a : Act} {w : World} {C : World → Prop} {K : Act → Prop}
theorem gives_rofield (x : Operand) (k : Nat) (ho : o.op = .fieldAddr roT x k) (hk5 : k < 6) (B : Nat) (hx : a.eval x = .pointer (some ⟨B, 0, none⟩)) (hk : K (a.put o.dst (.pointer (some ⟨B, k, none⟩)))) : ∃ v, Gives Try.prog C o a v ∧ K (a.put o.dst v) :=
  ⟨_, fun w _ => by
    unfold execOp
    simp only [ho, hx]
    rcases k with _ | _ | _ | _ | _ | _ | k
    all_goals first | (exfalso; omega) | simp [go_sem], hk⟩
theorem done_boxA_int {K : Value → World → Prop} {T : TypeId} {A : Array Value} (x y : Operand) (ho : o.op = .store 3 x y) (O k : Nat) (z : Int) (hx : a.eval x = .pointer (some ⟨O, k, none⟩)) (hy : a.eval y = .int .i64 z) (hO : BoxA w O T A) (hk : k < A.size)
    (h : ∀ w', BoxA w' O T (A.setIfInBounds k (.int .i64 z)) → Keeps (fun j => j = O) w w' → w'.heap.size = w.heap.size → K undef w') : doneAt Try.prog o a w K := by
  have hc : w.cell? ⟨O, k, none⟩ = some A[k] := (hO.cell k).trans (Array.getElem?_eq_getElem hk)
  have hf := hO.free k
  have hh := h _ (hO.set k (.int .i64 z)) ((Keeps.refl (fun j => j = O) w).setCell rfl k (.int .i64 z)) (by simp [World.setCell])
  unfold doneAt execOp
  simp only [ho, hx, hy]
  simp [go_sem, hc, hf, doneUpon]
  exact hh
end
attribute [local irreducible] regC atR keyR inR risesR formR allR holdersR holdsR allowedR
attribute [local go_sem] Oper.semAt_some
set_option maxRecDepth 100000 in
set_option maxHeartbeats 4000000 in
theorem free_any (w : World) (q : Option Addr) (n c : Nat) (r : ResvOf) :
    Calls Try.prog 74 #[.agg (resvA q n c r)] w fun e w' => e = .returned (.agg (resvA q n c (freeR r))) ∧ Below w.heap.size w w' := by
  go_enter Try.func74, Try.ntmps74
  go_wp2_with (first
    | (with_reducible show wpList _ _ _ (⟨_, Op.box rvT _, _, _, _, none⟩ :: _) _ _
       refine wpList_boxA_of rfl _ rfl (resvA q n c r) rfl ?_
       intro w1 x1 l1 s1
       have X1 := Lib.hid x1
       have L1 := Lib.hid l1
       have S1 := Lib.hid s1
       clear x1 l1 s1)
    | (with_reducible show wpList _ _ _ (⟨_, Op.alloc rvT, _, _, _, _⟩ :: _) _ _
       refine wpList_boxA_new rowRv rfl rfl (w.heap.size + 1) S1.out ?_
       intro w2 x2 l2 s2
       have T2 := Lib.hid (new2 X1.out L1.out S1.out x2 l2)
       obtain ⟨c0, c1, c2, c3, c4⟩ := T2.out.c0
       clear x2 l2 s2 X1 L1 S1)
    | (with_reducible show wpList _ _ _ (⟨_, Op.store 3 (.tmp 3) _, _, _, _, none⟩ :: _) _ _
       refine wpList_boxA_int rfl _ _ rfl rfl w.heap.size 1 (-1) rfl rfl T2.out.s (by simp [resvA]) ?_
       intro w3 x k s
       rw [set1] at x
       have T3 := Lib.hid (T2.out.setS x k)
       clear x k s c0 c1 c2 c3 c4 T2
       obtain ⟨d0, d1, d2, d3, d4⟩ := T3.out.c0)
    | (with_reducible show wpList _ _ _ (⟨_, Op.store 3 (.tmp 4) _, _, _, _, none⟩ :: _) _ _
       refine wpList_boxA_int rfl _ _ rfl rfl w.heap.size 2 0 rfl rfl T3.out.s (by simp [resvA]) ?_
       intro w4 x k s
       rw [set2] at x
       have T4 := Lib.hid (T3.out.setS x k)
       clear x k s d0 d1 d2 d3 d4 T3
       obtain ⟨e0, e1, e2, e3, e4⟩ := T4.out.c0)
    | (with_reducible show wpList _ _ _ (⟨_, Op.load rvT _, _, _, _, none⟩ :: _) _ _
       refine wpList_boxA_load rowRv rfl _ rfl w.heap.size (resvA q n c (freeR r)) rfl rfl T4.out.s ?_)
    | (with_reducible show wpList _ _ _ (⟨_, Op.store rvT _ _, _, _, _, none⟩ :: _) _ _
       refine wpList_boxA_put rowRv rfl _ _ rfl rfl (w.heap.size + 1) (resvA q n c (freeR r)) _ rfl (rvA_one _ _ _ _) rfl rfl rfl T4.out.r ?_
       intro w9 x9 k9 s9
       have T9 := Lib.hid (T4.out.setR x9 k9)
       clear x9 k9 s9))
  exact bodyPost_ret (results_cell_row rfl _ _ (w.heap.size + 1) rvT (resvA q n c (freeR r)) (0, 0) _ rfl T9.out.r Try.underlying24 rfl (rvA_size _ _ _ _)) rfl ⟨rfl, T9.out.low⟩
set_option maxRecDepth 100000 in
set_option maxHeartbeats 4000000 in
theorem endAll_any (w : World) (q : Option Addr) (n c : Nat) (r : ResvOf) :
    Calls Try.prog 56 #[.agg (resvA q n c r)] w fun e w' => e = .returned (.agg (resvA none 0 0 { freeR r with regs := [], g := incR r.g })) ∧ Below w.heap.size w w' := by
  have HI := Lib.hid (show wrap64 ((freeR r).g + 1) = incR r.g from inc64 r.g)
  go_enter Try.func56, Try.ntmps56
  go_wp2_with (first
    | (with_reducible show wpList _ _ _ (⟨_, Op.box rvT _, _, _, _, none⟩ :: _) _ _
       refine wpList_boxA_of rfl _ rfl (resvA q n c r) rfl ?_
       intro w1 x1 l1 s1
       have X1 := Lib.hid x1
       have L1 := Lib.hid l1
       have S1 := Lib.hid s1
       clear x1 l1 s1)
    | (with_reducible show wpList _ _ _ (⟨_, Op.alloc rvT, _, _, _, _⟩ :: _) _ _
       refine wpList_boxA_new rowRv rfl rfl (w.heap.size + 1) S1.out ?_
       intro w2 x2 l2 s2
       have T2 := Lib.hid (new2 X1.out L1.out S1.out x2 l2)
       obtain ⟨c0, c1, c2, c3, c4⟩ := T2.out.c0
       clear x2 l2 s2 X1 L1 S1)
    | (with_reducible show wpList _ _ _ (⟨_, Op.load rvT _, _, _, _, none⟩ :: _) _ _
       refine wpList_boxA_load rowRv rfl _ rfl w.heap.size (resvA q n c r) rfl rfl T2.out.s ?_)
    | (go_at_call 74
       refine (free_any w2 q n c r).mono ?_; rintro e w3 ⟨rfl, hb3⟩
       have T3 := Lib.hid (T2.out.mono hb3)
       clear hb3 T2 c0 c1 c2 c3 c4)
    | (with_reducible show wpList _ _ _ (⟨_, Op.store rvT (.tmp 1) _, _, _, _, none⟩ :: _) _ _
       refine wpList_boxA_put rowRv rfl _ _ rfl rfl w.heap.size (resvA q n c (freeR r)) _ rfl (rvA_one _ _ _ _) rfl rfl rfl T3.out.s ?_
       intro w4 x4 k4 s4
       have T4 := Lib.hid (T3.out.setS x4 k4)
       clear x4 k4 s4 T3)
    | (with_reducible show wpList _ _ _ (⟨_, Op.store rgS _ _, _, _, _, none⟩ :: _) _ _
       refine wpList_boxA_slice rfl _ _ rfl rfl w.heap.size 0 none 0 0 rfl rfl T4.out.s (by simp [resvA]) ?_
       intro w5 x5 k5 s5
       rw [set0] at x5
       have T5 := Lib.hid (T4.out.setS x5 k5)
       clear x5 k5 s5 T4
       obtain ⟨d0, d1, d2, d3, d4⟩ := T5.out.c0)
    | (with_reducible show wpList _ _ _ (⟨_, Op.store 3 (.tmp 9) _, _, _, _, none⟩ :: _) _ _
       refine wpList_boxA_int rfl _ _ rfl rfl w.heap.size 4 _ rfl rfl T5.out.s (by simp [resvA]) ?_
       intro w6 x6 k6 s6
       rw [set4, HI.out] at x6
       have T6 := Lib.hid (T5.out.setS x6 k6)
       clear x6 k6 s6 T5 d0 d1 d2 d3 d4)
    | (with_reducible show wpList _ _ _ (⟨_, Op.load rvT _, _, _, _, none⟩ :: _) _ _
       refine wpList_boxA_load rowRv rfl _ rfl w.heap.size (resvA none 0 0 { freeR r with g := incR r.g }) rfl rfl T6.out.s ?_)
    | (with_reducible show wpList _ _ _ (⟨_, Op.store rvT _ _, _, _, _, none⟩ :: _) _ _
       refine wpList_boxA_put rowRv rfl _ _ rfl rfl (w.heap.size + 1) (resvA none 0 0 { freeR r with g := incR r.g }) _ rfl (rvA_one _ _ _ _) rfl rfl rfl T6.out.r ?_
       intro w9 x9 k9 s9
       have T9 := Lib.hid (T6.out.setR x9 k9)
       clear x9 k9 s9))
  exact bodyPost_ret (results_cell_row rfl _ _ (w.heap.size + 1) rvT (resvA none 0 0 { freeR r with g := incR r.g }) (0, 0) _ rfl T9.out.r Try.underlying24 rfl (rvA_size _ _ _ _)) rfl ⟨rfl, T9.out.low⟩
set_option maxRecDepth 100000 in
set_option maxHeartbeats 4000000 in
theorem nobodys_any (w : World) :
    Calls Try.prog 30 #[] w fun e w' => e = .returned (.agg (resvA none 0 0 nobodyR)) ∧ Below w.heap.size w w' := by
  have hbd : Try.prog.built rvT [(1, .int .i64 (-1))] = some (resvA none 0 0 nobodyR) := by kernel_rfl
  go_enter Try.func30, Try.ntmps30
  go_wp2_with (first
    | (with_reducible show wpList _ _ _ (⟨_, Op.alloc rvT, _, _, _, _⟩ :: _) _ _
       refine wpList_boxA_new rowRv rfl rfl w.heap.size rfl ?_
       intro w2 x2 l2 s2
       have X2 := Lib.hid x2
       have L2 := Lib.hid l2
       clear x2 l2 s2)
    | (with_reducible show wpList _ _ _ (⟨_, Op.build _ _, _, _, _, none⟩ :: _) _ _
       refine wpList_build_any rfl rvT _ #[(1, .int .i64 (-1))] _ rfl rfl (fun w => run_build w rvT #[(1, .int .i64 (-1))] _ hbd) ?_)
    | (with_reducible show wpList _ _ _ (⟨_, Op.store rvT _ _, _, _, _, none⟩ :: _) _ _
       refine wpList_boxA_put rowRv rfl _ _ rfl rfl w.heap.size (resvA none 0 0 nobodyR) _ rfl (rvA_one _ _ _ _) rfl rfl rfl X2.out ?_
       intro w9 x9 k9 s9
       have X9 := Lib.hid x9
       have L9 := Lib.hid (L2.out.trans (k9.below L2.out.size (fun j hj e => by omega)))
       clear x9 k9 s9))
  exact bodyPost_ret (results_cell_row rfl _ _ w.heap.size rvT (resvA none 0 0 nobodyR) (0, 0) _ rfl X9.out Try.underlying24 rfl (rvA_size _ _ _ _)) rfl ⟨rfl, L9.out⟩
set_option maxRecDepth 100000 in
set_option maxHeartbeats 8000000 in
theorem end_any {w : World} (q : Option Addr) (n c : Nat) (r : ResvOf) (who : Int) {p : Option Addr} {m d : Nat} {ks : List (Int × Int)} (hp : RegsAt w p ks) (hm : ks.length = m) :
    Calls Try.prog 70 #[.agg (resvA q n c r), .int .i64 who, .slice p m d] w fun e w' => e = .returned (.agg (resvA p m d (endP r who ks))) ∧ Below w.heap.size w w' := by
  have HA := Lib.hid (fun (W : World) => allHold_any r.t W)
  have HP := Lib.hid (fun (h : 0 < ks.length) => regs_at hp h)
  have HV := Lib.hid (show endP r who ks = if !(who == r.h) then { r with regs := ks } else if allR r.t && decide (0 < m) then { r with regs := ks, h := (atR ks 0).1 } else freeR { r with regs := ks } from by rw [← hm, atR_zero]; rfl)
  rw [hm] at HP
  clear hp hm
  generalize endP r who ks = v at *
  go_enter Try.func70, Try.ntmps70
  by_cases h1 : who = r.h
  · have e1 : (who == r.h) = true := by simpa using h1
    have e2 : (who != r.h) = false := by simpa using h1
    rw [e1] at HV
    cases h2 : allR r.t with
    | true =>
      rw [h2] at HV HA
      by_cases h3 : 0 < m
      · have HE := Lib.hid (show v = { r with regs := ks, h := (atR ks 0).1 } by rw [HV.out, decide_eq_true h3]; rfl)
        obtain ⟨QB, qo, rfl, hQB, hrg⟩ := HP.out h3
        have HRG := Lib.hid (fun (V : World) (hb : Below w.heap.size w V) => (by have h := reg_c0 (rangeAt_below hrg hb hQB); rwa [Nat.mul_zero, Nat.add_zero] at h : V.cell? ⟨QB, qo, none⟩ = some (.int .i64 (atR ks 0).1)))
        have H3 := Lib.hid h3
        have f1 : (0 : Int) < (m : Int) := by omega
        clear HV HP hrg hQB h3 h2
        generalize atR ks 0 = x at *
        go_wp2_with (first
    | (with_reducible show wpList _ _ _ (⟨_, Op.box rvT _, _, _, _, none⟩ :: _) _ _
       refine wpList_boxA_of rfl _ rfl (resvA q n c r) rfl ?_
       intro w1 x1 l1 s1
       have X1 := Lib.hid x1
       have L1 := Lib.hid l1
       have S1 := Lib.hid s1
       clear x1 l1 s1)
    | (with_reducible show wpList _ _ _ (⟨_, Op.alloc rvT, _, _, _, _⟩ :: _) _ _
       refine wpList_boxA_new rowRv rfl rfl (w.heap.size + 1) S1.out ?_
       intro w2 x2 l2 s2
       have T2 := Lib.hid (new2 X1.out L1.out S1.out x2 l2)
       obtain ⟨c0, c1, c2, c3, c4⟩ := T2.out.c0
       clear x2 l2 s2 X1 L1 S1)
    | (with_reducible show wpList _ _ _ (⟨_, Op.store rgS _ _, _, _, _, none⟩ :: _) _ _
       refine wpList_boxA_slice rfl _ _ rfl rfl w.heap.size 0 _ _ _ rfl rfl T2.out.s (by simp [resvA]) ?_
       intro w3 x k s
       rw [set0] at x
       have T3 := Lib.hid (T2.out.setS x k)
       clear x k s T2 c0 c1 c2 c3 c4
       obtain ⟨c0, c1, c2, c3, c4⟩ := T3.out.c0)
    | (go_at_call 59
       refine (HA.out _).mono ?_; rintro e w4 ⟨rfl, rfl⟩
       have kd := HRG.out w3 T3.out.low)
    | (with_reducible show wpList _ _ _ (⟨_, Op.indexAddr _ _ _, _, _, _, none⟩ :: _) _ _
       refine wpList_reg_elem rfl _ _ rfl QB qo m d 0 rfl rfl H3.out ?_)
    | (with_reducible show wpList _ _ _ (⟨_, Op.store 3 _ _, _, _, _, none⟩ :: _) _ _
       refine wpList_boxA_int rfl _ _ rfl rfl w.heap.size 1 x.1 rfl rfl T3.out.s (by simp [resvA]) ?_
       intro w5 x5 k5 s5
       rw [set1] at x5
       have T5 := Lib.hid (T3.out.setS x5 k5)
       clear x5 k5 s5 T3 c0 c1 c2 c3 c4 kd)
    | (with_reducible show wpList _ _ _ (⟨_, Op.load rvT _, _, _, _, none⟩ :: _) _ _
       refine wpList_boxA_load rowRv rfl _ rfl w.heap.size (resvA (some ⟨QB, qo, none⟩) m d { r with h := x.1 }) rfl rfl T5.out.s ?_)
    | (with_reducible show wpList _ _ _ (⟨_, Op.store rvT _ _, _, _, _, none⟩ :: _) _ _
       refine wpList_boxA_put rowRv rfl _ _ rfl rfl (w.heap.size + 1) (resvA (some ⟨QB, qo, none⟩) m d { r with h := x.1 }) _ rfl (rvA_one _ _ _ _) rfl rfl rfl T5.out.r ?_
       intro w9 x9 k9 s9
       have T9 := Lib.hid (T5.out.setR x9 k9)
       clear x9 k9 s9))
        exact bodyPost_ret (results_cell_row rfl _ _ (w.heap.size + 1) rvT (resvA (some ⟨QB, qo, none⟩) m d { r with h := x.1 }) (0, 0) _ rfl T9.out.r Try.underlying24 rfl (rvA_size _ _ _ _)) rfl ⟨by rw [HE.out]; try rfl, T9.out.low⟩
      · have HE := Lib.hid (show v = freeR { r with regs := ks } by rw [HV.out, decide_eq_false h3]; rfl)
        have f1 : ¬ (0 : Int) < (m : Int) := by omega
        clear HV HP h3 h2
        go_wp2_with (first
    | (with_reducible show wpList _ _ _ (⟨_, Op.box rvT _, _, _, _, none⟩ :: _) _ _
       refine wpList_boxA_of rfl _ rfl (resvA q n c r) rfl ?_
       intro w1 x1 l1 s1
       have X1 := Lib.hid x1
       have L1 := Lib.hid l1
       have S1 := Lib.hid s1
       clear x1 l1 s1)
    | (with_reducible show wpList _ _ _ (⟨_, Op.alloc rvT, _, _, _, _⟩ :: _) _ _
       refine wpList_boxA_new rowRv rfl rfl (w.heap.size + 1) S1.out ?_
       intro w2 x2 l2 s2
       have T2 := Lib.hid (new2 X1.out L1.out S1.out x2 l2)
       obtain ⟨c0, c1, c2, c3, c4⟩ := T2.out.c0
       clear x2 l2 s2 X1 L1 S1)
    | (with_reducible show wpList _ _ _ (⟨_, Op.store rgS _ _, _, _, _, none⟩ :: _) _ _
       refine wpList_boxA_slice rfl _ _ rfl rfl w.heap.size 0 _ _ _ rfl rfl T2.out.s (by simp [resvA]) ?_
       intro w3 x k s
       rw [set0] at x
       have T3 := Lib.hid (T2.out.setS x k)
       clear x k s T2 c0 c1 c2 c3 c4
       obtain ⟨c0, c1, c2, c3, c4⟩ := T3.out.c0)
    | (go_at_call 59
       refine (HA.out _).mono ?_; rintro e w4 ⟨rfl, rfl⟩)
    | (with_reducible show wpList _ _ _ (⟨_, Op.load rvT _, _, _, _, none⟩ :: _) _ _
       refine wpList_boxA_load rowRv rfl _ rfl w.heap.size (resvA p m d r) rfl rfl T3.out.s ?_)
    | (go_at_call 74
       refine (free_any _ p m d r).mono ?_; rintro e w4 ⟨rfl, hb4⟩
       have T5 := Lib.hid (T3.out.mono hb4)
       clear hb4 T3 c0 c1 c2 c3 c4)
    | (with_reducible show wpList _ _ _ (⟨_, Op.store rvT _ _, _, _, _, none⟩ :: _) _ _
       refine wpList_boxA_put rowRv rfl _ _ rfl rfl (w.heap.size + 1) (resvA p m d (freeR r)) _ rfl (rvA_one _ _ _ _) rfl rfl rfl T5.out.r ?_
       intro w9 x9 k9 s9
       have T9 := Lib.hid (T5.out.setR x9 k9)
       clear x9 k9 s9))
        exact bodyPost_ret (results_cell_row rfl _ _ (w.heap.size + 1) rvT (resvA p m d (freeR r)) (0, 0) _ rfl T9.out.r Try.underlying24 rfl (rvA_size _ _ _ _)) rfl ⟨by rw [HE.out]; try rfl, T9.out.low⟩
    | false =>
      rw [h2] at HV HA
      have HE := Lib.hid (show v = freeR { r with regs := ks } by rw [HV.out]; rfl)
      clear HV HP h2
      go_wp2_with (first
    | (with_reducible show wpList _ _ _ (⟨_, Op.box rvT _, _, _, _, none⟩ :: _) _ _
       refine wpList_boxA_of rfl _ rfl (resvA q n c r) rfl ?_
       intro w1 x1 l1 s1
       have X1 := Lib.hid x1
       have L1 := Lib.hid l1
       have S1 := Lib.hid s1
       clear x1 l1 s1)
    | (with_reducible show wpList _ _ _ (⟨_, Op.alloc rvT, _, _, _, _⟩ :: _) _ _
       refine wpList_boxA_new rowRv rfl rfl (w.heap.size + 1) S1.out ?_
       intro w2 x2 l2 s2
       have T2 := Lib.hid (new2 X1.out L1.out S1.out x2 l2)
       obtain ⟨c0, c1, c2, c3, c4⟩ := T2.out.c0
       clear x2 l2 s2 X1 L1 S1)
    | (with_reducible show wpList _ _ _ (⟨_, Op.store rgS _ _, _, _, _, none⟩ :: _) _ _
       refine wpList_boxA_slice rfl _ _ rfl rfl w.heap.size 0 _ _ _ rfl rfl T2.out.s (by simp [resvA]) ?_
       intro w3 x k s
       rw [set0] at x
       have T3 := Lib.hid (T2.out.setS x k)
       clear x k s T2 c0 c1 c2 c3 c4
       obtain ⟨c0, c1, c2, c3, c4⟩ := T3.out.c0)
    | (go_at_call 59
       refine (HA.out _).mono ?_; rintro e w4 ⟨rfl, rfl⟩)
    | (with_reducible show wpList _ _ _ (⟨_, Op.load rvT _, _, _, _, none⟩ :: _) _ _
       refine wpList_boxA_load rowRv rfl _ rfl w.heap.size (resvA p m d r) rfl rfl T3.out.s ?_)
    | (go_at_call 74
       refine (free_any _ p m d r).mono ?_; rintro e w4 ⟨rfl, hb4⟩
       have T5 := Lib.hid (T3.out.mono hb4)
       clear hb4 T3 c0 c1 c2 c3 c4)
    | (with_reducible show wpList _ _ _ (⟨_, Op.store rvT _ _, _, _, _, none⟩ :: _) _ _
       refine wpList_boxA_put rowRv rfl _ _ rfl rfl (w.heap.size + 1) (resvA p m d (freeR r)) _ rfl (rvA_one _ _ _ _) rfl rfl rfl T5.out.r ?_
       intro w9 x9 k9 s9
       have T9 := Lib.hid (T5.out.setR x9 k9)
       clear x9 k9 s9))
      exact bodyPost_ret (results_cell_row rfl _ _ (w.heap.size + 1) rvT (resvA p m d (freeR r)) (0, 0) _ rfl T9.out.r Try.underlying24 rfl (rvA_size _ _ _ _)) rfl ⟨by rw [HE.out]; try rfl, T9.out.low⟩
  · have e1 : (who == r.h) = false := by simpa using h1
    have e2 : (who != r.h) = true := by simpa using h1
    rw [e1] at HV
    have HE := Lib.hid (show v = { r with regs := ks } by rw [HV.out]; rfl)
    clear HV HP
    go_wp2_with (first
    | (with_reducible show wpList _ _ _ (⟨_, Op.box rvT _, _, _, _, none⟩ :: _) _ _
       refine wpList_boxA_of rfl _ rfl (resvA q n c r) rfl ?_
       intro w1 x1 l1 s1
       have X1 := Lib.hid x1
       have L1 := Lib.hid l1
       have S1 := Lib.hid s1
       clear x1 l1 s1)
    | (with_reducible show wpList _ _ _ (⟨_, Op.alloc rvT, _, _, _, _⟩ :: _) _ _
       refine wpList_boxA_new rowRv rfl rfl (w.heap.size + 1) S1.out ?_
       intro w2 x2 l2 s2
       have T2 := Lib.hid (new2 X1.out L1.out S1.out x2 l2)
       obtain ⟨c0, c1, c2, c3, c4⟩ := T2.out.c0
       clear x2 l2 s2 X1 L1 S1)
    | (with_reducible show wpList _ _ _ (⟨_, Op.store rgS _ _, _, _, _, none⟩ :: _) _ _
       refine wpList_boxA_slice rfl _ _ rfl rfl w.heap.size 0 _ _ _ rfl rfl T2.out.s (by simp [resvA]) ?_
       intro w3 x k s
       rw [set0] at x
       have T3 := Lib.hid (T2.out.setS x k)
       clear x k s T2 c0 c1 c2 c3 c4
       obtain ⟨c0, c1, c2, c3, c4⟩ := T3.out.c0)
    | (with_reducible show wpList _ _ _ (⟨_, Op.load rvT _, _, _, _, none⟩ :: _) _ _
       refine wpList_boxA_load rowRv rfl _ rfl w.heap.size (resvA p m d r) rfl rfl T3.out.s ?_)
    | (with_reducible show wpList _ _ _ (⟨_, Op.store rvT _ _, _, _, _, none⟩ :: _) _ _
       refine wpList_boxA_put rowRv rfl _ _ rfl rfl (w.heap.size + 1) (resvA p m d r) _ rfl (rvA_one _ _ _ _) rfl rfl rfl T3.out.r ?_
       intro w9 x9 k9 s9
       have T9 := Lib.hid (T3.out.setR x9 k9)
       clear x9 k9 s9))
    exact bodyPost_ret (results_cell_row rfl _ _ (w.heap.size + 1) rvT (resvA p m d r) (0, 0) _ rfl T9.out.r Try.underlying24 rfl (rvA_size _ _ _ _)) rfl ⟨by rw [HE.out]; try rfl, T9.out.low⟩
set_option maxRecDepth 100000 in
set_option maxHeartbeats 8000000 in
theorem reserve_any {w : World} (q : Option Addr) (n c : Nat) (r : ResvOf) (o : ROp) :
    Calls Try.prog 53 #[.agg (resvA q n c r), .agg (ropA o)] w fun e w' => e = .returned (.agg (resvA q n c (reserveP r o))) ∧ Below w.heap.size w w' := by
  have HV := Lib.hid (show reserveP r o = if r.h == -1 then { r with h := o.who, t := o.ty } else r from rfl)
  generalize reserveP r o = v at *
  go_enter Try.func53, Try.ntmps53
  cases h1 : (r.h == -1) with
  | true =>
    have HE := Lib.hid (show v = { r with h := o.who, t := o.ty } by rw [HV.out, h1]; rfl)
    clear HV
    go_wp2_with (first
    | (with_reducible show wpList _ _ _ (⟨_, Op.box rvT _, _, _, _, none⟩ :: _) _ _
       refine wpList_boxA_of rfl _ rfl (resvA q n c r) rfl ?_
       intro w1 x1 l1 s1
       have X1 := Lib.hid x1
       have L1 := Lib.hid l1
       have S1 := Lib.hid s1
       clear x1 l1 s1)
    | (with_reducible show wpList _ _ _ (⟨_, Op.box roT _, _, _, _, none⟩ :: _) _ _
       refine wpList_boxA_of rfl _ rfl (ropA o) rfl ?_
       intro w2 x2 l2 s2
       rw [S1.out] at x2 s2
       rw [S1.out]
       have X2 := Lib.hid x2
       have L2 := Lib.hid l2
       have S2 := Lib.hid s2
       clear x2 l2 s2)
    | (with_reducible show wpList _ _ _ (⟨_, Op.alloc rvT, _, _, _, _⟩ :: _) _ _
       refine wpList_boxA_new rowRv rfl rfl (w.heap.size + 1 + 1) S2.out ?_
       intro w3 x3 l3 s3
       have T3 := Lib.hid (new3 X1.out L1.out S1.out X2.out L2.out S2.out x3 l3)
       obtain ⟨c0, c1, c2, c3, c4⟩ := T3.out.c
       obtain ⟨d0, d1, d2, d3, d4, d5⟩ := T3.out.d
       clear x3 l3 s3 X1 L1 S1 X2 L2 S2))
    clear c0 c1 c2 c3 c4 d0 d1 d2 d3 d4 d5
    refine wp_region_sched [(0, true), (1, true), (2, true), (3, true), (4, true), (5, false), (6, true), (7, false)] (fun V => BoxA V (w.heap.size + 1) roT (ropA o)) (by kernel_rfl) (by kernel_rfl) (show BoxA _ _ roT (ropA o) from T3.out.p) ?_
    refine walk_float rfl rfl (fun K hK => ?_)
    refine gives_rofield _ 1 rfl (by decide) (w.heap.size + 1) rfl ?_
    go_simp
    refine hK _ ?_
    clear hK K
    refine walk_float rfl rfl (fun K hK => ?_)
    refine gives_cell 3 _ rfl ⟨w.heap.size + 1, 1, none⟩ (.int .i64 o.who) rfl box_int (fun V hV => (boxRo hV).2.1) ?_
    go_simp
    refine hK _ ?_
    clear hK K
    refine walk_float rfl rfl (fun K hK => ?_)
    refine gives_rofield _ 4 rfl (by decide) (w.heap.size + 1) rfl ?_
    go_simp
    refine hK _ ?_
    clear hK K
    refine walk_float rfl rfl (fun K hK => ?_)
    refine gives_cell 3 _ rfl ⟨w.heap.size + 1, 4, none⟩ (.int .i64 o.ty) rfl box_int (fun V hV => (boxRo hV).2.2.2.2.1) ?_
    go_simp
    refine hK _ ?_
    clear hK K
    refine walk_float rfl rfl (fun K hK => ?_)
    refine gives_rvfield _ 1 rfl (by decide) w.heap.size rfl ?_
    go_simp
    refine hK _ ?_
    clear hK K
    have TD := Lib.hid T3.out.drew
    refine walk_done rfl rfl (fun K hK => ?_)
    refine done_boxA_int _ _ rfl w.heap.size 1 o.who rfl rfl TD.out.s (by simp [resvA]) ?_
    intro y1 xx kk ss
    rw [set1] at xx
    have TE := Lib.hid (TD.out.setS xx kk)
    clear xx kk ss
    refine ⟨TE.out.p, ?_⟩
    go_simp
    refine hK _ _ ?_
    clear hK K
    refine walk_float rfl rfl (fun K hK => ?_)
    refine gives_rvfield _ 2 rfl (by decide) w.heap.size rfl ?_
    go_simp
    refine hK _ ?_
    clear hK K
    refine walk_done rfl rfl (fun K hK => ?_)
    refine done_boxA_int _ _ rfl w.heap.size 2 o.ty rfl rfl TE.out.s (by simp [resvA]) ?_
    intro y2 xx kk ss
    rw [set2] at xx
    have T5 := Lib.hid (TE.out.setS xx kk)
    clear xx kk ss
    refine ⟨T5.out.p, ?_⟩
    go_simp
    refine hK _ _ ?_
    clear hK K TD TE
    refine walk_nil ?_
    go_wp2_with (first
    | (with_reducible show wpList _ _ _ (⟨_, Op.load rvT _, _, _, _, none⟩ :: _) _ _
       refine wpList_boxA_load rowRv rfl _ rfl w.heap.size (resvA q n c { r with h := o.who, t := o.ty }) rfl rfl T5.out.s ?_)
    | (with_reducible show wpList _ _ _ (⟨_, Op.store rvT _ _, _, _, _, none⟩ :: _) _ _
       refine wpList_boxA_put rowRv rfl _ _ rfl rfl (w.heap.size + 1 + 1) (resvA q n c { r with h := o.who, t := o.ty }) _ rfl (rvA_one _ _ _ _) rfl rfl rfl T5.out.r ?_
       intro w9 x9 k9 s9
       have T9 := Lib.hid (T5.out.setR x9 k9)
       clear x9 k9 s9))
    exact bodyPost_ret (results_cell_row rfl _ _ (w.heap.size + 1 + 1) rvT (resvA q n c { r with h := o.who, t := o.ty }) (0, 0) _ rfl T9.out.r Try.underlying24 rfl (rvA_size _ _ _ _)) rfl ⟨by rw [HE.out]; try rfl, T9.out.low⟩
  | false =>
    have HE := Lib.hid (show v = r by rw [HV.out, h1]; rfl)
    clear HV
    go_wp2_with (first
    | (with_reducible show wpList _ _ _ (⟨_, Op.box rvT _, _, _, _, none⟩ :: _) _ _
       refine wpList_boxA_of rfl _ rfl (resvA q n c r) rfl ?_
       intro w1 x1 l1 s1
       have X1 := Lib.hid x1
       have L1 := Lib.hid l1
       have S1 := Lib.hid s1
       clear x1 l1 s1)
    | (with_reducible show wpList _ _ _ (⟨_, Op.box roT _, _, _, _, none⟩ :: _) _ _
       refine wpList_boxA_of rfl _ rfl (ropA o) rfl ?_
       intro w2 x2 l2 s2
       rw [S1.out] at x2 s2
       rw [S1.out]
       have X2 := Lib.hid x2
       have L2 := Lib.hid l2
       have S2 := Lib.hid s2
       clear x2 l2 s2)
    | (with_reducible show wpList _ _ _ (⟨_, Op.alloc rvT, _, _, _, _⟩ :: _) _ _
       refine wpList_boxA_new rowRv rfl rfl (w.heap.size + 1 + 1) S2.out ?_
       intro w3 x3 l3 s3
       have T3 := Lib.hid (new3 X1.out L1.out S1.out X2.out L2.out S2.out x3 l3)
       obtain ⟨c0, c1, c2, c3, c4⟩ := T3.out.c
       obtain ⟨d0, d1, d2, d3, d4, d5⟩ := T3.out.d
       clear x3 l3 s3 X1 L1 S1 X2 L2 S2)
    | (with_reducible show wpList _ _ _ (⟨_, Op.load rvT _, _, _, _, none⟩ :: _) _ _
       refine wpList_boxA_load rowRv rfl _ rfl w.heap.size (resvA q n c r) rfl rfl T3.out.s ?_)
    | (with_reducible show wpList _ _ _ (⟨_, Op.store rvT _ _, _, _, _, none⟩ :: _) _ _
       refine wpList_boxA_put rowRv rfl _ _ rfl rfl (w.heap.size + 1 + 1) (resvA q n c r) _ rfl (rvA_one _ _ _ _) rfl rfl rfl T3.out.r ?_
       intro w9 x9 k9 s9
       have T9 := Lib.hid (T3.out.setR x9 k9)
       clear x9 k9 s9))
    exact bodyPost_ret (results_cell_row rfl _ _ (w.heap.size + 1 + 1) rvT (resvA q n c r) (0, 0) _ rfl T9.out.r Try.underlying24 rfl (rvA_size _ _ _ _)) rfl ⟨by rw [HE.out]; try rfl, T9.out.low⟩
end Go.Proofs.Ytfnkdmdcjliebaa
