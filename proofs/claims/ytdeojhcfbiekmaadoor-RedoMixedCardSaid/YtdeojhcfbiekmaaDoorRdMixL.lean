/- What RedoMixed's and RedoReturns' walks ask: the law's arguments in boxes, laws of regions walked by one order. Conditions: as each says. -/
import Derived.Test.YtdeojhcfbiekmaaDoorRdCopyS
namespace Go.Proofs.YtdeojhcfbiekmaaDoor
open Go.ChangeShapes Go.WideShapes Go.ChangeAt Go.RowKit
set_option linter.unusedVariables false
theorem box_rows (w : World) : (isAgg 23).run Tryd.prog w = .ok false w := by simp [go_sem]
theorem done_enter3 {o : Oper} {a : Act} {w : World} {K : Value → World → Prop} (x y z t : Operand) (ts : Array TypeId) (ho : o.op = .call { callee := .value x, args := #[y, z, t], argTypes := ts }) (g : FuncId)
    (hx : a.eval x = .func (.func g) #[] #[]) (hf : ∀ (args : Array Value) (w : World), (callFunc g args).run Tryd.prog w = .ok (.enter g args) w) (u v s : Value) (hy : a.eval y = u) (hz : a.eval z = v) (ht : a.eval t = s) (R : Ending → World → Prop) (hc : Calls Tryd.prog g #[u, v, s] w R) (hk : ∀ e w', R e w' → ∃ u, e = .returned u ∧ K u w') : doneAt Tryd.prog o a w K :=
  done_call x #[y, z, t] ts ho g #[u, v, s] hx (by simp only [List.map_toArray, List.map_cons, List.map_nil, hy, hz, ht]) (hf _ w) (hc.mono hk)
section
variable {o : Oper} {a : Act} {C : World → Prop} {K : Act → Prop}
theorem gives_entryfield (x : Operand) (k : Nat) (ho : o.op = .fieldAddr 53 x k) (hk5 : k < 4) (O : Nat) (hx : a.eval x = .pointer (some ⟨O, 0, none⟩)) (hk : K (a.put o.dst (.pointer (some ⟨O, k, none⟩)))) : ∃ v, Gives Tryd.prog C o a v ∧ K (a.put o.dst v) :=
  ⟨_, fun w _ => by
    unfold execOp
    simp only [ho, hx]
    rcases k with _ | _ | _ | _ | k
    all_goals first | (exfalso; omega) | simp [go_sem, addr_add], hk⟩
theorem gives_extract (x : Operand) (k : Nat) (ho : o.op = .extract x k) (vs : Array Value) (v : Value) (hx : a.eval x = .tuple vs) (hv : vs[k]? = some v) (hk : K (a.put o.dst v)) : ∃ v, Gives Tryd.prog C o a v ∧ K (a.put o.dst v) :=
  ⟨_, fun w _ => by
    unfold execOp
    simp only [ho, hx]
    simp [go_sem, hv], hk⟩
end
theorem wpList_max {ops : Array Oper} {rest : List Oper} {o : Oper} {a : Act} {w : World} {Q : Exit → Act → World → Prop} (hgd : o.guard = none) (x y : Operand) (ho : o.op = .call { callee := .builtin .max, args := #[x, y], argTypes := #[3, 3] }) (n m N : Nat) (hN : max n m = N) (hx : a.eval x = .int .i64 n) (hy : a.eval y = .int .i64 m) (h : wpList Tryd.prog ops Q rest (a.put o.dst (.int .i64 N)) w) : wpList Tryd.prog ops Q (o :: rest) a w :=
  wpList_plain hgd fun K hK => by
    have hr : (Builtin.max_ #[3, 3] o.type #[.int .i64 n, .int .i64 m]).run Tryd.prog w = .ok (.int .i64 N) w := by
      simp [go_sem]
      omega
    unfold Oper.wp execOp
    simp only [ho]
    simp [hx, hy, resolve, invoke, builtin, hr, Result.andThen]
    exact hK _ _ h
theorem EncSays.tup {τ : List Int → List Int} {count : Int} {l : List PutOf} {base : Nat} {w' : World} {e : Ending} (h : EncSays τ count l base w' e) : ∃ v1 v2, e = .returned (.tuple #[v1, v2]) := by
  rcases h with ⟨_, B, c, he, _⟩ | ⟨_, he⟩
  · exact ⟨_, _, he⟩
  · exact ⟨_, _, he⟩
/-- The law's arguments. -/
structure MxP where
  kp : Option Addr
  n : Nat
  kc : Nat
  g : Nat → Nat
  za : Int
  qa : Option Addr
  la : List RowOf
  ca : Nat
  ma : Int
  kb : Option Addr
  nb : Nat
  kbc : Nat
  zb : Int
  qb : Option Addr
  lb : List RowOf
  cb : Nat
  mb : Int
  qp : Option Addr
  lp : List Int
  cp : Nat
def MxP.xa (P : MxP) : Array Value := #[.slice P.kp P.n P.kc, .int .i64 P.za, .slice P.qa P.la.length P.ca, .int .i64 P.ma]
def MxP.xb (P : MxP) : Array Value := #[.slice P.kb P.nb P.kbc, .int .i64 P.zb, .slice P.qb P.lb.length P.cb, .int .i64 P.mb]
/-- What stands between two calls. -/
structure MxS (P : MxP) (w0 W : World) : Prop where
  k : KeyOk W P.kp P.n P.kc P.g
  t : TabAt W
  pa : RowsIn W P.qa P.la
  pb : RowsIn W P.qb P.lb
  i : IntsAt W P.qp P.lp
  xa : W.heap[w0.heap.size]? = some (.cells P.xa 53 (0, 0))
  xb : W.heap[w0.heap.size + 1]? = some (.cells P.xb 53 (0, 0))
  b : Below w0.heap.size w0 W
theorem MxS.below {P : MxP} {w0 W W' : World} (h : MxS P w0 W) (hb : Below W.heap.size W W') : MxS P w0 W' :=
  ⟨h.k.below hb, h.t.on hb, h.pa.below hb, h.pb.below hb, h.i.below hb, (hb.block _ (Array.getElem?_eq_some_iff.1 h.xa).1).trans h.xa, (hb.block _ (Array.getElem?_eq_some_iff.1 h.xb).1).trans h.xb, h.b.trans (hb.mono h.b.size)⟩
section
variable {P : MxP} {w0 W : World} (h : MxS P w0 W)
include h
theorem MxS.a0 : W.cell? ⟨w0.heap.size, 0, none⟩ = some (.slice P.kp P.n P.kc) := cell_of_row _ _ 0 _ _ _ h.xa
theorem MxS.a1 : W.cell? ⟨w0.heap.size, 1, none⟩ = some (.int .i64 P.za) := cell_of_row _ _ 1 _ _ _ h.xa
theorem MxS.a2 : W.cell? ⟨w0.heap.size, 2, none⟩ = some (.slice P.qa P.la.length P.ca) := cell_of_row _ _ 2 _ _ _ h.xa
theorem MxS.b1 : W.cell? ⟨w0.heap.size + 1, 1, none⟩ = some (.int .i64 P.zb) := cell_of_row _ _ 1 _ _ _ h.xb
theorem MxS.b2 : W.cell? ⟨w0.heap.size + 1, 2, none⟩ = some (.slice P.qb P.lb.length P.cb) := cell_of_row _ _ 2 _ _ _ h.xb
end
theorem MxS.start {P : MxP} {w : World} (hk : KeyOk w P.kp P.n P.kc P.g) (hT : TabAt w) (ha : RowsIn w P.qa P.la) (hb : RowsIn w P.qb P.lb) (hi : IntsAt w P.qp P.lp) : MxS P w ((w.alloc (.cells P.xa 53)).alloc (.cells P.xb 53)) := by
  have b1 : Below w.heap.size w (w.alloc (.cells P.xa 53)) := (Below.refl _ w).alloc (Nat.le_refl _) _
  have b2 : Below w.heap.size w ((w.alloc (.cells P.xa 53)).alloc (.cells P.xb 53)) := b1.alloc (by simp) _
  refine ⟨hk.below b2, hT.on b2, ha.below b2, hb.below b2, hi.below b2, (Below.heap_alloc _ _ _ (by simp)).trans (heap_alloc_new _ _), ?_, b2⟩
  have := heap_alloc_new (w.alloc (.cells P.xa 53)) (.cells P.xb 53)
  rwa [World.size_alloc] at this
theorem ints_get {w : World} {q : Option Addr} {l : List Int} (h : IntsAt w q l) {k : Nat} (hk : k < l.length) : ∃ B o, q = some ⟨B, o, none⟩ ∧ B < w.heap.size ∧ w.cell? ⟨B, o + k, none⟩ = some (.int .i64 (l.getD k 0)) := by
  rcases h with h | ⟨B, o, h1, h2, h3⟩
  · subst h; simp at hk
  · exact ⟨B, o, h1, h2, h3 k hk⟩
theorem there_own {w : World} {base top N c : Nat} {p : Addr} {l : List (List Int)} (h : OwnL 31 128 secC w base top (.slice (some p) N c) l) (hp : p.off = 0 ∧ p.spot = none) : w.there p.block 0 (l.length * 128) := by
  obtain ⟨B, o, s⟩ := p
  obtain ⟨rfl, rfl⟩ := hp
  exact there_of_own h
theorem padS_head {t : List Int} (hl : t.length = 32) (hb : IsBytes t) : mk 32 (natF (padS t)) = t := by
  have h := mk_natF hb
  rw [hl] at h
  have e : mk 32 (natF (padS t)) = mk 32 (natF t) := mk_ext fun j hj => natF_pad t (by omega)
  rw [e, h]
end Go.Proofs.YtdeojhcfbiekmaaDoor
