/- The contracts of the document's own Row and Rows: the rows that bytes begin with, as slices of these bytes, and where they end. Conditions: at most 131072 bytes (Rows), 65535 (Row). -/
import Derived.Test.YtfnoiijodcmaeaaWdApp
namespace Go.Proofs.Ytfnoiijodcmaeaa
open Go.ChangeShapes Go.WideShapes Go.ChangeAt Go.RowKit
set_option linter.unusedVariables false

theorem append_rows {w : World} {base n : Nat} {v : Value} {xs : List Value} (ty : TypeId) (h : w.ownsRow base 22 1 v n xs) (B : Nat) (u : Value) (hB : w.cell? ⟨B, 0, none⟩ = some u) (hu : u.oneCell' = true) (hn : n ≤ 1000000) (hbase : base ≤ w.heap.size) :
    ∃ v' w', (Builtin.append_ #[33, 33] ty #[v, .slice (some ⟨B, 0, none⟩) 1 1]).run Try.prog w = .ok v' w' ∧ w'.ownsRow base 22 1 v' (n + 1) (xs ++ [u]) ∧ w.grownBy w' v.ownBlock := by
  have hi := apart.listInfo
  have hb := apart.listBytes
  have hz := apart.listZero
  cases hq : Try.prog.info? 22 with
  | none => rw [hq] at hi; simp at hi
  | some i =>
    rw [hq] at hi hb hz
    obtain ⟨v', w', hr, ho, hg, _⟩ := run_append_own (P := Try.prog) (w := w) base 33 ty 22 i (.slice none 0 0) 1 24 Try.underlying33 hq (by simpa using hz) (by simpa using hi) (by simpa using hb) rfl (by omega) v n xs h ⟨B, 0, none⟩ 1 1 [u] rfl (fun j y hj => by
      rcases j with _ | j
      · simp only [List.getElem?_cons_zero, Option.some.injEq] at hj; subst hj; rw [addr_add]; exact hB
      · simp at hj) (fun y hy => by simp only [List.mem_singleton] at hy; subst hy; exact hu) (by simp only [maxLen]; omega) (by omega) hbase
    exact ⟨v', w', hr, ho, hg⟩
theorem owns_slice {w : World} {base n : Nat} {e : TypeId} {v : Value} {xs : List Value} (h : w.ownsRow base e 1 v n xs) : ∃ p c, v = .slice p n c := by
  obtain ⟨_, ⟨h1, h2⟩ | ⟨g, c, cur, h1, _⟩⟩ := h
  · exact ⟨none, 0, by rw [h1, h2]⟩
  · exact ⟨_, c, h1⟩
theorem owns_block {w : World} {base n : Nat} {e : TypeId} {v : Value} {xs : List Value} (h : w.ownsRow base e 1 v n xs) {B : Nat} (hB : v.ownBlock = some B) : base ≤ B := by
  obtain ⟨_, ⟨h1, h2⟩ | ⟨g, c, cur, h1, hle, _⟩⟩ := h
  · rw [h1] at hB; simp [Value.ownBlock] at hB
  · rw [h1] at hB; simp [Value.ownBlock] at hB; omega
theorem owns_nil (w : World) (base : Nat) (e : TypeId) : w.ownsRow base e 1 (.slice none 0 0) 0 [] := ⟨rfl, .inl ⟨rfl, rfl⟩⟩
section
variable {o : Oper} {a : Act} {C : World → Prop} {K : Act → Prop}
theorem gives_at (x y : Operand) (ho : o.op = .indexAddr 22 x y) (B off n cap k : Nat) (z : Int) (hz : z = k) (hx : a.eval x = .slice (some ⟨B, off, none⟩) n cap) (hy : a.eval y = .int .i64 z) (hk4 : k < n) (hk : K (a.put o.dst (.pointer (some ⟨B, off + k, none⟩)))) : ∃ v, Gives Try.prog C o a v ∧ K (a.put o.dst v) := by
  subst hz
  exact ⟨_, fun w _ => by
    have h0 : (k : Int) < n := by omega
    have hi := byteInfo
    cases hq : Try.prog.info? 5 with
    | none => simp [hq] at hi
    | some i =>
      have hs : i.size = 1 := by simpa [hq] using hi
      unfold execOp
      simp only [ho, hx, hy]
      simp [go_sem, h0, sizeOf, typeInfo, hq, hs, addr_add], hk⟩
theorem gives_to_int (x : Operand) (ho : o.op = .convert 5 3 x) (z : Int) (hx : a.eval x = .int .u8 z) (h : 0 ≤ z ∧ z < 256) (hk : K (a.put o.dst (.int .i64 z))) : ∃ v, Gives Try.prog C o a v ∧ K (a.put o.dst v) :=
  ⟨_, fun w _ => by
    have h1 : IntKind.i64.wrap z = z := IntWalk.i64_in _ (by omega)
    have e : (convert 5 3 (.int .u8 z)).run Try.prog w = .ok (.int .i64 z) w := by simp [go_sem, h1]
    unfold execOp
    simp only [ho, hx, Sem.run_bind, e]
    simp, hk⟩
theorem gives_int_mul (x y : Operand) (ho : o.op = .binOp .mul 3 x y 3) (i j r : Int) (hx : a.eval x = .int .i64 i) (hy : a.eval y = .int .i64 j) (h : IntKind.i64.wrap (i * j) = r) (hk : K (a.put o.dst (.int .i64 r))) : ∃ v, Gives Try.prog C o a v ∧ K (a.put o.dst v) :=
  ⟨_, fun w _ => by unfold execOp; simp only [ho, hx, hy]; simp [go_sem, h], hk⟩
end
/-- The slice of a row's bytes, from a on, up to E. -/
def rowV (p : Option Addr) (cap a E : Nat) : Value := .slice (if cap = a then p else p.map (·.add a)) (E - a) (cap - a)
def rowsL (p : Option Addr) (cap : Nat) (P : Nat → Nat) (i : Nat) : List Value := (List.range i).map fun k => rowV p cap (P k + 2) (P (k + 1))
theorem rowsL_next (p : Option Addr) (cap : Nat) (P : Nat → Nat) (i : Nat) : rowsL p cap P (i + 1) = rowsL p cap P i ++ [rowV p cap (P i + 2) (P (i + 1))] := by unfold rowsL; rw [List.range_succ, List.map_append]; rfl
section
variable {ops : Array Oper} {rest : List Oper} {o : Oper} {a : Act} {w : World} {Q : Exit → Act → World → Prop}
theorem wpList_rowcut (hgd : o.guard = none) (x y u : Operand) (ho : o.op = .slice 22 x (some y) (some u) none) (p : Option Addr) (n cap k E : Nat) (z v : Int) (hz : z = k) (hv : v = E) (hx : a.eval x = .slice p n cap) (hy : a.eval y = .int .i64 z) (hu : a.eval u = .int .i64 v) (hk : k ≤ E) (hm : E ≤ cap)
    (h : wpList Try.prog ops Q rest (a.put o.dst (rowV p cap k E)) w) : wpList Try.prog ops Q (o :: rest) a w := by
  subst hz hv
  have hr := run_cut p n cap k E hk hm w
  refine wpList_plain hgd fun K hK => ?_
  unfold Oper.wp execOp
  simp only [ho, hx]
  simp [hy, hu, hr]
  exact hK _ _ h
end
attribute [local irreducible] rowsL lenAt
set_option maxRecDepth 100000 in
set_option maxHeartbeats 4000000 in
theorem refRows_any (p : Option Addr) (n cap : Nat) (g : Nat → Nat) (hg : ∀ i, i < n → g i < 256) (hcap : n ≤ cap) (hn : n ≤ 131072) (M : Nat) (P : Nat → Nat) (R : RowsOf n g M P) (w : World) (hp : BytesAt w p n g) :
    Calls Try.prog 23 #[.slice p n cap] w fun e w' => ∃ v, e = .returned (.tuple #[v, .int .i64 (P M : Nat)]) ∧ w'.ownsRow w.heap.size 22 1 v M (rowsL p cap P M) ∧ Below w.heap.size w w' := by
  have HP := Lib.hid hp
  have HG := Lib.hid hg
  have HR := Lib.hid R
  have HC := Lib.hid (show 2 * M ≤ n from R.count)
  clear hp hg R
  go_enter Try.func23, Try.ntmps23
  go_wp2
  go_loopw [4, 5] (fun v4 v5 wr => ∃ i : Nat, i ≤ M ∧ v5 = .int .i64 (P i : Nat) ∧ wr.ownsRow w.heap.size 22 1 v4 i (rowsL p cap P i) ∧ Below w.heap.size w wr) (fun _ v5 _ => n + 1 - (intOf v5).toNat)
  case atStart => exact ⟨0, by omega, by rw [HR.out.zero]; rfl, by unfold rowsL; exact owns_nil w _ _, Below.refl _ _⟩
  case round =>
    obtain ⟨i, hi, rfl, ho, hb⟩ := hrel
    have hPi := HR.out.le i hi
    obtain ⟨q4, c4, rfl⟩ := owns_slice ho
    have HO := Lib.hid ho; have HB := Lib.hid hb
    clear ho hb
    have e1 : IntKind.i64.wrap ((n : Int) - (P i : Nat)) = (n : Int) - (P i : Nat) := IntWalk.i64_in _ (by omega)
    by_cases h2 : n < P i + 2
    · have hM : i = M := by
        rcases Nat.lt_or_ge i M with h | h
        · have := HR.out.room i h; omega
        · omega
      subst hM
      have d1 : decide ((n : Int) - (P i : Nat) < 2) = true := by simp; omega
      clear h2 hPi
      generalize hat : P i = at' at *
      have HAT := Lib.hid hat
      clear hat
      go_wp2
      go_ret2
      exact ⟨_, by rw [HAT.out]; rfl, HO.out, HB.out⟩
    · have d1 : decide ((n : Int) - (P i : Nat) < 2) = false := by simp; omega
      have hl := lenAt_lt HG.out (p := P i) (by omega)
      obtain ⟨B, o, hpo, hBw, hcc⟩ : ∃ B o, p = some ⟨B, o, none⟩ ∧ B < w.heap.size ∧ Cells w B o n g := by
        rcases HP.out with h | ⟨B, o, h1, h2, h3⟩
        · omega
        · exact ⟨B, o, h1, h2, h3⟩
      have HCC := Lib.hid (fun (W : World) (hW : Below w.heap.size w W) => hcc.below hW hBw)
      have k1 : P i < n := by omega
      have k2 : P i + 1 < n := by omega
      have g1 := HG.out (P i) k1
      have g2 := HG.out (P i + 1) k2
      obtain ⟨E, hE⟩ : ∃ E, P i + 2 + lenAt g (P i) = E := ⟨_, rfl⟩
      have hlen : g (P i) * 256 + g (P i + 1) = lenAt g (P i) := by unfold lenAt; rfl
      have SP := Lib.hid (show (E ≤ n → i < M ∧ P (i + 1) = E) ∧ (n < E → i = M) by
        constructor
        · intro h
          rcases Nat.lt_or_ge i M with h3 | h3
          · exact ⟨h3, by rw [HR.out.next i h3, hE]⟩
          · have hM : i = M := by omega
            subst hM
            rcases HR.out.stop with h4 | h4 <;> omega
        · intro h
          rcases Nat.lt_or_ge i M with h3 | h3
          · have := HR.out.room i h3; omega
          · omega)
      have hk2 : P i + 2 ≤ n := by omega
      clear h2 hcc hBw HR
      generalize hat : P i = at' at *
      subst hpo
      generalize hln : lenAt g at' = ln at *
      have HAT := Lib.hid hat
      clear hat hln
      have HLE := Lib.hid hlen; have G1 := Lib.hid g1; have G2 := Lib.hid g2
      have c0 : Below wr.heap.size wr wr.drew := (Below.refl _ wr).drew
      obtain ⟨f1, hf1⟩ : ∃ f, at' + 1 = f := ⟨_, rfl⟩
      obtain ⟨f2, hf2⟩ : ∃ f, at' + 2 = f := ⟨_, rfl⟩
      rw [hf1] at k2 g2 hlen G2 HLE
      rw [hf2] at hE
      have q1 : IntKind.i64.wrap ((at' : Int) + 1) = (f1 : Int) := by rw [IntWalk.i64_in _ (by omega)]; omega
      have q2 : IntKind.i64.wrap ((g at' : Int) * 256) = (g at' : Int) * 256 := IntWalk.i64_in _ (by omega)
      have q3 : IntKind.i64.wrap ((g at' : Int) * 256 + (g f1 : Nat)) = (ln : Int) := by rw [IntWalk.i64_in _ (by omega)]; omega
      have q4' : IntKind.i64.wrap ((at' : Int) + 2) = (f2 : Int) := by rw [IntWalk.i64_in _ (by omega)]; omega
      have q5 : IntKind.i64.wrap ((f2 : Int) + (ln : Int)) = (E : Int) := by rw [IntWalk.i64_in _ (by omega)]; omega
      have q6 : IntKind.i64.wrap (2 + (ln : Int)) = 2 + (ln : Int) := IntWalk.i64_in _ (by omega)
      have HQ := Lib.hid (And.intro q1 (And.intro q2 q3))
      have HE := Lib.hid hE
      have HF2 := Lib.hid hf2
      clear hE hf1 hf2 hk2 hl
      clear hlen g1 g2 q1 q2 q3
      go_wp2
      refine wp_region_sched [(0, true), (1, true), (2, true), (3, true), (4, true), (5, true), (6, true), (7, true), (8, true), (9, true), (10, true), (11, true), (12, true), (13, true)] (fun W => Below wr.heap.size wr W) (by kernel_rfl) (by kernel_rfl) c0 ?_
      refine walk_float rfl rfl (fun K' hK' => ?_)
      refine gives_move _ rfl ?_
      go_simp
      refine hK' _ ?_
      clear hK' K'
      refine walk_float rfl rfl (fun K' hK' => ?_)
      refine gives_move _ rfl ?_
      go_simp
      refine hK' _ ?_
      clear hK' K'
      refine walk_float rfl rfl (fun K' hK' => ?_)
      refine gives_at _ _ rfl B o n cap at' at' rfl rfl rfl k1 ?_
      go_simp
      refine hK' _ ?_
      clear hK' K'
      refine walk_float rfl rfl (fun K' hK' => ?_)
      refine apart.gives_lie 5 _ rfl ⟨B, o + at', none⟩ (.int .u8 (g at' : Nat)) rfl apart.box_byte (fun W hW => HCC.out W (HB.out.trans (hW.mono HB.out.size)) at' k1) ?_
      go_simp
      refine hK' _ ?_
      clear hK' K'
      refine walk_float rfl rfl (fun K' hK' => ?_)
      refine gives_to_int _ rfl (g at' : Nat) rfl (by have := G1.out; omega) ?_
      go_simp
      refine hK' _ ?_
      clear hK' K'
      refine walk_float rfl rfl (fun K' hK' => ?_)
      refine gives_int_mul _ _ rfl (g at' : Nat) 256 ((g at' : Nat) * 256) rfl rfl HQ.out.2.1 ?_
      go_simp
      refine hK' _ ?_
      clear hK' K'
      refine walk_float rfl rfl (fun K' hK' => ?_)
      refine gives_move _ rfl ?_
      go_simp
      refine hK' _ ?_
      clear hK' K'
      refine walk_float rfl rfl (fun K' hK' => ?_)
      refine gives_move _ rfl ?_
      go_simp
      refine hK' _ ?_
      clear hK' K'
      refine walk_float rfl rfl (fun K' hK' => ?_)
      refine apart.gives_int_add _ _ rfl (at' : Nat) 1 (f1 : Int) rfl rfl HQ.out.1 ?_
      go_simp
      refine hK' _ ?_
      clear hK' K'
      refine walk_float rfl rfl (fun K' hK' => ?_)
      refine gives_at _ _ rfl B o n cap f1 (f1 : Int) rfl rfl rfl k2 ?_
      go_simp
      refine hK' _ ?_
      clear hK' K'
      refine walk_float rfl rfl (fun K' hK' => ?_)
      refine apart.gives_lie 5 _ rfl ⟨B, o + f1, none⟩ (.int .u8 (g f1 : Nat)) rfl apart.box_byte (fun W hW => HCC.out W (HB.out.trans (hW.mono HB.out.size)) f1 k2) ?_
      go_simp
      refine hK' _ ?_
      clear hK' K'
      refine walk_float rfl rfl (fun K' hK' => ?_)
      refine gives_to_int _ rfl (g f1 : Nat) rfl (by have := G2.out; omega) ?_
      go_simp
      refine hK' _ ?_
      clear hK' K'
      refine walk_float rfl rfl (fun K' hK' => ?_)
      refine apart.gives_int_add _ _ rfl ((g at' : Nat) * 256) (g f1 : Nat) (ln : Int) rfl rfl HQ.out.2.2 ?_
      go_simp
      refine hK' _ ?_
      clear hK' K'
      refine walk_float rfl rfl (fun K' hK' => ?_)
      refine gives_assign _ rfl ?_
      go_simp
      refine hK' _ ?_
      clear hK' K'
      refine walk_nil ?_
      have hod : wr.drew.ownsRow w.heap.size 22 1 (.slice q4 i c4) i (rowsL (some ⟨B, o, none⟩) cap P i) := HO.out
      have hbd : Below w.heap.size w wr.drew := HB.out.drew
      have HOD := Lib.hid hod; have HBD := Lib.hid hbd
      clear hod hbd c0 HQ HCC G1 G2 HLE HO HB
      generalize wr.drew = wd at *
      by_cases hEn : n < E
      · have hM := SP.out.2 hEn
        subst hM
        have d2 : decide ((n : Int) - (at' : Int) < 2 + (ln : Int)) = true := by have := HE.out; have := HF2.out; simp; omega
        have HH := Lib.hid hEn
        clear hEn
        go_wp2
        go_ret2
        exact ⟨_, by rw [HAT.out]; rfl, HOD.out, HBD.out⟩
      · have d2 : decide ((n : Int) - (at' : Int) < 2 + (ln : Int)) = false := by have := HE.out; have := HF2.out; simp; omega
        obtain ⟨hiM, hPn⟩ := SP.out.1 (by omega)
        have k3 : f2 ≤ E := by have := HE.out; omega
        have k4 : E ≤ cap := by omega
        obtain ⟨pv, lv, cv, hrv⟩ : ∃ pv lv cv, rowV (some ⟨B, o, none⟩) cap f2 E = .slice pv lv cv := ⟨_, _, _, rfl⟩
        have a1 : Below wd.heap.size wd (wd.alloc (.cells #[.slice pv lv cv] 22)) := (Below.refl _ _).alloc (Nat.le_refl _) _
        have n1 := heap_alloc_new wd (.cells #[.slice pv lv cv] 22)
        have o1 : (wd.alloc (.cells #[.slice pv lv cv] 22)).ownsRow w.heap.size 22 1 (.slice q4 i c4) i (rowsL (some ⟨B, o, none⟩) cap P i) := apart.owns_below HOD.out (fun B' _ h => a1.block B' h)
        obtain ⟨v5, w5, hr5, ho5, hg5⟩ := append_rows 33 o1 wd.heap.size (.slice pv lv cv) (cell_of_one n1) rfl (by have := HC.out; omega) (Nat.le_trans HBD.out.size a1.size)
        have b5 : Below w.heap.size w w5 := (HBD.out.trans (a1.mono HBD.out.size)).trans (below_own hg5 (fun B' hB' => owns_block HOD.out hB') (Nat.le_trans HBD.out.size a1.size))
        obtain ⟨q5', c5, hv5⟩ := owns_slice ho5
        subst hv5
        have A5 := Lib.hid hr5; have O5 := Lib.hid ho5; have B5 := Lib.hid b5
        have NX := Lib.hid hPn; have NI := Lib.hid hiM
        have HRV := Lib.hid hrv
        clear hr5 ho5 b5 hg5 a1 hPn hiM hEn SP n1 o1 hrv
        go_wp2_with (first
          | (refine wpList_rowcut rfl _ _ _ rfl (some ⟨B, o, none⟩) n cap f2 E _ _ rfl rfl rfl rfl rfl k3 k4 ?_; rw [HRV.out])
          | (refine wpList_append rfl (.tmp 36) (.tmp 45) 33 33 rfl (.slice q4 i c4) (.slice (some ⟨wd.heap.size, 0, none⟩) 1 1) rfl rfl (.slice q5' (i + 1) c5) w5 A5.out ?_; clear A5))
        go_roundw
        case rel => exact ⟨i + 1, NI.out, by rw [NX.out], by rw [rowsL_next, HAT.out, HF2.out, NX.out, HRV.out]; exact O5.out, B5.out⟩
        case measure => have := HE.out; have := HF2.out; simp [intOf]; omega
attribute [local irreducible] cat numF dig
theorem two_bytes (m : Nat) (hm : m ≤ 65535) : mk 2 (numF 2 m) = [((m / 256 : Nat) : Int), ((m % 256 : Nat) : Int)] := by
  have h0 : numF 2 m 0 = m / 256 := by unfold numF dig; simp; omega
  have h1 : numF 2 m 1 = m % 256 := by unfold numF dig; simp; omega
  have e : mk 2 (numF 2 m) = [((numF 2 m 0 : Nat) : Int), ((numF 2 m 1 : Nat) : Int)] := rfl
  rw [e, h0, h1]
set_option maxRecDepth 100000 in
set_option maxHeartbeats 1000000 in
theorem refRow_any (q : Option Addr) (m mcap : Nat) (G : Nat → Nat) (hm : m ≤ 65535) (w : World) (hq : BytesAt w q m G) :
    Calls Try.prog 22 #[.slice q m mcap] w fun e w' => ∃ p c, e = .returned (.slice p (2 + m) c) ∧ BytesAt w' p (2 + m) (cat 2 (numF 2 m) G) ∧ Below w.heap.size w w' := by
  have hB : IntBlk (w.alloc (.cells #[.int .u8 ((m / 256 : Nat) : Int), .int .u8 ((m % 256 : Nat) : Int)] 5)) w.heap.size .u8 5 (mk 2 (numF 2 m)) := by
    rw [two_bytes m hm]; exact IntBlk.new w .u8 _ [((m / 256 : Nat) : Int), ((m % 256 : Nat) : Int)]
  obtain ⟨h, hh⟩ : ∃ h, m / 256 = h := ⟨_, rfl⟩
  obtain ⟨l, hl⟩ : ∃ l, m % 256 = l := ⟨_, rfl⟩
  have e1 : (m : Int) / 256 = (h : Int) := by omega
  have e2 : (m : Int) % 256 = (l : Int) := by omega
  have e3 : IntKind.u8.wrap (h : Int) = (h : Int) := by rw [IntKind.wrap_u8']; omega
  have e4 : IntKind.u8.wrap (l : Int) = (l : Int) := by rw [IntKind.wrap_u8']; omega
  have e5 : (h : Int) % 256 = (h : Int) := by omega
  have e6 : (l : Int) % 256 = (l : Int) := by omega
  rw [hh, hl] at hB
  have a1 : Below w.heap.size w (w.alloc (.cells #[.int .u8 (h : Int), .int .u8 (l : Int)] 5)) := (Below.refl _ _).alloc (Nat.le_refl _) _
  obtain ⟨p5, c5, w5, hr5, hB5, _, hb5⟩ := append_blk 22 hB (Nat.le_refl _) q m mcap G (hq.below a1) (by omega)
  have A5 := Lib.hid hr5; have R5 := Lib.hid hB5; have B5 := Lib.hid (a1.trans hb5)
  clear hh hl hB a1 hr5 hB5 hb5 hq hm
  go_enter Try.func22, Try.ntmps22
  go_wp2_with (first
    | (refine wpList_append rfl (.tmp 11) (.tmp 12) _ _ rfl (.slice (some ⟨w.heap.size, 0, none⟩) 2 2) (.slice q m mcap) rfl rfl (.slice p5 (2 + m) c5) w5 A5.out ?_; clear A5))
  go_ret
  exact ⟨_, _, rfl, R5.out, B5.out⟩
end Go.Proofs.Ytfnoiijodcmaeaa
