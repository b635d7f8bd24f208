/- The contract of the document's with: the registrations with another one. Conditions: as it says. -/
import Derived.Test.YtfnkdmdcjliebaaRvFair
namespace Go.Proofs.Ytfnkdmdcjliebaa
open Go.ChangeShapes Go.WideShapes Go.ChangeAt Go.RowKit
set_option linter.unusedVariables false
set_option linter.unusedSimpArgs false
def regA (p : Int × Int) : Array Value := #[.int .i64 p.1, .int .i64 p.2]
theorem reg_built (a b : Int) : Try.prog.built rgT [(0, .int .i64 a), (1, .int .i64 b)] = some (regA (a, b)) := by kernel_rfl
theorem fill_reg1 (p : Int × Int) : Instr.fill (fun i => some (i * 2, 2)) ((Array.range (1 * 2)).map ((#[.int .i64 0, .int .i64 0] : Array Value)[· % (#[.int .i64 0, .int .i64 0] : Array Value).size]!)) [(0, .agg (regA p))] = some ([p].flatMap regC).toArray := by kernel_rfl
theorem run_reg1 (p : Int × Int) (w : World) : (Instr.buildSlice rgS 1 #[(0, .agg (regA p))]).run Try.prog w = .ok (.slice (some ⟨w.heap.size, 0, none⟩) 1 1) (w.alloc (.cells ([p].flatMap regC).toArray rgT)) := by
  have hi := rowRg.size
  have hz := rowRg.zero
  cases hq : Try.prog.info? rgT with
  | none => rw [hq] at hi; simp at hi
  | some i =>
    rw [hq] at hi hz
    have hs : i.size = 2 := by simpa using hi
    have hzz : i.zero = some (.agg #[.int .i64 0, .int .i64 0]) := by simpa using hz
    refine run_buildSlice w rgS rgT 1 _ _ i _ elemReg.under hq hzz (by rw [hs]; omega) (by rw [hs]; omega) ?_
    rw [hs]; exact fill_reg1 p
theorem rows_reg1 (w : World) (p : Int × Int) : RowsAt 2 regC (w.alloc (.cells ([p].flatMap regC).toArray rgT)) (some ⟨w.heap.size, 0, none⟩) [p] :=
  .inr ⟨w.heap.size, 0, rfl, by simp, fun i d hd j v hv => by
    rcases i with _ | i
    · obtain rfl : p = d := by simpa using hd
      rw [cell_of_row _ _ _ _ _ _ (heap_alloc_new w (.cells ([p].flatMap regC).toArray rgT))]
      rcases j with _ | _ | j <;> simp [regC] at hv ⊢ <;> exact hv
    · simp at hd⟩
section
variable {ops : Array Oper} {rest : List Oper} {o : Oper} {a : Act} {w : World} {Q : Exit → Act → World → Prop}
theorem wpList_reg1 (hgd : o.guard = none) (x : Operand) (ho : o.op = .buildSlice rgS 1 #[(0, x)]) (p : Int × Int) (hx : a.eval x = .agg (regA p))
    (h : ∀ w', RowsAt 2 regC w' (some ⟨w.heap.size, 0, none⟩) [p] → Below w.heap.size w w' → w'.heap.size = w.heap.size + 1 → wpList Try.prog ops Q rest (a.put o.dst (.slice (some ⟨w.heap.size, 0, none⟩) 1 1)) w') : wpList Try.prog ops Q (o :: rest) a w :=
  wpList_plain hgd fun _ hK => by
    have e := run_reg1 p w
    unfold Oper.wp execOp
    simp only [ho]
    simp [hx, e]
    exact hK _ _ (h _ (rows_reg1 w p) ((Below.refl _ _).alloc (Nat.le_refl _) _) (World.size_alloc _ _))
theorem wpList_reg_elemw (x y : Operand) (ho : o.op = .indexAddr rgS x y) (hw : Region.wanted o (yielded ops a.tmps) = true) (B off n cap k : Nat) (hx : a.eval x = .slice (some ⟨B, off, none⟩) n cap) (hy : a.eval y = .int .i64 k) (hk : k < n) (h : wpList Try.prog ops Q rest (a.put o.dst (.pointer (some ⟨B, off + 2 * k, none⟩))) w) : wpList Try.prog ops Q (o :: rest) a w :=
  wanted_step hw fun K hK => by
    unfold Oper.wp
    rw [reg_addr x y ho B off n cap k hx hy hk w]
    exact hK _ _ h
theorem wpList_regs_grow (hgd : o.guard = none) (s x : Operand) (ho : o.op = .call { callee := .builtin .append, args := #[s, x], argTypes := #[rgS, rgS] }) (base top : Nat) (v : Value) (l m : List (Int × Int)) (p : Option Addr) (n c : Nat) (hs : a.eval s = v) (hx : a.eval x = .slice p n c) (hn : n = m.length)
    (hv : OwnL rgT 2 regC w base top v l) (hm : RowsAt 2 regC w p m) (hk : l.length + m.length ≤ 4000000) (hbase : base ≤ w.heap.size)
    (h : ∀ v' w', OwnL rgT 2 regC w' base w'.heap.size v' (l ++ m) → Below base w w' → wpList Try.prog ops Q rest (a.put o.dst v') w') : wpList Try.prog ops Q (o :: rest) a w :=
  wpList_append_list elemReg hgd s x ho base top v l m p n c hs hx hn hv hm hk (by decide) hbase fun v' w' h1 h2 h3 => h v' w' h1 (below_own1 h2 hv.block hbase)
end
/-- Between two rounds: the list lies in memory of its own. -/
structure WiP (w : World) (A : Array Value) (l : List (Int × Int)) (v : Value) (V : World) : Prop where
  own : OwnL rgT 2 regC V (w.heap.size + 2) V.heap.size v l
  box : BoxA V w.heap.size rvT A
  res : BoxA V (w.heap.size + 1) rvT (resvA none 0 0 zeroRv)
  low : Below w.heap.size w V
  big : w.heap.size + 2 ≤ V.heap.size
theorem WiP.push {w V V1 V' : World} {A : Array Value} {l l' : List (Int × Int)} {v v' : Value} (h : WiP w A l v V) (hb : Below V.heap.size V V1) (ho : OwnL rgT 2 regC V' (w.heap.size + 2) V'.heap.size v' l') (hb2 : Below (w.heap.size + 2) V1 V') : WiP w A l' v' V' := by
  have hs := hb.size
  have hg := h.big
  have bl : ∀ k, k < w.heap.size + 2 → V'.heap[k]? = V.heap[k]? := fun k hk => (hb2.block k hk).trans (hb.block k (by omega))
  exact ⟨ho, h.box.keep (bl _ (by omega)), h.res.keep (bl _ (by omega)), (h.low.trans (hb.mono h.low.size)).trans (hb2.mono (by omega)), by have := hb2.size; omega⟩
theorem withL_drop {ks : List (Int × Int)} {k : Nat} (hk : k < ks.length) (who key : Int) (d : Bool) : withL (ks.drop k) who key d = (if !d && decide (who ≤ (atR ks k).1) then [(who, key)] else []) ++ (if (atR ks k).1 == who then [] else [atR ks k]) ++ withL (ks.drop (k + 1)) who key (d || decide (who ≤ (atR ks k).1)) := by
  rw [drop_consR hk]; rfl
theorem withL_nil (who key : Int) (d : Bool) : withL [] who key d = if d then [] else [(who, key)] := rfl
attribute [local irreducible] regC atR withL
attribute [local go_sem] Oper.semAt_some
set_option maxRecDepth 100000 in
set_option maxHeartbeats 8000000 in
theorem refWith_any {w : World} {q : Option Addr} {n c : Nat} {r : ResvOf} (hq : RegsAt w q r.regs) (hn : r.regs.length = n) (hl : n ≤ 1000) (who key : Int) :
    Calls Try.prog 35 #[.agg (resvA q n c r), .int .i64 who, .int .i64 key] w fun e w' => ∃ q' c', e = .returned (.tuple #[.agg (resvA q' (withL r.regs who key false).length c' { r with regs := withL r.regs who key false }), .bool (decide (((withL r.regs who key false).length : Int) ≤ 4))]) ∧ OwnR w w' q' (withL r.regs who key false).length c' (withL r.regs who key false) ∧ Below w.heap.size w w' := by
  have HR := Lib.hid (fun k (hk : k < r.regs.length) => regs_at hq hk)
  have HWL := Lib.hid (fun k (hk : k < r.regs.length) d => withL_drop hk who key d)
  have HL := Lib.hid hl
  have HE := Lib.hid (show ∀ d, withL (r.regs.drop n) who key d = if d then [] else [(who, key)] from fun d => by rw [List.drop_of_length_le (by omega)]; exact withL_nil who key d)
  rw [hn] at HR HWL
  clear hq hl hn
  go_enter Try.func35, Try.ntmps35
  go_wp2_with (first
    | (with_reducible show wpList _ _ _ (⟨_, Op.box rvT _, _, _, _, none⟩ :: _) _ _
       refine wpList_boxA_of rfl _ rfl (resvA q n c r) rfl ?_
       intro w1 x1 l1 s1
       have X1 := Lib.hid x1
       have B1 := Lib.hid l1
       have S1 := Lib.hid s1
       clear x1 l1 s1)
    | (with_reducible show wpList _ _ _ (⟨_, Op.alloc rvT, _, _, _, _⟩ :: _) _ _
       refine wpList_boxA_new rowRv rfl rfl w1.heap.size rfl ?_
       intro w2 x2 l2 s2
       have Z2 := Lib.hid x2
       have X2 := Lib.hid (X1.out.keep (l2.block _ X1.out.lt))
       have B2 := Lib.hid (B1.out.trans (l2.mono B1.out.size))
       have S2 := Lib.hid (show w2.heap.size = w.heap.size + 2 from by rw [s2, S1.out])
       rw [S1.out] at Z2
       rw [S1.out]
       clear x2 l2 s2 X1 B1 S1))
  go_loopw [10, 8, 9] (fun v10 v8 v9 wr => ∃ (k : Nat) (l : List (Int × Int)) (d : Bool), k ≤ n ∧ v10 = .int .i64 k ∧ v9 = .bool d ∧ l ++ withL (r.regs.drop k) who key d = withL r.regs who key false ∧ l.length ≤ 2 * k ∧ WiP w (resvA q n c r) l v8 wr) (fun v10 _ _ _ => n - (intOf v10).toNat)
  case atStart => exact ⟨0, [], false, Nat.zero_le _, rfl, rfl, rfl, Nat.zero_le _, .nil _ _ _ _ _ _, X2.out, Z2.out, B2.out, by rw [S2.out]; exact Nat.le_refl _⟩
  case round =>
    obtain ⟨k, l, d, hk, rfl, rfl, he, hll, hs⟩ := hrel
    have HP := Lib.hid hs
    have HEQ := Lib.hid he
    have HLL := Lib.hid hll
    clear hs he hll X2 Z2 B2 S2
    by_cases hlt : k < n
    · obtain ⟨QB, qo, rfl, hQB, hrg⟩ := HR.out k hlt
      have HRG := Lib.hid (fun (V : World) (hb : Below w.heap.size w V) => rangeAt_below hrg hb hQB)
      have HWK := Lib.hid (HWL.out k hlt)
      have HLT := Lib.hid hlt
      have f3 : (k : Int) < (n : Int) := by omega
      have f4 : IntKind.i64.wrap ((k : Int) + 1) = ((k + 1 : Nat) : Int) := by have := HL.out; rw [IntWalk.i64_in _ (by omega)]; omega
      clear hrg hQB hlt hk
      generalize atR r.regs k = p at *
      obtain ⟨pw, pk⟩ := p
      have g0 : wr.cell? ⟨w.heap.size, 0, none⟩ = some (.slice (some ⟨QB, qo, none⟩) n c) := HP.out.box.cell 0
      have p0 : wr.cell? ⟨QB, qo + 2 * k, none⟩ = some (.int .i64 pw) := reg_c0 (HRG.out _ HP.out.low)
      cases d with
      | true =>
        by_cases hge : who ≤ pw
        · by_cases heq : pw = who
          · have e3 : (pw != who) = false := by simp [heq]
            have e4 : (pw == who) = true := by simp [heq]
            have e1 : decide (who ≤ pw) = true := by simp [hge]
            have HEN := Lib.hid (show l ++ withL (r.regs.drop (k + 1)) who key true = withL r.regs who key false from by rw [← HEQ.out, HWK.out]; simp [hge, heq])
            clear HEQ HWK hge heq
            go_wp2_with (first
              | (with_reducible show wpList _ _ _ (⟨_, Op.indexAddr _ _ _, _, _, _, _⟩ :: _) _ _
                 refine wpList_reg_elemw _ _ rfl rfl QB qo n c k rfl rfl HLT.out ?_))
            go_roundw
            case rel => exact ⟨k + 1, l, true, HLT.out, by go_num, rfl, HEN.out, by have := HLL.out; simp; omega, HP.out⟩
            case measure => have := HLT.out; simp [intOf]; omega
          · have e3 : (pw != who) = true := by simp [heq]
            have e4 : (pw == who) = false := by simp [heq]
            have e1 : decide (who ≤ pw) = true := by simp [hge]
            have HEN := Lib.hid (show (l ++ [(pw, pk)]) ++ withL (r.regs.drop (k + 1)) who key true = withL r.regs who key false from by rw [← HEQ.out, HWK.out]; simp [hge, heq])
            clear HEQ HWK hge heq
            go_wp2_with (first
              | (with_reducible show wpList _ _ _ (⟨_, Op.indexAddr _ _ _, _, _, _, _⟩ :: _) _ _
                 refine wpList_reg_elemw _ _ rfl rfl QB qo n c k rfl rfl HLT.out ?_)
              | (with_reducible show wpList _ _ _ (⟨_, Op.load rgT _, _, _, _, none⟩ :: _) _ _
                 refine wpList_reg_load rfl _ rfl QB (qo + 2 * k) rfl pw pk (HRG.out _ HP.out.low) ?_)
              | (with_reducible show wpList _ _ _ (⟨_, Op.buildSlice _ _ _, _, _, _, none⟩ :: _) _ _
                 refine wpList_reg1 rfl _ rfl (pw, pk) rfl ?_
                 intro a1 r1 b1 s1
                 have RA1 := Lib.hid r1
                 have LA1 := Lib.hid b1
                 clear r1 b1 s1 g0 p0)
              | (at_builtin
                 refine wpList_regs_grow rfl _ _ rfl (w.heap.size + 2) wr.heap.size u8 l [(pw, pk)] _ 1 1 rfl rfl rfl (HP.out.own.below (Nat.le_refl _) LA1.out) RA1.out (by have := HLL.out; have := HL.out; simp; omega) (Nat.le_trans HP.out.big LA1.out.size) ?_
                 intro v2 a2 o2 b2
                 have P2 := Lib.hid (HP.out.push LA1.out o2 b2)
                 clear o2 b2 RA1 LA1
                 have g0 : a2.cell? ⟨w.heap.size, 0, none⟩ = some (.slice (some ⟨QB, qo, none⟩) n c) := P2.out.box.cell 0
                 have p0 : a2.cell? ⟨QB, qo + 2 * k, none⟩ = some (.int .i64 pw) := reg_c0 (HRG.out _ P2.out.low)))
            go_roundw
            case rel => exact ⟨k + 1, (l ++ [(pw, pk)]), true, HLT.out, by go_num, rfl, HEN.out, by have := HLL.out; simp; omega, P2.out⟩
            case measure => have := HLT.out; simp [intOf]; omega
        · have heq : ¬ pw = who := by omega
          have e3 : (pw != who) = true := by simp [heq]
          have e4 : (pw == who) = false := by simp [heq]
          have e1 : decide (who ≤ pw) = false := by simp [hge]
          have HEN := Lib.hid (show (l ++ [(pw, pk)]) ++ withL (r.regs.drop (k + 1)) who key true = withL r.regs who key false from by rw [← HEQ.out, HWK.out]; simp [hge, heq])
          clear HEQ HWK hge heq
          go_wp2_with (first
            | (with_reducible show wpList _ _ _ (⟨_, Op.indexAddr _ _ _, _, _, _, _⟩ :: _) _ _
               refine wpList_reg_elemw _ _ rfl rfl QB qo n c k rfl rfl HLT.out ?_)
            | (with_reducible show wpList _ _ _ (⟨_, Op.load rgT _, _, _, _, none⟩ :: _) _ _
               refine wpList_reg_load rfl _ rfl QB (qo + 2 * k) rfl pw pk (HRG.out _ HP.out.low) ?_)
            | (with_reducible show wpList _ _ _ (⟨_, Op.buildSlice _ _ _, _, _, _, none⟩ :: _) _ _
               refine wpList_reg1 rfl _ rfl (pw, pk) rfl ?_
               intro a1 r1 b1 s1
               have RA1 := Lib.hid r1
               have LA1 := Lib.hid b1
               clear r1 b1 s1 g0 p0)
            | (at_builtin
               refine wpList_regs_grow rfl _ _ rfl (w.heap.size + 2) wr.heap.size u8 l [(pw, pk)] _ 1 1 rfl rfl rfl (HP.out.own.below (Nat.le_refl _) LA1.out) RA1.out (by have := HLL.out; have := HL.out; simp; omega) (Nat.le_trans HP.out.big LA1.out.size) ?_
               intro v2 a2 o2 b2
               have P2 := Lib.hid (HP.out.push LA1.out o2 b2)
               clear o2 b2 RA1 LA1
               have g0 : a2.cell? ⟨w.heap.size, 0, none⟩ = some (.slice (some ⟨QB, qo, none⟩) n c) := P2.out.box.cell 0
               have p0 : a2.cell? ⟨QB, qo + 2 * k, none⟩ = some (.int .i64 pw) := reg_c0 (HRG.out _ P2.out.low)))
          go_roundw
          case rel => exact ⟨k + 1, (l ++ [(pw, pk)]), true, HLT.out, by go_num, rfl, HEN.out, by have := HLL.out; simp; omega, P2.out⟩
          case measure => have := HLT.out; simp [intOf]; omega
      | false =>
        by_cases hge : who ≤ pw
        · by_cases heq : pw = who
          · have e3 : (pw != who) = false := by simp [heq]
            have e4 : (pw == who) = true := by simp [heq]
            have e1 : decide (who ≤ pw) = true := by simp [hge]
            have HEN := Lib.hid (show (l ++ [(who, key)]) ++ withL (r.regs.drop (k + 1)) who key true = withL r.regs who key false from by rw [← HEQ.out, HWK.out]; simp [hge, heq])
            clear HEQ HWK hge heq
            go_wp2_with (first
              | (with_reducible show wpList _ _ _ (⟨_, Op.indexAddr _ _ _, _, _, _, _⟩ :: _) _ _
                 refine wpList_reg_elemw _ _ rfl rfl QB qo n c k rfl rfl HLT.out ?_)
              | (with_reducible show wpList _ _ _ (⟨_, Op.build _ _, _, _, _, none⟩ :: _) _ _
                 refine wpList_build_any rfl rgT _ #[(0, .int .i64 who), (1, .int .i64 key)] _ rfl rfl (fun w => run_build w rgT #[(0, .int .i64 who), (1, .int .i64 key)] _ (reg_built who key)) ?_)
              | (with_reducible show wpList _ _ _ (⟨_, Op.buildSlice _ _ _, _, _, _, none⟩ :: _) _ _
                 refine wpList_reg1 rfl _ rfl (who, key) rfl ?_
                 intro a1 r1 b1 s1
                 have RA1 := Lib.hid r1
                 have LA1 := Lib.hid b1
                 clear r1 b1 s1 g0 p0)
              | (at_builtin
                 refine wpList_regs_grow rfl _ _ rfl (w.heap.size + 2) wr.heap.size u8 l [(who, key)] _ 1 1 rfl rfl rfl (HP.out.own.below (Nat.le_refl _) LA1.out) RA1.out (by have := HLL.out; have := HL.out; simp; omega) (Nat.le_trans HP.out.big LA1.out.size) ?_
                 intro v2 a2 o2 b2
                 have P2 := Lib.hid (HP.out.push LA1.out o2 b2)
                 clear o2 b2 RA1 LA1
                 have g0 : a2.cell? ⟨w.heap.size, 0, none⟩ = some (.slice (some ⟨QB, qo, none⟩) n c) := P2.out.box.cell 0
                 have p0 : a2.cell? ⟨QB, qo + 2 * k, none⟩ = some (.int .i64 pw) := reg_c0 (HRG.out _ P2.out.low)))
            go_roundw
            case rel => exact ⟨k + 1, (l ++ [(who, key)]), true, HLT.out, by go_num, rfl, HEN.out, by have := HLL.out; simp; omega, P2.out⟩
            case measure => have := HLT.out; simp [intOf]; omega
          · have e3 : (pw != who) = true := by simp [heq]
            have e4 : (pw == who) = false := by simp [heq]
            have e1 : decide (who ≤ pw) = true := by simp [hge]
            have HEN := Lib.hid (show ((l ++ [(who, key)]) ++ [(pw, pk)]) ++ withL (r.regs.drop (k + 1)) who key true = withL r.regs who key false from by rw [← HEQ.out, HWK.out]; simp [hge, heq])
            clear HEQ HWK hge heq
            go_wp2_with (first
              | (with_reducible show wpList _ _ _ (⟨_, Op.indexAddr _ _ _, _, _, _, _⟩ :: _) _ _
                 refine wpList_reg_elemw _ _ rfl rfl QB qo n c k rfl rfl HLT.out ?_)
              | (with_reducible show wpList _ _ _ (⟨_, Op.build _ _, _, _, _, none⟩ :: _) _ _
                 refine wpList_build_any rfl rgT _ #[(0, .int .i64 who), (1, .int .i64 key)] _ rfl rfl (fun w => run_build w rgT #[(0, .int .i64 who), (1, .int .i64 key)] _ (reg_built who key)) ?_)
              | (with_reducible show wpList _ _ _ (⟨_, Op.buildSlice _ _ _, _, _, _, none⟩ :: _) _ _
                 refine wpList_reg1 rfl _ rfl (who, key) rfl ?_
                 intro a1 r1 b1 s1
                 have RA1 := Lib.hid r1
                 have LA1 := Lib.hid b1
                 clear r1 b1 s1 g0 p0)
              | (at_builtin
                 refine wpList_regs_grow rfl _ _ rfl (w.heap.size + 2) wr.heap.size u8 l [(who, key)] _ 1 1 rfl rfl rfl (HP.out.own.below (Nat.le_refl _) LA1.out) RA1.out (by have := HLL.out; have := HL.out; simp; omega) (Nat.le_trans HP.out.big LA1.out.size) ?_
                 intro v2 a2 o2 b2
                 have P2 := Lib.hid (HP.out.push LA1.out o2 b2)
                 clear o2 b2 RA1 LA1
                 have g0 : a2.cell? ⟨w.heap.size, 0, none⟩ = some (.slice (some ⟨QB, qo, none⟩) n c) := P2.out.box.cell 0
                 have p0 : a2.cell? ⟨QB, qo + 2 * k, none⟩ = some (.int .i64 pw) := reg_c0 (HRG.out _ P2.out.low))
              | (with_reducible show wpList _ _ _ (⟨_, Op.load rgT _, _, _, _, none⟩ :: _) _ _
                 refine wpList_reg_load rfl _ rfl QB (qo + 2 * k) rfl pw pk (HRG.out _ P2.out.low) ?_)
              | (with_reducible show wpList _ _ _ (⟨_, Op.buildSlice _ _ _, _, _, _, none⟩ :: _) _ _
                 refine wpList_reg1 rfl _ rfl (pw, pk) rfl ?_
                 intro a3 r3 b3 s3
                 have RA3 := Lib.hid r3
                 have LA3 := Lib.hid b3
                 clear r3 b3 s3 g0 p0)
              | (at_builtin
                 refine wpList_regs_grow rfl _ _ rfl (w.heap.size + 2) a2.heap.size v2 (l ++ [(who, key)]) [(pw, pk)] _ 1 1 rfl rfl rfl (P2.out.own.below (Nat.le_refl _) LA3.out) RA3.out (by have := HLL.out; have := HL.out; simp; omega) (Nat.le_trans P2.out.big LA3.out.size) ?_
                 intro v4 a4 o4 b4
                 have P4 := Lib.hid (P2.out.push LA3.out o4 b4)
                 clear o4 b4 RA3 LA3
                 have g0 : a4.cell? ⟨w.heap.size, 0, none⟩ = some (.slice (some ⟨QB, qo, none⟩) n c) := P4.out.box.cell 0
                 have p0 : a4.cell? ⟨QB, qo + 2 * k, none⟩ = some (.int .i64 pw) := reg_c0 (HRG.out _ P4.out.low)))
            go_roundw
            case rel => exact ⟨k + 1, ((l ++ [(who, key)]) ++ [(pw, pk)]), true, HLT.out, by go_num, rfl, HEN.out, by have := HLL.out; simp; omega, P4.out⟩
            case measure => have := HLT.out; simp [intOf]; omega
        · have heq : ¬ pw = who := by omega
          have e3 : (pw != who) = true := by simp [heq]
          have e4 : (pw == who) = false := by simp [heq]
          have e1 : decide (who ≤ pw) = false := by simp [hge]
          have HEN := Lib.hid (show (l ++ [(pw, pk)]) ++ withL (r.regs.drop (k + 1)) who key false = withL r.regs who key false from by rw [← HEQ.out, HWK.out]; simp [hge, heq])
          clear HEQ HWK hge heq
          go_wp2_with (first
            | (with_reducible show wpList _ _ _ (⟨_, Op.indexAddr _ _ _, _, _, _, _⟩ :: _) _ _
               refine wpList_reg_elemw _ _ rfl rfl QB qo n c k rfl rfl HLT.out ?_)
            | (with_reducible show wpList _ _ _ (⟨_, Op.load rgT _, _, _, _, none⟩ :: _) _ _
               refine wpList_reg_load rfl _ rfl QB (qo + 2 * k) rfl pw pk (HRG.out _ HP.out.low) ?_)
            | (with_reducible show wpList _ _ _ (⟨_, Op.buildSlice _ _ _, _, _, _, none⟩ :: _) _ _
               refine wpList_reg1 rfl _ rfl (pw, pk) rfl ?_
               intro a1 r1 b1 s1
               have RA1 := Lib.hid r1
               have LA1 := Lib.hid b1
               clear r1 b1 s1 g0 p0)
            | (at_builtin
               refine wpList_regs_grow rfl _ _ rfl (w.heap.size + 2) wr.heap.size u8 l [(pw, pk)] _ 1 1 rfl rfl rfl (HP.out.own.below (Nat.le_refl _) LA1.out) RA1.out (by have := HLL.out; have := HL.out; simp; omega) (Nat.le_trans HP.out.big LA1.out.size) ?_
               intro v2 a2 o2 b2
               have P2 := Lib.hid (HP.out.push LA1.out o2 b2)
               clear o2 b2 RA1 LA1
               have g0 : a2.cell? ⟨w.heap.size, 0, none⟩ = some (.slice (some ⟨QB, qo, none⟩) n c) := P2.out.box.cell 0
               have p0 : a2.cell? ⟨QB, qo + 2 * k, none⟩ = some (.int .i64 pw) := reg_c0 (HRG.out _ P2.out.low)))
          go_roundw
          case rel => exact ⟨k + 1, (l ++ [(pw, pk)]), false, HLT.out, by go_num, rfl, HEN.out, by have := HLL.out; simp; omega, P2.out⟩
          case measure => have := HLT.out; simp [intOf]; omega
    · have f3 : ¬ (k : Int) < (n : Int) := by omega
      obtain rfl : k = n := by omega
      rw [HE.out] at HEQ
      have g0 : wr.cell? ⟨w.heap.size, 0, none⟩ = some (.slice q k c) := HP.out.box.cell 0
      clear hlt hk HR HWL HE
      obtain ⟨L, hLd⟩ : ∃ L, withL r.regs who key false = L := ⟨_, rfl⟩
      rw [hLd] at HEQ
      have HLD := Lib.hid hLd
      clear hLd
      cases d with
      | true =>
        have hL : l = L := by rw [← HEQ.out]; simp
        subst hL
        obtain ⟨p, e, hv, -, -, -, -⟩ := HP.out.own.rows elemReg.len
        generalize hm : l.length = m at hv
        have HM := Lib.hid hm
        clear hm
        subst hv
        have f0 : wr.frozen? ⟨w.heap.size, 0, none⟩ = false := HP.out.box.free 0
        clear HEQ
        go_wp2_with (first
          | (with_reducible show wpList _ _ _ (⟨_, Op.load rvT _, _, _, _, _⟩ :: _) _ _
             have XS := Lib.hid (show BoxA (wr.setCell ⟨w.heap.size, 0, none⟩ (.slice p m e)) w.heap.size rvT (resvA p m e ⟨l, r.h, r.t, r.s, r.g⟩) from HP.out.box.set 0 (.slice p m e))
             have RS := Lib.hid (show BoxA (wr.setCell ⟨w.heap.size, 0, none⟩ (.slice p m e)) (w.heap.size + 1) rvT (resvA none 0 0 zeroRv) from HP.out.res.keep (Below.heap_setCell _ _ _ _ (fun h => by have h' : w.heap.size + 1 = w.heap.size := h; omega)))
             have LS := Lib.hid (show Below w.heap.size w (wr.setCell ⟨w.heap.size, 0, none⟩ (.slice p m e)) from HP.out.low.setCell (p := ⟨w.heap.size, 0, none⟩) (Nat.le_refl _) _)
             have OS := Lib.hid (show OwnL rgT 2 regC (wr.setCell ⟨w.heap.size, 0, none⟩ (.slice p m e)) (w.heap.size + 2) wr.heap.size (.slice p m e) l from HP.out.own.same (fun B hB _ => Below.heap_setCell _ _ _ _ (fun h => by have h' : B = w.heap.size := h; omega)))
             have ZS := Lib.hid (show (wr.setCell ⟨w.heap.size, 0, none⟩ (.slice p m e)).heap.size = wr.heap.size from by simp [World.setCell])
             clear g0 f0
             generalize wr.setCell ⟨w.heap.size, 0, none⟩ (.slice p m e) = U at *
             refine wpList_boxA_loadw rowRv _ rfl rfl w.heap.size (resvA p m e ⟨l, r.h, r.t, r.s, r.g⟩) rfl rfl XS.out ?_)
          | (with_reducible show wpList _ _ _ (⟨_, Op.store rvT _ _, _, _, _, none⟩ :: _) _ _
             refine wpList_boxA_put rowRv rfl _ _ rfl rfl (w.heap.size + 1) (resvA p m e ⟨l, r.h, r.t, r.s, r.g⟩) _ rfl (rvA_one _ _ _ _) rfl rfl rfl RS.out ?_
             intro U2 x2 k2 s2
             have X2 := Lib.hid x2
             have K2 := Lib.hid k2
             have S2 := Lib.hid s2
             clear x2 k2 s2))
        exact bodyPost_ret (results_cell_row_tmp rfl _ _ (w.heap.size + 1) rvT (resvA p m e ⟨l, r.h, r.t, r.s, r.g⟩) (0, 0) _ rfl X2.out Try.underlying24 rfl (rvA_size _ _ _ _)) rfl ⟨p, e, by rw [HLD.out, HM.out]; rfl, by
          rw [HLD.out, HM.out]
          have h := OS.out.same (w' := U2) (fun B hB hB2 => K2.out.block B (by rw [ZS.out]; exact hB2) (fun h => by omega))
          exact (h.lower (by omega)).raise (by rw [S2.out, ZS.out]; exact Nat.le_refl _), LS.out.trans (K2.out.below LS.out.size (fun j hj h => by omega))⟩
      | false =>
        have HL2 := Lib.hid (show l ++ [(who, key)] = L from by rw [← HEQ.out]; simp)
        clear HEQ
        go_wp2_with (first
          | (with_reducible show wpList _ _ _ (⟨_, Op.build _ _, _, _, _, none⟩ :: _) _ _
             refine wpList_build_any rfl rgT _ #[(0, .int .i64 who), (1, .int .i64 key)] _ rfl rfl (fun w => run_build w rgT #[(0, .int .i64 who), (1, .int .i64 key)] _ (reg_built who key)) ?_)
          | (with_reducible show wpList _ _ _ (⟨_, Op.buildSlice _ _ _, _, _, _, none⟩ :: _) _ _
             refine wpList_reg1 rfl _ rfl (who, key) rfl ?_
             intro a1 r1 b1 s1
             have RA1 := Lib.hid r1
             have LA1 := Lib.hid b1
             clear r1 b1 s1 g0)
          | (at_builtin
             refine wpList_regs_grow rfl _ _ rfl (w.heap.size + 2) wr.heap.size u8 l [(who, key)] _ 1 1 rfl rfl rfl (HP.out.own.below (Nat.le_refl _) LA1.out) RA1.out (by have := HLL.out; have := HL.out; simp; omega) (Nat.le_trans HP.out.big LA1.out.size) ?_
             intro v2 a2 o2 b2
             rw [HL2.out] at o2
             have P2 := Lib.hid (HP.out.push LA1.out o2 b2)
             clear o2 b2 RA1 LA1
             obtain ⟨p, e, hv, -, -, -, -⟩ := P2.out.own.rows elemReg.len
             generalize hm : L.length = m at hv
             have HM := Lib.hid hm
             clear hm
             subst hv
             have f0 : a2.frozen? ⟨w.heap.size, 0, none⟩ = false := P2.out.box.free 0
             have g0 : a2.cell? ⟨w.heap.size, 0, none⟩ = some (.slice q k c) := P2.out.box.cell 0
             skip)
          | (with_reducible show wpList _ _ _ (⟨_, Op.load rvT _, _, _, _, _⟩ :: _) _ _
             have XS := Lib.hid (show BoxA (a2.setCell ⟨w.heap.size, 0, none⟩ (.slice p m e)) w.heap.size rvT (resvA p m e ⟨L, r.h, r.t, r.s, r.g⟩) from P2.out.box.set 0 (.slice p m e))
             have RS := Lib.hid (show BoxA (a2.setCell ⟨w.heap.size, 0, none⟩ (.slice p m e)) (w.heap.size + 1) rvT (resvA none 0 0 zeroRv) from P2.out.res.keep (Below.heap_setCell _ _ _ _ (fun h => by have h' : w.heap.size + 1 = w.heap.size := h; omega)))
             have LS := Lib.hid (show Below w.heap.size w (a2.setCell ⟨w.heap.size, 0, none⟩ (.slice p m e)) from P2.out.low.setCell (p := ⟨w.heap.size, 0, none⟩) (Nat.le_refl _) _)
             have OS := Lib.hid (show OwnL rgT 2 regC (a2.setCell ⟨w.heap.size, 0, none⟩ (.slice p m e)) (w.heap.size + 2) a2.heap.size (.slice p m e) L from P2.out.own.same (fun B hB _ => Below.heap_setCell _ _ _ _ (fun h => by have h' : B = w.heap.size := h; omega)))
             have ZS := Lib.hid (show (a2.setCell ⟨w.heap.size, 0, none⟩ (.slice p m e)).heap.size = a2.heap.size from by simp [World.setCell])
             clear g0 f0
             generalize a2.setCell ⟨w.heap.size, 0, none⟩ (.slice p m e) = U at *
             refine wpList_boxA_loadw rowRv _ rfl rfl w.heap.size (resvA p m e ⟨L, r.h, r.t, r.s, r.g⟩) rfl rfl XS.out ?_)
          | (with_reducible show wpList _ _ _ (⟨_, Op.store rvT _ _, _, _, _, none⟩ :: _) _ _
             refine wpList_boxA_put rowRv rfl _ _ rfl rfl (w.heap.size + 1) (resvA p m e ⟨L, r.h, r.t, r.s, r.g⟩) _ rfl (rvA_one _ _ _ _) rfl rfl rfl RS.out ?_
             intro U2 x2 k2 s2
             have X2 := Lib.hid x2
             have K2 := Lib.hid k2
             have S2 := Lib.hid s2
             clear x2 k2 s2))
        exact bodyPost_ret (results_cell_row_tmp rfl _ _ (w.heap.size + 1) rvT (resvA p m e ⟨L, r.h, r.t, r.s, r.g⟩) (0, 0) _ rfl X2.out Try.underlying24 rfl (rvA_size _ _ _ _)) rfl ⟨p, e, by rw [HLD.out, HM.out]; rfl, by
          rw [HLD.out, HM.out]
          have h := OS.out.same (w' := U2) (fun B hB hB2 => K2.out.block B (by rw [ZS.out]; exact hB2) (fun h => by omega))
          exact (h.lower (by omega)).raise (by rw [S2.out, ZS.out]; exact Nat.le_refl _), LS.out.trans (K2.out.below LS.out.size (fun j hj h => by omega))⟩
end Go.Proofs.Ytfnkdmdcjliebaa
