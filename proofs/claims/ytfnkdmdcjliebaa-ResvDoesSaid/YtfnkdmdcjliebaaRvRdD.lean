/- The contract of the document's Do, where one preempts. Conditions: the registrations lie in memory, at most 1000. -/
import Derived.Test.YtfnkdmdcjliebaaRvRdB
namespace Go.Proofs.Ytfnkdmdcjliebaa
open Go.ChangeShapes Go.WideShapes Go.ChangeAt Go.RowKit
set_option linter.unusedVariables false
set_option linter.unusedSimpArgs false
theorem gone_is (r : ResvOf) (o : ROp) : (r.regs.filter (goneF o)).map (·.1) = goneR r o := rfl
def whosG (o : ROp) (ks : List (Int × Int)) : List Int := (ks.filter (goneF o)).map (·.1)
theorem whosG_next {ks : List (Int × Int)} {i : Nat} (hi : i < ks.length) (o : ROp) : whosG o (ks.take (i + 1)) = whosG o (ks.take i) ++ (if goneF o (atR ks i) then [(atR ks i).1] else []) := by
  unfold whosG
  rw [filtF_next hi, List.map_append]
  cases goneF o (atR ks i) <;> rfl
theorem whosG_all {r : ResvOf} {o : ROp} {n : Nat} (hn : r.regs.length = n) : whosG o (r.regs.take n) = goneR r o := by
  unfold whosG
  rw [List.take_of_length_le (by omega)]; exact gone_is r o
theorem whosG_len (o : ROp) (ks : List (Int × Int)) : (whosG o ks).length ≤ ks.length := by
  unfold whosG
  rw [List.length_map]; exact List.length_filter_le _ _
theorem gone_len (r : ResvOf) (o : ROp) : (goneR r o).length ≤ r.regs.length := by
  rw [← gone_is, List.length_map]; exact List.length_filter_le _ _
theorem over_none {r : ResvOf} {o : ROp} (h : (r.h == -1) = true) : overR r o = false := by unfold overR; rw [h]; rfl
theorem over_key {r : ResvOf} {o : ROp} (h : (r.h == -1) = false) : overR r o = (keyR r.regs r.h == o.new) := by unfold overR; rw [h]; rfl
theorem gone_who (o : ROp) (u c : Int) : goneF o (u, c) = (!(u == o.who) && c == o.new) := rfl
theorem ints_rows {w : World} {base top : Nat} {q : Option Addr} {m c : Nat} {l : List Int} (h : OwnL 3 1 intC w base top (.slice q m c) l) : RowsAt 1 intC w q l ∧ l.length = m := ⟨(OwnI.base h).2.1, (OwnI.base h).2.2⟩
section
variable {ops : Array Oper} {rest : List Oper} {o : Oper} {a : Act} {w : World} {Q : Exit → Act → World → Prop}
theorem wpList_ints_grow (hgd : o.guard = none) (s x : Operand) (ho : o.op = .call { callee := .builtin .append, args := #[s, x], argTypes := #[65, 65] }) (base top : Nat) (v : Value) (l m : List Int) (p : Option Addr) (n c : Nat) (hs : a.eval s = v) (hx : a.eval x = .slice p n c) (hn : n = m.length)
    (hv : OwnL 3 1 intC w base top v l) (hm : RowsAt 1 intC w p m) (hk : l.length + m.length ≤ 4000000) (hbase : base ≤ w.heap.size)
    (h : ∀ v' w', OwnL 3 1 intC w' base w'.heap.size v' (l ++ m) → Below base w w' → wpList Try.prog ops Q rest (a.put o.dst v') w') : wpList Try.prog ops Q (o :: rest) a w :=
  wpList_append_list elemInt hgd s x ho base top v l m p n c hs hx hn hv hm hk (by decide) hbase fun v' w' h1 h2 h3 => h v' w' h1 (below_own1 h2 hv.block hbase)
end
attribute [local irreducible] regC atR keyR inR risesR formR goodR allR holdersR holdsR allowedR goneF hasR selfF withL PB endP errN runP regP releaseP reserveP preemptP wellR entR doR withoutR goneR overR refusedR whosG
attribute [local go_sem] Oper.semAt_some
set_option maxRecDepth 100000 in
set_option maxHeartbeats 16000000 in
theorem rd_5 {w : World} {q : Option Addr} {n c : Nat} {r : ResvOf} (hq : RvAt w q n c r) {o : ROp} (hop : o.op = 5) (hg : goodR r = true) (hb1 : ¬ o.who < 0) (hb2 : ¬ o.key < 0) (hb3 : ¬ o.new < 0) (hb4 : ¬ o.ty < 1) (hb5 : ¬ 6 < o.ty) (hk0 : keyR r.regs o.who ≠ 0) (hk : keyR r.regs o.who = o.key) {rr : ResvOf} {z : Int}
    (hd : (rr, z) = if (goneR r o).length == 0 && !(overR r o) then (nobodyR, 9) else ({ withoutR (if overR r o then { r with h := o.who, t := o.ty } else r) (goneR r o) with g := incR r.g }, 0)) :
    Calls Try.prog 11 #[.agg (resvA q n c r), .agg (ropA o)] w (RefPost w rr z) := by
  have HGD := Lib.hid (fun (W : World) (hb : Below w.heap.size w W) => (by have h := refGood_any (c := c) (RowsAt.below hq.at_ hb) hq.len hq.few; rw [hg] at h; exact h : Calls Try.prog 15 #[.agg (resvA q n c r)] W fun e w' => e = .returned (.bool true) ∧ Below W.heap.size W w'))
  have HKY := Lib.hid (fun (W : World) (hb : Below w.heap.size w W) => refKey_any (c := c) (RowsAt.below hq.at_ hb) hq.len hq.few o.who)
  have HP := Lib.hid hop
  have HQ := Lib.hid hq.at_
  have HN := Lib.hid hq.len
  have HF := Lib.hid hq.few
  have HD := Lib.hid hd
  have HKH := Lib.hid (fun (W : World) (hb : Below w.heap.size w W) => refKey_any (c := c) (RowsAt.below hq.at_ hb) hq.len hq.few r.h)
  have HR := Lib.hid (fun i (hi : i < r.regs.length) => regs_at hq.at_ (k := i) hi)
  have HWN := Lib.hid (fun i (hi : i < r.regs.length) => whosG_next hi o)
  have HWA := Lib.hid (whosG_all (o := o) hq.len)
  have HWL := Lib.hid (fun i => Nat.le_trans (whosG_len o (r.regs.take i)) (show (r.regs.take i).length ≤ 1000 by have := hq.few; rw [List.length_take, hq.len]; omega))
  have HW0 := Lib.hid (show whosG o (r.regs.take 0) = [] from by unfold whosG; rfl)
  have HGL := Lib.hid (show (goneR r o).length ≤ 1000 from Nat.le_trans (gone_len r o) (by rw [hq.len]; exact hq.few))
  rw [hq.len] at HR HWN
  rw [hk] at HKY
  have k0 : (o.key == 0) = false := beq_eq_false_iff_ne.2 (by rw [← hk]; exact hk0)
  have k1 : (o.key == o.key) = true := by simp
  have k2 : (o.key != o.key) = false := by simp
  have k3 : o.key ≠ 0 := by rw [← hk]; exact hk0
  clear hk hk0
  clear hop hq hd
  go_enter Try.func11, Try.ntmps11
  go_wp2_with (first
    | (with_reducible show wpList _ _ _ (⟨_, Op.box rvT _, _, _, _, none⟩ :: _) _ _
       refine wpList_boxA_of rfl _ rfl (resvA q n c r) rfl ?_
       intro w1 x1 l1 s1
       have X1 := Lib.hid x1
       have L1 := Lib.hid l1
       have S1 := Lib.hid s1
       clear x1 l1 s1)
    | (with_reducible show wpList _ _ _ (⟨_, Op.box roT _, _, _, _, none⟩ :: _) _ _
       refine wpList_boxA_of rfl _ rfl (ropA o) rfl ?_
       intro w2 x2 l2 s2
       rw [S1.out] at x2 s2
       rw [S1.out]
       have X2 := Lib.hid x2
       have L2 := Lib.hid l2
       have S2 := Lib.hid s2
       clear x2 l2 s2)
    | (with_reducible show wpList _ _ _ (⟨_, Op.alloc rvT, _, _, _, _⟩ :: _) _ _
       refine wpList_boxA_new rowRv rfl rfl (w.heap.size + 1 + 1) S2.out ?_
       intro w3 x3 l3 s3
       have T3 := Lib.hid (new3 X1.out L1.out S1.out X2.out L2.out S2.out x3 l3)
       obtain ⟨c0, c1, c2, c3, c4⟩ := T3.out.c
       obtain ⟨d0, d1, d2, d3, d4, d5⟩ := T3.out.d
       rw [HP.out] at d0
       clear x3 l3 s3 X1 L1 S1 X2 L2 S2)
    | (with_reducible show wpList _ _ _ (⟨_, Op.load rvT (.tmp 2), _, _, _, none⟩ :: _) _ _
       refine wpList_boxA_load rowRv rfl _ rfl w.heap.size (resvA q n c r) rfl rfl T3.out.s ?_)
    | (go_at_call 15
       refine (HGD.out _ T3.out.low).mono ?_; rintro e w4 ⟨rfl, hb⟩
       have T4 := Lib.hid (T3.out.mono hb)
       skip
       clear hb T3 c0 c1 c2 c3 c4 d0 d1 d2 d3 d4 d5
       obtain ⟨c0, c1, c2, c3, c4⟩ := T4.out.c
       obtain ⟨d0, d1, d2, d3, d4, d5⟩ := T4.out.d
       rw [HP.out] at d0)
    | (with_reducible show wpList _ _ _ (⟨_, Op.load rvT (.tmp 2), _, _, _, none⟩ :: _) _ _
       refine wpList_boxA_load rowRv rfl _ rfl w.heap.size (resvA q n c r) rfl rfl T4.out.s ?_)
    | (go_at_call 16
       refine (HKY.out _ T4.out.low).mono ?_; rintro e w5 ⟨rfl, hb⟩
       have T5 := Lib.hid (T4.out.mono hb)
       skip
       clear hb T4 c0 c1 c2 c3 c4 d0 d1 d2 d3 d4 d5
       obtain ⟨c0, c1, c2, c3, c4⟩ := T5.out.c
       obtain ⟨d0, d1, d2, d3, d4, d5⟩ := T5.out.d
       rw [HP.out] at d0))
  clear c0 c1 c2 c3 c4 d0 d1 d2 d3 d4 d5
  go_loopw [13, 12] (fun v13 v12 wr => ∃ i : Nat, i ≤ n ∧ v13 = .int .i64 i ∧ OwnL 3 1 intC wr (w.heap.size + 1 + 1 + 1) wr.heap.size v12 (whosG o (r.regs.take i)) ∧ ThS w w.heap.size (w.heap.size + 1) (w.heap.size + 1 + 1) (resvA q n c r) (resvA none 0 0 zeroRv) o wr) (fun v13 _ _ => n - (intOf v13).toNat)
  case atStart => exact ⟨0, Nat.zero_le _, rfl, by rw [HW0.out]; exact OwnL.nil _ _ _ _ _ _, T5.out⟩
  case round =>
    obtain ⟨i, hi, rfl, ho, ht⟩ := hrel
    have OE := Lib.hid ho
    have TE := Lib.hid ht
    have HLK := Lib.hid (HWL.out i)
    clear ho ht T5 HW0 HWL
    by_cases hlt : i < n
    · obtain ⟨QB, qo, rfl, hQB, hrg⟩ := HR.out i hlt
      have HLT := Lib.hid hlt
      have HN1 := Lib.hid (HWN.out i hlt)
      have f1 : (i : Int) < (n : Int) := by omega
      have f3 : IntKind.i64.wrap ((i : Int) + 1) = ((i + 1 : Nat) : Int) := by have := HF.out; rw [IntWalk.i64_in _ (by omega)]; omega
      have HRK := Lib.hid (fun (V : World) (hb : Below w.heap.size w V) => rangeAt_below hrg hb hQB)
      have g0 := TE.out.c.1
      have TD := Lib.hid TE.out.drew
      have HRD := Lib.hid (HRK.out wr.drew TD.out.low)
      clear hlt hi HR HWN HWA hrg hQB HKH HGD HKY HD
      generalize whosG o (r.regs.take i) = l at *
      generalize atR r.regs i = p at *
      obtain ⟨pw, pk⟩ := p
      by_cases hm : pw = o.who
      · have HNE := Lib.hid (show (pw != o.who) = false by simpa using hm)
        have hgf : goneF o (pw, pk) = false := by rw [gone_who]; simp [hm]
        rw [hgf] at HN1
        clear hm hgf
        go_wp2
        refine wp_region_sched [(0, true), (1, true), (2, true), (3, true), (4, true), (5, true), (6, true), (7, true), (8, true), (9, true), (10, true), (11, true), (12, true), (13, true), (14, true), (15, true), (16, true), (17, true), (18, true), (19, true)] (fun V => V = wr.drew) (by kernel_rfl) (by kernel_rfl) rfl ?_
        refine walk_float rfl rfl (fun K hK => ?_)
        refine gives_rvfield _ 0 rfl (by decide) w.heap.size rfl ?_
        go_simp
        refine hK _ ?_
        clear hK K
        refine walk_float rfl rfl (fun K hK => ?_)
        refine gives_cell rgS _ rfl ⟨w.heap.size, 0, none⟩ (.slice (some ⟨QB, qo, none⟩) n c) rfl box_regs (fun V hV => by rw [hV]; exact TD.out.c.1) ?_
        go_simp
        refine hK _ ?_
        clear hK K
        refine walk_float rfl rfl (fun K hK => ?_)
        refine gives_move _ rfl ?_
        go_simp
        refine hK _ ?_
        clear hK K
        refine walk_float rfl rfl (fun K hK => ?_)
        refine gives_reg_elem _ _ rfl QB qo n c i rfl rfl HLT.out ?_
        go_simp
        refine hK _ ?_
        clear hK K
        refine walk_float rfl rfl (fun K hK => ?_)
        refine gives_rg_who _ rfl QB (qo + 2 * i) rfl ?_
        go_simp
        refine hK _ ?_
        clear hK K
        refine walk_float rfl rfl (fun K hK => ?_)
        refine gives_cell 3 _ rfl ⟨QB, qo + 2 * i, none⟩ (.int .i64 pw) rfl box_int (fun V hV => by rw [hV]; exact (reg_c0 HRD.out)) ?_
        go_simp
        refine hK _ ?_
        clear hK K
        refine walk_float rfl rfl (fun K hK => ?_)
        refine gives_rofield _ 1 rfl (by decide) (w.heap.size + 1) rfl ?_
        go_simp
        refine hK _ ?_
        clear hK K
        refine walk_float rfl rfl (fun K hK => ?_)
        refine gives_cell 3 _ rfl ⟨w.heap.size + 1, 1, none⟩ (.int .i64 o.who) rfl box_int (fun V hV => by rw [hV]; exact TD.out.d.2.1) ?_
        go_simp
        refine hK _ ?_
        clear hK K
        refine walk_float rfl rfl (fun K hK => ?_)
        refine gives_int_isnt _ _ rfl pw o.who rfl rfl false HNE.out ?_
        go_simp
        refine hK _ ?_
        clear hK K
        refine walk_float rfl rfl (fun K hK => ?_)
        refine gives_move _ rfl ?_
        go_simp
        refine hK _ ?_
        clear hK K
        refine walk_off rfl rfl ?_
        go_simp
        refine walk_off rfl rfl ?_
        go_simp
        refine walk_off rfl rfl ?_
        go_simp
        refine walk_off rfl rfl ?_
        go_simp
        refine walk_off rfl rfl ?_
        go_simp
        refine walk_off rfl rfl ?_
        go_simp
        refine walk_off rfl rfl ?_
        go_simp
        refine walk_off rfl rfl ?_
        go_simp
        refine walk_off rfl rfl ?_
        go_simp
        refine walk_float rfl rfl (fun K hK => ?_)
        refine gives_pickF _ _ _ rfl rfl (.bool false) rfl ?_
        go_simp
        refine hK _ ?_
        clear hK K
        refine walk_nil ?_
        go_wp2
        go_roundw
        case rel => exact ⟨i + 1, HLT.out, by go_num, by rw [HN1.out, if_neg (by decide), List.append_nil]; exact OwnL.same OE.out (fun _ _ _ => rfl), TD.out⟩
        case measure => have := HLT.out; simp [intOf]; omega
      · have HNE := Lib.hid (show (pw != o.who) = true by simpa using hm)
        obtain ⟨kb, hkb⟩ : ∃ kb, (pk == o.new) = kb := ⟨_, rfl⟩
        have HKB := Lib.hid hkb
        have hgf : goneF o (pw, pk) = kb := by rw [gone_who, hkb]; simp [hm]
        rw [hgf] at HN1
        clear hm hgf hkb
        go_wp2
        refine wp_region_sched [(0, true), (1, true), (2, true), (3, true), (4, true), (5, true), (6, true), (7, true), (8, true), (9, true), (10, true), (11, true), (12, true), (13, true), (14, true), (15, true), (16, true), (17, true), (18, true), (19, true)] (fun V => V = wr.drew) (by kernel_rfl) (by kernel_rfl) rfl ?_
        refine walk_float rfl rfl (fun K hK => ?_)
        refine gives_rvfield _ 0 rfl (by decide) w.heap.size rfl ?_
        go_simp
        refine hK _ ?_
        clear hK K
        refine walk_float rfl rfl (fun K hK => ?_)
        refine gives_cell rgS _ rfl ⟨w.heap.size, 0, none⟩ (.slice (some ⟨QB, qo, none⟩) n c) rfl box_regs (fun V hV => by rw [hV]; exact TD.out.c.1) ?_
        go_simp
        refine hK _ ?_
        clear hK K
        refine walk_float rfl rfl (fun K hK => ?_)
        refine gives_move _ rfl ?_
        go_simp
        refine hK _ ?_
        clear hK K
        refine walk_float rfl rfl (fun K hK => ?_)
        refine gives_reg_elem _ _ rfl QB qo n c i rfl rfl HLT.out ?_
        go_simp
        refine hK _ ?_
        clear hK K
        refine walk_float rfl rfl (fun K hK => ?_)
        refine gives_rg_who _ rfl QB (qo + 2 * i) rfl ?_
        go_simp
        refine hK _ ?_
        clear hK K
        refine walk_float rfl rfl (fun K hK => ?_)
        refine gives_cell 3 _ rfl ⟨QB, qo + 2 * i, none⟩ (.int .i64 pw) rfl box_int (fun V hV => by rw [hV]; exact (reg_c0 HRD.out)) ?_
        go_simp
        refine hK _ ?_
        clear hK K
        refine walk_float rfl rfl (fun K hK => ?_)
        refine gives_rofield _ 1 rfl (by decide) (w.heap.size + 1) rfl ?_
        go_simp
        refine hK _ ?_
        clear hK K
        refine walk_float rfl rfl (fun K hK => ?_)
        refine gives_cell 3 _ rfl ⟨w.heap.size + 1, 1, none⟩ (.int .i64 o.who) rfl box_int (fun V hV => by rw [hV]; exact TD.out.d.2.1) ?_
        go_simp
        refine hK _ ?_
        clear hK K
        refine walk_float rfl rfl (fun K hK => ?_)
        refine gives_int_isnt _ _ rfl pw o.who rfl rfl true HNE.out ?_
        go_simp
        refine hK _ ?_
        clear hK K
        refine walk_float rfl rfl (fun K hK => ?_)
        refine gives_move _ rfl ?_
        go_simp
        refine hK _ ?_
        clear hK K
        refine walk_float rfl rfl (fun K hK => ?_)
        refine gives_rvfield _ 0 rfl (by decide) w.heap.size rfl ?_
        go_simp
        refine hK _ ?_
        clear hK K
        refine walk_float rfl rfl (fun K hK => ?_)
        refine gives_cell rgS _ rfl ⟨w.heap.size, 0, none⟩ (.slice (some ⟨QB, qo, none⟩) n c) rfl box_regs (fun V hV => by rw [hV]; exact TD.out.c.1) ?_
        go_simp
        refine hK _ ?_
        clear hK K
        refine walk_float rfl rfl (fun K hK => ?_)
        refine gives_move _ rfl ?_
        go_simp
        refine hK _ ?_
        clear hK K
        refine walk_float rfl rfl (fun K hK => ?_)
        refine gives_reg_elem _ _ rfl QB qo n c i rfl rfl HLT.out ?_
        go_simp
        refine hK _ ?_
        clear hK K
        refine walk_float rfl rfl (fun K hK => ?_)
        refine gives_rg_key _ rfl QB (qo + 2 * i) rfl ?_
        go_simp
        refine hK _ ?_
        clear hK K
        refine walk_float rfl rfl (fun K hK => ?_)
        refine gives_cell 3 _ rfl ⟨QB, qo + 2 * i + 1, none⟩ (.int .i64 pk) rfl box_int (fun V hV => by rw [hV]; exact (reg_c1 HRD.out)) ?_
        go_simp
        refine hK _ ?_
        clear hK K
        refine walk_float rfl rfl (fun K hK => ?_)
        refine gives_rofield _ 3 rfl (by decide) (w.heap.size + 1) rfl ?_
        go_simp
        refine hK _ ?_
        clear hK K
        refine walk_float rfl rfl (fun K hK => ?_)
        refine gives_cell 3 _ rfl ⟨w.heap.size + 1, 3, none⟩ (.int .i64 o.new) rfl box_int (fun V hV => by rw [hV]; exact TD.out.d.2.2.2.1) ?_
        go_simp
        refine hK _ ?_
        clear hK K
        refine walk_float rfl rfl (fun K hK => ?_)
        refine gives_int_is _ _ rfl pk o.new rfl rfl kb HKB.out ?_
        go_simp
        refine hK _ ?_
        clear hK K
        refine walk_float rfl rfl (fun K hK => ?_)
        refine gives_pickT _ _ _ rfl rfl (.bool kb) rfl ?_
        go_simp
        refine hK _ ?_
        clear hK K
        refine walk_nil ?_
        have OD := Lib.hid (show OwnL 3 1 intC wr.drew (w.heap.size + 1 + 1 + 1) wr.drew.heap.size u12 l from OwnL.same OE.out (fun _ _ _ => rfl))
        cases kb with
        | false =>
          go_wp2
          go_roundw
          case rel => exact ⟨i + 1, HLT.out, by go_num, by rw [HN1.out, if_neg (by decide), List.append_nil]; exact OD.out, TD.out⟩
          case measure => have := HLT.out; simp [intOf]; omega
        | true =>
          have kd0 := reg_c0 HRD.out
          have g1 := TD.out.c.1
          clear g0 OE TE
          generalize wr.drew = wd at *
          go_wp2_with (first
            | (with_reducible show wpList _ _ _ (⟨_, Op.indexAddr _ _ _, _, _, _, none⟩ :: _) _ _
               refine wpList_reg_elem rfl _ _ rfl QB qo n c i rfl rfl HLT.out ?_)
            | (with_reducible show wpList _ _ _ (⟨_, Op.buildSlice _ _ _, _, _, _, none⟩ :: _) _ _
               refine wpList_int1V rfl _ rfl pw rfl ?_
               intro a1 r1 b1 s1
               have RA1 := Lib.hid (row_own (n := 1) (base := 0) (top := 0) r1 rfl (by decide))
               have TA := Lib.hid (TD.out.mono b1)
               have OA := Lib.hid ((OwnL.below OD.out (Nat.le_refl _) b1).raise b1.size)
               clear r1 b1 s1 TD OD g1 kd0 HRD)
            | (at_builtin
               refine wpList_ints_grow rfl _ _ rfl (w.heap.size + 1 + 1 + 1) a1.heap.size _ l [pw] _ 1 1 rfl rfl rfl OA.out RA1.out (by have := HLK.out; simp; omega) (Nat.succ_le_of_lt TA.out.r.lt) ?_
               intro v2 a2 o2 b2
               have TB := Lib.hid (TA.out.above b2)
               have OB := Lib.hid o2
               clear o2 b2 RA1 TA OA))
          go_roundw
          case rel => exact ⟨i + 1, HLT.out, by go_num, by rw [HN1.out, if_pos rfl]; exact OB.out, TB.out⟩
          case measure => have := HLT.out; simp [intOf]; omega
    · have f1 : ¬ (i : Int) < (n : Int) := by omega
      obtain rfl : i = n := by omega
      rw [HWA.out] at OE
      clear hlt hi HR HWN HWA HLK HGD HKY
      obtain ⟨gp, gc, hv, -, -, -, -⟩ := OE.out.rows elemInt.len
      generalize hgm : (goneR r o).length = gm at hv
      have GM := Lib.hid (show gm ≤ 1000 from by rw [← hgm]; exact HGL.out)
      have HGM := Lib.hid hgm
      rw [hgm] at HD
      clear hgm
      subst hv
      have g0 := TE.out.c.1
      cases hh : (r.h == -1) with
      | true =>
        have HHN := Lib.hid (show (r.h != -1) = false by simpa using hh)
        rw [over_none hh] at HD
        clear hh HKH
        go_wp2
        clear g0
        refine wp_region_sched [(0, true), (1, true), (2, true), (3, true), (4, true), (5, true), (6, true), (8, true), (9, true), (7, false), (10, true), (11, true), (12, true)] (fun V => BoxA V w.heap.size rvT (resvA q i c r) ∧ BoxA V (w.heap.size + 1) roT (ropA o)) (by kernel_rfl) (by kernel_rfl) ⟨TE.out.s, TE.out.p⟩ ?_
        refine walk_float rfl rfl (fun K hK => ?_)
        refine gives_rvfield _ 1 rfl (by decide) w.heap.size rfl ?_
        go_simp
        refine hK _ ?_
        clear hK K
        refine walk_float rfl rfl (fun K hK => ?_)
        refine gives_cell 3 _ rfl ⟨w.heap.size, 1, none⟩ (.int .i64 r.h) rfl box_int (fun V hV => (boxRv hV.1).2.1) ?_
        go_simp
        refine hK _ ?_
        clear hK K
        refine walk_float rfl rfl (fun K hK => ?_)
        refine gives_int_isnt _ _ rfl r.h (-1) rfl rfl false HHN.out ?_
        go_simp
        refine hK _ ?_
        clear hK K
        refine walk_float rfl rfl (fun K hK => ?_)
        refine gives_move _ rfl ?_
        go_simp
        refine hK _ ?_
        clear hK K
        refine walk_off rfl rfl ?_
        go_simp
        refine walk_off rfl rfl ?_
        go_simp
        refine walk_off rfl rfl ?_
        go_simp
        refine walk_off rfl rfl ?_
        go_simp
        refine walk_off rfl rfl ?_
        go_simp
        refine walk_off' rfl rfl ?_
        go_simp
        refine walk_off rfl rfl ?_
        go_simp
        refine walk_float rfl rfl (fun K hK => ?_)
        refine gives_pickF _ _ _ rfl rfl (.bool false) rfl ?_
        go_simp
        refine hK _ ?_
        clear hK K
        refine walk_float rfl rfl (fun K hK => ?_)
        refine gives_assign _ rfl ?_
        go_simp
        refine hK _ ?_
        clear hK K
        have TG := Lib.hid TE.out.drew
        have OG := Lib.hid (show OwnL 3 1 intC wr.drew (w.heap.size + 1 + 1 + 1) wr.drew.heap.size (.slice gp gm gc) (goneR r o) from OwnL.same OE.out (fun _ _ _ => rfl))
        refine walk_nil ?_
        clear TE OE
        obtain ⟨c0, c1, c2, c3, c4⟩ := TG.out.c
        obtain ⟨d0, d1, d2, d3, d4, d5⟩ := TG.out.d
        rw [HP.out] at d0
        by_cases hg0 : gm = 0
        · have f2 : ((gm : Int) == 0) = true := by simp [hg0]
          have HD2 := Lib.hid (show rr = nobodyR ∧ z = 9 from by have h := HD.out; rw [hg0] at h; simpa using h)
          clear HD hg0
          obtain ⟨rfl, rfl⟩ := HD2.out
          go_wp2_with (first
              | (go_at_call 26
                 refine (refNobody_any _).mono ?_; rintro e w7 ⟨rfl, hb7⟩
                 have T7 := Lib.hid (TG.out.mono hb7)
                 clear hb7 TG)
              | (with_reducible show wpList _ _ _ (⟨_, Op.store rvT (.tmp 4) _, _, _, _, none⟩ :: _) _ _
                 refine wpList_boxA_put rowRv rfl _ _ rfl rfl (w.heap.size + 1 + 1) (resvA none 0 0 nobodyR) _ rfl (rvA_one _ _ _ _) rfl rfl rfl T7.out.r ?_
                 intro w9 x9 k9 s9
                 have T9 := Lib.hid (T7.out.setR x9 k9)
                 clear x9 k9 s9))
          exact bodyPost_ret (results_cell_row_tmp rfl _ _ (w.heap.size + 1 + 1) rvT (resvA none 0 0 nobodyR) (0, 0) _ rfl T9.out.r Try.underlying24 rfl (rvA_size _ _ _ _)) rfl (refPost_nobody T9.out.low)
          
        · have f2 : ((gm : Int) == 0) = false := beq_eq_false_iff_ne.2 (by omega)
          have HD2 := Lib.hid (show rr = { withoutR r (goneR r o) with g := incR r.g } ∧ z = 0 from by have h := HD.out; simpa [hg0] using h)
          clear HD hg0
          obtain ⟨rfl, rfl⟩ := HD2.out
          go_wp2_with (first
              | (with_reducible show wpList _ _ _ (⟨_, Op.load rvT (.tmp 2), _, _, _, none⟩ :: _) _ _
                 refine wpList_boxA_load rowRv rfl _ rfl w.heap.size (resvA q i c r) rfl rfl TG.out.s ?_)
              | (go_at_call 34
                 refine (refWithout_any (r := r) (c := c) (RowsAt.below HQ.out TG.out.low) HN.out HF.out (ints_rows OG.out).1 (ints_rows OG.out).2 GM.out).mono ?_
                 rintro e wh ⟨q1, e1, rfl, ho, hb⟩
                 have TH := Lib.hid (TG.out.mono hb)
                 have OH := Lib.hid (OwnL.lower ho TG.out.r.lt)
                 clear ho hb TG OG c0 c1 c2 c3 c4 d0 d1 d2 d3 d4 d5)
              | (with_reducible show wpList _ _ _ (⟨_, Op.store rvT (.tmp 2) _, _, _, _, none⟩ :: _) _ _
                 refine wpList_boxA_put rowRv rfl _ _ rfl rfl w.heap.size (resvA q1 (withoutR r (goneR r o)).regs.length e1 (withoutR r (goneR r o))) _ rfl (rvA_one _ _ _ _) rfl rfl rfl TH.out.s ?_
                 intro wi x k s
                 have TI := Lib.hid (TH.out.setS x k)
                 have OI := Lib.hid ((OwnL.same OH.out (w' := wi) (fun B hB hB2 => k.block B hB2 (by omega))).raise (show _ ≤ wi.heap.size by omega))
                 clear x k s TH OH
                 obtain ⟨c0, c1, c2, c3, c4⟩ := TI.out.c)
              | (with_reducible show wpList _ _ _ (⟨_, Op.store 3 (.tmp 269) _, _, _, _, none⟩ :: _) _ _
                 refine wpList_boxA_int rfl _ _ rfl rfl w.heap.size 4 _ rfl rfl TI.out.s (by simp [resvA]) ?_
                 intro wj x k s
                 rw [set4, show wrap64 ((withoutR r (goneR r o)).g + 1) = incR r.g from by rw [without_g]; exact inc64 r.g] at x
                 have TJ := Lib.hid (TI.out.setS x k)
                 have OJ := Lib.hid ((OwnL.same OI.out (w' := wj) (fun B hB hB2 => k.block B hB2 (by omega))).raise (show _ ≤ wj.heap.size by omega))
                 clear x k s TI OI c0 c1 c2 c3 c4)
              | (with_reducible show wpList _ _ _ (⟨_, Op.load rvT (.tmp 2), _, _, _, none⟩ :: _) _ _
                 refine wpList_boxA_load rowRv rfl _ rfl w.heap.size (resvA q1 (withoutR r (goneR r o)).regs.length e1 { withoutR r (goneR r o) with g := incR r.g }) rfl rfl TJ.out.s ?_)
              | (with_reducible show wpList _ _ _ (⟨_, Op.store rvT (.tmp 4) _, _, _, _, none⟩ :: _) _ _
                 refine wpList_boxA_put rowRv rfl _ _ rfl rfl (w.heap.size + 1 + 1) (resvA q1 (withoutR r (goneR r o)).regs.length e1 { withoutR r (goneR r o) with g := incR r.g }) _ rfl (rvA_one _ _ _ _) rfl rfl rfl TJ.out.r ?_
                 intro w9 x9 k9 s9
                 have T9 := Lib.hid (TJ.out.setR x9 k9)
                 have O9 := Lib.hid ((OwnL.same OJ.out (w' := w9) (fun B hB hB2 => k9.block B hB2 (by omega))).raise (show _ ≤ w9.heap.size by omega))
                 clear x9 k9 s9))
          exact bodyPost_ret (results_cell_row_tmp rfl _ _ (w.heap.size + 1 + 1) rvT (resvA q1 (withoutR r (goneR r o)).regs.length e1 { withoutR r (goneR r o) with g := incR r.g }) (0, 0) _ rfl T9.out.r Try.underlying24 rfl (rvA_size _ _ _ _)) rfl ⟨q1, _, e1, rfl, (own_rows O9.out).1, (own_rows O9.out).2, T9.out.low⟩
          
      | false =>
        have HHN := Lib.hid (show (r.h != -1) = true by simpa using hh)
        rw [over_key hh] at HD
        obtain ⟨ov, hov⟩ : ∃ ov, (keyR r.regs r.h == o.new) = ov := ⟨_, rfl⟩
        have HOV := Lib.hid hov
        rw [hov] at HD
        clear hh hov
        go_wp2
        clear g0
        refine wp_region_sched [(0, true), (1, true), (2, true), (3, true), (4, true), (5, true), (6, true), (8, true), (9, true), (7, false), (10, true), (11, true), (12, true)] (fun V => BoxA V w.heap.size rvT (resvA q i c r) ∧ BoxA V (w.heap.size + 1) roT (ropA o)) (by kernel_rfl) (by kernel_rfl) ⟨TE.out.s, TE.out.p⟩ ?_
        refine walk_float rfl rfl (fun K hK => ?_)
        refine gives_rvfield _ 1 rfl (by decide) w.heap.size rfl ?_
        go_simp
        refine hK _ ?_
        clear hK K
        refine walk_float rfl rfl (fun K hK => ?_)
        refine gives_cell 3 _ rfl ⟨w.heap.size, 1, none⟩ (.int .i64 r.h) rfl box_int (fun V hV => (boxRv hV.1).2.1) ?_
        go_simp
        refine hK _ ?_
        clear hK K
        refine walk_float rfl rfl (fun K hK => ?_)
        refine gives_int_isnt _ _ rfl r.h (-1) rfl rfl true HHN.out ?_
        go_simp
        refine hK _ ?_
        clear hK K
        refine walk_float rfl rfl (fun K hK => ?_)
        refine gives_move _ rfl ?_
        go_simp
        refine hK _ ?_
        clear hK K
        refine walk_float rfl rfl (fun K hK => ?_)
        refine gives_boxA_load rowRv _ rfl w.heap.size (resvA q i c r) rfl rfl (fun V hV => hV.1) ?_
        go_simp
        refine hK _ ?_
        clear hK K
        refine walk_float rfl rfl (fun K hK => ?_)
        refine gives_rvfield _ 1 rfl (by decide) w.heap.size rfl ?_
        go_simp
        refine hK _ ?_
        clear hK K
        refine walk_float rfl rfl (fun K hK => ?_)
        refine gives_cell 3 _ rfl ⟨w.heap.size, 1, none⟩ (.int .i64 r.h) rfl box_int (fun V hV => (boxRv hV.1).2.1) ?_
        go_simp
        refine hK _ ?_
        clear hK K
        refine walk_float rfl rfl (fun K hK => ?_)
        refine gives_rofield _ 3 rfl (by decide) (w.heap.size + 1) rfl ?_
        go_simp
        refine hK _ ?_
        clear hK K
        refine walk_float rfl rfl (fun K hK => ?_)
        refine gives_cell 3 _ rfl ⟨w.heap.size + 1, 3, none⟩ (.int .i64 o.new) rfl box_int (fun V hV => (boxRo hV.2).2.2.2.1) ?_
        go_simp
        refine hK _ ?_
        clear hK K
        have TF := Lib.hid TE.out.drew
        refine walk_done rfl rfl (fun K hK => ?_)
        refine done_call2 _ _ _ _ rfl 16 rfl (.agg (resvA q i c r)) (.int .i64 r.h) rfl rfl (enters_of Try.func16 (by kernel_rfl) rfl) ?_
        refine (HKH.out _ TF.out.low).mono ?_
        rintro e wg ⟨rfl, hb⟩
        have TG := Lib.hid (TF.out.mono hb)
        have OG := Lib.hid (show OwnL 3 1 intC wg (w.heap.size + 1 + 1 + 1) wg.heap.size (.slice gp gm gc) (goneR r o) from (OwnL.below (w := wr.drew) (OwnL.same OE.out (fun _ _ _ => rfl)) (Nat.le_refl _) hb).raise hb.size)
        clear hb TF
        refine ⟨_, rfl, ⟨TG.out.s, TG.out.p⟩, ?_⟩
        go_simp
        refine hK _ _ ?_
        clear hK K
        refine walk_float rfl rfl (fun K hK => ?_)
        refine gives_int_is _ _ rfl _ o.new rfl rfl ov HOV.out ?_
        go_simp
        refine hK _ ?_
        clear hK K
        refine walk_float rfl rfl (fun K hK => ?_)
        refine gives_pickT _ _ _ rfl rfl (.bool ov) rfl ?_
        go_simp
        refine hK _ ?_
        clear hK K
        refine walk_float rfl rfl (fun K hK => ?_)
        refine gives_assign _ rfl ?_
        go_simp
        refine hK _ ?_
        clear hK K
        refine walk_nil ?_
        clear TE OE
        obtain ⟨c0, c1, c2, c3, c4⟩ := TG.out.c
        obtain ⟨d0, d1, d2, d3, d4, d5⟩ := TG.out.d
        rw [HP.out] at d0
        cases ov with
        | true =>
          have HD2 := Lib.hid (show rr = { withoutR { r with h := o.who, t := o.ty } (goneR r o) with g := incR r.g } ∧ z = 0 from by have h := HD.out; simpa using h)
          clear HD
          by_cases hg0 : gm = 0
          · have f2 : ((gm : Int) == 0) = true := by simp [hg0]
            clear hg0
            obtain ⟨rfl, rfl⟩ := HD2.out
            go_wp2_with (first
                | (with_reducible show wpList _ _ _ (⟨_, Op.store 3 (.tmp 259) _, _, _, _, none⟩ :: _) _ _
                   refine wpList_boxA_int rfl _ _ rfl rfl w.heap.size 1 o.who rfl rfl TG.out.s (by simp [resvA]) ?_
                   intro wk x k s
                   rw [set1] at x
                   have TK := Lib.hid (TG.out.setS x k)
                   have OK := Lib.hid ((OwnL.same OG.out (w' := wk) (fun B hB hB2 => k.block B hB2 (by omega))).raise (show _ ≤ wk.heap.size by omega))
                   clear x k s TG OG c0 c1 c2 c3 c4 d0 d1 d2 d3 d4 d5
                   obtain ⟨c0, c1, c2, c3, c4⟩ := TK.out.c
                   obtain ⟨d0, d1, d2, d3, d4, d5⟩ := TK.out.d
                   rw [HP.out] at d0)
                | (with_reducible show wpList _ _ _ (⟨_, Op.store 3 (.tmp 262) _, _, _, _, none⟩ :: _) _ _
                   refine wpList_boxA_int rfl _ _ rfl rfl w.heap.size 2 o.ty rfl rfl TK.out.s (by simp [resvA]) ?_
                   intro wl x k s
                   rw [set2] at x
                   have TL := Lib.hid (TK.out.setS x k)
                   have OL := Lib.hid ((OwnL.same OK.out (w' := wl) (fun B hB hB2 => k.block B hB2 (by omega))).raise (show _ ≤ wl.heap.size by omega))
                   clear x k s TK OK c0 c1 c2 c3 c4 d0 d1 d2 d3 d4 d5
                   obtain ⟨c0, c1, c2, c3, c4⟩ := TL.out.c
                   obtain ⟨d0, d1, d2, d3, d4, d5⟩ := TL.out.d
                   rw [HP.out] at d0)
                | (with_reducible show wpList _ _ _ (⟨_, Op.load rvT (.tmp 2), _, _, _, none⟩ :: _) _ _
                   refine wpList_boxA_load rowRv rfl _ rfl w.heap.size (resvA q i c { r with h := o.who, t := o.ty }) rfl rfl TL.out.s ?_)
                | (go_at_call 34
                   refine (refWithout_any (r := { r with h := o.who, t := o.ty }) (c := c) (RowsAt.below HQ.out TL.out.low) HN.out HF.out (ints_rows OL.out).1 (ints_rows OL.out).2 GM.out).mono ?_
                   rintro e wh ⟨q1, e1, rfl, ho, hb⟩
                   have TH := Lib.hid (TL.out.mono hb)
                   have OH := Lib.hid (OwnL.lower ho TL.out.r.lt)
                   clear ho hb TL OL c0 c1 c2 c3 c4 d0 d1 d2 d3 d4 d5)
                | (with_reducible show wpList _ _ _ (⟨_, Op.store rvT (.tmp 2) _, _, _, _, none⟩ :: _) _ _
                   refine wpList_boxA_put rowRv rfl _ _ rfl rfl w.heap.size (resvA q1 (withoutR { r with h := o.who, t := o.ty } (goneR r o)).regs.length e1 (withoutR { r with h := o.who, t := o.ty } (goneR r o))) _ rfl (rvA_one _ _ _ _) rfl rfl rfl TH.out.s ?_
                   intro wi x k s
                   have TI := Lib.hid (TH.out.setS x k)
                   have OI := Lib.hid ((OwnL.same OH.out (w' := wi) (fun B hB hB2 => k.block B hB2 (by omega))).raise (show _ ≤ wi.heap.size by omega))
                   clear x k s TH OH
                   obtain ⟨c0, c1, c2, c3, c4⟩ := TI.out.c)
                | (with_reducible show wpList _ _ _ (⟨_, Op.store 3 (.tmp 269) _, _, _, _, none⟩ :: _) _ _
                   refine wpList_boxA_int rfl _ _ rfl rfl w.heap.size 4 _ rfl rfl TI.out.s (by simp [resvA]) ?_
                   intro wj x k s
                   rw [set4, show wrap64 ((withoutR { r with h := o.who, t := o.ty } (goneR r o)).g + 1) = incR r.g from by rw [without_g]; exact inc64 r.g] at x
                   have TJ := Lib.hid (TI.out.setS x k)
                   have OJ := Lib.hid ((OwnL.same OI.out (w' := wj) (fun B hB hB2 => k.block B hB2 (by omega))).raise (show _ ≤ wj.heap.size by omega))
                   clear x k s TI OI c0 c1 c2 c3 c4)
                | (with_reducible show wpList _ _ _ (⟨_, Op.load rvT (.tmp 2), _, _, _, none⟩ :: _) _ _
                   refine wpList_boxA_load rowRv rfl _ rfl w.heap.size (resvA q1 (withoutR { r with h := o.who, t := o.ty } (goneR r o)).regs.length e1 { withoutR { r with h := o.who, t := o.ty } (goneR r o) with g := incR r.g }) rfl rfl TJ.out.s ?_)
                | (with_reducible show wpList _ _ _ (⟨_, Op.store rvT (.tmp 4) _, _, _, _, none⟩ :: _) _ _
                   refine wpList_boxA_put rowRv rfl _ _ rfl rfl (w.heap.size + 1 + 1) (resvA q1 (withoutR { r with h := o.who, t := o.ty } (goneR r o)).regs.length e1 { withoutR { r with h := o.who, t := o.ty } (goneR r o) with g := incR r.g }) _ rfl (rvA_one _ _ _ _) rfl rfl rfl TJ.out.r ?_
                   intro w9 x9 k9 s9
                   have T9 := Lib.hid (TJ.out.setR x9 k9)
                   have O9 := Lib.hid ((OwnL.same OJ.out (w' := w9) (fun B hB hB2 => k9.block B hB2 (by omega))).raise (show _ ≤ w9.heap.size by omega))
                   clear x9 k9 s9))
            exact bodyPost_ret (results_cell_row_tmp rfl _ _ (w.heap.size + 1 + 1) rvT (resvA q1 (withoutR { r with h := o.who, t := o.ty } (goneR r o)).regs.length e1 { withoutR { r with h := o.who, t := o.ty } (goneR r o) with g := incR r.g }) (0, 0) _ rfl T9.out.r Try.underlying24 rfl (rvA_size _ _ _ _)) rfl ⟨q1, _, e1, rfl, (own_rows O9.out).1, (own_rows O9.out).2, T9.out.low⟩
            
          · have f2 : ((gm : Int) == 0) = false := beq_eq_false_iff_ne.2 (by omega)
            clear hg0
            obtain ⟨rfl, rfl⟩ := HD2.out
            go_wp2_with (first
                | (with_reducible show wpList _ _ _ (⟨_, Op.store 3 (.tmp 259) _, _, _, _, none⟩ :: _) _ _
                   refine wpList_boxA_int rfl _ _ rfl rfl w.heap.size 1 o.who rfl rfl TG.out.s (by simp [resvA]) ?_
                   intro wk x k s
                   rw [set1] at x
                   have TK := Lib.hid (TG.out.setS x k)
                   have OK := Lib.hid ((OwnL.same OG.out (w' := wk) (fun B hB hB2 => k.block B hB2 (by omega))).raise (show _ ≤ wk.heap.size by omega))
                   clear x k s TG OG c0 c1 c2 c3 c4 d0 d1 d2 d3 d4 d5
                   obtain ⟨c0, c1, c2, c3, c4⟩ := TK.out.c
                   obtain ⟨d0, d1, d2, d3, d4, d5⟩ := TK.out.d
                   rw [HP.out] at d0)
                | (with_reducible show wpList _ _ _ (⟨_, Op.store 3 (.tmp 262) _, _, _, _, none⟩ :: _) _ _
                   refine wpList_boxA_int rfl _ _ rfl rfl w.heap.size 2 o.ty rfl rfl TK.out.s (by simp [resvA]) ?_
                   intro wl x k s
                   rw [set2] at x
                   have TL := Lib.hid (TK.out.setS x k)
                   have OL := Lib.hid ((OwnL.same OK.out (w' := wl) (fun B hB hB2 => k.block B hB2 (by omega))).raise (show _ ≤ wl.heap.size by omega))
                   clear x k s TK OK c0 c1 c2 c3 c4 d0 d1 d2 d3 d4 d5
                   obtain ⟨c0, c1, c2, c3, c4⟩ := TL.out.c
                   obtain ⟨d0, d1, d2, d3, d4, d5⟩ := TL.out.d
                   rw [HP.out] at d0)
                | (with_reducible show wpList _ _ _ (⟨_, Op.load rvT (.tmp 2), _, _, _, none⟩ :: _) _ _
                   refine wpList_boxA_load rowRv rfl _ rfl w.heap.size (resvA q i c { r with h := o.who, t := o.ty }) rfl rfl TL.out.s ?_)
                | (go_at_call 34
                   refine (refWithout_any (r := { r with h := o.who, t := o.ty }) (c := c) (RowsAt.below HQ.out TL.out.low) HN.out HF.out (ints_rows OL.out).1 (ints_rows OL.out).2 GM.out).mono ?_
                   rintro e wh ⟨q1, e1, rfl, ho, hb⟩
                   have TH := Lib.hid (TL.out.mono hb)
                   have OH := Lib.hid (OwnL.lower ho TL.out.r.lt)
                   clear ho hb TL OL c0 c1 c2 c3 c4 d0 d1 d2 d3 d4 d5)
                | (with_reducible show wpList _ _ _ (⟨_, Op.store rvT (.tmp 2) _, _, _, _, none⟩ :: _) _ _
                   refine wpList_boxA_put rowRv rfl _ _ rfl rfl w.heap.size (resvA q1 (withoutR { r with h := o.who, t := o.ty } (goneR r o)).regs.length e1 (withoutR { r with h := o.who, t := o.ty } (goneR r o))) _ rfl (rvA_one _ _ _ _) rfl rfl rfl TH.out.s ?_
                   intro wi x k s
                   have TI := Lib.hid (TH.out.setS x k)
                   have OI := Lib.hid ((OwnL.same OH.out (w' := wi) (fun B hB hB2 => k.block B hB2 (by omega))).raise (show _ ≤ wi.heap.size by omega))
                   clear x k s TH OH
                   obtain ⟨c0, c1, c2, c3, c4⟩ := TI.out.c)
                | (with_reducible show wpList _ _ _ (⟨_, Op.store 3 (.tmp 269) _, _, _, _, none⟩ :: _) _ _
                   refine wpList_boxA_int rfl _ _ rfl rfl w.heap.size 4 _ rfl rfl TI.out.s (by simp [resvA]) ?_
                   intro wj x k s
                   rw [set4, show wrap64 ((withoutR { r with h := o.who, t := o.ty } (goneR r o)).g + 1) = incR r.g from by rw [without_g]; exact inc64 r.g] at x
                   have TJ := Lib.hid (TI.out.setS x k)
                   have OJ := Lib.hid ((OwnL.same OI.out (w' := wj) (fun B hB hB2 => k.block B hB2 (by omega))).raise (show _ ≤ wj.heap.size by omega))
                   clear x k s TI OI c0 c1 c2 c3 c4)
                | (with_reducible show wpList _ _ _ (⟨_, Op.load rvT (.tmp 2), _, _, _, none⟩ :: _) _ _
                   refine wpList_boxA_load rowRv rfl _ rfl w.heap.size (resvA q1 (withoutR { r with h := o.who, t := o.ty } (goneR r o)).regs.length e1 { withoutR { r with h := o.who, t := o.ty } (goneR r o) with g := incR r.g }) rfl rfl TJ.out.s ?_)
                | (with_reducible show wpList _ _ _ (⟨_, Op.store rvT (.tmp 4) _, _, _, _, none⟩ :: _) _ _
                   refine wpList_boxA_put rowRv rfl _ _ rfl rfl (w.heap.size + 1 + 1) (resvA q1 (withoutR { r with h := o.who, t := o.ty } (goneR r o)).regs.length e1 { withoutR { r with h := o.who, t := o.ty } (goneR r o) with g := incR r.g }) _ rfl (rvA_one _ _ _ _) rfl rfl rfl TJ.out.r ?_
                   intro w9 x9 k9 s9
                   have T9 := Lib.hid (TJ.out.setR x9 k9)
                   have O9 := Lib.hid ((OwnL.same OJ.out (w' := w9) (fun B hB hB2 => k9.block B hB2 (by omega))).raise (show _ ≤ w9.heap.size by omega))
                   clear x9 k9 s9))
            exact bodyPost_ret (results_cell_row_tmp rfl _ _ (w.heap.size + 1 + 1) rvT (resvA q1 (withoutR { r with h := o.who, t := o.ty } (goneR r o)).regs.length e1 { withoutR { r with h := o.who, t := o.ty } (goneR r o) with g := incR r.g }) (0, 0) _ rfl T9.out.r Try.underlying24 rfl (rvA_size _ _ _ _)) rfl ⟨q1, _, e1, rfl, (own_rows O9.out).1, (own_rows O9.out).2, T9.out.low⟩
            
        | false =>
          by_cases hg0 : gm = 0
          · have f2 : ((gm : Int) == 0) = true := by simp [hg0]
            have HD2 := Lib.hid (show rr = nobodyR ∧ z = 9 from by have h := HD.out; rw [hg0] at h; simpa using h)
            clear HD hg0
            obtain ⟨rfl, rfl⟩ := HD2.out
            go_wp2_with (first
                | (go_at_call 26
                   refine (refNobody_any _).mono ?_; rintro e w7 ⟨rfl, hb7⟩
                   have T7 := Lib.hid (TG.out.mono hb7)
                   clear hb7 TG)
                | (with_reducible show wpList _ _ _ (⟨_, Op.store rvT (.tmp 4) _, _, _, _, none⟩ :: _) _ _
                   refine wpList_boxA_put rowRv rfl _ _ rfl rfl (w.heap.size + 1 + 1) (resvA none 0 0 nobodyR) _ rfl (rvA_one _ _ _ _) rfl rfl rfl T7.out.r ?_
                   intro w9 x9 k9 s9
                   have T9 := Lib.hid (T7.out.setR x9 k9)
                   clear x9 k9 s9))
            exact bodyPost_ret (results_cell_row_tmp rfl _ _ (w.heap.size + 1 + 1) rvT (resvA none 0 0 nobodyR) (0, 0) _ rfl T9.out.r Try.underlying24 rfl (rvA_size _ _ _ _)) rfl (refPost_nobody T9.out.low)
            
          · have f2 : ((gm : Int) == 0) = false := beq_eq_false_iff_ne.2 (by omega)
            have HD2 := Lib.hid (show rr = { withoutR r (goneR r o) with g := incR r.g } ∧ z = 0 from by have h := HD.out; simpa [hg0] using h)
            clear HD hg0
            obtain ⟨rfl, rfl⟩ := HD2.out
            go_wp2_with (first
                | (with_reducible show wpList _ _ _ (⟨_, Op.load rvT (.tmp 2), _, _, _, none⟩ :: _) _ _
                   refine wpList_boxA_load rowRv rfl _ rfl w.heap.size (resvA q i c r) rfl rfl TG.out.s ?_)
                | (go_at_call 34
                   refine (refWithout_any (r := r) (c := c) (RowsAt.below HQ.out TG.out.low) HN.out HF.out (ints_rows OG.out).1 (ints_rows OG.out).2 GM.out).mono ?_
                   rintro e wh ⟨q1, e1, rfl, ho, hb⟩
                   have TH := Lib.hid (TG.out.mono hb)
                   have OH := Lib.hid (OwnL.lower ho TG.out.r.lt)
                   clear ho hb TG OG c0 c1 c2 c3 c4 d0 d1 d2 d3 d4 d5)
                | (with_reducible show wpList _ _ _ (⟨_, Op.store rvT (.tmp 2) _, _, _, _, none⟩ :: _) _ _
                   refine wpList_boxA_put rowRv rfl _ _ rfl rfl w.heap.size (resvA q1 (withoutR r (goneR r o)).regs.length e1 (withoutR r (goneR r o))) _ rfl (rvA_one _ _ _ _) rfl rfl rfl TH.out.s ?_
                   intro wi x k s
                   have TI := Lib.hid (TH.out.setS x k)
                   have OI := Lib.hid ((OwnL.same OH.out (w' := wi) (fun B hB hB2 => k.block B hB2 (by omega))).raise (show _ ≤ wi.heap.size by omega))
                   clear x k s TH OH
                   obtain ⟨c0, c1, c2, c3, c4⟩ := TI.out.c)
                | (with_reducible show wpList _ _ _ (⟨_, Op.store 3 (.tmp 269) _, _, _, _, none⟩ :: _) _ _
                   refine wpList_boxA_int rfl _ _ rfl rfl w.heap.size 4 _ rfl rfl TI.out.s (by simp [resvA]) ?_
                   intro wj x k s
                   rw [set4, show wrap64 ((withoutR r (goneR r o)).g + 1) = incR r.g from by rw [without_g]; exact inc64 r.g] at x
                   have TJ := Lib.hid (TI.out.setS x k)
                   have OJ := Lib.hid ((OwnL.same OI.out (w' := wj) (fun B hB hB2 => k.block B hB2 (by omega))).raise (show _ ≤ wj.heap.size by omega))
                   clear x k s TI OI c0 c1 c2 c3 c4)
                | (with_reducible show wpList _ _ _ (⟨_, Op.load rvT (.tmp 2), _, _, _, none⟩ :: _) _ _
                   refine wpList_boxA_load rowRv rfl _ rfl w.heap.size (resvA q1 (withoutR r (goneR r o)).regs.length e1 { withoutR r (goneR r o) with g := incR r.g }) rfl rfl TJ.out.s ?_)
                | (with_reducible show wpList _ _ _ (⟨_, Op.store rvT (.tmp 4) _, _, _, _, none⟩ :: _) _ _
                   refine wpList_boxA_put rowRv rfl _ _ rfl rfl (w.heap.size + 1 + 1) (resvA q1 (withoutR r (goneR r o)).regs.length e1 { withoutR r (goneR r o) with g := incR r.g }) _ rfl (rvA_one _ _ _ _) rfl rfl rfl TJ.out.r ?_
                   intro w9 x9 k9 s9
                   have T9 := Lib.hid (TJ.out.setR x9 k9)
                   have O9 := Lib.hid ((OwnL.same OJ.out (w' := w9) (fun B hB hB2 => k9.block B hB2 (by omega))).raise (show _ ≤ w9.heap.size by omega))
                   clear x9 k9 s9))
            exact bodyPost_ret (results_cell_row_tmp rfl _ _ (w.heap.size + 1 + 1) rvT (resvA q1 (withoutR r (goneR r o)).regs.length e1 { withoutR r (goneR r o) with g := incR r.g }) (0, 0) _ rfl T9.out.r Try.underlying24 rfl (rvA_size _ _ _ _)) rfl ⟨q1, _, e1, rfl, (own_rows O9.out).1, (own_rows O9.out).2, T9.out.low⟩
            
end Go.Proofs.Ytfnkdmdcjliebaa
