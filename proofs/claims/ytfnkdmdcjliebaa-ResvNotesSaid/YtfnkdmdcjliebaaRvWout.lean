/- The contract of the document's without: the registrations without some, the holder settled. Conditions: as it says. -/
import Derived.Test.YtfnkdmdcjliebaaRvWith
namespace Go.Proofs.Ytfnkdmdcjliebaa
open Go.ChangeShapes Go.WideShapes Go.ChangeAt Go.RowKit
set_option linter.unusedVariables false
set_option linter.unusedSimpArgs false
def intC (z : Int) : List Value := [.int .i64 z]
theorem elemInt : ElemOf Try.prog 65 3 1 8 intC where
  under := Try.underlying65
  size := by kernel_rfl
  bytes := by kernel_rfl
  zero := ⟨.int .i64 0, by kernel_rfl, rfl⟩
  len := fun _ => rfl
  one := fun c u hu => by
    obtain rfl : u = .int .i64 c := by simpa [intC] using hu
    rfl
  pos := by decide
theorem int_row {w : World} {q : Option Addr} {l : List Int} (h : RowsAt 1 intC w q l) {k : Nat} (hk : k < l.length) : ∃ B o, q = some ⟨B, o, none⟩ ∧ B < w.heap.size ∧ w.cell? ⟨B, o + k, none⟩ = some (.int .i64 (l.getD k 0)) := by
  rcases h with rfl | ⟨B, o, h1, h2, h3⟩
  · simp at hk
  · have := h3 k _ (List.getElem?_eq_getElem hk) 0 _ rfl
    rw [Nat.one_mul, Nat.add_zero] at this
    exact ⟨B, o, h1, h2, by rw [this, List.getD_eq_getElem?_getD, List.getElem?_eq_getElem hk]; rfl⟩
theorem intElem1 : IntElem Try.prog 3 .i64 := ⟨Try.underlying3, by kernel_rfl⟩
theorem int_addr {o : Oper} {a : Act} (x y : Operand) (ho : o.op = .indexAddr 65 x y) (B off n cap k : Nat) (hx : a.eval x = .slice (some ⟨B, off, none⟩) n cap) (hy : a.eval y = .int .i64 k) (hk : k < n) (w : World) : (execOp a.eval o).run Try.prog w = .ok (.value (.pointer (some ⟨B, off + k, none⟩))) w := by
  have h0 : (k : Int) < n := by omega
  have hs := intElem1.run_size (P := Try.prog) w
  unfold execOp
  simp only [ho, hx, hy]
  simp [go_sem, Try.underlying65, h0, hs, addr_add]
theorem gives_int_elem {o : Oper} {a : Act} {C : World → Prop} {K : Act → Prop} (x y : Operand) (ho : o.op = .indexAddr 65 x y) (B off n cap k : Nat) (hx : a.eval x = .slice (some ⟨B, off, none⟩) n cap) (hy : a.eval y = .int .i64 k) (hk' : k < n) (hk : K (a.put o.dst (.pointer (some ⟨B, off + k, none⟩)))) : ∃ v, Gives Try.prog C o a v ∧ K (a.put o.dst v) :=
  ⟨_, fun w _ => int_addr x y ho B off n cap k hx hy hk' w, hk⟩
theorem any_next (gs : List Int) (k : Nat) (hk : k < gs.length) (x : Int) : (gs.take (k + 1)).any (· == x) = ((gs.take k).any (· == x) || (gs.getD k 0 == x)) := by
  rw [List.take_add_one, List.getElem?_eq_getElem hk, List.any_append, List.getD_eq_getElem?_getD, List.getElem?_eq_getElem hk]
  simp
def keepF (gs : List Int) (p : Int × Int) : Bool := !(gs.any (· == p.1))
theorem without_is (r : ResvOf) (gs : List Int) : withoutR r gs = settleR { r with regs := r.regs.filter (keepF gs) } := rfl
theorem filt_next {ks : List (Int × Int)} {i : Nat} (hi : i < ks.length) (gs : List Int) : (ks.take (i + 1)).filter (keepF gs) = (ks.take i).filter (keepF gs) ++ (if keepF gs (atR ks i) then [atR ks i] else []) := by
  rw [take_snocR hi, List.filter_append]
  cases h : keepF gs (atR ks i)
  · rw [List.filter_cons, h]; rfl
  · rw [List.filter_cons, h]; rfl
section
variable {ops : Array Oper} {rest : List Oper} {o : Oper} {a : Act} {w : World} {Q : Exit → Act → World → Prop} {T : TypeId} {A : Array Value}
theorem wpList_boxA_slice (hgd : o.guard = none) (x y : Operand) (ho : o.op = .store rgS x y) (hd : o.dst = none) (O k : Nat) (p : Option Addr) (m e : Nat) (hx : a.eval x = .pointer (some ⟨O, k, none⟩)) (hy : a.eval y = .slice p m e) (hO : BoxA w O T A) (hk : k < A.size)
    (h : ∀ w', BoxA w' O T (A.setIfInBounds k (.slice p m e)) → Keeps (fun j => j = O) w w' → w'.heap.size = w.heap.size → wpList Try.prog ops Q rest a w') : wpList Try.prog ops Q (o :: rest) a w :=
  wpList_plain hgd fun K hK => by
    have hc : w.cell? ⟨O, k, none⟩ = some A[k] := (hO.cell k).trans (Array.getElem?_eq_getElem hk)
    have hf := hO.free k
    have hh := hK _ _ (h _ (hO.set k (.slice p m e)) ((Keeps.refl (fun j => j = O) w).setCell rfl k (.slice p m e)) (by simp [World.setCell]))
    unfold Oper.wp execOp
    simp only [ho, hx, hy]
    simp [go_sem, hc, hf, hd]
    exact hh
theorem wpList_boxA_int (hgd : o.guard = none) (x y : Operand) (ho : o.op = .store 3 x y) (hd : o.dst = none) (O k : Nat) (z : Int) (hx : a.eval x = .pointer (some ⟨O, k, none⟩)) (hy : a.eval y = .int .i64 z) (hO : BoxA w O T A) (hk : k < A.size)
    (h : ∀ w', BoxA w' O T (A.setIfInBounds k (.int .i64 z)) → Keeps (fun j => j = O) w w' → w'.heap.size = w.heap.size → wpList Try.prog ops Q rest a w') : wpList Try.prog ops Q (o :: rest) a w :=
  wpList_plain hgd fun K hK => by
    have hc : w.cell? ⟨O, k, none⟩ = some A[k] := (hO.cell k).trans (Array.getElem?_eq_getElem hk)
    have hf := hO.free k
    have hh := hK _ _ (h _ (hO.set k (.int .i64 z)) ((Keeps.refl (fun j => j = O) w).setCell rfl k (.int .i64 z)) (by simp [World.setCell]))
    unfold Oper.wp execOp
    simp only [ho, hx, hy]
    simp [go_sem, hc, hf, hd]
    exact hh
end
theorem WiP.set {w V V' : World} {A A' : Array Value} {l : List (Int × Int)} {v : Value} (h : WiP w A l v V) (hx : BoxA V' w.heap.size rvT A') (hk : Keeps (fun j => j = w.heap.size) V V') (hs : V'.heap.size = V.heap.size) : WiP w A' l v V' :=
  ⟨(h.own.same (fun B hB hB2 => hk.block B hB2 (by omega))).raise (by omega), hx, h.res.keep (hk.block _ h.res.lt (by omega)), h.low.trans (hk.below h.low.size (fun j hj e => by omega)), by have := h.big; omega⟩
theorem atR_zero (L : List (Int × Int)) : atR L 0 = L.getD 0 (0, 0) := rfl
theorem keepF_is (gs : List Int) (p : Int × Int) : keepF gs p = !(gs.any (· == p.1)) := rfl
theorem WiP.mono {w V V' : World} {A : Array Value} {l : List (Int × Int)} {v : Value} (h : WiP w A l v V) (hb : Below V.heap.size V V') : WiP w A l v V' :=
  h.push hb ((h.own.below (Nat.le_refl _) hb).raise hb.size) (Below.refl _ _)
attribute [local irreducible] regC atR keepF
attribute [local go_sem] Oper.semAt_some
set_option maxRecDepth 100000 in
set_option maxHeartbeats 8000000 in
theorem refWithout_any {w : World} {q : Option Addr} {n c : Nat} {r : ResvOf} (hq : RegsAt w q r.regs) (hn : r.regs.length = n) (hl : n ≤ 1000) {gp : Option Addr} {gn gc : Nat} {gs : List Int} (hg : RowsAt 1 intC w gp gs) (hgn : gs.length = gn) (hgl : gn ≤ 1000) :
    Calls Try.prog 34 #[.agg (resvA q n c r), .slice gp gn gc] w fun e w' => ∃ q' c', e = .returned (.agg (resvA q' (withoutR r gs).regs.length c' (withoutR r gs))) ∧ OwnR w w' q' (withoutR r gs).regs.length c' (withoutR r gs).regs ∧ Below w.heap.size w w' := by
  have HR := Lib.hid (fun k (hk : k < r.regs.length) => regs_at hq hk)
  have HGI := Lib.hid (fun k (hk : k < gs.length) => int_row hg hk)
  have HFN := Lib.hid (fun k (hk : k < r.regs.length) => filt_next hk gs)
  have HAN := Lib.hid (fun k (hk : k < gs.length) x => any_next gs k hk x)
  have HL := Lib.hid hl
  have HGL := Lib.hid hgl
  have HFA := Lib.hid (show (r.regs.take n).filter (keepF gs) = r.regs.filter (keepF gs) from by rw [List.take_of_length_le (by omega)])
  have HAA := Lib.hid (show ∀ x, (gs.take gn).any (· == x) = gs.any (· == x) from fun x => by rw [List.take_of_length_le (by omega)])
  have HLF := Lib.hid (show (r.regs.filter (keepF gs)).length ≤ 1000 from Nat.le_trans (List.length_filter_le _ _) (by omega))
  rw [hn] at HR HFN
  rw [hgn] at HGI HAN
  clear hq hl hg hgl hn hgn
  go_enter Try.func34, Try.ntmps34
  go_wp2_with (first
    | (with_reducible show wpList _ _ _ (⟨_, Op.box rvT _, _, _, _, none⟩ :: _) _ _
       refine wpList_boxA_of rfl _ rfl (resvA q n c r) rfl ?_
       intro w1 x1 l1 s1
       have X1 := Lib.hid x1
       have B1 := Lib.hid l1
       have S1 := Lib.hid s1
       clear x1 l1 s1)
    | (with_reducible show wpList _ _ _ (⟨_, Op.alloc rvT, _, _, _, _⟩ :: _) _ _
       refine wpList_boxA_new rowRv rfl rfl w1.heap.size rfl ?_
       intro w2 x2 l2 s2
       have Z2 := Lib.hid x2
       have X2 := Lib.hid (X1.out.keep (l2.block _ X1.out.lt))
       have B2 := Lib.hid (B1.out.trans (l2.mono B1.out.size))
       have S2 := Lib.hid (show w2.heap.size = w.heap.size + 2 from by rw [s2, S1.out])
       rw [S1.out] at Z2
       rw [S1.out]
       clear x2 l2 s2 X1 B1 S1))
  go_loopw [6, 5, 7, 8] (fun v6 v5 _ _ wr => ∃ k : Nat, k ≤ n ∧ v6 = .int .i64 k ∧ WiP w (resvA q n c r) ((r.regs.take k).filter (keepF gs)) v5 wr) (fun v6 _ _ _ _ => n - (intOf v6).toNat)
  case atStart => exact ⟨0, Nat.zero_le _, rfl, .nil _ _ _ _ _ _, X2.out, Z2.out, B2.out, by rw [S2.out]; exact Nat.le_refl _⟩
  case round =>
    obtain ⟨k, hk, rfl, hs⟩ := hrel
    have HP := Lib.hid hs
    clear hs X2 Z2 B2 S2
    by_cases hlt : k < n
    · obtain ⟨QB, qo, rfl, hQB, hrg⟩ := HR.out k hlt
      have HRG := Lib.hid (fun (V : World) (hb : Below w.heap.size w V) => rangeAt_below hrg hb hQB)
      have HLT := Lib.hid hlt
      have f3 : (k : Int) < (n : Int) := by omega
      have f4 : IntKind.i64.wrap ((k : Int) + 1) = ((k + 1 : Nat) : Int) := by have := HL.out; rw [IntWalk.i64_in _ (by omega)]; omega
      have HFK := Lib.hid (HFN.out k hlt)
      have HLE := Lib.hid (show ((r.regs.take k).filter (keepF gs)).length ≤ 1000 from by have := HL.out; exact Nat.le_trans (List.length_filter_le _ _) (by rw [List.length_take]; omega))
      clear hrg hQB hlt hk HFN HR HFA
      generalize hp : atR r.regs k = p at *
      obtain ⟨pw, pk⟩ := p
      clear hp
      generalize (r.regs.take k).filter (keepF gs) = l at *
      have g0 : wr.cell? ⟨w.heap.size, 0, none⟩ = some (.slice (some ⟨QB, qo, none⟩) n c) := HP.out.box.cell 0
      go_wp2
      generalize wr = wo at *
      go_loopw [8, 7] (fun v8 v7 wr => ∃ j : Nat, j ≤ gn ∧ v8 = .int .i64 j ∧ v7 = .bool ((gs.take j).any (· == pw)) ∧ Below wo.heap.size wo wr) (fun v8 _ _ => gn - (intOf v8).toNat)
      case atStart => exact ⟨0, Nat.zero_le _, rfl, rfl, Below.refl _ _⟩
      case round =>
        obtain ⟨j, hj, rfl, rfl, hb⟩ := hrel
        have HB := Lib.hid hb
        clear hb
        by_cases hjl : j < gn
        · obtain ⟨GB, go, rfl, hGB, hgc⟩ := HGI.out j hjl
          have HGC := Lib.hid (fun (V : World) (hb : Below w.heap.size w V) => (hb.cell (p := ⟨GB, go + j, none⟩) hGB).trans hgc)
          have HX := Lib.hid (HAN.out j hjl pw)
          have HJL := Lib.hid hjl
          have f5 : (j : Int) < (gn : Int) := by omega
          have f6 : IntKind.i64.wrap ((j : Int) + 1) = ((j + 1 : Nat) : Int) := by have := HGL.out; rw [IntWalk.i64_in _ (by omega)]; omega
          have BD := Lib.hid ((HP.out.low.trans (HB.out.mono HP.out.low.size)).drew)
          have XD := Lib.hid (show BoxA wr.drew w.heap.size rvT (resvA (some ⟨QB, qo, none⟩) n c r) from HP.out.box.keep (HB.out.block _ HP.out.box.lt))
          clear hgc hGB hjl hj HGI HAN
          generalize gs.getD j 0 = gz at *
          generalize (gs.take j).any (· == pw) = b at *
          cases b with
          | true =>
            have HX1 := Lib.hid (show (gs.take (j + 1)).any (· == pw) = true from by rw [HX.out]; rfl)
            clear HX
            go_wp2
            refine wp_region_sched [(0, true), (1, true), (2, true), (3, true), (4, true), (5, true), (6, true), (7, true), (8, true), (9, true), (10, true), (11, true), (12, true), (13, true), (14, true)] (fun V => V = wr.drew) (by kernel_rfl) (by kernel_rfl) rfl ?_
            refine walk_float rfl rfl (fun K hK => ?_)
            refine gives_move _ rfl ?_
            go_simp
            refine hK _ ?_
            clear hK K
            refine walk_float rfl rfl (fun K hK => ?_)
            refine gives_move _ rfl ?_
            go_simp
            refine hK _ ?_
            clear hK K
            refine walk_off rfl rfl ?_
            go_simp
            refine walk_off rfl rfl ?_
            go_simp
            refine walk_off rfl rfl ?_
            go_simp
            refine walk_off rfl rfl ?_
            go_simp
            refine walk_off rfl rfl ?_
            go_simp
            refine walk_off rfl rfl ?_
            go_simp
            refine walk_off rfl rfl ?_
            go_simp
            refine walk_off rfl rfl ?_
            go_simp
            refine walk_off rfl rfl ?_
            go_simp
            refine walk_off rfl rfl ?_
            go_simp
            refine walk_off rfl rfl ?_
            go_simp
            refine walk_float rfl rfl (fun K hK => ?_)
            refine gives_pickT _ _ _ rfl rfl (.bool true) rfl ?_
            go_simp
            refine hK _ ?_
            clear hK K
            refine walk_float rfl rfl (fun K hK => ?_)
            refine gives_assign _ rfl ?_
            go_simp
            refine hK _ ?_
            clear hK K
            refine walk_nil ?_
            go_wp2
            go_roundw
            case rel => exact ⟨j + 1, HJL.out, by go_num, by rw [HX1.out], (HB.out).drew⟩
            case measure => have := HJL.out; simp [intOf]; omega
          | false =>
            have HX1 := Lib.hid (show (gs.take (j + 1)).any (· == pw) = (gz == pw) from by rw [HX.out]; rfl)
            clear HX
            go_wp2
            refine wp_region_sched [(0, true), (1, true), (2, true), (3, true), (4, true), (5, true), (6, true), (7, true), (8, true), (9, true), (10, true), (11, true), (12, true), (13, true), (14, true)] (fun V => V = wr.drew) (by kernel_rfl) (by kernel_rfl) rfl ?_
            refine walk_float rfl rfl (fun K hK => ?_)
            refine gives_move _ rfl ?_
            go_simp
            refine hK _ ?_
            clear hK K
            refine walk_float rfl rfl (fun K hK => ?_)
            refine gives_move _ rfl ?_
            go_simp
            refine hK _ ?_
            clear hK K
            refine walk_float rfl rfl (fun K hK => ?_)
            refine gives_move _ rfl ?_
            go_simp
            refine hK _ ?_
            clear hK K
            refine walk_float rfl rfl (fun K hK => ?_)
            refine gives_move _ rfl ?_
            go_simp
            refine hK _ ?_
            clear hK K
            refine walk_float rfl rfl (fun K hK => ?_)
            refine gives_int_elem _ _ rfl GB go gn gc j rfl rfl HJL.out ?_
            go_simp
            refine hK _ ?_
            clear hK K
            refine walk_float rfl rfl (fun K hK => ?_)
            refine gives_cell 3 _ rfl ⟨GB, go + j, none⟩ (.int .i64 gz) rfl box_int (fun V hV => by rw [hV]; exact HGC.out _ BD.out) ?_
            go_simp
            refine hK _ ?_
            clear hK K
            refine walk_float rfl rfl (fun K hK => ?_)
            refine gives_rvfield _ 0 rfl (by decide) w.heap.size rfl ?_
            go_simp
            refine hK _ ?_
            clear hK K
            refine walk_float rfl rfl (fun K hK => ?_)
            refine gives_cell rgS _ rfl ⟨w.heap.size, 0, none⟩ (.slice (some ⟨QB, qo, none⟩) n c) rfl box_regs (fun V hV => by rw [hV]; exact XD.out.cell 0) ?_
            go_simp
            refine hK _ ?_
            clear hK K
            refine walk_float rfl rfl (fun K hK => ?_)
            refine gives_move _ rfl ?_
            go_simp
            refine hK _ ?_
            clear hK K
            refine walk_float rfl rfl (fun K hK => ?_)
            refine gives_reg_elem _ _ rfl QB qo n c k rfl rfl HLT.out ?_
            go_simp
            refine hK _ ?_
            clear hK K
            refine walk_float rfl rfl (fun K hK => ?_)
            refine gives_rg_who _ rfl QB (qo + 2 * k) rfl ?_
            go_simp
            refine hK _ ?_
            clear hK K
            refine walk_float rfl rfl (fun K hK => ?_)
            refine gives_cell 3 _ rfl ⟨QB, qo + 2 * k, none⟩ (.int .i64 pw) rfl box_int (fun V hV => by rw [hV]; exact reg_c0 (HRG.out _ BD.out)) ?_
            go_simp
            refine hK _ ?_
            clear hK K
            refine walk_float rfl rfl (fun K hK => ?_)
            refine gives_int_is _ _ rfl gz pw rfl rfl (gz == pw) rfl ?_
            go_simp
            refine hK _ ?_
            clear hK K
            refine walk_float rfl rfl (fun K hK => ?_)
            refine gives_pickF _ _ _ rfl rfl (.bool (gz == pw)) rfl ?_
            go_simp
            refine hK _ ?_
            clear hK K
            refine walk_float rfl rfl (fun K hK => ?_)
            refine gives_assign _ rfl ?_
            go_simp
            refine hK _ ?_
            clear hK K
            refine walk_nil ?_
            go_wp2
            go_roundw
            case rel => exact ⟨j + 1, HJL.out, by go_num, by rw [HX1.out], (HB.out).drew⟩
            case measure => have := HJL.out; simp [intOf]; omega
        · have f5 : ¬ (j : Int) < (gn : Int) := by omega
          obtain rfl : j = gn := by omega
          have HA := Lib.hid (show (gs.take j).any (· == pw) = !(keepF gs (pw, pk)) from by rw [HAA.out, keepF_is]; simp)
          rw [HA.out]
          have P2 := Lib.hid (HP.out.mono HB.out)
          have g0 : wr.cell? ⟨w.heap.size, 0, none⟩ = some (.slice (some ⟨QB, qo, none⟩) n c) := P2.out.box.cell 0
          clear HP HB hjl hj HA HGI HAN HAA
          cases hkf : keepF gs (pw, pk) with
          | false =>
            rw [hkf] at HFK
            clear hkf
            go_wp2
            go_roundw
            case rel => exact ⟨k + 1, HLT.out, by go_num, by rw [HFK.out]; simpa using P2.out⟩
            case measure => have := HLT.out; simp [intOf]; omega
          | true =>
            rw [hkf] at HFK
            clear hkf
            go_wp2_with (first
              | (with_reducible show wpList _ _ _ (⟨_, Op.indexAddr _ _ _, _, _, _, none⟩ :: _) _ _
                 refine wpList_reg_elem rfl _ _ rfl QB qo n c k rfl rfl HLT.out ?_)
              | (with_reducible show wpList _ _ _ (⟨_, Op.load rgT _, _, _, _, none⟩ :: _) _ _
                 refine wpList_reg_load rfl _ rfl QB (qo + 2 * k) rfl pw pk (HRG.out _ P2.out.low) ?_)
              | (with_reducible show wpList _ _ _ (⟨_, Op.buildSlice _ _ _, _, _, _, none⟩ :: _) _ _
                 refine wpList_reg1 rfl _ rfl (pw, pk) rfl ?_
                 intro a1 r1 b1 s1
                 have RA1 := Lib.hid r1
                 have LA1 := Lib.hid b1
                 clear r1 b1 s1 g0)
              | (at_builtin
                 refine wpList_regs_grow rfl _ _ rfl (w.heap.size + 2) wr.heap.size u5 l [(pw, pk)] _ 1 1 rfl rfl rfl (P2.out.own.below (Nat.le_refl _) LA1.out) RA1.out (by have := HLE.out; simp; omega) (Nat.le_trans P2.out.big LA1.out.size) ?_
                 intro v2 a2 o2 b2
                 have P4 := Lib.hid (P2.out.push LA1.out o2 b2)
                 clear o2 b2 RA1 LA1 P2))
            go_roundw
            case rel => exact ⟨k + 1, HLT.out, by go_num, by rw [HFK.out]; exact P4.out⟩
            case measure => have := HLT.out; simp [intOf]; omega
    · have f3 : ¬ (k : Int) < (n : Int) := by omega
      obtain rfl : k = n := by omega
      rw [HFA.out] at HP
      clear hlt hk HR HFN HFA HGI HAN HAA
      generalize hL : r.regs.filter (keepF gs) = L at *
      have HLd := Lib.hid hL
      clear hL
      obtain ⟨p, e, hv, -, -, -, -⟩ := HP.out.own.rows elemReg.len
      generalize hm : L.length = m at hv
      have HM := Lib.hid hm
      clear hm
      subst hv
      have HML := Lib.hid (show m ≤ 1000 from by rw [← HM.out]; exact HLF.out)
      clear HLF
      have g0 : wr.cell? ⟨w.heap.size, 0, none⟩ = some (.slice q k c) := HP.out.box.cell 0
      by_cases hh : r.h = -1
      · have e1 : (r.h == -1) = true := by simp [hh]
        have e2 : (r.h != -1) = false := by simp [hh]
        have HSV := Lib.hid (show settleR ⟨L, r.h, r.t, r.s, r.g⟩ = ⟨L, r.h, r.t, r.s, r.g⟩ from by unfold settleR; simp [hh])
        clear hh
        have HV := Lib.hid (show withoutR r gs = ⟨L, r.h, r.t, r.s, r.g⟩ from by rw [without_is, HLd.out]; exact HSV.out)
        clear HSV
        go_wp2_with (first
          | (with_reducible show wpList _ _ _ (⟨_, Op.store rgS _ _, _, _, _, none⟩ :: _) _ _
             refine wpList_boxA_slice rfl _ _ rfl rfl w.heap.size 0 p m e rfl rfl HP.out.box (by simp [resvA]) ?_
             intro U1 x1 k1 s1
             have P1 := Lib.hid (HP.out.set (show BoxA _ _ _ (resvA p m e ⟨L, r.h, r.t, r.s, r.g⟩) from x1) k1 s1)
             clear x1 k1 s1 HP g0
             have g1 : U1.cell? ⟨w.heap.size, 1, none⟩ = some (.int .i64 r.h) := P1.out.box.cell 1)
          | (with_reducible show wpList _ _ _ (⟨_, Op.load rvT _, _, _, _, none⟩ :: _) _ _
             refine wpList_boxA_load rowRv rfl _ rfl w.heap.size (resvA p m e ⟨L, r.h, r.t, r.s, r.g⟩) rfl rfl P1.out.box ?_)
          | (with_reducible show wpList _ _ _ (⟨_, Op.store rvT _ _, _, _, _, none⟩ :: _) _ _
             refine wpList_boxA_put rowRv rfl _ _ rfl rfl (w.heap.size + 1) (resvA p m e ⟨L, r.h, r.t, r.s, r.g⟩) _ rfl (rvA_one _ _ _ _) rfl rfl rfl P1.out.res ?_
             intro U9 x9 k9 s9
             have X9 := Lib.hid x9
             have K9 := Lib.hid k9
             have S9 := Lib.hid s9
             clear x9 k9 s9))
        exact bodyPost_ret (results_cell_row rfl _ _ (w.heap.size + 1) rvT (resvA p m e ⟨L, r.h, r.t, r.s, r.g⟩) (0, 0) _ rfl X9.out Try.underlying24 rfl (rvA_size _ _ _ _)) rfl ⟨p, e, by rw [HV.out]; show _ = Ending.returned (.agg (resvA _ L.length _ _)); rw [HM.out], by
          rw [HV.out]
          show OwnR w U9 p L.length e L
          rw [HM.out]
          exact ((P1.out.own.same (fun B hB hB2 => K9.out.block B hB2 (by omega))).lower (by omega)).raise (by rw [S9.out]; exact Nat.le_refl _), P1.out.low.trans (K9.out.below P1.out.low.size (fun j hj h => by omega))⟩
      · have e1 : (r.h == -1) = false := by simp [hh]
        have e2 : (r.h != -1) = true := by simp [hh]
        by_cases hk : keyR L r.h = 0
        · have e3 : (keyR L r.h == 0) = true := by simp [hk]
          by_cases h5 : 5 ≤ r.t
          · have e4 : decide (5 ≤ r.t) = true := by simp [h5]
            by_cases hm0 : 0 < m
            · have HM0 := Lib.hid hm0
              have e5 : decide ((0 : Int) < (m : Int)) = true := by simp; omega
              have e6 : (0 : Int) < (m : Int) := by omega
              have HSV := Lib.hid (show settleR ⟨L, r.h, r.t, r.s, r.g⟩ = ⟨L, (atR L 0).1, r.t, r.s, r.g⟩ from by rw [atR_zero]; unfold settleR; have := HM.out; have h0 : 0 < L.length := (by omega); simp [hh, hk, h5, h0])
              clear hh hk h5 hm0
              have HV := Lib.hid (show withoutR r gs = ⟨L, (atR L 0).1, r.t, r.s, r.g⟩ from by rw [without_is, HLd.out]; exact HSV.out)
              clear HSV
              go_wp2_with (first
                | (with_reducible show wpList _ _ _ (⟨_, Op.store rgS _ _, _, _, _, none⟩ :: _) _ _
                   refine wpList_boxA_slice rfl _ _ rfl rfl w.heap.size 0 p m e rfl rfl HP.out.box (by simp [resvA]) ?_
                   intro U1 x1 k1 s1
                   have P1 := Lib.hid (HP.out.set (show BoxA _ _ _ (resvA p m e ⟨L, r.h, r.t, r.s, r.g⟩) from x1) k1 s1)
                   clear x1 k1 s1 HP g0
                   have g1 : U1.cell? ⟨w.heap.size, 1, none⟩ = some (.int .i64 r.h) := P1.out.box.cell 1)
                | (with_reducible show wpList _ _ _ (⟨_, Op.load rvT _, _, _, _, _⟩ :: _) _ _
                   refine wpList_boxA_loadw rowRv _ rfl rfl w.heap.size (resvA p m e ⟨L, r.h, r.t, r.s, r.g⟩) rfl rfl P1.out.box ?_)
                | (go_at_call 16
                   obtain ⟨p', c', hv', -, -, hrows, hbase⟩ := P1.out.own.rows elemReg.len
                   rw [HM.out] at hv'
                   cases hv'
                   refine (refKey_any (r := ⟨L, r.h, r.t, r.s, r.g⟩) (c := e) hrows HM.out HML.out r.h).mono ?_; rintro ee U2 ⟨rfl, b2⟩
                   have P2 := Lib.hid (P1.out.mono b2)
                   clear hrows hbase b2 P1 g1
                   have g2 : U2.cell? ⟨w.heap.size, 2, none⟩ = some (.int .i64 r.t) := P2.out.box.cell 2
                   skip
                   obtain ⟨p', c', hv', -, -, hrows, hbase⟩ := P2.out.own.rows elemReg.len
                   rw [HM.out] at hv'
                   cases hv'
                   obtain ⟨B, bo, hpe, hB, hrg⟩ := regs_at hrows (k := 0) (by rw [HM.out]; exact HM0.out)
                   subst hpe
                   have pc : U2.cell? ⟨B, bo, none⟩ = some (.int .i64 (atR L 0).1) := reg_c0 hrg
                   clear hrows hbase hrg hB)
                | (with_reducible show wpList _ _ _ (⟨_, Op.indexAddr _ _ _, _, _, _, none⟩ :: _) _ _
                   refine wpList_reg_elem rfl _ _ rfl B bo m e 0 rfl rfl HM0.out ?_)
                | (with_reducible show wpList _ _ _ (⟨_, Op.store 3 _ _, _, _, _, none⟩ :: _) _ _
                   refine wpList_boxA_int rfl _ _ rfl rfl w.heap.size 1 (atR L 0).1 rfl rfl P2.out.box (by simp [resvA]) ?_
                   intro U3 x3 k3 s3
                   have P3 := Lib.hid (P2.out.set (show BoxA _ _ _ (resvA (some ⟨B, bo, none⟩) m e ⟨L, (atR L 0).1, r.t, r.s, r.g⟩) from x3) k3 s3)
                   clear x3 k3 s3 P2)
                | (with_reducible show wpList _ _ _ (⟨_, Op.load rvT _, _, _, _, none⟩ :: _) _ _
                   refine wpList_boxA_load rowRv rfl _ rfl w.heap.size (resvA (some ⟨B, bo, none⟩) m e ⟨L, (atR L 0).1, r.t, r.s, r.g⟩) rfl rfl P3.out.box ?_)
                | (with_reducible show wpList _ _ _ (⟨_, Op.store rvT _ _, _, _, _, none⟩ :: _) _ _
                   refine wpList_boxA_put rowRv rfl _ _ rfl rfl (w.heap.size + 1) (resvA (some ⟨B, bo, none⟩) m e ⟨L, (atR L 0).1, r.t, r.s, r.g⟩) _ rfl (rvA_one _ _ _ _) rfl rfl rfl P3.out.res ?_
                   intro U9 x9 k9 s9
                   have X9 := Lib.hid x9
                   have K9 := Lib.hid k9
                   have S9 := Lib.hid s9
                   clear x9 k9 s9))
              exact bodyPost_ret (results_cell_row rfl _ _ (w.heap.size + 1) rvT (resvA (some ⟨B, bo, none⟩) m e ⟨L, (atR L 0).1, r.t, r.s, r.g⟩) (0, 0) _ rfl X9.out Try.underlying24 rfl (rvA_size _ _ _ _)) rfl ⟨(some ⟨B, bo, none⟩), e, by rw [HV.out]; show _ = Ending.returned (.agg (resvA _ L.length _ _)); rw [HM.out], by
                rw [HV.out]
                show OwnR w U9 (some ⟨B, bo, none⟩) L.length e L
                rw [HM.out]
                exact ((P3.out.own.same (fun B hB hB2 => K9.out.block B hB2 (by omega))).lower (by omega)).raise (by rw [S9.out]; exact Nat.le_refl _), P3.out.low.trans (K9.out.below P3.out.low.size (fun j hj h => by omega))⟩
            · have e5 : decide ((0 : Int) < (m : Int)) = false := by simp; omega
              have e6 : ¬ (0 : Int) < (m : Int) := by omega
              have HSV := Lib.hid (show settleR ⟨L, r.h, r.t, r.s, r.g⟩ = ⟨L, -1, 0, r.s, r.g⟩ from by unfold settleR; have := HM.out; have h0 : ¬ 0 < L.length := (by omega); simp only [hh, hk, h5, h0, beq_iff_eq, decide_true, decide_false, Bool.and_false]; simp [hh])
              clear hh hk h5 hm0
              have HV := Lib.hid (show withoutR r gs = ⟨L, (-1), 0, r.s, r.g⟩ from by rw [without_is, HLd.out]; exact HSV.out)
              clear HSV
              go_wp2_with (first
                | (with_reducible show wpList _ _ _ (⟨_, Op.store rgS _ _, _, _, _, none⟩ :: _) _ _
                   refine wpList_boxA_slice rfl _ _ rfl rfl w.heap.size 0 p m e rfl rfl HP.out.box (by simp [resvA]) ?_
                   intro U1 x1 k1 s1
                   have P1 := Lib.hid (HP.out.set (show BoxA _ _ _ (resvA p m e ⟨L, r.h, r.t, r.s, r.g⟩) from x1) k1 s1)
                   clear x1 k1 s1 HP g0
                   have g1 : U1.cell? ⟨w.heap.size, 1, none⟩ = some (.int .i64 r.h) := P1.out.box.cell 1)
                | (with_reducible show wpList _ _ _ (⟨_, Op.load rvT _, _, _, _, _⟩ :: _) _ _
                   refine wpList_boxA_loadw rowRv _ rfl rfl w.heap.size (resvA p m e ⟨L, r.h, r.t, r.s, r.g⟩) rfl rfl P1.out.box ?_)
                | (go_at_call 16
                   obtain ⟨p', c', hv', -, -, hrows, hbase⟩ := P1.out.own.rows elemReg.len
                   rw [HM.out] at hv'
                   cases hv'
                   refine (refKey_any (r := ⟨L, r.h, r.t, r.s, r.g⟩) (c := e) hrows HM.out HML.out r.h).mono ?_; rintro ee U2 ⟨rfl, b2⟩
                   have P2 := Lib.hid (P1.out.mono b2)
                   clear hrows hbase b2 P1 g1
                   have g2 : U2.cell? ⟨w.heap.size, 2, none⟩ = some (.int .i64 r.t) := P2.out.box.cell 2
                   skip)
                | (with_reducible show wpList _ _ _ (⟨_, Op.store 3 _ _, _, _, _, none⟩ :: _) _ _
                   refine wpList_boxA_int rfl _ _ rfl rfl w.heap.size 1 (-1) rfl rfl P2.out.box (by simp [resvA]) ?_
                   intro U3 x3 k3 s3
                   have P3 := Lib.hid (P2.out.set (show BoxA _ _ _ (resvA p m e ⟨L, (-1), r.t, r.s, r.g⟩) from x3) k3 s3)
                   clear x3 k3 s3 P2)
                | (with_reducible show wpList _ _ _ (⟨_, Op.store 3 _ _, _, _, _, none⟩ :: _) _ _
                   refine wpList_boxA_int rfl _ _ rfl rfl w.heap.size 2 0 rfl rfl P3.out.box (by simp [resvA]) ?_
                   intro U4 x4 k4 s4
                   have P4 := Lib.hid (P3.out.set (show BoxA _ _ _ (resvA p m e ⟨L, (-1), 0, r.s, r.g⟩) from x4) k4 s4)
                   clear x4 k4 s4 P3)
                | (with_reducible show wpList _ _ _ (⟨_, Op.load rvT _, _, _, _, none⟩ :: _) _ _
                   refine wpList_boxA_load rowRv rfl _ rfl w.heap.size (resvA p m e ⟨L, (-1), 0, r.s, r.g⟩) rfl rfl P4.out.box ?_)
                | (with_reducible show wpList _ _ _ (⟨_, Op.store rvT _ _, _, _, _, none⟩ :: _) _ _
                   refine wpList_boxA_put rowRv rfl _ _ rfl rfl (w.heap.size + 1) (resvA p m e ⟨L, (-1), 0, r.s, r.g⟩) _ rfl (rvA_one _ _ _ _) rfl rfl rfl P4.out.res ?_
                   intro U9 x9 k9 s9
                   have X9 := Lib.hid x9
                   have K9 := Lib.hid k9
                   have S9 := Lib.hid s9
                   clear x9 k9 s9))
              exact bodyPost_ret (results_cell_row rfl _ _ (w.heap.size + 1) rvT (resvA p m e ⟨L, (-1), 0, r.s, r.g⟩) (0, 0) _ rfl X9.out Try.underlying24 rfl (rvA_size _ _ _ _)) rfl ⟨p, e, by rw [HV.out]; show _ = Ending.returned (.agg (resvA _ L.length _ _)); rw [HM.out], by
                rw [HV.out]
                show OwnR w U9 p L.length e L
                rw [HM.out]
                exact ((P4.out.own.same (fun B hB hB2 => K9.out.block B hB2 (by omega))).lower (by omega)).raise (by rw [S9.out]; exact Nat.le_refl _), P4.out.low.trans (K9.out.below P4.out.low.size (fun j hj h => by omega))⟩
          · have e4 : decide (5 ≤ r.t) = false := by simp; omega
            have e6 : ¬ 5 ≤ r.t := h5
            have HSV := Lib.hid (show settleR ⟨L, r.h, r.t, r.s, r.g⟩ = ⟨L, -1, 0, r.s, r.g⟩ from by unfold settleR; simp [hh, hk, h5])
            clear hh hk h5
            have HV := Lib.hid (show withoutR r gs = ⟨L, (-1), 0, r.s, r.g⟩ from by rw [without_is, HLd.out]; exact HSV.out)
            clear HSV
            go_wp2_with (first
              | (with_reducible show wpList _ _ _ (⟨_, Op.store rgS _ _, _, _, _, none⟩ :: _) _ _
                 refine wpList_boxA_slice rfl _ _ rfl rfl w.heap.size 0 p m e rfl rfl HP.out.box (by simp [resvA]) ?_
                 intro U1 x1 k1 s1
                 have P1 := Lib.hid (HP.out.set (show BoxA _ _ _ (resvA p m e ⟨L, r.h, r.t, r.s, r.g⟩) from x1) k1 s1)
                 clear x1 k1 s1 HP g0
                 have g1 : U1.cell? ⟨w.heap.size, 1, none⟩ = some (.int .i64 r.h) := P1.out.box.cell 1)
              | (with_reducible show wpList _ _ _ (⟨_, Op.load rvT _, _, _, _, _⟩ :: _) _ _
                 refine wpList_boxA_loadw rowRv _ rfl rfl w.heap.size (resvA p m e ⟨L, r.h, r.t, r.s, r.g⟩) rfl rfl P1.out.box ?_)
              | (go_at_call 16
                 obtain ⟨p', c', hv', -, -, hrows, hbase⟩ := P1.out.own.rows elemReg.len
                 rw [HM.out] at hv'
                 cases hv'
                 refine (refKey_any (r := ⟨L, r.h, r.t, r.s, r.g⟩) (c := e) hrows HM.out HML.out r.h).mono ?_; rintro ee U2 ⟨rfl, b2⟩
                 have P2 := Lib.hid (P1.out.mono b2)
                 clear hrows hbase b2 P1 g1
                 have g2 : U2.cell? ⟨w.heap.size, 2, none⟩ = some (.int .i64 r.t) := P2.out.box.cell 2
                 skip)
              | (with_reducible show wpList _ _ _ (⟨_, Op.store 3 _ _, _, _, _, none⟩ :: _) _ _
                 refine wpList_boxA_int rfl _ _ rfl rfl w.heap.size 1 (-1) rfl rfl P2.out.box (by simp [resvA]) ?_
                 intro U3 x3 k3 s3
                 have P3 := Lib.hid (P2.out.set (show BoxA _ _ _ (resvA p m e ⟨L, (-1), r.t, r.s, r.g⟩) from x3) k3 s3)
                 clear x3 k3 s3 P2)
              | (with_reducible show wpList _ _ _ (⟨_, Op.store 3 _ _, _, _, _, none⟩ :: _) _ _
                 refine wpList_boxA_int rfl _ _ rfl rfl w.heap.size 2 0 rfl rfl P3.out.box (by simp [resvA]) ?_
                 intro U4 x4 k4 s4
                 have P4 := Lib.hid (P3.out.set (show BoxA _ _ _ (resvA p m e ⟨L, (-1), 0, r.s, r.g⟩) from x4) k4 s4)
                 clear x4 k4 s4 P3)
              | (with_reducible show wpList _ _ _ (⟨_, Op.load rvT _, _, _, _, none⟩ :: _) _ _
                 refine wpList_boxA_load rowRv rfl _ rfl w.heap.size (resvA p m e ⟨L, (-1), 0, r.s, r.g⟩) rfl rfl P4.out.box ?_)
              | (with_reducible show wpList _ _ _ (⟨_, Op.store rvT _ _, _, _, _, none⟩ :: _) _ _
                 refine wpList_boxA_put rowRv rfl _ _ rfl rfl (w.heap.size + 1) (resvA p m e ⟨L, (-1), 0, r.s, r.g⟩) _ rfl (rvA_one _ _ _ _) rfl rfl rfl P4.out.res ?_
                 intro U9 x9 k9 s9
                 have X9 := Lib.hid x9
                 have K9 := Lib.hid k9
                 have S9 := Lib.hid s9
                 clear x9 k9 s9))
            exact bodyPost_ret (results_cell_row rfl _ _ (w.heap.size + 1) rvT (resvA p m e ⟨L, (-1), 0, r.s, r.g⟩) (0, 0) _ rfl X9.out Try.underlying24 rfl (rvA_size _ _ _ _)) rfl ⟨p, e, by rw [HV.out]; show _ = Ending.returned (.agg (resvA _ L.length _ _)); rw [HM.out], by
              rw [HV.out]
              show OwnR w U9 p L.length e L
              rw [HM.out]
              exact ((P4.out.own.same (fun B hB hB2 => K9.out.block B hB2 (by omega))).lower (by omega)).raise (by rw [S9.out]; exact Nat.le_refl _), P4.out.low.trans (K9.out.below P4.out.low.size (fun j hj h => by omega))⟩
        · have e3 : (keyR L r.h == 0) = false := by simp [hk]
          have HSV := Lib.hid (show settleR ⟨L, r.h, r.t, r.s, r.g⟩ = ⟨L, r.h, r.t, r.s, r.g⟩ from by unfold settleR; simp [hk])
          clear hh hk
          have HV := Lib.hid (show withoutR r gs = ⟨L, r.h, r.t, r.s, r.g⟩ from by rw [without_is, HLd.out]; exact HSV.out)
          clear HSV
          go_wp2_with (first
            | (with_reducible show wpList _ _ _ (⟨_, Op.store rgS _ _, _, _, _, none⟩ :: _) _ _
               refine wpList_boxA_slice rfl _ _ rfl rfl w.heap.size 0 p m e rfl rfl HP.out.box (by simp [resvA]) ?_
               intro U1 x1 k1 s1
               have P1 := Lib.hid (HP.out.set (show BoxA _ _ _ (resvA p m e ⟨L, r.h, r.t, r.s, r.g⟩) from x1) k1 s1)
               clear x1 k1 s1 HP g0
               have g1 : U1.cell? ⟨w.heap.size, 1, none⟩ = some (.int .i64 r.h) := P1.out.box.cell 1)
            | (with_reducible show wpList _ _ _ (⟨_, Op.load rvT _, _, _, _, _⟩ :: _) _ _
               refine wpList_boxA_loadw rowRv _ rfl rfl w.heap.size (resvA p m e ⟨L, r.h, r.t, r.s, r.g⟩) rfl rfl P1.out.box ?_)
            | (go_at_call 16
               obtain ⟨p', c', hv', -, -, hrows, hbase⟩ := P1.out.own.rows elemReg.len
               rw [HM.out] at hv'
               cases hv'
               refine (refKey_any (r := ⟨L, r.h, r.t, r.s, r.g⟩) (c := e) hrows HM.out HML.out r.h).mono ?_; rintro ee U2 ⟨rfl, b2⟩
               have P2 := Lib.hid (P1.out.mono b2)
               clear hrows hbase b2 P1 g1
               have g2 : U2.cell? ⟨w.heap.size, 2, none⟩ = some (.int .i64 r.t) := P2.out.box.cell 2
               skip)
            | (with_reducible show wpList _ _ _ (⟨_, Op.load rvT _, _, _, _, none⟩ :: _) _ _
               refine wpList_boxA_load rowRv rfl _ rfl w.heap.size (resvA p m e ⟨L, r.h, r.t, r.s, r.g⟩) rfl rfl P2.out.box ?_)
            | (with_reducible show wpList _ _ _ (⟨_, Op.store rvT _ _, _, _, _, none⟩ :: _) _ _
               refine wpList_boxA_put rowRv rfl _ _ rfl rfl (w.heap.size + 1) (resvA p m e ⟨L, r.h, r.t, r.s, r.g⟩) _ rfl (rvA_one _ _ _ _) rfl rfl rfl P2.out.res ?_
               intro U9 x9 k9 s9
               have X9 := Lib.hid x9
               have K9 := Lib.hid k9
               have S9 := Lib.hid s9
               clear x9 k9 s9))
          exact bodyPost_ret (results_cell_row rfl _ _ (w.heap.size + 1) rvT (resvA p m e ⟨L, r.h, r.t, r.s, r.g⟩) (0, 0) _ rfl X9.out Try.underlying24 rfl (rvA_size _ _ _ _)) rfl ⟨p, e, by rw [HV.out]; show _ = Ending.returned (.agg (resvA _ L.length _ _)); rw [HM.out], by
            rw [HV.out]
            show OwnR w U9 p L.length e L
            rw [HM.out]
            exact ((P2.out.own.same (fun B hB hB2 => K9.out.block B hB2 (by omega))).lower (by omega)).raise (by rw [S9.out]; exact Nat.le_refl _), P2.out.low.trans (K9.out.below P2.out.low.size (fun j hj h => by omega))⟩
end Go.Proofs.Ytfnkdmdcjliebaa
