/- PduBytes: which bytes a list of frames has. Condition: package pdu answers as its spec says. -/
import Derived.Test.YtebbnkkhabehmaaPdFrs
import Derived.Test.YtebbnkkhabehmaaPdS4
import Derived.Test.YtebbnkkhabehmaaPdSize
import Derived.Test.YtebbnkkhabehmaaRows
namespace Go.Proofs.Ytebbnkkhabehmaa
open Go.ChangeShapes Go.WideShapes Go.ChangeAt Go.RowKit
namespace pduBytes
set_option linter.unusedVariables false
set_option linter.unusedSimpArgs false
theorem fr_built0 : Try.prog.built 24 [] = some (frA 0 0 0 none 0 0) := by kernel_rfl
theorem wpList_fr0 {ops : Array Oper} {rest : List Oper} {o : Oper} {a : Act} {w : World} {Q : Exit → Act → World → Prop} (hgd : o.guard = none) (ho : o.op = .build 24 #[])
    (h : wpList Try.prog ops Q rest (a.put o.dst (.agg (frA 0 0 0 none 0 0))) w) : wpList Try.prog ops Q (o :: rest) a w :=
  wpList_build_any hgd 24 _ #[] _ ho (by simp) (fun w => run_build w 24 #[] _ fr_built0) h
section
variable {o : Oper} {a : Act} {C : World → Prop} {K : Act → Prop}
theorem gives_ne64 (x y : Operand) (ho : o.op = .binOp .neq 3 x y 3) (i : Int) (hx : a.eval x = .int .i64 i) (hy : a.eval y = .int .i64 i) (hk : K (a.put o.dst (.bool false))) : ∃ v, Gives Try.prog C o a v ∧ K (a.put o.dst v) :=
  ⟨_, fun w _ => by unfold execOp; simp only [ho, hx, hy]; simp [go_sem], hk⟩
theorem gives_lens (x : Operand) (ho : o.op = .call { callee := .builtin .len, args := #[x], argTypes := #[37] }) (p : Option Addr) (n cap : Nat) (hx : a.eval x = .slice p n cap) (hk : K (a.put o.dst (.int .i64 n))) : ∃ v, Gives Try.prog C o a v ∧ K (a.put o.dst v) := by
  refine ⟨.int .i64 n, fun w _ => ?_, hk⟩
  unfold execOp
  simp only [ho]
  cases x with
  | tmp j => simp only [Act.eval] at hx; simp [go_sem]; simp_all [go_sem]
  | const v => have hx' : v = .slice p n cap := hx; simp [go_sem, hx']
  | global j => cases hx
  | func f => cases hx
end
theorem ex_bytes (PS : PduSpec) {W : World} {q : Option Addr} (h : FrsAt W q [frZ, frE]) : Calls Try.prog 21 #[.slice q 2 2] W fun e W' => ∃ LB D C c, e = .returned (.slice (some ⟨LB, 0, none⟩) 1 c) ∧ (W'.cell? ⟨LB, 0, none⟩ = some (.slice (some ⟨D, 0, none⟩) 8 C) ∧ BytesAt W' (some ⟨D, 0, none⟩) 8 (frT 7 0 10 0 zeroK)) ∧ Below W.heap.size W W' := by
  have b := PS.bytes (W := W) (L := [frZ, frE]) (cp := 2) (Nat.le_refl _) (by show 2 ≤ 100000; omega) h (fun f hf => by
    rcases List.mem_cons.1 hf with rfl | hf
    · exact frZ_ok W
    · obtain rfl := List.mem_singleton.1 hf
      exact frE_ok W)
  rw [frE_only] at b
  refine b.mono ?_
  rintro e W' (⟨h, _⟩ | ⟨LB, LS, D, C, G, c, rfl, o, l⟩)
  · cases h
  · exact ⟨LB, D 0, C 0, c, rfl, o.at_ (i := 0) (f := frE) rfl, l⟩
theorem bytes_nil (PS : PduSpec) {W : World} {q : Option Addr} {L : List Fr} {cp : Nat} (hc : L.length ≤ cp) (hl : L.length ≤ 100000) (h : FrsAt W q L) (hok : ∀ f ∈ L, f.Ok W) (h0 : goodL L = []) : Calls Try.prog 21 #[.slice q L.length cp] W fun e W' => ∃ p c, e = .returned (.slice p 0 c) ∧ Below W.heap.size W W' := by
  refine (PS.bytes hc hl h hok).mono ?_
  rintro e W' (⟨_, ⟨p, c, rfl⟩, l⟩ | ⟨LB, LS, D, C, G, c, rfl, o, l⟩)
  · exact ⟨p, c, rfl, l⟩
  · refine ⟨some ⟨LB, 0, none⟩, c, ?_, l⟩
    · have : (L.filter fun f => decide f.In).length = 0 := by show (goodL L).length = 0; rw [h0]; rfl
      rw [this]
theorem bytes_some (PS : PduSpec) {W : World} {q : Option Addr} {L : List Fr} {cp : Nat} (hc : L.length ≤ cp) (hl : L.length ≤ 100000) (h : FrsAt W q L) (hok : ∀ f ∈ L, f.Ok W) (h0 : goodL L ≠ []) : Calls Try.prog 21 #[.slice q L.length cp] W fun e W' => ∃ LB LS D C G c, e = .returned (.slice (some ⟨LB, 0, none⟩) (goodL L).length c) ∧ Out W' W.heap.size LB LS (goodL L) D C G ∧ Below W.heap.size W W' := by
  refine (PS.bytes hc hl h hok).mono ?_
  rintro e W' (⟨h, _⟩ | h)
  · exact absurd h h0
  · exact h
theorem goodL_zero (L : List Fr) : goodL (L.take 0) = [] := by unfold goodL; simp
theorem goodL_in {L : List Fr} {f : Fr} (h : f ∈ goodL L) : inF f.k f.n f.c f.d := by
  have := (List.mem_filter.1 h).2; exact of_decide_eq_true this
theorem apart_out {W : World} {S LB : Nat} {LS : Array Value} {L : List Fr} {D C : Nat → Nat} {G : Nat → Nat → Nat} (h : Out W S LB LS L D C G) (h0 : L ≠ []) (hn : L.length ≤ 20000) (hd : ∀ f ∈ L, f.d ≤ 4096) {T : Nat} (hT : T ≤ S) (hW : T ≤ W.heap.size) (c : Nat) :
    Calls Try.prog 15 #[.slice (some ⟨LB, 0, none⟩) L.length c] W fun e W' => e = .returned (.bool true) ∧ Below T W W' := by
  have hp : 1 ≤ L.length := List.length_pos_iff.2 h0
  refine Apart_own_cap L.length c D (fun i => 8 + (L.getD i ⟨0, 0, 0, none, 0, 0, fun _ => 0⟩).d) C (fun _ => false) G T LB LS W hp hn (fun i hi => ?_) (fun i j hi hj _ _ hne => h.ne i j hi hj hne) h.lb (fun i hi => h.ls i hi) hW
  have hf : L[i]? = some (L[i]'hi) := List.getElem?_eq_getElem hi
  obtain ⟨⟨R, hR, hI⟩, h2, h3, _⟩ := h.row i _ hf
  have h4 := hd _ (List.mem_of_getElem? hf)
  have h5 : (L.getD i ⟨0, 0, 0, none, 0, 0, fun _ => 0⟩) = L[i]'hi := by rw [List.getD_eq_getElem?_getD, hf]; rfl
  refine .inr ⟨rfl, Nat.le_trans hT h3, ?_, ?_, R, hR, hI⟩
  · show 8 + (L.getD i _).d ≤ C i; rw [h5]; exact h2
  · show 8 + (L.getD i _).d ≤ _; rw [h5]; omega
attribute [local irreducible] frA frT markF mk zeroK numF tenS goodL sumD
attribute [local go_sem] Oper.semAt_some
set_option maxRecDepth 100000 in
set_option maxHeartbeats 16000000 in
theorem walk (PS : PduSpec) {w : World} {q : Option Addr} {m cp : Nat} (L : List Fr) (hm : L.length = m) (hat : FrsAt w q L) (hok : ∀ f ∈ L, f.Ok w) (hl : m ≤ cp) (hcp : cp ≤ maxLen) (hw : ∀ f ∈ L, f.d ≤ 140737488351232) : Calls Try.prog 7 #[.slice q m cp] w fun e w' => e = .returned (.bool true) ∧ Below w.heap.size w w' := by
  have EX := Lib.hid (fun (W : World) (q : Option Addr) (h : FrsAt W q [frZ, frE]) => ex_bytes PS h)
  have BN := Lib.hid (fun (W : World) (hb : Below w.heap.size w W) (hs : m ≤ 8192) (h0 : goodL L = []) => hm ▸ bytes_nil PS (cp := cp) (by omega) (by omega) (hat.below hb) (fun f hf => (hok f hf).below hb) h0)
  have BS := Lib.hid (fun (W : World) (hb : Below w.heap.size w W) (hs : m ≤ 8192) (h0 : goodL L ≠ []) => hm ▸ bytes_some PS (cp := cp) (by omega) (by omega) (hat.below hb) (fun f hf => (hok f hf).below hb) h0)
  have HAT := Lib.hid hat
  have HOK := Lib.hid hok
  have HL := Lib.hid hm
  have HW := Lib.hid hw
  clear hat hok hl hcp hw PS
  go_enter Try.func7, Try.ntmps7
  go_wp2_with (first
  | (with_reducible show wpList _ _ _ (⟨some 13, Op.build 24 _, _, _, _, none⟩ :: _) _ _
     refine wpList_fr0 rfl rfl ?_)
  | (with_reducible show wpList _ _ _ (⟨some 14, Op.build 24 _, _, _, _, none⟩ :: _) _ _
     refine wpList_fr02 rfl rfl ?_)
  | (with_reducible show wpList _ _ _ (⟨some 15, Op.buildSlice _ _ _, _, _, _, _⟩ :: _) _ _
     refine wpList_frs2 rfl _ _ rfl rfl rfl ?_
     intro w1 a1 l1
     have A1 := Lib.hid a1
     have U1 := Lib.hid l1
     clear a1 l1)
  | (go_at_call 21
     refine (EX.out _ _ A1.out).mono ?_; rintro e w2 ⟨LB, D, C, c, rfl, b2, l2⟩
     have U2 := Lib.hid (U1.out.trans (l2.mono U1.out.size))
     have X2 := Lib.hid b2
     clear b2 l2 U1 A1 EX))
  have U3 := Lib.hid (show Below w.heap.size w w2.drew from U2.out.drew)
  have X3 := Lib.hid (show w2.drew.cell? ⟨LB, 0, none⟩ = some (.slice (some ⟨D, 0, none⟩) 8 C) ∧ BytesAt w2.drew (some ⟨D, 0, none⟩) 8 (frT 7 0 10 0 zeroK) from ⟨X2.out.1, X2.out.2.below (Below.refl _ w2).drew⟩)
  clear U2 X2
  refine wp_region_sched [(0, true), (1, true), (2, true), (3, true), (4, true), (5, true), (6, true), (7, true), (8, false), (9, true), (10, true)] (fun V => V.cell? ⟨LB, 0, none⟩ = some (.slice (some ⟨D, 0, none⟩) 8 C) ∧ BytesAt V (some ⟨D, 0, none⟩) 8 (frT 7 0 10 0 zeroK)) (by kernel_rfl) (by kernel_rfl) X3.out ?_
  refine walk_float rfl rfl (fun K hK => ?_)
  refine gives_move _ rfl ?_
  go_simp
  refine hK _ ?_
  clear hK K
  refine walk_float rfl rfl (fun K hK => ?_)
  refine gives_lens _ rfl (some ⟨LB, 0, none⟩) 1 c rfl ?_
  go_simp
  refine hK _ ?_
  clear hK K
  refine walk_float rfl rfl (fun K hK => ?_)
  refine gives_ne64 _ _ rfl 1 rfl rfl ?_
  go_simp
  refine hK _ ?_
  clear hK K
  refine walk_float rfl rfl (fun K hK => ?_)
  refine gives_move _ rfl ?_
  go_simp
  refine hK _ ?_
  clear hK K
  refine walk_float rfl rfl (fun K hK => ?_)
  refine gives_move _ rfl ?_
  go_simp
  refine hK _ ?_
  clear hK K
  refine walk_float rfl rfl (fun K hK => ?_)
  refine apart.gives_nth 37 22 _ _ rfl Try.underlying37 apart.listInfo LB 1 c 0 rfl rfl (by omega) ?_
  go_simp
  refine hK _ ?_
  clear hK K
  refine walk_float rfl rfl (fun K hK => ?_)
  refine gives_cell 22 _ rfl ⟨LB, 0, none⟩ (.slice (some ⟨D, 0, none⟩) 8 C) rfl apart.box_bytes (fun V hV => hV.1) ?_
  go_simp
  refine hK _ ?_
  clear hK K
  refine walk_float rfl rfl (fun K hK => ?_)
  refine gives_string _ rfl (some ⟨D, 0, none⟩) 8 C rfl (frT 7 0 10 0 zeroK) (fun V hV => hV.2) ?_
  rw [ten_str]
  go_simp
  refine hK _ ?_
  clear hK K
  refine walk_done rfl rfl (fun K hK => ?_)
  refine done_call0 _ _ rfl 9 rfl (enters_of Try.func9 (by kernel_rfl) rfl) ?_
  refine (ten_any _).mono ?_
  rintro e w4 ⟨rfl, l4⟩
  have U4 := Lib.hid (U3.out.trans (l4.mono U3.out.size))
  refine ⟨_, rfl, ⟨(l4.cell (p := ⟨LB, 0, none⟩) (block_lt_of_cell X3.out.1)).trans X3.out.1, X3.out.2.below l4⟩, ?_⟩
  clear l4 U3 X3
  go_simp
  refine hK _ _ ?_
  clear hK K
  refine walk_float rfl rfl (fun K hK => ?_)
  refine gives_str_same _ _ rfl tenS rfl rfl ?_
  go_simp
  refine hK _ ?_
  clear hK K
  refine walk_float rfl rfl (fun K hK => ?_)
  refine gives_pickF _ _ _ rfl rfl (.bool false) rfl ?_
  go_simp
  refine hK _ ?_
  clear hK K
  refine walk_nil ?_
  go_wp2
  go_loopw [30, 4] (fun v v4 V => ∃ i : Nat, i ≤ m ∧ v = .int .i64 i ∧ v4 = .int .i64 (sumD L i : Nat) ∧ sumD L i ≤ 8192 ∧ Below w.heap.size w V) (fun v _ _ => m - (intOf v).toNat)
  case atStart => exact ⟨0, Nat.zero_le _, rfl, by rw [sumD]; rfl, by rw [sumD]; omega, U4.out⟩
  case round =>
    obtain ⟨i, hi, rfl, rfl, hsm, hU⟩ := hrel
    have U := Lib.hid hU
    clear hU U4
    have hge := sumD_ge L i
    by_cases hlt : i < m
    · have e1 : (i : Int) < (m : Int) := by omega
      have q1 : IntKind.i64.wrap ((i : Int) + 1) = (i : Int) + 1 := IntWalk.i64_in _ (by omega)
      obtain ⟨f, hf⟩ : ∃ f, L[i]? = some f := ⟨L[i]'(by omega), List.getElem?_eq_getElem _⟩
      obtain ⟨B, o, rfl, hB, hr⟩ := frs_at HAT.out hf
      have hfo := HOK.out f (List.mem_of_getElem? hf)
      have HR := Lib.hid (rangeAt_below hr U.out hB)
      have hsn := sumD_next hf
      obtain ⟨k, n, c', p, d, cd, g⟩ := f
      have hdm : d ≤ 140737488351232 := HW.out _ (List.mem_of_getElem? hf)
      have HSN := Lib.hid (show sumD L (i + 1) = sumD L i + (1 + d) from hsn)
      clear hfo hf hr hB hsn
      obtain ⟨z, hz⟩ : ∃ z, z = sumD L i := ⟨_, rfl⟩
      rw [← hz] at hsm hge HSN
      rw [← hz]
      have q2 : IntKind.i64.wrap (1 + (d : Int)) = 1 + (d : Int) := IntWalk.i64_in _ (by omega)
      have q3 : IntKind.i64.wrap ((z : Int) + (1 + (d : Int))) = (z : Int) + (1 + (d : Int)) := IntWalk.i64_in _ (by omega)
      by_cases hbig : 8192 < z + (1 + d)
      · have f1 : decide ((8192 : Int) < (z : Int) + (1 + (d : Int))) = true := by simp; omega
        clear hbig hdm hsm hge hz
        go_wp2_with (first
          | (with_reducible show wpList _ _ _ (⟨some 32, Op.indexAddr 50 _ _, _, _, _, _⟩ :: _) _ _
             refine wpList_fr_elem rfl _ _ rfl B o m cp i rfl rfl hlt ?_)
          | (with_reducible show wpList _ _ _ (⟨some 33, Op.load 24 _, _, _, _, _⟩ :: _) _ _
             refine wpList_fr_load rfl _ rfl B (o + 4 * i) rfl ⟨k, n, c', p, d, cd, g⟩ HR.out ?_)
          | (with_reducible show wpList _ _ _ (⟨some 6, Op.alloc 24, _, _, _, _⟩ :: _) _ _
             refine wpList_boxA_new rowFr rfl rfl _ rfl ?_
             intro wq xx ll ss
             have XX := Lib.hid xx
             have LL := Lib.hid ll
             clear xx ll ss)
          | (with_reducible show wpList _ _ _ (⟨_, Op.store 24 (.tmp 6) _, _, _, _, none⟩ :: _) _ _
             refine wpList_boxA_put rowFr rfl _ _ rfl rfl wr.heap.size (frA k n c' p d cd) _ (frA_size _ _ _ _ _ _) (frA_one _ _ _ _ _ _) (frA_size _ _ _ _ _ _) rfl rfl XX.out ?_
             intro wa xx kk ss
             have bb := low_put LL.out (Nat.le_refl _) kk
             obtain ⟨d0, d1, d2, d3⟩ := boxFr xx
             have UA := Lib.hid (U.out.trans (bb.mono U.out.size))
             clear kk ss XX LL U xx HR))
        go_ret
        exact ⟨rfl, UA.out⟩
      · have f1 : decide ((8192 : Int) < (z : Int) + (1 + (d : Int))) = false := by simp; omega
        clear hdm hge hz
        go_wp2_with (first
          | (with_reducible show wpList _ _ _ (⟨some 32, Op.indexAddr 50 _ _, _, _, _, _⟩ :: _) _ _
             refine wpList_fr_elem rfl _ _ rfl B o m cp i rfl rfl hlt ?_)
          | (with_reducible show wpList _ _ _ (⟨some 33, Op.load 24 _, _, _, _, _⟩ :: _) _ _
             refine wpList_fr_load rfl _ rfl B (o + 4 * i) rfl ⟨k, n, c', p, d, cd, g⟩ HR.out ?_)
          | (with_reducible show wpList _ _ _ (⟨some 6, Op.alloc 24, _, _, _, _⟩ :: _) _ _
             refine wpList_boxA_new rowFr rfl rfl _ rfl ?_
             intro wq xx ll ss
             have XX := Lib.hid xx
             have LL := Lib.hid ll
             clear xx ll ss)
          | (with_reducible show wpList _ _ _ (⟨_, Op.store 24 (.tmp 6) _, _, _, _, none⟩ :: _) _ _
             refine wpList_boxA_put rowFr rfl _ _ rfl rfl wr.heap.size (frA k n c' p d cd) _ (frA_size _ _ _ _ _ _) (frA_one _ _ _ _ _ _) (frA_size _ _ _ _ _ _) rfl rfl XX.out ?_
             intro wa xx kk ss
             have bb := low_put LL.out (Nat.le_refl _) kk
             obtain ⟨d0, d1, d2, d3⟩ := boxFr xx
             have UA := Lib.hid (U.out.trans (bb.mono U.out.size))
             clear kk ss XX LL U xx HR))
        go_roundw
        case rel => exact ⟨i + 1, by omega, by go_num, by have := HSN.out; go_num, by have := HSN.out; omega, UA.out⟩
        case measure => simp [intOf]; omega
    · have e1 : ¬ (i : Int) < (m : Int) := by omega
      have HM := Lib.hid (show m ≤ 8192 by omega)
      clear hge hsm
      by_cases hg : goodL L = []
      · have HG0 := Lib.hid hg
        clear hg
        go_wp2_with (first
          | (go_at_call 21
             refine (BN.out wr U.out HM.out HG0.out).mono ?_; rintro e w5 ⟨p5, c5, rfl, l5⟩
             have U5 := Lib.hid (U.out.trans (l5.mono U.out.size))
             clear l5 U BN BS))
        go_loopw [47, 8] (fun v v8 V => ∃ i : Nat, i ≤ m ∧ v = .int .i64 i ∧ v8 = .int .i64 0 ∧ Below w.heap.size w V ∧ True) (fun v _ _ => m - (intOf v).toNat)
        case atStart => exact ⟨0, Nat.zero_le _, rfl, rfl, U5.out, trivial⟩
        case round =>
          obtain ⟨i, hi, rfl, rfl, hU, hO⟩ := hrel
          have U := Lib.hid hU
          have OO := Lib.hid hO
          clear hU hO U5
          by_cases hlt : i < m
          · have e1 : (i : Int) < (m : Int) := by omega
            have q1 : IntKind.i64.wrap ((i : Int) + 1) = (i : Int) + 1 := IntWalk.i64_in _ (by have := HM.out; omega)
            obtain ⟨f, hf⟩ : ∃ f, L[i]? = some f := ⟨L[i]'(by omega), List.getElem?_eq_getElem _⟩
            obtain ⟨B, o, rfl, hB, hr⟩ := frs_at HAT.out hf
            have hfo := HOK.out f (List.mem_of_getElem? hf)
            have HR := Lib.hid (rangeAt_below hr U.out hB)
            have hin := goodL_none HG0.out hf
            obtain ⟨k, n, c, p, d, cd, g⟩ := f
            have HIN := Lib.hid (show ¬ inF k n c d from hin)
            have HQF := Lib.hid (fun (W : World) (h : Below w.heap.size w W) => (show BytesAt W p d g from hfo.at_.below h))
            clear hfo hf hr hB hin
            go_wp2_with (first
              | (with_reducible show wpList _ _ _ (⟨some 49, Op.indexAddr 50 _ _, _, _, _, _⟩ :: _) _ _
                 refine wpList_fr_elem rfl _ _ rfl B o m cp i rfl rfl hlt ?_)
              | (with_reducible show wpList _ _ _ (⟨some 50, Op.load 24 _, _, _, _, _⟩ :: _) _ _
                 refine wpList_fr_load rfl _ rfl B (o + 4 * i) rfl ⟨k, n, c, p, d, cd, g⟩ HR.out ?_)
              | (with_reducible show wpList _ _ _ (⟨some 10, Op.alloc 24, _, _, _, _⟩ :: _) _ _
                 refine wpList_boxA_new rowFr rfl rfl _ rfl ?_
                 intro wq xx ll ss
                 have XX := Lib.hid xx
                 have LL := Lib.hid ll
                 clear xx ll ss)
              | (with_reducible show wpList _ _ _ (⟨_, Op.store 24 (.tmp 10) _, _, _, _, none⟩ :: _) _ _
                 refine wpList_boxA_put rowFr rfl _ _ rfl rfl wr.heap.size (frA k n c p d cd) _ (frA_size _ _ _ _ _ _) (frA_one _ _ _ _ _ _) (frA_size _ _ _ _ _ _) rfl rfl XX.out ?_
                 intro wa xx kk ss
                 have bb := low_put LL.out (Nat.le_refl _) kk
                 obtain ⟨d0, d1, d2, d3⟩ := boxFr xx
                 have UA := Lib.hid (U.out.trans (bb.mono U.out.size))
                 have OA := Lib.hid (trivial)
                 have XA := Lib.hid xx
                 have QA := Lib.hid (HQF.out _ UA.out)
                 clear kk ss XX LL U OO xx HR)
              | (with_reducible show wpList _ _ _ (⟨some 52, Op.load 24 _, _, _, _, _⟩ :: _) _ _
                 refine wpList_boxA_loadw rowFr _ rfl rfl wr.heap.size (frA k n c p d cd) (frA_size _ _ _ _ _ _) rfl XA.out ?_)
              | (go_at_call 11
                 refine (refEncode_no k n c p d cd HIN.out).mono ?_; rintro e wb ⟨rfl, lb⟩
                 have UB := Lib.hid (UA.out.trans (lb.mono UA.out.size))
                 have OB := Lib.hid (trivial)
                 clear lb UA OA QA XA))
            go_roundw
            case rel => exact ⟨i + 1, by omega, by go_num, rfl, UB.out, OB.out⟩
            case measure => simp [intOf]; omega
          · have e1 : ¬ (i : Int) < (m : Int) := by omega
            go_wp2_with (first
              | (go_at_call 15
                 refine (Apart_none _ _).mono ?_; rintro e we ⟨rfl, le⟩
                 have UE := Lib.hid (U.out.trans (le.mono U.out.size))
                 clear le))
            go_ret
            exact ⟨rfl, UE.out⟩
      · have HG0 := Lib.hid hg
        clear hg
        go_wp2_with (first
          | (go_at_call 21
             refine (BS.out wr U.out HM.out HG0.out).mono ?_; rintro e w5 ⟨LB5, LS5, D5, C5, G5, c5, rfl, o5, l5⟩
             have U5 := Lib.hid (U.out.trans (l5.mono U.out.size))
             have O5 := Lib.hid o5
             have HS := Lib.hid (show w.heap.size ≤ wr.heap.size ∧ True from ⟨U.out.size, trivial⟩)
             clear l5 o5 U BN BS
             generalize wr.heap.size = S at *))
        go_loopw [47, 8] (fun v v8 V => ∃ i : Nat, i ≤ m ∧ v = .int .i64 i ∧ v8 = .int .i64 ((goodL (L.take i)).length : Nat) ∧ Below w.heap.size w V ∧ Out V S LB5 LS5 (goodL L) D5 C5 G5) (fun v _ _ => m - (intOf v).toNat)
        case atStart => exact ⟨0, Nat.zero_le _, rfl, by rw [goodL_zero]; rfl, U5.out, O5.out⟩
        case round =>
          obtain ⟨i, hi, rfl, rfl, hU, hO⟩ := hrel
          have U := Lib.hid hU
          have OO := Lib.hid hO
          clear hU hO U5 O5
          by_cases hlt : i < m
          · have e1 : (i : Int) < (m : Int) := by omega
            have q1 : IntKind.i64.wrap ((i : Int) + 1) = (i : Int) + 1 := IntWalk.i64_in _ (by have := HM.out; omega)
            obtain ⟨f, hf⟩ : ∃ f, L[i]? = some f := ⟨L[i]'(by omega), List.getElem?_eq_getElem _⟩
            obtain ⟨B, o, rfl, hB, hr⟩ := frs_at HAT.out hf
            have hfo := HOK.out f (List.mem_of_getElem? hf)
            have HR := Lib.hid (rangeAt_below hr U.out hB)
            by_cases hin : f.In
            · have HNX := Lib.hid (show (goodL (L.take (i + 1))).length = (goodL (L.take i)).length + 1 by rw [goodL_yes hf hin, List.length_append]; rfl)
              have hkl := goodL_lt hf hin
              have hka := goodL_at hf hin
              have hKm : (goodL L).length ≤ 8192 := by have := goodL_len L; have := HM.out; omega
              generalize (goodL L).length = K at *
              generalize (goodL (L.take i)).length = kk at *
              have e2 : (kk : Int) < (K : Int) := by omega
              have e3 : ¬ (K : Int) ≤ (kk : Int) := by omega
              have q2 : IntKind.i64.wrap ((kk : Int) + 1) = (kk : Int) + 1 := IntWalk.i64_in _ (by omega)
              have HF := Lib.hid hka
              clear hka hkl hKm
              obtain ⟨k, n, c, p, d, cd, g⟩ := f
              have HIN := Lib.hid (show inF k n c d from hin)
              have HQF := Lib.hid (fun (W : World) (h : Below w.heap.size w W) => (show BytesAt W p d g from hfo.at_.below h))
              clear hfo hf hr hB hin
              go_wp2_with (first
                | (with_reducible show wpList _ _ _ (⟨some 49, Op.indexAddr 50 _ _, _, _, _, _⟩ :: _) _ _
                   refine wpList_fr_elem rfl _ _ rfl B o m cp i rfl rfl hlt ?_)
                | (with_reducible show wpList _ _ _ (⟨some 50, Op.load 24 _, _, _, _, _⟩ :: _) _ _
                   refine wpList_fr_load rfl _ rfl B (o + 4 * i) rfl ⟨k, n, c, p, d, cd, g⟩ HR.out ?_)
                | (with_reducible show wpList _ _ _ (⟨some 10, Op.alloc 24, _, _, _, _⟩ :: _) _ _
                   refine wpList_boxA_new rowFr rfl rfl _ rfl ?_
                   intro wq xx ll ss
                   have XX := Lib.hid xx
                   have LL := Lib.hid ll
                   clear xx ll ss)
                | (with_reducible show wpList _ _ _ (⟨_, Op.store 24 (.tmp 10) _, _, _, _, none⟩ :: _) _ _
                   refine wpList_boxA_put rowFr rfl _ _ rfl rfl wr.heap.size (frA k n c p d cd) _ (frA_size _ _ _ _ _ _) (frA_one _ _ _ _ _ _) (frA_size _ _ _ _ _ _) rfl rfl XX.out ?_
                   intro wa xx kk ss
                   have bb := low_put LL.out (Nat.le_refl _) kk
                   obtain ⟨d0, d1, d2, d3⟩ := boxFr xx
                   have UA := Lib.hid (U.out.trans (bb.mono U.out.size))
                   have OA := Lib.hid (OO.out.below bb)
                   have XA := Lib.hid xx
                   have QA := Lib.hid (HQF.out _ UA.out)
                   clear kk ss XX LL U OO xx HR)
                | (with_reducible show wpList _ _ _ (⟨some 52, Op.load 24 _, _, _, _, _⟩ :: _) _ _
                   refine wpList_boxA_loadw rowFr _ rfl rfl wr.heap.size (frA k n c p d cd) (frA_size _ _ _ _ _ _) rfl XA.out ?_)
                | (go_at_call 11
                   refine (refEncode_ok k n c (cd := cd) HIN.out QA.out).mono ?_; rintro e wb ⟨pa, ca, rfl, ba, lb⟩
                   have UB := Lib.hid (UA.out.trans (lb.mono UA.out.size))
                   have OB := Lib.hid (OA.out.below lb)
                   obtain ⟨hc, hb8⟩ := OB.out.at_ (f := ⟨k, n, c, p, d, cd, g⟩) HF.out
                   have B8 := Lib.hid hb8
                   have BA := Lib.hid ba
                   clear lb ba hb8 UA OA QA XA)
                | (go_at_call 12
                   refine (Same_true (some ⟨D5 kk, 0, none⟩) (8 + d) (C5 kk) pa ca (frT k n c d g) (frT k n c d g) (fun _ _ => rfl) _ B8.out BA.out).mono ?_
                   rintro e wc ⟨rfl, rfl⟩
                   clear BA B8))
              go_roundw
              case rel => exact ⟨i + 1, by omega, by go_num, by have := HNX.out; go_num, UB.out, OB.out⟩
              case measure => simp [intOf]; omega
            · have HNX := Lib.hid (goodL_no hf hin)
              obtain ⟨k, n, c, p, d, cd, g⟩ := f
              have HIN := Lib.hid (show ¬ inF k n c d from hin)
              have HQF := Lib.hid (fun (W : World) (h : Below w.heap.size w W) => (show BytesAt W p d g from hfo.at_.below h))
              clear hfo hf hr hB hin
              go_wp2_with (first
                | (with_reducible show wpList _ _ _ (⟨some 49, Op.indexAddr 50 _ _, _, _, _, _⟩ :: _) _ _
                   refine wpList_fr_elem rfl _ _ rfl B o m cp i rfl rfl hlt ?_)
                | (with_reducible show wpList _ _ _ (⟨some 50, Op.load 24 _, _, _, _, _⟩ :: _) _ _
                   refine wpList_fr_load rfl _ rfl B (o + 4 * i) rfl ⟨k, n, c, p, d, cd, g⟩ HR.out ?_)
                | (with_reducible show wpList _ _ _ (⟨some 10, Op.alloc 24, _, _, _, _⟩ :: _) _ _
                   refine wpList_boxA_new rowFr rfl rfl _ rfl ?_
                   intro wq xx ll ss
                   have XX := Lib.hid xx
                   have LL := Lib.hid ll
                   clear xx ll ss)
                | (with_reducible show wpList _ _ _ (⟨_, Op.store 24 (.tmp 10) _, _, _, _, none⟩ :: _) _ _
                   refine wpList_boxA_put rowFr rfl _ _ rfl rfl wr.heap.size (frA k n c p d cd) _ (frA_size _ _ _ _ _ _) (frA_one _ _ _ _ _ _) (frA_size _ _ _ _ _ _) rfl rfl XX.out ?_
                   intro wa xx kk ss
                   have bb := low_put LL.out (Nat.le_refl _) kk
                   obtain ⟨d0, d1, d2, d3⟩ := boxFr xx
                   have UA := Lib.hid (U.out.trans (bb.mono U.out.size))
                   have OA := Lib.hid (OO.out.below bb)
                   have XA := Lib.hid xx
                   have QA := Lib.hid (HQF.out _ UA.out)
                   clear kk ss XX LL U OO xx HR)
                | (with_reducible show wpList _ _ _ (⟨some 52, Op.load 24 _, _, _, _, _⟩ :: _) _ _
                   refine wpList_boxA_loadw rowFr _ rfl rfl wr.heap.size (frA k n c p d cd) (frA_size _ _ _ _ _ _) rfl XA.out ?_)
                | (go_at_call 11
                   refine (refEncode_no k n c p d cd HIN.out).mono ?_; rintro e wb ⟨rfl, lb⟩
                   have UB := Lib.hid (UA.out.trans (lb.mono UA.out.size))
                   have OB := Lib.hid (OA.out.below lb)
                   clear lb UA OA QA XA))
              go_roundw
              case rel => exact ⟨i + 1, by omega, by go_num, by rw [HNX.out], UB.out, OB.out⟩
              case measure => simp [intOf]; omega
          · have e1 : ¬ (i : Int) < (m : Int) := by omega
            rw [goodL_all (by omega)]
            have AP := Lib.hid (apart_out OO.out HG0.out (by have := goodL_len L; have := HM.out; omega) (fun f hf => (goodL_in hf).2.2.2) (T := w.heap.size) HS.out.1 (by exact U.out.size) c5)
            go_wp2_with (first
              | (go_at_call 15
                 refine AP.out.mono ?_; rintro e we ⟨rfl, le⟩
                 have UE := Lib.hid (U.out.trans le)
                 clear le AP))
            go_ret
            exact ⟨rfl, UE.out⟩
theorem own : ownKnob Try.prog.godebug = none := by kernel_rfl
theorem laidOut : laidOutB Try.prog = true := by kernel_rfl
set_option maxRecDepth 100000 in
theorem lifted (os : Os) (started : os.Started) (H : Type) (enc : TypeId × Value → H) :
    ReturnsInHanded {} Try.checked os 7 .any (Rows.pduBytesSpec.pre6 enc Try.prog Try.f7 Rows.pduBytesRow.domain false) (Rows.pduBytesSpec.post enc Try.prog Try.f7 false true false false) := by
  refine returnsInHanded_of_change_sized (C := Try.checked) own started (by kernel_rfl) Try.func7
    (ChangeSpec.witness6 (enc := enc) (C := Try.checked) false ⟨#[], #[.slice none 0 0], []⟩ 8 (by kernel_rfl) (by kernel_rfl) (by kernel_rfl) (by kernel_rfl)) ?_
  intro W base args ds gs before hval0 hW hcnd hsz _
  have hval : ∀ (j : Nat) t v, Try.f7.params[j]? = some t → args[j]? = some v → Value.okWide Try.prog W .any base t v := hval0
  have hW' := hW
  obtain ⟨p, q, hA0, hV, rfl, hfz, hnd⟩ := hW
  have hA : DataW.TrodAll enc Try.prog W 0 (fun _ => true) true Try.f7.params.toList args.toList ds p := hA0
  rw [Try.params7] at hA hval
  obtain ⟨v0, vs0, d0, ds0, p0, q0, hargs, rfl, rfl, h0, r0⟩ := trodAll_cons hA
  obtain ⟨rfl, rfl, rfl⟩ := trodAll_nil r0
  obtain rfl : args = #[v0] := by cases args; simp_all
  obtain ⟨rfl, rfl⟩ := trodVars_none hV
  have k0 := h0
  have lt0 : ∀ x ∈ p0, x.block < W.heap.size := by obtain ⟨m, hm⟩ := k0; exact DataW.trod_lt m _ _ _ hm
  obtain ⟨q0, c0, L0, rfl, y0, w0, l0, m0, b0⟩ := open_frames_sized (hval 0 50 v0 rfl rfl) h0
  have z0 : ∀ f ∈ L0, f.d ≤ 140737488351232 := b0 (fun x hx => by
    have := List.all_eq_true.1 hsz x (DataW.weights_mem_each (j := 0) (t := 50) (by rw [Try.params7]; rfl) rfl x hx)
    simpa using this)
  clear hA0 hval0
  refine (walk pduSpec L0 rfl y0 w0 l0 m0 (fun f hf => z0 f hf)).mono fun e W' ⟨he, bel⟩ => ?_
  subst he
  exact ⟨_, rfl, _, _, _, [], _, [], hW', trodAll_mk1 (shut_bool Try.underlying4 _), (trodAll_cons_mk (Below.trod laidOut (by kernel_rfl) (of_decide_eq_true (by kernel_rfl)) k0 bel lt0) trodAll_mk0), rfl, bel.frame _, fun h => by cases h⟩

theorem over : Rows.pduBytesRow.holds Try.pinned (OpenSpec.ofChange Rows.pduBytesSpec) :=
  OpenClaim.holds_of_wide 7 Try.f7 rfl rfl rfl rfl rfl rfl rfl ⟨rfl, rfl, rfl, rfl, rfl⟩ rfl rfl rfl rfl rfl (by kernel_rfl) Try.func7 (by kernel_rfl)
    (of_decide_eq_true (by kernel_rfl)) (by unfold Func.isWrapper; first | (rw [if_pos (by decide +kernel)]; kernel_rfl) | (rw [if_neg (by decide +kernel)]; exact ⟨rfl, rfl⟩))
    (fun os started H enc _ => lifted os started H enc)

theorem proved : Rows.PduBytesSaid := over
end pduBytes
end Go.Proofs.Ytebbnkkhabehmaa
