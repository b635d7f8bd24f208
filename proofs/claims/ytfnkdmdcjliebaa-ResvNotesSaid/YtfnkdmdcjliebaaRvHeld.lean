/- The contract of the program's held: a walk along the holders that is left by its label. Conditions: the reservations are in form. -/
import Derived.Test.YtfnkdmdcjliebaaRvIter
import Derived.Test.YtfnkdmdcjliebaaRvFair
namespace Go.Proofs.Ytfnkdmdcjliebaa
open Go.ChangeShapes Go.WideShapes Go.ChangeAt Go.RowKit
set_option linter.unusedVariables false
set_option linter.unusedSimpArgs false
theorem zeroBool_run (W : World) : (zeroValue 4).run Try.prog W = .ok (.bool false) W := by
  have h : (Try.prog.info? 4).bind (·.zero) = some (.bool false) := by kernel_rfl
  cases hq : Try.prog.info? 4 with
  | none => rw [hq] at h; simp at h
  | some i =>
    rw [hq] at h
    simp only [Option.bind_some] at h
    simp [zeroValue, typeInfo, hq, h]
section
variable {ops : Array Oper} {rest : List Oper} {o : Oper} {a : Act} {w : World} {Q : Exit → Act → World → Prop} {T : TypeId} {A : Array Value}
theorem wpList_bool_new (ho : o.op = .alloc 4) (hw : Region.wanted o (yielded ops a.tmps) = true)
    (h : ∀ w', BoxA w' w.heap.size 4 #[.bool false] → Below w.heap.size w w' → w'.heap.size = w.heap.size + 1 → wpList Try.prog ops Q rest (a.put o.dst (.pointer (some ⟨w.heap.size, 0, none⟩))) w') : wpList Try.prog ops Q (o :: rest) a w :=
  wanted_step hw fun K hK => by
    have e := zeroBool_run w
    unfold Oper.wp execOp
    simp only [ho]
    simp [go_sem, e]
    exact hK _ _ (h _ (BoxA.alloc w _ _) ((Below.refl _ w).alloc (Nat.le_refl _) _) (World.size_alloc _ _))
theorem wpList_bool_put (hgd : o.guard = none) (x y : Operand) (ho : o.op = .store 4 x y) (hd : o.dst = none) (O : Nat) (b d : Bool) (hx : a.eval x = .pointer (some ⟨O, 0, none⟩)) (hy : a.eval y = .bool b) (hO : BoxA w O 4 #[.bool d])
    (h : ∀ w', BoxA w' O 4 #[.bool b] → Keeps (fun j => j = O) w w' → w'.heap.size = w.heap.size → wpList Try.prog ops Q rest a w') : wpList Try.prog ops Q (o :: rest) a w :=
  wpList_plain hgd fun K hK => by
    have hc : w.cell? ⟨O, 0, none⟩ = some (.bool d) := hO.cell 0
    have hf := hO.free 0
    have hh := hK _ _ (h _ (hO.set 0 (.bool b)) ((Keeps.refl (fun j => j = O) w).setCell rfl 0 (.bool b)) (by simp [World.setCell]))
    unfold Oper.wp execOp
    simp only [ho, hx, hy]
    simp [go_sem, hc, hf, hd]
    exact hh
end
/-- Between two rounds of held. -/
structure HeS (w w5 : World) (T : Nat → Prop) (who : Int) (a b : Bool) (V : World) : Prop where
  pw : BoxA V (w.heap.size + 1) 3 #[.int .i64 who]
  sb : BoxA V (w.heap.size + 1 + 1) 4 #[.bool a]
  ob : BoxA V (w.heap.size + 1 + 1 + 1) 4 #[.bool b]
  it : ∀ k, T k → V.heap[k]? = w5.heap[k]?
  low : Below w.heap.size w V
  big : w5.heap.size ≤ V.heap.size
theorem HeS.save {w w5 : World} {T : Nat → Prop} {who : Int} {a b : Bool} {V V' : World} (h : HeS w w5 T who a b V) (hT : ∀ k, T k → k < w5.heap.size) (hw : w.heap.size + 4 ≤ w5.heap.size) (hs : Save w5.heap.size V V') : HeS w w5 T who a b V' :=
  ⟨h.pw.keep (hs.same _ (by have := h.big; omega) (by omega) (by omega)), h.sb.keep (hs.same _ (by have := h.big; omega) (by omega) (by omega)), h.ob.keep (hs.same _ (by have := h.big; omega) (by omega) (by omega)),
   fun k hk => (hs.same k (by have := h.big; have := hT k hk; omega) (by have := hT k hk; omega) (by have := hT k hk; omega)).trans (h.it k hk),
   ⟨hs.os.trans h.low.os, hs.tape.trans h.low.tape, hs.output.trans h.low.output, Nat.le_trans h.low.size hs.size, fun k hk => (hs.same k (by have := h.big; omega) (by omega) (by omega)).trans (h.low.block k hk)⟩, Nat.le_trans h.big hs.size⟩
theorem HeS.some {w w5 : World} {T : Nat → Prop} {who : Int} {a b a' : Bool} {V V' : World} (h : HeS w w5 T who a b V) (hT : ∀ k, T k → w.heap.size + 4 ≤ k) (hw : w.heap.size + 4 ≤ w5.heap.size) (hx : BoxA V' (w.heap.size + 1 + 1) 4 #[.bool a']) (hk : Keeps (fun j => j = w.heap.size + 1 + 1) V V') (hz : V'.heap.size = V.heap.size) : HeS w w5 T who a' b V' :=
  ⟨h.pw.keep (hk.block _ (by have := h.big; omega) (by omega)), hx, h.ob.keep (hk.block _ (by have := h.big; omega) (by omega)),
   fun k hk' => by
    by_cases hl : k < V.heap.size
    · exact (hk.block k hl (by have := hT k hk'; omega)).trans (h.it k hk')
    · rw [← h.it k hk', Array.getElem?_eq_none (by omega), Array.getElem?_eq_none (by omega)],
   h.low.trans (hk.below h.low.size (fun j hj e => by omega)), by have := h.big; omega⟩
theorem HeS.one {w w5 : World} {T : Nat → Prop} {who : Int} {a b b' : Bool} {V V' : World} (h : HeS w w5 T who a b V) (hT : ∀ k, T k → w.heap.size + 4 ≤ k) (hw : w.heap.size + 4 ≤ w5.heap.size) (hx : BoxA V' (w.heap.size + 1 + 1 + 1) 4 #[.bool b']) (hk : Keeps (fun j => j = w.heap.size + 1 + 1 + 1) V V') (hz : V'.heap.size = V.heap.size) : HeS w w5 T who a b' V' :=
  ⟨h.pw.keep (hk.block _ (by have := h.big; omega) (by omega)), h.sb.keep (hk.block _ (by have := h.big; omega) (by omega)), hx,
   fun k hk' => by
    by_cases hl : k < V.heap.size
    · exact (hk.block k hl (by have := hT k hk'; omega)).trans (h.it k hk')
    · rw [← h.it k hk', Array.getElem?_eq_none (by omega), Array.getElem?_eq_none (by omega)],
   h.low.trans (hk.below h.low.size (fun j hj e => by omega)), by have := h.big; omega⟩
theorem heS_rec {w w5 V V' : World} (h : Keeps (fun j => j = w.heap.size + 1 + 1 ∨ j = w.heap.size + 1 + 1 + 1) V V') (hs : V.heap.size ≤ V'.heap.size) (hw : w.heap.size + 4 ≤ w5.heap.size) (hb : w5.heap.size + 2 ≤ V.heap.size) : Rec w5.heap.size V V' :=
  ⟨hs, h.block _ (by omega) (by omega), h.block _ (by omega) (by omega)⟩
/-- What a walk along the holders tells. -/
theorem held_ends {r : ResvOf} (g : GoodR r) {who : Int} (hb : ∀ k, k < (holdersR r).length → (holdersR r).getD k 0 < who) : holdsR r who = false := by rw [← holders_any g]; exact seen_all hb
theorem held_over {r : ResvOf} (g : GoodR r) {who : Int} {i : Nat} (hb : ∀ k, k < i → (holdersR r).getD k 0 < who) (hi : i < (holdersR r).length) (hx : who < (holdersR r).getD i 0) : holdsR r who = false := by rw [← holders_any g]; exact seen_less (holders_rise g) hb hi hx
theorem held_here {r : ResvOf} (g : GoodR r) {who : Int} {i : Nat} (hi : i < (holdersR r).length) (hx : (holdersR r).getD i 0 = who) : holdsR r who = true := by rw [← holders_any g]; exact seen_one hi hx
attribute [local irreducible] regC atR keyR inR risesR formR allR holdersR holdsR
attribute [local go_sem] Oper.semAt_some
set_option maxRecDepth 100000 in
set_option maxHeartbeats 8000000 in
theorem held_any {w : World} {q : Option Addr} {n c : Nat} {r : ResvOf} (hq : RvAt w q n c r) (hg : GoodR r) (who : Int) :
    Calls Try.prog 40 #[.agg (resvA q n c r), .int .i64 who] w fun e w' => e = .returned (.tuple #[.bool (!(r.h == -1)), .bool (holdsR r who)]) ∧ Below w.heap.size w w' := by
  have HH := Lib.hid (fun (W : World) (hb : Below w.heap.size w W) => Holders_any (RvAt.below hq hb) hg)
  have HS := Lib.hid (holders_some hg)
  have HE := Lib.hid (fun hb => held_ends hg (who := who) hb)
  have HO := Lib.hid (fun i hb hi hx => held_over hg (who := who) (i := i) hb hi hx)
  have HX := Lib.hid (fun i hi hx => held_here hg (who := who) (i := i) hi hx)
  clear hq hg
  refine (callsIn_wide (n := 4)).1 ?_
  refine callsIn_of_wp_marks Try.func40 rfl trivial ?_ rfl
  simp only [Try.ntmps40, List.size_toArray, List.length_cons, List.length_nil, Nat.reduceAdd, Nat.reduceSub, Array.replicate_succ, Array.replicate_zero, List.push_toArray, List.append_toArray, List.nil_append, List.cons_append]
  refine wpIn_wide.2 ?_
  go_wp2_with (first
    | (with_reducible show wpList _ _ _ (⟨_, Op.box rvT _, _, _, _, none⟩ :: _) _ _
       refine wpList_boxA_of rfl _ rfl (resvA q n c r) rfl ?_
       intro w1 x1 l1 s1
       have X1 := Lib.hid x1
       have L1 := Lib.hid l1
       have S1 := Lib.hid s1
       clear x1 l1 s1)
    | (with_reducible show wpList _ _ _ (⟨_, Op.box 3 _, _, _, _, none⟩ :: _) _ _
       refine wpList_box1 rfl _ _ rfl (.int .i64 who) (fun _ h => nomatch h) rfl ?_
       intro w2 x2 l2 s2
       rw [S1.out] at x2 s2
       rw [S1.out]
       have P2 := Lib.hid x2
       have X2 := Lib.hid (X1.out.keep (l2.block _ X1.out.lt))
       have L2 := Lib.hid (L1.out.trans (l2.mono L1.out.size))
       have S2 := Lib.hid s2
       clear x2 l2 s2 X1 L1 S1))
  go_step3
  go_wp2_with (first
    | (with_reducible show wpList _ _ _ (⟨_, Op.alloc 4, _, _, _, _⟩ :: _) _ _
       refine wpList_bool_new rfl rfl ?_
       intro w3 x3 l3 s3
       rw [S2.out] at x3 s3
       rw [S2.out]
       have B3 := Lib.hid x3
       have P3 := Lib.hid (P2.out.keep (l3.block _ P2.out.lt))
       have X3 := Lib.hid (X2.out.keep (l3.block _ X2.out.lt))
       have L3 := Lib.hid (L2.out.trans (l3.mono L2.out.size))
       have S3 := Lib.hid s3
       clear x3 l3 s3 X2 P2 L2 S2)
    | (with_reducible show wpList _ _ _ (⟨_, Op.alloc 4, _, _, _, _⟩ :: _) _ _
       refine wpList_bool_new rfl rfl ?_
       intro w4 x4 l4 s4
       rw [S3.out] at x4 s4
       rw [S3.out]
       have C4 := Lib.hid x4
       have B4 := Lib.hid (B3.out.keep (l4.block _ B3.out.lt))
       have P4 := Lib.hid (P3.out.keep (l4.block _ P3.out.lt))
       have X4 := Lib.hid (X3.out.keep (l4.block _ X3.out.lt))
       have L4 := Lib.hid (L3.out.trans (l4.mono L3.out.size))
       have S4 := Lib.hid s4
       clear x4 l4 s4 X3 P3 L3 S3 B3)
    | (with_reducible show wpList _ _ _ (⟨_, Op.store 4 (.tmp 6) _, _, _, _, none⟩ :: _) _ _
       refine wpList_bool_put rfl _ _ rfl rfl (w.heap.size + 1 + 1) false false rfl rfl B4.out ?_
       intro w6 x6 k6 s6
       have B6 := Lib.hid x6
       have C6 := Lib.hid (C4.out.keep (k6.block _ C4.out.lt (by omega)))
       have P6 := Lib.hid (P4.out.keep (k6.block _ P4.out.lt (by omega)))
       have X6 := Lib.hid (X4.out.keep (k6.block _ X4.out.lt (by omega)))
       have L6 := Lib.hid (L4.out.trans (k6.below L4.out.size (fun j hj e => by omega)))
       have S6 := Lib.hid (s6.trans S4.out)
       clear x6 k6 s6 B4 C4 P4 X4 L4 S4)
    | (with_reducible show wpList _ _ _ (⟨_, Op.store 4 (.tmp 7) _, _, _, _, none⟩ :: _) _ _
       refine wpList_bool_put rfl _ _ rfl rfl (w.heap.size + 1 + 1 + 1) false false rfl rfl C6.out ?_
       intro w4 x4 k4 s4
       have C4 := Lib.hid x4
       have B4 := Lib.hid (B6.out.keep (k4.block _ B6.out.lt (by omega)))
       have P4 := Lib.hid (P6.out.keep (k4.block _ P6.out.lt (by omega)))
       have X4 := Lib.hid (X6.out.keep (k4.block _ X6.out.lt (by omega)))
       have L4 := Lib.hid (L6.out.trans (k4.below L6.out.size (fun j hj e => by omega)))
       have S4 := Lib.hid (s4.trans S6.out)
       clear x4 k4 s4 B6 C6 P6 X6 L6 S6))
  go_step3
  go_wp2_with (first
    | (with_reducible show wpList _ _ _ (⟨_, Op.load rvT _, _, _, _, none⟩ :: _) _ _
       refine wpList_boxA_load rowRv rfl _ rfl w.heap.size (resvA q n c r) rfl rfl X4.out ?_)
    | (go_at_call 18
       refine (HH.out w4 L4.out).mono ?_; rintro e w5 ⟨fv, T, rfl, ⟨gf, lb, rfl, eg, hTl, hit⟩, hT, b5⟩
       have H5 := Lib.hid (show HeS w w5 T who (decide (0 < 0)) false w5 from ⟨P4.out.keep (b5.block _ P4.out.lt), B4.out.keep (b5.block _ B4.out.lt), C4.out.keep (b5.block _ C4.out.lt), fun _ _ => rfl, L4.out.trans (b5.mono L4.out.size), Nat.le_refl _⟩)
       have Z5 := Lib.hid (show w.heap.size + 4 ≤ w5.heap.size from by have := b5.size; have := S4.out; omega)
       have HTL := Lib.hid hTl
       have HTB := Lib.hid (show ∀ k, T k → w.heap.size + 4 ≤ k from fun k hk => by have := hT k hk; have := S4.out; omega)
       have HIT := Lib.hid hit
       have HEG := Lib.hid eg
       clear b5 hit hTl eg hT X4 B4 C4 P4 L4 S4 HH))
  refine (wpIn_wide (n := 3)).1 ?_
  refine range_free_brk rfl (by omega) (gf := gf) (lb := lb) rfl trivial HEG.out
    (fun z : Int => #[.int .i64 z]) (fun i => (holdersR r).getD i 0) (holdersR r).length (fun V => ∀ k, T k → V.heap[k]? = w5.heap[k]?) (fun _ => rfl)
    (fun i V => HeS w w5 T who (decide (0 < i)) false V ∧ ∀ k, k < i → (holdersR r).getD k 0 < who) (fun V => HeS w w5 T who true (holdsR r who) V ∧ 0 < (holdersR r).length) ?rd ?st ?stx ⟨H5.out, fun k hk => absurd hk (Nat.not_lt_zero _)⟩ HIT.out ?round ?done
  case rd => exact fun i V h => h.1.it
  case st => exact fun i V V' h hs => ⟨h.1.save HTL.out Z5.out hs, h.2⟩
  case stx => exact fun V V' h hs => ⟨h.1.save HTL.out Z5.out hs, h.2⟩
  case done =>
    intro D W hD hI hd
    have HI := Lib.hid (show HeS w w5 T who (!(r.h == -1)) (holdsR r who) W from by
      rcases hI with ⟨h, hb⟩ | ⟨h, hb⟩
      · rw [HE.out hb, ← HS.out]; exact h
      · rw [← HS.out, decide_eq_true hb]; exact h)
    have HD := Lib.hid hd
    have HDD := Lib.hid hD
    clear hI hd hD H5
    have g1 : W.cell? ⟨w.heap.size + 1 + 1, 0, none⟩ = some (.bool (!(r.h == -1))) := HI.out.sb.cell 0
    have g2 : W.cell? ⟨w.heap.size + 1 + 1 + 1, 0, none⟩ = some (.bool (holdsR r who)) := HI.out.ob.cell 0
    generalize ha1 : (!(r.h == -1)) = a1 at *
    generalize ha2 : holdsR r who = a2 at *
    have HA1 := Lib.hid ha1
    have HA2 := Lib.hid ha2
    clear ha1 ha2
    go_wp2
    go_quiet (fail)
    have HQ := Lib.hid (below_drawn HI.out.low nq)
    have HDQ := Lib.hid (show (W.drewN nq).heap[D]? = some (.deferred (some [])) from HD.out)
    generalize W.drewN nq = W2 at *
    go_wp2
    rw [Exit.noGoto_ret]
    refine ⟨by simp, .inl ⟨_, _, rfl, run_takeDeferred HDQ.out, ?_⟩⟩
    refine ⟨.tuple #[.bool a1, .bool a2], ?_, by rw [HA1.out, HA2.out], below_turn _ HQ.out (by have := HDD.out; have := Z5.out; omega)⟩
    simp [results, Try.f40, go_sem]
  case round =>
    intro l i W hl hi hWs hI
    have HI := Lib.hid hI
    have HLI := Lib.hid hi
    have HWS := Lib.hid hWs
    have HOi := Lib.hid (HO.out i hI.2 hi)
    have HXi := Lib.hid (HX.out i hi)
    clear hI hi hWs H5
    have hz : ∃ z, (holdersR r).getD i 0 = z := ⟨_, rfl⟩
    obtain ⟨z, hz⟩ := hz
    rw [hz] at HOi HXi
    rw [hz]
    have HZ := Lib.hid hz
    clear hz
    gi_wp2
    refine ⟨Rec.refl _ _, fun V hVs hVk hVS => ?_⟩
    have HV := Lib.hid (HI.out.1.save HTL.out Z5.out hVS)
    have HB := Lib.hid HI.out.2
    have HVS := Lib.hid (show w5.heap.size + 2 ≤ V.heap.size from by have := HWS.out; omega)
    clear hVs hVk hVS HI HWS
    refine wpIn_block ?_
    refine wpIn_seq_k fun K hK => ?_
    refine region_round rfl (by rintro ⟨_, _, h⟩; exact h) ?_
    refine wpList_bool_put rfl _ _ rfl rfl (w.heap.size + 1 + 1) true _ rfl rfl HV.out.sb ?_
    intro w6 x6 k6 s6
    have H6 := Lib.hid (HV.out.some HTB.out Z5.out x6 k6 s6)
    have K6 := Lib.hid (show Keeps (fun j => j = w.heap.size + 1 + 1 ∨ j = w.heap.size + 1 + 1 + 1) V w6 from k6.mono fun j _ e => Or.inl e)
    have S6 := Lib.hid s6
    clear x6 k6 s6 HV
    have g1 : w6.cell? ⟨w.heap.size + 1, 0, none⟩ = some (.int .i64 who) := H6.out.pw.cell 0
    have g2 : w6.cell? ⟨w.heap.size + 1 + 1 + 1, 0, none⟩ = some (.bool false) := H6.out.ob.cell 0
    have g3 : w6.frozen? ⟨w.heap.size + 1 + 1 + 1, 0, none⟩ = false := H6.out.ob.free 0
    have HP := Lib.hid (show 0 < (holdersR r).length from by have := HLI.out; omega)
    by_cases hgt : who < z
    · have HX1 := Lib.hid (HOi.out hgt)
      go_wp2
      gi_wp2
      exact ⟨heS_rec K6.out (by rw [S6.out]; exact Nat.le_refl _) Z5.out HVS.out, rfl, by rw [HX1.out]; exact H6.out, HP.out⟩
    · by_cases hze : z = who
      · have HX1 := Lib.hid (HXi.out hze)
        subst hze
        have H7 := Lib.hid (H6.out.one HTB.out Z5.out (H6.out.ob.set 0 (.bool true)) ((Keeps.refl (fun j => j = w.heap.size + 1 + 1 + 1) w6).setCell rfl 0 (.bool true)) (by simp [World.setCell]))
        have K7 := Lib.hid (show Keeps (fun j => j = w.heap.size + 1 + 1 ∨ j = w.heap.size + 1 + 1 + 1) V (w6.setCell ⟨w.heap.size + 1 + 1 + 1, 0, none⟩ (.bool true)) from K6.out.setCell (.inr rfl) 0 (.bool true))
        have S7 := Lib.hid (show (w6.setCell ⟨w.heap.size + 1 + 1 + 1, 0, none⟩ (.bool true)).heap.size = V.heap.size from by rw [← S6.out]; simp [World.setCell])
        go_wp2
        gi_wp2
        exact ⟨heS_rec K7.out (by rw [S7.out]; exact Nat.le_refl _) Z5.out HVS.out, rfl, by rw [HX1.out]; exact H7.out, HP.out⟩
      · have g5 : (z == who) = false := beq_eq_false_iff_ne.2 hze
        have HL := Lib.hid (show z < who by omega)
        go_wp2
        gi_wp2
        exact ⟨heS_rec K6.out (by rw [S6.out]; exact Nat.le_refl _) Z5.out HVS.out, by rw [decide_eq_true (Nat.succ_pos i)]; exact H6.out, fun k hk => by
          rcases Nat.lt_or_ge k i with h | h
          · exact HB.out k h
          · obtain rfl : k = i := by omega
            show (holdersR r).getD k 0 < who
            rw [HZ.out]; exact HL.out⟩
end Go.Proofs.Ytfnkdmdcjliebaa
