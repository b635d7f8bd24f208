/- The contracts of cmp.Compare, the program's closure over it, insertionSortCmpFunc, pdqsortCmpFunc and SortFunc over registrations that rise but for the last one: it is sorted in. Conditions: at most five. -/
import Derived.Test.YtfnkdmdcjliebaaRvRow
namespace Go.Proofs.Ytfnkdmdcjliebaa
open Go.ChangeShapes Go.WideShapes Go.ChangeAt Go.RowKit
set_option linter.unusedVariables false
set_option linter.unusedSimpArgs false
def cmpI (x y : Int) : Int := if x < y then -1 else if y < x then 1 else 0
theorem cmpI_less (x y : Int) : decide (cmpI x y < 0) = decide (x < y) := by
  unfold cmpI
  split
  · rename_i h; simp [h]
  · rename_i h
    split <;> simp [h]
attribute [local go_sem] Oper.semAt_some
set_option maxRecDepth 100000 in
theorem Compare_any (x y : Int) (w : World) : Calls Try.prog 73 #[.int .i64 x, .int .i64 y] w fun e w' => e = .returned (.int .i64 (cmpI x y)) ∧ w = w' := by
  by_cases h1 : x < y
  · have e : cmpI x y = -1 := if_pos h1
    rw [e]
    go_enter Try.func73, Try.ntmps73
    go_wp2
    go_ret
    exact ⟨rfl, rfl⟩
  · by_cases h2 : y < x
    · have e : cmpI x y = 1 := by unfold cmpI; rw [if_neg h1, if_pos h2]
      rw [e]
      go_enter Try.func73, Try.ntmps73
      go_wp2
      go_ret
      exact ⟨rfl, rfl⟩
    · have e : cmpI x y = 0 := by unfold cmpI; rw [if_neg h1, if_neg h2]
      rw [e]
      go_enter Try.func73, Try.ntmps73
      go_wp2
      go_ret
      exact ⟨rfl, rfl⟩
set_option maxRecDepth 100000 in
theorem register2_any (u c u' c' : Int) (w : World) : Calls Try.prog 72 #[.agg #[.int .i64 u, .int .i64 c], .agg #[.int .i64 u', .int .i64 c']] w fun e w' => e = .returned (.int .i64 (cmpI u u')) ∧ Below w.heap.size w w' := by
  have HC := Lib.hid (fun W => Compare_any u u' W)
  generalize cmpI u u' = z at *
  go_enter Try.func72, Try.ntmps72
  go_wp2_with (first
    | (with_reducible show wpList _ _ _ (⟨_, Op.box rgT (.tmp 0), _, _, _, none⟩ :: _) _ _
       refine wpList_boxA_of rfl _ rfl #[.int .i64 u, .int .i64 c] rfl ?_
       intro w1 x1 l1 s1
       have X1 := Lib.hid x1
       have L1 := Lib.hid l1
       have S1 := Lib.hid s1
       clear x1 l1 s1)
    | (with_reducible show wpList _ _ _ (⟨_, Op.box rgT (.tmp 1), _, _, _, none⟩ :: _) _ _
       refine wpList_boxA_of rfl _ rfl #[.int .i64 u', .int .i64 c'] rfl ?_
       intro w2 x2 l2 s2
       rw [S1.out] at x2
       rw [S1.out]
       obtain ⟨c0, c1⟩ := boxRg (X1.out.keep (l2.block _ X1.out.lt))
       obtain ⟨d0, d1⟩ := boxRg x2
       have L2 := Lib.hid (L1.out.trans (l2.mono L1.out.size))
       clear x2 l2 s2 X1 L1 S1)
    | (go_at_call 73
       refine (HC.out _).mono ?_; rintro e w3 ⟨rfl, rfl⟩))
  go_ret
  exact ⟨rfl, L2.out⟩
theorem app_ins (ks : List (Int × Int)) (x : Int × Int) : ks ++ [x] = insAt ks x ks.length := (ins_all ks x).symm
theorem getD_of {L : List (Int × Int)} {k : Nat} {p : Int × Int} (h : L[k]? = some p) : L.getD k (0, 0) = p := by rw [List.getD_eq_getElem?_getD, h]; rfl
theorem app_get {ks : List (Int × Int)} {x : Int × Int} {k : Nat} (h : k < ks.length) : (ks ++ [x]).getD k (0, 0) = ks.getD k (0, 0) := by
  rw [List.getD_eq_getElem?_getD, List.getElem?_append_left h, List.getD_eq_getElem?_getD]
theorem PB.keeps {W W' : World} {B cap : Nat} {l : List (Int × Int)} (h : PB W B cap l) (hb : Below W.heap.size W W') : PB W' B cap l := h.keep (hb.block _ h.lt)
theorem with_none (who key : Int) : ([] : List (Int × Int)) ++ [(who, key)] = withL [] who key false := rfl
theorem done_call2 {o : Oper} {a : Act} {w : World} {K : Value → World → Prop} (x y z : Operand) (ts : Array TypeId) (ho : o.op = .call { callee := .value x, args := #[y, z], argTypes := ts }) (g : FuncId) (hx : a.eval x = .func (.func g) #[] #[])
    (p q : Value) (hy : a.eval y = p) (hz : a.eval z = q) (hf : ∀ (args : Array Value) (w : World), (callFunc g args).run Try.prog w = .ok (.enter g args) w)
    (hc : Calls Try.prog g #[p, q] w fun e w' => ∃ v, e = .returned v ∧ K v w') : doneAt Try.prog o a w K :=
  done_call x #[y, z] ts ho g #[p, q] hx (by simp only [List.map_toArray, List.map_cons, List.map_nil, hy, hz]) (hf _ w) hc
theorem done_reg_load {o : Oper} {a : Act} {w : World} {K : Value → World → Prop} (x : Operand) (ho : o.op = .load rgT x) (B off : Nat) (hx : a.eval x = .pointer (some ⟨B, off, none⟩)) (u c : Int) (hc : w.rangeAt B off (regC (u, c))) (h : K (.agg #[.int .i64 u, .int .i64 c]) w) : doneAt Try.prog o a w K := by
  unfold doneAt execOp
  simp only [ho, hx, Instr.loadAt, Instr.sureAddr, Sem.run_bind, Sem.run_pure, Result.andThen_ok, run_loadVar_mid w B off rgT (regC (u, c)) _ hc Try.underlying39 rfl regSize]
  exact h
attribute [local irreducible] regC cmpI insAt PB withL
set_option maxRecDepth 100000 in
set_option maxHeartbeats 16000000 in
theorem insertionCmp_any {w : World} {B n cap w0 : _} {ks : List (Int × Int)} {who key : Int} (hB : PB w B cap (ks ++ [(who, key)])) (hn : ks.length + 1 = n) (h5 : n ≤ 5) (hr : risesR ks w0 = true) (hne : ∀ p ∈ ks, p.1 ≠ who) :
    Calls Try.prog 92 #[.slice (some ⟨B, 0, none⟩) n cap, .int .i64 0, .int .i64 n, .func (.func 72) #[] #[]] w fun e w' => e = .returned (.tuple #[]) ∧ PB w' B cap (withL ks who key false) ∧ Keeps (fun j => j = B) w w' := by
  obtain ⟨m, hm⟩ : ∃ m, ks.length = m := ⟨_, rfl⟩
  have HN := Lib.hid (show n = m + 1 by omega)
  have H5 := Lib.hid (show n ≤ 5 from h5)
  have HC := Lib.hid (fun u c u' c' W => register2_any u c u' c' W)
  have HR := Lib.hid (fun (k : Nat) (hk : k + 1 < m) => (show (ks.getD k (0, 0)).1 < (ks.getD (k + 1) (0, 0)).1 from by
    have := List.pairwise_iff_getElem.1 (rises_apart hr) k (k + 1) (by omega) (by omega) (by omega)
    rw [List.getD_eq_getElem?_getD, List.getD_eq_getElem?_getD, List.getElem?_eq_getElem (by omega), List.getElem?_eq_getElem (by omega)]
    exact this))
  have HA := Lib.hid (fun (k : Nat) (hk : k < m) => app_get (ks := ks) (x := (who, key)) (k := k) (by omega))
  have HIA := Lib.hid (fun (j : Nat) (hj : j ≤ m) => getD_of (ins_at ks (who, key) (j := j) (by omega)))
  have HIB := Lib.hid (fun (i j : Nat) (hi : i < j) (hj : j ≤ m) => (show (insAt ks (who, key) j).getD i (0, 0) = ks.getD i (0, 0) from by
    rw [List.getD_eq_getElem?_getD, ins_before ks (who, key) hi (by omega), List.getD_eq_getElem?_getD]))
  have HIS := Lib.hid (fun (j : Nat) (hj : j < m) => ins_step ks (who, key) (j := j) (by omega))
  have HIL := Lib.hid (fun (j : Nat) (hj : j ≤ m) => (show (insAt ks (who, key) j).length = n from by rw [ins_len ks _ (by omega)]; omega))
  have HIW := Lib.hid (fun (j : Nat) (hj : j ≤ m) h1 h2 => ins_with (who := who) (key := key) hr (j := j) (by omega) h1 h2)
  have HNE := Lib.hid (fun (k : Nat) (hk : k < m) => hne (ks.getD k (0, 0)) (by rw [List.getD_eq_getElem?_getD, List.getElem?_eq_getElem (by omega)]; exact List.getElem_mem _))
  have HAL := Lib.hid (show (ks ++ [(who, key)]).length = n by rw [List.length_append]; simp; omega)
  have HAI := Lib.hid (show ks ++ [(who, key)] = insAt ks (who, key) m by rw [← hm]; exact app_ins ks _)
  have HW0 := Lib.hid (show m = 0 → ks ++ [(who, key)] = withL ks who key false from fun h => by
    have : ks = [] := List.length_eq_zero_iff.1 (by omega)
    subst this; exact with_none who key)
  have HP := Lib.hid hB
  have HKR := Lib.hid (Keeps.refl (fun j => j = B) w)
  clear hB hn h5 hr hne
  generalize withL ks who key false = R at *
  go_enter Try.func92, Try.ntmps92
  go_wp2
  go_loopw [8, 9] (fun v8 _ wr => ∃ i : Nat, 1 ≤ i ∧ i ≤ m + 1 ∧ v8 = .int .i64 i ∧ (∃ L, (i ≤ m → L = ks ++ [(who, key)]) ∧ (m < i → L = R) ∧ PB wr B cap L) ∧ Keeps (fun j => j = B) w wr) (fun v8 _ _ => m + 2 - (intOf v8).toNat)
  case atStart => exact ⟨1, Nat.le_refl _, by omega, rfl, ⟨_, fun _ => rfl, fun h => HW0.out (by omega), HP.out⟩, HKR.out⟩
  case round =>
    obtain ⟨i, hi1, hi, rfl, ⟨L, hL1, hL2, hPL⟩, hk⟩ := hrel
    clear HP HKR
    have HK := Lib.hid hk
    clear hk
    by_cases hlt : i < n
    · have him : i ≤ m := by have := HN.out; omega
      have HL := Lib.hid (hL1 him)
      rw [hL1 him] at hPL
      have HP := Lib.hid hPL
      clear hL1 hL2 hPL HL
      have f1 : (i : Int) < (n : Int) := by omega
      have HI1 := Lib.hid hi1
      have HIM := Lib.hid him
      have HLT := Lib.hid hlt
      have f3 : IntKind.i64.wrap ((i : Int) + 1) = ((i + 1 : Nat) : Int) := by have := H5.out; rw [IntWalk.i64_in _ (by omega)]; omega
      by_cases hie : i < m
      · -- it stands right
        have f4 : IntKind.i64.wrap ((i : Int) - 1) = ((i - 1 : Nat) : Int) := by have := H5.out; rw [IntWalk.i64_in _ (by omega)]; omega
        have e3 := HR.out (i - 1) (by omega)
        rw [show i - 1 + 1 = i by omega] at e3
        have HE1 := Lib.hid (fun (V : World) (hV : PB V B cap (ks ++ [(who, key)])) => (by have h := hV.range (k := i) (by rw [HAL.out]; omega); rwa [HA.out i hie] at h : V.rangeAt B (2 * i) (regC (ks.getD i (0, 0)))))
        have HE2 := Lib.hid (fun (V : World) (hV : PB V B cap (ks ++ [(who, key)])) => (by have h := hV.range (k := i - 1) (by rw [HAL.out]; omega); rwa [HA.out (i - 1) (by omega)] at h : V.rangeAt B (2 * (i - 1)) (regC (ks.getD (i - 1) (0, 0)))))
        generalize ks.getD i (0, 0) = p at *
        generalize ks.getD (i - 1) (0, 0) = p' at *
        obtain ⟨u, c⟩ := p
        obtain ⟨u', c'⟩ := p'
        have g4 : decide (cmpI u u' < 0) = false := by rw [cmpI_less]; simp at e3 ⊢; omega
        have G4 := Lib.hid g4
        have g2 : decide ((0 : Int) < (i : Int)) = true := by simp; omega
        have G3 := Lib.hid (show i - 1 < n by omega)
        have F4 := Lib.hid f4
        have G2 := Lib.hid g2
        generalize hj : i - 1 = j at *
        have HIE := Lib.hid hie
        have HR2 := Lib.hid (show IntKind.i64.wrap ((i : Int) + 1) = ((i + 1 : Nat) : Int) from f3)
        clear hlt hie hi1 hi him HR HIA HIB HIS HIL HIW HNE HAI HW0 HA hj e3 g4 f4 g2
        go_wp2
        go_loopw [9] (fun v9 wr2 => v9 = .int .i64 i ∧ wr2 = wr) (fun _ _ => 0)
        case atStart => exact ⟨rfl, rfl⟩
        case round =>
          obtain ⟨rfl, rfl⟩ := hrel
          go_wp2
          refine wp_region_sched [(0, true), (1, true), (2, true), (3, true), (4, true), (5, true), (6, true), (7, true), (8, true), (9, true), (10, true), (11, true), (12, true), (13, true), (14, false), (15, true), (16, true)] (fun V => PB V B cap (ks ++ [(who, key)])) (by kernel_rfl) (by kernel_rfl) (HP.out.keep rfl) ?_
          refine walk_float rfl rfl (fun K hK => ?_)
          refine gives_move _ rfl ?_
          go_simp
          refine hK _ ?_
          clear hK K
          refine walk_float rfl rfl (fun K hK => ?_)
          refine gives_move _ rfl ?_
          go_simp
          refine hK _ ?_
          clear hK K
          refine walk_float rfl rfl (fun K hK => ?_)
          refine gives_int_over _ _ rfl i 0 rfl rfl true G2.out ?_
          go_simp
          refine hK _ ?_
          clear hK K
          refine walk_float rfl rfl (fun K hK => ?_)
          refine gives_move _ rfl ?_
          go_simp
          refine hK _ ?_
          clear hK K
          refine walk_float rfl rfl (fun K hK => ?_)
          refine gives_move _ rfl ?_
          go_simp
          refine hK _ ?_
          clear hK K
          refine walk_float rfl rfl (fun K hK => ?_)
          refine gives_move _ rfl ?_
          go_simp
          refine hK _ ?_
          clear hK K
          refine walk_float rfl rfl (fun K hK => ?_)
          refine gives_move _ rfl ?_
          go_simp
          refine hK _ ?_
          clear hK K
          refine walk_float rfl rfl (fun K hK => ?_)
          refine gives_reg_elem _ _ rfl B 0 n cap i rfl rfl HLT.out ?_
          go_simp
          refine hK _ ?_
          clear hK K
          refine walk_float rfl rfl (fun K hK => ?_)
          refine gives_reg_load _ rfl B (2 * i) rfl u c HE1.out ?_
          go_simp
          refine hK _ ?_
          clear hK K
          refine walk_float rfl rfl (fun K hK => ?_)
          refine gives_move _ rfl ?_
          go_simp
          refine hK _ ?_
          clear hK K
          refine walk_float rfl rfl (fun K hK => ?_)
          refine gives_move _ rfl ?_
          go_simp
          refine hK _ ?_
          clear hK K
          refine walk_float rfl rfl (fun K hK => ?_)
          refine gives_int_less1 _ _ rfl i 1 j rfl rfl F4.out ?_
          go_simp
          refine hK _ ?_
          clear hK K
          refine walk_float rfl rfl (fun K hK => ?_)
          refine gives_reg_elem _ _ rfl B 0 n cap j rfl rfl G3.out ?_
          go_simp
          refine hK _ ?_
          clear hK K
          refine walk_float rfl rfl (fun K hK => ?_)
          refine gives_reg_load _ rfl B (2 * j) rfl u' c' HE2.out ?_
          go_simp
          refine hK _ ?_
          clear hK K
          have LD := Lib.hid (below_drawn (Below.refl wr.heap.size wr) 1)
          refine walk_done rfl rfl (fun K hK => ?_)
          refine done_call2 _ _ _ _ rfl 72 rfl (.agg #[.int .i64 u, .int .i64 c]) (.agg #[.int .i64 u', .int .i64 c']) rfl rfl (enters_of Try.func72 (by kernel_rfl) rfl) ?_
          refine (HC.out _ _ _ _ _).mono ?_
          rintro e y1 ⟨rfl, hb⟩
          have PY := Lib.hid (show PB y1 B cap (ks ++ [(who, key)]) from PB.keeps (W := wr.drew) (HP.out.keep rfl) hb)
          have KY := Lib.hid (show Keeps (fun j => j = B) w y1 from HK.out.trans (Keeps.of (S := fun j => j = B) ((Below.refl wr.heap.size wr).drew.trans hb)))
          clear hb LD
          refine ⟨_, rfl, PY.out, ?_⟩
          go_simp
          refine hK _ _ ?_
          clear hK K
          refine walk_float rfl rfl (fun K hK => ?_)
          refine gives_int_less _ _ rfl (cmpI u u') 0 rfl rfl false G4.out ?_
          go_simp
          refine hK _ ?_
          clear hK K
          refine walk_float rfl rfl (fun K hK => ?_)
          refine gives_pickT _ _ _ rfl rfl (.bool false) rfl ?_
          go_simp
          refine hK _ ?_
          clear hK K
          refine walk_nil ?_
          go_wp2
          go_roundw
          case rel => exact ⟨i + 1, by omega, by have := HIM.out; omega, by go_num, ⟨_, fun _ => rfl, fun h => absurd h (by have := HIE.out; omega), PY.out⟩, KY.out⟩
          case measure => have := HLT.out; have := HN.out; simp [intOf] <;> omega
      · obtain rfl : i = m := by omega
        rw [HAI.out] at HP
        have HNM := Lib.hid (show n = i + 1 from HN.out)
        clear hlt hie hi1 hi him HR HAL HAI HW0 HA
        go_wp2
        go_loopw [9] (fun v9 wr2 => ∃ j : Nat, j ≤ i ∧ v9 = .int .i64 j ∧ PB wr2 B cap (insAt ks (who, key) j) ∧ (∀ k, j ≤ k → k < i → who < (ks.getD k (0, 0)).1) ∧ Keeps (fun j => j = B) w wr2) (fun v9 _ => (intOf v9).toNat)
        case atStart => exact ⟨i, Nat.le_refl _, rfl, HP.out, fun k h1 h2 => absurd h2 (Nat.not_lt.2 h1), HK.out⟩
        case round =>
          obtain ⟨j, hj, rfl, hp, hall, hk⟩ := hrel
          clear HP HK
          have HP := Lib.hid hp
          have HK := Lib.hid hk
          have HALL := Lib.hid hall
          have HJ := Lib.hid hj
          clear hp hk hall
          by_cases h0 : j = 0
          · subst h0
            have HW := Lib.hid (HIW.out 0 (by omega) (.inl rfl) (fun k h1 h2 => HALL.out k h1 (by omega)))
            clear HIW HIA HIB HIS HIL HNE hj
            go_wp2
            go_quiet (fail)
            have PY := Lib.hid (HP.out.keep (W' := wr.drewN nq) rfl)
            have KY := Lib.hid (HK.out.trans (Keeps.of (S := fun j => j = B) (below_drawn (Below.refl wr.heap.size wr) nq)))
            generalize wr.drewN nq = y2 at *
            go_wp2
            go_roundw
            case rel => exact ⟨i + 1, by omega, by omega, by go_num, ⟨_, fun h => absurd h (by omega), fun _ => rfl, by rw [← HW.out]; exact PY.out⟩, KY.out⟩
            case measure => have := HLT.out; have := HN.out; simp [intOf] <;> omega
          · have f4 : IntKind.i64.wrap ((j : Int) - 1) = ((j - 1 : Nat) : Int) := by have := H5.out; have := HLT.out; rw [IntWalk.i64_in _ (by omega)]; omega
            have HE1 := Lib.hid (fun (V : World) (hV : PB V B cap (insAt ks (who, key) j)) => (by have h := hV.range (k := j) (by rw [HIL.out j hj]; have := HLT.out; omega); rwa [HIA.out j hj] at h : V.rangeAt B (2 * j) (regC (who, key))))
            have HE2 := Lib.hid (fun (V : World) (hV : PB V B cap (insAt ks (who, key) j)) => (by have h := hV.range (k := j - 1) (by rw [HIL.out j hj]; have := HLT.out; omega); rwa [HIB.out (j - 1) j (by omega) hj] at h : V.rangeAt B (2 * (j - 1)) (regC (ks.getD (j - 1) (0, 0)))))
            have HNEj := Lib.hid (HNE.out (j - 1) (by omega))
            have HISj := Lib.hid (HIS.out (j - 1) (by omega))
            have HLJ := Lib.hid (HIL.out j hj)
            have HWJ := Lib.hid (fun h1 => HIW.out j hj (.inr h1) (fun k h1 h2 => HALL.out k h1 (by omega)))
            have HALJ := Lib.hid (fun (hx : who < (ks.getD (j - 1) (0, 0)).1) k (h1 : j - 1 ≤ k) (h2 : k < i) => (show who < (ks.getD k (0, 0)).1 from by
              by_cases e : k = j - 1
              · rw [e]; exact hx
              · exact HALL.out k (by omega) h2))
            have HJ0 := Lib.hid (show 0 < j by omega)
            have HIJ := Lib.hid (show j - 1 + 1 = j by omega)
            rw [HIJ.out] at HISj
            have G3 := Lib.hid (show j - 1 < n by have := HLT.out; omega)
            have GJ := Lib.hid (show j < n by have := HLT.out; omega)
            clear HIW HIA HIB HIS HIL HNE HALL hj h0
            generalize ks.getD (j - 1) (0, 0) = p at *
            obtain ⟨u', c'⟩ := p
            have F4 := Lib.hid f4
            have G2 := Lib.hid (show decide ((0 : Int) < (j : Int)) = true by have := HJ0.out; simp; omega)
            clear f4
            obtain ⟨j1, hj1⟩ : ∃ j1, j - 1 = j1 := ⟨_, rfl⟩
            rw [hj1] at HE2 HISj HALJ HIJ G3 F4
            have HJ1 := Lib.hid hj1
            clear hj1
            by_cases hx : who < u'
            · have G4 := Lib.hid (show decide (cmpI who u' < 0) = true by rw [cmpI_less]; simpa using hx)
              have HA2 := Lib.hid (HALJ.out hx)
              clear hx HALJ HWJ
              go_wp2
              refine wp_region_sched [(0, true), (1, true), (2, true), (3, true), (4, true), (5, true), (6, true), (7, true), (8, true), (9, true), (10, true), (11, true), (12, true), (13, true), (14, false), (15, true), (16, true)] (fun V => PB V B cap (insAt ks (who, key) j)) (by kernel_rfl) (by kernel_rfl) (HP.out.keep rfl) ?_
              refine walk_float rfl rfl (fun K hK => ?_)
              refine gives_move _ rfl ?_
              go_simp
              refine hK _ ?_
              clear hK K
              refine walk_float rfl rfl (fun K hK => ?_)
              refine gives_move _ rfl ?_
              go_simp
              refine hK _ ?_
              clear hK K
              refine walk_float rfl rfl (fun K hK => ?_)
              refine gives_int_over _ _ rfl j 0 rfl rfl true G2.out ?_
              go_simp
              refine hK _ ?_
              clear hK K
              refine walk_float rfl rfl (fun K hK => ?_)
              refine gives_move _ rfl ?_
              go_simp
              refine hK _ ?_
              clear hK K
              refine walk_float rfl rfl (fun K hK => ?_)
              refine gives_move _ rfl ?_
              go_simp
              refine hK _ ?_
              clear hK K
              refine walk_float rfl rfl (fun K hK => ?_)
              refine gives_move _ rfl ?_
              go_simp
              refine hK _ ?_
              clear hK K
              refine walk_float rfl rfl (fun K hK => ?_)
              refine gives_move _ rfl ?_
              go_simp
              refine hK _ ?_
              clear hK K
              refine walk_float rfl rfl (fun K hK => ?_)
              refine gives_reg_elem _ _ rfl B 0 n cap j rfl rfl GJ.out ?_
              go_simp
              refine hK _ ?_
              clear hK K
              refine walk_float rfl rfl (fun K hK => ?_)
              refine gives_reg_load _ rfl B (2 * j) rfl who key HE1.out ?_
              go_simp
              refine hK _ ?_
              clear hK K
              refine walk_float rfl rfl (fun K hK => ?_)
              refine gives_move _ rfl ?_
              go_simp
              refine hK _ ?_
              clear hK K
              refine walk_float rfl rfl (fun K hK => ?_)
              refine gives_move _ rfl ?_
              go_simp
              refine hK _ ?_
              clear hK K
              refine walk_float rfl rfl (fun K hK => ?_)
              refine gives_int_less1 _ _ rfl j 1 j1 rfl rfl F4.out ?_
              go_simp
              refine hK _ ?_
              clear hK K
              refine walk_float rfl rfl (fun K hK => ?_)
              refine gives_reg_elem _ _ rfl B 0 n cap j1 rfl rfl G3.out ?_
              go_simp
              refine hK _ ?_
              clear hK K
              refine walk_float rfl rfl (fun K hK => ?_)
              refine gives_reg_load _ rfl B (2 * j1) rfl u' c' HE2.out ?_
              go_simp
              refine hK _ ?_
              clear hK K
              have LD := Lib.hid (below_drawn (Below.refl wr.heap.size wr) 1)
              refine walk_done rfl rfl (fun K hK => ?_)
              refine done_call2 _ _ _ _ rfl 72 rfl (.agg #[.int .i64 who, .int .i64 key]) (.agg #[.int .i64 u', .int .i64 c']) rfl rfl (enters_of Try.func72 (by kernel_rfl) rfl) ?_
              refine (HC.out _ _ _ _ _).mono ?_
              rintro e y1 ⟨rfl, hb⟩
              have PY := Lib.hid (show PB y1 B cap (insAt ks (who, key) j) from PB.keeps (W := wr.drew) (HP.out.keep rfl) hb)
              have KY := Lib.hid (show Keeps (fun j => j = B) w y1 from HK.out.trans (Keeps.of (S := fun j => j = B) ((Below.refl wr.heap.size wr).drew.trans hb)))
              clear hb LD
              refine ⟨_, rfl, PY.out, ?_⟩
              go_simp
              refine hK _ _ ?_
              clear hK K
              refine walk_float rfl rfl (fun K hK => ?_)
              refine gives_int_less _ _ rfl (cmpI who u') 0 rfl rfl true G4.out ?_
              go_simp
              refine hK _ ?_
              clear hK K
              refine walk_float rfl rfl (fun K hK => ?_)
              refine gives_pickT _ _ _ rfl rfl (.bool true) rfl ?_
              go_simp
              refine hK _ ?_
              clear hK K
              refine walk_nil ?_
              go_wp2
              refine wp_region_tree (.float 0 (.float 1 (.float 2 (.float 3 (.float 4 (.float 5 (.float 6 (.float 7 (.float 8 (.float 10 (.float 11 (.float 12 (.two 9 (.one 13 (.float 14 (.one 15 (.float 16 (.one 17 .over))))) 13 (.one 9 (.float 14 (.one 15 (.float 16 (.one 17 .over)))))))))))))))))) (fun _ => True) (by kernel_rfl) (by kernel_rfl) trivial ?_
              refine tree_float rfl rfl (fun K hK => ?_)
              refine gives_move _ rfl ?_
              go_simp
              refine hK _ ?_
              clear hK K
              refine tree_float rfl rfl (fun K hK => ?_)
              refine gives_move _ rfl ?_
              go_simp
              refine hK _ ?_
              clear hK K
              refine tree_float rfl rfl (fun K hK => ?_)
              refine gives_move _ rfl ?_
              go_simp
              refine hK _ ?_
              clear hK K
              refine tree_float rfl rfl (fun K hK => ?_)
              refine gives_move _ rfl ?_
              go_simp
              refine hK _ ?_
              clear hK K
              refine tree_float rfl rfl (fun K hK => ?_)
              refine gives_int_less1 _ _ rfl j 1 j1 rfl rfl F4.out ?_
              go_simp
              refine hK _ ?_
              clear hK K
              refine tree_float rfl rfl (fun K hK => ?_)
              refine gives_move _ rfl ?_
              go_simp
              refine hK _ ?_
              clear hK K
              refine tree_float rfl rfl (fun K hK => ?_)
              refine gives_move _ rfl ?_
              go_simp
              refine hK _ ?_
              clear hK K
              refine tree_float rfl rfl (fun K hK => ?_)
              refine gives_int_less1 _ _ rfl j 1 j1 rfl rfl F4.out ?_
              go_simp
              refine hK _ ?_
              clear hK K
              refine tree_float rfl rfl (fun K hK => ?_)
              refine gives_reg_elem _ _ rfl B 0 n cap j1 rfl rfl G3.out ?_
              go_simp
              refine hK _ ?_
              clear hK K
              refine tree_float rfl rfl (fun K hK => ?_)
              refine gives_move _ rfl ?_
              go_simp
              refine hK _ ?_
              clear hK K
              refine tree_float rfl rfl (fun K hK => ?_)
              refine gives_move _ rfl ?_
              go_simp
              refine hK _ ?_
              clear hK K
              refine tree_float rfl rfl (fun K hK => ?_)
              refine gives_reg_elem _ _ rfl B 0 n cap j rfl rfl GJ.out ?_
              go_simp
              refine hK _ ?_
              clear hK K
              have P6 := Lib.hid (show PB y1.drew B cap (insAt ks (who, key) j) from PY.out.keep rfl)
              have K6 := Lib.hid (show Keeps (fun j => j = B) w y1.drew from KY.out.trans (Keeps.of (S := fun j => j = B) ((Below.refl y1.heap.size y1).drew)))
              refine tree_two ?_ ?_
              · refine tree_one rfl rfl (fun K hK => ?_)
                refine done_reg_load _ rfl B (2 * j1) rfl u' c' (HE2.out _ P6.out) ?_
                refine ⟨trivial, ?_⟩
                go_simp
                refine hK _ _ ?_
                clear hK K
                refine tree_one rfl rfl (fun K hK => ?_)
                refine done_reg_load _ rfl B (2 * j) rfl who key (HE1.out _ P6.out) ?_
                refine ⟨trivial, ?_⟩
                go_simp
                refine hK _ _ ?_
                clear hK K
                refine tree_float rfl rfl (fun K hK => ?_)
                refine gives_reg_elem _ _ rfl B 0 n cap j rfl rfl GJ.out ?_
                go_simp
                refine hK _ ?_
                clear hK K
                refine tree_one rfl rfl (fun K hK => ?_)
                refine done_reg_put _ _ rfl B cap j (insAt ks (who, key) j) u' c' rfl rfl P6.out (by rw [HLJ.out]; exact GJ.out) ?_
                intro z1 pz kz sz
                have PZ1 := Lib.hid pz
                have KZ1 := Lib.hid (K6.out.trans kz)
                clear pz kz sz
                refine ⟨trivial, ?_⟩
                go_simp
                refine hK _ _ ?_
                clear hK K
                refine tree_float rfl rfl (fun K hK => ?_)
                refine gives_reg_elem _ _ rfl B 0 n cap j1 rfl rfl G3.out ?_
                go_simp
                refine hK _ ?_
                clear hK K
                refine tree_one rfl rfl (fun K hK => ?_)
                refine done_reg_put _ _ rfl B cap j1 ((insAt ks (who, key) j).set j (u', c')) who key rfl rfl PZ1.out (by rw [List.length_set, HLJ.out]; exact G3.out) ?_
                intro z2 pz kz sz
                have PZ := Lib.hid (show PB z2 B cap (insAt ks (who, key) j1) from by rw [← HISj.out]; exact pz)
                have KZ := Lib.hid (KZ1.out.trans kz)
                clear pz kz sz PZ1 KZ1 P6 K6
                refine ⟨trivial, ?_⟩
                go_simp
                refine hK _ _ ?_
                clear hK K
                refine tree_over ?_
                have f4 := F4.out
                go_wp2
                go_roundw
                case rel => exact ⟨j1, by have := HJ.out; have := HIJ.out; omega, by go_num, PZ.out, HA2.out, KZ.out⟩
                case measure => have := HIJ.out; simp [intOf]; omega
              · refine tree_one rfl rfl (fun K hK => ?_)
                refine done_reg_load _ rfl B (2 * j) rfl who key (HE1.out _ P6.out) ?_
                refine ⟨trivial, ?_⟩
                go_simp
                refine hK _ _ ?_
                clear hK K
                refine tree_one rfl rfl (fun K hK => ?_)
                refine done_reg_load _ rfl B (2 * j1) rfl u' c' (HE2.out _ P6.out) ?_
                refine ⟨trivial, ?_⟩
                go_simp
                refine hK _ _ ?_
                clear hK K
                refine tree_float rfl rfl (fun K hK => ?_)
                refine gives_reg_elem _ _ rfl B 0 n cap j rfl rfl GJ.out ?_
                go_simp
                refine hK _ ?_
                clear hK K
                refine tree_one rfl rfl (fun K hK => ?_)
                refine done_reg_put _ _ rfl B cap j (insAt ks (who, key) j) u' c' rfl rfl P6.out (by rw [HLJ.out]; exact GJ.out) ?_
                intro z1 pz kz sz
                have PZ1 := Lib.hid pz
                have KZ1 := Lib.hid (K6.out.trans kz)
                clear pz kz sz
                refine ⟨trivial, ?_⟩
                go_simp
                refine hK _ _ ?_
                clear hK K
                refine tree_float rfl rfl (fun K hK => ?_)
                refine gives_reg_elem _ _ rfl B 0 n cap j1 rfl rfl G3.out ?_
                go_simp
                refine hK _ ?_
                clear hK K
                refine tree_one rfl rfl (fun K hK => ?_)
                refine done_reg_put _ _ rfl B cap j1 ((insAt ks (who, key) j).set j (u', c')) who key rfl rfl PZ1.out (by rw [List.length_set, HLJ.out]; exact G3.out) ?_
                intro z2 pz kz sz
                have PZ := Lib.hid (show PB z2 B cap (insAt ks (who, key) j1) from by rw [← HISj.out]; exact pz)
                have KZ := Lib.hid (KZ1.out.trans kz)
                clear pz kz sz PZ1 KZ1 P6 K6
                refine ⟨trivial, ?_⟩
                go_simp
                refine hK _ _ ?_
                clear hK K
                refine tree_over ?_
                have f4 := F4.out
                go_wp2
                go_roundw
                case rel => exact ⟨j1, by have := HJ.out; have := HIJ.out; omega, by go_num, PZ.out, HA2.out, KZ.out⟩
                case measure => have := HIJ.out; simp [intOf]; omega
            · have G4 := Lib.hid (show decide (cmpI who u' < 0) = false by rw [cmpI_less]; simp; omega)
              have HW := Lib.hid (HWJ.out (by have := HNEj.out; simp at this ⊢; omega))
              clear hx HALJ HWJ
              go_wp2
              refine wp_region_sched [(0, true), (1, true), (2, true), (3, true), (4, true), (5, true), (6, true), (7, true), (8, true), (9, true), (10, true), (11, true), (12, true), (13, true), (14, false), (15, true), (16, true)] (fun V => PB V B cap (insAt ks (who, key) j)) (by kernel_rfl) (by kernel_rfl) (HP.out.keep rfl) ?_
              refine walk_float rfl rfl (fun K hK => ?_)
              refine gives_move _ rfl ?_
              go_simp
              refine hK _ ?_
              clear hK K
              refine walk_float rfl rfl (fun K hK => ?_)
              refine gives_move _ rfl ?_
              go_simp
              refine hK _ ?_
              clear hK K
              refine walk_float rfl rfl (fun K hK => ?_)
              refine gives_int_over _ _ rfl j 0 rfl rfl true G2.out ?_
              go_simp
              refine hK _ ?_
              clear hK K
              refine walk_float rfl rfl (fun K hK => ?_)
              refine gives_move _ rfl ?_
              go_simp
              refine hK _ ?_
              clear hK K
              refine walk_float rfl rfl (fun K hK => ?_)
              refine gives_move _ rfl ?_
              go_simp
              refine hK _ ?_
              clear hK K
              refine walk_float rfl rfl (fun K hK => ?_)
              refine gives_move _ rfl ?_
              go_simp
              refine hK _ ?_
              clear hK K
              refine walk_float rfl rfl (fun K hK => ?_)
              refine gives_move _ rfl ?_
              go_simp
              refine hK _ ?_
              clear hK K
              refine walk_float rfl rfl (fun K hK => ?_)
              refine gives_reg_elem _ _ rfl B 0 n cap j rfl rfl GJ.out ?_
              go_simp
              refine hK _ ?_
              clear hK K
              refine walk_float rfl rfl (fun K hK => ?_)
              refine gives_reg_load _ rfl B (2 * j) rfl who key HE1.out ?_
              go_simp
              refine hK _ ?_
              clear hK K
              refine walk_float rfl rfl (fun K hK => ?_)
              refine gives_move _ rfl ?_
              go_simp
              refine hK _ ?_
              clear hK K
              refine walk_float rfl rfl (fun K hK => ?_)
              refine gives_move _ rfl ?_
              go_simp
              refine hK _ ?_
              clear hK K
              refine walk_float rfl rfl (fun K hK => ?_)
              refine gives_int_less1 _ _ rfl j 1 j1 rfl rfl F4.out ?_
              go_simp
              refine hK _ ?_
              clear hK K
              refine walk_float rfl rfl (fun K hK => ?_)
              refine gives_reg_elem _ _ rfl B 0 n cap j1 rfl rfl G3.out ?_
              go_simp
              refine hK _ ?_
              clear hK K
              refine walk_float rfl rfl (fun K hK => ?_)
              refine gives_reg_load _ rfl B (2 * j1) rfl u' c' HE2.out ?_
              go_simp
              refine hK _ ?_
              clear hK K
              have LD := Lib.hid (below_drawn (Below.refl wr.heap.size wr) 1)
              refine walk_done rfl rfl (fun K hK => ?_)
              refine done_call2 _ _ _ _ rfl 72 rfl (.agg #[.int .i64 who, .int .i64 key]) (.agg #[.int .i64 u', .int .i64 c']) rfl rfl (enters_of Try.func72 (by kernel_rfl) rfl) ?_
              refine (HC.out _ _ _ _ _).mono ?_
              rintro e y1 ⟨rfl, hb⟩
              have PY := Lib.hid (show PB y1 B cap (insAt ks (who, key) j) from PB.keeps (W := wr.drew) (HP.out.keep rfl) hb)
              have KY := Lib.hid (show Keeps (fun j => j = B) w y1 from HK.out.trans (Keeps.of (S := fun j => j = B) ((Below.refl wr.heap.size wr).drew.trans hb)))
              clear hb LD
              refine ⟨_, rfl, PY.out, ?_⟩
              go_simp
              refine hK _ _ ?_
              clear hK K
              refine walk_float rfl rfl (fun K hK => ?_)
              refine gives_int_less _ _ rfl (cmpI who u') 0 rfl rfl false G4.out ?_
              go_simp
              refine hK _ ?_
              clear hK K
              refine walk_float rfl rfl (fun K hK => ?_)
              refine gives_pickT _ _ _ rfl rfl (.bool false) rfl ?_
              go_simp
              refine hK _ ?_
              clear hK K
              refine walk_nil ?_
              go_wp2
              go_roundw
              case rel => exact ⟨i + 1, by omega, by omega, by go_num, ⟨_, fun h => absurd h (by omega), fun _ => rfl, by rw [← HW.out]; exact PY.out⟩, KY.out⟩
              case measure => have := HLT.out; have := HN.out; simp [intOf] <;> omega
    · have f1 : ¬ (i : Int) < (n : Int) := by omega
      have HR1 := Lib.hid (hL2 (by have := HN.out; omega))
      rw [hL2 (by have := HN.out; omega)] at hPL
      have HP := Lib.hid hPL
      clear hL1 hL2 hPL hlt hi hi1
      go_wp2
      go_end0
      exact ⟨rfl, HP.out, HK.out⟩
end Go.Proofs.Ytfnkdmdcjliebaa
