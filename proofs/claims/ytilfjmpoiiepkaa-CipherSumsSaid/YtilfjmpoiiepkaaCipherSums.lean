/- Package cipher's Shift, Unshift, Mix and Unmix keep sums: the statement CipherSums. No condition. -/
import Derived.Test.YtilfjmpoiiepkaaLinC
import Derived.Test.YtilfjmpoiiepkaaShiftC
import Derived.Test.YtilfjmpoiiepkaaMixNum
import Derived.Test.YtilfjmpoiiepkaaQuietC
import Derived.Test.YtilfjmpoiiepkaaPart
import Derived.Test.YtilfjmpoiiepkaaOpen
import Derived.Lib.SmallJoins
namespace Go.Proofs.Ytilfjmpoiiepkaa.cipherSums
open Go.ChangeShapes Go.WideShapes Go.ChangeAt Go.RowKit
set_option linter.unusedVariables false

theorem own : ownKnob Try.prog.godebug = none := by kernel_rfl
/-- The example's column, and what it is mixed to. -/
def colA : Nat → Nat := fun j => if j = 0 then 1 else 0
def colB : Nat → Nat := fun j => if j = 0 then 2 else if j = 3 then 3 else 1
theorem builtA : Try.prog.built 26 [(0, .int .u8 1)] = some (cellsOf .u8 (mk 4 colA)) := by kernel_rfl
theorem builtB : Try.prog.built 26 [(0, .int .u8 2), (1, .int .u8 1), (2, .int .u8 1), (3, .int .u8 3)] = some (cellsOf .u8 (mk 4 colB)) := by kernel_rfl
theorem colA_word : IsWord colA := fun i _ => by unfold colA; (repeat' split) <;> omega
theorem mixAB : mk 4 (mixK colA) = mk 4 colB := by decide +kernel
theorem call_shift (args : Array Value) (w : World) : (callFunc 11 args).run Try.prog w = .ok (.enter 11 args) w := by simp [go_sem]
theorem call_unshift (args : Array Value) (w : World) : (callFunc 13 args).run Try.prog w = .ok (.enter 13 args) w := by simp [go_sem]
theorem call_mix (args : Array Value) (w : World) : (callFunc 14 args).run Try.prog w = .ok (.enter 14 args) w := by simp [go_sem]
theorem call_unmix (args : Array Value) (w : World) : (callFunc 16 args).run Try.prog w = .ok (.enter 16 args) w := by simp [go_sem]
theorem call_sum1 (args : Array Value) (w : World) : (callFunc 43 args).run Try.prog w = .ok (.enter 43 args) w := by simp [go_sem]
theorem call_sum2 (args : Array Value) (w : World) : (callFunc 44 args).run Try.prog w = .ok (.enter 44 args) w := by simp [go_sem]
theorem xorK_word {f g : Nat → Nat} (hf : IsWord f) (hg : IsWord g) : IsWord (xorK f g) := fun j hj => xor_lt (hf j hj) (hg j hj)
theorem mix_sum {f g : Nat → Nat} (hf : IsWord f) (hg : IsWord g) : mk 4 (mixK (xorK f g)) = mk 4 (xorK (mixK f) (mixK g)) := mk_ext fun j _ => mx_sum facM hf hg j
theorem unm_sum {f g : Nat → Nat} (hf : IsWord f) (hg : IsWord g) : mk 4 (unmK (xorK f g)) = mk 4 (xorK (unmK f) (unmK g)) := mk_ext fun j _ => mx_sum facU hf hg j
theorem sh_sum (f g : Nat → Nat) : mk 16 (shK (xorK f g)) = mk 16 (xorK (shK f) (shK g)) := rfl
theorem un_sum (f g : Nat → Nat) : mk 16 (unK (xorK f g)) = mk 16 (xorK (unK f) (unK g)) := rfl
attribute [local irreducible] mixK unmK mxK mul shK unK xorK

set_option maxRecDepth 100000 in
set_option maxHeartbeats 4000000 in
theorem linear_any (a b c d : Nat → Nat) (ha : IsKey a) (hb : IsKey b) (hc : IsWord c) (hd : IsWord d) (w : World) :
    Calls Try.prog 28 #[.agg (cellsOf .u8 (mk 16 a)), .agg (cellsOf .u8 (mk 16 b)), .agg (cellsOf .u8 (mk 4 c)), .agg (cellsOf .u8 (mk 4 d))] w fun e w' => e = .returned (.bool true) ∧ Below w.heap.size w w' := by
  have L1 : mk 16 (unK (shK a)) = mk 16 a := mk_ext fun j hj => by unfold unK shK; rw [from_back hj]
  have H := Lib.hid (And.intro L1 (And.intro (sh_sum a b) (And.intro (un_sum a b) (And.intro (mix_sum hc hd) (unm_sum hc hd)))))
  clear L1
  have k1 := shK_key ha
  have k2 := shK_key hb
  have k3 := unK_key ha
  have k4 := unK_key hb
  have k5 := xorK_key ha hb
  have m1 := mixK_word hc
  have m2 := mixK_word hd
  have m3 := unmK_word hc
  have m4 := unmK_word hd
  have m5 := xorK_word hc hd
  have m6 := colA_word
  go_enter Try.func28, Try.ntmps28
  go_wp2
  have BA := ((blk_first w .u8 23 (mk 16 a) (.cells (cellsOf .u8 (mk 16 b)) 23) (.cells (cellsOf .u8 (mk 4 c)) 26)).alloc (.cells (cellsOf .u8 (mk 4 d)) 26))
  have BB := ((blk_second w .u8 23 (mk 16 b) (.cells (cellsOf .u8 (mk 16 a)) 23) (.cells (cellsOf .u8 (mk 4 c)) 26)).alloc (.cells (cellsOf .u8 (mk 4 d)) 26))
  have BC := ((blk_third w .u8 26 (mk 4 c) (.cells (cellsOf .u8 (mk 16 a)) 23) (.cells (cellsOf .u8 (mk 16 b)) 23)).alloc (.cells (cellsOf .u8 (mk 4 d)) 26))
  have BD := blk_fourth w .u8 26 (mk 4 d) (.cells (cellsOf .u8 (mk 16 a)) 23) (.cells (cellsOf .u8 (mk 16 b)) 23) (.cells (cellsOf .u8 (mk 4 c)) 26)
  have BW := below_four w (.cells (cellsOf .u8 (mk 16 a)) 23) (.cells (cellsOf .u8 (mk 16 b)) 23) (.cells (cellsOf .u8 (mk 4 c)) 26) (.cells (cellsOf .u8 (mk 4 d)) 26)
  generalize (((w.alloc (.cells (cellsOf .u8 (mk 16 a)) 23)).alloc (.cells (cellsOf .u8 (mk 16 b)) 23)).alloc (.cells (cellsOf .u8 (mk 4 c)) 26)).alloc (.cells (cellsOf .u8 (mk 4 d)) 26) = W0 at *
  have BS : w.heap.size ≤ W0.heap.size := by have := BA.lt; omega
  have HA := Lib.hid (fun (w' : World) (h : Below W0.heap.size W0 w') => BA.below h BA.lt)
  have HB := Lib.hid (fun (w' : World) (h : Below W0.heap.size W0 w') => BB.below h BB.lt)
  have HC := Lib.hid (fun (w' : World) (h : Below W0.heap.size W0 w') => BC.below h BC.lt)
  have HD := Lib.hid (fun (w' : World) (h : Below W0.heap.size W0 w') => BD.below h BD.lt)
  have HW := Lib.hid BW
  clear BA BB BC BD BW
  refine wp_region_class (fun w' => Below W0.heap.size W0 w') (by kernel_rfl) (by kernel_rfl) ((Below.refl _ _).drew) ?_
  iterate 11 (first
    | go_big_quiet_skip
    | (go_big_quiet_want
       first
         | (go_big_quiet_op; go_big_quiet_on)
         | ((first
             | (refine quiet_load _ rfl w.heap.size a rfl HA.out ?_)
             | (refine quiet_built _ _ rfl [(0, .int .u8 1)] rfl 4 colA builtA ?_)
             | (refine quiet_built _ _ rfl [(0, .int .u8 2), (1, .int .u8 1), (2, .int .u8 1), (3, .int .u8 3)] rfl 4 colB builtB ?_)
             | (refine quiet_pick_true _ _ _ rfl rfl false rfl ?_)
             | (refine quiet_word _ _ _ rfl 14 rfl _ rfl _ call_mix (class_of (Mix_any _ (by assumption))) ?_)
             | (refine quiet_key _ _ _ rfl 11 rfl _ rfl _ call_shift (class_of (Shift_any _)) ?_)
             | (refine quiet_key _ _ _ rfl 13 rfl _ rfl _ call_unshift (class_of (Unshift_any _ (by assumption))) ?_)
             | (refine quiet_word_neq _ _ rfl _ _ rfl rfl (by exact mixAB) ?_)
             | (refine quiet_neq _ _ rfl _ _ rfl rfl (by exact H.out.1) ?_)); go_simp; go_big_quiet_on)))
  refine wpQuiet_nil ?_
  intro w1 hw1
  have H1 := Lib.hid hw1; clear hw1
  go_wp2
  refine wp_region_class (fun w' => Below W0.heap.size W0 w') (by kernel_rfl) (by kernel_rfl) (H1.out.drew) ?_
  iterate 55 (first
    | go_big_quiet_skip
    | (go_big_quiet_want
       first
         | (go_big_quiet_op; go_big_quiet_on)
         | ((first
             | (refine quiet_load _ rfl w.heap.size a rfl HA.out ?_)
             | (refine quiet_load _ rfl (w.heap.size + 1) b rfl HB.out ?_)
             | (refine quiet_word_load _ rfl (w.heap.size + 1 + 1) c rfl HC.out ?_)
             | (refine quiet_word_load _ rfl (w.heap.size + 1 + 1 + 1) d rfl HD.out ?_)
             | (refine quiet_pick _ _ _ rfl rfl rfl ?_)
             | (refine quiet_word _ _ _ rfl 14 rfl _ rfl _ call_mix (class_of (Mix_any _ (by assumption))) ?_)
             | (refine quiet_word _ _ _ rfl 16 rfl _ rfl _ call_unmix (class_of (Unmix_any _ (by assumption))) ?_)
             | (refine quiet_key _ _ _ rfl 11 rfl _ rfl _ call_shift (class_of (Shift_any _)) ?_)
             | (refine quiet_key _ _ _ rfl 13 rfl _ rfl _ call_unshift (class_of (Unshift_any _ (by assumption))) ?_)
             | (refine quiet_keys _ _ _ _ rfl 43 rfl _ rfl _ rfl _ call_sum1 (class_of (sum1_any _ _ (by assumption) (by assumption))) ?_)
             | (refine quiet_words _ _ _ _ rfl 44 rfl _ rfl _ rfl _ call_sum2 (class_of (sum2_any _ _ (by assumption) (by assumption))) ?_)
             | (refine quiet_eql _ _ rfl _ _ rfl rfl (by first | exact H.out.2.1 | exact H.out.2.2.1) ?_)
             | (refine quiet_word_eql _ _ rfl _ _ rfl rfl (by first | exact H.out.2.2.2.1 | exact H.out.2.2.2.2) ?_)); go_simp; go_big_quiet_on)))
  refine wpQuiet_nil ?_
  intro w2 hw2
  have H2 := Lib.hid (HW.out.trans (hw2.mono BS)); clear hw2
  go_wp2
  go_ret
  exact ⟨rfl, H2.out⟩

theorem keyInfo : (Try.prog.info? 23).map (·.size) = some 16 := by kernel_rfl
theorem wordInfo : (Try.prog.info? 26).map (·.size) = some 4 := by kernel_rfl
/-- The fields of a struct whose cells are F's values. -/
def part (F : Nat → Nat) (o : Nat) : Nat → Nat := fun j => F (o + j)

set_option maxRecDepth 100000 in
set_option maxHeartbeats 1000000 in
theorem walk (F : Nat → Nat) (hF : ∀ i, i < 40 → F i < 256) (w : World) :
    Calls Try.prog 10 #[.agg (cellsOf .u8 (mk 40 F))] w fun e w' => e = .returned (.bool true) ∧ Below w.heap.size w w' := by
  have B0 := IntBlk.new w .u8 51 (mk 40 F)
  have c0 : Cells (w.alloc (.cells (cellsOf .u8 (mk 40 F)) 51)) w.heap.size 0 16 (part F 0) := B0.cells (by omega)
  have c1 : Cells (w.alloc (.cells (cellsOf .u8 (mk 40 F)) 51)) w.heap.size 16 16 (part F 16) := B0.cells (by omega)
  have c2 : Cells (w.alloc (.cells (cellsOf .u8 (mk 40 F)) 51)) w.heap.size 32 4 (part F 32) := B0.cells (by omega)
  have c3 : Cells (w.alloc (.cells (cellsOf .u8 (mk 40 F)) 51)) w.heap.size 36 4 (part F 36) := B0.cells (by omega)
  have C0 := Lib.hid c0
  have C1 := Lib.hid c1
  have C2 := Lib.hid c2
  have C3 := Lib.hid c3
  clear c0 c1 c2 c3 B0
  go_enter Try.func10, Try.ntmps10
  go_wp2_with (first
    | (refine wpList_load_part rfl 23 _ rfl w.heap.size 0 16 (part F 0) rfl _ C0.out keyUnder rfl keyInfo ?_)
    | (refine wpList_load_part rfl 23 _ rfl w.heap.size 16 16 (part F 16) rfl _ C1.out keyUnder rfl keyInfo ?_)
    | (refine wpList_load_part rfl 26 _ rfl w.heap.size 32 4 (part F 32) rfl _ C2.out wordUnder rfl wordInfo ?_)
    | (refine wpList_load_part rfl 26 _ rfl w.heap.size 36 4 (part F 36) rfl _ C3.out wordUnder rfl wordInfo ?_)
    | fail)
  refine (linear_any (part F 0) (part F 16) (part F 32) (part F 36) (fun i hi => hF _ (by omega)) (fun i hi => hF _ (by omega)) (fun i hi => hF _ (by omega)) (fun i hi => hF _ (by omega)) _).mono ?_
  rintro e w1 ⟨rfl, hb⟩
  have HB := Lib.hid (((Below.refl w.heap.size w).alloc (Nat.le_refl _) _).trans (hb.mono (by simp)))
  clear hb C0 C1 C2 C3
  go_wp2
  go_ret
  exact ⟨rfl, HB.out⟩

theorem bytes_of_trod {H : Type} {enc : TypeId × Value → H} {P : Program} {W : World} {base fuel : Nat} {spare : Nat → Bool} {held : Bool} {t e : TypeId} {n : Nat} {cs : List Value} {x : DataW H × List MemPlace}
    (ht : P.underlying t = some (.array n e)) (he : P.underlying e = some (.int .u8)) (hc : P.cellsOf e = 1) (h : DataW.trod enc P W base spare held fuel t cs = some x) : ∀ i, i < n → ∃ a : Nat, a < 256 ∧ cs[i]? = some (.int .u8 a) := by
  obtain ⟨xs, m, rfl, hx, hlen, hxn, hel⟩ := DataW.trod_array ht h
  intro i hi
  have hi2 := hel i hi
  rw [hc, Nat.mul_one] at hi2
  have hlt : i < xs.length := by omega
  rw [List.getElem?_eq_getElem hlt] at hi2
  obtain ⟨a, ha, _, hw⟩ := DataW.trod_int he hi2
  have hb := bounds_u8 hw
  refine ⟨a.toNat, by omega, ?_⟩
  rw [show ((a.toNat : Nat) : Int) = a by omega]
  have h0 : (List.take 1 (List.drop i cs))[0]? = some (.int .u8 a) := by rw [ha]; rfl
  rw [List.getElem?_take_of_lt (by omega), List.getElem?_drop] at h0
  simpa using h0
theorem open_pairs {H : Type} {enc : TypeId × Value → H} {W : World} {r : Reach} {b0 base : Nat} {spare : Nat → Bool} {held : Bool} {v : Value} {d : DataW H} {p : List MemPlace}
    (hv : Value.okWide Try.prog W r b0 51 v) (h : DataW.Trod enc Try.prog W base spare held 51 v d p) : ∃ f : Nat → Nat, (∀ i, i < 40 → f i < 256) ∧ v = .agg (cellsOf .u8 (mk 40 f)) := by
  obtain ⟨cs, rfl, hsz⟩ := okWide_struct Try.underlying51 hv
  rw [show Try.prog.cellsOf 51 = 40 by kernel_rfl] at hsz
  obtain ⟨fuel, hf⟩ := h
  obtain ⟨y0, y1, y2, y3, n, _, hl, t0, t1, t2, t3⟩ := Joins.trod_struct4 Try.underlying51 hf
  have hd : (Value.cells (.agg cs)).toList = cs.toList := rfl
  rw [hd] at t0 t1 t2 t3
  have ck : Try.prog.cellsOf 23 = 16 := by kernel_rfl
  have cw : Try.prog.cellsOf 26 = 4 := by kernel_rfl
  have e0 := bytes_of_trod keyUnder Try.underlying5 (by kernel_rfl) t0
  have e1 := bytes_of_trod keyUnder Try.underlying5 (by kernel_rfl) t1
  have e2 := bytes_of_trod wordUnder Try.underlying5 (by kernel_rfl) t2
  have e3 := bytes_of_trod wordUnder Try.underlying5 (by kernel_rfl) t3
  simp only [ck, cw] at e0 e1 e2 e3
  have each : ∀ i, i < 40 → ∃ a : Nat, a < 256 ∧ cs[i]? = some (.int .u8 a) := by
    intro i hi
    rcases (show i < 16 ∨ (16 ≤ i ∧ i < 32) ∨ (32 ≤ i ∧ i < 36) ∨ (36 ≤ i ∧ i < 40) by omega) with h | h | h | h
    · obtain ⟨a, ha, e⟩ := e0 i h
      refine ⟨a, ha, ?_⟩
      rw [List.getElem?_take_of_lt (by omega), List.getElem?_drop] at e
      simpa using e
    · obtain ⟨a, ha, e⟩ := e1 (i - 16) (by omega)
      refine ⟨a, ha, ?_⟩
      rw [List.getElem?_take_of_lt (by omega), List.getElem?_drop] at e
      rw [show 16 + (i - 16) = i by omega] at e
      simpa using e
    · obtain ⟨a, ha, e⟩ := e2 (i - 32) (by omega)
      refine ⟨a, ha, ?_⟩
      rw [List.getElem?_take_of_lt (by omega), List.getElem?_drop] at e
      rw [show 32 + (i - 32) = i by omega] at e
      simpa using e
    · obtain ⟨a, ha, e⟩ := e3 (i - 36) (by omega)
      refine ⟨a, ha, ?_⟩
      rw [List.getElem?_take_of_lt (by omega), List.getElem?_drop] at e
      rw [show 36 + (i - 36) = i by omega] at e
      simpa using e
  refine ⟨fun i => match cs[i]? with | some (.int _ a) => a.toNat | _ => 0, fun i hi => ?_, ?_⟩
  · obtain ⟨a, ha, hc⟩ := each i hi
    simp only [hc]; omega
  · congr 1
    apply Array.ext
    · rw [cellsOf_size, mk_len]; omega
    · intro i h1 h2
      obtain ⟨a, ha, hc⟩ := each i (by omega)
      have hg := cellsOf_get .u8 (mk 40 fun i => match cs[i]? with | some (.int _ a) => a.toNat | _ => 0) (i := i) (by rw [mk_len]; omega)
      rw [mk_get (by omega), hc] at hg
      rw [Array.getElem?_eq_getElem h1] at hc
      rw [Array.getElem?_eq_getElem h2] at hg
      simp at hc hg
      rw [hc, hg]

theorem laidOut : laidOutB Try.prog = true := by kernel_rfl
set_option maxRecDepth 100000 in
theorem lifted (os : Os) (started : os.Started) (H : Type) (enc : TypeId × Value → H) :
    ReturnsInHanded {} Try.checked os 10 .any (Rows.cipherSumsSpec.pre6 enc Try.prog Try.f10 Rows.cipherSumsRow.domain false) (Rows.cipherSumsSpec.post enc Try.prog Try.f10 false true false false) := by
  refine returnsInHanded_of_change (C := Try.checked) own started (by kernel_rfl) Try.func10
    (ChangeSpec.witness6 (enc := enc) (C := Try.checked) false ⟨#[], #[.agg #[.int .u8 0, .int .u8 0, .int .u8 0, .int .u8 0, .int .u8 0, .int .u8 0, .int .u8 0, .int .u8 0, .int .u8 0, .int .u8 0, .int .u8 0, .int .u8 0, .int .u8 0, .int .u8 0, .int .u8 0, .int .u8 0, .int .u8 0, .int .u8 0, .int .u8 0, .int .u8 0, .int .u8 0, .int .u8 0, .int .u8 0, .int .u8 0, .int .u8 0, .int .u8 0, .int .u8 0, .int .u8 0, .int .u8 0, .int .u8 0, .int .u8 0, .int .u8 0, .int .u8 0, .int .u8 0, .int .u8 0, .int .u8 0, .int .u8 0, .int .u8 0, .int .u8 0, .int .u8 0]], []⟩ 8 (by kernel_rfl) (by kernel_rfl) (by kernel_rfl) (by kernel_rfl)) ?_
  intro W base args ds gs before hval0 hW hcnd _
  have hval : ∀ (j : Nat) t v, Try.f10.params[j]? = some t → args[j]? = some v → Value.okWide Try.prog W .any base t v := hval0
  have hW' := hW
  obtain ⟨p, q, hA0, hV, rfl, hfz, hnd⟩ := hW
  have hA : DataW.TrodAll enc Try.prog W 0 (fun _ => true) true Try.f10.params.toList args.toList ds p := hA0
  rw [Try.params10] at hA hval
  obtain ⟨v0, vs0, d0, ds0, p0, q0, hargs, rfl, rfl, h0, r0⟩ := trodAll_cons hA
  obtain ⟨rfl, rfl, rfl⟩ := trodAll_nil r0
  obtain rfl : args = #[v0] := by cases args; simp_all
  obtain ⟨rfl, rfl⟩ := trodVars_none hV
  have k0 := h0
  have lt0 : ∀ x ∈ p0, x.block < W.heap.size := by obtain ⟨m, hm⟩ := k0; exact DataW.trod_lt m _ _ _ hm
  obtain ⟨a0, w0, rfl⟩ := open_pairs (hval 0 51 v0 rfl rfl) h0
  clear hA0 hval0
  refine (walk a0 w0 W).mono fun e W' ⟨he, bel⟩ => ?_
  subst he
  exact ⟨_, rfl, _, _, _, [], _, [], hW', trodAll_mk1 (shut_bool Try.underlying4 _), (trodAll_cons_mk (Below.trod laidOut (by kernel_rfl) (of_decide_eq_true (by kernel_rfl)) k0 bel lt0) trodAll_mk0), rfl, bel.frame _, fun h => by cases h⟩

theorem over : Rows.cipherSumsRow.holds Try.pinned (OpenSpec.ofChange Rows.cipherSumsSpec) :=
  OpenClaim.holds_of_wide 10 Try.f10 rfl rfl rfl rfl rfl rfl rfl ⟨rfl, rfl, rfl, rfl, rfl⟩ rfl rfl rfl rfl rfl (by kernel_rfl) Try.func10 (by kernel_rfl)
    (of_decide_eq_true (by kernel_rfl)) (by unfold Func.isWrapper; first | (rw [if_pos (by decide +kernel)]; kernel_rfl) | (rw [if_neg (by decide +kernel)]; exact ⟨rfl, rfl⟩))
    (fun os started H enc _ => lifted os started H enc)

theorem proved : Rows.CipherSumsSaid := over
end Go.Proofs.Ytilfjmpoiiepkaa.cipherSums
