/- Package cipher's Encrypt is the document's, with any round keys, and leaves them as they were: the statement CipherEncrypts. No condition. -/
import Derived.Test.YtilfjmpoiiepkaaRefEnc
import Derived.Test.YtilfjmpoiiepkaaKeysAt
import Derived.Test.YtilfjmpoiiepkaaAppK
import Derived.Test.YtilfjmpoiiepkaaOpenS
namespace Go.Proofs.Ytilfjmpoiiepkaa.cipherEncrypts
open Go.ChangeShapes Go.WideShapes Go.ChangeAt Go.RowKit
set_option linter.unusedVariables false

theorem own : ownKnob Try.prog.godebug = none := by kernel_rfl
theorem built1 : Try.prog.built 23 [(0, .int .u8 1)] = some (cellsOf .u8 (mk 16 (oneK 1))) := by kernel_rfl
theorem built3 : Try.prog.built 23 [(0, .int .u8 3)] = some (cellsOf .u8 (mk 16 (oneK 3))) := by kernel_rfl
theorem built2 : Try.prog.built 23 [(0, .int .u8 2)] = some (cellsOf .u8 (mk 16 (oneK 2))) := by kernel_rfl
theorem enc13 : mk 16 (encK (oneR (oneK 1)) 1 (oneK 3)) = mk 16 (oneK 2) := by decide +kernel
theorem call_enc (args : Array Value) (w : World) : (callFunc 22 args).run Try.prog w = .ok (.enter 22 args) w := by simp [go_sem]
theorem call_ref (args : Array Value) (w : World) : (callFunc 23 args).run Try.prog w = .ok (.enter 23 args) w := by simp [go_sem]
attribute [local irreducible] encK

set_option maxRecDepth 100000 in
set_option maxHeartbeats 4000000 in
theorem walk (p : Option Addr) (n cap : Nat) (R : Nat → Nat → Nat) (f : Nat → Nat) (hR : ∀ i, i < n → IsKey (R i)) (hf : IsKey f) (w : World) (hp : KeysAt w p n R) :
    Calls Try.prog 6 #[.slice p n cap, .agg (cellsOf .u8 (mk 16 f))] w fun e w' => e = .returned (.bool true) ∧ Below w.heap.size w w' := by
  have hnil : p = none → n = 0 := fun e => by
    rcases hp with h | ⟨B, o, rfl, _⟩
    · exact h
    · cases e
  by_cases hn : 60 < n
  · have d1 : decide (60 < n) = true := by simp; omega
    have d2 : decide ((60 : Int) < (n : Int)) = true := by simp; omega
    go_enter Try.func6, Try.ntmps6
    go_wp2
    go_ret
    exact ⟨rfl, (Below.refl _ _).alloc (Nat.le_refl _) _⟩
  · have d1 : decide (60 < n) = false := by simp; omega
    have d2 : decide ((60 : Int) < (n : Int)) = false := by simp; omega
    have hn2 : n < 4294967296 := by omega
    have k1 := oneK_key (n := 1) (by omega)
    have k3 := oneK_key (n := 3) (by omega)
    go_enter Try.func6, Try.ntmps6
    go_wp2_with (first
      | (refine wpList_keys0 rfl rfl ?_)
      | (refine wpList_append_keys rfl _ _ rfl _ rfl p n cap rfl R ((hp.below ((Below.refl _ _).alloc (Nat.le_refl _) _)).below ((Below.refl _ _).alloc (Nat.le_refl _) _)) hnil (by omega) ?_; intro q c w1 hq hb)
      | (refine wpList_load_row rfl 23 _ rfl w.heap.size rfl 23 (cellsOf .u8 (mk 16 f)) (0, 0) _ (((IntBlk.new w .u8 23 (mk 16 f)).alloc _).below hb (by simp; omega)) keyUnder rfl (keySize _) ?_)
      | fail)
    have a3 := ((IntBlk.new w .u8 23 (mk 16 f)).alloc (.cells #[] 23)).below hb (by simp; omega)
    have l1 : Below w.heap.size w w1 := (below_two w (.cells (cellsOf .u8 (mk 16 f)) 23) (.cells #[] 23)).trans (hb.mono (by simp; omega))
    have hp1 := hp.below l1
    clear hb hp
    refine (Encrypt_any q n c R f hR hf hn2 _ hq).mono ?_
    rintro e w2 ⟨rfl, hb⟩
    have a3 := a3.below hb a3.lt
    have l2 := l1.trans (hb.mono l1.size)
    have hp2 := hp1.below hb
    have hq2 := hq.below hb
    have hs : w.heap.size < w2.heap.size := a3.lt
    clear hb l1 hp1 hq
    go_wp2_with (first
      | (refine store_row_on rfl 23 _ _ rfl rfl w2.heap.size (cellsOf .u8 (mk 16 (encK R n f))) rfl rfl 23 (cellsOf .u8 (mk 16 zeroK)) (IntBlk.new w2 .u8 23 (mk 16 zeroK)) (keySize _) (by rw [cellsOf_size, cellsOf_size, mk_len, mk_len]) (cellsOf_one _ _) ?_)
      | fail)
    have A3 := (a3.alloc (.cells (cellsOf .u8 (mk 16 zeroK)) 23)).otherRow (C := w2.heap.size) (by omega) (cellsOf .u8 (mk 16 (encK R n f)))
    have A6 : IntBlk ((w2.alloc (.cells (cellsOf .u8 (mk 16 zeroK)) 23)).setRow w2.heap.size (cellsOf .u8 (mk 16 (encK R n f)))) w2.heap.size .u8 23 (mk 16 (encK R n f)) := (IntBlk.new w2 .u8 23 (mk 16 zeroK)).setRow .u8 (mk 16 (encK R n f))
    have b2 : Below w2.heap.size w2 ((w2.alloc (.cells (cellsOf .u8 (mk 16 zeroK)) 23)).setRow w2.heap.size (cellsOf .u8 (mk 16 (encK R n f)))) := below_setRow ((Below.refl _ _).alloc (Nat.le_refl _) _) (Nat.le_refl _) _
    have hp3 := hp2.below b2
    have hq3 := hq2.below b2
    have l3 := l2.trans (b2.mono l2.size)
    clear a3 b2 hp2 hq2 l2
    change Code.wp _ _ _ _ ((w2.alloc (.cells (cellsOf .u8 (mk 16 zeroK)) 23)).setRow w2.heap.size (cellsOf .u8 (mk 16 (encK R n f))))
    generalize ((w2.alloc (.cells (cellsOf .u8 (mk 16 zeroK)) 23)).setRow w2.heap.size (cellsOf .u8 (mk 16 (encK R n f)))) = W0 at *
    have H3 := Lib.hid (fun (w' : World) (h : Below W0.heap.size W0 w') => A3.below h A3.lt)
    have H6 := Lib.hid (fun (w' : World) (h : Below W0.heap.size W0 w') => A6.below h A6.lt)
    have HP := Lib.hid (fun (w' : World) (h : Below W0.heap.size W0 w') => hp3.below h)
    have HQ := Lib.hid (fun (w' : World) (h : Below W0.heap.size W0 w') => hq3.below h)
    have HW := Lib.hid (fun (w' : World) (h : Below W0.heap.size W0 w') => l3.trans (h.mono l3.size))
    clear A3 A6 hp3 hq3 l3
    go_loopw [19] (fun v19 wr => ∃ i : Nat, i ≤ n ∧ v19 = .int .i64 i ∧ Below W0.heap.size W0 wr) (fun v19 _ => n - (intOf v19).toNat)
    case atStart => exact ⟨0, by omega, rfl, Below.refl _ _⟩
    case round =>
      obtain ⟨i, hi, rfl, hw⟩ := hrel
      have L := Lib.hid hw
      clear hw
      by_cases hlt : i < n
      · have t1 : decide ((i : Int) < (n : Int)) = true := by simp; omega
        rcases HP.out _ L.out with h0 | ⟨B1, o1, rfl, hB1, hc1⟩
        · omega
        rcases HQ.out _ L.out with h0 | ⟨B2, o2, rfl, hB2, hc2⟩
        · omega
        have C1 := Lib.hid (fun (w' : World) (h : Below wr.heap.size wr w') => (hc1 i hlt).below h hB1)
        have C2 := Lib.hid (fun (w' : World) (h : Below wr.heap.size wr w') => (hc2 i hlt).below h hB2)
        clear hc1 hc2
        go_wp2
        refine wp_region_sched [(0, true), (1, true), (2, true), (3, true), (4, true), (5, true), (6, true), (7, true), (8, true)] (fun w' => Below wr.heap.size wr w') (by kernel_rfl) (by kernel_rfl) ((Below.refl _ _).drew) ?_
        iterate 9 (
          refine walk_float rfl rfl (fun K hK => ?_)
          first
            | (refine gives_move _ rfl ?_)
            | (refine gives_elem 31 23 16 _ _ rfl keysUnder1 keyInfo1 B1 o1 n cap i rfl rfl hlt ?_)
            | (refine gives_elem 31 23 16 _ _ rfl keysUnder1 keyInfo1 B2 o2 n c i rfl rfl hlt ?_)
            | (refine gives_part 23 _ rfl B1 (o1 + i * 16) 16 (R i) rfl C1.out 16 _ keyUnder keyInfo1 ?_)
            | (refine gives_part 23 _ rfl B2 (o2 + i * 16) 16 (R i) rfl C2.out 16 _ keyUnder keyInfo1 ?_)
            | (refine gives_key_neq _ _ rfl _ _ rfl rfl rfl ?_)
          go_simp
          refine hK _ ?_
          clear hK K)
        refine walk_nil ?_
        go_wp2
        go_roundw
        case rel => exact ⟨i + 1, by omega, by go_num, L.out.drew⟩
        case measure => simp [intOf]; omega
      · have t2 : decide ((i : Int) < (n : Int)) = false := by simp; omega
        go_wp2
        have c0 := L.out.drew
        clear L
        refine wp_region_sched [(0, true), (2, true), (4, true), (1, false), (3, false), (5, true), (6, true), (7, true), (8, true), (9, true), (10, false), (11, true), (12, true), (13, true)] (fun w' => Below W0.heap.size W0 w') (by kernel_rfl) (by kernel_rfl) c0 ?_
        generalize wr.drew = v0 at *
        iterate 3 (
          refine walk_float rfl rfl (fun K hK => ?_)
          first
            | (refine gives_move _ rfl ?_)
            | (refine gives_assign _ rfl ?_)
            | (refine gives_key_load _ rfl w.heap.size f rfl H3.out ?_)
            | (refine gives_key_load _ rfl w2.heap.size (encK R n f) rfl H6.out ?_)
            | (refine gives_built _ _ rfl [(0, .int .u8 1)] rfl 16 (oneK 1) built1 ?_)
            | (refine gives_built _ _ rfl [(0, .int .u8 3)] rfl 16 (oneK 3) built3 ?_)
            | (refine gives_built _ _ rfl [(0, .int .u8 2)] rfl 16 (oneK 2) built2 ?_)
            | (refine gives_pick _ _ _ rfl rfl _ rfl ?_)
            | (refine gives_key_eql _ _ rfl _ _ rfl rfl (by first | exact enc13 | rfl) ?_)
          go_simp
          refine hK _ ?_
          clear hK K)
        refine walk_done rfl rfl (fun K hK => ?_)
        refine done_keys1 _ rfl (oneK 1) rfl ?_
        have c1 : Below W0.heap.size W0 (v0.alloc (.cells (cellsOf .u8 (mk 16 (oneK 1))) 23)) := c0.alloc c0.size _
        refine ⟨c1, ?_⟩
        have pc1 : KeysAt (v0.alloc (.cells (cellsOf .u8 (mk 16 (oneK 1))) 23)) (some ⟨v0.heap.size, 0, none⟩) 1 (oneR (oneK 1)) := keysAt_one (IntBlk.new v0 .u8 23 (mk 16 (oneK 1)))
        generalize v0.alloc (.cells (cellsOf .u8 (mk 16 (oneK 1))) 23) = v1 at *
        go_simp
        refine hK _ _ ?_
        clear hK K
        refine walk_done rfl rfl (fun K hK => ?_)
        refine done_call2 _ _ _ _ rfl 22 rfl _ _ rfl rfl call_enc _ (Encrypt_any _ 1 1 (oneR (oneK 1)) (oneK 3) (oneR_key k1) k3 (by omega) v1 pc1) ?_
        intro v2 hb
        have c2 := c1.trans (hb.mono c1.size)
        refine ⟨c2, ?_⟩
        go_simp
        refine hK _ _ ?_
        clear hK K hb
        iterate 5 (
          refine walk_float rfl rfl (fun K hK => ?_)
          first
            | (refine gives_move _ rfl ?_)
            | (refine gives_assign _ rfl ?_)
            | (refine gives_key_load _ rfl w.heap.size f rfl H3.out ?_)
            | (refine gives_key_load _ rfl w2.heap.size (encK R n f) rfl H6.out ?_)
            | (refine gives_built _ _ rfl [(0, .int .u8 1)] rfl 16 (oneK 1) built1 ?_)
            | (refine gives_built _ _ rfl [(0, .int .u8 3)] rfl 16 (oneK 3) built3 ?_)
            | (refine gives_built _ _ rfl [(0, .int .u8 2)] rfl 16 (oneK 2) built2 ?_)
            | (refine gives_pick _ _ _ rfl rfl _ rfl ?_)
            | (refine gives_key_eql _ _ rfl _ _ rfl rfl (by first | exact enc13 | rfl) ?_)
          go_simp
          refine hK _ ?_
          clear hK K)
        refine walk_done rfl rfl (fun K hK => ?_)
        refine done_call2 _ _ _ _ rfl 23 rfl _ _ rfl rfl call_ref _ (refEncrypt_any p n cap R f hR hf hn2 v2 (HP.out v2 c2)) ?_
        intro v3 hb
        have c3 := c2.trans (hb.mono c2.size)
        refine ⟨c3, ?_⟩
        go_simp
        refine hK _ _ ?_
        clear hK K hb
        iterate 3 (
          refine walk_float rfl rfl (fun K hK => ?_)
          first
            | (refine gives_move _ rfl ?_)
            | (refine gives_assign _ rfl ?_)
            | (refine gives_key_load _ rfl w.heap.size f rfl H3.out ?_)
            | (refine gives_key_load _ rfl w2.heap.size (encK R n f) rfl H6.out ?_)
            | (refine gives_built _ _ rfl [(0, .int .u8 1)] rfl 16 (oneK 1) built1 ?_)
            | (refine gives_built _ _ rfl [(0, .int .u8 3)] rfl 16 (oneK 3) built3 ?_)
            | (refine gives_built _ _ rfl [(0, .int .u8 2)] rfl 16 (oneK 2) built2 ?_)
            | (refine gives_pick _ _ _ rfl rfl _ rfl ?_)
            | (refine gives_key_eql _ _ rfl _ _ rfl rfl (by first | exact enc13 | rfl) ?_)
          go_simp
          refine hK _ ?_
          clear hK K)
        refine walk_nil ?_
        have H9 := Lib.hid (HW.out _ c3)
        clear c0 c1 c2 c3 pc1 HW HP HQ H3 H6
        go_wp2
        go_ret
        exact ⟨rfl, H9.out⟩

theorem laidOut : laidOutB Try.prog = true := by kernel_rfl
set_option maxRecDepth 100000 in
theorem lifted (os : Os) (started : os.Started) (H : Type) (enc : TypeId × Value → H) :
    ReturnsInHanded {} Try.checked os 6 .any (Rows.cipherEncryptsSpec.pre6 enc Try.prog Try.f6 Rows.cipherEncryptsRow.domain false) (Rows.cipherEncryptsSpec.post enc Try.prog Try.f6 false true false false) := by
  refine returnsInHanded_of_change (C := Try.checked) own started (by kernel_rfl) Try.func6
    (ChangeSpec.witness6 (enc := enc) (C := Try.checked) false ⟨#[], #[.slice none 0 0, .agg #[.int .u8 0, .int .u8 0, .int .u8 0, .int .u8 0, .int .u8 0, .int .u8 0, .int .u8 0, .int .u8 0, .int .u8 0, .int .u8 0, .int .u8 0, .int .u8 0, .int .u8 0, .int .u8 0, .int .u8 0, .int .u8 0]], []⟩ 8 (by kernel_rfl) (by kernel_rfl) (by kernel_rfl) (by kernel_rfl)) ?_
  intro W base args ds gs before hval0 hW hcnd _
  have hval : ∀ (j : Nat) t v, Try.f6.params[j]? = some t → args[j]? = some v → Value.okWide Try.prog W .any base t v := hval0
  have hW' := hW
  obtain ⟨p, q, hA0, hV, rfl, hfz, hnd⟩ := hW
  have hA : DataW.TrodAll enc Try.prog W 0 (fun _ => true) true Try.f6.params.toList args.toList ds p := hA0
  rw [Try.params6] at hA hval
  obtain ⟨v0, vs0, d0, ds0, p0, q0, hargs, rfl, rfl, h0, r0⟩ := trodAll_cons hA
  obtain ⟨v1, vs1, d1, ds1, p1, q1, rfl, rfl, rfl, h1, r1⟩ := trodAll_cons r0
  obtain ⟨rfl, rfl, rfl⟩ := trodAll_nil r1
  obtain rfl : args = #[v0, v1] := by cases args; simp_all
  obtain ⟨rfl, rfl⟩ := trodVars_none hV
  have k0 := h0
  have lt0 : ∀ x ∈ p0, x.block < W.heap.size := by obtain ⟨m, hm⟩ := k0; exact DataW.trod_lt m _ _ _ hm
  obtain ⟨q0, n0, c0, a0, rfl, w0, y0⟩ := open_keys (hval 0 31 v0 rfl rfl) h0
  have k1 := h1
  have lt1 : ∀ x ∈ p1, x.block < W.heap.size := by obtain ⟨m, hm⟩ := k1; exact DataW.trod_lt m _ _ _ hm
  obtain ⟨a1, w1, rfl⟩ := open_bytes Try.underlying23 Try.underlying5 (by kernel_rfl) (by kernel_rfl) (hval 1 23 v1 rfl rfl) h1
  clear hA0 hval0
  refine (walk q0 n0 c0 a0 a1 w0 w1 W y0).mono fun e W' ⟨he, bel⟩ => ?_
  subst he
  exact ⟨_, rfl, _, _, _, [], _, [], hW', trodAll_mk1 (shut_bool Try.underlying4 _), (trodAll_cons_mk (Below.trod laidOut (by kernel_rfl) (of_decide_eq_true (by kernel_rfl)) k0 bel lt0) (trodAll_cons_mk (Below.trod laidOut (by kernel_rfl) (of_decide_eq_true (by kernel_rfl)) k1 bel lt1) trodAll_mk0)), rfl, bel.frame _, fun h => by cases h⟩

theorem over : Rows.cipherEncryptsRow.holds Try.pinned (OpenSpec.ofChange Rows.cipherEncryptsSpec) :=
  OpenClaim.holds_of_wide 6 Try.f6 rfl rfl rfl rfl rfl rfl rfl ⟨rfl, rfl, rfl, rfl, rfl⟩ rfl rfl rfl rfl rfl (by kernel_rfl) Try.func6 (by kernel_rfl)
    (of_decide_eq_true (by kernel_rfl)) (by unfold Func.isWrapper; first | (rw [if_pos (by decide +kernel)]; kernel_rfl) | (rw [if_neg (by decide +kernel)]; exact ⟨rfl, rfl⟩))
    (fun os started H enc _ => lifted os started H enc)

theorem proved : Rows.CipherEncryptsSaid := over
end Go.Proofs.Ytilfjmpoiiepkaa.cipherEncrypts
