/- Package cipher's Decrypt undoes Encrypt, and Encrypt Decrypt, with any round keys: the statement CipherTurns. No condition. -/
import Derived.Test.YtilfjmpoiiepkaaDecC
import Derived.Test.YtilfjmpoiiepkaaGives
import Derived.Test.YtilfjmpoiiepkaaOpenS
namespace Go.Proofs.Ytilfjmpoiiepkaa.cipherTurns
open Go.ChangeShapes Go.WideShapes Go.ChangeAt Go.RowKit
set_option linter.unusedVariables false

theorem own : ownKnob Try.prog.godebug = none := by kernel_rfl
theorem built1 : Try.prog.built 23 [(0, .int .u8 1)] = some (cellsOf .u8 (mk 16 (oneK 1))) := by kernel_rfl
theorem built3 : Try.prog.built 23 [(0, .int .u8 3)] = some (cellsOf .u8 (mk 16 (oneK 3))) := by kernel_rfl
theorem built2 : Try.prog.built 23 [(0, .int .u8 2)] = some (cellsOf .u8 (mk 16 (oneK 2))) := by kernel_rfl
def one1 : Nat → Nat → Nat := fun _ => oneK 1
theorem enc13 : mk 16 (encK one1 1 (oneK 3)) = mk 16 (oneK 2) := by decide +kernel
theorem call_enc (args : Array Value) (w : World) : (callFunc 22 args).run Try.prog w = .ok (.enter 22 args) w := by simp [go_sem]
theorem call_dec (args : Array Value) (w : World) : (callFunc 24 args).run Try.prog w = .ok (.enter 24 args) w := by simp [go_sem]
attribute [local irreducible] encK decK

set_option maxRecDepth 100000 in
set_option maxHeartbeats 4000000 in
theorem walk (p : Option Addr) (n cap : Nat) (R : Nat → Nat → Nat) (f : Nat → Nat) (hR : ∀ i, i < n → IsKey (R i)) (hf : IsKey f) (w : World) (hp : KeysAt w p n R) :
    Calls Try.prog 7 #[.slice p n cap, .agg (cellsOf .u8 (mk 16 f))] w fun e w' => e = .returned (.bool true) ∧ Below w.heap.size w w' := by
  by_cases hn : 60 < n
  · have d1 : decide (60 < n) = true := by simp; omega
    have d2 : decide ((60 : Int) < (n : Int)) = true := by simp; omega
    go_enter Try.func7, Try.ntmps7
    go_wp2
    go_ret
    exact ⟨rfl, (Below.refl _ _).alloc (Nat.le_refl _) _⟩
  · have d1 : decide (60 < n) = false := by simp; omega
    have d2 : decide ((60 : Int) < (n : Int)) = false := by simp; omega
    have hn2 : n < 4294967296 := by omega
    have ke := encTo_key hR hf n (Nat.le_refl n)
    have kd := decTo_key hR hf n (Nat.le_refl n)
    rw [← encK_is] at ke
    rw [← decK_is] at kd
    have H := Lib.hid (And.intro (dec_enc hR hf) (enc_dec hR hf))
    have k1 := oneK_key (n := 1) (by omega)
    have k3 := oneK_key (n := 3) (by omega)
    go_enter Try.func7, Try.ntmps7
    go_wp2
    have BA := IntBlk.new w .u8 23 (mk 16 f)
    have BW : Below w.heap.size w (w.alloc (.cells (cellsOf .u8 (mk 16 f)) 23)) := (Below.refl _ _).alloc (Nat.le_refl _) _
    have hp1 := hp.below BW
    generalize w.alloc (.cells (cellsOf .u8 (mk 16 f)) 23) = W0 at *
    have HA := Lib.hid (fun (w' : World) (h : Below W0.heap.size W0 w') => BA.below h BA.lt)
    have HP := Lib.hid (fun (w' : World) (h : Below W0.heap.size W0 w') => hp1.below h)
    have HW := Lib.hid (fun (w' : World) (h : Below W0.heap.size W0 w') => BW.trans (h.mono BW.size))
    clear BA BW hp1 hp
    refine wp_region_sched [(0, true), (2, true), (4, true), (1, false), (3, false), (5, true), (6, true), (7, true), (8, true), (9, true), (12, true), (10, false), (11, false), (13, true), (14, true), (15, true), (16, true), (17, true), (18, true), (21, true), (19, false), (20, false), (22, true), (23, true), (24, true)]
      (fun w' => Below W0.heap.size W0 w') (by kernel_rfl) (by kernel_rfl) ((Below.refl _ _).drew) ?_
    iterate 3 (
      refine walk_float rfl rfl (fun K hK => ?_)
      first
        | (refine gives_move _ rfl ?_)
        | (refine gives_assign _ rfl ?_)
        | (refine gives_key_load _ rfl w.heap.size f rfl HA.out ?_)
        | (refine gives_built _ _ rfl [(0, .int .u8 1)] rfl 16 (oneK 1) built1 ?_)
        | (refine gives_built _ _ rfl [(0, .int .u8 3)] rfl 16 (oneK 3) built3 ?_)
        | (refine gives_built _ _ rfl [(0, .int .u8 2)] rfl 16 (oneK 2) built2 ?_)
        | (refine gives_pick _ _ _ rfl rfl _ rfl ?_)
        | (refine gives_key_eql _ _ rfl _ _ rfl rfl (by first | exact enc13 | exact H.out.1 | exact H.out.2) ?_)
      go_simp
      refine hK _ ?_
      clear hK K)
    refine walk_done rfl rfl (fun K hK => ?_)
    refine done_keys1 _ rfl (oneK 1) rfl ?_
    have c1 : Below W0.heap.size W0 (W0.drew.alloc (.cells (cellsOf .u8 (mk 16 (oneK 1))) 23)) := ((Below.refl _ _).drew).alloc (Nat.le_refl _) _
    refine ⟨c1, ?_⟩
    have b1 : IntBlk (W0.drew.alloc (.cells (cellsOf .u8 (mk 16 (oneK 1))) 23)) W0.heap.size .u8 23 (mk 16 (oneK 1)) := IntBlk.new W0.drew .u8 23 (mk 16 (oneK 1))
    have p1 : KeysAt (W0.drew.alloc (.cells (cellsOf .u8 (mk 16 (oneK 1))) 23)) (some ⟨W0.heap.size, 0, none⟩) 1 one1 := .inr ⟨W0.heap.size, 0, rfl, b1.lt, fun i hi => by
      obtain rfl : i = 0 := by omega
      have := b1.cells (o := 0) (n := 16) (by omega)
      simpa [one1] using this⟩
    clear b1
    generalize W0.drew.alloc (.cells (cellsOf .u8 (mk 16 (oneK 1))) 23) = w1 at *
    go_simp
    refine hK _ _ ?_
    clear hK K
    refine walk_done rfl rfl (fun K hK => ?_)
    refine done_call2 _ _ _ _ rfl 22 rfl _ _ rfl rfl call_enc _ (Encrypt_any (some ⟨W0.heap.size, 0, none⟩) 1 1 one1 (oneK 3) (fun _ _ => k1) k3 (by omega) w1 p1) ?_
    intro w2 hb
    have c2 := c1.trans (hb.mono c1.size)
    refine ⟨c2, ?_⟩
    go_simp
    refine hK _ _ ?_
    clear hK K hb
    iterate 6 (
      refine walk_float rfl rfl (fun K hK => ?_)
      first
        | (refine gives_move _ rfl ?_)
        | (refine gives_assign _ rfl ?_)
        | (refine gives_key_load _ rfl w.heap.size f rfl HA.out ?_)
        | (refine gives_built _ _ rfl [(0, .int .u8 1)] rfl 16 (oneK 1) built1 ?_)
        | (refine gives_built _ _ rfl [(0, .int .u8 3)] rfl 16 (oneK 3) built3 ?_)
        | (refine gives_built _ _ rfl [(0, .int .u8 2)] rfl 16 (oneK 2) built2 ?_)
        | (refine gives_pick _ _ _ rfl rfl _ rfl ?_)
        | (refine gives_key_eql _ _ rfl _ _ rfl rfl (by first | exact enc13 | exact H.out.1 | exact H.out.2) ?_)
      go_simp
      refine hK _ ?_
      clear hK K)
    refine walk_done rfl rfl (fun K hK => ?_)
    refine done_call2 _ _ _ _ rfl 22 rfl _ _ rfl rfl call_enc _ (Encrypt_any p n cap R f hR hf hn2 w2 (HP.out w2 c2)) ?_
    intro w3 hb
    have c3 := c2.trans (hb.mono c2.size)
    refine ⟨c3, ?_⟩
    go_simp
    refine hK _ _ ?_
    clear hK K hb
    refine walk_done rfl rfl (fun K hK => ?_)
    refine done_call2 _ _ _ _ rfl 24 rfl _ _ rfl rfl call_dec _ (Decrypt_any p n cap R (encK R n f) hR ke hn2 w3 (HP.out w3 c3)) ?_
    intro w4 hb
    have c4 := c3.trans (hb.mono c3.size)
    refine ⟨c4, ?_⟩
    go_simp
    refine hK _ _ ?_
    clear hK K hb
    iterate 7 (
      refine walk_float rfl rfl (fun K hK => ?_)
      first
        | (refine gives_move _ rfl ?_)
        | (refine gives_assign _ rfl ?_)
        | (refine gives_key_load _ rfl w.heap.size f rfl HA.out ?_)
        | (refine gives_built _ _ rfl [(0, .int .u8 1)] rfl 16 (oneK 1) built1 ?_)
        | (refine gives_built _ _ rfl [(0, .int .u8 3)] rfl 16 (oneK 3) built3 ?_)
        | (refine gives_built _ _ rfl [(0, .int .u8 2)] rfl 16 (oneK 2) built2 ?_)
        | (refine gives_pick _ _ _ rfl rfl _ rfl ?_)
        | (refine gives_key_eql _ _ rfl _ _ rfl rfl (by first | exact enc13 | exact H.out.1 | exact H.out.2) ?_)
      go_simp
      refine hK _ ?_
      clear hK K)
    refine walk_done rfl rfl (fun K hK => ?_)
    refine done_call2 _ _ _ _ rfl 24 rfl _ _ rfl rfl call_dec _ (Decrypt_any p n cap R f hR hf hn2 w4 (HP.out w4 c4)) ?_
    intro w5 hb
    have c5 := c4.trans (hb.mono c4.size)
    refine ⟨c5, ?_⟩
    go_simp
    refine hK _ _ ?_
    clear hK K hb
    refine walk_done rfl rfl (fun K hK => ?_)
    refine done_call2 _ _ _ _ rfl 22 rfl _ _ rfl rfl call_enc _ (Encrypt_any p n cap R (decK R n f) hR kd hn2 w5 (HP.out w5 c5)) ?_
    intro w6 hb
    have c6 := c5.trans (hb.mono c5.size)
    refine ⟨c6, ?_⟩
    go_simp
    refine hK _ _ ?_
    clear hK K hb
    iterate 3 (
      refine walk_float rfl rfl (fun K hK => ?_)
      first
        | (refine gives_move _ rfl ?_)
        | (refine gives_assign _ rfl ?_)
        | (refine gives_key_load _ rfl w.heap.size f rfl HA.out ?_)
        | (refine gives_built _ _ rfl [(0, .int .u8 1)] rfl 16 (oneK 1) built1 ?_)
        | (refine gives_built _ _ rfl [(0, .int .u8 3)] rfl 16 (oneK 3) built3 ?_)
        | (refine gives_built _ _ rfl [(0, .int .u8 2)] rfl 16 (oneK 2) built2 ?_)
        | (refine gives_pick _ _ _ rfl rfl _ rfl ?_)
        | (refine gives_key_eql _ _ rfl _ _ rfl rfl (by first | exact enc13 | exact H.out.1 | exact H.out.2) ?_)
      go_simp
      refine hK _ ?_
      clear hK K)
    refine walk_nil ?_
    have H6 := Lib.hid (HW.out _ c6)
    clear c1 c2 c3 c4 c5 c6 p1 HW HP HA
    go_wp2
    go_ret
    exact ⟨rfl, H6.out⟩

theorem laidOut : laidOutB Try.prog = true := by kernel_rfl
set_option maxRecDepth 100000 in
theorem lifted (os : Os) (started : os.Started) (H : Type) (enc : TypeId × Value → H) :
    ReturnsInHanded {} Try.checked os 7 .any (Rows.cipherTurnsSpec.pre6 enc Try.prog Try.f7 Rows.cipherTurnsRow.domain false) (Rows.cipherTurnsSpec.post enc Try.prog Try.f7 false true false false) := by
  refine returnsInHanded_of_change (C := Try.checked) own started (by kernel_rfl) Try.func7
    (ChangeSpec.witness6 (enc := enc) (C := Try.checked) false ⟨#[], #[.slice none 0 0, .agg #[.int .u8 0, .int .u8 0, .int .u8 0, .int .u8 0, .int .u8 0, .int .u8 0, .int .u8 0, .int .u8 0, .int .u8 0, .int .u8 0, .int .u8 0, .int .u8 0, .int .u8 0, .int .u8 0, .int .u8 0, .int .u8 0]], []⟩ 8 (by kernel_rfl) (by kernel_rfl) (by kernel_rfl) (by kernel_rfl)) ?_
  intro W base args ds gs before hval0 hW hcnd _
  have hval : ∀ (j : Nat) t v, Try.f7.params[j]? = some t → args[j]? = some v → Value.okWide Try.prog W .any base t v := hval0
  have hW' := hW
  obtain ⟨p, q, hA0, hV, rfl, hfz, hnd⟩ := hW
  have hA : DataW.TrodAll enc Try.prog W 0 (fun _ => true) true Try.f7.params.toList args.toList ds p := hA0
  rw [Try.params7] at hA hval
  obtain ⟨v0, vs0, d0, ds0, p0, q0, hargs, rfl, rfl, h0, r0⟩ := trodAll_cons hA
  obtain ⟨v1, vs1, d1, ds1, p1, q1, rfl, rfl, rfl, h1, r1⟩ := trodAll_cons r0
  obtain ⟨rfl, rfl, rfl⟩ := trodAll_nil r1
  obtain rfl : args = #[v0, v1] := by cases args; simp_all
  obtain ⟨rfl, rfl⟩ := trodVars_none hV
  have k0 := h0
  have lt0 : ∀ x ∈ p0, x.block < W.heap.size := by obtain ⟨m, hm⟩ := k0; exact DataW.trod_lt m _ _ _ hm
  obtain ⟨q0, n0, c0, a0, rfl, w0, y0⟩ := open_keys (hval 0 31 v0 rfl rfl) h0
  have k1 := h1
  have lt1 : ∀ x ∈ p1, x.block < W.heap.size := by obtain ⟨m, hm⟩ := k1; exact DataW.trod_lt m _ _ _ hm
  obtain ⟨a1, w1, rfl⟩ := open_bytes Try.underlying23 Try.underlying5 (by kernel_rfl) (by kernel_rfl) (hval 1 23 v1 rfl rfl) h1
  clear hA0 hval0
  refine (walk q0 n0 c0 a0 a1 w0 w1 W y0).mono fun e W' ⟨he, bel⟩ => ?_
  subst he
  exact ⟨_, rfl, _, _, _, [], _, [], hW', trodAll_mk1 (shut_bool Try.underlying4 _), (trodAll_cons_mk (Below.trod laidOut (by kernel_rfl) (of_decide_eq_true (by kernel_rfl)) k0 bel lt0) (trodAll_cons_mk (Below.trod laidOut (by kernel_rfl) (of_decide_eq_true (by kernel_rfl)) k1 bel lt1) trodAll_mk0)), rfl, bel.frame _, fun h => by cases h⟩

theorem over : Rows.cipherTurnsRow.holds Try.pinned (OpenSpec.ofChange Rows.cipherTurnsSpec) :=
  OpenClaim.holds_of_wide 7 Try.f7 rfl rfl rfl rfl rfl rfl rfl ⟨rfl, rfl, rfl, rfl, rfl⟩ rfl rfl rfl rfl rfl (by kernel_rfl) Try.func7 (by kernel_rfl)
    (of_decide_eq_true (by kernel_rfl)) (by unfold Func.isWrapper; first | (rw [if_pos (by decide +kernel)]; kernel_rfl) | (rw [if_neg (by decide +kernel)]; exact ⟨rfl, rfl⟩))
    (fun os started H enc _ => lifted os started H enc)

theorem proved : Rows.CipherTurnsSaid := over
end Go.Proofs.Ytilfjmpoiiepkaa.cipherTurns
