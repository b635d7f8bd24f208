/- Package cipher's Encrypt goes round by round: the statement CipherParts. No condition. -/
import Derived.Test.YtilfjmpoiiepkaaKeysAt
import Derived.Test.YtilfjmpoiiepkaaRefShift
import Derived.Test.YtilfjmpoiiepkaaOpen
namespace Go.Proofs.Ytilfjmpoiiepkaa.cipherParts
open Go.ChangeShapes Go.WideShapes Go.ChangeAt Go.RowKit
set_option linter.unusedVariables false

theorem own : ownKnob Try.prog.godebug = none := by kernel_rfl
theorem built1 : Try.prog.built 23 [(0, .int .u8 1)] = some (cellsOf .u8 (mk 16 (oneK 1))) := by kernel_rfl
theorem built3 : Try.prog.built 23 [(0, .int .u8 3)] = some (cellsOf .u8 (mk 16 (oneK 3))) := by kernel_rfl
theorem built2 : Try.prog.built 23 [(0, .int .u8 2)] = some (cellsOf .u8 (mk 16 (oneK 2))) := by kernel_rfl
theorem built0 : Try.prog.built 23 [] = some (cellsOf .u8 (mk 16 zeroK)) := by kernel_rfl
theorem enc13 : mk 16 (encK (oneR (oneK 1)) 1 (oneK 3)) = mk 16 (oneK 2) := by decide +kernel
theorem call_enc (args : Array Value) (w : World) : (callFunc 22 args).run Try.prog w = .ok (.enter 22 args) w := by simp [go_sem]
theorem enc_none (f : Nat → Nat) (R : Nat → Nat → Nat) : mk 16 (encK R 0 f) = mk 16 f := rfl
theorem enc_one (f g : Nat → Nat) : mk 16 (encK (oneR f) 1 g) = mk 16 (encK (oneR g) 1 f) := mk_ext fun j _ => by
  show xorK g f j = xorK f g j
  exact Nat.xor_comm _ _
theorem enc_two (f g k : Nat → Nat) : mk 16 (encK (twoR f g) 2 k) = mk 16 (encK (twoR zeroK g) 2 (encK (oneR f) 1 k)) := by
  have e : EqK (xorK k f) (xorK (xorK k f) zeroK) := fun j _ => by show _ = (k j ^^^ f j) ^^^ 0; rw [Nat.xor_zero]; rfl
  exact (eq_xor (a := g) (eq_inE 2 1 e)).mk
theorem zero_key : IsKey zeroK := fun _ _ => by unfold zeroK; omega
attribute [local irreducible] encK

set_option maxRecDepth 100000 in
set_option maxHeartbeats 4000000 in
theorem walk (f g k : Nat → Nat) (hf : IsKey f) (hg : IsKey g) (hk : IsKey k) (w : World) :
    Calls Try.prog 9 #[.agg (cellsOf .u8 (mk 16 f)), .agg (cellsOf .u8 (mk 16 g)), .agg (cellsOf .u8 (mk 16 k))] w fun e w' => e = .returned (.bool true) ∧ Below w.heap.size w w' := by
  have H := Lib.hid (And.intro (enc_none k (oneR k)) (And.intro (enc_one f k) (enc_two f g k)))
  have k1 := oneK_key (n := 1) (by omega)
  have k3 := oneK_key (n := 3) (by omega)
  have kone : IsKey (encK (oneR f) 1 k) := by rw [encK_is]; exact encTo_key (oneR_key hf) hk 1 (Nat.le_refl 1)
  go_enter Try.func9, Try.ntmps9
  have A0 := Lib.hid (blk_first w .u8 23 (mk 16 f) (.cells (cellsOf .u8 (mk 16 g)) 23) (.cells (cellsOf .u8 (mk 16 k)) 23))
  have A1 := Lib.hid (blk_second w .u8 23 (mk 16 g) (.cells (cellsOf .u8 (mk 16 f)) 23) (.cells (cellsOf .u8 (mk 16 k)) 23))
  have A2 := Lib.hid (blk_third w .u8 23 (mk 16 k) (.cells (cellsOf .u8 (mk 16 f)) 23) (.cells (cellsOf .u8 (mk 16 g)) 23))
  have L0 := Lib.hid (below_three w (.cells (cellsOf .u8 (mk 16 f)) 23) (.cells (cellsOf .u8 (mk 16 g)) 23) (.cells (cellsOf .u8 (mk 16 k)) 23))
  go_wp2_with (first
    | (refine wpList_load_row rfl 23 _ rfl (w.heap.size) rfl 23 (cellsOf .u8 (mk 16 (f))) (0, 0) _ A0.out keyUnder rfl (keySize _) ?_)
    | (refine wpList_keys1 rfl _ rfl f rfl ?_)
    | (refine wpList_load_row rfl 23 _ rfl (w.heap.size + 1 + 1) rfl 23 (cellsOf .u8 (mk 16 (k))) (0, 0) _ (A2.out.alloc _) keyUnder rfl (keySize _) ?_)
    | fail)
  have B4 := blk_fourth w .u8 23 (mk 16 f) (.cells (cellsOf .u8 (mk 16 f)) 23) (.cells (cellsOf .u8 (mk 16 g)) 23) (.cells (cellsOf .u8 (mk 16 k)) 23)
  refine (Encrypt_any _ 1 1 (oneR f) k (oneR_key hf) hk (by omega) _ (keysAt_one B4)).mono ?_
  rintro e w1 ⟨rfl, hb⟩
  have a0 := ((A0.out.alloc _).below hb (by first | (simp; done) | (simp; omega) | (rw [World.size_alloc, size_setRow, World.size_alloc]; omega) | (rw [size_setRow, World.size_alloc]; omega)))
  have a1 := ((A1.out.alloc _).below hb (by first | (simp; done) | (simp; omega) | (rw [World.size_alloc, size_setRow, World.size_alloc]; omega) | (rw [size_setRow, World.size_alloc]; omega)))
  have a2 := ((A2.out.alloc _).below hb (by first | (simp; done) | (simp; omega) | (rw [World.size_alloc, size_setRow, World.size_alloc]; omega) | (rw [size_setRow, World.size_alloc]; omega)))
  have l1 : Below w.heap.size w w1 := (L0.out.alloc (by first | (simp; done) | (simp; omega) | (rw [World.size_alloc, size_setRow, World.size_alloc]; omega) | (rw [size_setRow, World.size_alloc]; omega)) _).trans (hb.mono (by first | (simp; done) | (simp; omega) | (rw [World.size_alloc, size_setRow, World.size_alloc]; omega) | (rw [size_setRow, World.size_alloc]; omega)))
  have hs1 : w.heap.size + 1 + 1 < w1.heap.size := a2.lt
  clear hb B4 A0 A1 A2 L0
  have A0 := Lib.hid ((a0.alloc (.cells (cellsOf .u8 (mk 16 zeroK)) 23)).otherRow (C := w1.heap.size) (by omega) (cellsOf .u8 (mk 16 (encK (oneR f) 1 k))))
  have A1 := Lib.hid ((a1.alloc (.cells (cellsOf .u8 (mk 16 zeroK)) 23)).otherRow (C := w1.heap.size) (by omega) (cellsOf .u8 (mk 16 (encK (oneR f) 1 k))))
  have A2 := Lib.hid ((a2.alloc (.cells (cellsOf .u8 (mk 16 zeroK)) 23)).otherRow (C := w1.heap.size) (by omega) (cellsOf .u8 (mk 16 (encK (oneR f) 1 k))))
  have A7 := Lib.hid ((IntBlk.new w1 .u8 23 (mk 16 zeroK)).setRow .u8 (mk 16 (encK (oneR f) 1 k)))
  have L1 := Lib.hid (below_setRow (l1.alloc (by omega) (.cells (cellsOf .u8 (mk 16 zeroK)) 23)) (g := w1.heap.size) (by omega) (cellsOf .u8 (mk 16 (encK (oneR f) 1 k))))
  clear a0 a1 a2 l1
  go_wp2_with (first
    | (refine store_row_on rfl 23 _ _ rfl rfl (w1.heap.size) (cellsOf .u8 (mk 16 (encK (oneR f) 1 k))) rfl rfl 23 (cellsOf .u8 (mk 16 (zeroK))) (IntBlk.new w1 .u8 23 (mk 16 zeroK)) (keySize _) (by rw [cellsOf_size, cellsOf_size, mk_len, mk_len]) (cellsOf_one _ _) ?_)
    | (refine wpList_load_row rfl 23 _ rfl (w.heap.size) rfl 23 (cellsOf .u8 (mk 16 (f))) (0, 0) _ A0.out keyUnder rfl (keySize _) ?_)
    | (refine wpList_load_row rfl 23 _ rfl (w.heap.size + 1) rfl 23 (cellsOf .u8 (mk 16 (g))) (0, 0) _ A1.out keyUnder rfl (keySize _) ?_)
    | (refine wpList_keys2 rfl _ _ rfl f g rfl rfl ?_)
    | (refine wpList_load_row rfl 23 _ rfl (w.heap.size + 1 + 1) rfl 23 (cellsOf .u8 (mk 16 (k))) (0, 0) _ (A2.out.alloc _) keyUnder rfl (keySize _) ?_)
    | fail)
  have B5 := blk_row_new w1 (.cells (cellsOf .u8 (mk 16 zeroK)) 23) w1.heap.size (cellsOf .u8 (mk 16 (encK (oneR f) 1 k))) .u8 23 (mk 32 (twoK f g))
  refine (Encrypt_any _ 2 2 (twoR f g) k (twoR_key hf hg) hk (by omega) _ (keysAt_two B5)).mono ?_
  rintro e w2 ⟨rfl, hb⟩
  have a0 := ((A0.out.alloc _).below hb (by first | (simp; done) | (simp; omega) | (rw [World.size_alloc, size_setRow, World.size_alloc]; omega) | (rw [size_setRow, World.size_alloc]; omega)))
  have a1 := ((A1.out.alloc _).below hb (by first | (simp; done) | (simp; omega) | (rw [World.size_alloc, size_setRow, World.size_alloc]; omega) | (rw [size_setRow, World.size_alloc]; omega)))
  have a2 := ((A2.out.alloc _).below hb (by first | (simp; done) | (simp; omega) | (rw [World.size_alloc, size_setRow, World.size_alloc]; omega) | (rw [size_setRow, World.size_alloc]; omega)))
  have a7 := ((A7.out.alloc _).below hb (by first | (simp; done) | (simp; omega) | (rw [World.size_alloc, size_setRow, World.size_alloc]; omega) | (rw [size_setRow, World.size_alloc]; omega)))
  have l1 : Below w.heap.size w w2 := (L1.out.alloc (by first | (simp; done) | (simp; omega) | (rw [World.size_alloc, size_setRow, World.size_alloc]; omega) | (rw [size_setRow, World.size_alloc]; omega)) _).trans (hb.mono (by first | (simp; done) | (simp; omega) | (rw [World.size_alloc, size_setRow, World.size_alloc]; omega) | (rw [size_setRow, World.size_alloc]; omega)))
  have hs2 : w1.heap.size < w2.heap.size := a7.lt
  clear hb B5 A0 A1 A2 A7 L1
  have A0 := Lib.hid ((a0.alloc (.cells (cellsOf .u8 (mk 16 zeroK)) 23)).otherRow (C := w2.heap.size) (by omega) (cellsOf .u8 (mk 16 (encK (twoR f g) 2 k))))
  have A1 := Lib.hid ((a1.alloc (.cells (cellsOf .u8 (mk 16 zeroK)) 23)).otherRow (C := w2.heap.size) (by omega) (cellsOf .u8 (mk 16 (encK (twoR f g) 2 k))))
  have A2 := Lib.hid ((a2.alloc (.cells (cellsOf .u8 (mk 16 zeroK)) 23)).otherRow (C := w2.heap.size) (by omega) (cellsOf .u8 (mk 16 (encK (twoR f g) 2 k))))
  have A7 := Lib.hid ((a7.alloc (.cells (cellsOf .u8 (mk 16 zeroK)) 23)).otherRow (C := w2.heap.size) (by omega) (cellsOf .u8 (mk 16 (encK (twoR f g) 2 k))))
  have A8 := Lib.hid ((IntBlk.new w2 .u8 23 (mk 16 zeroK)).setRow .u8 (mk 16 (encK (twoR f g) 2 k)))
  have L1 := Lib.hid (below_setRow (l1.alloc (by omega) (.cells (cellsOf .u8 (mk 16 zeroK)) 23)) (g := w2.heap.size) (by omega) (cellsOf .u8 (mk 16 (encK (twoR f g) 2 k))))
  clear a0 a1 a2 a7 l1
  go_wp2_with (first
    | (refine store_row_on rfl 23 _ _ rfl rfl (w2.heap.size) (cellsOf .u8 (mk 16 (encK (twoR f g) 2 k))) rfl rfl 23 (cellsOf .u8 (mk 16 (zeroK))) (IntBlk.new w2 .u8 23 (mk 16 zeroK)) (keySize _) (by rw [cellsOf_size, cellsOf_size, mk_len, mk_len]) (cellsOf_one _ _) ?_)
    | (refine wpList_load_row rfl 23 _ rfl (w.heap.size + 1 + 1) rfl 23 (cellsOf .u8 (mk 16 (k))) (0, 0) _ A2.out keyUnder rfl (keySize _) ?_)
    | fail)
  refine (Encrypt_any none 0 0 (oneR k) k (fun i hi => absurd hi (Nat.not_lt_zero _)) hk (by omega) _ (.inl rfl)).mono ?_
  rintro e w3 ⟨rfl, hb⟩
  have a0 := A0.out.below hb A0.out.lt
  have a1 := A1.out.below hb A1.out.lt
  have a2 := A2.out.below hb A2.out.lt
  have a7 := A7.out.below hb A7.out.lt
  have a8 := A8.out.below hb A8.out.lt
  have l1 : Below w.heap.size w w3 := L1.out.trans (hb.mono L1.out.size)
  have hs3 : w2.heap.size < w3.heap.size := a8.lt
  clear hb A0 A1 A2 A7 A8 L1
  have N3 := Lib.hid (IntBlk.new w3 .u8 23 (mk 16 zeroK))
  go_wp2_with (first
    | (refine store_row_on rfl 23 _ _ rfl rfl (w3.heap.size) (cellsOf .u8 (mk 16 (encK (oneR k) 0 k))) rfl rfl 23 (cellsOf .u8 (mk 16 (zeroK))) N3.out (keySize _) (by rw [cellsOf_size, cellsOf_size, mk_len, mk_len]) (cellsOf_one _ _) ?_)
    | fail)
  have A0 := (a0.alloc (.cells (cellsOf .u8 (mk 16 zeroK)) 23)).otherRow (C := w3.heap.size) (by omega) (cellsOf .u8 (mk 16 (encK (oneR k) 0 k)))
  have A1 := (a1.alloc (.cells (cellsOf .u8 (mk 16 zeroK)) 23)).otherRow (C := w3.heap.size) (by omega) (cellsOf .u8 (mk 16 (encK (oneR k) 0 k)))
  have A2 := (a2.alloc (.cells (cellsOf .u8 (mk 16 zeroK)) 23)).otherRow (C := w3.heap.size) (by omega) (cellsOf .u8 (mk 16 (encK (oneR k) 0 k)))
  have A7 := (a7.alloc (.cells (cellsOf .u8 (mk 16 zeroK)) 23)).otherRow (C := w3.heap.size) (by omega) (cellsOf .u8 (mk 16 (encK (oneR k) 0 k)))
  have A8 := (a8.alloc (.cells (cellsOf .u8 (mk 16 zeroK)) 23)).otherRow (C := w3.heap.size) (by omega) (cellsOf .u8 (mk 16 (encK (oneR k) 0 k)))
  have A9 : IntBlk ((w3.alloc (.cells (cellsOf .u8 (mk 16 zeroK)) 23)).setRow w3.heap.size (cellsOf .u8 (mk 16 (encK (oneR k) 0 k)))) w3.heap.size .u8 23 (mk 16 (encK (oneR k) 0 k)) := N3.out.setRow .u8 (mk 16 (encK (oneR k) 0 k))
  have L1 := below_setRow (l1.alloc (by omega) (.cells (cellsOf .u8 (mk 16 zeroK)) 23)) (g := w3.heap.size) (by omega) (cellsOf .u8 (mk 16 (encK (oneR k) 0 k)))
  clear a0 a1 a2 a7 a8 l1 N3
  change Code.wp _ _ _ _ ((w3.alloc (.cells (cellsOf .u8 (mk 16 zeroK)) 23)).setRow w3.heap.size (cellsOf .u8 (mk 16 (encK (oneR k) 0 k))))
  generalize ((w3.alloc (.cells (cellsOf .u8 (mk 16 zeroK)) 23)).setRow w3.heap.size (cellsOf .u8 (mk 16 (encK (oneR k) 0 k)))) = W0 at *
  have H0 := Lib.hid (fun (w' : World) (h : Below W0.heap.size W0 w') => A0.below h A0.lt)
  have H1 := Lib.hid (fun (w' : World) (h : Below W0.heap.size W0 w') => A1.below h A1.lt)
  have H2 := Lib.hid (fun (w' : World) (h : Below W0.heap.size W0 w') => A2.below h A2.lt)
  have H7 := Lib.hid (fun (w' : World) (h : Below W0.heap.size W0 w') => A7.below h A7.lt)
  have H8 := Lib.hid (fun (w' : World) (h : Below W0.heap.size W0 w') => A8.below h A8.lt)
  have H9 := Lib.hid (fun (w' : World) (h : Below W0.heap.size W0 w') => A9.below h A9.lt)
  have HW := Lib.hid (fun (w' : World) (h : Below W0.heap.size W0 w') => L1.trans (h.mono L1.size))
  clear A0 A1 A2 A7 A8 A9 L1
  refine wp_region_sched [(0, true), (2, true), (4, true), (1, false), (3, false), (5, true), (6, true), (7, true), (8, true), (9, true), (10, true), (11, true), (12, true), (13, true), (15, true), (14, false), (16, false), (17, true), (18, true), (19, true), (20, true), (21, true), (22, true), (24, true), (23, false), (25, false), (26, true), (27, true), (28, true)]
    (fun w' => Below W0.heap.size W0 w') (by kernel_rfl) (by kernel_rfl) ((Below.refl _ _).drew) ?_
  iterate 3 (
    refine walk_float rfl rfl (fun K hK => ?_)
    first
      | (refine gives_move _ rfl ?_)
      | (refine gives_assign _ rfl ?_)
      | (refine gives_key_load _ rfl w.heap.size f rfl H0.out ?_)
      | (refine gives_key_load _ rfl (w.heap.size + 1) g rfl H1.out ?_)
      | (refine gives_key_load _ rfl (w.heap.size + 1 + 1) k rfl H2.out ?_)
      | (refine gives_key_load _ rfl w1.heap.size (encK (oneR f) 1 k) rfl H7.out ?_)
      | (refine gives_key_load _ rfl w2.heap.size (encK (twoR f g) 2 k) rfl H8.out ?_)
      | (refine gives_key_load _ rfl w3.heap.size (encK (oneR k) 0 k) rfl H9.out ?_)
      | (refine gives_built _ _ rfl [(0, .int .u8 1)] rfl 16 (oneK 1) built1 ?_)
      | (refine gives_built _ _ rfl [(0, .int .u8 3)] rfl 16 (oneK 3) built3 ?_)
      | (refine gives_built _ _ rfl [(0, .int .u8 2)] rfl 16 (oneK 2) built2 ?_)
      | (refine gives_built _ _ rfl [] rfl 16 zeroK built0 ?_)
      | (refine gives_pick _ _ _ rfl rfl _ rfl ?_)
      | (refine gives_key_eql _ _ rfl _ _ rfl rfl (by first | exact enc13 | exact H.out.1 | exact H.out.2.1 | exact H.out.2.2) ?_)
    go_simp
    refine hK _ ?_
    clear hK K)
  refine walk_done rfl rfl (fun K hK => ?_)
  refine done_keys1 _ rfl (oneK 1) rfl ?_
  have c1 : Below W0.heap.size W0 ((W0.drew).alloc (.cells (cellsOf .u8 (mk 16 (oneK 1))) 23)) := (((Below.refl _ _).drew : Below W0.heap.size W0 W0.drew)).alloc (((Below.refl _ _).drew : Below W0.heap.size W0 W0.drew)).size _
  refine ⟨c1, ?_⟩
  have pc1 : KeysAt ((W0.drew).alloc (.cells (cellsOf .u8 (mk 16 (oneK 1))) 23)) (some ⟨(W0.drew).heap.size, 0, none⟩) 1 (oneR (oneK 1)) := keysAt_one (IntBlk.new W0.drew .u8 23 (mk 16 (oneK 1)))
  generalize (W0.drew).alloc (.cells (cellsOf .u8 (mk 16 (oneK 1))) 23) = v1 at *
  go_simp
  refine hK _ _ ?_
  clear hK K
  refine walk_done rfl rfl (fun K hK => ?_)
  refine done_call2 _ _ _ _ rfl 22 rfl _ _ rfl rfl call_enc _ (Encrypt_any _ 1 1 (oneR (oneK 1)) (oneK 3) (oneR_key k1) k3 (by omega) v1 pc1) ?_
  intro v2 hb
  have c2 := c1.trans (hb.mono c1.size)
  refine ⟨c2, ?_⟩
  go_simp
  refine hK _ _ ?_
  clear hK K hb
  iterate 10 (
    refine walk_float rfl rfl (fun K hK => ?_)
    first
      | (refine gives_move _ rfl ?_)
      | (refine gives_assign _ rfl ?_)
      | (refine gives_key_load _ rfl w.heap.size f rfl H0.out ?_)
      | (refine gives_key_load _ rfl (w.heap.size + 1) g rfl H1.out ?_)
      | (refine gives_key_load _ rfl (w.heap.size + 1 + 1) k rfl H2.out ?_)
      | (refine gives_key_load _ rfl w1.heap.size (encK (oneR f) 1 k) rfl H7.out ?_)
      | (refine gives_key_load _ rfl w2.heap.size (encK (twoR f g) 2 k) rfl H8.out ?_)
      | (refine gives_key_load _ rfl w3.heap.size (encK (oneR k) 0 k) rfl H9.out ?_)
      | (refine gives_built _ _ rfl [(0, .int .u8 1)] rfl 16 (oneK 1) built1 ?_)
      | (refine gives_built _ _ rfl [(0, .int .u8 3)] rfl 16 (oneK 3) built3 ?_)
      | (refine gives_built _ _ rfl [(0, .int .u8 2)] rfl 16 (oneK 2) built2 ?_)
      | (refine gives_built _ _ rfl [] rfl 16 zeroK built0 ?_)
      | (refine gives_pick _ _ _ rfl rfl _ rfl ?_)
      | (refine gives_key_eql _ _ rfl _ _ rfl rfl (by first | exact enc13 | exact H.out.1 | exact H.out.2.1 | exact H.out.2.2) ?_)
    go_simp
    refine hK _ ?_
    clear hK K)
  refine walk_done rfl rfl (fun K hK => ?_)
  refine done_keys1 _ rfl (k) rfl ?_
  have c3 : Below W0.heap.size W0 ((v2).alloc (.cells (cellsOf .u8 (mk 16 (k))) 23)) := (c2).alloc (c2).size _
  refine ⟨c3, ?_⟩
  have pc3 : KeysAt ((v2).alloc (.cells (cellsOf .u8 (mk 16 (k))) 23)) (some ⟨(v2).heap.size, 0, none⟩) 1 (oneR (k)) := keysAt_one (IntBlk.new v2 .u8 23 (mk 16 (k)))
  generalize (v2).alloc (.cells (cellsOf .u8 (mk 16 (k))) 23) = v3 at *
  go_simp
  refine hK _ _ ?_
  clear hK K
  refine walk_done rfl rfl (fun K hK => ?_)
  refine done_call2 _ _ _ _ rfl 22 rfl _ _ rfl rfl call_enc _ (Encrypt_any _ 1 1 (oneR k) f (oneR_key hk) hf (by omega) v3 pc3) ?_
  intro v4 hb
  have c4 := c3.trans (hb.mono c3.size)
  refine ⟨c4, ?_⟩
  go_simp
  refine hK _ _ ?_
  clear hK K hb
  iterate 7 (
    refine walk_float rfl rfl (fun K hK => ?_)
    first
      | (refine gives_move _ rfl ?_)
      | (refine gives_assign _ rfl ?_)
      | (refine gives_key_load _ rfl w.heap.size f rfl H0.out ?_)
      | (refine gives_key_load _ rfl (w.heap.size + 1) g rfl H1.out ?_)
      | (refine gives_key_load _ rfl (w.heap.size + 1 + 1) k rfl H2.out ?_)
      | (refine gives_key_load _ rfl w1.heap.size (encK (oneR f) 1 k) rfl H7.out ?_)
      | (refine gives_key_load _ rfl w2.heap.size (encK (twoR f g) 2 k) rfl H8.out ?_)
      | (refine gives_key_load _ rfl w3.heap.size (encK (oneR k) 0 k) rfl H9.out ?_)
      | (refine gives_built _ _ rfl [(0, .int .u8 1)] rfl 16 (oneK 1) built1 ?_)
      | (refine gives_built _ _ rfl [(0, .int .u8 3)] rfl 16 (oneK 3) built3 ?_)
      | (refine gives_built _ _ rfl [(0, .int .u8 2)] rfl 16 (oneK 2) built2 ?_)
      | (refine gives_built _ _ rfl [] rfl 16 zeroK built0 ?_)
      | (refine gives_pick _ _ _ rfl rfl _ rfl ?_)
      | (refine gives_key_eql _ _ rfl _ _ rfl rfl (by first | exact enc13 | exact H.out.1 | exact H.out.2.1 | exact H.out.2.2) ?_)
    go_simp
    refine hK _ ?_
    clear hK K)
  refine walk_done rfl rfl (fun K hK => ?_)
  refine done_keys2 _ _ rfl (zeroK) (g) rfl rfl ?_
  have c5 : Below W0.heap.size W0 ((v4).alloc (.cells (cellsOf .u8 (mk 32 (twoK (zeroK) (g)))) 23)) := (c4).alloc (c4).size _
  refine ⟨c5, ?_⟩
  have pc5 : KeysAt ((v4).alloc (.cells (cellsOf .u8 (mk 32 (twoK (zeroK) (g)))) 23)) (some ⟨(v4).heap.size, 0, none⟩) 2 (twoR (zeroK) (g)) := keysAt_two (IntBlk.new v4 .u8 23 (mk 32 (twoK (zeroK) (g))))
  generalize (v4).alloc (.cells (cellsOf .u8 (mk 32 (twoK (zeroK) (g)))) 23) = v5 at *
  go_simp
  refine hK _ _ ?_
  clear hK K
  refine walk_done rfl rfl (fun K hK => ?_)
  refine done_call2 _ _ _ _ rfl 22 rfl _ _ rfl rfl call_enc _ (Encrypt_any _ 2 2 (twoR zeroK g) (encK (oneR f) 1 k) (twoR_key zero_key hg) kone (by omega) v5 pc5) ?_
  intro v6 hb
  have c6 := c5.trans (hb.mono c5.size)
  refine ⟨c6, ?_⟩
  go_simp
  refine hK _ _ ?_
  clear hK K hb
  iterate 3 (
    refine walk_float rfl rfl (fun K hK => ?_)
    first
      | (refine gives_move _ rfl ?_)
      | (refine gives_assign _ rfl ?_)
      | (refine gives_key_load _ rfl w.heap.size f rfl H0.out ?_)
      | (refine gives_key_load _ rfl (w.heap.size + 1) g rfl H1.out ?_)
      | (refine gives_key_load _ rfl (w.heap.size + 1 + 1) k rfl H2.out ?_)
      | (refine gives_key_load _ rfl w1.heap.size (encK (oneR f) 1 k) rfl H7.out ?_)
      | (refine gives_key_load _ rfl w2.heap.size (encK (twoR f g) 2 k) rfl H8.out ?_)
      | (refine gives_key_load _ rfl w3.heap.size (encK (oneR k) 0 k) rfl H9.out ?_)
      | (refine gives_built _ _ rfl [(0, .int .u8 1)] rfl 16 (oneK 1) built1 ?_)
      | (refine gives_built _ _ rfl [(0, .int .u8 3)] rfl 16 (oneK 3) built3 ?_)
      | (refine gives_built _ _ rfl [(0, .int .u8 2)] rfl 16 (oneK 2) built2 ?_)
      | (refine gives_built _ _ rfl [] rfl 16 zeroK built0 ?_)
      | (refine gives_pick _ _ _ rfl rfl _ rfl ?_)
      | (refine gives_key_eql _ _ rfl _ _ rfl rfl (by first | exact enc13 | exact H.out.1 | exact H.out.2.1 | exact H.out.2.2) ?_)
    go_simp
    refine hK _ ?_
    clear hK K)
  refine walk_nil ?_
  have H6 := Lib.hid (HW.out _ c6)
  clear c1 c2 c3 c4 c5 c6 pc1 pc3 pc5 HW H0 H1 H2 H7 H8 H9
  go_wp2
  go_ret
  exact ⟨rfl, H6.out⟩

theorem laidOut : laidOutB Try.prog = true := by kernel_rfl
set_option maxRecDepth 100000 in
theorem lifted (os : Os) (started : os.Started) (H : Type) (enc : TypeId × Value → H) :
    ReturnsInHanded {} Try.checked os 9 .any (Rows.cipherPartsSpec.pre6 enc Try.prog Try.f9 Rows.cipherPartsRow.domain false) (Rows.cipherPartsSpec.post enc Try.prog Try.f9 false true false false) := by
  refine returnsInHanded_of_change (C := Try.checked) own started (by kernel_rfl) Try.func9
    (ChangeSpec.witness6 (enc := enc) (C := Try.checked) false ⟨#[], #[.agg #[.int .u8 0, .int .u8 0, .int .u8 0, .int .u8 0, .int .u8 0, .int .u8 0, .int .u8 0, .int .u8 0, .int .u8 0, .int .u8 0, .int .u8 0, .int .u8 0, .int .u8 0, .int .u8 0, .int .u8 0, .int .u8 0], .agg #[.int .u8 0, .int .u8 0, .int .u8 0, .int .u8 0, .int .u8 0, .int .u8 0, .int .u8 0, .int .u8 0, .int .u8 0, .int .u8 0, .int .u8 0, .int .u8 0, .int .u8 0, .int .u8 0, .int .u8 0, .int .u8 0], .agg #[.int .u8 0, .int .u8 0, .int .u8 0, .int .u8 0, .int .u8 0, .int .u8 0, .int .u8 0, .int .u8 0, .int .u8 0, .int .u8 0, .int .u8 0, .int .u8 0, .int .u8 0, .int .u8 0, .int .u8 0, .int .u8 0]], []⟩ 8 (by kernel_rfl) (by kernel_rfl) (by kernel_rfl) (by kernel_rfl)) ?_
  intro W base args ds gs before hval0 hW hcnd _
  have hval : ∀ (j : Nat) t v, Try.f9.params[j]? = some t → args[j]? = some v → Value.okWide Try.prog W .any base t v := hval0
  have hW' := hW
  obtain ⟨p, q, hA0, hV, rfl, hfz, hnd⟩ := hW
  have hA : DataW.TrodAll enc Try.prog W 0 (fun _ => true) true Try.f9.params.toList args.toList ds p := hA0
  rw [Try.params9] at hA hval
  obtain ⟨v0, vs0, d0, ds0, p0, q0, hargs, rfl, rfl, h0, r0⟩ := trodAll_cons hA
  obtain ⟨v1, vs1, d1, ds1, p1, q1, rfl, rfl, rfl, h1, r1⟩ := trodAll_cons r0
  obtain ⟨v2, vs2, d2, ds2, p2, q2, rfl, rfl, rfl, h2, r2⟩ := trodAll_cons r1
  obtain ⟨rfl, rfl, rfl⟩ := trodAll_nil r2
  obtain rfl : args = #[v0, v1, v2] := by cases args; simp_all
  obtain ⟨rfl, rfl⟩ := trodVars_none hV
  have k0 := h0
  have lt0 : ∀ x ∈ p0, x.block < W.heap.size := by obtain ⟨m, hm⟩ := k0; exact DataW.trod_lt m _ _ _ hm
  obtain ⟨a0, w0, rfl⟩ := open_bytes Try.underlying23 Try.underlying5 (by kernel_rfl) (by kernel_rfl) (hval 0 23 v0 rfl rfl) h0
  have k1 := h1
  have lt1 : ∀ x ∈ p1, x.block < W.heap.size := by obtain ⟨m, hm⟩ := k1; exact DataW.trod_lt m _ _ _ hm
  obtain ⟨a1, w1, rfl⟩ := open_bytes Try.underlying23 Try.underlying5 (by kernel_rfl) (by kernel_rfl) (hval 1 23 v1 rfl rfl) h1
  have k2 := h2
  have lt2 : ∀ x ∈ p2, x.block < W.heap.size := by obtain ⟨m, hm⟩ := k2; exact DataW.trod_lt m _ _ _ hm
  obtain ⟨a2, w2, rfl⟩ := open_bytes Try.underlying23 Try.underlying5 (by kernel_rfl) (by kernel_rfl) (hval 2 23 v2 rfl rfl) h2
  clear hA0 hval0
  refine (walk a0 a1 a2 w0 w1 w2 W).mono fun e W' ⟨he, bel⟩ => ?_
  subst he
  exact ⟨_, rfl, _, _, _, [], _, [], hW', trodAll_mk1 (shut_bool Try.underlying4 _), (trodAll_cons_mk (Below.trod laidOut (by kernel_rfl) (of_decide_eq_true (by kernel_rfl)) k0 bel lt0) (trodAll_cons_mk (Below.trod laidOut (by kernel_rfl) (of_decide_eq_true (by kernel_rfl)) k1 bel lt1) (trodAll_cons_mk (Below.trod laidOut (by kernel_rfl) (of_decide_eq_true (by kernel_rfl)) k2 bel lt2) trodAll_mk0))), rfl, bel.frame _, fun h => by cases h⟩

theorem over : Rows.cipherPartsRow.holds Try.pinned (OpenSpec.ofChange Rows.cipherPartsSpec) :=
  OpenClaim.holds_of_wide 9 Try.f9 rfl rfl rfl rfl rfl rfl rfl ⟨rfl, rfl, rfl, rfl, rfl⟩ rfl rfl rfl rfl rfl (by kernel_rfl) Try.func9 (by kernel_rfl)
    (of_decide_eq_true (by kernel_rfl)) (by unfold Func.isWrapper; first | (rw [if_pos (by decide +kernel)]; kernel_rfl) | (rw [if_neg (by decide +kernel)]; exact ⟨rfl, rfl⟩))
    (fun os started H enc _ => lifted os started H enc)

theorem proved : Rows.CipherPartsSaid := over
end Go.Proofs.Ytilfjmpoiiepkaa.cipherParts
