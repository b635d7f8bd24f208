/- The program's told and Decode: three numbers taken, then a row; and package pdu answers as asked. Condition: as each says. -/
import Derived.Test.YtebbnkkhabehmaaPdS3
namespace Go.Proofs.Ytebbnkkhabehmaa
open Go.ChangeShapes Go.WideShapes Go.ChangeAt Go.RowKit
set_option linter.unusedVariables false
set_option linter.unusedSimpArgs false
theorem results_cell_row_tmp2 {P : Program} {fn : Func} {p u v : Tmp} {ty : TypeId} (h : fn.results = #[.cell p ty, .tmp u, .tmp v]) (tmps : Array Value) (w : World) (g : Nat) (t : TypeId) (cs : Array Value) (fr : Nat × Nat) (d : TypeDesc)
    (hp : tmps.getD p undef = .pointer (some ⟨g, 0, none⟩)) (hg : w.heap[g]? = some (.cells cs t fr)) (hu : P.underlying ty = some d) (hd : (match d with | .struct _ | .array _ _ => true | _ => false) = true) (hi : (P.info? ty).map (·.size) = some cs.size) :
    (results fn tmps).run P w = .ok (.tuple #[.agg cs, tmps.getD u undef, tmps.getD v undef]) w := by
  have hp' : tmps[p]?.getD undef = .pointer (some ⟨g, 0, none⟩) := by simpa using hp
  simp [results, h, hp', asAddr, run_loadVar_row w g t ty cs fr d hg hu hd hi]
section
variable {ops : Array Oper} {rest : List Oper} {o : Oper} {a : Act} {w : World} {Q : Exit → Act → World → Prop}
theorem wpList_fr4 (hgd : o.guard = none) (x0 x1 x2 x3 : Operand) (ho : o.op = .build 24 #[(0, x0), (1, x1), (2, x2), (3, x3)]) (k n c : Int) (p : Option Addr) (d cd : Nat) (h0 : a.eval x0 = .int .i64 k) (h1 : a.eval x1 = .int .i64 n) (h2 : a.eval x2 = .int .i64 c) (h3 : a.eval x3 = .slice p d cd)
    (h : wpList Try.prog ops Q rest (a.put o.dst (.agg (frA k n c p d cd))) w) : wpList Try.prog ops Q (o :: rest) a w :=
  wpList_build_any hgd 24 _ #[(0, .int .i64 k), (1, .int .i64 n), (2, .int .i64 c), (3, .slice p d cd)] _ ho (by simp [h0, h1, h2, h3]) (fun w => run_build w 24 #[(0, .int .i64 k), (1, .int .i64 n), (2, .int .i64 c), (3, .slice p d cd)] _ (fr_built4 k n c p d cd)) h
end
theorem fr_built0' : Try.prog.built 24 [] = some (frA 0 0 0 none 0 0) := by kernel_rfl
theorem wpList_fr0' {ops : Array Oper} {rest : List Oper} {o : Oper} {a : Act} {w : World} {Q : Exit → Act → World → Prop} (hgd : o.guard = none) (ho : o.op = .build 24 #[])
    (h : wpList Try.prog ops Q rest (a.put o.dst (.agg (frA 0 0 0 none 0 0))) w) : wpList Try.prog ops Q (o :: rest) a w :=
  wpList_build_any hgd 24 _ #[] _ ho (by simp) (fun w => run_build w 24 #[] _ fr_built0') h
theorem num_k {F : Nat → Nat} (h : F 0 < 256) : IntKind.i64.wrap ((valN 1 F : Nat) : Int) = kF F := by
  have h3 : valN 1 F = F 0 := by simp [valN]
  rw [h3, IntWalk.i64_in _ (by omega)]; rfl
theorem num_c {F : Nat → Nat} (h : F 5 < 256) : IntKind.i64.wrap ((valN 1 (fun j => F (1 + (4 + j))) : Nat) : Int) = cF F := by
  have h3 : valN 1 (fun j => F (1 + (4 + j))) = F 5 := by simp [valN]
  rw [h3, IntWalk.i64_in _ (by omega)]; rfl
theorem num_n {F : Nat → Nat} (h : ∀ j, j < 4 → F (1 + j) < 256) : IntKind.i64.wrap ((valN 4 (fun j => F (1 + j)) : Nat) : Int) = nF F := by
  have := valN_lt (g := fun j => F (1 + j)) 4 h
  rw [IntWalk.i64_in _ (by omega)]; rfl
theorem take_step {s n m cap : Nat} {g : Nat → Nat} {z : Int} {p : Option Addr} (hs : IsSize s) (hm : n = s + m) (hg : ∀ j, j < n → g j < 256) (hc : n ≤ cap) (hn : n ≤ 140737488351232) (hz : IntKind.i64.wrap ((valN s g : Nat) : Int) = z) (W : World) (hp : BytesAt W p n g) :
    Calls Try.prog 40 #[.slice p n cap, .int .i64 s] W fun e W' => ∃ D, e = .returned (.tuple #[.int .i64 z, .slice (some ⟨D, 0, none⟩) m m, .nilIface]) ∧ BytesAt W' (some ⟨D, 0, none⟩) m (fun j => g (s + j)) ∧ Below W.heap.size W W' := by
  refine (Take_ok p n cap g hg s hs (by omega) hc (by omega) W hp).mono ?_
  rintro e W' ⟨D, rfl, b, _, l⟩
  rw [show n - s = m by omega] at *
  exact ⟨D, by rw [hz], b.bytesAt, l⟩
theorem rowtake_step {n m x cap : Nat} {g : Nat → Nat} {p : Option Addr} (hm : n = 2 + m + x) (hl : lenAt g 0 = m) (hg : ∀ j, j < n → g j < 256) (hc : n ≤ cap) (hn : n ≤ 140737488351232) (W : World) (hp : BytesAt W p n g) :
    Calls Try.prog 41 #[.slice p n cap] W fun e W' => ∃ D1 D2, e = .returned (.tuple #[.slice (some ⟨D1, 0, none⟩) m m, .slice (some ⟨D2, 0, none⟩) x x, .nilIface]) ∧ (IntBlk W' D1 .u8 5 (mk m (fun j => g (2 + j))) ∧ W.heap.size ≤ D1) ∧ Below W.heap.size W W' := by
  refine (TakeRow_ok p n cap g hg hc (by omega) (2 + m) m (by omega) (by omega) (by omega) W hp).mono ?_
  rintro e W' ⟨D1, D2, rfl, b, _, h1, _, l⟩
  rw [show n - (2 + m) = x by omega] at *
  exact ⟨D1, D2, rfl, ⟨b, h1⟩, l⟩
attribute [local irreducible] frA frT mk zeroK inF inK numF kF nF cF gF valN lenAt
attribute [local go_sem] Oper.semAt_some
set_option maxRecDepth 100000 in
set_option maxHeartbeats 2000000 in
theorem told_0 {w : World} {p : Option Addr} {N cap : Nat} {F : Nat → Nat} (hc : N ≤ cap) (hn : N ≤ 140737488351232) (hF : ∀ j, j < N → F j < 256) (hp : BytesAt w p N F) (h0 : N = 0) : Calls Try.prog 28 #[.slice p N cap] w fun e w' => e = .returned (.tuple #[.agg (frA 0 0 0 none 0 0), .slice none 0 0, .iface 35 (.int .i64 2)]) ∧ Below w.heap.size w w' := by
  have HP := Lib.hid (fun (W : World) (h : Below w.heap.size w W) => hp.below h)
  have A0 := Lib.hid (fun (W : World) => Take_short p N cap 1 (.inl rfl) (by omega) W)
  clear hc hn hF hp h0
  go_enter Try.func28, Try.ntmps28
  go_wp2_with (first
    | (with_reducible show wpList _ _ _ (⟨some 2, Op.alloc 24, _, _, _, _⟩ :: _) _ _
       refine wpList_boxA_new rowFr rfl rfl _ rfl ?_
       intro w0 xx ll ss
       have P := Lib.hid (show LwB w [bxO w.heap.size 24 (frA 0 0 0 none 0 0)] w0 from (LwB.none w).add ll xx (Nat.le_refl _))
       clear xx ll ss)
    | (go_at_call 40
       refine (A0.out _).mono ?_; rintro e wz ⟨rfl, rfl⟩
       clear A0)
    | (with_reducible show wpList _ _ _ (⟨_, Op.build 24 #[], _, _, _, none⟩ :: _) _ _
       refine wpList_fr0' rfl rfl ?_)
    | (with_reducible show wpList _ _ _ (⟨_, Op.store 24 (.tmp 2) _, _, _, _, none⟩ :: _) _ _
       refine wpList_boxA_put rowFr rfl _ _ rfl rfl w.heap.size (frA 0 0 0 none 0 0) _ (frA_size _ _ _ _ _ _) (frA_one _ _ _ _ _ _) (frA_size _ _ _ _ _ _) rfl rfl (P.out.bx (i := 0) rfl) ?_
       intro w9 x9 k9 s9
       have P9 := Lib.hid (P.out.put 0 rfl x9 k9)
       clear x9 k9 s9 P))
  exact bodyPost_ret (results_cell_row_tmp2 rfl _ _ w.heap.size 24 (frA 0 0 0 none 0 0) (0, 0) _ rfl (P9.out.bx (i := 0) rfl) Try.underlying24 rfl (by rw [frA_size]; exact rowFr.size)) rfl ⟨rfl, P9.out.low⟩
set_option maxRecDepth 100000 in
set_option maxHeartbeats 2000000 in
theorem told_1 {w : World} {p : Option Addr} {N cap : Nat} {F : Nat → Nat} (hc : N ≤ cap) (hn : N ≤ 140737488351232) (hF : ∀ j, j < N → F j < 256) (hp : BytesAt w p N F) {M1 : Nat} (h1 : N = 1 + M1) (h5 : M1 < 4) : Calls Try.prog 28 #[.slice p N cap] w fun e w' => e = .returned (.tuple #[.agg (frA 0 0 0 none 0 0), .slice none 0 0, .iface 35 (.int .i64 2)]) ∧ Below w.heap.size w w' := by
  have HP := Lib.hid (fun (W : World) (h : Below w.heap.size w W) => hp.below h)
  have A1 := Lib.hid (fun (W : World) (h : BytesAt W p N F) => take_step (s := 1) (m := M1) (z := kF F) (.inl rfl) (by omega) hF hc hn (num_k (hF 0 (by omega))) W h)
  have A0 := Lib.hid (fun (W : World) (D : Nat) => Take_short (some ⟨D, 0, none⟩) M1 M1 4 (.inr (.inr (.inl rfl))) h5 W)
  clear hc hn hF hp h1 h5
  go_enter Try.func28, Try.ntmps28
  go_wp2_with (first
    | (with_reducible show wpList _ _ _ (⟨some 2, Op.alloc 24, _, _, _, _⟩ :: _) _ _
       refine wpList_boxA_new rowFr rfl rfl _ rfl ?_
       intro w0 xx ll ss
       have P := Lib.hid (show LwB w [bxO w.heap.size 24 (frA 0 0 0 none 0 0)] w0 from (LwB.none w).add ll xx (Nat.le_refl _))
       clear xx ll ss)
    | (go_at_call 40
       refine (A1.out _ (HP.out _ P.out.low)).mono ?_; rintro e wz ⟨D1, rfl, b1, lz⟩
       have PP := Lib.hid (P.out.mono lz)
       have B1 := Lib.hid b1
       clear b1
       clear lz P A1
       have P := PP
       clear PP)
    | (go_at_call 40
       refine (A0.out _ D1).mono ?_; rintro e wz ⟨rfl, rfl⟩
       clear A0)
    | (with_reducible show wpList _ _ _ (⟨_, Op.build 24 #[], _, _, _, none⟩ :: _) _ _
       refine wpList_fr0' rfl rfl ?_)
    | (with_reducible show wpList _ _ _ (⟨_, Op.store 24 (.tmp 2) _, _, _, _, none⟩ :: _) _ _
       refine wpList_boxA_put rowFr rfl _ _ rfl rfl w.heap.size (frA 0 0 0 none 0 0) _ (frA_size _ _ _ _ _ _) (frA_one _ _ _ _ _ _) (frA_size _ _ _ _ _ _) rfl rfl (P.out.bx (i := 0) rfl) ?_
       intro w9 x9 k9 s9
       have P9 := Lib.hid (P.out.put 0 rfl x9 k9)
       clear x9 k9 s9 P))
  exact bodyPost_ret (results_cell_row_tmp2 rfl _ _ w.heap.size 24 (frA 0 0 0 none 0 0) (0, 0) _ rfl (P9.out.bx (i := 0) rfl) Try.underlying24 rfl (by rw [frA_size]; exact rowFr.size)) rfl ⟨rfl, P9.out.low⟩
set_option maxRecDepth 100000 in
set_option maxHeartbeats 2000000 in
theorem told_5 {w : World} {p : Option Addr} {N cap : Nat} {F : Nat → Nat} (hc : N ≤ cap) (hn : N ≤ 140737488351232) (hF : ∀ j, j < N → F j < 256) (hp : BytesAt w p N F) {M1 M5 : Nat} (h1 : N = 1 + M1) (h5 : M1 = 4 + M5) (h6 : M5 < 1) : Calls Try.prog 28 #[.slice p N cap] w fun e w' => e = .returned (.tuple #[.agg (frA 0 0 0 none 0 0), .slice none 0 0, .iface 35 (.int .i64 2)]) ∧ Below w.heap.size w w' := by
  have HP := Lib.hid (fun (W : World) (h : Below w.heap.size w W) => hp.below h)
  have A1 := Lib.hid (fun (W : World) (h : BytesAt W p N F) => take_step (s := 1) (m := M1) (z := kF F) (.inl rfl) (by omega) hF hc hn (num_k (hF 0 (by omega))) W h)
  have A2 := Lib.hid (fun (W : World) (D : Nat) (h : BytesAt W (some ⟨D, 0, none⟩) M1 (fun j => F (1 + j))) => take_step (s := 4) (m := M5) (z := nF F) (cap := M1) (.inr (.inr (.inl rfl))) (by omega) (fun j hj => hF _ (by omega)) (Nat.le_refl _) (by omega) (num_n (fun j hj => hF _ (by omega))) W h)
  have A0 := Lib.hid (fun (W : World) (D : Nat) => Take_short (some ⟨D, 0, none⟩) M5 M5 1 (.inl rfl) h6 W)
  clear hc hn hF hp h1 h5 h6
  go_enter Try.func28, Try.ntmps28
  go_wp2_with (first
    | (with_reducible show wpList _ _ _ (⟨some 2, Op.alloc 24, _, _, _, _⟩ :: _) _ _
       refine wpList_boxA_new rowFr rfl rfl _ rfl ?_
       intro w0 xx ll ss
       have P := Lib.hid (show LwB w [bxO w.heap.size 24 (frA 0 0 0 none 0 0)] w0 from (LwB.none w).add ll xx (Nat.le_refl _))
       clear xx ll ss)
    | (go_at_call 40
       refine (A1.out _ (HP.out _ P.out.low)).mono ?_; rintro e wz ⟨D1, rfl, b1, lz⟩
       have PP := Lib.hid (P.out.mono lz)
       have B1 := Lib.hid b1
       clear b1
       clear lz P A1
       have P := PP
       clear PP)
    | (go_at_call 40
       refine (A2.out _ _ B1.out).mono ?_; rintro e wz ⟨D2, rfl, b2, lz⟩
       have PP := Lib.hid (P.out.mono lz)
       have B2 := Lib.hid b2
       clear b2 B1
       clear lz P A2
       have P := PP
       clear PP)
    | (go_at_call 40
       refine (A0.out _ D2).mono ?_; rintro e wz ⟨rfl, rfl⟩
       clear A0)
    | (with_reducible show wpList _ _ _ (⟨_, Op.build 24 #[], _, _, _, none⟩ :: _) _ _
       refine wpList_fr0' rfl rfl ?_)
    | (with_reducible show wpList _ _ _ (⟨_, Op.store 24 (.tmp 2) _, _, _, _, none⟩ :: _) _ _
       refine wpList_boxA_put rowFr rfl _ _ rfl rfl w.heap.size (frA 0 0 0 none 0 0) _ (frA_size _ _ _ _ _ _) (frA_one _ _ _ _ _ _) (frA_size _ _ _ _ _ _) rfl rfl (P.out.bx (i := 0) rfl) ?_
       intro w9 x9 k9 s9
       have P9 := Lib.hid (P.out.put 0 rfl x9 k9)
       clear x9 k9 s9 P))
  exact bodyPost_ret (results_cell_row_tmp2 rfl _ _ w.heap.size 24 (frA 0 0 0 none 0 0) (0, 0) _ rfl (P9.out.bx (i := 0) rfl) Try.underlying24 rfl (by rw [frA_size]; exact rowFr.size)) rfl ⟨rfl, P9.out.low⟩
set_option maxRecDepth 100000 in
set_option maxHeartbeats 2000000 in
theorem told_6 {w : World} {p : Option Addr} {N cap : Nat} {F : Nat → Nat} (hc : N ≤ cap) (hn : N ≤ 140737488351232) (hF : ∀ j, j < N → F j < 256) (hp : BytesAt w p N F) {M1 M5 M6 : Nat} (h1 : N = 1 + M1) (h5 : M1 = 4 + M5) (h6 : M5 = 1 + M6) (h8 : M6 < 2 ∨ M6 < 2 + lenAt (fun j => F (1 + (4 + (1 + j)))) 0) : Calls Try.prog 28 #[.slice p N cap] w fun e w' => e = .returned (.tuple #[.agg (frA 0 0 0 none 0 0), .slice none 0 0, .iface 35 (.int .i64 2)]) ∧ Below w.heap.size w w' := by
  have HP := Lib.hid (fun (W : World) (h : Below w.heap.size w W) => hp.below h)
  have A1 := Lib.hid (fun (W : World) (h : BytesAt W p N F) => take_step (s := 1) (m := M1) (z := kF F) (.inl rfl) (by omega) hF hc hn (num_k (hF 0 (by omega))) W h)
  have A2 := Lib.hid (fun (W : World) (D : Nat) (h : BytesAt W (some ⟨D, 0, none⟩) M1 (fun j => F (1 + j))) => take_step (s := 4) (m := M5) (z := nF F) (cap := M1) (.inr (.inr (.inl rfl))) (by omega) (fun j hj => hF _ (by omega)) (Nat.le_refl _) (by omega) (num_n (fun j hj => hF _ (by omega))) W h)
  have A3 := Lib.hid (fun (W : World) (D : Nat) (h : BytesAt W (some ⟨D, 0, none⟩) M5 (fun j => F (1 + (4 + j)))) => take_step (s := 1) (m := M6) (z := cF F) (cap := M5) (.inl rfl) (by omega) (fun j hj => hF _ (by omega)) (Nat.le_refl _) (by omega) (num_c (hF 5 (by omega))) W h)
  have A4 := Lib.hid (fun (W : World) (D : Nat) (h : BytesAt W (some ⟨D, 0, none⟩) M6 (fun j => F (1 + (4 + (1 + j))))) => TakeRow_none (some ⟨D, 0, none⟩) M6 M6 (fun j => F (1 + (4 + (1 + j)))) (fun j hj => hF _ (by omega)) (Nat.le_refl _) (by omega) h8 W h)
  clear hc hn hF hp h1 h5 h6 h8
  go_enter Try.func28, Try.ntmps28
  go_wp2_with (first
    | (with_reducible show wpList _ _ _ (⟨some 2, Op.alloc 24, _, _, _, _⟩ :: _) _ _
       refine wpList_boxA_new rowFr rfl rfl _ rfl ?_
       intro w0 xx ll ss
       have P := Lib.hid (show LwB w [bxO w.heap.size 24 (frA 0 0 0 none 0 0)] w0 from (LwB.none w).add ll xx (Nat.le_refl _))
       clear xx ll ss)
    | (go_at_call 40
       refine (A1.out _ (HP.out _ P.out.low)).mono ?_; rintro e wz ⟨D1, rfl, b1, lz⟩
       have PP := Lib.hid (P.out.mono lz)
       have B1 := Lib.hid b1
       clear b1
       clear lz P A1
       have P := PP
       clear PP)
    | (go_at_call 40
       refine (A2.out _ _ B1.out).mono ?_; rintro e wz ⟨D2, rfl, b2, lz⟩
       have PP := Lib.hid (P.out.mono lz)
       have B2 := Lib.hid b2
       clear b2 B1
       clear lz P A2
       have P := PP
       clear PP)
    | (go_at_call 40
       refine (A3.out _ _ B2.out).mono ?_; rintro e wz ⟨D3, rfl, b3, lz⟩
       have PP := Lib.hid (P.out.mono lz)
       have B3 := Lib.hid b3
       clear b3 B2
       clear lz P A3
       have P := PP
       clear PP)
    | (go_at_call 41
       refine (A4.out _ _ B3.out).mono ?_; rintro e wz ⟨rfl, rfl⟩
       clear A4)
    | (with_reducible show wpList _ _ _ (⟨_, Op.build 24 #[], _, _, _, none⟩ :: _) _ _
       refine wpList_fr0' rfl rfl ?_)
    | (with_reducible show wpList _ _ _ (⟨_, Op.store 24 (.tmp 2) _, _, _, _, none⟩ :: _) _ _
       refine wpList_boxA_put rowFr rfl _ _ rfl rfl w.heap.size (frA 0 0 0 none 0 0) _ (frA_size _ _ _ _ _ _) (frA_one _ _ _ _ _ _) (frA_size _ _ _ _ _ _) rfl rfl (P.out.bx (i := 0) rfl) ?_
       intro w9 x9 k9 s9
       have P9 := Lib.hid (P.out.put 0 rfl x9 k9)
       clear x9 k9 s9 P))
  exact bodyPost_ret (results_cell_row_tmp2 rfl _ _ w.heap.size 24 (frA 0 0 0 none 0 0) (0, 0) _ rfl (P9.out.bx (i := 0) rfl) Try.underlying24 rfl (by rw [frA_size]; exact rowFr.size)) rfl ⟨rfl, P9.out.low⟩
set_option maxRecDepth 100000 in
set_option maxHeartbeats 2000000 in
theorem told_ok {w : World} {p : Option Addr} {N cap : Nat} {F : Nat → Nat} (hc : N ≤ cap) (hn : N ≤ 140737488351232) (hF : ∀ j, j < N → F j < 256) (hp : BytesAt w p N F) {M1 M5 M6 d x : Nat} (h1 : N = 1 + M1) (h5 : M1 = 4 + M5) (h6 : M5 = 1 + M6) (h8 : M6 = 2 + d + x) (hd : lenAt (fun j => F (1 + (4 + (1 + j)))) 0 = d) : Calls Try.prog 28 #[.slice p N cap] w fun e w' => ∃ D D2, e = .returned (.tuple #[.agg (frA (kF F) (nF F) (cF F) (some ⟨D, 0, none⟩) d d), .slice (some ⟨D2, 0, none⟩) x x, .nilIface]) ∧ IntBlk w' D .u8 5 (mk d (fun j => F (1 + (4 + (1 + (2 + j)))))) ∧ w.heap.size ≤ D ∧ Below w.heap.size w w' := by
  have HP := Lib.hid (fun (W : World) (h : Below w.heap.size w W) => hp.below h)
  have A1 := Lib.hid (fun (W : World) (h : BytesAt W p N F) => take_step (s := 1) (m := M1) (z := kF F) (.inl rfl) (by omega) hF hc hn (num_k (hF 0 (by omega))) W h)
  have A2 := Lib.hid (fun (W : World) (D : Nat) (h : BytesAt W (some ⟨D, 0, none⟩) M1 (fun j => F (1 + j))) => take_step (s := 4) (m := M5) (z := nF F) (cap := M1) (.inr (.inr (.inl rfl))) (by omega) (fun j hj => hF _ (by omega)) (Nat.le_refl _) (by omega) (num_n (fun j hj => hF _ (by omega))) W h)
  have A3 := Lib.hid (fun (W : World) (D : Nat) (h : BytesAt W (some ⟨D, 0, none⟩) M5 (fun j => F (1 + (4 + j)))) => take_step (s := 1) (m := M6) (z := cF F) (cap := M5) (.inl rfl) (by omega) (fun j hj => hF _ (by omega)) (Nat.le_refl _) (by omega) (num_c (hF 5 (by omega))) W h)
  have A4 := Lib.hid (fun (W : World) (D : Nat) (h : BytesAt W (some ⟨D, 0, none⟩) M6 (fun j => F (1 + (4 + (1 + j))))) => rowtake_step (p := some ⟨D, 0, none⟩) (cap := M6) (m := d) (x := x) h8 hd (fun j hj => hF _ (by omega)) (Nat.le_refl _) (by omega) W h)
  clear hc hn hF hp h1 h5 h6 h8 hd
  go_enter Try.func28, Try.ntmps28
  go_wp2_with (first
    | (with_reducible show wpList _ _ _ (⟨some 2, Op.alloc 24, _, _, _, _⟩ :: _) _ _
       refine wpList_boxA_new rowFr rfl rfl _ rfl ?_
       intro w0 xx ll ss
       have P := Lib.hid (show LwB w [bxO w.heap.size 24 (frA 0 0 0 none 0 0)] w0 from (LwB.none w).add ll xx (Nat.le_refl _))
       clear xx ll ss)
    | (go_at_call 40
       refine (A1.out _ (HP.out _ P.out.low)).mono ?_; rintro e wz ⟨D1, rfl, b1, lz⟩
       have PP := Lib.hid (P.out.mono lz)
       have B1 := Lib.hid b1
       clear b1
       clear lz P A1
       have P := PP
       clear PP)
    | (go_at_call 40
       refine (A2.out _ _ B1.out).mono ?_; rintro e wz ⟨D2, rfl, b2, lz⟩
       have PP := Lib.hid (P.out.mono lz)
       have B2 := Lib.hid b2
       clear b2 B1
       clear lz P A2
       have P := PP
       clear PP)
    | (go_at_call 40
       refine (A3.out _ _ B2.out).mono ?_; rintro e wz ⟨D3, rfl, b3, lz⟩
       have PP := Lib.hid (P.out.mono lz)
       have B3 := Lib.hid b3
       clear b3 B2
       clear lz P A3
       have P := PP
       clear PP)
    | (go_at_call 41
       refine (A4.out _ _ B3.out).mono ?_; rintro e wz ⟨D4, D5, rfl, b4, lz⟩
       have PP := Lib.hid (P.out.mono lz)
       have B4 := Lib.hid b4.1
       have Z4 := Lib.hid (Nat.le_trans P.out.low.size b4.2)
       have Z5 := Lib.hid (show D4 ≠ w.heap.size from by have h1 := P.out.lt (i := 0) rfl; have h2 := b4.2; simp only [bxO] at h1; omega)
       clear b4 B3
       clear lz P A4
       have P := PP
       clear PP)
    | (with_reducible show wpList _ _ _ (⟨some 55, Op.build 24 _, _, _, _, none⟩ :: _) _ _
       refine wpList_fr4 rfl _ _ _ _ rfl (kF F) (nF F) (cF F) (some ⟨D4, 0, none⟩) d d rfl rfl rfl rfl ?_)
    | (with_reducible show wpList _ _ _ (⟨_, Op.store 24 (.tmp 2) _, _, _, _, none⟩ :: _) _ _
       refine wpList_boxA_put rowFr rfl _ _ rfl rfl w.heap.size (frA (kF F) (nF F) (cF F) (some ⟨D4, 0, none⟩) d d) _ (frA_size _ _ _ _ _ _) (frA_one _ _ _ _ _ _) (frA_size _ _ _ _ _ _) rfl rfl (P.out.bx (i := 0) rfl) ?_
       intro w9 x9 k9 s9
       have P9 := Lib.hid (P.out.put 0 rfl x9 k9)
       have B9 := Lib.hid (show IntBlk w9 D4 .u8 5 (mk d (fun j => F (1 + (4 + (1 + (2 + j)))))) from (k9.block D4 B4.out.lt (fun e => Z5.out e)).trans B4.out)
       clear x9 k9 s9 P B4))
  exact bodyPost_ret (results_cell_row_tmp2 rfl _ _ w.heap.size 24 (frA (kF F) (nF F) (cF F) (some ⟨D4, 0, none⟩) d d) (0, 0) _ rfl (P9.out.bx (i := 0) rfl) Try.underlying24 rfl (by rw [frA_size]; exact rowFr.size)) rfl ⟨D4, D5, rfl, B9.out, Z4.out, P9.out.low⟩
set_option maxRecDepth 100000 in
set_option maxHeartbeats 2000000 in
theorem Decode_long {w : World} (p : Option Addr) (N cap : Nat) (hl : 4104 < N) : Calls Try.prog 16 #[.slice p N cap] w fun e w' => e = .returned (.tuple #[.agg (frA 0 0 0 none 0 0), .iface 35 (.int .i64 10)]) ∧ Below w.heap.size w w' := by
  have l1 : decide ((4104 : Int) < (N : Int)) = true := by simp; omega
  have l2 : decide (4104 < N) = true := by simp; omega
  clear hl
  go_enter Try.func16, Try.ntmps16
  go_wp2_with (first
  | (with_reducible show wpList _ _ _ (⟨some 2, Op.alloc 24, _, _, _, _⟩ :: _) _ _
     refine wpList_boxA_new rowFr rfl rfl _ rfl ?_
     intro w0 xx ll ss
     have P := Lib.hid (show LwB w [bxO w.heap.size 24 (frA 0 0 0 none 0 0)] w0 from (LwB.none w).add ll xx (Nat.le_refl _))
     clear xx ll ss)
  | (with_reducible show wpList _ _ _ (⟨_, Op.build 24 #[], _, _, _, none⟩ :: _) _ _
     refine wpList_fr0' rfl rfl ?_)
  | (with_reducible show wpList _ _ _ (⟨_, Op.store 24 (.tmp 2) _, _, _, _, none⟩ :: _) _ _
     refine wpList_boxA_put rowFr rfl _ _ rfl rfl w.heap.size (frA 0 0 0 none 0 0) _ (frA_size _ _ _ _ _ _) (frA_one _ _ _ _ _ _) (frA_size _ _ _ _ _ _) rfl rfl (P.out.bx (i := 0) rfl) ?_
     intro w9 x9 k9 s9
     have P9 := Lib.hid (P.out.put 0 rfl x9 k9)
     clear x9 k9 s9 P))
  exact bodyPost_ret (results_cell_row_tmp rfl _ _ w.heap.size 24 (frA 0 0 0 none 0 0) (0, 0) _ rfl (P9.out.bx (i := 0) rfl) Try.underlying24 rfl (by rw [frA_size]; exact rowFr.size)) rfl ⟨rfl, P9.out.low⟩
set_option maxRecDepth 100000 in
set_option maxHeartbeats 2000000 in
theorem Decode_bad {w : World} {p : Option Addr} {N cap : Nat} (hl : N ≤ 4104) (ht : ∀ W, Below w.heap.size w W → Calls Try.prog 28 #[.slice p N cap] W fun e W' => e = .returned (.tuple #[.agg (frA 0 0 0 none 0 0), .slice none 0 0, .iface 35 (.int .i64 2)]) ∧ Below W.heap.size W W') : Calls Try.prog 16 #[.slice p N cap] w fun e w' => e = .returned (.tuple #[.agg (frA 0 0 0 none 0 0), .iface 35 (.int .i64 10)]) ∧ Below w.heap.size w w' := by
  have l1 : decide ((4104 : Int) < (N : Int)) = false := by simp; omega
  have l2 : decide (4104 < N) = false := by simp; omega
  have TL := Lib.hid ht
  clear hl ht
  go_enter Try.func16, Try.ntmps16
  go_wp2_with (first
  | (with_reducible show wpList _ _ _ (⟨some 2, Op.alloc 24, _, _, _, _⟩ :: _) _ _
     refine wpList_boxA_new rowFr rfl rfl _ rfl ?_
     intro w0 xx ll ss
     have P := Lib.hid (show LwB w [bxO w.heap.size 24 (frA 0 0 0 none 0 0)] w0 from (LwB.none w).add ll xx (Nat.le_refl _))
     clear xx ll ss)
  | (go_at_call 28
     refine (TL.out _ P.out.low).mono ?_; rintro e wz ⟨rfl, lz⟩
     have PP := Lib.hid (P.out.mono lz)
     clear lz P TL
     have P := PP
     clear PP)
  | (with_reducible show wpList _ _ _ (⟨some 4, Op.alloc 24, _, _, _, _⟩ :: _) _ _
     refine wpList_boxA_new rowFr rfl rfl _ rfl ?_
     intro wq xx ll ss
     have PP := Lib.hid (P.out.add ll xx (Nat.le_refl _))
     clear xx ll ss P
     have P := PP
     clear PP)
  | (with_reducible show wpList _ _ _ (⟨_, Op.store 24 (.tmp 4) _, _, _, _, none⟩ :: _) _ _
     refine wpList_boxA_put rowFr rfl _ _ rfl rfl wz.heap.size (frA 0 0 0 none 0 0) _ (frA_size _ _ _ _ _ _) (frA_one _ _ _ _ _ _) (frA_size _ _ _ _ _ _) rfl rfl (P.out.bx (i := 0) rfl) ?_
     intro wy xx kk ss
     have PP := Lib.hid (P.out.put 0 rfl xx kk)
     clear xx kk ss P
     have P := PP
     clear PP)
  | (with_reducible show wpList _ _ _ (⟨_, Op.build 24 #[], _, _, _, none⟩ :: _) _ _
     refine wpList_fr0' rfl rfl ?_)
  | (with_reducible show wpList _ _ _ (⟨_, Op.store 24 (.tmp 2) _, _, _, _, none⟩ :: _) _ _
     refine wpList_boxA_put rowFr rfl _ _ rfl rfl w.heap.size (frA 0 0 0 none 0 0) _ (frA_size _ _ _ _ _ _) (frA_one _ _ _ _ _ _) (frA_size _ _ _ _ _ _) rfl rfl (P.out.bx (i := 1) rfl) ?_
     intro w9 x9 k9 s9
     have P9 := Lib.hid (P.out.put 1 rfl x9 k9)
     clear x9 k9 s9 P))
  exact bodyPost_ret (results_cell_row_tmp rfl _ _ w.heap.size 24 (frA 0 0 0 none 0 0) (0, 0) _ rfl (P9.out.bx (i := 1) rfl) Try.underlying24 rfl (by rw [frA_size]; exact rowFr.size)) rfl ⟨rfl, P9.out.low⟩
set_option maxRecDepth 100000 in
set_option maxHeartbeats 2000000 in
theorem Decode_more {w : World} {p : Option Addr} {N cap d x : Nat} {kk nn cc : Int} {g : Nat → Nat} (hl : N ≤ 4104) (ht : ∀ W, Below w.heap.size w W → Calls Try.prog 28 #[.slice p N cap] W fun e W' => ∃ D D2, e = .returned (.tuple #[.agg (frA kk nn cc (some ⟨D, 0, none⟩) d d), .slice (some ⟨D2, 0, none⟩) x x, .nilIface]) ∧ IntBlk W' D .u8 5 (mk d g) ∧ W.heap.size ≤ D ∧ Below W.heap.size W W') (hx : 0 < x) : Calls Try.prog 16 #[.slice p N cap] w fun e w' => e = .returned (.tuple #[.agg (frA 0 0 0 none 0 0), .iface 35 (.int .i64 10)]) ∧ Below w.heap.size w w' := by
  have l1 : decide ((4104 : Int) < (N : Int)) = false := by simp; omega
  have l2 : decide (4104 < N) = false := by simp; omega
  have f1 : decide ((0 : Int) < (x : Int)) = true := by simp; omega
  have f2 : decide (0 < x) = true := by simp; omega
  have TL := Lib.hid ht
  clear hl ht hx
  go_enter Try.func16, Try.ntmps16
  go_wp2_with (first
  | (with_reducible show wpList _ _ _ (⟨some 2, Op.alloc 24, _, _, _, _⟩ :: _) _ _
     refine wpList_boxA_new rowFr rfl rfl _ rfl ?_
     intro w0 xx ll ss
     have P := Lib.hid (show LwB w [bxO w.heap.size 24 (frA 0 0 0 none 0 0)] w0 from (LwB.none w).add ll xx (Nat.le_refl _))
     clear xx ll ss)
  | (go_at_call 28
     refine (TL.out _ P.out.low).mono ?_; rintro e wz ⟨D, D2, rfl, bz, hz, lz⟩
     have PP := Lib.hid (P.out.mono lz)
     have ZD := Lib.hid (show w.heap.size ≤ D from Nat.le_trans P.out.low.size hz)
     have Z5 := Lib.hid (show D ≠ w.heap.size from by have h1 := P.out.lt (i := 0) rfl; simp only [bxO] at h1; omega)
     have B := Lib.hid bz
     clear lz bz hz P TL
     have P := PP
     clear PP)
  | (with_reducible show wpList _ _ _ (⟨some 4, Op.alloc 24, _, _, _, _⟩ :: _) _ _
     refine wpList_boxA_new rowFr rfl rfl _ rfl ?_
     intro wq xx ll ss
     have PP := Lib.hid (P.out.add ll xx (Nat.le_refl _))
     have Z6 := Lib.hid (show D ≠ wz.heap.size from Nat.ne_of_lt B.out.lt)
     have BB := Lib.hid (B.out.below ll B.out.lt)
     clear B
     have B := BB
     clear BB
     clear xx ll ss P
     have P := PP
     clear PP)
  | (with_reducible show wpList _ _ _ (⟨_, Op.store 24 (.tmp 4) _, _, _, _, none⟩ :: _) _ _
     refine wpList_boxA_put rowFr rfl _ _ rfl rfl wz.heap.size (frA kk nn cc (some ⟨D, 0, none⟩) d d) _ (frA_size _ _ _ _ _ _) (frA_one _ _ _ _ _ _) (frA_size _ _ _ _ _ _) rfl rfl (P.out.bx (i := 0) rfl) ?_
     intro wy xx kk ss
     have PP := Lib.hid (P.out.put 0 rfl xx kk)
     have BB := Lib.hid (show IntBlk wy D .u8 5 (mk d g) from (kk.block D B.out.lt Z6.out).trans B.out)
     clear B
     have B := BB
     clear BB
     clear xx kk ss P
     have P := PP
     clear PP)
  | (with_reducible show wpList _ _ _ (⟨_, Op.build 24 #[], _, _, _, none⟩ :: _) _ _
     refine wpList_fr0' rfl rfl ?_)
  | (with_reducible show wpList _ _ _ (⟨_, Op.store 24 (.tmp 2) _, _, _, _, none⟩ :: _) _ _
     refine wpList_boxA_put rowFr rfl _ _ rfl rfl w.heap.size (frA 0 0 0 none 0 0) _ (frA_size _ _ _ _ _ _) (frA_one _ _ _ _ _ _) (frA_size _ _ _ _ _ _) rfl rfl (P.out.bx (i := 1) rfl) ?_
     intro w9 x9 k9 s9
     have P9 := Lib.hid (P.out.put 1 rfl x9 k9)
     clear x9 k9 s9 P))
  exact bodyPost_ret (results_cell_row_tmp rfl _ _ w.heap.size 24 (frA 0 0 0 none 0 0) (0, 0) _ rfl (P9.out.bx (i := 1) rfl) Try.underlying24 rfl (by rw [frA_size]; exact rowFr.size)) rfl ⟨rfl, P9.out.low⟩
set_option maxRecDepth 100000 in
set_option maxHeartbeats 2000000 in
theorem Decode_form {w : World} {p : Option Addr} {N cap d x : Nat} {kk nn cc : Int} {g : Nat → Nat} (hl : N ≤ 4104) (ht : ∀ W, Below w.heap.size w W → Calls Try.prog 28 #[.slice p N cap] W fun e W' => ∃ D D2, e = .returned (.tuple #[.agg (frA kk nn cc (some ⟨D, 0, none⟩) d d), .slice (some ⟨D2, 0, none⟩) x x, .nilIface]) ∧ IntBlk W' D .u8 5 (mk d g) ∧ W.heap.size ≤ D ∧ Below W.heap.size W W') (hx : x = 0) (hin : ¬ inK kk d) : Calls Try.prog 16 #[.slice p N cap] w fun e w' => e = .returned (.tuple #[.agg (frA 0 0 0 none 0 0), .iface 35 (.int .i64 10)]) ∧ Below w.heap.size w w' := by
  have l1 : decide ((4104 : Int) < (N : Int)) = false := by simp; omega
  have l2 : decide (4104 < N) = false := by simp; omega
  have f1 : decide ((0 : Int) < (x : Int)) = false := by simp; omega
  have f2 : decide (0 < x) = false := by simp; omega
  have IF := Lib.hid (fun (W : World) (D : Nat) => inForm_any (w := W) kk nn cc (some ⟨D, 0, none⟩) d d)
  rw [decide_eq_false hin] at IF
  have TL := Lib.hid ht
  clear hl ht hx hin
  go_enter Try.func16, Try.ntmps16
  go_wp2_with (first
  | (with_reducible show wpList _ _ _ (⟨some 2, Op.alloc 24, _, _, _, _⟩ :: _) _ _
     refine wpList_boxA_new rowFr rfl rfl _ rfl ?_
     intro w0 xx ll ss
     have P := Lib.hid (show LwB w [bxO w.heap.size 24 (frA 0 0 0 none 0 0)] w0 from (LwB.none w).add ll xx (Nat.le_refl _))
     clear xx ll ss)
  | (go_at_call 28
     refine (TL.out _ P.out.low).mono ?_; rintro e wz ⟨D, D2, rfl, bz, hz, lz⟩
     have PP := Lib.hid (P.out.mono lz)
     have ZD := Lib.hid (show w.heap.size ≤ D from Nat.le_trans P.out.low.size hz)
     have Z5 := Lib.hid (show D ≠ w.heap.size from by have h1 := P.out.lt (i := 0) rfl; simp only [bxO] at h1; omega)
     have B := Lib.hid bz
     clear lz bz hz P TL
     have P := PP
     clear PP)
  | (with_reducible show wpList _ _ _ (⟨some 4, Op.alloc 24, _, _, _, _⟩ :: _) _ _
     refine wpList_boxA_new rowFr rfl rfl _ rfl ?_
     intro wq xx ll ss
     have PP := Lib.hid (P.out.add ll xx (Nat.le_refl _))
     have Z6 := Lib.hid (show D ≠ wz.heap.size from Nat.ne_of_lt B.out.lt)
     have BB := Lib.hid (B.out.below ll B.out.lt)
     clear B
     have B := BB
     clear BB
     clear xx ll ss P
     have P := PP
     clear PP)
  | (with_reducible show wpList _ _ _ (⟨_, Op.store 24 (.tmp 4) _, _, _, _, none⟩ :: _) _ _
     refine wpList_boxA_put rowFr rfl _ _ rfl rfl wz.heap.size (frA kk nn cc (some ⟨D, 0, none⟩) d d) _ (frA_size _ _ _ _ _ _) (frA_one _ _ _ _ _ _) (frA_size _ _ _ _ _ _) rfl rfl (P.out.bx (i := 0) rfl) ?_
     intro wy xx kk ss
     have PP := Lib.hid (P.out.put 0 rfl xx kk)
     have BB := Lib.hid (show IntBlk wy D .u8 5 (mk d g) from (kk.block D B.out.lt Z6.out).trans B.out)
     clear B
     have B := BB
     clear BB
     clear xx kk ss P
     have P := PP
     clear PP)
  | (with_reducible show wpList _ _ _ (⟨some 26, Op.load 24 _, _, _, _, _⟩ :: _) _ _
     refine wpList_boxA_loadw rowFr _ rfl rfl wz.heap.size (frA kk nn cc (some ⟨D, 0, none⟩) d d) (frA_size _ _ _ _ _ _) rfl (P.out.bx (i := 0) rfl) ?_)
  | (go_at_call 22
     refine (IF.out _ D).mono ?_; rintro e wx ⟨rfl, lx⟩
     have PP := Lib.hid (P.out.mono lx)
     have BB := Lib.hid (B.out.below lx B.out.lt)
     clear lx P IF B
     have P := PP
     have B := BB
     clear PP BB)
  | (with_reducible show wpList _ _ _ (⟨_, Op.build 24 #[], _, _, _, none⟩ :: _) _ _
     refine wpList_fr0' rfl rfl ?_)
  | (with_reducible show wpList _ _ _ (⟨_, Op.store 24 (.tmp 2) _, _, _, _, none⟩ :: _) _ _
     refine wpList_boxA_put rowFr rfl _ _ rfl rfl w.heap.size (frA 0 0 0 none 0 0) _ (frA_size _ _ _ _ _ _) (frA_one _ _ _ _ _ _) (frA_size _ _ _ _ _ _) rfl rfl (P.out.bx (i := 1) rfl) ?_
     intro w9 x9 k9 s9
     have P9 := Lib.hid (P.out.put 1 rfl x9 k9)
     clear x9 k9 s9 P))
  exact bodyPost_ret (results_cell_row_tmp rfl _ _ w.heap.size 24 (frA 0 0 0 none 0 0) (0, 0) _ rfl (P9.out.bx (i := 1) rfl) Try.underlying24 rfl (by rw [frA_size]; exact rowFr.size)) rfl ⟨rfl, P9.out.low⟩
set_option maxRecDepth 100000 in
set_option maxHeartbeats 2000000 in
theorem Decode_good {w : World} {p : Option Addr} {N cap d x : Nat} {kk nn cc : Int} {g : Nat → Nat} (hl : N ≤ 4104) (ht : ∀ W, Below w.heap.size w W → Calls Try.prog 28 #[.slice p N cap] W fun e W' => ∃ D D2, e = .returned (.tuple #[.agg (frA kk nn cc (some ⟨D, 0, none⟩) d d), .slice (some ⟨D2, 0, none⟩) x x, .nilIface]) ∧ IntBlk W' D .u8 5 (mk d g) ∧ W.heap.size ≤ D ∧ Below W.heap.size W W') (hx : x = 0) (hin : inK kk d) : Calls Try.prog 16 #[.slice p N cap] w fun e w' => ∃ q C, e = .returned (.tuple #[.agg (frA kk nn cc q d C), .nilIface]) ∧ DatO w' q d C w.heap.size g ∧ Below w.heap.size w w' := by
  have l1 : decide ((4104 : Int) < (N : Int)) = false := by simp; omega
  have l2 : decide (4104 < N) = false := by simp; omega
  have f1 : decide ((0 : Int) < (x : Int)) = false := by simp; omega
  have f2 : decide (0 < x) = false := by simp; omega
  have IF := Lib.hid (fun (W : World) (D : Nat) => inForm_any (w := W) kk nn cc (some ⟨D, 0, none⟩) d d)
  rw [decide_eq_true hin] at IF
  have TL := Lib.hid ht
  clear hl ht hx hin
  go_enter Try.func16, Try.ntmps16
  go_wp2_with (first
  | (with_reducible show wpList _ _ _ (⟨some 2, Op.alloc 24, _, _, _, _⟩ :: _) _ _
     refine wpList_boxA_new rowFr rfl rfl _ rfl ?_
     intro w0 xx ll ss
     have P := Lib.hid (show LwB w [bxO w.heap.size 24 (frA 0 0 0 none 0 0)] w0 from (LwB.none w).add ll xx (Nat.le_refl _))
     clear xx ll ss)
  | (go_at_call 28
     refine (TL.out _ P.out.low).mono ?_; rintro e wz ⟨D, D2, rfl, bz, hz, lz⟩
     have PP := Lib.hid (P.out.mono lz)
     have ZD := Lib.hid (show w.heap.size ≤ D from Nat.le_trans P.out.low.size hz)
     have Z5 := Lib.hid (show D ≠ w.heap.size from by have h1 := P.out.lt (i := 0) rfl; simp only [bxO] at h1; omega)
     have B := Lib.hid bz
     clear lz bz hz P TL
     have P := PP
     clear PP)
  | (with_reducible show wpList _ _ _ (⟨some 4, Op.alloc 24, _, _, _, _⟩ :: _) _ _
     refine wpList_boxA_new rowFr rfl rfl _ rfl ?_
     intro wq xx ll ss
     have PP := Lib.hid (P.out.add ll xx (Nat.le_refl _))
     have Z6 := Lib.hid (show D ≠ wz.heap.size from Nat.ne_of_lt B.out.lt)
     have BB := Lib.hid (B.out.below ll B.out.lt)
     clear B
     have B := BB
     clear BB
     clear xx ll ss P
     have P := PP
     clear PP)
  | (with_reducible show wpList _ _ _ (⟨_, Op.store 24 (.tmp 4) _, _, _, _, none⟩ :: _) _ _
     refine wpList_boxA_put rowFr rfl _ _ rfl rfl wz.heap.size (frA kk nn cc (some ⟨D, 0, none⟩) d d) _ (frA_size _ _ _ _ _ _) (frA_one _ _ _ _ _ _) (frA_size _ _ _ _ _ _) rfl rfl (P.out.bx (i := 0) rfl) ?_
     intro wy xx kk ss
     have PP := Lib.hid (P.out.put 0 rfl xx kk)
     have BB := Lib.hid (show IntBlk wy D .u8 5 (mk d g) from (kk.block D B.out.lt Z6.out).trans B.out)
     clear B
     have B := BB
     clear BB
     clear xx kk ss P
     have P := PP
     clear PP)
  | (with_reducible show wpList _ _ _ (⟨some 26, Op.load 24 _, _, _, _, _⟩ :: _) _ _
     refine wpList_boxA_loadw rowFr _ rfl rfl wz.heap.size (frA kk nn cc (some ⟨D, 0, none⟩) d d) (frA_size _ _ _ _ _ _) rfl (P.out.bx (i := 0) rfl) ?_)
  | (go_at_call 22
     refine (IF.out _ D).mono ?_; rintro e wx ⟨rfl, lx⟩
     have PP := Lib.hid (P.out.mono lx)
     have BB := Lib.hid (B.out.below lx B.out.lt)
     clear lx P IF B
     have P := PP
     have B := BB
     clear PP BB)
  | (with_reducible show wpList _ _ _ (⟨some 32, Op.load 24 _, _, _, _, _⟩ :: _) _ _
     refine wpList_boxA_loadw rowFr _ rfl rfl wz.heap.size (frA kk nn cc (some ⟨D, 0, none⟩) d d) (frA_size _ _ _ _ _ _) rfl (P.out.bx (i := 0) rfl) ?_)
  | (with_reducible show wpList _ _ _ (⟨_, Op.store 24 (.tmp 2) _, _, _, _, none⟩ :: _) _ _
     refine wpList_boxA_put rowFr rfl _ _ rfl rfl w.heap.size (frA kk nn cc (some ⟨D, 0, none⟩) d d) _ (frA_size _ _ _ _ _ _) (frA_one _ _ _ _ _ _) (frA_size _ _ _ _ _ _) rfl rfl (P.out.bx (i := 1) rfl) ?_
     intro w9 x9 k9 s9
     have P9 := Lib.hid (P.out.put 1 rfl x9 k9)
     have B9 := Lib.hid (show IntBlk w9 D .u8 5 (mk d g) from (k9.block D B.out.lt (fun e => Z5.out e)).trans B.out)
     clear x9 k9 s9 P B))
  exact bodyPost_ret (results_cell_row_tmp rfl _ _ w.heap.size 24 (frA kk nn cc (some ⟨D, 0, none⟩) d d) (0, 0) _ rfl (P9.out.bx (i := 1) rfl) Try.underlying24 rfl (by rw [frA_size]; exact rowFr.size)) rfl ⟨_, _, rfl, .inr ⟨D, _, rfl, ZD.out, Nat.le_refl _, ⟨d, Nat.le_refl _, B9.out⟩, fun _ _ => rfl⟩, P9.out.low⟩
theorem len_is (F : Nat → Nat) : lenAt (fun j => F (1 + (4 + (1 + j)))) 0 = valN 2 (fun j => F (6 + j)) := by
  have h : valN 2 (fun j => F (6 + j)) = F 6 * 256 + F 7 := by unfold valN; simp [valN]
  rw [h]
  unfold lenAt
  rfl
theorem Decode_no {w : World} {p : Option Addr} {N cap : Nat} {F : Nat → Nat} (hc : N ≤ cap) (hn : N ≤ 140737488351232) (hF : ∀ j, j < N → F j < 256) (hp : BytesAt w p N F) (h : ¬ isF N F) : Calls Try.prog 16 #[.slice p N cap] w fun e w' => e = .returned (.tuple #[.agg (frA 0 0 0 none 0 0), .iface 35 (.int .i64 10)]) ∧ Below w.heap.size w w' := by
  by_cases hL : 4104 < N
  · exact Decode_long p N cap hL
  have hl : N ≤ 4104 := by omega
  by_cases h0 : N = 0
  · exact Decode_bad hl (fun W hb => told_0 hc hn hF (hp.below hb) h0)
  obtain ⟨M1, h1⟩ : ∃ M1, N = 1 + M1 := ⟨N - 1, by omega⟩
  by_cases h4 : M1 < 4
  · exact Decode_bad hl (fun W hb => told_1 hc hn hF (hp.below hb) h1 h4)
  obtain ⟨M5, h5⟩ : ∃ M5, M1 = 4 + M5 := ⟨M1 - 4, by omega⟩
  by_cases h51 : M5 < 1
  · exact Decode_bad hl (fun W hb => told_5 hc hn hF (hp.below hb) h1 h5 h51)
  obtain ⟨M6, h6⟩ : ∃ M6, M5 = 1 + M6 := ⟨M5 - 1, by omega⟩
  by_cases h8 : M6 < 2 ∨ M6 < 2 + lenAt (fun j => F (1 + (4 + (1 + j)))) 0
  · exact Decode_bad hl (fun W hb => told_6 hc hn hF (hp.below hb) h1 h5 h6 h8)
  obtain ⟨x, hx⟩ : ∃ x, M6 = 2 + lenAt (fun j => F (1 + (4 + (1 + j)))) 0 + x := ⟨M6 - (2 + lenAt (fun j => F (1 + (4 + (1 + j)))) 0), by omega⟩
  by_cases hx0 : 0 < x
  · exact Decode_more hl (fun W hb => told_ok hc hn hF (hp.below hb) h1 h5 h6 hx rfl) hx0
  refine Decode_form hl (fun W hb => told_ok hc hn hF (hp.below hb) h1 h5 h6 hx rfl) (by omega) (fun hin => h ((isF_iff hF).2 ?_))
  rw [len_is] at hx hin
  obtain ⟨a1, a4⟩ : (1 ≤ kF F ∧ kF F ≤ 8) ∧ valN 2 (fun j => F (6 + j)) ≤ 4096 := by unfold inK at hin; exact hin
  have hk : kF F = (F 0 : Nat) := by unfold kF; rfl
  rw [hk] at a1
  refine ⟨by omega, by omega, by omega, by omega⟩
theorem Decode_ok {w : World} {p : Option Addr} {N cap : Nat} {F : Nat → Nat} (hc : N ≤ cap) (hF : ∀ j, j < N → F j < 256) (hp : BytesAt w p N F) (h : isF N F) :
    Calls Try.prog 16 #[.slice p N cap] w fun e w' => ∃ q C, e = .returned (.tuple #[.agg (frA (kF F) (nF F) (cF F) q (N - 8) C), .nilIface]) ∧ DatO w' q (N - 8) C w.heap.size (gF F) ∧ Below w.heap.size w w' := by
  obtain ⟨h8, _, h41, hl⟩ := (isF_iff hF).1 h
  have hg : (fun j => F (1 + (4 + (1 + (2 + j))))) = gF F := by
    unfold gF; funext j; congr 1; omega
  refine (Decode_good (d := N - 8) (x := 0) (g := gF F) (by omega) (fun W hb => ?_) rfl (inF_K.1 h.2.1).1)
  refine (told_ok (d := N - 8) (x := 0) (M1 := N - 1) (M5 := N - 5) (M6 := N - 6) hc (by omega) hF (hp.below hb) (by omega) (by omega) (by omega) (by omega) ((len_is F).trans hl)).mono ?_
  rintro e w' ⟨D, D2, rfl, b, hz, l⟩
  rw [hg] at b
  exact ⟨D, D2, rfl, b, hz, l⟩
theorem pduSpec : PduSpec where
  encode := by intro W k n c p d cd g hi hc hg hp; exact Encode_ok k n c hi hc hp
  refuse k n c p d cd _ _ _ _ _ h := Encode_no k n c p d cd h
  decode hc hF hp h := Decode_ok hc hF hp h
  reject hc hn hF hp h := Decode_no hc hn hF hp h
  good := Status_nil
  status z h1 h2 := Status_any z h1 h2
  rej c _ := Reject_any c
  reply := by intro W n p d cd g _ _ hd _ hp; exact Reply_ok n hd hp
  replyErr := by intro W n z p d cd _ h1 h2 _; exact Reply_err n z _ _ _ h1 h2
  bytes hc h5 hat hok := Bytes_any hc h5 hat hok
  same := by intro W k n c p q d cp cq g hg hp hq; exact Same_any k n c hg hp hq
end Go.Proofs.Ytebbnkkhabehmaa
