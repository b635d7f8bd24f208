/- citadelnum's Over, the document's Status, and the contract of the law's replies. Condition: package pdu answers as its spec says. -/
import Derived.Test.YtebbnkkhabehmaaPdStr
namespace Go.Proofs.Ytebbnkkhabehmaa
open Go.ChangeShapes Go.WideShapes Go.ChangeAt Go.RowKit
set_option linter.unusedVariables false
set_option linter.unusedSimpArgs false
set_option maxRecDepth 100000 in
set_option maxHeartbeats 1000000 in
/-- Bytes written over. -/
theorem Over_any (D n N cap : Nat) (F : Nat → Nat) (hF : ∀ j, j < N → F j < 256) (hn : n ≤ N) (hN : N ≤ 140737488355328) (w : World) (hD : IntBlk w D .u8 5 (mk N F)) :
    Calls Try.prog 34 #[.slice (some ⟨D, 0, none⟩) n cap] w fun e w' => (∃ v, e = .returned v) ∧ But D w w' := by
  have HD := Lib.hid hD; have HF := Lib.hid hF
  clear hD hF
  go_enter Try.func34, Try.ntmps34
  go_wp2
  go_loopw [5] (fun v wr => ∃ k : Nat, k ≤ n ∧ v = .int .i64 k ∧ (∃ G : Nat → Nat, (∀ j, j < N → G j < 256) ∧ IntBlk wr D .u8 5 (mk N G)) ∧ But D w wr) (fun v _ => n - (intOf v).toNat)
  case atStart => exact ⟨0, by omega, rfl, ⟨F, HF.out, HD.out⟩, .of (Below.refl _ _)⟩
  case round =>
    clear HD HF
    obtain ⟨k, hk, rfl, ⟨G, hG, ha⟩, hb⟩ := hrel
    have HA := Lib.hid ha; have HB := Lib.hid hb; have HG := Lib.hid hG
    by_cases hlt : k < n
    · have e1 : (k : Int) < (n : Int) := by omega
      have hkN : k < N := by omega
      have c1 := ha.cell (i := k) (by rw [mk_len]; exact hkN)
      rw [mk_get hkN] at c1
      have f1 := ha.free k
      obtain ⟨x, hx⟩ : ∃ x, G k = x := ⟨_, rfl⟩
      have hx2 := hG k hkN
      rw [hx] at c1 hx2
      have e2 : bits .xor .u8 (x : Int) 255 = ((x ^^^ 255 : Nat) : Int) := bits_xor_u8 (y := 255) hx2 (by decide)
      have HE := Lib.hid e2
      have HX := Lib.hid (show x ^^^ 255 < 256 from xor_lt hx2 (by decide))
      clear ha hb hG e2 hx
      go_wp2
      go_roundw
      case rel =>
        refine ⟨k + 1, by omega, by go_num, ⟨fun j => if j = k then x ^^^ 255 else G j, fun j hj => ?_, ?_⟩, HB.out.trans (.setCell _ _ _ _)⟩
        · show (if j = k then x ^^^ 255 else G j) < 256
          by_cases e : j = k
          · rw [if_pos e]; exact HX.out
          · rw [if_neg e]; exact HG.out j hj
        · have := HA.out.set k (bits .xor .u8 (x : Int) 255)
          rw [mk_set_is (v := x ^^^ 255) HE.out (fun j _ => rfl)] at this
          exact this
      case measure => simp [intOf]; omega
    · have e1 : ¬ (k : Int) < (n : Int) := by omega
      clear ha hb hG
      go_wp2
      refine bodyPost_end (results_none rfl _ _ _) rfl ?_
      exact ⟨⟨_, rfl⟩, HB.out⟩

theorem markF_lt {n : Nat} {g : Nat → Nat} (hg : ∀ j, j < n → g j < 256) : ∀ j, j < n + 2 → markF n g j < 256 := fun j _ => by
  unfold markF
  split
  · exact hg j (by assumption)
  · split <;> omega
theorem gives_ne64 {o : Oper} {a : Act} {C : World → Prop} {K : Act → Prop} (x y : Operand) (ho : o.op = .binOp .neq 3 x y 3) (i : Int) (hx : a.eval x = .int .i64 i) (hy : a.eval y = .int .i64 i) (hk : K (a.put o.dst (.bool false))) : ∃ v, Gives Try.prog C o a v ∧ K (a.put o.dst v) :=
  ⟨_, fun w _ => by unfold execOp; simp only [ho, hx, hy]; simp [go_sem], hk⟩
theorem gives_iface {o : Oper} {a : Act} {C : World → Prop} {K : Act → Prop} (x : Operand) (ho : o.op = .makeInterface 35 x) (z : Int) (hx : a.eval x = .int .i64 z) (hk : K (a.put o.dst (.iface 35 (.int .i64 z)))) : ∃ v, Gives Try.prog C o a v ∧ K (a.put o.dst v) :=
  ⟨_, fun w _ => by unfold execOp; simp only [ho, hx]; simp [go_sem], hk⟩
theorem done_call1 {o : Oper} {a : Act} {w : World} {K : Value → World → Prop} (x y : Operand) (ts : Array TypeId) (ho : o.op = .call { callee := .value x, args := #[y], argTypes := ts }) (g : FuncId) (hx : a.eval x = .func (.func g) #[] #[])
    (hf : ∀ (args : Array Value) (w : World), (callFunc g args).run Try.prog w = .ok (.enter g args) w) (v1 : Value) (h1 : a.eval y = v1) (R : Ending → World → Prop) (hc : Calls Try.prog g #[v1] w R) (hk : ∀ e w', R e w' → ∃ u, e = .returned u ∧ K u w') : doneAt Try.prog o a w K :=
  done_call x #[y] ts ho g #[v1] hx (by simp only [List.map_toArray, List.map_cons, List.map_nil, h1]) (hf _ w) (hc.mono hk)
theorem fr_built012 (n c : Int) : Try.prog.built 24 [(0, .int .i64 6), (1, .int .i64 n), (2, .int .i64 c)] = some (frA 6 n c none 0 0) := by kernel_rfl
theorem fr_built02n (c : Int) : Try.prog.built 24 [(0, .int .i64 7), (2, .int .i64 c)] = some (frA 7 0 c none 0 0) := by kernel_rfl
section
variable {ops : Array Oper} {rest : List Oper} {o : Oper} {a : Act} {w : World} {Q : Exit → Act → World → Prop}
theorem wpList_fr012 (hgd : o.guard = none) (x y : Operand) (ho : o.op = .build 24 #[(0, .const (.int .i64 6)), (1, x), (2, y)]) (n c : Int) (hx : a.eval x = .int .i64 n) (hy : a.eval y = .int .i64 c)
    (h : wpList Try.prog ops Q rest (a.put o.dst (.agg (frA 6 n c none 0 0))) w) : wpList Try.prog ops Q (o :: rest) a w :=
  wpList_build_any hgd 24 _ #[(0, .int .i64 6), (1, .int .i64 n), (2, .int .i64 c)] _ ho (by simp [Act.eval]; exact ⟨by simpa [Act.eval] using hx, by simpa [Act.eval] using hy⟩) (fun w => run_build w 24 #[(0, .int .i64 6), (1, .int .i64 n), (2, .int .i64 c)] _ (fr_built012 n c)) h
theorem wpList_fr02n (hw : Region.wanted o (yielded ops a.tmps) = true) (x : Operand) (ho : o.op = .build 24 #[(0, .const (.int .i64 7)), (2, x)]) (c : Int) (hx : a.eval x = .int .i64 c)
    (h : wpList Try.prog ops Q rest (a.put o.dst (.agg (frA 7 0 c none 0 0))) w) : wpList Try.prog ops Q (o :: rest) a w :=
  wanted_step hw fun K hK => by
    have e := exec_build 24 #[(0, .const (.int .i64 7)), (2, x)] #[(0, .int .i64 7), (2, .int .i64 c)] (.agg (frA 7 0 c none 0 0)) ho (by simp [Act.eval]; simpa [Act.eval] using hx) (fun w => run_build w 24 #[(0, .int .i64 7), (2, .int .i64 c)] _ (fr_built02n c)) w
    unfold Oper.wp
    rw [e]
    exact hK _ _ h
end
attribute [local go_sem] Oper.semAt_some
set_option maxRecDepth 100000 in
theorem refStatus_any {w : World} (z : Int) : Calls Try.prog 32 #[.int .i64 z] w fun e w' => e = .returned (.int .i64 (stN z)) ∧ w = w' := by
  by_cases h0 : z = 0
  · subst h0
    go_enter Try.func32, Try.ntmps32
    go_wp2
    go_ret
    exact ⟨rfl, rfl⟩
  by_cases h8 : z = 8
  · subst h8
    go_enter Try.func32, Try.ntmps32
    go_wp2
    go_ret
    exact ⟨rfl, rfl⟩
  by_cases h9 : z = 9
  · subst h9
    go_enter Try.func32, Try.ntmps32
    go_wp2
    go_ret
    exact ⟨rfl, rfl⟩
  by_cases h6 : z = 6
  · subst h6
    go_enter Try.func32, Try.ntmps32
    go_wp2
    go_ret
    exact ⟨rfl, rfl⟩
  have e0 : (z == 0) = false := by simpa using h0
  have e8 : (z == 8) = false := by simpa using h8
  have e9 : (z == 9) = false := by simpa using h9
  have e6 : (z == 6) = false := by simpa using h6
  have hs : stN z = 2 := by unfold stN; rw [if_neg h0, if_neg h8, if_neg h9, if_neg h6]
  rw [hs]
  go_enter Try.func32, Try.ntmps32
  go_wp2
  go_ret
  exact ⟨rfl, rfl⟩
attribute [local irreducible] frA frT markF mk zeroK stN
set_option maxRecDepth 100000 in
set_option maxHeartbeats 16000000 in
theorem replies_any (PS : PduSpec) {w : World} (n cc nb : Int) (p : Option Addr) (d cd : Nat) (g : Nat → Nat) (hn : okI n) (hnb : okI nb) (hg : ∀ i, i < d → g i < 256) (hq : BytesAt w p d g) (hdc : d ≤ cd) (hm : cd ≤ maxLen) : Calls Try.prog 20 #[.int .i64 n, .int .i64 cc, .slice p d cd, .int .i64 nb] w fun e w' => e = .returned (.bool true) ∧ Below w.heap.size w w' := by
  by_cases hl : (4096 : Int) < (d : Int)
  · have f1 : decide ((4096 : Int) < (d : Int)) = true := by simp [hl]
    have f2 : decide (4096 < d) = true := by simp; omega
    clear hl hg hq hdc hm PS
    go_enter Try.func20, Try.ntmps20
    go_wp2
    go_ret
    exact ⟨rfl, Below.refl _ _⟩
  have f1 : decide ((4096 : Int) < (d : Int)) = false := by simpa using hl
  have f2 : decide (4096 < d) = false := by simp; omega
  obtain ⟨u, hu⟩ : ∃ u : Nat, IntKind.u64.wrap cc = (u : Int) := by
    rw [IntKind.wrap_u64]; exact ⟨(cc % 18446744073709551616).toNat, by omega⟩
  obtain ⟨zn, hz, hz1⟩ : ∃ zn : Nat, zn = u % 20 ∧ zn < 20 := ⟨_, rfl, by omega⟩
  have q0 : IntKind.i64.wrap ((u : Int) % 20) = (u : Int) % 20 := IntWalk.i64_in _ (by omega)
  have q1 : (u : Int) % 20 = (zn : Int) := by omega
  have q2 : (u : Int).tmod 20 = (zn : Int) := by rw [Int.tmod_eq_emod_of_nonneg (by omega)]; omega
  have q3 : IntKind.i64.wrap (zn : Int) = (zn : Int) := IntWalk.i64_in _ (by omega)
  have HQ := Lib.hid (fun (W : World) (hb : Below w.heap.size w W) => hq.below hb)
  have HQ0 := Lib.hid hq
  have HG := Lib.hid hg
  have HD := Lib.hid (show d ≤ 4096 by omega)
  have CC := Lib.hid (fun (W : World) (hW : BytesAt W p d g) => Copy_row p d cd g (by omega) W hW)
  have RN := Lib.hid (fun (W : World) (B : Nat) (h : BytesAt W (some ⟨B, 0, none⟩) d g) => PS.reply (W := W) (cd := d + 2) n hn (Nat.le_add_right _ _) (by omega) hg h)
  have GS := Lib.hid (fun (W : World) => PS.good (W := W))
  have RJ := Lib.hid (fun (W : World) => PS.rej (W := W) nb hnb)
  by_cases h0 : zn = 0
  · subst h0
    have ST := Lib.hid (show stN 0 = 0 by unfold stN; rfl)
    clear hl hg hq hdc hm PS hz hz1 hn hnb
    go_enter Try.func20, Try.ntmps20
    go_wp2_with (first
      | (go_at_call 10
         refine (CC.out _ HQ0.out).mono ?_; rintro e w1 ⟨rfl, b1, l1⟩
         have K1 := Lib.hid b1
         have P1 := Lib.hid ((LwB.none w).mono l1)
         have U1 := Lib.hid (Below.refl w1.heap.size w1)
         clear b1 l1 CC)
      | (go_at_call 31
         refine (RN.out w1 w.heap.size (K1.out.bytesAt.low rfl)).mono ?_; rintro e w2 ⟨q2, m2, rfl, d2, l2⟩
         have P2 := Lib.hid (P1.out.mono l2)
         have U2 := Lib.hid (U1.out.trans (l2.mono U1.out.size))
         have D2 := Lib.hid d2
         clear d2 l2 P1 U1 RN)
      | (with_reducible show wpList _ _ _ (⟨some 10, Op.alloc 24, _, _, _, _⟩ :: _) _ _
         refine wpList_boxA_new rowFr rfl rfl _ rfl ?_
         intro w3a xx ll ss
         have XX := Lib.hid xx
         have LL := Lib.hid ll
         clear xx ll ss)
      | (with_reducible show wpList _ _ _ (⟨_, Op.store 24 (.tmp 10) (.tmp 23), _, _, _, none⟩ :: _) _ _
         refine wpList_boxA_put rowFr rfl _ _ rfl rfl w2.heap.size (frA 6 n 0 q2 d m2) _ (frA_size _ _ _ _ _ _) (frA_one _ _ _ _ _ _) (frA_size _ _ _ _ _ _) rfl rfl XX.out ?_
         intro w3 xx kk ss
         have bb := low_put LL.out (Nat.le_refl _) kk
         have P3 := Lib.hid (P2.out.add bb xx (Nat.le_refl _))
         have U3 := Lib.hid (U2.out.trans (bb.mono U2.out.size))
         have D3 := Lib.hid (D2.out.below bb)
         have J3 := Lib.hid (show w1.heap.size ≤ w2.heap.size from U2.out.size)
         clear xx kk ss bb XX LL P2 U2 D2
         generalize w2.heap.size = J at *)
      | (go_at_call 32
         refine (refStatus_any 0).mono ?_; rintro e w4 ⟨rfl, hw⟩
         rw [ST.out]
         have P4 := Lib.hid (show LwB w _ w4 from hw ▸ P3.out)
         have U4 := Lib.hid (show Below w1.heap.size w1 w4 from hw ▸ U3.out)
         have D4 := Lib.hid (show DatO w4 q2 d m2 w1.heap.size g from hw ▸ D3.out)
         clear hw P3 U3 D3)
      | (with_reducible show wpList _ _ _ (⟨some 34, Op.build 24 _, _, _, _, none⟩ :: _) _ _
         refine wpList_fr012 rfl _ _ rfl n 0 rfl rfl ?_)
      | (with_reducible show wpList _ _ _ (⟨some 11, Op.alloc 24, _, _, _, _⟩ :: _) _ _
         refine wpList_boxA_new rowFr rfl rfl _ rfl ?_
         intro w5a xx ll ss
         have XX := Lib.hid xx
         have LL := Lib.hid ll
         clear xx ll ss)
      | (with_reducible show wpList _ _ _ (⟨_, Op.store 24 (.tmp 11) _, _, _, _, none⟩ :: _) _ _
         refine wpList_boxA_put rowFr rfl _ _ rfl rfl w4.heap.size (frA 6 n 0 none 0 0) _ (frA_size _ _ _ _ _ _) (frA_one _ _ _ _ _ _) (frA_size _ _ _ _ _ _) rfl rfl XX.out ?_
         intro w5 xx kk ss
         have bb := low_put LL.out (Nat.le_refl _) kk
         have P5 := Lib.hid (P4.out.add bb xx (Nat.le_refl _))
         have U5 := Lib.hid (U4.out.trans (bb.mono U4.out.size))
         have D5 := Lib.hid (D4.out.below bb)
         have J5 := Lib.hid (show w1.heap.size ≤ w4.heap.size from U4.out.size)
         clear xx kk ss bb XX LL P4 U4 D4
         generalize w4.heap.size = J2 at *)
      | (with_reducible show wpList _ _ _ (⟨_, Op.store 22 _ _, _, _, _, none⟩ :: _) _ _
         refine wpList_boxA_bytes rfl _ _ rfl rfl J2 (frA 6 n 0 none 0 0) 3 p d cd rfl rfl (P5.out.bx (i := 0) rfl) (by rw [frA_size]; omega) ?_
         intro w6 x6 k6 s6
         rw [frA_set] at x6
         have P6 := Lib.hid (show LwB w [bxO J2 24 (frA 6 n 0 p d cd), bxO J 24 (frA 6 n 0 q2 d m2)] w6 from P5.out.put 0 rfl x6 k6)
         have U6 := Lib.hid (U5.out.trans (k6.below (M := w1.heap.size) U5.out.size (fun j hj e => by have := J5.out; omega)))
         have B6 := Lib.hid (show BytesAt w6 q2 d g from by
           rcases D5.out with ⟨_, h, _⟩ | ⟨DD, G, e1, e2, e3, ⟨R, e4, e5⟩, e6⟩
           · exact .inl h
           · rw [e1]
             exact BlkR.bytes (C := m2) ⟨R, e4, (k6.block DD e5.lt (fun e => by
               have hx := P5.out.bx (i := 0) rfl
               rw [e] at e5
               have := hx.symm.trans e5
               simp at this)).trans e5⟩ e3 e6)
         have N6 := Lib.hid (show ∀ B o, q2 = some ⟨B, o, none⟩ → d ≠ 0 → B ≠ w.heap.size from fun B o hq h0 => by
           rcases D5.out with ⟨h, _, _⟩ | ⟨DD, G, e1, e2, e3, e4, e6⟩
           · rw [h] at hq; cases hq
           · rw [e1] at hq; cases hq; have := K1.out.lt; omega)
         clear x6 k6 s6 P5 U5 D5)
      | (go_at_call 34
         have k6 := K1.out.below U6.out K1.out.lt
         refine (Over_any w.heap.size d (d + 2) (d + 2) (markF d g) (markF_lt HG.out) (Nat.le_add_right _ _) (by have := HD.out; omega) w6 k6).mono ?_
         rintro e w7 ⟨⟨v, rfl⟩, hb⟩
         have kp := (Keeps.refl (fun j => j = w.heap.size) w6).but hb rfl
         have hK := K1.out.lt
         have P7 := Lib.hid (show LwB w [bxO J2 24 (frA 6 n 0 p d cd), bxO J 24 (frA 6 n 0 q2 d m2)] w7 from ⟨fun {i x} hi => by
           have h := P6.out.box hi
           refine ⟨(kp.block _ (P6.out.lt hi) (fun e => ?_)).trans h.1, h.2⟩
           have e1 := J3.out
           have e2 := J5.out
           rcases i with _ | _ | i
           · obtain rfl := (by simpa using hi : bxO J2 24 (frA 6 n 0 p d cd) = x); simp only [bxO] at e; omega
           · obtain rfl := (by simpa using hi : bxO J 24 (frA 6 n 0 q2 d m2) = x); simp only [bxO] at e; omega
           · simp at hi, P6.out.low.trans (kp.below (M := w.heap.size) P6.out.low.size (fun j hj e => by omega)), P6.out.dis⟩)
         have B7 := Lib.hid (show BytesAt w7 q2 d g from by
           rcases B6.out with h | ⟨B, o, e1, e2, e3⟩
           · exact .inl h
           · by_cases h0 : d = 0
             · exact .inl h0
             · exact .inr ⟨B, o, e1, Nat.lt_of_lt_of_le e2 kp.size, fun j hj => (World.cell?_of_block (a := ⟨B, o + j, none⟩) (kp.block B e2 (N6.out B o e1 h0))).trans (e3 j hj)⟩)
         clear hb kp k6 hK P6 U6 B6 K1)
      | (with_reducible show wpList _ _ _ (⟨some 47, Op.load 24 _, _, _, _, _⟩ :: _) _ _
         refine wpList_boxA_loadw rowFr _ rfl rfl J (frA 6 n 0 q2 d m2) (frA_size _ _ _ _ _ _) rfl (P7.out.bx (i := 1) rfl) ?_)
      | (with_reducible show wpList _ _ _ (⟨some 48, Op.load 24 _, _, _, _, _⟩ :: _) _ _
         refine wpList_boxA_loadw rowFr _ rfl rfl J2 (frA 6 n 0 p d cd) (frA_size _ _ _ _ _ _) rfl (P7.out.bx (i := 0) rfl) ?_)
      | (go_at_call 18
         refine (refSame_yes 6 n 0 (g := g) (g' := g) (fun _ _ => rfl) B7.out (HQ.out _ P7.out.low)).mono ?_; rintro e w8 ⟨rfl, l8⟩
         have P8 := Lib.hid (P7.out.low.trans (l8.mono P7.out.low.size))
         clear l8 P7 B7)
      | (go_at_call 33
         refine (GS.out _).mono ?_; rintro e w9 ⟨rfl, l9⟩
         have P9 := Lib.hid (P8.out.trans (l9.mono P8.out.size))
         clear l9 P8 GS)
      | (go_at_call 35
         refine (RJ.out _).mono ?_; rintro e wa ⟨qa, ma, rfl, la⟩
         have PA := Lib.hid (P9.out.trans (la.mono P9.out.size))
         clear la P9 RJ)
      | (with_reducible show wpList _ _ _ (⟨some 58, Op.build 24 _, _, _, _, _⟩ :: _) _ _
         refine wpList_fr02n rfl _ rfl nb rfl ?_)
      | (go_at_call 18
         have hh := PA
         clear hh
         refine (refSame_yes 7 0 nb (d := 0) (g := zeroK) (g' := zeroK) (fun _ _ => rfl) (.inl rfl) (.inl rfl)).mono ?_; rintro e wb ⟨rfl, lb⟩
         have PB := Lib.hid (PA.out.trans (lb.mono PA.out.size))
         clear lb PA))
    go_ret
    exact ⟨rfl, PB.out⟩
  · have f3 : decide ((0 : Int) < (zn : Int)) = true := by simp; omega
    have f5 : ((zn : Int) == 0) = false := by simpa using h0
    have RE := Lib.hid (fun (W : World) (B e : Nat) (h : d ≤ e) => PS.replyErr (W := W) (p := some ⟨B, 0, none⟩) (d := d) (cd := e) n zn hn (by omega) (by omega) h)
    have SZ := Lib.hid (fun (W : World) => PS.status (W := W) zn (by omega) (by omega))
    clear hl hg hq hdc hm PS hz hz1 h0 hn hnb
    generalize (zn : Int) = z at *
    go_enter Try.func20, Try.ntmps20
    go_wp2_with (first
      | (go_at_call 10
         refine (CC.out _ HQ0.out).mono ?_; rintro e w1 ⟨rfl, b1, l1⟩
         have K1 := Lib.hid b1
         have P1 := Lib.hid ((LwB.none w).mono l1)
         have U1 := Lib.hid (Below.refl w1.heap.size w1)
         clear b1 l1 CC)
      | (go_at_call 31
         refine (RN.out w1 w.heap.size (K1.out.bytesAt.low rfl)).mono ?_; rintro e w2 ⟨q2, m2, rfl, d2, l2⟩
         have P2 := Lib.hid (P1.out.mono l2)
         have U2 := Lib.hid (U1.out.trans (l2.mono U1.out.size))
         have D2 := Lib.hid d2
         clear d2 l2 P1 U1 RN)
      | (with_reducible show wpList _ _ _ (⟨some 10, Op.alloc 24, _, _, _, _⟩ :: _) _ _
         refine wpList_boxA_new rowFr rfl rfl _ rfl ?_
         intro w3a xx ll ss
         have XX := Lib.hid xx
         have LL := Lib.hid ll
         clear xx ll ss)
      | (with_reducible show wpList _ _ _ (⟨_, Op.store 24 (.tmp 10) (.tmp 23), _, _, _, none⟩ :: _) _ _
         refine wpList_boxA_put rowFr rfl _ _ rfl rfl w2.heap.size (frA 6 n 0 q2 d m2) _ (frA_size _ _ _ _ _ _) (frA_one _ _ _ _ _ _) (frA_size _ _ _ _ _ _) rfl rfl XX.out ?_
         intro w3 xx kk ss
         have bb := low_put LL.out (Nat.le_refl _) kk
         have P3 := Lib.hid (P2.out.add bb xx (Nat.le_refl _))
         have U3 := Lib.hid (U2.out.trans (bb.mono U2.out.size))
         have D3 := Lib.hid (D2.out.below bb)
         have J3 := Lib.hid (show w1.heap.size ≤ w2.heap.size from U2.out.size)
         clear xx kk ss bb XX LL P2 U2 D2
         generalize w2.heap.size = J at *)
      | (go_at_call 31
         refine (RE.out w3 w.heap.size (d + 2) (Nat.le_add_right _ _)).mono ?_; rintro e w3c ⟨q3, m3, rfl, l3⟩
         have P3c := Lib.hid (P3.out.mono l3)
         have U3c := Lib.hid (U3.out.trans (l3.mono U3.out.size))
         clear l3 P3 U3 D3 RE)
      | (with_reducible show wpList _ _ _ (⟨_, Op.store 24 (.tmp 10) (.tmp 30), _, _, _, none⟩ :: _) _ _
         refine wpList_boxA_put rowFr rfl _ _ rfl rfl J (frA 6 n (stN z) q3 0 m3) _ (frA_size _ _ _ _ _ _) (frA_one _ _ _ _ _ _) (frA_size _ _ _ _ _ _) rfl rfl (P3c.out.bx (i := 0) rfl) ?_
         intro w3d xx kk ss
         have P3d := Lib.hid (show LwB w [bxO J 24 (frA 6 n (stN z) q3 0 m3)] w3d from P3c.out.put 0 rfl xx kk)
         have U3d := Lib.hid (U3c.out.trans (kk.below (M := w1.heap.size) U3c.out.size (fun j hj e => by have := J3.out; omega)))
         clear xx kk ss P3c U3c)
      | (go_at_call 32
         refine (refStatus_any z).mono ?_; rintro e w4 ⟨rfl, hw⟩
         have P4 := Lib.hid (show LwB w _ w4 from hw ▸ P3d.out)
         have U4 := Lib.hid (show Below w1.heap.size w1 w4 from hw ▸ U3d.out)
         clear hw P3d U3d)
      | (with_reducible show wpList _ _ _ (⟨some 34, Op.build 24 _, _, _, _, none⟩ :: _) _ _
         refine wpList_fr012 rfl _ _ rfl n (stN z) rfl rfl ?_)
      | (with_reducible show wpList _ _ _ (⟨some 11, Op.alloc 24, _, _, _, _⟩ :: _) _ _
         refine wpList_boxA_new rowFr rfl rfl _ rfl ?_
         intro w5a xx ll ss
         have XX := Lib.hid xx
         have LL := Lib.hid ll
         clear xx ll ss)
      | (with_reducible show wpList _ _ _ (⟨_, Op.store 24 (.tmp 11) _, _, _, _, none⟩ :: _) _ _
         refine wpList_boxA_put rowFr rfl _ _ rfl rfl w4.heap.size (frA 6 n (stN z) none 0 0) _ (frA_size _ _ _ _ _ _) (frA_one _ _ _ _ _ _) (frA_size _ _ _ _ _ _) rfl rfl XX.out ?_
         intro w5 xx kk ss
         have bb := low_put LL.out (Nat.le_refl _) kk
         have P5 := Lib.hid (P4.out.add bb xx (Nat.le_refl _))
         have U5 := Lib.hid (U4.out.trans (bb.mono U4.out.size))
         have J5 := Lib.hid (show w1.heap.size ≤ w4.heap.size from U4.out.size)
         clear xx kk ss bb XX LL P4 U4
         generalize w4.heap.size = J2 at *))
    have P6 := Lib.hid P5.out.drew
    have U6 := Lib.hid (show Below w1.heap.size w1 w5.drew from U5.out.drew)
    clear P5 U5
    refine wp_region_sched [(0, true), (1, true), (3, true), (4, true), (2, false), (5, true)] (fun V => BoxA V J2 24 (frA 6 n (stN z) none 0 0)) (by kernel_rfl) (by kernel_rfl) (P6.out.bx (i := 0) rfl) ?_
    refine walk_float rfl rfl (fun K hK => ?_)
    refine gives_move _ rfl ?_
    go_simp
    refine hK _ ?_
    clear hK K
    refine walk_float rfl rfl (fun K hK => ?_)
    refine gives_iface _ rfl z rfl ?_
    go_simp
    refine hK _ ?_
    clear hK K
    refine walk_float rfl rfl (fun K hK => ?_)
    refine gives_frfield _ 2 rfl (by omega) J2 rfl ?_
    go_simp
    refine hK _ ?_
    clear hK K
    refine walk_float rfl rfl (fun K hK => ?_)
    refine gives_cell 3 _ rfl ⟨J2, 2, none⟩ (.int .i64 (stN z)) rfl box_int (fun V hV => (boxFr hV).2.2.1) ?_
    go_simp
    refine hK _ ?_
    clear hK K
    refine walk_done rfl rfl (fun K hK => ?_)
    refine done_call1 _ _ _ rfl 33 rfl (enters_of Try.func33 (by kernel_rfl) rfl) _ rfl _ (SZ.out _) ?_
    rintro e w7 ⟨rfl, l7⟩
    have P7 := Lib.hid (P6.out.mono l7)
    have U7 := Lib.hid (U6.out.trans (l7.mono U6.out.size))
    clear l7 P6 U6
    refine ⟨_, rfl, P7.out.bx (i := 0) rfl, ?_⟩
    go_simp
    refine hK _ _ ?_
    clear hK K
    refine walk_float rfl rfl (fun K hK => ?_)
    refine gives_ne64 _ _ rfl (stN z) rfl rfl ?_
    go_simp
    refine hK _ ?_
    clear hK K
    refine walk_nil ?_
    go_wp2_with (first
      | (go_at_call 34
         have k7 := K1.out.below U7.out K1.out.lt
         refine (Over_any w.heap.size d (d + 2) (d + 2) (markF d g) (markF_lt HG.out) (Nat.le_add_right _ _) (by have := HD.out; omega) w7 k7).mono ?_
         rintro e w7b ⟨⟨v, rfl⟩, hb⟩
         have kp := (Keeps.refl (fun j => j = w.heap.size) w7).but hb rfl
         have hK := K1.out.lt
         have P7b := Lib.hid (show LwB w [bxO J2 24 (frA 6 n (stN z) none 0 0), bxO J 24 (frA 6 n (stN z) q3 0 m3)] w7b from ⟨fun {i x} hi => by
           have h := P7.out.box hi
           refine ⟨(kp.block _ (P7.out.lt hi) (fun e => ?_)).trans h.1, h.2⟩
           have e1 := J3.out
           have e2 := J5.out
           rcases i with _ | _ | i
           · obtain rfl := (by simpa using hi : bxO J2 24 (frA 6 n (stN z) none 0 0) = x); simp only [bxO] at e; omega
           · obtain rfl := (by simpa using hi : bxO J 24 (frA 6 n (stN z) q3 0 m3) = x); simp only [bxO] at e; omega
           · simp at hi, P7.out.low.trans (kp.below (M := w.heap.size) P7.out.low.size (fun j hj e => by omega)), P7.out.dis⟩)
         clear hb kp k7 hK P7 U7 K1)
      | (with_reducible show wpList _ _ _ (⟨some 47, Op.load 24 _, _, _, _, _⟩ :: _) _ _
         refine wpList_boxA_loadw rowFr _ rfl rfl J (frA 6 n (stN z) q3 0 m3) (frA_size _ _ _ _ _ _) rfl (P7b.out.bx (i := 1) rfl) ?_)
      | (with_reducible show wpList _ _ _ (⟨some 48, Op.load 24 _, _, _, _, _⟩ :: _) _ _
         refine wpList_boxA_loadw rowFr _ rfl rfl J2 (frA 6 n (stN z) none 0 0) (frA_size _ _ _ _ _ _) rfl (P7b.out.bx (i := 0) rfl) ?_)
      | (go_at_call 18
         have hh := P7b
         clear hh
         refine (refSame_yes 6 n (stN z) (d := 0) (g := zeroK) (g' := zeroK) (fun _ _ => rfl) (.inl rfl) (.inl rfl)).mono ?_; rintro e w8 ⟨rfl, l8⟩
         have P8 := Lib.hid (P7b.out.low.trans (l8.mono P7b.out.low.size))
         clear l8 P7b)
      | (go_at_call 33
         refine (GS.out _).mono ?_; rintro e w9 ⟨rfl, l9⟩
         have P9 := Lib.hid (P8.out.trans (l9.mono P8.out.size))
         clear l9 P8 GS)
      | (go_at_call 35
         refine (RJ.out _).mono ?_; rintro e wa ⟨qa, ma, rfl, la⟩
         have PA := Lib.hid (P9.out.trans (la.mono P9.out.size))
         clear la P9 RJ)
      | (with_reducible show wpList _ _ _ (⟨some 58, Op.build 24 _, _, _, _, _⟩ :: _) _ _
         refine wpList_fr02n rfl _ rfl nb rfl ?_)
      | (go_at_call 18
         have hh := PA
         clear hh
         refine (refSame_yes 7 0 nb (d := 0) (g := zeroK) (g' := zeroK) (fun _ _ => rfl) (.inl rfl) (.inl rfl)).mono ?_; rintro e wb ⟨rfl, lb⟩
         have PB := Lib.hid (PA.out.trans (lb.mono PA.out.size))
         clear lb PA))
    go_ret
    exact ⟨rfl, PB.out⟩
end Go.Proofs.Ytebbnkkhabehmaa
