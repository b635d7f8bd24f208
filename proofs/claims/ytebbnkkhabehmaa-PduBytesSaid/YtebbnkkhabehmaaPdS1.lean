/- The program's Status, Reject, Reply and Same; bytes.Equal. Conditions: as each says. -/
import Derived.Test.YtebbnkkhabehmaaPdIs
import Derived.Laws.Append
import Derived.Laws.Rows
namespace Go.Proofs.Ytebbnkkhabehmaa
open Go.ChangeShapes Go.WideShapes Go.ChangeAt Go.RowKit
set_option linter.unusedVariables false
set_option linter.unusedSimpArgs false
set_option maxRecDepth 100000 in
set_option maxHeartbeats 400000 in
theorem Equal_any (p : Option Addr) (n cap : Nat) (q : Option Addr) (m c : Nat) (g g' : Nat → Nat) (hg : ∀ j, j < n → g j < 256) (hg' : ∀ j, j < m → g' j < 256) (w : World) (hp : BytesAt w p n g) (hq : BytesAt w q m g') :
    Calls Try.prog 30 #[.slice p n cap, .slice q m c] w fun e w' => e = .returned (.bool (decide (mk n g = mk m g'))) ∧ w = w' := by
  have e1 := str_eq hg hg'
  have HP := Lib.hid hp
  have HQ := Lib.hid hq
  clear hp hq hg hg'
  generalize decide (mk n g = mk m g') = v at *
  go_enter Try.func30, Try.ntmps30
  go_wp2_with (first
    | (refine wpList_string rfl (.tmp 5) rfl p n cap rfl g HP.out ?_)
    | (refine wpList_string rfl (.tmp 7) rfl q m c rfl g' HQ.out ?_))
  go_ret
  exact ⟨rfl, rfl⟩
theorem DatO.low {W : World} {p : Option Addr} {d C S S2 : Nat} {g : Nat → Nat} (h : DatO W p d C S g) (hs : S2 ≤ S) : DatO W p d C S2 g := by
  rcases h with h | ⟨D, G, h1, h2, h3⟩
  · exact .inl h
  · exact .inr ⟨D, G, h1, Nat.le_trans hs h2, h3⟩
attribute [local go_sem] Oper.semAt_some
attribute [local irreducible] frA frT mk zeroK stN
set_option maxRecDepth 100000 in
theorem Status_nil {w : World} : Calls Try.prog 33 #[.nilIface] w fun e w' => e = .returned (.int .i64 0) ∧ Below w.heap.size w w' := by
  go_enter Try.func33, Try.ntmps33
  go_wp2
  go_ret
  exact ⟨rfl, Below.refl _ _⟩
set_option maxRecDepth 100000 in
theorem Status_any {w : World} (z : Int) (h1 : 1 ≤ z) (h2 : z ≤ 1000) : Calls Try.prog 33 #[.iface 35 (.int .i64 z)] w fun e w' => e = .returned (.int .i64 (stN z)) ∧ Below w.heap.size w w' := by
  have P := Lib.hid (Below.refl w.heap.size w)
  have IS := Lib.hid (fun (W : World) (b : Int) => is_any (w := W) z b)
  by_cases h8 : z = 8
  · have hs : stN z = 8 := by subst h8; unfold stN; rfl
    rw [hs]
    have e8 : (z == 8) = true := by simp [h8]
    clear h1 h2 hs h8
    go_enter Try.func33, Try.ntmps33
    go_wp2_with (first
      | (go_at_call 42
         refine (IS.out _ _).mono ?_; rintro e wz ⟨rfl, lz⟩
         try rw [e8]
         try rw [e9]
         try rw [e6]
         have PP := Lib.hid (P.out.trans (lz.mono P.out.size))
         clear lz P
         have P := PP
         clear PP))
    go_ret
    exact ⟨rfl, P.out⟩
  have e8 : (z == 8) = false := by simpa using h8
  by_cases h9 : z = 9
  · have hs : stN z = 24 := by subst h9; unfold stN; rfl
    rw [hs]
    have e9 : (z == 9) = true := by simp [h9]
    clear h1 h2 hs h9
    go_enter Try.func33, Try.ntmps33
    go_wp2_with (first
      | (go_at_call 42
         refine (IS.out _ _).mono ?_; rintro e wz ⟨rfl, lz⟩
         try rw [e8]
         try rw [e9]
         try rw [e6]
         have PP := Lib.hid (P.out.trans (lz.mono P.out.size))
         clear lz P
         have P := PP
         clear PP))
    go_ret
    exact ⟨rfl, P.out⟩
  have e9 : (z == 9) = false := by simpa using h9
  by_cases h6 : z = 6
  · have hs : stN z = 3 := by subst h6; unfold stN; rfl
    rw [hs]
    have e6 : (z == 6) = true := by simp [h6]
    clear h1 h2 hs h6
    go_enter Try.func33, Try.ntmps33
    go_wp2_with (first
      | (go_at_call 42
         refine (IS.out _ _).mono ?_; rintro e wz ⟨rfl, lz⟩
         try rw [e8]
         try rw [e9]
         try rw [e6]
         have PP := Lib.hid (P.out.trans (lz.mono P.out.size))
         clear lz P
         have P := PP
         clear PP))
    go_ret
    exact ⟨rfl, P.out⟩
  have e6 : (z == 6) = false := by simpa using h6
  have hs : stN z = 2 := by unfold stN; rw [if_neg (by omega), if_neg h8, if_neg h9, if_neg h6]
  rw [hs]
  clear h1 h2 h8 h9 h6 hs
  go_enter Try.func33, Try.ntmps33
  go_wp2_with (first
    | (go_at_call 42
       refine (IS.out _ _).mono ?_; rintro e wz ⟨rfl, lz⟩
       try rw [e8]
       try rw [e9]
       try rw [e6]
       have PP := Lib.hid (P.out.trans (lz.mono P.out.size))
       clear lz P
       have P := PP
       clear PP))
  go_ret
  exact ⟨rfl, P.out⟩
set_option maxRecDepth 100000 in
theorem Reject_any {w : World} (c : Int) : Calls Try.prog 35 #[.int .i64 c] w fun e w' => ∃ q C, e = .returned (.agg (frA 7 0 c q 0 C)) ∧ Below w.heap.size w w' := by
  go_enter Try.func35, Try.ntmps35
  go_wp2_with (first
  | (with_reducible show wpList _ _ _ (⟨some 2, Op.alloc 24, _, _, _, _⟩ :: _) _ _
     refine wpList_boxA_new rowFr rfl rfl _ rfl ?_
     intro w1 xx ll ss
     have XX := Lib.hid xx
     have LL := Lib.hid ll
     clear xx ll ss)
  | (with_reducible show wpList _ _ _ (⟨some 4, Op.build 24 _, _, _, _, _⟩ :: _) _ _
     refine wpList_fr02n rfl _ rfl c rfl ?_)
  | (with_reducible show wpList _ _ _ (⟨_, Op.store 24 (.tmp 2) _, _, _, _, none⟩ :: _) _ _
     refine wpList_boxA_put rowFr rfl _ _ rfl rfl w.heap.size (frA 7 0 c none 0 0) _ (frA_size _ _ _ _ _ _) (frA_one _ _ _ _ _ _) (frA_size _ _ _ _ _ _) rfl rfl XX.out ?_
     intro w9 x9 k9 s9
     have X9 := Lib.hid x9
     have L9 := Lib.hid (low_put LL.out (Nat.le_refl _) k9)
     clear x9 k9 s9 XX LL))
  exact bodyPost_ret (results_cell_row rfl _ _ w.heap.size 24 (frA 7 0 c none 0 0) (0, 0) _ rfl X9.out Try.underlying24 rfl (by rw [frA_size]; exact rowFr.size)) rfl ⟨none, 0, rfl, L9.out⟩
set_option maxRecDepth 100000 in
set_option maxHeartbeats 2000000 in
theorem Reply_err {w : World} (n z : Int) (p : Option Addr) (d cd : Nat) (h1 : 1 ≤ z) (h2 : z ≤ 1000) : Calls Try.prog 31 #[.int .i64 n, .slice p d cd, .iface 35 (.int .i64 z)] w fun e w' => ∃ q C, e = .returned (.agg (frA 6 n (stN z) q 0 C)) ∧ Below w.heap.size w w' := by
  have ST := Lib.hid (fun (W : World) => Status_any (w := W) z h1 h2)
  clear h1 h2
  go_enter Try.func31, Try.ntmps31
  go_wp2_with (first
  | (with_reducible show wpList _ _ _ (⟨some 6, Op.alloc 24, _, _, _, _⟩ :: _) _ _
     refine wpList_boxA_new rowFr rfl rfl _ rfl ?_
     intro w1 xx ll ss
     have P1 := Lib.hid (show LwB w [bxO w.heap.size 24 (frA 0 0 0 none 0 0)] w1 from (LwB.none w).add ll xx (Nat.le_refl _))
     clear xx ll ss)
  | (go_at_call 33
     refine (ST.out _).mono ?_; rintro e w2 ⟨rfl, l2⟩
     have P2 := Lib.hid (P1.out.mono l2)
     clear l2 ST P1)
  | (with_reducible show wpList _ _ _ (⟨some 11, Op.build 24 _, _, _, _, _⟩ :: _) _ _
     refine wpList_fr012 rfl _ _ rfl n (stN z) rfl rfl ?_)
  | (with_reducible show wpList _ _ _ (⟨some 7, Op.alloc 24, _, _, _, _⟩ :: _) _ _
     refine wpList_boxA_new rowFr rfl rfl _ rfl ?_
     intro w3 xx ll ss
     have P3 := Lib.hid (P2.out.add ll xx (Nat.le_refl _))
     clear xx ll ss P2)
  | (with_reducible show wpList _ _ _ (⟨_, Op.store 24 (.tmp 7) _, _, _, _, none⟩ :: _) _ _
     refine wpList_boxA_put rowFr rfl _ _ rfl rfl w2.heap.size (frA 6 n (stN z) none 0 0) _ (frA_size _ _ _ _ _ _) (frA_one _ _ _ _ _ _) (frA_size _ _ _ _ _ _) rfl rfl (P3.out.bx (i := 0) rfl) ?_
     intro w5 x5 k5 s5
     have P5 := Lib.hid (P3.out.put 0 rfl x5 k5)
     clear x5 k5 s5 P3)
    | (with_reducible show wpList _ _ _ (⟨some 22, Op.load 24 _, _, _, _, _⟩ :: _) _ _
       refine wpList_boxA_loadw rowFr _ rfl rfl (w2.heap.size) (frA 6 n (stN z) none 0 0) (frA_size _ _ _ _ _ _) rfl (P5.out.bx (i := 0) rfl) ?_)
    | (with_reducible show wpList _ _ _ (⟨_, Op.store 24 (.tmp 6) _, _, _, _, none⟩ :: _) _ _
       refine wpList_boxA_put rowFr rfl _ _ rfl rfl w.heap.size (frA 6 n (stN z) none 0 0) _ (frA_size _ _ _ _ _ _) (frA_one _ _ _ _ _ _) (frA_size _ _ _ _ _ _) rfl rfl (P5.out.bx (i := 1) rfl) ?_
       intro w9 x9 k9 s9
       have P9 := Lib.hid (P5.out.put 1 rfl x9 k9)
       clear x9 k9 s9 P5))
  exact bodyPost_ret (results_cell_row rfl _ _ w.heap.size 24 (frA 6 n (stN z) none 0 0) (0, 0) _ rfl (P9.out.bx (i := 1) rfl) Try.underlying24 rfl (by rw [frA_size]; exact rowFr.size)) rfl ⟨none, 0, rfl, P9.out.low⟩
set_option maxRecDepth 100000 in
set_option maxHeartbeats 2000000 in
theorem Reply_ok {w : World} (n : Int) {p : Option Addr} {d cd : Nat} {g : Nat → Nat} (hd : d ≤ 4096) (hp : BytesAt w p d g) : Calls Try.prog 31 #[.int .i64 n, .slice p d cd, .nilIface] w fun e w' => ∃ q C, e = .returned (.agg (frA 6 n 0 q d C)) ∧ DatO w' q d C w.heap.size g ∧ Below w.heap.size w w' := by
  have ST := Lib.hid (fun (W : World) => Status_nil (w := W))
  have HP := Lib.hid (fun (W : World) (h : Below w.heap.size w W) => hp.below h)
  have HD := Lib.hid hd
  clear hd hp
  go_enter Try.func31, Try.ntmps31
  go_wp2_with (first
  | (with_reducible show wpList _ _ _ (⟨some 6, Op.alloc 24, _, _, _, _⟩ :: _) _ _
     refine wpList_boxA_new rowFr rfl rfl _ rfl ?_
     intro w1 xx ll ss
     have P1 := Lib.hid (show LwB w [bxO w.heap.size 24 (frA 0 0 0 none 0 0)] w1 from (LwB.none w).add ll xx (Nat.le_refl _))
     clear xx ll ss)
  | (go_at_call 33
     refine (ST.out _).mono ?_; rintro e w2 ⟨rfl, l2⟩
     have P2 := Lib.hid (P1.out.mono l2)
     clear l2 ST P1)
  | (with_reducible show wpList _ _ _ (⟨some 11, Op.build 24 _, _, _, _, _⟩ :: _) _ _
     refine wpList_fr012 rfl _ _ rfl n 0 rfl rfl ?_)
  | (with_reducible show wpList _ _ _ (⟨some 7, Op.alloc 24, _, _, _, _⟩ :: _) _ _
     refine wpList_boxA_new rowFr rfl rfl _ rfl ?_
     intro w3 xx ll ss
     have P3 := Lib.hid (P2.out.add ll xx (Nat.le_refl _))
     clear xx ll ss P2)
  | (with_reducible show wpList _ _ _ (⟨_, Op.store 24 (.tmp 7) _, _, _, _, none⟩ :: _) _ _
     refine wpList_boxA_put rowFr rfl _ _ rfl rfl w2.heap.size (frA 6 n 0 none 0 0) _ (frA_size _ _ _ _ _ _) (frA_one _ _ _ _ _ _) (frA_size _ _ _ _ _ _) rfl rfl (P3.out.bx (i := 0) rfl) ?_
     intro w5 x5 k5 s5
     have P5 := Lib.hid (P3.out.put 0 rfl x5 k5)
     clear x5 k5 s5 P3)
    | (with_reducible show wpList _ _ _ (⟨some 16, Op.makeSlice _ _ _, _, _, _, _⟩ :: _) _ _
       refine wpList_noughts rfl _ _ rfl d (by have := HD.out; omega) rfl rfl ?_
       obtain ⟨wm, hwm⟩ : ∃ wm, wm = w5.alloc (.cells (cellsOf .u8 (mk d zeroK)) 5) := ⟨_, rfl⟩
       have lm : Below w5.heap.size w5 wm := hwm ▸ (Below.refl _ _).alloc (Nat.le_refl _) _
       have zm : IntBlk wm w5.heap.size .u8 5 (mk d zeroK) := hwm ▸ heap_alloc_new w5 _
       rw [← hwm]
       have P6 := Lib.hid (P5.out.add lm zm (Nat.le_refl _))
       have J6 := Lib.hid (P5.out.lt (i := 0) rfl)
       clear hwm lm zm P5
       have U6 := Lib.hid P6.out.low.size)
    | (with_reducible show wpList _ _ _ (⟨_, Op.store 22 (.tmp 17) _, _, _, _, none⟩ :: _) _ _
       refine wpList_boxA_bytes rfl _ _ rfl rfl (w2.heap.size) (frA 6 n 0 none 0 0) 3 (some ⟨w5.heap.size, 0, none⟩) d d rfl rfl (P6.out.bx (i := 1) rfl) (by rw [frA_size]; omega) ?_
       intro w7 x7 k7 s7
       rw [frA_set] at x7
       have P7 := Lib.hid (P6.out.put 1 rfl x7 k7)
       obtain ⟨d0, d1, d2, d3⟩ := boxFr (P7.out.bx (i := 1) rfl)
       clear x7 k7 s7 P6)
    | (with_reducible show wpList _ _ _ (⟨some 21, Op.call _, _, _, _, _⟩ :: _) _ _
       refine wpList_copy_bytes rfl _ _ rfl w5.heap.size 0 d d d zeroK (some ⟨w5.heap.size, 0, none⟩) rfl p d cd (fun _ => rfl) g rfl 5 (P7.out.box (i := 0) rfl).1 (Nat.le_refl _) (by omega) (HP.out _ P7.out.low) ?_
       intro v8 w8 b8 bt8 s8
       have k8 := (Keeps.refl (fun j => j = w5.heap.size) w7).but bt8 rfl
       have P8 := Lib.hid (P7.out.put 0 rfl b8 k8)
       clear b8 bt8 s8 k8 P7 d0 d1 d2 d3)
    | (with_reducible show wpList _ _ _ (⟨some 22, Op.load 24 _, _, _, _, _⟩ :: _) _ _
       refine wpList_boxA_loadw rowFr _ rfl rfl (w2.heap.size) (frA 6 n 0 (some ⟨w5.heap.size, 0, none⟩) d d) (frA_size _ _ _ _ _ _) rfl (P8.out.bx (i := 1) rfl) ?_)
    | (with_reducible show wpList _ _ _ (⟨_, Op.store 24 (.tmp 6) _, _, _, _, none⟩ :: _) _ _
       refine wpList_boxA_put rowFr rfl _ _ rfl rfl w.heap.size (frA 6 n 0 (some ⟨w5.heap.size, 0, none⟩) d d) _ (frA_size _ _ _ _ _ _) (frA_one _ _ _ _ _ _) (frA_size _ _ _ _ _ _) rfl rfl (P8.out.bx (i := 2) rfl) ?_
       intro w9 x9 k9 s9
       have P9 := Lib.hid (P8.out.put 2 rfl x9 k9)
       clear x9 k9 s9 P8))
  exact bodyPost_ret (results_cell_row rfl _ _ w.heap.size 24 (frA 6 n 0 (some ⟨w5.heap.size, 0, none⟩) d d) (0, 0) _ rfl (P9.out.bx (i := 2) rfl) Try.underlying24 rfl (by rw [frA_size]; exact rowFr.size)) rfl ⟨_, _, rfl, .inr ⟨w5.heap.size, _, rfl, (P9.out.box (i := 0) rfl).2, Nat.le_refl _, ⟨d, Nat.le_refl _, (P9.out.box (i := 0) rfl).1⟩, fun j hj => by unfold put; rw [if_pos (by omega), Nat.sub_zero]⟩, P9.out.low⟩
set_option maxRecDepth 100000 in
set_option maxHeartbeats 4000000 in
theorem Same_any {w : World} (k n c : Int) {p q : Option Addr} {d cp cq : Nat} {g : Nat → Nat} (hg : ∀ j, j < d → g j < 256) (hp : BytesAt w p d g) (hq : BytesAt w q d g) : Calls Try.prog 19 #[.agg (frA k n c p d cp), .agg (frA k n c q d cq)] w fun e w' => e = .returned (.bool true) ∧ Below w.heap.size w w' := by
  have EQ := Lib.hid (fun (W : World) (h : Below w.heap.size w W) => Equal_any p d cp q d cq g g hg hg W (hp.below h) (hq.below h))
  clear hg hp hq
  go_enter Try.func19, Try.ntmps19
  go_wp2_with (first
  | (with_reducible show wpList _ _ _ (⟨some 2, Op.box 24 _, _, _, _, none⟩ :: _) _ _
     refine wpList_boxA_of rfl _ rfl (frA k n c p d cp) rfl ?_
     intro w1 x1 l1 s1
     have P1 := Lib.hid (show LwB w [bxO w.heap.size 24 (frA k n c p d cp)] w1 from (LwB.none w).add l1 x1 (Nat.le_refl _))
     clear x1 l1 s1)
  | (with_reducible show wpList _ _ _ (⟨some 3, Op.box 24 _, _, _, _, none⟩ :: _) _ _
     refine wpList_boxA_of rfl _ rfl (frA k n c q d cq) rfl ?_
     intro w2 x2 l2 s2
     have P2 := Lib.hid (show LwB w [bxO w1.heap.size 24 (frA k n c q d cq), bxO w.heap.size 24 (frA k n c p d cp)] w2 from P1.out.add l2 x2 (Nat.le_refl _))
     obtain ⟨a0, a1, a2, a3⟩ := boxFr (P2.out.bx (i := 0) rfl)
     obtain ⟨b0, b1, b2, b3⟩ := boxFr (P2.out.bx (i := 1) rfl)
     clear x2 l2 s2 P1)
  | (go_at_call 30
     refine (EQ.out _ P2.out.low).mono ?_; rintro e w3 ⟨rfl, rfl⟩
     rw [decide_eq_true rfl]
     clear EQ))
  go_ret
  exact ⟨rfl, P2.out.low⟩
end Go.Proofs.Ytebbnkkhabehmaa
