/- Every text is wrapped as the document says, as new memory, and nothing that came in is changed: the statement WrapWraps. No condition. -/
import Derived.Test.YtleoljdhaeoepaaWrAlive
namespace Go.Proofs.Ytleoljdhaeoepaa.wrapWraps
open Go.ChangeShapes Go.WideShapes Go.ChangeAt Go.RowKit
set_option linter.unusedVariables false

theorem own : ownKnob Try.prog.godebug = none := by kernel_rfl
attribute [local irreducible] wrpN unwN rkS markF

set_option maxRecDepth 100000 in
set_option maxHeartbeats 8000000 in
theorem walk (p : Option Addr) (n cap : Nat) (g : Nat → Nat) (q : Option Addr) (tn tcap : Nat) (G : Nat → Nat) (hg : ∀ i, i < n → g i < 256) (hcap : n ≤ cap) (hsn : n ≤ 140737488351232) (hG : ∀ i, i < tn → G i < 256) (htcap : tn ≤ tcap) (hst : tn ≤ 140737488351232) (w : World) (hp : BytesAt w p n g) (hq : BytesAt w q tn G) :
    Calls Try.prog 3 #[.slice p n cap, .slice q tn tcap] w fun e w' => e = .returned (.bool true) ∧ Below w.heap.size w w' := by
  by_cases hbig : 4096 < n
  · have d1 : decide ((4096 : Int) < (n : Int)) = true := by simp; omega
    have d2 : decide (4096 < n) = true := by simp; omega
    clear hbig
    go_enter Try.func3, Try.ntmps3
    go_wp2
    go_ret
    exact ⟨rfl, Below.refl _ _⟩
  have d1 : decide ((4096 : Int) < (n : Int)) = false := by simp; omega
  have d2 : decide (4096 < n) = false := by simp; omega
  by_cases hbigt : 4096 < tn
  · have d3 : decide ((4096 : Int) < (tn : Int)) = true := by simp; omega
    have d4 : decide (4096 < tn) = true := by simp; omega
    clear hbig hbigt
    go_enter Try.func3, Try.ntmps3
    go_wp2
    go_ret
    exact ⟨rfl, Below.refl _ _⟩
  have d3 : decide ((4096 : Int) < (tn : Int)) = false := by simp; omega
  have d4 : decide (4096 < tn) = false := by simp; omega
  have HP0 := Lib.hid hp; have HQ0 := Lib.hid hq; have HSN := Lib.hid hsn; have HST := Lib.hid hst
  by_cases hok : (n = 16 ∨ n = 32) ∧ tn % 8 = 0 ∧ 16 ≤ tn ∧ tn ≤ 512
  · obtain ⟨N, hN, hnN⟩ : ∃ N, (N = 4 ∨ N = 8) ∧ n = 4 * N := by
      rcases hok.1 with h | h
      · exact ⟨4, .inl rfl, h⟩
      · exact ⟨8, .inr rfl, h⟩
    obtain ⟨m, hm⟩ : ∃ m, tn = 8 * m := ⟨tn / 8, by omega⟩
    obtain ⟨F, HC, RC⟩ : ∃ F : Nat → Nat,
        (∀ (Dk Dc : Nat) (W : World), BytesAt W (some ⟨Dk, 0, none⟩) n g → BytesAt W (some ⟨Dc, 0, none⟩) tn G → Calls Try.prog 8 #[.slice (some ⟨Dk, 0, none⟩) n (n + 2), .slice (some ⟨Dc, 0, none⟩) tn (tn + 2)] W fun e w' => ∃ D, e = .returned (.tuple #[.slice (some ⟨D, 0, none⟩) (tn + 8) (tn + 8), .nilIface]) ∧ IntBlk w' D .u8 5 (mk (tn + 8) F) ∧ W.heap.size ≤ D ∧ Below W.heap.size W w') ∧
        (∀ (W : World), BytesAt W p n g → BytesAt W q tn G → Calls Try.prog 10 #[.slice p n cap, .slice q tn tcap] W fun e w' => ∃ q' c, e = .returned (.tuple #[.slice q' (tn + 8) c, .int .i64 0]) ∧ BytesAt w' q' (tn + 8) F ∧ tn + 8 ≤ c ∧ c ≤ maxLen ∧ Below W.heap.size W w') :=
      ⟨wrpN (rkS N g) (N + 7) m G, fun Dk Dc W h1 h2 => Wrap_ok _ n (n + 2) N g _ tn (tn + 2) m G hnN hN (by omega) hg hm (by omega) (by omega) hG W h1 h2,
        fun W h1 h2 => refWrap_ok p n cap N g q tn tcap m G hnN hN hg hm (by omega) (by omega) hG W h1 h2⟩
    have hs8 : tn + 8 ≤ 140737488351232 := by omega
    have HS8 := Lib.hid hs8
    have HCC := Lib.hid HC; have RCC := Lib.hid RC
    clear HC RC hN hnN hm hg hG hok hbig hbigt hp hq hsn hst hs8 hcap htcap
    go_enter Try.func3, Try.ntmps3
    go_wp2
    have c0 : Below w.heap.size w w.drew := (Below.refl _ w).drew
    refine wp_region_tree (.two 0 (.one 1 (.one 2 (.float 3 (.float 4 (.float 5 (.float 6 (.float 7 .over))))))) 1 (.one 0 (.one 2 (.float 3 (.float 4 (.float 5 (.float 6 (.float 7 .over)))))))) (fun W => Below w.heap.size w W) (by kernel_rfl) (by kernel_rfl) c0 ?_
    have n1 := IntBlk.new w.drew .u8 5 (mk 16 zeroK)
    have n2 := IntBlk.new (w.drew.alloc (.cells (cellsOf .u8 (mk 16 zeroK)) 5)) .u8 5 (mk 16 zeroK)
    have n1' := n1.alloc (.cells (cellsOf .u8 (mk 16 zeroK)) 5)
    have a1 : Below w.heap.size w (w.drew.alloc (.cells (cellsOf .u8 (mk 16 zeroK)) 5)) := c0.alloc (Nat.le_refl _) _
    have a2 : Below w.heap.size w ((w.drew.alloc (.cells (cellsOf .u8 (mk 16 zeroK)) 5)).alloc (.cells (cellsOf .u8 (mk 16 zeroK)) 5)) := a1.alloc a1.size _
    have n2' : IntBlk ((w.drew.alloc (.cells (cellsOf .u8 (mk 16 zeroK)) 5)).alloc (.cells (cellsOf .u8 (mk 16 zeroK)) 5)) (w.heap.size + 1) .u8 5 (mk 16 zeroK) := by
      have := n2; rw [World.size_alloc] at this; exact this
    have HX1 := Lib.hid (Wrap_noughts w.heap.size (w.heap.size + 1) _ n1' n2')
    have HX2 := Lib.hid (Wrap_noughts (w.heap.size + 1) w.heap.size _ n2' n1')
    clear n1 n2 n1' n2'
    refine tree_two ?_ ?_
    all_goals
      refine tree_one rfl rfl (fun K' hK => ?_)
      refine done_noughts _ _ rfl 16 (by omega) rfl rfl ⟨a1, ?_⟩
      go_simp
      refine hK _ _ ?_
      clear hK K'
      refine tree_one rfl rfl (fun K' hK => ?_)
      refine done_noughts _ _ rfl 16 (by omega) rfl rfl ⟨a2, ?_⟩
      go_simp
      refine hK _ _ ?_
      clear hK K'
      change walkT _ _ _ _ _ _ ((w.drew.alloc (.cells (cellsOf .u8 (mk 16 zeroK)) 5)).alloc (.cells (cellsOf .u8 (mk 16 zeroK)) 5))
      generalize (w.drew.alloc (.cells (cellsOf .u8 (mk 16 zeroK)) 5)).alloc (.cells (cellsOf .u8 (mk 16 zeroK)) 5) = w0 at *
      refine tree_one rfl rfl (fun K' hK => ?_)
      first
        | refine done_call _ #[_, _] _ rfl 8 #[.slice (some ⟨w.heap.size, 0, none⟩) 16 16, .slice (some ⟨(w.heap.size + 1), 0, none⟩) 16 16] rfl (by simp only [List.map_toArray, List.map_cons, List.map_nil]; rfl) (by simp [go_sem]) (HX1.out.mono fun e w1 hh => ?_)
        | refine done_call _ #[_, _] _ rfl 8 #[.slice (some ⟨(w.heap.size + 1), 0, none⟩) 16 16, .slice (some ⟨w.heap.size, 0, none⟩) 16 16] rfl (by simp only [List.map_toArray, List.map_cons, List.map_nil]; rfl) (by simp [go_sem]) (HX2.out.mono fun e w1 hh => ?_)
      obtain ⟨D0, rfl, _, _, hb⟩ := hh
      have a3 := a2.trans (hb.mono a2.size)
      refine ⟨_, rfl, a3, ?_⟩
      go_simp
      refine hK _ _ ?_
      clear hK K' hb HX1 HX2 a1 a2 c0
      iterate 5 (
        refine tree_float rfl rfl (fun K hK => ?_)
        first
          | (refine gives_move _ rfl ?_)
          | (refine gives_take _ 0 rfl #[.slice (some ⟨D0, 0, none⟩) 24 24, .nilIface] _ rfl rfl ?_)
          | (refine gives_take _ 1 rfl #[.slice (some ⟨D0, 0, none⟩) 24 24, .nilIface] _ rfl rfl ?_)
          | (refine gives_assign _ rfl ?_)
        go_simp
        refine hK _ ?_
        clear hK K)
      refine tree_over ?_
      have B1 := Lib.hid a3; have P1 := Lib.hid (HP0.out.below a3); have Q1 := Lib.hid (HQ0.out.below a3)
      clear a3 HP0 HQ0
    all_goals
      go_wp2_with (first
        | (go_at_call 9; refine (Copy_row p n cap g HSN.out w1 P1.out).mono ?_; rintro e w2 ⟨rfl, hr, hb⟩
           have K2 := Lib.hid hr; have B2 := Lib.hid (B1.out.trans (hb.mono B1.out.size)); have P2 := Lib.hid (P1.out.below hb); have Q2 := Lib.hid (Q1.out.below hb)
           clear hr hb P1 Q1)
        | (go_at_call 9; refine (Copy_row q tn tcap G HST.out w2 Q2.out).mono ?_; rintro e w3 ⟨rfl, hr, hb⟩
           have C3 := Lib.hid hr; have K3 := Lib.hid (K2.out.below hb K2.out.lt); have B3 := Lib.hid (B2.out.trans (hb.mono B2.out.size)); have P3 := Lib.hid (P2.out.below hb); have Q3 := Lib.hid (Q2.out.below hb)
           have L3 := Lib.hid K2.out.lt
           clear hr hb K2 P2 Q2)
        | (go_at_call 8; refine (HCC.out w1.heap.size w2.heap.size w3 (K3.out.bytesAt.low rfl) (C3.out.bytesAt.low rfl)).mono ?_; rintro e w4 ⟨D, rfl, hr, hD, hb⟩
           have X4 := Lib.hid hr; have K4 := Lib.hid (K3.out.below hb K3.out.lt); have C4 := Lib.hid (C3.out.below hb C3.out.lt); have B4 := Lib.hid (B3.out.trans (hb.mono B3.out.size)); have P4 := Lib.hid (P3.out.below hb); have Q4 := Lib.hid (Q3.out.below hb)
           have D4 := Lib.hid (Nat.lt_of_lt_of_le C3.out.lt hD)
           clear hr hD hb K3 C3 P3 Q3 HCC)
        | (go_at_call 10; refine (RCC.out w4 P4.out Q4.out).mono ?_; rintro e w5 ⟨q', c, rfl, hr, _, _, hb⟩
           have Y5 := Lib.hid hr; have X5 := Lib.hid (X4.out.below hb X4.out.lt); have K5 := Lib.hid (K4.out.below hb K4.out.lt); have C5 := Lib.hid (C4.out.below hb C4.out.lt); have B5 := Lib.hid (B4.out.trans (hb.mono B4.out.size)); have P5 := Lib.hid (P4.out.below hb); have Q5 := Lib.hid (Q4.out.below hb)
           clear hr hb K4 C4 P4 Q4 X4 RCC)
        | (go_at_call 11; refine (Same_true (some ⟨D, 0, none⟩) (tn + 8) (tn + 8) q' c _ _ (fun _ _ => rfl) w5 X5.out.bytesAt Y5.out).mono ?_; rintro e w6 ⟨rfl, rfl⟩; clear Y5)
        | (go_at_call 12; refine (Num_nil _).mono ?_; rintro e w7 ⟨rfl, rfl⟩)
        | (go_at_call 13; refine (Kept_row p n cap w1.heap.size g HSN.out w5 P5.out K5.out).mono ?_; rintro e w8 ⟨rfl, rfl⟩; clear P5)
        | (go_at_call 13; refine (Kept_row q tn tcap w2.heap.size G HST.out w5 Q5.out C5.out).mono ?_; rintro e w9 ⟨rfl, rfl⟩; clear Q5)
        | (refine wpList_lists3 rfl _ _ _ rfl _ _ _ _ _ _ _ _ _ rfl rfl rfl ?_
           have a6 : Below w5.heap.size w5 (w5.alloc (.cells #[.slice (some ⟨D, 0, none⟩) (tn + 8) (tn + 8), .slice (some ⟨w2.heap.size, 0, none⟩) tn (tn + 2), .slice (some ⟨w1.heap.size, 0, none⟩) n (n + 2)] 22)) := (Below.refl _ _).alloc (Nat.le_refl _) _
           have h6 := heap_alloc_new w5 (.cells #[.slice (some ⟨D, 0, none⟩) (tn + 8) (tn + 8), .slice (some ⟨w2.heap.size, 0, none⟩) tn (tn + 2), .slice (some ⟨w1.heap.size, 0, none⟩) n (n + 2)] 22)
           have B6 := Lib.hid (B5.out.trans (a6.mono B5.out.size))
           have A6 := Lib.hid (Apart_three _ (tn + 8) w2.heap.size w1.heap.size tn n _ _ _ w.heap.size w5.heap.size _ (.inr ⟨D, rfl, by have := D4.out; omega, by have := D4.out; have := L3.out; omega, by have := D4.out; have := B2.out.size; omega, X5.out.below a6 X5.out.lt⟩) HS8.out HST.out HSN.out (C5.out.below a6 C5.out.lt) (K5.out.below a6 K5.out.lt) (by have := L3.out; omega) B2.out.size B1.out.size B6.out.size h6)
           clear a6 h6)
        | (go_at_call 14; refine A6.out.mono ?_; rintro e w7 ⟨rfl, hb⟩
           have B7 := Lib.hid (B6.out.trans hb); clear hb A6))
      go_ret
      exact ⟨rfl, B7.out⟩
  · obtain ⟨E, hE0, HC, RC⟩ : ∃ E : Int, (E == 0) = false ∧
        (∀ (Dk Dc : Nat) (W : World), BytesAt W (some ⟨Dk, 0, none⟩) n g → Calls Try.prog 8 #[.slice (some ⟨Dk, 0, none⟩) n (n + 2), .slice (some ⟨Dc, 0, none⟩) tn (tn + 2)] W fun e w' => e = .returned (.tuple #[.slice none 0 0, .iface 36 (.int .i64 E)]) ∧ Below W.heap.size W w') ∧
        (∀ (W : World), BytesAt W p n g → Calls Try.prog 10 #[.slice p n cap, .slice q tn tcap] W fun e w' => e = .returned (.tuple #[.slice none 0 0, .int .i64 E]) ∧ Below W.heap.size W w') := by
      by_cases hk : n = 16 ∨ n = 32
      · obtain ⟨N, hN, hnN⟩ : ∃ N, (N = 4 ∨ N = 8) ∧ n = 4 * N := by
          rcases hk with h | h
          · exact ⟨4, .inl rfl, h⟩
          · exact ⟨8, .inr rfl, h⟩
        exact ⟨2, rfl, fun Dk Dc W h1 => Wrap_form _ n (n + 2) N g _ tn (tn + 2) hnN hN (by omega) hg (by omega) (by omega) W h1, fun W h1 => refWrap_form p n cap N g q tn tcap hnN hN hg (by omega) W h1⟩
      · exact ⟨3, rfl, fun Dk Dc W _ => Wrap_key _ n (n + 2) _ tn (tn + 2) (by omega) (by omega) W, fun W _ => (refWrap_key p n cap q tn tcap (by omega) (by omega) W).mono fun e w' ⟨he, hw⟩ => ⟨he, by rw [← hw]; exact Below.refl _ _⟩⟩
    have HCC := Lib.hid HC; have RCC := Lib.hid RC
    clear HC RC hg hG hok hbig hbigt hp hq hsn hst hcap htcap
    go_enter Try.func3, Try.ntmps3
    go_wp2
    have c0 : Below w.heap.size w w.drew := (Below.refl _ w).drew
    refine wp_region_tree (.two 0 (.one 1 (.one 2 (.float 3 (.float 4 (.float 5 (.float 6 (.float 7 .over))))))) 1 (.one 0 (.one 2 (.float 3 (.float 4 (.float 5 (.float 6 (.float 7 .over)))))))) (fun W => Below w.heap.size w W) (by kernel_rfl) (by kernel_rfl) c0 ?_
    have n1 := IntBlk.new w.drew .u8 5 (mk 16 zeroK)
    have n2 := IntBlk.new (w.drew.alloc (.cells (cellsOf .u8 (mk 16 zeroK)) 5)) .u8 5 (mk 16 zeroK)
    have n1' := n1.alloc (.cells (cellsOf .u8 (mk 16 zeroK)) 5)
    have a1 : Below w.heap.size w (w.drew.alloc (.cells (cellsOf .u8 (mk 16 zeroK)) 5)) := c0.alloc (Nat.le_refl _) _
    have a2 : Below w.heap.size w ((w.drew.alloc (.cells (cellsOf .u8 (mk 16 zeroK)) 5)).alloc (.cells (cellsOf .u8 (mk 16 zeroK)) 5)) := a1.alloc a1.size _
    have n2' : IntBlk ((w.drew.alloc (.cells (cellsOf .u8 (mk 16 zeroK)) 5)).alloc (.cells (cellsOf .u8 (mk 16 zeroK)) 5)) (w.heap.size + 1) .u8 5 (mk 16 zeroK) := by
      have := n2; rw [World.size_alloc] at this; exact this
    have HX1 := Lib.hid (Wrap_noughts w.heap.size (w.heap.size + 1) _ n1' n2')
    have HX2 := Lib.hid (Wrap_noughts (w.heap.size + 1) w.heap.size _ n2' n1')
    clear n1 n2 n1' n2'
    refine tree_two ?_ ?_
    all_goals
      refine tree_one rfl rfl (fun K' hK => ?_)
      refine done_noughts _ _ rfl 16 (by omega) rfl rfl ⟨a1, ?_⟩
      go_simp
      refine hK _ _ ?_
      clear hK K'
      refine tree_one rfl rfl (fun K' hK => ?_)
      refine done_noughts _ _ rfl 16 (by omega) rfl rfl ⟨a2, ?_⟩
      go_simp
      refine hK _ _ ?_
      clear hK K'
      change walkT _ _ _ _ _ _ ((w.drew.alloc (.cells (cellsOf .u8 (mk 16 zeroK)) 5)).alloc (.cells (cellsOf .u8 (mk 16 zeroK)) 5))
      generalize (w.drew.alloc (.cells (cellsOf .u8 (mk 16 zeroK)) 5)).alloc (.cells (cellsOf .u8 (mk 16 zeroK)) 5) = w0 at *
      refine tree_one rfl rfl (fun K' hK => ?_)
      first
        | refine done_call _ #[_, _] _ rfl 8 #[.slice (some ⟨w.heap.size, 0, none⟩) 16 16, .slice (some ⟨(w.heap.size + 1), 0, none⟩) 16 16] rfl (by simp only [List.map_toArray, List.map_cons, List.map_nil]; rfl) (by simp [go_sem]) (HX1.out.mono fun e w1 hh => ?_)
        | refine done_call _ #[_, _] _ rfl 8 #[.slice (some ⟨(w.heap.size + 1), 0, none⟩) 16 16, .slice (some ⟨w.heap.size, 0, none⟩) 16 16] rfl (by simp only [List.map_toArray, List.map_cons, List.map_nil]; rfl) (by simp [go_sem]) (HX2.out.mono fun e w1 hh => ?_)
      obtain ⟨D0, rfl, _, _, hb⟩ := hh
      have a3 := a2.trans (hb.mono a2.size)
      refine ⟨_, rfl, a3, ?_⟩
      go_simp
      refine hK _ _ ?_
      clear hK K' hb HX1 HX2 a1 a2 c0
      iterate 5 (
        refine tree_float rfl rfl (fun K hK => ?_)
        first
          | (refine gives_move _ rfl ?_)
          | (refine gives_take _ 0 rfl #[.slice (some ⟨D0, 0, none⟩) 24 24, .nilIface] _ rfl rfl ?_)
          | (refine gives_take _ 1 rfl #[.slice (some ⟨D0, 0, none⟩) 24 24, .nilIface] _ rfl rfl ?_)
          | (refine gives_assign _ rfl ?_)
        go_simp
        refine hK _ ?_
        clear hK K)
      refine tree_over ?_
      have B1 := Lib.hid a3; have P1 := Lib.hid (HP0.out.below a3); have Q1 := Lib.hid (HQ0.out.below a3)
      clear a3 HP0 HQ0
    all_goals
      go_wp2_with (first
        | (go_at_call 9; refine (Copy_row p n cap g HSN.out w1 P1.out).mono ?_; rintro e w2 ⟨rfl, hr, hb⟩
           have K2 := Lib.hid hr; have B2 := Lib.hid (B1.out.trans (hb.mono B1.out.size)); have P2 := Lib.hid (P1.out.below hb); have Q2 := Lib.hid (Q1.out.below hb)
           clear hr hb P1 Q1)
        | (go_at_call 9; refine (Copy_row q tn tcap G HST.out w2 Q2.out).mono ?_; rintro e w3 ⟨rfl, hr, hb⟩
           have C3 := Lib.hid hr; have K3 := Lib.hid (K2.out.below hb K2.out.lt); have B3 := Lib.hid (B2.out.trans (hb.mono B2.out.size)); have P3 := Lib.hid (P2.out.below hb); have Q3 := Lib.hid (Q2.out.below hb)
           have L3 := Lib.hid K2.out.lt
           clear hr hb K2 P2 Q2)
        | (go_at_call 8; refine (HCC.out w1.heap.size w2.heap.size w3 (K3.out.bytesAt.low rfl)).mono ?_; rintro e w4 ⟨rfl, hb⟩
           have K4 := Lib.hid (K3.out.below hb K3.out.lt); have C4 := Lib.hid (C3.out.below hb C3.out.lt); have B4 := Lib.hid (B3.out.trans (hb.mono B3.out.size)); have P4 := Lib.hid (P3.out.below hb); have Q4 := Lib.hid (Q3.out.below hb)
           clear hb K3 C3 P3 Q3 HCC)
        | (go_at_call 10; refine (RCC.out w4 P4.out).mono ?_; rintro e w5 ⟨rfl, hb⟩
           have K5 := Lib.hid (K4.out.below hb K4.out.lt); have C5 := Lib.hid (C4.out.below hb C4.out.lt); have B5 := Lib.hid (B4.out.trans (hb.mono B4.out.size)); have P5 := Lib.hid (P4.out.below hb); have Q5 := Lib.hid (Q4.out.below hb)
           clear hb K4 C4 P4 Q4 RCC)
        | (go_at_call 11; refine (Same_true none 0 0 none 0 g g (fun _ _ => rfl) w5 (.inl rfl) (.inl rfl)).mono ?_; rintro e w6 ⟨rfl, rfl⟩)
        | (go_at_call 12; refine (Num_err E hE0 _).mono ?_; rintro e w7 ⟨rfl, rfl⟩)
        | (go_at_call 13; refine (Kept_row p n cap w1.heap.size g HSN.out w5 P5.out K5.out).mono ?_; rintro e w8 ⟨rfl, rfl⟩; clear P5)
        | (go_at_call 13; refine (Kept_row q tn tcap w2.heap.size G HST.out w5 Q5.out C5.out).mono ?_; rintro e w9 ⟨rfl, rfl⟩; clear Q5)
        | (refine wpList_lists3 rfl _ _ _ rfl _ _ _ _ _ _ _ _ _ rfl rfl rfl ?_
           have a6 : Below w5.heap.size w5 (w5.alloc (.cells #[.slice none 0 0, .slice (some ⟨w2.heap.size, 0, none⟩) tn (tn + 2), .slice (some ⟨w1.heap.size, 0, none⟩) n (n + 2)] 22)) := (Below.refl _ _).alloc (Nat.le_refl _) _
           have h6 := heap_alloc_new w5 (.cells #[.slice none 0 0, .slice (some ⟨w2.heap.size, 0, none⟩) tn (tn + 2), .slice (some ⟨w1.heap.size, 0, none⟩) n (n + 2)] 22)
           have B6 := Lib.hid (B5.out.trans (a6.mono B5.out.size))
           have A6 := Lib.hid (Apart_three none 0 w2.heap.size w1.heap.size tn n g _ _ w.heap.size w5.heap.size _ (.inl ⟨rfl, rfl⟩) (by omega) HST.out HSN.out (C5.out.below a6 C5.out.lt) (K5.out.below a6 K5.out.lt) (by have := L3.out; omega) B2.out.size B1.out.size B6.out.size h6)
           clear a6 h6)
        | (go_at_call 14; refine A6.out.mono ?_; rintro e w7 ⟨rfl, hb⟩
           have B7 := Lib.hid (B6.out.trans hb); clear hb A6))
      go_ret
      exact ⟨rfl, B7.out⟩

theorem laidOut : laidOutB Try.prog = true := by kernel_rfl
set_option maxRecDepth 100000 in
theorem lifted (os : Os) (started : os.Started) (H : Type) (enc : TypeId × Value → H) :
    ReturnsInHanded {} Try.checked os 3 .any (Rows.wrapWrapsSpec.pre6 enc Try.prog Try.f3 Rows.wrapWrapsRow.domain false) (Rows.wrapWrapsSpec.post enc Try.prog Try.f3 false true false false) := by
  refine returnsInHanded_of_change_sized (C := Try.checked) own started (by kernel_rfl) Try.func3
    (ChangeSpec.witness6 (enc := enc) (C := Try.checked) false ⟨#[], #[.slice none 0 0, .slice none 0 0], []⟩ 8 (by kernel_rfl) (by kernel_rfl) (by kernel_rfl) (by kernel_rfl)) ?_
  intro W base args ds gs before hval0 hW hcnd hsz _
  have hval : ∀ (j : Nat) t v, Try.f3.params[j]? = some t → args[j]? = some v → Value.okWide Try.prog W .any base t v := hval0
  have hW' := hW
  obtain ⟨p, q, hA0, hV, rfl, hfz, hnd⟩ := hW
  have hA : DataW.TrodAll enc Try.prog W 0 (fun _ => true) true Try.f3.params.toList args.toList ds p := hA0
  rw [Try.params3] at hA hval
  obtain ⟨v0, vs0, d0, ds0, p0, q0, hargs, rfl, rfl, h0, r0⟩ := trodAll_cons hA
  obtain ⟨v1, vs1, d1, ds1, p1, q1, rfl, rfl, rfl, h1, r1⟩ := trodAll_cons r0
  obtain ⟨rfl, rfl, rfl⟩ := trodAll_nil r1
  obtain rfl : args = #[v0, v1] := by cases args; simp_all
  obtain ⟨rfl, rfl⟩ := trodVars_none hV
  have k0 := h0
  have lt0 : ∀ x ∈ p0, x.block < W.heap.size := by obtain ⟨m, hm⟩ := k0; exact DataW.trod_lt m _ _ _ hm
  obtain ⟨q0, n0, c0, a0, rfl, w0, y0, l0, m0⟩ := open_byteslice (hval 0 22 v0 rfl rfl) h0
  have k1 := h1
  have lt1 : ∀ x ∈ p1, x.block < W.heap.size := by obtain ⟨m, hm⟩ := k1; exact DataW.trod_lt m _ _ _ hm
  obtain ⟨q1, n1, c1, a1, rfl, w1, y1, l1, m1⟩ := open_byteslice (hval 1 22 v1 rfl rfl) h1
  have z0 := open_size k0 hsz (j := 0) (by rw [Try.params3]; rfl) rfl
  have z1 := open_size k1 hsz (j := 1) (by rw [Try.params3]; rfl) rfl
  clear hA0 hval0
  refine (walk q0 n0 c0 a0 q1 n1 c1 a1 w0 l0 z0 w1 l1 z1 W y0 y1).mono fun e W' ⟨he, bel⟩ => ?_
  subst he
  exact ⟨_, rfl, _, _, _, [], _, [], hW', trodAll_mk1 (shut_bool Try.underlying4 _), (trodAll_cons_mk (Below.trod laidOut (by kernel_rfl) (of_decide_eq_true (by kernel_rfl)) k0 bel lt0) (trodAll_cons_mk (Below.trod laidOut (by kernel_rfl) (of_decide_eq_true (by kernel_rfl)) k1 bel lt1) trodAll_mk0)), rfl, bel.frame _, fun h => by cases h⟩

theorem over : Rows.wrapWrapsRow.holds Try.pinned (OpenSpec.ofChange Rows.wrapWrapsSpec) :=
  OpenClaim.holds_of_wide 3 Try.f3 rfl rfl rfl rfl rfl rfl rfl ⟨rfl, rfl, rfl, rfl, rfl⟩ rfl rfl rfl rfl rfl (by kernel_rfl) Try.func3 (by kernel_rfl)
    (of_decide_eq_true (by kernel_rfl)) (by unfold Func.isWrapper; first | (rw [if_pos (by decide +kernel)]; kernel_rfl) | (rw [if_neg (by decide +kernel)]; exact ⟨rfl, rfl⟩))
    (fun os started H enc _ => lifted os started H enc)

theorem proved : Rows.WrapWrapsSaid := over
end Go.Proofs.Ytleoljdhaeoepaa.wrapWraps
