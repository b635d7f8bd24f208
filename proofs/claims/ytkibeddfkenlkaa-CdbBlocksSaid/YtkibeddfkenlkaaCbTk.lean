/- The contracts of the program's take: the numbers of these sizes that bytes begin with. Conditions: sizes that numbers have. -/
import Derived.Test.YtkibeddfkenlkaaCbEq
namespace Go.Proofs.Ytkibeddfkenlkaa
open Go.ChangeShapes Go.WideShapes Go.ChangeAt Go.RowKit
set_option linter.unusedVariables false
set_option linter.unusedSimpArgs false
/-- Between two rounds: the numbers told, the bytes behind them. -/
structure TkP (w : World) (qs : Option Addr) (ss : List Int) (n : Nat) (G : Nat → Nat) (k : Nat) (v : Value) (p : Option Addr) (c : Nat) (V : World) : Prop where
  own : OwnL 3 1 intC V w.heap.size V.heap.size v (valsF G 0 (ss.take k))
  bytes : BytesAt V p (n - offS (ss.take k)) (fun j => G (offS (ss.take k) + j))
  cap : n - offS (ss.take k) ≤ c
  rows : RowsAt 1 intC V qs ss
  low : Below w.heap.size w V
  new : 0 < k → ∃ D, p = some ⟨D, 0, none⟩ ∧ w.heap.size ≤ D ∧ c = n - offS (ss.take k) ∧ IntBlk V D .u8 5 (mk (n - offS (ss.take k)) (fun j => G (offS (ss.take k) + j)))
theorem TkP.mono {w V V' : World} {qs : Option Addr} {ss : List Int} {n k c : Nat} {G : Nat → Nat} {v : Value} {p : Option Addr} (h : TkP w qs ss n G k v p c V) (hb : Below V.heap.size V V') : TkP w qs ss n G k v p c V' :=
  ⟨(h.own.below (Nat.le_refl _) hb).raise hb.size, h.bytes.below hb, h.cap, RowsAt.below h.rows hb, h.low.trans (hb.mono h.low.size), fun hk => by obtain ⟨D, h1, h2, h3, h4⟩ := h.new hk; exact ⟨D, h1, h2, h3, h4.below hb h4.lt⟩⟩
attribute [local irreducible] intC offS valsF valN mk
attribute [local go_sem] Oper.semAt_some
set_option maxRecDepth 100000 in
set_option maxHeartbeats 8000000 in
theorem take_any {w : World} {p : Option Addr} {n c : Nat} {G : Nat → Nat} (hp : BytesAt w p n G) (hG : ∀ j, G j < 256) (hc : n ≤ c) (hn : n ≤ 100000) {qs : Option Addr} {ss : List Int} {N cs : Nat} (hss : RowsAt 1 intC w qs ss) (hN : ss.length = N) (hN1 : N ≤ 100) (hN0 : 0 < N)
    (hs : ∀ k, k < ss.length → ∃ s : Nat, ss.getD k 0 = (s : Int) ∧ IsSize (s : Int)) (ho : offS ss ≤ n) :
    Calls Try.prog 45 #[.slice p n c, .slice qs N cs] w fun e w' => ∃ qv cv D, e = .returned (.tuple #[.slice qv N cv, .slice (some ⟨D, 0, none⟩) (n - offS ss) (n - offS ss), .nilIface]) ∧ OwnL 3 1 intC w' w.heap.size w'.heap.size (.slice qv N cv) (valsF G 0 ss) ∧ IntBlk w' D .u8 5 (mk (n - offS ss) (fun j => G (offS ss + j))) ∧ w.heap.size ≤ D ∧ Below w.heap.size w w' := by
  have HGB := Lib.hid hG
  have HS := Lib.hid hs
  have HN := Lib.hid hN
  have HN1 := Lib.hid hN1
  have HNN := Lib.hid hn
  have HOL := Lib.hid (fun k => Nat.le_trans (off_le ss k) ho)
  have HO := Lib.hid ho
  have HV0 := Lib.hid (show valsF G 0 (ss.take 0) = [] by unfold valsF; rfl)
  have HO0 := Lib.hid (show offS (ss.take 0) = 0 by unfold offS; rfl)
  have HTK := Lib.hid (fun k (hk : k < ss.length) => off_take hk)
  have HVL := Lib.hid (fun k => vals_len G 0 (ss.take k))
  have HALL := Lib.hid (show ss.take ss.length = ss from List.take_length)
  have HRS := Lib.hid hss
  have HALL2 := Lib.hid (show ss.take N = ss by rw [← hN]; exact List.take_length)
  have HVA := Lib.hid ((vals_len G 0 ss).trans hN)
  have P0 := Lib.hid (show TkP w qs ss n G 0 (.slice none 0 0) p c w from ⟨by rw [HV0.out]; exact OwnL.nil _ _ _ _ _ _, by rw [HO0.out, Nat.sub_zero]; exact hp.imp id (fun ⟨B, o, h1, h2, h3⟩ => ⟨B, o, h1, h2, fun j hj => by simp only [Nat.zero_add]; exact h3 j hj⟩), by rw [HO0.out, Nat.sub_zero]; exact hc, hss, Below.refl _ _, fun h => absurd h (Nat.lt_irrefl 0)⟩)
  have HN0 := Lib.hid hN0
  rw [hN] at HS HTK HALL
  clear hp hG hc hn hss hN hN1 hN0 hs ho HV0
  go_enter Try.func45, Try.ntmps45
  go_wp2
  go_loopw [15, 7, 0] (fun v15 v7 v0 wr => ∃ k : Nat, k ≤ N ∧ v15 = .int .i64 k ∧ ∃ pp cp, v0 = .slice pp (n - offS (ss.take k)) cp ∧ TkP w qs ss n G k v7 pp cp wr) (fun v15 _ _ _ => N - (intOf v15).toNat)
  case atStart => exact ⟨0, Nat.zero_le _, rfl, p, c, by rw [HO0.out, Nat.sub_zero], P0.out⟩
  case round =>
    obtain ⟨k, hk, rfl, pp, cp, rfl, hp⟩ := hrel
    have HP := Lib.hid hp
    have HOK := Lib.hid (HOL.out k)
    have HVK := Lib.hid (show (valsF G 0 (ss.take k)).length ≤ 100 by have h := HVL.out k; have h2 := HN1.out; have h3 := HN.out; rw [h, List.length_take]; omega)
    clear hp P0 HO0 HVL
    by_cases hlt : k < N
    · have f1 : (k : Int) < (N : Int) := by omega
      have HLT := Lib.hid hlt
      have f3 : IntKind.i64.wrap ((k : Int) + 1) = ((k + 1 : Nat) : Int) := by have := HN1.out; rw [IntWalk.i64_in _ (by omega)]; omega
      obtain ⟨s, hsd, hsz⟩ := HS.out k hlt
      obtain ⟨QB, qo, rfl, hQB, hcl⟩ := int_row HP.out.rows (k := k) (by rw [HN.out]; exact hlt)
      rw [hsd] at hcl
      have HSZ := Lib.hid hsz
      have HNXT := Lib.hid (show ss.take (k + 1) = ss.take k ++ [(s : Int)] by rw [HTK.out k hlt, hsd])
      have HON := Lib.hid (show offS (ss.take (k + 1)) = offS (ss.take k) + s by rw [HNXT.out, off_snoc, Int.toNat_natCast])
      have HVN := Lib.hid (show valsF G 0 (ss.take (k + 1)) = valsF G 0 (ss.take k) ++ [IntKind.i64.wrap (valN s (fun j => G (offS (ss.take k) + j)) : Nat)] by rw [HNXT.out, vals_snoc, Int.toNat_natCast]; simp only [Nat.zero_add])
      have HOM := Lib.hid (HOL.out (k + 1))
      rw [HON.out] at HOM
      have HTP := Lib.hid (HP.out)
      clear hlt hk HS HTK HALL hsd hsz HOL
      generalize hv : valsF G 0 (ss.take k) = vs at *
      generalize ho : offS (ss.take k) = m at *
      have HKV := Lib.hid hv
      have HKO := Lib.hid ho
      clear hv ho
      have HOWN := Lib.hid (show OwnL 3 1 intC wr w.heap.size wr.heap.size u7 vs from by have h := HP.out.own; rw [HKV.out] at h; exact h)
      have HBY := Lib.hid (show BytesAt wr pp (n - m) (fun j => G (m + j)) from by have h := HP.out.bytes; rw [HKO.out] at h; exact h)
      have HCP := Lib.hid (show n - m ≤ cp from by have h := HP.out.cap; rw [HKO.out] at h; exact h)
      have HRW := Lib.hid HP.out.rows
      have HLW := Lib.hid HP.out.low
      clear HP HTP HKV HKO HNXT HOK
      have HT := Lib.hid (Take_ok pp (n - m) cp (fun j => G (m + j)) (fun i hi => HGB.out _) s HSZ.out (by have := HOM.out; omega) HCP.out (by have := HNN.out; omega) wr HBY.out)
      generalize IntKind.i64.wrap (valN s (fun j => G (m + j)) : Nat) = x at *
      go_wp2_with (first
      | (with_reducible show wpList _ _ _ (⟨_, Op.indexAddr 63 _ _, _, _, _, none⟩ :: _) _ _
         refine wpList_int_elem rfl _ _ rfl QB qo N cs k rfl rfl HLT.out ?_)
      | (go_at_call 47
         refine HT.out.mono ?_; rintro e w5 ⟨D, rfl, hb5, hd5, hl5⟩
         have O5 := Lib.hid (HOWN.out.below (Nat.le_refl _) hl5)
         have HSZ5 := Lib.hid hl5.size
         have HD := Lib.hid hd5
         have HDL := Lib.hid (show D < w5.heap.size from hb5.lt)
         have B5 := Lib.hid hb5
         have L5 := Lib.hid (HLW.out.trans (hl5.mono HLW.out.size))
         clear hb5 hd5 hl5 HOWN HBY HRW HCP hcl)
      | (with_reducible show wpList _ _ _ (⟨_, Op.buildSlice 63 _ _, _, _, _, none⟩ :: _) _ _
         refine wpList_intsL rfl 1 _ rfl [(0, .int .i64 x)] rfl [x] rfl (by decide) (by decide) (fill_int1 _) ?_
         intro w6 x6 l6 s6
         have O6 := Lib.hid (O5.out.below HSZ5.out l6)
         have B6 := Lib.hid (B5.out.below l6 B5.out.lt)
         have L6 := Lib.hid (L5.out.trans (l6.mono L5.out.size))
         have X6 := Lib.hid (OwnL.rows2 elemInt.len x6)
         have HD6 := Lib.hid (show D < w6.heap.size from Nat.lt_of_lt_of_le HDL.out l6.size)
         clear x6 l6 s6 O5 B5 L5 HSZ5 HDL)
      | (at_builtin
         refine wpList_append_list elemInt rfl _ _ rfl w.heap.size wr.heap.size _ vs [x] _ 1 1 rfl rfl rfl O6.out X6.out (by have := HVK.out; simp; omega) (by decide) L6.out.size ?_
         intro v7 w7 o7 g7 r7
         have O7 := Lib.hid o7
         have L7 := Lib.hid (L6.out.trans (below_own1 g7 O6.out.block L6.out.size))
         have B7 := Lib.hid (show IntBlk w7 D .u8 5 (mk (n - m - s) (fun j => G (m + (s + j)))) from (g7.block D HD6.out (fun e => by have h1 := O6.out.blockTop D e.symm; have h2 := HD.out; omega)).trans B6.out)
         clear o7 g7 r7 O6 B6))
      go_roundw
      case rel =>
        refine ⟨k + 1, HLT.out, by go_num, some ⟨D, 0, none⟩, n - m - s, by rw [HON.out, Nat.sub_add_eq], ⟨by rw [HVN.out]; exact O7.out, ?_, by rw [HON.out]; omega, RowsAt.below HRS.out L7.out, L7.out, fun _ => ⟨D, rfl, Nat.le_trans HLW.out.size HD.out, by rw [HON.out, Nat.sub_add_eq], ?_⟩⟩⟩
        · rw [HON.out, Nat.sub_add_eq]
          have e : (fun j => G (m + s + j)) = fun j => G (m + (s + j)) := funext fun j => by rw [Nat.add_assoc]
          rw [e]; exact B7.out.bytesAt
        · rw [HON.out, Nat.sub_add_eq]
          have e : (fun j => G (m + s + j)) = fun j => G (m + (s + j)) := funext fun j => by rw [Nat.add_assoc]
          rw [e]; exact B7.out
      case measure => have := HLT.out; simp [intOf]; omega
    · have f3 : ¬ (k : Int) < (N : Int) := by omega
      obtain rfl : k = N := by omega
      have HQ := HP.out
      have h1 := HQ.own; have h2 := HQ.bytes; have h3 := HQ.cap; have h4 := HQ.low
      rw [HALL.out] at h1 h2 h3
      rw [HALL.out]
      obtain ⟨qv, cv, hv, -⟩ := h1.rows elemInt.len
      rw [HVA.out] at hv
      subst hv
      have H1 := Lib.hid h1
      have H2 := Lib.hid h2
      have H3 := Lib.hid h3
      have H4 := Lib.hid h4
      have HPN := Lib.hid HP.out.new
      clear hlt hk HS HTK HALL HOL h1 h2 h3 h4 HQ HP
      go_wp2
      go_ret3
      obtain ⟨D, rfl, hDw, hce, hDb⟩ := HPN.out HN0.out
      rw [HALL2.out] at hce hDb
      subst hce
      exact ⟨_, _, D, rfl, H1.out, hDb, hDw, H4.out⟩
set_option maxRecDepth 100000 in
set_option maxHeartbeats 8000000 in
theorem take_short {w : World} {p : Option Addr} {n c : Nat} {G : Nat → Nat} (hp : BytesAt w p n G) (hG : ∀ j, G j < 256) (hc : n ≤ c) (hn : n ≤ 100000) {qs : Option Addr} {ss : List Int} {N cs : Nat} (hss : RowsAt 1 intC w qs ss) (hN : ss.length = N) (hN1 : N ≤ 100) (hN0 : 0 < N)
    (hs : ∀ k, k < ss.length → ∃ s : Nat, ss.getD k 0 = (s : Int) ∧ IsSize (s : Int)) (ho : n < offS ss) :
    Calls Try.prog 45 #[.slice p n c, .slice qs N cs] w fun e w' => e = .returned (.tuple #[.slice none 0 0, .slice none 0 0, .iface 38 (.int .i64 2)]) ∧ Below w.heap.size w w' := by
  have HGB := Lib.hid hG
  have HS := Lib.hid hs
  have HN := Lib.hid hN
  have HN1 := Lib.hid hN1
  have HNN := Lib.hid hn
  have HO := Lib.hid ho
  have HV0 := Lib.hid (show valsF G 0 (ss.take 0) = [] by unfold valsF; rfl)
  have HO0 := Lib.hid (show offS (ss.take 0) = 0 by unfold offS; rfl)
  have HTK := Lib.hid (fun k (hk : k < ss.length) => off_take hk)
  have HVL := Lib.hid (fun k => vals_len G 0 (ss.take k))
  have HALL := Lib.hid (show ss.take ss.length = ss from List.take_length)
  have HRS := Lib.hid hss
  have HALL2 := Lib.hid (show ss.take N = ss by rw [← hN]; exact List.take_length)
  have HVA := Lib.hid ((vals_len G 0 ss).trans hN)
  have P0 := Lib.hid (show TkP w qs ss n G 0 (.slice none 0 0) p c w from ⟨by rw [HV0.out]; exact OwnL.nil _ _ _ _ _ _, by rw [HO0.out, Nat.sub_zero]; exact hp.imp id (fun ⟨B, o, h1, h2, h3⟩ => ⟨B, o, h1, h2, fun j hj => by simp only [Nat.zero_add]; exact h3 j hj⟩), by rw [HO0.out, Nat.sub_zero]; exact hc, hss, Below.refl _ _, fun h => absurd h (Nat.lt_irrefl 0)⟩)
  have HN0 := Lib.hid hN0
  rw [hN] at HS HTK HALL
  clear hp hG hc hn hss hN hN1 hN0 hs ho HV0
  go_enter Try.func45, Try.ntmps45
  go_wp2
  go_loopw [15, 7, 0] (fun v15 v7 v0 wr => ∃ k : Nat, k ≤ N ∧ v15 = .int .i64 k ∧ offS (ss.take k) ≤ n ∧ ∃ pp cp, v0 = .slice pp (n - offS (ss.take k)) cp ∧ TkP w qs ss n G k v7 pp cp wr) (fun v15 _ _ _ => N - (intOf v15).toNat)
  case atStart => exact ⟨0, Nat.zero_le _, rfl, by rw [HO0.out]; exact Nat.zero_le _, p, c, by rw [HO0.out, Nat.sub_zero], P0.out⟩
  case round =>
    obtain ⟨k, hk, rfl, hok, pp, cp, rfl, hp⟩ := hrel
    have HP := Lib.hid hp
    have HOK := Lib.hid hok
    have HVK := Lib.hid (show (valsF G 0 (ss.take k)).length ≤ 100 by have h := HVL.out k; have h2 := HN1.out; have h3 := HN.out; rw [h, List.length_take]; omega)
    clear hp P0 HO0 HVL hok
    by_cases hlt : k < N
    · have f1 : (k : Int) < (N : Int) := by omega
      have HLT := Lib.hid hlt
      have f3 : IntKind.i64.wrap ((k : Int) + 1) = ((k + 1 : Nat) : Int) := by have := HN1.out; rw [IntWalk.i64_in _ (by omega)]; omega
      obtain ⟨s, hsd, hsz⟩ := HS.out k hlt
      obtain ⟨QB, qo, rfl, hQB, hcl⟩ := int_row HP.out.rows (k := k) (by rw [HN.out]; exact hlt)
      rw [hsd] at hcl
      have HSZ := Lib.hid hsz
      have HNXT := Lib.hid (show ss.take (k + 1) = ss.take k ++ [(s : Int)] by rw [HTK.out k hlt, hsd])
      have HON := Lib.hid (show offS (ss.take (k + 1)) = offS (ss.take k) + s by rw [HNXT.out, off_snoc, Int.toNat_natCast])
      have HVN := Lib.hid (show valsF G 0 (ss.take (k + 1)) = valsF G 0 (ss.take k) ++ [IntKind.i64.wrap (valN s (fun j => G (offS (ss.take k) + j)) : Nat)] by rw [HNXT.out, vals_snoc, Int.toNat_natCast]; simp only [Nat.zero_add])
      have HTP := Lib.hid (HP.out)
      clear hlt hk HS HTK HALL hsd hsz
      generalize hv : valsF G 0 (ss.take k) = vs at *
      generalize ho : offS (ss.take k) = m at *
      have HKV := Lib.hid hv
      have HKO := Lib.hid ho
      clear hv ho
      have HOWN := Lib.hid (show OwnL 3 1 intC wr w.heap.size wr.heap.size u7 vs from by have h := HP.out.own; rw [HKV.out] at h; exact h)
      have HBY := Lib.hid (show BytesAt wr pp (n - m) (fun j => G (m + j)) from by have h := HP.out.bytes; rw [HKO.out] at h; exact h)
      have HCP := Lib.hid (show n - m ≤ cp from by have h := HP.out.cap; rw [HKO.out] at h; exact h)
      have HRW := Lib.hid HP.out.rows
      have HLW := Lib.hid HP.out.low
      have HOK2 := HOK.out
      clear HP HTP HKV HKO HNXT
      by_cases hfit : m + s ≤ n
      case neg =>
        have HTS := Lib.hid (Take_short pp (n - m) cp s HSZ.out (by omega) wr)
        clear hfit
        go_wp2_with (first
        | (with_reducible show wpList _ _ _ (⟨_, Op.indexAddr 63 _ _, _, _, _, none⟩ :: _) _ _
           refine wpList_int_elem rfl _ _ rfl QB qo N cs k rfl rfl HLT.out ?_)
        | (go_at_call 47
           refine HTS.out.mono ?_; rintro e w5 ⟨rfl, rfl⟩))
        go_ret3
        exact ⟨rfl, HLW.out⟩
      have HOM := Lib.hid hfit
      clear hfit
      have HT := Lib.hid (Take_ok pp (n - m) cp (fun j => G (m + j)) (fun i hi => HGB.out _) s HSZ.out (by have := HOM.out; omega) HCP.out (by have := HNN.out; omega) wr HBY.out)
      generalize IntKind.i64.wrap (valN s (fun j => G (m + j)) : Nat) = x at *
      go_wp2_with (first
      | (with_reducible show wpList _ _ _ (⟨_, Op.indexAddr 63 _ _, _, _, _, none⟩ :: _) _ _
         refine wpList_int_elem rfl _ _ rfl QB qo N cs k rfl rfl HLT.out ?_)
      | (go_at_call 47
         refine HT.out.mono ?_; rintro e w5 ⟨D, rfl, hb5, hd5, hl5⟩
         have O5 := Lib.hid (HOWN.out.below (Nat.le_refl _) hl5)
         have HSZ5 := Lib.hid hl5.size
         have HD := Lib.hid hd5
         have HDL := Lib.hid (show D < w5.heap.size from hb5.lt)
         have B5 := Lib.hid hb5
         have L5 := Lib.hid (HLW.out.trans (hl5.mono HLW.out.size))
         clear hb5 hd5 hl5 HOWN HBY HRW HCP hcl)
      | (with_reducible show wpList _ _ _ (⟨_, Op.buildSlice 63 _ _, _, _, _, none⟩ :: _) _ _
         refine wpList_intsL rfl 1 _ rfl [(0, .int .i64 x)] rfl [x] rfl (by decide) (by decide) (fill_int1 _) ?_
         intro w6 x6 l6 s6
         have O6 := Lib.hid (O5.out.below HSZ5.out l6)
         have B6 := Lib.hid (B5.out.below l6 B5.out.lt)
         have L6 := Lib.hid (L5.out.trans (l6.mono L5.out.size))
         have X6 := Lib.hid (OwnL.rows2 elemInt.len x6)
         have HD6 := Lib.hid (show D < w6.heap.size from Nat.lt_of_lt_of_le HDL.out l6.size)
         clear x6 l6 s6 O5 B5 L5 HSZ5 HDL)
      | (at_builtin
         refine wpList_append_list elemInt rfl _ _ rfl w.heap.size wr.heap.size _ vs [x] _ 1 1 rfl rfl rfl O6.out X6.out (by have := HVK.out; simp; omega) (by decide) L6.out.size ?_
         intro v7 w7 o7 g7 r7
         have O7 := Lib.hid o7
         have L7 := Lib.hid (L6.out.trans (below_own1 g7 O6.out.block L6.out.size))
         have B7 := Lib.hid (show IntBlk w7 D .u8 5 (mk (n - m - s) (fun j => G (m + (s + j)))) from (g7.block D HD6.out (fun e => by have h1 := O6.out.blockTop D e.symm; have h2 := HD.out; omega)).trans B6.out)
         clear o7 g7 r7 O6 B6))
      go_roundw
      case rel =>
        refine ⟨k + 1, HLT.out, by go_num, by rw [HON.out]; exact HOM.out, some ⟨D, 0, none⟩, n - m - s, by rw [HON.out, Nat.sub_add_eq], ⟨by rw [HVN.out]; exact O7.out, ?_, by rw [HON.out]; omega, RowsAt.below HRS.out L7.out, L7.out, fun _ => ⟨D, rfl, Nat.le_trans HLW.out.size HD.out, by rw [HON.out, Nat.sub_add_eq], ?_⟩⟩⟩
        · rw [HON.out, Nat.sub_add_eq]
          have e : (fun j => G (m + s + j)) = fun j => G (m + (s + j)) := funext fun j => by rw [Nat.add_assoc]
          rw [e]; exact B7.out.bytesAt
        · rw [HON.out, Nat.sub_add_eq]
          have e : (fun j => G (m + s + j)) = fun j => G (m + (s + j)) := funext fun j => by rw [Nat.add_assoc]
          rw [e]; exact B7.out
      case measure => have := HLT.out; simp [intOf]; omega
    · have f3 : ¬ (k : Int) < (N : Int) := by omega
      obtain rfl : k = N := by omega
      exact absurd (show offS ss ≤ n by have h := HOK.out; rw [HALL.out] at h; exact h) (Nat.not_le.2 HO.out)
end Go.Proofs.Ytkibeddfkenlkaa
