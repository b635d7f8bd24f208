/- The program's Take, Start, Same. -/
import Derived.Test.YtfnkdmdcjliebaaRvNt
/- The contract of the program's take: the numbers of these sizes that bytes begin with. Conditions: the bytes suffice. -/
namespace Go.Proofs.Ytfnkdmdcjliebaa
open Go.ChangeShapes Go.WideShapes Go.ChangeAt Go.RowKit
set_option linter.unusedVariables false
set_option linter.unusedSimpArgs false
def offS : List Int → Nat
  | [] => 0
  | s :: ss => s.toNat + offS ss
def valsF (G : Nat → Nat) : Nat → List Int → List Int
  | _, [] => []
  | m, s :: ss => IntKind.i64.wrap (valN s.toNat (fun j => G (m + j)) : Nat) :: valsF G (m + s.toNat) ss
theorem vals_len (G : Nat → Nat) : ∀ (m : Nat) (ss : List Int), (valsF G m ss).length = ss.length
  | _, [] => rfl
  | m, s :: ss => by show (valsF G _ ss).length + 1 = ss.length + 1; rw [vals_len G _ ss]
theorem off_snoc : ∀ (ss : List Int) (s : Int), offS (ss ++ [s]) = offS ss + s.toNat
  | [], s => by show s.toNat + 0 = 0 + s.toNat; omega
  | t :: ss, s => by show t.toNat + offS (ss ++ [s]) = t.toNat + offS ss + s.toNat; rw [off_snoc ss s]; omega
theorem vals_snoc (G : Nat → Nat) : ∀ (m : Nat) (ss : List Int) (s : Int), valsF G m (ss ++ [s]) = valsF G m ss ++ [IntKind.i64.wrap (valN s.toNat (fun j => G (m + offS ss + j)) : Nat)]
  | m, [], s => rfl
  | m, t :: ss, s => by
    show _ :: valsF G (m + t.toNat) (ss ++ [s]) = _ :: (valsF G (m + t.toNat) ss ++ _)
    rw [vals_snoc G _ ss s, show m + t.toNat + offS ss = m + offS (t :: ss) by show _ = m + (t.toNat + offS ss); omega]
theorem off_take {ss : List Int} {k : Nat} (hk : k < ss.length) : ss.take (k + 1) = ss.take k ++ [ss.getD k 0] := by
  rw [List.take_add_one, List.getD_eq_getElem?_getD, List.getElem?_eq_getElem hk]; rfl
theorem off_le : ∀ (ss : List Int) (k : Nat), offS (ss.take k) ≤ offS ss
  | [], k => by simp [offS]
  | s :: ss, 0 => Nat.zero_le _
  | s :: ss, k + 1 => by
    have := off_le ss k
    show s.toNat + offS (ss.take k) ≤ s.toNat + offS ss
    omega
theorem bytes_same {w w' : World} {D m : Nat} {F : Nat → Nat} (h : BytesAt w (some ⟨D, 0, none⟩) m F) (hD : w'.heap[D]? = w.heap[D]?) (hs : w.heap.size ≤ w'.heap.size) : BytesAt w' (some ⟨D, 0, none⟩) m F :=
  h.imp id fun ⟨B, o, e, hl, hc⟩ => ⟨B, o, e, by omega, fun j hj => by
    cases e
    exact (World.cell?_of_block (w := w) (a := ⟨D, 0 + j, none⟩) hD).trans (hc j hj)⟩
section
variable {ops : Array Oper} {rest : List Oper} {o : Oper} {a : Act} {w : World} {Q : Exit → Act → World → Prop}
theorem wpList_int_elem (hgd : o.guard = none) (x y : Operand) (ho : o.op = .indexAddr 65 x y) (B off n cap k : Nat) (hx : a.eval x = .slice (some ⟨B, off, none⟩) n cap) (hy : a.eval y = .int .i64 k) (hk : k < n) (h : wpList Try.prog ops Q rest (a.put o.dst (.pointer (some ⟨B, off + k, none⟩))) w) : wpList Try.prog ops Q (o :: rest) a w :=
  wpList_plain hgd fun K hK => by
    unfold Oper.wp
    rw [int_addr x y ho B off n cap k hx hy hk w]
    exact hK _ _ h
end
/-- Between two rounds: the numbers told, the bytes behind them. -/
structure TkP (w : World) (qs : Option Addr) (ss : List Int) (n : Nat) (G : Nat → Nat) (k : Nat) (v : Value) (p : Option Addr) (c : Nat) (V : World) : Prop where
  own : OwnL 3 1 intC V w.heap.size V.heap.size v (valsF G 0 (ss.take k))
  bytes : BytesAt V p (n - offS (ss.take k)) (fun j => G (offS (ss.take k) + j))
  cap : n - offS (ss.take k) ≤ c
  rows : RowsAt 1 intC V qs ss
  low : Below w.heap.size w V
  new : 0 < k → ∃ D, p = some ⟨D, 0, none⟩ ∧ w.heap.size ≤ D
theorem TkP.mono {w V V' : World} {qs : Option Addr} {ss : List Int} {n k c : Nat} {G : Nat → Nat} {v : Value} {p : Option Addr} (h : TkP w qs ss n G k v p c V) (hb : Below V.heap.size V V') : TkP w qs ss n G k v p c V' :=
  ⟨(h.own.below (Nat.le_refl _) hb).raise hb.size, h.bytes.below hb, h.cap, RowsAt.below h.rows hb, h.low.trans (hb.mono h.low.size), h.new⟩
attribute [local irreducible] intC offS valsF valN mk
attribute [local go_sem] Oper.semAt_some
set_option maxRecDepth 100000 in
set_option maxHeartbeats 8000000 in
theorem take_any {w : World} {p : Option Addr} {n c : Nat} {G : Nat → Nat} (hp : BytesAt w p n G) (hG : ∀ j, G j < 256) (hc : n ≤ c) (hn : n ≤ 100000) {qs : Option Addr} {ss : List Int} {N cs : Nat} (hss : RowsAt 1 intC w qs ss) (hN : ss.length = N) (hN1 : N ≤ 100) (hN0 : 0 < N)
    (hs : ∀ k, k < ss.length → ∃ s : Nat, ss.getD k 0 = (s : Int) ∧ IsSize (s : Int)) (ho : offS ss ≤ n) :
    Calls Try.prog 66 #[.slice p n c, .slice qs N cs] w fun e w' => ∃ qv cv D c', e = .returned (.tuple #[.slice qv N cv, .slice (some ⟨D, 0, none⟩) (n - offS ss) c', .nilIface]) ∧ OwnL 3 1 intC w' w.heap.size w'.heap.size (.slice qv N cv) (valsF G 0 ss) ∧ BytesAt w' (some ⟨D, 0, none⟩) (n - offS ss) (fun j => G (offS ss + j)) ∧ n - offS ss ≤ c' ∧ w.heap.size ≤ D ∧ Below w.heap.size w w' := by
  have HGB := Lib.hid hG
  have HS := Lib.hid hs
  have HN := Lib.hid hN
  have HN1 := Lib.hid hN1
  have HNN := Lib.hid hn
  have HOL := Lib.hid (fun k => Nat.le_trans (off_le ss k) ho)
  have HO := Lib.hid ho
  have HV0 := Lib.hid (show valsF G 0 (ss.take 0) = [] by unfold valsF; rfl)
  have HO0 := Lib.hid (show offS (ss.take 0) = 0 by unfold offS; rfl)
  have HTK := Lib.hid (fun k (hk : k < ss.length) => off_take hk)
  have HVL := Lib.hid (fun k => vals_len G 0 (ss.take k))
  have HALL := Lib.hid (show ss.take ss.length = ss from List.take_length)
  have HRS := Lib.hid hss
  have HVA := Lib.hid ((vals_len G 0 ss).trans hN)
  have P0 := Lib.hid (show TkP w qs ss n G 0 (.slice none 0 0) p c w from ⟨by rw [HV0.out]; exact OwnL.nil _ _ _ _ _ _, by rw [HO0.out, Nat.sub_zero]; exact hp.imp id (fun ⟨B, o, h1, h2, h3⟩ => ⟨B, o, h1, h2, fun j hj => by simp only [Nat.zero_add]; exact h3 j hj⟩), by rw [HO0.out, Nat.sub_zero]; exact hc, hss, Below.refl _ _, fun h => absurd h (Nat.lt_irrefl 0)⟩)
  have HN0 := Lib.hid hN0
  rw [hN] at HS HTK HALL
  clear hp hG hc hn hss hN hN1 hN0 hs ho HV0
  go_enter Try.func66, Try.ntmps66
  go_wp2
  go_loopw [15, 7, 0] (fun v15 v7 v0 wr => ∃ k : Nat, k ≤ N ∧ v15 = .int .i64 k ∧ ∃ pp cp, v0 = .slice pp (n - offS (ss.take k)) cp ∧ TkP w qs ss n G k v7 pp cp wr) (fun v15 _ _ _ => N - (intOf v15).toNat)
  case atStart => exact ⟨0, Nat.zero_le _, rfl, p, c, by rw [HO0.out, Nat.sub_zero], P0.out⟩
  case round =>
    obtain ⟨k, hk, rfl, pp, cp, rfl, hp⟩ := hrel
    have HP := Lib.hid hp
    have HOK := Lib.hid (HOL.out k)
    have HVK := Lib.hid (show (valsF G 0 (ss.take k)).length ≤ 100 by have h := HVL.out k; have h2 := HN1.out; have h3 := HN.out; rw [h, List.length_take]; omega)
    clear hp P0 HO0 HVL
    by_cases hlt : k < N
    · have f1 : (k : Int) < (N : Int) := by omega
      have HLT := Lib.hid hlt
      have f3 : IntKind.i64.wrap ((k : Int) + 1) = ((k + 1 : Nat) : Int) := by have := HN1.out; rw [IntWalk.i64_in _ (by omega)]; omega
      obtain ⟨s, hsd, hsz⟩ := HS.out k hlt
      obtain ⟨QB, qo, rfl, hQB, hcl⟩ := int_row HP.out.rows (k := k) (by rw [HN.out]; exact hlt)
      rw [hsd] at hcl
      have HSZ := Lib.hid hsz
      have HNXT := Lib.hid (show ss.take (k + 1) = ss.take k ++ [(s : Int)] by rw [HTK.out k hlt, hsd])
      have HON := Lib.hid (show offS (ss.take (k + 1)) = offS (ss.take k) + s by rw [HNXT.out, off_snoc, Int.toNat_natCast])
      have HVN := Lib.hid (show valsF G 0 (ss.take (k + 1)) = valsF G 0 (ss.take k) ++ [IntKind.i64.wrap (valN s (fun j => G (offS (ss.take k) + j)) : Nat)] by rw [HNXT.out, vals_snoc, Int.toNat_natCast]; simp only [Nat.zero_add])
      have HOM := Lib.hid (HOL.out (k + 1))
      rw [HON.out] at HOM
      have HTP := Lib.hid (HP.out)
      clear hlt hk HS HTK HALL hsd hsz HOL
      generalize hv : valsF G 0 (ss.take k) = vs at *
      generalize ho : offS (ss.take k) = m at *
      have HKV := Lib.hid hv
      have HKO := Lib.hid ho
      clear hv ho
      have HOWN := Lib.hid (show OwnL 3 1 intC wr w.heap.size wr.heap.size u7 vs from by have h := HP.out.own; rw [HKV.out] at h; exact h)
      have HBY := Lib.hid (show BytesAt wr pp (n - m) (fun j => G (m + j)) from by have h := HP.out.bytes; rw [HKO.out] at h; exact h)
      have HCP := Lib.hid (show n - m ≤ cp from by have h := HP.out.cap; rw [HKO.out] at h; exact h)
      have HRW := Lib.hid HP.out.rows
      have HLW := Lib.hid HP.out.low
      clear HP HTP HKV HKO HNXT HOK
      have HT := Lib.hid (Take_ok pp (n - m) cp (fun j => G (m + j)) (fun i hi => HGB.out _) s HSZ.out (by have := HOM.out; omega) HCP.out (by have := HNN.out; omega) wr HBY.out)
      generalize IntKind.i64.wrap (valN s (fun j => G (m + j)) : Nat) = x at *
      go_wp2_with (first
      | (with_reducible show wpList _ _ _ (⟨_, Op.indexAddr 65 _ _, _, _, _, none⟩ :: _) _ _
         refine wpList_int_elem rfl _ _ rfl QB qo N cs k rfl rfl HLT.out ?_)
      | (go_at_call 77
         refine HT.out.mono ?_; rintro e w5 ⟨D, rfl, hb5, hd5, hl5⟩
         have O5 := Lib.hid (HOWN.out.below (Nat.le_refl _) hl5)
         have HSZ5 := Lib.hid hl5.size
         have HD := Lib.hid hd5
         have HDL := Lib.hid (show D < w5.heap.size from hb5.lt)
         have B5 := Lib.hid hb5.bytesAt
         have L5 := Lib.hid (HLW.out.trans (hl5.mono HLW.out.size))
         clear hb5 hd5 hl5 HOWN HBY HRW HCP hcl)
      | (with_reducible show wpList _ _ _ (⟨_, Op.buildSlice 65 _ _, _, _, _, none⟩ :: _) _ _
         refine wpList_intsL rfl 1 _ rfl [(0, .int .i64 x)] rfl [x] rfl (by decide) (by decide) (fill_int1 _) ?_
         intro w6 x6 l6 s6
         have O6 := Lib.hid (O5.out.below HSZ5.out l6)
         have B6 := Lib.hid (B5.out.below l6)
         have L6 := Lib.hid (L5.out.trans (l6.mono L5.out.size))
         have X6 := Lib.hid (OwnL.rows2 elemInt.len x6)
         have HD6 := Lib.hid (show D < w6.heap.size from Nat.lt_of_lt_of_le HDL.out l6.size)
         clear x6 l6 s6 O5 B5 L5 HSZ5 HDL)
      | (at_builtin
         refine wpList_append_list elemInt rfl _ _ rfl w.heap.size wr.heap.size _ vs [x] _ 1 1 rfl rfl rfl O6.out X6.out (by have := HVK.out; simp; omega) (by decide) L6.out.size ?_
         intro v7 w7 o7 g7 r7
         have O7 := Lib.hid o7
         have L7 := Lib.hid (L6.out.trans (below_own1 g7 O6.out.block L6.out.size))
         have B7 := Lib.hid (bytes_same B6.out (g7.block D HD6.out (fun e => by have h1 := O6.out.blockTop D e.symm; have h2 := HD.out; omega)) g7.size)
         clear o7 g7 r7 O6 B6))
      go_roundw
      case rel =>
        refine ⟨k + 1, HLT.out, by go_num, some ⟨D, 0, none⟩, n - m - s, by rw [HON.out, Nat.sub_add_eq], ⟨by rw [HVN.out]; exact O7.out, ?_, by rw [HON.out]; omega, RowsAt.below HRS.out L7.out, L7.out, fun _ => ⟨D, rfl, Nat.le_trans HLW.out.size HD.out⟩⟩⟩
        rw [HON.out, Nat.sub_add_eq]
        have e : (fun j => G (m + s + j)) = fun j => G (m + (s + j)) := funext fun j => by rw [Nat.add_assoc]
        rw [e]; exact B7.out
      case measure => have := HLT.out; simp [intOf]; omega
    · have f3 : ¬ (k : Int) < (N : Int) := by omega
      obtain rfl : k = N := by omega
      have HQ := HP.out
      have h1 := HQ.own; have h2 := HQ.bytes; have h3 := HQ.cap; have h4 := HQ.low
      rw [HALL.out] at h1 h2 h3
      rw [HALL.out]
      obtain ⟨qv, cv, hv, -⟩ := h1.rows elemInt.len
      rw [HVA.out] at hv
      subst hv
      have H1 := Lib.hid h1
      have H2 := Lib.hid h2
      have H3 := Lib.hid h3
      have H4 := Lib.hid h4
      have HPN := Lib.hid HP.out.new
      clear hlt hk HS HTK HALL HOL h1 h2 h3 h4 HQ HP
      go_wp2
      go_ret3
      obtain ⟨D, rfl, hDw⟩ := HPN.out HN0.out
      exact ⟨_, _, D, _, rfl, H1.out, H2.out, by have := H3.out; omega, hDw, H4.out⟩
end Go.Proofs.Ytfnkdmdcjliebaa

/- The contract of the program's told on the sector of a note, and of its Take. Conditions: the reservations are in form. -/
namespace Go.Proofs.Ytfnkdmdcjliebaa
open Go.ChangeShapes Go.WideShapes Go.ChangeAt Go.RowKit
set_option linter.unusedVariables false
set_option linter.unusedSimpArgs false
theorem okI_wrap (z : Int) : okI (IntKind.i64.wrap z) := by unfold okI; rw [IntKind.wrap_i64]; omega
theorem note_head {r : ResvOf} (g : GoodR r) (hk : r.ok) : valsF (noteF r) 0 [8, 1, 1, 1, 8] = [r.g, if r.s then 1 else 0, r.t, (r.regs.length : Int), IntKind.i64.wrap (r.h + 1)] := by
  obtain ⟨h1, h2, h3, h4, h5, -⟩ : Laid (noteF r) 0 ((8, r.g) :: (1, if r.s then 1 else 0) :: (1, r.t) :: (1, (r.regs.length : Int)) :: (8, IntKind.i64.wrap (r.h + 1)) :: pairsR r.regs) := note_laid r
  have ok := nums_ok g
  have hf := g.few
  have ht : 0 ≤ r.t ∧ r.t < 256 := by rcases g.form with h | h <;> omega
  have hs : 0 ≤ (if r.s then (1 : Int) else 0) ∧ (if r.s then (1 : Int) else 0) < 256 := by split <;> omega
  have e1 := laid_val (s := 8) h1 (.inr (.inr (.inr rfl))) (.inl rfl) hk.2.2.2
  have e2 := laid_val (s := 1) h2 (.inl rfl) (numOk1 hs).fits (by unfold okI; omega)
  have e3 := laid_val (s := 1) h3 (.inl rfl) (numOk1 ht).fits (by unfold okI; omega)
  have e4 := laid_val (s := 1) h4 (.inl rfl) (numOk1 (z := (r.regs.length : Int)) (by omega)).fits (by unfold okI; omega)
  have e5 := laid_val (s := 8) h5 (.inr (.inr (.inr rfl))) (.inl rfl) (okI_wrap _)
  show [_, _, _, _, _] = _
  exact congr (congrArg List.cons e1) (congr (congrArg List.cons e2) (congr (congrArg List.cons e3) (congr (congrArg List.cons e4) (congr (congrArg List.cons e5) rfl))))
theorem note_pair {r : ResvOf} (hk : r.ok) {i : Nat} (hi : i < r.regs.length) : valsF (fun j => noteF r (19 + 16 * i + j)) 0 [8, 8] = [(atR r.regs i).1, (atR r.regs i).2] := by
  have hl : Laid (noteF r) 0 ([(8, r.g), (1, if r.s then 1 else 0), (1, r.t), (1, (r.regs.length : Int)), (8, IntKind.i64.wrap (r.h + 1))] ++ pairsR r.regs) := note_laid r
  obtain ⟨h1, h2⟩ := pairs_laid r.regs 19 i (laid_append _ _ _ hl).2 hi
  obtain ⟨k1, k2⟩ := hk.1 (atR r.regs i) (List.mem_of_getElem? (atR_get hi))
  have e1 := laid_val (s := 8) h1 (.inr (.inr (.inr rfl))) (.inl rfl) k1
  have e2 := laid_val (s := 8) h2 (.inr (.inr (.inr rfl))) (.inl rfl) k2
  have a1 : (fun j => noteF r (19 + 16 * i + (0 + j))) = fun j => noteF r (19 + 16 * i + j) := funext fun j => by rw [Nat.zero_add]
  have a2 : (fun j => noteF r (19 + 16 * i + (0 + 8 + j))) = fun j => noteF r (19 + 16 * i + 8 + j) := funext fun j => by congr 1; omega
  rw [← a1] at e1
  rw [← a2] at e2
  show [_, _] = _
  exact congr (congrArg List.cons e1) (congr (congrArg List.cons e2) rfl)
theorem ints_cells {W : World} {q : Option Addr} {l : List Int} (h : RowsAt 1 intC W q l) (hl : 0 < l.length) : ∃ B o, q = some ⟨B, o, none⟩ ∧ B < W.heap.size ∧ ∀ k, k < l.length → W.cell? ⟨B, o + k, none⟩ = some (.int .i64 (l.getD k 0)) := by
  obtain ⟨B, o, h1, h2, -⟩ := int_row h hl
  refine ⟨B, o, h1, h2, fun k hk => ?_⟩
  obtain ⟨B', o', h3, -, h5⟩ := int_row h hk
  rw [h1] at h3
  cases h3
  exact h5
theorem rv_built4 (h t g : Int) (s : Bool) : Try.prog.built rvT [(4, .int .i64 g), (3, .bool s), (2, .int .i64 t), (1, .int .i64 h)] = some (resvA none 0 0 ⟨[], h, t, s, g⟩) := by kernel_rfl
theorem gives_rv {ops : Array Oper} {o : Oper} {a : Act} {C : World → Prop} {K : Act → Prop} (x y z u : Operand) (ho : o.op = .build rvT #[(4, x), (3, y), (2, z), (1, u)]) (g : Int) (s : Bool) (t h : Int) (hx : a.eval x = .int .i64 g) (hy : a.eval y = .bool s) (hz : a.eval z = .int .i64 t) (hu : a.eval u = .int .i64 h) (hk : K (a.put o.dst (.agg (resvA none 0 0 ⟨[], h, t, s, g⟩)))) : ∃ v, Gives Try.prog C o a v ∧ K (a.put o.dst v) :=
  gives_build_any rvT _ #[(4, .int .i64 g), (3, .bool s), (2, .int .i64 t), (1, .int .i64 h)] _ ho (by simp [hx, hy, hz, hu]) (fun w => run_build w rvT #[(4, .int .i64 g), (3, .bool s), (2, .int .i64 t), (1, .int .i64 h)] _ (rv_built4 h t g s)) hk
/-- Between two rounds of told. -/
structure ToP (w : World) (J : Nat) (r : ResvOf) (k : Nat) (qk : Option Addr) (ck D m : Nat) (F : Nat → Nat) (V : World) : Prop where
  own : OwnL rgT 2 regC V (J + 1) V.heap.size (.slice qk k ck) (r.regs.take k)
  box : BoxA V J rvT (resvA qk k ck r)
  res : BoxA V (w.heap.size + 1) rvT (resvA none 0 0 zeroRv)
  rest : BytesAt V (some ⟨D, 0, none⟩) m F
  low : Below w.heap.size w V
theorem ToP.mono {w V V' : World} {J k ck D m : Nat} {F : Nat → Nat} {r : ResvOf} {qk : Option Addr} (h : ToP w J r k qk ck D m F V) (hb : Below V.heap.size V V') : ToP w J r k qk ck D m F V' :=
  ⟨(h.own.below (Nat.le_refl _) hb).raise hb.size, h.box.keep (hb.block _ h.box.lt), h.res.keep (hb.block _ h.res.lt), h.rest.below hb, h.low.trans (hb.mono h.low.size)⟩
theorem ToP.byt {w V : World} {J k ck D m D' m' : Nat} {F F' : Nat → Nat} {r : ResvOf} {qk : Option Addr} (h : ToP w J r k qk ck D m F V) (hb : BytesAt V (some ⟨D', 0, none⟩) m' F') : ToP w J r k qk ck D' m' F' V := ⟨h.own, h.box, h.res, hb, h.low⟩
theorem done_cell {o : Oper} {a : Act} {w : World} {K : Value → World → Prop} (t : TypeId) (x : Operand) (ho : o.op = .load t x) (p : Addr) (v : Value) (hx : a.eval x = .pointer (some p)) (hu : ∀ w, (isAgg t).run Try.prog w = .ok false w) (hc : w.cell? p = some v) (h : K v w) : doneAt Try.prog o a w K := by
  have e := hu w
  unfold doneAt execOp
  simp only [ho, hx]
  simp [go_sem, hc, e, doneUpon]
  exact h
theorem bytes_lt2 {w : World} {D m : Nat} {F : Nat → Nat} (h : BytesAt w (some ⟨D, 0, none⟩) m F) (hm : m ≠ 0) : D < w.heap.size := by
  rcases h with h | ⟨B, o, e, hl, -⟩
  · exact absurd h hm
  · cases e; exact hl
structure TqP (w : World) (r : ResvOf) (D : Nat) (V : World) : Prop where
  res : BoxA V (w.heap.size + 1) rvT (resvA none 0 0 zeroRv)
  rest : BytesAt V (some ⟨D, 0, none⟩) 109 (fun j => noteF r (19 + j))
  low : Below w.heap.size w V
theorem TqP.mono {w V V' : World} {r : ResvOf} {D : Nat} (h : TqP w r D V) (hb : Below V.heap.size V V') : TqP w r D V' := ⟨h.res.keep (hb.block _ h.res.lt), h.rest.below hb, h.low.trans (hb.mono h.low.size)⟩
attribute [local irreducible] regC atR noteF intC valsF valN mk extF zeroK regA
attribute [local go_sem] Oper.semAt_some
set_option maxRecDepth 100000 in
set_option maxHeartbeats 8000000 in
theorem told_ok {w : World} {r : ResvOf} (g : GoodR r) (hk : r.ok) :
    Calls Try.prog 46 #[.agg (cellsOf .u8 (mk 128 (noteF r)))] w fun e w' => ∃ q' m c', e = .returned (.tuple #[.agg (resvA q' m c' r), .nilIface]) ∧ OwnR w w' q' m c' r.regs ∧ Below w.heap.size w w' := by
  have HK := Lib.hid hk
  have HHD := Lib.hid (note_head g hk)
  have HPR := Lib.hid (fun i (hi : i < r.regs.length) => note_pair hk hi)
  have HSV := Lib.hid (show ((if r.s then (1 : Int) else 0) == 1) = r.s by cases r.s <;> rfl)
  have HHZ := Lib.hid (show IntKind.i64.wrap (IntKind.i64.wrap (r.h + 1) - 1) = r.h by have h := hk.2.1; unfold okI at h; rw [IntKind.wrap_i64, IntKind.wrap_i64]; omega)
  have HF := Lib.hid g.few
  have HNL := Lib.hid (fun j => note_lt r j)
  have HS5 := Lib.hid (show offS [8, 1, 1, 1, 8] = 19 from rfl)
  have HS2 := Lib.hid (show offS [8, 8] = 16 from rfl)
  have HI5 := Lib.hid (show ∀ k, k < [8, 1, 1, 1, (8 : Int)].length → ∃ s : Nat, [8, 1, 1, 1, (8 : Int)].getD k 0 = (s : Int) ∧ IsSize (s : Int) from fun k hk => by
    rcases k with _ | _ | _ | _ | _ | k
    · exact ⟨8, rfl, .inr (.inr (.inr rfl))⟩
    · exact ⟨1, rfl, .inl rfl⟩
    · exact ⟨1, rfl, .inl rfl⟩
    · exact ⟨1, rfl, .inl rfl⟩
    · exact ⟨8, rfl, .inr (.inr (.inr rfl))⟩
    · simp at hk; omega)
  have HI2 := Lib.hid (show ∀ k, k < [8, (8 : Int)].length → ∃ s : Nat, [8, (8 : Int)].getD k 0 = (s : Int) ∧ IsSize (s : Int) from fun k hk => by
    rcases k with _ | _ | k
    · exact ⟨8, rfl, .inr (.inr (.inr rfl))⟩
    · exact ⟨8, rfl, .inr (.inr (.inr rfl))⟩
    · simp at hk; omega)
  have HL0 := Lib.hid (show r.regs.take 0 = [] from rfl)
  have HLA := Lib.hid (show r.regs.take r.regs.length = r.regs from List.take_length)
  have HLS := Lib.hid (fun k (hk : k < r.regs.length) => take_snocR hk)
  have HLE := Lib.hid (fun k => List.length_take (i := k) (l := r.regs))
  obtain ⟨n, hn⟩ : ∃ n, r.regs.length = n := ⟨_, rfl⟩
  have HN := Lib.hid hn
  rw [hn] at HPR HHD HLA HF HLS
  generalize IntKind.i64.wrap (r.h + 1) = hz at *
  generalize (if r.s then (1 : Int) else 0) = sv at *
  clear g hk hn
  go_enter Try.func46, Try.ntmps46
  go_wp2_with (first
  | (with_reducible show wpList _ _ _ (⟨_, Op.box ceT _, _, _, _, none⟩ :: _) _ _
     refine wpList_boxA_of rfl _ rfl (cellsOf .u8 (mk 128 (noteF r))) rfl ?_
     intro w1 x1 l1 s1
     have X1 := Lib.hid x1
     have L1 := Lib.hid l1
     have S1 := Lib.hid s1
     clear x1 l1 s1)
  | (with_reducible show wpList _ _ _ (⟨some 2, Op.alloc rvT, _, _, _, _⟩ :: _) _ _
     refine wpList_boxA_new rowRv rfl rfl (w.heap.size + 1) S1.out ?_
     intro w2 x2 l2 s2
     have R2 := Lib.hid x2
     have X2 := Lib.hid (X1.out.keep (l2.block _ X1.out.lt))
     have L2 := Lib.hid (L1.out.trans (l2.mono L1.out.size))
     clear x2 l2 s2 X1 L1 S1)
  | (with_reducible show wpList _ _ _ (⟨_, Op.slice ceT _ _ _ _, _, _, _, _⟩ :: _) _ _
     refine wpList_sec_row rfl _ rfl w.heap.size rfl ?_)
  | (with_reducible show wpList _ _ _ (⟨_, Op.buildSlice 65 5 _, _, _, _, none⟩ :: _) _ _
     refine wpList_intsL rfl 5 _ rfl [(0, .int .i64 8), (1, .int .i64 1), (2, .int .i64 1), (3, .int .i64 1), (4, .int .i64 8)] rfl [8, 1, 1, 1, 8] rfl (by decide) (by decide) (fill_int5 8 1 1 1 8) ?_
     intro w3 o3 l3 s3
     have O3 := Lib.hid (OwnL.rows2 elemInt.len o3)
     have R3 := Lib.hid (R2.out.keep (l3.block _ R2.out.lt))
     have X3 := Lib.hid (X2.out.keep (l3.block _ X2.out.lt))
     have L3 := Lib.hid (L2.out.trans (l3.mono L2.out.size))
     have B3 := Lib.hid (show BytesAt w3 (some ⟨w.heap.size, 0, none⟩) 128 (noteF r) from IntBlk.bytesAt (t := ceT) (show IntBlk w3 w.heap.size .u8 ceT (mk 128 (noteF r)) from X3.out))
     clear o3 l3 s3 R2 X2 L2)
  | (go_at_call 66
     refine (take_any B3.out HNL.out (Nat.le_refl _) (by decide) O3.out rfl (by decide) (by decide) HI5.out (by rw [HS5.out]; decide)).mono ?_; rintro e w5 ⟨q0, c0, D, cD, rfl, ho5, hb5, hc5, hd5, hl5⟩
     rw [HHD.out] at ho5
     rw [HS5.out] at hb5 hc5
     rw [HS5.out]
     have Q5 := Lib.hid (show TqP w r D w5 from ⟨R3.out.keep (hl5.block _ R3.out.lt), hb5, L3.out.trans (hl5.mono L3.out.size)⟩)
     have HCD := Lib.hid (show 109 ≤ cD from hc5)
     have HDW := Lib.hid hd5
     obtain ⟨B0, o0, rfl, hB0, hcs⟩ := ints_cells (OwnL.rows2 elemInt.len ho5) (by simp)
     have HB0 := Lib.hid hB0
     have HC0 := Lib.hid (hcs 0 (by simp))
     have HC1 := Lib.hid (hcs 1 (by simp))
     have HC2 := Lib.hid (hcs 2 (by simp))
     have HC3 := Lib.hid (hcs 3 (by simp))
     have HC4 := Lib.hid (hcs 4 (by simp))
     clear ho5 hb5 hc5 hd5 hl5 hB0 hcs R3 X3 L3 B3 O3 HHD HI5))
  refine wp_region_sched [(0, true), (1, true), (2, true), (3, true), (4, true), (5, true), (6, true), (7, true), (8, true), (9, true), (10, true), (11, true), (12, true), (13, true), (14, true), (15, false), (16, false)] (fun V => Below w5.heap.size w5 V) (by kernel_rfl) (by kernel_rfl) (Below.refl _ w5).drew ?_
  refine walk_float rfl rfl (fun K hK => ?_)
  refine gives_move _ rfl ?_
  go_simp
  refine hK _ ?_
  clear hK K
  refine walk_float rfl rfl (fun K hK => ?_)
  refine gives_int_elem _ _ rfl B0 o0 5 c0 0 rfl rfl (by decide) ?_
  go_simp
  refine hK _ ?_
  clear hK K
  refine walk_float rfl rfl (fun K hK => ?_)
  refine gives_cell 3 _ rfl ⟨B0, (o0 + 0), none⟩ (.int .i64 r.g) rfl box_int (fun V hV => (hV.cell (p := ⟨B0, o0 + 0, none⟩) HB0.out).trans HC0.out) ?_
  go_simp
  refine hK _ ?_
  clear hK K
  refine walk_float rfl rfl (fun K hK => ?_)
  refine gives_move _ rfl ?_
  go_simp
  refine hK _ ?_
  clear hK K
  refine walk_float rfl rfl (fun K hK => ?_)
  refine gives_int_elem _ _ rfl B0 o0 5 c0 1 rfl rfl (by decide) ?_
  go_simp
  refine hK _ ?_
  clear hK K
  refine walk_float rfl rfl (fun K hK => ?_)
  refine gives_cell 3 _ rfl ⟨B0, (o0 + 1), none⟩ (.int .i64 sv) rfl box_int (fun V hV => (hV.cell (p := ⟨B0, o0 + 1, none⟩) HB0.out).trans HC1.out) ?_
  go_simp
  refine hK _ ?_
  clear hK K
  refine walk_float rfl rfl (fun K hK => ?_)
  refine gives_int_is _ _ rfl sv 1 rfl rfl r.s HSV.out ?_
  go_simp
  refine hK _ ?_
  clear hK K
  refine walk_float rfl rfl (fun K hK => ?_)
  refine gives_move _ rfl ?_
  go_simp
  refine hK _ ?_
  clear hK K
  refine walk_float rfl rfl (fun K hK => ?_)
  refine gives_int_elem _ _ rfl B0 o0 5 c0 2 rfl rfl (by decide) ?_
  go_simp
  refine hK _ ?_
  clear hK K
  refine walk_float rfl rfl (fun K hK => ?_)
  refine gives_cell 3 _ rfl ⟨B0, (o0 + 2), none⟩ (.int .i64 r.t) rfl box_int (fun V hV => (hV.cell (p := ⟨B0, o0 + 2, none⟩) HB0.out).trans HC2.out) ?_
  go_simp
  refine hK _ ?_
  clear hK K
  refine walk_float rfl rfl (fun K hK => ?_)
  refine gives_move _ rfl ?_
  go_simp
  refine hK _ ?_
  clear hK K
  refine walk_float rfl rfl (fun K hK => ?_)
  refine gives_int_elem _ _ rfl B0 o0 5 c0 4 rfl rfl (by decide) ?_
  go_simp
  refine hK _ ?_
  clear hK K
  refine walk_float rfl rfl (fun K hK => ?_)
  refine gives_cell 3 _ rfl ⟨B0, (o0 + 4), none⟩ (.int .i64 hz) rfl box_int (fun V hV => (hV.cell (p := ⟨B0, o0 + 4, none⟩) HB0.out).trans HC4.out) ?_
  go_simp
  refine hK _ ?_
  clear hK K
  refine walk_float rfl rfl (fun K hK => ?_)
  refine gives_int_less1 _ _ rfl hz 1 r.h rfl rfl HHZ.out ?_
  go_simp
  refine hK _ ?_
  clear hK K
  refine walk_float rfl rfl (fun K hK => ?_)
  refine gives_rv (ops := #[]) _ _ _ _ rfl r.g r.s r.t r.h rfl rfl rfl rfl ?_
  go_simp
  refine hK _ ?_
  clear hK K
  refine walk_done rfl rfl (fun K hK => ?_)
  refine done_boxA_new rowRv rfl ?_
  intro z1 x1 l1 s1
  have X1 := Lib.hid x1
  have Q1 := Lib.hid True.intro
  have S1 := Lib.hid (show z1.heap.size = w5.heap.size + 1 from s1)
  have l1 : Below w5.heap.size w5 z1 := (Below.refl _ w5).drew.trans l1
  have L1W := Lib.hid l1
  clear x1 s1
  refine ⟨l1, ?_⟩
  go_simp
  refine hK _ _ ?_
  clear hK K l1
  refine walk_done rfl rfl (fun K hK => ?_)
  refine done_boxA_put rowRv _ _ rfl w5.heap.size (resvA none 0 0 ⟨[], r.h, r.t, r.s, r.g⟩) _ rfl (rvA_one _ _ _ ⟨[], r.h, r.t, r.s, r.g⟩) rfl rfl rfl X1.out ?_
  intro z2 x2 k2 s2
  have X2 := Lib.hid x2
  have l2 : Below w5.heap.size w5 z2 := L1W.out.trans (k2.below (by have := S1.out; omega) (fun j hj e => by omega))
  have Q2 := Lib.hid (Q5.out.mono l2)
  have S2 := Lib.hid (show z2.heap.size = w5.heap.size + 1 from s2.trans S1.out)
  have l2W := Lib.hid l2; clear x2 k2 s2 X1 Q1
  refine ⟨l2, ?_⟩
  go_simp
  refine hK _ _ ?_
  clear hK K l2
  refine walk_nil ?_
  have c3 : z2.cell? ⟨B0, o0 + 3, none⟩ = some (.int .i64 n) := (l2W.out.cell (p := ⟨B0, o0 + 3, none⟩) HB0.out).trans HC3.out
  have HJW0 := Lib.hid (show w.heap.size + 1 < w5.heap.size from Q5.out.res.lt)
  have T0 := Lib.hid (show ToP w w5.heap.size r 0 none 0 D 109 (fun j => noteF r (19 + j)) z2 from ⟨by rw [HL0.out]; exact OwnL.nil _ _ _ _ _ _, X2.out, Q2.out.res, by have h := Q2.out.rest; exact h, Q2.out.low⟩)
  have HDJ0 := Lib.hid (show D < w5.heap.size from bytes_lt2 Q5.out.rest (by decide))
  generalize w5.heap.size = J at *
  go_wp2_with (first
  | (with_reducible show wpList _ _ _ (⟨_, Op.indexAddr 65 _ _, _, _, _, none⟩ :: _) _ _
     refine wpList_int_elem rfl _ _ rfl B0 o0 5 c0 3 rfl rfl (by decide) ?_))
  go_loopw [39, 5] (fun v39 v5 wr => ∃ k : Nat, k ≤ n ∧ v39 = .int .i64 k ∧ ∃ qk ck D cD, v5 = .slice (some ⟨D, 0, none⟩) (109 - 16 * k) cD ∧ 109 - 16 * k ≤ cD ∧ ToP w J r k qk ck D (109 - 16 * k) (fun j => noteF r (19 + 16 * k + j)) wr) (fun v39 _ _ => n - (intOf v39).toNat)
  case atStart => exact ⟨0, Nat.zero_le _, rfl, none, 0, D, cD, rfl, HCD.out, T0.out⟩
  case round =>
    obtain ⟨k, hk, rfl, qk, ck, D2, cD2, rfl, hcd, ht⟩ := hrel
    have HT := Lib.hid ht
    have HJ0 := HJW0
    clear ht T0 X2 Q2 HB0 HC0 HC1 HC2 HC3 HC4 l2W S2 Q5 HDJ0 HJW0 c3 HSV HHZ HS5 HL0
    by_cases hlt : k < n
    · have f1 : (k : Int) < (n : Int) := by omega
      have HLT := Lib.hid hlt
      have f3 : IntKind.i64.wrap ((k : Int) + 1) = ((k + 1 : Nat) : Int) := by have := HF.out; rw [IntWalk.i64_in _ (by omega)]; omega
      have HCD2 := Lib.hid hcd
      have HPR1 := Lib.hid (HPR.out k hlt)
      have HLT1 := Lib.hid (HLS.out k hlt)
      have HLL := Lib.hid (show (r.regs.take k).length ≤ 4 by rw [HLE.out, HN.out]; have := HF.out; omega)
      have HLN := Lib.hid (show (r.regs.take k ++ [atR r.regs k]).length = k + 1 by rw [List.length_append, HLE.out, HN.out]; simp; omega)
      have H16 := Lib.hid (show 16 ≤ 109 - 16 * k by have := HF.out; omega)
      have HD9 := Lib.hid (show 109 - 16 * (k + 1) = 109 - 16 * k - 16 by omega)
      have HRE := Lib.hid (show (fun j => noteF r (19 + 16 * (k + 1) + j)) = fun j => noteF r (19 + 16 * k + (16 + j)) from funext fun j => by congr 1; omega)
      have HLTB := Lib.hid (fun j => HNL.out (19 + 16 * k + j))
      have OWR := Lib.hid HT.out.own
      clear hlt hk hcd HPR HLS HLE HNL HLA
      generalize hL : r.regs.take k = L at HLT1 HLL HLN OWR
      clear hL
      generalize atR r.regs k = p at *
      obtain ⟨pw, pk⟩ := p
      simp only at HPR1
      go_wp2_with (first
      | (with_reducible show wpList _ _ _ (⟨_, Op.buildSlice 65 2 _, _, _, _, none⟩ :: _) _ _
         refine wpList_intsL rfl 2 _ rfl [(0, .int .i64 8), (1, .int .i64 8)] rfl [8, 8] rfl (by decide) (by decide) (fill_int2 8 8) ?_
         intro w4 o4 l4 s4
         have O4 := Lib.hid (OwnL.rows2 elemInt.len o4)
         have T4 := Lib.hid (HT.out.mono l4)
         have OW4 := Lib.hid (OWR.out.below (Nat.le_refl _) l4)
         have S4 := Lib.hid (show wr.heap.size ≤ w4.heap.size from l4.size)
         clear o4 l4 s4 OWR)
      | (go_at_call 66
         refine (take_any T4.out.rest HLTB.out HCD2.out (by omega) O4.out rfl (by decide) (by decide) HI2.out (by rw [HS2.out]; exact H16.out)).mono ?_; rintro e w6 ⟨q1, c1, D1, cD1, rfl, ho6, hb6, hc6, hd6, hl6⟩
         rw [HPR1.out] at ho6
         rw [HS2.out] at hb6 hc6
         rw [HS2.out]
         have T6 := Lib.hid ((T4.out.mono hl6).byt hb6)
         have OW6 := Lib.hid (OW4.out.below S4.out hl6)
         have HSW := Lib.hid (Nat.le_trans S4.out hl6.size)
         have HC1D := Lib.hid (show 109 - 16 * k - 16 ≤ cD1 from hc6)
         have HDB := Lib.hid (Nat.le_trans S4.out hd6)
         have HD1W := Lib.hid (bytes_lt2 hb6 (by have := HF.out; have := HLT.out; omega))
         have hbs := (OwnI.base ho6).1
         obtain ⟨B1, o1, rfl, hB1, hcs⟩ := ints_cells (OwnL.rows2 elemInt.len ho6) (by simp)
         have HB1 := Lib.hid hB1
         have HBB := Lib.hid (Nat.le_trans S4.out (hbs B1 ⟨o1, rfl⟩))
         have HD0 := Lib.hid (hcs 0 (by simp))
         have HD1 := Lib.hid (hcs 1 (by simp))
         have HJW := Lib.hid (show J < w6.heap.size from T6.out.box.lt)
         have HJR := HT.out.box.lt
         have HBJ := Lib.hid (show J < B1 from Nat.lt_of_lt_of_le HJR HBB.out)
         have HDJ := Lib.hid (show J < D1 from Nat.lt_of_lt_of_le HJR HDB.out)
         clear ho6 hb6 hc6 hd6 hl6 hB1 hcs hbs HJR O4 T4 OW4 S4 HPR1 HI2))
      refine wp_region_tree (.float 0 (.float 2 (.float 3 (.float 4 (.float 5 (.float 6 (.float 7 (.float 8 (.two 1 (.one 9 (.one 10 (.float 11 (.one 12 .over)))) 9 (.one 1 (.one 10 (.float 11 (.one 12 .over))))))))))))) (fun V => V.cell? ⟨B1, o1 + 0, none⟩ = some (.int .i64 pw) ∧ V.cell? ⟨B1, o1 + 1, none⟩ = some (.int .i64 pk)) (by kernel_rfl) (by kernel_rfl) ⟨HD0.out, HD1.out⟩ ?_
      refine tree_float rfl rfl (fun K hK => ?_)
      refine gives_rvfield _ 0 rfl (by decide) J rfl ?_
      go_simp
      refine hK _ ?_
      clear hK K
      refine tree_float rfl rfl (fun K hK => ?_)
      refine gives_move _ rfl ?_
      go_simp
      refine hK _ ?_
      clear hK K
      refine tree_float rfl rfl (fun K hK => ?_)
      refine gives_int_elem _ _ rfl B1 o1 2 c1 0 rfl rfl (by decide) ?_
      go_simp
      refine hK _ ?_
      clear hK K
      refine tree_float rfl rfl (fun K hK => ?_)
      refine gives_cell 3 _ rfl ⟨B1, o1 + 0, none⟩ (.int .i64 pw) rfl box_int (fun V hV => hV.1) ?_
      go_simp
      refine hK _ ?_
      clear hK K
      refine tree_float rfl rfl (fun K hK => ?_)
      refine gives_move _ rfl ?_
      go_simp
      refine hK _ ?_
      clear hK K
      refine tree_float rfl rfl (fun K hK => ?_)
      refine gives_int_elem _ _ rfl B1 o1 2 c1 1 rfl rfl (by decide) ?_
      go_simp
      refine hK _ ?_
      clear hK K
      refine tree_float rfl rfl (fun K hK => ?_)
      refine gives_cell 3 _ rfl ⟨B1, o1 + 1, none⟩ (.int .i64 pk) rfl box_int (fun V hV => hV.2) ?_
      go_simp
      refine hK _ ?_
      clear hK K
      refine tree_float rfl rfl (fun K hK => ?_)
      refine gives_reg _ _ rfl pw pk rfl rfl ?_
      go_simp
      refine hK _ ?_
      clear hK K
      refine tree_two ?_ ?_
      · refine tree_one rfl rfl (fun K hK => ?_)
        refine done_cell rgS _ rfl ⟨J, 0, none⟩ (.slice qk k ck) rfl box_regs (T6.out.box.cell 0) ?_
        refine ⟨⟨HD0.out, HD1.out⟩, ?_⟩
        go_simp
        refine hK _ _ ?_
        clear hK K
        refine tree_one rfl rfl (fun K hK => ?_)
        refine done_regs1 _ rfl (pw, pk) rfl ?_
        intro z1 x1 l1 s1
        have X1 := Lib.hid x1
        have T7 := Lib.hid (T6.out.mono (((Below.refl _ w6).drew).trans l1))
        have O7 := Lib.hid (OW6.out.below HSW.out (((Below.refl _ w6).drew).trans l1))
        have L1W := Lib.hid (show Below w6.heap.size w6 z1 from ((Below.refl _ w6).drew).trans l1)
        have HDZ := Lib.hid (show D1 < z1.heap.size from Nat.lt_of_lt_of_le HD1W.out l1.size)
        have CC := Lib.hid (And.intro ((l1.cell (p := ⟨B1, o1 + 0, none⟩) HB1.out).trans HD0.out) ((l1.cell (p := ⟨B1, o1 + 1, none⟩) HB1.out).trans HD1.out))
        clear x1 l1 s1
        refine ⟨CC.out, ?_⟩
        go_simp
        refine hK _ _ ?_
        clear hK K
        refine tree_one rfl rfl (fun K hK => ?_)
        refine done_append_list elemReg _ _ rfl (J + 1) wr.heap.size _ L [(pw, pk)] _ 1 1 rfl rfl rfl O7.out X1.out (by have := HLL.out; simp; omega) (by decide) (by have := HJW.out; have := L1W.out.size; omega) ?_
        intro v2 z2 o2 g2 r2
        have b2 := below_own1 g2 O7.out.block (by have := HJW.out; have := L1W.out.size; omega)
        have X8 := Lib.hid (T7.out.box.keep (b2.block _ (Nat.lt_succ_self _)))
        have R8 := Lib.hid (T7.out.res.keep (b2.block _ (by have := HJ0.out; omega)))
        have B8 := Lib.hid (bytes_same T7.out.rest (g2.block D1 HDZ.out (fun e => by have h1 := O7.out.blockTop D1 e.symm; have h2 := HDB.out; omega)) g2.size)
        have L8 := Lib.hid (T7.out.low.trans (b2.mono (by have := HJ0.out; omega)))
        have HBZ := Lib.hid (show B1 < z2.heap.size from Nat.lt_of_lt_of_le (Nat.lt_of_lt_of_le HB1.out L1W.out.size) g2.size)
        have HS8 := Lib.hid (show D1 < z2.heap.size from Nat.lt_of_lt_of_le HDZ.out g2.size)
        have e1 := g2.block B1 (Nat.lt_of_lt_of_le HB1.out L1W.out.size) (fun e => by have h1 := O7.out.blockTop B1 e.symm; have h2 := HBB.out; omega)
        have C2 := Lib.hid (And.intro ((World.cell?_of_block (w := z1) (a := ⟨B1, o1 + 0, none⟩) e1).trans CC.out.1) ((World.cell?_of_block (w := z1) (a := ⟨B1, o1 + 1, none⟩) e1).trans CC.out.2))
        have O8 := Lib.hid o2
        clear o2 g2 r2 b2 e1 X1 T7 O7
        obtain ⟨q2, c2, hv2, -⟩ := O8.out.rows elemReg.len
        rw [HLN.out] at hv2
        subst hv2
        refine ⟨C2.out, ?_⟩
        go_simp
        refine hK _ _ ?_
        clear hK K
        refine tree_float rfl rfl (fun K hK => ?_)
        refine gives_rvfield _ 0 rfl (by decide) J rfl ?_
        go_simp
        refine hK _ ?_
        clear hK K
        refine tree_one rfl rfl (fun K hK => ?_)
        refine done_boxA_slice _ _ rfl J 0 q2 (k + 1) c2 rfl rfl X8.out (by simp [resvA]) ?_
        intro z3 x3 k3 s3
        have e1 := k3.block B1 (by have h1 := HBZ.out; have h2 := HS8.out; omega) (by have h1 := HBJ.out; omega)
        have C3 := Lib.hid (And.intro ((World.cell?_of_block (w := z2) (a := ⟨B1, o1 + 0, none⟩) e1).trans C2.out.1) ((World.cell?_of_block (w := z2) (a := ⟨B1, o1 + 1, none⟩) e1).trans C2.out.2))
        have T9 := Lib.hid (show ToP w J r (k + 1) q2 c2 D1 (109 - 16 * (k + 1)) (fun j => noteF r (19 + 16 * (k + 1) + j)) z3 from ⟨by rw [HLT1.out]; exact keepR O8.out k3 s3 (own_ne_box O8.out X8.out), x3, R8.out.keep (k3.block _ R8.out.lt (by have := HJ0.out; omega)), by have h := bytes_same B8.out (k3.block D1 HS8.out (by have h1 := HDJ.out; omega)) (by omega); rw [HRE.out, HD9.out]; exact h, L8.out.trans (k3.below L8.out.size (fun j hj e => by have := HJ0.out; omega))⟩)
        clear x3 k3 s3 e1
        refine ⟨C3.out, ?_⟩
        go_simp
        refine hK _ _ ?_
        clear hK K
        refine tree_over ?_
        go_wp2
        go_roundw
        case rel => exact ⟨k + 1, HLT.out, by go_num, q2, c2, D1, cD1, by rw [HD9.out], by rw [HD9.out]; exact HC1D.out, T9.out⟩
        case measure => have := HLT.out; simp [intOf]; omega
      · refine tree_one rfl rfl (fun K hK => ?_)
        refine done_regs1 _ rfl (pw, pk) rfl ?_
        intro z1 x1 l1 s1
        have X1 := Lib.hid x1
        have T7 := Lib.hid (T6.out.mono (((Below.refl _ w6).drew).trans l1))
        have O7 := Lib.hid (OW6.out.below HSW.out (((Below.refl _ w6).drew).trans l1))
        have L1W := Lib.hid (show Below w6.heap.size w6 z1 from ((Below.refl _ w6).drew).trans l1)
        have HDZ := Lib.hid (show D1 < z1.heap.size from Nat.lt_of_lt_of_le HD1W.out l1.size)
        have CC := Lib.hid (And.intro ((l1.cell (p := ⟨B1, o1 + 0, none⟩) HB1.out).trans HD0.out) ((l1.cell (p := ⟨B1, o1 + 1, none⟩) HB1.out).trans HD1.out))
        clear x1 l1 s1
        refine ⟨CC.out, ?_⟩
        go_simp
        refine hK _ _ ?_
        clear hK K
        refine tree_one rfl rfl (fun K hK => ?_)
        refine done_cell rgS _ rfl ⟨J, 0, none⟩ (.slice qk k ck) rfl box_regs (T7.out.box.cell 0) ?_
        refine ⟨CC.out, ?_⟩
        go_simp
        refine hK _ _ ?_
        clear hK K
        refine tree_one rfl rfl (fun K hK => ?_)
        refine done_append_list elemReg _ _ rfl (J + 1) wr.heap.size _ L [(pw, pk)] _ 1 1 rfl rfl rfl O7.out X1.out (by have := HLL.out; simp; omega) (by decide) (by have := HJW.out; have := L1W.out.size; omega) ?_
        intro v2 z2 o2 g2 r2
        have b2 := below_own1 g2 O7.out.block (by have := HJW.out; have := L1W.out.size; omega)
        have X8 := Lib.hid (T7.out.box.keep (b2.block _ (Nat.lt_succ_self _)))
        have R8 := Lib.hid (T7.out.res.keep (b2.block _ (by have := HJ0.out; omega)))
        have B8 := Lib.hid (bytes_same T7.out.rest (g2.block D1 HDZ.out (fun e => by have h1 := O7.out.blockTop D1 e.symm; have h2 := HDB.out; omega)) g2.size)
        have L8 := Lib.hid (T7.out.low.trans (b2.mono (by have := HJ0.out; omega)))
        have HBZ := Lib.hid (show B1 < z2.heap.size from Nat.lt_of_lt_of_le (Nat.lt_of_lt_of_le HB1.out L1W.out.size) g2.size)
        have HS8 := Lib.hid (show D1 < z2.heap.size from Nat.lt_of_lt_of_le HDZ.out g2.size)
        have e1 := g2.block B1 (Nat.lt_of_lt_of_le HB1.out L1W.out.size) (fun e => by have h1 := O7.out.blockTop B1 e.symm; have h2 := HBB.out; omega)
        have C2 := Lib.hid (And.intro ((World.cell?_of_block (w := z1) (a := ⟨B1, o1 + 0, none⟩) e1).trans CC.out.1) ((World.cell?_of_block (w := z1) (a := ⟨B1, o1 + 1, none⟩) e1).trans CC.out.2))
        have O8 := Lib.hid o2
        clear o2 g2 r2 b2 e1 X1 T7 O7
        obtain ⟨q2, c2, hv2, -⟩ := O8.out.rows elemReg.len
        rw [HLN.out] at hv2
        subst hv2
        refine ⟨C2.out, ?_⟩
        go_simp
        refine hK _ _ ?_
        clear hK K
        refine tree_float rfl rfl (fun K hK => ?_)
        refine gives_rvfield _ 0 rfl (by decide) J rfl ?_
        go_simp
        refine hK _ ?_
        clear hK K
        refine tree_one rfl rfl (fun K hK => ?_)
        refine done_boxA_slice _ _ rfl J 0 q2 (k + 1) c2 rfl rfl X8.out (by simp [resvA]) ?_
        intro z3 x3 k3 s3
        have e1 := k3.block B1 (by have h1 := HBZ.out; have h2 := HS8.out; omega) (by have h1 := HBJ.out; omega)
        have C3 := Lib.hid (And.intro ((World.cell?_of_block (w := z2) (a := ⟨B1, o1 + 0, none⟩) e1).trans C2.out.1) ((World.cell?_of_block (w := z2) (a := ⟨B1, o1 + 1, none⟩) e1).trans C2.out.2))
        have T9 := Lib.hid (show ToP w J r (k + 1) q2 c2 D1 (109 - 16 * (k + 1)) (fun j => noteF r (19 + 16 * (k + 1) + j)) z3 from ⟨by rw [HLT1.out]; exact keepR O8.out k3 s3 (own_ne_box O8.out X8.out), x3, R8.out.keep (k3.block _ R8.out.lt (by have := HJ0.out; omega)), by have h := bytes_same B8.out (k3.block D1 HS8.out (by have h1 := HDJ.out; omega)) (by omega); rw [HRE.out, HD9.out]; exact h, L8.out.trans (k3.below L8.out.size (fun j hj e => by have := HJ0.out; omega))⟩)
        clear x3 k3 s3 e1
        refine ⟨C3.out, ?_⟩
        go_simp
        refine hK _ _ ?_
        clear hK K
        refine tree_over ?_
        go_wp2
        go_roundw
        case rel => exact ⟨k + 1, HLT.out, by go_num, q2, c2, D1, cD1, by rw [HD9.out], by rw [HD9.out]; exact HC1D.out, T9.out⟩
        case measure => have := HLT.out; simp [intOf]; omega
    · have f3 : ¬ (k : Int) < (n : Int) := by omega
      obtain rfl : k = n := by omega
      have OE := HT.out.own
      rw [HLA.out] at OE
      have OE' := Lib.hid OE
      clear hlt hk hcd HPR HLS HLE HNL OE
      go_wp2_with (first
      | (with_reducible show wpList _ _ _ (⟨_, Op.load rvT _, _, _, _, none⟩ :: _) _ _
         refine wpList_boxA_load rowRv rfl _ rfl J (resvA qk k ck r) rfl rfl HT.out.box ?_)
      | (with_reducible show wpList _ _ _ (⟨_, Op.store rvT _ _, _, _, _, none⟩ :: _) _ _
         refine wpList_boxA_put rowRv rfl _ _ rfl rfl (w.heap.size + 1) (resvA qk k ck r) _ rfl (rvA_one _ _ _ _) rfl rfl rfl HT.out.res ?_
         intro w9 x9 k9 s9
         have R9 := Lib.hid x9
         have L9 := Lib.hid (HT.out.low.trans (k9.below HT.out.low.size (fun j hj e => by omega)))
         have O9 := Lib.hid (keepR OE'.out k9 s9 (own_ne_box OE'.out HT.out.res))
         clear x9 k9 s9))
      exact bodyPost_ret (results_cell_row_tmp rfl _ _ (w.heap.size + 1) rvT (resvA qk k ck r) (0, 0) _ rfl R9.out Try.underlying24 rfl (rvA_size _ _ _ _)) rfl ⟨_, _, _, rfl, O9.out.lower (by have := HJ0.out; omega), L9.out⟩
end Go.Proofs.Ytfnkdmdcjliebaa

/- The contracts of the program's Take on the sector of a note, of its Start. Conditions: the reservations are in form. -/
namespace Go.Proofs.Ytfnkdmdcjliebaa
open Go.ChangeShapes Go.WideShapes Go.ChangeAt Go.RowKit
set_option linter.unusedVariables false
set_option linter.unusedSimpArgs false
theorem OwnL.keepT {w w' : World} {base top O : Nat} {v : Value} {ks : List (Int × Int)} (h : OwnL rgT 2 regC w base top v ks) (k : Keeps (fun j => j = O) w w') (ht : top ≤ w.heap.size) (hO : top ≤ O) : OwnL rgT 2 regC w' base top v ks :=
  h.same fun B h1 h2 => k.block B (by omega) (by omega)
attribute [local irreducible] regC atR noteF intC mk zeroK
attribute [local go_sem] Oper.semAt_some
set_option maxRecDepth 100000 in
set_option maxHeartbeats 8000000 in
theorem Take_note {w : World} {r : ResvOf} (hg : goodR r = true) (hk : r.ok) :
    Calls Try.prog 27 #[.agg (cellsOf .u8 (mk 128 (noteF r)))] w fun e w' => ∃ q' m c', e = .returned (.tuple #[.agg (resvA q' m c' r), .nilIface]) ∧ OwnR w w' q' m c' r.regs ∧ Below w.heap.size w w' := by
  have HTD := Lib.hid (fun (W : World) => told_ok (w := W) (good_iff.1 hg) hk)
  have HNT := Lib.hid (fun (W : World) (q : Option Addr) (n c : Nat) (h : RvAt W q n c r) => Note_ok h hg)
  have HF := Lib.hid (good_iff.1 hg).few
  have HK := Lib.hid hk
  clear hg hk
  go_enter Try.func27, Try.ntmps27
  go_wp2_with (first
  | (with_reducible show wpList _ _ _ (⟨_, Op.box ceT _, _, _, _, none⟩ :: _) _ _
     refine wpList_boxA_of rfl _ rfl (cellsOf .u8 (mk 128 (noteF r))) rfl ?_
     intro w1 x1 l1 s1
     have X1 := Lib.hid x1
     have L1 := Lib.hid l1
     have S1 := Lib.hid s1
     clear x1 l1 s1)
  | (with_reducible show wpList _ _ _ (⟨some 2, Op.alloc rvT, _, _, _, _⟩ :: _) _ _
     refine wpList_boxA_new rowRv rfl rfl (w.heap.size + 1) S1.out ?_
     intro w2 x2 l2 s2
     have R2 := Lib.hid x2
     have X2 := Lib.hid (X1.out.keep (l2.block _ X1.out.lt))
     have L2 := Lib.hid (L1.out.trans (l2.mono L1.out.size))
     clear x2 l2 s2 X1 L1 S1)
  | (with_reducible show wpList _ _ _ (⟨some 9, Op.load ceT _, _, _, _, none⟩ :: _) _ _
     refine wpList_boxA_load rowCe rfl _ rfl w.heap.size (cellsOf .u8 (mk 128 (noteF r))) (ce_size _) rfl X2.out ?_)
  | (go_at_call 46
     refine (HTD.out w2).mono ?_; rintro e w3 ⟨q, n, c, rfl, o3, l3⟩
     have O3 := Lib.hid (o3.lower L2.out.size)
     have R3 := Lib.hid (R2.out.keep (l3.block _ R2.out.lt))
     have X3 := Lib.hid (X2.out.keep (l3.block _ X2.out.lt))
     have L3 := Lib.hid (L2.out.trans (l3.mono L2.out.size))
     clear o3 l3 R2 X2 L2)
  | (with_reducible show wpList _ _ _ (⟨some 4, Op.alloc rvT, _, _, _, _⟩ :: _) _ _
     refine wpList_boxA_new rowRv rfl rfl w3.heap.size rfl ?_
     intro w4 x l s
     have HJ := Lib.hid (show w.heap.size + 1 < w3.heap.size from R3.out.lt)
     have Y4 := Lib.hid x
     have O4 := Lib.hid (O3.out.below (Nat.le_refl _) l)
     have R4 := Lib.hid (R3.out.keep (l.block _ R3.out.lt))
     have X4 := Lib.hid (X3.out.keep (l.block _ X3.out.lt))
     have L4 := Lib.hid (L3.out.trans (l.mono L3.out.size))
     have S4 := Lib.hid (show w3.heap.size < w4.heap.size from x.lt)
     clear x l s O3 R3 X3 L3
     generalize w3.heap.size = J at *)
  | (with_reducible show wpList _ _ _ (⟨_, Op.store rvT (.tmp 4) _, _, _, _, none⟩ :: _) _ _
     refine wpList_boxA_put rowRv rfl _ _ rfl rfl J (resvA q n c r) _ rfl (rvA_one _ _ _ _) rfl rfl rfl Y4.out ?_
     intro w5 x k s
     have Y5 := Lib.hid x
     have O5 := Lib.hid (OwnL.keepT O4.out k (Nat.le_of_lt S4.out) (Nat.le_refl _))
     have R5 := Lib.hid (R4.out.keep (k.block _ R4.out.lt (by have := HJ.out; omega)))
     have X5 := Lib.hid (X4.out.keep (k.block _ X4.out.lt (by have := HJ.out; omega)))
     have L5 := Lib.hid (L4.out.trans (k.below L4.out.size (fun j hj e => by have := HJ.out; omega)))
     have S5 := Lib.hid (show J < w5.heap.size from x.lt)
     clear x k s Y4 O4 R4 X4 L4 S4)
  | (with_reducible show wpList _ _ _ (⟨some 18, Op.load rvT _, _, _, _, none⟩ :: _) _ _
     refine wpList_boxA_load rowRv rfl _ rfl J (resvA q n c r) rfl rfl Y5.out ?_)
  | (go_at_call 23
     refine (HNT.out _ _ _ _ (rvAt_own O5.out HK.out HF.out)).mono ?_; rintro e w6 ⟨rfl, l6⟩
     have Y6 := Lib.hid (Y5.out.keep (l6.block _ Y5.out.lt))
     have O6 := Lib.hid (O5.out.below (Nat.le_of_lt S5.out) l6)
     have R6 := Lib.hid (R5.out.keep (l6.block _ R5.out.lt))
     have X6 := Lib.hid (X5.out.keep (l6.block _ X5.out.lt))
     have L6 := Lib.hid (L5.out.trans (l6.mono L5.out.size))
     have S6 := Lib.hid (show J < w6.heap.size from Nat.lt_of_lt_of_le S5.out l6.size)
     clear l6 Y5 O5 R5 X5 L5 S5)
  | (with_reducible show wpList _ _ _ (⟨some 6, Op.alloc ceT, _, _, _, _⟩ :: _) _ _
     refine wpList_boxA_new rowCe rfl rfl w6.heap.size rfl ?_
     intro w7 x l s
     have C7 := Lib.hid x
     have HJ2 := Lib.hid (show J < w6.heap.size from S6.out)
     have Y7 := Lib.hid (Y6.out.keep (l.block _ Y6.out.lt))
     have O7 := Lib.hid (O6.out.below (Nat.le_of_lt S6.out) l)
     have R7 := Lib.hid (R6.out.keep (l.block _ R6.out.lt))
     have X7 := Lib.hid (X6.out.keep (l.block _ X6.out.lt))
     have L7 := Lib.hid (L6.out.trans (l.mono L6.out.size))
     have S7 := Lib.hid (show w6.heap.size < w7.heap.size from x.lt)
     clear x l s Y6 O6 R6 X6 L6 S6
     generalize w6.heap.size = I at *)
  | (with_reducible show wpList _ _ _ (⟨_, Op.store ceT _ _, _, _, _, none⟩ :: _) _ _
     refine wpList_boxA_put rowCe rfl _ _ rfl rfl I (cellsOf .u8 (mk 128 (noteF r))) _ (ce_size _) (ce_one _) (ce_size _) rfl rfl C7.out ?_
     intro w8 x k s
     have C8 := Lib.hid x
     have Y8 := Lib.hid (Y7.out.keep (k.block _ Y7.out.lt (by have := HJ2.out; omega)))
     have O8 := Lib.hid (OwnL.keepT O7.out k (by have := HJ2.out; have := S7.out; omega) (by have := HJ2.out; omega))
     have R8 := Lib.hid (R7.out.keep (k.block _ R7.out.lt (by have := HJ.out; have := HJ2.out; omega)))
     have X8 := Lib.hid (X7.out.keep (k.block _ X7.out.lt (by have := HJ.out; have := HJ2.out; omega)))
     have L8 := Lib.hid (L7.out.trans (k.below L7.out.size (fun j hj e => by have := HJ.out; have := HJ2.out; omega)))
     have S8 := Lib.hid (show I < w8.heap.size from x.lt)
     clear x k s C7 Y7 O7 R7 X7 L7 S7)
  | (with_reducible show wpList _ _ _ (⟨some 25, Op.load ceT _, _, _, _, _⟩ :: _) _ _
     refine wpList_sec_load rfl _ rfl I (noteF r) rfl C8.out ?_)
  | (with_reducible show wpList _ _ _ (⟨some 26, Op.load ceT _, _, _, _, _⟩ :: _) _ _
     refine wpList_sec_load rfl _ rfl w.heap.size (noteF r) rfl X8.out ?_)
  | (with_reducible show wpList _ _ _ (⟨some 27, Op.binOp .neq ceT _ _ _, _, _, _, _⟩ :: _) _ _
     refine wpList_sec_neq rfl _ _ rfl (noteF r) (noteF r) rfl rfl rfl ?_)
  | (with_reducible show wpList _ _ _ (⟨some 31, Op.load rvT _, _, _, _, none⟩ :: _) _ _
     refine wpList_boxA_load rowRv rfl _ rfl J (resvA q n c r) rfl rfl Y8.out ?_)
  | (with_reducible show wpList _ _ _ (⟨_, Op.store rvT (.tmp 2) _, _, _, _, none⟩ :: _) _ _
     refine wpList_boxA_put rowRv rfl _ _ rfl rfl (w.heap.size + 1) (resvA q n c r) _ rfl (rvA_one _ _ _ _) rfl rfl rfl R8.out ?_
     intro w9 x k s
     have R9 := Lib.hid x
     have o8 : OwnL rgT 2 regC w8 w.heap.size w8.heap.size (.slice q n c) r.regs := O8.out.raise (by have := HJ2.out; have := S8.out; omega)
     have O9 := Lib.hid (keepR o8 k s (own_ne_box o8 R8.out))
     have L9 := Lib.hid (L8.out.trans (k.below L8.out.size (fun j hj e => by omega)))
     clear x k s o8 R8 O8 L8))
  exact bodyPost_ret (results_cell_row_tmp rfl _ _ (w.heap.size + 1) rvT (resvA q n c r) (0, 0) _ rfl R9.out Try.underlying24 rfl (rvA_size _ _ _ _)) rfl ⟨_, _, _, rfl, O9.out, L9.out⟩
def startR (r : ResvOf) : ResvOf := if r.s then r else nobodyR
set_option maxHeartbeats 4000000 in
theorem Start_any {w : World} {q : Option Addr} {n c : Nat} {r : ResvOf} (hq : RegsAt w q r.regs) (hn : r.regs.length = n) (hl : n ≤ 1000) :
    Calls Try.prog 25 #[.agg (resvA q n c r)] w fun e w' => ∃ q' m c', e = .returned (.agg (resvA q' m c' (startR r))) ∧ RegsAt w' q' (startR r).regs ∧ (startR r).regs.length = m ∧ Below w.heap.size w w' := by
  have HC := Lib.hid (fun (W : World) (hb : Below w.heap.size w W) => copied_any (c := c) (RowsAt.below hq hb) hn hl)
  clear hq hn hl
  cases hs : r.s with
  | true =>
    have HS := Lib.hid hs
    have HR := Lib.hid (show startR r = r by unfold startR; rw [hs]; rfl)
    clear hs
    go_enter Try.func25, Try.ntmps25
    go_wp2_with (first
    | (with_reducible show wpList _ _ _ (⟨_, Op.box rvT _, _, _, _, none⟩ :: _) _ _
       refine wpList_boxA_of rfl _ rfl (resvA q n c r) rfl ?_
       intro w1 x1 l1 s1
       have X1 := Lib.hid x1
       have L1 := Lib.hid l1
       have S1 := Lib.hid s1
       clear x1 l1 s1)
    | (with_reducible show wpList _ _ _ (⟨some 2, Op.alloc rvT, _, _, _, _⟩ :: _) _ _
       refine wpList_boxA_new rowRv rfl rfl (w.heap.size + 1) S1.out ?_
       intro w2 x2 l2 s2
       have R2 := Lib.hid x2
       have X2 := Lib.hid (X1.out.keep (l2.block _ X1.out.lt))
       have L2 := Lib.hid (L1.out.trans (l2.mono L1.out.size))
       obtain ⟨c0, c1, c2, c3, c4⟩ := boxRv X2.out
       rw [HS.out] at c3
       clear x2 l2 s2 X1 L1 S1)
    | (with_reducible show wpList _ _ _ (⟨some 7, Op.load rvT _, _, _, _, none⟩ :: _) _ _
       refine wpList_boxA_load rowRv rfl _ rfl w.heap.size (resvA q n c r) rfl rfl X2.out ?_)
    | (go_at_call 33
       refine (HC.out _ L2.out).mono ?_; rintro e w3 ⟨q', m, c', rfl, o3, l3⟩
       have O3 := Lib.hid (o3.lower (Nat.le_trans L2.out.size (Nat.le_refl _)))
       have R3 := Lib.hid (R2.out.keep (l3.block _ R2.out.lt))
       have L3 := Lib.hid (L2.out.trans (l3.mono L2.out.size))
       clear o3 l3 R2 X2 L2 c0 c1 c2 c3 c4)
    | (with_reducible show wpList _ _ _ (⟨_, Op.store rvT (.tmp 2) _, _, _, _, none⟩ :: _) _ _
       refine wpList_boxA_put rowRv rfl _ _ rfl rfl (w.heap.size + 1) (resvA q' m c' r) _ rfl (rvA_one _ _ _ _) rfl rfl rfl R3.out ?_
       intro w9 x k s
       have R9 := Lib.hid x
       have O9 := Lib.hid (keepR O3.out k s (own_ne_box O3.out R3.out))
       have L9 := Lib.hid (L3.out.trans (k.below L3.out.size (fun j hj e => by omega)))
       clear x k s R3 O3 L3))
    rw [HR.out]
    obtain ⟨p, c2, hv, -, -, h3, -⟩ := O9.out.rows elemReg.len
    cases hv
    exact bodyPost_ret (results_cell_row rfl _ _ (w.heap.size + 1) rvT (resvA q' r.regs.length c' r) (0, 0) _ rfl R9.out Try.underlying24 rfl (rvA_size _ _ _ _)) rfl ⟨_, _, _, rfl, h3, rfl, L9.out⟩
  | false =>
    have HS := Lib.hid hs
    have HR := Lib.hid (show startR r = nobodyR by unfold startR; rw [hs]; rfl)
    clear hs
    go_enter Try.func25, Try.ntmps25
    go_wp2_with (first
    | (with_reducible show wpList _ _ _ (⟨_, Op.box rvT _, _, _, _, none⟩ :: _) _ _
       refine wpList_boxA_of rfl _ rfl (resvA q n c r) rfl ?_
       intro w1 x1 l1 s1
       have X1 := Lib.hid x1
       have L1 := Lib.hid l1
       have S1 := Lib.hid s1
       clear x1 l1 s1)
    | (with_reducible show wpList _ _ _ (⟨some 2, Op.alloc rvT, _, _, _, _⟩ :: _) _ _
       refine wpList_boxA_new rowRv rfl rfl (w.heap.size + 1) S1.out ?_
       intro w2 x2 l2 s2
       have R2 := Lib.hid x2
       have X2 := Lib.hid (X1.out.keep (l2.block _ X1.out.lt))
       have L2 := Lib.hid (L1.out.trans (l2.mono L1.out.size))
       obtain ⟨c0, c1, c2, c3, c4⟩ := boxRv X2.out
       rw [HS.out] at c3
       clear x2 l2 s2 X1 L1 S1)
    | (go_at_call 30
       refine (nobodys_any _).mono ?_; rintro e w3 ⟨rfl, l3⟩
       have R3 := Lib.hid (R2.out.keep (l3.block _ R2.out.lt))
       have L3 := Lib.hid (L2.out.trans (l3.mono L2.out.size))
       clear l3 R2 X2 L2 c0 c1 c2 c3 c4)
    | (with_reducible show wpList _ _ _ (⟨_, Op.store rvT (.tmp 2) _, _, _, _, none⟩ :: _) _ _
       refine wpList_boxA_put rowRv rfl _ _ rfl rfl (w.heap.size + 1) (resvA none 0 0 nobodyR) _ rfl (rvA_one _ _ _ _) rfl rfl rfl R3.out ?_
       intro w9 x k s
       have R9 := Lib.hid x
       have L9 := Lib.hid (L3.out.trans (k.below L3.out.size (fun j hj e => by omega)))
       clear x k s R3 L3))
    rw [HR.out]
    exact bodyPost_ret (results_cell_row rfl _ _ (w.heap.size + 1) rvT (resvA none 0 0 nobodyR) (0, 0) _ rfl R9.out Try.underlying24 rfl (rvA_size _ _ _ _)) rfl ⟨_, _, _, rfl, .inl rfl, rfl, L9.out⟩
end Go.Proofs.Ytfnkdmdcjliebaa

/- The contracts of slices.Equal over registrations and of the program's Same, where both are the same. Conditions: at most 1000 registrations. -/
namespace Go.Proofs.Ytfnkdmdcjliebaa
open Go.ChangeShapes Go.WideShapes Go.ChangeAt Go.RowKit
set_option linter.unusedVariables false
set_option linter.unusedSimpArgs false
attribute [local irreducible] regC atR
attribute [local go_sem] Oper.semAt_some
set_option maxRecDepth 100000 in
set_option maxHeartbeats 8000000 in
theorem Equal_eq {w : World} {q p : Option Addr} {n c d : Nat} {ks : List (Int × Int)} (hq : RegsAt w q ks) (hp : RegsAt w p ks) (hn : ks.length = n) (hl : n ≤ 1000) :
    Calls Try.prog 47 #[.slice q n c, .slice p n d] w fun e w' => e = .returned (.bool true) ∧ Below w.heap.size w w' := by
  have HR := Lib.hid (fun i (hi : i < ks.length) => regs_at hq (k := i) hi)
  have HR' := Lib.hid (fun i (hi : i < ks.length) => regs_at hp (k := i) hi)
  have HL := Lib.hid hl
  rw [hn] at HR HR'
  clear hq hp hn hl
  go_enter Try.func47, Try.ntmps47
  go_wp2
  go_loopw [13] (fun v13 wr => ∃ k : Nat, k ≤ n ∧ v13 = .int .i64 k ∧ Below w.heap.size w wr) (fun v13 _ => n - (intOf v13).toNat)
  case atStart => exact ⟨0, Nat.zero_le _, rfl, Below.refl _ _⟩
  case round =>
    obtain ⟨k, hk, rfl, hb⟩ := hrel
    have HB := Lib.hid hb
    clear hb
    by_cases hlt : k < n
    · have f1 : (k : Int) < (n : Int) := by omega
      have HLT := Lib.hid hlt
      have f3 : IntKind.i64.wrap ((k : Int) + 1) = ((k + 1 : Nat) : Int) := by have := HL.out; rw [IntWalk.i64_in _ (by omega)]; omega
      obtain ⟨QB, qo, rfl, hQB, hg1⟩ := HR.out k hlt
      obtain ⟨PB, po, rfl, hPB, hg2⟩ := HR'.out k hlt
      have HG1 := Lib.hid (show wr.drew.rangeAt QB (qo + 2 * k) (regC (atR ks k)) from rangeAt_below hg1 HB.out.drew hQB)
      have HG2 := Lib.hid (show wr.drew.rangeAt PB (po + 2 * k) (regC (atR ks k)) from rangeAt_below hg2 HB.out.drew hPB)
      clear hlt hk HR HR' hg1 hg2 hQB hPB
      generalize atR ks k = p at *
      obtain ⟨pw, pk⟩ := p
      go_wp2
      refine wp_region_sched [(0, true), (1, true), (2, true), (3, true), (4, true), (5, true), (6, true), (7, true), (8, true)] (fun V => V = wr.drew) (by kernel_rfl) (by kernel_rfl) rfl ?_
      refine walk_float rfl rfl (fun K hK => ?_)
      refine gives_move _ rfl ?_
      go_simp
      refine hK _ ?_
      clear hK K
      refine walk_float rfl rfl (fun K hK => ?_)
      refine gives_move _ rfl ?_
      go_simp
      refine hK _ ?_
      clear hK K
      refine walk_float rfl rfl (fun K hK => ?_)
      refine gives_reg_elem _ _ rfl QB qo n c k rfl rfl HLT.out ?_
      go_simp
      refine hK _ ?_
      clear hK K
      refine walk_float rfl rfl (fun K hK => ?_)
      refine gives_rg_load _ rfl QB (qo + 2 * k) rfl pw pk (fun V hV => by rw [hV]; exact HG1.out) ?_
      go_simp
      refine hK _ ?_
      clear hK K
      refine walk_float rfl rfl (fun K hK => ?_)
      refine gives_move _ rfl ?_
      go_simp
      refine hK _ ?_
      clear hK K
      refine walk_float rfl rfl (fun K hK => ?_)
      refine gives_move _ rfl ?_
      go_simp
      refine hK _ ?_
      clear hK K
      refine walk_float rfl rfl (fun K hK => ?_)
      refine gives_reg_elem _ _ rfl PB po n d k rfl rfl HLT.out ?_
      go_simp
      refine hK _ ?_
      clear hK K
      refine walk_float rfl rfl (fun K hK => ?_)
      refine gives_rg_load _ rfl PB (po + 2 * k) rfl pw pk (fun V hV => by rw [hV]; exact HG2.out) ?_
      go_simp
      refine hK _ ?_
      clear hK K
      refine walk_float rfl rfl (fun K hK => ?_)
      refine gives_rg_isnt _ _ rfl pw pk rfl rfl ?_
      go_simp
      refine hK _ ?_
      clear hK K
      refine walk_nil ?_
      go_wp2
      go_roundw
      case rel => exact ⟨k + 1, HLT.out, by go_num, HB.out.drew⟩
      case measure => have := HLT.out; simp [intOf]; omega
    · have f3 : ¬ (k : Int) < (n : Int) := by omega
      obtain rfl : k = n := by omega
      clear hlt hk HR HR'
      go_wp2
      go_ret
      exact ⟨rfl, HB.out⟩
set_option maxRecDepth 100000 in
set_option maxHeartbeats 8000000 in
theorem Same_eq {w : World} {q p : Option Addr} {n c d : Nat} {r : ResvOf} (hq : RegsAt w q r.regs) (hp : RegsAt w p r.regs) (hn : r.regs.length = n) (hl : n ≤ 1000) :
    Calls Try.prog 28 #[.agg (resvA q n c r), .agg (resvA p n d r)] w fun e w' => e = .returned (.bool true) ∧ Below w.heap.size w w' := by
  have HE := Lib.hid (fun (W : World) (hb : Below w.heap.size w W) => Equal_eq (c := c) (d := d) (RowsAt.below hq hb) (RowsAt.below hp hb) hn hl)
  have e1 : (r.s == r.s) = true := by simp
  clear hq hp hn hl
  go_enter Try.func28, Try.ntmps28
  go_wp2_with (first
  | (with_reducible show wpList _ _ _ (⟨some 2, Op.box rvT _, _, _, _, none⟩ :: _) _ _
     refine wpList_boxA_of rfl _ rfl (resvA q n c r) rfl ?_
     intro w1 x1 l1 s1
     have X1 := Lib.hid x1
     have L1 := Lib.hid l1
     have S1 := Lib.hid s1
     clear x1 l1 s1)
  | (with_reducible show wpList _ _ _ (⟨some 3, Op.box rvT _, _, _, _, none⟩ :: _) _ _
     refine wpList_boxA_of rfl _ rfl (resvA p n d r) rfl ?_
     intro w2 x2 l2 s2
     rw [S1.out] at x2 s2
     rw [S1.out]
     have Y2 := Lib.hid x2
     have X2 := Lib.hid (X1.out.keep (l2.block _ X1.out.lt))
     have L2 := Lib.hid (L1.out.trans (l2.mono L1.out.size))
     obtain ⟨c0, c1, c2, c3, c4⟩ := boxRv X2.out
     obtain ⟨d0, d1, d2, d3, d4⟩ := boxRv Y2.out
     clear x2 l2 s2 X1 L1 S1)
  | (go_at_call 47
     refine (HE.out _ L2.out).mono ?_; rintro e w3 ⟨rfl, l3⟩
     have X3 := Lib.hid (X2.out.keep (l3.block _ X2.out.lt))
     have Y3 := Lib.hid (Y2.out.keep (l3.block _ Y2.out.lt))
     have L3 := Lib.hid (L2.out.trans (l3.mono L2.out.size))
     clear l3 X2 Y2 L2 c0 c1 c2 c3 c4 d0 d1 d2 d3 d4
     obtain ⟨c0, c1, c2, c3, c4⟩ := boxRv X3.out
     obtain ⟨d0, d1, d2, d3, d4⟩ := boxRv Y3.out))
  go_ret
  exact ⟨by simp, L3.out⟩
end Go.Proofs.Ytfnkdmdcjliebaa
