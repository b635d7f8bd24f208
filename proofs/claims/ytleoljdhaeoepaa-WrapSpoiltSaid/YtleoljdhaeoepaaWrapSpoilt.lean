/- What is wrapped, with another byte anywhere, isn't unwrapped to the same text: the statement WrapSpoilt. No condition. -/
import Derived.Test.YtleoljdhaeoepaaWrAlive
import Derived.Lib.SmallJoins
import Derived.ChangeMaps5
namespace Go.Proofs.Ytleoljdhaeoepaa.wrapSpoilt
open Go.ChangeShapes Go.WideShapes Go.ChangeAt Go.RowKit
set_option linter.unusedVariables false

theorem own : ownKnob Try.prog.godebug = none := by kernel_rfl
/-- A cell that is a slice of bytes. -/
theorem open_cell {H : Type} {enc : TypeId × Value → H} {W : World} {base fuel : Nat} {spare : Nat → Bool} {held : Bool} {cs : List Value} {x : DataW H × List MemPlace} (h : DataW.trod enc Try.prog W base spare held fuel 22 cs = some x) :
    ∃ (q : Option Addr) (n cap : Nat) (g : Nat → Nat), cs = [.slice q n cap] ∧ DataW.Trod enc Try.prog W base spare held 22 (.slice q n cap) x.1 x.2 ∧ (∀ i, i < n → g i < 256) ∧ BytesAt W q n g ∧ n ≤ cap := by
  have ht : Try.prog.underlying 22 = some (.slice 5) := Try.underlying22
  have ck : Try.prog.cellsOf 5 = 1 := by kernel_rfl
  have h' := h
  rcases Deep.open_slice1 ht ck h with ⟨rfl, _⟩ | ⟨a, len, cap', m, k, V, D, Pl, rfl, hb, hl, hm, hmm, _, hx⟩
  · exact ⟨none, 0, 0, zeroK, rfl, ⟨fuel, h'⟩, fun i hi => absurd hi (Nat.not_lt_zero _), .inl rfl, Nat.le_refl _⟩
  · refine (?_ : ∃ (g : Nat → Nat), (∀ i, i < len → g i < 256) ∧ BytesAt W (some a) len g).elim fun g ⟨h1, h2⟩ => ⟨some a, len, cap', g, rfl, ⟨fuel, h'⟩, h1, h2, hl⟩
    by_cases h0 : len = 0
    · exact ⟨zeroK, fun i hi => absurd hi (by omega), .inl h0⟩
    · have hnm : len ≤ m := by rw [hmm]; split <;> omega
      have each : ∀ i, i < len → ∃ x : Nat, x < 256 ∧ W.cell? (a.add i) = some (.int .u8 x) := fun i hi => by
        obtain ⟨h1, h2⟩ := hx i (by omega)
        obtain ⟨x, hx1, _, hw⟩ := DataW.trod_int Try.underlying5 h2
        have hb := bounds_u8 hw
        simp only [List.cons.injEq, and_true] at hx1
        refine ⟨x.toNat, by omega, ?_⟩
        rw [show ((x.toNat : Nat) : Int) = x by omega, ← hx1]; exact h1
      obtain ⟨B, o, spot⟩ := a
      obtain ⟨x0, _, hx0⟩ := each 0 (by omega)
      have hspot : spot = none := by simpa [Addr.add] using World.cell?_spot hx0
      subst hspot
      simp only [add_plain] at each hx0
      refine ⟨fun i => byteAt W B (o + i), fun i hi => ?_, .inr ⟨B, o, rfl, block_lt_of_cell hx0, fun i hi => ?_⟩⟩
      · obtain ⟨x, hx1, hx2⟩ := each i hi
        show byteAt W B (o + i) < 256
        rw [byteAt_is hx2]; exact hx1
      · obtain ⟨x, hx1, hx2⟩ := each i hi
        show W.cell? ⟨B, o + i, none⟩ = some (.int .u8 (byteAt W B (o + i) : Nat))
        rw [byteAt_is hx2]; exact hx2
theorem weights_in {H : Type} {ts : List TypeId} {ds : List (DataW H)} (hz : (DataW.weightsEach Try.prog ts ds).all (· ≤ reachBytes) = true) {j : Nat} {t : TypeId} {d : DataW H} (ht : ts[j]? = some t) (hd : ds[j]? = some d) : (d.weights Try.prog t).all (· ≤ reachBytes) = true :=
  List.all_eq_true.2 fun n hn => List.all_eq_true.1 hz n (DataW.weights_mem_each ht hd n hn)
theorem four_cells {cs : List Value} {a b c d : Value} (hl : cs.length = 4) (h0 : (cs.drop 0).take 1 = [a]) (h1 : (cs.drop 1).take 1 = [b]) (h2 : (cs.drop 2).take 1 = [c]) (h3 : (cs.drop 3).take 1 = [d]) : cs = [a, b, c, d] := by
  match cs, hl with
  | [x, y, z, u], _ => simp_all
/-- A text with another byte in one place. -/
def turnF (G : Nat → Nat) (k y : Nat) : Nat → Nat := fun x => if x = k then y else G x
theorem turnF_lt {G : Nat → Nat} {k y N : Nat} (hG : ∀ i, i < N → G i < 256) (hy : y < 256) : ∀ i, i < N → turnF G k y i < 256 := fun i hi => by
  unfold turnF; split
  · exact hy
  · exact hG i hi
theorem turn_set (N : Nat) (G : Nat → Nat) (k y : Nat) : (mk N G).set k (y : Nat) = mk N (turnF G k y) := mk_set_is (v := y) rfl fun _ _ => rfl
set_option maxRecDepth 100000 in
theorem open_turned {H : Type} {enc : TypeId × Value → H} {W : World} {r : Reach} {b0 base : Nat} {spare : Nat → Bool} {held : Bool} {v : Value} {d : DataW H} {p : List MemPlace} (hv : Value.okWide Try.prog W r b0 38 v) (h : DataW.Trod enc Try.prog W base spare held 38 v d p)
    {ts : List TypeId} {ds : List (DataW H)} (hz : (DataW.weightsEach Try.prog ts ds).all (· ≤ reachBytes) = true) {j : Nat} (ht : ts[j]? = some 38) (hd : ds[j]? = some d) :
    ∃ (q0 : Option Addr) (n0 c0 : Nat) (g0 : Nat → Nat) (q1 : Option Addr) (n1 c1 : Nat) (g1 : Nat → Nat) (z1 z2 : Int), v = .agg #[.slice q0 n0 c0, .slice q1 n1 c1, .int .i64 z1, .int .u8 z2] ∧
      ((∀ i, i < n0 → g0 i < 256) ∧ n0 ≤ c0 ∧ n0 ≤ 140737488351232 ∧ BytesAt W q0 n0 g0) ∧ ((∀ i, i < n1 → g1 i < 256) ∧ n1 ≤ c1 ∧ n1 ≤ 140737488351232 ∧ BytesAt W q1 n1 g1) ∧ (Lit.int .i64 z1).wf = true ∧ (Lit.int .u8 z2).wf = true := by
  obtain ⟨cs, rfl, hsz⟩ := okWide_struct Try.underlying38 hv
  rw [show Try.prog.cellsOf 38 = 4 by kernel_rfl] at hsz
  obtain ⟨fuel, hf⟩ := h
  obtain ⟨y0, y1, y2, y3, n, hx, hl, t0, t1, t2, t3⟩ := Joins.trod_struct4 Try.underlying38 hf
  have hdd : (Value.cells (.agg cs)).toList = cs.toList := rfl
  rw [hdd] at t0 t1 t2 t3
  have k1 : Try.prog.cellsOf 22 = 1 := by kernel_rfl
  have k2 : Try.prog.cellsOf 3 = 1 := by kernel_rfl
  have k3 : Try.prog.cellsOf 5 = 1 := by kernel_rfl
  simp only [k1, k2, k3] at t0 t1 t2 t3
  obtain ⟨q0, n0, c0, g0, e0, r0, b0, x0, l0⟩ := open_cell t0
  obtain ⟨q1, n1, c1, g1, e1, r1, b1, x1, l1⟩ := open_cell t1
  obtain ⟨z1, e2, _, w1⟩ := DataW.trod_int Try.underlying3 t2
  obtain ⟨z2, e3, _, w2⟩ := DataW.trod_int Try.underlying5 t3
  have hw := weights_in hz ht hd
  simp only [Prod.mk.injEq] at hx
  rw [hx.1] at hw
  have hw2 : (DataW.weightsEach Try.prog [22, 22, 3, 5] [y0.1, y1.1, y2.1, y3.1]).all (· ≤ reachBytes) = true := by
    simpa [DataW.weights, Try.underlying38] using hw
  have hcs : cs = #[.slice q0 n0 c0, .slice q1 n1 c1, .int .i64 z1, .int .u8 z2] := by
    have := four_cells (cs := cs.toList) (by simpa using hsz) e0 e1 e2 e3
    exact Array.ext' this
  exact ⟨q0, n0, c0, g0, q1, n1, c1, g1, z1, z2, by rw [hcs], ⟨b0, l0, open_size r0 hw2 (j := 0) rfl rfl, x0⟩, ⟨b1, l1, open_size r1 hw2 (j := 1) rfl rfl, x1⟩, w1, w2⟩

/-- What a text is wrapped to hangs on its own bytes alone. -/
theorem gl_eq {S V : Nat → Nat} {m i : Nat} (h : ∀ p, p < 8 * m + 8 → S p = V p) (hi : i < m) : EqK (gl S i) (gl V i) := fun j hj => by
  unfold gl; split <;> exact h _ (by omega)
theorem wTo_eq {R : Nat → Nat → Nat} {T m : Nat} {S V : Nat → Nat} (hm : 0 < m) (h : ∀ p, p < 8 * m + 8 → S p = V p) : ∀ s p, p < 8 * m + 8 → wTo R T m S s p = wTo R T m V s p
  | 0 => h
  | s + 1 => fun p hp => by
    have ih := wTo_eq (R := R) (T := T) hm h s
    rw [wTo_step, wTo_step]
    unfold wS
    rw [lay_eq _ _ (eq_numX (s + 1) (eq_enc R T (gl_eq ih (Nat.mod_lt s hm))))]
    unfold lay
    rw [ih p hp]
theorem wrpN_eq {R : Nat → Nat → Nat} {T m : Nat} {F G : Nat → Nat} (hm : 0 < m) (h : ∀ p, p < 8 * m → F p = G p) : ∀ p, p < 8 * m + 8 → wrpN R T m F p = wrpN R T m G p :=
  wTo_eq hm (fun p hp => by
    unfold ini
    by_cases h8 : p < 8
    · rw [if_pos h8, if_pos h8]
    · rw [if_neg h8, if_neg h8]; exact h _ (by omega)) (6 * m)
/-- With another byte it isn't the same text. -/
theorem other_text {R : Nat → Nat → Nat} {T m k y : Nat} {G : Nat → Nat} (hR : ∀ i, i < T → IsKey (R i)) (hm : 0 < m) (hk : k < 8 * m + 8) (hrow : IsRow (8 * m + 8) (turnF (wrpN R T m G) k y)) (hne : y ≠ wrpN R T m G k)
    (hs : sure (unwN R T m (turnF (wrpN R T m G) k y)) = true) : mk (8 * m) (txt (unwN R T m (turnF (wrpN R T m G) k y))) ≠ mk (8 * m) G := fun he => by
  have e : ∀ p, p < 8 * m → txt (unwN R T m (turnF (wrpN R T m G) k y)) p = G p := fun p hp => by
    have := congrArg (fun l : List Int => l.getD p 0) he
    simp only [mk_get hp] at this
    omega
  have h1 := wrpN_eq (R := R) (T := T) hm e k hk
  rw [wrp_unw hR hm hrow hs] at h1
  unfold turnF at h1
  rw [if_pos rfl] at h1
  exact hne h1
attribute [local irreducible] wrpN unwN rkS turnF

set_option maxRecDepth 100000 in
set_option maxHeartbeats 4000000 in
theorem turned_any (p : Option Addr) (n cap : Nat) (g : Nat → Nat) (q : Option Addr) (tn tcap : Nat) (G : Nat → Nat) (at' by' : Int) (hg : ∀ i, i < n → g i < 256) (hcap : n ≤ cap) (hsn : n ≤ 140737488351232) (hG : ∀ i, i < tn → G i < 256) (htcap : tn ≤ tcap) (hst : tn ≤ 140737488351232) (hby : (Lit.int .u8 by').wf = true) (w : World) (hp : BytesAt w p n g) (hq : BytesAt w q tn G) :
    Calls Try.prog 18 #[.slice p n cap, .slice q tn tcap, .int .i64 at', .int .u8 by'] w fun e w' => e = .returned (.bool true) ∧ Below w.heap.size w w' := by
  have AL := Lib.hid (alive_any w)
  have HP := Lib.hid hp; have HQ := Lib.hid hq
  by_cases hok : (n = 16 ∨ n = 32) ∧ tn % 8 = 0 ∧ 16 ≤ tn ∧ tn ≤ 512
  · obtain ⟨N, hN, hnN⟩ : ∃ N, (N = 4 ∨ N = 8) ∧ n = 4 * N := by
      rcases hok.1 with h | h
      · exact ⟨4, .inl rfl, h⟩
      · exact ⟨8, .inr rfl, h⟩
    obtain ⟨m, hm⟩ : ∃ m, tn = 8 * m := ⟨tn / 8, by omega⟩
    obtain ⟨L, hL⟩ : ∃ L, L = tn + 8 := ⟨_, rfl⟩
    obtain ⟨u, hu⟩ : ∃ u : Nat, IntKind.u64.wrap at' = (u : Int) := by
      rw [IntKind.wrap_u64]; exact ⟨(at' % 18446744073709551616).toNat, by omega⟩
    obtain ⟨b, hb0, hb1⟩ : ∃ b : Nat, by' = (b : Int) ∧ b < 256 := by
      have := bounds_u8 hby; exact ⟨by'.toNat, by omega, by omega⟩
    subst hb0
    obtain ⟨k, hk2⟩ : ∃ k, k = u % L := ⟨_, rfl⟩
    have hkL : k < L := by rw [hk2]; exact Nat.mod_lt _ (by omega)
    have d1 : decide ((4096 : Int) < (n : Int)) = false := by simp; omega
    have d2 : decide (4096 < n) = false := by simp; omega
    have hR : ∀ i, i < N + 7 → IsKey (rkS N g i) := fun i _ => rkS_key (fun i hi => hg i (by omega)) i
    have hGr : IsRow (8 * m) G := fun j hj => hG j (by omega)
    have hW := wrpN_row (n := m) hR (by omega) hGr
    have WC := Lib.hid (fun (W : World) (h1 : BytesAt W p n g) (h2 : BytesAt W q tn G) => Wrap_ok p n cap N g q tn tcap m G hnN hN hcap hg hm (by omega) (by omega) hG W h1 h2)
    obtain ⟨F, hF⟩ : ∃ F, wrpN (rkS N g) (N + 7) m G = F := ⟨_, rfl⟩
    rw [hF] at hW WC
    have hFk : F k < 256 := hW k (by omega)
    have hy : F k ^^^ (1 ||| b) < 256 := xor_lt hFk (Nat.or_lt_two_pow (n := 8) (by omega) (by omega))
    have hV : IsRow (8 * m + 8) (turnF F k (F k ^^^ (1 ||| b))) := turnF_lt hW hy
    have x1 : bits .or .u8 1 (b : Int) = ((1 ||| b : Nat) : Int) := bits_or_u8 (x := 1) (y := b) (by omega) hb1
    have x2 : bits .xor .u8 (F k : Int) ((1 ||| b : Nat) : Int) = ((F k ^^^ (1 ||| b) : Nat) : Int) := bits_xor_u8 hFk (Nat.or_lt_two_pow (n := 8) (by omega) (by omega))
    have q2 : IntKind.u64.wrap (L : Int) = (L : Int) := by rw [IntKind.wrap_u64]; omega
    have q5 : ¬ L = 0 := by omega
    have q6 : IntKind.i64.wrap ((u : Int) % (L : Int)) = (k : Int) := by rw [IntWalk.i64_in _ (by omega)]; omega
    have q7 : (k : Int) < (L : Int) := by omega
    have UC := Lib.hid (fun (D : Nat) (W : World) (h1 : BytesAt W p n g) (h2 : BytesAt W (some ⟨D, 0, none⟩) L (turnF F k (F k ^^^ (1 ||| b)))) => Unwrap_run p n cap N g (some ⟨D, 0, none⟩) L L m _ hnN hN hcap hg (by omega) (by omega) (by omega) (Nat.le_refl _) (by rw [hL, hm]; exact hV) W h1 h2)
    have OT := Lib.hid (fun hs => other_text (G := G) (k := k) (y := F k ^^^ (1 ||| b)) hR (show 0 < m by omega) (by omega) (by rw [hF]; exact hV) (by rw [hF]; exact flip_ne (F k) b) hs)
    rw [hF] at OT
    have hUr := unwN_row hR (show 0 < m by omega) hV
    have HTr := Lib.hid (txt_row hUr)
    have HGr := Lib.hid hGr
    have SG := Lib.hid (turn_set L F k (F k ^^^ (1 ||| b)))
    rw [← hL] at WC
    rw [← hm] at UC OT HTr HGr
    clear hm hL hW hV hUr hGr hR hok hnN hN hg hG hp hq hsn hst hcap htcap hby hFk hy hk2
    cases hs : sure (unwN (rkS N g) (N + 7) m (turnF F k (F k ^^^ (1 ||| b))))
    case' true => have NE := Lib.hid (OT.out hs)
    case' false => skip
    all_goals
      rw [hs] at UC
      clear OT hs hF hb1
      generalize unwN (rkS N g) (N + 7) m (turnF F k (F k ^^^ (1 ||| b))) = U at *
      go_enter Try.func18, Try.ntmps18
    case false =>
      have IC := Lib.hid (fun W => Is_err 4 rfl W)
      go_wp2_with (first
        | (go_at_call 15; refine AL.out.mono ?_; rintro e w1 ⟨rfl, hb1⟩
           have B1 := Lib.hid hb1; have P1 := Lib.hid (HP.out.below hb1); have Q1 := Lib.hid (HQ.out.below hb1)
           clear hb1 HP HQ AL)
        | (go_at_call 8; refine (WC.out w1 P1.out Q1.out).mono ?_; rintro e w2 ⟨D, rfl, hr, hD, hb⟩
           have ck := hr.cell (i := k) (by rw [mk_len]; exact hkL)
           rw [mk_get hkL] at ck
           have fk := hr.free k
           have x3 := hr.set k ((F k ^^^ (1 ||| b) : Nat) : Int)
           rw [SG.out] at x3
           have X3 := Lib.hid x3
           have b3 : Below w1.heap.size w1 (w2.setCell ⟨D, k, none⟩ (.int .u8 ((F k ^^^ (1 ||| b) : Nat) : Int))) := hb.setCell (p := ⟨D, k, none⟩) hD _
           have B3 := Lib.hid (B1.out.trans (b3.mono B1.out.size)); have P3 := Lib.hid (P1.out.below b3); have Q3 := Lib.hid (Q1.out.below b3)
           clear hr hD hb x3 b3 WC B1 P1 Q1)
        | (go_at_call 16
           change Calls _ _ _ (w2.setCell ⟨D, k, none⟩ (.int .u8 ((F k ^^^ (1 ||| b) : Nat) : Int))) _
           generalize w2.setCell ⟨D, k, none⟩ (.int .u8 ((F k ^^^ (1 ||| b) : Nat) : Int)) = w3 at *
           refine (UC.out D w3 P3.out X3.out.bytesAt).mono ?_; rintro e w4 ⟨hb, _, h⟩
           obtain rfl := h (by first | rfl | trivial)
           have B4 := Lib.hid (B3.out.trans (hb.mono B3.out.size))
           clear hb h UC B3 P3 Q3 X3 ck fk)
        | (go_at_call 17; refine (IC.out _).mono ?_; rintro e w5 ⟨rfl, rfl⟩; clear IC))
      go_ret
      exact ⟨rfl, B4.out⟩
    case true =>
      have IC := Lib.hid (fun W => Is_nil W)
      go_wp2_with (first
        | (go_at_call 15; refine AL.out.mono ?_; rintro e w1 ⟨rfl, hb1⟩
           have B1 := Lib.hid hb1; have P1 := Lib.hid (HP.out.below hb1); have Q1 := Lib.hid (HQ.out.below hb1)
           clear hb1 HP HQ AL)
        | (go_at_call 8; refine (WC.out w1 P1.out Q1.out).mono ?_; rintro e w2 ⟨D, rfl, hr, hD, hb⟩
           have ck := hr.cell (i := k) (by rw [mk_len]; exact hkL)
           rw [mk_get hkL] at ck
           have fk := hr.free k
           have x3 := hr.set k ((F k ^^^ (1 ||| b) : Nat) : Int)
           rw [SG.out] at x3
           have X3 := Lib.hid x3
           have b3 : Below w1.heap.size w1 (w2.setCell ⟨D, k, none⟩ (.int .u8 ((F k ^^^ (1 ||| b) : Nat) : Int))) := hb.setCell (p := ⟨D, k, none⟩) hD _
           have B3 := Lib.hid (B1.out.trans (b3.mono B1.out.size)); have P3 := Lib.hid (P1.out.below b3); have Q3 := Lib.hid (Q1.out.below b3)
           clear hr hD hb x3 b3 WC B1 P1 Q1)
        | (go_at_call 16
           change Calls _ _ _ (w2.setCell ⟨D, k, none⟩ (.int .u8 ((F k ^^^ (1 ||| b) : Nat) : Int))) _
           generalize w2.setCell ⟨D, k, none⟩ (.int .u8 ((F k ^^^ (1 ||| b) : Nat) : Int)) = w3 at *
           refine (UC.out D w3 P3.out X3.out.bytesAt).mono ?_; rintro e w4 ⟨hb, h, _⟩
           obtain ⟨D4, rfl, hr, _⟩ := h (by first | rfl | trivial)
           have B4 := Lib.hid (B3.out.trans (hb.mono B3.out.size)); have X4 := Lib.hid hr; have Q4 := Lib.hid (Q3.out.below hb)
           clear hr hb h UC B3 P3 Q3 X3 ck fk)
        | (go_at_call 17; refine (IC.out _).mono ?_; rintro e w5 ⟨rfl, rfl⟩; clear IC)
        | (go_at_call 11; refine (Same_not (some ⟨D4, 0, none⟩) tn tn q tn tcap (txt U) G HTr.out HGr.out NE.out w4 X4.out.bytesAt Q4.out).mono ?_; rintro e w6 ⟨rfl, rfl⟩; clear X4 Q4))
      go_ret
      exact ⟨rfl, B4.out⟩
  · obtain ⟨E, HC⟩ : ∃ E : Int,
        (∀ (W : World), BytesAt W p n g → Calls Try.prog 8 #[.slice p n cap, .slice q tn tcap] W fun e w' => e = .returned (.tuple #[.slice none 0 0, .iface 36 (.int .i64 E)]) ∧ Below W.heap.size W w') := by
      by_cases hk : n = 16 ∨ n = 32
      · obtain ⟨N, hN, hnN⟩ : ∃ N, (N = 4 ∨ N = 8) ∧ n = 4 * N := by
          rcases hk with h | h
          · exact ⟨4, .inl rfl, h⟩
          · exact ⟨8, .inr rfl, h⟩
        exact ⟨2, fun W h1 => Wrap_form p n cap N g q tn tcap hnN hN hcap hg (by omega) (by omega) W h1⟩
      · exact ⟨3, fun W _ => Wrap_key p n cap q tn tcap (by omega) (by omega) W⟩
    have HCC := Lib.hid HC
    clear HC hok hg hG hp hq hsn hst hcap htcap hby
    go_enter Try.func18, Try.ntmps18
    go_wp2_with (first
      | (go_at_call 15; refine AL.out.mono ?_; rintro e w1 ⟨rfl, hb1⟩
         have B1 := Lib.hid hb1; have P1 := Lib.hid (HP.out.below hb1)
         clear hb1 HP HQ AL)
      | (go_at_call 8; refine (HCC.out w1 P1.out).mono ?_; rintro e w2 ⟨rfl, hb⟩
         have B2 := Lib.hid (B1.out.trans (hb.mono B1.out.size))
         clear hb HCC B1 P1))
    go_ret
    exact ⟨rfl, B2.out⟩

set_option maxRecDepth 100000 in
set_option maxHeartbeats 2000000 in
theorem walk (p : Option Addr) (n cap : Nat) (g : Nat → Nat) (q : Option Addr) (tn tcap : Nat) (G : Nat → Nat) (z1 z2 : Int) (h1 : (∀ i, i < n → g i < 256) ∧ n ≤ cap ∧ n ≤ 140737488351232) (h2 : (∀ i, i < tn → G i < 256) ∧ tn ≤ tcap ∧ tn ≤ 140737488351232) (hby : (Lit.int .u8 z2).wf = true) (w : World) (hp : BytesAt w p n g) (hq : BytesAt w q tn G) :
    Calls Try.prog 6 #[.agg #[.slice p n cap, .slice q tn tcap, .int .i64 z1, .int .u8 z2]] w fun e w' => e = .returned (.bool true) ∧ Below w.heap.size w w' := by
  have a0 : Below w.heap.size w (w.alloc (.cells #[.slice p n cap, .slice q tn tcap, .int .i64 z1, .int .u8 z2] 38)) := (Below.refl _ w).alloc (Nat.le_refl _) _
  have PA := Lib.hid (turned_any p n cap g q tn tcap G z1 z2 h1.1 h1.2.1 h1.2.2 h2.1 h2.2.1 h2.2.2 hby _ (hp.below a0) (hq.below a0))
  have HA := Lib.hid a0
  clear a0 h1 h2 hp hq
  go_enter Try.func6, Try.ntmps6
  go_wp2_with (first
    | (go_at_call 18; refine PA.out.mono ?_; rintro e w1 ⟨rfl, hb1⟩))
  go_ret
  exact ⟨rfl, HA.out.trans (hb1.mono HA.out.size)⟩

theorem laidOut : laidOutB Try.prog = true := by kernel_rfl
set_option maxRecDepth 100000 in
theorem lifted (os : Os) (started : os.Started) (H : Type) (enc : TypeId × Value → H) :
    ReturnsInHanded {} Try.checked os 6 .any (Rows.wrapSpoiltSpec.pre6 enc Try.prog Try.f6 Rows.wrapSpoiltRow.domain false) (Rows.wrapSpoiltSpec.post enc Try.prog Try.f6 false true false false) := by
  refine returnsInHanded_of_change_sized (C := Try.checked) own started (by kernel_rfl) Try.func6
    (ChangeSpec.witness6 (enc := enc) (C := Try.checked) false ⟨#[], #[.agg #[.slice none 0 0, .slice none 0 0, .int .i64 0, .int .u8 0]], []⟩ 8 (by kernel_rfl) (by kernel_rfl) (by kernel_rfl) (by kernel_rfl)) ?_
  intro W base args ds gs before hval0 hW hcnd hsz _
  have hval : ∀ (j : Nat) t v, Try.f6.params[j]? = some t → args[j]? = some v → Value.okWide Try.prog W .any base t v := hval0
  have hW' := hW
  obtain ⟨p, q, hA0, hV, rfl, hfz, hnd⟩ := hW
  have hA : DataW.TrodAll enc Try.prog W 0 (fun _ => true) true Try.f6.params.toList args.toList ds p := hA0
  rw [Try.params6] at hA hval
  obtain ⟨v0, vs0, d0, ds0, p0, q0, hargs, rfl, rfl, h0, r0⟩ := trodAll_cons hA
  obtain ⟨rfl, rfl, rfl⟩ := trodAll_nil r0
  obtain rfl : args = #[v0] := by cases args; simp_all
  obtain ⟨rfl, rfl⟩ := trodVars_none hV
  have k0 := h0
  have lt0 : ∀ x ∈ p0, x.block < W.heap.size := by obtain ⟨m, hm⟩ := k0; exact DataW.trod_lt m _ _ _ hm
  obtain ⟨q0, n0, c0, g0, q1, n1, c1, g1, z1, z2, rfl, s0, s1, hat, hby⟩ := open_turned (hval 0 38 v0 rfl rfl) h0 hsz (j := 0) (by rw [Try.params6]; rfl) rfl
  clear hA0 hval0
  refine (walk q0 n0 c0 g0 q1 n1 c1 g1 z1 z2 ⟨s0.1, s0.2.1, s0.2.2.1⟩ ⟨s1.1, s1.2.1, s1.2.2.1⟩ hby W s0.2.2.2 s1.2.2.2).mono fun e W' ⟨he, bel⟩ => ?_
  subst he
  exact ⟨_, rfl, _, _, _, [], _, [], hW', trodAll_mk1 (shut_bool Try.underlying4 _), (trodAll_cons_mk (Below.trod laidOut (by kernel_rfl) (of_decide_eq_true (by kernel_rfl)) k0 bel lt0) trodAll_mk0), rfl, bel.frame _, fun h => by cases h⟩

theorem over : Rows.wrapSpoiltRow.holds Try.pinned (OpenSpec.ofChange Rows.wrapSpoiltSpec) :=
  OpenClaim.holds_of_wide 6 Try.f6 rfl rfl rfl rfl rfl rfl rfl ⟨rfl, rfl, rfl, rfl, rfl⟩ rfl rfl rfl rfl rfl (by kernel_rfl) Try.func6 (by kernel_rfl)
    (of_decide_eq_true (by kernel_rfl)) (by unfold Func.isWrapper; first | (rw [if_pos (by decide +kernel)]; kernel_rfl) | (rw [if_neg (by decide +kernel)]; exact ⟨rfl, rfl⟩))
    (fun os started H enc _ => lifted os started H enc)

theorem proved : Rows.WrapSpoiltSaid := over
end Go.Proofs.Ytleoljdhaeoepaa.wrapSpoilt
