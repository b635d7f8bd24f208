/- The contract of citadelnum's Apart for one to three slices of bytes: none shares memory with another. Conditions: rows of no more than 2^47 - 4096 bytes, each in a block of its own or nil, with any room. -/
import Derived.Test.YtebbnkkhabehmaaApartN
import Derived.Lib.AppendZeros
namespace Go.Proofs.Ytebbnkkhabehmaa.apart
open Go.ChangeShapes Go.WideShapes Go.ChangeAt Go.RowKit
set_option linter.unusedVariables false

section
variable {o : Oper} {a : Act} {C : World → Prop} {K : Act → Prop}
theorem gives_lie (t : TypeId) (x : Operand) (ho : o.op = .load t x) (p : Addr) (v : Value) (hx : a.eval x = .pointer (some p)) (hu : ∀ w, (isAgg t).run Try.prog w = .ok false w) (hB : ∀ w, C w → w.cell? p = some v) (hk : K (a.put o.dst v)) : ∃ v, Gives Try.prog C o a v ∧ K (a.put o.dst v) :=
  ⟨_, fun w hw => by
    have hc := hB w hw
    unfold execOp
    simp only [ho, hx]
    simp [go_sem, hc, hu], hk⟩
theorem box_byte (w : World) : (isAgg 5).run Try.prog w = .ok false w := by simp [go_sem]
theorem box_bytes (w : World) : (isAgg 22).run Try.prog w = .ok false w := by simp [go_sem]
theorem gives_nth (t e : TypeId) (x y : Operand) (ho : o.op = .indexAddr t x y) (ht : Try.prog.underlying t = some (.slice e)) (hi : (Try.prog.info? e).map (·.size) = some 1)
    (B n cap k : Nat) (hx : a.eval x = .slice (some ⟨B, 0, none⟩) n cap) (hy : a.eval y = .int .i64 k) (hk4 : k < n) (hk : K (a.put o.dst (.pointer (some ⟨B, k, none⟩)))) : ∃ v, Gives Try.prog C o a v ∧ K (a.put o.dst v) :=
  ⟨_, fun w _ => by
    have h0 : (k : Int) < n := by omega
    cases hq : Try.prog.info? e with
    | none => simp [hq] at hi
    | some i =>
      have hs : i.size = 1 := by simpa [hq] using hi
      unfold execOp
      simp only [ho, hx, hy]
      simp [go_sem, ht, h0, sizeOf, typeInfo, hq, hs, Addr.add]
      exact fun h => h.symm, hk⟩
theorem gives_times (x y : Operand) (ho : o.op = .binOp .mul 3 x y 3) (i j r : Int) (hx : a.eval x = .int .i64 i) (hy : a.eval y = .int .i64 j) (h : IntKind.i64.wrap (i * j) = r) (hk : K (a.put o.dst (.int .i64 r))) : ∃ v, Gives Try.prog C o a v ∧ K (a.put o.dst v) :=
  ⟨_, fun w _ => by unfold execOp; simp only [ho, hx, hy]; simp [go_sem, h], hk⟩
theorem gives_int_add (x y : Operand) (ho : o.op = .binOp .add 3 x y 3) (i j r : Int) (hx : a.eval x = .int .i64 i) (hy : a.eval y = .int .i64 j) (h : IntKind.i64.wrap (i + j) = r) (hk : K (a.put o.dst (.int .i64 r))) : ∃ v, Gives Try.prog C o a v ∧ K (a.put o.dst v) :=
  ⟨_, fun w _ => by unfold execOp; simp only [ho, hx, hy]; simp [go_sem, h], hk⟩
theorem gives_below (x y : Operand) (ho : o.op = .binOp .lss 3 x y 3) (i j : Int) (r : Bool) (hx : a.eval x = .int .i64 i) (hy : a.eval y = .int .i64 j) (h : decide (i < j) = r) (hk : K (a.put o.dst (.bool r))) : ∃ v, Gives Try.prog C o a v ∧ K (a.put o.dst v) :=
  ⟨_, fun w _ => by unfold execOp; simp only [ho, hx, hy]; simp [go_sem, h], hk⟩
theorem gives_to_byte (x : Operand) (ho : o.op = .convert 3 5 x) (z r : Int) (hx : a.eval x = .int .i64 z) (h : IntKind.u8.wrap z = r) (hk : K (a.put o.dst (.int .u8 r))) : ∃ v, Gives Try.prog C o a v ∧ K (a.put o.dst v) :=
  ⟨_, fun w _ => by
    have e : (convert 3 5 (.int .i64 z)).run Try.prog w = .ok (.int .u8 r) w := by subst h; simp [go_sem]
    unfold execOp
    simp only [ho, hx, Sem.run_bind, e]
    simp, hk⟩
theorem gives_u8_neq (x y : Operand) (ho : o.op = .binOp .neq 5 x y 5) (b c : Int) (r : Bool) (hx : a.eval x = .int .u8 b) (hy : a.eval y = .int .u8 c) (h : (b != c) = r) (hk : K (a.put o.dst (.bool r))) : ∃ v, Gives Try.prog C o a v ∧ K (a.put o.dst v) :=
  ⟨_, fun w _ => by
    unfold execOp
    simp only [ho, hx, hy]
    simp [go_sem, ← h], hk⟩
theorem gives_pick_yes (c x y : Operand) (ho : o.op = .pick c x y) (hc : a.eval c = .bool true) (v : Value) (hx : a.eval x = v) (hk : K (a.put o.dst v)) : ∃ v, Gives Try.prog C o a v ∧ K (a.put o.dst v) :=
  ⟨_, fun w _ => by
    unfold execOp
    simp only [ho, hc, hx]
    simp [go_sem], hk⟩
theorem gives_pick_no (c x y : Operand) (ho : o.op = .pick c x y) (hc : a.eval c = .bool false) (v : Value) (hy : a.eval y = v) (hk : K (a.put o.dst v)) : ∃ v, Gives Try.prog C o a v ∧ K (a.put o.dst v) :=
  ⟨_, fun w _ => by
    unfold execOp
    simp only [ho, hc, hy]
    simp [go_sem], hk⟩
theorem gives_len (x : Operand) (ho : o.op = .call { callee := .builtin .len, args := #[x], argTypes := #[22] }) (p : Option Addr) (n cap : Nat) (hx : a.eval x = .slice p n cap) (hk : K (a.put o.dst (.int .i64 n))) : ∃ v, Gives Try.prog C o a v ∧ K (a.put o.dst v) := by
  refine ⟨.int .i64 n, fun w _ => ?_, hk⟩
  unfold execOp
  simp only [ho]
  cases x with
  | tmp j => simp only [Act.eval] at hx; simp [go_sem]; simp_all [go_sem]
  | const v => have hx' : v = .slice p n cap := hx; simp [go_sem, hx']
  | global j => cases hx
  | func j => cases hx
end
theorem walk_idle {P : Program} {ops : Array Oper} {C : World → Prop} {R : Act → World → Prop} {i : Nat} {l : List (Nat × Bool)} {a : Act} {w : World} {o : Oper} (hi : ops[i]? = some o) (hw : Region.wanted o (yielded ops a.tmps) = false) (h : walkS P ops C R l (a.put o.dst undef) w) : walkS P ops C R ((i, true) :: l) a w :=
  ⟨o, undef, hi, .inr ⟨hw, rfl⟩, h⟩
attribute [local irreducible] patK hA pF Lists.p

set_option maxRecDepth 100000 in
set_option maxHeartbeats 4000000 in
theorem Apart_cap (L : Lists) (cp : Nat) (T LB : Nat) (LS : Array Value) (f : Nat → Nat → Nat) (w : World) (ok : L.Ok T w.heap.size LB LS) (hL : w.heap[LB]? = some (.cells LS 22 (0, 0))) (hR : ∀ i, i < L.K → L.nl i = false → IntBlk w (L.D i) .u8 5 (mk (L.R i) (f i))) :
    Calls Try.prog 15 #[.slice (some ⟨LB, 0, none⟩) L.K cp] w fun e w' => e = .returned (.bool true) ∧ Below T w w' := by
  have A0 : StA L T LB LS f w 0 0 w := ⟨hL, fun i hi hn => by rw [hA_zero]; exact hR i hi hn, Below.refl _ _, rfl⟩
  have HA0 := Lib.hid A0
  have OK := Lib.hid ok
  have hK3 := ok.k3
  clear A0 hL hR ok
  go_enter Try.func15, Try.ntmps15
  go_wp2
  go_loopw [15] (fun v wr => ∃ k : Nat, k ≤ L.K ∧ v = .int .i64 k ∧ StA L T LB LS f w k 0 wr) (fun v _ => L.K - (intOf v).toNat)
  case atStart => exact ⟨0, by omega, rfl, HA0.out⟩
  case round =>
    clear HA0
    obtain ⟨k, hk, rfl, hs⟩ := hrel
    by_cases h2 : k < L.K
    · have e1 : (k : Int) < (L.K : Int) := by omega
      have lc := heap_cell hs.1 (OK.out.list k h2)
      unfold Lists.v at lc
      have hlen := (OK.out.len k h2).2.2
      have HS := Lib.hid hs
      clear hs
      cases hnl : L.nl k with
      | true =>
        rw [Lists.p_nil hnl, (OK.out.none k h2 hnl).1, (OK.out.none k h2 hnl).2] at lc
        go_wp2
        go_loopw [22] (fun v wi => v = .int .i64 0 ∧ StA L T LB LS f w k 0 wi) (fun v _ => 0)
        case atStart => exact ⟨rfl, HS.out⟩
        case round =>
          clear HS lc
          obtain ⟨rfl, hs⟩ := hrel
          have HS := Lib.hid hs
          clear hs
          have h0 := (OK.out.none k h2 hnl).1
          go_wp2
          exact ⟨⟨k + 1, by omega, by go_num, HS.out.1, fun i hi hn => by have := HS.out.2.1 i hi hn; rw [← h0, hA_next] at this; exact this, HS.out.2.2⟩, by simp [intOf]; omega⟩
      | false =>
        rw [Lists.p_of hnl] at lc
        go_wp2
        go_loopw [22] (fun v wi => ∃ j : Nat, j ≤ L.N k ∧ v = .int .i64 j ∧ StA L T LB LS f w k j wi) (fun v _ => L.N k - (intOf v).toNat)
        case atStart => exact ⟨0, by omega, rfl, HS.out⟩
        case round =>
          clear HS lc
          obtain ⟨j, hj, rfl, hs⟩ := hrel
          by_cases hjn : j < L.N k
          · have e2 : (j : Int) < (L.N k : Int) := by omega
            have fs := (hs.2.1 k h2 hnl).free j
            have cs := (hs.2.1 k h2 hnl).cell (i := j) (by rw [mk_len]; have := (OK.out.len k h2).1; have := OK.out.room k h2; omega)
            have q1 := patK_is k j
            have HS := Lib.hid hs
            clear hs
            go_wp2
            exact ⟨⟨j + 1, by omega, by go_num, HS.out.step OK.out h2 hnl _ rfl⟩, by simp [intOf]; omega⟩
          · have e2 : j = L.N k := by omega
            have e3 : ¬ (j : Int) < (L.N k : Int) := by omega
            have HS := Lib.hid hs
            clear hs
            go_wp2
            exact ⟨⟨k + 1, by omega, by go_num, HS.out.1, fun i hi hn => by have := HS.out.2.1 i hi hn; rw [e2, hA_next] at this; exact this, HS.out.2.2⟩, by simp [intOf]; omega⟩
    · have e2 : k = L.K := by omega
      have e1 : ¬ (k : Int) < (L.K : Int) := by omega
      rw [e2] at hs
      have B0 := StB.start OK.out rfl hs
      have HB0 := Lib.hid B0
      clear hs B0 e2
      go_wp2
      go_loopw [6, 40] (fun v6 v40 wr => ∃ k : Nat, k ≤ L.K ∧ v40 = .int .i64 k ∧ StB L T w.heap.size LB LS f w k v6 wr) (fun _ v _ => L.K - (intOf v).toNat)
      case atStart => exact ⟨0, by omega, rfl, HB0.out⟩
      case round =>
        clear HB0
        obtain ⟨k, hk, rfl, hs⟩ := hrel
        by_cases h2 : k < L.K
        · have e1 : (k : Int) < (L.K : Int) := by omega
          have lc : wr.cell? ⟨LB, k, none⟩ = some (.slice (L.p k) (L.N k) (L.C k)) := heap_cell hs.1 (OK.out.list k h2)
          have hlen := (OK.out.len k h2).2.2
          have HB := Lib.hid hs
          have I0 := Lib.hid (StBi.start OK.out h2 (f := f) (V := wr) (fun hn => by obtain ⟨M, _, m2, m3⟩ := hs.2.2.2.1 k h2 hn; rw [m2 (Nat.le_refl _)] at m3; exact m3))
          have HDV : Hid (L.nl k = false → L.D k < wr.heap.size) := Lib.hid (fun hn => Nat.lt_of_lt_of_le (OK.out.low k h2 hn).2 hs.2.2.1)
          clear hs
          go_wp2
          clear lc
          generalize wr = Vk at *
          go_loopw [8] (fun v8 wi => ∃ j : Nat, j ≤ 10 ∧ StBi L f k Vk j v8 wi) (fun v8 _ => L.N k + 10 - lenV v8)
          case atStart => exact ⟨0, by omega, I0.out⟩
          case round =>
            clear I0
            obtain ⟨j, hj, hbi⟩ := hrel
            obtain ⟨q, c, hv8⟩ := hbi.slice
            subst hv8
            have hq10 : IntKind.i64.wrap ((L.N k : Int) + 10) = (L.N k : Int) + 10 := IntWalk.i64_in _ (by omega)
            by_cases h10 : j < 10
            · have e2 : ((L.N k + j : Nat) : Int) < (L.N k : Int) + 10 := by omega
              have hM1 : L.N k + j ≤ 140737488351300 := by omega
              obtain ⟨M, hMj⟩ : ∃ M, L.N k + j = M := ⟨_, rfl⟩
              have q1 := patK_is k M
              have hpk := patK_lt k M
              obtain ⟨pk, hpp⟩ : ∃ pk, patK k M = pk := ⟨_, rfl⟩
              obtain ⟨v9, w9, hr9, hs9⟩ := StBi.append OK.out h2 HDV.out hbi h10 pk (by rw [hMj]; exact hpp) 22
              obtain ⟨q9, c9, hv9⟩ := hs9.slice
              subst hv9
              rw [hMj] at hr9 e2 hM1 ⊢
              rw [hpp] at q1 hpk
              have hM9 : L.N k + (j + 1) = M + 1 := by omega
              have HS9 := Lib.hid hs9; have HMJ := Lib.hid hMj
              rw [hM9] at HS9 hr9
              have HR9 := Lib.hid hr9
              clear hs9 hr9 hbi hpp hMj hM9 hlen
              go_wp2_with (first
                | (refine Lib.wpList_append_run _ rfl _ _ _ _ rfl _ _ rfl rfl _ _ HR9.out ?_))
              refine ⟨⟨j + 1, by omega, HS9.out⟩, ?_⟩
              have := HMJ.out
              show L.N k + 10 - (M + 1) < L.N k + 10 - M
              omega
            · have e2 : ¬ ((L.N k + j : Nat) : Int) < (L.N k : Int) + 10 := by omega
              have e3 : j = 10 := by omega
              rw [e3] at hbi
              obtain ⟨v9, w9, hr9, hs9⟩ := StB.next OK.out HB.out h2 hbi 37
              rw [← e3] at hr9
              obtain ⟨M, hMj⟩ : ∃ M, L.N k + j = M := ⟨_, rfl⟩
              rw [hMj] at hr9 e2 ⊢
              have HR9 := Lib.hid hr9; have HS9 := Lib.hid hs9
              clear hr9 hs9 hbi HB hMj e3 hlen
              go_wp2_with (first
                | (refine Lib.wpList_append_run _ rfl _ _ _ _ rfl _ _ rfl rfl _ _ HR9.out ?_))
              exact ⟨⟨k + 1, by omega, by go_num, HS9.out⟩, by simp [intOf]; omega⟩
        · have e3 : k = L.K := by omega
          have e1 : ¬ (k : Int) < (L.K : Int) := by omega
          rw [e3] at hs
          obtain ⟨g0, c0, Bk, ck, rfl, hgc, hBk, hL2, hD2, hTw, hTs⟩ := StB.done OK.out hs
          have HL2 := Lib.hid hL2; have HD2 := Lib.hid hD2; have HTW := Lib.hid hTw; have HBk := Lib.hid hBk; have HGC := Lib.hid hgc
          clear hL2 hD2 hTw hBk hgc hs e3
          go_wp2
          generalize wr = V at *
          go_loopw [70] (fun v wr => ∃ k : Nat, k ≤ L.K ∧ v = .int .i64 k ∧ Below V.heap.size V wr) (fun v _ => L.K - (intOf v).toNat)
          case atStart => exact ⟨0, by omega, rfl, Below.refl _ _⟩
          case round =>
            obtain ⟨k, hk, rfl, hb⟩ := hrel
            by_cases h2 : k < L.K
            · have e1 : (k : Int) < (L.K : Int) := by omega
              have lc : wr.cell? ⟨g0, k, none⟩ = some (.slice (some ⟨Bk k, 0, none⟩) (L.N k + 10) (ck k)) := (hb.cell (p := ⟨g0, k, none⟩) (block_lt_of_cell (HGC.out k h2))).trans (HGC.out k h2)
              have hlen := (OK.out.len k h2).2.2
              have HB := Lib.hid hb
              clear hb
              go_wp2
              go_loopw [77] (fun v wi => ∃ j : Nat, j ≤ L.N k + 10 ∧ v = .int .i64 j ∧ Below V.heap.size V wi) (fun v _ => L.N k + 10 - (intOf v).toNat)
              case atStart => exact ⟨0, by omega, rfl, HB.out⟩
              case round =>
                clear HB lc
                obtain ⟨j, hj, rfl, hb⟩ := hrel
                by_cases hjn : j < L.N k + 10
                · have e4 : (j : Int) < (L.N k : Int) + 10 := by omega
                  have e5 : (j : Int) < ((L.N k + 10 : Nat) : Int) := by omega
                  have HB := Lib.hid hb
                  clear hb
                  have hq : IntKind.u8.wrap (29 * (k : Int) + 5 * (j : Int) + 3) = (patK k j : Nat) := by rw [IntKind.wrap_u8']; exact patK_is k j
                  have HQ := Lib.hid hq
                  clear hq
                  go_wp2
                  by_cases hjN : j < L.N k
                  · have hdN : decide ((j : Int) < (L.N k : Int)) = true := by simp; omega
                    have hnl : L.nl k = false := by
                      cases h : L.nl k with
                      | false => rfl
                      | true => exact absurd (OK.out.none k h2 h).1 (by omega)
                    have hL2k : V.cell? ⟨LB, k, none⟩ = some (.slice (some ⟨L.D k, 0, none⟩) (L.N k) (L.C k)) := by rw [← Lists.p_of hnl]; exact HL2.out k h2
                    have HLK := Lib.hid hL2k
                    have HDK := Lib.hid (HD2.out k h2 hnl)
                    have c0 : Below wr.heap.size wr wr.drew := (Below.refl _ wr).drew
                    clear hL2k
                    refine wp_region_sched [(0, true), (1, true), (2, true), (3, true), (4, true), (5, true), (6, true), (7, true), (8, true), (9, true), (10, true), (11, true), (12, true), (13, true), (14, true), (15, true), (16, true), (17, true), (18, true), (19, true), (20, true), (21, true), (22, true), (23, true), (24, true), (25, true), (26, true), (27, true), (28, true), (29, true), (30, true), (31, true), (32, true), (33, true), (34, true)] (fun W => Below wr.heap.size wr W) (by kernel_rfl) (by kernel_rfl) c0 ?_
                    refine walk_float rfl rfl (fun K' hK' => ?_)
                    refine gives_move _ rfl ?_
                    go_simp
                    refine hK' _ ?_
                    clear hK' K'
                    refine walk_float rfl rfl (fun K' hK' => ?_)
                    refine gives_move _ rfl ?_
                    go_simp
                    refine hK' _ ?_
                    clear hK' K'
                    refine walk_float rfl rfl (fun K' hK' => ?_)
                    refine gives_nth 22 5 _ _ rfl bytesUnder byteInfo (Bk k) (L.N k + 10) (ck k) j rfl rfl hjn ?_
                    go_simp
                    refine hK' _ ?_
                    clear hK' K'
                    refine walk_float rfl rfl (fun K' hK' => ?_)
                    refine gives_lie 5 _ rfl ⟨Bk k, j, none⟩ (.int .u8 (patK k j : Nat)) rfl box_byte (fun W h => (h.cell (p := ⟨Bk k, j, none⟩) (by show Bk k < wr.heap.size; exact Nat.lt_of_lt_of_le (block_lt_of_cell ((HBk.out k h2).cell hjn)) HB.out.size)).trans ((HB.out.cell (p := ⟨Bk k, j, none⟩) (block_lt_of_cell ((HBk.out k h2).cell hjn))).trans ((HBk.out k h2).cell hjn))) ?_
                    go_simp
                    refine hK' _ ?_
                    clear hK' K'
                    refine walk_float rfl rfl (fun K' hK' => ?_)
                    refine gives_move _ rfl ?_
                    go_simp
                    refine hK' _ ?_
                    clear hK' K'
                    refine walk_float rfl rfl (fun K' hK' => ?_)
                    refine gives_times _ _ rfl 29 k (29 * (k : Int)) rfl rfl (IntWalk.i64_in _ (by omega)) ?_
                    go_simp
                    refine hK' _ ?_
                    clear hK' K'
                    refine walk_float rfl rfl (fun K' hK' => ?_)
                    refine gives_move _ rfl ?_
                    go_simp
                    refine hK' _ ?_
                    clear hK' K'
                    refine walk_float rfl rfl (fun K' hK' => ?_)
                    refine gives_times _ _ rfl 5 j (5 * (j : Int)) rfl rfl (IntWalk.i64_in _ (by omega)) ?_
                    go_simp
                    refine hK' _ ?_
                    clear hK' K'
                    refine walk_float rfl rfl (fun K' hK' => ?_)
                    refine gives_int_add _ _ rfl (29 * (k : Int)) (5 * (j : Int)) (29 * (k : Int) + 5 * (j : Int)) rfl rfl (IntWalk.i64_in _ (by omega)) ?_
                    go_simp
                    refine hK' _ ?_
                    clear hK' K'
                    refine walk_float rfl rfl (fun K' hK' => ?_)
                    refine gives_int_add _ _ rfl (29 * (k : Int) + 5 * (j : Int)) 3 (29 * (k : Int) + 5 * (j : Int) + 3) rfl rfl (IntWalk.i64_in _ (by omega)) ?_
                    go_simp
                    refine hK' _ ?_
                    clear hK' K'
                    refine walk_float rfl rfl (fun K' hK' => ?_)
                    refine gives_to_byte _ rfl (29 * (k : Int) + 5 * (j : Int) + 3) (patK k j : Nat) rfl HQ.out ?_
                    go_simp
                    refine hK' _ ?_
                    clear hK' K'
                    refine walk_float rfl rfl (fun K' hK' => ?_)
                    refine gives_u8_neq _ _ rfl (patK k j : Nat) (patK k j : Nat) false rfl rfl (by simp) ?_
                    go_simp
                    refine hK' _ ?_
                    clear hK' K'
                    refine walk_float rfl rfl (fun K' hK' => ?_)
                    refine gives_move _ rfl ?_
                    go_simp
                    refine hK' _ ?_
                    clear hK' K'
                    refine walk_float rfl rfl (fun K' hK' => ?_)
                    refine gives_move _ rfl ?_
                    go_simp
                    refine hK' _ ?_
                    clear hK' K'
                    refine walk_float rfl rfl (fun K' hK' => ?_)
                    refine gives_move _ rfl ?_
                    go_simp
                    refine hK' _ ?_
                    clear hK' K'
                    refine walk_float rfl rfl (fun K' hK' => ?_)
                    refine gives_move _ rfl ?_
                    go_simp
                    refine hK' _ ?_
                    clear hK' K'
                    refine walk_float rfl rfl (fun K' hK' => ?_)
                    refine gives_nth 37 22 _ _ rfl Try.underlying37 listInfo LB L.K cp k rfl rfl h2 ?_
                    go_simp
                    refine hK' _ ?_
                    clear hK' K'
                    refine walk_float rfl rfl (fun K' hK' => ?_)
                    refine gives_lie 22 _ rfl ⟨LB, k, none⟩ (.slice (some ⟨L.D k, 0, none⟩) (L.N k) (L.C k)) rfl box_bytes (fun W h => (h.cell (p := ⟨LB, k, none⟩) (by show LB < wr.heap.size; exact Nat.lt_of_lt_of_le (block_lt_of_cell (HLK.out)) HB.out.size)).trans ((HB.out.cell (p := ⟨LB, k, none⟩) (block_lt_of_cell (HLK.out))).trans (HLK.out))) ?_
                    go_simp
                    refine hK' _ ?_
                    clear hK' K'
                    refine walk_float rfl rfl (fun K' hK' => ?_)
                    refine gives_len _ rfl (some ⟨L.D k, 0, none⟩) (L.N k) (L.C k) rfl ?_
                    go_simp
                    refine hK' _ ?_
                    clear hK' K'
                    refine walk_float rfl rfl (fun K' hK' => ?_)
                    refine gives_below _ _ rfl j (L.N k) true rfl rfl hdN ?_
                    go_simp
                    refine hK' _ ?_
                    clear hK' K'
                    refine walk_float rfl rfl (fun K' hK' => ?_)
                    refine gives_move _ rfl ?_
                    go_simp
                    refine hK' _ ?_
                    clear hK' K'
                    refine walk_float rfl rfl (fun K' hK' => ?_)
                    refine gives_move _ rfl ?_
                    go_simp
                    refine hK' _ ?_
                    clear hK' K'
                    refine walk_float rfl rfl (fun K' hK' => ?_)
                    refine gives_move _ rfl ?_
                    go_simp
                    refine hK' _ ?_
                    clear hK' K'
                    refine walk_float rfl rfl (fun K' hK' => ?_)
                    refine gives_nth 37 22 _ _ rfl Try.underlying37 listInfo LB L.K cp k rfl rfl h2 ?_
                    go_simp
                    refine hK' _ ?_
                    clear hK' K'
                    refine walk_float rfl rfl (fun K' hK' => ?_)
                    refine gives_lie 22 _ rfl ⟨LB, k, none⟩ (.slice (some ⟨L.D k, 0, none⟩) (L.N k) (L.C k)) rfl box_bytes (fun W h => (h.cell (p := ⟨LB, k, none⟩) (by show LB < wr.heap.size; exact Nat.lt_of_lt_of_le (block_lt_of_cell (HLK.out)) HB.out.size)).trans ((HB.out.cell (p := ⟨LB, k, none⟩) (block_lt_of_cell (HLK.out))).trans (HLK.out))) ?_
                    go_simp
                    refine hK' _ ?_
                    clear hK' K'
                    refine walk_float rfl rfl (fun K' hK' => ?_)
                    refine gives_move _ rfl ?_
                    go_simp
                    refine hK' _ ?_
                    clear hK' K'
                    refine walk_float rfl rfl (fun K' hK' => ?_)
                    refine gives_nth 22 5 _ _ rfl bytesUnder byteInfo (L.D k) (L.N k) (L.C k) j rfl rfl hjN ?_
                    go_simp
                    refine hK' _ ?_
                    clear hK' K'
                    refine walk_float rfl rfl (fun K' hK' => ?_)
                    refine gives_lie 5 _ rfl ⟨L.D k, j, none⟩ (.int .u8 (patK k j : Nat)) rfl box_byte (fun W h => (h.cell (p := ⟨L.D k, j, none⟩) (by show L.D k < wr.heap.size; exact Nat.lt_of_lt_of_le (block_lt_of_cell (HDK.out.cell hjN)) HB.out.size)).trans ((HB.out.cell (p := ⟨L.D k, j, none⟩) (block_lt_of_cell (HDK.out.cell hjN))).trans (HDK.out.cell hjN))) ?_
                    go_simp
                    refine hK' _ ?_
                    clear hK' K'
                    refine walk_float rfl rfl (fun K' hK' => ?_)
                    refine gives_move _ rfl ?_
                    go_simp
                    refine hK' _ ?_
                    clear hK' K'
                    refine walk_float rfl rfl (fun K' hK' => ?_)
                    refine gives_move _ rfl ?_
                    go_simp
                    refine hK' _ ?_
                    clear hK' K'
                    refine walk_float rfl rfl (fun K' hK' => ?_)
                    refine gives_nth 22 5 _ _ rfl bytesUnder byteInfo (Bk k) (L.N k + 10) (ck k) j rfl rfl hjn ?_
                    go_simp
                    refine hK' _ ?_
                    clear hK' K'
                    refine walk_float rfl rfl (fun K' hK' => ?_)
                    refine gives_lie 5 _ rfl ⟨Bk k, j, none⟩ (.int .u8 (patK k j : Nat)) rfl box_byte (fun W h => (h.cell (p := ⟨Bk k, j, none⟩) (by show Bk k < wr.heap.size; exact Nat.lt_of_lt_of_le (block_lt_of_cell ((HBk.out k h2).cell hjn)) HB.out.size)).trans ((HB.out.cell (p := ⟨Bk k, j, none⟩) (block_lt_of_cell ((HBk.out k h2).cell hjn))).trans ((HBk.out k h2).cell hjn))) ?_
                    go_simp
                    refine hK' _ ?_
                    clear hK' K'
                    refine walk_float rfl rfl (fun K' hK' => ?_)
                    refine gives_u8_neq _ _ rfl (patK k j : Nat) (patK k j : Nat) false rfl rfl (by simp) ?_
                    go_simp
                    refine hK' _ ?_
                    clear hK' K'
                    refine walk_float rfl rfl (fun K' hK' => ?_)
                    refine gives_pick_yes _ _ _ rfl rfl (.bool false) rfl ?_
                    go_simp
                    refine hK' _ ?_
                    clear hK' K'
                    refine walk_float rfl rfl (fun K' hK' => ?_)
                    refine gives_pick_no _ _ _ rfl rfl (.bool false) rfl ?_
                    go_simp
                    refine hK' _ ?_
                    clear hK' K'
                    refine walk_nil ?_
                    go_wp2
                    exact ⟨⟨j + 1, by omega, by go_num, HB.out.trans (c0.mono HB.out.size)⟩, by simp [intOf]; omega⟩
                  · have hdN : decide ((j : Int) < (L.N k : Int)) = false := by simp; omega
                    have c0 : Below wr.heap.size wr wr.drew := (Below.refl _ wr).drew
                    refine wp_region_sched [(0, true), (1, true), (2, true), (3, true), (4, true), (5, true), (6, true), (7, true), (8, true), (9, true), (10, true), (11, true), (12, true), (13, true), (14, true), (15, true), (16, true), (17, true), (18, true), (19, true), (20, true), (21, true), (22, true), (23, true), (24, true), (25, true), (26, true), (27, true), (28, true), (29, true), (30, true), (31, true), (32, true), (33, true), (34, true)] (fun W => Below wr.heap.size wr W) (by kernel_rfl) (by kernel_rfl) c0 ?_
                    refine walk_float rfl rfl (fun K' hK' => ?_)
                    refine gives_move _ rfl ?_
                    go_simp
                    refine hK' _ ?_
                    clear hK' K'
                    refine walk_float rfl rfl (fun K' hK' => ?_)
                    refine gives_move _ rfl ?_
                    go_simp
                    refine hK' _ ?_
                    clear hK' K'
                    refine walk_float rfl rfl (fun K' hK' => ?_)
                    refine gives_nth 22 5 _ _ rfl bytesUnder byteInfo (Bk k) (L.N k + 10) (ck k) j rfl rfl hjn ?_
                    go_simp
                    refine hK' _ ?_
                    clear hK' K'
                    refine walk_float rfl rfl (fun K' hK' => ?_)
                    refine gives_lie 5 _ rfl ⟨Bk k, j, none⟩ (.int .u8 (patK k j : Nat)) rfl box_byte (fun W h => (h.cell (p := ⟨Bk k, j, none⟩) (by show Bk k < wr.heap.size; exact Nat.lt_of_lt_of_le (block_lt_of_cell ((HBk.out k h2).cell hjn)) HB.out.size)).trans ((HB.out.cell (p := ⟨Bk k, j, none⟩) (block_lt_of_cell ((HBk.out k h2).cell hjn))).trans ((HBk.out k h2).cell hjn))) ?_
                    go_simp
                    refine hK' _ ?_
                    clear hK' K'
                    refine walk_float rfl rfl (fun K' hK' => ?_)
                    refine gives_move _ rfl ?_
                    go_simp
                    refine hK' _ ?_
                    clear hK' K'
                    refine walk_float rfl rfl (fun K' hK' => ?_)
                    refine gives_times _ _ rfl 29 k (29 * (k : Int)) rfl rfl (IntWalk.i64_in _ (by omega)) ?_
                    go_simp
                    refine hK' _ ?_
                    clear hK' K'
                    refine walk_float rfl rfl (fun K' hK' => ?_)
                    refine gives_move _ rfl ?_
                    go_simp
                    refine hK' _ ?_
                    clear hK' K'
                    refine walk_float rfl rfl (fun K' hK' => ?_)
                    refine gives_times _ _ rfl 5 j (5 * (j : Int)) rfl rfl (IntWalk.i64_in _ (by omega)) ?_
                    go_simp
                    refine hK' _ ?_
                    clear hK' K'
                    refine walk_float rfl rfl (fun K' hK' => ?_)
                    refine gives_int_add _ _ rfl (29 * (k : Int)) (5 * (j : Int)) (29 * (k : Int) + 5 * (j : Int)) rfl rfl (IntWalk.i64_in _ (by omega)) ?_
                    go_simp
                    refine hK' _ ?_
                    clear hK' K'
                    refine walk_float rfl rfl (fun K' hK' => ?_)
                    refine gives_int_add _ _ rfl (29 * (k : Int) + 5 * (j : Int)) 3 (29 * (k : Int) + 5 * (j : Int) + 3) rfl rfl (IntWalk.i64_in _ (by omega)) ?_
                    go_simp
                    refine hK' _ ?_
                    clear hK' K'
                    refine walk_float rfl rfl (fun K' hK' => ?_)
                    refine gives_to_byte _ rfl (29 * (k : Int) + 5 * (j : Int) + 3) (patK k j : Nat) rfl HQ.out ?_
                    go_simp
                    refine hK' _ ?_
                    clear hK' K'
                    refine walk_float rfl rfl (fun K' hK' => ?_)
                    refine gives_u8_neq _ _ rfl (patK k j : Nat) (patK k j : Nat) false rfl rfl (by simp) ?_
                    go_simp
                    refine hK' _ ?_
                    clear hK' K'
                    refine walk_float rfl rfl (fun K' hK' => ?_)
                    refine gives_move _ rfl ?_
                    go_simp
                    refine hK' _ ?_
                    clear hK' K'
                    refine walk_float rfl rfl (fun K' hK' => ?_)
                    refine gives_move _ rfl ?_
                    go_simp
                    refine hK' _ ?_
                    clear hK' K'
                    refine walk_float rfl rfl (fun K' hK' => ?_)
                    refine gives_move _ rfl ?_
                    go_simp
                    refine hK' _ ?_
                    clear hK' K'
                    refine walk_float rfl rfl (fun K' hK' => ?_)
                    refine gives_move _ rfl ?_
                    go_simp
                    refine hK' _ ?_
                    clear hK' K'
                    refine walk_float rfl rfl (fun K' hK' => ?_)
                    refine gives_nth 37 22 _ _ rfl Try.underlying37 listInfo LB L.K cp k rfl rfl h2 ?_
                    go_simp
                    refine hK' _ ?_
                    clear hK' K'
                    refine walk_float rfl rfl (fun K' hK' => ?_)
                    refine gives_lie 22 _ rfl ⟨LB, k, none⟩ (.slice (L.p k) (L.N k) (L.C k)) rfl box_bytes (fun W h => (h.cell (p := ⟨LB, k, none⟩) (by show LB < wr.heap.size; exact Nat.lt_of_lt_of_le (block_lt_of_cell (HL2.out k h2)) HB.out.size)).trans ((HB.out.cell (p := ⟨LB, k, none⟩) (block_lt_of_cell (HL2.out k h2))).trans (HL2.out k h2))) ?_
                    go_simp
                    refine hK' _ ?_
                    clear hK' K'
                    refine walk_float rfl rfl (fun K' hK' => ?_)
                    refine gives_len _ rfl (L.p k) (L.N k) (L.C k) rfl ?_
                    go_simp
                    refine hK' _ ?_
                    clear hK' K'
                    refine walk_float rfl rfl (fun K' hK' => ?_)
                    refine gives_below _ _ rfl j (L.N k) false rfl rfl hdN ?_
                    go_simp
                    refine hK' _ ?_
                    clear hK' K'
                    refine walk_float rfl rfl (fun K' hK' => ?_)
                    refine gives_move _ rfl ?_
                    go_simp
                    refine hK' _ ?_
                    clear hK' K'
                    refine walk_idle rfl rfl ?_
                    go_simp
                    refine walk_idle rfl rfl ?_
                    go_simp
                    refine walk_idle rfl rfl ?_
                    go_simp
                    refine walk_idle rfl rfl ?_
                    go_simp
                    refine walk_idle rfl rfl ?_
                    go_simp
                    refine walk_idle rfl rfl ?_
                    go_simp
                    refine walk_idle rfl rfl ?_
                    go_simp
                    refine walk_idle rfl rfl ?_
                    go_simp
                    refine walk_idle rfl rfl ?_
                    go_simp
                    refine walk_idle rfl rfl ?_
                    go_simp
                    refine walk_idle rfl rfl ?_
                    go_simp
                    refine walk_idle rfl rfl ?_
                    go_simp
                    refine walk_float rfl rfl (fun K' hK' => ?_)
                    refine gives_pick_no _ _ _ rfl rfl (.bool false) rfl ?_
                    go_simp
                    refine hK' _ ?_
                    clear hK' K'
                    refine walk_float rfl rfl (fun K' hK' => ?_)
                    refine gives_pick_no _ _ _ rfl rfl (.bool false) rfl ?_
                    go_simp
                    refine hK' _ ?_
                    clear hK' K'
                    refine walk_nil ?_
                    go_wp2
                    exact ⟨⟨j + 1, by omega, by go_num, HB.out.trans (c0.mono HB.out.size)⟩, by simp [intOf]; omega⟩
                · have e4 : ¬ (j : Int) < (L.N k : Int) + 10 := by omega
                  have e5 : ¬ (j : Int) < ((L.N k + 10 : Nat) : Int) := by omega
                  have HB := Lib.hid hb
                  clear hb
                  go_wp2
                  exact ⟨⟨k + 1, by omega, by go_num, HB.out⟩, by simp [intOf]; omega⟩
            · have e1 : ¬ (k : Int) < (L.K : Int) := by omega
              have HB := Lib.hid hb
              clear hb
              go_wp2
              go_ret
              exact ⟨rfl, HTW.out.trans (HB.out.mono hTs)⟩
theorem Apart_any (L : Lists) (T LB : Nat) (LS : Array Value) (f : Nat → Nat → Nat) (w : World) (ok : L.Ok T w.heap.size LB LS) (hL : w.heap[LB]? = some (.cells LS 22 (0, 0))) (hR : ∀ i, i < L.K → L.nl i = false → IntBlk w (L.D i) .u8 5 (mk (L.R i) (f i))) :
    Calls Try.prog 15 #[.slice (some ⟨LB, 0, none⟩) L.K L.K] w fun e w' => e = .returned (.bool true) ∧ Below T w w' := Apart_cap L L.K T LB LS f w ok hL hR
end Go.Proofs.Ytebbnkkhabehmaa.apart
