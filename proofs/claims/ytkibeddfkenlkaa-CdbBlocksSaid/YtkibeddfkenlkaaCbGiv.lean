/- The iterator that Blocks answers: it hands yield the blocks' numbers and their bytes. Conditions: its boxes and the bytes stand while the caller goes with it. -/
import Derived.Test.YtkibeddfkenlkaaCbBlk
import Derived.WalkMore
namespace Go.Proofs.Ytkibeddfkenlkaa
open Go.ChangeShapes Go.WideShapes Go.ChangeAt Go.RowKit Go.Shelf
set_option linter.unusedVariables false
set_option linter.unusedSimpArgs false
section
variable {F : Fence} {m : Nat} {ops : Array Oper} {rest : List Oper} {o : Oper} {a : Act} {w : World} {Q : Exit → Act → World → Prop}
theorem upon_wide {P : Program} {n : Nat} {K : Act → World → Prop} {r : Result Next} (h : o.upon P a K Q r) : o.uponIn Fence.wide n P a K Q r := by
  cases r with
  | ok x w' =>
    cases x with
    | value v => exact h
    | skip => exact h
    | defer d => exact h
    | enter f args => exact ⟨fun h => by simp [Fence.wide] at h, callsIn_wide.2 h⟩
    | row row args => exact ⟨fun h => by simp [Fence.wide] at h, fun c cs _ => let ⟨v, w'', r, s⟩ := h c cs; ⟨v, w'', r, stepsIn_wide.2 s⟩⟩
    | _ => exact h.elim
  | halt x w' => cases x <;> first | exact h | exact h.elim
theorem oper_wide {P : Program} {n : Nat} {K : Act → World → Prop} (hd : noDefer o = true) (h : o.wp P a w K Q) : o.wpIn Fence.wide n P a w K Q :=
  ⟨fun _ _ => trivial, by rw [Oper.semAt_eq _ _ _ (noDefer_spec hd)]; exact upon_wide h⟩
theorem wantW {a2 : Act} {w2 : World} (hF : F = Fence.wide) (hw : Region.wanted o (yielded ops a.tmps) = true) (hd : noDefer o = true) (h : ∀ K : Act → World → Prop, K a2 w2 → o.wp Try.prog a w K Q) (hk : wpListIn F m Try.prog ops Q rest a2 w2) : wpListIn F m Try.prog ops Q (o :: rest) a w := by
  subst hF
  exact wpListIn_step fun K hK => by rw [if_pos hw]; exact oper_wide hd (h K (hK _ _ hk))
end
section
variable {F : Fence} {m : Nat} {ops : Array Oper} {rest : List Oper} {o : Oper} {a : Act} {w : World} {Q : Exit → Act → World → Prop}
/-- An operation that only computes, under the wide fence. -/
theorem giveW (K2 : Act → Prop) (hF : F = Fence.wide) (hw : Region.wanted o (yielded ops a.tmps) = true) (hd : noDefer o = true) (h : ∃ v, Gives Try.prog (fun W => W = w) o a v ∧ K2 (a.put o.dst v)) (hk : ∀ a', K2 a' → wpListIn F m Try.prog ops Q rest a' w) : wpListIn F m Try.prog ops Q (o :: rest) a w := by
  obtain ⟨v, hv, h2⟩ := h
  exact wantW hF hw hd (fun K hK => by unfold Oper.wp; rw [hv w rfl]; exact hK) (hk _ h2)
end
section
variable {o : Oper} {a : Act} {C : World → Prop} {K : Act → Prop}
theorem gives_arrptr (x : Operand) (ho : o.op = .sliceToArrayPointer 56 x) (ad : Addr) (n c : Nat) (hx : a.eval x = .slice (some ad) n c) (hn : 128 ≤ n) (hk : K (a.put o.dst (.pointer (some ad)))) : ∃ v, Gives Try.prog C o a v ∧ K (a.put o.dst v) :=
  ⟨_, fun w _ => by
    have h0 : ¬ n < 128 := by omega
    have hr : (Instr.arrayAt 56 (.slice (some ad) n c)).run Try.prog w = .ok (.pointer (some ad)) w := by
      simp [Instr.arrayAt, run_underlying secUnder, h0]
    unfold execOp
    simp only [ho, hx]
    simp [hr], hk⟩
theorem gives_sec_mid (x : Operand) (ho : o.op = .load 56 x) (B off : Nat) (f : Nat → Nat) (hx : a.eval x = .pointer (some ⟨B, off, none⟩)) (hc : ∀ V, C V → V.rangeAt B off (cellsOf .u8 (mk 128 f)).toList) (hk : K (a.put o.dst (.agg (cellsOf .u8 (mk 128 f))))) : ∃ v, Gives Try.prog C o a v ∧ K (a.put o.dst v) := by
  refine ⟨_, fun w hw => ?_, hk⟩
  have hl : (loadVar 56 ⟨B, off, none⟩).run Try.prog w = .ok (.agg (cellsOf .u8 (mk 128 f)).toList.toArray) w :=
    run_loadVar_mid w B off 56 (cellsOf .u8 (mk 128 f)).toList _ (hc w hw) secUnder rfl (by rw [Array.length_toList]; exact secSize f)
  rw [Array.toArray_toList] at hl
  unfold execOp
  simp only [ho, hx, Instr.loadAt, Instr.sureAddr, Sem.run_bind, Sem.run_pure, Result.andThen_ok, hl]
theorem gives_rest (x y : Operand) (ho : o.op = .slice 22 x (some y) none none) (D off n k : Nat) (hx : a.eval x = .slice (some ⟨D, off, none⟩) n n) (hy : a.eval y = .int .i64 k) (hkn : k ≤ n) (hk : ∀ p', (k < n → p' = some ⟨D, off + k, none⟩) → K (a.put o.dst (.slice p' (n - k) (n - k)))) : ∃ v, Gives Try.prog C o a v ∧ K (a.put o.dst v) := by
  refine ⟨_, fun w _ => ?_, hk (if n = k then some ⟨D, off, none⟩ else (some (⟨D, off, none⟩ : Addr)).map (·.add k)) (fun h => by rw [if_neg (by omega)]; simp [addr_add])⟩
  have hr := run_tail (some ⟨D, off, none⟩) n n k hkn (Nat.le_refl _) w
  unfold execOp
  simp only [ho, hx]
  simp [hy, hr]
end
theorem range_sec {V : World} {D N M : Nat} {F : Nat → Nat} (h : IntBlk V D .u8 5 (mk N F)) (hN : N = 128 * M) {i : Nat} (hi : i < M) : V.rangeAt D (128 * i) (cellsOf .u8 (mk 128 (fun j => F (128 * i + j)))).toList := fun j v hv => by
  have hj : j < 128 := by
    have := (List.getElem?_eq_some_iff.1 hv).1
    rw [Array.length_toList, cellsOf_size, mk_len] at this; exact this
  have e : (cellsOf .u8 (mk 128 (fun j => F (128 * i + j)))).toList[j]? = some (.int .u8 (F (128 * i + j) : Nat)) := by
    unfold cellsOf mk
    simp [hj]
  rw [e] at hv
  cases hv
  have := h.cells (o := 128 * i) (n := 128) (by omega) j hj
  exact this
def AtB (p : Option Addr) (k : Nat) : Prop := ∃ o, p = some ⟨k, o, none⟩
/-- What the iterator reads: its boxes, and the bytes. -/
def BlR (U : World) (B4 B3 : Nat) (p : Option Addr) (V : World) : Prop := ∀ k, (k = B4 ∨ k = B3 ∨ AtB p k) → V.heap[k]? = U.heap[k]?
def encB (z : Int × (Nat → Nat)) : Array Value := #[.int .i64 z.1, .agg (cellsOf .u8 (mk 128 z.2))]
def valB (b : Int) (F : Nat → Nat) (i : Nat) : Int × (Nat → Nat) := (b + i, fun j => F (128 * i + j))
attribute [local irreducible] cmA mk zeroK extF
attribute [local go_sem] Oper.semAt_some
set_option maxRecDepth 100000 in
set_option maxHeartbeats 8000000 in
theorem blocks_gives {w0 U : World} {B4 B3 : Nat} {p : Option Addr} {N M : Nat} {F : Nat → Nat} {b : Int} (h4 : BoxA U B4 22 #[.slice p N N]) (h3 : BoxA U B3 3 #[.int .i64 b]) (hr : RowN w0 U p N F) (hN : N = 128 * M) (hM : M ≤ 100) (hb : 0 < M → -1000000 ≤ b ∧ b ≤ 1000000) :
    GivesFr Fence.wide 2 Try.prog 37 #[.pointer (some ⟨B4, 0, none⟩), .pointer (some ⟨B3, 0, none⟩)] encB (valB b F) M (BlR U B4 B3 p) := fun l J Jx W hR hJ hJx hY h0 => by
  refine callsIn_of_wp Try.func37 rfl trivial ?_ rfl
  simp only [Try.ntmps37, List.size_toArray, List.length_cons, List.length_nil, Nat.reduceAdd, Nat.reduceSub, Array.replicate_succ, Array.replicate_zero, List.push_toArray, List.append_toArray, List.nil_append, List.cons_append]
  have c4 : W.cell? ⟨B4, 0, none⟩ = some (.slice p N N) := (World.cell?_of_block (w := U) (a := ⟨B4, 0, none⟩) (hR 0 W h0 B4 (.inl rfl))).trans (h4.cell 0)
  have c3 : W.cell? ⟨B3, 0, none⟩ = some (.int .i64 b) := (World.cell?_of_block (w := U) (a := ⟨B3, 0, none⟩) (hR 0 W h0 B3 (.inr (.inl rfl)))).trans (h3.cell 0)
  have HRG := Lib.hid (show ∀ i V, J i V → i < M → ∃ D, p = some ⟨D, 0, none⟩ ∧ V.rangeAt D (128 * i) (cellsOf .u8 (mk 128 (fun j => F (128 * i + j)))).toList from fun i V hj hi => by
    rcases hr with ⟨-, h⟩ | ⟨D, rfl, hD, -⟩
    · omega
    · exact ⟨D, rfl, range_sec ((hR i V hj D (.inr (.inr ⟨0, rfl⟩))).trans hD) hN hi⟩)
  have HN := Lib.hid hN
  have HM := Lib.hid hM
  have HBB := Lib.hid hb
  have HJ := Lib.hid hJ; have HY := Lib.hid hY; have H0 := Lib.hid h0
  clear hR hJ hJx hY h0 h4 h3 hr hN hM hb
  refine wpIn_wide.2 ?_
  go_wp2
  go_step3
  go_wp2
  go_step3
  go_wp2
  refine (wpIn_wide (n := 2)).1 ?_
  gi_loopw [5, 4] (fun v5 v4 wr => ∃ i : Nat, i ≤ M ∧ v5 = .int .i64 (b + (i : Int)) ∧ (∃ p' L, L = N - 128 * i ∧ v4 = .slice p' L L ∧ (i < M → ∀ D, p = some ⟨D, 0, none⟩ → p' = some ⟨D, 128 * i, none⟩)) ∧ W.heap.size ≤ wr.heap.size ∧ J i wr) (fun v5 _ _ => (b + (M : Int) + 1 - intOf v5).toNat)
  case atStart => exact ⟨0, Nat.zero_le _, by rw [show b + ((0 : Nat) : Int) = b by omega], ⟨p, N, by omega, rfl, fun _ D hD => hD⟩, Nat.le_refl _, H0.out⟩
  case round =>
    obtain ⟨i, hi, rfl, ⟨p', L, hL, rfl, hp'⟩, hs, hj⟩ := hrel
    clear H0 c4 c3
    by_cases hlt : i < M
    · obtain ⟨D, rfl, hrg⟩ := HRG.out i wr hj hlt
      obtain rfl := hp' hlt D rfl
      have HRK := Lib.hid hrg
      have HLT := Lib.hid hlt
      have HL := Lib.hid (show 128 ≤ L by have := HN.out; omega)
      have HL2 := Lib.hid hL
      have f1 : ((L : Int) == 0) = false := by have := HL.out; simp; omega
      have f2 : (L == 0) = false := by have := HL.out; simp; omega
      have f3 : IntKind.i64.wrap (b + (i : Int) + 1) = b + ((i + 1 : Nat) : Int) := by have := HM.out; have := HBB.out (by omega); rw [IntWalk.i64_in _ (by omega)]; omega
      obtain ⟨fn, tmps, assign, body, hy, hRr⟩ := HY.out i wr hlt hs hj
      have hv : encB (valB b F i) = #[.int .i64 (b + (i : Int)), .agg (cellsOf .u8 (mk 128 (fun j => F (128 * i + j))))] := rfl
      rw [hv] at hy
      have HS := Lib.hid hs
      have HJ1 := Lib.hid hj
      clear hs hj hrg hlt hi hL hp' HRG HY hv
      generalize hz : b + (i : Int) = z at *
      have HZ := Lib.hid hz
      clear hz
      gi_wp2_with (first
        | (refine giveW (fun a' => a' = _) rfl rfl rfl (gives_upto (K := fun a' => a' = _) _ _ rfl (some ⟨D, 128 * i, none⟩) L L 128 128 rfl rfl rfl HL.out rfl) ?_; rintro _ rfl; go_simp)
        | (refine giveW (fun a' => a' = _) rfl rfl rfl (gives_arrptr (K := fun a' => a' = _) _ rfl ⟨D, 128 * i, none⟩ 128 L rfl (Nat.le_refl _) rfl) ?_; rintro _ rfl; go_simp)
        | (refine giveW (fun a' => a' = _) rfl rfl rfl (gives_sec_mid (K := fun a' => a' = _) _ rfl D (128 * i) (fun j => F (128 * i + j)) rfl (fun V hV => by rw [hV]; exact HRK.out) rfl) ?_; rintro _ rfl; go_simp))
      refine hRr.mono ?_
      rintro e W3 (⟨rfl, hj3, ha3⟩ | ⟨rfl, hx3, _⟩)
      · have H3 := Lib.hid hj3
        have S3 := Lib.hid (Nat.le_trans HS.out ha3)
        clear hRr hy hj3 ha3
        gi_wp2_with (first
          | (refine giveW (fun a' => ∃ p', (128 < L → p' = some ⟨D, 128 * i + 128, none⟩) ∧ a' = Act.put _ _ (.slice p' (L - 128) (L - 128))) rfl rfl rfl (gives_rest (K := fun a' => ∃ p', (128 < L → p' = some ⟨D, 128 * i + 128, none⟩) ∧ a' = Act.put _ _ (.slice p' (L - 128) (L - 128))) _ _ rfl D (128 * i) L 128 rfl rfl HL.out (fun p' h => ⟨p', h, rfl⟩)) ?_
             rintro _ ⟨p2, hp2, rfl⟩
             go_simp
             have HP2 := Lib.hid hp2
             clear hp2))
        go_roundw
        case rel => exact ⟨i + 1, HLT.out, by go_num, ⟨p2, L - 128, by have := HL2.out; omega, rfl, fun h D' hD' => by cases hD'; rw [HP2.out (by have := HL2.out; have := HN.out; omega)]; congr 2⟩, S3.out, H3.out⟩
        case measure => have := HLT.out; have := HZ.out; simp [intOf]; omega
      · have HX := Lib.hid hx3
        clear hRr hy hx3
        gi_wp2
        try rw [Exit.noGoto_normal]
        refine bodyPost_end (results_none rfl _ _ _) rfl ?_
        exact ⟨⟨_, rfl⟩, .inr HX.out⟩
    · obtain rfl : i = M := by omega
      have f1 : ((L : Int) == 0) = true := by have := HN.out; simp; omega
      have f2 : (L == 0) = true := by have := HN.out; simp; omega
      have HJ1 := Lib.hid hj
      clear hs hj hlt hi hp' HRG HY
      gi_wp2
      try rw [Exit.noGoto_normal]
      refine bodyPost_end (results_none rfl _ _ _) rfl ?_
      exact ⟨⟨_, rfl⟩, .inl HJ1.out⟩
end Go.Proofs.Ytkibeddfkenlkaa
