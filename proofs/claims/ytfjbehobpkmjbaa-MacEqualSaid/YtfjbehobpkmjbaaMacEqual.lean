/- Package mac's Equal tells whether bytes are the same, of any two rows, and of one with a byte changed: the statement MacEqual. No condition. -/
import Derived.Test.YtfjbehobpkmjbaaEqC
import Derived.Test.YtfjbehobpkmjbaaOpenSz
import Derived.ArgAppend
import Derived.Lib.SmallJoins
import Derived.Deep.Upon
namespace Go.Proofs.Ytfjbehobpkmjbaa.macEqual
open Go.ChangeShapes Go.WideShapes Go.ChangeAt Go.RowKit
set_option linter.unusedVariables false

theorem own : ownKnob Try.prog.godebug = none := by kernel_rfl
section
variable {ops : Array Oper} {rest : List Oper} {o : Oper} {a : Act} {w : World} {Q : Exit → Act → World → Prop}
theorem wanted_step (hw : Region.wanted o (yielded ops a.tmps) = true) (h : ∀ K : Act → World → Prop, (∀ a w, wpList Try.prog ops Q rest a w → K a w) → o.wp Try.prog a w K Q) : wpList Try.prog ops Q (o :: rest) a w :=
  wpList_step fun K hK => by rw [if_pos hw]; exact h K hK
/-- Any bytes appended to an empty slice. -/
theorem wpList_append_wide (hw : Region.wanted o (yielded ops a.tmps) = true) (s x : Operand) (ho : o.op = .call { callee := .builtin .append, args := #[s, x], argTypes := #[22, 22] }) (D : Nat) (hs : a.eval s = .slice (some ⟨D, 0, none⟩) 0 0)
    (hD : w.heap[D]? = some (.cells (cellsOf .u8 []) 5 (0, 0))) (p : Option Addr) (n cap : Nat) (f : Nat → Nat) (hx : a.eval x = .slice p n cap) (hp : BytesAt w p n f) (hn : n ≤ 140737488351232)
    (h : ∀ v' w', OwnS 5 1 w' D w'.heap.size v' n f → Below D w w' → wpList Try.prog ops Q rest (a.put o.dst v') w') : wpList Try.prog ops Q (o :: rest) a w := by
  have hi := byteInfo
  have hz := byteZero1
  have hb := byteBytes1
  have hDlt : D < w.heap.size := (Array.getElem?_eq_some_iff.1 hD).1
  have hv : OwnS 5 1 w D w.heap.size (.slice (some ⟨D, 0, none⟩) 0 0) 0 f := .inr ⟨D, 0, _, rfl, Nat.le_refl _, hDlt, hD, Nat.le_refl _, Nat.zero_le _, rfl, rfl⟩
  cases hq : Try.prog.info? 5 with
  | none => rw [hq] at hi; simp at hi
  | some i =>
    rw [hq] at hi hb hz
    have hsz : i.size = 1 := by simpa using hi
    have hzz : i.zero = some (.int .u8 0) := by simpa using hz
    have hby : i.bytes = 1 := by simpa using hb
    by_cases h0 : n = 0
    · subst h0
      have hsrc : Src Try.prog i.size 22 (.slice p 0 cap) 0 [] w := by
        cases p with
        | none => exact Src.ofNil w bytesUnder cap
        | some ad => exact Src.ofSlice w bytesUnder ad 0 cap [] (by simp) (fun j u hu => by simp at hu) (fun u hu => by cases hu)
      refine wanted_step hw fun K hK => ?_
      have hrun := run_append_nothing (P := Try.prog) w 22 22 o.type 5 i bytesUnder hq (some ⟨D, 0, none⟩) 0 0 (Nat.le_refl _) (.slice p 0 cap) hsrc
      unfold Oper.wp
      simp [execOp, ho, resolve, invoke, builtin, hs, hx, hrun, Result.andThen]
      exact hK _ _ (h _ w hv (Below.refl _ _))
    · rcases hp with hp | ⟨B, off, rfl, hB, hc⟩
      · exact absurd hp h0
      · obtain ⟨v', w', hrun, r1, r2, _⟩ := run_append_own (P := Try.prog) w D 22 o.type 5 i (.int .u8 0) 1 1 bytesUnder hq hzz hsz hby rfl (by omega)
          (.slice (some ⟨D, 0, none⟩) 0 0) 0 (bytesList (0 * 1) f) hv.owns ⟨B, off, none⟩ n cap (bytesList n f) (by rw [bytesList_len, Nat.mul_one]) (fun j u hj => by
            obtain ⟨hj1, rfl⟩ := bytesList_get hj
            rw [addr_add]; exact hc j hj1) bytesList_one (by simp only [maxLen]; omega) (by omega) (by omega)
        rw [bytesList_more (0 * 1) n f f (fun j hj => by rw [Nat.zero_mul, Nat.zero_add])] at r1
        simp only [Nat.zero_mul, Nat.zero_add] at r1
        have r1' : OwnS 5 1 w' D w'.heap.size v' n f := OwnS.of_owns (by rw [Nat.mul_one]; exact r1)
        refine wanted_step hw fun K hK => ?_
        unfold Oper.wp
        simp [execOp, ho, resolve, invoke, builtin, hs, hx, hrun, Result.andThen]
        exact hK _ _ (h v' w' r1' (below_own r2 hv.block (by omega)))
end
theorem own_bytes {base top k : Nat} {v : Value} {F : Nat → Nat} {w : World} (h : OwnS 5 1 w base top v k F) (ht : top ≤ w.heap.size) : ∃ p c, v = .slice p k c ∧ k ≤ c ∧ c ≤ maxLen ∧ BytesAt w p k F ∧ ∀ B o, p = some ⟨B, o, none⟩ → base ≤ B ∧ B < top := by
  rcases h with ⟨h1, h2⟩ | ⟨B, c, cur, h1, h2, h3, h4, h5, h6, h7, h8⟩
  · subst h2; exact ⟨none, 0, h1, Nat.le_refl _, Nat.zero_le _, .inl rfl, fun B o e => by cases e⟩
  · refine ⟨some ⟨B, 0, none⟩, c, h1, h5, h6, .inr ⟨B, 0, rfl, by omega, fun j hj => ?_⟩, fun B' o e => by simp only [Option.some.injEq, Addr.mk.injEq, and_true] at e; omega⟩
    rw [Nat.zero_add, cell_of_row w B j cur _ (0, 0) h4]
    have := bytesList_at (n := k * 1) (F := F) (j := j) (by omega)
    rw [← h8, List.getElem?_take_of_lt (by omega)] at this
    simpa using this
/-- A byte of an own row that is stored anew. -/
theorem own_set {base top n k x : Nat} {v : Value} {f : Nat → Nat} {w : World} (h : OwnS 5 1 w base top v n f) (hk : k < n) (ht : top ≤ w.heap.size) : ∃ B c, v = .slice (some ⟨B, 0, none⟩) n c ∧ n ≤ c ∧ base ≤ B ∧ B < top ∧ w.cell? ⟨B, k, none⟩ = some (.int .u8 (f k : Nat)) ∧ w.frozen? ⟨B, k, none⟩ = false ∧
    BytesAt (w.setCell ⟨B, k, none⟩ (.int .u8 (x : Nat))) (some ⟨B, 0, none⟩) n (upd f k x) := by
  rcases h with ⟨_, h2⟩ | ⟨B, c, cur, h1, h2, h3, h4, h5, h6, h7, h8⟩
  · omega
  · have cell : ∀ j, j < n → cur[j]? = some (.int .u8 (f j : Nat)) := fun j hj => by
      have := bytesList_at (n := n * 1) (F := f) (j := j) (by omega)
      rw [← h8, List.getElem?_take_of_lt (by omega)] at this
      simpa using this
    have hs := Joins.block_setCell (i := k) h4 (.int .u8 (x : Nat))
    refine ⟨B, c, h1, h5, h2, h3, by rw [cell_of_row w B k cur _ (0, 0) h4]; exact cell k hk, Joins.unfrozen_of_block h4 k, .inr ⟨B, 0, rfl, (Array.getElem?_eq_some_iff.1 hs).1, fun j hj => ?_⟩⟩
    rw [Nat.zero_add, cell_of_row _ B j _ _ (0, 0) hs]
    unfold upd
    by_cases e : j = k
    · subst e
      rw [if_pos rfl, Array.getElem?_setIfInBounds_self_of_lt (by omega)]
    · rw [if_neg e, Array.getElem?_setIfInBounds_ne (Ne.symm e)]; exact cell j hj
theorem from_one {w : World} {B n : Nat} {f : Nat → Nat} (h : BytesAt w (some ⟨B, 0, none⟩) n f) : BytesAt w (some ⟨B, 1, none⟩) (n - 1) (fun j => f (1 + j)) := by
  rcases h with h | ⟨b, o, e, hb, hc⟩
  · exact .inl (by omega)
  · cases e
    exact .inr ⟨B, 1, rfl, hb, fun j hj => by
      have := hc (1 + j) (by omega)
      rw [Nat.zero_add] at this; exact this⟩
theorem upd_ne {n m k x : Nat} {f : Nat → Nat} (hk : k < n) (hx : x ≠ f k) : mk n f ≠ mk n (upd f k x) := fun h => by
  have := congrArg (fun l => l.getD k 0) h
  simp only [mk_get hk] at this
  unfold upd at this
  rw [if_pos rfl] at this; omega
theorem len_ne {n m : Nat} {f g : Nat → Nat} (h : n ≠ m) : mk n f ≠ mk m g := fun e => h (by have := congrArg List.length e; rwa [mk_len, mk_len] at this)

theorem two_lits (w : World) : BytesAt ((w.alloc (.cells (cellsOf .u8 [((1 : Nat) : Int)]) 5)).alloc (.cells (cellsOf .u8 [((1 : Nat) : Int)]) 5)) (some ⟨w.heap.size, 0, none⟩) 1 (fun _ => 1) ∧ BytesAt ((w.alloc (.cells (cellsOf .u8 [((1 : Nat) : Int)]) 5)).alloc (.cells (cellsOf .u8 [((1 : Nat) : Int)]) 5)) (some ⟨w.heap.size + 1, 0, none⟩) 1 (fun _ => 1) := by
  have l1 : BytesAt ((w.alloc (.cells (cellsOf .u8 [((1 : Nat) : Int)]) 5)).alloc (.cells (cellsOf .u8 [((1 : Nat) : Int)]) 5)) (some ⟨w.heap.size, 0, none⟩) 1 (fun _ => 1) :=
    .inr ⟨_, 0, rfl, by simp; omega, fun j hj => by
      have := ((IntBlk.new w .u8 5 (mk 1 fun _ => 1)).alloc (.cells (cellsOf .u8 [((1 : Nat) : Int)]) 5)).cells (o := 0) (n := 1) (by omega) j hj
      have e : mk 1 (fun _ => 1) = [((1 : Nat) : Int)] := rfl
      simpa only [Nat.zero_add, e] using this⟩
  have l2 : BytesAt ((w.alloc (.cells (cellsOf .u8 [((1 : Nat) : Int)]) 5)).alloc (.cells (cellsOf .u8 [((1 : Nat) : Int)]) 5)) (some ⟨w.heap.size + 1, 0, none⟩) 1 (fun _ => 1) :=
    .inr ⟨_, 0, rfl, by simp, fun j hj => by
      have := (blk_two w .u8 5 (mk 1 fun _ => 1) (.cells (cellsOf .u8 [((1 : Nat) : Int)]) 5)).cells (o := 0) (n := 1) (by omega) j hj
      have e : mk 1 (fun _ => 1) = [((1 : Nat) : Int)] := rfl
      simpa only [Nat.zero_add, e] using this⟩
  exact ⟨l1, l2⟩
attribute [local irreducible] mk upd

set_option maxRecDepth 100000 in
set_option maxHeartbeats 4000000 in
theorem walk (p : Option Addr) (n cp : Nat) (f : Nat → Nat) (q : Option Addr) (m cq : Nat) (g : Nat → Nat) (z : Int) (hf : ∀ i, i < n → f i < 256) (hcp : n ≤ cp) (hn : n ≤ 140737488351232) (hg : ∀ i, i < m → g i < 256) (hcq : m ≤ cq) (hm : m ≤ 140737488351232) (hz : (Lit.int .i64 z).wf = true) (w : World) (hp : BytesAt w p n f) (hq : BytesAt w q m g) :
    Calls Try.prog 3 #[.slice p n cp, .slice q m cq, .int .i64 z] w fun e w' => e = .returned (.bool true) ∧ Below w.heap.size w w' := by
  have a1 : Below w.heap.size w (w.alloc (.cells (cellsOf .u8 [((1 : Nat) : Int)]) 5)) := (Below.refl _ w).alloc (Nat.le_refl _) _
  have a2 : Below w.heap.size w ((w.alloc (.cells (cellsOf .u8 [((1 : Nat) : Int)]) 5)).alloc (.cells (cellsOf .u8 [((1 : Nat) : Int)]) 5)) := a1.alloc (by simp) _
  obtain ⟨l1, l2⟩ := two_lits w
  have E1 := Lib.hid (Equal_any (some ⟨w.heap.size, 0, none⟩) 1 1 (fun _ => 1) (some ⟨w.heap.size + 1, 0, none⟩) 1 1 (fun _ => 1) (fun _ _ => by omega) (fun _ _ => by omega) (by omega) (by omega) _ l1 l2)
  rw [decide_eq_true rfl] at E1
  have HP := Lib.hid (hp.below a2)
  have HQ := Lib.hid (hq.below a2)
  have HA := Lib.hid a2
  have HN := Lib.hid hf
  obtain ⟨bb, hbb⟩ : ∃ bb, decide (mk n f = mk m g) = bb := ⟨_, rfl⟩
  have e2 := (fun W hp hq => Equal_any p n cp f q m cq g hf hg hn hm W hp hq)
  have s2 := (fun W hp hq => Same_any p q n cp m cq f g hf hg W hp hq)
  simp only [hbb] at e2 s2
  have E2 := Lib.hid e2; have S2 := Lib.hid s2
  clear e2 s2 hbb
  have e3 := (fun p' c' W hp hq => Equal_any p n cp f p' n c' f hf hf hn hn W hp hq)
  simp only [decide_true] at e3
  have E3 := Lib.hid e3
  clear e3
  clear a1 a2 l1 l2 hp hq hg hf
  by_cases h0 : n = 0
  · have t0 : (((n : Int) == 0) : Bool) = true := by simp; exact h0
    clear h0
    go_enter Try.func3, Try.ntmps3
    go_wp2_with (first
      | (refine wpList_buildFlat rfl 22 5 1 _ rfl .u8 [((1 : Nat) : Int)] bytesUnder byteInfo (by rw [byteZero1]; rfl) rfl (by omega) (by omega) rfl ?_)
      | (go_at_call 4; refine E1.out.mono ?_; rintro e w0 ⟨rfl, hw0⟩
         rw [hw0] at HP HQ HA
         clear hw0 E1)
      | (go_at_call 4; refine (E2.out w0 HP.out HQ.out).mono ?_; rintro e w1 ⟨rfl, rfl⟩; clear E2)
      | (go_at_call 5; refine (S2.out w0 HP.out HQ.out).mono ?_; rintro e w1 ⟨rfl, rfl⟩; clear S2)
      | (refine wpList_append_wide rfl (.tmp 23) (.tmp 24) rfl w0.heap.size rfl (heap_alloc_new w0 _) p n cp f rfl (HP.out.below ((Below.refl _ w0).alloc (Nat.le_refl _) _)) hn ?_; intro v1 w1 hv1 hb1
         have b1 := ((Below.refl _ w0).alloc (Nat.le_refl _) (.cells (cellsOf .u8 []) 5)).trans hb1
         obtain ⟨p1, c1, rfl, hc1, _, hB1, _⟩ := own_bytes hv1 (Nat.le_refl _)
         have C1 := Lib.hid hB1
         have CP := Lib.hid (HP.out.below b1)
         have C3 := Lib.hid (HA.out.trans (b1.mono HA.out.size))
         clear hv1 hb1 hB1 b1 HP HQ HA)
      | (go_at_call 4; refine (E3.out p1 c1 w1 CP.out C1.out).mono ?_; rintro e w2 ⟨rfl, rfl⟩; clear E3 C1))
    go_ret
    exact ⟨rfl, C3.out⟩
  · have t0 : (((n : Int) == 0) : Bool) = false := by simp; exact h0
    obtain ⟨y, hy⟩ : ∃ y : Nat, IntKind.u64.wrap z = (y : Int) := ⟨(IntKind.u64.wrap z).toNat, by rw [show IntKind.u64.wrap z = z % 18446744073709551616 from by simp [IntKind.wrap, IntKind.bits, IntKind.signed]]; omega⟩
    obtain ⟨k, hk⟩ : ∃ k, k = y % n := ⟨_, rfl⟩
    have hkn : k < n := by rw [hk]; exact Nat.mod_lt _ (by omega)
    have q2 : IntKind.u64.wrap (n : Int) = (n : Int) := IntWalk.u64_in _ (by omega)
    have q3 : (y : Int).tmod (n : Int) = (k : Int) := by rw [hk, Int.ofNat_tmod]
    have q3b : (y : Int) % (n : Int) = (k : Int) := by rw [hk]; omega
    have q4 : IntKind.i64.wrap (k : Int) = (k : Int) := IntWalk.i64_in _ (by omega)
    have n0 : (n : Int) ≠ 0 := by omega
    have l0 : (0 : Int) ≤ k := by omega
    have l1 : (k : Int) < n := by omega
    have hfk := HN.out k hkn
    have hx := bits_xor_u8 (x := f k) (y := 64) hfk (by omega)
    have hxl : f k ^^^ 64 < 256 := xor_lt hfk (by omega)
    have hxn : f k ^^^ 64 ≠ f k := fun h => by
      have : (f k ^^^ (f k ^^^ 64)) = f k ^^^ f k := by rw [h]
      rw [← Nat.xor_assoc, Nat.xor_self, Nat.zero_xor] at this; omega
    obtain ⟨x, hxx⟩ : ∃ x, f k ^^^ 64 = x := ⟨_, rfl⟩
    rw [hxx] at hx hxl hxn
    have hx2 : bits .xor .u8 (f k : Int) 64 = (x : Int) := hx
    have HXN := Lib.hid hxn
    have hul : ∀ i, i < n → upd f k x i < 256 := fun i hi => by unfold upd; split; exact hxl; exact HN.out i hi
    have E4 := Lib.hid (fun B c W hp hq => Equal_any p n cp f (some ⟨B, 0, none⟩) n c (upd f k x) HN.out hul hn hn W hp hq)
    have E5 := Lib.hid (fun B c W hp hq => Equal_any (some ⟨B, 0, none⟩) n c (upd f k x) p n cp f hul HN.out hn hn W hp hq)
    have e6 := (fun p' c W hp hq => Equal_any p n cp f p' (n - 1) c (fun j => upd f k x (1 + j)) HN.out (fun i hi => hul _ (by omega)) hn (by omega) W hp hq)
    have d6 := decide_eq_false (len_ne (f := f) (g := fun j => upd f k x (1 + j)) (show n ≠ n - 1 by omega))
    simp only [d6] at e6
    have E6 := Lib.hid e6
    clear e6 d6
    have D4 := Lib.hid (decide_eq_false (upd_ne (m := n) hkn hxn))
    have D5 := Lib.hid (decide_eq_false (Ne.symm (upd_ne (m := n) hkn hxn)))
    clear hk hxl hx hxx hfk hul hxn
    go_enter Try.func3, Try.ntmps3
    go_wp2_with (first
      | (refine wpList_buildFlat rfl 22 5 1 _ rfl .u8 [((1 : Nat) : Int)] bytesUnder byteInfo (by rw [byteZero1]; rfl) rfl (by omega) (by omega) rfl ?_)
      | (go_at_call 4; refine E1.out.mono ?_; rintro e w0 ⟨rfl, hw0⟩
         rw [hw0] at HP HQ HA
         clear hw0 E1)
      | (go_at_call 4; refine (E2.out w0 HP.out HQ.out).mono ?_; rintro e w1 ⟨rfl, rfl⟩; clear E2)
      | (go_at_call 5; refine (S2.out w0 HP.out HQ.out).mono ?_; rintro e w1 ⟨rfl, rfl⟩; clear S2)
      | (refine wpList_append_wide rfl (.tmp 23) (.tmp 24) rfl w0.heap.size rfl (heap_alloc_new w0 _) p n cp f rfl (HP.out.below ((Below.refl _ w0).alloc (Nat.le_refl _) _)) hn ?_; intro v1 w1 hv1 hb1
         have b1 := ((Below.refl _ w0).alloc (Nat.le_refl _) (.cells (cellsOf .u8 []) 5)).trans hb1
         obtain ⟨p1, c1, rfl, hc1, _, hB1, _⟩ := own_bytes hv1 (Nat.le_refl _)
         have C1 := Lib.hid hB1
         have CP := Lib.hid (HP.out.below b1)
         have C3 := Lib.hid (HA.out.trans (b1.mono HA.out.size))
         clear hv1 hb1 hB1 b1 HP HQ HA)
      | (go_at_call 4; refine (E3.out p1 c1 w1 CP.out C1.out).mono ?_; rintro e w2 ⟨rfl, rfl⟩; clear E3 C1)
      | (refine wpList_append_wide rfl (.tmp 32) (.tmp 33) rfl w1.heap.size rfl (heap_alloc_new w1 _) p n cp f rfl (CP.out.below ((Below.refl _ w1).alloc (Nat.le_refl _) _)) hn ?_; intro v3 w3 hv3 hb3
         have b3 := ((Below.refl _ w1).alloc (Nat.le_refl _) (.cells (cellsOf .u8 []) 5)).trans hb3
         obtain ⟨B, c3, rfl, hc3, hBb, hBt, cs, fs, hu⟩ := own_set (x := x) hv3 hkn (Nat.le_refl _)
         have G1 := Lib.hid hu
         have G6 := Lib.hid (from_one hu)
         have GP := Lib.hid (CP.out.below (b3.setCell (p := ⟨B, k, none⟩) hBb (.int .u8 (x : Nat))))
         have G3 := Lib.hid ((C3.out.trans (b3.mono C3.out.size)).setCell (p := ⟨B, k, none⟩) (Nat.le_trans C3.out.size hBb) (.int .u8 (x : Nat)))
         clear hv3 hb3 b3 hu CP C3)
      | (go_at_call 4; refine (E4.out B c3 _ GP.out G1.out).mono ?_; rw [D4.out]; rintro e w4 ⟨rfl, rfl⟩; clear E4)
      | (go_at_call 4; refine (E5.out B c3 _ G1.out GP.out).mono ?_; rw [D5.out]; rintro e w4 ⟨rfl, rfl⟩; clear E5)
      | (go_at_call 4; refine (E6.out _ _ _ GP.out ?_).mono ?_
         · first | exact G6.out | exact .inl (by omega)
         rintro e w4 ⟨rfl, rfl⟩))
    all_goals (go_ret; exact ⟨rfl, G3.out⟩)

theorem laidOut : laidOutB Try.prog = true := by kernel_rfl
set_option maxRecDepth 100000 in
theorem lifted (os : Os) (started : os.Started) (H : Type) (enc : TypeId × Value → H) :
    ReturnsInHanded {} Try.checked os 3 .any (Rows.macEqualSpec.pre6 enc Try.prog Try.f3 Rows.macEqualRow.domain false) (Rows.macEqualSpec.post enc Try.prog Try.f3 false true false false) := by
  refine returnsInHanded_of_change_sized (C := Try.checked) own started (by kernel_rfl) Try.func3
    (ChangeSpec.witness6 (enc := enc) (C := Try.checked) false ⟨#[], #[.slice none 0 0, .slice none 0 0, .int .i64 0], []⟩ 8 (by kernel_rfl) (by kernel_rfl) (by kernel_rfl) (by kernel_rfl)) ?_
  intro W base args ds gs before hval0 hW hcnd hsz _
  have hval : ∀ (j : Nat) t v, Try.f3.params[j]? = some t → args[j]? = some v → Value.okWide Try.prog W .any base t v := hval0
  have hW' := hW
  obtain ⟨p, q, hA0, hV, rfl, hfz, hnd⟩ := hW
  have hA : DataW.TrodAll enc Try.prog W 0 (fun _ => true) true Try.f3.params.toList args.toList ds p := hA0
  rw [Try.params3] at hA hval
  obtain ⟨v0, vs0, d0, ds0, p0, q0, hargs, rfl, rfl, h0, r0⟩ := trodAll_cons hA
  obtain ⟨v1, vs1, d1, ds1, p1, q1, rfl, rfl, rfl, h1, r1⟩ := trodAll_cons r0
  obtain ⟨v2, vs2, d2, ds2, p2, q2, rfl, rfl, rfl, h2, r2⟩ := trodAll_cons r1
  obtain ⟨rfl, rfl, rfl⟩ := trodAll_nil r2
  obtain rfl : args = #[v0, v1, v2] := by cases args; simp_all
  obtain ⟨rfl, rfl⟩ := trodVars_none hV
  have k0 := h0
  have lt0 : ∀ x ∈ p0, x.block < W.heap.size := by obtain ⟨m, hm⟩ := k0; exact DataW.trod_lt m _ _ _ hm
  obtain ⟨q0, n0, c0, a0, rfl, w0, y0, l0, m0⟩ := open_byteslice (hval 0 22 v0 rfl rfl) h0
  have k1 := h1
  have lt1 : ∀ x ∈ p1, x.block < W.heap.size := by obtain ⟨m, hm⟩ := k1; exact DataW.trod_lt m _ _ _ hm
  obtain ⟨q1, n1, c1, a1, rfl, w1, y1, l1, m1⟩ := open_byteslice (hval 1 22 v1 rfl rfl) h1
  obtain ⟨a2, rfl, rfl, rfl, w2⟩ := open_int Try.underlying3 (hval 2 3 v2 rfl rfl) h2
  have z0 := open_size k0 hsz (j := 0) (by rw [Try.params3]; rfl) rfl
  have z1 := open_size k1 hsz (j := 1) (by rw [Try.params3]; rfl) rfl
  clear hA0 hval0
  refine (walk q0 n0 c0 a0 q1 n1 c1 a1 a2 w0 l0 z0 w1 l1 z1 w2 W y0 y1).mono fun e W' ⟨he, bel⟩ => ?_
  subst he
  exact ⟨_, rfl, _, _, _, [], _, [], hW', trodAll_mk1 (shut_bool Try.underlying4 _), (trodAll_cons_mk (Below.trod laidOut (by kernel_rfl) (of_decide_eq_true (by kernel_rfl)) k0 bel lt0) (trodAll_cons_mk (Below.trod laidOut (by kernel_rfl) (of_decide_eq_true (by kernel_rfl)) k1 bel lt1) (trodAll_cons_mk (shut_int Try.underlying3 w2) trodAll_mk0))), rfl, bel.frame _, fun h => by cases h⟩

theorem over : Rows.macEqualRow.holds Try.pinned (OpenSpec.ofChange Rows.macEqualSpec) :=
  OpenClaim.holds_of_wide 3 Try.f3 rfl rfl rfl rfl rfl rfl rfl ⟨rfl, rfl, rfl, rfl, rfl⟩ rfl rfl rfl rfl rfl (by kernel_rfl) Try.func3 (by kernel_rfl)
    (of_decide_eq_true (by kernel_rfl)) (by unfold Func.isWrapper; first | (rw [if_pos (by decide +kernel)]; kernel_rfl) | (rw [if_neg (by decide +kernel)]; exact ⟨rfl, rfl⟩))
    (fun os started H enc _ => lifted os started H enc)

theorem proved : Rows.MacEqualSaid := over
end Go.Proofs.Ytfjbehobpkmjbaa.macEqual
