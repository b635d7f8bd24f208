/- Each byte's power 254 is its inverse by package field, and power 255 of each but 0 is 1: the statement FieldOrder. No condition. -/
import Derived.Test.YtccjpofngannhaaPowers
import Derived.Test.YtccjpofngannhaaQuiet
namespace Go.Proofs.Ytccjpofngannhaa.fieldOrder
open Go.ChangeShapes Go.WideShapes Go.ChangeAt Go.RowKit Go.Shelf
set_option linter.unusedVariables false
attribute [local go_sem] Oper.semAt_some

theorem own : ownKnob Try.prog.godebug = none := by kernel_rfl

theorem twice1 : (mk 16 (dbl (oneK 1)) == mk 16 (oneK 2)) = true := by decide +kernel
theorem two_cells : cellsOf .u8 (mk 16 (oneK 2)) = #[.int .u8 2, .int .u8 0, .int .u8 0, .int .u8 0, .int .u8 0, .int .u8 0, .int .u8 0, .int .u8 0, .int .u8 0, .int .u8 0, .int .u8 0, .int .u8 0, .int .u8 0, .int .u8 0, .int .u8 0, .int .u8 0] := by kernel_rfl
theorem two_eq (W : World) : (Op.equalIn 10000 28 (.agg (cellsOf .u8 (mk 16 (dbl (oneK 1))))) (.agg #[.int .u8 2, .int .u8 0, .int .u8 0, .int .u8 0, .int .u8 0, .int .u8 0, .int .u8 0, .int .u8 0, .int .u8 0, .int .u8 0, .int .u8 0, .int .u8 0, .int .u8 0, .int .u8 0, .int .u8 0, .int .u8 0])).run Try.prog W = .ok true W := by
  rw [← two_cells, key_eq, twice1]
/-- A block that holds one bool. -/
def BoolBlk (w : World) (B : Nat) (t : TypeId) (x : Bool) : Prop := w.heap[B]? = some (.cells #[.bool x] t (0, 0))
theorem BoolBlk.lt {w : World} {B : Nat} {t : TypeId} {x : Bool} (h : BoolBlk w B t x) : B < w.heap.size := (Array.getElem?_eq_some_iff.1 h).1
theorem BoolBlk.below {w w' : World} {B M : Nat} {t : TypeId} {x : Bool} (h : BoolBlk w B t x) (hb : Below M w w') (hM : B < M) : BoolBlk w' B t x := by
  unfold BoolBlk; rw [hb.block B hM]; exact h

theorem BoolBlk.alloc {w : World} {B : Nat} {t : TypeId} {x : Bool} (h : BoolBlk w B t x) (o : Obj) : BoolBlk (w.alloc o) B t x := by
  unfold BoolBlk; rw [Below.heap_alloc _ _ _ h.lt]; exact h
theorem BoolBlk.other {w : World} {B : Nat} {t : TypeId} {x : Bool} (h : BoolBlk w B t x) {a : Addr} (ha : a.block ≠ B) (v : Value) : BoolBlk (w.setCell a v) B t x := by
  unfold BoolBlk; rw [Below.heap_setCell _ _ _ _ (fun e => ha e.symm)]; exact h
/-- A block of cells abides a turn of what is no cells. -/
theorem cells_turn {W : World} {B l : Nat} {c : Array Value} {t : TypeId} {o o' : Obj} (h : W.heap[B]? = some (.cells c t (0, 0))) (ho : W.heap[l]? = some o) (hc : o.isCells = false) : (W.putObj l o').heap[B]? = some (.cells c t (0, 0)) := by
  refine (World.putObj_heap_other (fun e => ?_)).trans h
  subst e; rw [h] at ho; cases ho; simp [Obj.isCells] at hc
theorem below_turn {M : Nat} {w W : World} {l : Nat} (o' : Obj) (h : Below M w W) (hl : M ≤ l) : Below M w (W.putObj l o') :=
  h.trans ⟨rfl, rfl, rfl, by simp, fun k hk => World.putObj_heap_other (by omega)⟩
/-- Between two rounds: i of them are over. -/
def OrdI (w : World) (N : Nat) (b : Int) (i : Nat) (W : World) : Prop :=
  i ≤ 255 ∧ IntBlk W w.heap.size .u8 5 [b] ∧ BoolBlk W (w.heap.size + 1) 4 false ∧ IntBlk W N .i64 3 [(i : Int)] ∧ IntBlk W (N + 1) .u8 5 [if i = 255 then powI b 254 else 0] ∧ IntBlk W (N + 1 + 1) .u8 5 [b] ∧ Below w.heap.size w W
def OrdX (w : World) (c : Code) (W : World) : Prop := c = .ret ∧ BoolBlk W (w.heap.size + 1) 4 true ∧ Below w.heap.size w W
theorem OrdI.turn {w W : World} {N : Nat} {b : Int} {i l : Nat} {o o' : Obj} (h : OrdI w N b i W) (hl : w.heap.size ≤ l) (ho : W.heap[l]? = some o) (hc : o.isCells = false) : OrdI w N b i (W.putObj l o') := by
  obtain ⟨h1, h2, h3, h4, h5, h6, h7⟩ := h
  exact ⟨h1, cells_turn h2 ho hc, cells_turn h3 ho hc, cells_turn h4 ho hc, cells_turn h5 ho hc, cells_turn h6 ho hc, below_turn _ h7 hl⟩
theorem OrdX.turn {w W : World} {c : Code} {l : Nat} {o o' : Obj} (h : OrdX w c W) (hl : w.heap.size ≤ l) (ho : W.heap[l]? = some o) (hc : o.isCells = false) : OrdX w c (W.putObj l o') :=
  ⟨h.1, cells_turn h.2.1 ho hc, below_turn _ h.2.2 hl⟩
theorem OrdI.box {w W : World} {N : Nat} {b : Int} {i : Nat} (h : OrdI w N b i W) : W.cell? ⟨N + 1 + 1, 0, none⟩ = some (.int .u8 b) := h.2.2.2.2.2.1.cell (i := 0) (by simp)

def powN (b : Nat) : Nat → Nat
  | 0 => 1
  | i + 1 => mul (powN b i) b
theorem powI_is {b : Int} : ∀ i, powI b i = (powN b.toNat i : Nat)
  | 0 => rfl
  | i + 1 => by unfold powI mulI powN; rw [powI_is i, Int.toNat_natCast]
theorem powN_lt (b : Nat) (h : b < 256) : ∀ i, powN b i < 256
  | 0 => by simp [powN]
  | i + 1 => mul_lt (powN_lt b h i)
theorem powN_two {b : Nat} (h : b < 256) : ∀ n, powN b (2 * n) = powN (mul b b) n
  | 0 => rfl
  | n + 1 => by
    show mul (mul (powN b (2 * n)) b) b = mul (powN (mul b b) n) (mul b b)
    rw [← powN_two h n, mul_assoc' (powN_lt b h _) h h]
theorem one_mul' {x : Nat} (h : x < 256) : mul 1 x = x := by rw [mul_comm' (by omega) h, mul_one']
theorem invS_pow : ∀ (n b p : Nat), b < 256 → p < 256 → invS n b p = mul p (powN b (2 ^ (n + 1) - 2))
  | 0, _, _, _, _ => by show _ = mul _ 1; rw [mul_one']; rfl
  | n + 1, b, p, hb, hp => by
    have h2 : 2 ≤ 2 ^ (n + 1) := by rw [Nat.pow_succ]; have := Nat.pow_pos (n := n) (show 0 < 2 by omega); omega
    have e : 2 ^ (n + 1 + 1) - 2 = 2 * (2 ^ (n + 1) - 2 + 1) := by rw [Nat.pow_succ 2 (n + 1)]; omega
    show invS n (mul b b) (mul p (mul b b)) = _
    rw [invS_pow n _ _ (mul_lt hb) (mul_lt hp), e, powN_two hb, mul_assoc' hp (mul_lt hb) (powN_lt _ (mul_lt hb) _), mul_comm' (mul_lt hb) (powN_lt _ (mul_lt hb) _)]
    rfl
theorem inv_is {b : Nat} (h : b < 256) : inv b = powN b 254 := by
  unfold inv; rw [invS_pow 7 b 1 h (by omega)]; exact one_mul' (powN_lt b h _)
theorem inv_is_pow {b : Int} (h0 : 0 ≤ b) (h1 : b ≤ 255) : invI b = powI b 254 := by
  rw [powI_is]; unfold invI; rw [inv_is (by omega)]
theorem pow_255 {b : Int} (h0 : 0 ≤ b) (h1 : b ≤ 255) (hz : b ≠ 0) : powI b 255 = 1 := by
  have e : powN b.toNat 255 = mul (powN b.toNat 254) b.toNat := rfl
  rw [powI_is, e, ← inv_is (by omega), mul_comm' (inv_lt (by omega)) (by omega), mul_inv (by omega) (by omega)]; rfl

theorem Powers_any (b : Int) (w : World) : Calls Try.prog 19 #[.int .u8 b] w fun e w' => e = .returned (.func (.func 26) #[] #[.pointer (some ⟨w.heap.size, 0, none⟩)]) ∧ w.alloc (.cells #[.int .u8 b] 5) = w' := by
  go_enter Try.func19, Try.ntmps19
  go_wp2
  go_ret
  exact ⟨rfl, rfl⟩

set_option maxRecDepth 100000 in
set_option maxHeartbeats 2000000 in
theorem walk (b : Int) (w0 : (Lit.int .u8 b).wf = true) (w : World) :
    Calls Try.prog 12 #[.int .u8 b] w fun e w' => e = .returned (.bool true) ∧ Below w.heap.size w w' := by
  have ⟨b0, b1⟩ := bounds_u8 w0
  clear w0
  refine (callsIn_wide (n := 3)).1 ?_
  refine callsIn_of_wp_marks Try.func12 rfl trivial ?_ rfl
  simp only [Try.ntmps12, List.size_toArray, List.length_cons, List.length_nil, Nat.reduceAdd, Nat.reduceSub, Array.replicate_succ, Array.replicate_zero, List.push_toArray, List.append_toArray, List.nil_append, List.cons_append]
  gi_wp2
  refine ⟨trivial, (callsIn_wide.2 (Double_any (oneK 1) (oneK_key (by omega)) _)).mono ?_⟩
  rintro e w1 ⟨rfl, hb⟩
  have B0 : IntBlk w1 w.heap.size .u8 5 [b] := ((IntBlk.new w .u8 5 [b]).alloc _).below hb (by simp; omega)
  have B1 : BoolBlk w1 (w.heap.size + 1) 4 false := by
    have e := World.alloc_heap_new (w.alloc (.cells #[.int .u8 b] 5)) (.cells #[.bool false] 4)
    rw [World.size_alloc] at e
    exact BoolBlk.below e hb (by simp)
  have BW : Below w.heap.size w w1 := (below_two w _ _).trans (hb.mono (by simp; omega))
  have HB0 := Lib.hid B0
  have HB1 := Lib.hid B1
  have HW := Lib.hid BW
  clear hb B1 BW
  have c0 : w1.cell? ⟨w.heap.size, 0, none⟩ = some (.int .u8 b) := B0.cell (i := 0) (by simp)
  have s0 : w.heap.size < w1.heap.size := B0.lt
  have s1 : w.heap.size + 1 < w1.heap.size := HB1.out.lt
  clear B0
  have eq2 := two_eq
  gi_wp2
  refine ⟨trivial, (callsIn_wide.2 (Powers_any b _)).mono ?_⟩
  rintro e w2 ⟨rfl, rfl⟩
  gi_wp2
  have BI : ∀ o o', OrdI w w1.heap.size b 0 (((((w1.alloc (.cells #[.int .i64 0] 3)).alloc (.cells #[.int .u8 0] 5)).alloc (.cells #[.int .u8 b] 5)).alloc o).alloc o') := fun o o' =>
    ⟨by omega, ((((HB0.out.alloc _).alloc _).alloc _).alloc _).alloc _, ((((HB1.out.alloc _).alloc _).alloc _).alloc _).alloc _, ((blk_first w1 .i64 3 [0] _ _).alloc _).alloc _,
      ((blk_second w1 .u8 5 [0] _ _).alloc _).alloc _, ((blk_third w1 .u8 5 [b] _ _).alloc _).alloc _,
      (((((HW.out.alloc (by omega) _).alloc (by simp; omega) _).alloc (by simp; omega) _).alloc (by simp; omega) _).alloc (by simp; omega) _)⟩
  clear HB0 HB1 HW c0 eq2
  have hs : w1.heap.size + 3 = (((w1.alloc (.cells #[.int .i64 0] 3)).alloc (.cells #[.int .u8 0] 5)).alloc (.cells #[.int .u8 b] 5)).heap.size := by simp
  generalize ((w1.alloc (.cells #[.int .i64 0] 3)).alloc (.cells #[.int .u8 0] 5)).alloc (.cells #[.int .u8 b] 5) = W0 at *
  generalize w1.heap.size = N at *
  have HI := Lib.hid BI
  clear BI
  refine range_told rfl (by omega) (gf := 26) (lb := #[.pointer (some ⟨N + 1 + 1, 0, none⟩)]) rfl trivial (enters_of Try.func26 (by kernel_rfl) rfl)
    (fun i => #[.int .u8 (powI b i)]) (fun _ => rfl) (OrdI w N b) (OrdX w) (fun i W l o o' hl ho hc h => h.turn (by omega) ho hc) (fun c W l o o' hl ho hc h => h.turn (by omega) ho hc) HI.out
    (powers_told _ (N + 1 + 1) 255 b b0 b1 (OrdI w N b) (fun i W h => h.1) (fun i W h => h.box))
    (fun i => { tmps := #[.int .u8 b, .pointer (some ⟨w.heap.size, 0, none⟩), .pointer (some ⟨w.heap.size + 1, 0, none⟩), .pointer (some ⟨N, 0, none⟩), .pointer (some ⟨N + 1, 0, none⟩), .int .u8 (powI b i),
      .agg #[.int .u8 1, .int .u8 0, .int .u8 0, .int .u8 0, .int .u8 0, .int .u8 0, .int .u8 0, .int .u8 0, .int .u8 0, .int .u8 0, .int .u8 0, .int .u8 0, .int .u8 0, .int .u8 0, .int .u8 0, .int .u8 0], .agg (cellsOf .u8 (mk 16 (dbl (oneK 1)))), .agg #[.int .u8 2, .int .u8 0, .int .u8 0, .int .u8 0, .int .u8 0, .int .u8 0, .int .u8 0, .int .u8 0, .int .u8 0, .int .u8 0, .int .u8 0, .int .u8 0, .int .u8 0, .int .u8 0, .int .u8 0, .int .u8 0], .bool false, .int .u8 b, .func (.func 26) #[] #[.pointer (some ⟨N + 1 + 1, 0, none⟩)], .int .u8 (powI b i),
      undef, undef, undef, undef, undef, undef, undef, undef, undef, undef, undef, undef, undef, undef, undef, undef, undef, undef, undef], defers := [] }) ?assign ?body ?stop
  case assign =>
    intro l i W K hi hK
    clear HI
    gi_wp2
    exact hK
  case stop =>
    rintro D c W hD ⟨rfl, hb, hw⟩ hd
    clear HI
    have HB := Lib.hid hb
    have HW := Lib.hid hw
    have HD := Lib.hid hd
    clear hb hw hd
    gi_wp2
    refine ⟨by simp, .inl ⟨_, _, rfl, run_takeDeferred HD.out, ?_⟩⟩
    have hc : (W.putObj D (.deferred none)).cell? ⟨w.heap.size + 1, 0, none⟩ = some (.bool true) := cell_of_one (cells_turn HB.out HD.out rfl)
    refine ⟨.bool true, ?_, rfl, below_turn _ HW.out (by omega)⟩
    simp [results, Try.f12, go_sem, hc]
  case body =>
    intro l i W h1 h2 h
    clear HI
    obtain ⟨hi, hb0, hb1, hn, hl, hx, hw⟩ := h
    have cn : W.cell? ⟨N, 0, none⟩ = some (.int .i64 i) := hn.cell (i := 0) (by simp)
    have fn := hn.free 0
    have fl := hl.free 0
    have cl0 := hl.cell (i := 0) (by simp)
    have pb := powI_bd (b := b) i
    have H0 := Lib.hid hb0
    have H1 := Lib.hid hb1
    have HN := Lib.hid hn
    have HL := Lib.hid hl
    have HX := Lib.hid hx
    have HW := Lib.hid hw
    clear hn hl hx hw
    by_cases a : i < 254
    · have t1 : ((i : Int) == 254) = false := by simp; omega
      have t2 : ((i : Int) == 255) = false := by simp; omega
      have HE : Hid (∀ x y : Int, (if i = 255 then x else y) = if i + 1 = 255 then x else y) := fun x y => by rw [if_neg (by omega), if_neg (by omega)]
      clear hb0 hb1
      gi_wp2
      exact ⟨KeepsOthers.setCell _ _ _, by omega, H0.out.other (by show N ≠ w.heap.size; omega) _, H1.out.other (by show N ≠ w.heap.size + 1; omega) _, HN.out.set 0 _, by rw [← HE.out]; exact HL.out.other (by show N ≠ N + 1; omega) _, HX.out.other (by show N ≠ N + 1 + 1; omega) _, HW.out.setCell (by show w.heap.size ≤ N; omega) _⟩
    · by_cases c : i = 254
      · subst c
        clear hb0 hb1
        gi_wp2
        exact ⟨(KeepsOthers.setCell _ _ _).trans (KeepsOthers.setCell _ _ _), by omega, (H0.out.other (by show N + 1 ≠ w.heap.size; omega) _).other (by show N ≠ w.heap.size; omega) _, (H1.out.other (by show N + 1 ≠ w.heap.size + 1; omega) _).other (by show N ≠ w.heap.size + 1; omega) _,
          (HN.out.other (by show N + 1 ≠ N; omega) _).set 0 _, by rw [if_pos rfl]; exact (HL.out.set 0 _).other (by show N ≠ N + 1; omega) _, (HX.out.other (by show N + 1 ≠ N + 1 + 1; omega) _).other (by show N ≠ N + 1 + 1; omega) _, (HW.out.setCell (by show w.heap.size ≤ N + 1; omega) _).setCell (by show w.heap.size ≤ N; omega) _⟩
      · obtain rfl : i = 255 := by omega
        have cb : W.cell? ⟨w.heap.size, 0, none⟩ = some (.int .u8 b) := hb0.cell (i := 0) (by simp)
        have cr : W.cell? ⟨w.heap.size + 1, 0, none⟩ = some (.bool false) := cell_of_one hb1
        have fr : W.frozen? ⟨w.heap.size + 1, 0, none⟩ = false := free_of_one hb1
        rw [if_pos rfl] at cl0
        replace cl0 : W.cell? ⟨N + 1, 0, none⟩ = some (.int .u8 (powI b 254)) := cl0
        have p254 := powI_bd (b := b) 254
        have e1 : (invI b == powI b 254) = true := by rw [inv_is_pow b0 b1]; simp
        have hmix : Try.prog.follows .mixedOrders = true := by kernel_rfl
        clear hb0 hb1
        by_cases z : b = 0
        · have z1 : (b == 0) = true := by rw [z]; rfl
          clear z
          gi_wp2
          gi_region_with_o (refine ⟨trivial, ?_⟩; refine (CallsIn.inRound l (callsIn_wide.2 (Inv_any _ b0 b1 _))).mono ?_; rintro e w' ⟨rfl, rfl⟩)
          all_goals gi_wp2
          all_goals exact ⟨⟨(KeepsOthers.setCell W ⟨w.heap.size + 1, 0, none⟩ (.bool true)).size, (KeepsOthers.setCell W ⟨w.heap.size + 1, 0, none⟩ (.bool true)).same⟩, rfl, one_setCell H1.out, (HW.out.setCell (by show w.heap.size ≤ w.heap.size + 1; omega) _).drew⟩
        · have z1 : (b == 0) = false := by simpa using z
          have z2 : (powI b 255 == 1) = true := by rw [pow_255 b0 b1 z]; rfl
          clear z
          gi_wp2
          gi_region_with_o (refine ⟨trivial, ?_⟩; refine (CallsIn.inRound l (callsIn_wide.2 (Inv_any _ b0 b1 _))).mono ?_; rintro e w' ⟨rfl, rfl⟩)
          all_goals gi_wp2
          all_goals exact ⟨⟨(KeepsOthers.setCell W ⟨w.heap.size + 1, 0, none⟩ (.bool true)).size, (KeepsOthers.setCell W ⟨w.heap.size + 1, 0, none⟩ (.bool true)).same⟩, rfl, one_setCell H1.out, (HW.out.setCell (by show w.heap.size ≤ w.heap.size + 1; omega) _).drew⟩

set_option maxRecDepth 100000 in
theorem lifted (os : Os) (started : os.Started) (H : Type) (enc : TypeId × Value → H) :
    ReturnsInHanded {} Try.checked os 12 .any (Rows.fieldOrderSpec.pre6 enc Try.prog Try.f12 Rows.fieldOrderRow.domain false) (Rows.fieldOrderSpec.post enc Try.prog Try.f12 false true false false) := by
  refine returnsInHanded_of_change (C := Try.checked) own started (by kernel_rfl) Try.func12
    (ChangeSpec.witness6 (enc := enc) (C := Try.checked) false ⟨#[], #[.int .u8 0], []⟩ 8 (by kernel_rfl) (by kernel_rfl) (by kernel_rfl) (by kernel_rfl)) ?_
  intro W base args ds gs before hval0 hW hcnd _
  have hval : ∀ (j : Nat) t v, Try.f12.params[j]? = some t → args[j]? = some v → Value.okWide Try.prog W .any base t v := hval0
  have hW' := hW
  obtain ⟨p, q, hA0, hV, rfl, hfz, hnd⟩ := hW
  have hA : DataW.TrodAll enc Try.prog W 0 (fun _ => true) true Try.f12.params.toList args.toList ds p := hA0
  rw [Try.params12] at hA hval
  obtain ⟨v0, vs0, d0, ds0, p0, q0, hargs, rfl, rfl, h0, r0⟩ := trodAll_cons hA
  obtain ⟨rfl, rfl, rfl⟩ := trodAll_nil r0
  obtain rfl : args = #[v0] := by cases args; simp_all
  obtain ⟨rfl, rfl⟩ := trodVars_none hV
  obtain ⟨a0, rfl, rfl, rfl, w0⟩ := open_int Try.underlying5 (hval 0 5 v0 rfl rfl) h0
  clear hA0 hval0
  refine (walk a0 w0 W).mono fun e W' ⟨he, bel⟩ => ?_
  subst he
  exact ⟨_, rfl, _, _, _, [], _, [], hW', trodAll_mk1 (shut_bool Try.underlying4 _), (trodAll_cons_mk (shut_int Try.underlying5 w0) trodAll_mk0), rfl, bel.frame _, fun h => by cases h⟩

theorem over : Rows.fieldOrderRow.holds Try.pinned (OpenSpec.ofChange Rows.fieldOrderSpec) :=
  OpenClaim.holds_of_wide 12 Try.f12 rfl rfl rfl rfl rfl rfl rfl ⟨rfl, rfl, rfl, rfl, rfl⟩ rfl rfl rfl rfl rfl (by kernel_rfl) Try.func12 (by kernel_rfl)
    (of_decide_eq_true (by kernel_rfl)) (by unfold Func.isWrapper; first | (rw [if_pos (by decide +kernel)]; kernel_rfl) | (rw [if_neg (by decide +kernel)]; exact ⟨rfl, rfl⟩))
    (fun os started H enc _ => lifted os started H enc)

theorem proved : Rows.FieldOrderSaid := over
end Go.Proofs.Ytccjpofngannhaa.fieldOrder
