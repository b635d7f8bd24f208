/- The contract of the document's own Wrap of layer 7: the text wrapped, or an error's number. Conditions: the bytes are bytes; lengths are what a machine holds. -/
import Derived.Test.YtghdeedglekphaaRefRounds
import Derived.Test.YtghdeedglekphaaWrRefs
import Derived.Test.YtghdeedglekphaaWrAux
import Derived.Test.YtghdeedglekphaaWrNum
namespace Go.Proofs.Ytghdeedglekphaa
open Go.ChangeShapes Go.WideShapes Go.ChangeAt Go.RowKit
set_option linter.unusedVariables false

/-- A block of at least n bytes: what the first n are. -/
def RowB (w : World) (B n : Nat) (F : Nat → Nat) : Prop := ∃ cur, w.heap[B]? = some (.cells cur 5 (0, 0)) ∧ ∀ j, j < n → cur[j]? = some (.int .u8 (F j : Nat))
section
variable {w w' : World} {B n : Nat} {F : Nat → Nat}
theorem RowB.lt (h : RowB w B n F) : B < w.heap.size := let ⟨_, h, _⟩ := h; lt_of_block h
theorem RowB.cell (h : RowB w B n F) {j : Nat} (hj : j < n) : w.cell? ⟨B, j, none⟩ = some (.int .u8 (F j : Nat)) := by
  obtain ⟨cur, h1, h2⟩ := h
  rw [cell_of_row w B j cur _ (0, 0) h1]; exact h2 j hj
theorem RowB.free (h : RowB w B n F) (j : Nat) : w.frozen? ⟨B, j, none⟩ = false := by
  obtain ⟨cur, h1, _⟩ := h
  exact frozen_of_row w B j cur _ h1
theorem RowB.same (h : RowB w B n F) (e : w'.heap[B]? = w.heap[B]?) : RowB w' B n F := by
  obtain ⟨cur, h1, h2⟩ := h
  exact ⟨cur, e.trans h1, h2⟩
theorem RowB.below {M : Nat} (h : RowB w B n F) (hb : Below M w w') (hM : B < M) : RowB w' B n F := h.same (hb.block B hM)
theorem RowB.other (h : RowB w B n F) {a : Addr} (ha : a.block ≠ B) (v : Value) : RowB (w.setCell a v) B n F := h.same (heap_setCell_other _ _ _ _ (fun e => ha e.symm))
theorem RowB.set (h : RowB w B n F) {i : Nat} (hi : i < n) (v : Nat) : RowB (w.setCell ⟨B, i, none⟩ (.int .u8 (v : Nat))) B n (fun j => if j = i then v else F j) := by
  obtain ⟨cur, h1, h2⟩ := h
  refine ⟨_, cells_setCell h1 _, fun j hj => ?_⟩
  have hs : i < cur.size := by
    have := h2 i hi
    exact (Array.getElem?_eq_some_iff.1 this).1
  rw [Array.getElem?_setIfInBounds]
  show _ = some (Value.int .u8 ((if j = i then v else F j : Nat) : Int))
  by_cases e : i = j
  · rw [if_pos e, if_pos hs, if_pos e.symm]
  · rw [if_neg e, if_neg (fun h => e h.symm)]; exact h2 j hj
theorem RowB.congr {G : Nat → Nat} (h : RowB w B n F) (e : ∀ j, j < n → F j = G j) : RowB w B n G := by
  obtain ⟨cur, h1, h2⟩ := h
  exact ⟨cur, h1, fun j hj => by rw [← e j hj]; exact h2 j hj⟩
theorem RowB.bytes (h : RowB w B n F) : BytesAt w (some ⟨B, 0, none⟩) n F := .inr ⟨B, 0, rfl, h.lt, fun j hj => by rw [Nat.zero_add]; exact h.cell hj⟩
end
theorem OwnS.rowB {w : World} {base top : Nat} {v : Value} {k : Nat} {F : Nat → Nat} (h : OwnS 5 1 w base top v k F) (hk : 0 < k) : ∃ B c, v = .slice (some ⟨B, 0, none⟩) k c ∧ base ≤ B ∧ k ≤ c ∧ RowB w B k F := by
  rcases h with ⟨h1, h2⟩ | ⟨B, c, cur, h1, h2, h3, h4, h5, h6, h7, h8⟩
  · omega
  · refine ⟨B, c, h1, h2, h5, cur, h4, fun j hj => ?_⟩
    have := bytesList_at (n := k * 1) (F := F) (j := j) (by omega)
    rw [← h8, List.getElem?_take_of_lt (by omega)] at this
    simpa using this

/-- A and word i laid into a block, x bytes of each. -/
def glTo (S : Nat → Nat) (i x : Nat) : Nat → Nat := fun p => if p < 8 then (if p < x then S p else 0) else (if p - 8 < x then S (8 * i + p) else 0)
theorem glTo_start (S : Nat → Nat) (i : Nat) : mk 16 (glTo S i 0) = mk 16 zeroK := mk_ext fun p hp => by
  unfold glTo zeroK; split <;> rw [if_neg (by omega)]
theorem glTo_end (S : Nat → Nat) (i : Nat) : mk 16 (glTo S i 8) = mk 16 (gl S i) := mk_ext fun p hp => by
  unfold glTo gl
  by_cases h : p < 8
  · rw [if_pos h, if_pos h, if_pos h]
  · rw [if_neg h, if_neg h, if_pos (by omega)]
theorem glTo_step (S : Nat → Nat) (i : Nat) {x : Nat} (hx : x < 8) : ((mk 16 (glTo S i x)).set x (S x : Nat)).set (8 + x) (S (8 * i + (8 + x)) : Nat) = mk 16 (glTo S i (x + 1)) := by
  rw [mk_set_is (n := 16) (f := glTo S i x) (g := fun p => if p = x then S x else glTo S i x p) (i := x) (v := S x) rfl fun p hp => rfl]
  refine mk_set_is (v := S (8 * i + (8 + x))) rfl fun p hp => ?_
  unfold glTo
  by_cases e : p = 8 + x
  · subst e; rw [if_pos rfl, if_neg (by omega), if_pos (by omega)]
  · rw [if_neg e]
    by_cases e2 : p = x
    · subst e2; rw [if_pos rfl, if_pos hx, if_pos (by omega)]
    · rw [if_neg e2]
      by_cases h : p < 8
      · rw [if_pos h, if_pos h]
        by_cases l : p < x
        · rw [if_pos l, if_pos (by omega)]
        · rw [if_neg l, if_neg (by omega)]
      · rw [if_neg h, if_neg h]
        by_cases l : p - 8 < x
        · rw [if_pos l, if_pos (by omega)]
        · rw [if_neg l, if_neg (by omega)]
/-- A's last y bytes made. -/
def aTo (t : Nat) (S k : Nat → Nat) (y : Nat) : Nat → Nat := fun p => if 8 - y ≤ p ∧ p < 8 then k p ^^^ stN t p else S p
theorem aTo_start (t : Nat) (S k : Nat → Nat) : mk 8 (aTo t S k 0) = mk 8 S := mk_ext fun p hp => by unfold aTo; rw [if_neg (by omega)]
theorem aTo_end (t : Nat) (S k : Nat → Nat) (i : Nat) : mk 8 (aTo t S k 8) = mk 8 (lay S i (numX t k)) := mk_ext fun p hp => by
  unfold aTo lay numX; rw [if_pos (by omega), if_pos hp, if_pos hp]
theorem aTo_step (t : Nat) (S k : Nat → Nat) {y : Nat} (h : y < 8) : (mk 8 (aTo t S k y)).set (7 - y) ((k (7 - y) ^^^ t / 256 ^ y % 256 : Nat) : Int) = mk 8 (aTo t S k (y + 1)) := by
  refine mk_set_is (v := k (7 - y) ^^^ t / 256 ^ y % 256) rfl fun j hj => ?_
  unfold aTo
  by_cases e : j = 7 - y
  · subst e
    rw [if_pos rfl, if_pos (by omega)]
    unfold stN
    rw [show 7 - (7 - y) = y by omega]
  · rw [if_neg e]
    by_cases l : 8 - y ≤ j ∧ j < 8
    · rw [if_pos l, if_pos (by omega)]
    · rw [if_neg l, if_neg (by omega)]
/-- Word i's last y bytes made. -/
def rTo (S k : Nat → Nat) (i y : Nat) : Nat → Nat := fun p => if 8 * i + 8 - y ≤ p ∧ p < 8 * i + 8 then k (p + 8 - 8 * i) else txt S p
theorem rTo_start (S k : Nat → Nat) (i : Nat) : rTo S k i 0 = txt S := funext fun p => by unfold rTo; rw [if_neg (by omega)]
theorem rTo_end (t : Nat) (S k : Nat → Nat) (i : Nat) : rTo S k i 8 = txt (lay S i (numX t k)) := funext fun p => by
  unfold rTo txt lay numX
  by_cases h : 8 * i + 8 - 8 ≤ p ∧ p < 8 * i + 8
  · rw [if_pos h, if_neg (by omega), if_pos (by omega), if_neg (by omega)]
  · rw [if_neg h, if_neg (by omega), if_neg (by omega)]
theorem rTo_step (S k : Nat → Nat) (i : Nat) {y : Nat} (h : y < 8) : (fun j => if j = 8 * i + (7 - y) then k (8 + (7 - y)) else rTo S k i y j) = rTo S k i (y + 1) := funext fun p => by
  unfold rTo
  by_cases e : p = 8 * i + (7 - y)
  · rw [if_pos e, if_pos (by omega), show p + 8 - 8 * i = 8 + (7 - y) by omega]
  · rw [if_neg e]
    by_cases l : 8 * i + 8 - y ≤ p ∧ p < 8 * i + 8
    · rw [if_pos l, if_pos (by omega)]
    · rw [if_neg l, if_neg (by omega)]

theorem refWrap_key (p : Option Addr) (n cap : Nat) (q : Option Addr) (tn tcap : Nat) (h16 : n ≠ 16) (h32 : n ≠ 32) (w : World) :
    Calls Try.prog 18 #[.slice p n cap, .slice q tn tcap] w fun e w' => e = .returned (.tuple #[.slice none 0 0, .int .i64 3]) ∧ w = w' := by
  go_enter Try.func18, Try.ntmps18
  go_wp2_with (first
    | (go_at_call 28; refine (refRounds_bad p n cap h16 h32 _).mono ?_; rintro e w1 ⟨rfl, rfl⟩))
  go_ret2
  exact ⟨rfl, rfl⟩
set_option maxRecDepth 100000 in
set_option maxHeartbeats 1000000 in
theorem refWrap_form (p : Option Addr) (n cap N : Nat) (g : Nat → Nat) (q : Option Addr) (tn tcap : Nat) (hn : n = 4 * N) (hN : N = 4 ∨ N = 8) (hg : ∀ i, i < n → g i < 256)
    (ht : tn % 8 ≠ 0 ∨ tn < 16 ∨ 512 < tn) (w : World) (hp : BytesAt w p n g) :
    Calls Try.prog 18 #[.slice p n cap, .slice q tn tcap] w fun e w' => e = .returned (.tuple #[.slice none 0 0, .int .i64 2]) ∧ Below w.heap.size w w' := by
  have RC := Lib.hid (refRounds_ok p n cap N g hn hN hg w hp)
  clear hn hN hg hp
  rcases (show ((((tn : Int) % 8) != 0) = true) ∨ ((((tn : Int) % 8) != 0) = false ∧ decide ((tn : Int) < 16) = true) ∨ ((((tn : Int) % 8) != 0) = false ∧ decide ((tn : Int) < 16) = false ∧ decide ((512 : Int) < (tn : Int)) = true) by simp; omega) with d1 | ⟨d1, d2⟩ | ⟨d1, d2, d3⟩
  all_goals
    clear ht
    go_enter Try.func18, Try.ntmps18
    go_wp2_with (first
      | (go_at_call 28; refine RC.out.mono ?_; rintro e w1 ⟨qk, ck, rfl, _, hb⟩; clear RC))
    go_ret2
    exact ⟨rfl, hb⟩
theorem own_eight {w : World} {A base : Nat} {F : Nat → Nat} (h : IntBlk w A .u8 5 (mk 8 F)) (hb : base ≤ A) : OwnS 5 1 w base w.heap.size (.slice (some ⟨A, 0, none⟩) 8 8) 8 F :=
  .inr ⟨A, 8, cellsOf .u8 (mk 8 F), rfl, hb, h.lt, h, Nat.le_refl _, by decide, by rw [cellsOf_size, mk_len], by
    have e : (cellsOf .u8 (mk 8 F)).toList = bytesList 8 F := by simp [cellsOf, mk, bytesList]
    rw [e, Nat.mul_one]
    exact List.take_of_length_le (by rw [bytesList_len]; omega)⟩
set_option maxRecDepth 100000 in
set_option maxHeartbeats 4000000 in
theorem refWrap_ok (p : Option Addr) (n cap N : Nat) (g : Nat → Nat) (q : Option Addr) (tn tcap m : Nat) (G : Nat → Nat) (hn : n = 4 * N) (hN : N = 4 ∨ N = 8) (hg : ∀ i, i < n → g i < 256)
    (ht : tn = 8 * m) (h2 : 2 ≤ m) (h64 : m ≤ 64) (hG : ∀ i, i < tn → G i < 256) (w : World) (hp : BytesAt w p n g) (hq : BytesAt w q tn G) :
    Calls Try.prog 18 #[.slice p n cap, .slice q tn tcap] w fun e w' => ∃ q' c, e = .returned (.tuple #[.slice q' (tn + 8) c, .int .i64 0]) ∧ BytesAt w' q' (tn + 8) (wrpN (rkS N g) (N + 7) m G) ∧ tn + 8 ≤ c ∧ c ≤ maxLen ∧ Below w.heap.size w w' := by
  have RC := Lib.hid (refRounds_ok p n cap N g hn hN hg w hp)
  have hR : ∀ i, i < N + 7 → IsKey (rkS N g i) := fun i _ => rkS_key (fun i hi => hg i (by omega)) i
  have hT : N + 7 < 4294967296 := by omega
  have d1 : (((tn : Int) % 8) != 0) = false := by simp; omega
  have d2 : decide ((tn : Int) < 16) = false := by simp; omega
  have d3 : decide ((512 : Int) < (tn : Int)) = false := by simp; omega
  have d4 : (tn : Int) / 8 = (m : Int) := by omega
  have HTN := Lib.hid ht
  have HQ := Lib.hid hq
  have htn : tn ≤ 512 := by omega
  have htn0 : 0 < tn := by omega
  clear hn hN hg hp hq ht
  generalize rkS N g = R at *
  generalize N + 7 = T at *
  go_enter Try.func18, Try.ntmps18
  go_wp2_with (first
    | (go_at_call 28; refine RC.out.mono ?_; rintro e w1 ⟨qk, ck, rfl, hk, hb⟩
       have B1 := Lib.hid hb
       have K1 := Lib.hid hk
       have o2 := OwnS.empty (w1.alloc (.cells (cellsOf .u8 (mk 8 (ini G))) 5)) G (w1.heap.size + 1) (by simp)
       rw [World.size_alloc] at o2
       have O2 := Lib.hid o2
       have a2 : Below w1.heap.size w1 ((w1.alloc (.cells (cellsOf .u8 (mk 8 (ini G))) 5)).alloc (.cells (cellsOf .u8 []) 5)) := below_two w1 _ _
       have A2 := Lib.hid a2
       have Q2 := Lib.hid ((HQ.out.below hb).below a2)
       have Z2 := Lib.hid ((IntBlk.new w1 .u8 5 (mk 8 (ini G))).alloc (.cells (cellsOf .u8 []) 5))
       have hb2 : w1.heap.size + 1 ≤ ((w1.alloc (.cells (cellsOf .u8 (mk 8 (ini G))) 5)).alloc (.cells (cellsOf .u8 []) 5)).heap.size := by simp
       clear hk hb RC HQ o2 a2)
    | (refine wpList_append_own_bytes rfl _ _ rfl (w1.heap.size + 1) (w1.heap.size + 1 + 1) 0 (.slice (some ⟨w1.heap.size + 1, 0, none⟩) 0 0) G G q tn tcap rfl rfl O2.out Q2.out (fun j _ => by rw [Nat.zero_add]) (by omega) hb2 ?_
       intro v3 w3 o3 b3
       rw [Nat.zero_add] at o3
       have Z3 := Lib.hid (Z2.out.below b3 (by omega))
       have B3 := Lib.hid (A2.out.trans (b3.mono (by omega)))
       have s3 := b3.size
       obtain ⟨Rb, rc, rfl, hRb, hrc, hrow⟩ := o3.rowB htn0
       have R3 := Lib.hid hrow
       clear O2 A2 Q2 Z2 hb2 o3 b3 hrow))
  obtain ⟨S, hS⟩ : ∃ S, wTo R T m (ini G) = S := ⟨_, rfl⟩
  have hS0 : S 0 = ini G := by rw [← hS]; rfl
  have hSs : ∀ i, S (i + 1) = lay (S i) (i % m) (numX (i + 1) (encK R T (gl (S i) (i % m)))) := fun i => by rw [← hS]; rfl
  have hSr : ∀ i, IsRow (8 * m + 8) (S i) := fun i => by
    rw [← hS]; exact wTo_row hR (by omega) (ini_row (fun j hj => hG j (by have := HTN.out; omega))) i
  have hSe : wrpN R T m G = S (6 * m) := by rw [← hS]; rfl
  have HS0 := Lib.hid hS0; have HSs := Lib.hid hSs; have HSr := Lib.hid hSr; have HSe := Lib.hid hSe
  have hz0 : IntBlk w3 w1.heap.size .u8 5 (mk 8 (S 0)) := by rw [hS0]; exact Z3.out
  have hr0 : RowB w3 Rb tn (txt (S 0)) := by rw [hS0, txt_ini]; exact R3.out
  have HZ0 := Lib.hid hz0; have HR0 := Lib.hid hr0
  clear hS hS0 hSs hSr hSe hz0 hr0 Z3 R3
  obtain ⟨A, hA⟩ : ∃ A, w1.heap.size = A := ⟨_, rfl⟩
  rw [hA] at HZ0 hRb ⊢
  have B3' := Lib.hid (show Below A w1 w3 by rw [← hA]; exact B3.out)
  have HAe := Lib.hid hA
  clear B3 s3 hA d1 d2 d3
  go_loopw [12, 11] (fun v12 v11 wr => ∃ j : Nat, j ≤ 6 ∧ v12 = .int .i64 j ∧ v11 = .int .i64 ((j * m : Nat) : Int) ∧ IntBlk wr A .u8 5 (mk 8 (S (j * m))) ∧ RowB wr Rb tn (txt (S (j * m))) ∧ Below A w1 wr) (fun v12 _ _ => 6 - (intOf v12).toNat)
  case atStart => exact ⟨0, by omega, rfl, by rw [Nat.zero_mul]; rfl, by rw [Nat.zero_mul]; exact HZ0.out, by rw [Nat.zero_mul]; exact HR0.out, B3'.out⟩
  case round =>
    obtain ⟨j, hj6, rfl, rfl, hz, hr, hb⟩ := hrel
    have HZ := Lib.hid hz; have HR := Lib.hid hr; have HB := Lib.hid hb
    clear hz hr hb HZ0 HR0 B3'
    by_cases hlt : j < 6
    · have e1 : (j : Int) < 6 := by omega
      generalize wr = wo at *
      go_wp2
      go_loopw [13, 11] (fun v13 v11 wr => ∃ i : Nat, i ≤ m ∧ v13 = .int .i64 i ∧ v11 = .int .i64 ((j * m + i : Nat) : Int) ∧ IntBlk wr A .u8 5 (mk 8 (S (j * m + i))) ∧ RowB wr Rb tn (txt (S (j * m + i))) ∧ Below A w1 wr) (fun v13 _ _ => m - (intOf v13).toNat)
      case atStart => exact ⟨0, by omega, rfl, rfl, HZ.out, HR.out, HB.out⟩
      case round =>
        obtain ⟨i, hi, rfl, rfl, hz, hr, hb⟩ := hrel
        have HZ := Lib.hid hz; have HR := Lib.hid hr; have HB := Lib.hid hb
        clear hz hr hb
        have hmul : j * m ≤ 5 * 64 := Nat.mul_le_mul (by omega) h64
        by_cases him : i < m
        · have e2 : (i : Int) < (m : Int) := by omega
          have hmod : (j * m + i) % m = i := by rw [Nat.mul_comm, Nat.mul_add_mod, Nat.mod_eq_of_lt him]
          have SX := HSs.out (j * m + i)
          rw [hmod] at SX
          have HX := Lib.hid (show j * m + (i + 1) = (j * m + i) + 1 by omega)
          generalize hx : j * m + i = x at *
          have q1 : IntKind.i64.wrap ((x : Int) + 1) = ((x + 1 : Nat) : Int) := by rw [IntWalk.i64_in _ (by omega)]; omega
          have hxb : x ≤ 400 := by omega
          have SXX := Lib.hid SX
          have hgl : IsKey (gl (S x) i) := gl_key (HSr.out x) him
          clear hx hmod SX hmul
          generalize wr = wi at *
          have hAK := HZ.out.lt
          have hRK := HR.out.lt
          go_wp2
          have K0 := Lib.hid (IntBlk.new wi .u8 65 (mk 16 zeroK))
          have B0 := Lib.hid (show Below wi.heap.size wi (wi.alloc (.cells (cellsOf .u8 (mk 16 zeroK)) 65)) from (Below.refl _ _).alloc (Nat.le_refl _) _)
          go_loopw [15] (fun v15 wr => ∃ k : Nat, k ≤ 8 ∧ v15 = .int .i64 k ∧ IntBlk wr wi.heap.size .u8 65 (mk 16 (glTo (S x) i k)) ∧ Below wi.heap.size wi wr) (fun v15 _ => 8 - (intOf v15).toNat)
          case atStart => exact ⟨0, by omega, rfl, by rw [glTo_start]; exact K0.out, B0.out⟩
          case round =>
            clear K0 B0
            obtain ⟨k, hk, rfl, hkb, hkl⟩ := hrel
            have HK := Lib.hid hkb; have HL := Lib.hid hkl
            by_cases hk8 : k < 8
            · have a1 := (HZ.out.below hkl hAK).cell (i := k) (by rw [mk_len]; omega)
              rw [mk_get hk8] at a1
              have hp8 : 8 * i + k < tn := by have := HTN.out; omega
              have a2 := (HR.out.below hkl hRK).cell (j := 8 * i + k) hp8
              rw [show txt (S x) (8 * i + k) = S x (8 * i + (8 + k)) by unfold txt; rw [show 8 * i + k + 8 = 8 * i + (8 + k) by omega]] at a2
              have f1 := hkb.free k
              have f2 := hkb.free (8 + k)
              have q2 : IntKind.i64.wrap (8 + (k : Int)) = ((8 + k : Nat) : Int) := by rw [IntWalk.i64_in _ (by omega)]; omega
              have q3 : IntKind.i64.wrap (8 * (i : Int)) = ((8 * i : Nat) : Int) := by rw [IntWalk.i64_in _ (by omega)]; omega
              have q4 : IntKind.i64.wrap (((8 * i : Nat) : Int) + (k : Int)) = ((8 * i + k : Nat) : Int) := by rw [IntWalk.i64_in _ (by omega)]; omega
              have c1 := hkb.cell (i := k) (by rw [mk_len]; omega)
              have c2 := hkb.cell (i := 8 + k) (by rw [mk_len]; omega)
              have e8 : (k : Int) < 8 := by omega
              clear hkb hkl
              go_wp2
              go_roundw
              case rel => exact ⟨k + 1, by omega, by go_num, by rw [← glTo_step (S x) i hk8]; exact (HK.out.set k _).set (8 + k) _, (HL.out.setCell (Nat.le_refl _) _).setCell (Nat.le_refl _) _⟩
              case measure => simp [intOf]; omega
            · obtain rfl : k = 8 := by omega
              rw [glTo_end] at HK
              have BL := Lib.hid (HB.out.trans (HL.out.mono (Nat.le_of_lt hAK)))
              have hAr : A ≤ wr.heap.size := by have := HK.out.lt; omega
              have EC := Lib.hid (refEncrypt_any qk T ck R (gl (S x) i) hR hgl hT wr (K1.out.below (show Below w1.heap.size w1 wr by rw [HAe.out]; exact BL.out)))
              have HZ1 := Lib.hid (HZ.out.below hkl hAK)
              have HR1 := Lib.hid (HR.out.below hkl hRK)
              have hen : IsKey (encK R T (gl (S x) i)) := encK_key hR hgl
              clear hkb hkl hk8 HL
              generalize gl (S x) i = gk at *
              go_wp2_with (first
                | (refine wpList_load_row rfl 65 _ rfl wi.heap.size rfl 65 (cellsOf .u8 (mk 16 gk)) (0, 0) _ HK.out keyUnder rfl (keySize _) ?_)
                | (go_at_call 29; refine EC.out.mono ?_; rintro e w5 ⟨rfl, hb5⟩
                   have K5 := Lib.hid (HK.out.below hb5 HK.out.lt)
                   have Z5 := Lib.hid (HZ1.out.below hb5 HZ1.out.lt)
                   have R5 := Lib.hid (HR1.out.below hb5 HR1.out.lt)
                   have B5 := Lib.hid (BL.out.trans (hb5.mono hAr))
                   clear hb5 EC HK HZ1 HR1 BL)
                | (refine store_row_on rfl 65 _ _ rfl rfl wi.heap.size (cellsOf .u8 (mk 16 (encK R T gk))) rfl rfl 65 (cellsOf .u8 (mk 16 gk)) K5.out (keySize _) (by rw [cellsOf_size, cellsOf_size, mk_len, mk_len]) (cellsOf_one _ _) ?_
                   have k6 := K5.out.setRow .u8 (mk 16 (encK R T gk))
                   have z6 := Z5.out.otherRow (C := wi.heap.size) (by omega) (cellsOf .u8 (mk 16 (encK R T gk)))
                   have r6 := R5.out.same (setRow_other w5 wi.heap.size Rb (cellsOf .u8 (mk 16 (encK R T gk))) (by omega))
                   have b6 := below_setRow (g := wi.heap.size) B5.out (by omega) (cellsOf .u8 (mk 16 (encK R T gk)))
                   generalize w5.setRow wi.heap.size (cellsOf .u8 (mk 16 (encK R T gk))) = w6 at *
                   have K6 := Lib.hid k6; have Z6 := Lib.hid z6; have R6 := Lib.hid r6; have B6 := Lib.hid b6
                   clear k6 z6 r6 b6 K5 Z5 R5 B5))
              generalize encK R T gk = en at *
              generalize wi.heap.size = KB at *
              clear hAr
              go_loopw [17, 16] (fun v17 v16 wq => ∃ y : Nat, y ≤ 8 ∧ v17 = .int .i64 (7 - (y : Int)) ∧ v16 = .int .i64 (((x + 1) / 256 ^ y : Nat) : Int) ∧ IntBlk wq KB .u8 65 (mk 16 en) ∧ IntBlk wq A .u8 5 (mk 8 (aTo (x + 1) (S x) en y)) ∧ RowB wq Rb tn (rTo (S x) en i y) ∧ Below A w1 wq) (fun v17 _ _ => (intOf v17 + 1).toNat)
              case atStart => exact ⟨0, by omega, rfl, by rw [Nat.pow_zero, Nat.div_one]; rfl, K6.out, by rw [aTo_start]; exact Z6.out, by rw [rTo_start]; exact R6.out, B6.out⟩
              case round =>
                clear K6 Z6 R6 B6
                obtain ⟨y, hy, rfl, rfl, hk, hz, hr, hb⟩ := hrel
                have HK := Lib.hid hk; have HZ := Lib.hid hz; have HR := Lib.hid hr; have HB := Lib.hid hb
                by_cases hy8 : y < 8
                · have HSa := Lib.hid (aTo_step (x + 1) (S x) en hy8)
                  have HSr' := Lib.hid (rTo_step (S x) en i hy8)
                  have hpw : (x + 1) / 256 ^ y / 256 = (x + 1) / 256 ^ (y + 1) := by rw [Nat.div_div_eq_div_mul, Nat.pow_succ]
                  have HPW := Lib.hid hpw
                  have hmI : (7 : Int) - (y : Int) = ((7 - y : Nat) : Int) := by omega
                  have hkm := hen (7 - y) (by omega)
                  rw [hmI]
                  have c1 := hk.cell (i := 7 - y) (by rw [mk_len]; omega)
                  have c2 := hk.cell (i := 8 + (7 - y)) (by rw [mk_len]; omega)
                  rw [mk_get (by omega)] at c1 c2
                  have c3 := hz.cell (i := 7 - y) (by rw [mk_len]; omega)
                  have f3 := hz.free (7 - y)
                  have hp8 : 8 * i + (7 - y) < tn := by have := HTN.out; omega
                  have c4 := hr.cell (j := 8 * i + (7 - y)) hp8
                  have f4 := hr.free (8 * i + (7 - y))
                  have HMy := Lib.hid (show ((7 - y : Nat) : Int) - 1 = 7 - ((y + 1 : Nat) : Int) by omega)
                  have hm8 : 7 - y < 8 := by omega
                  clear hk hz hr hb hmI hpw
                  generalize 7 - y = mm at *
                  have htq : (x + 1) / 256 ^ y ≤ x + 1 := Nat.div_le_self _ _
                  generalize (x + 1) / 256 ^ y = tq at *
                  have q2 : IntKind.i64.wrap (8 + (mm : Int)) = ((8 + mm : Nat) : Int) := by rw [IntWalk.i64_in _ (by omega)]; omega
                  have q3 : IntKind.i64.wrap (8 * (i : Int)) = ((8 * i : Nat) : Int) := by rw [IntWalk.i64_in _ (by omega)]; omega
                  have q4 : IntKind.i64.wrap (((8 * i : Nat) : Int) + (mm : Int)) = ((8 * i + mm : Nat) : Int) := by rw [IntWalk.i64_in _ (by omega)]; omega
                  have q5 : IntKind.i64.wrap ((mm : Int) - 1) = (mm : Int) - 1 := IntWalk.i64_in _ (by omega)
                  have q6 : IntKind.i64.wrap ((tq : Int) / 256) = ((tq / 256 : Nat) : Int) := by rw [IntWalk.i64_in _ (by omega)]; omega
                  have HV := Lib.hid (show bits .xor .u8 (en mm : Int) ((tq : Int) % 256) = ((en mm ^^^ tq % 256 : Nat) : Int) by
                    rw [show (tq : Int) % 256 = ((tq % 256 : Nat) : Int) by omega]; exact bits_xor_u8 hkm (Nat.mod_lt tq (show 0 < 256 by omega)))
                  clear htq
                  go_wp2
                  go_roundw
                  case rel =>
                    refine ⟨y + 1, by omega, by rw [HMy.out], by rw [← HPW.out]; rfl, (HK.out.other (by show A ≠ KB; omega) _).other (by show Rb ≠ KB; omega) _, ?_, ?_, (HB.out.setCell (Nat.le_refl A) _).setCell (by show A ≤ Rb; omega) _⟩
                    · rw [HV.out, ← HSa.out]; exact (HZ.out.set mm _).other (by show Rb ≠ A; omega) _
                    · rw [← HSr'.out]; exact (HR.out.other (by show A ≠ Rb; omega) _).set hp8 _
                  case measure => simp [intOf]
                · obtain rfl : y = 8 := by omega
                  have e8 : decide ((0 : Int) ≤ 7 - ((8 : Nat) : Int)) = false := by decide
                  clear hk hz hr hb hy8
                  rw [aTo_end _ _ _ i, ← SXX.out] at HZ
                  rw [rTo_end (x + 1), ← SXX.out] at HR
                  generalize ((x + 1) / 256 ^ 8 : Nat) = tq at *
                  go_wp2
                  go_roundw
                  case rel => exact ⟨i + 1, by omega, by go_num, by rw [HX.out]; rfl, by rw [HX.out]; exact HZ.out, by rw [HX.out]; exact HR.out, HB.out⟩
                  case measure => simp [intOf]; omega
        · obtain rfl : i = m := by omega
          clear hmul
          go_wp2
          go_roundw
          case rel => exact ⟨j + 1, by omega, by go_num, by rw [Nat.add_mul, Nat.one_mul], by rw [Nat.add_mul, Nat.one_mul]; exact HZ.out, by rw [Nat.add_mul, Nat.one_mul]; exact HR.out, HB.out⟩
          case measure => simp [intOf]; omega
    · obtain rfl : j = 6 := by omega
      generalize wr = wo at *
      have hAw := HB.out.size
      have hAl := HZ.out.lt
      have htA : 8 + tn ≤ 100000 := by omega
      have hAw2 : A ≤ wo.heap.size := by omega
      have HTX := Lib.hid (show ∀ j, j < tn → txt (S (6 * m)) j = S (6 * m) (8 + j) from fun j _ => by unfold txt; rw [Nat.add_comm])
      have OE := Lib.hid (own_eight HZ.out (Nat.le_refl _))
      have BR := Lib.hid HR.out.bytes
      clear hAl
      go_wp2_with (first
        | (refine wpList_append_own_bytes rfl _ _ rfl A wo.heap.size 8 (.slice (some ⟨A, 0, none⟩) 8 8) (S (6 * m)) (txt (S (6 * m))) (some ⟨Rb, 0, none⟩) tn rc rfl rfl OE.out BR.out HTX.out htA hAw2 ?_; intro v4 w4 o4 b4))
      rw [Nat.add_comm 8 tn] at o4
      obtain ⟨q', c', rfl, hkc', hcm', hby', _⟩ := o4.bytes (Nat.le_refl _)
      have hBw := B1.out.trans ((HB.out.trans b4).mono (by rw [← HAe.out]; exact B1.out.size))
      go_ret2
      exact ⟨q', c', rfl, by rw [HSe.out]; exact hby', hkc', hcm', hBw⟩
end Go.Proofs.Ytghdeedglekphaa
