/- Package sbox's words are substituted and turned as the document says: the statement SboxWords. No condition. -/
import Derived.Test.YtpllcaeghpijiaaQuietW
import Derived.Test.YtpllcaeghpijiaaSubK
import Derived.Test.YtpllcaeghpijiaaRotC
import Derived.Test.YtpllcaeghpijiaaRefSub
import Derived.Test.YtpllcaeghpijiaaOpen
import Derived.Test.YtpllcaeghpijiaaOrders
import Derived.Test.YtpllcaeghpijiaaQuietB
namespace Go.Proofs.Ytpllcaeghpijiaa.sboxWords
open Go.ChangeShapes Go.WideShapes Go.ChangeAt Go.RowKit
set_option linter.unusedVariables false

theorem own : ownKnob Try.prog.godebug = none := by kernel_rfl
theorem wordZero_run (W : World) : (zeroValue 26).run Try.prog W = .ok (.agg (cellsOf .u8 (mk 4 zeroK))) W := by
  have h : (Try.prog.info? 26).bind (·.zero) = some (.agg (cellsOf .u8 (mk 4 zeroK))) := by kernel_rfl
  cases hq : Try.prog.info? 26 with
  | none => rw [hq] at h; simp at h
  | some i =>
    rw [hq] at h
    simp only [Option.bind_some] at h
    simp [zeroValue, typeInfo, hq, h]
theorem call_subword (args : Array Value) (w : World) : (callFunc 13 args).run Try.prog w = .ok (.enter 13 args) w := by simp [go_sem]
theorem call_rotate (args : Array Value) (w : World) : (callFunc 14 args).run Try.prog w = .ok (.enter 14 args) w := by simp [go_sem]
theorem call_ref (args : Array Value) (w : World) : (callFunc 10 args).run Try.prog w = .ok (.enter 10 args) w := by simp [go_sem]
attribute [local irreducible] subN subI

/-- The word, substituted, turned. -/
def wd (f : Nat → Nat) : Value := .agg (cellsOf .u8 (mk 4 f))
def ptr (T : Nat) : Value := .pointer (some ⟨T, 0, none⟩)
def frame (f : Nat → Nat) (B : Nat) (s3 s4 s7 s8 s9 s10 : Value) : Act :=
  { tmps := #[wd f, ptr B, .bool false, s3, s4, undef, undef, s7, s8, s9, s10, undef, undef, undef, undef, undef, undef, undef, undef, undef, undef, undef, undef, undef, undef, undef, undef, undef, undef, undef, undef, undef], defers := [] }
/-- The state, these operations being over: both words are read and made, two blocks are made, and written. -/
structure St (f : Nat → Nat) (w : World) (b0 b1 b2 b3 b4 b5 b6 b7 : Bool) (s3 s4 s7 s8 s9 s10 : Value) (a : Act) (W : World) : Prop where
  hA : a = frame f w.heap.size s3 s4 s7 s8 s9 s10
  h0 : b0 = true → s7 = wd f
  h1 : b1 = true → s8 = wd (fun i => subN (f i))
  h2 : b2 = true → s9 = wd f
  h3 : b3 = true → s10 = wd (turnK f)
  h4 : b4 = true → ∃ T, s3 = ptr T ∧ w.heap.size < T ∧ IntBlk W T .u8 26 (mk 4 (if b6 then (fun i => subN (f i)) else zeroK))
  h5 : b5 = true → ∃ T, s4 = ptr T ∧ w.heap.size < T ∧ IntBlk W T .u8 26 (mk 4 (if b7 then turnK f else zeroK))
  h6 : b4 = true → b5 = true → s3 ≠ s4
  h7 : IntBlk W w.heap.size .u8 26 (mk 4 f)
  h8 : Below w.heap.size w W

def Over (f : Nat → Nat) (w : World) (n : Nat) (L : Array Bool) (a : Act) (W : World) : Prop :=
  ∃ (b0 b1 b2 b3 b4 b5 b6 b7 : Bool) (s3 s4 s7 s8 s9 s10 : Value), L = #[b0, b1, b2, b3, b4, b5, b6, b7] ∧ n + b0.toNat + b1.toNat + b2.toNat + b3.toNat + b4.toNat + b5.toNat + b6.toNat + b7.toNat = 8 ∧
    (b6 = true → b1 = true ∧ b3 = true ∧ b4 = true ∧ b5 = true) ∧ (b7 = true → b6 = true) ∧ (b1 = true → b0 = true) ∧ (b3 = true → b1 = true ∧ b2 = true) ∧ St f w b0 b1 b2 b3 b4 b5 b6 b7 s3 s4 s7 s8 s9 s10 a W

theorem st_read0 {f : Nat → Nat} {w W : World} {b0 b1 b2 b3 b4 b5 b6 b7 : Bool} {s3 s4 s7 s8 s9 s10 : Value} {a : Act} (h : St f w b0 b1 b2 b3 b4 b5 b6 b7 s3 s4 s7 s8 s9 s10 a W) : St f w true b1 b2 b3 b4 b5 b6 b7 s3 s4 (wd f) s8 s9 s10 (a.put (some 7) (wd f)) W :=
  ⟨by rw [h.hA]; rfl, fun _ => rfl, h.h1, h.h2, h.h3, h.h4, h.h5, h.h6, h.h7, h.h8⟩
theorem st_read2 {f : Nat → Nat} {w W : World} {b0 b1 b2 b3 b4 b5 b6 b7 : Bool} {s3 s4 s7 s8 s9 s10 : Value} {a : Act} (h : St f w b0 b1 b2 b3 b4 b5 b6 b7 s3 s4 s7 s8 s9 s10 a W) : St f w b0 b1 true b3 b4 b5 b6 b7 s3 s4 s7 s8 (wd f) s10 (a.put (some 9) (wd f)) W :=
  ⟨by rw [h.hA]; rfl, h.h0, h.h1, fun _ => rfl, h.h3, h.h4, h.h5, h.h6, h.h7, h.h8⟩
/-- Behind a call: nothing that was there has turned. -/
theorem st_call1 {f : Nat → Nat} {w W : World} {b0 b1 b2 b3 b4 b5 b6 b7 : Bool} {s3 s4 s7 s8 s9 s10 : Value} {a : Act} (h : St f w b0 b1 b2 b3 b4 b5 b6 b7 s3 s4 s7 s8 s9 s10 a W) {W' : World} (hb : Below W.heap.size W W') : St f w b0 true b2 b3 b4 b5 b6 b7 s3 s4 s7 (wd (fun i => subN (f i))) s9 s10 (a.put (some 8) (wd (fun i => subN (f i)))) W' :=
  ⟨by rw [h.hA]; rfl, h.h0, fun _ => rfl, h.h2, h.h3, fun e => by obtain ⟨T, e1, e2, e3⟩ := h.h4 e; exact ⟨T, e1, e2, e3.below hb e3.lt⟩, fun e => by obtain ⟨T, e1, e2, e3⟩ := h.h5 e; exact ⟨T, e1, e2, e3.below hb e3.lt⟩, h.h6, h.h7.below hb h.h7.lt, h.h8.trans (hb.mono h.h8.size)⟩
theorem st_call3 {f : Nat → Nat} {w W : World} {b0 b1 b2 b3 b4 b5 b6 b7 : Bool} {s3 s4 s7 s8 s9 s10 : Value} {a : Act} (h : St f w b0 b1 b2 b3 b4 b5 b6 b7 s3 s4 s7 s8 s9 s10 a W) {W' : World} (hb : Below W.heap.size W W') : St f w b0 b1 b2 true b4 b5 b6 b7 s3 s4 s7 s8 s9 (wd (turnK f)) (a.put (some 10) (wd (turnK f))) W' :=
  ⟨by rw [h.hA]; rfl, h.h0, h.h1, h.h2, fun _ => rfl, fun e => by obtain ⟨T, e1, e2, e3⟩ := h.h4 e; exact ⟨T, e1, e2, e3.below hb e3.lt⟩, fun e => by obtain ⟨T, e1, e2, e3⟩ := h.h5 e; exact ⟨T, e1, e2, e3.below hb e3.lt⟩, h.h6, h.h7.below hb h.h7.lt, h.h8.trans (hb.mono h.h8.size)⟩
def blockOf : Value → Nat
  | .pointer (some x) => x.block
  | _ => 0
theorem ptr_inj {T U : Nat} (e : ptr T = ptr U) : T = U := congrArg blockOf e
theorem ptr_ne {T U : Nat} (h : T ≠ U) : ptr T ≠ ptr U := fun e => h (ptr_inj e)
theorem st_make4 {f : Nat → Nat} {w W : World} {b0 b1 b2 b3 b4 b5 b6 b7 : Bool} {s3 s4 s7 s8 s9 s10 : Value} {a : Act} (h : St f w b0 b1 b2 b3 b4 b5 b6 b7 s3 s4 s7 s8 s9 s10 a W) (hb : b6 = false) : St f w b0 b1 b2 b3 true b5 b6 b7 (ptr W.heap.size) s4 s7 s8 s9 s10 (a.put (some 3) (ptr W.heap.size)) (W.alloc (.cells (cellsOf .u8 (mk 4 zeroK)) 26)) :=
  ⟨by rw [h.hA]; rfl, h.h0, h.h1, h.h2, h.h3, fun _ => ⟨_, rfl, h.h7.lt, by rw [hb]; exact IntBlk.new W .u8 _ _⟩, fun e => by obtain ⟨T, e1, e2, e3⟩ := h.h5 e; exact ⟨T, e1, e2, e3.alloc _⟩,
    fun _ e => by obtain ⟨T, e1, _, e3⟩ := h.h5 e; rw [e1]; exact ptr_ne (Nat.ne_of_gt e3.lt), h.h7.alloc _, h.h8.alloc h.h8.size _⟩
theorem st_make5 {f : Nat → Nat} {w W : World} {b0 b1 b2 b3 b4 b5 b6 b7 : Bool} {s3 s4 s7 s8 s9 s10 : Value} {a : Act} (h : St f w b0 b1 b2 b3 b4 b5 b6 b7 s3 s4 s7 s8 s9 s10 a W) (hb : b7 = false) : St f w b0 b1 b2 b3 b4 true b6 b7 s3 (ptr W.heap.size) s7 s8 s9 s10 (a.put (some 4) (ptr W.heap.size)) (W.alloc (.cells (cellsOf .u8 (mk 4 zeroK)) 26)) :=
  ⟨by rw [h.hA]; rfl, h.h0, h.h1, h.h2, h.h3, fun e => by obtain ⟨T, e1, e2, e3⟩ := h.h4 e; exact ⟨T, e1, e2, e3.alloc _⟩, fun _ => ⟨_, rfl, h.h7.lt, by rw [hb]; exact IntBlk.new W .u8 _ _⟩,
    fun e _ => by obtain ⟨T, e1, _, e3⟩ := h.h4 e; rw [e1]; exact ptr_ne (Nat.ne_of_lt e3.lt), h.h7.alloc _, h.h8.alloc h.h8.size _⟩
theorem st_write6 {f : Nat → Nat} {w W : World} {b0 b1 b2 b3 b4 b5 b6 b7 : Bool} {s3 s4 s7 s8 s9 s10 : Value} {a : Act} (h : St f w b0 b1 b2 b3 b4 b5 b6 b7 s3 s4 s7 s8 s9 s10 a W) {T : Nat} (hT : s3 = ptr T) (h4 : b4 = true) : St f w b0 b1 b2 b3 b4 b5 true b7 s3 s4 s7 s8 s9 s10 (a.put none undef) (W.setRow T (cellsOf .u8 (mk 4 (fun i => subN (f i))))) := by
  obtain ⟨T', e1, e2, e3⟩ := h.h4 h4
  obtain rfl : T' = T := ptr_inj (e1.symm.trans hT)
  exact ⟨by rw [h.hA]; rfl, h.h0, h.h1, h.h2, h.h3, fun _ => ⟨T', hT, e2, e3.setRow .u8 _⟩, fun e => by obtain ⟨U, u1, u2, u3⟩ := h.h5 e; exact ⟨U, u1, u2, u3.otherRow (fun hu => h.h6 h4 e (by rw [hT, u1, hu])) _⟩, h.h6, h.h7.otherRow (Nat.ne_of_lt e2) _, below_setRow h.h8 (Nat.le_of_lt e2) _⟩
theorem st_write7 {f : Nat → Nat} {w W : World} {b0 b1 b2 b3 b4 b5 b6 b7 : Bool} {s3 s4 s7 s8 s9 s10 : Value} {a : Act} (h : St f w b0 b1 b2 b3 b4 b5 b6 b7 s3 s4 s7 s8 s9 s10 a W) {T : Nat} (hT : s4 = ptr T) (h5 : b5 = true) : St f w b0 b1 b2 b3 b4 b5 b6 true s3 s4 s7 s8 s9 s10 (a.put none undef) (W.setRow T (cellsOf .u8 (mk 4 (turnK f)))) := by
  obtain ⟨T', e1, e2, e3⟩ := h.h5 h5
  obtain rfl : T' = T := ptr_inj (e1.symm.trans hT)
  exact ⟨by rw [h.hA]; rfl, h.h0, h.h1, h.h2, h.h3, fun e => by obtain ⟨U, u1, u2, u3⟩ := h.h4 e; exact ⟨U, u1, u2, u3.otherRow (fun hu => h.h6 e h5 (by rw [hT, u1, hu])) _⟩, fun _ => ⟨T', hT, e2, e3.setRow .u8 _⟩, h.h6, h.h7.otherRow (Nat.ne_of_lt e2) _, below_setRow h.h8 (Nat.le_of_lt e2) _⟩

set_option maxRecDepth 100000 in
set_option maxHeartbeats 4000000 in
theorem walk (f : Nat → Nat) (hf : ∀ i, i < 4 → f i < 256) (w : World) :
    Calls Try.prog 6 #[.agg (cellsOf .u8 (mk 4 f))] w fun e w' => e = .returned (.bool true) ∧ Below w.heap.size w w' := by
  go_enter Try.func6, Try.ntmps6
  go_wp2_with fail
  refine wp_region_any (by kernel_rfl) (wpAny_of_inv (Over f w) ?last ?step _ _ _ _ ?start)
  case start =>
    exact ⟨false, false, false, false, false, false, false, false, undef, undef, undef, undef, undef, undef, rfl, rfl, by simp, by simp, by simp, by simp,
      rfl, by simp, by simp, by simp, by simp, by simp, by simp, by simp, (IntBlk.new w .u8 26 (mk 4 f)).drew, ((Below.refl _ _).alloc (Nat.le_refl _) _).drew⟩
  case step =>
    rintro n L a W ⟨b0, b1, b2, b3, b4, b5, b6, b7, s3, s4, s7, s8, s9, s10, rfl, hn, c6, c7, c1, c3, st⟩
    refine ⟨fun he => ?_, fun i hi => ?_⟩
    · have none : ∀ i, i ∉ Region.ready .any _ #[b0, b1, b2, b3, b4, b5, b6, b7] := fun i hi => by rw [he] at hi; cases hi
      cases b0 with
      | false => exact none 0 (mem_ready.2 ⟨rfl, _, rfl, by simp⟩)
      | true =>
      cases b1 with
      | false => exact none 1 (mem_ready.2 ⟨rfl, _, rfl, by simp⟩)
      | true =>
      cases b2 with
      | false => exact none 2 (mem_ready.2 ⟨rfl, _, rfl, by simp⟩)
      | true =>
      cases b3 with
      | false => exact none 3 (mem_ready.2 ⟨rfl, _, rfl, by simp⟩)
      | true =>
      cases b4 with
      | false => exact none 4 (mem_ready.2 ⟨rfl, _, rfl, by simp⟩)
      | true =>
      cases b5 with
      | false => exact none 5 (mem_ready.2 ⟨rfl, _, rfl, by simp⟩)
      | true =>
      cases b6 with
      | false => exact none 6 (mem_ready.2 ⟨rfl, _, rfl, by simp⟩)
      | true =>
      cases b7 with
      | false => exact none 7 (mem_ready.2 ⟨rfl, _, rfl, by simp⟩)
      | true => simp at hn
    · obtain ⟨hl, o, ho, haft⟩ := mem_ready.1 hi
      have hi8 : i < 8 := by
        rcases Nat.lt_or_ge i 8 with h | h
        · exact h
        · simp [Array.getElem?_eq_none (xs := #[b0, b1, b2, b3, b4, b5, b6, b7]) (i := i) (by simpa using h)] at hl
      rcases (show i = 0 ∨ i = 1 ∨ i = 2 ∨ i = 3 ∨ i = 4 ∨ i = 5 ∨ i = 6 ∨ i = 7 by omega) with rfl | rfl | rfl | rfl | rfl | rfl | rfl | rfl
      · obtain rfl : b0 = false := hl
        refine wpOp_plain rfl rfl (wp_load_row 26 _ rfl w.heap.size (by rw [st.hA]; rfl) 26 (cellsOf .u8 (mk 4 f)) (0, 0) _ st.h7 wordUnder rfl (wordSize f) ?_)
        exact ⟨true, b1, b2, b3, b4, b5, b6, b7, s3, s4, wd f, s8, s9, s10, rfl, by simp at hn ⊢; omega, c6, c7, fun _ => rfl, c3, st_read0 st⟩
      · obtain rfl : b1 = false := hl
        obtain rfl : b0 = true := by cases ho; exact haft { on := 0, ground := .data } (by simp) rfl
        refine wpOp_plain rfl rfl (wp_call_row _ _ _ rfl 13 (wd f) (by rw [st.hA]; rfl) (by rw [st.hA]; exact st.h0 rfl) (call_subword _ _) (wd (fun i => subN (f i))) ((SubWord_any f hf W).mono ?_))
        rintro e W' ⟨he, hb⟩
        exact ⟨he, true, true, b2, b3, b4, b5, b6, b7, s3, s4, s7, wd (fun i => subN (f i)), s9, s10, rfl, by simp at hn ⊢; omega, fun h => ⟨rfl, (c6 h).2⟩, c7, fun _ => rfl, fun h => ⟨rfl, (c3 h).2⟩, st_call1 st hb⟩
      · obtain rfl : b2 = false := hl
        refine wpOp_plain rfl rfl (wp_load_row 26 _ rfl w.heap.size (by rw [st.hA]; rfl) 26 (cellsOf .u8 (mk 4 f)) (0, 0) _ st.h7 wordUnder rfl (wordSize f) ?_)
        exact ⟨b0, b1, true, b3, b4, b5, b6, b7, s3, s4, s7, s8, wd f, s10, rfl, by simp at hn ⊢; omega, c6, c7, c1, fun h => ⟨(c3 h).1, rfl⟩, st_read2 st⟩
      · obtain rfl : b3 = false := hl
        obtain ⟨rfl, rfl⟩ : b1 = true ∧ b2 = true := by cases ho; exact ⟨haft { on := 1, ground := .chain } (by simp) rfl, haft { on := 2, ground := .data } (by simp) rfl⟩
        refine wpOp_plain rfl rfl (wp_call_row _ _ _ rfl 14 (wd f) (by rw [st.hA]; rfl) (by rw [st.hA]; exact st.h2 rfl) (call_rotate _ _) (wd (turnK f)) ((Rotate_any f W).mono ?_))
        rintro e W' ⟨he, hb⟩
        exact ⟨he, b0, true, true, true, b4, b5, b6, b7, s3, s4, s7, s8, s9, wd (turnK f), rfl, by simp at hn ⊢; omega, fun h => ⟨rfl, rfl, (c6 h).2.2⟩, c7, c1, fun _ => ⟨rfl, rfl⟩, st_call3 st hb⟩
      · obtain rfl : b4 = false := hl
        obtain rfl : b6 = false := by cases b6 with
          | false => rfl
          | true => exact absurd (c6 rfl).2.2.1 (by simp)
        refine wpOp_plain rfl rfl (wp_alloc_row 26 rfl _ (wordZero_run W) ?_)
        exact ⟨b0, b1, b2, b3, true, b5, false, b7, ptr W.heap.size, s4, s7, s8, s9, s10, rfl, by simp at hn ⊢; omega, fun h => by simp at h, c7, c1, c3, st_make4 st rfl⟩
      · obtain rfl : b5 = false := hl
        obtain rfl : b6 = false := by cases b6 with
          | false => rfl
          | true => exact absurd (c6 rfl).2.2.2 (by simp)
        obtain rfl : b7 = false := by cases b7 with
          | false => rfl
          | true => exact absurd (c7 rfl) (by simp)
        refine wpOp_plain rfl rfl (wp_alloc_row 26 rfl _ (wordZero_run W) ?_)
        exact ⟨b0, b1, b2, b3, b4, true, false, false, s3, ptr W.heap.size, s7, s8, s9, s10, rfl, by simp at hn ⊢; omega, fun h => by simp at h, fun h => by simp at h, c1, c3, st_make5 st rfl⟩
      · obtain rfl : b6 = false := hl
        obtain ⟨rfl, rfl, rfl, rfl⟩ : b1 = true ∧ b3 = true ∧ b4 = true ∧ b5 = true := by
          cases ho; exact ⟨haft { on := 1, ground := .data } (by simp) rfl, haft { on := 3, ground := .chain } (by simp) rfl, haft { on := 4, ground := .data } (by simp) rfl, haft { on := 5, ground := .phase } (by simp) rfl⟩
        obtain ⟨T, hT, hlt, hblk⟩ := st.h4 rfl
        refine wpOp_plain rfl rfl (wp_store_row 26 _ _ rfl T (cellsOf .u8 (mk 4 (fun i => subN (f i)))) (by rw [st.hA]; exact hT) (by rw [st.hA]; exact st.h1 rfl) 26 _ hblk (wordSize _) (by rw [cellsOf_size, cellsOf_size, mk_len, mk_len]) (cellsOf_one _ _) ?_)
        exact ⟨b0, true, b2, true, true, true, true, b7, s3, s4, s7, s8, s9, s10, rfl, by simp at hn ⊢; omega, fun _ => ⟨rfl, rfl, rfl, rfl⟩, fun _ => rfl, c1, c3, st_write6 st hT rfl⟩
      · obtain rfl : b7 = false := hl
        obtain ⟨rfl, rfl, rfl⟩ : b3 = true ∧ b5 = true ∧ b6 = true := by
          cases ho; exact ⟨haft { on := 3, ground := .data } (by simp) rfl, haft { on := 5, ground := .data } (by simp) rfl, haft { on := 6, ground := .chain } (by simp) rfl⟩
        obtain ⟨T, hT, hlt, hblk⟩ := st.h5 rfl
        refine wpOp_plain rfl rfl (wp_store_row 26 _ _ rfl T (cellsOf .u8 (mk 4 (turnK f))) (by rw [st.hA]; exact hT) (by rw [st.hA]; exact st.h3 rfl) 26 _ hblk (wordSize _) (by rw [cellsOf_size, cellsOf_size, mk_len, mk_len]) (cellsOf_one _ _) ?_)
        exact ⟨b0, b1, b2, true, b4, true, true, true, s3, s4, s7, s8, s9, s10, rfl, by simp at hn ⊢; omega, c6, fun _ => rfl, c1, c3, st_write7 st hT rfl⟩
  case last =>
    rintro L a W ⟨b0, b1, b2, b3, b4, b5, b6, b7, s3, s4, s7, s8, s9, s10, rfl, hn, c6, c7, c1, c3, st⟩
    obtain ⟨rfl, rfl, rfl, rfl, rfl, rfl, rfl, rfl⟩ : b0 = true ∧ b1 = true ∧ b2 = true ∧ b3 = true ∧ b4 = true ∧ b5 = true ∧ b6 = true ∧ b7 = true := by
      revert hn; cases b0 <;> cases b1 <;> cases b2 <;> cases b3 <;> cases b4 <;> cases b5 <;> cases b6 <;> cases b7 <;> simp
    refine ⟨by kernel_rfl, ?_⟩
    obtain ⟨T, hT, hlt, hbT⟩ := st.h4 rfl
    obtain ⟨U, hU, hlu, hbU⟩ := st.h5 rfl
    have hA := st.hA
    rw [hT, hU, st.h0 rfl, st.h1 rfl, st.h2 rfl, st.h3 rfl] at hA
    have hZ := st.h7
    have hB := st.h8
    clear st hT hU c6 c7 c1 c3 hn
    simp only [if_true] at hbT hbU
    subst hA
    unfold frame wd ptr
    have HZ := Lib.hid hZ
    have HT := Lib.hid hbT
    have HU := Lib.hid hbU
    have HB := Lib.hid hB
    clear hZ hbT hbU hB
    go_wp2_with (refine wpList_load_row rfl 26 _ rfl w.heap.size rfl 26 (cellsOf .u8 (mk 4 f)) (0, 0) _ HZ.out wordUnder rfl (wordSize _) ?_)
    go_loopw [12] (fun v12 wr => ∃ k : Nat, k ≤ 4 ∧ v12 = .int .i64 k ∧ IntBlk wr w.heap.size .u8 26 (mk 4 f) ∧ IntBlk wr T .u8 26 (mk 4 (fun i => subN (f i))) ∧ IntBlk wr U .u8 26 (mk 4 (turnK f)) ∧ Below w.heap.size w wr) (fun v12 _ => 4 - (intOf v12).toNat)
    case atStart => exact ⟨0, by omega, rfl, HZ.out, HT.out, HU.out, HB.out⟩
    case round =>
      obtain ⟨k, hk, rfl, hz, hd, hu, hb⟩ := hrel
      clear HZ HT HU HB
      have HZ := Lib.hid hz
      have HT := Lib.hid hd
      have HU := Lib.hid hu
      have HB := Lib.hid hb
      clear hz hd hu hb
      by_cases hlt' : k < 4
      · have hx := hf k hlt'
        have ki := word_index f hlt'
        have e1 : (k : Int) < 4 := by omega
        have e2 : (0 : Int) ≤ k := by omega
        have e3 : IntKind.i64.wrap ((k : Int) + 3) = (k : Int) + 3 := IntWalk.i64_in _ (by omega)
        have e4 : ((k : Int) + 3).tmod 4 = (((k + 3) % 4 : Nat) : Int) := by rw [IntWalk.rem_in _ _ (by omega)]; omega
        have e5 : (((k + 3) % 4 : Nat) : Int) < 4 := by omega
        have e6 : (0 : Int) ≤ (((k + 3) % 4 : Nat) : Int) := by omega
        have cT : ∀ w', Below wr.heap.size wr w' → w'.cell? ⟨T, k, none⟩ = some (.int .u8 (subI (f k))) := fun w' h => by
          have := (HT.out.below h HT.out.lt).cell (i := k) (by rw [mk_len]; exact hlt')
          rw [mk_get hlt'] at this; rw [subI_nat]; exact this
        have cU : ∀ w', Below wr.heap.size wr w' → w'.cell? ⟨U, (k + 3) % 4, none⟩ = some (.int .u8 (f k)) := fun w' h => by
          have h4 : (k + 3) % 4 < 4 := by omega
          have := (HU.out.below h HU.out.lt).cell (i := (k + 3) % 4) (by rw [mk_len]; exact h4)
          rw [mk_get h4] at this
          rw [this]; unfold turnK; rw [show ((k + 3) % 4 + 1) % 4 = k by omega]
        have t1 : (subI (f k) != subI (f k)) = false := by simp
        have t2 : ((f k : Int) != (f k : Int)) = false := by simp
        have BS : w.heap.size ≤ wr.heap.size := HB.out.size
        go_wp2
        refine wp_region_class (fun w' => Below wr.heap.size wr w') (by kernel_rfl) (by kernel_rfl) ((Below.refl _ _).drew) ?_
        have CS : ∀ w', Below wr.heap.size wr w' → Calls Try.prog 10 #[.int .u8 (f k)] w' fun e w2 => e = .returned (.int .u8 (subI (f k))) ∧ Below wr.heap.size wr w2 :=
          fun w' hw => (refSub_any (f k) (by omega) (by omega) w').mono fun _ _ ⟨he, hb⟩ => ⟨he, hw.trans (hb.mono hw.size)⟩
        iterate 15 (first
          | go_big_quiet_skip
          | (go_big_quiet_want
             first
               | (go_big_quiet_op; go_big_quiet_on)
               | ((first
                   | (refine quiet_place 26 4 _ _ rfl wordUnder T k rfl rfl hlt' ?_)
                   | (refine quiet_place 26 4 _ _ rfl wordUnder U ((k + 3) % 4) rfl rfl (by omega) ?_)
                   | (refine quiet_byte_load _ rfl T k _ rfl cT ?_)
                   | (refine quiet_byte_load _ rfl U ((k + 3) % 4) _ rfl cU ?_)
                   | (refine quiet_byte _ _ _ rfl 10 rfl (f k) rfl _ call_ref CS ?_)
                   | (refine quiet_byte_neq _ _ rfl _ _ rfl rfl t1 ?_)
                   | (refine quiet_byte_neq _ _ rfl _ _ rfl rfl t2 ?_)
                   | (refine quiet_int_add _ _ rfl _ _ _ rfl rfl e3 ?_)
                   | (refine quiet_int_rem _ _ rfl _ _ _ rfl rfl (by omega) e4 ?_)
                   | (refine quiet_pick_no _ _ _ rfl rfl rfl ?_)); go_simp; go_big_quiet_on)))
        refine wpQuiet_nil ?_
        intro w3 hw3
        have H1 := Lib.hid (HB.out.trans (hw3.mono BS))
        have HZ' := Lib.hid (HZ.out.below hw3 HZ.out.lt)
        have HT' := Lib.hid (HT.out.below hw3 HT.out.lt)
        have HU' := Lib.hid (HU.out.below hw3 HU.out.lt)
        clear hw3
        go_wp2
        go_roundw
        case rel => exact ⟨k + 1, by omega, by go_num, HZ'.out, HT'.out, HU'.out, H1.out⟩
        case measure => simp [intOf]; omega
      · obtain rfl : k = 4 := by omega
        have hd1 : decide (((4 : Nat) : Int) < 4) = false := rfl
        go_wp2
        go_ret
        exact ⟨rfl, HB.out⟩

theorem laidOut : laidOutB Try.prog = true := by kernel_rfl
set_option maxRecDepth 100000 in
theorem lifted (os : Os) (started : os.Started) (H : Type) (enc : TypeId × Value → H) :
    ReturnsInHanded {} Try.checked os 6 .any (Rows.sboxWordsSpec.pre6 enc Try.prog Try.f6 Rows.sboxWordsRow.domain false) (Rows.sboxWordsSpec.post enc Try.prog Try.f6 false true false false) := by
  refine returnsInHanded_of_change (C := Try.checked) own started (by kernel_rfl) Try.func6
    (ChangeSpec.witness6 (enc := enc) (C := Try.checked) false ⟨#[], #[.agg #[.int .u8 0, .int .u8 0, .int .u8 0, .int .u8 0]], []⟩ 8 (by kernel_rfl) (by kernel_rfl) (by kernel_rfl) (by kernel_rfl)) ?_
  intro W base args ds gs before hval0 hW hcnd _
  have hval : ∀ (j : Nat) t v, Try.f6.params[j]? = some t → args[j]? = some v → Value.okWide Try.prog W .any base t v := hval0
  have hW' := hW
  obtain ⟨p, q, hA0, hV, rfl, hfz, hnd⟩ := hW
  have hA : DataW.TrodAll enc Try.prog W 0 (fun _ => true) true Try.f6.params.toList args.toList ds p := hA0
  rw [Try.params6] at hA hval
  obtain ⟨v0, vs0, d0, ds0, p0, q0, hargs, rfl, rfl, h0, r0⟩ := trodAll_cons hA
  obtain ⟨rfl, rfl, rfl⟩ := trodAll_nil r0
  obtain rfl : args = #[v0] := by cases args; simp_all
  obtain ⟨rfl, rfl⟩ := trodVars_none hV
  have k0 := h0
  have lt0 : ∀ x ∈ p0, x.block < W.heap.size := by obtain ⟨m, hm⟩ := k0; exact DataW.trod_lt m _ _ _ hm
  obtain ⟨a0, w0, rfl⟩ := open_bytes Try.underlying26 Try.underlying5 (by kernel_rfl) (by kernel_rfl) (hval 0 26 v0 rfl rfl) h0
  clear hA0 hval0
  refine (walk a0 w0 W).mono fun e W' ⟨he, bel⟩ => ?_
  subst he
  exact ⟨_, rfl, _, _, _, [], _, [], hW', trodAll_mk1 (shut_bool Try.underlying4 _), (trodAll_cons_mk (Below.trod laidOut (by kernel_rfl) (of_decide_eq_true (by kernel_rfl)) k0 bel lt0) trodAll_mk0), rfl, bel.frame _, fun h => by cases h⟩

theorem over : Rows.sboxWordsRow.holds Try.pinned (OpenSpec.ofChange Rows.sboxWordsSpec) :=
  OpenClaim.holds_of_wide 6 Try.f6 rfl rfl rfl rfl rfl rfl rfl ⟨rfl, rfl, rfl, rfl, rfl⟩ rfl rfl rfl rfl rfl (by kernel_rfl) Try.func6 (by kernel_rfl)
    (of_decide_eq_true (by kernel_rfl)) (by unfold Func.isWrapper; first | (rw [if_pos (by decide +kernel)]; kernel_rfl) | (rw [if_neg (by decide +kernel)]; exact ⟨rfl, rfl⟩))
    (fun os started H enc _ => lifted os started H enc)

theorem proved : Rows.SboxWordsSaid := over
end Go.Proofs.Ytpllcaeghpijiaa.sboxWords
