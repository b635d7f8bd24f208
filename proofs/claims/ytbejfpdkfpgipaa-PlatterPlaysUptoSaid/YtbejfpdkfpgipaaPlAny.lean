/- Each call of a disk and of the document's, its arms in one: the error's number, and the disk behind it. Condition: not more than 100,000 steps were made. -/
import Derived.Test.YtbejfpdkfpgipaaPlRefA
import Derived.Test.YtbejfpdkfpgipaaPlRefB
import Derived.Test.YtbejfpdkfpgipaaPlRefG
import Derived.Test.YtbejfpdkfpgipaaPlRefL
import Derived.Test.YtbejfpdkfpgipaaPlWrite
import Derived.Test.YtbejfpdkfpgipaaPlFlush
import Derived.Test.YtbejfpdkfpgipaaPlRaise
import Derived.Test.YtbejfpdkfpgipaaPlRead
namespace Go.Proofs.Ytbejfpdkfpgipaa
open Go.ChangeShapes Go.WideShapes Go.ChangeAt Go.RowKit
set_option linter.unusedVariables false
def errN (no : Nat) : Value := if no = 0 then .nilIface else errV no
def OkNo (no : Nat) : Prop := no = 0 ∨ no = 1 ∨ no = 5
theorem Num_any {no : Nat} (h : OkNo no) (w : World) : Calls Try.prog 14 #[errN no] w fun e w' => e = .returned (.int .i64 (no : Nat)) ∧ w = w' := by
  rcases h with rfl | rfl | rfl
  · exact Num_nil w
  · exact Num_err 1 rfl w
  · exact Num_err 5 rfl w
/-- What a call may make of a disk. -/
def Fits (d d' : Disk) : Prop := d'.made ≤ d.made + 1 ∧ d'.left < 9223372036854775808
theorem Fits.same {d : Disk} (h : d.left < 9223372036854775808) : Fits d d := ⟨Nat.le_succ _, h⟩
theorem Fits.went {d : Disk} (h : d.left < 9223372036854775808) : Fits d d.went := ⟨Nat.le_refl _, by show (if d.armed then d.left - 1 else d.left) < _; split <;> omega⟩
def PCall (f : FuncId) (x y : Value) (d d' : Disk) (no : Nat) : Prop := ∀ W b, DiskAt W b d → Calls Try.prog f #[.pointer (some ⟨b.B, 0, none⟩), x, y] W fun e w' => e = .returned (errN no) ∧ DiskAt w' b d' ∧ Keeps b.own W w'
def RCall (f : FuncId) (x y : Value) (d d' : Disk) (no : Nat) : Prop := ∀ W r base L R, RefAt W r base d L R → base ≤ W.heap.size → Calls Try.prog f #[.pointer (some ⟨r.B, 0, none⟩), x, y] W fun e w' => e = .returned (.int .i64 (no : Nat)) ∧ (∃ L' R', RefAt w' r base d' L' R') ∧ Keeps (r.own R d.ns) W w'
theorem has_yes {n : Nat} {x : Int} (h : ¬ hasB n x = false) : ∃ i : Nat, x = (i : Int) ∧ i < n := by
  have h2 : 0 ≤ x ∧ x < n := by unfold hasB at h; simpa using h
  exact ⟨x.toNat, by omega, by omega⟩
theorem fixOwn {r : RBlk} {R : Since} {ns : Nat} : ∀ k, True → r.fix k → r.own R ns k := fun k _ h => .inl h
theorem write_any (d : Disk) (hm : d.made ≤ 100000) (hl : d.left < 9223372036854775808) (x : Int) (g : Nat → Nat) : ∃ no d', OkNo no ∧ Fits d d' ∧ PCall 15 (.int .i64 x) (.agg (cellsOf .u8 (Go.Proofs.Ytbejfpdkfpgipaa.mk 128 g))) d d' no ∧ RCall 17 (.int .i64 x) (.agg (cellsOf .u8 (Go.Proofs.Ytbejfpdkfpgipaa.mk 128 g))) d d' no := by
  by_cases hx : hasB d.ns x = false
  · exact ⟨1, d, .inr (.inl rfl), .same hl, fun W b h => (Write_range h x hx g).mono fun e w' ⟨h1, h2, h3⟩ => ⟨h1, h2, Keeps.of h3⟩, fun W r base L R h _ => (rWrite_range h x hx g).mono fun e w' ⟨h1, hb⟩ => ⟨h1, ⟨L, R, h.below hb⟩, Keeps.of hb⟩⟩
  · obtain ⟨i, rfl, hi⟩ := has_yes hx
    have hx' : hasB d.ns (i : Int) = true := by simpa using hx
    cases hg : d.gone with
    | true => exact ⟨5, d.fell, .inr (.inr rfl), ⟨Nat.le_succ _, hl⟩, fun W b h => Write_down h i hx' hg g, fun W r base L R h _ => (rWrite_down h i hi hg g).mono fun e w' ⟨h1, h2, h3⟩ => ⟨h1, ⟨L, R, h2⟩, h3.mono fun k _ e => .inl e⟩⟩
    | false => exact ⟨0, d.wrote i (Go.Proofs.Ytbejfpdkfpgipaa.mk 128 g), .inl rfl, Fits.went hl, fun W b h => Write_on h i hx' hg (by omega) hl g, fun W r base L R h hb => rWrite_on h i hi hg hm hl hb g⟩
theorem raise_any (d : Disk) (hm : d.made ≤ 100000) (hl : d.left < 9223372036854775808) (x n : Int) : ∃ no d', OkNo no ∧ Fits d d' ∧ PCall 20 (.int .i64 x) (.int .i64 n) d d' no ∧ RCall 21 (.int .i64 x) (.int .i64 n) d d' no := by
  by_cases hx : hasB d.cnt.length x = false
  · exact ⟨1, d, .inr (.inl rfl), .same hl, fun W b h => (Raise_range h x n hx).mono fun e w' ⟨h1, h2⟩ => ⟨h1, h2 ▸ h, h2 ▸ .refl _ _⟩, fun W r base L R h _ => (rRaise_range h x n hx).mono fun e w' ⟨h1, h2⟩ => ⟨h1, ⟨L, R, h2 ▸ h⟩, h2 ▸ .refl _ _⟩⟩
  · obtain ⟨i, rfl, hi⟩ := has_yes hx
    by_cases hn : n < d.cnt.getD i 0
    · exact ⟨1, d, .inr (.inl rfl), .same hl, fun W b h => (Raise_low h i hi n hn).mono fun e w' ⟨h1, h2⟩ => ⟨h1, h2 ▸ h, h2 ▸ .refl _ _⟩, fun W r base L R h _ => (rRaise_low h i hi n hn).mono fun e w' ⟨h1, h2⟩ => ⟨h1, ⟨L, R, h2 ▸ h⟩, h2 ▸ .refl _ _⟩⟩
    · have hn' : d.cnt.getD i 0 ≤ n := by omega
      cases hg : d.gone with
      | true => exact ⟨5, d.fell, .inr (.inr rfl), ⟨Nat.le_succ _, hl⟩, fun W b h => Raise_down h i hi n hn' hg, fun W r base L R h _ => (rRaise_down h i hi n hn' hg).mono fun e w' ⟨h1, h2, h3⟩ => ⟨h1, ⟨L, R, h2⟩, h3.mono fun k _ e => .inl e⟩⟩
      | false => exact ⟨0, d.raised i n, .inl rfl, Fits.went hl, fun W b h => Raise_on h i hi n hn' hg (by omega) hl, fun W r base L R h _ => (rRaise_on h i hi n hn' hg (by omega) hl).mono fun e w' ⟨h1, h2, h3⟩ => ⟨h1, by obtain ⟨L', h2⟩ := h2; exact ⟨L', _, h2⟩, h3.mono fun k _ e => .inl e⟩⟩
theorem flush_any (d : Disk) (hm : d.made ≤ 100000) (hl : d.left < 9223372036854775808) (x y : Int) (hy : -9223372036854775808 ≤ y) : ∃ no d', OkNo no ∧ Fits d d' ∧ PCall 18 (.int .i64 x) (.int .i64 y) d d' no ∧ RCall 19 (.int .i64 x) (.int .i64 y) d d' no := by
  by_cases hx : 0 ≤ x ∧ x ≤ d.ns ∧ 0 ≤ y ∧ y ≤ d.ns - x
  · obtain ⟨i, rfl⟩ : ∃ i : Nat, x = (i : Int) := ⟨x.toNat, by omega⟩
    obtain ⟨m, rfl⟩ : ∃ m : Nat, y = (m : Int) := ⟨y.toNat, by omega⟩
    have him : i + m ≤ d.ns := by omega
    cases hg : d.gone with
    | true => exact ⟨5, d.fell, .inr (.inr rfl), ⟨Nat.le_succ _, hl⟩, fun W b h => Flush_down h i m him hg, fun W r base L R h _ => (rFlush_down h i m him hg).mono fun e w' ⟨h1, h2, h3⟩ => ⟨h1, ⟨L, R, h2⟩, h3.mono fun k _ e => .inl e⟩⟩
    | false => exact ⟨0, d.went.settled (askF i m), .inl rfl, Fits.went hl, fun W b h => Flush_on h i m him hg (by omega) hl, fun W r base L R h _ => (rFlush_on h i m him hg (by omega) hl).mono fun e w' ⟨h1, h2, h3⟩ => ⟨h1, h2, h3.mono fun k _ e => .inl e⟩⟩
  · exact ⟨1, d, .inr (.inl rfl), .same hl, fun W b h => (Flush_range h x y hy hx).mono fun e w' ⟨h1, h2⟩ => ⟨h1, h.below h2, Keeps.of h2⟩, fun W r base L R h _ => (rFlush_range h x y hx).mono fun e w' ⟨h1, h2⟩ => ⟨h1, ⟨L, R, h2 ▸ h⟩, h2 ▸ .refl _ _⟩⟩
theorem read_any {W0 : World} {r0 : RBlk} {base0 : Nat} {d : Disk} {L0 : Nat} {R0 : Since} (h0 : RefAt W0 r0 base0 d L0 R0) (x : Int) : ∃ no f, OkNo no ∧
    (∀ W b, DiskAt W b d → Calls Try.prog 32 #[.pointer (some ⟨b.B, 0, none⟩), .int .i64 x] W fun e w' => e = .returned (.tuple #[.agg (cellsOf .u8 (Go.Proofs.Ytbejfpdkfpgipaa.mk 128 f)), errN no]) ∧ Below W.heap.size W w') ∧
    (∀ W r base L R, RefAt W r base d L R → Calls Try.prog 33 #[.pointer (some ⟨r.B, 0, none⟩), .int .i64 x] W fun e w' => e = .returned (.tuple #[.agg (cellsOf .u8 (Go.Proofs.Ytbejfpdkfpgipaa.mk 128 f)), .int .i64 (no : Nat)]) ∧ Below W.heap.size W w') := by
  by_cases hx : hasB d.ns x = false
  · exact ⟨1, zeroK, .inr (.inl rfl), fun W b h => Read_range h x hx, fun W r base L R h => rRead_range h x hx⟩
  · obtain ⟨i, rfl, hi⟩ := has_yes hx
    have hx' : hasB d.ns (i : Int) = true := by simpa using hx
    cases hd : d.down with
    | true => exact ⟨5, zeroK, .inr (.inr rfl), fun W b h => Read_down h i hx' hd, fun W r base L R h => rRead_down h i hx' hd⟩
    | false =>
      obtain ⟨f, hf⟩ := ref_now_mk h0 hi
      exact ⟨0, f, .inl rfl, fun W b h => hf ▸ Read_ok h i hi hd, fun W r base L R h => hf ▸ rRead_ok h i hi hd⟩
theorem tamper_any (d : Disk) (hm : d.made ≤ 100000) (hl : d.left < 9223372036854775808) (x : Int) (n : Nat) (g : Nat → Nat) : ∃ no d', OkNo no ∧ Fits d d' ∧
    (∀ W b p cap, DiskAt W b d → BytesAt W p n g → (∀ D o, p = some ⟨D, o, none⟩ → n ≠ 0 → ¬ b.own D) → Calls Try.prog 23 #[.pointer (some ⟨b.B, 0, none⟩), .int .i64 x, .slice p n cap] W fun e w' => e = .returned (errN no) ∧ DiskAt w' b d' ∧ Keeps b.own W w') ∧
    (∀ W r base L R p cap, RefAt W r base d L R → BytesAt W p n g → (∀ D o, p = some ⟨D, o, none⟩ → n ≠ 0 → ¬ r.own R d.ns D) → Calls Try.prog 24 #[.pointer (some ⟨r.B, 0, none⟩), .int .i64 x, .slice p n cap] W fun e w' => e = .returned (.int .i64 (no : Nat)) ∧ (∃ L' R', RefAt w' r base d' L' R') ∧ Keeps (r.own R d.ns) W w') := by
  by_cases hx : hasB d.ns x = false ∨ 128 < n
  · exact ⟨1, d, .inr (.inl rfl), .same hl, fun W b p cap h _ _ => (Tamper_range h x p n cap hx).mono fun e w' ⟨h1, h2⟩ => ⟨h1, h2 ▸ h, h2 ▸ .refl _ _⟩, fun W r base L R p cap h _ _ => (rTamper_range h x p n cap hx).mono fun e w' ⟨h1, h2⟩ => ⟨h1, ⟨L, R, h2 ▸ h⟩, h2 ▸ .refl _ _⟩⟩
  · have hx1 : ¬ hasB d.ns x = false := fun e => hx (.inl e)
    have hn : n ≤ 128 := by
      rcases Nat.lt_or_ge 128 n with e | e
      · exact absurd (.inr e) hx
      · exact e
    obtain ⟨i, rfl, hi⟩ := has_yes hx1
    exact ⟨0, d.tampered i n g, .inl rfl, ⟨Nat.le_succ _, hl⟩, fun W b p cap h hp hne => Tamper_ok h i hi p n cap hn g hp hne (by omega), fun W r base L R p cap h hp hne => rTamper_ok h i hi p n cap hn g hp hne hm⟩
end Go.Proofs.Ytbejfpdkfpgipaa
