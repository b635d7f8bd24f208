/- For PlatterTouched: who tampers changes just the first bytes, both those that are sure and those that are read, for every sector's bytes. No condition. -/
import Derived.Test.YtbejfpdkfpgipaaPlAlive
import Derived.Test.YtbejfpdkfpgipaaPlArgs
import Derived.Test.YtbejfpdkfpgipaaPlCell
namespace Go.Proofs.Ytbejfpdkfpgipaa.platterTouched
open Go.ChangeShapes Go.WideShapes Go.ChangeAt Go.RowKit
set_option linter.unusedVariables false
theorem own : ownKnob Try.prog.godebug = none := by kernel_rfl
/-- A box that holds a sector and is none of the disk's. -/
structure Bx (u : World) (b : Blks) (C : Nat) (f : Nat → Nat) : Prop where
  blk : IntBlk u C .u8 40 (mk 128 f)
  out : ¬ b.own C
theorem Bx.below {u v : World} {b : Blks} {C : Nat} {f : Nat → Nat} (h : Bx u b C f) (hb : Below u.heap.size u v) : Bx v b C f := ⟨h.blk.below hb h.blk.lt, h.out⟩
theorem Bx.keeps {u v : World} {b : Blks} {C : Nat} {f : Nat → Nat} (h : Bx u b C f) (hb : Keeps b.own u v) : Bx v b C f := ⟨hb.blk h.blk h.out, h.out⟩
theorem Bx.other {u : World} {b : Blks} {C D : Nat} {f : Nat → Nat} (h : Bx u b C f) (hne : C ≠ D) (cs : Array Value) : Bx (u.setRow D cs) b C f := ⟨h.blk.otherRow hne cs, h.out⟩
theorem Bx.but {u v : World} {b : Blks} {C D : Nat} {f : Nat → Nat} (h : Bx u b C f) (hne : C ≠ D) (hb : But D u v) : Bx v b C f := ⟨hb.blk h.blk hne, h.out⟩
theorem neB {u : World} {b : Blks} {C : Nat} {f : Nat → Nat} (h : Bx u b C f) : C ≠ u.heap.size := Nat.ne_of_lt h.blk.lt
def dT (S N : Nat → Nat) : Disk := (((newD 2 1).wrote 0 (mk 128 S)).went.settled (askF 0 1)).wrote 0 (mk 128 N)
theorem dT_now (S N : Nat → Nat) : (dT S N).now 0 = mk 128 N := rfl
theorem dT_keep (S N : Nat → Nat) : ((dT S N).crashed [0]).now 0 = mk 128 N := rfl
theorem dT_lost (S N : Nat → Nat) : ((dT S N).crashed []).now 0 = mk 128 S := rfl
theorem dT_keep1 (S N : Nat → Nat) : ((dT S N).crashed [0]).now 1 = mk 128 zeroK := rfl
theorem dT_lost1 (S N : Nat → Nat) : ((dT S N).crashed []).now 1 = mk 128 zeroK := rfl
def dU (S N : Nat → Nat) (n : Nat) (g : Nat → Nat) : Disk := (dT S N).tampered 0 n g
theorem dU_now (S N : Nat → Nat) (n : Nat) (g : Nat → Nat) : (dU S N n g).now 0 = mk 128 (put N 0 n g) := tamL_mk n g N
theorem dU_keep (S N : Nat → Nat) (n : Nat) (g : Nat → Nat) : ((dU S N n g).crashed [0]).now 0 = mk 128 (put N 0 n g) := tamL_mk n g N
theorem dU_lost (S N : Nat → Nat) (n : Nat) (g : Nat → Nat) : ((dU S N n g).crashed []).now 0 = mk 128 (put S 0 n g) := tamL_mk n g S
theorem dU_keep1 (S N : Nat → Nat) (n : Nat) (g : Nat → Nat) : ((dU S N n g).crashed [0]).now 1 = mk 128 zeroK := rfl
theorem dU_lost1 (S N : Nat → Nat) (n : Nat) (g : Nat → Nat) : ((dU S N n g).crashed []).now 1 = mk 128 zeroK := rfl
theorem disk_row {u : World} {b : Blks} {d : Disk} {C : Nat} (h : DiskAt u b d) (hC : ¬ b.own C) (cs : Array Value) : DiskAt (u.setRow C cs) b d :=
  h.keep fun k hk => setRow_other _ _ _ _ (fun e => hC (e ▸ hk))
theorem tam_ok {u w : World} {b : Blks} {d : Disk} (h : DiskAt u b d) (p : Option Addr) (n cap : Nat) (hn : n ≤ 128) (g : Nat → Nat) (hp : BytesAt u p n g) (hlo : ∀ B o, p = some ⟨B, o, none⟩ → n ≠ 0 → B < w.heap.size) (ho : ∀ k, b.own k → w.heap.size ≤ k) (hm : d.made < 4611686018427387904) :
    Calls Try.prog 23 #[.pointer (some ⟨b.B, 0, none⟩), .int .i64 0, .slice p n cap] u fun e w' => e = .returned .nilIface ∧ DiskAt w' b (d.tampered 0 n g) ∧ Keeps b.own u w' :=
  Tamper_ok h 0 (by have := h.ns1; omega) p n cap hn g hp (fun D o e h0 hk => absurd (ho D hk) (by have := hlo D o e h0; omega)) hm
end Go.Proofs.Ytbejfpdkfpgipaa.platterTouched
