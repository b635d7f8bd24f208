/- Frames that go there and back; a byte put on a row's end. Condition: package pdu answers as its spec says. -/
import Derived.Test.YtebbnkkhabehmaaPdStr
import Derived.Test.YtebbnkkhabehmaaApartN
namespace Go.Proofs.Ytebbnkkhabehmaa
open Go.ChangeShapes Go.WideShapes Go.ChangeAt Go.RowKit
set_option linter.unusedVariables false
set_option linter.unusedSimpArgs false
/-- Bytes and one behind them. -/
def oneF (M : Nat) (F : Nat → Nat) (b : Nat) : Nat → Nat := fun j => if j < M then F j else b
theorem run_app1 {w : World} (ty : TypeId) {D M C : Nat} {F : Nat → Nat} (h : BlkR w D C F) (hMC : M ≤ C) (hM : M + 1 ≤ 140737488355328) (B c b : Nat) (hB : w.cell? ⟨B, 0, none⟩ = some (.int .u8 (b : Nat))) (S : Nat) (hS : S ≤ D) (hw : S ≤ w.heap.size) :
    ∃ q C' w', (Builtin.append_ #[22, 22] ty #[.slice (some ⟨D, 0, none⟩) M C, .slice (some ⟨B, 0, none⟩) 1 c]).run Try.prog w = .ok (.slice q (M + 1) C') w' ∧ M + 1 ≤ C' ∧ BytesAt w' q (M + 1) (oneF M F b) ∧ Below S w w' := by
  obtain ⟨R, hR, hI⟩ := h
  by_cases hlt : M < C
  · refine ⟨_, _, _, apart.append_room_byte w ty D M C R B c b F hI hlt hR hB, by omega, ?_, (keeps_row D _ w).below hw (fun j hj e => by omega)⟩
    refine BlkR.bytes (C := R) (G := put F M 1 fun _ => b) ⟨R, Nat.le_refl _, hI.setRow .u8 (mk R (put F M 1 fun _ => b))⟩ (by omega) (fun j hj => ?_)
    unfold put oneF
    by_cases hj2 : j < M
    · rw [if_neg (by omega), if_pos hj2]
    · rw [if_pos (by omega), if_neg hj2]
  · obtain ⟨v', w', hr, ho, hg⟩ := apart.append_full_byte ty hI hR (G := oneF M F b) (N := M) (fun j hj => by unfold oneF; rw [if_pos hj]) (by omega) (by omega) B c b hB (by unfold oneF; rw [if_neg (by omega)])
    obtain ⟨p, c', rfl, hc, _, hb, _⟩ := ho.bytes (Nat.le_refl _)
    exact ⟨p, c', w', hr, hc, hb, below_own hg (fun B h => by cases h) hw⟩
theorem again_any (PS : PduSpec) {n : Nat} {G : Nat → Nat} (hi : isF n G) (hg : ∀ j, j < n → G j < 256) (W : World) (q : Option Addr) (m : Nat) (hm : n - 8 ≤ m) (hq : BytesAt W q (n - 8) (gF G)) :
    Calls Try.prog 8 #[.agg (frA (kF G) (nF G) (cF G) q (n - 8) m)] W fun e W' => ∃ D C, e = .returned (.tuple #[.slice (some ⟨D, 0, none⟩) n C, .nilIface]) ∧ BytesAt W' (some ⟨D, 0, none⟩) n G ∧ Below W.heap.size W W' := by
  refine (PS.encode _ _ _ hi.2.1 hm (fun j hj => hg _ (by omega)) hq).mono ?_
  rintro e W' ⟨D, C, F, rfl, b, f, c, t, l⟩
  have h8 := hi.1
  rw [show 8 + (n - 8) = n by omega] at *
  exact ⟨D, C, rfl, b.bytes c (fun j hj => (f j hj).trans (hi.2.2 j hj)), l⟩
theorem there_any (PS : PduSpec) {k n c : Int} {d M : Nat} {g : Nat → Nat} (hM : M = 8 + d) (hin : inF k n c d) (hg : ∀ j, j < d → g j < 256) (W : World) (q : Option Addr) (C : Nat) (hc : M ≤ C) (hq : BytesAt W q M (frT k n c d g)) :
    Calls Try.prog 16 #[.slice q M C] W fun e W' => ∃ p m, e = .returned (.tuple #[.agg (frA k n c p d m), .nilIface]) ∧ BytesAt W' p d g ∧ Below W.heap.size W W' := by
  subst hM
  refine (PS.decode hc (frT_lt hin hg) hq (isF_frT hin)).mono ?_
  rintro e W' ⟨p, m, rfl, b, l⟩
  rw [say_k hin, say_n hin, say_c hin, say_g, show 8 + d - 8 = d by omega] at *
  exact ⟨p, m, rfl, b.bytes, l⟩
theorem enc_any (PS : PduSpec) {k n c : Int} {d M : Nat} {g : Nat → Nat} (hM : M = 8 + d) (hin : inF k n c d) (hg : ∀ j, j < d → g j < 256) (W : World) (q : Option Addr) (m : Nat) (hm : d ≤ m) (hq : BytesAt W q d g) :
    Calls Try.prog 8 #[.agg (frA k n c q d m)] W fun e W' => ∃ D C, ∃ F : Nat → Nat, e = .returned (.tuple #[.slice (some ⟨D, 0, none⟩) M C, .nilIface]) ∧ BlkR W' D C F ∧ (∀ j, j < M → F j = frT k n c d g j) ∧ M ≤ C ∧ W.heap.size ≤ D ∧ Below W.heap.size W W' := by
  subst hM
  exact PS.encode _ _ _ hin hm hg hq
theorem pre_any (PS : PduSpec) {k n c : Int} {d M : Nat} {g : Nat → Nat} (hM : M = 8 + d) (hin : inF k n c d) (hg : ∀ j, j < d → g j < 256) (W : World) (q : Option Addr) (i C : Nat) (hi : i < M) (hc : i ≤ C) (hq : BytesAt W q i (frT k n c d g)) :
    Calls Try.prog 16 #[.slice q i C] W fun e W' => e = .returned (.tuple #[.agg (frA 0 0 0 none 0 0), .iface 35 (.int .i64 10)]) ∧ Below W.heap.size W W' := by
  have hl := frT_lt hin hg
  have h4 := hin.2.2.2
  refine PS.reject hc (by omega) (fun j hj => hl j (by omega)) hq (fun h => ?_)
  have := isF_len hin (fun j hj => hl j (by omega)) (fun j hj => rfl) h
  omega
theorem more_any (PS : PduSpec) {k n c : Int} {d M : Nat} {g F : Nat → Nat} (hM : M = 8 + d) (hin : inF k n c d) (hg : ∀ j, j < d → g j < 256) (hF : ∀ j, j < M → F j = frT k n c d g j) (W : World) (q : Option Addr) (C : Nat) (hc : M + 1 ≤ C) (hq : BytesAt W q (M + 1) (oneF M F 0)) :
    Calls Try.prog 16 #[.slice q (M + 1) C] W fun e W' => e = .returned (.tuple #[.agg (frA 0 0 0 none 0 0), .iface 35 (.int .i64 10)]) ∧ Below W.heap.size W W' := by
  have hl := frT_lt hin hg
  have h4 := hin.2.2.2
  have hb : ∀ j, j < M + 1 → oneF M F 0 j < 256 := fun j hj => by
    unfold oneF
    split
    · rw [hF j (by assumption)]; exact hl j (by omega)
    · omega
  refine PS.reject hc (by omega) hb hq (fun h => ?_)
  have := isF_len hin hb (fun j hj => by unfold oneF; rw [if_pos (by omega)]; exact hF j (by omega)) h
  omega
end Go.Proofs.Ytebbnkkhabehmaa
