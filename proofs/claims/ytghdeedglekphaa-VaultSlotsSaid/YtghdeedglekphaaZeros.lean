/- Noughts appended to a slice of bytes that the call owns. Condition: no more than 100000 bytes. -/
import Derived.Test.YtghdeedglekphaaTrMake
import Derived.Lib.AppendZerosOnto
namespace Go.Proofs.Ytghdeedglekphaa
open Go.ChangeShapes Go.WideShapes Go.ChangeAt Go.RowKit

theorem intUnder1 : Try.prog.underlying 3 = some (.int .i64) := Try.underlying3
theorem zeros_list (m : Nat) : (Builtin.zeroCells (Value.int .u8 0).cells m).toList = bytesList m (fun _ => 0) := by
  unfold Builtin.zeroCells bytesList
  simp [Value.cells]
  intro a _
  rw [Nat.mod_one]; rfl
theorem append_zeros_own {base top k : Nat} {v : Value} {F : Nat → Nat} (w : World) (ty : TypeId) (hv : OwnS 5 1 w base top v k F) (m : Nat) (hk : k + m ≤ 100000) (hF : ∀ j, j < m → F (k + j) = 0) (hbase : base ≤ w.heap.size) :
    ∃ v' w', (Builtin.append_ #[22, 3] ty #[v, .int .i64 m]).run Try.prog w = .ok v' w' ∧ OwnS 5 1 w' base w'.heap.size v' (k + m) F ∧ Below base w w' := by
  have hi := byteInfo
  have hz := byteZero1
  have hb := byteBytes1
  have hw : IntKind.i64.wrap (m : Int) = m := IntWalk.i64_in _ (by omega)
  have hneg : ¬ ((m : Int) < 0) := by omega
  cases hq : Try.prog.info? 5 with
  | none => rw [hq] at hi; simp at hi
  | some i =>
    rw [hq] at hi hb hz
    have hsz : i.size = 1 := by simpa using hi
    have hzz : i.zero = some (.int .u8 0) := by simpa using hz
    have hby : i.bytes = 1 := by simpa using hb
    have h48i : ¬ (281474976710656 < (m : Int)) := by omega
    have hF0 : ∀ j, j < m → (fun _ => 0) j = F (k + j) := fun j hj => (hF j hj).symm
    -- what the growing arm leaves
    have grown : ∀ (cap : Nat), k + m ≤ cap → cap ≤ maxLen → OwnS 5 1 (w.drew.alloc (.cells ((bytesList k F).toArray ++ Builtin.zeroCells (Value.int .u8 0).cells m ++ Builtin.zeroCells (Value.int .u8 0).cells (cap - (k + m))) 5)) base
        (w.drew.alloc (.cells ((bytesList k F).toArray ++ Builtin.zeroCells (Value.int .u8 0).cells m ++ Builtin.zeroCells (Value.int .u8 0).cells (cap - (k + m))) 5)).heap.size (.slice (some ⟨w.heap.size, 0, none⟩) (k + m) cap) (k + m) F := fun cap h1 h2 => by
      refine .inr ⟨w.heap.size, cap, _, rfl, hbase, by rw [World.size_alloc]; show w.heap.size < w.heap.size + 1; omega, heap_alloc_new w.drew _, h1, h2, ?_, ?_⟩
      · simp only [Array.size_append, List.size_toArray, bytesList_len, size_zeroCells]
        show k + m * 1 + (cap - (k + m)) * 1 = cap * 1
        omega
      · rw [Array.toList_append, Array.toList_append, zeros_list, zeros_list, bytesList_more k m F _ hF0, Nat.mul_one]
        exact List.take_left' (bytesList_len _ _)
    have bel : ∀ o : Obj, Below base w (w.drew.alloc o) := fun o => (Below.refl _ w).drew.alloc hbase o
    by_cases h0 : m = 0
    · subst h0
      have hw0 : IntKind.i64.wrap 0 = 0 := by decide
      refine ⟨v, w, ?_, OwnS.of_owns (by rw [Nat.add_zero]; exact hv.owns), Below.refl _ _⟩
      rcases hv with ⟨rfl, rfl⟩ | ⟨B, c, cur, rfl, _, _, _, h5, _⟩
      · simp [Builtin.append_, run_underlying bytesUnder, run_underlying intUnder1, sizeOf, typeInfo, hq, asInt, asIntOf, hw0]
      · simp [Builtin.append_, run_underlying bytesUnder, run_underlying intUnder1, sizeOf, typeInfo, hq, asInt, asIntOf, hw0, h5, storeCells]
    · rcases hv with ⟨rfl, rfl⟩ | ⟨B, c, cur, rfl, h2, h3, h4, h5, h6, h7, h8⟩
      · have hr := Lib.run_append_nil_zeros (P := Try.prog) w 22 3 ty 5 i (.int .u8 0) .i64 .i64 bytesUnder intUnder1 hq hzz m (by omega) (by omega) (by omega) (by rw [hby]; omega)
        have hge := grownCap_ge w m 0 5
        have hle := grownCap_le_maxLen w m 0 5 (by simp only [maxLen]; omega)
        have g := grown (grownCap w m 0 5) (by omega) hle
        rw [Nat.zero_add] at g ⊢
        exact ⟨_, _, hr, by simpa [bytesList] using g, bel _⟩
      · rw [Nat.mul_one] at h8
        rw [Nat.mul_one] at h7
        by_cases hroom : k + m ≤ c
        · have hst := run_storeCells_at Try.prog B k 5 (bytesList m fun _ => 0) 0 cur w h4 (by rw [bytesList_len]; omega) bytesList_one
          simp only [Nat.add_zero] at hst
          have hrun : (Builtin.append_ #[22, 3] ty #[.slice (some ⟨B, 0, none⟩) k c, .int .i64 m]).run Try.prog w = .ok (.slice (some ⟨B, 0, none⟩) (k + m) c) (w.setRow B (cur.toList.take k ++ bytesList m (fun _ => 0) ++ cur.toList.drop (k + m)).toArray) := by
            rw [bytesList_len] at hst
            simp [Builtin.append_, run_underlying bytesUnder, run_underlying intUnder1, sizeOf, typeInfo, zeroValue, hq, hzz, hsz, hby, asInt, asIntOf, hw, hneg, h48i, h0, hroom, Addr.add_lit, zeros_list, hst]
          refine ⟨_, _, hrun, .inr ⟨B, c, _, rfl, h2, ?_, setRow_heap w B cur _ 5 _ h4, hroom, h6, ?_, ?_⟩, below_setRow (Below.refl _ _) h2 _⟩
          · have := (Array.getElem?_eq_some_iff.1 h4).1
            simpa [World.setRow] using this
          · simp only [List.size_toArray, List.length_append, List.length_take, List.length_drop, Array.length_toList, bytesList_len]
            omega
          · rw [h8, bytesList_more k m F _ hF0, Nat.mul_one]
            exact List.take_left' (bytesList_len _ _)
        · have hc : ∀ j u, (bytesList k F)[j]? = some u → w.cell? ((⟨B, 0, none⟩ : Addr).add j) = some u := fun j u hj => by
            obtain ⟨hj1, rfl⟩ := bytesList_get hj
            rw [addr_add, Nat.zero_add, cell_of_row w B j cur _ (0, 0) h4]
            have := bytesList_at (n := k) (F := F) hj1
            rw [← h8, List.getElem?_take_of_lt hj1] at this
            simpa using this
          have hold := run_firstCells_some (P := Try.prog) w.drew i.size k ⟨B, 0, none⟩ k c (bytesList k F) (by rw [bytesList_len, hsz, Nat.mul_one]) hc
          have hr := Lib.run_append_grow_zeros (P := Try.prog) w 22 3 ty 5 i (.int .u8 0) .i64 .i64 bytesUnder intUnder1 hq hzz (some ⟨B, 0, none⟩) k c (bytesList k F) hold m (by omega) (by omega) (by omega) (by omega) (by rw [hby]; omega) (by
            refine growslice_fits (by omega) ?_
            rw [hby]; omega)
          have hge := grownCap_ge w (k + m) c 5
          have hle := grownCap_le_maxLen w (k + m) c 5 (by simp only [maxLen]; omega)
          exact ⟨_, _, hr, grown _ hge hle, bel _⟩
end Go.Proofs.Ytghdeedglekphaa
