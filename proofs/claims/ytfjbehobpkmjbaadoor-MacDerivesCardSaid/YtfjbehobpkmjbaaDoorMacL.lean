/- What the statements on tags share: literals of bytes, bytes held against bytes, the bound on what is tried. Conditions: as each says. -/
import Derived.Test.YtfjbehobpkmjbaaDoorMacProg
import Derived.Test.YtfjbehobpkmjbaaDoorDigBase
namespace Go.Proofs.YtfjbehobpkmjbaaDoor
open Go.ChangeShapes Go.WideShapes Go.ChangeAt Go.RowKit

theorem done_buildFlat {o : Oper} {a : Act} {w : World} {K : Value → World → Prop} (len : Nat) (parts : Array (Nat × Operand)) (ho : o.op = .buildSlice 22 len parts) (zs : List Int) (hlen : len = zs.length) (hpos : 0 < len) (hsmall : len ≤ 2 ^ 24)
    (hparts : parts.toList = (zs.zipIdx 0).map fun x => (x.2, Operand.const (Value.int .u8 x.1))) (h : K (.slice (some ⟨w.heap.size, 0, none⟩) len len) (w.alloc (.cells (cellsOf .u8 zs) 5))) : doneAt Tryd.prog o a w K := by
  have hsz := byteInfo
  have hz : ((Tryd.prog.info? 5).bind (·.zero)).isSome = true := by rw [byteZero1]; rfl
  cases hie : Tryd.prog.info? 5 with
  | none => simp [hie] at hsz
  | some ie =>
    simp only [hie, Option.map_some, Option.some.injEq, Option.bind_some] at hsz hz
    obtain ⟨z, hzz⟩ := Option.isSome_iff_exists.1 hz
    have hf : Instr.fill (fun i => some (i * ie.size, ie.size)) ((Array.range (len * ie.size)).map (z.cells[· % z.cells.size]!)) (parts.map fun (i, x) => (i, a.eval x)).toList = some (cellsOf .u8 zs) := by
      rw [parts_eval a parts .u8 zs hparts, hsz]
      exact Great.fill_flat _ _ (fun v hv => by obtain ⟨n, _, rfl⟩ := List.mem_map.1 hv; rfl) (by simp [hlen])
    have e := run_buildSlice (P := Tryd.prog) w 22 5 len _ _ ie z bytesUnder hie hzz (by rw [hsz]; omega) (by rw [hsz]; omega) hf
    unfold doneAt execOp
    simp only [ho, Sem.run_bind]
    simp [e]
    exact h
theorem bytesAt_lit (w : World) (n : Nat) (f : Nat → Nat) (zs : List Int) (h : zs = mk n f) : BytesAt (w.alloc (.cells (cellsOf .u8 zs) 5)) (some ⟨w.heap.size, 0, none⟩) n f := by
  subst h; exact (IntBlk.new w .u8 _ (mk n f)).bytes
/-- Bytes that are the same are so by Same. -/
theorem Same_eq (p q : Option Addr) (n cp cq : Nat) (f g : Nat → Nat) (w : World) (hp : BytesAt w p n f) (hq : BytesAt w q n g) (he : mk n f = mk n g) :
    Calls Tryd.prog 13 #[.slice p n cp, .slice q n cq] w fun e w' => e = .returned (.bool true) ∧ w = w' := by
  have HP := Lib.hid hp; have HQ := Lib.hid hq; have HE := Lib.hid he
  clear hp hq he
  go_enter Tryd.func13, Tryd.ntmps13
  go_wp2_with (first
    | (refine wpList_string rfl (.tmp 5) rfl p n cp rfl f HP.out ?_; rw [HE.out])
    | (refine wpList_string rfl (.tmp 7) rfl q n cq rfl g HQ.out ?_))
  go_ret
  exact ⟨rfl, rfl⟩
/-- Pieces by value. -/
theorem piece_eq (f g : Nat → Nat) (w : World) : (Op.equalIn 10000 25 (.agg (cellsOf .u8 (mk 64 f))) (.agg (cellsOf .u8 (mk 64 g)))).run Tryd.prog w = .ok (mk 64 f == mk 64 g) w :=
  run_equalIn_ints w 9998 (mk 64 f) (mk 64 g) (by rw [mk_len]; exact pieceUnder) byteElem (by rw [mk_len, mk_len])
def sev : Nat → Nat := fun j => if j = 0 then 7 else 0
theorem built_sev : Tryd.prog.built 25 [(0, .int .u8 7)] = some (cellsOf .u8 (mk 64 sev)) := by kernel_rfl
theorem pieK_sev : mk 64 (pieK 1 fun _ => 7) = mk 64 sev := mk_ext fun j hj => by
  rw [pieK_short (by omega)]; unfold inG sev zeroK
  by_cases h : j = 0
  · rw [if_pos h, if_pos ⟨by omega, hj⟩]
  · rw [if_neg h, if_neg (by omega)]
section
variable {o : Oper} {a : Act} {C : World → Prop} {K : Act → Prop}
theorem gives_sev (ho : o.op = .build 25 #[(0, .const (.int .u8 7))]) (hk : K (a.put o.dst (.agg (cellsOf .u8 (mk 64 sev))))) : ∃ v, Gives Tryd.prog C o a v ∧ K (a.put o.dst v) :=
  ⟨_, fun w _ => by
    have e := run_build (P := Tryd.prog) w 25 #[(0, .int .u8 7)] (cellsOf .u8 (mk 64 sev)) built_sev
    unfold execOp
    simp only [ho]
    rw [Sem.run_bind]
    have h : (#[(0, Operand.const (.int .u8 7))].map fun (i, x) => (i, a.eval x)) = #[(0, Value.int .u8 7)] := by simp [Act.eval]
    rw [h, e]; rfl, hk⟩
theorem gives_piece_eql (x y : Operand) (ho : o.op = .binOp .eql 25 x y 25) (f g : Nat → Nat) (hx : a.eval x = .agg (cellsOf .u8 (mk 64 f))) (hy : a.eval y = .agg (cellsOf .u8 (mk 64 g))) (h : (mk 64 f == mk 64 g) = true) (hk : K (a.put o.dst (.bool true))) : ∃ v, Gives Tryd.prog C o a v ∧ K (a.put o.dst v) :=
  ⟨.bool true, fun w _ => by
    have e := piece_eq f g w
    unfold execOp
    simp only [ho, hx, hy]
    simp [go_sem, e, h], hk⟩
end
attribute [local irreducible] lenTo

/-- Whether lists are too long to be tried. -/
theorem large_any (q : Option Addr) (np cp : Nat) (P : Nat → Option Addr × Nat × Nat) (hnp : np ≤ 100) (hl : ∀ i, i < np → (P i).2.1 ≤ 140737488351232) (w : World) (hP : PartsAt w q np P) :
    Calls Tryd.prog 10 #[.slice q np cp] w fun e w' => e = .returned (.bool (decide (4096 < lenTo P np))) ∧ w = w' := by
  have l0 : lenTo P 0 = 0 := by unfold lenTo; rfl
  have ls : ∀ i, lenTo P (i + 1) = lenTo P i + (P i).2.1 := fun i => by conv => lhs; unfold lenTo
  have HM := Lib.hid (fun i (h : i ≤ np) => lenTo_mono P h)
  have HS := Lib.hid ls
  have H0 := Lib.hid l0
  have HL := Lib.hid hl
  have HPA := Lib.hid hP
  clear l0 ls hl hP
  go_enter Tryd.func10, Tryd.ntmps10
  go_wp2
  go_loopw [3, 8] (fun v3 v8 wr => ∃ i x : Nat, i ≤ np ∧ x = lenTo P i ∧ x ≤ 4096 ∧ v3 = .int .i64 x ∧ v8 = .int .i64 i ∧ wr = w) (fun _ v8 _ => np - (intOf v8).toNat)
  case atStart => exact ⟨0, 0, by omega, H0.out.symm, by omega, rfl, rfl, rfl⟩
  case round =>
    obtain ⟨i, x, hi, hx, hx2, rfl, rfl, rfl⟩ := hrel
    have HX := Lib.hid hx
    clear hx
    by_cases h : i < np
    · have e1 : (i : Int) < np := by omega
      have l0 : (0 : Int) ≤ i := by omega
      rcases HPA.out with h0 | ⟨B, o, rfl, hc⟩
      · omega
      have cs := hc i h
      have hln := HL.out i h
      have HSI := Lib.hid (HS.out i)
      have HMI := Lib.hid (HM.out (i + 1) (by omega))
      clear hc
      generalize hPi : P i = pi at *
      obtain ⟨pa, pn, pc⟩ := pi
      simp only at cs hln HSI
      clear hPi
      have q1 : IntKind.i64.wrap ((x : Int) + pn) = ((x + pn : Nat) : Int) := by rw [IntWalk.i64_in _ (by omega)]; omega
      by_cases hb : 4096 < x + pn
      · have e2 : (4096 : Int) < ((x + pn : Nat) : Int) := by omega
        have hd : decide (4096 < lenTo P np) = true := decide_eq_true (by have a := HSI.out; have b := HMI.out; have c := HX.out; omega)
        have HD := Lib.hid hd
        clear hd
        generalize x + pn = s at *
        go_wp2
        go_ret
        exact ⟨by rw [HD.out]; rfl, rfl⟩
      · have e2 : decide ((4096 : Int) < ((x + pn : Nat) : Int)) = false := decide_eq_false (by omega)
        have hs : x + pn = lenTo P (i + 1) := by rw [HSI.out, ← HX.out]
        have hs2 : x + pn ≤ 4096 := by omega
        have HSS := Lib.hid hs
        clear hs hb
        generalize x + pn = s at *
        go_wp2
        go_roundw
        case rel => exact ⟨i + 1, s, by omega, HSS.out, hs2, by first | rfl | trivial, by go_num, by first | rfl | trivial⟩
        case measure => simp [intOf]; omega
    · obtain rfl : i = np := by omega
      have hd1 : decide ((i : Int) < i) = false := by simp
      have hd : decide (4096 < lenTo P i) = false := decide_eq_false (by rw [← HX.out]; omega)
      have HD := Lib.hid hd
      clear hd h
      go_wp2
      go_ret
      exact ⟨by rw [HD.out]; rfl, rfl⟩
end Go.Proofs.YtfjbehobpkmjbaaDoor
