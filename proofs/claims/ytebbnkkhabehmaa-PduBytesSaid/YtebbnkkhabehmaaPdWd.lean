/- The contracts of package words' rowEnd, Row and TakeRow. Conditions: rows of no more than 2^47 bytes with what is put behind them. -/
import Derived.Test.YtebbnkkhabehmaaPdStr
import Derived.Shelf.Abstract
namespace Go.Proofs.Ytebbnkkhabehmaa
open Go.ChangeShapes Go.WideShapes Go.ChangeAt Go.RowKit Go.Shelf
set_option linter.unusedVariables false
set_option linter.unusedSimpArgs false
set_option maxRecDepth 100000 in
set_option maxHeartbeats 1000000 in
theorem rowEnd_short (p : Option Addr) (n cap at' : Nat) (hn : n ≤ 140737488355328) (hat : at' ≤ n) (h : n < at' + 2) (w : World) :
    Calls Try.prog 44 #[.slice p n cap, .int .i64 at'] w fun e w' => e = .returned (.tuple #[.int .i64 0, .bool false]) ∧ w = w' := by
  have e1 : IntKind.i64.wrap ((n : Int) - (at' : Int)) = (n : Int) - (at' : Int) := IntWalk.i64_in _ (by omega)
  have d1 : decide ((n : Int) - (at' : Int) < 2) = true := by simp; omega
  clear h
  go_enter Try.func44, Try.ntmps44
  go_wp2
  go_ret2
  exact ⟨rfl, rfl⟩
set_option maxRecDepth 100000 in
set_option maxHeartbeats 1000000 in
theorem rowEnd_any (p : Option Addr) (n cap at' : Nat) (g : Nat → Nat) (hg : ∀ i, i < n → g i < 256) (hn : n ≤ 140737488355328) (hcap : n ≤ cap) (h : at' + 2 ≤ n) (w : World) (hp : BytesAt w p n g) :
    Calls Try.prog 44 #[.slice p n cap, .int .i64 at'] w fun e w' => e = .returned (if at' + 2 + lenAt g at' ≤ n then .tuple #[.int .i64 (at' + 2 + lenAt g at' : Nat), .bool true] else .tuple #[.int .i64 0, .bool false]) ∧ w = w' := by
  have e1 : IntKind.i64.wrap ((n : Int) - (at' : Int)) = (n : Int) - (at' : Int) := IntWalk.i64_in _ (by omega)
  have d1 : decide ((n : Int) - (at' : Int) < 2) = false := by simp; omega
  have e2 : IntKind.i64.wrap ((at' : Int) + 2) = ((at' + 2 : Nat) : Int) := by rw [IntWalk.i64_in _ (by omega)]; omega
  have hl := lenAt_lt hg h
  have hL := wrap_len hg h
  obtain ⟨E, hE⟩ : ∃ E, at' + 2 + lenAt g at' = E := ⟨_, rfl⟩
  have e3 : IntKind.i64.wrap (((at' + 2 : Nat) : Int) + (lenAt g at' : Nat)) = (E : Int) := by rw [IntWalk.i64_in _ (by omega)]; omega
  have hmm : at' + 2 - at' = 2 := by omega
  have hbe : ∀ q, Behind p n at' (at' + 2 - at') q → ∀ V, BytesAt V p n g → Calls Try.prog 43 #[.slice q (at' + 2 - at') (cap - at')] V fun e w' => e = .returned (.int .i64 (lenAt g at' : Nat)) ∧ V = w' := fun q hq V hV => by
    have := read_any q (at' + 2 - at') (cap - at') (fun j => g (at' + j)) (fun i hi => hg _ (by omega)) (by omega) V (hq V g hV)
    rw [hmm, valN_two, hL] at this
    rw [hmm]; exact this
  have RC := Lib.hid hbe
  have HP := Lib.hid hp
  have k1 : at' ≤ at' + 2 := by omega
  rw [hE]
  clear hbe hp hmm hL hg
  generalize at' + 2 = f at *
  generalize lenAt g at' = ln at *
  by_cases hle : E ≤ n
  · have d2 : decide ((n : Int) < (E : Int)) = false := by simp; omega
    have d3 : decide (n < E) = false := by simp; omega
    rw [if_pos hle]
    clear hle hE
    go_enter Try.func44, Try.ntmps44
    go_wp2_with (first
      | (refine wpList_cut rfl _ _ _ rfl p n cap at' f at' f rfl rfl rfl rfl rfl k1 h hcap ?_; intro q hq)
      | (go_at_call 43; refine (RC.out q hq w HP.out).mono ?_; rintro e w1 ⟨rfl, rfl⟩))
    go_ret2
    exact ⟨rfl, rfl⟩
  · have d2 : decide ((n : Int) < (E : Int)) = true := by simp; omega
    have d3 : decide (n < E) = true := by simp; omega
    rw [if_neg hle]
    clear hle hE
    go_enter Try.func44, Try.ntmps44
    go_wp2_with (first
      | (refine wpList_cut rfl _ _ _ rfl p n cap at' f at' f rfl rfl rfl rfl rfl k1 h hcap ?_; intro q hq)
      | (go_at_call 43; refine (RC.out q hq w HP.out).mono ?_; rintro e w1 ⟨rfl, rfl⟩))
    go_ret2
    exact ⟨rfl, rfl⟩
set_option maxRecDepth 100000 in
set_option maxHeartbeats 1000000 in
theorem Row_range (p : Option Addr) (n cap : Nat) (q : Option Addr) (m mcap : Nat) (hm : 65535 < m) (w : World) : Calls Try.prog 24 #[.slice p n cap, .slice q m mcap] w fun e w' => e = .returned (.tuple #[.slice none 0 0, .iface 35 (.int .i64 1)]) ∧ w = w' := by
  have d1 : decide ((65535 : Int) < (m : Int)) = true := by simp; omega
  have d2 : decide (65535 < m) = true := by simp; omega
  clear hm
  go_enter Try.func24, Try.ntmps24
  go_wp2
  go_ret2
  exact ⟨rfl, rfl⟩
set_option maxRecDepth 100000 in
set_option maxHeartbeats 1000000 in
theorem Row_ok (p : Option Addr) (n cap : Nat) (g : Nat → Nat) (q : Option Addr) (m mcap : Nat) (G : Nat → Nat) (hm : m ≤ 65535) (hmc : m ≤ mcap) (hn : n ≤ 140737488280000) (w : World) (hp : BytesAt w p n g) (hq : BytesAt w q m G) :
    Calls Try.prog 24 #[.slice p n cap, .slice q m mcap] w fun e w' => e = .returned (.tuple #[.slice (some ⟨w.heap.size, 0, none⟩) (n + (2 + m)) (n + (2 + m)), .nilIface]) ∧ IntBlk w' w.heap.size .u8 5 (mk (n + (2 + m)) (cat n g (cat 2 (numF 2 m) G))) ∧ Below w.heap.size w w' := by
  have d1 : decide ((65535 : Int) < (m : Int)) = false := by simp; omega
  have d2 : decide (65535 < m) = false := by simp; omega
  obtain ⟨M, hM⟩ : ∃ M, 2 + m = M := ⟨_, rfl⟩
  have e1 : IntKind.i64.wrap (2 + (m : Int)) = (M : Int) := by rw [IntWalk.i64_in _ (by omega)]; omega
  obtain ⟨N, hN⟩ : ∃ N, n + M = N := ⟨_, rfl⟩
  have EC := Lib.hid (extend_any p n cap g M N hN.symm (by omega) w hp)
  have q1 : n ≤ N := by omega
  have q2 : n < N := by omega
  have q3 : N - n = M := by omega
  have q4 : 2 ≤ M := by omega
  have q5 : M - 2 = m := by omega
  have WC := Lib.hid (fun (W : World) h => write_any w.heap.size n 2 M N m (extF n g) (by omega) (by omega) (by omega) W h)
  have HE := Lib.hid (row_put n m N (by omega) g (numF 2 m) G)
  have HQ := Lib.hid (fun (W : World) (hb : Below w.heap.size w W) => hq.below hb)
  have q6 : m ≠ 0 → 2 < M := by omega
  have q7 : n + 2 + m ≤ N := by omega
  rw [hM, hN]
  clear hM hn hN hp hq hm
  go_enter Try.func24, Try.ntmps24
  go_wp2_with (first
    | (go_at_call 38; refine EC.out.mono ?_; rintro e w3 ⟨rfl, hr3, hb3⟩; have R3 := Lib.hid hr3; have B3 := Lib.hid hb3; clear EC hr3 hb3)
    | (refine wpList_tail rfl (.tmp 17) _ rfl (some ⟨w.heap.size, 0, none⟩) N N n n rfl rfl rfl q1 (Nat.le_refl _) ?_; intro p' _ hp'; rw [hp' _ 0 n rfl (Nat.zero_add n).symm q2, q3]; clear hp')
    | (refine wpList_upto rfl (.tmp 21) _ rfl (some ⟨w.heap.size, n, none⟩) M M 2 2 rfl rfl rfl q4 ?_)
    | (go_at_call 39; refine (WC.out w3 R3.out).mono ?_; rintro e w4 ⟨⟨v4, rfl⟩, hr4, hb4⟩; have R4 := Lib.hid hr4; have B4 := Lib.hid (B3.out.trans (hb4.below (Nat.le_refl _) B3.out.size)); clear WC hr4 hb4 B3 R3)
    | (refine wpList_tail rfl (.tmp 26) _ rfl (some ⟨w.heap.size, n, none⟩) M M 2 2 rfl rfl rfl q4 (Nat.le_refl _) ?_; intro p2 _ hp2; rw [q5]; have P2 := Lib.hid hp2; clear hp2)
    | (refine wpList_copy_bytes rfl _ _ rfl w.heap.size (n + 2) m m N (put (extF n g) n 2 (numF 2 m)) p2 rfl q m mcap (fun h => P2.out _ n (n + 2) rfl rfl (q6 h)) G rfl 5 R4.out (Nat.le_refl _) q7 (HQ.out _ B4.out) ?_
       intro v w5 hr5 hb5 hs5))
  go_ret2
  exact ⟨rfl, by rw [← HE.out]; exact hr5, B4.out.trans (hb5.below (Nat.le_refl _) B4.out.size)⟩
set_option maxRecDepth 100000 in
set_option maxHeartbeats 1000000 in
theorem TakeRow_none (p : Option Addr) (n cap : Nat) (g : Nat → Nat) (hg : ∀ i, i < n → g i < 256) (hcap : n ≤ cap) (hn : n ≤ 140737488355328) (h : n < 2 ∨ n < 2 + lenAt g 0) (w : World) (hp : BytesAt w p n g) :
    Calls Try.prog 41 #[.slice p n cap] w fun e w' => e = .returned (.tuple #[.slice none 0 0, .slice none 0 0, .iface 35 (.int .i64 2)]) ∧ w = w' := by
  have RC : Calls Try.prog 44 #[.slice p n cap, .int .i64 0] w fun e w' => e = .returned (.tuple #[.int .i64 0, .bool false]) ∧ w = w' := by
    by_cases h2 : n < 2
    · exact rowEnd_short p n cap 0 hn (by omega) (by omega) w
    · have := rowEnd_any p n cap 0 g hg hn hcap (by omega) w hp
      rwa [if_neg (by omega)] at this
  have HR := Lib.hid RC
  clear RC h hp hg
  go_enter Try.func41, Try.ntmps41
  go_wp2_with (first
    | (go_at_call 44; refine HR.out.mono ?_; rintro e w1 ⟨rfl, rfl⟩; clear HR))
  go_ret3
  exact ⟨rfl, rfl⟩
set_option maxRecDepth 100000 in
set_option maxHeartbeats 1000000 in
theorem TakeRow_ok (p : Option Addr) (n cap : Nat) (g : Nat → Nat) (hg : ∀ i, i < n → g i < 256) (hcap : n ≤ cap) (hn : n ≤ 140737488355328) (E m : Nat) (h2 : 2 + lenAt g 0 = E) (hE : E ≤ n) (hm : E - 2 = m) (w : World) (hp : BytesAt w p n g) :
    Calls Try.prog 41 #[.slice p n cap] w fun e w' => ∃ D1 D2, e = .returned (.tuple #[.slice (some ⟨D1, 0, none⟩) m m, .slice (some ⟨D2, 0, none⟩) (n - E) (n - E), .nilIface]) ∧
      IntBlk w' D1 .u8 5 (mk m (fun j => g (2 + j))) ∧ IntBlk w' D2 .u8 5 (mk (n - E) (fun j => g (E + j))) ∧ w.heap.size ≤ D1 ∧ D1 < D2 ∧ Below w.heap.size w w' := by
  have RC : Calls Try.prog 44 #[.slice p n cap, .int .i64 0] w fun e w' => e = .returned (.tuple #[.int .i64 E, .bool true]) ∧ w = w' := by
    have := rowEnd_any p n cap 0 g hg hn hcap (by omega) w hp
    rwa [if_pos (by omega), show 0 + 2 + lenAt g 0 = E by omega] at this
  have HR := Lib.hid RC
  have k2 : 2 ≤ E := by omega
  have EC1 := Lib.hid (fun q W hW => clone_any q m (cap - 2) (fun j => g (2 + j)) (by omega) W hW)
  have EC2 := Lib.hid (fun q W hW => clone_any q (n - E) (cap - E) (fun j => g (E + j)) (by omega) W hW)
  have HP := Lib.hid (fun q (hq : Behind p n 2 (E - 2) q) (W : World) (hb : Below w.heap.size w W) => hq W g (hp.below hb))
  rw [hm] at HP
  have HQ := Lib.hid (fun q (hq : Behind p n E (n - E) q) (W : World) (hb : Below w.heap.size w W) => hq W g (hp.below hb))
  have c0 : Below w.heap.size w w.drew := (Below.refl _ w).drew
  clear RC hp hn hg h2
  go_enter Try.func41, Try.ntmps41
  go_wp2_with (first
    | (go_at_call 44; refine HR.out.mono ?_; rintro e w1 ⟨rfl, rfl⟩; clear HR))
  refine wp_region_sched [(0, true), (1, true), (2, true), (4, true), (5, true), (6, true), (3, false), (7, false), (8, true), (9, true), (10, true)] (fun W => Below w.heap.size w W) (by kernel_rfl) (by kernel_rfl) c0 ?_
  refine walk_float rfl rfl (fun K' hK' => ?_)
  refine gives_move _ rfl ?_
  go_simp
  refine hK' _ ?_
  clear hK' K'
  refine walk_float rfl rfl (fun K' hK' => ?_)
  refine gives_move _ rfl ?_
  go_simp
  refine hK' _ ?_
  clear hK' K'
  refine walk_float rfl rfl (fun K' hK' => ?_)
  refine gives_cut _ _ _ rfl p n cap 2 E 2 E rfl rfl rfl rfl rfl k2 hE hcap ?_
  intro q1 hq1
  rw [hm] at hq1 ⊢
  go_simp
  refine hK' _ ?_
  clear hK' K'
  refine walk_float rfl rfl (fun K' hK' => ?_)
  refine gives_move _ rfl ?_
  go_simp
  refine hK' _ ?_
  clear hK' K'
  refine walk_float rfl rfl (fun K' hK' => ?_)
  refine gives_move _ rfl ?_
  go_simp
  refine hK' _ ?_
  clear hK' K'
  refine walk_float rfl rfl (fun K' hK' => ?_)
  refine gives_tail _ _ rfl p n cap E E rfl rfl rfl hE hcap ?_
  intro q2 hq2
  go_simp
  refine hK' _ ?_
  clear hK' K'
  refine walk_done rfl rfl (fun K' hK' => ?_)
  refine done_enter2 _ _ _ _ rfl 38 rfl (enters_of Try.func38 (by kernel_rfl) rfl) _ _ rfl rfl _ (EC1.out q1 _ (HP.out q1 hq1 _ c0)) ?_
  rintro e w2 ⟨rfl, hr2, hb2⟩
  have B2 := c0.trans hb2
  refine ⟨_, rfl, B2, ?_⟩
  go_simp
  refine hK' _ _ ?_
  clear hK' K'
  refine walk_done rfl rfl (fun K' hK' => ?_)
  refine done_enter2 _ _ _ _ rfl 38 rfl (enters_of Try.func38 (by kernel_rfl) rfl) _ _ rfl rfl _ (EC2.out q2 _ (HQ.out q2 hq2 _ B2)) ?_
  rintro e w3 ⟨rfl, hr3, hb3⟩
  have B3 := B2.trans (hb3.mono B2.size)
  refine ⟨_, rfl, B3, ?_⟩
  go_simp
  refine hK' _ _ ?_
  clear hK' K'
  refine walk_float rfl rfl (fun K' hK' => ?_)
  refine gives_assign _ rfl ?_
  go_simp
  refine hK' _ ?_
  clear hK' K'
  refine walk_float rfl rfl (fun K' hK' => ?_)
  refine gives_assign _ rfl ?_
  go_simp
  refine hK' _ ?_
  clear hK' K'
  refine walk_float rfl rfl (fun K' hK' => ?_)
  refine gives_assign _ rfl ?_
  go_simp
  refine hK' _ ?_
  clear hK' K'
  refine walk_nil ?_
  go_wp2
  go_ret3
  exact ⟨_, _, rfl, hr2.below hb3 hr2.lt, hr3, Nat.le_refl _, hr2.lt, B3⟩
end Go.Proofs.Ytebbnkkhabehmaa
