/- Of sectors of two entries, mixed in any way, one of them as it was is read, or none, unless tags of unlike texts are the same: the statement RedoMixed, tied to the program's text. No condition. -/
import Derived.Test.YtdeojhcfbiekmaaDoorRdMixL
import Derived.Test.YtdeojhcfbiekmaaDoorRdOpen
namespace Go.Proofs.YtdeojhcfbiekmaaDoor.redoMixed
open Go.ChangeShapes Go.WideShapes Go.ChangeAt Go.RowKit
set_option linter.unusedVariables false

theorem own : ownKnob Tryd.prog.godebug = none := by kernel_rfl
def encA (P : MxP) : List (List Int) := encL (tauK P.n P.g) P.za (putsL P.la)
def encB (P : MxP) : List (List Int) := encL (tauK P.n P.g) P.zb (putsL P.lb)
theorem encA_is (P : MxP) : encL (tauK P.n P.g) P.za (putsL P.la) = encA P := rfl
theorem encB_is (P : MxP) : encL (tauK P.n P.g) P.zb (putsL P.lb) = encB P := rfl
theorem encA_len (P : MxP) : (encA P).length = 2 + P.la.length := by unfold encA; rw [encL_len, putsL_len]
def zS : List Int := mk 128 (natF [])
theorem zS_sec : IsSec zS := isSec_mk fun i _ => by unfold natF; simp
theorem zS_is : secC [] = secC zS := by
  unfold secC zS
  rw [mk_ext (f := natF (mk 128 (natF []))) (g := natF []) fun j hj => natF_mk hj]
theorem rows_zS {w : World} {p : Option Addr} {N : Nat} (h : RowsAt 128 secC w p (List.replicate N [])) : RowsAt 128 secC w p (List.replicate N zS) := by
  rcases h with h | ⟨B, o, h1, h2, h3⟩
  · refine .inl ?_
    have : N = 0 := by have := congrArg List.length h; simpa using this
    subst this; rfl
  · refine .inr ⟨B, o, h1, h2, fun i c hc => ?_⟩
    obtain ⟨hi, rfl⟩ := List.getElem?_eq_some_iff.1 hc
    have := h3 i [] (by rw [List.getElem?_eq_getElem (by simpa using hi)]; simp)
    rw [List.getElem_replicate, ← zS_is]; exact this
theorem blk_bytes32 {w : World} {T : Nat} {t : TypeId} {l : List Int} (h : IntBlk w T .u8 t l) (hl : l.length = 32) (hb : IsBytes l) : BytesAt w (some ⟨T, 0, none⟩) 32 (natF l) := by
  have e := mk_natF hb
  rw [hl] at e
  rw [← e] at h
  exact h.bytesAt
theorem tau_head {x tau : List Int} (h : x = padS tau) (hl : tau.length = 32) (hb : IsBytes tau) : mk 32 (natF tau) = mk 32 (natF x) := by
  subst h
  rw [padS_head hl hb]
  have e := mk_natF hb
  rwa [hl] at e
theorem good_len {c : Int} {l : List PutOf} (h : goodE c l) : l.length ≤ 56 := h.2.1
theorem str_same {a b : List Int} (h : a = b) : ((strOfNums a).toList == (strOfNums b).toList) = true := by rw [h]; simp
theorem encB_len (P : MxP) : (encB P).length = 2 + P.lb.length := by unfold encB; rw [encL_len, putsL_len]
theorem forgetA {P : Program} {c : Code} {Q : Exit → Act → World → Prop} {w : World} {k3 k4 k9 k11 k13 k89 k90 : Value} {x0 x1 x2 x5 x6 x7 x8 x10 x12 x14 x15 x16 x17 x18 x19 x20 x21 x22 x23 x24 x25 x26 x27 x28 x29 x30 x31 x32 x33 x34 x35 x36 x37 x38 x39 x40 x41 x42 x43 x44 x45 x46 x47 x48 x49 x50 x51 x52 x53 x54 x55 x56 x57 x58 x59 x60 x61 x62 x63 x64 x65 x66 x67 x68 x69 x70 x71 x72 x73 x74 x75 x76 x77 x78 x79 x80 x81 x82 x83 x84 x85 x86 x87 x88 x91 x92 x93 x94 x95 x96 x97 x98 x99 x100 x101 x102 x103 x104 x105 x106 x107 x108 x109 : Value} (h : ∀ u0 u1 u2 u5 u6 u7 u8 u10 u12 u14 u15 u16 u17 u18 u19 u20 u21 u22 u23 u24 u25 u26 u27 u28 u29 u30 u31 u32 u33 u34 u35 u36 u37 u38 u39 u40 u41 u42 u43 u44 u45 u46 u47 u48 u49 u50 u51 u52 u53 u54 u55 u56 u57 u58 u59 u60 u61 u62 u63 u64 u65 u66 u67 u68 u69 u70 u71 u72 u73 u74 u75 u76 u77 u78 u79 u80 u81 u82 u83 u84 u85 u86 u87 u88 u91 u92 u93 u94 u95 u96 u97 u98 u99 u100 u101 u102 u103 u104 u105 u106 u107 u108 u109 : Value, c.wp P Q ⟨(u0 :: u1 :: u2 :: k3 :: k4 :: u5 :: u6 :: u7 :: u8 :: k9 :: u10 :: k11 :: u12 :: k13 :: u14 :: u15 :: u16 :: u17 :: u18 :: u19 :: u20 :: u21 :: u22 :: u23 :: u24 :: u25 :: u26 :: u27 :: u28 :: u29 :: u30 :: u31 :: u32 :: u33 :: u34 :: u35 :: u36 :: u37 :: u38 :: u39 :: u40 :: u41 :: u42 :: u43 :: u44 :: u45 :: u46 :: u47 :: u48 :: u49 :: u50 :: u51 :: u52 :: u53 :: u54 :: u55 :: u56 :: u57 :: u58 :: u59 :: u60 :: u61 :: u62 :: u63 :: u64 :: u65 :: u66 :: u67 :: u68 :: u69 :: u70 :: u71 :: u72 :: u73 :: u74 :: u75 :: u76 :: u77 :: u78 :: u79 :: u80 :: u81 :: u82 :: u83 :: u84 :: u85 :: u86 :: u87 :: u88 :: k89 :: k90 :: u91 :: u92 :: u93 :: u94 :: u95 :: u96 :: u97 :: u98 :: u99 :: u100 :: u101 :: u102 :: u103 :: u104 :: u105 :: u106 :: u107 :: u108 :: u109 :: undef :: undef :: undef :: undef :: undef :: undef :: undef :: undef :: undef :: undef :: undef :: undef :: undef :: undef :: undef :: undef :: undef :: undef :: undef :: undef :: undef :: undef :: undef :: undef :: undef :: undef :: undef :: undef :: undef :: undef :: undef :: undef :: undef :: undef :: undef :: undef :: undef :: undef :: undef :: undef :: undef :: undef :: undef :: undef :: undef :: undef :: undef :: undef :: undef :: undef :: undef :: undef :: undef :: undef :: undef :: undef :: undef :: undef :: undef :: undef :: undef :: undef :: undef :: undef :: undef :: undef :: undef :: undef :: undef :: undef :: undef :: undef :: []).toArray, []⟩ w) : c.wp P Q ⟨(x0 :: x1 :: x2 :: k3 :: k4 :: x5 :: x6 :: x7 :: x8 :: k9 :: x10 :: k11 :: x12 :: k13 :: x14 :: x15 :: x16 :: x17 :: x18 :: x19 :: x20 :: x21 :: x22 :: x23 :: x24 :: x25 :: x26 :: x27 :: x28 :: x29 :: x30 :: x31 :: x32 :: x33 :: x34 :: x35 :: x36 :: x37 :: x38 :: x39 :: x40 :: x41 :: x42 :: x43 :: x44 :: x45 :: x46 :: x47 :: x48 :: x49 :: x50 :: x51 :: x52 :: x53 :: x54 :: x55 :: x56 :: x57 :: x58 :: x59 :: x60 :: x61 :: x62 :: x63 :: x64 :: x65 :: x66 :: x67 :: x68 :: x69 :: x70 :: x71 :: x72 :: x73 :: x74 :: x75 :: x76 :: x77 :: x78 :: x79 :: x80 :: x81 :: x82 :: x83 :: x84 :: x85 :: x86 :: x87 :: x88 :: k89 :: k90 :: x91 :: x92 :: x93 :: x94 :: x95 :: x96 :: x97 :: x98 :: x99 :: x100 :: x101 :: x102 :: x103 :: x104 :: x105 :: x106 :: x107 :: x108 :: x109 :: undef :: undef :: undef :: undef :: undef :: undef :: undef :: undef :: undef :: undef :: undef :: undef :: undef :: undef :: undef :: undef :: undef :: undef :: undef :: undef :: undef :: undef :: undef :: undef :: undef :: undef :: undef :: undef :: undef :: undef :: undef :: undef :: undef :: undef :: undef :: undef :: undef :: undef :: undef :: undef :: undef :: undef :: undef :: undef :: undef :: undef :: undef :: undef :: undef :: undef :: undef :: undef :: undef :: undef :: undef :: undef :: undef :: undef :: undef :: undef :: undef :: undef :: undef :: undef :: undef :: undef :: undef :: undef :: undef :: undef :: undef :: undef :: []).toArray, []⟩ w :=
  h x0 x1 x2 x5 x6 x7 x8 x10 x12 x14 x15 x16 x17 x18 x19 x20 x21 x22 x23 x24 x25 x26 x27 x28 x29 x30 x31 x32 x33 x34 x35 x36 x37 x38 x39 x40 x41 x42 x43 x44 x45 x46 x47 x48 x49 x50 x51 x52 x53 x54 x55 x56 x57 x58 x59 x60 x61 x62 x63 x64 x65 x66 x67 x68 x69 x70 x71 x72 x73 x74 x75 x76 x77 x78 x79 x80 x81 x82 x83 x84 x85 x86 x87 x88 x91 x92 x93 x94 x95 x96 x97 x98 x99 x100 x101 x102 x103 x104 x105 x106 x107 x108 x109
theorem forgetB {P : Program} {c : Code} {Q : Exit → Act → World → Prop} {w : World} {k9 k11 k22 : Value} {x0 x1 x2 x3 x4 x5 x6 x7 x8 x10 x12 x13 x14 x15 x16 x17 x18 x19 x20 x21 x23 x24 x25 x26 x27 x28 x29 x30 x31 x32 x33 x34 x35 x36 x37 x38 x39 x40 x41 x42 x43 x44 x45 x46 x47 x48 x49 x50 x51 x52 x53 x54 x55 x56 x57 x58 x59 x60 x61 x62 x63 x64 x65 x66 x67 x68 x69 x70 x71 x72 x73 x74 x75 x76 x77 x78 x79 x80 x81 x82 x83 x84 x85 x86 x87 x88 x89 x90 x91 x92 x93 x94 x95 x96 x97 x98 x99 x100 x101 x102 x103 x104 x105 x106 x107 x108 x109 x110 x111 x112 x113 x114 x115 x116 x117 x118 x119 x120 x121 x122 x123 x124 x125 x126 x127 x128 x129 x130 x131 x132 x133 x134 x135 x136 x137 x138 x139 x140 x141 x142 x143 x144 x145 x146 x147 x148 x149 x150 x151 x152 x153 x154 x155 x156 x157 x158 x159 x160 x161 x162 x163 x164 x165 x166 x167 x168 x169 x170 x171 x172 x173 x174 x175 x176 x177 x178 x179 x180 x181 : Value} (h : ∀ u0 u1 u2 u3 u4 u5 u6 u7 u8 u10 u12 u13 u14 u15 u16 u17 u18 u19 u20 u21 u23 u24 u25 u26 u27 u28 u29 u30 u31 u32 u33 u34 u35 u36 u37 u38 u39 u40 u41 u42 u43 u44 u45 u46 u47 u48 u49 u50 u51 u52 u53 u54 u55 u56 u57 u58 u59 u60 u61 u62 u63 u64 u65 u66 u67 u68 u69 u70 u71 u72 u73 u74 u75 u76 u77 u78 u79 u80 u81 u82 u83 u84 u85 u86 u87 u88 u89 u90 u91 u92 u93 u94 u95 u96 u97 u98 u99 u100 u101 u102 u103 u104 u105 u106 u107 u108 u109 u110 u111 u112 u113 u114 u115 u116 u117 u118 u119 u120 u121 u122 u123 u124 u125 u126 u127 u128 u129 u130 u131 u132 u133 u134 u135 u136 u137 u138 u139 u140 u141 u142 u143 u144 u145 u146 u147 u148 u149 u150 u151 u152 u153 u154 u155 u156 u157 u158 u159 u160 u161 u162 u163 u164 u165 u166 u167 u168 u169 u170 u171 u172 u173 u174 u175 u176 u177 u178 u179 u180 u181 : Value, c.wp P Q ⟨(u0 :: u1 :: u2 :: u3 :: u4 :: u5 :: u6 :: u7 :: u8 :: k9 :: u10 :: k11 :: u12 :: u13 :: u14 :: u15 :: u16 :: u17 :: u18 :: u19 :: u20 :: u21 :: k22 :: u23 :: u24 :: u25 :: u26 :: u27 :: u28 :: u29 :: u30 :: u31 :: u32 :: u33 :: u34 :: u35 :: u36 :: u37 :: u38 :: u39 :: u40 :: u41 :: u42 :: u43 :: u44 :: u45 :: u46 :: u47 :: u48 :: u49 :: u50 :: u51 :: u52 :: u53 :: u54 :: u55 :: u56 :: u57 :: u58 :: u59 :: u60 :: u61 :: u62 :: u63 :: u64 :: u65 :: u66 :: u67 :: u68 :: u69 :: u70 :: u71 :: u72 :: u73 :: u74 :: u75 :: u76 :: u77 :: u78 :: u79 :: u80 :: u81 :: u82 :: u83 :: u84 :: u85 :: u86 :: u87 :: u88 :: u89 :: u90 :: u91 :: u92 :: u93 :: u94 :: u95 :: u96 :: u97 :: u98 :: u99 :: u100 :: u101 :: u102 :: u103 :: u104 :: u105 :: u106 :: u107 :: u108 :: u109 :: u110 :: u111 :: u112 :: u113 :: u114 :: u115 :: u116 :: u117 :: u118 :: u119 :: u120 :: u121 :: u122 :: u123 :: u124 :: u125 :: u126 :: u127 :: u128 :: u129 :: u130 :: u131 :: u132 :: u133 :: u134 :: u135 :: u136 :: u137 :: u138 :: u139 :: u140 :: u141 :: u142 :: u143 :: u144 :: u145 :: u146 :: u147 :: u148 :: u149 :: u150 :: u151 :: u152 :: u153 :: u154 :: u155 :: u156 :: u157 :: u158 :: u159 :: u160 :: u161 :: u162 :: u163 :: u164 :: u165 :: u166 :: u167 :: u168 :: u169 :: u170 :: u171 :: u172 :: u173 :: u174 :: u175 :: u176 :: u177 :: u178 :: u179 :: u180 :: u181 :: []).toArray, []⟩ w) : c.wp P Q ⟨(x0 :: x1 :: x2 :: x3 :: x4 :: x5 :: x6 :: x7 :: x8 :: k9 :: x10 :: k11 :: x12 :: x13 :: x14 :: x15 :: x16 :: x17 :: x18 :: x19 :: x20 :: x21 :: k22 :: x23 :: x24 :: x25 :: x26 :: x27 :: x28 :: x29 :: x30 :: x31 :: x32 :: x33 :: x34 :: x35 :: x36 :: x37 :: x38 :: x39 :: x40 :: x41 :: x42 :: x43 :: x44 :: x45 :: x46 :: x47 :: x48 :: x49 :: x50 :: x51 :: x52 :: x53 :: x54 :: x55 :: x56 :: x57 :: x58 :: x59 :: x60 :: x61 :: x62 :: x63 :: x64 :: x65 :: x66 :: x67 :: x68 :: x69 :: x70 :: x71 :: x72 :: x73 :: x74 :: x75 :: x76 :: x77 :: x78 :: x79 :: x80 :: x81 :: x82 :: x83 :: x84 :: x85 :: x86 :: x87 :: x88 :: x89 :: x90 :: x91 :: x92 :: x93 :: x94 :: x95 :: x96 :: x97 :: x98 :: x99 :: x100 :: x101 :: x102 :: x103 :: x104 :: x105 :: x106 :: x107 :: x108 :: x109 :: x110 :: x111 :: x112 :: x113 :: x114 :: x115 :: x116 :: x117 :: x118 :: x119 :: x120 :: x121 :: x122 :: x123 :: x124 :: x125 :: x126 :: x127 :: x128 :: x129 :: x130 :: x131 :: x132 :: x133 :: x134 :: x135 :: x136 :: x137 :: x138 :: x139 :: x140 :: x141 :: x142 :: x143 :: x144 :: x145 :: x146 :: x147 :: x148 :: x149 :: x150 :: x151 :: x152 :: x153 :: x154 :: x155 :: x156 :: x157 :: x158 :: x159 :: x160 :: x161 :: x162 :: x163 :: x164 :: x165 :: x166 :: x167 :: x168 :: x169 :: x170 :: x171 :: x172 :: x173 :: x174 :: x175 :: x176 :: x177 :: x178 :: x179 :: x180 :: x181 :: []).toArray, []⟩ w :=
  h x0 x1 x2 x3 x4 x5 x6 x7 x8 x10 x12 x13 x14 x15 x16 x17 x18 x19 x20 x21 x23 x24 x25 x26 x27 x28 x29 x30 x31 x32 x33 x34 x35 x36 x37 x38 x39 x40 x41 x42 x43 x44 x45 x46 x47 x48 x49 x50 x51 x52 x53 x54 x55 x56 x57 x58 x59 x60 x61 x62 x63 x64 x65 x66 x67 x68 x69 x70 x71 x72 x73 x74 x75 x76 x77 x78 x79 x80 x81 x82 x83 x84 x85 x86 x87 x88 x89 x90 x91 x92 x93 x94 x95 x96 x97 x98 x99 x100 x101 x102 x103 x104 x105 x106 x107 x108 x109 x110 x111 x112 x113 x114 x115 x116 x117 x118 x119 x120 x121 x122 x123 x124 x125 x126 x127 x128 x129 x130 x131 x132 x133 x134 x135 x136 x137 x138 x139 x140 x141 x142 x143 x144 x145 x146 x147 x148 x149 x150 x151 x152 x153 x154 x155 x156 x157 x158 x159 x160 x161 x162 x163 x164 x165 x166 x167 x168 x169 x170 x171 x172 x173 x174 x175 x176 x177 x178 x179 x180 x181
attribute [local irreducible] putC natF putsL encL goodE tauK secC decE textL encA encB zS byteC textT padS
set_option maxRecDepth 100000 in
set_option maxHeartbeats 8000000 in
theorem walk' (P : MxP) (w : World) (hk : KeyOk w P.kp P.n P.kc P.g) (hT : TabAt w) (ha : RowsIn w P.qa P.la) (hb : RowsIn w P.qb P.lb) (hi : IntsAt w P.qp P.lp) :
    Calls Tryd.prog 6 #[.agg #[.slice P.kp P.n P.kc, .int .i64 P.za, .slice P.qa P.la.length P.ca, .int .i64 P.ma], .agg #[.slice P.kb P.nb P.kbc, .int .i64 P.zb, .slice P.qb P.lb.length P.cb, .int .i64 P.mb], .slice P.qp P.lp.length P.cp] w fun e w' => e = .returned (.bool true) ∧ Below w.heap.size w w' := by
  have hS0 := MxS.start hk hT ha hb hi
  unfold MxP.xa MxP.xb at hS0
  have s0 := hS0.a0
  have s2 := hS0.a2
  have t2 := hS0.b2
  have S0 := Lib.hid hS0
  have HI := Lib.hid (fun W (h : MxS P w W) => h.i)
  generalize P.qp = qp at *
  have HOA := Lib.hid (putsL_ok ha)
  have HAA := Lib.hid (putsL_ats ha)
  have HOB := Lib.hid (putsL_ok hb)
  have HAB := Lib.hid (putsL_ats hb)
  clear hk hT ha hb hi hS0
  by_cases h1 : P.n ≤ 1000 ∧ P.la.length ≤ 70
  · by_cases h2 : P.n ≤ 1000 ∧ P.lb.length ≤ 70
    · have LG1 := Lib.hid (fun W => large_no P.kp P.n P.kc P.qa P.la.length P.ca h1.1 h1.2 W)
      have LG2 := Lib.hid (fun W => large_no P.kp P.n P.kc P.qb P.lb.length P.cb h2.1 h2.2 W)
      by_cases h3 : P.lp.length ≤ 100
      · have d1 : decide ((100 : Int) < (P.lp.length : Int)) = false := decide_eq_false (by omega)
        have d2 : decide (100 < P.lp.length) = false := decide_eq_false (by omega)
        have OC := Lib.hid (fun W hT => one_any none 0 0 (fun _ => 0) (by decide) (Nat.le_refl _) (fun i hi => absurd hi (Nat.not_lt_zero _)) W hT (.inl rfl))
        have HLA := Lib.hid (show (putsL P.la).length ≤ 70 by rw [putsL_len]; exact h1.2)
        have HLB := Lib.hid (show (putsL P.lb).length ≤ 70 by rw [putsL_len]; exact h2.2)
        have HNA := Lib.hid (show P.la.length ≤ 1000 by omega)
        have HNB := Lib.hid (show P.lb.length ≤ 1000 by omega)
        have HN := Lib.hid h1.1
        have HA70 := Lib.hid h1.2
        have HB70 := Lib.hid h2.2
        have HPL := Lib.hid h3
        have EA := Lib.hid (fun (q' : Option Addr) (c' : Nat) (W : World) (hs : MxS P w W) hp => Encode_any P.kp P.n P.kc P.g (by have := HN.out; omega) hs.k.cap hs.k.lt P.za q' c' (putsL P.la) (by have := HLA.out; omega) HAA.out HOA.out W hs.t hs.k.at' hp)
        have EB := Lib.hid (fun (q' : Option Addr) (c' : Nat) (W : World) (hs : MxS P w W) hp => Encode_any P.kp P.n P.kc P.g (by have := HN.out; omega) hs.k.cap hs.k.lt P.zb q' c' (putsL P.lb) (by have := HLB.out; omega) HAB.out HOB.out W hs.t hs.k.at' hp)
        have HELA := Lib.hid (encA_len P)
        have HELB := Lib.hid (encB_len P)
        have HESA := Lib.hid (show ∀ s ∈ encA P, IsSec s by rw [← encA_is]; exact encL_sec (tauK_bytes P.n P.g) HOA.out)
        have HESB := Lib.hid (show ∀ s ∈ encB P, IsSec s by rw [← encB_is]; exact encL_sec (tauK_bytes P.n P.g) HOB.out)
        clear h1 h2 h3
        by_cases hga : goodE P.za (putsL P.la)
        · have HGA := Lib.hid hga
          clear hga
          by_cases hgb : goodE P.zb (putsL P.lb)
          · have HGB := Lib.hid hgb
            clear hgb
            go_enter Tryd.func6, Tryd.ntmps6
            go_wp2_with (first
              | (go_at_call 8; refine (LG1.out _).mono ?_; rintro e w1 ⟨rfl, rfl⟩; clear LG1)
              | (go_at_call 8; refine (LG2.out _).mono ?_; rintro e w1 ⟨rfl, rfl⟩; clear LG2)
              | (go_at_call 9
                 generalize (w.alloc (.cells #[.slice P.kp P.n P.kc, .int .i64 P.za, .slice P.qa P.la.length P.ca, .int .i64 P.ma] 53)).alloc (.cells #[.slice P.kb P.nb P.kbc, .int .i64 P.zb, .slice P.qb P.lb.length P.cb, .int .i64 P.mb] 53) = wA at *
                 refine (OC.out wA S0.out.t).mono ?_; rintro e w1 ⟨⟨B1, c1, rfl, hc⟩, hb⟩
                 have S1 := Lib.hid (S0.out.below hb)
                 clear hb OC S0 hc s0 s2 t2))
            have c0 : Below w1.heap.size w1 w1.drew := (Below.refl _ w1).drew
            refine wp_region_sched [(0, true), (1, true), (2, true), (3, true), (4, true), (5, true), (6, false), (7, false), (8, true), (9, true), (10, true), (11, true), (12, true)] (fun U => Below w1.heap.size w1 U) (by kernel_rfl) (by kernel_rfl) c0 ?_
            iterate 6 (
              refine walk_float rfl rfl (fun K hK => ?_)
              first
                | (refine gives_entryfield _ 0 rfl (by decide) (w.heap.size) rfl ?_)
                | (refine gives_entryfield _ 1 rfl (by decide) (w.heap.size) rfl ?_)
                | (refine gives_entryfield _ 2 rfl (by decide) (w.heap.size) rfl ?_)
                | (refine gives_cell 22 _ rfl ⟨w.heap.size, 0, none⟩ (.slice P.kp P.n P.kc) rfl box_bytes (fun U h => (S1.out.below h).a0) ?_)
                | (refine gives_cell 3 _ rfl ⟨w.heap.size, 1, none⟩ (.int .i64 P.za) rfl box_int (fun U h => (S1.out.below h).a1) ?_)
                | (refine gives_cell 23 _ rfl ⟨w.heap.size, 2, none⟩ (.slice P.qa P.la.length P.ca) rfl box_rows (fun U h => (S1.out.below h).a2) ?_)
              go_simp
              refine hK _ ?_
              clear hK K)
            refine walk_done rfl rfl (fun K hK => ?_)
            refine done_enter1 _ _ _ rfl 10 rfl (enters_of Tryd.func10 (by kernel_rfl) rfl) _ rfl _ (puts_any P.qa P.ca P.la HNA.out w1.drew (S1.out.below c0).pa) (fun e w2 h2 => ?_)
            obtain ⟨v, rfl, ho, hb2⟩ := h2
            obtain ⟨lp, lc, rfl, -, -, hr, -⟩ := ho.rows elemPut.len
            have c1 : Below w1.heap.size w1 w2 := c0.trans hb2
            refine ⟨_, rfl, c1, ?_⟩
            go_simp
            refine hK _ _ ?_
            clear hK K ho hb2
            refine walk_done rfl rfl (fun K hK => ?_)
            refine done_enter3 _ _ _ _ _ rfl 9 rfl (enters_of Tryd.func9 (by kernel_rfl) rfl) _ _ _ rfl rfl rfl _ (EA.out lp lc w2 (S1.out.below c1) hr) (fun e w3 h3 => ?_)
            obtain ⟨hs, hb3⟩ := h3
            have c2 : Below w1.heap.size w1 w3 := c1.trans (hb3.mono c1.size)
            unfold EncSays at hs
            obtain ⟨-, XB, xc, rfl, -, -, hrr⟩ := hs.resolve_right (fun h => h.1 HGA.out)
            refine ⟨_, rfl, c2, ?_⟩
            go_simp
            refine hK _ _ ?_
            clear hK K
            iterate 5 (
              refine walk_float rfl rfl (fun K hK => ?_)
              first
                | (refine gives_move _ rfl ?_)
                | (refine gives_extract _ 0 rfl _ _ rfl rfl ?_)
                | (refine gives_extract _ 1 rfl _ _ rfl rfl ?_)
                | (refine gives_assign _ rfl ?_)
              go_simp
              refine hK _ ?_
              clear hK K)
            refine walk_nil ?_
            rw [encA_is] at hrr ⊢
            have X3r := Lib.hid hrr
            have S3 := Lib.hid (S1.out.below c2)
            clear c0 c1 c2 hs hb3 hr hrr S1 EA
            go_wp2
            have c0 : Below w3.heap.size w3 w3.drew := (Below.refl _ w3).drew
            refine wp_region_sched [(0, true), (1, true), (2, true), (3, true), (4, true), (5, true), (6, false), (7, false), (8, true), (9, true), (10, true), (11, true), (12, true)] (fun U => Below w3.heap.size w3 U) (by kernel_rfl) (by kernel_rfl) c0 ?_
            iterate 6 (
              refine walk_float rfl rfl (fun K hK => ?_)
              first
                | (refine gives_entryfield _ 0 rfl (by decide) (w.heap.size) rfl ?_)
                | (refine gives_entryfield _ 1 rfl (by decide) (w.heap.size + 1) rfl ?_)
                | (refine gives_entryfield _ 2 rfl (by decide) (w.heap.size + 1) rfl ?_)
                | (refine gives_cell 22 _ rfl ⟨w.heap.size, 0, none⟩ (.slice P.kp P.n P.kc) rfl box_bytes (fun U h => (S3.out.below h).a0) ?_)
                | (refine gives_cell 3 _ rfl ⟨w.heap.size + 1, 1, none⟩ (.int .i64 P.zb) rfl box_int (fun U h => (S3.out.below h).b1) ?_)
                | (refine gives_cell 23 _ rfl ⟨w.heap.size + 1, 2, none⟩ (.slice P.qb P.lb.length P.cb) rfl box_rows (fun U h => (S3.out.below h).b2) ?_)
              go_simp
              refine hK _ ?_
              clear hK K)
            refine walk_done rfl rfl (fun K hK => ?_)
            refine done_enter1 _ _ _ rfl 10 rfl (enters_of Tryd.func10 (by kernel_rfl) rfl) _ rfl _ (puts_any P.qb P.cb P.lb HNB.out w3.drew (S3.out.below c0).pb) (fun e w4 h2 => ?_)
            obtain ⟨v, rfl, ho, hb2⟩ := h2
            obtain ⟨lp, lc, rfl, -, -, hr, -⟩ := ho.rows elemPut.len
            have c1 : Below w3.heap.size w3 w4 := c0.trans hb2
            refine ⟨_, rfl, c1, ?_⟩
            go_simp
            refine hK _ _ ?_
            clear hK K ho hb2
            refine walk_done rfl rfl (fun K hK => ?_)
            refine done_enter3 _ _ _ _ _ rfl 9 rfl (enters_of Tryd.func9 (by kernel_rfl) rfl) _ _ _ rfl rfl rfl _ (EB.out lp lc w4 (S3.out.below c1) hr) (fun e w5 h3 => ?_)
            obtain ⟨hs, hb3⟩ := h3
            have c2 : Below w3.heap.size w3 w5 := c1.trans (hb3.mono c1.size)
            unfold EncSays at hs
            obtain ⟨-, YB, yc, rfl, -, -, hrr⟩ := hs.resolve_right (fun h => h.1 HGB.out)
            refine ⟨_, rfl, c2, ?_⟩
            go_simp
            refine hK _ _ ?_
            clear hK K
            iterate 5 (
              refine walk_float rfl rfl (fun K hK => ?_)
              first
                | (refine gives_move _ rfl ?_)
                | (refine gives_extract _ 0 rfl _ _ rfl rfl ?_)
                | (refine gives_extract _ 1 rfl _ _ rfl rfl ?_)
                | (refine gives_assign _ rfl ?_)
              go_simp
              refine hK _ ?_
              clear hK K)
            refine walk_nil ?_
            rw [encB_is] at hrr ⊢
            have Y5r := Lib.hid hrr
            have X5r := Lib.hid (X3r.out.below c2)
            have S5 := Lib.hid (S3.out.below c2)
            clear c0 c1 c2 hs hb3 hr hrr S3 EB
            generalize hnx : (encA P).length = nx at *
            generalize hny : (encB P).length = ny at *
            obtain ⟨N, hN⟩ : ∃ N, max nx ny = N := ⟨_, rfl⟩
            have HMX := Lib.hid (show nx ≤ N ∧ ny ≤ N ∧ N ≤ 72 ∧ 2 ≤ nx ∧ 2 ≤ ny from by have := HELA.out; have := HELB.out; have := HA70.out; have := HB70.out; omega)
            have HNN := Lib.hid hN
            clear hN
            go_wp2_with (first
              | (refine wpList_max rfl _ _ rfl nx ny N HNN.out rfl rfl ?_)
              | (refine wpList_make_nils rfl _ _ rfl N N w5.heap.size rfl rfl (Nat.le_refl _) (by have := HMX.out; omega) (Nat.le_refl _) ?_
                 intro w6 ho6 hb6
                 have O6 := Lib.hid ho6
                 have S6 := Lib.hid (S5.out.below hb6)
                 have B6 := Lib.hid hb6
                 have X6 := Lib.hid (X5r.out.below hb6)
                 have Y6 := Lib.hid (Y5r.out.below hb6)
                 have XL := Lib.hid (show XB < w5.heap.size from by
                   obtain ⟨B', o', e, h, -⟩ := secsAt_get X5r.out (k := 0) (by have := HMX.out; omega)
                   cases e; exact h)
                 have T6 := Lib.hid (there_own ho6 ⟨rfl, rfl⟩)
                 have R6 := Lib.hid (rows_zS (own_rows secC_len ho6).2)
                 have W6 := Lib.hid (show w5.heap.size ≤ w6.heap.size from hb6.size)
                 clear ho6 hb6)
              | (refine wpList_copy_secs rfl _ _ rfl w5.heap.size N N XB 0 nx xc (encA P) rfl rfl hnx.symm HMX.out.1 X6.out (there_sub T6.out (show 0 + (encA P).length * 128 ≤ (List.replicate N ([] : List Int)).length * 128 by rw [List.length_replicate, hnx]; have := HMX.out; omega)) ?_
                 intro vv))
            have R7 := Lib.hid (rows_over R6.out (m := encA P) (by rw [List.length_replicate, hnx]; have := HMX.out; omega) (there_sub T6.out (show 0 + (encA P).length * 128 ≤ (List.replicate N ([] : List Int)).length * 128 by rw [List.length_replicate, hnx]; have := HMX.out; omega)))
            have T7 := Lib.hid (World.there_setCells T6.out w5.heap.size 0 ((encA P).flatMap secC))
            have B7 := Lib.hid (below_setCells (M := w5.heap.size) (Nat.le_refl _) ((encA P).flatMap secC) 0 w6 B6.out)
            rw [List.length_replicate] at T7
            have HLN := Lib.hid (show ((encA P) ++ (List.replicate N zS).drop (encA P).length).length = N by rw [List.length_append, List.length_drop, List.length_replicate, hnx]; have := HMX.out; omega)
            have HL1 := Lib.hid (show ((encA P) ++ (List.replicate N zS).drop (encA P).length).getD 1 [] = (encA P).getD 1 [] by
              rw [List.getD_eq_getElem?_getD, List.getD_eq_getElem?_getD, List.getElem?_append_left (by rw [hnx]; have := HMX.out; omega)])
            have HLS := Lib.hid (show ∀ s ∈ ((encA P) ++ (List.replicate N zS).drop (encA P).length), IsSec s from fun s hs => by
              rcases List.mem_append.1 hs with h | h
              · exact HESA.out s h
              · rw [List.eq_of_mem_replicate (List.mem_of_mem_drop h)]; exact zS_sec)
            generalize (encA P) ++ (List.replicate N zS).drop (encA P).length = cur0 at *
            have YL := Lib.hid (show YB < w5.heap.size from by
              obtain ⟨B', o', e, h, -⟩ := secsAt_get Y5r.out (k := 0) (by have := HMX.out; omega)
              cases e; exact h)
            have DC := Lib.hid (fun cur (hcs : ∀ s ∈ cur, IsSec s) (hcl : cur.length ≤ 1000) W (hs : MxS P w W) hr => Decode_any P.kp P.n P.kc P.g (by have := HN.out; omega) hs.k.cap hs.k.lt (some ⟨w5.heap.size, 0, none⟩) N cur hcs hcl W hs.t hs.k.at' hr)
            have RT := Lib.hid (fun tp nt tc gt h1 h2 W (hs : MxS P w W) h3 => refTag_any P.kp P.n P.kc P.g tp nt tc gt (by have := HN.out; omega) hs.k.lt h1 h2 W hs.k.at' h3)
            generalize hL : w5.heap.size = L at *
            change Code.wp _ _ _ _ (w6.setCells L 0 (List.flatMap secC (encA P)))
            generalize w6.setCells L 0 (List.flatMap secC (encA P)) = w7 at *
            clear R6 T6 B6 S6 X6 Y6 W6
            go_loopw [90] (fun v90 wr => ∃ (k : Nat) (cur : List (List Int)), k ≤ P.lp.length ∧ v90 = .int .i64 k ∧ cur.length = N ∧ RowsAt 128 secC wr (some ⟨L, 0, none⟩) cur ∧ wr.there L 0 (N * 128) ∧ (cur.getD 1 [] = (encA P).getD 1 [] ∨ cur.getD 1 [] = (encB P).getD 1 []) ∧ (∀ s ∈ cur, IsSec s) ∧ Below L w5 wr) (fun v90 _ => P.lp.length - (intOf v90).toNat)
            case atStart => exact ⟨0, cur0, Nat.zero_le _, rfl, HLN.out, R7.out, T7.out, .inl HL1.out, HLS.out, B7.out⟩
            case round =>
              obtain ⟨k, cur, hk, rfl, hcl, hcr, hct, hc1, hcs, hb⟩ := hrel
              have HCL := Lib.hid hcl
              have HCR := Lib.hid hcr
              have HCT := Lib.hid hct
              have HC1 := Lib.hid hc1
              have HCS := Lib.hid hcs
              have HB := Lib.hid hb
              have SR := Lib.hid (S5.out.below (by rw [hL]; exact hb))
              have XR := Lib.hid (X5r.out.below (by rw [hL]; exact hb))
              have YR := Lib.hid (Y5r.out.below (by rw [hL]; exact hb))
              have HLR := Lib.hid (show L ≤ wr.heap.size by have := hb.size; omega)
              clear hcl hcr hct hc1 hcs hb R7 T7 B7
              by_cases hlt : k < P.lp.length
              · obtain ⟨IB, io, hq, hIB, hic⟩ := ints_get (HI.out wr SR.out) hlt
                subst hq
                have f1 : (k : Int) < (P.lp.length : Int) := by omega
                have f2 : (0 : Int) ≤ k := by omega
                have f3 : IntKind.i64.wrap ((k : Int) + 1) = ((k + 1 : Nat) : Int) := by have := HPL.out; rw [IntWalk.i64_in _ (by omega)]; omega
                have HLT := Lib.hid hlt
                clear hlt hIB
                generalize P.lp.getD k 0 = z at *
                by_cases hz : (0 : Int) ≤ z
                · obtain ⟨zn, rfl⟩ := Int.eq_ofNat_of_zero_le hz
                  have d3 : decide ((0 : Int) ≤ (zn : Int)) = true := decide_eq_true hz
                  by_cases hzn : zn < ny
                  · have d4 : decide ((zn : Int) < (ny : Int)) = true := decide_eq_true (by omega)
                    have d5 : decide (zn < ny) = true := decide_eq_true hzn
                    have HZ := Lib.hid hzn
                    obtain ⟨B', o', e, hYB, hyr⟩ := secsAt_get YR.out (show zn < (encB P).length by omega)
                    cases e
                    rw [Nat.zero_add] at hyr
                    have HYR := Lib.hid hyr
                    have HSY := Lib.hid (HESB.out _ (getD_mem [] (show zn < (encB P).length by omega)))
                    have HNC := Lib.hid (rows_patch HCR.out (i := zn) (by rw [HCL.out]; have := HMX.out; omega) (secC ((encB P).getD zn [])) ((encB P).getD zn []) (by rw [secC_len]; exact Nat.le_refl _) (by rw [secC_len]; exact there_sub HCT.out (by have := HMX.out; omega)) (fun j _ => rfl) (fun j h1 h2 => by rw [secC_len] at h1; omega))
                    have HN1 := Lib.hid (show (cur.set zn ((encB P).getD zn [])).getD 1 [] = (encA P).getD 1 [] ∨ (cur.set zn ((encB P).getD zn [])).getD 1 [] = (encB P).getD 1 [] from by
                      by_cases e : zn = 1
                      · subst e
                        right
                        rw [List.getD_eq_getElem?_getD, List.getElem?_set_self (by rw [HCL.out]; have := HMX.out; omega)]; rfl
                      · rw [List.getD_eq_getElem?_getD, List.getElem?_set_ne e, ← List.getD_eq_getElem?_getD]; exact HC1.out)
                    have HNS := Lib.hid (show ∀ s ∈ cur.set zn ((encB P).getD zn []), IsSec s from fun s hs => by
                      rcases List.mem_or_eq_of_mem_set hs with h | rfl
                      · exact HCS.out s h
                      · exact HSY.out)
                    have HNB := Lib.hid (below_setCells (M := L) (Nat.le_refl _) (secC ((encB P).getD zn [])) (128 * zn) wr HB.out)
                    have HNT := Lib.hid (World.there_setCells HCT.out L (128 * zn) (secC ((encB P).getD zn [])))
                    have HST := Lib.hid (show wr.there L (128 * zn) 128 from there_sub HCT.out (by have := HMX.out; omega))
                    clear hyr hYB hzn hz
                    generalize (encB P).getD zn [] = sy at *
                    go_wp2_with (first
                      | (refine wpList_sec_elem rfl _ _ rfl YB 0 ny yc zn rfl rfl HZ.out ?_; rw [Nat.zero_add])
                      | (refine wpList_sec_mid rfl _ rfl YB (128 * zn) rfl sy HYR.out ?_)
                      | (refine wpList_sec_elem rfl _ _ rfl L 0 N N zn rfl rfl (by have := HZ.out; have := HMX.out; omega) ?_; rw [Nat.zero_add])
                      | (refine wpList_sec_store rfl _ _ rfl L (128 * zn) sy rfl rfl HST.out ?_))
                    go_roundw
                    case rel => exact ⟨k + 1, cur.set zn sy, HLT.out, by go_num, by rw [List.length_set]; exact HCL.out, HNC.out, HNT.out, HN1.out, HNS.out, HNB.out⟩
                    case measure => have := HLT.out; simp [intOf]; omega
                  · have d4 : decide ((zn : Int) < (ny : Int)) = false := decide_eq_false (by omega)
                    have d5 : decide (zn < ny) = false := decide_eq_false hzn
                    clear hz hzn
                    go_wp2
                    go_roundw
                    case rel => exact ⟨k + 1, cur, HLT.out, by go_num, HCL.out, HCR.out, HCT.out, HC1.out, HCS.out, HB.out⟩
                    case measure => have := HLT.out; simp [intOf]; omega
                · have d3 : decide ((0 : Int) ≤ z) = false := decide_eq_false hz
                  clear hz
                  go_wp2
                  go_roundw
                  case rel => exact ⟨k + 1, cur, HLT.out, by go_num, HCL.out, HCR.out, HCT.out, HC1.out, HCS.out, HB.out⟩
                  case measure => have := HLT.out; simp [intOf]; omega
              · have f1 : ¬ (k : Int) < (P.lp.length : Int) := by omega
                have hkk : k = P.lp.length := by omega
                clear hlt hk
                have HKK := Lib.hid hkk
                clear hkk
                have a0 := SR.out.a0
                refine forgetA ?_
                intros
                obtain ⟨od, hod⟩ : ∃ od, decE (tauK P.n P.g) cur = od := ⟨_, rfl⟩
                have DD := Lib.hid (DC.out cur HCS.out (by rw [HCL.out]; have := HMX.out; omega) wr SR.out HCR.out)
                rw [HCL.out, hod] at DD
                clear DC HI
                cases od with
                | none =>
                  clear hod
                  go_wp2_with (first
                    | (go_at_call 17; refine (DD.out).mono ?_; rintro e w8 ⟨hs, hb⟩
                       have hs' : e = .returned (.tuple #[.int .i64 0, .slice none 0 0, .bool false]) := hs
                       subst hs'
                       have S8 := Lib.hid (SR.out.below hb)
                       clear hs hb DD))
                  go_ret
                  exact ⟨rfl, S8.out.b⟩
                | some cl =>
                  obtain ⟨c, pl⟩ := cl
                  have HDT := Lib.hid (dec_tag hod)
                  have HPLO := Lib.hid (dec_ok HCS.out hod)
                  have HPLN := Lib.hid (good_len (dec_some hod).1)
                  have HS0 := Lib.hid (HCS.out _ (getD_mem [] (show 0 < cur.length by rw [HCL.out]; have := HMX.out; omega)))
                  have TZ := Lib.hid (textT_zero (cur.getD 0 []) pl)
                  have TN := Lib.hid (fun k (h : k < pl.length) => textT_next (cur.getD 0 []) pl h)
                  have TL := Lib.hid (fun k (h : k ≤ pl.length) => textT_len HS0.out HPLO.out h)
                  have TE := Lib.hid (textT_end (cur.getD 0 []) pl)
                  have TB := Lib.hid (text_bytes HS0.out HPLO.out)
                  have TI := Lib.hid (tau_is P.n P.g (textL (cur.getD 0 []) pl))
                  clear hod
                  by_cases hca : c = P.za
                  · have da : (c == P.za) = true := by simp [hca]
                    clear hca
                    by_cases hpa : pl = putsL P.la
                    · have HPA := Lib.hid hpa
                      clear hpa
                      go_wp2_with (first
                        | (go_at_call 17; refine (DD.out).mono ?_; rintro e w8 ⟨hs, hb⟩
                           obtain ⟨pp, pcap, rfl, hr⟩ := (show ∃ p cap, e = .returned (.tuple #[.int .i64 c, .slice p pl.length cap, .bool true]) ∧ RowsAt 129 putC w8 p pl from hs)
                           have S8 := Lib.hid (SR.out.below hb)
                           have P8 := Lib.hid hr
                           have X8 := Lib.hid (XR.out.below hb)
                           have Y8 := Lib.hid (YR.out.below hb)
                           have C8 := Lib.hid (HCR.out.below hb)
                           have e1 := S8.out.a1
                           have e2 := S8.out.a2
                           have g1 := S8.out.b1
                           have g2 := S8.out.b2
                           clear hs hb hr DD SR XR YR a0)
                        | (go_at_call 10; refine (puts_any P.qa P.ca P.la HNA.out w8 S8.out.pa).mono ?_; rintro e w9 ⟨v, rfl, ho, hb⟩
                           obtain ⟨lp9, lc9, rfl, -, -, hr, -⟩ := ho.rows elemPut.len
                           have L9 := Lib.hid hr
                           have S9 := Lib.hid (S8.out.below hb)
                           have P9 := Lib.hid (P8.out.below hb)
                           have X9 := Lib.hid (X8.out.below hb)
                           have Y9 := Lib.hid (Y8.out.below hb)
                           have C9 := Lib.hid (C8.out.below hb)
                           clear ho hb hr S8 P8 X8 Y8 C8)
                        | (go_at_call 15; refine (same_any pp lp9 pcap lc9 pl (putsL P.la) (by have := HPLN.out; omega) HPLO.out HOA.out w9 P9.out L9.out).mono ?_; rintro e w10 ⟨hs, hb⟩
                           have he := hs.is HPA.out
                           subst he
                           have S10 := Lib.hid (S9.out.below hb)
                           have P10 := Lib.hid (P9.out.below hb)
                           have X10 := Lib.hid (X9.out.below hb)
                           have Y10 := Lib.hid (Y9.out.below hb)
                           have C10 := Lib.hid (C9.out.below hb)
                           clear hs hb S9 P9 X9 Y9 C9 L9))
                      go_ret
                      exact ⟨rfl, S10.out.b⟩
                    · have HPA := Lib.hid hpa
                      clear hpa
                      by_cases hcb : c = P.zb
                      · have db : (c == P.zb) = true := by simp [hcb]
                        clear hcb
                        by_cases hpb : pl = putsL P.lb
                        · have HPB := Lib.hid hpb
                          clear hpb
                          go_wp2_with (first
                            | (go_at_call 17; refine (DD.out).mono ?_; rintro e w8 ⟨hs, hb⟩
                               obtain ⟨pp, pcap, rfl, hr⟩ := (show ∃ p cap, e = .returned (.tuple #[.int .i64 c, .slice p pl.length cap, .bool true]) ∧ RowsAt 129 putC w8 p pl from hs)
                               have S8 := Lib.hid (SR.out.below hb)
                               have P8 := Lib.hid hr
                               have X8 := Lib.hid (XR.out.below hb)
                               have Y8 := Lib.hid (YR.out.below hb)
                               have C8 := Lib.hid (HCR.out.below hb)
                               have e1 := S8.out.a1
                               have e2 := S8.out.a2
                               have g1 := S8.out.b1
                               have g2 := S8.out.b2
                               clear hs hb hr DD SR XR YR a0)
                            | (go_at_call 10; refine (puts_any P.qa P.ca P.la HNA.out w8 S8.out.pa).mono ?_; rintro e w9 ⟨v, rfl, ho, hb⟩
                               obtain ⟨lp9, lc9, rfl, -, -, hr, -⟩ := ho.rows elemPut.len
                               have L9 := Lib.hid hr
                               have S9 := Lib.hid (S8.out.below hb)
                               have P9 := Lib.hid (P8.out.below hb)
                               have X9 := Lib.hid (X8.out.below hb)
                               have Y9 := Lib.hid (Y8.out.below hb)
                               have C9 := Lib.hid (C8.out.below hb)
                               clear ho hb hr S8 P8 X8 Y8 C8)
                            | (go_at_call 15; refine (same_any pp lp9 pcap lc9 pl (putsL P.la) (by have := HPLN.out; omega) HPLO.out HOA.out w9 P9.out L9.out).mono ?_; rintro e w10 ⟨hs, hb⟩
                               have he := hs.not HPA.out
                               subst he
                               have S10 := Lib.hid (S9.out.below hb)
                               have P10 := Lib.hid (P9.out.below hb)
                               have X10 := Lib.hid (X9.out.below hb)
                               have Y10 := Lib.hid (Y9.out.below hb)
                               have C10 := Lib.hid (C9.out.below hb)
                               have g1 := S10.out.b1
                               have g2 := S10.out.b2
                               clear hs hb S9 P9 X9 Y9 C9 L9)
                            | (go_at_call 10; refine (puts_any P.qb P.cb P.lb HNB.out w10 S10.out.pb).mono ?_; rintro e w11 ⟨v, rfl, ho, hb⟩
                               obtain ⟨lp11, lc11, rfl, -, -, hr, -⟩ := ho.rows elemPut.len
                               have L11 := Lib.hid hr
                               have S11 := Lib.hid (S10.out.below hb)
                               have P11 := Lib.hid (P10.out.below hb)
                               have X11 := Lib.hid (X10.out.below hb)
                               have Y11 := Lib.hid (Y10.out.below hb)
                               have C11 := Lib.hid (C10.out.below hb)
                               clear ho hb hr S10 P10 X10 Y10 C10)
                            | (go_at_call 15; refine (same_any pp lp11 pcap lc11 pl (putsL P.lb) (by have := HPLN.out; omega) HPLO.out HOB.out w11 P11.out L11.out).mono ?_; rintro e w12 ⟨hs, hb⟩
                               have he := hs.is HPB.out
                               subst he
                               have S12 := Lib.hid (S11.out.below hb)
                               have P12 := Lib.hid (P11.out.below hb)
                               have X12 := Lib.hid (X11.out.below hb)
                               have Y12 := Lib.hid (Y11.out.below hb)
                               have C12 := Lib.hid (C11.out.below hb)
                               clear hs hb S11 P11 X11 Y11 C11 L11))
                          go_ret
                          exact ⟨rfl, S12.out.b⟩
                        · have HPB := Lib.hid hpb
                          clear hpb
                          go_wp2_with (first
                            | (go_at_call 17; refine (DD.out).mono ?_; rintro e w8 ⟨hs, hb⟩
                               obtain ⟨pp, pcap, rfl, hr⟩ := (show ∃ p cap, e = .returned (.tuple #[.int .i64 c, .slice p pl.length cap, .bool true]) ∧ RowsAt 129 putC w8 p pl from hs)
                               have S8 := Lib.hid (SR.out.below hb)
                               have P8 := Lib.hid hr
                               have X8 := Lib.hid (XR.out.below hb)
                               have Y8 := Lib.hid (YR.out.below hb)
                               have C8 := Lib.hid (HCR.out.below hb)
                               have e1 := S8.out.a1
                               have e2 := S8.out.a2
                               have g1 := S8.out.b1
                               have g2 := S8.out.b2
                               clear hs hb hr DD SR XR YR a0)
                            | (go_at_call 10; refine (puts_any P.qa P.ca P.la HNA.out w8 S8.out.pa).mono ?_; rintro e w9 ⟨v, rfl, ho, hb⟩
                               obtain ⟨lp9, lc9, rfl, -, -, hr, -⟩ := ho.rows elemPut.len
                               have L9 := Lib.hid hr
                               have S9 := Lib.hid (S8.out.below hb)
                               have P9 := Lib.hid (P8.out.below hb)
                               have X9 := Lib.hid (X8.out.below hb)
                               have Y9 := Lib.hid (Y8.out.below hb)
                               have C9 := Lib.hid (C8.out.below hb)
                               clear ho hb hr S8 P8 X8 Y8 C8)
                            | (go_at_call 15; refine (same_any pp lp9 pcap lc9 pl (putsL P.la) (by have := HPLN.out; omega) HPLO.out HOA.out w9 P9.out L9.out).mono ?_; rintro e w10 ⟨hs, hb⟩
                               have he := hs.not HPA.out
                               subst he
                               have S10 := Lib.hid (S9.out.below hb)
                               have P10 := Lib.hid (P9.out.below hb)
                               have X10 := Lib.hid (X9.out.below hb)
                               have Y10 := Lib.hid (Y9.out.below hb)
                               have C10 := Lib.hid (C9.out.below hb)
                               have g1 := S10.out.b1
                               have g2 := S10.out.b2
                               clear hs hb S9 P9 X9 Y9 C9 L9)
                            | (go_at_call 10; refine (puts_any P.qb P.cb P.lb HNB.out w10 S10.out.pb).mono ?_; rintro e w11 ⟨v, rfl, ho, hb⟩
                               obtain ⟨lp11, lc11, rfl, -, -, hr, -⟩ := ho.rows elemPut.len
                               have L11 := Lib.hid hr
                               have S11 := Lib.hid (S10.out.below hb)
                               have P11 := Lib.hid (P10.out.below hb)
                               have X11 := Lib.hid (X10.out.below hb)
                               have Y11 := Lib.hid (Y10.out.below hb)
                               have C11 := Lib.hid (C10.out.below hb)
                               clear ho hb hr S10 P10 X10 Y10 C10)
                            | (go_at_call 15; refine (same_any pp lp11 pcap lc11 pl (putsL P.lb) (by have := HPLN.out; omega) HPLO.out HOB.out w11 P11.out L11.out).mono ?_; rintro e w12 ⟨hs, hb⟩
                               have he := hs.not HPB.out
                               subst he
                               have S12 := Lib.hid (S11.out.below hb)
                               have P12 := Lib.hid (P11.out.below hb)
                               have X12 := Lib.hid (X11.out.below hb)
                               have Y12 := Lib.hid (Y11.out.below hb)
                               have C12 := Lib.hid (C11.out.below hb)
                               clear hs hb S11 P11 X11 Y11 C11 L11)
                            | (refine wpList_list0 elemByte rfl rfl ?_
                               have O15 := Lib.hid (OwnL.empty 5 1 byteC w12 w12.heap.size (Nat.le_refl _))
                               have B15 := Lib.hid ((Below.refl w12.heap.size w12).alloc (Nat.le_refl _) (.cells #[] 5))
                               have Z15 := Lib.hid (show (w12.alloc (.cells #[] 5)).heap.size = w12.heap.size + 1 by simp)
                               generalize w12.alloc (.cells #[] 5) = w15 at *
                               have C15 := Lib.hid (show RowsAt 1 byteC w15 (some ⟨L, 0, none⟩) (cur.getD 0 []) from by
                                 obtain ⟨B', o', e, hB, hr⟩ := secsAt_get (C12.out.below B15.out) (k := 0) (by rw [HCL.out]; have := HMX.out; omega)
                                 cases e
                                 exact sec_bytesL HS0.out hr hB))
                            | (refine wpList_sec_elem rfl _ _ rfl L 0 N N 0 rfl rfl (by have := HMX.out; omega) ?_)
                            | (refine wpList_arr_slice rfl 31 5 128 secUnder rfl _ rfl L 0 rfl ?_)
                            | (refine wpList_append_list elemByte rfl _ _ rfl w12.heap.size (w12.heap.size + 1) _ [] (cur.getD 0 []) (some ⟨L, 0, none⟩) 128 128 rfl rfl HS0.out.1.symm O15.out C15.out (by rw [HS0.out.1]; decide) (by decide) (by have := Z15.out; omega) ?_
                               intro v16 w16 ho6 hg6 hr6
                               rw [List.nil_append, ← TZ.out] at ho6
                               have O16 := Lib.hid ho6
                               have B16 := Lib.hid (B15.out.trans (below_own1 hg6 O15.out.block (by have := Z15.out; omega)))
                               clear ho6 hg6 hr6 O15 B15 Z15 C15))
                          go_loopw [153, 19] (fun v153 v19 wr => ∃ j : Nat, j ≤ pl.length ∧ v153 = .int .i64 j ∧ OwnL 5 1 byteC wr w12.heap.size wr.heap.size v19 (textT (cur.getD 0 []) pl j) ∧ Below w12.heap.size w12 wr) (fun v153 _ _ => pl.length - (intOf v153).toNat)
                          case atStart => exact ⟨0, Nat.zero_le _, rfl, O16.out, B16.out⟩
                          case round =>
                            obtain ⟨j, hj, rfl, ho, hb⟩ := hrel
                            have HO := Lib.hid ho
                            have HBJ := Lib.hid hb
                            clear ho hb O16 B16
                            have HWM := Lib.hid (show w12.heap.size ≤ wr.heap.size from HBJ.out.size)
                            by_cases hlt : j < pl.length
                            · obtain ⟨B, o, hqe, hB, hr⟩ := rowsAt_get P12.out hlt
                              subst hqe
                              have HRB := Lib.hid (rangeAt_below hr HBJ.out hB)
                              have g3 : (j : Int) < (pl.length : Int) := by omega
                              have g4 : (0 : Int) ≤ j := by omega
                              have g5 : IntKind.i64.wrap ((j : Int) + 1) = ((j + 1 : Nat) : Int) := by have := HPLN.out; rw [IntWalk.i64_in _ (by omega)]; omega
                              have HTX := Lib.hid (TN.out j hlt)
                              have HSJ := Lib.hid (show IsSec (pl.getD j noPut).s from HPLO.out _ (getD_mem noPut hlt))
                              have HLT := Lib.hid hlt
                              have HLE := Lib.hid (show (textT (cur.getD 0 []) pl j).length ≤ 8000 by rw [TL.out j hj]; have := HPLN.out; omega)
                              clear hlt hr hB
                              generalize pl.getD j noPut = cc at *
                              generalize textT (cur.getD 0 []) pl j = tx at *
                              have OB := Lib.hid (PutBox.new wr cc)
                              have BO := Lib.hid (put_box_below wr cc)
                              go_wp2_with (first
                                | (refine wpList_put_elem rfl _ _ rfl B o pl.length pcap j rfl rfl HLT.out ?_)
                                | (refine wpList_put_load rfl _ rfl B (o + 129 * j) rfl cc HRB.out ?_)
                                | (refine wpList_put_alloc rfl rfl ?_)
                                | (refine store_row_on rfl 57 _ _ rfl rfl wr.heap.size (putC cc).toArray rfl rfl 57 (putC ⟨0, []⟩).toArray (heap_alloc_new _ _) (putA_size cc) (by rw [List.size_toArray, List.size_toArray, putC_len, putC_len]) (putA_one cc) ?_
                                   generalize hW : (wr.alloc (.cells (putC ⟨0, []⟩).toArray 57)).setRow wr.heap.size (putC cc).toArray = wb at *
                                   have HSC := Lib.hid (box_sec OB.out)
                                   have HWO := Lib.hid hW
                                   clear hW)
                                | (refine wpList_putfield rfl _ 1 rfl (by decide) wr.heap.size 0 rfl ?_)
                                | (refine wpList_arr_slice rfl 31 5 128 secUnder rfl _ rfl wr.heap.size 1 rfl ?_)
                                | (refine wpList_append_list elemByte rfl _ _ rfl w12.heap.size wr.heap.size _ tx cc.s (some ⟨wr.heap.size, 1, none⟩) 128 128 rfl rfl HSJ.out.1.symm (HO.out.below (Nat.le_refl _) BO.out) (sec_bytesL HSJ.out HSC.out OB.out.lt) (by rw [HSJ.out.1]; have := HLE.out; omega) (by decide) (Nat.le_trans HWM.out BO.out.size) ?_
                                   intro v5 w5' ho5 hg5 hr5
                                   have O5 := Lib.hid ho5
                                   have B5 := Lib.hid ((HBJ.out.trans (BO.out.mono HWM.out)).trans (below_own1 hg5 HO.out.block (Nat.le_trans HWM.out BO.out.size)))
                                   clear ho5 hg5 hr5))
                              go_roundw
                              case rel => exact ⟨j + 1, HLT.out, by go_num, by rw [HTX.out]; exact O5.out, B5.out⟩
                              case measure => have := HLT.out; simp [intOf]; omega
                            · have g3 : ¬ (j : Int) < (pl.length : Int) := by omega
                              have hjj : j = pl.length := by omega
                              rw [hjj, TE.out] at HO
                              have htl := TL.out pl.length (Nat.le_refl _)
                              rw [TE.out] at htl
                              have htb := TB.out
                              obtain ⟨tp, tc, rfl, -, -, hr, -⟩ := HO.out.rows elemByte.len
                              have HTB := Lib.hid (rows_bytes hr htb)
                              have HTL := Lib.hid (show (textL (cur.getD 0 []) pl).length ≤ 80000 by rw [htl]; have := HPLN.out; omega)
                              have HTF := Lib.hid (fun i (_ : i < (textL (cur.getD 0 []) pl).length) => natF_lt htb i)
                              have SJ := Lib.hid (S12.out.below HBJ.out)
                              have XJ := Lib.hid (X12.out.below HBJ.out)
                              have YJ := Lib.hid (Y12.out.below HBJ.out)
                              have a0 := SJ.out.a0
                              have HJJ := Lib.hid hjj
                              clear hlt hj hr htl htb HO hjj S12 X12 Y12 P12 C12 HBJ
                              go_wp2_with (first
                                | (go_at_call 22; refine (RT.out tp (textL (cur.getD 0 []) pl).length tc (natF (textL (cur.getD 0 []) pl)) HTL.out HTF.out wr SJ.out HTB.out).mono ?_; rintro e w17 ⟨rfl, hb7⟩
                                   rw [TI.out]
                                   have S17 := Lib.hid (SJ.out.below hb7)
                                   have X17 := Lib.hid (XJ.out.below hb7)
                                   have Y17 := Lib.hid (YJ.out.below hb7)
                                   clear hb7 SJ XJ YJ RT HTB a0)
                                | (refine store_row_on rfl 59 _ _ rfl rfl w17.heap.size (cellsOf .u8 (tauK P.n P.g (textL (cur.getD 0 []) pl))) rfl rfl 59 (cellsOf .u8 (mk 32 zeroK)) (IntBlk.new w17 .u8 _ (mk 32 zeroK)) (sumSize' _ _ _) (sum_same' _ _ _).symm (cellsOf_one _ _) ?_
                                   have hX := sum_laid w17 P.n P.g (textL (cur.getD 0 []) pl)
                                   have ZT := Lib.hid hX.1
                                   have S18 := Lib.hid (S17.out.below hX.2)
                                   have X18 := Lib.hid (X17.out.below hX.2)
                                   have Y18 := Lib.hid (Y17.out.below hX.2)
                                   change wpList _ _ _ _ _ ((w17.alloc (.cells (cellsOf .u8 (mk 32 zeroK)) 59)).setRow w17.heap.size (cellsOf .u8 (tauK P.n P.g (textL (cur.getD 0 []) pl))))
                                   clear hX S17 X17 Y17
                                   generalize (w17.alloc (.cells (cellsOf .u8 (mk 32 zeroK)) 59)).setRow w17.heap.size (cellsOf .u8 (tauK P.n P.g (textL (cur.getD 0 []) pl))) = w18 at *))
                              have htl := tauK_len P.n P.g (textL (cur.getD 0 []) pl)
                              have htb := tauK_bytes P.n P.g (textL (cur.getD 0 []) pl)
                              have k0 : Below w18.heap.size w18 w18.drew := (Below.refl _ w18).drew
                              have HTS := Lib.hid (fun U (h : Below w18.heap.size w18 U) => blk_bytes32 (ZT.out.below h ZT.out.lt) htl htb)
                              have HXS := Lib.hid (fun U (h : Below w18.heap.size w18 U) => show BytesAt U (some ⟨XB, 128, none⟩) 32 (natF ((encA P).getD 1 [])) from by
                                obtain ⟨B', o', e, hB, hr⟩ := secsAt_get (X18.out.below h) (k := 1) (by have := HMX.out; omega)
                                cases e
                                exact (sec_bytes hr hB).upto (by decide))
                              have HYS := Lib.hid (fun U (h : Below w18.heap.size w18 U) => show BytesAt U (some ⟨YB, 128, none⟩) 32 (natF ((encB P).getD 1 [])) from by
                                obtain ⟨B', o', e, hB, hr⟩ := secsAt_get (Y18.out.below h) (k := 1) (by have := HMX.out; omega)
                                cases e
                                exact (sec_bytes hr hB).upto (by decide))
                              have HCX := Lib.hid (fun (h : cur.getD 1 [] = (encA P).getD 1 []) => str_same (tau_head (h.symm.trans HDT.out.1) htl htb))
                              have HCY := Lib.hid (fun (h : cur.getD 1 [] = (encB P).getD 1 []) => str_same (tau_head (h.symm.trans HDT.out.1) htl htb))
                              clear htl htb ZT X18 Y18
                              generalize tauK P.n P.g (textL (cur.getD 0 []) pl) = tau at *
                              generalize (encA P).getD 1 [] = x1 at *
                              generalize (encB P).getD 1 [] = y1 at *
                              generalize hst : strOfNums (mk 32 (natF tau)) = st at *
                              generalize hsx : strOfNums (mk 32 (natF x1)) = sx at *
                              generalize hsy : strOfNums (mk 32 (natF y1)) = sy2 at *
                              have HST := Lib.hid hst
                              have HSX := Lib.hid hsx
                              have HSY2 := Lib.hid hsy
                              clear hst hsx hsy
                              try clear e1
                              try clear e2
                              try clear g1
                              try clear g2
                              try clear a0
                              try clear da
                              try clear db
                              rcases HC1.out with hx | hy
                              · have HV1 := Lib.hid (HCX.out hx)
                                clear hx
                                refine forgetB ?_
                                intros
                                refine wp_region_sched [(0, true), (1, true), (2, true), (3, true), (4, true), (5, true), (6, true), (7, true), (8, true), (9, true), (10, true), (11, true), (12, true), (13, true), (14, true), (15, true), (16, true)] (fun U => Below w18.heap.size w18 U) (by kernel_rfl) (by kernel_rfl) k0 ?_
                                iterate 8 (
                                  refine walk_float rfl rfl (fun K hK => ?_)
                                  first
                                    | (refine gives_move _ rfl ?_)
                                    | (refine gives_arr_slice 59 5 32 sumUnder rfl _ rfl w17.heap.size 0 rfl ?_)
                                    | (refine gives_sec_elem _ _ rfl XB 0 nx xc 1 rfl rfl (by have := HMX.out; omega) ?_)
                                    | (refine gives_arr_upto _ _ rfl XB 128 32 32 rfl rfl rfl (by decide) ?_)
                                    | (refine gives_string _ rfl (some ⟨w17.heap.size, 0, none⟩) 32 32 (natF tau) rfl HTS.out ?_
                                       rw [HST.out])
                                    | (refine gives_string _ rfl (some ⟨XB, 128, none⟩) 32 128 (natF x1) rfl HXS.out ?_
                                       rw [HSX.out])
                                    | (refine gives_string_is _ _ rfl st sx rfl rfl true HV1.out ?_)
                                  go_simp
                                  refine hK _ ?_
                                  clear hK K)
                                iterate 7 (
                                  refine walk_off rfl rfl ?_
                                  go_simp)
                                refine walk_float rfl rfl (fun K hK => ?_)
                                refine gives_pickT _ _ _ rfl rfl _ rfl ?_
                                go_simp
                                refine hK _ ?_
                                clear hK K
                                refine walk_float rfl rfl (fun K hK => ?_)
                                refine gives_assign _ rfl ?_
                                go_simp
                                refine hK _ ?_
                                clear hK K
                                refine walk_nil ?_
                                go_wp2
                                go_ret
                                exact ⟨rfl, S18.out.b.trans (k0.mono S18.out.b.size)⟩
                              · have HV2 := Lib.hid (HCY.out hy)
                                clear hy
                                obtain ⟨b, hv1⟩ : ∃ b, (st.toList == sx.toList) = b := ⟨_, rfl⟩
                                have HV1 := Lib.hid hv1
                                clear hv1
                                cases b with
                                | true =>
                                  refine forgetB ?_
                                  intros
                                  refine wp_region_sched [(0, true), (1, true), (2, true), (3, true), (4, true), (5, true), (6, true), (7, true), (8, true), (9, true), (10, true), (11, true), (12, true), (13, true), (14, true), (15, true), (16, true)] (fun U => Below w18.heap.size w18 U) (by kernel_rfl) (by kernel_rfl) k0 ?_
                                  iterate 8 (
                                    refine walk_float rfl rfl (fun K hK => ?_)
                                    first
                                      | (refine gives_move _ rfl ?_)
                                      | (refine gives_arr_slice 59 5 32 sumUnder rfl _ rfl w17.heap.size 0 rfl ?_)
                                      | (refine gives_sec_elem _ _ rfl XB 0 nx xc 1 rfl rfl (by have := HMX.out; omega) ?_)
                                      | (refine gives_arr_upto _ _ rfl XB 128 32 32 rfl rfl rfl (by decide) ?_)
                                      | (refine gives_string _ rfl (some ⟨w17.heap.size, 0, none⟩) 32 32 (natF tau) rfl HTS.out ?_
                                         rw [HST.out])
                                      | (refine gives_string _ rfl (some ⟨XB, 128, none⟩) 32 128 (natF x1) rfl HXS.out ?_
                                         rw [HSX.out])
                                      | (refine gives_string_is _ _ rfl st sx rfl rfl true HV1.out ?_)
                                    go_simp
                                    refine hK _ ?_
                                    clear hK K)
                                  iterate 7 (
                                    refine walk_off rfl rfl ?_
                                    go_simp)
                                  refine walk_float rfl rfl (fun K hK => ?_)
                                  refine gives_pickT _ _ _ rfl rfl _ rfl ?_
                                  go_simp
                                  refine hK _ ?_
                                  clear hK K
                                  refine walk_float rfl rfl (fun K hK => ?_)
                                  refine gives_assign _ rfl ?_
                                  go_simp
                                  refine hK _ ?_
                                  clear hK K
                                  refine walk_nil ?_
                                  go_wp2
                                  go_ret
                                  exact ⟨rfl, S18.out.b.trans (k0.mono S18.out.b.size)⟩
                                | false =>
                                  refine forgetB ?_
                                  intros
                                  refine wp_region_sched [(0, true), (1, true), (2, true), (3, true), (4, true), (5, true), (6, true), (7, true), (8, true), (9, true), (10, true), (11, true), (12, true), (13, true), (14, true), (15, true), (16, true)] (fun U => Below w18.heap.size w18 U) (by kernel_rfl) (by kernel_rfl) k0 ?_
                                  iterate 8 (
                                    refine walk_float rfl rfl (fun K hK => ?_)
                                    first
                                      | (refine gives_move _ rfl ?_)
                                      | (refine gives_arr_slice 59 5 32 sumUnder rfl _ rfl w17.heap.size 0 rfl ?_)
                                      | (refine gives_sec_elem _ _ rfl XB 0 nx xc 1 rfl rfl (by have := HMX.out; omega) ?_)
                                      | (refine gives_arr_upto _ _ rfl XB 128 32 32 rfl rfl rfl (by decide) ?_)
                                      | (refine gives_string _ rfl (some ⟨w17.heap.size, 0, none⟩) 32 32 (natF tau) rfl HTS.out ?_
                                         rw [HST.out])
                                      | (refine gives_string _ rfl (some ⟨XB, 128, none⟩) 32 128 (natF x1) rfl HXS.out ?_
                                         rw [HSX.out])
                                      | (refine gives_string_is _ _ rfl st sx rfl rfl false HV1.out ?_)
                                    go_simp
                                    refine hK _ ?_
                                    clear hK K)
                                  iterate 7 (
                                    refine walk_float rfl rfl (fun K hK => ?_)
                                    first
                                      | (refine gives_move _ rfl ?_)
                                      | (refine gives_arr_slice 59 5 32 sumUnder rfl _ rfl w17.heap.size 0 rfl ?_)
                                      | (refine gives_sec_elem _ _ rfl YB 0 ny yc 1 rfl rfl (by have := HMX.out; omega) ?_)
                                      | (refine gives_arr_upto _ _ rfl YB 128 32 32 rfl rfl rfl (by decide) ?_)
                                      | (refine gives_string _ rfl (some ⟨w17.heap.size, 0, none⟩) 32 32 (natF tau) rfl HTS.out ?_
                                         rw [HST.out])
                                      | (refine gives_string _ rfl (some ⟨YB, 128, none⟩) 32 128 (natF y1) rfl HYS.out ?_
                                         rw [HSY2.out])
                                      | (refine gives_string_is _ _ rfl st sy2 rfl rfl true HV2.out ?_)
                                    go_simp
                                    refine hK _ ?_
                                    clear hK K)
                                  refine walk_float rfl rfl (fun K hK => ?_)
                                  refine gives_pickF _ _ _ rfl rfl _ rfl ?_
                                  go_simp
                                  refine hK _ ?_
                                  clear hK K
                                  refine walk_float rfl rfl (fun K hK => ?_)
                                  refine gives_assign _ rfl ?_
                                  go_simp
                                  refine hK _ ?_
                                  clear hK K
                                  refine walk_nil ?_
                                  go_wp2
                                  go_ret
                                  exact ⟨rfl, S18.out.b.trans (k0.mono S18.out.b.size)⟩
                      · have db : (c == P.zb) = false := by simp [hcb]
                        clear hcb
                        go_wp2_with (first
                          | (go_at_call 17; refine (DD.out).mono ?_; rintro e w8 ⟨hs, hb⟩
                             obtain ⟨pp, pcap, rfl, hr⟩ := (show ∃ p cap, e = .returned (.tuple #[.int .i64 c, .slice p pl.length cap, .bool true]) ∧ RowsAt 129 putC w8 p pl from hs)
                             have S8 := Lib.hid (SR.out.below hb)
                             have P8 := Lib.hid hr
                             have X8 := Lib.hid (XR.out.below hb)
                             have Y8 := Lib.hid (YR.out.below hb)
                             have C8 := Lib.hid (HCR.out.below hb)
                             have e1 := S8.out.a1
                             have e2 := S8.out.a2
                             have g1 := S8.out.b1
                             have g2 := S8.out.b2
                             clear hs hb hr DD SR XR YR a0)
                          | (go_at_call 10; refine (puts_any P.qa P.ca P.la HNA.out w8 S8.out.pa).mono ?_; rintro e w9 ⟨v, rfl, ho, hb⟩
                             obtain ⟨lp9, lc9, rfl, -, -, hr, -⟩ := ho.rows elemPut.len
                             have L9 := Lib.hid hr
                             have S9 := Lib.hid (S8.out.below hb)
                             have P9 := Lib.hid (P8.out.below hb)
                             have X9 := Lib.hid (X8.out.below hb)
                             have Y9 := Lib.hid (Y8.out.below hb)
                             have C9 := Lib.hid (C8.out.below hb)
                             clear ho hb hr S8 P8 X8 Y8 C8)
                          | (go_at_call 15; refine (same_any pp lp9 pcap lc9 pl (putsL P.la) (by have := HPLN.out; omega) HPLO.out HOA.out w9 P9.out L9.out).mono ?_; rintro e w10 ⟨hs, hb⟩
                             have he := hs.not HPA.out
                             subst he
                             have S10 := Lib.hid (S9.out.below hb)
                             have P10 := Lib.hid (P9.out.below hb)
                             have X10 := Lib.hid (X9.out.below hb)
                             have Y10 := Lib.hid (Y9.out.below hb)
                             have C10 := Lib.hid (C9.out.below hb)
                             have g1 := S10.out.b1
                             have g2 := S10.out.b2
                             clear hs hb S9 P9 X9 Y9 C9 L9)
                          | (refine wpList_list0 elemByte rfl rfl ?_
                             have O15 := Lib.hid (OwnL.empty 5 1 byteC w10 w10.heap.size (Nat.le_refl _))
                             have B15 := Lib.hid ((Below.refl w10.heap.size w10).alloc (Nat.le_refl _) (.cells #[] 5))
                             have Z15 := Lib.hid (show (w10.alloc (.cells #[] 5)).heap.size = w10.heap.size + 1 by simp)
                             generalize w10.alloc (.cells #[] 5) = w15 at *
                             have C15 := Lib.hid (show RowsAt 1 byteC w15 (some ⟨L, 0, none⟩) (cur.getD 0 []) from by
                               obtain ⟨B', o', e, hB, hr⟩ := secsAt_get (C10.out.below B15.out) (k := 0) (by rw [HCL.out]; have := HMX.out; omega)
                               cases e
                               exact sec_bytesL HS0.out hr hB))
                          | (refine wpList_sec_elem rfl _ _ rfl L 0 N N 0 rfl rfl (by have := HMX.out; omega) ?_)
                          | (refine wpList_arr_slice rfl 31 5 128 secUnder rfl _ rfl L 0 rfl ?_)
                          | (refine wpList_append_list elemByte rfl _ _ rfl w10.heap.size (w10.heap.size + 1) _ [] (cur.getD 0 []) (some ⟨L, 0, none⟩) 128 128 rfl rfl HS0.out.1.symm O15.out C15.out (by rw [HS0.out.1]; decide) (by decide) (by have := Z15.out; omega) ?_
                             intro v16 w16 ho6 hg6 hr6
                             rw [List.nil_append, ← TZ.out] at ho6
                             have O16 := Lib.hid ho6
                             have B16 := Lib.hid (B15.out.trans (below_own1 hg6 O15.out.block (by have := Z15.out; omega)))
                             clear ho6 hg6 hr6 O15 B15 Z15 C15))
                        go_loopw [153, 19] (fun v153 v19 wr => ∃ j : Nat, j ≤ pl.length ∧ v153 = .int .i64 j ∧ OwnL 5 1 byteC wr w10.heap.size wr.heap.size v19 (textT (cur.getD 0 []) pl j) ∧ Below w10.heap.size w10 wr) (fun v153 _ _ => pl.length - (intOf v153).toNat)
                        case atStart => exact ⟨0, Nat.zero_le _, rfl, O16.out, B16.out⟩
                        case round =>
                          obtain ⟨j, hj, rfl, ho, hb⟩ := hrel
                          have HO := Lib.hid ho
                          have HBJ := Lib.hid hb
                          clear ho hb O16 B16
                          have HWM := Lib.hid (show w10.heap.size ≤ wr.heap.size from HBJ.out.size)
                          by_cases hlt : j < pl.length
                          · obtain ⟨B, o, hqe, hB, hr⟩ := rowsAt_get P10.out hlt
                            subst hqe
                            have HRB := Lib.hid (rangeAt_below hr HBJ.out hB)
                            have g3 : (j : Int) < (pl.length : Int) := by omega
                            have g4 : (0 : Int) ≤ j := by omega
                            have g5 : IntKind.i64.wrap ((j : Int) + 1) = ((j + 1 : Nat) : Int) := by have := HPLN.out; rw [IntWalk.i64_in _ (by omega)]; omega
                            have HTX := Lib.hid (TN.out j hlt)
                            have HSJ := Lib.hid (show IsSec (pl.getD j noPut).s from HPLO.out _ (getD_mem noPut hlt))
                            have HLT := Lib.hid hlt
                            have HLE := Lib.hid (show (textT (cur.getD 0 []) pl j).length ≤ 8000 by rw [TL.out j hj]; have := HPLN.out; omega)
                            clear hlt hr hB
                            generalize pl.getD j noPut = cc at *
                            generalize textT (cur.getD 0 []) pl j = tx at *
                            have OB := Lib.hid (PutBox.new wr cc)
                            have BO := Lib.hid (put_box_below wr cc)
                            go_wp2_with (first
                              | (refine wpList_put_elem rfl _ _ rfl B o pl.length pcap j rfl rfl HLT.out ?_)
                              | (refine wpList_put_load rfl _ rfl B (o + 129 * j) rfl cc HRB.out ?_)
                              | (refine wpList_put_alloc rfl rfl ?_)
                              | (refine store_row_on rfl 57 _ _ rfl rfl wr.heap.size (putC cc).toArray rfl rfl 57 (putC ⟨0, []⟩).toArray (heap_alloc_new _ _) (putA_size cc) (by rw [List.size_toArray, List.size_toArray, putC_len, putC_len]) (putA_one cc) ?_
                                 generalize hW : (wr.alloc (.cells (putC ⟨0, []⟩).toArray 57)).setRow wr.heap.size (putC cc).toArray = wb at *
                                 have HSC := Lib.hid (box_sec OB.out)
                                 have HWO := Lib.hid hW
                                 clear hW)
                              | (refine wpList_putfield rfl _ 1 rfl (by decide) wr.heap.size 0 rfl ?_)
                              | (refine wpList_arr_slice rfl 31 5 128 secUnder rfl _ rfl wr.heap.size 1 rfl ?_)
                              | (refine wpList_append_list elemByte rfl _ _ rfl w10.heap.size wr.heap.size _ tx cc.s (some ⟨wr.heap.size, 1, none⟩) 128 128 rfl rfl HSJ.out.1.symm (HO.out.below (Nat.le_refl _) BO.out) (sec_bytesL HSJ.out HSC.out OB.out.lt) (by rw [HSJ.out.1]; have := HLE.out; omega) (by decide) (Nat.le_trans HWM.out BO.out.size) ?_
                                 intro v5 w5' ho5 hg5 hr5
                                 have O5 := Lib.hid ho5
                                 have B5 := Lib.hid ((HBJ.out.trans (BO.out.mono HWM.out)).trans (below_own1 hg5 HO.out.block (Nat.le_trans HWM.out BO.out.size)))
                                 clear ho5 hg5 hr5))
                            go_roundw
                            case rel => exact ⟨j + 1, HLT.out, by go_num, by rw [HTX.out]; exact O5.out, B5.out⟩
                            case measure => have := HLT.out; simp [intOf]; omega
                          · have g3 : ¬ (j : Int) < (pl.length : Int) := by omega
                            have hjj : j = pl.length := by omega
                            rw [hjj, TE.out] at HO
                            have htl := TL.out pl.length (Nat.le_refl _)
                            rw [TE.out] at htl
                            have htb := TB.out
                            obtain ⟨tp, tc, rfl, -, -, hr, -⟩ := HO.out.rows elemByte.len
                            have HTB := Lib.hid (rows_bytes hr htb)
                            have HTL := Lib.hid (show (textL (cur.getD 0 []) pl).length ≤ 80000 by rw [htl]; have := HPLN.out; omega)
                            have HTF := Lib.hid (fun i (_ : i < (textL (cur.getD 0 []) pl).length) => natF_lt htb i)
                            have SJ := Lib.hid (S10.out.below HBJ.out)
                            have XJ := Lib.hid (X10.out.below HBJ.out)
                            have YJ := Lib.hid (Y10.out.below HBJ.out)
                            have a0 := SJ.out.a0
                            have HJJ := Lib.hid hjj
                            clear hlt hj hr htl htb HO hjj S10 X10 Y10 P10 C10 HBJ
                            go_wp2_with (first
                              | (go_at_call 22; refine (RT.out tp (textL (cur.getD 0 []) pl).length tc (natF (textL (cur.getD 0 []) pl)) HTL.out HTF.out wr SJ.out HTB.out).mono ?_; rintro e w17 ⟨rfl, hb7⟩
                                 rw [TI.out]
                                 have S17 := Lib.hid (SJ.out.below hb7)
                                 have X17 := Lib.hid (XJ.out.below hb7)
                                 have Y17 := Lib.hid (YJ.out.below hb7)
                                 clear hb7 SJ XJ YJ RT HTB a0)
                              | (refine store_row_on rfl 59 _ _ rfl rfl w17.heap.size (cellsOf .u8 (tauK P.n P.g (textL (cur.getD 0 []) pl))) rfl rfl 59 (cellsOf .u8 (mk 32 zeroK)) (IntBlk.new w17 .u8 _ (mk 32 zeroK)) (sumSize' _ _ _) (sum_same' _ _ _).symm (cellsOf_one _ _) ?_
                                 have hX := sum_laid w17 P.n P.g (textL (cur.getD 0 []) pl)
                                 have ZT := Lib.hid hX.1
                                 have S18 := Lib.hid (S17.out.below hX.2)
                                 have X18 := Lib.hid (X17.out.below hX.2)
                                 have Y18 := Lib.hid (Y17.out.below hX.2)
                                 change wpList _ _ _ _ _ ((w17.alloc (.cells (cellsOf .u8 (mk 32 zeroK)) 59)).setRow w17.heap.size (cellsOf .u8 (tauK P.n P.g (textL (cur.getD 0 []) pl))))
                                 clear hX S17 X17 Y17
                                 generalize (w17.alloc (.cells (cellsOf .u8 (mk 32 zeroK)) 59)).setRow w17.heap.size (cellsOf .u8 (tauK P.n P.g (textL (cur.getD 0 []) pl))) = w18 at *))
                            have htl := tauK_len P.n P.g (textL (cur.getD 0 []) pl)
                            have htb := tauK_bytes P.n P.g (textL (cur.getD 0 []) pl)
                            have k0 : Below w18.heap.size w18 w18.drew := (Below.refl _ w18).drew
                            have HTS := Lib.hid (fun U (h : Below w18.heap.size w18 U) => blk_bytes32 (ZT.out.below h ZT.out.lt) htl htb)
                            have HXS := Lib.hid (fun U (h : Below w18.heap.size w18 U) => show BytesAt U (some ⟨XB, 128, none⟩) 32 (natF ((encA P).getD 1 [])) from by
                              obtain ⟨B', o', e, hB, hr⟩ := secsAt_get (X18.out.below h) (k := 1) (by have := HMX.out; omega)
                              cases e
                              exact (sec_bytes hr hB).upto (by decide))
                            have HYS := Lib.hid (fun U (h : Below w18.heap.size w18 U) => show BytesAt U (some ⟨YB, 128, none⟩) 32 (natF ((encB P).getD 1 [])) from by
                              obtain ⟨B', o', e, hB, hr⟩ := secsAt_get (Y18.out.below h) (k := 1) (by have := HMX.out; omega)
                              cases e
                              exact (sec_bytes hr hB).upto (by decide))
                            have HCX := Lib.hid (fun (h : cur.getD 1 [] = (encA P).getD 1 []) => str_same (tau_head (h.symm.trans HDT.out.1) htl htb))
                            have HCY := Lib.hid (fun (h : cur.getD 1 [] = (encB P).getD 1 []) => str_same (tau_head (h.symm.trans HDT.out.1) htl htb))
                            clear htl htb ZT X18 Y18
                            generalize tauK P.n P.g (textL (cur.getD 0 []) pl) = tau at *
                            generalize (encA P).getD 1 [] = x1 at *
                            generalize (encB P).getD 1 [] = y1 at *
                            generalize hst : strOfNums (mk 32 (natF tau)) = st at *
                            generalize hsx : strOfNums (mk 32 (natF x1)) = sx at *
                            generalize hsy : strOfNums (mk 32 (natF y1)) = sy2 at *
                            have HST := Lib.hid hst
                            have HSX := Lib.hid hsx
                            have HSY2 := Lib.hid hsy
                            clear hst hsx hsy
                            try clear e1
                            try clear e2
                            try clear g1
                            try clear g2
                            try clear a0
                            try clear da
                            try clear db
                            rcases HC1.out with hx | hy
                            · have HV1 := Lib.hid (HCX.out hx)
                              clear hx
                              refine forgetB ?_
                              intros
                              refine wp_region_sched [(0, true), (1, true), (2, true), (3, true), (4, true), (5, true), (6, true), (7, true), (8, true), (9, true), (10, true), (11, true), (12, true), (13, true), (14, true), (15, true), (16, true)] (fun U => Below w18.heap.size w18 U) (by kernel_rfl) (by kernel_rfl) k0 ?_
                              iterate 8 (
                                refine walk_float rfl rfl (fun K hK => ?_)
                                first
                                  | (refine gives_move _ rfl ?_)
                                  | (refine gives_arr_slice 59 5 32 sumUnder rfl _ rfl w17.heap.size 0 rfl ?_)
                                  | (refine gives_sec_elem _ _ rfl XB 0 nx xc 1 rfl rfl (by have := HMX.out; omega) ?_)
                                  | (refine gives_arr_upto _ _ rfl XB 128 32 32 rfl rfl rfl (by decide) ?_)
                                  | (refine gives_string _ rfl (some ⟨w17.heap.size, 0, none⟩) 32 32 (natF tau) rfl HTS.out ?_
                                     rw [HST.out])
                                  | (refine gives_string _ rfl (some ⟨XB, 128, none⟩) 32 128 (natF x1) rfl HXS.out ?_
                                     rw [HSX.out])
                                  | (refine gives_string_is _ _ rfl st sx rfl rfl true HV1.out ?_)
                                go_simp
                                refine hK _ ?_
                                clear hK K)
                              iterate 7 (
                                refine walk_off rfl rfl ?_
                                go_simp)
                              refine walk_float rfl rfl (fun K hK => ?_)
                              refine gives_pickT _ _ _ rfl rfl _ rfl ?_
                              go_simp
                              refine hK _ ?_
                              clear hK K
                              refine walk_float rfl rfl (fun K hK => ?_)
                              refine gives_assign _ rfl ?_
                              go_simp
                              refine hK _ ?_
                              clear hK K
                              refine walk_nil ?_
                              go_wp2
                              go_ret
                              exact ⟨rfl, S18.out.b.trans (k0.mono S18.out.b.size)⟩
                            · have HV2 := Lib.hid (HCY.out hy)
                              clear hy
                              obtain ⟨b, hv1⟩ : ∃ b, (st.toList == sx.toList) = b := ⟨_, rfl⟩
                              have HV1 := Lib.hid hv1
                              clear hv1
                              cases b with
                              | true =>
                                refine forgetB ?_
                                intros
                                refine wp_region_sched [(0, true), (1, true), (2, true), (3, true), (4, true), (5, true), (6, true), (7, true), (8, true), (9, true), (10, true), (11, true), (12, true), (13, true), (14, true), (15, true), (16, true)] (fun U => Below w18.heap.size w18 U) (by kernel_rfl) (by kernel_rfl) k0 ?_
                                iterate 8 (
                                  refine walk_float rfl rfl (fun K hK => ?_)
                                  first
                                    | (refine gives_move _ rfl ?_)
                                    | (refine gives_arr_slice 59 5 32 sumUnder rfl _ rfl w17.heap.size 0 rfl ?_)
                                    | (refine gives_sec_elem _ _ rfl XB 0 nx xc 1 rfl rfl (by have := HMX.out; omega) ?_)
                                    | (refine gives_arr_upto _ _ rfl XB 128 32 32 rfl rfl rfl (by decide) ?_)
                                    | (refine gives_string _ rfl (some ⟨w17.heap.size, 0, none⟩) 32 32 (natF tau) rfl HTS.out ?_
                                       rw [HST.out])
                                    | (refine gives_string _ rfl (some ⟨XB, 128, none⟩) 32 128 (natF x1) rfl HXS.out ?_
                                       rw [HSX.out])
                                    | (refine gives_string_is _ _ rfl st sx rfl rfl true HV1.out ?_)
                                  go_simp
                                  refine hK _ ?_
                                  clear hK K)
                                iterate 7 (
                                  refine walk_off rfl rfl ?_
                                  go_simp)
                                refine walk_float rfl rfl (fun K hK => ?_)
                                refine gives_pickT _ _ _ rfl rfl _ rfl ?_
                                go_simp
                                refine hK _ ?_
                                clear hK K
                                refine walk_float rfl rfl (fun K hK => ?_)
                                refine gives_assign _ rfl ?_
                                go_simp
                                refine hK _ ?_
                                clear hK K
                                refine walk_nil ?_
                                go_wp2
                                go_ret
                                exact ⟨rfl, S18.out.b.trans (k0.mono S18.out.b.size)⟩
                              | false =>
                                refine forgetB ?_
                                intros
                                refine wp_region_sched [(0, true), (1, true), (2, true), (3, true), (4, true), (5, true), (6, true), (7, true), (8, true), (9, true), (10, true), (11, true), (12, true), (13, true), (14, true), (15, true), (16, true)] (fun U => Below w18.heap.size w18 U) (by kernel_rfl) (by kernel_rfl) k0 ?_
                                iterate 8 (
                                  refine walk_float rfl rfl (fun K hK => ?_)
                                  first
                                    | (refine gives_move _ rfl ?_)
                                    | (refine gives_arr_slice 59 5 32 sumUnder rfl _ rfl w17.heap.size 0 rfl ?_)
                                    | (refine gives_sec_elem _ _ rfl XB 0 nx xc 1 rfl rfl (by have := HMX.out; omega) ?_)
                                    | (refine gives_arr_upto _ _ rfl XB 128 32 32 rfl rfl rfl (by decide) ?_)
                                    | (refine gives_string _ rfl (some ⟨w17.heap.size, 0, none⟩) 32 32 (natF tau) rfl HTS.out ?_
                                       rw [HST.out])
                                    | (refine gives_string _ rfl (some ⟨XB, 128, none⟩) 32 128 (natF x1) rfl HXS.out ?_
                                       rw [HSX.out])
                                    | (refine gives_string_is _ _ rfl st sx rfl rfl false HV1.out ?_)
                                  go_simp
                                  refine hK _ ?_
                                  clear hK K)
                                iterate 7 (
                                  refine walk_float rfl rfl (fun K hK => ?_)
                                  first
                                    | (refine gives_move _ rfl ?_)
                                    | (refine gives_arr_slice 59 5 32 sumUnder rfl _ rfl w17.heap.size 0 rfl ?_)
                                    | (refine gives_sec_elem _ _ rfl YB 0 ny yc 1 rfl rfl (by have := HMX.out; omega) ?_)
                                    | (refine gives_arr_upto _ _ rfl YB 128 32 32 rfl rfl rfl (by decide) ?_)
                                    | (refine gives_string _ rfl (some ⟨w17.heap.size, 0, none⟩) 32 32 (natF tau) rfl HTS.out ?_
                                       rw [HST.out])
                                    | (refine gives_string _ rfl (some ⟨YB, 128, none⟩) 32 128 (natF y1) rfl HYS.out ?_
                                       rw [HSY2.out])
                                    | (refine gives_string_is _ _ rfl st sy2 rfl rfl true HV2.out ?_)
                                  go_simp
                                  refine hK _ ?_
                                  clear hK K)
                                refine walk_float rfl rfl (fun K hK => ?_)
                                refine gives_pickF _ _ _ rfl rfl _ rfl ?_
                                go_simp
                                refine hK _ ?_
                                clear hK K
                                refine walk_float rfl rfl (fun K hK => ?_)
                                refine gives_assign _ rfl ?_
                                go_simp
                                refine hK _ ?_
                                clear hK K
                                refine walk_nil ?_
                                go_wp2
                                go_ret
                                exact ⟨rfl, S18.out.b.trans (k0.mono S18.out.b.size)⟩
                  · have da : (c == P.za) = false := by simp [hca]
                    clear hca
                    by_cases hcb : c = P.zb
                    · have db : (c == P.zb) = true := by simp [hcb]
                      clear hcb
                      by_cases hpb : pl = putsL P.lb
                      · have HPB := Lib.hid hpb
                        clear hpb
                        go_wp2_with (first
                          | (go_at_call 17; refine (DD.out).mono ?_; rintro e w8 ⟨hs, hb⟩
                             obtain ⟨pp, pcap, rfl, hr⟩ := (show ∃ p cap, e = .returned (.tuple #[.int .i64 c, .slice p pl.length cap, .bool true]) ∧ RowsAt 129 putC w8 p pl from hs)
                             have S8 := Lib.hid (SR.out.below hb)
                             have P8 := Lib.hid hr
                             have X8 := Lib.hid (XR.out.below hb)
                             have Y8 := Lib.hid (YR.out.below hb)
                             have C8 := Lib.hid (HCR.out.below hb)
                             have e1 := S8.out.a1
                             have e2 := S8.out.a2
                             have g1 := S8.out.b1
                             have g2 := S8.out.b2
                             clear hs hb hr DD SR XR YR a0)
                          | (go_at_call 10; refine (puts_any P.qb P.cb P.lb HNB.out w8 S8.out.pb).mono ?_; rintro e w9 ⟨v, rfl, ho, hb⟩
                             obtain ⟨lp9, lc9, rfl, -, -, hr, -⟩ := ho.rows elemPut.len
                             have L9 := Lib.hid hr
                             have S9 := Lib.hid (S8.out.below hb)
                             have P9 := Lib.hid (P8.out.below hb)
                             have X9 := Lib.hid (X8.out.below hb)
                             have Y9 := Lib.hid (Y8.out.below hb)
                             have C9 := Lib.hid (C8.out.below hb)
                             clear ho hb hr S8 P8 X8 Y8 C8)
                          | (go_at_call 15; refine (same_any pp lp9 pcap lc9 pl (putsL P.lb) (by have := HPLN.out; omega) HPLO.out HOB.out w9 P9.out L9.out).mono ?_; rintro e w10 ⟨hs, hb⟩
                             have he := hs.is HPB.out
                             subst he
                             have S10 := Lib.hid (S9.out.below hb)
                             have P10 := Lib.hid (P9.out.below hb)
                             have X10 := Lib.hid (X9.out.below hb)
                             have Y10 := Lib.hid (Y9.out.below hb)
                             have C10 := Lib.hid (C9.out.below hb)
                             clear hs hb S9 P9 X9 Y9 C9 L9))
                        go_ret
                        exact ⟨rfl, S10.out.b⟩
                      · have HPB := Lib.hid hpb
                        clear hpb
                        go_wp2_with (first
                          | (go_at_call 17; refine (DD.out).mono ?_; rintro e w8 ⟨hs, hb⟩
                             obtain ⟨pp, pcap, rfl, hr⟩ := (show ∃ p cap, e = .returned (.tuple #[.int .i64 c, .slice p pl.length cap, .bool true]) ∧ RowsAt 129 putC w8 p pl from hs)
                             have S8 := Lib.hid (SR.out.below hb)
                             have P8 := Lib.hid hr
                             have X8 := Lib.hid (XR.out.below hb)
                             have Y8 := Lib.hid (YR.out.below hb)
                             have C8 := Lib.hid (HCR.out.below hb)
                             have e1 := S8.out.a1
                             have e2 := S8.out.a2
                             have g1 := S8.out.b1
                             have g2 := S8.out.b2
                             clear hs hb hr DD SR XR YR a0)
                          | (go_at_call 10; refine (puts_any P.qb P.cb P.lb HNB.out w8 S8.out.pb).mono ?_; rintro e w9 ⟨v, rfl, ho, hb⟩
                             obtain ⟨lp9, lc9, rfl, -, -, hr, -⟩ := ho.rows elemPut.len
                             have L9 := Lib.hid hr
                             have S9 := Lib.hid (S8.out.below hb)
                             have P9 := Lib.hid (P8.out.below hb)
                             have X9 := Lib.hid (X8.out.below hb)
                             have Y9 := Lib.hid (Y8.out.below hb)
                             have C9 := Lib.hid (C8.out.below hb)
                             clear ho hb hr S8 P8 X8 Y8 C8)
                          | (go_at_call 15; refine (same_any pp lp9 pcap lc9 pl (putsL P.lb) (by have := HPLN.out; omega) HPLO.out HOB.out w9 P9.out L9.out).mono ?_; rintro e w10 ⟨hs, hb⟩
                             have he := hs.not HPB.out
                             subst he
                             have S10 := Lib.hid (S9.out.below hb)
                             have P10 := Lib.hid (P9.out.below hb)
                             have X10 := Lib.hid (X9.out.below hb)
                             have Y10 := Lib.hid (Y9.out.below hb)
                             have C10 := Lib.hid (C9.out.below hb)
                             clear hs hb S9 P9 X9 Y9 C9 L9)
                          | (refine wpList_list0 elemByte rfl rfl ?_
                             have O15 := Lib.hid (OwnL.empty 5 1 byteC w10 w10.heap.size (Nat.le_refl _))
                             have B15 := Lib.hid ((Below.refl w10.heap.size w10).alloc (Nat.le_refl _) (.cells #[] 5))
                             have Z15 := Lib.hid (show (w10.alloc (.cells #[] 5)).heap.size = w10.heap.size + 1 by simp)
                             generalize w10.alloc (.cells #[] 5) = w15 at *
                             have C15 := Lib.hid (show RowsAt 1 byteC w15 (some ⟨L, 0, none⟩) (cur.getD 0 []) from by
                               obtain ⟨B', o', e, hB, hr⟩ := secsAt_get (C10.out.below B15.out) (k := 0) (by rw [HCL.out]; have := HMX.out; omega)
                               cases e
                               exact sec_bytesL HS0.out hr hB))
                          | (refine wpList_sec_elem rfl _ _ rfl L 0 N N 0 rfl rfl (by have := HMX.out; omega) ?_)
                          | (refine wpList_arr_slice rfl 31 5 128 secUnder rfl _ rfl L 0 rfl ?_)
                          | (refine wpList_append_list elemByte rfl _ _ rfl w10.heap.size (w10.heap.size + 1) _ [] (cur.getD 0 []) (some ⟨L, 0, none⟩) 128 128 rfl rfl HS0.out.1.symm O15.out C15.out (by rw [HS0.out.1]; decide) (by decide) (by have := Z15.out; omega) ?_
                             intro v16 w16 ho6 hg6 hr6
                             rw [List.nil_append, ← TZ.out] at ho6
                             have O16 := Lib.hid ho6
                             have B16 := Lib.hid (B15.out.trans (below_own1 hg6 O15.out.block (by have := Z15.out; omega)))
                             clear ho6 hg6 hr6 O15 B15 Z15 C15))
                        go_loopw [153, 19] (fun v153 v19 wr => ∃ j : Nat, j ≤ pl.length ∧ v153 = .int .i64 j ∧ OwnL 5 1 byteC wr w10.heap.size wr.heap.size v19 (textT (cur.getD 0 []) pl j) ∧ Below w10.heap.size w10 wr) (fun v153 _ _ => pl.length - (intOf v153).toNat)
                        case atStart => exact ⟨0, Nat.zero_le _, rfl, O16.out, B16.out⟩
                        case round =>
                          obtain ⟨j, hj, rfl, ho, hb⟩ := hrel
                          have HO := Lib.hid ho
                          have HBJ := Lib.hid hb
                          clear ho hb O16 B16
                          have HWM := Lib.hid (show w10.heap.size ≤ wr.heap.size from HBJ.out.size)
                          by_cases hlt : j < pl.length
                          · obtain ⟨B, o, hqe, hB, hr⟩ := rowsAt_get P10.out hlt
                            subst hqe
                            have HRB := Lib.hid (rangeAt_below hr HBJ.out hB)
                            have g3 : (j : Int) < (pl.length : Int) := by omega
                            have g4 : (0 : Int) ≤ j := by omega
                            have g5 : IntKind.i64.wrap ((j : Int) + 1) = ((j + 1 : Nat) : Int) := by have := HPLN.out; rw [IntWalk.i64_in _ (by omega)]; omega
                            have HTX := Lib.hid (TN.out j hlt)
                            have HSJ := Lib.hid (show IsSec (pl.getD j noPut).s from HPLO.out _ (getD_mem noPut hlt))
                            have HLT := Lib.hid hlt
                            have HLE := Lib.hid (show (textT (cur.getD 0 []) pl j).length ≤ 8000 by rw [TL.out j hj]; have := HPLN.out; omega)
                            clear hlt hr hB
                            generalize pl.getD j noPut = cc at *
                            generalize textT (cur.getD 0 []) pl j = tx at *
                            have OB := Lib.hid (PutBox.new wr cc)
                            have BO := Lib.hid (put_box_below wr cc)
                            go_wp2_with (first
                              | (refine wpList_put_elem rfl _ _ rfl B o pl.length pcap j rfl rfl HLT.out ?_)
                              | (refine wpList_put_load rfl _ rfl B (o + 129 * j) rfl cc HRB.out ?_)
                              | (refine wpList_put_alloc rfl rfl ?_)
                              | (refine store_row_on rfl 57 _ _ rfl rfl wr.heap.size (putC cc).toArray rfl rfl 57 (putC ⟨0, []⟩).toArray (heap_alloc_new _ _) (putA_size cc) (by rw [List.size_toArray, List.size_toArray, putC_len, putC_len]) (putA_one cc) ?_
                                 generalize hW : (wr.alloc (.cells (putC ⟨0, []⟩).toArray 57)).setRow wr.heap.size (putC cc).toArray = wb at *
                                 have HSC := Lib.hid (box_sec OB.out)
                                 have HWO := Lib.hid hW
                                 clear hW)
                              | (refine wpList_putfield rfl _ 1 rfl (by decide) wr.heap.size 0 rfl ?_)
                              | (refine wpList_arr_slice rfl 31 5 128 secUnder rfl _ rfl wr.heap.size 1 rfl ?_)
                              | (refine wpList_append_list elemByte rfl _ _ rfl w10.heap.size wr.heap.size _ tx cc.s (some ⟨wr.heap.size, 1, none⟩) 128 128 rfl rfl HSJ.out.1.symm (HO.out.below (Nat.le_refl _) BO.out) (sec_bytesL HSJ.out HSC.out OB.out.lt) (by rw [HSJ.out.1]; have := HLE.out; omega) (by decide) (Nat.le_trans HWM.out BO.out.size) ?_
                                 intro v5 w5' ho5 hg5 hr5
                                 have O5 := Lib.hid ho5
                                 have B5 := Lib.hid ((HBJ.out.trans (BO.out.mono HWM.out)).trans (below_own1 hg5 HO.out.block (Nat.le_trans HWM.out BO.out.size)))
                                 clear ho5 hg5 hr5))
                            go_roundw
                            case rel => exact ⟨j + 1, HLT.out, by go_num, by rw [HTX.out]; exact O5.out, B5.out⟩
                            case measure => have := HLT.out; simp [intOf]; omega
                          · have g3 : ¬ (j : Int) < (pl.length : Int) := by omega
                            have hjj : j = pl.length := by omega
                            rw [hjj, TE.out] at HO
                            have htl := TL.out pl.length (Nat.le_refl _)
                            rw [TE.out] at htl
                            have htb := TB.out
                            obtain ⟨tp, tc, rfl, -, -, hr, -⟩ := HO.out.rows elemByte.len
                            have HTB := Lib.hid (rows_bytes hr htb)
                            have HTL := Lib.hid (show (textL (cur.getD 0 []) pl).length ≤ 80000 by rw [htl]; have := HPLN.out; omega)
                            have HTF := Lib.hid (fun i (_ : i < (textL (cur.getD 0 []) pl).length) => natF_lt htb i)
                            have SJ := Lib.hid (S10.out.below HBJ.out)
                            have XJ := Lib.hid (X10.out.below HBJ.out)
                            have YJ := Lib.hid (Y10.out.below HBJ.out)
                            have a0 := SJ.out.a0
                            have HJJ := Lib.hid hjj
                            clear hlt hj hr htl htb HO hjj S10 X10 Y10 P10 C10 HBJ
                            go_wp2_with (first
                              | (go_at_call 22; refine (RT.out tp (textL (cur.getD 0 []) pl).length tc (natF (textL (cur.getD 0 []) pl)) HTL.out HTF.out wr SJ.out HTB.out).mono ?_; rintro e w17 ⟨rfl, hb7⟩
                                 rw [TI.out]
                                 have S17 := Lib.hid (SJ.out.below hb7)
                                 have X17 := Lib.hid (XJ.out.below hb7)
                                 have Y17 := Lib.hid (YJ.out.below hb7)
                                 clear hb7 SJ XJ YJ RT HTB a0)
                              | (refine store_row_on rfl 59 _ _ rfl rfl w17.heap.size (cellsOf .u8 (tauK P.n P.g (textL (cur.getD 0 []) pl))) rfl rfl 59 (cellsOf .u8 (mk 32 zeroK)) (IntBlk.new w17 .u8 _ (mk 32 zeroK)) (sumSize' _ _ _) (sum_same' _ _ _).symm (cellsOf_one _ _) ?_
                                 have hX := sum_laid w17 P.n P.g (textL (cur.getD 0 []) pl)
                                 have ZT := Lib.hid hX.1
                                 have S18 := Lib.hid (S17.out.below hX.2)
                                 have X18 := Lib.hid (X17.out.below hX.2)
                                 have Y18 := Lib.hid (Y17.out.below hX.2)
                                 change wpList _ _ _ _ _ ((w17.alloc (.cells (cellsOf .u8 (mk 32 zeroK)) 59)).setRow w17.heap.size (cellsOf .u8 (tauK P.n P.g (textL (cur.getD 0 []) pl))))
                                 clear hX S17 X17 Y17
                                 generalize (w17.alloc (.cells (cellsOf .u8 (mk 32 zeroK)) 59)).setRow w17.heap.size (cellsOf .u8 (tauK P.n P.g (textL (cur.getD 0 []) pl))) = w18 at *))
                            have htl := tauK_len P.n P.g (textL (cur.getD 0 []) pl)
                            have htb := tauK_bytes P.n P.g (textL (cur.getD 0 []) pl)
                            have k0 : Below w18.heap.size w18 w18.drew := (Below.refl _ w18).drew
                            have HTS := Lib.hid (fun U (h : Below w18.heap.size w18 U) => blk_bytes32 (ZT.out.below h ZT.out.lt) htl htb)
                            have HXS := Lib.hid (fun U (h : Below w18.heap.size w18 U) => show BytesAt U (some ⟨XB, 128, none⟩) 32 (natF ((encA P).getD 1 [])) from by
                              obtain ⟨B', o', e, hB, hr⟩ := secsAt_get (X18.out.below h) (k := 1) (by have := HMX.out; omega)
                              cases e
                              exact (sec_bytes hr hB).upto (by decide))
                            have HYS := Lib.hid (fun U (h : Below w18.heap.size w18 U) => show BytesAt U (some ⟨YB, 128, none⟩) 32 (natF ((encB P).getD 1 [])) from by
                              obtain ⟨B', o', e, hB, hr⟩ := secsAt_get (Y18.out.below h) (k := 1) (by have := HMX.out; omega)
                              cases e
                              exact (sec_bytes hr hB).upto (by decide))
                            have HCX := Lib.hid (fun (h : cur.getD 1 [] = (encA P).getD 1 []) => str_same (tau_head (h.symm.trans HDT.out.1) htl htb))
                            have HCY := Lib.hid (fun (h : cur.getD 1 [] = (encB P).getD 1 []) => str_same (tau_head (h.symm.trans HDT.out.1) htl htb))
                            clear htl htb ZT X18 Y18
                            generalize tauK P.n P.g (textL (cur.getD 0 []) pl) = tau at *
                            generalize (encA P).getD 1 [] = x1 at *
                            generalize (encB P).getD 1 [] = y1 at *
                            generalize hst : strOfNums (mk 32 (natF tau)) = st at *
                            generalize hsx : strOfNums (mk 32 (natF x1)) = sx at *
                            generalize hsy : strOfNums (mk 32 (natF y1)) = sy2 at *
                            have HST := Lib.hid hst
                            have HSX := Lib.hid hsx
                            have HSY2 := Lib.hid hsy
                            clear hst hsx hsy
                            try clear e1
                            try clear e2
                            try clear g1
                            try clear g2
                            try clear a0
                            try clear da
                            try clear db
                            rcases HC1.out with hx | hy
                            · have HV1 := Lib.hid (HCX.out hx)
                              clear hx
                              refine forgetB ?_
                              intros
                              refine wp_region_sched [(0, true), (1, true), (2, true), (3, true), (4, true), (5, true), (6, true), (7, true), (8, true), (9, true), (10, true), (11, true), (12, true), (13, true), (14, true), (15, true), (16, true)] (fun U => Below w18.heap.size w18 U) (by kernel_rfl) (by kernel_rfl) k0 ?_
                              iterate 8 (
                                refine walk_float rfl rfl (fun K hK => ?_)
                                first
                                  | (refine gives_move _ rfl ?_)
                                  | (refine gives_arr_slice 59 5 32 sumUnder rfl _ rfl w17.heap.size 0 rfl ?_)
                                  | (refine gives_sec_elem _ _ rfl XB 0 nx xc 1 rfl rfl (by have := HMX.out; omega) ?_)
                                  | (refine gives_arr_upto _ _ rfl XB 128 32 32 rfl rfl rfl (by decide) ?_)
                                  | (refine gives_string _ rfl (some ⟨w17.heap.size, 0, none⟩) 32 32 (natF tau) rfl HTS.out ?_
                                     rw [HST.out])
                                  | (refine gives_string _ rfl (some ⟨XB, 128, none⟩) 32 128 (natF x1) rfl HXS.out ?_
                                     rw [HSX.out])
                                  | (refine gives_string_is _ _ rfl st sx rfl rfl true HV1.out ?_)
                                go_simp
                                refine hK _ ?_
                                clear hK K)
                              iterate 7 (
                                refine walk_off rfl rfl ?_
                                go_simp)
                              refine walk_float rfl rfl (fun K hK => ?_)
                              refine gives_pickT _ _ _ rfl rfl _ rfl ?_
                              go_simp
                              refine hK _ ?_
                              clear hK K
                              refine walk_float rfl rfl (fun K hK => ?_)
                              refine gives_assign _ rfl ?_
                              go_simp
                              refine hK _ ?_
                              clear hK K
                              refine walk_nil ?_
                              go_wp2
                              go_ret
                              exact ⟨rfl, S18.out.b.trans (k0.mono S18.out.b.size)⟩
                            · have HV2 := Lib.hid (HCY.out hy)
                              clear hy
                              obtain ⟨b, hv1⟩ : ∃ b, (st.toList == sx.toList) = b := ⟨_, rfl⟩
                              have HV1 := Lib.hid hv1
                              clear hv1
                              cases b with
                              | true =>
                                refine forgetB ?_
                                intros
                                refine wp_region_sched [(0, true), (1, true), (2, true), (3, true), (4, true), (5, true), (6, true), (7, true), (8, true), (9, true), (10, true), (11, true), (12, true), (13, true), (14, true), (15, true), (16, true)] (fun U => Below w18.heap.size w18 U) (by kernel_rfl) (by kernel_rfl) k0 ?_
                                iterate 8 (
                                  refine walk_float rfl rfl (fun K hK => ?_)
                                  first
                                    | (refine gives_move _ rfl ?_)
                                    | (refine gives_arr_slice 59 5 32 sumUnder rfl _ rfl w17.heap.size 0 rfl ?_)
                                    | (refine gives_sec_elem _ _ rfl XB 0 nx xc 1 rfl rfl (by have := HMX.out; omega) ?_)
                                    | (refine gives_arr_upto _ _ rfl XB 128 32 32 rfl rfl rfl (by decide) ?_)
                                    | (refine gives_string _ rfl (some ⟨w17.heap.size, 0, none⟩) 32 32 (natF tau) rfl HTS.out ?_
                                       rw [HST.out])
                                    | (refine gives_string _ rfl (some ⟨XB, 128, none⟩) 32 128 (natF x1) rfl HXS.out ?_
                                       rw [HSX.out])
                                    | (refine gives_string_is _ _ rfl st sx rfl rfl true HV1.out ?_)
                                  go_simp
                                  refine hK _ ?_
                                  clear hK K)
                                iterate 7 (
                                  refine walk_off rfl rfl ?_
                                  go_simp)
                                refine walk_float rfl rfl (fun K hK => ?_)
                                refine gives_pickT _ _ _ rfl rfl _ rfl ?_
                                go_simp
                                refine hK _ ?_
                                clear hK K
                                refine walk_float rfl rfl (fun K hK => ?_)
                                refine gives_assign _ rfl ?_
                                go_simp
                                refine hK _ ?_
                                clear hK K
                                refine walk_nil ?_
                                go_wp2
                                go_ret
                                exact ⟨rfl, S18.out.b.trans (k0.mono S18.out.b.size)⟩
                              | false =>
                                refine forgetB ?_
                                intros
                                refine wp_region_sched [(0, true), (1, true), (2, true), (3, true), (4, true), (5, true), (6, true), (7, true), (8, true), (9, true), (10, true), (11, true), (12, true), (13, true), (14, true), (15, true), (16, true)] (fun U => Below w18.heap.size w18 U) (by kernel_rfl) (by kernel_rfl) k0 ?_
                                iterate 8 (
                                  refine walk_float rfl rfl (fun K hK => ?_)
                                  first
                                    | (refine gives_move _ rfl ?_)
                                    | (refine gives_arr_slice 59 5 32 sumUnder rfl _ rfl w17.heap.size 0 rfl ?_)
                                    | (refine gives_sec_elem _ _ rfl XB 0 nx xc 1 rfl rfl (by have := HMX.out; omega) ?_)
                                    | (refine gives_arr_upto _ _ rfl XB 128 32 32 rfl rfl rfl (by decide) ?_)
                                    | (refine gives_string _ rfl (some ⟨w17.heap.size, 0, none⟩) 32 32 (natF tau) rfl HTS.out ?_
                                       rw [HST.out])
                                    | (refine gives_string _ rfl (some ⟨XB, 128, none⟩) 32 128 (natF x1) rfl HXS.out ?_
                                       rw [HSX.out])
                                    | (refine gives_string_is _ _ rfl st sx rfl rfl false HV1.out ?_)
                                  go_simp
                                  refine hK _ ?_
                                  clear hK K)
                                iterate 7 (
                                  refine walk_float rfl rfl (fun K hK => ?_)
                                  first
                                    | (refine gives_move _ rfl ?_)
                                    | (refine gives_arr_slice 59 5 32 sumUnder rfl _ rfl w17.heap.size 0 rfl ?_)
                                    | (refine gives_sec_elem _ _ rfl YB 0 ny yc 1 rfl rfl (by have := HMX.out; omega) ?_)
                                    | (refine gives_arr_upto _ _ rfl YB 128 32 32 rfl rfl rfl (by decide) ?_)
                                    | (refine gives_string _ rfl (some ⟨w17.heap.size, 0, none⟩) 32 32 (natF tau) rfl HTS.out ?_
                                       rw [HST.out])
                                    | (refine gives_string _ rfl (some ⟨YB, 128, none⟩) 32 128 (natF y1) rfl HYS.out ?_
                                       rw [HSY2.out])
                                    | (refine gives_string_is _ _ rfl st sy2 rfl rfl true HV2.out ?_)
                                  go_simp
                                  refine hK _ ?_
                                  clear hK K)
                                refine walk_float rfl rfl (fun K hK => ?_)
                                refine gives_pickF _ _ _ rfl rfl _ rfl ?_
                                go_simp
                                refine hK _ ?_
                                clear hK K
                                refine walk_float rfl rfl (fun K hK => ?_)
                                refine gives_assign _ rfl ?_
                                go_simp
                                refine hK _ ?_
                                clear hK K
                                refine walk_nil ?_
                                go_wp2
                                go_ret
                                exact ⟨rfl, S18.out.b.trans (k0.mono S18.out.b.size)⟩
                    · have db : (c == P.zb) = false := by simp [hcb]
                      clear hcb
                      go_wp2_with (first
                        | (go_at_call 17; refine (DD.out).mono ?_; rintro e w8 ⟨hs, hb⟩
                           obtain ⟨pp, pcap, rfl, hr⟩ := (show ∃ p cap, e = .returned (.tuple #[.int .i64 c, .slice p pl.length cap, .bool true]) ∧ RowsAt 129 putC w8 p pl from hs)
                           have S8 := Lib.hid (SR.out.below hb)
                           have P8 := Lib.hid hr
                           have X8 := Lib.hid (XR.out.below hb)
                           have Y8 := Lib.hid (YR.out.below hb)
                           have C8 := Lib.hid (HCR.out.below hb)
                           have e1 := S8.out.a1
                           have e2 := S8.out.a2
                           have g1 := S8.out.b1
                           have g2 := S8.out.b2
                           clear hs hb hr DD SR XR YR a0)
                        | (refine wpList_list0 elemByte rfl rfl ?_
                           have O15 := Lib.hid (OwnL.empty 5 1 byteC w8 w8.heap.size (Nat.le_refl _))
                           have B15 := Lib.hid ((Below.refl w8.heap.size w8).alloc (Nat.le_refl _) (.cells #[] 5))
                           have Z15 := Lib.hid (show (w8.alloc (.cells #[] 5)).heap.size = w8.heap.size + 1 by simp)
                           generalize w8.alloc (.cells #[] 5) = w15 at *
                           have C15 := Lib.hid (show RowsAt 1 byteC w15 (some ⟨L, 0, none⟩) (cur.getD 0 []) from by
                             obtain ⟨B', o', e, hB, hr⟩ := secsAt_get (C8.out.below B15.out) (k := 0) (by rw [HCL.out]; have := HMX.out; omega)
                             cases e
                             exact sec_bytesL HS0.out hr hB))
                        | (refine wpList_sec_elem rfl _ _ rfl L 0 N N 0 rfl rfl (by have := HMX.out; omega) ?_)
                        | (refine wpList_arr_slice rfl 31 5 128 secUnder rfl _ rfl L 0 rfl ?_)
                        | (refine wpList_append_list elemByte rfl _ _ rfl w8.heap.size (w8.heap.size + 1) _ [] (cur.getD 0 []) (some ⟨L, 0, none⟩) 128 128 rfl rfl HS0.out.1.symm O15.out C15.out (by rw [HS0.out.1]; decide) (by decide) (by have := Z15.out; omega) ?_
                           intro v16 w16 ho6 hg6 hr6
                           rw [List.nil_append, ← TZ.out] at ho6
                           have O16 := Lib.hid ho6
                           have B16 := Lib.hid (B15.out.trans (below_own1 hg6 O15.out.block (by have := Z15.out; omega)))
                           clear ho6 hg6 hr6 O15 B15 Z15 C15))
                      go_loopw [153, 19] (fun v153 v19 wr => ∃ j : Nat, j ≤ pl.length ∧ v153 = .int .i64 j ∧ OwnL 5 1 byteC wr w8.heap.size wr.heap.size v19 (textT (cur.getD 0 []) pl j) ∧ Below w8.heap.size w8 wr) (fun v153 _ _ => pl.length - (intOf v153).toNat)
                      case atStart => exact ⟨0, Nat.zero_le _, rfl, O16.out, B16.out⟩
                      case round =>
                        obtain ⟨j, hj, rfl, ho, hb⟩ := hrel
                        have HO := Lib.hid ho
                        have HBJ := Lib.hid hb
                        clear ho hb O16 B16
                        have HWM := Lib.hid (show w8.heap.size ≤ wr.heap.size from HBJ.out.size)
                        by_cases hlt : j < pl.length
                        · obtain ⟨B, o, hqe, hB, hr⟩ := rowsAt_get P8.out hlt
                          subst hqe
                          have HRB := Lib.hid (rangeAt_below hr HBJ.out hB)
                          have g3 : (j : Int) < (pl.length : Int) := by omega
                          have g4 : (0 : Int) ≤ j := by omega
                          have g5 : IntKind.i64.wrap ((j : Int) + 1) = ((j + 1 : Nat) : Int) := by have := HPLN.out; rw [IntWalk.i64_in _ (by omega)]; omega
                          have HTX := Lib.hid (TN.out j hlt)
                          have HSJ := Lib.hid (show IsSec (pl.getD j noPut).s from HPLO.out _ (getD_mem noPut hlt))
                          have HLT := Lib.hid hlt
                          have HLE := Lib.hid (show (textT (cur.getD 0 []) pl j).length ≤ 8000 by rw [TL.out j hj]; have := HPLN.out; omega)
                          clear hlt hr hB
                          generalize pl.getD j noPut = cc at *
                          generalize textT (cur.getD 0 []) pl j = tx at *
                          have OB := Lib.hid (PutBox.new wr cc)
                          have BO := Lib.hid (put_box_below wr cc)
                          go_wp2_with (first
                            | (refine wpList_put_elem rfl _ _ rfl B o pl.length pcap j rfl rfl HLT.out ?_)
                            | (refine wpList_put_load rfl _ rfl B (o + 129 * j) rfl cc HRB.out ?_)
                            | (refine wpList_put_alloc rfl rfl ?_)
                            | (refine store_row_on rfl 57 _ _ rfl rfl wr.heap.size (putC cc).toArray rfl rfl 57 (putC ⟨0, []⟩).toArray (heap_alloc_new _ _) (putA_size cc) (by rw [List.size_toArray, List.size_toArray, putC_len, putC_len]) (putA_one cc) ?_
                               generalize hW : (wr.alloc (.cells (putC ⟨0, []⟩).toArray 57)).setRow wr.heap.size (putC cc).toArray = wb at *
                               have HSC := Lib.hid (box_sec OB.out)
                               have HWO := Lib.hid hW
                               clear hW)
                            | (refine wpList_putfield rfl _ 1 rfl (by decide) wr.heap.size 0 rfl ?_)
                            | (refine wpList_arr_slice rfl 31 5 128 secUnder rfl _ rfl wr.heap.size 1 rfl ?_)
                            | (refine wpList_append_list elemByte rfl _ _ rfl w8.heap.size wr.heap.size _ tx cc.s (some ⟨wr.heap.size, 1, none⟩) 128 128 rfl rfl HSJ.out.1.symm (HO.out.below (Nat.le_refl _) BO.out) (sec_bytesL HSJ.out HSC.out OB.out.lt) (by rw [HSJ.out.1]; have := HLE.out; omega) (by decide) (Nat.le_trans HWM.out BO.out.size) ?_
                               intro v5 w5' ho5 hg5 hr5
                               have O5 := Lib.hid ho5
                               have B5 := Lib.hid ((HBJ.out.trans (BO.out.mono HWM.out)).trans (below_own1 hg5 HO.out.block (Nat.le_trans HWM.out BO.out.size)))
                               clear ho5 hg5 hr5))
                          go_roundw
                          case rel => exact ⟨j + 1, HLT.out, by go_num, by rw [HTX.out]; exact O5.out, B5.out⟩
                          case measure => have := HLT.out; simp [intOf]; omega
                        · have g3 : ¬ (j : Int) < (pl.length : Int) := by omega
                          have hjj : j = pl.length := by omega
                          rw [hjj, TE.out] at HO
                          have htl := TL.out pl.length (Nat.le_refl _)
                          rw [TE.out] at htl
                          have htb := TB.out
                          obtain ⟨tp, tc, rfl, -, -, hr, -⟩ := HO.out.rows elemByte.len
                          have HTB := Lib.hid (rows_bytes hr htb)
                          have HTL := Lib.hid (show (textL (cur.getD 0 []) pl).length ≤ 80000 by rw [htl]; have := HPLN.out; omega)
                          have HTF := Lib.hid (fun i (_ : i < (textL (cur.getD 0 []) pl).length) => natF_lt htb i)
                          have SJ := Lib.hid (S8.out.below HBJ.out)
                          have XJ := Lib.hid (X8.out.below HBJ.out)
                          have YJ := Lib.hid (Y8.out.below HBJ.out)
                          have a0 := SJ.out.a0
                          have HJJ := Lib.hid hjj
                          clear hlt hj hr htl htb HO hjj S8 X8 Y8 P8 C8 HBJ
                          go_wp2_with (first
                            | (go_at_call 22; refine (RT.out tp (textL (cur.getD 0 []) pl).length tc (natF (textL (cur.getD 0 []) pl)) HTL.out HTF.out wr SJ.out HTB.out).mono ?_; rintro e w17 ⟨rfl, hb7⟩
                               rw [TI.out]
                               have S17 := Lib.hid (SJ.out.below hb7)
                               have X17 := Lib.hid (XJ.out.below hb7)
                               have Y17 := Lib.hid (YJ.out.below hb7)
                               clear hb7 SJ XJ YJ RT HTB a0)
                            | (refine store_row_on rfl 59 _ _ rfl rfl w17.heap.size (cellsOf .u8 (tauK P.n P.g (textL (cur.getD 0 []) pl))) rfl rfl 59 (cellsOf .u8 (mk 32 zeroK)) (IntBlk.new w17 .u8 _ (mk 32 zeroK)) (sumSize' _ _ _) (sum_same' _ _ _).symm (cellsOf_one _ _) ?_
                               have hX := sum_laid w17 P.n P.g (textL (cur.getD 0 []) pl)
                               have ZT := Lib.hid hX.1
                               have S18 := Lib.hid (S17.out.below hX.2)
                               have X18 := Lib.hid (X17.out.below hX.2)
                               have Y18 := Lib.hid (Y17.out.below hX.2)
                               change wpList _ _ _ _ _ ((w17.alloc (.cells (cellsOf .u8 (mk 32 zeroK)) 59)).setRow w17.heap.size (cellsOf .u8 (tauK P.n P.g (textL (cur.getD 0 []) pl))))
                               clear hX S17 X17 Y17
                               generalize (w17.alloc (.cells (cellsOf .u8 (mk 32 zeroK)) 59)).setRow w17.heap.size (cellsOf .u8 (tauK P.n P.g (textL (cur.getD 0 []) pl))) = w18 at *))
                          have htl := tauK_len P.n P.g (textL (cur.getD 0 []) pl)
                          have htb := tauK_bytes P.n P.g (textL (cur.getD 0 []) pl)
                          have k0 : Below w18.heap.size w18 w18.drew := (Below.refl _ w18).drew
                          have HTS := Lib.hid (fun U (h : Below w18.heap.size w18 U) => blk_bytes32 (ZT.out.below h ZT.out.lt) htl htb)
                          have HXS := Lib.hid (fun U (h : Below w18.heap.size w18 U) => show BytesAt U (some ⟨XB, 128, none⟩) 32 (natF ((encA P).getD 1 [])) from by
                            obtain ⟨B', o', e, hB, hr⟩ := secsAt_get (X18.out.below h) (k := 1) (by have := HMX.out; omega)
                            cases e
                            exact (sec_bytes hr hB).upto (by decide))
                          have HYS := Lib.hid (fun U (h : Below w18.heap.size w18 U) => show BytesAt U (some ⟨YB, 128, none⟩) 32 (natF ((encB P).getD 1 [])) from by
                            obtain ⟨B', o', e, hB, hr⟩ := secsAt_get (Y18.out.below h) (k := 1) (by have := HMX.out; omega)
                            cases e
                            exact (sec_bytes hr hB).upto (by decide))
                          have HCX := Lib.hid (fun (h : cur.getD 1 [] = (encA P).getD 1 []) => str_same (tau_head (h.symm.trans HDT.out.1) htl htb))
                          have HCY := Lib.hid (fun (h : cur.getD 1 [] = (encB P).getD 1 []) => str_same (tau_head (h.symm.trans HDT.out.1) htl htb))
                          clear htl htb ZT X18 Y18
                          generalize tauK P.n P.g (textL (cur.getD 0 []) pl) = tau at *
                          generalize (encA P).getD 1 [] = x1 at *
                          generalize (encB P).getD 1 [] = y1 at *
                          generalize hst : strOfNums (mk 32 (natF tau)) = st at *
                          generalize hsx : strOfNums (mk 32 (natF x1)) = sx at *
                          generalize hsy : strOfNums (mk 32 (natF y1)) = sy2 at *
                          have HST := Lib.hid hst
                          have HSX := Lib.hid hsx
                          have HSY2 := Lib.hid hsy
                          clear hst hsx hsy
                          try clear e1
                          try clear e2
                          try clear g1
                          try clear g2
                          try clear a0
                          try clear da
                          try clear db
                          rcases HC1.out with hx | hy
                          · have HV1 := Lib.hid (HCX.out hx)
                            clear hx
                            refine forgetB ?_
                            intros
                            refine wp_region_sched [(0, true), (1, true), (2, true), (3, true), (4, true), (5, true), (6, true), (7, true), (8, true), (9, true), (10, true), (11, true), (12, true), (13, true), (14, true), (15, true), (16, true)] (fun U => Below w18.heap.size w18 U) (by kernel_rfl) (by kernel_rfl) k0 ?_
                            iterate 8 (
                              refine walk_float rfl rfl (fun K hK => ?_)
                              first
                                | (refine gives_move _ rfl ?_)
                                | (refine gives_arr_slice 59 5 32 sumUnder rfl _ rfl w17.heap.size 0 rfl ?_)
                                | (refine gives_sec_elem _ _ rfl XB 0 nx xc 1 rfl rfl (by have := HMX.out; omega) ?_)
                                | (refine gives_arr_upto _ _ rfl XB 128 32 32 rfl rfl rfl (by decide) ?_)
                                | (refine gives_string _ rfl (some ⟨w17.heap.size, 0, none⟩) 32 32 (natF tau) rfl HTS.out ?_
                                   rw [HST.out])
                                | (refine gives_string _ rfl (some ⟨XB, 128, none⟩) 32 128 (natF x1) rfl HXS.out ?_
                                   rw [HSX.out])
                                | (refine gives_string_is _ _ rfl st sx rfl rfl true HV1.out ?_)
                              go_simp
                              refine hK _ ?_
                              clear hK K)
                            iterate 7 (
                              refine walk_off rfl rfl ?_
                              go_simp)
                            refine walk_float rfl rfl (fun K hK => ?_)
                            refine gives_pickT _ _ _ rfl rfl _ rfl ?_
                            go_simp
                            refine hK _ ?_
                            clear hK K
                            refine walk_float rfl rfl (fun K hK => ?_)
                            refine gives_assign _ rfl ?_
                            go_simp
                            refine hK _ ?_
                            clear hK K
                            refine walk_nil ?_
                            go_wp2
                            go_ret
                            exact ⟨rfl, S18.out.b.trans (k0.mono S18.out.b.size)⟩
                          · have HV2 := Lib.hid (HCY.out hy)
                            clear hy
                            obtain ⟨b, hv1⟩ : ∃ b, (st.toList == sx.toList) = b := ⟨_, rfl⟩
                            have HV1 := Lib.hid hv1
                            clear hv1
                            cases b with
                            | true =>
                              refine forgetB ?_
                              intros
                              refine wp_region_sched [(0, true), (1, true), (2, true), (3, true), (4, true), (5, true), (6, true), (7, true), (8, true), (9, true), (10, true), (11, true), (12, true), (13, true), (14, true), (15, true), (16, true)] (fun U => Below w18.heap.size w18 U) (by kernel_rfl) (by kernel_rfl) k0 ?_
                              iterate 8 (
                                refine walk_float rfl rfl (fun K hK => ?_)
                                first
                                  | (refine gives_move _ rfl ?_)
                                  | (refine gives_arr_slice 59 5 32 sumUnder rfl _ rfl w17.heap.size 0 rfl ?_)
                                  | (refine gives_sec_elem _ _ rfl XB 0 nx xc 1 rfl rfl (by have := HMX.out; omega) ?_)
                                  | (refine gives_arr_upto _ _ rfl XB 128 32 32 rfl rfl rfl (by decide) ?_)
                                  | (refine gives_string _ rfl (some ⟨w17.heap.size, 0, none⟩) 32 32 (natF tau) rfl HTS.out ?_
                                     rw [HST.out])
                                  | (refine gives_string _ rfl (some ⟨XB, 128, none⟩) 32 128 (natF x1) rfl HXS.out ?_
                                     rw [HSX.out])
                                  | (refine gives_string_is _ _ rfl st sx rfl rfl true HV1.out ?_)
                                go_simp
                                refine hK _ ?_
                                clear hK K)
                              iterate 7 (
                                refine walk_off rfl rfl ?_
                                go_simp)
                              refine walk_float rfl rfl (fun K hK => ?_)
                              refine gives_pickT _ _ _ rfl rfl _ rfl ?_
                              go_simp
                              refine hK _ ?_
                              clear hK K
                              refine walk_float rfl rfl (fun K hK => ?_)
                              refine gives_assign _ rfl ?_
                              go_simp
                              refine hK _ ?_
                              clear hK K
                              refine walk_nil ?_
                              go_wp2
                              go_ret
                              exact ⟨rfl, S18.out.b.trans (k0.mono S18.out.b.size)⟩
                            | false =>
                              refine forgetB ?_
                              intros
                              refine wp_region_sched [(0, true), (1, true), (2, true), (3, true), (4, true), (5, true), (6, true), (7, true), (8, true), (9, true), (10, true), (11, true), (12, true), (13, true), (14, true), (15, true), (16, true)] (fun U => Below w18.heap.size w18 U) (by kernel_rfl) (by kernel_rfl) k0 ?_
                              iterate 8 (
                                refine walk_float rfl rfl (fun K hK => ?_)
                                first
                                  | (refine gives_move _ rfl ?_)
                                  | (refine gives_arr_slice 59 5 32 sumUnder rfl _ rfl w17.heap.size 0 rfl ?_)
                                  | (refine gives_sec_elem _ _ rfl XB 0 nx xc 1 rfl rfl (by have := HMX.out; omega) ?_)
                                  | (refine gives_arr_upto _ _ rfl XB 128 32 32 rfl rfl rfl (by decide) ?_)
                                  | (refine gives_string _ rfl (some ⟨w17.heap.size, 0, none⟩) 32 32 (natF tau) rfl HTS.out ?_
                                     rw [HST.out])
                                  | (refine gives_string _ rfl (some ⟨XB, 128, none⟩) 32 128 (natF x1) rfl HXS.out ?_
                                     rw [HSX.out])
                                  | (refine gives_string_is _ _ rfl st sx rfl rfl false HV1.out ?_)
                                go_simp
                                refine hK _ ?_
                                clear hK K)
                              iterate 7 (
                                refine walk_float rfl rfl (fun K hK => ?_)
                                first
                                  | (refine gives_move _ rfl ?_)
                                  | (refine gives_arr_slice 59 5 32 sumUnder rfl _ rfl w17.heap.size 0 rfl ?_)
                                  | (refine gives_sec_elem _ _ rfl YB 0 ny yc 1 rfl rfl (by have := HMX.out; omega) ?_)
                                  | (refine gives_arr_upto _ _ rfl YB 128 32 32 rfl rfl rfl (by decide) ?_)
                                  | (refine gives_string _ rfl (some ⟨w17.heap.size, 0, none⟩) 32 32 (natF tau) rfl HTS.out ?_
                                     rw [HST.out])
                                  | (refine gives_string _ rfl (some ⟨YB, 128, none⟩) 32 128 (natF y1) rfl HYS.out ?_
                                     rw [HSY2.out])
                                  | (refine gives_string_is _ _ rfl st sy2 rfl rfl true HV2.out ?_)
                                go_simp
                                refine hK _ ?_
                                clear hK K)
                              refine walk_float rfl rfl (fun K hK => ?_)
                              refine gives_pickF _ _ _ rfl rfl _ rfl ?_
                              go_simp
                              refine hK _ ?_
                              clear hK K
                              refine walk_float rfl rfl (fun K hK => ?_)
                              refine gives_assign _ rfl ?_
                              go_simp
                              refine hK _ ?_
                              clear hK K
                              refine walk_nil ?_
                              go_wp2
                              go_ret
                              exact ⟨rfl, S18.out.b.trans (k0.mono S18.out.b.size)⟩
          · have HGB := Lib.hid hgb
            clear hgb
            go_enter Tryd.func6, Tryd.ntmps6
            go_wp2_with (first
              | (go_at_call 8; refine (LG1.out _).mono ?_; rintro e w1 ⟨rfl, rfl⟩; clear LG1)
              | (go_at_call 8; refine (LG2.out _).mono ?_; rintro e w1 ⟨rfl, rfl⟩; clear LG2)
              | (go_at_call 9
                 generalize (w.alloc (.cells #[.slice P.kp P.n P.kc, .int .i64 P.za, .slice P.qa P.la.length P.ca, .int .i64 P.ma] 53)).alloc (.cells #[.slice P.kb P.nb P.kbc, .int .i64 P.zb, .slice P.qb P.lb.length P.cb, .int .i64 P.mb] 53) = wA at *
                 refine (OC.out wA S0.out.t).mono ?_; rintro e w1 ⟨⟨B1, c1, rfl, hc⟩, hb⟩
                 have S1 := Lib.hid (S0.out.below hb)
                 clear hb OC S0 hc s0 s2 t2))
            have c0 : Below w1.heap.size w1 w1.drew := (Below.refl _ w1).drew
            refine wp_region_sched [(0, true), (1, true), (2, true), (3, true), (4, true), (5, true), (6, false), (7, false), (8, true), (9, true), (10, true), (11, true), (12, true)] (fun U => Below w1.heap.size w1 U) (by kernel_rfl) (by kernel_rfl) c0 ?_
            iterate 6 (
              refine walk_float rfl rfl (fun K hK => ?_)
              first
                | (refine gives_entryfield _ 0 rfl (by decide) (w.heap.size) rfl ?_)
                | (refine gives_entryfield _ 1 rfl (by decide) (w.heap.size) rfl ?_)
                | (refine gives_entryfield _ 2 rfl (by decide) (w.heap.size) rfl ?_)
                | (refine gives_cell 22 _ rfl ⟨w.heap.size, 0, none⟩ (.slice P.kp P.n P.kc) rfl box_bytes (fun U h => (S1.out.below h).a0) ?_)
                | (refine gives_cell 3 _ rfl ⟨w.heap.size, 1, none⟩ (.int .i64 P.za) rfl box_int (fun U h => (S1.out.below h).a1) ?_)
                | (refine gives_cell 23 _ rfl ⟨w.heap.size, 2, none⟩ (.slice P.qa P.la.length P.ca) rfl box_rows (fun U h => (S1.out.below h).a2) ?_)
              go_simp
              refine hK _ ?_
              clear hK K)
            refine walk_done rfl rfl (fun K hK => ?_)
            refine done_enter1 _ _ _ rfl 10 rfl (enters_of Tryd.func10 (by kernel_rfl) rfl) _ rfl _ (puts_any P.qa P.ca P.la HNA.out w1.drew (S1.out.below c0).pa) (fun e w2 h2 => ?_)
            obtain ⟨v, rfl, ho, hb2⟩ := h2
            obtain ⟨lp, lc, rfl, -, -, hr, -⟩ := ho.rows elemPut.len
            have c1 : Below w1.heap.size w1 w2 := c0.trans hb2
            refine ⟨_, rfl, c1, ?_⟩
            go_simp
            refine hK _ _ ?_
            clear hK K ho hb2
            refine walk_done rfl rfl (fun K hK => ?_)
            refine done_enter3 _ _ _ _ _ rfl 9 rfl (enters_of Tryd.func9 (by kernel_rfl) rfl) _ _ _ rfl rfl rfl _ (EA.out lp lc w2 (S1.out.below c1) hr) (fun e w3 h3 => ?_)
            obtain ⟨hs, hb3⟩ := h3
            have c2 : Below w1.heap.size w1 w3 := c1.trans (hb3.mono c1.size)
            unfold EncSays at hs
            obtain ⟨-, XB, xc, rfl, -, -, hrr⟩ := hs.resolve_right (fun h => h.1 HGA.out)
            refine ⟨_, rfl, c2, ?_⟩
            go_simp
            refine hK _ _ ?_
            clear hK K
            iterate 5 (
              refine walk_float rfl rfl (fun K hK => ?_)
              first
                | (refine gives_move _ rfl ?_)
                | (refine gives_extract _ 0 rfl _ _ rfl rfl ?_)
                | (refine gives_extract _ 1 rfl _ _ rfl rfl ?_)
                | (refine gives_assign _ rfl ?_)
              go_simp
              refine hK _ ?_
              clear hK K)
            refine walk_nil ?_
            rw [encA_is] at hrr ⊢
            have X3r := Lib.hid hrr
            have S3 := Lib.hid (S1.out.below c2)
            clear c0 c1 c2 hs hb3 hr hrr S1 EA
            go_wp2
            have c0 : Below w3.heap.size w3 w3.drew := (Below.refl _ w3).drew
            refine wp_region_sched [(0, true), (1, true), (2, true), (3, true), (4, true), (5, true), (6, false), (7, false), (8, true), (9, true), (10, true), (11, true), (12, true)] (fun U => Below w3.heap.size w3 U) (by kernel_rfl) (by kernel_rfl) c0 ?_
            iterate 6 (
              refine walk_float rfl rfl (fun K hK => ?_)
              first
                | (refine gives_entryfield _ 0 rfl (by decide) (w.heap.size) rfl ?_)
                | (refine gives_entryfield _ 1 rfl (by decide) (w.heap.size + 1) rfl ?_)
                | (refine gives_entryfield _ 2 rfl (by decide) (w.heap.size + 1) rfl ?_)
                | (refine gives_cell 22 _ rfl ⟨w.heap.size, 0, none⟩ (.slice P.kp P.n P.kc) rfl box_bytes (fun U h => (S3.out.below h).a0) ?_)
                | (refine gives_cell 3 _ rfl ⟨w.heap.size + 1, 1, none⟩ (.int .i64 P.zb) rfl box_int (fun U h => (S3.out.below h).b1) ?_)
                | (refine gives_cell 23 _ rfl ⟨w.heap.size + 1, 2, none⟩ (.slice P.qb P.lb.length P.cb) rfl box_rows (fun U h => (S3.out.below h).b2) ?_)
              go_simp
              refine hK _ ?_
              clear hK K)
            refine walk_done rfl rfl (fun K hK => ?_)
            refine done_enter1 _ _ _ rfl 10 rfl (enters_of Tryd.func10 (by kernel_rfl) rfl) _ rfl _ (puts_any P.qb P.cb P.lb HNB.out w3.drew (S3.out.below c0).pb) (fun e w4 h2 => ?_)
            obtain ⟨v, rfl, ho, hb2⟩ := h2
            obtain ⟨lp, lc, rfl, -, -, hr, -⟩ := ho.rows elemPut.len
            have c1 : Below w3.heap.size w3 w4 := c0.trans hb2
            refine ⟨_, rfl, c1, ?_⟩
            go_simp
            refine hK _ _ ?_
            clear hK K ho hb2
            refine walk_done rfl rfl (fun K hK => ?_)
            refine done_enter3 _ _ _ _ _ rfl 9 rfl (enters_of Tryd.func9 (by kernel_rfl) rfl) _ _ _ rfl rfl rfl _ (EB.out lp lc w4 (S3.out.below c1) hr) (fun e w5 h3 => ?_)
            obtain ⟨hs, hb3⟩ := h3
            have c2 : Below w3.heap.size w3 w5 := c1.trans (hb3.mono c1.size)
            unfold EncSays at hs
            obtain ⟨-, rfl⟩ := hs.resolve_left (fun h => HGB.out h.1)
            refine ⟨_, rfl, c2, ?_⟩
            go_simp
            refine hK _ _ ?_
            clear hK K
            iterate 5 (
              refine walk_float rfl rfl (fun K hK => ?_)
              first
                | (refine gives_move _ rfl ?_)
                | (refine gives_extract _ 0 rfl _ _ rfl rfl ?_)
                | (refine gives_extract _ 1 rfl _ _ rfl rfl ?_)
                | (refine gives_assign _ rfl ?_)
              go_simp
              refine hK _ ?_
              clear hK K)
            refine walk_nil ?_
            have X5r := Lib.hid (X3r.out.below c2)
            have S5 := Lib.hid (S3.out.below c2)
            clear c0 c1 c2 hs hb3 hr S3 EB
            go_wp2
            go_ret
            exact ⟨rfl, S5.out.b⟩
        · have HGA := Lib.hid hga
          clear hga
          go_enter Tryd.func6, Tryd.ntmps6
          go_wp2_with (first
            | (go_at_call 8; refine (LG1.out _).mono ?_; rintro e w1 ⟨rfl, rfl⟩; clear LG1)
            | (go_at_call 8; refine (LG2.out _).mono ?_; rintro e w1 ⟨rfl, rfl⟩; clear LG2)
            | (go_at_call 9
               generalize (w.alloc (.cells #[.slice P.kp P.n P.kc, .int .i64 P.za, .slice P.qa P.la.length P.ca, .int .i64 P.ma] 53)).alloc (.cells #[.slice P.kb P.nb P.kbc, .int .i64 P.zb, .slice P.qb P.lb.length P.cb, .int .i64 P.mb] 53) = wA at *
               refine (OC.out wA S0.out.t).mono ?_; rintro e w1 ⟨⟨B1, c1, rfl, hc⟩, hb⟩
               have S1 := Lib.hid (S0.out.below hb)
               clear hb OC S0 hc s0 s2 t2))
          have c0 : Below w1.heap.size w1 w1.drew := (Below.refl _ w1).drew
          refine wp_region_sched [(0, true), (1, true), (2, true), (3, true), (4, true), (5, true), (6, false), (7, false), (8, true), (9, true), (10, true), (11, true), (12, true)] (fun U => Below w1.heap.size w1 U) (by kernel_rfl) (by kernel_rfl) c0 ?_
          iterate 6 (
            refine walk_float rfl rfl (fun K hK => ?_)
            first
              | (refine gives_entryfield _ 0 rfl (by decide) (w.heap.size) rfl ?_)
              | (refine gives_entryfield _ 1 rfl (by decide) (w.heap.size) rfl ?_)
              | (refine gives_entryfield _ 2 rfl (by decide) (w.heap.size) rfl ?_)
              | (refine gives_cell 22 _ rfl ⟨w.heap.size, 0, none⟩ (.slice P.kp P.n P.kc) rfl box_bytes (fun U h => (S1.out.below h).a0) ?_)
              | (refine gives_cell 3 _ rfl ⟨w.heap.size, 1, none⟩ (.int .i64 P.za) rfl box_int (fun U h => (S1.out.below h).a1) ?_)
              | (refine gives_cell 23 _ rfl ⟨w.heap.size, 2, none⟩ (.slice P.qa P.la.length P.ca) rfl box_rows (fun U h => (S1.out.below h).a2) ?_)
            go_simp
            refine hK _ ?_
            clear hK K)
          refine walk_done rfl rfl (fun K hK => ?_)
          refine done_enter1 _ _ _ rfl 10 rfl (enters_of Tryd.func10 (by kernel_rfl) rfl) _ rfl _ (puts_any P.qa P.ca P.la HNA.out w1.drew (S1.out.below c0).pa) (fun e w2 h2 => ?_)
          obtain ⟨v, rfl, ho, hb2⟩ := h2
          obtain ⟨lp, lc, rfl, -, -, hr, -⟩ := ho.rows elemPut.len
          have c1 : Below w1.heap.size w1 w2 := c0.trans hb2
          refine ⟨_, rfl, c1, ?_⟩
          go_simp
          refine hK _ _ ?_
          clear hK K ho hb2
          refine walk_done rfl rfl (fun K hK => ?_)
          refine done_enter3 _ _ _ _ _ rfl 9 rfl (enters_of Tryd.func9 (by kernel_rfl) rfl) _ _ _ rfl rfl rfl _ (EA.out lp lc w2 (S1.out.below c1) hr) (fun e w3 h3 => ?_)
          obtain ⟨hs, hb3⟩ := h3
          have c2 : Below w1.heap.size w1 w3 := c1.trans (hb3.mono c1.size)
          unfold EncSays at hs
          obtain ⟨-, rfl⟩ := hs.resolve_left (fun h => HGA.out h.1)
          refine ⟨_, rfl, c2, ?_⟩
          go_simp
          refine hK _ _ ?_
          clear hK K
          iterate 5 (
            refine walk_float rfl rfl (fun K hK => ?_)
            first
              | (refine gives_move _ rfl ?_)
              | (refine gives_extract _ 0 rfl _ _ rfl rfl ?_)
              | (refine gives_extract _ 1 rfl _ _ rfl rfl ?_)
              | (refine gives_assign _ rfl ?_)
            go_simp
            refine hK _ ?_
            clear hK K)
          refine walk_nil ?_
          have S3 := Lib.hid (S1.out.below c2)
          clear c0 c1 c2 hs hb3 hr S1 EA
          go_wp2
          have c0 : Below w3.heap.size w3 w3.drew := (Below.refl _ w3).drew
          refine wp_region_sched [(0, true), (1, true), (2, true), (3, true), (4, true), (5, true), (6, false), (7, false), (8, true), (9, true), (10, true), (11, true), (12, true)] (fun U => Below w3.heap.size w3 U) (by kernel_rfl) (by kernel_rfl) c0 ?_
          iterate 6 (
            refine walk_float rfl rfl (fun K hK => ?_)
            first
              | (refine gives_entryfield _ 0 rfl (by decide) (w.heap.size) rfl ?_)
              | (refine gives_entryfield _ 1 rfl (by decide) (w.heap.size + 1) rfl ?_)
              | (refine gives_entryfield _ 2 rfl (by decide) (w.heap.size + 1) rfl ?_)
              | (refine gives_cell 22 _ rfl ⟨w.heap.size, 0, none⟩ (.slice P.kp P.n P.kc) rfl box_bytes (fun U h => (S3.out.below h).a0) ?_)
              | (refine gives_cell 3 _ rfl ⟨w.heap.size + 1, 1, none⟩ (.int .i64 P.zb) rfl box_int (fun U h => (S3.out.below h).b1) ?_)
              | (refine gives_cell 23 _ rfl ⟨w.heap.size + 1, 2, none⟩ (.slice P.qb P.lb.length P.cb) rfl box_rows (fun U h => (S3.out.below h).b2) ?_)
            go_simp
            refine hK _ ?_
            clear hK K)
          refine walk_done rfl rfl (fun K hK => ?_)
          refine done_enter1 _ _ _ rfl 10 rfl (enters_of Tryd.func10 (by kernel_rfl) rfl) _ rfl _ (puts_any P.qb P.cb P.lb HNB.out w3.drew (S3.out.below c0).pb) (fun e w4 h2 => ?_)
          obtain ⟨v, rfl, ho, hb2⟩ := h2
          obtain ⟨lp, lc, rfl, -, -, hr, -⟩ := ho.rows elemPut.len
          have c1 : Below w3.heap.size w3 w4 := c0.trans hb2
          refine ⟨_, rfl, c1, ?_⟩
          go_simp
          refine hK _ _ ?_
          clear hK K ho hb2
          refine walk_done rfl rfl (fun K hK => ?_)
          refine done_enter3 _ _ _ _ _ rfl 9 rfl (enters_of Tryd.func9 (by kernel_rfl) rfl) _ _ _ rfl rfl rfl _ (EB.out lp lc w4 (S3.out.below c1) hr) (fun e w5 h3 => ?_)
          obtain ⟨hs, hb3⟩ := h3
          have c2 : Below w3.heap.size w3 w5 := c1.trans (hb3.mono c1.size)
          obtain ⟨y1, y2, rfl⟩ := hs.tup
          refine ⟨_, rfl, c2, ?_⟩
          go_simp
          refine hK _ _ ?_
          clear hK K
          iterate 5 (
            refine walk_float rfl rfl (fun K hK => ?_)
            first
              | (refine gives_move _ rfl ?_)
              | (refine gives_extract _ 0 rfl _ _ rfl rfl ?_)
              | (refine gives_extract _ 1 rfl _ _ rfl rfl ?_)
              | (refine gives_assign _ rfl ?_)
            go_simp
            refine hK _ ?_
            clear hK K)
          refine walk_nil ?_
          have S5 := Lib.hid (S3.out.below c2)
          clear c0 c1 c2 hs hb3 hr S3 EB
          go_wp2
          go_ret
          exact ⟨rfl, S5.out.b⟩
      · have d1 : decide ((100 : Int) < (P.lp.length : Int)) = true := decide_eq_true (by omega)
        have d2 : decide (100 < P.lp.length) = true := decide_eq_true (by omega)
        clear h1 h2 h3
        go_enter Tryd.func6, Tryd.ntmps6
        go_wp2_with (first
          | (go_at_call 8; refine (LG1.out _).mono ?_; rintro e w1 ⟨rfl, rfl⟩; clear LG1)
          | (go_at_call 8; refine (LG2.out _).mono ?_; rintro e w1 ⟨rfl, rfl⟩; clear LG2))
        go_ret
        exact ⟨rfl, S0.out.b⟩
    · have LG1 := Lib.hid (fun W => large_no P.kp P.n P.kc P.qa P.la.length P.ca h1.1 h1.2 W)
      have LG2 := Lib.hid (fun W => large_yes P.kp P.n P.kc P.qb P.lb.length P.cb h2 W)
      clear h1 h2
      go_enter Tryd.func6, Tryd.ntmps6
      go_wp2_with (first
        | (go_at_call 8; refine (LG1.out _).mono ?_; rintro e w1 ⟨rfl, rfl⟩; clear LG1)
        | (go_at_call 8; refine (LG2.out _).mono ?_; rintro e w1 ⟨rfl, rfl⟩; clear LG2))
      go_ret
      exact ⟨rfl, S0.out.b⟩
  · have LG1 := Lib.hid (fun W => large_yes P.kp P.n P.kc P.qa P.la.length P.ca h1 W)
    clear h1
    go_enter Tryd.func6, Tryd.ntmps6
    go_wp2_with (first
      | (go_at_call 8; refine (LG1.out _).mono ?_; rintro e w1 ⟨rfl, rfl⟩; clear LG1)
    )
    go_ret
    exact ⟨rfl, S0.out.b⟩
set_option maxRecDepth 100000 in
set_option maxHeartbeats 1000000 in
theorem walk {A0 B0 A1 B1 A2 : Prop} (qa0 : Option Addr) (na0 ca0 : Nat) (ga0 : Nat → Nat) (z0 : Int) (q0 : Option Addr) (l0 : List RowOf) (c0 : Nat) (m0 : Int) (qa1 : Option Addr) (na1 ca1 : Nat) (ga1 : Nat → Nat) (z1 : Int) (q1 : Option Addr) (l1 : List RowOf) (c1 : Nat) (m1 : Int) (q2 : Option Addr) (a2 : List Int) (c2 : Nat) (_ : A0) (_ : B0) (_ : A1) (_ : B1) (_ : A2) (w : World) (hT : TabAt w) (hk : KeyOk w qa0 na0 ca0 ga0) (ha : RowsIn w q0 l0) (_ : KeyOk w qa1 na1 ca1 ga1) (hb : RowsIn w q1 l1) (hi : IntsAt w q2 a2) :
    Calls Tryd.prog 6 #[.agg #[.slice qa0 na0 ca0, .int .i64 z0, .slice q0 l0.length c0, .int .i64 m0], .agg #[.slice qa1 na1 ca1, .int .i64 z1, .slice q1 l1.length c1, .int .i64 m1], .slice q2 a2.length c2] w fun e w' => e = .returned (.bool true) ∧ Below w.heap.size w w' :=
  walk' ⟨qa0, na0, ca0, ga0, z0, q0, l0, c0, m0, qa1, na1, ca1, z1, q1, l1, c1, m1, q2, a2, c2⟩ w hk hT ha hb hi

theorem laidOut : laidOutB Tryd.prog = true := by kernel_rfl
set_option maxRecDepth 100000 in
theorem lifted (os : Os) (started : os.Started) (H : Type) (enc : TypeId × Value → H) :
    ReturnsInHanded {} Tryd.checked os 6 .any (fun w args => (Rows.redoMixedSpec.pre enc Tryd.prog Tryd.f6 Rows.redoMixedRow.domain false w args ∧ laidMetH Tryd.prog Rows.redoMixedRow.laid w) ∧ sizedMet enc Tryd.prog Tryd.f6 (OpenSpec.ofChange Rows.redoMixedSpec) false w args) (Rows.redoMixedSpec.post enc Tryd.prog Tryd.f6 false true false false) := by
  refine returnsInHanded_of_change_and (C := Tryd.checked) (X := fun w _ => laidMetH Tryd.prog Rows.redoMixedRow.laid w) (fun _ _ _ hh h => h.of_heap hh) own started (by kernel_rfl) Tryd.func6
    (ChangeSpec.witness_shaped (enc := enc) (C := Tryd.checked) (os := os) (X := fun w _ => laidMetH Tryd.prog Rows.redoMixedRow.laid w) false (World.laidAll Tryd.prog os Rows.redoMixedRow.laid) #[.agg #[.slice none 0 0, .int .i64 0, .slice none 0 0, .int .i64 0], .agg #[.slice none 0 0, .int .i64 0, .slice none 0 0, .int .i64 0], .slice none 0 0] 8 (World.laidAll_os _ _ _)
      (World.shaped_of_ZipB (by kernel_rfl) (by kernel_rfl)) (by kernel_rfl) (by kernel_rfl) (by kernel_rfl)
      (by rw [MakeChecks.laidMetH_plain _ _ _ (by kernel_rfl)]; exact laidMet_laidAll _ (by kernel_rfl) (by kernel_rfl))) ?_
  intro W base args ds gs before hval0 hW hcnd hsz hL _
  have hT := tab_of_laid hL
  have hval : ∀ (j : Nat) t v, Tryd.f6.params[j]? = some t → args[j]? = some v → Value.okWide Tryd.prog W .any base t v := hval0
  have hW' := hW
  obtain ⟨p, q, hA0, hV, rfl, hfz, hnd⟩ := hW
  have hA : DataW.TrodAll enc Tryd.prog W 0 (fun _ => true) true Tryd.f6.params.toList args.toList ds p := hA0
  rw [Tryd.params6] at hA hval
  obtain ⟨v0, vs0, d0, ds0, p0, q0, hargs, rfl, rfl, h0, r0⟩ := trodAll_cons hA
  obtain ⟨v1, vs1, d1, ds1, p1, q1, rfl, rfl, rfl, h1, r1⟩ := trodAll_cons r0
  obtain ⟨v2, vs2, d2, ds2, p2, q2, rfl, rfl, rfl, h2, r2⟩ := trodAll_cons r1
  obtain ⟨rfl, rfl, rfl⟩ := trodAll_nil r2
  obtain rfl : args = #[v0, v1, v2] := by cases args; simp_all
  obtain ⟨rfl, rfl⟩ := trodVars_none hV
  have k0 := h0
  have lt0 : ∀ x ∈ p0, x.block < W.heap.size := by obtain ⟨m, hm⟩ := k0; exact DataW.trod_lt m _ _ _ hm
  obtain ⟨qa0, na0, ca0, ga0, z0, q0, l0, c0, m0, rfl, ka0, w0, y0, x0⟩ := open_entry (hval 0 53 v0 rfl rfl) h0
  have k1 := h1
  have lt1 : ∀ x ∈ p1, x.block < W.heap.size := by obtain ⟨m, hm⟩ := k1; exact DataW.trod_lt m _ _ _ hm
  obtain ⟨qa1, na1, ca1, ga1, z1, q1, l1, c1, m1, rfl, ka1, w1, y1, x1⟩ := open_entry (hval 1 53 v1 rfl rfl) h1
  have k2 := h2
  have lt2 : ∀ x ∈ p2, x.block < W.heap.size := by obtain ⟨m, hm⟩ := k2; exact DataW.trod_lt m _ _ _ hm
  obtain ⟨q2, a2, c2, rfl, w2, y2⟩ := open_ints (hval 2 46 v2 rfl rfl) h2
  clear hA0 hval0
  refine (walk qa0 na0 ca0 ga0 z0 q0 l0 c0 m0 qa1 na1 ca1 ga1 z1 q1 l1 c1 m1 q2 a2 c2 w0 x0 w1 x1 w2 W hT ka0 y0 ka1 y1 y2).mono fun e W' ⟨he, bel⟩ => ?_
  subst he
  exact ⟨_, rfl, _, _, _, [], _, [], hW', trodAll_mk1 (shut_bool Tryd.underlying4 _), (trodAll_cons_mk (Below.trod laidOut (by kernel_rfl) (of_decide_eq_true (by kernel_rfl)) k0 bel lt0) (trodAll_cons_mk (Below.trod laidOut (by kernel_rfl) (of_decide_eq_true (by kernel_rfl)) k1 bel lt1) (trodAll_cons_mk (Below.trod laidOut (by kernel_rfl) (of_decide_eq_true (by kernel_rfl)) k2 bel lt2) trodAll_mk0))), rfl, bel.frame _, fun h => by cases h⟩

theorem over : Rows.redoMixedRow.holds Tryd.pinned (OpenSpec.ofChange Rows.redoMixedSpec) :=
  OpenClaim.holds_of_wide 6 Tryd.f6 rfl rfl rfl rfl rfl rfl rfl ⟨rfl, rfl, rfl, rfl, rfl⟩ rfl rfl rfl rfl rfl (by kernel_rfl) Tryd.func6 (by kernel_rfl)
    (of_decide_eq_true (by kernel_rfl)) (by unfold Func.isWrapper; first | (rw [if_pos (by decide +kernel)]; kernel_rfl) | (rw [if_neg (by decide +kernel)]; exact ⟨rfl, rfl⟩))
    (fun os started H enc _ => lifted os started H enc)

set_option maxRecDepth 100000 in
theorem proved : Rows.RedoMixedCardSaid :=
  Claim7.holds_tied_plain_at .later [] [.data] true (true, "02ea7121c43e2a3ca2ba9c5335c4e2fd07ee2246b670e7239163a3305a411b98") true
    over (fun _ h => by cases h) (by kernel_rfl) (fun _ h => by cases h) redoMixed_row_tie rfl ⟨rfl, rfl⟩ (by kernel_rfl) rfl
    (fun f fn hf hfn => by
      obtain rfl : f = 6 := Option.some.inj ((show Tryd.prog.funcNamed "citadel/citadellaw10.RedoMixed" = some 6 by kernel_rfl).symm.trans hf) |>.symm
      obtain rfl : fn = Tryd.f6 := (Option.some.inj (Tryd.func6.symm.trans hfn)).symm
      exact ⟨by kernel_rfl, fun j t ht => by
        rw [Tryd.params6] at ht
        rcases j with _ | _ | _ | j
        · obtain rfl : t = 53 := by simpa using ht.symm
          exact (show Tryd.prog.wantsStandIn 53 = false by kernel_rfl)
        · obtain rfl : t = 53 := by simpa using ht.symm
          exact (show Tryd.prog.wantsStandIn 53 = false by kernel_rfl)
        · obtain rfl : t = 46 := by simpa using ht.symm
          exact (show Tryd.prog.wantsStandIn 46 = false by kernel_rfl)
        · simp at ht⟩)
    (by kernel_rfl)
end Go.Proofs.YtdeojhcfbiekmaaDoor.redoMixed
