/- DigLib: merged by merge.py out of Empty CopyC DigLaw Done Door OpenSz. Conditions: as each part says. -/
import Derived.Test.YtccpecajbfpjdaaDoorDigBase
import Derived.Test.YtccpecajbfpjdaaDoorDigProg
import Derived.Test.YtccpecajbfpjdaaDoorDigRef
import Derived.Test.YtccpecajbfpjdaaDoorTie
import Derived.Test.YtccpecajbfpjdaaDoorCards
import Derived.Lib.LaidTab
import Derived.LaidMore
import Derived.Lay
import Derived.Stop.Joined
import Derived.SevenTiedAt
import Derived.ProofKit
import Derived.OpenShut
import Derived.ChangeOld
import Derived.SizedLaws
/- Two runs of the rounds, reckoned from literal to literal: with no words at all, and with those of an empty text's piece. No condition. -/
namespace Go.Proofs.YtccpecajbfpjdaaDoor
open Go

def stZ : List (List Nat) := [[1779033703, 3144134277, 1013904242, 2773480762, 1359893119, 2600822924, 528734635, 1541459225], [4228417613, 1779033703, 3144134277, 1013904242, 2563236514, 1359893119, 2600822924, 528734635], [2061066896, 4228417613, 1779033703, 3144134277, 2649862678, 2563236514, 1359893119, 2600822924], [4091374655, 2061066896, 4228417613, 1779033703, 3313199355, 2649862678, 2563236514, 1359893119], [170176938, 4091374655, 2061066896, 4228417613, 2426205641, 3313199355, 2649862678, 2563236514], [1218429566, 170176938, 4091374655, 2061066896, 749409450, 2426205641, 3313199355, 2649862678], [1806883463, 1218429566, 170176938, 4091374655, 2635206550, 749409450, 2426205641, 3313199355], [2522794722, 1806883463, 1218429566, 170176938, 2043112922, 2635206550, 749409450, 2426205641], [1581879219, 2522794722, 1806883463, 1218429566, 2485578848, 2043112922, 2635206550, 749409450], [630097338, 1581879219, 2522794722, 1806883463, 2208112828, 2485578848, 2043112922, 2635206550], [2279417502, 630097338, 1581879219, 2522794722, 1050479591, 2208112828, 2485578848, 2043112922], [3099050328, 2279417502, 630097338, 1581879219, 1706030895, 1050479591, 2208112828, 2485578848], [3235833870, 3099050328, 2279417502, 630097338, 2107349789, 1706030895, 1050479591, 2208112828], [1178652117, 3235833870, 3099050328, 2279417502, 1594747770, 2107349789, 1706030895, 1050479591], [986572295, 1178652117, 3235833870, 3099050328, 3318148831, 1594747770, 2107349789, 1706030895], [3525469376, 986572295, 1178652117, 3235833870, 2130347788, 3318148831, 1594747770, 2107349789], [529866418, 3525469376, 986572295, 1178652117, 4078311056, 2130347788, 3318148831, 1594747770], [367693927, 529866418, 3525469376, 986572295, 462849088, 4078311056, 2130347788, 3318148831], [1943532089, 367693927, 529866418, 3525469376, 2868915268, 462849088, 4078311056, 2130347788], [2932840628, 1943532089, 367693927, 529866418, 3592676163, 2868915268, 462849088, 4078311056], [567187925, 2932840628, 1943532089, 367693927, 958391656, 3592676163, 2868915268, 462849088], [1042487203, 567187925, 2932840628, 1943532089, 1937773263, 958391656, 3592676163, 2868915268], [2086730723, 1042487203, 567187925, 2932840628, 3264846943, 1937773263, 958391656, 3592676163], [652608802, 2086730723, 1042487203, 567187925, 359051749, 3264846943, 1937773263, 958391656], [2775063474, 652608802, 2086730723, 1042487203, 1343774465, 359051749, 3264846943, 1937773263], [2156387130, 2775063474, 652608802, 2086730723, 3316183042, 1343774465, 359051749, 3264846943], [2781806737, 2156387130, 2775063474, 652608802, 380684368, 3316183042, 1343774465, 359051749], [337293918, 2781806737, 2156387130, 2775063474, 1127543555, 380684368, 3316183042, 1343774465], [2400639463, 337293918, 2781806737, 2156387130, 850390893, 1127543555, 380684368, 3316183042], [2652249513, 2400639463, 337293918, 2781806737, 568399641, 850390893, 1127543555, 380684368], [923590945, 2652249513, 2400639463, 337293918, 1812297249, 568399641, 850390893, 1127543555], [3593886197, 923590945, 2652249513, 2400639463, 3555470783, 1812297249, 568399641, 850390893], [1591520263, 3593886197, 923590945, 2652249513, 4103617462, 3555470783, 1812297249, 568399641], [512844204, 1591520263, 3593886197, 923590945, 2706167185, 4103617462, 3555470783, 1812297249], [2373658994, 512844204, 1591520263, 3593886197, 380732500, 2706167185, 4103617462, 3555470783], [2793679469, 2373658994, 512844204, 1591520263, 1500639116, 380732500, 2706167185, 4103617462], [689815065, 2793679469, 2373658994, 512844204, 3473127572, 1500639116, 380732500, 2706167185], [2585135331, 689815065, 2793679469, 2373658994, 1058274375, 3473127572, 1500639116, 380732500], [2654199797, 2585135331, 689815065, 2793679469, 2279604766, 1058274375, 3473127572, 1500639116], [3850261399, 2654199797, 2585135331, 689815065, 2592804600, 2279604766, 1058274375, 3473127572], [3169457352, 3850261399, 2654199797, 2585135331, 2871170664, 2592804600, 2279604766, 1058274375], [1294949930, 3169457352, 3850261399, 2654199797, 161402535, 2871170664, 2592804600, 2279604766], [527267990, 1294949930, 3169457352, 3850261399, 4040288829, 161402535, 2871170664, 2592804600], [1426789879, 527267990, 1294949930, 3169457352, 646975441, 4040288829, 161402535, 2871170664], [1187396118, 1426789879, 527267990, 1294949930, 1339113911, 646975441, 4040288829, 161402535], [1181999399, 1187396118, 1426789879, 527267990, 3798476044, 1339113911, 646975441, 4040288829], [296218653, 1181999399, 1187396118, 1426789879, 3551518893, 3798476044, 1339113911, 646975441], [4454560, 296218653, 1181999399, 1187396118, 3005618434, 3551518893, 3798476044, 1339113911], [3096899724, 4454560, 296218653, 1181999399, 872857159, 3005618434, 3551518893, 3798476044], [3375379330, 3096899724, 4454560, 296218653, 228186535, 872857159, 3005618434, 3551518893], [2196777820, 3375379330, 3096899724, 4454560, 502324404, 228186535, 872857159, 3005618434], [172316037, 2196777820, 3375379330, 3096899724, 3336809276, 502324404, 228186535, 872857159], [3798361939, 172316037, 2196777820, 3375379330, 345903353, 3336809276, 502324404, 228186535], [3876681316, 3798361939, 172316037, 2196777820, 3527507235, 345903353, 3336809276, 502324404], [1048208192, 3876681316, 3798361939, 172316037, 267002057, 3527507235, 345903353, 3336809276], [3748112950, 1048208192, 3876681316, 3798361939, 120073345, 267002057, 3527507235, 345903353], [3432719604, 3748112950, 1048208192, 3876681316, 918970134, 120073345, 267002057, 3527507235], [2243565776, 3432719604, 3748112950, 1048208192, 373091818, 918970134, 120073345, 267002057], [2286265666, 2243565776, 3432719604, 3748112950, 3917149596, 373091818, 918970134, 120073345], [1260053831, 2286265666, 2243565776, 3432719604, 4283910481, 3917149596, 373091818, 918970134], [2415069175, 1260053831, 2286265666, 2243565776, 1074367231, 4283910481, 3917149596, 373091818], [3528444304, 2415069175, 1260053831, 2286265666, 3159809215, 1074367231, 4283910481, 3917149596], [633627687, 3528444304, 2415069175, 1260053831, 2608537663, 3159809215, 1074367231, 4283910481], [1548879332, 633627687, 3528444304, 2415069175, 634190263, 2608537663, 3159809215, 1074367231], [1884074583, 1548879332, 633627687, 3528444304, 1003979282, 634190263, 2608537663, 3159809215]]
def stE : List (List Nat) := [[1779033703, 3144134277, 1013904242, 2773480762, 1359893119, 2600822924, 528734635, 1541459225], [2080933965, 1779033703, 3144134277, 1013904242, 415752866, 1359893119, 2600822924, 528734635], [2632279248, 2080933965, 1779033703, 3144134277, 536982102, 415752866, 1359893119, 2600822924], [3299628326, 2632279248, 2080933965, 1779033703, 1876632314, 536982102, 415752866, 1359893119], [1277422283, 3299628326, 2632279248, 2080933965, 808968629, 1876632314, 536982102, 415752866], [1130821424, 1277422283, 3299628326, 2632279248, 3889194014, 808968629, 1876632314, 536982102], [690895682, 1130821424, 1277422283, 3299628326, 1332035834, 3889194014, 808968629, 1876632314], [4028650896, 690895682, 1130821424, 1277422283, 2196627567, 1332035834, 3889194014, 808968629], [2060825014, 4028650896, 690895682, 1130821424, 1408847307, 2196627567, 1332035834, 3889194014], [4113392549, 2060825014, 4028650896, 690895682, 2058339864, 1408847307, 2196627567, 1332035834], [4025007953, 4113392549, 2060825014, 4028650896, 1392976521, 2058339864, 1408847307, 2196627567], [361478433, 4025007953, 4113392549, 2060825014, 3795207118, 1392976521, 2058339864, 1408847307], [4114828352, 361478433, 4025007953, 4113392549, 3621813394, 3795207118, 1392976521, 2058339864], [553833165, 4114828352, 361478433, 4025007953, 3455974994, 3621813394, 3795207118, 1392976521], [1170215847, 553833165, 4114828352, 361478433, 725774998, 3455974994, 3621813394, 3795207118], [3096116699, 1170215847, 553833165, 4114828352, 483372089, 725774998, 3455974994, 3621813394], [3019933109, 3096116699, 1170215847, 553833165, 1555621987, 483372089, 725774998, 3455974994], [1192056138, 3019933109, 3096116699, 1170215847, 1892956839, 1555621987, 483372089, 725774998], [3717831211, 1192056138, 3019933109, 3096116699, 1619825619, 1892956839, 1555621987, 483372089], [812095850, 3717831211, 1192056138, 3019933109, 3550010602, 1619825619, 1892956839, 1555621987], [172493064, 812095850, 3717831211, 1192056138, 2416781228, 3550010602, 1619825619, 1892956839], [1976037592, 172493064, 812095850, 3717831211, 966081741, 2416781228, 3550010602, 1619825619], [2577845017, 1976037592, 172493064, 812095850, 3263666206, 966081741, 2416781228, 3550010602], [1078820948, 2577845017, 1976037592, 172493064, 2976200464, 3263666206, 966081741, 2416781228], [2556161365, 1078820948, 2577845017, 1976037592, 741081741, 2976200464, 3263666206, 966081741], [2062996621, 2556161365, 1078820948, 2577845017, 4116679717, 741081741, 2976200464, 3263666206], [3317175470, 2062996621, 2556161365, 1078820948, 3850028020, 4116679717, 741081741, 2976200464], [747317945, 3317175470, 2062996621, 2556161365, 2677228163, 3850028020, 4116679717, 741081741], [1837942423, 747317945, 3317175470, 2062996621, 1726829818, 2677228163, 3850028020, 4116679717], [1690082844, 1837942423, 747317945, 3317175470, 2506713973, 1726829818, 2677228163, 3850028020], [1926471693, 1690082844, 1837942423, 747317945, 2957685293, 2506713973, 1726829818, 2677228163], [2696613087, 1926471693, 1690082844, 1837942423, 1447716390, 2957685293, 2506713973, 1726829818], [300352095, 2696613087, 1926471693, 1690082844, 3151463532, 1447716390, 2957685293, 2506713973], [3817927606, 300352095, 2696613087, 1926471693, 3436338571, 3151463532, 1447716390, 2957685293], [2705438357, 3817927606, 300352095, 2696613087, 197416927, 3436338571, 3151463532, 1447716390], [1151435175, 2705438357, 3817927606, 300352095, 1769188034, 197416927, 3436338571, 3151463532], [1679812728, 1151435175, 2705438357, 3817927606, 980442793, 1769188034, 197416927, 3436338571], [2694206301, 1679812728, 1151435175, 2705438357, 4206914285, 980442793, 1769188034, 197416927], [1457773646, 2694206301, 1679812728, 1151435175, 3892832895, 4206914285, 980442793, 1769188034], [2656625711, 1457773646, 2694206301, 1679812728, 2242319396, 3892832895, 4206914285, 980442793], [1234768305, 2656625711, 1457773646, 2694206301, 1902882853, 2242319396, 3892832895, 4206914285], [4270245939, 1234768305, 2656625711, 1457773646, 2224585183, 1902882853, 2242319396, 3892832895], [580450446, 4270245939, 1234768305, 2656625711, 4123364073, 2224585183, 1902882853, 2242319396], [3686090155, 580450446, 4270245939, 1234768305, 3762306745, 4123364073, 2224585183, 1902882853], [3907209042, 3686090155, 580450446, 4270245939, 692219050, 3762306745, 4123364073, 2224585183], [2752082644, 3907209042, 3686090155, 580450446, 2855016464, 692219050, 3762306745, 4123364073], [855262251, 2752082644, 3907209042, 3686090155, 3531982457, 2855016464, 692219050, 3762306745], [1419259244, 855262251, 2752082644, 3907209042, 2322236082, 3531982457, 2855016464, 692219050], [911881421, 1419259244, 855262251, 2752082644, 3417569515, 2322236082, 3531982457, 2855016464], [1655188062, 911881421, 1419259244, 855262251, 1286303114, 3417569515, 2322236082, 3531982457], [2543384045, 1655188062, 911881421, 1419259244, 3909789552, 1286303114, 3417569515, 2322236082], [3244542753, 2543384045, 1655188062, 911881421, 906398686, 3909789552, 1286303114, 3417569515], [3579709122, 3244542753, 2543384045, 1655188062, 2710884687, 906398686, 3909789552, 1286303114], [2981272720, 3579709122, 3244542753, 2543384045, 1134943992, 2710884687, 906398686, 3909789552], [974034039, 2981272720, 3579709122, 3244542753, 4254700398, 1134943992, 2710884687, 906398686], [749689034, 974034039, 2981272720, 3579709122, 3850954136, 4254700398, 1134943992, 2710884687], [23298068, 749689034, 974034039, 2981272720, 2918796810, 3850954136, 4254700398, 1134943992], [2126991890, 23298068, 749689034, 974034039, 2035393328, 2918796810, 3850954136, 4254700398], [3891021244, 2126991890, 23298068, 749689034, 3802734300, 2035393328, 2918796810, 3850954136], [3911429062, 3891021244, 2126991890, 23298068, 148956906, 3802734300, 2035393328, 2918796810], [71572494, 3911429062, 3891021244, 2126991890, 2867830852, 148956906, 3802734300, 2035393328], [4095722474, 71572494, 3911429062, 3891021244, 477227836, 2867830852, 148956906, 3802734300], [1586299222, 4095722474, 71572494, 3911429062, 2232532848, 477227836, 2867830852, 148956906], [3717492111, 1586299222, 4095722474, 71572494, 3382061760, 2232532848, 477227836, 2867830852], [2040978907, 3717492111, 1586299222, 4095722474, 3600805733, 3382061760, 2232532848, 477227836]]
def wdE : List Nat := [2147483648, 0, 0, 0, 0, 0, 0, 0, 0, 0, 0, 0, 0, 0, 0, 0, 2147483648, 0, 2117632, 0, 570427392, 0, 84448578, 2147483648, 1476919296, 4235264, 1451269, 1711282176, 3592562048, 337794312, 3594910044, 3374850048, 3287351444, 676112230, 109604294, 2742808854, 1904000662, 4274181962, 2813755136, 2165675682, 2561075048, 62000258, 1562224585, 2975250741, 3286092305, 614207615, 3297584367, 1575308336, 3741240933, 748767245, 1008022316, 30329261, 369937616, 195877528, 907775968, 3526495142, 43741191, 1967544444, 133517113, 4161330627, 3704256008, 1581412744, 1153231965, 996066459]
def atL (l : List (List Nat)) (i j : Nat) : Nat := (l.getD i []).getD j 0
theorem stZ_step : ∀ i, i < 64 → ∀ j, j < 8 → stepH (fun j => atL stZ i j) (tabK i) 0 j = atL stZ (i + 1) j := by decide +kernel
theorem stE_step : ∀ i, i < 64 → ∀ j, j < 8 → stepH (fun j => atL stE i j) (tabK i) (wdE.getD i 0) j = atL stE (i + 1) j := by decide +kernel
theorem stepH_congr {s s' : Nat → Nat} (h : ∀ j, j < 8 → s j = s' j) (k w : Nat) : ∀ j, j < 8 → stepH s k w j = stepH s' k w j := fun j hj => by
  have o : oneT s k w = oneT s' k w := by unfold oneT; rw [h 7 (by omega), h 4 (by omega), h 5 (by omega), h 6 (by omega)]
  have t : twoT s = twoT s' := by unfold twoT; rw [h 0 (by omega), h 1 (by omega), h 2 (by omega)]
  unfold stepH
  rw [o, t, h 3 (by omega), h (j - 1) (by omega)]
theorem runZ : ∀ i, i ≤ 64 → ∀ j, j < 8 → runH begK zeroK tabK i j = atL stZ i j
  | 0, _ => by decide +kernel
  | i + 1, hi => fun j hj => by
    show stepH (runH begK zeroK tabK i) (tabK i) 0 j = _
    rw [stepH_congr (runZ i (by omega)) _ _ j hj, stZ_step i (by omega) j hj]
/-- The piece of an empty text. -/
def pcE : Nat → Nat := fun j => if j = 0 then 128 else 0
theorem wdE_step : ∀ i, i < 64 → nextW pcE (fun j => wdE.getD j 0) i = wdE.getD i 0 := by decide +kernel
theorem schE : ∀ k, k ≤ 64 → ∀ j, j < k → schT pcE k j = wdE.getD j 0
  | 0, _ => fun _ h => absurd h (Nat.not_lt_zero _)
  | k + 1, hk => fun j hj => by
    have ih := schE k (by omega)
    by_cases e : j = k
    · subst e
      rw [schT_at pcE (Nat.lt_succ_self j)]
      have hn : nextW pcE (schT pcE j) j = nextW pcE (fun j => wdE.getD j 0) j := by
        unfold nextW
        split
        · rfl
        · rw [ih (j - 2) (by omega), ih (j - 7) (by omega), ih (j - 15) (by omega), ih (j - 16) (by omega)]
      rw [hn, wdE_step j (by omega)]
    · show (if j = k then _ else schT pcE k j) = _
      rw [if_neg e, ih j (by omega)]
theorem begE : ∀ j, j < 8 → begK j = atL stE 0 j := by decide +kernel
theorem runE {w : Nat → Nat} (hw : ∀ j, j < 64 → w j = wdE.getD j 0) : ∀ i, i ≤ 64 → ∀ j, j < 8 → runH begK w tabK i j = atL stE i j
  | 0, _ => begE
  | i + 1, hi => fun j hj => by
    show stepH (runH begK w tabK i) (tabK i) (w i) j = _
    rw [stepH_congr (runE hw i (by omega)) _ _ j hj, hw i (by omega), stE_step i (by omega) j hj]
/-- With no words at all eight words become other ones. -/
theorem take_zero : (mk 8 (takH begK zeroK tabK) != mk 8 begK) = true := by
  have h0 : (mk 8 (takH begK zeroK tabK)).getD 0 0 = (takH begK zeroK tabK 0 : Nat) := mk_get (by omega)
  have h1 : (mk 8 begK).getD 0 0 = (begK 0 : Nat) := mk_get (by omega)
  have ht : takH begK zeroK tabK 0 = add32 (begK 0) (atL stZ 64 0) := by unfold takH; rw [runZ 64 (by omega) 0 (by omega)]
  have hn : add32 (begK 0) (atL stZ 64 0) ≠ begK 0 := by decide +kernel
  simp only [bne_iff_ne, ne_eq]
  intro e
  rw [e, h1, ht] at h0
  exact hn (by omega)
theorem allE (g : Nat → Nat) : ∀ j, j < 64 → pieceB (allB 0 g) 0 j = pcE j := fun j hj => by
  have h : ∀ j, j < 64 → padB 0 j = pcE j := by decide +kernel
  show allB 0 g (64 * 0 + j) = _
  unfold allB
  rw [if_neg (by omega), show 64 * 0 + j - 0 = j by omega, h j hj]
theorem chainE (g : Nat → Nat) (j : Nat) (hj : j < 8) : chain begK tabK (allB 0 g) (cntP 0) j = add32 (begK j) (atL stE 64 j) := by
  have hc : cntP 0 = 1 := by decide +kernel
  have hs : schT (pieceB (allB 0 g) 0) 64 = schT pcE 64 := schT_congr (allE g) 64 (Nat.le_refl _)
  rw [hc]
  show takH begK (schT (pieceB (allB 0 g) 0) 64) tabK j = _
  unfold takH
  rw [hs, runE (fun j hj => schE 64 (Nat.le_refl _) j hj) 64 (Nat.le_refl _) j hj]
/-- The first and the last byte of an empty text's digest. -/
theorem outE (g : Nat → Nat) : outB (chain begK tabK (allB 0 g) (cntP 0)) 0 = 227 ∧ outB (chain begK tabK (allB 0 g) (cntP 0)) 31 = 85 := by
  have h0 := chainE g 0 (by omega)
  have h7 := chainE g 7 (by omega)
  have e0 : add32 (begK 0) (atL stE 64 0) / 2 ^ (24 - 8 * (0 % 4)) % 256 = 227 := by decide +kernel
  have e7 : add32 (begK 7) (atL stE 64 7) / 2 ^ (24 - 8 * (31 % 4)) % 256 = 85 := by decide +kernel
  constructor
  · show chain begK tabK (allB 0 g) (cntP 0) 0 / _ % 256 = _
    rw [h0]; exact e0
  · show chain begK tabK (allB 0 g) (cntP 0) 7 / _ % 256 = _
    rw [h7]; exact e7
end Go.Proofs.YtccpecajbfpjdaaDoor


/- What the statements on whole digests share: sums by value, no parts, one part, an empty text's digest. Conditions as each says. -/
namespace Go.Proofs.YtccpecajbfpjdaaDoor
open Go.ChangeShapes Go.WideShapes Go.ChangeAt Go.RowKit

theorem sum_eq (f g : Nat → Nat) (w : World) : (Op.equalIn 10000 25 (.agg (cellsOf .u8 (mk 32 f))) (.agg (cellsOf .u8 (mk 32 g)))).run Tryd.prog w = .ok (mk 32 f == mk 32 g) w :=
  run_equalIn_ints w 9998 (mk 32 f) (mk 32 g) (by rw [mk_len]; exact sumUnder) byteElem (by rw [mk_len, mk_len])
section
variable {o : Oper} {a : Act} {C : World → Prop} {K : Act → Prop}
theorem quiet_sum_eql (x y : Operand) (ho : o.op = .binOp .eql 25 x y 25) (f g : Nat → Nat) (hx : a.eval x = .agg (cellsOf .u8 (mk 32 f))) (hy : a.eval y = .agg (cellsOf .u8 (mk 32 g))) (h : (mk 32 f == mk 32 g) = true) (hk : K (a.put o.dst (.bool true))) : o.quiet Tryd.prog a C K := by
  refine quiet_value (.bool true) (fun w _ => ?_) hk
  have e := sum_eq f g w
  unfold execOp
  simp only [ho, hx, hy]
  simp [go_sem, e, h]
theorem quiet_sum_index (x y : Operand) (ho : o.op = .index 25 x y) (f : Nat → Nat) (k : Nat) (hx : a.eval x = .agg (cellsOf .u8 (mk 32 f))) (z : Int) (hy : a.eval y = .int .i64 z) (hz : z = k) (hk32 : k < 32) (v : Int) (hv : (f k : Int) = v) (hk : K (a.put o.dst (.int .u8 v))) : o.quiet Tryd.prog a C K := by
  subst hz; subst hv
  refine quiet_value _ (fun w _ => ?_) hk
  have e := run_index_at (P := Tryd.prog) 25 32 f sumUnder byteElem hk32 w
  unfold execOp
  simp only [ho, hx, hy]
  simp [e]
end
/-- No parts at all. -/
theorem Of_none (w : World) (hT : TabAt w) : Calls Tryd.prog 22 #[.slice none 0 0] w fun e w' => e = .returned (.agg (cellsOf .u8 (mk 32 (digF 0 zeroK)))) ∧ Below w.heap.size w w' :=
  Of_any 0 0 none (fun _ => (none, 0, 0)) zeroK (by omega) (by show (0 : Nat) ≤ _; omega) (fun i hi => absurd hi (Nat.not_lt_zero _)) (fun i hi => absurd hi (Nat.not_lt_zero _)) w hT ⟨.inl rfl, fun i hi => absurd hi (Nat.not_lt_zero _)⟩
theorem dig_none : ((digF 0 zeroK 0 : Nat) : Int) = 227 ∧ ((digF 0 zeroK 31 : Nat) : Int) = 85 := by
  have h := outE zeroK
  unfold digF
  rw [h.1, h.2]; exact ⟨rfl, rfl⟩
/-- One part. -/
theorem Of_one (B c : Nat) (p : Option Addr) (n cap : Nat) (g : Nat → Nat) (hn : n ≤ 100000) (hcap : n ≤ cap) (hg : ∀ i, i < n → g i < 256) (w : World) (hT : TabAt w) (hB : w.cell? ⟨B, 0, none⟩ = some (.slice p n cap)) (hp : BytesAt w p n g) :
    Calls Tryd.prog 22 #[.slice (some ⟨B, 0, none⟩) 1 c] w fun e w' => e = .returned (.agg (cellsOf .u8 (mk 32 (digF n g)))) ∧ Below w.heap.size w w' := by
  have h1 : lenTo (fun _ => (p, n, cap)) 1 = n := by show 0 + n = n; omega
  have := Of_any 1 c (some ⟨B, 0, none⟩) (fun _ => (p, n, cap)) g (by omega) (by rw [h1]; omega) (fun _ _ => hcap) (by rw [h1]; exact hg) w hT ⟨.inr ⟨B, 0, rfl, block_lt_of_cell hB, fun i hi => by
    obtain rfl : i = 0 := by omega
    exact hB⟩, fun i hi => by
    obtain rfl : i = 0 := by omega
    rcases hp with h | ⟨b, o, h2, h3, h4⟩
    · exact .inl h
    · exact .inr ⟨b, o, h2, h3, fun j hj => by
        have := h4 j hj
        show w.cell? _ = some (.int .u8 (g (0 + j) : Nat))
        rw [Nat.zero_add]; exact this⟩⟩
  rw [h1] at this; exact this
end Go.Proofs.YtccpecajbfpjdaaDoor

/- Laws for regions walked by one order, on sums and slices of slices: what only computes; a slice made of one; calls. No condition. -/
namespace Go.Proofs.YtccpecajbfpjdaaDoor
open Go.ChangeShapes Go.WideShapes Go.ChangeAt Go.RowKit

section
variable {o : Oper} {a : Act} {C : World → Prop} {K : Act → Prop}
theorem gives_row (ty : TypeId) (x : Operand) (ho : o.op = .load ty x) (B : Nat) (k : IntKind) (l : List Int) (hx : a.eval x = .pointer (some ⟨B, 0, none⟩)) (n : Nat) (e : TypeId) (hu : Tryd.prog.underlying ty = some (.array n e))
    (hi : (Tryd.prog.info? ty).map (·.size) = some (cellsOf k l).size) (hB : ∀ w, C w → IntBlk w B k ty l) (hk : K (a.put o.dst (.agg (cellsOf k l)))) : ∃ v, Gives Tryd.prog C o a v ∧ K (a.put o.dst v) :=
  ⟨_, fun w hw => by
    unfold execOp
    simp only [ho, hx, Instr.loadAt, Instr.sureAddr, Sem.run_bind, Sem.run_pure, Result.andThen_ok, run_loadVar_row w B ty ty _ (0, 0) _ (hB w hw) hu rfl hi], hk⟩
theorem gives_pick_bool (c x y : Operand) (ho : o.op = .pick c x y) (hc : a.eval c = .bool true) (v : Value) (hx : a.eval x = v) (hk : K (a.put o.dst v)) : ∃ v, Gives Tryd.prog C o a v ∧ K (a.put o.dst v) :=
  ⟨_, fun w _ => by
    unfold execOp
    simp only [ho, hc, hx]
    simp [go_sem], hk⟩
theorem gives_sum_eql (x y : Operand) (ho : o.op = .binOp .eql 25 x y 25) (f g : Nat → Nat) (hx : a.eval x = .agg (cellsOf .u8 (mk 32 f))) (hy : a.eval y = .agg (cellsOf .u8 (mk 32 g))) (h : (mk 32 f == mk 32 g) = true) (hk : K (a.put o.dst (.bool true))) : ∃ v, Gives Tryd.prog C o a v ∧ K (a.put o.dst v) :=
  ⟨.bool true, fun w _ => by
    have e := sum_eq f g w
    unfold execOp
    simp only [ho, hx, hy]
    simp [go_sem, e, h], hk⟩
theorem gives_sum_index (x y : Operand) (ho : o.op = .index 25 x y) (f : Nat → Nat) (k : Nat) (hx : a.eval x = .agg (cellsOf .u8 (mk 32 f))) (z : Int) (hy : a.eval y = .int .i64 z) (hz : z = k) (hk32 : k < 32) (v : Int) (hv : (f k : Int) = v) (hk : K (a.put o.dst (.int .u8 v))) : ∃ v, Gives Tryd.prog C o a v ∧ K (a.put o.dst v) := by
  subst hz; subst hv
  exact ⟨_, fun w _ => by
    have e := run_index_at (P := Tryd.prog) 25 32 f sumUnder byteElem hk32 w
    unfold execOp
    simp only [ho, hx, hy]
    simp [e], hk⟩
theorem gives_u8_eql (x y : Operand) (ho : o.op = .binOp .eql 5 x y 5) (b c : Int) (r : Bool) (hx : a.eval x = .int .u8 b) (hy : a.eval y = .int .u8 c) (h : (b == c) = r) (hk : K (a.put o.dst (.bool r))) : ∃ v, Gives Tryd.prog C o a v ∧ K (a.put o.dst v) :=
  ⟨_, fun w _ => by
    unfold execOp
    simp only [ho, hx, hy]
    simp [go_sem, ← h], hk⟩
end
theorem done_call1 {o : Oper} {a : Act} {w : World} {K : Value → World → Prop} (x y : Operand) (ts : Array TypeId) (ho : o.op = .call { callee := .value x, args := #[y], argTypes := ts }) (g : FuncId) (hx : a.eval x = .func (.func g) #[] #[])
    (u : Value) (hy : a.eval y = u) (hf : ∀ (args : Array Value) (w : World), (callFunc g args).run Tryd.prog w = .ok (.enter g args) w) (r : Value)
    (hc : Calls Tryd.prog g #[u] w fun e w' => e = .returned r ∧ Below w.heap.size w w') (hk : ∀ w', Below w.heap.size w w' → K r w') : doneAt Tryd.prog o a w K :=
  done_call x #[y] ts ho g #[u] hx (by simp only [List.map_toArray, List.map_cons, List.map_nil, hy]) (hf _ w) (hc.mono fun _ w' ⟨he, hb⟩ => ⟨r, he, hk w' hb⟩)
theorem run_slice1 (p : Option Addr) (n cap : Nat) (w : World) : (Instr.buildSlice 43 1 #[(0, .slice p n cap)]).run Tryd.prog w = .ok (.slice (some ⟨w.heap.size, 0, none⟩) 1 1) (w.alloc (.cells #[.slice p n cap] 22)) := by
  simp [go_sem]
theorem done_slice1 {o : Oper} {a : Act} {w : World} {K : Value → World → Prop} (x : Operand) (ho : o.op = .buildSlice 43 1 #[(0, x)]) (p : Option Addr) (n cap : Nat) (hx : a.eval x = .slice p n cap)
    (h : K (.slice (some ⟨w.heap.size, 0, none⟩) 1 1) (w.alloc (.cells #[.slice p n cap] 22))) : doneAt Tryd.prog o a w K := by
  have e := run_slice1 p n cap w
  unfold doneAt execOp
  simp only [ho]
  simp [hx, e]
  exact h
end Go.Proofs.YtccpecajbfpjdaaDoor

/- What the rows' condition says of the package's variable; arrays of words that come in. No condition. -/
namespace Go.Proofs.YtccpecajbfpjdaaDoor
open Go.ChangeShapes Go.WideShapes Go.ChangeAt Go.RowKit

def tabZ : List Int := mk 64 tabK
set_option maxRecDepth 100000 in
theorem laid_is : (Rows.laid_citadel_digest_constants : DataW Unit) = Lib.tabData .u32 tabZ := by kernel_rfl
set_option maxRecDepth 100000 in
theorem tab_of_laid {W : World} (h : laidMetH Tryd.prog [("citadel/digest.constants", Rows.laid_citadel_digest_constants)] W) : TabAt W := by
  rw [MakeChecks.laidMetH_plain _ _ _ (by kernel_rfl), laid_is] at h
  have gN : Tryd.prog.globalNamed "citadel/digest.constants" = some 0 := by kernel_rfl
  have hT := Lib.tabIs_of_head gN (show (Tryd.prog.globals[0]?).map (·.type) = some 63 by kernel_rfl) schedUnder Tryd.underlying55 (by kernel_rfl) (by kernel_rfl) h
  intro i hi
  have := hT.cell gN i (by show i < (mk 64 tabK).length; rw [mk_len]; exact hi)
  rw [this]
  show some (Value.int .u32 ((mk 64 tabK).getD i 0)) = _
  rw [mk_get hi]

theorem open_words {H : Type} {enc : TypeId × Value → H} {P : Program} {W : World} {r : Reach} {b0 base : Nat} {spare : Nat → Bool} {held : Bool} {t e : TypeId} {n : Nat} {v : Value} {d : DataW H} {p : List MemPlace}
    (ht : P.underlying t = some (.array n e)) (he : P.underlying e = some (.int .u32)) (hc : P.cellsOf e = 1) (hn : P.cellsOf t = n)
    (hv : Value.okWide P W r b0 t v) (h : DataW.Trod enc P W base spare held t v d p) : ∃ f : Nat → Nat, (∀ i, i < n → f i < 4294967296) ∧ v = .agg (cellsOf .u32 (mk n f)) := by
  have hv' : ∃ cs, v = .agg cs ∧ cs.size = P.cellsOf t ∧ Row.okWide P W r b0 t cs := by
    unfold Value.okWide at hv; rw [ht] at hv; exact hv
  obtain ⟨cs, rfl, hsz, _⟩ := hv'
  obtain ⟨fuel, hf⟩ := h
  obtain ⟨xs, m, rfl, hx, hlen, hxn, hel⟩ := DataW.trod_array ht hf
  have each : ∀ i, i < n → ∃ a : Nat, a < 4294967296 ∧ cs[i]? = some (.int .u32 a) := by
    intro i hi
    have hi2 := hel i hi
    rw [hc, Nat.mul_one] at hi2
    have hlt : i < xs.length := by omega
    rw [List.getElem?_eq_getElem hlt] at hi2
    obtain ⟨a, ha, _, hw⟩ := DataW.trod_int he hi2
    have hb := bounds_u32 hw
    refine ⟨a.toNat, by omega, ?_⟩
    rw [show ((a.toNat : Nat) : Int) = a by omega]
    have hlc : i < cs.size := by omega
    have hd : (Value.cells (.agg cs)).toList = cs.toList := rfl
    rw [hd, List.drop_eq_getElem_cons (by simpa using hlc)] at ha
    simp at ha
    rw [Array.getElem?_eq_getElem hlc, ha]
  refine ⟨fun i => match cs[i]? with | some (.int _ a) => a.toNat | _ => 0, fun i hi => ?_, ?_⟩
  · obtain ⟨a, ha, hc⟩ := each i hi
    simp only [hc]; omega
  · congr 1
    apply Array.ext
    · rw [cellsOf_size, mk_len]; omega
    · intro i h1 h2
      obtain ⟨a, ha, hc⟩ := each i (by omega)
      have hg := cellsOf_get .u32 (mk n fun i => match cs[i]? with | some (.int _ a) => a.toNat | _ => 0) (i := i) (by rw [mk_len]; omega)
      rw [mk_get (by omega), hc] at hg
      rw [Array.getElem?_eq_getElem h1] at hc
      rw [Array.getElem?_eq_getElem h2] at hg
      simp at hc hg
      rw [hc, hg]
end Go.Proofs.YtccpecajbfpjdaaDoor

/- How long a slice of bytes that comes in is at the most: by the form's own reach. No condition. -/
namespace Go.Proofs.YtccpecajbfpjdaaDoor
open Go.ChangeShapes Go.WideShapes Go.ChangeAt Go.RowKit

theorem open_size {H : Type} {enc : TypeId × Value → H} {W : World} {base : Nat} {spare : Nat → Bool} {held : Bool} {q : Option Addr} {n cap : Nat} {d : DataW H} {p : List MemPlace} (h : DataW.Trod enc Tryd.prog W base spare held 22 (.slice q n cap) d p)
    {ts : List TypeId} {ds : List (DataW H)} (hz : (DataW.weightsEach Tryd.prog ts ds).all (· ≤ reachBytes) = true) {j : Nat} (ht : ts[j]? = some 22) (hd : ds[j]? = some d) : n ≤ 140737488351232 := by
  have ck : Tryd.prog.cellsOf 5 = 1 := by kernel_rfl
  have cb : Tryd.prog.bytesOf 5 = 1 := by kernel_rfl
  obtain ⟨fuel, hf⟩ := h
  have hc : (Value.cells (.slice q n cap)).toList = [.slice q n cap] := rfl
  rw [hc] at hf
  rcases Deep.open_slice1 bytesUnder ck hf with ⟨h0, _⟩ | ⟨a, len, cap', m, k, V, D, Pl, h0, _, hl, _, hm, hx, _⟩
  · simp only [List.cons.injEq, Value.slice.injEq, and_true] at h0
    omega
  · simp only [List.cons.injEq, Value.slice.injEq, and_true] at h0
    obtain ⟨_, rfl, rfl⟩ := h0
    simp only [Prod.mk.injEq] at hx
    rw [hx.1] at hd
    have := sized_slice hz ht hd bytesUnder
    rw [cb, Nat.mul_one, List.length_map, List.length_range] at this
    exact Nat.le_trans (Nat.le_add_right _ _) this
end Go.Proofs.YtccpecajbfpjdaaDoor
