/-
  The digest of a million bytes of one kind, by the kernel's own reckoning.
-/
import Derived.Test.YtnnnhdacknecoaaFastOk
import Derived.Test.YtnnnhdacknecoaaHex
import Derived.KernelRfl
namespace Go.Proofs.Ytnnnhdacknecoaa

def kwsA : List Nat := [nat_lit 2750124281, nat_lit 3533219314, nat_lit 388128048, nat_lit 1259814150, nat_lit 2595759036, nat_lit 3142742866, nat_lit 4087407621, nat_lit 209567798, nat_lit 963185657, nat_lit 1944370274, nat_lit 2240997151, nat_lit 3060653860, nat_lit 3558850261, nat_lit 3795850079, nat_lit 4248659976, nat_lit 587027157, nat_lit 3667503101, nat_lit 3854337474, nat_lit 1109373709, nat_lit 1449834259, nat_lit 1332383432, nat_lit 1811277571, nat_lit 1402599420, nat_lit 41923541, nat_lit 356419487, nat_lit 2728937732, nat_lit 4167673427, nat_lit 1780128268, nat_lit 3506461443, nat_lit 1927923708, nat_lit 3100717738, nat_lit 957412701, nat_lit 3211936012, nat_lit 2525724465, nat_lit 897656708, nat_lit 2750766458, nat_lit 3733122911, nat_lit 1490448492, nat_lit 1007131835, nat_lit 215170638, nat_lit 199900175, nat_lit 3051847127, nat_lit 2546784594, nat_lit 1198467073, nat_lit 1121424104, nat_lit 1993824782, nat_lit 4206943767, nat_lit 1385611443, nat_lit 2838015846, nat_lit 320495253, nat_lit 2870002303, nat_lit 616322403, nat_lit 3868675357, nat_lit 810932918, nat_lit 4192983651, nat_lit 4114851946, nat_lit 2567787456, nat_lit 3518289627, nat_lit 3043469264, nat_lit 3431775655, nat_lit 2875437985, nat_lit 3700493388, nat_lit 2838780141, nat_lit 3572068108]
def wsA : List (BitVec 32) := [2750124281, 3533219314, 388128048, 1259814150, 2595759036, 3142742866, 4087407621, 209567798, 963185657, 1944370274, 2240997151, 3060653860, 3558850261, 3795850079, 4248659976, 587027157, 3667503101, 3854337474, 1109373709, 1449834259, 1332383432, 1811277571, 1402599420, 41923541, 356419487, 2728937732, 4167673427, 1780128268, 3506461443, 1927923708, 3100717738, 957412701, 3211936012, 2525724465, 897656708, 2750766458, 3733122911, 1490448492, 1007131835, 215170638, 199900175, 3051847127, 2546784594, 1198467073, 1121424104, 1993824782, 4206943767, 1385611443, 2838015846, 320495253, 2870002303, 616322403, 3868675357, 810932918, 4192983651, 4114851946, 2567787456, 3518289627, 3043469264, 3431775655, 2875437985, 3700493388, 2838780141, 3572068108]
/-- Sixty-four bytes 97 are mixed in. -/
def mixA (S : St) : St := comp S (sch (List.replicate 64 97) 64)
theorem sums_a : sums (sch (List.replicate 64 97) 64) = wsA := by decide +kernel
theorem kws_a : wsA.map (·.toNat) = kwsA := by decide +kernel
theorem mixA_eq (S : St) : mixA S = plus S (wsA.foldl rndW S) := by
  unfold mixA; rw [comp_fold _ (sch_length _ _), sums_a]
def q0 : St := ⟨1779033703, 3144134277, 1013904242, 2773480762, 1359893119, 2600822924, 528734635, 1541459225⟩
def q1 : St := ⟨592955532, 2302009565, 1748763303, 620342633, 184731725, 2631534163, 3459837949, 3784806294⟩
def q2 : St := ⟨2432425355, 3561878610, 792915513, 120060592, 1730627794, 3100338481, 1484380738, 2413567509⟩
def q3 : St := ⟨3693792429, 3228489383, 1920063468, 1159363938, 1995865486, 3899395093, 1070489690, 3818696068⟩
def q4 : St := ⟨2905972929, 1349376393, 1639850357, 1032224573, 4087654825, 844508927, 142727850, 1826949263⟩
def q5 : St := ⟨4101075154, 129573525, 758111687, 2809097055, 2946173745, 4125254953, 3590949913, 2694474649⟩
def q6 : St := ⟨4254606125, 2806188846, 3777365106, 2684039259, 2563108456, 3262562783, 1651969283, 215006605⟩
def q7 : St := ⟨2886889284, 2599971770, 2205939323, 3855558067, 1633335210, 3181097314, 2286572733, 563518467⟩
def q8 : St := ⟨365602951, 4150781828, 1268961766, 2892834699, 688178498, 3951390503, 324146750, 394001364⟩
def q9 : St := ⟨3818293026, 673805928, 2454018847, 276474797, 3429612345, 1781107536, 3881786715, 3255356261⟩
def q10 : St := ⟨1482359619, 3053920332, 2218581276, 956914467, 3284847132, 1532092920, 4107310820, 2931061524⟩
def q11 : St := ⟨4096498801, 2730981357, 368208555, 2288836688, 2318021256, 4247003884, 1096726684, 2260101034⟩
def q12 : St := ⟨1452105697, 332993037, 4062823241, 378816347, 216171789, 2684076044, 1651074104, 495955238⟩
def q13 : St := ⟨1928082961, 2860961623, 1904690592, 997958037, 4255195384, 1882369429, 3945749460, 2719203343⟩
def q14 : St := ⟨2321800416, 2572043633, 3343100340, 3876063791, 4094606593, 839583183, 1226381485, 762067512⟩
def q15 : St := ⟨3286924927, 1855780753, 2608627564, 176370035, 705989294, 1480277143, 2994088020, 951416902⟩
def q16 : St := ⟨2061136107, 1745259042, 791610055, 2140370626, 1884297759, 3529239238, 671294972, 693152569⟩
theorem reach0 : rep mixA 1000 q0 = q1 := rep_of mixA wsA kwsA kws_a mixA_eq 1000 q0 q1 (by kernel_rfl)
theorem reach1 : rep mixA 1000 q1 = q2 := rep_of mixA wsA kwsA kws_a mixA_eq 1000 q1 q2 (by kernel_rfl)
theorem reach2 : rep mixA 1000 q2 = q3 := rep_of mixA wsA kwsA kws_a mixA_eq 1000 q2 q3 (by kernel_rfl)
theorem reach3 : rep mixA 1000 q3 = q4 := rep_of mixA wsA kwsA kws_a mixA_eq 1000 q3 q4 (by kernel_rfl)
theorem reach4 : rep mixA 1000 q4 = q5 := rep_of mixA wsA kwsA kws_a mixA_eq 1000 q4 q5 (by kernel_rfl)
theorem reach5 : rep mixA 1000 q5 = q6 := rep_of mixA wsA kwsA kws_a mixA_eq 1000 q5 q6 (by kernel_rfl)
theorem reach6 : rep mixA 1000 q6 = q7 := rep_of mixA wsA kwsA kws_a mixA_eq 1000 q6 q7 (by kernel_rfl)
theorem reach7 : rep mixA 1000 q7 = q8 := rep_of mixA wsA kwsA kws_a mixA_eq 1000 q7 q8 (by kernel_rfl)
theorem reach8 : rep mixA 1000 q8 = q9 := rep_of mixA wsA kwsA kws_a mixA_eq 1000 q8 q9 (by kernel_rfl)
theorem reach9 : rep mixA 1000 q9 = q10 := rep_of mixA wsA kwsA kws_a mixA_eq 1000 q9 q10 (by kernel_rfl)
theorem reach10 : rep mixA 1000 q10 = q11 := rep_of mixA wsA kwsA kws_a mixA_eq 1000 q10 q11 (by kernel_rfl)
theorem reach11 : rep mixA 1000 q11 = q12 := rep_of mixA wsA kwsA kws_a mixA_eq 1000 q11 q12 (by kernel_rfl)
theorem reach12 : rep mixA 1000 q12 = q13 := rep_of mixA wsA kwsA kws_a mixA_eq 1000 q12 q13 (by kernel_rfl)
theorem reach13 : rep mixA 1000 q13 = q14 := rep_of mixA wsA kwsA kws_a mixA_eq 1000 q13 q14 (by kernel_rfl)
theorem reach14 : rep mixA 1000 q14 = q15 := rep_of mixA wsA kwsA kws_a mixA_eq 1000 q14 q15 (by kernel_rfl)
theorem reach15 : rep mixA 625 q15 = q16 := rep_of mixA wsA kwsA kws_a mixA_eq 625 q15 q16 (by kernel_rfl)
theorem reach_all0 : rep mixA 1000 first = q1 := reach0
theorem reach_all1 : rep mixA 2000 first = q2 := by rw [show 2000 = 1000 + 1000 from rfl, rep_add, reach_all0, reach1]
theorem reach_all2 : rep mixA 3000 first = q3 := by rw [show 3000 = 2000 + 1000 from rfl, rep_add, reach_all1, reach2]
theorem reach_all3 : rep mixA 4000 first = q4 := by rw [show 4000 = 3000 + 1000 from rfl, rep_add, reach_all2, reach3]
theorem reach_all4 : rep mixA 5000 first = q5 := by rw [show 5000 = 4000 + 1000 from rfl, rep_add, reach_all3, reach4]
theorem reach_all5 : rep mixA 6000 first = q6 := by rw [show 6000 = 5000 + 1000 from rfl, rep_add, reach_all4, reach5]
theorem reach_all6 : rep mixA 7000 first = q7 := by rw [show 7000 = 6000 + 1000 from rfl, rep_add, reach_all5, reach6]
theorem reach_all7 : rep mixA 8000 first = q8 := by rw [show 8000 = 7000 + 1000 from rfl, rep_add, reach_all6, reach7]
theorem reach_all8 : rep mixA 9000 first = q9 := by rw [show 9000 = 8000 + 1000 from rfl, rep_add, reach_all7, reach8]
theorem reach_all9 : rep mixA 10000 first = q10 := by rw [show 10000 = 9000 + 1000 from rfl, rep_add, reach_all8, reach9]
theorem reach_all10 : rep mixA 11000 first = q11 := by rw [show 11000 = 10000 + 1000 from rfl, rep_add, reach_all9, reach10]
theorem reach_all11 : rep mixA 12000 first = q12 := by rw [show 12000 = 11000 + 1000 from rfl, rep_add, reach_all10, reach11]
theorem reach_all12 : rep mixA 13000 first = q13 := by rw [show 13000 = 12000 + 1000 from rfl, rep_add, reach_all11, reach12]
theorem reach_all13 : rep mixA 14000 first = q14 := by rw [show 14000 = 13000 + 1000 from rfl, rep_add, reach_all12, reach13]
theorem reach_all14 : rep mixA 15000 first = q15 := by rw [show 15000 = 14000 + 1000 from rfl, rep_add, reach_all13, reach14]
theorem reach_all15 : rep mixA 15625 first = q16 := by rw [show 15625 = 15000 + 625 from rfl, rep_add, reach_all14, reach15]

/-- The last block behind N bytes, N a number of whole blocks. -/
def tailOf (N : Nat) : List UInt8 := [128] ++ List.replicate 55 0 ++ tops (8 * N) 8
theorem tailOf_length (N : Nat) : (tailOf N).length = 64 := by unfold tailOf; rw [List.length_append, List.length_append, List.length_replicate, tops_length]; rfl
theorem pad_rep (N q : Nat) (c : UInt8) (h : N = 64 * q) : pad (List.replicate N c) = List.replicate N c ++ tailOf N := by
  have e : gap N = 55 := by unfold gap; omega
  unfold pad tailOf
  rw [List.length_replicate, e, List.append_assoc, List.append_assoc, List.append_assoc]
theorem blk_rep (N i : Nat) (c : UInt8) (t : List UInt8) (h : 64 * i + 64 ≤ N) : blk (List.replicate N c ++ t) i = List.replicate 64 c := by
  unfold blk
  rw [List.drop_append_of_le_length (by rw [List.length_replicate]; omega), List.drop_replicate, List.take_append_of_le_length (by rw [List.length_replicate]; omega), List.take_replicate, show min 64 (N - 64 * i) = 64 by omega]
theorem comps_rep (N q : Nat) (t : List UInt8) (h : N = 64 * q) (n : Nat) (hn : n ≤ q) : comps first (List.replicate N 97 ++ t) n = rep mixA n first := by
  induction n with
  | zero => rfl
  | succ n ih =>
    rw [rep_last, ← ih (by omega)]
    show comp (comps first (List.replicate N 97 ++ t) n) (sch (blk (List.replicate N 97 ++ t) n) 64) = _
    rw [blk_rep N n 97 t (by omega)]
    rfl
theorem digest_rep (N q : Nat) (h : N = 64 * q) (T : St) (hT : rep mixA q first = T) : digest (List.replicate N 97) = fours (comp T (sch (tailOf N) 64)).list := by
  have hb : blk (List.replicate N 97 ++ tailOf N) q = tailOf N := by
    unfold blk
    rw [show 64 * q = (List.replicate N (97 : UInt8)).length by rw [List.length_replicate, h], List.drop_left, List.take_of_length_le (by rw [tailOf_length]; omega)]
  unfold digest
  rw [pad_rep N q 97 h, List.length_append, List.length_replicate, tailOf_length, show (N + 64) / 64 = q + 1 by omega]
  show fours (comp (comps first (List.replicate N 97 ++ tailOf N) q) (sch (blk (List.replicate N 97 ++ tailOf N) q) 64)).list = _
  rw [hb, comps_rep N q (tailOf N) h q (Nat.le_refl _), hT]
theorem last_words : hexOf (fours (comp q16 (sch (tailOf 1000000) 64)).list) = [99, 100, 99, 55, 54, 101, 53, 99, 57, 57, 49, 52, 102, 98, 57, 50, 56, 49, 97, 49, 99, 55, 101, 50, 56, 52, 100, 55, 51, 101, 54, 55, 102, 49, 56, 48, 57, 97, 52, 56, 97, 52, 57, 55, 50, 48, 48, 101, 48, 52, 54, 100, 51, 57, 99, 99, 99, 55, 49, 49, 50, 99, 100, 48] := by decide +kernel
theorem known_million (N : Nat) (h : N = 1000000) : hexOf (digest (List.replicate N 97)) = [99, 100, 99, 55, 54, 101, 53, 99, 57, 57, 49, 52, 102, 98, 57, 50, 56, 49, 97, 49, 99, 55, 101, 50, 56, 52, 100, 55, 51, 101, 54, 55, 102, 49, 56, 48, 57, 97, 52, 56, 97, 52, 57, 55, 50, 48, 48, 101, 48, 52, 54, 100, 51, 57, 99, 99, 99, 55, 49, 49, 50, 99, 100, 48] := by
  rw [digest_rep N 15625 (by omega) q16 reach_all15, h]
  exact last_words

end Go.Proofs.Ytnnnhdacknecoaa
