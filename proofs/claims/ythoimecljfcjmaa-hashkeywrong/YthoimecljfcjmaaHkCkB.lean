/-
  Package hashkey: Check, behind its first five tests.
-/
import Derived.Test.YthoimecljfcjmaaZ43
namespace Go.Proofs.Ythoimecljfcjmaa
open Go.RowKit

set_option maxRecDepth 10000 in
set_option maxHeartbeats 4000000 in
theorem hkcheck_high {w : World} {v : Value} {s : SpecM} (hv : SpecW w v s) (arc : Int) {pa sa : Option Addr} {pc sc : Nat} {K : HkM} (L : HkL w pa sa pc sc K) (hp100 : K.path.length ≤ 100) (hz : ∀ j, j < K.sigs.length → (K.sigs.getD j ByteArray.empty).size ≤ 1000) (hsec : K.secret.size ≤ 1000000) (p0 : validM s = true) (p1 : 0 ≤ arc ∧ arc < (s.arcs.length : Int)) (p2 : 0 ≤ K.lock ∧ K.lock < (s.locks.length : Int)) (p3 : K.secret.size ≤ 64) (p4 : (⟨(digest K.secret.data.toList).toArray⟩ : ByteArray) = s.locks.getD K.lock.toNat ByteArray.empty) :
    Calls Try.prog 8 #[v, .int .i64 arc, .agg (hcells pa sa pc sc K)] w fun e w' => e = .returned (.bool (told (hkOpens s arc K))) ∧ Below w.heap.size w w' := by
  replace p0 := hide p0
  replace p1 := hide p1
  replace p2 := hide p2
  replace p3 := hide p3
  replace p4 := hide p4
  obtain ⟨cs, rfl, h7⟩ := hv.seven
  obtain ⟨g, hg⟩ : ∃ g, w.heap.size = g := ⟨_, rfl⟩
  rw [hg]
  obtain ⟨r, hr⟩ : ∃ r, told (hkOpens s arc K) = r := ⟨_, rfl⟩
  rw [hr]
  have hno : Hid (¬ hkOpens s arc K → r = false) := fun h => by rw [← hr, told_no h]
  have hyes : Hid (hkOpens s arc K → r = true) := fun h => by rw [← hr, told_yes h]
  clear hr
  have HW : Hid (∀ W, Below g w W → SpecW W (.agg cs) s) := fun W hW => hv.below (by rw [hg]; exact hW)
  have HL : Hid (∀ W, Below g w W → HkL W pa sa pc sc K) := fun W hW => L.below (by rw [hg]; exact hW)
  have htx : Hid (∀ i, (textAt K i).size ≤ 1000000) := fun i => by
    unfold textAt
    split
    · rename_i h; exact Nat.le_trans (hz i h) (by omega)
    · exact hsec
  obtain ⟨a1, a2, a3, a4, k1, k2, k3, k4, hcs, LI, hcap⟩ := hv
  injection hcs with hcs
  have HX : Hid (∀ W, SvAt W g cs → W.cell? ⟨g, 2, none⟩ = some (.slice a2 s.arcs.length k2) ∧ W.cell? ⟨g, 3, none⟩ = some (.slice a3 s.leaders.length k3) ∧ W.cell? ⟨g, 4, none⟩ = some (.slice a4 s.locks.length k4)) := fun W hW => by
    have h9 : W.heap[g]? = some (.cells (cells7 a1 a2 a3 a4 k1 k2 k3 k4 s) 27 (0, 0)) := by rw [← hcs]; exact hW
    exact ⟨(cells7_at h9).2.2.1, (cells7_at h9).2.2.2.1, (cells7_at h9).2.2.2.2.1⟩
  have HLI : Hid (∀ W, Below g w W → Lies W a1 a2 a3 a4 s) := fun W hW => LI.below (by rw [hg]; exact hW)
  clear hcs LI hcap L hz
  go_enter Try.func8, Try.ntmps8
  go_upto_region 1 with (first
    | ((with_reducible refine wpList_at ?_); refine wpList_boxv (by rfl) 27 (.tmp 0) (by rfl) _ (by rfl) ?_; rw [hg]; intro w1 hu1 hz1 hb1; have hx1 : SvAt w1 g cs := hu1; clear hu1)
    | ((with_reducible refine wpList_at ?_); refine wpList_boxv (by rfl) 31 (.tmp 2) (by rfl) _ (by rfl) ?_; rw [hz1]; intro w2 hu2 hz2 hb2; have hy2 : HvAt w2 (g + 1) (hcells pa sa pc sc K) := hu2; clear hu2))
  have hx2 := hx1.below (by rw [hz1]; exact hb2)
  have hB2 : Below g w w2 := hb1.trans (hb2.mono (by omega))
  have hs2 : g + 2 ≤ w2.heap.size := by omega
  clear hx1 hb1 hb2 hz1 hz2
  have HB : Hid (∀ W, Below w2.heap.size w2 W → Below g w W) := fun W hW => hB2.trans (hW.mono (by omega))
  obtain ⟨x2, x3, x4⟩ := HX.out _ hx2
  obtain ⟨y0, y1, y2, y3⟩ := hcells_at hy2
  obtain ⟨na, hna⟩ : ∃ n, s.arcs.length = n := ⟨_, rfl⟩
  obtain ⟨nl, hnl⟩ : ∃ n, s.leaders.length = n := ⟨_, rfl⟩
  obtain ⟨nk, hnk⟩ : ∃ n, s.locks.length = n := ⟨_, rfl⟩
  obtain ⟨np, hnp⟩ : ∃ n, K.path.length = n := ⟨_, rfl⟩
  obtain ⟨ns, hns⟩ : ∃ n, K.sigs.length = n := ⟨_, rfl⟩
  rw [hna] at x2
  rw [hnl] at x3
  rw [hnk] at x4
  rw [hnp] at y2
  rw [hns] at y3
  replace hna := hide hna
  replace hnl := hide hnl
  replace hnk := hide hnk
  replace hnp := hide hnp
  replace hns := hide hns
  replace hp100 := hide hp100
  replace hsec := hide hsec
  have hB2' := hide hB2
  clear hB2
  have c0 : validM s = true := p0.out
  have H1 : Hid (∀ W, Below w2.heap.size w2 W → Calls Try.prog 19 #[.agg cs] W fun e w' => e = .returned (.bool true) ∧ Below W.heap.size W w') := fun W hW => by have h9 := pvalid_any (HW.out W (HB.out W hW)); rw [show validM s = true from c0] at h9; exact h9
  have hok := hide (valid_ok c0)
  have m1 : na ≤ 12 := by rw [← hna.out]; exact hok.out.2.2.2.1.2.1
  have m2 : nl ≤ 3 := by rw [← hnl.out]; exact hok.out.2.1.2.1
  have m3 : nk ≤ 3 := by rw [← hnk.out, hok.out.2.1.2.2.1]; exact hok.out.2.1.2.1
  replace c0 := hide c0
  have c1 : 0 ≤ arc ∧ arc < (s.arcs.length : Int) := p1.out
  obtain ⟨ai, hai⟩ : ∃ n : Nat, arc = (n : Int) := ⟨arc.toNat, by omega⟩
  subst hai
  have H7 : Hid (∀ W, Below w2.heap.size w2 W → Calls Try.prog 20 #[.int .i64 (ai : Int), .int .i64 (na : Int)] W fun e w' => e = .returned (.bool true) ∧ Below W.heap.size W w') := fun W hW => by
    refine (hbelow_any _ _ W).mono ?_
    rintro e w' ⟨h1, rfl⟩
    have p1 : (0 ≤ (ai : Int) ∧ (ai : Int) < (na : Int)) := by rw [← hna.out]; exact c1
    rw [told_yes p1] at h1
    exact ⟨h1, Below.refl _ _⟩
  have hain : ai < na := by rw [← hna.out]; omega
  obtain ⟨ba, oa, hba, hAa⟩ := (HLI.out w2 hB2'.out).arcs.2 ai (by rw [hna.out]; exact hain)
  subst hba
  have q1 := hAa.2.2.2.2.2.2.1
  obtain ⟨dd, hdd⟩ : ∃ d, (s.arcs.getD (ai : Int).toNat noArc).dst = d := ⟨_, rfl⟩
  rw [show (s.arcs.getD ai noArc).dst = dd from hdd] at q1
  replace hdd := hide hdd
  clear hAa
  replace c1 := hide c1
  have c2 : 0 ≤ K.lock ∧ K.lock < (s.locks.length : Int) := p2.out
  obtain ⟨lk, hlk⟩ : ∃ n : Nat, K.lock = (n : Int) := ⟨K.lock.toNat, by omega⟩
  have H15 : Hid (∀ W, Below w2.heap.size w2 W → Calls Try.prog 20 #[.int .i64 (lk : Int), .int .i64 (nk : Int)] W fun e w' => e = .returned (.bool true) ∧ Below W.heap.size W w') := fun W hW => by
    refine (hbelow_any _ _ W).mono ?_
    rintro e w' ⟨h1, rfl⟩
    have p1 : (0 ≤ (lk : Int) ∧ (lk : Int) < (nk : Int)) := by rw [← hnk.out, ← hlk]; exact c2
    rw [told_yes p1] at h1
    exact ⟨h1, Below.refl _ _⟩
  have hlkt : K.lock.toNat = lk := by omega
  have hlkn : lk < nk := by rw [← hnk.out]; omega
  have hlkl : lk < nl := by have h8 : nk = nl := (by rw [← hnk.out, ← hnl.out]; exact hok.out.2.1.2.2.1); omega
  obtain ⟨b4, o4, hb4, q4⟩ := (HLI.out w2 hB2'.out).locks.2.2.2 lk (by rw [hnk.out]; exact hlkn)
  subst hb4
  obtain ⟨b3, o3, hb3, q3⟩ := (HLI.out w2 hB2'.out).leaders.2.2.2 lk (by rw [hnl.out]; exact hlkl)
  subst hb3
  obtain ⟨Lk, hLk⟩ : ∃ d, s.locks.getD K.lock.toNat ByteArray.empty = d := ⟨_, rfl⟩
  obtain ⟨ll, hll⟩ : ∃ d, s.leaders.getD K.lock.toNat 0 = d := ⟨_, rfl⟩
  have hLk' := hLk
  have hll' := hll
  rw [hlkt] at hLk' hll'
  rw [hLk'] at q4
  rw [hll'] at q3
  rw [hlk] at y0
  replace hLk := hide hLk
  replace hll := hide hll
  clear hLk' hll'
  replace c2 := hide c2
  replace hlk := hide hlk
  replace hlkt := hide hlkt
  have c3 : K.secret.size ≤ 64 := p3.out
  have t3 : decide ((K.secret.size : Int) ≤ 64) = true := by simp; omega
  have HSum : Hid (∀ W, Calls Try.prog 21 #[.string K.secret] W fun e w' => e = .returned (.string ⟨(digest K.secret.data.toList).toArray⟩) ∧ Below W.heap.size W w') := fun W => sum_any K.secret (by omega) W
  obtain ⟨D, hD⟩ : ∃ d : ByteArray, (⟨(digest K.secret.data.toList).toArray⟩ : ByteArray) = d := ⟨_, rfl⟩
  rw [hD] at HSum
  have H26 : Hid (∀ W, Below w2.heap.size w2 W → Calls Try.prog 21 #[.string K.secret] W fun e w' => e = .returned (.string D) ∧ Below W.heap.size W w') := fun W _ => HSum.out W
  replace hD := hide hD
  clear HSum
  replace c3 := hide c3
  have c4 : D = Lk := by rw [← hD.out, ← hLk.out]; exact p4.out
  have t4 : (D.toList == Lk.toList) = true := by
    rw [same_list]
    rw [c4]; exact beq_self_eq_true _
  replace c4 := hide c4
  by_cases c5 : pathOk s K.path ∧ K.path.getD 0 0 = dd ∧ K.path.getD (K.path.length - 1) 0 = ll
  · have H51 : Hid (∀ W, Below w2.heap.size w2 W → Calls Try.prog 22 #[.agg cs, .slice pa np pc, .int .i64 dd, .int .i64 ll] W fun e w' => e = .returned (.bool true) ∧ Below W.heap.size W w') := fun W hW => by
      have L9 := HL.out W (HB.out W hW)
      have h9 := leads_any (HW.out W (HB.out W hW)) L9.path L9.pc1 L9.pc2 dd ll
      rw [told_yes c5, hnp.out] at h9
      exact h9
    have hpp : Hid (∀ j, j < K.path.length → 0 ≤ K.path.getD j 0 ∧ K.path.getD j 0 < (s.parties.length : Int)) := fun j hj => (c5.1.2.2 j hj).1
    replace c5 := hide c5
    by_cases c6 : K.sigs.length = K.path.length
    · have t6 : ((ns : Int) == (np : Int)) = true := by
        rw [← hns.out, ← hnp.out, c6]; exact beq_self_eq_true _
      replace c6 := hide c6
      by_cases c7 : ∀ i, i < K.path.length → verAt s K i = true
      · have H65 : Hid (∀ W, Below w2.heap.size w2 W → Calls Try.prog 23 #[.agg cs, .agg (hcells pa sa pc sc K)] W fun e w' => e = .returned (.bool true) ∧ Below W.heap.size W w') := fun W hW => by
          have h9 := verified_any (HW.out W (HB.out W hW)) (HL.out W (HB.out W hW)) hok.out ⟨c2.out.1, by rw [← hok.out.2.1.2.2.1]; exact c2.out.2⟩ hpp.out hp100.out htx.out
          rw [told_yes c7] at h9
          exact h9
        have hf : Hid (r = true) := hyes.out ⟨c0.out, c1.out, c2.out, c3.out, by rw [hD.out, hLk.out]; exact c4.out, by rw [hdd.out, hll.out]; exact c5.out, c6.out, c7⟩
        clear c7 hno hyes
        have hRw : Below w2.heap.size w2 w2.drew := ⟨rfl, rfl, rfl, Nat.le_refl _, fun _ _ => rfl⟩
        refine wp_region_held_drew (S := fun W => Below w2.heap.size w2 W) (by kernel_rfl) hRw (fun hHeld => ?_)
        refine wpAnyH_take (i := 0) (oi := ck0) (v := .agg cs) rfl (by kernel_rfl) (by kernel_rfl) (by kernel_rfl) (fun _ _ _ h => h) (yields_loadV (by rfl) (.tmp 3) (by rfl) _ cs (by rfl) h7 (fun W hW => hx2.below hW)) (by assumption) ?_
        try simp only [Act.put, pA, pB, pC]
        refine wpAnyH_lone (R := fun W => Below w2.heap.size w2 W) (i := 1) (oi := ck1) (vi := .bool true) (by kernel_rfl) rfl hRw (fun _ h => h) ?_ ?_
        · intro W hW K hK
          go_simp
          refine (H1.out W hW).mono ?_
          rintro e W2 ⟨rfl, hb⟩
          go_wp2_with fail
          exact hK.out _ (below_then hW hb)
        clear hRw hHeld
        intro W9 hRw hHeld
        try simp only [Act.put, pA, pB, pC]
        refine tkH 2 ck2 ?_ rfl (by kernel_rfl) (fun _ _ _ h => h) (by rfl) ‹_› ?_ ?_
        rotate_left
        · intro W hSW; first | (go_simp; done) | (go_simp; with_reducible rfl)
        try simp only [Act.put, pA, pB, pC]
        refine tkH 3 ck3 ?_ rfl (by kernel_rfl) (fun _ _ _ h => h) (by rfl) ‹_› ?_ ?_
        rotate_left
        · intro W hSW; first | (go_simp; done) | (go_simp; with_reducible rfl)
        try simp only [Act.put, pA, pB, pC]
        refine tkH 4 ck4 ?_ rfl (by kernel_rfl) (fun _ _ _ h => h) (by rfl) ‹_› ?_ ?_
        rotate_left
        · intro W hSW; first | (go_simp; done) | (go_simp; with_reducible rfl)
        try simp only [Act.put, pA, pB, pC]
        refine tkH 5 ck5 ?_ rfl (by kernel_rfl) (fun _ _ _ h => h) (by rfl) ‹_› ?_ ?_
        rotate_left
        · intro W hSW; have z0 := cell_on hSW x2; have z1 := cell_on hSW x3; have z2 := cell_on hSW x4; have z3 := cell_on hSW y0; have z4 := cell_on hSW y1; have z5 := cell_on hSW y2; have z6 := cell_on hSW y3; have z7 := cell_on hSW q1; have z8 := cell_on hSW q3; have z9 := cell_on hSW q4; first | (go_simp; done) | (go_simp; with_reducible rfl)
        try simp only [Act.put, pA, pB, pC]
        refine tkH 6 ck6 ?_ rfl (by kernel_rfl) (fun _ _ _ h => h) (by rfl) ‹_› ?_ ?_
        rotate_left
        · intro W hSW; first | (go_simp; done) | (go_simp; with_reducible rfl)
        try simp only [Act.put, pA, pB, pC]
        refine wpAnyH_lone (R := fun W => Below w2.heap.size w2 W) (i := 7) (oi := ck7) (vi := .bool true) (by kernel_rfl) rfl hRw (fun _ h => h) ?_ ?_
        · intro W hW K hK
          go_simp
          refine (H7.out W hW).mono ?_
          rintro e W2 ⟨rfl, hb⟩
          go_wp2_with fail
          exact hK.out _ (below_then hW hb)
        clear hRw hHeld
        intro W9 hRw hHeld
        try simp only [Act.put, pA, pB, pC]
        refine tkH 8 ck8 ?_ rfl (by kernel_rfl) (fun _ _ _ h => h) (by rfl) ‹_› ?_ ?_
        rotate_left
        · intro W hSW; first | (go_simp; done) | (go_simp; with_reducible rfl)
        try simp only [Act.put, pA, pB, pC]
        refine tkH 9 ck9 ?_ rfl (by kernel_rfl) (fun _ _ _ h => h) (by rfl) ‹_› ?_ ?_
        rotate_left
        · intro W hSW; first | (go_simp; done) | (go_simp; with_reducible rfl)
        try simp only [Act.put, pA, pB, pC]
        refine tkH 10 ck10 ?_ rfl (by kernel_rfl) (fun _ _ _ h => h) (by rfl) ‹_› ?_ ?_
        rotate_left
        · intro W hSW; first | (go_simp; done) | (go_simp; with_reducible rfl)
        try simp only [Act.put, pA, pB, pC]
        refine tkH 11 ck11 ?_ rfl (by kernel_rfl) (fun _ _ _ h => h) (by rfl) ‹_› ?_ ?_
        rotate_left
        · intro W hSW; have z0 := cell_on hSW x2; have z1 := cell_on hSW x3; have z2 := cell_on hSW x4; have z3 := cell_on hSW y0; have z4 := cell_on hSW y1; have z5 := cell_on hSW y2; have z6 := cell_on hSW y3; have z7 := cell_on hSW q1; have z8 := cell_on hSW q3; have z9 := cell_on hSW q4; first | (go_simp; done) | (go_simp; with_reducible rfl)
        try simp only [Act.put, pA, pB, pC]
        refine tkH 12 ck12 ?_ rfl (by kernel_rfl) (fun _ _ _ h => h) (by rfl) ‹_› ?_ ?_
        rotate_left
        · intro W hSW; first | (go_simp; done) | (go_simp; with_reducible rfl)
        try simp only [Act.put, pA, pB, pC]
        refine tkH 13 ck13 ?_ rfl (by kernel_rfl) (fun _ _ _ h => h) (by rfl) ‹_› ?_ ?_
        rotate_left
        · intro W hSW; have z0 := cell_on hSW x2; have z1 := cell_on hSW x3; have z2 := cell_on hSW x4; have z3 := cell_on hSW y0; have z4 := cell_on hSW y1; have z5 := cell_on hSW y2; have z6 := cell_on hSW y3; have z7 := cell_on hSW q1; have z8 := cell_on hSW q3; have z9 := cell_on hSW q4; first | (go_simp; done) | (go_simp; with_reducible rfl)
        try simp only [Act.put, pA, pB, pC]
        refine tkH 14 ck14 ?_ rfl (by kernel_rfl) (fun _ _ _ h => h) (by rfl) ‹_› ?_ ?_
        rotate_left
        · intro W hSW; first | (go_simp; done) | (go_simp; with_reducible rfl)
        try simp only [Act.put, pA, pB, pC]
        refine wpAnyH_lone (R := fun W => Below w2.heap.size w2 W) (i := 15) (oi := ck15) (vi := .bool true) (by kernel_rfl) rfl hRw (fun _ h => h) ?_ ?_
        · intro W hW K hK
          go_simp
          refine (H15.out W hW).mono ?_
          rintro e W2 ⟨rfl, hb⟩
          go_wp2_with fail
          exact hK.out _ (below_then hW hb)
        clear hRw hHeld
        intro W9 hRw hHeld
        try simp only [Act.put, pA, pB, pC]
        refine tkH 16 ck16 ?_ rfl (by kernel_rfl) (fun _ _ _ h => h) (by rfl) ‹_› ?_ ?_
        rotate_left
        · intro W hSW; first | (go_simp; done) | (go_simp; with_reducible rfl)
        try simp only [Act.put, pA, pB, pC]
        refine tkH 17 ck17 ?_ rfl (by kernel_rfl) (fun _ _ _ h => h) (by rfl) ‹_› ?_ ?_
        rotate_left
        · intro W hSW; first | (go_simp; done) | (go_simp; with_reducible rfl)
        try simp only [Act.put, pA, pB, pC]
        refine tkH 18 ck18 ?_ rfl (by kernel_rfl) (fun _ _ _ h => h) (by rfl) ‹_› ?_ ?_
        rotate_left
        · intro W hSW; first | (go_simp; done) | (go_simp; with_reducible rfl)
        try simp only [Act.put, pA, pB, pC]
        refine tkH 19 ck19 ?_ rfl (by kernel_rfl) (fun _ _ _ h => h) (by rfl) ‹_› ?_ ?_
        rotate_left
        · intro W hSW; have z0 := cell_on hSW x2; have z1 := cell_on hSW x3; have z2 := cell_on hSW x4; have z3 := cell_on hSW y0; have z4 := cell_on hSW y1; have z5 := cell_on hSW y2; have z6 := cell_on hSW y3; have z7 := cell_on hSW q1; have z8 := cell_on hSW q3; have z9 := cell_on hSW q4; first | (go_simp; done) | (go_simp; with_reducible rfl)
        try simp only [Act.put, pA, pB, pC]
        refine tkH 20 ck20 ?_ rfl (by kernel_rfl) (fun _ _ _ h => h) (by rfl) ‹_› ?_ ?_
        rotate_left
        · intro W hSW; first | (go_simp; done) | (go_simp; with_reducible rfl)
        try simp only [Act.put, pA, pB, pC]
        refine tkH 21 ck21 (.bool true) rfl (by kernel_rfl) (fun _ _ _ h => h) (by rfl) ‹_› ?_ ?_
        · intro W hSW; first | (go_simp; done) | (go_simp; with_reducible rfl)
        try simp only [Act.put, pA, pB, pC]
        refine tkH 22 ck22 ?_ rfl (by kernel_rfl) (fun _ _ _ h => h) (by rfl) ‹_› ?_ ?_
        rotate_left
        · intro W hSW; first | (go_simp; done) | (go_simp; with_reducible rfl)
        try simp only [Act.put, pA, pB, pC]
        refine tkH 23 ck23 ?_ rfl (by kernel_rfl) (fun _ _ _ h => h) (by rfl) ‹_› ?_ ?_
        rotate_left
        · intro W hSW; first | (go_simp; done) | (go_simp; with_reducible rfl)
        try simp only [Act.put, pA, pB, pC]
        refine tkH 24 ck24 ?_ rfl (by kernel_rfl) (fun _ _ _ h => h) (by rfl) ‹_› ?_ ?_
        rotate_left
        · intro W hSW; first | (go_simp; done) | (go_simp; with_reducible rfl)
        try simp only [Act.put, pA, pB, pC]
        refine tkH 25 ck25 ?_ rfl (by kernel_rfl) (fun _ _ _ h => h) (by rfl) ‹_› ?_ ?_
        rotate_left
        · intro W hSW; have z0 := cell_on hSW x2; have z1 := cell_on hSW x3; have z2 := cell_on hSW x4; have z3 := cell_on hSW y0; have z4 := cell_on hSW y1; have z5 := cell_on hSW y2; have z6 := cell_on hSW y3; have z7 := cell_on hSW q1; have z8 := cell_on hSW q3; have z9 := cell_on hSW q4; first | (go_simp; done) | (go_simp; with_reducible rfl)
        try simp only [Act.put, pA, pB, pC]
        refine tkH 27 ck27 ?_ rfl (by kernel_rfl) (fun _ _ _ h => h) (by rfl) ‹_› ?_ ?_
        rotate_left
        · intro W hSW; first | (go_simp; done) | (go_simp; with_reducible rfl)
        try simp only [Act.put, pA, pB, pC]
        refine tkH 28 ck28 ?_ rfl (by kernel_rfl) (fun _ _ _ h => h) (by rfl) ‹_› ?_ ?_
        rotate_left
        · intro W hSW; have z0 := cell_on hSW x2; have z1 := cell_on hSW x3; have z2 := cell_on hSW x4; have z3 := cell_on hSW y0; have z4 := cell_on hSW y1; have z5 := cell_on hSW y2; have z6 := cell_on hSW y3; have z7 := cell_on hSW q1; have z8 := cell_on hSW q3; have z9 := cell_on hSW q4; first | (go_simp; done) | (go_simp; with_reducible rfl)
        try simp only [Act.put, pA, pB, pC]
        refine tkH 29 ck29 ?_ rfl (by kernel_rfl) (fun _ _ _ h => h) (by rfl) ‹_› ?_ ?_
        rotate_left
        · intro W hSW; first | (go_simp; done) | (go_simp; with_reducible rfl)
        try simp only [Act.put, pA, pB, pC]
        refine tkH 30 ck30 ?_ rfl (by kernel_rfl) (fun _ _ _ h => h) (by rfl) ‹_› ?_ ?_
        rotate_left
        · intro W hSW; have z0 := cell_on hSW x2; have z1 := cell_on hSW x3; have z2 := cell_on hSW x4; have z3 := cell_on hSW y0; have z4 := cell_on hSW y1; have z5 := cell_on hSW y2; have z6 := cell_on hSW y3; have z7 := cell_on hSW q1; have z8 := cell_on hSW q3; have z9 := cell_on hSW q4; first | (go_simp; done) | (go_simp; with_reducible rfl)
        try simp only [Act.put, pA, pB, pC]
        refine tkH 31 ck31 ?_ rfl (by kernel_rfl) (fun _ _ _ h => h) (by rfl) ‹_› ?_ ?_
        rotate_left
        · intro W hSW; first | (go_simp; done) | (go_simp; with_reducible rfl)
        try simp only [Act.put, pA, pB, pC]
        refine tkH 32 ck32 ?_ rfl (by kernel_rfl) (fun _ _ _ h => h) (by rfl) ‹_› ?_ ?_
        rotate_left
        · intro W hSW; have z0 := cell_on hSW x2; have z1 := cell_on hSW x3; have z2 := cell_on hSW x4; have z3 := cell_on hSW y0; have z4 := cell_on hSW y1; have z5 := cell_on hSW y2; have z6 := cell_on hSW y3; have z7 := cell_on hSW q1; have z8 := cell_on hSW q3; have z9 := cell_on hSW q4; first | (go_simp; done) | (go_simp; with_reducible rfl)
        try simp only [Act.put, pA, pB, pC]
        refine wpAnyH_lone (R := fun W => Below w2.heap.size w2 W) (i := 26) (oi := ck26) (vi := .string D) (by kernel_rfl) rfl hRw (fun _ h => h) ?_ ?_
        · intro W hW K hK
          go_simp
          refine (H26.out W hW).mono ?_
          rintro e W2 ⟨rfl, hb⟩
          go_wp2_with fail
          exact hK.out _ (below_then hW hb)
        clear hRw hHeld
        intro W9 hRw hHeld
        try simp only [Act.put, pA, pB, pC]
        refine tkH 33 ck33 (.bool true) rfl (by kernel_rfl) (fun _ _ _ h => h) (by rfl) ‹_› ?_ ?_
        · intro W hSW; first | (go_simp; done) | (go_simp; with_reducible rfl)
        try simp only [Act.put, pA, pB, pC]
        refine tkH 34 ck34 ?_ rfl (by kernel_rfl) (fun _ _ _ h => h) (by rfl) ‹_› ?_ ?_
        rotate_left
        · intro W hSW; first | (go_simp; done) | (go_simp; with_reducible rfl)
        try simp only [Act.put, pA, pB, pC]
        refine tkH 35 ck35 ?_ rfl (by kernel_rfl) (fun _ _ _ h => h) (by rfl) ‹_› ?_ ?_
        rotate_left
        · intro W hSW; first | (go_simp; done) | (go_simp; with_reducible rfl)
        try simp only [Act.put, pA, pB, pC]
        refine wpAnyH_take (i := 36) (oi := ck36) (v := .agg cs) rfl (by kernel_rfl) (by kernel_rfl) (by kernel_rfl) (fun _ _ _ h => h) (yields_loadV (by rfl) (.tmp 3) (by rfl) _ cs (by rfl) h7 (fun W hW => hx2.below hW)) (by assumption) ?_
        try simp only [Act.put, pA, pB, pC]
        refine tkH 37 ck37 ?_ rfl (by kernel_rfl) (fun _ _ _ h => h) (by rfl) ‹_› ?_ ?_
        rotate_left
        · intro W hSW; first | (go_simp; done) | (go_simp; with_reducible rfl)
        try simp only [Act.put, pA, pB, pC]
        refine tkH 38 ck38 ?_ rfl (by kernel_rfl) (fun _ _ _ h => h) (by rfl) ‹_› ?_ ?_
        rotate_left
        · intro W hSW; have z0 := cell_on hSW x2; have z1 := cell_on hSW x3; have z2 := cell_on hSW x4; have z3 := cell_on hSW y0; have z4 := cell_on hSW y1; have z5 := cell_on hSW y2; have z6 := cell_on hSW y3; have z7 := cell_on hSW q1; have z8 := cell_on hSW q3; have z9 := cell_on hSW q4; first | (go_simp; done) | (go_simp; with_reducible rfl)
        try simp only [Act.put, pA, pB, pC]
        refine tkH 39 ck39 ?_ rfl (by kernel_rfl) (fun _ _ _ h => h) (by rfl) ‹_› ?_ ?_
        rotate_left
        · intro W hSW; first | (go_simp; done) | (go_simp; with_reducible rfl)
        try simp only [Act.put, pA, pB, pC]
        refine tkH 40 ck40 ?_ rfl (by kernel_rfl) (fun _ _ _ h => h) (by rfl) ‹_› ?_ ?_
        rotate_left
        · intro W hSW; have z0 := cell_on hSW x2; have z1 := cell_on hSW x3; have z2 := cell_on hSW x4; have z3 := cell_on hSW y0; have z4 := cell_on hSW y1; have z5 := cell_on hSW y2; have z6 := cell_on hSW y3; have z7 := cell_on hSW q1; have z8 := cell_on hSW q3; have z9 := cell_on hSW q4; first | (go_simp; done) | (go_simp; with_reducible rfl)
        try simp only [Act.put, pA, pB, pC]
        refine tkH 41 ck41 ?_ rfl (by kernel_rfl) (fun _ _ _ h => h) (by rfl) ‹_› ?_ ?_
        rotate_left
        · intro W hSW; first | (go_simp; done) | (go_simp; with_reducible rfl)
        try simp only [Act.put, pA, pB, pC]
        refine tkH 42 ck42 ?_ rfl (by kernel_rfl) (fun _ _ _ h => h) (by rfl) ‹_› ?_ ?_
        rotate_left
        · intro W hSW; first | (go_simp; done) | (go_simp; with_reducible rfl)
        try simp only [Act.put, pA, pB, pC]
        refine tkH 43 ck43 ?_ rfl (by kernel_rfl) (fun _ _ _ h => h) (by rfl) ‹_› ?_ ?_
        rotate_left
        · intro W hSW; first | (go_simp; done) | (go_simp; with_reducible rfl)
        try simp only [Act.put, pA, pB, pC]
        refine tkH 44 ck44 ?_ rfl (by kernel_rfl) (fun _ _ _ h => h) (by rfl) ‹_› ?_ ?_
        rotate_left
        · intro W hSW; have z0 := cell_on hSW x2; have z1 := cell_on hSW x3; have z2 := cell_on hSW x4; have z3 := cell_on hSW y0; have z4 := cell_on hSW y1; have z5 := cell_on hSW y2; have z6 := cell_on hSW y3; have z7 := cell_on hSW q1; have z8 := cell_on hSW q3; have z9 := cell_on hSW q4; first | (go_simp; done) | (go_simp; with_reducible rfl)
        try simp only [Act.put, pA, pB, pC]
        refine tkH 45 ck45 ?_ rfl (by kernel_rfl) (fun _ _ _ h => h) (by rfl) ‹_› ?_ ?_
        rotate_left
        · intro W hSW; first | (go_simp; done) | (go_simp; with_reducible rfl)
        try simp only [Act.put, pA, pB, pC]
        refine tkH 46 ck46 ?_ rfl (by kernel_rfl) (fun _ _ _ h => h) (by rfl) ‹_› ?_ ?_
        rotate_left
        · intro W hSW; have z0 := cell_on hSW x2; have z1 := cell_on hSW x3; have z2 := cell_on hSW x4; have z3 := cell_on hSW y0; have z4 := cell_on hSW y1; have z5 := cell_on hSW y2; have z6 := cell_on hSW y3; have z7 := cell_on hSW q1; have z8 := cell_on hSW q3; have z9 := cell_on hSW q4; first | (go_simp; done) | (go_simp; with_reducible rfl)
        try simp only [Act.put, pA, pB, pC]
        refine tkH 47 ck47 ?_ rfl (by kernel_rfl) (fun _ _ _ h => h) (by rfl) ‹_› ?_ ?_
        rotate_left
        · intro W hSW; first | (go_simp; done) | (go_simp; with_reducible rfl)
        try simp only [Act.put, pA, pB, pC]
        refine tkH 48 ck48 ?_ rfl (by kernel_rfl) (fun _ _ _ h => h) (by rfl) ‹_› ?_ ?_
        rotate_left
        · intro W hSW; have z0 := cell_on hSW x2; have z1 := cell_on hSW x3; have z2 := cell_on hSW x4; have z3 := cell_on hSW y0; have z4 := cell_on hSW y1; have z5 := cell_on hSW y2; have z6 := cell_on hSW y3; have z7 := cell_on hSW q1; have z8 := cell_on hSW q3; have z9 := cell_on hSW q4; first | (go_simp; done) | (go_simp; with_reducible rfl)
        try simp only [Act.put, pA, pB, pC]
        refine tkH 49 ck49 ?_ rfl (by kernel_rfl) (fun _ _ _ h => h) (by rfl) ‹_› ?_ ?_
        rotate_left
        · intro W hSW; first | (go_simp; done) | (go_simp; with_reducible rfl)
        try simp only [Act.put, pA, pB, pC]
        refine tkH 50 ck50 ?_ rfl (by kernel_rfl) (fun _ _ _ h => h) (by rfl) ‹_› ?_ ?_
        rotate_left
        · intro W hSW; have z0 := cell_on hSW x2; have z1 := cell_on hSW x3; have z2 := cell_on hSW x4; have z3 := cell_on hSW y0; have z4 := cell_on hSW y1; have z5 := cell_on hSW y2; have z6 := cell_on hSW y3; have z7 := cell_on hSW q1; have z8 := cell_on hSW q3; have z9 := cell_on hSW q4; first | (go_simp; done) | (go_simp; with_reducible rfl)
        try simp only [Act.put, pA, pB, pC]
        refine wpAnyH_lone (R := fun W => Below w2.heap.size w2 W) (i := 51) (oi := ck51) (vi := .bool true) (by kernel_rfl) rfl hRw (fun _ h => h) ?_ ?_
        · intro W hW K hK
          go_simp
          refine (H51.out W hW).mono ?_
          rintro e W2 ⟨rfl, hb⟩
          go_wp2_with fail
          exact hK.out _ (below_then hW hb)
        clear hRw hHeld
        intro W9 hRw hHeld
        try simp only [Act.put, pA, pB, pC]
        refine tkH 52 ck52 ?_ rfl (by kernel_rfl) (fun _ _ _ h => h) (by rfl) ‹_› ?_ ?_
        rotate_left
        · intro W hSW; first | (go_simp; done) | (go_simp; with_reducible rfl)
        try simp only [Act.put, pA, pB, pC]
        refine tkH 53 ck53 ?_ rfl (by kernel_rfl) (fun _ _ _ h => h) (by rfl) ‹_› ?_ ?_
        rotate_left
        · intro W hSW; first | (go_simp; done) | (go_simp; with_reducible rfl)
        try simp only [Act.put, pA, pB, pC]
        refine tkH 54 ck54 ?_ rfl (by kernel_rfl) (fun _ _ _ h => h) (by rfl) ‹_› ?_ ?_
        rotate_left
        · intro W hSW; first | (go_simp; done) | (go_simp; with_reducible rfl)
        try simp only [Act.put, pA, pB, pC]
        refine tkH 55 ck55 ?_ rfl (by kernel_rfl) (fun _ _ _ h => h) (by rfl) ‹_› ?_ ?_
        rotate_left
        · intro W hSW; have z0 := cell_on hSW x2; have z1 := cell_on hSW x3; have z2 := cell_on hSW x4; have z3 := cell_on hSW y0; have z4 := cell_on hSW y1; have z5 := cell_on hSW y2; have z6 := cell_on hSW y3; have z7 := cell_on hSW q1; have z8 := cell_on hSW q3; have z9 := cell_on hSW q4; first | (go_simp; done) | (go_simp; with_reducible rfl)
        try simp only [Act.put, pA, pB, pC]
        refine tkH 56 ck56 ?_ rfl (by kernel_rfl) (fun _ _ _ h => h) (by rfl) ‹_› ?_ ?_
        rotate_left
        · intro W hSW; first | (go_simp; done) | (go_simp; with_reducible rfl)
        try simp only [Act.put, pA, pB, pC]
        refine tkH 57 ck57 ?_ rfl (by kernel_rfl) (fun _ _ _ h => h) (by rfl) ‹_› ?_ ?_
        rotate_left
        · intro W hSW; first | (go_simp; done) | (go_simp; with_reducible rfl)
        try simp only [Act.put, pA, pB, pC]
        refine tkH 58 ck58 ?_ rfl (by kernel_rfl) (fun _ _ _ h => h) (by rfl) ‹_› ?_ ?_
        rotate_left
        · intro W hSW; have z0 := cell_on hSW x2; have z1 := cell_on hSW x3; have z2 := cell_on hSW x4; have z3 := cell_on hSW y0; have z4 := cell_on hSW y1; have z5 := cell_on hSW y2; have z6 := cell_on hSW y3; have z7 := cell_on hSW q1; have z8 := cell_on hSW q3; have z9 := cell_on hSW q4; first | (go_simp; done) | (go_simp; with_reducible rfl)
        try simp only [Act.put, pA, pB, pC]
        refine tkH 59 ck59 ?_ rfl (by kernel_rfl) (fun _ _ _ h => h) (by rfl) ‹_› ?_ ?_
        rotate_left
        · intro W hSW; first | (go_simp; done) | (go_simp; with_reducible rfl)
        try simp only [Act.put, pA, pB, pC]
        refine tkH 60 ck60 (.bool true) rfl (by kernel_rfl) (fun _ _ _ h => h) (by rfl) ‹_› ?_ ?_
        · intro W hSW; first | (go_simp; done) | (go_simp; with_reducible rfl)
        try simp only [Act.put, pA, pB, pC]
        refine tkH 61 ck61 ?_ rfl (by kernel_rfl) (fun _ _ _ h => h) (by rfl) ‹_› ?_ ?_
        rotate_left
        · intro W hSW; first | (go_simp; done) | (go_simp; with_reducible rfl)
        try simp only [Act.put, pA, pB, pC]
        refine tkH 62 ck62 ?_ rfl (by kernel_rfl) (fun _ _ _ h => h) (by rfl) ‹_› ?_ ?_
        rotate_left
        · intro W hSW; first | (go_simp; done) | (go_simp; with_reducible rfl)
        try simp only [Act.put, pA, pB, pC]
        refine wpAnyH_take (i := 63) (oi := ck63) (v := .agg cs) rfl (by kernel_rfl) (by kernel_rfl) (by kernel_rfl) (fun _ _ _ h => h) (yields_loadV (by rfl) (.tmp 3) (by rfl) _ cs (by rfl) h7 (fun W hW => hx2.below hW)) (by assumption) ?_
        try simp only [Act.put, pA, pB, pC]
        refine wpAnyH_take (i := 64) (oi := ck64) (v := .agg (hcells pa sa pc sc K)) rfl (by kernel_rfl) (by kernel_rfl) (by kernel_rfl) (fun _ _ _ h => h) (yields_loadK (by rfl) (.tmp 5) (by rfl) _ (hcells pa sa pc sc K) (by rfl) rfl (fun W hW => hy2.below hW (by omega))) (by assumption) ?_
        try simp only [Act.put, pA, pB, pC]
        refine wpAnyH_lone (R := fun W => Below w2.heap.size w2 W) (i := 65) (oi := ck65) (vi := .bool true) (by kernel_rfl) rfl hRw (fun _ h => h) ?_ ?_
        · intro W hW K hK
          go_simp
          refine (H65.out W hW).mono ?_
          rintro e W2 ⟨rfl, hb⟩
          go_wp2_with fail
          exact hK.out _ (below_then hW hb)
        clear hRw hHeld
        intro W9 hRw hHeld
        try simp only [Act.put, pA, pB, pC]
        refine tkH 66 ck66 ?_ rfl (by kernel_rfl) (fun _ _ _ h => h) (by rfl) ‹_› ?_ ?_
        rotate_left
        · intro W hSW; first | (go_simp; done) | (go_simp; with_reducible rfl)
        try simp only [Act.put, pA, pB, pC]
        refine tkH 67 ck67 ?_ rfl (by kernel_rfl) (fun _ _ _ h => h) (by rfl) ‹_› ?_ ?_
        rotate_left
        · intro W hSW; first | (go_simp; done) | (go_simp; with_reducible rfl)
        try simp only [Act.put, pA, pB, pC]
        refine wpAnyH_done (by kernel_rfl) ?_ _
        have hB9 := HB.out _ hRw
        clear hRw hHeld
        go_wp2
        go_ret
        exact ⟨ret_bool hf.out.symm, hB9⟩
      · have hf : Hid (r = false) := hno.out (fun h => c7 h.2.2.2.2.2.2.2)
        have H65 : Hid (∀ W, Below w2.heap.size w2 W → Calls Try.prog 23 #[.agg cs, .agg (hcells pa sa pc sc K)] W fun e w' => e = .returned (.bool false) ∧ Below W.heap.size W w') := fun W hW => by
          have h9 := verified_any (HW.out W (HB.out W hW)) (HL.out W (HB.out W hW)) hok.out ⟨c2.out.1, by rw [← hok.out.2.1.2.2.1]; exact c2.out.2⟩ hpp.out hp100.out htx.out
          rw [told_no c7] at h9
          exact h9
        clear c7 hno hyes
        have hRw : Below w2.heap.size w2 w2.drew := ⟨rfl, rfl, rfl, Nat.le_refl _, fun _ _ => rfl⟩
        refine wp_region_held_drew (S := fun W => Below w2.heap.size w2 W) (by kernel_rfl) hRw (fun hHeld => ?_)
        refine wpAnyH_take (i := 0) (oi := ck0) (v := .agg cs) rfl (by kernel_rfl) (by kernel_rfl) (by kernel_rfl) (fun _ _ _ h => h) (yields_loadV (by rfl) (.tmp 3) (by rfl) _ cs (by rfl) h7 (fun W hW => hx2.below hW)) (by assumption) ?_
        try simp only [Act.put, pA, pB, pC]
        refine wpAnyH_lone (R := fun W => Below w2.heap.size w2 W) (i := 1) (oi := ck1) (vi := .bool true) (by kernel_rfl) rfl hRw (fun _ h => h) ?_ ?_
        · intro W hW K hK
          go_simp
          refine (H1.out W hW).mono ?_
          rintro e W2 ⟨rfl, hb⟩
          go_wp2_with fail
          exact hK.out _ (below_then hW hb)
        clear hRw hHeld
        intro W9 hRw hHeld
        try simp only [Act.put, pA, pB, pC]
        refine tkH 2 ck2 ?_ rfl (by kernel_rfl) (fun _ _ _ h => h) (by rfl) ‹_› ?_ ?_
        rotate_left
        · intro W hSW; first | (go_simp; done) | (go_simp; with_reducible rfl)
        try simp only [Act.put, pA, pB, pC]
        refine tkH 3 ck3 ?_ rfl (by kernel_rfl) (fun _ _ _ h => h) (by rfl) ‹_› ?_ ?_
        rotate_left
        · intro W hSW; first | (go_simp; done) | (go_simp; with_reducible rfl)
        try simp only [Act.put, pA, pB, pC]
        refine tkH 4 ck4 ?_ rfl (by kernel_rfl) (fun _ _ _ h => h) (by rfl) ‹_› ?_ ?_
        rotate_left
        · intro W hSW; first | (go_simp; done) | (go_simp; with_reducible rfl)
        try simp only [Act.put, pA, pB, pC]
        refine tkH 5 ck5 ?_ rfl (by kernel_rfl) (fun _ _ _ h => h) (by rfl) ‹_› ?_ ?_
        rotate_left
        · intro W hSW; have z0 := cell_on hSW x2; have z1 := cell_on hSW x3; have z2 := cell_on hSW x4; have z3 := cell_on hSW y0; have z4 := cell_on hSW y1; have z5 := cell_on hSW y2; have z6 := cell_on hSW y3; have z7 := cell_on hSW q1; have z8 := cell_on hSW q3; have z9 := cell_on hSW q4; first | (go_simp; done) | (go_simp; with_reducible rfl)
        try simp only [Act.put, pA, pB, pC]
        refine tkH 6 ck6 ?_ rfl (by kernel_rfl) (fun _ _ _ h => h) (by rfl) ‹_› ?_ ?_
        rotate_left
        · intro W hSW; first | (go_simp; done) | (go_simp; with_reducible rfl)
        try simp only [Act.put, pA, pB, pC]
        refine wpAnyH_lone (R := fun W => Below w2.heap.size w2 W) (i := 7) (oi := ck7) (vi := .bool true) (by kernel_rfl) rfl hRw (fun _ h => h) ?_ ?_
        · intro W hW K hK
          go_simp
          refine (H7.out W hW).mono ?_
          rintro e W2 ⟨rfl, hb⟩
          go_wp2_with fail
          exact hK.out _ (below_then hW hb)
        clear hRw hHeld
        intro W9 hRw hHeld
        try simp only [Act.put, pA, pB, pC]
        refine tkH 8 ck8 ?_ rfl (by kernel_rfl) (fun _ _ _ h => h) (by rfl) ‹_› ?_ ?_
        rotate_left
        · intro W hSW; first | (go_simp; done) | (go_simp; with_reducible rfl)
        try simp only [Act.put, pA, pB, pC]
        refine tkH 9 ck9 ?_ rfl (by kernel_rfl) (fun _ _ _ h => h) (by rfl) ‹_› ?_ ?_
        rotate_left
        · intro W hSW; first | (go_simp; done) | (go_simp; with_reducible rfl)
        try simp only [Act.put, pA, pB, pC]
        refine tkH 10 ck10 ?_ rfl (by kernel_rfl) (fun _ _ _ h => h) (by rfl) ‹_› ?_ ?_
        rotate_left
        · intro W hSW; first | (go_simp; done) | (go_simp; with_reducible rfl)
        try simp only [Act.put, pA, pB, pC]
        refine tkH 11 ck11 ?_ rfl (by kernel_rfl) (fun _ _ _ h => h) (by rfl) ‹_› ?_ ?_
        rotate_left
        · intro W hSW; have z0 := cell_on hSW x2; have z1 := cell_on hSW x3; have z2 := cell_on hSW x4; have z3 := cell_on hSW y0; have z4 := cell_on hSW y1; have z5 := cell_on hSW y2; have z6 := cell_on hSW y3; have z7 := cell_on hSW q1; have z8 := cell_on hSW q3; have z9 := cell_on hSW q4; first | (go_simp; done) | (go_simp; with_reducible rfl)
        try simp only [Act.put, pA, pB, pC]
        refine tkH 12 ck12 ?_ rfl (by kernel_rfl) (fun _ _ _ h => h) (by rfl) ‹_› ?_ ?_
        rotate_left
        · intro W hSW; first | (go_simp; done) | (go_simp; with_reducible rfl)
        try simp only [Act.put, pA, pB, pC]
        refine tkH 13 ck13 ?_ rfl (by kernel_rfl) (fun _ _ _ h => h) (by rfl) ‹_› ?_ ?_
        rotate_left
        · intro W hSW; have z0 := cell_on hSW x2; have z1 := cell_on hSW x3; have z2 := cell_on hSW x4; have z3 := cell_on hSW y0; have z4 := cell_on hSW y1; have z5 := cell_on hSW y2; have z6 := cell_on hSW y3; have z7 := cell_on hSW q1; have z8 := cell_on hSW q3; have z9 := cell_on hSW q4; first | (go_simp; done) | (go_simp; with_reducible rfl)
        try simp only [Act.put, pA, pB, pC]
        refine tkH 14 ck14 ?_ rfl (by kernel_rfl) (fun _ _ _ h => h) (by rfl) ‹_› ?_ ?_
        rotate_left
        · intro W hSW; first | (go_simp; done) | (go_simp; with_reducible rfl)
        try simp only [Act.put, pA, pB, pC]
        refine wpAnyH_lone (R := fun W => Below w2.heap.size w2 W) (i := 15) (oi := ck15) (vi := .bool true) (by kernel_rfl) rfl hRw (fun _ h => h) ?_ ?_
        · intro W hW K hK
          go_simp
          refine (H15.out W hW).mono ?_
          rintro e W2 ⟨rfl, hb⟩
          go_wp2_with fail
          exact hK.out _ (below_then hW hb)
        clear hRw hHeld
        intro W9 hRw hHeld
        try simp only [Act.put, pA, pB, pC]
        refine tkH 16 ck16 ?_ rfl (by kernel_rfl) (fun _ _ _ h => h) (by rfl) ‹_› ?_ ?_
        rotate_left
        · intro W hSW; first | (go_simp; done) | (go_simp; with_reducible rfl)
        try simp only [Act.put, pA, pB, pC]
        refine tkH 17 ck17 ?_ rfl (by kernel_rfl) (fun _ _ _ h => h) (by rfl) ‹_› ?_ ?_
        rotate_left
        · intro W hSW; first | (go_simp; done) | (go_simp; with_reducible rfl)
        try simp only [Act.put, pA, pB, pC]
        refine tkH 18 ck18 ?_ rfl (by kernel_rfl) (fun _ _ _ h => h) (by rfl) ‹_› ?_ ?_
        rotate_left
        · intro W hSW; first | (go_simp; done) | (go_simp; with_reducible rfl)
        try simp only [Act.put, pA, pB, pC]
        refine tkH 19 ck19 ?_ rfl (by kernel_rfl) (fun _ _ _ h => h) (by rfl) ‹_› ?_ ?_
        rotate_left
        · intro W hSW; have z0 := cell_on hSW x2; have z1 := cell_on hSW x3; have z2 := cell_on hSW x4; have z3 := cell_on hSW y0; have z4 := cell_on hSW y1; have z5 := cell_on hSW y2; have z6 := cell_on hSW y3; have z7 := cell_on hSW q1; have z8 := cell_on hSW q3; have z9 := cell_on hSW q4; first | (go_simp; done) | (go_simp; with_reducible rfl)
        try simp only [Act.put, pA, pB, pC]
        refine tkH 20 ck20 ?_ rfl (by kernel_rfl) (fun _ _ _ h => h) (by rfl) ‹_› ?_ ?_
        rotate_left
        · intro W hSW; first | (go_simp; done) | (go_simp; with_reducible rfl)
        try simp only [Act.put, pA, pB, pC]
        refine tkH 21 ck21 (.bool true) rfl (by kernel_rfl) (fun _ _ _ h => h) (by rfl) ‹_› ?_ ?_
        · intro W hSW; first | (go_simp; done) | (go_simp; with_reducible rfl)
        try simp only [Act.put, pA, pB, pC]
        refine tkH 22 ck22 ?_ rfl (by kernel_rfl) (fun _ _ _ h => h) (by rfl) ‹_› ?_ ?_
        rotate_left
        · intro W hSW; first | (go_simp; done) | (go_simp; with_reducible rfl)
        try simp only [Act.put, pA, pB, pC]
        refine tkH 23 ck23 ?_ rfl (by kernel_rfl) (fun _ _ _ h => h) (by rfl) ‹_› ?_ ?_
        rotate_left
        · intro W hSW; first | (go_simp; done) | (go_simp; with_reducible rfl)
        try simp only [Act.put, pA, pB, pC]
        refine tkH 24 ck24 ?_ rfl (by kernel_rfl) (fun _ _ _ h => h) (by rfl) ‹_› ?_ ?_
        rotate_left
        · intro W hSW; first | (go_simp; done) | (go_simp; with_reducible rfl)
        try simp only [Act.put, pA, pB, pC]
        refine tkH 25 ck25 ?_ rfl (by kernel_rfl) (fun _ _ _ h => h) (by rfl) ‹_› ?_ ?_
        rotate_left
        · intro W hSW; have z0 := cell_on hSW x2; have z1 := cell_on hSW x3; have z2 := cell_on hSW x4; have z3 := cell_on hSW y0; have z4 := cell_on hSW y1; have z5 := cell_on hSW y2; have z6 := cell_on hSW y3; have z7 := cell_on hSW q1; have z8 := cell_on hSW q3; have z9 := cell_on hSW q4; first | (go_simp; done) | (go_simp; with_reducible rfl)
        try simp only [Act.put, pA, pB, pC]
        refine tkH 27 ck27 ?_ rfl (by kernel_rfl) (fun _ _ _ h => h) (by rfl) ‹_› ?_ ?_
        rotate_left
        · intro W hSW; first | (go_simp; done) | (go_simp; with_reducible rfl)
        try simp only [Act.put, pA, pB, pC]
        refine tkH 28 ck28 ?_ rfl (by kernel_rfl) (fun _ _ _ h => h) (by rfl) ‹_› ?_ ?_
        rotate_left
        · intro W hSW; have z0 := cell_on hSW x2; have z1 := cell_on hSW x3; have z2 := cell_on hSW x4; have z3 := cell_on hSW y0; have z4 := cell_on hSW y1; have z5 := cell_on hSW y2; have z6 := cell_on hSW y3; have z7 := cell_on hSW q1; have z8 := cell_on hSW q3; have z9 := cell_on hSW q4; first | (go_simp; done) | (go_simp; with_reducible rfl)
        try simp only [Act.put, pA, pB, pC]
        refine tkH 29 ck29 ?_ rfl (by kernel_rfl) (fun _ _ _ h => h) (by rfl) ‹_› ?_ ?_
        rotate_left
        · intro W hSW; first | (go_simp; done) | (go_simp; with_reducible rfl)
        try simp only [Act.put, pA, pB, pC]
        refine tkH 30 ck30 ?_ rfl (by kernel_rfl) (fun _ _ _ h => h) (by rfl) ‹_› ?_ ?_
        rotate_left
        · intro W hSW; have z0 := cell_on hSW x2; have z1 := cell_on hSW x3; have z2 := cell_on hSW x4; have z3 := cell_on hSW y0; have z4 := cell_on hSW y1; have z5 := cell_on hSW y2; have z6 := cell_on hSW y3; have z7 := cell_on hSW q1; have z8 := cell_on hSW q3; have z9 := cell_on hSW q4; first | (go_simp; done) | (go_simp; with_reducible rfl)
        try simp only [Act.put, pA, pB, pC]
        refine tkH 31 ck31 ?_ rfl (by kernel_rfl) (fun _ _ _ h => h) (by rfl) ‹_› ?_ ?_
        rotate_left
        · intro W hSW; first | (go_simp; done) | (go_simp; with_reducible rfl)
        try simp only [Act.put, pA, pB, pC]
        refine tkH 32 ck32 ?_ rfl (by kernel_rfl) (fun _ _ _ h => h) (by rfl) ‹_› ?_ ?_
        rotate_left
        · intro W hSW; have z0 := cell_on hSW x2; have z1 := cell_on hSW x3; have z2 := cell_on hSW x4; have z3 := cell_on hSW y0; have z4 := cell_on hSW y1; have z5 := cell_on hSW y2; have z6 := cell_on hSW y3; have z7 := cell_on hSW q1; have z8 := cell_on hSW q3; have z9 := cell_on hSW q4; first | (go_simp; done) | (go_simp; with_reducible rfl)
        try simp only [Act.put, pA, pB, pC]
        refine wpAnyH_lone (R := fun W => Below w2.heap.size w2 W) (i := 26) (oi := ck26) (vi := .string D) (by kernel_rfl) rfl hRw (fun _ h => h) ?_ ?_
        · intro W hW K hK
          go_simp
          refine (H26.out W hW).mono ?_
          rintro e W2 ⟨rfl, hb⟩
          go_wp2_with fail
          exact hK.out _ (below_then hW hb)
        clear hRw hHeld
        intro W9 hRw hHeld
        try simp only [Act.put, pA, pB, pC]
        refine tkH 33 ck33 (.bool true) rfl (by kernel_rfl) (fun _ _ _ h => h) (by rfl) ‹_› ?_ ?_
        · intro W hSW; first | (go_simp; done) | (go_simp; with_reducible rfl)
        try simp only [Act.put, pA, pB, pC]
        refine tkH 34 ck34 ?_ rfl (by kernel_rfl) (fun _ _ _ h => h) (by rfl) ‹_› ?_ ?_
        rotate_left
        · intro W hSW; first | (go_simp; done) | (go_simp; with_reducible rfl)
        try simp only [Act.put, pA, pB, pC]
        refine tkH 35 ck35 ?_ rfl (by kernel_rfl) (fun _ _ _ h => h) (by rfl) ‹_› ?_ ?_
        rotate_left
        · intro W hSW; first | (go_simp; done) | (go_simp; with_reducible rfl)
        try simp only [Act.put, pA, pB, pC]
        refine wpAnyH_take (i := 36) (oi := ck36) (v := .agg cs) rfl (by kernel_rfl) (by kernel_rfl) (by kernel_rfl) (fun _ _ _ h => h) (yields_loadV (by rfl) (.tmp 3) (by rfl) _ cs (by rfl) h7 (fun W hW => hx2.below hW)) (by assumption) ?_
        try simp only [Act.put, pA, pB, pC]
        refine tkH 37 ck37 ?_ rfl (by kernel_rfl) (fun _ _ _ h => h) (by rfl) ‹_› ?_ ?_
        rotate_left
        · intro W hSW; first | (go_simp; done) | (go_simp; with_reducible rfl)
        try simp only [Act.put, pA, pB, pC]
        refine tkH 38 ck38 ?_ rfl (by kernel_rfl) (fun _ _ _ h => h) (by rfl) ‹_› ?_ ?_
        rotate_left
        · intro W hSW; have z0 := cell_on hSW x2; have z1 := cell_on hSW x3; have z2 := cell_on hSW x4; have z3 := cell_on hSW y0; have z4 := cell_on hSW y1; have z5 := cell_on hSW y2; have z6 := cell_on hSW y3; have z7 := cell_on hSW q1; have z8 := cell_on hSW q3; have z9 := cell_on hSW q4; first | (go_simp; done) | (go_simp; with_reducible rfl)
        try simp only [Act.put, pA, pB, pC]
        refine tkH 39 ck39 ?_ rfl (by kernel_rfl) (fun _ _ _ h => h) (by rfl) ‹_› ?_ ?_
        rotate_left
        · intro W hSW; first | (go_simp; done) | (go_simp; with_reducible rfl)
        try simp only [Act.put, pA, pB, pC]
        refine tkH 40 ck40 ?_ rfl (by kernel_rfl) (fun _ _ _ h => h) (by rfl) ‹_› ?_ ?_
        rotate_left
        · intro W hSW; have z0 := cell_on hSW x2; have z1 := cell_on hSW x3; have z2 := cell_on hSW x4; have z3 := cell_on hSW y0; have z4 := cell_on hSW y1; have z5 := cell_on hSW y2; have z6 := cell_on hSW y3; have z7 := cell_on hSW q1; have z8 := cell_on hSW q3; have z9 := cell_on hSW q4; first | (go_simp; done) | (go_simp; with_reducible rfl)
        try simp only [Act.put, pA, pB, pC]
        refine tkH 41 ck41 ?_ rfl (by kernel_rfl) (fun _ _ _ h => h) (by rfl) ‹_› ?_ ?_
        rotate_left
        · intro W hSW; first | (go_simp; done) | (go_simp; with_reducible rfl)
        try simp only [Act.put, pA, pB, pC]
        refine tkH 42 ck42 ?_ rfl (by kernel_rfl) (fun _ _ _ h => h) (by rfl) ‹_› ?_ ?_
        rotate_left
        · intro W hSW; first | (go_simp; done) | (go_simp; with_reducible rfl)
        try simp only [Act.put, pA, pB, pC]
        refine tkH 43 ck43 ?_ rfl (by kernel_rfl) (fun _ _ _ h => h) (by rfl) ‹_› ?_ ?_
        rotate_left
        · intro W hSW; first | (go_simp; done) | (go_simp; with_reducible rfl)
        try simp only [Act.put, pA, pB, pC]
        refine tkH 44 ck44 ?_ rfl (by kernel_rfl) (fun _ _ _ h => h) (by rfl) ‹_› ?_ ?_
        rotate_left
        · intro W hSW; have z0 := cell_on hSW x2; have z1 := cell_on hSW x3; have z2 := cell_on hSW x4; have z3 := cell_on hSW y0; have z4 := cell_on hSW y1; have z5 := cell_on hSW y2; have z6 := cell_on hSW y3; have z7 := cell_on hSW q1; have z8 := cell_on hSW q3; have z9 := cell_on hSW q4; first | (go_simp; done) | (go_simp; with_reducible rfl)
        try simp only [Act.put, pA, pB, pC]
        refine tkH 45 ck45 ?_ rfl (by kernel_rfl) (fun _ _ _ h => h) (by rfl) ‹_› ?_ ?_
        rotate_left
        · intro W hSW; first | (go_simp; done) | (go_simp; with_reducible rfl)
        try simp only [Act.put, pA, pB, pC]
        refine tkH 46 ck46 ?_ rfl (by kernel_rfl) (fun _ _ _ h => h) (by rfl) ‹_› ?_ ?_
        rotate_left
        · intro W hSW; have z0 := cell_on hSW x2; have z1 := cell_on hSW x3; have z2 := cell_on hSW x4; have z3 := cell_on hSW y0; have z4 := cell_on hSW y1; have z5 := cell_on hSW y2; have z6 := cell_on hSW y3; have z7 := cell_on hSW q1; have z8 := cell_on hSW q3; have z9 := cell_on hSW q4; first | (go_simp; done) | (go_simp; with_reducible rfl)
        try simp only [Act.put, pA, pB, pC]
        refine tkH 47 ck47 ?_ rfl (by kernel_rfl) (fun _ _ _ h => h) (by rfl) ‹_› ?_ ?_
        rotate_left
        · intro W hSW; first | (go_simp; done) | (go_simp; with_reducible rfl)
        try simp only [Act.put, pA, pB, pC]
        refine tkH 48 ck48 ?_ rfl (by kernel_rfl) (fun _ _ _ h => h) (by rfl) ‹_› ?_ ?_
        rotate_left
        · intro W hSW; have z0 := cell_on hSW x2; have z1 := cell_on hSW x3; have z2 := cell_on hSW x4; have z3 := cell_on hSW y0; have z4 := cell_on hSW y1; have z5 := cell_on hSW y2; have z6 := cell_on hSW y3; have z7 := cell_on hSW q1; have z8 := cell_on hSW q3; have z9 := cell_on hSW q4; first | (go_simp; done) | (go_simp; with_reducible rfl)
        try simp only [Act.put, pA, pB, pC]
        refine tkH 49 ck49 ?_ rfl (by kernel_rfl) (fun _ _ _ h => h) (by rfl) ‹_› ?_ ?_
        rotate_left
        · intro W hSW; first | (go_simp; done) | (go_simp; with_reducible rfl)
        try simp only [Act.put, pA, pB, pC]
        refine tkH 50 ck50 ?_ rfl (by kernel_rfl) (fun _ _ _ h => h) (by rfl) ‹_› ?_ ?_
        rotate_left
        · intro W hSW; have z0 := cell_on hSW x2; have z1 := cell_on hSW x3; have z2 := cell_on hSW x4; have z3 := cell_on hSW y0; have z4 := cell_on hSW y1; have z5 := cell_on hSW y2; have z6 := cell_on hSW y3; have z7 := cell_on hSW q1; have z8 := cell_on hSW q3; have z9 := cell_on hSW q4; first | (go_simp; done) | (go_simp; with_reducible rfl)
        try simp only [Act.put, pA, pB, pC]
        refine wpAnyH_lone (R := fun W => Below w2.heap.size w2 W) (i := 51) (oi := ck51) (vi := .bool true) (by kernel_rfl) rfl hRw (fun _ h => h) ?_ ?_
        · intro W hW K hK
          go_simp
          refine (H51.out W hW).mono ?_
          rintro e W2 ⟨rfl, hb⟩
          go_wp2_with fail
          exact hK.out _ (below_then hW hb)
        clear hRw hHeld
        intro W9 hRw hHeld
        try simp only [Act.put, pA, pB, pC]
        refine tkH 52 ck52 ?_ rfl (by kernel_rfl) (fun _ _ _ h => h) (by rfl) ‹_› ?_ ?_
        rotate_left
        · intro W hSW; first | (go_simp; done) | (go_simp; with_reducible rfl)
        try simp only [Act.put, pA, pB, pC]
        refine tkH 53 ck53 ?_ rfl (by kernel_rfl) (fun _ _ _ h => h) (by rfl) ‹_› ?_ ?_
        rotate_left
        · intro W hSW; first | (go_simp; done) | (go_simp; with_reducible rfl)
        try simp only [Act.put, pA, pB, pC]
        refine tkH 54 ck54 ?_ rfl (by kernel_rfl) (fun _ _ _ h => h) (by rfl) ‹_› ?_ ?_
        rotate_left
        · intro W hSW; first | (go_simp; done) | (go_simp; with_reducible rfl)
        try simp only [Act.put, pA, pB, pC]
        refine tkH 55 ck55 ?_ rfl (by kernel_rfl) (fun _ _ _ h => h) (by rfl) ‹_› ?_ ?_
        rotate_left
        · intro W hSW; have z0 := cell_on hSW x2; have z1 := cell_on hSW x3; have z2 := cell_on hSW x4; have z3 := cell_on hSW y0; have z4 := cell_on hSW y1; have z5 := cell_on hSW y2; have z6 := cell_on hSW y3; have z7 := cell_on hSW q1; have z8 := cell_on hSW q3; have z9 := cell_on hSW q4; first | (go_simp; done) | (go_simp; with_reducible rfl)
        try simp only [Act.put, pA, pB, pC]
        refine tkH 56 ck56 ?_ rfl (by kernel_rfl) (fun _ _ _ h => h) (by rfl) ‹_› ?_ ?_
        rotate_left
        · intro W hSW; first | (go_simp; done) | (go_simp; with_reducible rfl)
        try simp only [Act.put, pA, pB, pC]
        refine tkH 57 ck57 ?_ rfl (by kernel_rfl) (fun _ _ _ h => h) (by rfl) ‹_› ?_ ?_
        rotate_left
        · intro W hSW; first | (go_simp; done) | (go_simp; with_reducible rfl)
        try simp only [Act.put, pA, pB, pC]
        refine tkH 58 ck58 ?_ rfl (by kernel_rfl) (fun _ _ _ h => h) (by rfl) ‹_› ?_ ?_
        rotate_left
        · intro W hSW; have z0 := cell_on hSW x2; have z1 := cell_on hSW x3; have z2 := cell_on hSW x4; have z3 := cell_on hSW y0; have z4 := cell_on hSW y1; have z5 := cell_on hSW y2; have z6 := cell_on hSW y3; have z7 := cell_on hSW q1; have z8 := cell_on hSW q3; have z9 := cell_on hSW q4; first | (go_simp; done) | (go_simp; with_reducible rfl)
        try simp only [Act.put, pA, pB, pC]
        refine tkH 59 ck59 ?_ rfl (by kernel_rfl) (fun _ _ _ h => h) (by rfl) ‹_› ?_ ?_
        rotate_left
        · intro W hSW; first | (go_simp; done) | (go_simp; with_reducible rfl)
        try simp only [Act.put, pA, pB, pC]
        refine tkH 60 ck60 (.bool true) rfl (by kernel_rfl) (fun _ _ _ h => h) (by rfl) ‹_› ?_ ?_
        · intro W hSW; first | (go_simp; done) | (go_simp; with_reducible rfl)
        try simp only [Act.put, pA, pB, pC]
        refine tkH 61 ck61 ?_ rfl (by kernel_rfl) (fun _ _ _ h => h) (by rfl) ‹_› ?_ ?_
        rotate_left
        · intro W hSW; first | (go_simp; done) | (go_simp; with_reducible rfl)
        try simp only [Act.put, pA, pB, pC]
        refine tkH 62 ck62 ?_ rfl (by kernel_rfl) (fun _ _ _ h => h) (by rfl) ‹_› ?_ ?_
        rotate_left
        · intro W hSW; first | (go_simp; done) | (go_simp; with_reducible rfl)
        try simp only [Act.put, pA, pB, pC]
        refine wpAnyH_take (i := 63) (oi := ck63) (v := .agg cs) rfl (by kernel_rfl) (by kernel_rfl) (by kernel_rfl) (fun _ _ _ h => h) (yields_loadV (by rfl) (.tmp 3) (by rfl) _ cs (by rfl) h7 (fun W hW => hx2.below hW)) (by assumption) ?_
        try simp only [Act.put, pA, pB, pC]
        refine wpAnyH_take (i := 64) (oi := ck64) (v := .agg (hcells pa sa pc sc K)) rfl (by kernel_rfl) (by kernel_rfl) (by kernel_rfl) (fun _ _ _ h => h) (yields_loadK (by rfl) (.tmp 5) (by rfl) _ (hcells pa sa pc sc K) (by rfl) rfl (fun W hW => hy2.below hW (by omega))) (by assumption) ?_
        try simp only [Act.put, pA, pB, pC]
        refine wpAnyH_lone (R := fun W => Below w2.heap.size w2 W) (i := 65) (oi := ck65) (vi := .bool false) (by kernel_rfl) rfl hRw (fun _ h => h) ?_ ?_
        · intro W hW K hK
          go_simp
          refine (H65.out W hW).mono ?_
          rintro e W2 ⟨rfl, hb⟩
          go_wp2_with fail
          exact hK.out _ (below_then hW hb)
        clear hRw hHeld
        intro W9 hRw hHeld
        try simp only [Act.put, pA, pB, pC]
        refine tkH 66 ck66 ?_ rfl (by kernel_rfl) (fun _ _ _ h => h) (by rfl) ‹_› ?_ ?_
        rotate_left
        · intro W hSW; first | (go_simp; done) | (go_simp; with_reducible rfl)
        try simp only [Act.put, pA, pB, pC]
        refine tkH 67 ck67 ?_ rfl (by kernel_rfl) (fun _ _ _ h => h) (by rfl) ‹_› ?_ ?_
        rotate_left
        · intro W hSW; first | (go_simp; done) | (go_simp; with_reducible rfl)
        try simp only [Act.put, pA, pB, pC]
        refine wpAnyH_done (by kernel_rfl) ?_ _
        have hB9 := HB.out _ hRw
        clear hRw hHeld
        go_wp2
        go_ret
        exact ⟨ret_bool hf.out.symm, hB9⟩
    · have hf : Hid (r = false) := hno.out (fun h => c6 h.2.2.2.2.2.2.1)
      have t6 : ((ns : Int) == (np : Int)) = false := by
        rw [beq_eq_false_iff_ne, ← hns.out, ← hnp.out]; omega
      clear c6 hno hyes
      have hRw : Below w2.heap.size w2 w2.drew := ⟨rfl, rfl, rfl, Nat.le_refl _, fun _ _ => rfl⟩
      refine wp_region_held_drew (S := fun W => Below w2.heap.size w2 W) (by kernel_rfl) hRw (fun hHeld => ?_)
      refine wpAnyH_take (i := 0) (oi := ck0) (v := .agg cs) rfl (by kernel_rfl) (by kernel_rfl) (by kernel_rfl) (fun _ _ _ h => h) (yields_loadV (by rfl) (.tmp 3) (by rfl) _ cs (by rfl) h7 (fun W hW => hx2.below hW)) (by assumption) ?_
      try simp only [Act.put, pA, pB, pC]
      refine wpAnyH_lone (R := fun W => Below w2.heap.size w2 W) (i := 1) (oi := ck1) (vi := .bool true) (by kernel_rfl) rfl hRw (fun _ h => h) ?_ ?_
      · intro W hW K hK
        go_simp
        refine (H1.out W hW).mono ?_
        rintro e W2 ⟨rfl, hb⟩
        go_wp2_with fail
        exact hK.out _ (below_then hW hb)
      clear hRw hHeld
      intro W9 hRw hHeld
      try simp only [Act.put, pA, pB, pC]
      refine tkH 2 ck2 ?_ rfl (by kernel_rfl) (fun _ _ _ h => h) (by rfl) ‹_› ?_ ?_
      rotate_left
      · intro W hSW; first | (go_simp; done) | (go_simp; with_reducible rfl)
      try simp only [Act.put, pA, pB, pC]
      refine tkH 3 ck3 ?_ rfl (by kernel_rfl) (fun _ _ _ h => h) (by rfl) ‹_› ?_ ?_
      rotate_left
      · intro W hSW; first | (go_simp; done) | (go_simp; with_reducible rfl)
      try simp only [Act.put, pA, pB, pC]
      refine tkH 4 ck4 ?_ rfl (by kernel_rfl) (fun _ _ _ h => h) (by rfl) ‹_› ?_ ?_
      rotate_left
      · intro W hSW; first | (go_simp; done) | (go_simp; with_reducible rfl)
      try simp only [Act.put, pA, pB, pC]
      refine tkH 5 ck5 ?_ rfl (by kernel_rfl) (fun _ _ _ h => h) (by rfl) ‹_› ?_ ?_
      rotate_left
      · intro W hSW; have z0 := cell_on hSW x2; have z1 := cell_on hSW x3; have z2 := cell_on hSW x4; have z3 := cell_on hSW y0; have z4 := cell_on hSW y1; have z5 := cell_on hSW y2; have z6 := cell_on hSW y3; have z7 := cell_on hSW q1; have z8 := cell_on hSW q3; have z9 := cell_on hSW q4; first | (go_simp; done) | (go_simp; with_reducible rfl)
      try simp only [Act.put, pA, pB, pC]
      refine tkH 6 ck6 ?_ rfl (by kernel_rfl) (fun _ _ _ h => h) (by rfl) ‹_› ?_ ?_
      rotate_left
      · intro W hSW; first | (go_simp; done) | (go_simp; with_reducible rfl)
      try simp only [Act.put, pA, pB, pC]
      refine wpAnyH_lone (R := fun W => Below w2.heap.size w2 W) (i := 7) (oi := ck7) (vi := .bool true) (by kernel_rfl) rfl hRw (fun _ h => h) ?_ ?_
      · intro W hW K hK
        go_simp
        refine (H7.out W hW).mono ?_
        rintro e W2 ⟨rfl, hb⟩
        go_wp2_with fail
        exact hK.out _ (below_then hW hb)
      clear hRw hHeld
      intro W9 hRw hHeld
      try simp only [Act.put, pA, pB, pC]
      refine tkH 8 ck8 ?_ rfl (by kernel_rfl) (fun _ _ _ h => h) (by rfl) ‹_› ?_ ?_
      rotate_left
      · intro W hSW; first | (go_simp; done) | (go_simp; with_reducible rfl)
      try simp only [Act.put, pA, pB, pC]
      refine tkH 9 ck9 ?_ rfl (by kernel_rfl) (fun _ _ _ h => h) (by rfl) ‹_› ?_ ?_
      rotate_left
      · intro W hSW; first | (go_simp; done) | (go_simp; with_reducible rfl)
      try simp only [Act.put, pA, pB, pC]
      refine tkH 10 ck10 ?_ rfl (by kernel_rfl) (fun _ _ _ h => h) (by rfl) ‹_› ?_ ?_
      rotate_left
      · intro W hSW; first | (go_simp; done) | (go_simp; with_reducible rfl)
      try simp only [Act.put, pA, pB, pC]
      refine tkH 11 ck11 ?_ rfl (by kernel_rfl) (fun _ _ _ h => h) (by rfl) ‹_› ?_ ?_
      rotate_left
      · intro W hSW; have z0 := cell_on hSW x2; have z1 := cell_on hSW x3; have z2 := cell_on hSW x4; have z3 := cell_on hSW y0; have z4 := cell_on hSW y1; have z5 := cell_on hSW y2; have z6 := cell_on hSW y3; have z7 := cell_on hSW q1; have z8 := cell_on hSW q3; have z9 := cell_on hSW q4; first | (go_simp; done) | (go_simp; with_reducible rfl)
      try simp only [Act.put, pA, pB, pC]
      refine tkH 12 ck12 ?_ rfl (by kernel_rfl) (fun _ _ _ h => h) (by rfl) ‹_› ?_ ?_
      rotate_left
      · intro W hSW; first | (go_simp; done) | (go_simp; with_reducible rfl)
      try simp only [Act.put, pA, pB, pC]
      refine tkH 13 ck13 ?_ rfl (by kernel_rfl) (fun _ _ _ h => h) (by rfl) ‹_› ?_ ?_
      rotate_left
      · intro W hSW; have z0 := cell_on hSW x2; have z1 := cell_on hSW x3; have z2 := cell_on hSW x4; have z3 := cell_on hSW y0; have z4 := cell_on hSW y1; have z5 := cell_on hSW y2; have z6 := cell_on hSW y3; have z7 := cell_on hSW q1; have z8 := cell_on hSW q3; have z9 := cell_on hSW q4; first | (go_simp; done) | (go_simp; with_reducible rfl)
      try simp only [Act.put, pA, pB, pC]
      refine tkH 14 ck14 ?_ rfl (by kernel_rfl) (fun _ _ _ h => h) (by rfl) ‹_› ?_ ?_
      rotate_left
      · intro W hSW; first | (go_simp; done) | (go_simp; with_reducible rfl)
      try simp only [Act.put, pA, pB, pC]
      refine wpAnyH_lone (R := fun W => Below w2.heap.size w2 W) (i := 15) (oi := ck15) (vi := .bool true) (by kernel_rfl) rfl hRw (fun _ h => h) ?_ ?_
      · intro W hW K hK
        go_simp
        refine (H15.out W hW).mono ?_
        rintro e W2 ⟨rfl, hb⟩
        go_wp2_with fail
        exact hK.out _ (below_then hW hb)
      clear hRw hHeld
      intro W9 hRw hHeld
      try simp only [Act.put, pA, pB, pC]
      refine tkH 16 ck16 ?_ rfl (by kernel_rfl) (fun _ _ _ h => h) (by rfl) ‹_› ?_ ?_
      rotate_left
      · intro W hSW; first | (go_simp; done) | (go_simp; with_reducible rfl)
      try simp only [Act.put, pA, pB, pC]
      refine tkH 17 ck17 ?_ rfl (by kernel_rfl) (fun _ _ _ h => h) (by rfl) ‹_› ?_ ?_
      rotate_left
      · intro W hSW; first | (go_simp; done) | (go_simp; with_reducible rfl)
      try simp only [Act.put, pA, pB, pC]
      refine tkH 18 ck18 ?_ rfl (by kernel_rfl) (fun _ _ _ h => h) (by rfl) ‹_› ?_ ?_
      rotate_left
      · intro W hSW; first | (go_simp; done) | (go_simp; with_reducible rfl)
      try simp only [Act.put, pA, pB, pC]
      refine tkH 19 ck19 ?_ rfl (by kernel_rfl) (fun _ _ _ h => h) (by rfl) ‹_› ?_ ?_
      rotate_left
      · intro W hSW; have z0 := cell_on hSW x2; have z1 := cell_on hSW x3; have z2 := cell_on hSW x4; have z3 := cell_on hSW y0; have z4 := cell_on hSW y1; have z5 := cell_on hSW y2; have z6 := cell_on hSW y3; have z7 := cell_on hSW q1; have z8 := cell_on hSW q3; have z9 := cell_on hSW q4; first | (go_simp; done) | (go_simp; with_reducible rfl)
      try simp only [Act.put, pA, pB, pC]
      refine tkH 20 ck20 ?_ rfl (by kernel_rfl) (fun _ _ _ h => h) (by rfl) ‹_› ?_ ?_
      rotate_left
      · intro W hSW; first | (go_simp; done) | (go_simp; with_reducible rfl)
      try simp only [Act.put, pA, pB, pC]
      refine tkH 21 ck21 (.bool true) rfl (by kernel_rfl) (fun _ _ _ h => h) (by rfl) ‹_› ?_ ?_
      · intro W hSW; first | (go_simp; done) | (go_simp; with_reducible rfl)
      try simp only [Act.put, pA, pB, pC]
      refine tkH 22 ck22 ?_ rfl (by kernel_rfl) (fun _ _ _ h => h) (by rfl) ‹_› ?_ ?_
      rotate_left
      · intro W hSW; first | (go_simp; done) | (go_simp; with_reducible rfl)
      try simp only [Act.put, pA, pB, pC]
      refine tkH 23 ck23 ?_ rfl (by kernel_rfl) (fun _ _ _ h => h) (by rfl) ‹_› ?_ ?_
      rotate_left
      · intro W hSW; first | (go_simp; done) | (go_simp; with_reducible rfl)
      try simp only [Act.put, pA, pB, pC]
      refine tkH 24 ck24 ?_ rfl (by kernel_rfl) (fun _ _ _ h => h) (by rfl) ‹_› ?_ ?_
      rotate_left
      · intro W hSW; first | (go_simp; done) | (go_simp; with_reducible rfl)
      try simp only [Act.put, pA, pB, pC]
      refine tkH 25 ck25 ?_ rfl (by kernel_rfl) (fun _ _ _ h => h) (by rfl) ‹_› ?_ ?_
      rotate_left
      · intro W hSW; have z0 := cell_on hSW x2; have z1 := cell_on hSW x3; have z2 := cell_on hSW x4; have z3 := cell_on hSW y0; have z4 := cell_on hSW y1; have z5 := cell_on hSW y2; have z6 := cell_on hSW y3; have z7 := cell_on hSW q1; have z8 := cell_on hSW q3; have z9 := cell_on hSW q4; first | (go_simp; done) | (go_simp; with_reducible rfl)
      try simp only [Act.put, pA, pB, pC]
      refine tkH 27 ck27 ?_ rfl (by kernel_rfl) (fun _ _ _ h => h) (by rfl) ‹_› ?_ ?_
      rotate_left
      · intro W hSW; first | (go_simp; done) | (go_simp; with_reducible rfl)
      try simp only [Act.put, pA, pB, pC]
      refine tkH 28 ck28 ?_ rfl (by kernel_rfl) (fun _ _ _ h => h) (by rfl) ‹_› ?_ ?_
      rotate_left
      · intro W hSW; have z0 := cell_on hSW x2; have z1 := cell_on hSW x3; have z2 := cell_on hSW x4; have z3 := cell_on hSW y0; have z4 := cell_on hSW y1; have z5 := cell_on hSW y2; have z6 := cell_on hSW y3; have z7 := cell_on hSW q1; have z8 := cell_on hSW q3; have z9 := cell_on hSW q4; first | (go_simp; done) | (go_simp; with_reducible rfl)
      try simp only [Act.put, pA, pB, pC]
      refine tkH 29 ck29 ?_ rfl (by kernel_rfl) (fun _ _ _ h => h) (by rfl) ‹_› ?_ ?_
      rotate_left
      · intro W hSW; first | (go_simp; done) | (go_simp; with_reducible rfl)
      try simp only [Act.put, pA, pB, pC]
      refine tkH 30 ck30 ?_ rfl (by kernel_rfl) (fun _ _ _ h => h) (by rfl) ‹_› ?_ ?_
      rotate_left
      · intro W hSW; have z0 := cell_on hSW x2; have z1 := cell_on hSW x3; have z2 := cell_on hSW x4; have z3 := cell_on hSW y0; have z4 := cell_on hSW y1; have z5 := cell_on hSW y2; have z6 := cell_on hSW y3; have z7 := cell_on hSW q1; have z8 := cell_on hSW q3; have z9 := cell_on hSW q4; first | (go_simp; done) | (go_simp; with_reducible rfl)
      try simp only [Act.put, pA, pB, pC]
      refine tkH 31 ck31 ?_ rfl (by kernel_rfl) (fun _ _ _ h => h) (by rfl) ‹_› ?_ ?_
      rotate_left
      · intro W hSW; first | (go_simp; done) | (go_simp; with_reducible rfl)
      try simp only [Act.put, pA, pB, pC]
      refine tkH 32 ck32 ?_ rfl (by kernel_rfl) (fun _ _ _ h => h) (by rfl) ‹_› ?_ ?_
      rotate_left
      · intro W hSW; have z0 := cell_on hSW x2; have z1 := cell_on hSW x3; have z2 := cell_on hSW x4; have z3 := cell_on hSW y0; have z4 := cell_on hSW y1; have z5 := cell_on hSW y2; have z6 := cell_on hSW y3; have z7 := cell_on hSW q1; have z8 := cell_on hSW q3; have z9 := cell_on hSW q4; first | (go_simp; done) | (go_simp; with_reducible rfl)
      try simp only [Act.put, pA, pB, pC]
      refine wpAnyH_lone (R := fun W => Below w2.heap.size w2 W) (i := 26) (oi := ck26) (vi := .string D) (by kernel_rfl) rfl hRw (fun _ h => h) ?_ ?_
      · intro W hW K hK
        go_simp
        refine (H26.out W hW).mono ?_
        rintro e W2 ⟨rfl, hb⟩
        go_wp2_with fail
        exact hK.out _ (below_then hW hb)
      clear hRw hHeld
      intro W9 hRw hHeld
      try simp only [Act.put, pA, pB, pC]
      refine tkH 33 ck33 (.bool true) rfl (by kernel_rfl) (fun _ _ _ h => h) (by rfl) ‹_› ?_ ?_
      · intro W hSW; first | (go_simp; done) | (go_simp; with_reducible rfl)
      try simp only [Act.put, pA, pB, pC]
      refine tkH 34 ck34 ?_ rfl (by kernel_rfl) (fun _ _ _ h => h) (by rfl) ‹_› ?_ ?_
      rotate_left
      · intro W hSW; first | (go_simp; done) | (go_simp; with_reducible rfl)
      try simp only [Act.put, pA, pB, pC]
      refine tkH 35 ck35 ?_ rfl (by kernel_rfl) (fun _ _ _ h => h) (by rfl) ‹_› ?_ ?_
      rotate_left
      · intro W hSW; first | (go_simp; done) | (go_simp; with_reducible rfl)
      try simp only [Act.put, pA, pB, pC]
      refine wpAnyH_take (i := 36) (oi := ck36) (v := .agg cs) rfl (by kernel_rfl) (by kernel_rfl) (by kernel_rfl) (fun _ _ _ h => h) (yields_loadV (by rfl) (.tmp 3) (by rfl) _ cs (by rfl) h7 (fun W hW => hx2.below hW)) (by assumption) ?_
      try simp only [Act.put, pA, pB, pC]
      refine tkH 37 ck37 ?_ rfl (by kernel_rfl) (fun _ _ _ h => h) (by rfl) ‹_› ?_ ?_
      rotate_left
      · intro W hSW; first | (go_simp; done) | (go_simp; with_reducible rfl)
      try simp only [Act.put, pA, pB, pC]
      refine tkH 38 ck38 ?_ rfl (by kernel_rfl) (fun _ _ _ h => h) (by rfl) ‹_› ?_ ?_
      rotate_left
      · intro W hSW; have z0 := cell_on hSW x2; have z1 := cell_on hSW x3; have z2 := cell_on hSW x4; have z3 := cell_on hSW y0; have z4 := cell_on hSW y1; have z5 := cell_on hSW y2; have z6 := cell_on hSW y3; have z7 := cell_on hSW q1; have z8 := cell_on hSW q3; have z9 := cell_on hSW q4; first | (go_simp; done) | (go_simp; with_reducible rfl)
      try simp only [Act.put, pA, pB, pC]
      refine tkH 39 ck39 ?_ rfl (by kernel_rfl) (fun _ _ _ h => h) (by rfl) ‹_› ?_ ?_
      rotate_left
      · intro W hSW; first | (go_simp; done) | (go_simp; with_reducible rfl)
      try simp only [Act.put, pA, pB, pC]
      refine tkH 40 ck40 ?_ rfl (by kernel_rfl) (fun _ _ _ h => h) (by rfl) ‹_› ?_ ?_
      rotate_left
      · intro W hSW; have z0 := cell_on hSW x2; have z1 := cell_on hSW x3; have z2 := cell_on hSW x4; have z3 := cell_on hSW y0; have z4 := cell_on hSW y1; have z5 := cell_on hSW y2; have z6 := cell_on hSW y3; have z7 := cell_on hSW q1; have z8 := cell_on hSW q3; have z9 := cell_on hSW q4; first | (go_simp; done) | (go_simp; with_reducible rfl)
      try simp only [Act.put, pA, pB, pC]
      refine tkH 41 ck41 ?_ rfl (by kernel_rfl) (fun _ _ _ h => h) (by rfl) ‹_› ?_ ?_
      rotate_left
      · intro W hSW; first | (go_simp; done) | (go_simp; with_reducible rfl)
      try simp only [Act.put, pA, pB, pC]
      refine tkH 42 ck42 ?_ rfl (by kernel_rfl) (fun _ _ _ h => h) (by rfl) ‹_› ?_ ?_
      rotate_left
      · intro W hSW; first | (go_simp; done) | (go_simp; with_reducible rfl)
      try simp only [Act.put, pA, pB, pC]
      refine tkH 43 ck43 ?_ rfl (by kernel_rfl) (fun _ _ _ h => h) (by rfl) ‹_› ?_ ?_
      rotate_left
      · intro W hSW; first | (go_simp; done) | (go_simp; with_reducible rfl)
      try simp only [Act.put, pA, pB, pC]
      refine tkH 44 ck44 ?_ rfl (by kernel_rfl) (fun _ _ _ h => h) (by rfl) ‹_› ?_ ?_
      rotate_left
      · intro W hSW; have z0 := cell_on hSW x2; have z1 := cell_on hSW x3; have z2 := cell_on hSW x4; have z3 := cell_on hSW y0; have z4 := cell_on hSW y1; have z5 := cell_on hSW y2; have z6 := cell_on hSW y3; have z7 := cell_on hSW q1; have z8 := cell_on hSW q3; have z9 := cell_on hSW q4; first | (go_simp; done) | (go_simp; with_reducible rfl)
      try simp only [Act.put, pA, pB, pC]
      refine tkH 45 ck45 ?_ rfl (by kernel_rfl) (fun _ _ _ h => h) (by rfl) ‹_› ?_ ?_
      rotate_left
      · intro W hSW; first | (go_simp; done) | (go_simp; with_reducible rfl)
      try simp only [Act.put, pA, pB, pC]
      refine tkH 46 ck46 ?_ rfl (by kernel_rfl) (fun _ _ _ h => h) (by rfl) ‹_› ?_ ?_
      rotate_left
      · intro W hSW; have z0 := cell_on hSW x2; have z1 := cell_on hSW x3; have z2 := cell_on hSW x4; have z3 := cell_on hSW y0; have z4 := cell_on hSW y1; have z5 := cell_on hSW y2; have z6 := cell_on hSW y3; have z7 := cell_on hSW q1; have z8 := cell_on hSW q3; have z9 := cell_on hSW q4; first | (go_simp; done) | (go_simp; with_reducible rfl)
      try simp only [Act.put, pA, pB, pC]
      refine tkH 47 ck47 ?_ rfl (by kernel_rfl) (fun _ _ _ h => h) (by rfl) ‹_› ?_ ?_
      rotate_left
      · intro W hSW; first | (go_simp; done) | (go_simp; with_reducible rfl)
      try simp only [Act.put, pA, pB, pC]
      refine tkH 48 ck48 ?_ rfl (by kernel_rfl) (fun _ _ _ h => h) (by rfl) ‹_› ?_ ?_
      rotate_left
      · intro W hSW; have z0 := cell_on hSW x2; have z1 := cell_on hSW x3; have z2 := cell_on hSW x4; have z3 := cell_on hSW y0; have z4 := cell_on hSW y1; have z5 := cell_on hSW y2; have z6 := cell_on hSW y3; have z7 := cell_on hSW q1; have z8 := cell_on hSW q3; have z9 := cell_on hSW q4; first | (go_simp; done) | (go_simp; with_reducible rfl)
      try simp only [Act.put, pA, pB, pC]
      refine tkH 49 ck49 ?_ rfl (by kernel_rfl) (fun _ _ _ h => h) (by rfl) ‹_› ?_ ?_
      rotate_left
      · intro W hSW; first | (go_simp; done) | (go_simp; with_reducible rfl)
      try simp only [Act.put, pA, pB, pC]
      refine tkH 50 ck50 ?_ rfl (by kernel_rfl) (fun _ _ _ h => h) (by rfl) ‹_› ?_ ?_
      rotate_left
      · intro W hSW; have z0 := cell_on hSW x2; have z1 := cell_on hSW x3; have z2 := cell_on hSW x4; have z3 := cell_on hSW y0; have z4 := cell_on hSW y1; have z5 := cell_on hSW y2; have z6 := cell_on hSW y3; have z7 := cell_on hSW q1; have z8 := cell_on hSW q3; have z9 := cell_on hSW q4; first | (go_simp; done) | (go_simp; with_reducible rfl)
      try simp only [Act.put, pA, pB, pC]
      refine wpAnyH_lone (R := fun W => Below w2.heap.size w2 W) (i := 51) (oi := ck51) (vi := .bool true) (by kernel_rfl) rfl hRw (fun _ h => h) ?_ ?_
      · intro W hW K hK
        go_simp
        refine (H51.out W hW).mono ?_
        rintro e W2 ⟨rfl, hb⟩
        go_wp2_with fail
        exact hK.out _ (below_then hW hb)
      clear hRw hHeld
      intro W9 hRw hHeld
      try simp only [Act.put, pA, pB, pC]
      refine tkH 52 ck52 ?_ rfl (by kernel_rfl) (fun _ _ _ h => h) (by rfl) ‹_› ?_ ?_
      rotate_left
      · intro W hSW; first | (go_simp; done) | (go_simp; with_reducible rfl)
      try simp only [Act.put, pA, pB, pC]
      refine tkH 53 ck53 ?_ rfl (by kernel_rfl) (fun _ _ _ h => h) (by rfl) ‹_› ?_ ?_
      rotate_left
      · intro W hSW; first | (go_simp; done) | (go_simp; with_reducible rfl)
      try simp only [Act.put, pA, pB, pC]
      refine tkH 54 ck54 ?_ rfl (by kernel_rfl) (fun _ _ _ h => h) (by rfl) ‹_› ?_ ?_
      rotate_left
      · intro W hSW; first | (go_simp; done) | (go_simp; with_reducible rfl)
      try simp only [Act.put, pA, pB, pC]
      refine tkH 55 ck55 ?_ rfl (by kernel_rfl) (fun _ _ _ h => h) (by rfl) ‹_› ?_ ?_
      rotate_left
      · intro W hSW; have z0 := cell_on hSW x2; have z1 := cell_on hSW x3; have z2 := cell_on hSW x4; have z3 := cell_on hSW y0; have z4 := cell_on hSW y1; have z5 := cell_on hSW y2; have z6 := cell_on hSW y3; have z7 := cell_on hSW q1; have z8 := cell_on hSW q3; have z9 := cell_on hSW q4; first | (go_simp; done) | (go_simp; with_reducible rfl)
      try simp only [Act.put, pA, pB, pC]
      refine tkH 56 ck56 ?_ rfl (by kernel_rfl) (fun _ _ _ h => h) (by rfl) ‹_› ?_ ?_
      rotate_left
      · intro W hSW; first | (go_simp; done) | (go_simp; with_reducible rfl)
      try simp only [Act.put, pA, pB, pC]
      refine tkH 57 ck57 ?_ rfl (by kernel_rfl) (fun _ _ _ h => h) (by rfl) ‹_› ?_ ?_
      rotate_left
      · intro W hSW; first | (go_simp; done) | (go_simp; with_reducible rfl)
      try simp only [Act.put, pA, pB, pC]
      refine tkH 58 ck58 ?_ rfl (by kernel_rfl) (fun _ _ _ h => h) (by rfl) ‹_› ?_ ?_
      rotate_left
      · intro W hSW; have z0 := cell_on hSW x2; have z1 := cell_on hSW x3; have z2 := cell_on hSW x4; have z3 := cell_on hSW y0; have z4 := cell_on hSW y1; have z5 := cell_on hSW y2; have z6 := cell_on hSW y3; have z7 := cell_on hSW q1; have z8 := cell_on hSW q3; have z9 := cell_on hSW q4; first | (go_simp; done) | (go_simp; with_reducible rfl)
      try simp only [Act.put, pA, pB, pC]
      refine tkH 59 ck59 ?_ rfl (by kernel_rfl) (fun _ _ _ h => h) (by rfl) ‹_› ?_ ?_
      rotate_left
      · intro W hSW; first | (go_simp; done) | (go_simp; with_reducible rfl)
      try simp only [Act.put, pA, pB, pC]
      refine tkH 60 ck60 (.bool false) rfl (by kernel_rfl) (fun _ _ _ h => h) (by rfl) ‹_› ?_ ?_
      · intro W hSW; first | (go_simp; done) | (go_simp; with_reducible rfl)
      try simp only [Act.put, pA, pB, pC]
      refine tkH 61 ck61 ?_ rfl (by kernel_rfl) (fun _ _ _ h => h) (by rfl) ‹_› ?_ ?_
      rotate_left
      · intro W hSW; first | (go_simp; done) | (go_simp; with_reducible rfl)
      try simp only [Act.put, pA, pB, pC]
      refine tkH 62 ck62 ?_ rfl (by kernel_rfl) (fun _ _ _ h => h) (by rfl) ‹_› ?_ ?_
      rotate_left
      · intro W hSW; first | (go_simp; done) | (go_simp; with_reducible rfl)
      try simp only [Act.put, pA, pB, pC]
      refine tkO 63 ck63 rfl (by kernel_rfl) (fun _ _ _ h => h) (by rfl) ‹_› ?_
      try simp only [Act.put, pA, pB, pC]
      refine tkO 64 ck64 rfl (by kernel_rfl) (fun _ _ _ h => h) (by rfl) ‹_› ?_
      try simp only [Act.put, pA, pB, pC]
      refine tkO 65 ck65 rfl (by kernel_rfl) (fun _ _ _ h => h) (by rfl) ‹_› ?_
      try simp only [Act.put, pA, pB, pC]
      refine tkH 66 ck66 ?_ rfl (by kernel_rfl) (fun _ _ _ h => h) (by rfl) ‹_› ?_ ?_
      rotate_left
      · intro W hSW; first | (go_simp; done) | (go_simp; with_reducible rfl)
      try simp only [Act.put, pA, pB, pC]
      refine tkH 67 ck67 ?_ rfl (by kernel_rfl) (fun _ _ _ h => h) (by rfl) ‹_› ?_ ?_
      rotate_left
      · intro W hSW; first | (go_simp; done) | (go_simp; with_reducible rfl)
      try simp only [Act.put, pA, pB, pC]
      refine wpAnyH_done (by kernel_rfl) ?_ _
      have hB9 := HB.out _ hRw
      clear hRw hHeld
      go_wp2
      go_ret
      exact ⟨ret_bool hf.out.symm, hB9⟩
  · have hf : Hid (r = false) := hno.out (fun h => c5 (by rw [← hdd.out, ← hll.out]; exact h.2.2.2.2.2.1))
    have H51 : Hid (∀ W, Below w2.heap.size w2 W → Calls Try.prog 22 #[.agg cs, .slice pa np pc, .int .i64 dd, .int .i64 ll] W fun e w' => e = .returned (.bool false) ∧ Below W.heap.size W w') := fun W hW => by
      have L9 := HL.out W (HB.out W hW)
      have h9 := leads_any (HW.out W (HB.out W hW)) L9.path L9.pc1 L9.pc2 dd ll
      rw [told_no c5, hnp.out] at h9
      exact h9
    clear c5 hno hyes
    have hRw : Below w2.heap.size w2 w2.drew := ⟨rfl, rfl, rfl, Nat.le_refl _, fun _ _ => rfl⟩
    refine wp_region_held_drew (S := fun W => Below w2.heap.size w2 W) (by kernel_rfl) hRw (fun hHeld => ?_)
    refine wpAnyH_take (i := 0) (oi := ck0) (v := .agg cs) rfl (by kernel_rfl) (by kernel_rfl) (by kernel_rfl) (fun _ _ _ h => h) (yields_loadV (by rfl) (.tmp 3) (by rfl) _ cs (by rfl) h7 (fun W hW => hx2.below hW)) (by assumption) ?_
    try simp only [Act.put, pA, pB, pC]
    refine wpAnyH_lone (R := fun W => Below w2.heap.size w2 W) (i := 1) (oi := ck1) (vi := .bool true) (by kernel_rfl) rfl hRw (fun _ h => h) ?_ ?_
    · intro W hW K hK
      go_simp
      refine (H1.out W hW).mono ?_
      rintro e W2 ⟨rfl, hb⟩
      go_wp2_with fail
      exact hK.out _ (below_then hW hb)
    clear hRw hHeld
    intro W9 hRw hHeld
    try simp only [Act.put, pA, pB, pC]
    refine tkH 2 ck2 ?_ rfl (by kernel_rfl) (fun _ _ _ h => h) (by rfl) ‹_› ?_ ?_
    rotate_left
    · intro W hSW; first | (go_simp; done) | (go_simp; with_reducible rfl)
    try simp only [Act.put, pA, pB, pC]
    refine tkH 3 ck3 ?_ rfl (by kernel_rfl) (fun _ _ _ h => h) (by rfl) ‹_› ?_ ?_
    rotate_left
    · intro W hSW; first | (go_simp; done) | (go_simp; with_reducible rfl)
    try simp only [Act.put, pA, pB, pC]
    refine tkH 4 ck4 ?_ rfl (by kernel_rfl) (fun _ _ _ h => h) (by rfl) ‹_› ?_ ?_
    rotate_left
    · intro W hSW; first | (go_simp; done) | (go_simp; with_reducible rfl)
    try simp only [Act.put, pA, pB, pC]
    refine tkH 5 ck5 ?_ rfl (by kernel_rfl) (fun _ _ _ h => h) (by rfl) ‹_› ?_ ?_
    rotate_left
    · intro W hSW; have z0 := cell_on hSW x2; have z1 := cell_on hSW x3; have z2 := cell_on hSW x4; have z3 := cell_on hSW y0; have z4 := cell_on hSW y1; have z5 := cell_on hSW y2; have z6 := cell_on hSW y3; have z7 := cell_on hSW q1; have z8 := cell_on hSW q3; have z9 := cell_on hSW q4; first | (go_simp; done) | (go_simp; with_reducible rfl)
    try simp only [Act.put, pA, pB, pC]
    refine tkH 6 ck6 ?_ rfl (by kernel_rfl) (fun _ _ _ h => h) (by rfl) ‹_› ?_ ?_
    rotate_left
    · intro W hSW; first | (go_simp; done) | (go_simp; with_reducible rfl)
    try simp only [Act.put, pA, pB, pC]
    refine wpAnyH_lone (R := fun W => Below w2.heap.size w2 W) (i := 7) (oi := ck7) (vi := .bool true) (by kernel_rfl) rfl hRw (fun _ h => h) ?_ ?_
    · intro W hW K hK
      go_simp
      refine (H7.out W hW).mono ?_
      rintro e W2 ⟨rfl, hb⟩
      go_wp2_with fail
      exact hK.out _ (below_then hW hb)
    clear hRw hHeld
    intro W9 hRw hHeld
    try simp only [Act.put, pA, pB, pC]
    refine tkH 8 ck8 ?_ rfl (by kernel_rfl) (fun _ _ _ h => h) (by rfl) ‹_› ?_ ?_
    rotate_left
    · intro W hSW; first | (go_simp; done) | (go_simp; with_reducible rfl)
    try simp only [Act.put, pA, pB, pC]
    refine tkH 9 ck9 ?_ rfl (by kernel_rfl) (fun _ _ _ h => h) (by rfl) ‹_› ?_ ?_
    rotate_left
    · intro W hSW; first | (go_simp; done) | (go_simp; with_reducible rfl)
    try simp only [Act.put, pA, pB, pC]
    refine tkH 10 ck10 ?_ rfl (by kernel_rfl) (fun _ _ _ h => h) (by rfl) ‹_› ?_ ?_
    rotate_left
    · intro W hSW; first | (go_simp; done) | (go_simp; with_reducible rfl)
    try simp only [Act.put, pA, pB, pC]
    refine tkH 11 ck11 ?_ rfl (by kernel_rfl) (fun _ _ _ h => h) (by rfl) ‹_› ?_ ?_
    rotate_left
    · intro W hSW; have z0 := cell_on hSW x2; have z1 := cell_on hSW x3; have z2 := cell_on hSW x4; have z3 := cell_on hSW y0; have z4 := cell_on hSW y1; have z5 := cell_on hSW y2; have z6 := cell_on hSW y3; have z7 := cell_on hSW q1; have z8 := cell_on hSW q3; have z9 := cell_on hSW q4; first | (go_simp; done) | (go_simp; with_reducible rfl)
    try simp only [Act.put, pA, pB, pC]
    refine tkH 12 ck12 ?_ rfl (by kernel_rfl) (fun _ _ _ h => h) (by rfl) ‹_› ?_ ?_
    rotate_left
    · intro W hSW; first | (go_simp; done) | (go_simp; with_reducible rfl)
    try simp only [Act.put, pA, pB, pC]
    refine tkH 13 ck13 ?_ rfl (by kernel_rfl) (fun _ _ _ h => h) (by rfl) ‹_› ?_ ?_
    rotate_left
    · intro W hSW; have z0 := cell_on hSW x2; have z1 := cell_on hSW x3; have z2 := cell_on hSW x4; have z3 := cell_on hSW y0; have z4 := cell_on hSW y1; have z5 := cell_on hSW y2; have z6 := cell_on hSW y3; have z7 := cell_on hSW q1; have z8 := cell_on hSW q3; have z9 := cell_on hSW q4; first | (go_simp; done) | (go_simp; with_reducible rfl)
    try simp only [Act.put, pA, pB, pC]
    refine tkH 14 ck14 ?_ rfl (by kernel_rfl) (fun _ _ _ h => h) (by rfl) ‹_› ?_ ?_
    rotate_left
    · intro W hSW; first | (go_simp; done) | (go_simp; with_reducible rfl)
    try simp only [Act.put, pA, pB, pC]
    refine wpAnyH_lone (R := fun W => Below w2.heap.size w2 W) (i := 15) (oi := ck15) (vi := .bool true) (by kernel_rfl) rfl hRw (fun _ h => h) ?_ ?_
    · intro W hW K hK
      go_simp
      refine (H15.out W hW).mono ?_
      rintro e W2 ⟨rfl, hb⟩
      go_wp2_with fail
      exact hK.out _ (below_then hW hb)
    clear hRw hHeld
    intro W9 hRw hHeld
    try simp only [Act.put, pA, pB, pC]
    refine tkH 16 ck16 ?_ rfl (by kernel_rfl) (fun _ _ _ h => h) (by rfl) ‹_› ?_ ?_
    rotate_left
    · intro W hSW; first | (go_simp; done) | (go_simp; with_reducible rfl)
    try simp only [Act.put, pA, pB, pC]
    refine tkH 17 ck17 ?_ rfl (by kernel_rfl) (fun _ _ _ h => h) (by rfl) ‹_› ?_ ?_
    rotate_left
    · intro W hSW; first | (go_simp; done) | (go_simp; with_reducible rfl)
    try simp only [Act.put, pA, pB, pC]
    refine tkH 18 ck18 ?_ rfl (by kernel_rfl) (fun _ _ _ h => h) (by rfl) ‹_› ?_ ?_
    rotate_left
    · intro W hSW; first | (go_simp; done) | (go_simp; with_reducible rfl)
    try simp only [Act.put, pA, pB, pC]
    refine tkH 19 ck19 ?_ rfl (by kernel_rfl) (fun _ _ _ h => h) (by rfl) ‹_› ?_ ?_
    rotate_left
    · intro W hSW; have z0 := cell_on hSW x2; have z1 := cell_on hSW x3; have z2 := cell_on hSW x4; have z3 := cell_on hSW y0; have z4 := cell_on hSW y1; have z5 := cell_on hSW y2; have z6 := cell_on hSW y3; have z7 := cell_on hSW q1; have z8 := cell_on hSW q3; have z9 := cell_on hSW q4; first | (go_simp; done) | (go_simp; with_reducible rfl)
    try simp only [Act.put, pA, pB, pC]
    refine tkH 20 ck20 ?_ rfl (by kernel_rfl) (fun _ _ _ h => h) (by rfl) ‹_› ?_ ?_
    rotate_left
    · intro W hSW; first | (go_simp; done) | (go_simp; with_reducible rfl)
    try simp only [Act.put, pA, pB, pC]
    refine tkH 21 ck21 (.bool true) rfl (by kernel_rfl) (fun _ _ _ h => h) (by rfl) ‹_› ?_ ?_
    · intro W hSW; first | (go_simp; done) | (go_simp; with_reducible rfl)
    try simp only [Act.put, pA, pB, pC]
    refine tkH 22 ck22 ?_ rfl (by kernel_rfl) (fun _ _ _ h => h) (by rfl) ‹_› ?_ ?_
    rotate_left
    · intro W hSW; first | (go_simp; done) | (go_simp; with_reducible rfl)
    try simp only [Act.put, pA, pB, pC]
    refine tkH 23 ck23 ?_ rfl (by kernel_rfl) (fun _ _ _ h => h) (by rfl) ‹_› ?_ ?_
    rotate_left
    · intro W hSW; first | (go_simp; done) | (go_simp; with_reducible rfl)
    try simp only [Act.put, pA, pB, pC]
    refine tkH 24 ck24 ?_ rfl (by kernel_rfl) (fun _ _ _ h => h) (by rfl) ‹_› ?_ ?_
    rotate_left
    · intro W hSW; first | (go_simp; done) | (go_simp; with_reducible rfl)
    try simp only [Act.put, pA, pB, pC]
    refine tkH 25 ck25 ?_ rfl (by kernel_rfl) (fun _ _ _ h => h) (by rfl) ‹_› ?_ ?_
    rotate_left
    · intro W hSW; have z0 := cell_on hSW x2; have z1 := cell_on hSW x3; have z2 := cell_on hSW x4; have z3 := cell_on hSW y0; have z4 := cell_on hSW y1; have z5 := cell_on hSW y2; have z6 := cell_on hSW y3; have z7 := cell_on hSW q1; have z8 := cell_on hSW q3; have z9 := cell_on hSW q4; first | (go_simp; done) | (go_simp; with_reducible rfl)
    try simp only [Act.put, pA, pB, pC]
    refine tkH 27 ck27 ?_ rfl (by kernel_rfl) (fun _ _ _ h => h) (by rfl) ‹_› ?_ ?_
    rotate_left
    · intro W hSW; first | (go_simp; done) | (go_simp; with_reducible rfl)
    try simp only [Act.put, pA, pB, pC]
    refine tkH 28 ck28 ?_ rfl (by kernel_rfl) (fun _ _ _ h => h) (by rfl) ‹_› ?_ ?_
    rotate_left
    · intro W hSW; have z0 := cell_on hSW x2; have z1 := cell_on hSW x3; have z2 := cell_on hSW x4; have z3 := cell_on hSW y0; have z4 := cell_on hSW y1; have z5 := cell_on hSW y2; have z6 := cell_on hSW y3; have z7 := cell_on hSW q1; have z8 := cell_on hSW q3; have z9 := cell_on hSW q4; first | (go_simp; done) | (go_simp; with_reducible rfl)
    try simp only [Act.put, pA, pB, pC]
    refine tkH 29 ck29 ?_ rfl (by kernel_rfl) (fun _ _ _ h => h) (by rfl) ‹_› ?_ ?_
    rotate_left
    · intro W hSW; first | (go_simp; done) | (go_simp; with_reducible rfl)
    try simp only [Act.put, pA, pB, pC]
    refine tkH 30 ck30 ?_ rfl (by kernel_rfl) (fun _ _ _ h => h) (by rfl) ‹_› ?_ ?_
    rotate_left
    · intro W hSW; have z0 := cell_on hSW x2; have z1 := cell_on hSW x3; have z2 := cell_on hSW x4; have z3 := cell_on hSW y0; have z4 := cell_on hSW y1; have z5 := cell_on hSW y2; have z6 := cell_on hSW y3; have z7 := cell_on hSW q1; have z8 := cell_on hSW q3; have z9 := cell_on hSW q4; first | (go_simp; done) | (go_simp; with_reducible rfl)
    try simp only [Act.put, pA, pB, pC]
    refine tkH 31 ck31 ?_ rfl (by kernel_rfl) (fun _ _ _ h => h) (by rfl) ‹_› ?_ ?_
    rotate_left
    · intro W hSW; first | (go_simp; done) | (go_simp; with_reducible rfl)
    try simp only [Act.put, pA, pB, pC]
    refine tkH 32 ck32 ?_ rfl (by kernel_rfl) (fun _ _ _ h => h) (by rfl) ‹_› ?_ ?_
    rotate_left
    · intro W hSW; have z0 := cell_on hSW x2; have z1 := cell_on hSW x3; have z2 := cell_on hSW x4; have z3 := cell_on hSW y0; have z4 := cell_on hSW y1; have z5 := cell_on hSW y2; have z6 := cell_on hSW y3; have z7 := cell_on hSW q1; have z8 := cell_on hSW q3; have z9 := cell_on hSW q4; first | (go_simp; done) | (go_simp; with_reducible rfl)
    try simp only [Act.put, pA, pB, pC]
    refine wpAnyH_lone (R := fun W => Below w2.heap.size w2 W) (i := 26) (oi := ck26) (vi := .string D) (by kernel_rfl) rfl hRw (fun _ h => h) ?_ ?_
    · intro W hW K hK
      go_simp
      refine (H26.out W hW).mono ?_
      rintro e W2 ⟨rfl, hb⟩
      go_wp2_with fail
      exact hK.out _ (below_then hW hb)
    clear hRw hHeld
    intro W9 hRw hHeld
    try simp only [Act.put, pA, pB, pC]
    refine tkH 33 ck33 (.bool true) rfl (by kernel_rfl) (fun _ _ _ h => h) (by rfl) ‹_› ?_ ?_
    · intro W hSW; first | (go_simp; done) | (go_simp; with_reducible rfl)
    try simp only [Act.put, pA, pB, pC]
    refine tkH 34 ck34 ?_ rfl (by kernel_rfl) (fun _ _ _ h => h) (by rfl) ‹_› ?_ ?_
    rotate_left
    · intro W hSW; first | (go_simp; done) | (go_simp; with_reducible rfl)
    try simp only [Act.put, pA, pB, pC]
    refine tkH 35 ck35 ?_ rfl (by kernel_rfl) (fun _ _ _ h => h) (by rfl) ‹_› ?_ ?_
    rotate_left
    · intro W hSW; first | (go_simp; done) | (go_simp; with_reducible rfl)
    try simp only [Act.put, pA, pB, pC]
    refine wpAnyH_take (i := 36) (oi := ck36) (v := .agg cs) rfl (by kernel_rfl) (by kernel_rfl) (by kernel_rfl) (fun _ _ _ h => h) (yields_loadV (by rfl) (.tmp 3) (by rfl) _ cs (by rfl) h7 (fun W hW => hx2.below hW)) (by assumption) ?_
    try simp only [Act.put, pA, pB, pC]
    refine tkH 37 ck37 ?_ rfl (by kernel_rfl) (fun _ _ _ h => h) (by rfl) ‹_› ?_ ?_
    rotate_left
    · intro W hSW; first | (go_simp; done) | (go_simp; with_reducible rfl)
    try simp only [Act.put, pA, pB, pC]
    refine tkH 38 ck38 ?_ rfl (by kernel_rfl) (fun _ _ _ h => h) (by rfl) ‹_› ?_ ?_
    rotate_left
    · intro W hSW; have z0 := cell_on hSW x2; have z1 := cell_on hSW x3; have z2 := cell_on hSW x4; have z3 := cell_on hSW y0; have z4 := cell_on hSW y1; have z5 := cell_on hSW y2; have z6 := cell_on hSW y3; have z7 := cell_on hSW q1; have z8 := cell_on hSW q3; have z9 := cell_on hSW q4; first | (go_simp; done) | (go_simp; with_reducible rfl)
    try simp only [Act.put, pA, pB, pC]
    refine tkH 39 ck39 ?_ rfl (by kernel_rfl) (fun _ _ _ h => h) (by rfl) ‹_› ?_ ?_
    rotate_left
    · intro W hSW; first | (go_simp; done) | (go_simp; with_reducible rfl)
    try simp only [Act.put, pA, pB, pC]
    refine tkH 40 ck40 ?_ rfl (by kernel_rfl) (fun _ _ _ h => h) (by rfl) ‹_› ?_ ?_
    rotate_left
    · intro W hSW; have z0 := cell_on hSW x2; have z1 := cell_on hSW x3; have z2 := cell_on hSW x4; have z3 := cell_on hSW y0; have z4 := cell_on hSW y1; have z5 := cell_on hSW y2; have z6 := cell_on hSW y3; have z7 := cell_on hSW q1; have z8 := cell_on hSW q3; have z9 := cell_on hSW q4; first | (go_simp; done) | (go_simp; with_reducible rfl)
    try simp only [Act.put, pA, pB, pC]
    refine tkH 41 ck41 ?_ rfl (by kernel_rfl) (fun _ _ _ h => h) (by rfl) ‹_› ?_ ?_
    rotate_left
    · intro W hSW; first | (go_simp; done) | (go_simp; with_reducible rfl)
    try simp only [Act.put, pA, pB, pC]
    refine tkH 42 ck42 ?_ rfl (by kernel_rfl) (fun _ _ _ h => h) (by rfl) ‹_› ?_ ?_
    rotate_left
    · intro W hSW; first | (go_simp; done) | (go_simp; with_reducible rfl)
    try simp only [Act.put, pA, pB, pC]
    refine tkH 43 ck43 ?_ rfl (by kernel_rfl) (fun _ _ _ h => h) (by rfl) ‹_› ?_ ?_
    rotate_left
    · intro W hSW; first | (go_simp; done) | (go_simp; with_reducible rfl)
    try simp only [Act.put, pA, pB, pC]
    refine tkH 44 ck44 ?_ rfl (by kernel_rfl) (fun _ _ _ h => h) (by rfl) ‹_› ?_ ?_
    rotate_left
    · intro W hSW; have z0 := cell_on hSW x2; have z1 := cell_on hSW x3; have z2 := cell_on hSW x4; have z3 := cell_on hSW y0; have z4 := cell_on hSW y1; have z5 := cell_on hSW y2; have z6 := cell_on hSW y3; have z7 := cell_on hSW q1; have z8 := cell_on hSW q3; have z9 := cell_on hSW q4; first | (go_simp; done) | (go_simp; with_reducible rfl)
    try simp only [Act.put, pA, pB, pC]
    refine tkH 45 ck45 ?_ rfl (by kernel_rfl) (fun _ _ _ h => h) (by rfl) ‹_› ?_ ?_
    rotate_left
    · intro W hSW; first | (go_simp; done) | (go_simp; with_reducible rfl)
    try simp only [Act.put, pA, pB, pC]
    refine tkH 46 ck46 ?_ rfl (by kernel_rfl) (fun _ _ _ h => h) (by rfl) ‹_› ?_ ?_
    rotate_left
    · intro W hSW; have z0 := cell_on hSW x2; have z1 := cell_on hSW x3; have z2 := cell_on hSW x4; have z3 := cell_on hSW y0; have z4 := cell_on hSW y1; have z5 := cell_on hSW y2; have z6 := cell_on hSW y3; have z7 := cell_on hSW q1; have z8 := cell_on hSW q3; have z9 := cell_on hSW q4; first | (go_simp; done) | (go_simp; with_reducible rfl)
    try simp only [Act.put, pA, pB, pC]
    refine tkH 47 ck47 ?_ rfl (by kernel_rfl) (fun _ _ _ h => h) (by rfl) ‹_› ?_ ?_
    rotate_left
    · intro W hSW; first | (go_simp; done) | (go_simp; with_reducible rfl)
    try simp only [Act.put, pA, pB, pC]
    refine tkH 48 ck48 ?_ rfl (by kernel_rfl) (fun _ _ _ h => h) (by rfl) ‹_› ?_ ?_
    rotate_left
    · intro W hSW; have z0 := cell_on hSW x2; have z1 := cell_on hSW x3; have z2 := cell_on hSW x4; have z3 := cell_on hSW y0; have z4 := cell_on hSW y1; have z5 := cell_on hSW y2; have z6 := cell_on hSW y3; have z7 := cell_on hSW q1; have z8 := cell_on hSW q3; have z9 := cell_on hSW q4; first | (go_simp; done) | (go_simp; with_reducible rfl)
    try simp only [Act.put, pA, pB, pC]
    refine tkH 49 ck49 ?_ rfl (by kernel_rfl) (fun _ _ _ h => h) (by rfl) ‹_› ?_ ?_
    rotate_left
    · intro W hSW; first | (go_simp; done) | (go_simp; with_reducible rfl)
    try simp only [Act.put, pA, pB, pC]
    refine tkH 50 ck50 ?_ rfl (by kernel_rfl) (fun _ _ _ h => h) (by rfl) ‹_› ?_ ?_
    rotate_left
    · intro W hSW; have z0 := cell_on hSW x2; have z1 := cell_on hSW x3; have z2 := cell_on hSW x4; have z3 := cell_on hSW y0; have z4 := cell_on hSW y1; have z5 := cell_on hSW y2; have z6 := cell_on hSW y3; have z7 := cell_on hSW q1; have z8 := cell_on hSW q3; have z9 := cell_on hSW q4; first | (go_simp; done) | (go_simp; with_reducible rfl)
    try simp only [Act.put, pA, pB, pC]
    refine wpAnyH_lone (R := fun W => Below w2.heap.size w2 W) (i := 51) (oi := ck51) (vi := .bool false) (by kernel_rfl) rfl hRw (fun _ h => h) ?_ ?_
    · intro W hW K hK
      go_simp
      refine (H51.out W hW).mono ?_
      rintro e W2 ⟨rfl, hb⟩
      go_wp2_with fail
      exact hK.out _ (below_then hW hb)
    clear hRw hHeld
    intro W9 hRw hHeld
    try simp only [Act.put, pA, pB, pC]
    refine tkH 52 ck52 ?_ rfl (by kernel_rfl) (fun _ _ _ h => h) (by rfl) ‹_› ?_ ?_
    rotate_left
    · intro W hSW; first | (go_simp; done) | (go_simp; with_reducible rfl)
    try simp only [Act.put, pA, pB, pC]
    refine tkH 53 ck53 ?_ rfl (by kernel_rfl) (fun _ _ _ h => h) (by rfl) ‹_› ?_ ?_
    rotate_left
    · intro W hSW; first | (go_simp; done) | (go_simp; with_reducible rfl)
    try simp only [Act.put, pA, pB, pC]
    refine tkO 54 ck54 rfl (by kernel_rfl) (fun _ _ _ h => h) (by rfl) ‹_› ?_
    try simp only [Act.put, pA, pB, pC]
    refine tkO 55 ck55 rfl (by kernel_rfl) (fun _ _ _ h => h) (by rfl) ‹_› ?_
    try simp only [Act.put, pA, pB, pC]
    refine tkO 56 ck56 rfl (by kernel_rfl) (fun _ _ _ h => h) (by rfl) ‹_› ?_
    try simp only [Act.put, pA, pB, pC]
    refine tkO 57 ck57 rfl (by kernel_rfl) (fun _ _ _ h => h) (by rfl) ‹_› ?_
    try simp only [Act.put, pA, pB, pC]
    refine tkO 58 ck58 rfl (by kernel_rfl) (fun _ _ _ h => h) (by rfl) ‹_› ?_
    try simp only [Act.put, pA, pB, pC]
    refine tkO 59 ck59 rfl (by kernel_rfl) (fun _ _ _ h => h) (by rfl) ‹_› ?_
    try simp only [Act.put, pA, pB, pC]
    refine tkO 60 ck60 rfl (by kernel_rfl) (fun _ _ _ h => h) (by rfl) ‹_› ?_
    try simp only [Act.put, pA, pB, pC]
    refine tkH 61 ck61 ?_ rfl (by kernel_rfl) (fun _ _ _ h => h) (by rfl) ‹_› ?_ ?_
    rotate_left
    · intro W hSW; first | (go_simp; done) | (go_simp; with_reducible rfl)
    try simp only [Act.put, pA, pB, pC]
    refine tkH 62 ck62 ?_ rfl (by kernel_rfl) (fun _ _ _ h => h) (by rfl) ‹_› ?_ ?_
    rotate_left
    · intro W hSW; first | (go_simp; done) | (go_simp; with_reducible rfl)
    try simp only [Act.put, pA, pB, pC]
    refine tkO 63 ck63 rfl (by kernel_rfl) (fun _ _ _ h => h) (by rfl) ‹_› ?_
    try simp only [Act.put, pA, pB, pC]
    refine tkO 64 ck64 rfl (by kernel_rfl) (fun _ _ _ h => h) (by rfl) ‹_› ?_
    try simp only [Act.put, pA, pB, pC]
    refine tkO 65 ck65 rfl (by kernel_rfl) (fun _ _ _ h => h) (by rfl) ‹_› ?_
    try simp only [Act.put, pA, pB, pC]
    refine tkH 66 ck66 ?_ rfl (by kernel_rfl) (fun _ _ _ h => h) (by rfl) ‹_› ?_ ?_
    rotate_left
    · intro W hSW; first | (go_simp; done) | (go_simp; with_reducible rfl)
    try simp only [Act.put, pA, pB, pC]
    refine tkH 67 ck67 ?_ rfl (by kernel_rfl) (fun _ _ _ h => h) (by rfl) ‹_› ?_ ?_
    rotate_left
    · intro W hSW; first | (go_simp; done) | (go_simp; with_reducible rfl)
    try simp only [Act.put, pA, pB, pC]
    refine wpAnyH_done (by kernel_rfl) ?_ _
    have hB9 := HB.out _ hRw
    clear hRw hHeld
    go_wp2
    go_ret
    exact ⟨ret_bool hf.out.symm, hB9⟩

end Go.Proofs.Ythoimecljfcjmaa
