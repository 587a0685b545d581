/-
  Package hashkey: Check, its first five tests.
-/
import Derived.Test.YthoimecljfcjmaaZ43
namespace Go.Proofs.Ythoimecljfcjmaa
open Go.RowKit

set_option maxRecDepth 10000 in
set_option maxHeartbeats 4000000 in
theorem hkcheck_low {w : World} {v : Value} {s : SpecM} (hv : SpecW w v s) (arc : Int) {pa sa : Option Addr} {pc sc : Nat} {K : HkM} (L : HkL w pa sa pc sc K) (hp100 : K.path.length ≤ 100) (hz : ∀ j, j < K.sigs.length → (K.sigs.getD j ByteArray.empty).size ≤ 1000) (hsec : K.secret.size ≤ 1000000) (hx : ¬ ((validM s = true) ∧ (0 ≤ arc ∧ arc < (s.arcs.length : Int)) ∧ (0 ≤ K.lock ∧ K.lock < (s.locks.length : Int)) ∧ (K.secret.size ≤ 64) ∧ ((⟨(digest K.secret.data.toList).toArray⟩ : ByteArray) = s.locks.getD K.lock.toNat ByteArray.empty))) :
    Calls Try.prog 8 #[v, .int .i64 arc, .agg (hcells pa sa pc sc K)] w fun e w' => e = .returned (.bool (told (hkOpens s arc K))) ∧ Below w.heap.size w w' := by
  replace hx := hide hx
  obtain ⟨cs, rfl, h7⟩ := hv.seven
  obtain ⟨g, hg⟩ : ∃ g, w.heap.size = g := ⟨_, rfl⟩
  rw [hg]
  obtain ⟨r, hr⟩ : ∃ r, told (hkOpens s arc K) = r := ⟨_, rfl⟩
  rw [hr]
  have hno : Hid (¬ hkOpens s arc K → r = false) := fun h => by rw [← hr, told_no h]
  have hyes : Hid (hkOpens s arc K → r = true) := fun h => by rw [← hr, told_yes h]
  clear hr
  have HW : Hid (∀ W, Below g w W → SpecW W (.agg cs) s) := fun W hW => hv.below (by rw [hg]; exact hW)
  have HL : Hid (∀ W, Below g w W → HkL W pa sa pc sc K) := fun W hW => L.below (by rw [hg]; exact hW)
  have htx : Hid (∀ i, (textAt K i).size ≤ 1000000) := fun i => by
    unfold textAt
    split
    · rename_i h; exact Nat.le_trans (hz i h) (by omega)
    · exact hsec
  obtain ⟨a1, a2, a3, a4, k1, k2, k3, k4, hcs, LI, hcap⟩ := hv
  injection hcs with hcs
  have HX : Hid (∀ W, SvAt W g cs → W.cell? ⟨g, 2, none⟩ = some (.slice a2 s.arcs.length k2) ∧ W.cell? ⟨g, 3, none⟩ = some (.slice a3 s.leaders.length k3) ∧ W.cell? ⟨g, 4, none⟩ = some (.slice a4 s.locks.length k4)) := fun W hW => by
    have h9 : W.heap[g]? = some (.cells (cells7 a1 a2 a3 a4 k1 k2 k3 k4 s) 27 (0, 0)) := by rw [← hcs]; exact hW
    exact ⟨(cells7_at h9).2.2.1, (cells7_at h9).2.2.2.1, (cells7_at h9).2.2.2.2.1⟩
  have HLI : Hid (∀ W, Below g w W → Lies W a1 a2 a3 a4 s) := fun W hW => LI.below (by rw [hg]; exact hW)
  clear hcs LI hcap L hz
  go_enter Try.func8, Try.ntmps8
  go_upto_region 1 with (first
    | ((with_reducible refine wpList_at ?_); refine wpList_boxv (by rfl) 27 (.tmp 0) (by rfl) _ (by rfl) ?_; rw [hg]; intro w1 hu1 hz1 hb1; have hx1 : SvAt w1 g cs := hu1; clear hu1)
    | ((with_reducible refine wpList_at ?_); refine wpList_boxv (by rfl) 31 (.tmp 2) (by rfl) _ (by rfl) ?_; rw [hz1]; intro w2 hu2 hz2 hb2; have hy2 : HvAt w2 (g + 1) (hcells pa sa pc sc K) := hu2; clear hu2))
  have hx2 := hx1.below (by rw [hz1]; exact hb2)
  have hB2 : Below g w w2 := hb1.trans (hb2.mono (by omega))
  have hs2 : g + 2 ≤ w2.heap.size := by omega
  clear hx1 hb1 hb2 hz1 hz2
  have HB : Hid (∀ W, Below w2.heap.size w2 W → Below g w W) := fun W hW => hB2.trans (hW.mono (by omega))
  obtain ⟨x2, x3, x4⟩ := HX.out _ hx2
  obtain ⟨y0, y1, y2, y3⟩ := hcells_at hy2
  obtain ⟨na, hna⟩ : ∃ n, s.arcs.length = n := ⟨_, rfl⟩
  obtain ⟨nl, hnl⟩ : ∃ n, s.leaders.length = n := ⟨_, rfl⟩
  obtain ⟨nk, hnk⟩ : ∃ n, s.locks.length = n := ⟨_, rfl⟩
  obtain ⟨np, hnp⟩ : ∃ n, K.path.length = n := ⟨_, rfl⟩
  obtain ⟨ns, hns⟩ : ∃ n, K.sigs.length = n := ⟨_, rfl⟩
  rw [hna] at x2
  rw [hnl] at x3
  rw [hnk] at x4
  rw [hnp] at y2
  rw [hns] at y3
  replace hna := hide hna
  replace hnl := hide hnl
  replace hnk := hide hnk
  replace hnp := hide hnp
  replace hns := hide hns
  replace hp100 := hide hp100
  replace hsec := hide hsec
  have hB2' := hide hB2
  clear hB2
  by_cases c0 : validM s = true
  · have H1 : Hid (∀ W, Below w2.heap.size w2 W → Calls Try.prog 19 #[.agg cs] W fun e w' => e = .returned (.bool true) ∧ Below W.heap.size W w') := fun W hW => by have h9 := pvalid_any (HW.out W (HB.out W hW)); rw [show validM s = true from c0] at h9; exact h9
    have hok := hide (valid_ok c0)
    have m1 : na ≤ 12 := by rw [← hna.out]; exact hok.out.2.2.2.1.2.1
    have m2 : nl ≤ 3 := by rw [← hnl.out]; exact hok.out.2.1.2.1
    have m3 : nk ≤ 3 := by rw [← hnk.out, hok.out.2.1.2.2.1]; exact hok.out.2.1.2.1
    replace c0 := hide c0
    by_cases c1 : 0 ≤ arc ∧ arc < (s.arcs.length : Int)
    · obtain ⟨ai, hai⟩ : ∃ n : Nat, arc = (n : Int) := ⟨arc.toNat, by omega⟩
      subst hai
      have H7 : Hid (∀ W, Below w2.heap.size w2 W → Calls Try.prog 20 #[.int .i64 (ai : Int), .int .i64 (na : Int)] W fun e w' => e = .returned (.bool true) ∧ Below W.heap.size W w') := fun W hW => by
        refine (hbelow_any _ _ W).mono ?_
        rintro e w' ⟨h1, rfl⟩
        have p1 : (0 ≤ (ai : Int) ∧ (ai : Int) < (na : Int)) := by rw [← hna.out]; exact c1
        rw [told_yes p1] at h1
        exact ⟨h1, Below.refl _ _⟩
      have hain : ai < na := by rw [← hna.out]; omega
      obtain ⟨ba, oa, hba, hAa⟩ := (HLI.out w2 hB2'.out).arcs.2 ai (by rw [hna.out]; exact hain)
      subst hba
      have q1 := hAa.2.2.2.2.2.2.1
      obtain ⟨dd, hdd⟩ : ∃ d, (s.arcs.getD (ai : Int).toNat noArc).dst = d := ⟨_, rfl⟩
      rw [show (s.arcs.getD ai noArc).dst = dd from hdd] at q1
      replace hdd := hide hdd
      clear hAa
      replace c1 := hide c1
      by_cases c2 : 0 ≤ K.lock ∧ K.lock < (s.locks.length : Int)
      · obtain ⟨lk, hlk⟩ : ∃ n : Nat, K.lock = (n : Int) := ⟨K.lock.toNat, by omega⟩
        have H15 : Hid (∀ W, Below w2.heap.size w2 W → Calls Try.prog 20 #[.int .i64 (lk : Int), .int .i64 (nk : Int)] W fun e w' => e = .returned (.bool true) ∧ Below W.heap.size W w') := fun W hW => by
          refine (hbelow_any _ _ W).mono ?_
          rintro e w' ⟨h1, rfl⟩
          have p1 : (0 ≤ (lk : Int) ∧ (lk : Int) < (nk : Int)) := by rw [← hnk.out, ← hlk]; exact c2
          rw [told_yes p1] at h1
          exact ⟨h1, Below.refl _ _⟩
        have hlkt : K.lock.toNat = lk := by omega
        have hlkn : lk < nk := by rw [← hnk.out]; omega
        have hlkl : lk < nl := by have h8 : nk = nl := (by rw [← hnk.out, ← hnl.out]; exact hok.out.2.1.2.2.1); omega
        obtain ⟨b4, o4, hb4, q4⟩ := (HLI.out w2 hB2'.out).locks.2.2.2 lk (by rw [hnk.out]; exact hlkn)
        subst hb4
        obtain ⟨b3, o3, hb3, q3⟩ := (HLI.out w2 hB2'.out).leaders.2.2.2 lk (by rw [hnl.out]; exact hlkl)
        subst hb3
        obtain ⟨Lk, hLk⟩ : ∃ d, s.locks.getD K.lock.toNat ByteArray.empty = d := ⟨_, rfl⟩
        obtain ⟨ll, hll⟩ : ∃ d, s.leaders.getD K.lock.toNat 0 = d := ⟨_, rfl⟩
        have hLk' := hLk
        have hll' := hll
        rw [hlkt] at hLk' hll'
        rw [hLk'] at q4
        rw [hll'] at q3
        rw [hlk] at y0
        replace hLk := hide hLk
        replace hll := hide hll
        clear hLk' hll'
        replace c2 := hide c2
        replace hlk := hide hlk
        replace hlkt := hide hlkt
        by_cases c3 : K.secret.size ≤ 64
        · have t3 : decide ((K.secret.size : Int) ≤ 64) = true := by simp; omega
          have HSum : Hid (∀ W, Calls Try.prog 21 #[.string K.secret] W fun e w' => e = .returned (.string ⟨(digest K.secret.data.toList).toArray⟩) ∧ Below W.heap.size W w') := fun W => sum_any K.secret (by omega) W
          obtain ⟨D, hD⟩ : ∃ d : ByteArray, (⟨(digest K.secret.data.toList).toArray⟩ : ByteArray) = d := ⟨_, rfl⟩
          rw [hD] at HSum
          have H26 : Hid (∀ W, Below w2.heap.size w2 W → Calls Try.prog 21 #[.string K.secret] W fun e w' => e = .returned (.string D) ∧ Below W.heap.size W w') := fun W _ => HSum.out W
          replace hD := hide hD
          clear HSum
          replace c3 := hide c3
          by_cases c4 : D = Lk
          · have t4 : (D.toList == Lk.toList) = true := by
              rw [same_list]
              rw [c4]; exact beq_self_eq_true _
            replace c4 := hide c4
            exact absurd ⟨c0.out, c1.out, c2.out, c3.out, by rw [hD.out, hLk.out]; exact c4.out⟩ hx.out
          · have hf : Hid (r = false) := hno.out (fun h => c4 (by rw [← hD.out, ← hLk.out]; exact h.2.2.2.2.1))
            have t4 : (D.toList == Lk.toList) = false := by
              rw [same_list]
              rw [beq_eq_false_iff_ne]; exact fun e => c4 (ByteArray.ext (Array.toList_inj.1 e))
            clear c4 hno hyes
            have hRw : Below w2.heap.size w2 w2.drew := ⟨rfl, rfl, rfl, Nat.le_refl _, fun _ _ => rfl⟩
            refine wp_region_held_drew (S := fun W => Below w2.heap.size w2 W) (by kernel_rfl) hRw (fun hHeld => ?_)
            refine wpAnyH_take (i := 0) (oi := ck0) (v := .agg cs) rfl (by kernel_rfl) (by kernel_rfl) (by kernel_rfl) (fun _ _ _ h => h) (yields_loadV (by rfl) (.tmp 3) (by rfl) _ cs (by rfl) h7 (fun W hW => hx2.below hW)) (by assumption) ?_
            try simp only [Act.put, pA, pB, pC]
            refine wpAnyH_lone (R := fun W => Below w2.heap.size w2 W) (i := 1) (oi := ck1) (vi := .bool true) (by kernel_rfl) rfl hRw (fun _ h => h) ?_ ?_
            · intro W hW K hK
              go_simp
              refine (H1.out W hW).mono ?_
              rintro e W2 ⟨rfl, hb⟩
              go_wp2_with fail
              exact hK.out _ (below_then hW hb)
            clear hRw hHeld
            intro W9 hRw hHeld
            try simp only [Act.put, pA, pB, pC]
            refine tkH 2 ck2 ?_ rfl (by kernel_rfl) (fun _ _ _ h => h) (by rfl) ‹_› ?_ ?_
            rotate_left
            · intro W hSW; first | (go_simp; done) | (go_simp; with_reducible rfl)
            try simp only [Act.put, pA, pB, pC]
            refine tkH 3 ck3 ?_ rfl (by kernel_rfl) (fun _ _ _ h => h) (by rfl) ‹_› ?_ ?_
            rotate_left
            · intro W hSW; first | (go_simp; done) | (go_simp; with_reducible rfl)
            try simp only [Act.put, pA, pB, pC]
            refine tkH 4 ck4 ?_ rfl (by kernel_rfl) (fun _ _ _ h => h) (by rfl) ‹_› ?_ ?_
            rotate_left
            · intro W hSW; first | (go_simp; done) | (go_simp; with_reducible rfl)
            try simp only [Act.put, pA, pB, pC]
            refine tkH 5 ck5 ?_ rfl (by kernel_rfl) (fun _ _ _ h => h) (by rfl) ‹_› ?_ ?_
            rotate_left
            · intro W hSW; have z0 := cell_on hSW x2; have z1 := cell_on hSW x3; have z2 := cell_on hSW x4; have z3 := cell_on hSW y0; have z4 := cell_on hSW y1; have z5 := cell_on hSW y2; have z6 := cell_on hSW y3; have z7 := cell_on hSW q1; have z8 := cell_on hSW q3; have z9 := cell_on hSW q4; first | (go_simp; done) | (go_simp; with_reducible rfl)
            try simp only [Act.put, pA, pB, pC]
            refine tkH 6 ck6 ?_ rfl (by kernel_rfl) (fun _ _ _ h => h) (by rfl) ‹_› ?_ ?_
            rotate_left
            · intro W hSW; first | (go_simp; done) | (go_simp; with_reducible rfl)
            try simp only [Act.put, pA, pB, pC]
            refine wpAnyH_lone (R := fun W => Below w2.heap.size w2 W) (i := 7) (oi := ck7) (vi := .bool true) (by kernel_rfl) rfl hRw (fun _ h => h) ?_ ?_
            · intro W hW K hK
              go_simp
              refine (H7.out W hW).mono ?_
              rintro e W2 ⟨rfl, hb⟩
              go_wp2_with fail
              exact hK.out _ (below_then hW hb)
            clear hRw hHeld
            intro W9 hRw hHeld
            try simp only [Act.put, pA, pB, pC]
            refine tkH 8 ck8 ?_ rfl (by kernel_rfl) (fun _ _ _ h => h) (by rfl) ‹_› ?_ ?_
            rotate_left
            · intro W hSW; first | (go_simp; done) | (go_simp; with_reducible rfl)
            try simp only [Act.put, pA, pB, pC]
            refine tkH 9 ck9 ?_ rfl (by kernel_rfl) (fun _ _ _ h => h) (by rfl) ‹_› ?_ ?_
            rotate_left
            · intro W hSW; first | (go_simp; done) | (go_simp; with_reducible rfl)
            try simp only [Act.put, pA, pB, pC]
            refine tkH 10 ck10 ?_ rfl (by kernel_rfl) (fun _ _ _ h => h) (by rfl) ‹_› ?_ ?_
            rotate_left
            · intro W hSW; first | (go_simp; done) | (go_simp; with_reducible rfl)
            try simp only [Act.put, pA, pB, pC]
            refine tkH 11 ck11 ?_ rfl (by kernel_rfl) (fun _ _ _ h => h) (by rfl) ‹_› ?_ ?_
            rotate_left
            · intro W hSW; have z0 := cell_on hSW x2; have z1 := cell_on hSW x3; have z2 := cell_on hSW x4; have z3 := cell_on hSW y0; have z4 := cell_on hSW y1; have z5 := cell_on hSW y2; have z6 := cell_on hSW y3; have z7 := cell_on hSW q1; have z8 := cell_on hSW q3; have z9 := cell_on hSW q4; first | (go_simp; done) | (go_simp; with_reducible rfl)
            try simp only [Act.put, pA, pB, pC]
            refine tkH 12 ck12 ?_ rfl (by kernel_rfl) (fun _ _ _ h => h) (by rfl) ‹_› ?_ ?_
            rotate_left
            · intro W hSW; first | (go_simp; done) | (go_simp; with_reducible rfl)
            try simp only [Act.put, pA, pB, pC]
            refine tkH 13 ck13 ?_ rfl (by kernel_rfl) (fun _ _ _ h => h) (by rfl) ‹_› ?_ ?_
            rotate_left
            · intro W hSW; have z0 := cell_on hSW x2; have z1 := cell_on hSW x3; have z2 := cell_on hSW x4; have z3 := cell_on hSW y0; have z4 := cell_on hSW y1; have z5 := cell_on hSW y2; have z6 := cell_on hSW y3; have z7 := cell_on hSW q1; have z8 := cell_on hSW q3; have z9 := cell_on hSW q4; first | (go_simp; done) | (go_simp; with_reducible rfl)
            try simp only [Act.put, pA, pB, pC]
            refine tkH 14 ck14 ?_ rfl (by kernel_rfl) (fun _ _ _ h => h) (by rfl) ‹_› ?_ ?_
            rotate_left
            · intro W hSW; first | (go_simp; done) | (go_simp; with_reducible rfl)
            try simp only [Act.put, pA, pB, pC]
            refine wpAnyH_lone (R := fun W => Below w2.heap.size w2 W) (i := 15) (oi := ck15) (vi := .bool true) (by kernel_rfl) rfl hRw (fun _ h => h) ?_ ?_
            · intro W hW K hK
              go_simp
              refine (H15.out W hW).mono ?_
              rintro e W2 ⟨rfl, hb⟩
              go_wp2_with fail
              exact hK.out _ (below_then hW hb)
            clear hRw hHeld
            intro W9 hRw hHeld
            try simp only [Act.put, pA, pB, pC]
            refine tkH 16 ck16 ?_ rfl (by kernel_rfl) (fun _ _ _ h => h) (by rfl) ‹_› ?_ ?_
            rotate_left
            · intro W hSW; first | (go_simp; done) | (go_simp; with_reducible rfl)
            try simp only [Act.put, pA, pB, pC]
            refine tkH 17 ck17 ?_ rfl (by kernel_rfl) (fun _ _ _ h => h) (by rfl) ‹_› ?_ ?_
            rotate_left
            · intro W hSW; first | (go_simp; done) | (go_simp; with_reducible rfl)
            try simp only [Act.put, pA, pB, pC]
            refine tkH 18 ck18 ?_ rfl (by kernel_rfl) (fun _ _ _ h => h) (by rfl) ‹_› ?_ ?_
            rotate_left
            · intro W hSW; first | (go_simp; done) | (go_simp; with_reducible rfl)
            try simp only [Act.put, pA, pB, pC]
            refine tkH 19 ck19 ?_ rfl (by kernel_rfl) (fun _ _ _ h => h) (by rfl) ‹_› ?_ ?_
            rotate_left
            · intro W hSW; have z0 := cell_on hSW x2; have z1 := cell_on hSW x3; have z2 := cell_on hSW x4; have z3 := cell_on hSW y0; have z4 := cell_on hSW y1; have z5 := cell_on hSW y2; have z6 := cell_on hSW y3; have z7 := cell_on hSW q1; have z8 := cell_on hSW q3; have z9 := cell_on hSW q4; first | (go_simp; done) | (go_simp; with_reducible rfl)
            try simp only [Act.put, pA, pB, pC]
            refine tkH 20 ck20 ?_ rfl (by kernel_rfl) (fun _ _ _ h => h) (by rfl) ‹_› ?_ ?_
            rotate_left
            · intro W hSW; first | (go_simp; done) | (go_simp; with_reducible rfl)
            try simp only [Act.put, pA, pB, pC]
            refine tkH 21 ck21 (.bool true) rfl (by kernel_rfl) (fun _ _ _ h => h) (by rfl) ‹_› ?_ ?_
            · intro W hSW; first | (go_simp; done) | (go_simp; with_reducible rfl)
            try simp only [Act.put, pA, pB, pC]
            refine tkH 22 ck22 ?_ rfl (by kernel_rfl) (fun _ _ _ h => h) (by rfl) ‹_› ?_ ?_
            rotate_left
            · intro W hSW; first | (go_simp; done) | (go_simp; with_reducible rfl)
            try simp only [Act.put, pA, pB, pC]
            refine tkH 23 ck23 ?_ rfl (by kernel_rfl) (fun _ _ _ h => h) (by rfl) ‹_› ?_ ?_
            rotate_left
            · intro W hSW; first | (go_simp; done) | (go_simp; with_reducible rfl)
            try simp only [Act.put, pA, pB, pC]
            refine tkH 24 ck24 ?_ rfl (by kernel_rfl) (fun _ _ _ h => h) (by rfl) ‹_› ?_ ?_
            rotate_left
            · intro W hSW; first | (go_simp; done) | (go_simp; with_reducible rfl)
            try simp only [Act.put, pA, pB, pC]
            refine tkH 25 ck25 ?_ rfl (by kernel_rfl) (fun _ _ _ h => h) (by rfl) ‹_› ?_ ?_
            rotate_left
            · intro W hSW; have z0 := cell_on hSW x2; have z1 := cell_on hSW x3; have z2 := cell_on hSW x4; have z3 := cell_on hSW y0; have z4 := cell_on hSW y1; have z5 := cell_on hSW y2; have z6 := cell_on hSW y3; have z7 := cell_on hSW q1; have z8 := cell_on hSW q3; have z9 := cell_on hSW q4; first | (go_simp; done) | (go_simp; with_reducible rfl)
            try simp only [Act.put, pA, pB, pC]
            refine tkH 27 ck27 ?_ rfl (by kernel_rfl) (fun _ _ _ h => h) (by rfl) ‹_› ?_ ?_
            rotate_left
            · intro W hSW; first | (go_simp; done) | (go_simp; with_reducible rfl)
            try simp only [Act.put, pA, pB, pC]
            refine tkH 28 ck28 ?_ rfl (by kernel_rfl) (fun _ _ _ h => h) (by rfl) ‹_› ?_ ?_
            rotate_left
            · intro W hSW; have z0 := cell_on hSW x2; have z1 := cell_on hSW x3; have z2 := cell_on hSW x4; have z3 := cell_on hSW y0; have z4 := cell_on hSW y1; have z5 := cell_on hSW y2; have z6 := cell_on hSW y3; have z7 := cell_on hSW q1; have z8 := cell_on hSW q3; have z9 := cell_on hSW q4; first | (go_simp; done) | (go_simp; with_reducible rfl)
            try simp only [Act.put, pA, pB, pC]
            refine tkH 29 ck29 ?_ rfl (by kernel_rfl) (fun _ _ _ h => h) (by rfl) ‹_› ?_ ?_
            rotate_left
            · intro W hSW; first | (go_simp; done) | (go_simp; with_reducible rfl)
            try simp only [Act.put, pA, pB, pC]
            refine tkH 30 ck30 ?_ rfl (by kernel_rfl) (fun _ _ _ h => h) (by rfl) ‹_› ?_ ?_
            rotate_left
            · intro W hSW; have z0 := cell_on hSW x2; have z1 := cell_on hSW x3; have z2 := cell_on hSW x4; have z3 := cell_on hSW y0; have z4 := cell_on hSW y1; have z5 := cell_on hSW y2; have z6 := cell_on hSW y3; have z7 := cell_on hSW q1; have z8 := cell_on hSW q3; have z9 := cell_on hSW q4; first | (go_simp; done) | (go_simp; with_reducible rfl)
            try simp only [Act.put, pA, pB, pC]
            refine tkH 31 ck31 ?_ rfl (by kernel_rfl) (fun _ _ _ h => h) (by rfl) ‹_› ?_ ?_
            rotate_left
            · intro W hSW; first | (go_simp; done) | (go_simp; with_reducible rfl)
            try simp only [Act.put, pA, pB, pC]
            refine tkH 32 ck32 ?_ rfl (by kernel_rfl) (fun _ _ _ h => h) (by rfl) ‹_› ?_ ?_
            rotate_left
            · intro W hSW; have z0 := cell_on hSW x2; have z1 := cell_on hSW x3; have z2 := cell_on hSW x4; have z3 := cell_on hSW y0; have z4 := cell_on hSW y1; have z5 := cell_on hSW y2; have z6 := cell_on hSW y3; have z7 := cell_on hSW q1; have z8 := cell_on hSW q3; have z9 := cell_on hSW q4; first | (go_simp; done) | (go_simp; with_reducible rfl)
            try simp only [Act.put, pA, pB, pC]
            refine wpAnyH_lone (R := fun W => Below w2.heap.size w2 W) (i := 26) (oi := ck26) (vi := .string D) (by kernel_rfl) rfl hRw (fun _ h => h) ?_ ?_
            · intro W hW K hK
              go_simp
              refine (H26.out W hW).mono ?_
              rintro e W2 ⟨rfl, hb⟩
              go_wp2_with fail
              exact hK.out _ (below_then hW hb)
            clear hRw hHeld
            intro W9 hRw hHeld
            try simp only [Act.put, pA, pB, pC]
            refine tkH 33 ck33 (.bool false) rfl (by kernel_rfl) (fun _ _ _ h => h) (by rfl) ‹_› ?_ ?_
            · intro W hSW; first | (go_simp; done) | (go_simp; with_reducible rfl)
            try simp only [Act.put, pA, pB, pC]
            refine tkH 34 ck34 ?_ rfl (by kernel_rfl) (fun _ _ _ h => h) (by rfl) ‹_› ?_ ?_
            rotate_left
            · intro W hSW; first | (go_simp; done) | (go_simp; with_reducible rfl)
            try simp only [Act.put, pA, pB, pC]
            refine tkH 35 ck35 ?_ rfl (by kernel_rfl) (fun _ _ _ h => h) (by rfl) ‹_› ?_ ?_
            rotate_left
            · intro W hSW; first | (go_simp; done) | (go_simp; with_reducible rfl)
            try simp only [Act.put, pA, pB, pC]
            refine tkO 36 ck36 rfl (by kernel_rfl) (fun _ _ _ h => h) (by rfl) ‹_› ?_
            try simp only [Act.put, pA, pB, pC]
            refine tkO 37 ck37 rfl (by kernel_rfl) (fun _ _ _ h => h) (by rfl) ‹_› ?_
            try simp only [Act.put, pA, pB, pC]
            refine tkO 38 ck38 rfl (by kernel_rfl) (fun _ _ _ h => h) (by rfl) ‹_› ?_
            try simp only [Act.put, pA, pB, pC]
            refine tkO 39 ck39 rfl (by kernel_rfl) (fun _ _ _ h => h) (by rfl) ‹_› ?_
            try simp only [Act.put, pA, pB, pC]
            refine tkO 40 ck40 rfl (by kernel_rfl) (fun _ _ _ h => h) (by rfl) ‹_› ?_
            try simp only [Act.put, pA, pB, pC]
            refine tkO 41 ck41 rfl (by kernel_rfl) (fun _ _ _ h => h) (by rfl) ‹_› ?_
            try simp only [Act.put, pA, pB, pC]
            refine tkO 42 ck42 rfl (by kernel_rfl) (fun _ _ _ h => h) (by rfl) ‹_› ?_
            try simp only [Act.put, pA, pB, pC]
            refine tkO 43 ck43 rfl (by kernel_rfl) (fun _ _ _ h => h) (by rfl) ‹_› ?_
            try simp only [Act.put, pA, pB, pC]
            refine tkO 44 ck44 rfl (by kernel_rfl) (fun _ _ _ h => h) (by rfl) ‹_› ?_
            try simp only [Act.put, pA, pB, pC]
            refine tkO 45 ck45 rfl (by kernel_rfl) (fun _ _ _ h => h) (by rfl) ‹_› ?_
            try simp only [Act.put, pA, pB, pC]
            refine tkO 46 ck46 rfl (by kernel_rfl) (fun _ _ _ h => h) (by rfl) ‹_› ?_
            try simp only [Act.put, pA, pB, pC]
            refine tkO 47 ck47 rfl (by kernel_rfl) (fun _ _ _ h => h) (by rfl) ‹_› ?_
            try simp only [Act.put, pA, pB, pC]
            refine tkO 48 ck48 rfl (by kernel_rfl) (fun _ _ _ h => h) (by rfl) ‹_› ?_
            try simp only [Act.put, pA, pB, pC]
            refine tkO 49 ck49 rfl (by kernel_rfl) (fun _ _ _ h => h) (by rfl) ‹_› ?_
            try simp only [Act.put, pA, pB, pC]
            refine tkO 50 ck50 rfl (by kernel_rfl) (fun _ _ _ h => h) (by rfl) ‹_› ?_
            try simp only [Act.put, pA, pB, pC]
            refine tkO 51 ck51 rfl (by kernel_rfl) (fun _ _ _ h => h) (by rfl) ‹_› ?_
            try simp only [Act.put, pA, pB, pC]
            refine tkH 52 ck52 ?_ rfl (by kernel_rfl) (fun _ _ _ h => h) (by rfl) ‹_› ?_ ?_
            rotate_left
            · intro W hSW; first | (go_simp; done) | (go_simp; with_reducible rfl)
            try simp only [Act.put, pA, pB, pC]
            refine tkH 53 ck53 ?_ rfl (by kernel_rfl) (fun _ _ _ h => h) (by rfl) ‹_› ?_ ?_
            rotate_left
            · intro W hSW; first | (go_simp; done) | (go_simp; with_reducible rfl)
            try simp only [Act.put, pA, pB, pC]
            refine tkO 54 ck54 rfl (by kernel_rfl) (fun _ _ _ h => h) (by rfl) ‹_› ?_
            try simp only [Act.put, pA, pB, pC]
            refine tkO 55 ck55 rfl (by kernel_rfl) (fun _ _ _ h => h) (by rfl) ‹_› ?_
            try simp only [Act.put, pA, pB, pC]
            refine tkO 56 ck56 rfl (by kernel_rfl) (fun _ _ _ h => h) (by rfl) ‹_› ?_
            try simp only [Act.put, pA, pB, pC]
            refine tkO 57 ck57 rfl (by kernel_rfl) (fun _ _ _ h => h) (by rfl) ‹_› ?_
            try simp only [Act.put, pA, pB, pC]
            refine tkO 58 ck58 rfl (by kernel_rfl) (fun _ _ _ h => h) (by rfl) ‹_› ?_
            try simp only [Act.put, pA, pB, pC]
            refine tkO 59 ck59 rfl (by kernel_rfl) (fun _ _ _ h => h) (by rfl) ‹_› ?_
            try simp only [Act.put, pA, pB, pC]
            refine tkO 60 ck60 rfl (by kernel_rfl) (fun _ _ _ h => h) (by rfl) ‹_› ?_
            try simp only [Act.put, pA, pB, pC]
            refine tkH 61 ck61 ?_ rfl (by kernel_rfl) (fun _ _ _ h => h) (by rfl) ‹_› ?_ ?_
            rotate_left
            · intro W hSW; first | (go_simp; done) | (go_simp; with_reducible rfl)
            try simp only [Act.put, pA, pB, pC]
            refine tkH 62 ck62 ?_ rfl (by kernel_rfl) (fun _ _ _ h => h) (by rfl) ‹_› ?_ ?_
            rotate_left
            · intro W hSW; first | (go_simp; done) | (go_simp; with_reducible rfl)
            try simp only [Act.put, pA, pB, pC]
            refine tkO 63 ck63 rfl (by kernel_rfl) (fun _ _ _ h => h) (by rfl) ‹_› ?_
            try simp only [Act.put, pA, pB, pC]
            refine tkO 64 ck64 rfl (by kernel_rfl) (fun _ _ _ h => h) (by rfl) ‹_› ?_
            try simp only [Act.put, pA, pB, pC]
            refine tkO 65 ck65 rfl (by kernel_rfl) (fun _ _ _ h => h) (by rfl) ‹_› ?_
            try simp only [Act.put, pA, pB, pC]
            refine tkH 66 ck66 ?_ rfl (by kernel_rfl) (fun _ _ _ h => h) (by rfl) ‹_› ?_ ?_
            rotate_left
            · intro W hSW; first | (go_simp; done) | (go_simp; with_reducible rfl)
            try simp only [Act.put, pA, pB, pC]
            refine tkH 67 ck67 ?_ rfl (by kernel_rfl) (fun _ _ _ h => h) (by rfl) ‹_› ?_ ?_
            rotate_left
            · intro W hSW; first | (go_simp; done) | (go_simp; with_reducible rfl)
            try simp only [Act.put, pA, pB, pC]
            refine wpAnyH_done (by kernel_rfl) ?_ _
            have hB9 := HB.out _ hRw
            clear hRw hHeld
            go_wp2
            go_ret
            exact ⟨ret_bool hf.out.symm, hB9⟩
        · have hf : Hid (r = false) := hno.out (fun h => c3 h.2.2.2.1)
          have t3 : decide ((K.secret.size : Int) ≤ 64) = false := by simp; omega
          clear c3 hno hyes
          have hRw : Below w2.heap.size w2 w2.drew := ⟨rfl, rfl, rfl, Nat.le_refl _, fun _ _ => rfl⟩
          refine wp_region_held_drew (S := fun W => Below w2.heap.size w2 W) (by kernel_rfl) hRw (fun hHeld => ?_)
          refine wpAnyH_take (i := 0) (oi := ck0) (v := .agg cs) rfl (by kernel_rfl) (by kernel_rfl) (by kernel_rfl) (fun _ _ _ h => h) (yields_loadV (by rfl) (.tmp 3) (by rfl) _ cs (by rfl) h7 (fun W hW => hx2.below hW)) (by assumption) ?_
          try simp only [Act.put, pA, pB, pC]
          refine wpAnyH_lone (R := fun W => Below w2.heap.size w2 W) (i := 1) (oi := ck1) (vi := .bool true) (by kernel_rfl) rfl hRw (fun _ h => h) ?_ ?_
          · intro W hW K hK
            go_simp
            refine (H1.out W hW).mono ?_
            rintro e W2 ⟨rfl, hb⟩
            go_wp2_with fail
            exact hK.out _ (below_then hW hb)
          clear hRw hHeld
          intro W9 hRw hHeld
          try simp only [Act.put, pA, pB, pC]
          refine tkH 2 ck2 ?_ rfl (by kernel_rfl) (fun _ _ _ h => h) (by rfl) ‹_› ?_ ?_
          rotate_left
          · intro W hSW; first | (go_simp; done) | (go_simp; with_reducible rfl)
          try simp only [Act.put, pA, pB, pC]
          refine tkH 3 ck3 ?_ rfl (by kernel_rfl) (fun _ _ _ h => h) (by rfl) ‹_› ?_ ?_
          rotate_left
          · intro W hSW; first | (go_simp; done) | (go_simp; with_reducible rfl)
          try simp only [Act.put, pA, pB, pC]
          refine tkH 4 ck4 ?_ rfl (by kernel_rfl) (fun _ _ _ h => h) (by rfl) ‹_› ?_ ?_
          rotate_left
          · intro W hSW; first | (go_simp; done) | (go_simp; with_reducible rfl)
          try simp only [Act.put, pA, pB, pC]
          refine tkH 5 ck5 ?_ rfl (by kernel_rfl) (fun _ _ _ h => h) (by rfl) ‹_› ?_ ?_
          rotate_left
          · intro W hSW; have z0 := cell_on hSW x2; have z1 := cell_on hSW x3; have z2 := cell_on hSW x4; have z3 := cell_on hSW y0; have z4 := cell_on hSW y1; have z5 := cell_on hSW y2; have z6 := cell_on hSW y3; have z7 := cell_on hSW q1; have z8 := cell_on hSW q3; have z9 := cell_on hSW q4; first | (go_simp; done) | (go_simp; with_reducible rfl)
          try simp only [Act.put, pA, pB, pC]
          refine tkH 6 ck6 ?_ rfl (by kernel_rfl) (fun _ _ _ h => h) (by rfl) ‹_› ?_ ?_
          rotate_left
          · intro W hSW; first | (go_simp; done) | (go_simp; with_reducible rfl)
          try simp only [Act.put, pA, pB, pC]
          refine wpAnyH_lone (R := fun W => Below w2.heap.size w2 W) (i := 7) (oi := ck7) (vi := .bool true) (by kernel_rfl) rfl hRw (fun _ h => h) ?_ ?_
          · intro W hW K hK
            go_simp
            refine (H7.out W hW).mono ?_
            rintro e W2 ⟨rfl, hb⟩
            go_wp2_with fail
            exact hK.out _ (below_then hW hb)
          clear hRw hHeld
          intro W9 hRw hHeld
          try simp only [Act.put, pA, pB, pC]
          refine tkH 8 ck8 ?_ rfl (by kernel_rfl) (fun _ _ _ h => h) (by rfl) ‹_› ?_ ?_
          rotate_left
          · intro W hSW; first | (go_simp; done) | (go_simp; with_reducible rfl)
          try simp only [Act.put, pA, pB, pC]
          refine tkH 9 ck9 ?_ rfl (by kernel_rfl) (fun _ _ _ h => h) (by rfl) ‹_› ?_ ?_
          rotate_left
          · intro W hSW; first | (go_simp; done) | (go_simp; with_reducible rfl)
          try simp only [Act.put, pA, pB, pC]
          refine tkH 10 ck10 ?_ rfl (by kernel_rfl) (fun _ _ _ h => h) (by rfl) ‹_› ?_ ?_
          rotate_left
          · intro W hSW; first | (go_simp; done) | (go_simp; with_reducible rfl)
          try simp only [Act.put, pA, pB, pC]
          refine tkH 11 ck11 ?_ rfl (by kernel_rfl) (fun _ _ _ h => h) (by rfl) ‹_› ?_ ?_
          rotate_left
          · intro W hSW; have z0 := cell_on hSW x2; have z1 := cell_on hSW x3; have z2 := cell_on hSW x4; have z3 := cell_on hSW y0; have z4 := cell_on hSW y1; have z5 := cell_on hSW y2; have z6 := cell_on hSW y3; have z7 := cell_on hSW q1; have z8 := cell_on hSW q3; have z9 := cell_on hSW q4; first | (go_simp; done) | (go_simp; with_reducible rfl)
          try simp only [Act.put, pA, pB, pC]
          refine tkH 12 ck12 ?_ rfl (by kernel_rfl) (fun _ _ _ h => h) (by rfl) ‹_› ?_ ?_
          rotate_left
          · intro W hSW; first | (go_simp; done) | (go_simp; with_reducible rfl)
          try simp only [Act.put, pA, pB, pC]
          refine tkH 13 ck13 ?_ rfl (by kernel_rfl) (fun _ _ _ h => h) (by rfl) ‹_› ?_ ?_
          rotate_left
          · intro W hSW; have z0 := cell_on hSW x2; have z1 := cell_on hSW x3; have z2 := cell_on hSW x4; have z3 := cell_on hSW y0; have z4 := cell_on hSW y1; have z5 := cell_on hSW y2; have z6 := cell_on hSW y3; have z7 := cell_on hSW q1; have z8 := cell_on hSW q3; have z9 := cell_on hSW q4; first | (go_simp; done) | (go_simp; with_reducible rfl)
          try simp only [Act.put, pA, pB, pC]
          refine tkH 14 ck14 ?_ rfl (by kernel_rfl) (fun _ _ _ h => h) (by rfl) ‹_› ?_ ?_
          rotate_left
          · intro W hSW; first | (go_simp; done) | (go_simp; with_reducible rfl)
          try simp only [Act.put, pA, pB, pC]
          refine wpAnyH_lone (R := fun W => Below w2.heap.size w2 W) (i := 15) (oi := ck15) (vi := .bool true) (by kernel_rfl) rfl hRw (fun _ h => h) ?_ ?_
          · intro W hW K hK
            go_simp
            refine (H15.out W hW).mono ?_
            rintro e W2 ⟨rfl, hb⟩
            go_wp2_with fail
            exact hK.out _ (below_then hW hb)
          clear hRw hHeld
          intro W9 hRw hHeld
          try simp only [Act.put, pA, pB, pC]
          refine tkH 16 ck16 ?_ rfl (by kernel_rfl) (fun _ _ _ h => h) (by rfl) ‹_› ?_ ?_
          rotate_left
          · intro W hSW; first | (go_simp; done) | (go_simp; with_reducible rfl)
          try simp only [Act.put, pA, pB, pC]
          refine tkH 17 ck17 ?_ rfl (by kernel_rfl) (fun _ _ _ h => h) (by rfl) ‹_› ?_ ?_
          rotate_left
          · intro W hSW; first | (go_simp; done) | (go_simp; with_reducible rfl)
          try simp only [Act.put, pA, pB, pC]
          refine tkH 18 ck18 ?_ rfl (by kernel_rfl) (fun _ _ _ h => h) (by rfl) ‹_› ?_ ?_
          rotate_left
          · intro W hSW; first | (go_simp; done) | (go_simp; with_reducible rfl)
          try simp only [Act.put, pA, pB, pC]
          refine tkH 19 ck19 ?_ rfl (by kernel_rfl) (fun _ _ _ h => h) (by rfl) ‹_› ?_ ?_
          rotate_left
          · intro W hSW; have z0 := cell_on hSW x2; have z1 := cell_on hSW x3; have z2 := cell_on hSW x4; have z3 := cell_on hSW y0; have z4 := cell_on hSW y1; have z5 := cell_on hSW y2; have z6 := cell_on hSW y3; have z7 := cell_on hSW q1; have z8 := cell_on hSW q3; have z9 := cell_on hSW q4; first | (go_simp; done) | (go_simp; with_reducible rfl)
          try simp only [Act.put, pA, pB, pC]
          refine tkH 20 ck20 ?_ rfl (by kernel_rfl) (fun _ _ _ h => h) (by rfl) ‹_› ?_ ?_
          rotate_left
          · intro W hSW; first | (go_simp; done) | (go_simp; with_reducible rfl)
          try simp only [Act.put, pA, pB, pC]
          refine tkH 21 ck21 (.bool false) rfl (by kernel_rfl) (fun _ _ _ h => h) (by rfl) ‹_› ?_ ?_
          · intro W hSW; first | (go_simp; done) | (go_simp; with_reducible rfl)
          try simp only [Act.put, pA, pB, pC]
          refine tkH 22 ck22 ?_ rfl (by kernel_rfl) (fun _ _ _ h => h) (by rfl) ‹_› ?_ ?_
          rotate_left
          · intro W hSW; first | (go_simp; done) | (go_simp; with_reducible rfl)
          try simp only [Act.put, pA, pB, pC]
          refine tkH 23 ck23 ?_ rfl (by kernel_rfl) (fun _ _ _ h => h) (by rfl) ‹_› ?_ ?_
          rotate_left
          · intro W hSW; first | (go_simp; done) | (go_simp; with_reducible rfl)
          try simp only [Act.put, pA, pB, pC]
          refine tkO 24 ck24 rfl (by kernel_rfl) (fun _ _ _ h => h) (by rfl) ‹_› ?_
          try simp only [Act.put, pA, pB, pC]
          refine tkO 25 ck25 rfl (by kernel_rfl) (fun _ _ _ h => h) (by rfl) ‹_› ?_
          try simp only [Act.put, pA, pB, pC]
          refine tkO 26 ck26 rfl (by kernel_rfl) (fun _ _ _ h => h) (by rfl) ‹_› ?_
          try simp only [Act.put, pA, pB, pC]
          refine tkO 27 ck27 rfl (by kernel_rfl) (fun _ _ _ h => h) (by rfl) ‹_› ?_
          try simp only [Act.put, pA, pB, pC]
          refine tkO 28 ck28 rfl (by kernel_rfl) (fun _ _ _ h => h) (by rfl) ‹_› ?_
          try simp only [Act.put, pA, pB, pC]
          refine tkO 29 ck29 rfl (by kernel_rfl) (fun _ _ _ h => h) (by rfl) ‹_› ?_
          try simp only [Act.put, pA, pB, pC]
          refine tkO 30 ck30 rfl (by kernel_rfl) (fun _ _ _ h => h) (by rfl) ‹_› ?_
          try simp only [Act.put, pA, pB, pC]
          refine tkO 31 ck31 rfl (by kernel_rfl) (fun _ _ _ h => h) (by rfl) ‹_› ?_
          try simp only [Act.put, pA, pB, pC]
          refine tkO 32 ck32 rfl (by kernel_rfl) (fun _ _ _ h => h) (by rfl) ‹_› ?_
          try simp only [Act.put, pA, pB, pC]
          refine tkO 33 ck33 rfl (by kernel_rfl) (fun _ _ _ h => h) (by rfl) ‹_› ?_
          try simp only [Act.put, pA, pB, pC]
          refine tkH 34 ck34 ?_ rfl (by kernel_rfl) (fun _ _ _ h => h) (by rfl) ‹_› ?_ ?_
          rotate_left
          · intro W hSW; first | (go_simp; done) | (go_simp; with_reducible rfl)
          try simp only [Act.put, pA, pB, pC]
          refine tkH 35 ck35 ?_ rfl (by kernel_rfl) (fun _ _ _ h => h) (by rfl) ‹_› ?_ ?_
          rotate_left
          · intro W hSW; first | (go_simp; done) | (go_simp; with_reducible rfl)
          try simp only [Act.put, pA, pB, pC]
          refine tkO 36 ck36 rfl (by kernel_rfl) (fun _ _ _ h => h) (by rfl) ‹_› ?_
          try simp only [Act.put, pA, pB, pC]
          refine tkO 37 ck37 rfl (by kernel_rfl) (fun _ _ _ h => h) (by rfl) ‹_› ?_
          try simp only [Act.put, pA, pB, pC]
          refine tkO 38 ck38 rfl (by kernel_rfl) (fun _ _ _ h => h) (by rfl) ‹_› ?_
          try simp only [Act.put, pA, pB, pC]
          refine tkO 39 ck39 rfl (by kernel_rfl) (fun _ _ _ h => h) (by rfl) ‹_› ?_
          try simp only [Act.put, pA, pB, pC]
          refine tkO 40 ck40 rfl (by kernel_rfl) (fun _ _ _ h => h) (by rfl) ‹_› ?_
          try simp only [Act.put, pA, pB, pC]
          refine tkO 41 ck41 rfl (by kernel_rfl) (fun _ _ _ h => h) (by rfl) ‹_› ?_
          try simp only [Act.put, pA, pB, pC]
          refine tkO 42 ck42 rfl (by kernel_rfl) (fun _ _ _ h => h) (by rfl) ‹_› ?_
          try simp only [Act.put, pA, pB, pC]
          refine tkO 43 ck43 rfl (by kernel_rfl) (fun _ _ _ h => h) (by rfl) ‹_› ?_
          try simp only [Act.put, pA, pB, pC]
          refine tkO 44 ck44 rfl (by kernel_rfl) (fun _ _ _ h => h) (by rfl) ‹_› ?_
          try simp only [Act.put, pA, pB, pC]
          refine tkO 45 ck45 rfl (by kernel_rfl) (fun _ _ _ h => h) (by rfl) ‹_› ?_
          try simp only [Act.put, pA, pB, pC]
          refine tkO 46 ck46 rfl (by kernel_rfl) (fun _ _ _ h => h) (by rfl) ‹_› ?_
          try simp only [Act.put, pA, pB, pC]
          refine tkO 47 ck47 rfl (by kernel_rfl) (fun _ _ _ h => h) (by rfl) ‹_› ?_
          try simp only [Act.put, pA, pB, pC]
          refine tkO 48 ck48 rfl (by kernel_rfl) (fun _ _ _ h => h) (by rfl) ‹_› ?_
          try simp only [Act.put, pA, pB, pC]
          refine tkO 49 ck49 rfl (by kernel_rfl) (fun _ _ _ h => h) (by rfl) ‹_› ?_
          try simp only [Act.put, pA, pB, pC]
          refine tkO 50 ck50 rfl (by kernel_rfl) (fun _ _ _ h => h) (by rfl) ‹_› ?_
          try simp only [Act.put, pA, pB, pC]
          refine tkO 51 ck51 rfl (by kernel_rfl) (fun _ _ _ h => h) (by rfl) ‹_› ?_
          try simp only [Act.put, pA, pB, pC]
          refine tkH 52 ck52 ?_ rfl (by kernel_rfl) (fun _ _ _ h => h) (by rfl) ‹_› ?_ ?_
          rotate_left
          · intro W hSW; first | (go_simp; done) | (go_simp; with_reducible rfl)
          try simp only [Act.put, pA, pB, pC]
          refine tkH 53 ck53 ?_ rfl (by kernel_rfl) (fun _ _ _ h => h) (by rfl) ‹_› ?_ ?_
          rotate_left
          · intro W hSW; first | (go_simp; done) | (go_simp; with_reducible rfl)
          try simp only [Act.put, pA, pB, pC]
          refine tkO 54 ck54 rfl (by kernel_rfl) (fun _ _ _ h => h) (by rfl) ‹_› ?_
          try simp only [Act.put, pA, pB, pC]
          refine tkO 55 ck55 rfl (by kernel_rfl) (fun _ _ _ h => h) (by rfl) ‹_› ?_
          try simp only [Act.put, pA, pB, pC]
          refine tkO 56 ck56 rfl (by kernel_rfl) (fun _ _ _ h => h) (by rfl) ‹_› ?_
          try simp only [Act.put, pA, pB, pC]
          refine tkO 57 ck57 rfl (by kernel_rfl) (fun _ _ _ h => h) (by rfl) ‹_› ?_
          try simp only [Act.put, pA, pB, pC]
          refine tkO 58 ck58 rfl (by kernel_rfl) (fun _ _ _ h => h) (by rfl) ‹_› ?_
          try simp only [Act.put, pA, pB, pC]
          refine tkO 59 ck59 rfl (by kernel_rfl) (fun _ _ _ h => h) (by rfl) ‹_› ?_
          try simp only [Act.put, pA, pB, pC]
          refine tkO 60 ck60 rfl (by kernel_rfl) (fun _ _ _ h => h) (by rfl) ‹_› ?_
          try simp only [Act.put, pA, pB, pC]
          refine tkH 61 ck61 ?_ rfl (by kernel_rfl) (fun _ _ _ h => h) (by rfl) ‹_› ?_ ?_
          rotate_left
          · intro W hSW; first | (go_simp; done) | (go_simp; with_reducible rfl)
          try simp only [Act.put, pA, pB, pC]
          refine tkH 62 ck62 ?_ rfl (by kernel_rfl) (fun _ _ _ h => h) (by rfl) ‹_› ?_ ?_
          rotate_left
          · intro W hSW; first | (go_simp; done) | (go_simp; with_reducible rfl)
          try simp only [Act.put, pA, pB, pC]
          refine tkO 63 ck63 rfl (by kernel_rfl) (fun _ _ _ h => h) (by rfl) ‹_› ?_
          try simp only [Act.put, pA, pB, pC]
          refine tkO 64 ck64 rfl (by kernel_rfl) (fun _ _ _ h => h) (by rfl) ‹_› ?_
          try simp only [Act.put, pA, pB, pC]
          refine tkO 65 ck65 rfl (by kernel_rfl) (fun _ _ _ h => h) (by rfl) ‹_› ?_
          try simp only [Act.put, pA, pB, pC]
          refine tkH 66 ck66 ?_ rfl (by kernel_rfl) (fun _ _ _ h => h) (by rfl) ‹_› ?_ ?_
          rotate_left
          · intro W hSW; first | (go_simp; done) | (go_simp; with_reducible rfl)
          try simp only [Act.put, pA, pB, pC]
          refine tkH 67 ck67 ?_ rfl (by kernel_rfl) (fun _ _ _ h => h) (by rfl) ‹_› ?_ ?_
          rotate_left
          · intro W hSW; first | (go_simp; done) | (go_simp; with_reducible rfl)
          try simp only [Act.put, pA, pB, pC]
          refine wpAnyH_done (by kernel_rfl) ?_ _
          have hB9 := HB.out _ hRw
          clear hRw hHeld
          go_wp2
          go_ret
          exact ⟨ret_bool hf.out.symm, hB9⟩
      · have hf : Hid (r = false) := hno.out (fun h => c2 h.2.2.1)
        have H15 : Hid (∀ W, Below w2.heap.size w2 W → Calls Try.prog 20 #[.int .i64 K.lock, .int .i64 (nk : Int)] W fun e w' => e = .returned (.bool false) ∧ Below W.heap.size W w') := fun W hW => by
          refine (hbelow_any _ _ W).mono ?_
          rintro e w' ⟨h1, rfl⟩
          have p1 : ¬ (0 ≤ K.lock ∧ K.lock < (nk : Int)) := by rw [← hnk.out]; exact c2
          rw [told_no p1] at h1
          exact ⟨h1, Below.refl _ _⟩
        clear c2 hno hyes
        have hRw : Below w2.heap.size w2 w2.drew := ⟨rfl, rfl, rfl, Nat.le_refl _, fun _ _ => rfl⟩
        refine wp_region_held_drew (S := fun W => Below w2.heap.size w2 W) (by kernel_rfl) hRw (fun hHeld => ?_)
        refine wpAnyH_take (i := 0) (oi := ck0) (v := .agg cs) rfl (by kernel_rfl) (by kernel_rfl) (by kernel_rfl) (fun _ _ _ h => h) (yields_loadV (by rfl) (.tmp 3) (by rfl) _ cs (by rfl) h7 (fun W hW => hx2.below hW)) (by assumption) ?_
        try simp only [Act.put, pA, pB, pC]
        refine wpAnyH_lone (R := fun W => Below w2.heap.size w2 W) (i := 1) (oi := ck1) (vi := .bool true) (by kernel_rfl) rfl hRw (fun _ h => h) ?_ ?_
        · intro W hW K hK
          go_simp
          refine (H1.out W hW).mono ?_
          rintro e W2 ⟨rfl, hb⟩
          go_wp2_with fail
          exact hK.out _ (below_then hW hb)
        clear hRw hHeld
        intro W9 hRw hHeld
        try simp only [Act.put, pA, pB, pC]
        refine tkH 2 ck2 ?_ rfl (by kernel_rfl) (fun _ _ _ h => h) (by rfl) ‹_› ?_ ?_
        rotate_left
        · intro W hSW; first | (go_simp; done) | (go_simp; with_reducible rfl)
        try simp only [Act.put, pA, pB, pC]
        refine tkH 3 ck3 ?_ rfl (by kernel_rfl) (fun _ _ _ h => h) (by rfl) ‹_› ?_ ?_
        rotate_left
        · intro W hSW; first | (go_simp; done) | (go_simp; with_reducible rfl)
        try simp only [Act.put, pA, pB, pC]
        refine tkH 4 ck4 ?_ rfl (by kernel_rfl) (fun _ _ _ h => h) (by rfl) ‹_› ?_ ?_
        rotate_left
        · intro W hSW; first | (go_simp; done) | (go_simp; with_reducible rfl)
        try simp only [Act.put, pA, pB, pC]
        refine tkH 5 ck5 ?_ rfl (by kernel_rfl) (fun _ _ _ h => h) (by rfl) ‹_› ?_ ?_
        rotate_left
        · intro W hSW; have z0 := cell_on hSW x2; have z1 := cell_on hSW x3; have z2 := cell_on hSW x4; have z3 := cell_on hSW y0; have z4 := cell_on hSW y1; have z5 := cell_on hSW y2; have z6 := cell_on hSW y3; have z7 := cell_on hSW q1; first | (go_simp; done) | (go_simp; with_reducible rfl)
        try simp only [Act.put, pA, pB, pC]
        refine tkH 6 ck6 ?_ rfl (by kernel_rfl) (fun _ _ _ h => h) (by rfl) ‹_› ?_ ?_
        rotate_left
        · intro W hSW; first | (go_simp; done) | (go_simp; with_reducible rfl)
        try simp only [Act.put, pA, pB, pC]
        refine wpAnyH_lone (R := fun W => Below w2.heap.size w2 W) (i := 7) (oi := ck7) (vi := .bool true) (by kernel_rfl) rfl hRw (fun _ h => h) ?_ ?_
        · intro W hW K hK
          go_simp
          refine (H7.out W hW).mono ?_
          rintro e W2 ⟨rfl, hb⟩
          go_wp2_with fail
          exact hK.out _ (below_then hW hb)
        clear hRw hHeld
        intro W9 hRw hHeld
        try simp only [Act.put, pA, pB, pC]
        refine tkH 8 ck8 ?_ rfl (by kernel_rfl) (fun _ _ _ h => h) (by rfl) ‹_› ?_ ?_
        rotate_left
        · intro W hSW; first | (go_simp; done) | (go_simp; with_reducible rfl)
        try simp only [Act.put, pA, pB, pC]
        refine tkH 9 ck9 ?_ rfl (by kernel_rfl) (fun _ _ _ h => h) (by rfl) ‹_› ?_ ?_
        rotate_left
        · intro W hSW; first | (go_simp; done) | (go_simp; with_reducible rfl)
        try simp only [Act.put, pA, pB, pC]
        refine tkH 10 ck10 ?_ rfl (by kernel_rfl) (fun _ _ _ h => h) (by rfl) ‹_› ?_ ?_
        rotate_left
        · intro W hSW; first | (go_simp; done) | (go_simp; with_reducible rfl)
        try simp only [Act.put, pA, pB, pC]
        refine tkH 11 ck11 ?_ rfl (by kernel_rfl) (fun _ _ _ h => h) (by rfl) ‹_› ?_ ?_
        rotate_left
        · intro W hSW; have z0 := cell_on hSW x2; have z1 := cell_on hSW x3; have z2 := cell_on hSW x4; have z3 := cell_on hSW y0; have z4 := cell_on hSW y1; have z5 := cell_on hSW y2; have z6 := cell_on hSW y3; have z7 := cell_on hSW q1; first | (go_simp; done) | (go_simp; with_reducible rfl)
        try simp only [Act.put, pA, pB, pC]
        refine tkH 12 ck12 ?_ rfl (by kernel_rfl) (fun _ _ _ h => h) (by rfl) ‹_› ?_ ?_
        rotate_left
        · intro W hSW; first | (go_simp; done) | (go_simp; with_reducible rfl)
        try simp only [Act.put, pA, pB, pC]
        refine tkH 13 ck13 ?_ rfl (by kernel_rfl) (fun _ _ _ h => h) (by rfl) ‹_› ?_ ?_
        rotate_left
        · intro W hSW; have z0 := cell_on hSW x2; have z1 := cell_on hSW x3; have z2 := cell_on hSW x4; have z3 := cell_on hSW y0; have z4 := cell_on hSW y1; have z5 := cell_on hSW y2; have z6 := cell_on hSW y3; have z7 := cell_on hSW q1; first | (go_simp; done) | (go_simp; with_reducible rfl)
        try simp only [Act.put, pA, pB, pC]
        refine tkH 14 ck14 ?_ rfl (by kernel_rfl) (fun _ _ _ h => h) (by rfl) ‹_› ?_ ?_
        rotate_left
        · intro W hSW; first | (go_simp; done) | (go_simp; with_reducible rfl)
        try simp only [Act.put, pA, pB, pC]
        refine wpAnyH_lone (R := fun W => Below w2.heap.size w2 W) (i := 15) (oi := ck15) (vi := .bool false) (by kernel_rfl) rfl hRw (fun _ h => h) ?_ ?_
        · intro W hW K hK
          go_simp
          refine (H15.out W hW).mono ?_
          rintro e W2 ⟨rfl, hb⟩
          go_wp2_with fail
          exact hK.out _ (below_then hW hb)
        clear hRw hHeld
        intro W9 hRw hHeld
        try simp only [Act.put, pA, pB, pC]
        refine tkH 16 ck16 ?_ rfl (by kernel_rfl) (fun _ _ _ h => h) (by rfl) ‹_› ?_ ?_
        rotate_left
        · intro W hSW; first | (go_simp; done) | (go_simp; with_reducible rfl)
        try simp only [Act.put, pA, pB, pC]
        refine tkH 17 ck17 ?_ rfl (by kernel_rfl) (fun _ _ _ h => h) (by rfl) ‹_› ?_ ?_
        rotate_left
        · intro W hSW; first | (go_simp; done) | (go_simp; with_reducible rfl)
        try simp only [Act.put, pA, pB, pC]
        refine tkO 18 ck18 rfl (by kernel_rfl) (fun _ _ _ h => h) (by rfl) ‹_› ?_
        try simp only [Act.put, pA, pB, pC]
        refine tkO 19 ck19 rfl (by kernel_rfl) (fun _ _ _ h => h) (by rfl) ‹_› ?_
        try simp only [Act.put, pA, pB, pC]
        refine tkO 20 ck20 rfl (by kernel_rfl) (fun _ _ _ h => h) (by rfl) ‹_› ?_
        try simp only [Act.put, pA, pB, pC]
        refine tkO 21 ck21 rfl (by kernel_rfl) (fun _ _ _ h => h) (by rfl) ‹_› ?_
        try simp only [Act.put, pA, pB, pC]
        refine tkH 22 ck22 ?_ rfl (by kernel_rfl) (fun _ _ _ h => h) (by rfl) ‹_› ?_ ?_
        rotate_left
        · intro W hSW; first | (go_simp; done) | (go_simp; with_reducible rfl)
        try simp only [Act.put, pA, pB, pC]
        refine tkH 23 ck23 ?_ rfl (by kernel_rfl) (fun _ _ _ h => h) (by rfl) ‹_› ?_ ?_
        rotate_left
        · intro W hSW; first | (go_simp; done) | (go_simp; with_reducible rfl)
        try simp only [Act.put, pA, pB, pC]
        refine tkO 24 ck24 rfl (by kernel_rfl) (fun _ _ _ h => h) (by rfl) ‹_› ?_
        try simp only [Act.put, pA, pB, pC]
        refine tkO 25 ck25 rfl (by kernel_rfl) (fun _ _ _ h => h) (by rfl) ‹_› ?_
        try simp only [Act.put, pA, pB, pC]
        refine tkO 26 ck26 rfl (by kernel_rfl) (fun _ _ _ h => h) (by rfl) ‹_› ?_
        try simp only [Act.put, pA, pB, pC]
        refine tkO 27 ck27 rfl (by kernel_rfl) (fun _ _ _ h => h) (by rfl) ‹_› ?_
        try simp only [Act.put, pA, pB, pC]
        refine tkO 28 ck28 rfl (by kernel_rfl) (fun _ _ _ h => h) (by rfl) ‹_› ?_
        try simp only [Act.put, pA, pB, pC]
        refine tkO 29 ck29 rfl (by kernel_rfl) (fun _ _ _ h => h) (by rfl) ‹_› ?_
        try simp only [Act.put, pA, pB, pC]
        refine tkO 30 ck30 rfl (by kernel_rfl) (fun _ _ _ h => h) (by rfl) ‹_› ?_
        try simp only [Act.put, pA, pB, pC]
        refine tkO 31 ck31 rfl (by kernel_rfl) (fun _ _ _ h => h) (by rfl) ‹_› ?_
        try simp only [Act.put, pA, pB, pC]
        refine tkO 32 ck32 rfl (by kernel_rfl) (fun _ _ _ h => h) (by rfl) ‹_› ?_
        try simp only [Act.put, pA, pB, pC]
        refine tkO 33 ck33 rfl (by kernel_rfl) (fun _ _ _ h => h) (by rfl) ‹_› ?_
        try simp only [Act.put, pA, pB, pC]
        refine tkH 34 ck34 ?_ rfl (by kernel_rfl) (fun _ _ _ h => h) (by rfl) ‹_› ?_ ?_
        rotate_left
        · intro W hSW; first | (go_simp; done) | (go_simp; with_reducible rfl)
        try simp only [Act.put, pA, pB, pC]
        refine tkH 35 ck35 ?_ rfl (by kernel_rfl) (fun _ _ _ h => h) (by rfl) ‹_› ?_ ?_
        rotate_left
        · intro W hSW; first | (go_simp; done) | (go_simp; with_reducible rfl)
        try simp only [Act.put, pA, pB, pC]
        refine tkO 36 ck36 rfl (by kernel_rfl) (fun _ _ _ h => h) (by rfl) ‹_› ?_
        try simp only [Act.put, pA, pB, pC]
        refine tkO 37 ck37 rfl (by kernel_rfl) (fun _ _ _ h => h) (by rfl) ‹_› ?_
        try simp only [Act.put, pA, pB, pC]
        refine tkO 38 ck38 rfl (by kernel_rfl) (fun _ _ _ h => h) (by rfl) ‹_› ?_
        try simp only [Act.put, pA, pB, pC]
        refine tkO 39 ck39 rfl (by kernel_rfl) (fun _ _ _ h => h) (by rfl) ‹_› ?_
        try simp only [Act.put, pA, pB, pC]
        refine tkO 40 ck40 rfl (by kernel_rfl) (fun _ _ _ h => h) (by rfl) ‹_› ?_
        try simp only [Act.put, pA, pB, pC]
        refine tkO 41 ck41 rfl (by kernel_rfl) (fun _ _ _ h => h) (by rfl) ‹_› ?_
        try simp only [Act.put, pA, pB, pC]
        refine tkO 42 ck42 rfl (by kernel_rfl) (fun _ _ _ h => h) (by rfl) ‹_› ?_
        try simp only [Act.put, pA, pB, pC]
        refine tkO 43 ck43 rfl (by kernel_rfl) (fun _ _ _ h => h) (by rfl) ‹_› ?_
        try simp only [Act.put, pA, pB, pC]
        refine tkO 44 ck44 rfl (by kernel_rfl) (fun _ _ _ h => h) (by rfl) ‹_› ?_
        try simp only [Act.put, pA, pB, pC]
        refine tkO 45 ck45 rfl (by kernel_rfl) (fun _ _ _ h => h) (by rfl) ‹_› ?_
        try simp only [Act.put, pA, pB, pC]
        refine tkO 46 ck46 rfl (by kernel_rfl) (fun _ _ _ h => h) (by rfl) ‹_› ?_
        try simp only [Act.put, pA, pB, pC]
        refine tkO 47 ck47 rfl (by kernel_rfl) (fun _ _ _ h => h) (by rfl) ‹_› ?_
        try simp only [Act.put, pA, pB, pC]
        refine tkO 48 ck48 rfl (by kernel_rfl) (fun _ _ _ h => h) (by rfl) ‹_› ?_
        try simp only [Act.put, pA, pB, pC]
        refine tkO 49 ck49 rfl (by kernel_rfl) (fun _ _ _ h => h) (by rfl) ‹_› ?_
        try simp only [Act.put, pA, pB, pC]
        refine tkO 50 ck50 rfl (by kernel_rfl) (fun _ _ _ h => h) (by rfl) ‹_› ?_
        try simp only [Act.put, pA, pB, pC]
        refine tkO 51 ck51 rfl (by kernel_rfl) (fun _ _ _ h => h) (by rfl) ‹_› ?_
        try simp only [Act.put, pA, pB, pC]
        refine tkH 52 ck52 ?_ rfl (by kernel_rfl) (fun _ _ _ h => h) (by rfl) ‹_› ?_ ?_
        rotate_left
        · intro W hSW; first | (go_simp; done) | (go_simp; with_reducible rfl)
        try simp only [Act.put, pA, pB, pC]
        refine tkH 53 ck53 ?_ rfl (by kernel_rfl) (fun _ _ _ h => h) (by rfl) ‹_› ?_ ?_
        rotate_left
        · intro W hSW; first | (go_simp; done) | (go_simp; with_reducible rfl)
        try simp only [Act.put, pA, pB, pC]
        refine tkO 54 ck54 rfl (by kernel_rfl) (fun _ _ _ h => h) (by rfl) ‹_› ?_
        try simp only [Act.put, pA, pB, pC]
        refine tkO 55 ck55 rfl (by kernel_rfl) (fun _ _ _ h => h) (by rfl) ‹_› ?_
        try simp only [Act.put, pA, pB, pC]
        refine tkO 56 ck56 rfl (by kernel_rfl) (fun _ _ _ h => h) (by rfl) ‹_› ?_
        try simp only [Act.put, pA, pB, pC]
        refine tkO 57 ck57 rfl (by kernel_rfl) (fun _ _ _ h => h) (by rfl) ‹_› ?_
        try simp only [Act.put, pA, pB, pC]
        refine tkO 58 ck58 rfl (by kernel_rfl) (fun _ _ _ h => h) (by rfl) ‹_› ?_
        try simp only [Act.put, pA, pB, pC]
        refine tkO 59 ck59 rfl (by kernel_rfl) (fun _ _ _ h => h) (by rfl) ‹_› ?_
        try simp only [Act.put, pA, pB, pC]
        refine tkO 60 ck60 rfl (by kernel_rfl) (fun _ _ _ h => h) (by rfl) ‹_› ?_
        try simp only [Act.put, pA, pB, pC]
        refine tkH 61 ck61 ?_ rfl (by kernel_rfl) (fun _ _ _ h => h) (by rfl) ‹_› ?_ ?_
        rotate_left
        · intro W hSW; first | (go_simp; done) | (go_simp; with_reducible rfl)
        try simp only [Act.put, pA, pB, pC]
        refine tkH 62 ck62 ?_ rfl (by kernel_rfl) (fun _ _ _ h => h) (by rfl) ‹_› ?_ ?_
        rotate_left
        · intro W hSW; first | (go_simp; done) | (go_simp; with_reducible rfl)
        try simp only [Act.put, pA, pB, pC]
        refine tkO 63 ck63 rfl (by kernel_rfl) (fun _ _ _ h => h) (by rfl) ‹_› ?_
        try simp only [Act.put, pA, pB, pC]
        refine tkO 64 ck64 rfl (by kernel_rfl) (fun _ _ _ h => h) (by rfl) ‹_› ?_
        try simp only [Act.put, pA, pB, pC]
        refine tkO 65 ck65 rfl (by kernel_rfl) (fun _ _ _ h => h) (by rfl) ‹_› ?_
        try simp only [Act.put, pA, pB, pC]
        refine tkH 66 ck66 ?_ rfl (by kernel_rfl) (fun _ _ _ h => h) (by rfl) ‹_› ?_ ?_
        rotate_left
        · intro W hSW; first | (go_simp; done) | (go_simp; with_reducible rfl)
        try simp only [Act.put, pA, pB, pC]
        refine tkH 67 ck67 ?_ rfl (by kernel_rfl) (fun _ _ _ h => h) (by rfl) ‹_› ?_ ?_
        rotate_left
        · intro W hSW; first | (go_simp; done) | (go_simp; with_reducible rfl)
        try simp only [Act.put, pA, pB, pC]
        refine wpAnyH_done (by kernel_rfl) ?_ _
        have hB9 := HB.out _ hRw
        clear hRw hHeld
        go_wp2
        go_ret
        exact ⟨ret_bool hf.out.symm, hB9⟩
    · have hf : Hid (r = false) := hno.out (fun h => c1 h.2.1)
      have H7 : Hid (∀ W, Below w2.heap.size w2 W → Calls Try.prog 20 #[.int .i64 arc, .int .i64 (na : Int)] W fun e w' => e = .returned (.bool false) ∧ Below W.heap.size W w') := fun W hW => by
        refine (hbelow_any _ _ W).mono ?_
        rintro e w' ⟨h1, rfl⟩
        have p1 : ¬ (0 ≤ arc ∧ arc < (na : Int)) := by rw [← hna.out]; exact c1
        rw [told_no p1] at h1
        exact ⟨h1, Below.refl _ _⟩
      clear c1 hno hyes
      have hRw : Below w2.heap.size w2 w2.drew := ⟨rfl, rfl, rfl, Nat.le_refl _, fun _ _ => rfl⟩
      refine wp_region_held_drew (S := fun W => Below w2.heap.size w2 W) (by kernel_rfl) hRw (fun hHeld => ?_)
      refine wpAnyH_take (i := 0) (oi := ck0) (v := .agg cs) rfl (by kernel_rfl) (by kernel_rfl) (by kernel_rfl) (fun _ _ _ h => h) (yields_loadV (by rfl) (.tmp 3) (by rfl) _ cs (by rfl) h7 (fun W hW => hx2.below hW)) (by assumption) ?_
      try simp only [Act.put, pA, pB, pC]
      refine wpAnyH_lone (R := fun W => Below w2.heap.size w2 W) (i := 1) (oi := ck1) (vi := .bool true) (by kernel_rfl) rfl hRw (fun _ h => h) ?_ ?_
      · intro W hW K hK
        go_simp
        refine (H1.out W hW).mono ?_
        rintro e W2 ⟨rfl, hb⟩
        go_wp2_with fail
        exact hK.out _ (below_then hW hb)
      clear hRw hHeld
      intro W9 hRw hHeld
      try simp only [Act.put, pA, pB, pC]
      refine tkH 2 ck2 ?_ rfl (by kernel_rfl) (fun _ _ _ h => h) (by rfl) ‹_› ?_ ?_
      rotate_left
      · intro W hSW; first | (go_simp; done) | (go_simp; with_reducible rfl)
      try simp only [Act.put, pA, pB, pC]
      refine tkH 3 ck3 ?_ rfl (by kernel_rfl) (fun _ _ _ h => h) (by rfl) ‹_› ?_ ?_
      rotate_left
      · intro W hSW; first | (go_simp; done) | (go_simp; with_reducible rfl)
      try simp only [Act.put, pA, pB, pC]
      refine tkH 4 ck4 ?_ rfl (by kernel_rfl) (fun _ _ _ h => h) (by rfl) ‹_› ?_ ?_
      rotate_left
      · intro W hSW; first | (go_simp; done) | (go_simp; with_reducible rfl)
      try simp only [Act.put, pA, pB, pC]
      refine tkH 5 ck5 ?_ rfl (by kernel_rfl) (fun _ _ _ h => h) (by rfl) ‹_› ?_ ?_
      rotate_left
      · intro W hSW; have z0 := cell_on hSW x2; have z1 := cell_on hSW x3; have z2 := cell_on hSW x4; have z3 := cell_on hSW y0; have z4 := cell_on hSW y1; have z5 := cell_on hSW y2; have z6 := cell_on hSW y3; first | (go_simp; done) | (go_simp; with_reducible rfl)
      try simp only [Act.put, pA, pB, pC]
      refine tkH 6 ck6 ?_ rfl (by kernel_rfl) (fun _ _ _ h => h) (by rfl) ‹_› ?_ ?_
      rotate_left
      · intro W hSW; first | (go_simp; done) | (go_simp; with_reducible rfl)
      try simp only [Act.put, pA, pB, pC]
      refine wpAnyH_lone (R := fun W => Below w2.heap.size w2 W) (i := 7) (oi := ck7) (vi := .bool false) (by kernel_rfl) rfl hRw (fun _ h => h) ?_ ?_
      · intro W hW K hK
        go_simp
        refine (H7.out W hW).mono ?_
        rintro e W2 ⟨rfl, hb⟩
        go_wp2_with fail
        exact hK.out _ (below_then hW hb)
      clear hRw hHeld
      intro W9 hRw hHeld
      try simp only [Act.put, pA, pB, pC]
      refine tkH 8 ck8 ?_ rfl (by kernel_rfl) (fun _ _ _ h => h) (by rfl) ‹_› ?_ ?_
      rotate_left
      · intro W hSW; first | (go_simp; done) | (go_simp; with_reducible rfl)
      try simp only [Act.put, pA, pB, pC]
      refine tkH 9 ck9 ?_ rfl (by kernel_rfl) (fun _ _ _ h => h) (by rfl) ‹_› ?_ ?_
      rotate_left
      · intro W hSW; first | (go_simp; done) | (go_simp; with_reducible rfl)
      try simp only [Act.put, pA, pB, pC]
      refine tkO 10 ck10 rfl (by kernel_rfl) (fun _ _ _ h => h) (by rfl) ‹_› ?_
      try simp only [Act.put, pA, pB, pC]
      refine tkO 11 ck11 rfl (by kernel_rfl) (fun _ _ _ h => h) (by rfl) ‹_› ?_
      try simp only [Act.put, pA, pB, pC]
      refine tkO 12 ck12 rfl (by kernel_rfl) (fun _ _ _ h => h) (by rfl) ‹_› ?_
      try simp only [Act.put, pA, pB, pC]
      refine tkO 13 ck13 rfl (by kernel_rfl) (fun _ _ _ h => h) (by rfl) ‹_› ?_
      try simp only [Act.put, pA, pB, pC]
      refine tkO 14 ck14 rfl (by kernel_rfl) (fun _ _ _ h => h) (by rfl) ‹_› ?_
      try simp only [Act.put, pA, pB, pC]
      refine tkO 15 ck15 rfl (by kernel_rfl) (fun _ _ _ h => h) (by rfl) ‹_› ?_
      try simp only [Act.put, pA, pB, pC]
      refine tkH 16 ck16 ?_ rfl (by kernel_rfl) (fun _ _ _ h => h) (by rfl) ‹_› ?_ ?_
      rotate_left
      · intro W hSW; first | (go_simp; done) | (go_simp; with_reducible rfl)
      try simp only [Act.put, pA, pB, pC]
      refine tkH 17 ck17 ?_ rfl (by kernel_rfl) (fun _ _ _ h => h) (by rfl) ‹_› ?_ ?_
      rotate_left
      · intro W hSW; first | (go_simp; done) | (go_simp; with_reducible rfl)
      try simp only [Act.put, pA, pB, pC]
      refine tkO 18 ck18 rfl (by kernel_rfl) (fun _ _ _ h => h) (by rfl) ‹_› ?_
      try simp only [Act.put, pA, pB, pC]
      refine tkO 19 ck19 rfl (by kernel_rfl) (fun _ _ _ h => h) (by rfl) ‹_› ?_
      try simp only [Act.put, pA, pB, pC]
      refine tkO 20 ck20 rfl (by kernel_rfl) (fun _ _ _ h => h) (by rfl) ‹_› ?_
      try simp only [Act.put, pA, pB, pC]
      refine tkO 21 ck21 rfl (by kernel_rfl) (fun _ _ _ h => h) (by rfl) ‹_› ?_
      try simp only [Act.put, pA, pB, pC]
      refine tkH 22 ck22 ?_ rfl (by kernel_rfl) (fun _ _ _ h => h) (by rfl) ‹_› ?_ ?_
      rotate_left
      · intro W hSW; first | (go_simp; done) | (go_simp; with_reducible rfl)
      try simp only [Act.put, pA, pB, pC]
      refine tkH 23 ck23 ?_ rfl (by kernel_rfl) (fun _ _ _ h => h) (by rfl) ‹_› ?_ ?_
      rotate_left
      · intro W hSW; first | (go_simp; done) | (go_simp; with_reducible rfl)
      try simp only [Act.put, pA, pB, pC]
      refine tkO 24 ck24 rfl (by kernel_rfl) (fun _ _ _ h => h) (by rfl) ‹_› ?_
      try simp only [Act.put, pA, pB, pC]
      refine tkO 25 ck25 rfl (by kernel_rfl) (fun _ _ _ h => h) (by rfl) ‹_› ?_
      try simp only [Act.put, pA, pB, pC]
      refine tkO 26 ck26 rfl (by kernel_rfl) (fun _ _ _ h => h) (by rfl) ‹_› ?_
      try simp only [Act.put, pA, pB, pC]
      refine tkO 27 ck27 rfl (by kernel_rfl) (fun _ _ _ h => h) (by rfl) ‹_› ?_
      try simp only [Act.put, pA, pB, pC]
      refine tkO 28 ck28 rfl (by kernel_rfl) (fun _ _ _ h => h) (by rfl) ‹_› ?_
      try simp only [Act.put, pA, pB, pC]
      refine tkO 29 ck29 rfl (by kernel_rfl) (fun _ _ _ h => h) (by rfl) ‹_› ?_
      try simp only [Act.put, pA, pB, pC]
      refine tkO 30 ck30 rfl (by kernel_rfl) (fun _ _ _ h => h) (by rfl) ‹_› ?_
      try simp only [Act.put, pA, pB, pC]
      refine tkO 31 ck31 rfl (by kernel_rfl) (fun _ _ _ h => h) (by rfl) ‹_› ?_
      try simp only [Act.put, pA, pB, pC]
      refine tkO 32 ck32 rfl (by kernel_rfl) (fun _ _ _ h => h) (by rfl) ‹_› ?_
      try simp only [Act.put, pA, pB, pC]
      refine tkO 33 ck33 rfl (by kernel_rfl) (fun _ _ _ h => h) (by rfl) ‹_› ?_
      try simp only [Act.put, pA, pB, pC]
      refine tkH 34 ck34 ?_ rfl (by kernel_rfl) (fun _ _ _ h => h) (by rfl) ‹_› ?_ ?_
      rotate_left
      · intro W hSW; first | (go_simp; done) | (go_simp; with_reducible rfl)
      try simp only [Act.put, pA, pB, pC]
      refine tkH 35 ck35 ?_ rfl (by kernel_rfl) (fun _ _ _ h => h) (by rfl) ‹_› ?_ ?_
      rotate_left
      · intro W hSW; first | (go_simp; done) | (go_simp; with_reducible rfl)
      try simp only [Act.put, pA, pB, pC]
      refine tkO 36 ck36 rfl (by kernel_rfl) (fun _ _ _ h => h) (by rfl) ‹_› ?_
      try simp only [Act.put, pA, pB, pC]
      refine tkO 37 ck37 rfl (by kernel_rfl) (fun _ _ _ h => h) (by rfl) ‹_› ?_
      try simp only [Act.put, pA, pB, pC]
      refine tkO 38 ck38 rfl (by kernel_rfl) (fun _ _ _ h => h) (by rfl) ‹_› ?_
      try simp only [Act.put, pA, pB, pC]
      refine tkO 39 ck39 rfl (by kernel_rfl) (fun _ _ _ h => h) (by rfl) ‹_› ?_
      try simp only [Act.put, pA, pB, pC]
      refine tkO 40 ck40 rfl (by kernel_rfl) (fun _ _ _ h => h) (by rfl) ‹_› ?_
      try simp only [Act.put, pA, pB, pC]
      refine tkO 41 ck41 rfl (by kernel_rfl) (fun _ _ _ h => h) (by rfl) ‹_› ?_
      try simp only [Act.put, pA, pB, pC]
      refine tkO 42 ck42 rfl (by kernel_rfl) (fun _ _ _ h => h) (by rfl) ‹_› ?_
      try simp only [Act.put, pA, pB, pC]
      refine tkO 43 ck43 rfl (by kernel_rfl) (fun _ _ _ h => h) (by rfl) ‹_› ?_
      try simp only [Act.put, pA, pB, pC]
      refine tkO 44 ck44 rfl (by kernel_rfl) (fun _ _ _ h => h) (by rfl) ‹_› ?_
      try simp only [Act.put, pA, pB, pC]
      refine tkO 45 ck45 rfl (by kernel_rfl) (fun _ _ _ h => h) (by rfl) ‹_› ?_
      try simp only [Act.put, pA, pB, pC]
      refine tkO 46 ck46 rfl (by kernel_rfl) (fun _ _ _ h => h) (by rfl) ‹_› ?_
      try simp only [Act.put, pA, pB, pC]
      refine tkO 47 ck47 rfl (by kernel_rfl) (fun _ _ _ h => h) (by rfl) ‹_› ?_
      try simp only [Act.put, pA, pB, pC]
      refine tkO 48 ck48 rfl (by kernel_rfl) (fun _ _ _ h => h) (by rfl) ‹_› ?_
      try simp only [Act.put, pA, pB, pC]
      refine tkO 49 ck49 rfl (by kernel_rfl) (fun _ _ _ h => h) (by rfl) ‹_› ?_
      try simp only [Act.put, pA, pB, pC]
      refine tkO 50 ck50 rfl (by kernel_rfl) (fun _ _ _ h => h) (by rfl) ‹_› ?_
      try simp only [Act.put, pA, pB, pC]
      refine tkO 51 ck51 rfl (by kernel_rfl) (fun _ _ _ h => h) (by rfl) ‹_› ?_
      try simp only [Act.put, pA, pB, pC]
      refine tkH 52 ck52 ?_ rfl (by kernel_rfl) (fun _ _ _ h => h) (by rfl) ‹_› ?_ ?_
      rotate_left
      · intro W hSW; first | (go_simp; done) | (go_simp; with_reducible rfl)
      try simp only [Act.put, pA, pB, pC]
      refine tkH 53 ck53 ?_ rfl (by kernel_rfl) (fun _ _ _ h => h) (by rfl) ‹_› ?_ ?_
      rotate_left
      · intro W hSW; first | (go_simp; done) | (go_simp; with_reducible rfl)
      try simp only [Act.put, pA, pB, pC]
      refine tkO 54 ck54 rfl (by kernel_rfl) (fun _ _ _ h => h) (by rfl) ‹_› ?_
      try simp only [Act.put, pA, pB, pC]
      refine tkO 55 ck55 rfl (by kernel_rfl) (fun _ _ _ h => h) (by rfl) ‹_› ?_
      try simp only [Act.put, pA, pB, pC]
      refine tkO 56 ck56 rfl (by kernel_rfl) (fun _ _ _ h => h) (by rfl) ‹_› ?_
      try simp only [Act.put, pA, pB, pC]
      refine tkO 57 ck57 rfl (by kernel_rfl) (fun _ _ _ h => h) (by rfl) ‹_› ?_
      try simp only [Act.put, pA, pB, pC]
      refine tkO 58 ck58 rfl (by kernel_rfl) (fun _ _ _ h => h) (by rfl) ‹_› ?_
      try simp only [Act.put, pA, pB, pC]
      refine tkO 59 ck59 rfl (by kernel_rfl) (fun _ _ _ h => h) (by rfl) ‹_› ?_
      try simp only [Act.put, pA, pB, pC]
      refine tkO 60 ck60 rfl (by kernel_rfl) (fun _ _ _ h => h) (by rfl) ‹_› ?_
      try simp only [Act.put, pA, pB, pC]
      refine tkH 61 ck61 ?_ rfl (by kernel_rfl) (fun _ _ _ h => h) (by rfl) ‹_› ?_ ?_
      rotate_left
      · intro W hSW; first | (go_simp; done) | (go_simp; with_reducible rfl)
      try simp only [Act.put, pA, pB, pC]
      refine tkH 62 ck62 ?_ rfl (by kernel_rfl) (fun _ _ _ h => h) (by rfl) ‹_› ?_ ?_
      rotate_left
      · intro W hSW; first | (go_simp; done) | (go_simp; with_reducible rfl)
      try simp only [Act.put, pA, pB, pC]
      refine tkO 63 ck63 rfl (by kernel_rfl) (fun _ _ _ h => h) (by rfl) ‹_› ?_
      try simp only [Act.put, pA, pB, pC]
      refine tkO 64 ck64 rfl (by kernel_rfl) (fun _ _ _ h => h) (by rfl) ‹_› ?_
      try simp only [Act.put, pA, pB, pC]
      refine tkO 65 ck65 rfl (by kernel_rfl) (fun _ _ _ h => h) (by rfl) ‹_› ?_
      try simp only [Act.put, pA, pB, pC]
      refine tkH 66 ck66 ?_ rfl (by kernel_rfl) (fun _ _ _ h => h) (by rfl) ‹_› ?_ ?_
      rotate_left
      · intro W hSW; first | (go_simp; done) | (go_simp; with_reducible rfl)
      try simp only [Act.put, pA, pB, pC]
      refine tkH 67 ck67 ?_ rfl (by kernel_rfl) (fun _ _ _ h => h) (by rfl) ‹_› ?_ ?_
      rotate_left
      · intro W hSW; first | (go_simp; done) | (go_simp; with_reducible rfl)
      try simp only [Act.put, pA, pB, pC]
      refine wpAnyH_done (by kernel_rfl) ?_ _
      have hB9 := HB.out _ hRw
      clear hRw hHeld
      go_wp2
      go_ret
      exact ⟨ret_bool hf.out.symm, hB9⟩
  · have hf : Hid (r = false) := hno.out (fun h => c0 h.1)
    have H1 : Hid (∀ W, Below w2.heap.size w2 W → Calls Try.prog 19 #[.agg cs] W fun e w' => e = .returned (.bool false) ∧ Below W.heap.size W w') := fun W hW => by have h9 := pvalid_any (HW.out W (HB.out W hW)); rw [show validM s = false from (by cases h : validM s with | true => exact absurd h c0 | false => rfl)] at h9; exact h9
    clear c0 hno hyes
    have hRw : Below w2.heap.size w2 w2.drew := ⟨rfl, rfl, rfl, Nat.le_refl _, fun _ _ => rfl⟩
    refine wp_region_held_drew (S := fun W => Below w2.heap.size w2 W) (by kernel_rfl) hRw (fun hHeld => ?_)
    refine wpAnyH_take (i := 0) (oi := ck0) (v := .agg cs) rfl (by kernel_rfl) (by kernel_rfl) (by kernel_rfl) (fun _ _ _ h => h) (yields_loadV (by rfl) (.tmp 3) (by rfl) _ cs (by rfl) h7 (fun W hW => hx2.below hW)) (by assumption) ?_
    try simp only [Act.put, pA, pB, pC]
    refine wpAnyH_lone (R := fun W => Below w2.heap.size w2 W) (i := 1) (oi := ck1) (vi := .bool false) (by kernel_rfl) rfl hRw (fun _ h => h) ?_ ?_
    · intro W hW K hK
      go_simp
      refine (H1.out W hW).mono ?_
      rintro e W2 ⟨rfl, hb⟩
      go_wp2_with fail
      exact hK.out _ (below_then hW hb)
    clear hRw hHeld
    intro W9 hRw hHeld
    try simp only [Act.put, pA, pB, pC]
    refine tkH 2 ck2 ?_ rfl (by kernel_rfl) (fun _ _ _ h => h) (by rfl) ‹_› ?_ ?_
    rotate_left
    · intro W hSW; first | (go_simp; done) | (go_simp; with_reducible rfl)
    try simp only [Act.put, pA, pB, pC]
    refine tkO 3 ck3 rfl (by kernel_rfl) (fun _ _ _ h => h) (by rfl) ‹_› ?_
    try simp only [Act.put, pA, pB, pC]
    refine tkO 4 ck4 rfl (by kernel_rfl) (fun _ _ _ h => h) (by rfl) ‹_› ?_
    try simp only [Act.put, pA, pB, pC]
    refine tkO 5 ck5 rfl (by kernel_rfl) (fun _ _ _ h => h) (by rfl) ‹_› ?_
    try simp only [Act.put, pA, pB, pC]
    refine tkO 6 ck6 rfl (by kernel_rfl) (fun _ _ _ h => h) (by rfl) ‹_› ?_
    try simp only [Act.put, pA, pB, pC]
    refine tkO 7 ck7 rfl (by kernel_rfl) (fun _ _ _ h => h) (by rfl) ‹_› ?_
    try simp only [Act.put, pA, pB, pC]
    refine tkH 8 ck8 ?_ rfl (by kernel_rfl) (fun _ _ _ h => h) (by rfl) ‹_› ?_ ?_
    rotate_left
    · intro W hSW; first | (go_simp; done) | (go_simp; with_reducible rfl)
    try simp only [Act.put, pA, pB, pC]
    refine tkH 9 ck9 ?_ rfl (by kernel_rfl) (fun _ _ _ h => h) (by rfl) ‹_› ?_ ?_
    rotate_left
    · intro W hSW; first | (go_simp; done) | (go_simp; with_reducible rfl)
    try simp only [Act.put, pA, pB, pC]
    refine tkO 10 ck10 rfl (by kernel_rfl) (fun _ _ _ h => h) (by rfl) ‹_› ?_
    try simp only [Act.put, pA, pB, pC]
    refine tkO 11 ck11 rfl (by kernel_rfl) (fun _ _ _ h => h) (by rfl) ‹_› ?_
    try simp only [Act.put, pA, pB, pC]
    refine tkO 12 ck12 rfl (by kernel_rfl) (fun _ _ _ h => h) (by rfl) ‹_› ?_
    try simp only [Act.put, pA, pB, pC]
    refine tkO 13 ck13 rfl (by kernel_rfl) (fun _ _ _ h => h) (by rfl) ‹_› ?_
    try simp only [Act.put, pA, pB, pC]
    refine tkO 14 ck14 rfl (by kernel_rfl) (fun _ _ _ h => h) (by rfl) ‹_› ?_
    try simp only [Act.put, pA, pB, pC]
    refine tkO 15 ck15 rfl (by kernel_rfl) (fun _ _ _ h => h) (by rfl) ‹_› ?_
    try simp only [Act.put, pA, pB, pC]
    refine tkH 16 ck16 ?_ rfl (by kernel_rfl) (fun _ _ _ h => h) (by rfl) ‹_› ?_ ?_
    rotate_left
    · intro W hSW; first | (go_simp; done) | (go_simp; with_reducible rfl)
    try simp only [Act.put, pA, pB, pC]
    refine tkH 17 ck17 ?_ rfl (by kernel_rfl) (fun _ _ _ h => h) (by rfl) ‹_› ?_ ?_
    rotate_left
    · intro W hSW; first | (go_simp; done) | (go_simp; with_reducible rfl)
    try simp only [Act.put, pA, pB, pC]
    refine tkO 18 ck18 rfl (by kernel_rfl) (fun _ _ _ h => h) (by rfl) ‹_› ?_
    try simp only [Act.put, pA, pB, pC]
    refine tkO 19 ck19 rfl (by kernel_rfl) (fun _ _ _ h => h) (by rfl) ‹_› ?_
    try simp only [Act.put, pA, pB, pC]
    refine tkO 20 ck20 rfl (by kernel_rfl) (fun _ _ _ h => h) (by rfl) ‹_› ?_
    try simp only [Act.put, pA, pB, pC]
    refine tkO 21 ck21 rfl (by kernel_rfl) (fun _ _ _ h => h) (by rfl) ‹_› ?_
    try simp only [Act.put, pA, pB, pC]
    refine tkH 22 ck22 ?_ rfl (by kernel_rfl) (fun _ _ _ h => h) (by rfl) ‹_› ?_ ?_
    rotate_left
    · intro W hSW; first | (go_simp; done) | (go_simp; with_reducible rfl)
    try simp only [Act.put, pA, pB, pC]
    refine tkH 23 ck23 ?_ rfl (by kernel_rfl) (fun _ _ _ h => h) (by rfl) ‹_› ?_ ?_
    rotate_left
    · intro W hSW; first | (go_simp; done) | (go_simp; with_reducible rfl)
    try simp only [Act.put, pA, pB, pC]
    refine tkO 24 ck24 rfl (by kernel_rfl) (fun _ _ _ h => h) (by rfl) ‹_› ?_
    try simp only [Act.put, pA, pB, pC]
    refine tkO 25 ck25 rfl (by kernel_rfl) (fun _ _ _ h => h) (by rfl) ‹_› ?_
    try simp only [Act.put, pA, pB, pC]
    refine tkO 26 ck26 rfl (by kernel_rfl) (fun _ _ _ h => h) (by rfl) ‹_› ?_
    try simp only [Act.put, pA, pB, pC]
    refine tkO 27 ck27 rfl (by kernel_rfl) (fun _ _ _ h => h) (by rfl) ‹_› ?_
    try simp only [Act.put, pA, pB, pC]
    refine tkO 28 ck28 rfl (by kernel_rfl) (fun _ _ _ h => h) (by rfl) ‹_› ?_
    try simp only [Act.put, pA, pB, pC]
    refine tkO 29 ck29 rfl (by kernel_rfl) (fun _ _ _ h => h) (by rfl) ‹_› ?_
    try simp only [Act.put, pA, pB, pC]
    refine tkO 30 ck30 rfl (by kernel_rfl) (fun _ _ _ h => h) (by rfl) ‹_› ?_
    try simp only [Act.put, pA, pB, pC]
    refine tkO 31 ck31 rfl (by kernel_rfl) (fun _ _ _ h => h) (by rfl) ‹_› ?_
    try simp only [Act.put, pA, pB, pC]
    refine tkO 32 ck32 rfl (by kernel_rfl) (fun _ _ _ h => h) (by rfl) ‹_› ?_
    try simp only [Act.put, pA, pB, pC]
    refine tkO 33 ck33 rfl (by kernel_rfl) (fun _ _ _ h => h) (by rfl) ‹_› ?_
    try simp only [Act.put, pA, pB, pC]
    refine tkH 34 ck34 ?_ rfl (by kernel_rfl) (fun _ _ _ h => h) (by rfl) ‹_› ?_ ?_
    rotate_left
    · intro W hSW; first | (go_simp; done) | (go_simp; with_reducible rfl)
    try simp only [Act.put, pA, pB, pC]
    refine tkH 35 ck35 ?_ rfl (by kernel_rfl) (fun _ _ _ h => h) (by rfl) ‹_› ?_ ?_
    rotate_left
    · intro W hSW; first | (go_simp; done) | (go_simp; with_reducible rfl)
    try simp only [Act.put, pA, pB, pC]
    refine tkO 36 ck36 rfl (by kernel_rfl) (fun _ _ _ h => h) (by rfl) ‹_› ?_
    try simp only [Act.put, pA, pB, pC]
    refine tkO 37 ck37 rfl (by kernel_rfl) (fun _ _ _ h => h) (by rfl) ‹_› ?_
    try simp only [Act.put, pA, pB, pC]
    refine tkO 38 ck38 rfl (by kernel_rfl) (fun _ _ _ h => h) (by rfl) ‹_› ?_
    try simp only [Act.put, pA, pB, pC]
    refine tkO 39 ck39 rfl (by kernel_rfl) (fun _ _ _ h => h) (by rfl) ‹_› ?_
    try simp only [Act.put, pA, pB, pC]
    refine tkO 40 ck40 rfl (by kernel_rfl) (fun _ _ _ h => h) (by rfl) ‹_› ?_
    try simp only [Act.put, pA, pB, pC]
    refine tkO 41 ck41 rfl (by kernel_rfl) (fun _ _ _ h => h) (by rfl) ‹_› ?_
    try simp only [Act.put, pA, pB, pC]
    refine tkO 42 ck42 rfl (by kernel_rfl) (fun _ _ _ h => h) (by rfl) ‹_› ?_
    try simp only [Act.put, pA, pB, pC]
    refine tkO 43 ck43 rfl (by kernel_rfl) (fun _ _ _ h => h) (by rfl) ‹_› ?_
    try simp only [Act.put, pA, pB, pC]
    refine tkO 44 ck44 rfl (by kernel_rfl) (fun _ _ _ h => h) (by rfl) ‹_› ?_
    try simp only [Act.put, pA, pB, pC]
    refine tkO 45 ck45 rfl (by kernel_rfl) (fun _ _ _ h => h) (by rfl) ‹_› ?_
    try simp only [Act.put, pA, pB, pC]
    refine tkO 46 ck46 rfl (by kernel_rfl) (fun _ _ _ h => h) (by rfl) ‹_› ?_
    try simp only [Act.put, pA, pB, pC]
    refine tkO 47 ck47 rfl (by kernel_rfl) (fun _ _ _ h => h) (by rfl) ‹_› ?_
    try simp only [Act.put, pA, pB, pC]
    refine tkO 48 ck48 rfl (by kernel_rfl) (fun _ _ _ h => h) (by rfl) ‹_› ?_
    try simp only [Act.put, pA, pB, pC]
    refine tkO 49 ck49 rfl (by kernel_rfl) (fun _ _ _ h => h) (by rfl) ‹_› ?_
    try simp only [Act.put, pA, pB, pC]
    refine tkO 50 ck50 rfl (by kernel_rfl) (fun _ _ _ h => h) (by rfl) ‹_› ?_
    try simp only [Act.put, pA, pB, pC]
    refine tkO 51 ck51 rfl (by kernel_rfl) (fun _ _ _ h => h) (by rfl) ‹_› ?_
    try simp only [Act.put, pA, pB, pC]
    refine tkH 52 ck52 ?_ rfl (by kernel_rfl) (fun _ _ _ h => h) (by rfl) ‹_› ?_ ?_
    rotate_left
    · intro W hSW; first | (go_simp; done) | (go_simp; with_reducible rfl)
    try simp only [Act.put, pA, pB, pC]
    refine tkH 53 ck53 ?_ rfl (by kernel_rfl) (fun _ _ _ h => h) (by rfl) ‹_› ?_ ?_
    rotate_left
    · intro W hSW; first | (go_simp; done) | (go_simp; with_reducible rfl)
    try simp only [Act.put, pA, pB, pC]
    refine tkO 54 ck54 rfl (by kernel_rfl) (fun _ _ _ h => h) (by rfl) ‹_› ?_
    try simp only [Act.put, pA, pB, pC]
    refine tkO 55 ck55 rfl (by kernel_rfl) (fun _ _ _ h => h) (by rfl) ‹_› ?_
    try simp only [Act.put, pA, pB, pC]
    refine tkO 56 ck56 rfl (by kernel_rfl) (fun _ _ _ h => h) (by rfl) ‹_› ?_
    try simp only [Act.put, pA, pB, pC]
    refine tkO 57 ck57 rfl (by kernel_rfl) (fun _ _ _ h => h) (by rfl) ‹_› ?_
    try simp only [Act.put, pA, pB, pC]
    refine tkO 58 ck58 rfl (by kernel_rfl) (fun _ _ _ h => h) (by rfl) ‹_› ?_
    try simp only [Act.put, pA, pB, pC]
    refine tkO 59 ck59 rfl (by kernel_rfl) (fun _ _ _ h => h) (by rfl) ‹_› ?_
    try simp only [Act.put, pA, pB, pC]
    refine tkO 60 ck60 rfl (by kernel_rfl) (fun _ _ _ h => h) (by rfl) ‹_› ?_
    try simp only [Act.put, pA, pB, pC]
    refine tkH 61 ck61 ?_ rfl (by kernel_rfl) (fun _ _ _ h => h) (by rfl) ‹_› ?_ ?_
    rotate_left
    · intro W hSW; first | (go_simp; done) | (go_simp; with_reducible rfl)
    try simp only [Act.put, pA, pB, pC]
    refine tkH 62 ck62 ?_ rfl (by kernel_rfl) (fun _ _ _ h => h) (by rfl) ‹_› ?_ ?_
    rotate_left
    · intro W hSW; first | (go_simp; done) | (go_simp; with_reducible rfl)
    try simp only [Act.put, pA, pB, pC]
    refine tkO 63 ck63 rfl (by kernel_rfl) (fun _ _ _ h => h) (by rfl) ‹_› ?_
    try simp only [Act.put, pA, pB, pC]
    refine tkO 64 ck64 rfl (by kernel_rfl) (fun _ _ _ h => h) (by rfl) ‹_› ?_
    try simp only [Act.put, pA, pB, pC]
    refine tkO 65 ck65 rfl (by kernel_rfl) (fun _ _ _ h => h) (by rfl) ‹_› ?_
    try simp only [Act.put, pA, pB, pC]
    refine tkH 66 ck66 ?_ rfl (by kernel_rfl) (fun _ _ _ h => h) (by rfl) ‹_› ?_ ?_
    rotate_left
    · intro W hSW; first | (go_simp; done) | (go_simp; with_reducible rfl)
    try simp only [Act.put, pA, pB, pC]
    refine tkH 67 ck67 ?_ rfl (by kernel_rfl) (fun _ _ _ h => h) (by rfl) ‹_› ?_ ?_
    rotate_left
    · intro W hSW; first | (go_simp; done) | (go_simp; with_reducible rfl)
    try simp only [Act.put, pA, pB, pC]
    refine wpAnyH_done (by kernel_rfl) ?_ _
    have hB9 := HB.out _ hRw
    clear hRw hHeld
    go_wp2
    go_ret
    exact ⟨ret_bool hf.out.symm, hB9⟩

end Go.Proofs.Ythoimecljfcjmaa
