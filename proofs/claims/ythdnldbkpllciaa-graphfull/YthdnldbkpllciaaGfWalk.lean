/-
  The walk of GraphFull.
-/
import Derived.Test.YthdnldbkpllciaaGfP
import Derived.Test.YthdnldbkpllciaaYieldV
import Derived.Deep.CutBlock
import Derived.Handy
namespace Go.Proofs.Ythdnldbkpllciaa
open Go.RowKit

set_option maxRecDepth 10000 in
set_option maxHeartbeats 4000000 in
theorem full_any (a0 a1 : Int) (_h0 : (Lit.int .i64 a0).wf = true) (_h1 : (Lit.int .i64 a1).wf = true) (w : World) : Calls Try.prog 5 #[.int .i64 a0, .int .i64 a1] w fun e w' => e = .returned (.bool true) ∧ Below w.heap.size w w' := by
  clear _h0 _h1
  obtain ⟨q, hq, HP1⟩ := place_ex a0 3 (by omega) (by omega)
  obtain ⟨k, hk⟩ : ∃ k : Nat, 2 + q = k := ⟨_, rfl⟩
  have hkI : 2 + (q : Int) = (k : Int) := by omega
  have hk2 : 2 ≤ k ∧ k ≤ 4 := by omega
  obtain ⟨r, hr, HP2⟩ := place_ex a1 (k : Int) (by omega) (by omega)
  obtain ⟨m, hm⟩ : ∃ m : Nat, 1 + r = m := ⟨_, rfl⟩
  have hmI : 1 + (r : Int) = (m : Int) := by omega
  have hm1 : 1 ≤ m ∧ m ≤ k := by omega
  have HR : ∀ W, Calls Try.prog 12 #[.int .i64 (k : Int), .int .i64 5, .int .i64 6] W fun e w' => ∃ v, e = .returned v ∧ OwnSpec w' W.heap.size v (ringM k 5 6) ∧ Below W.heap.size W w' := fun W => ring_any k (by omega) (by omega) 5 6 W
  have hnp : (ringM k 5 6).parties.length = k := ring_np5 k 5 6
  have hokR := ring_ok k (by omega) (by omega) 5 6 (by omega) (by omega) (by omega) (by omega)
  have HAW : Hid (∀ W, Calls Try.prog 16 #[] W fun e w' => e = .returned (.bool true) ∧ Below W.heap.size W w') := awake5_any
  have hpc : ∀ ks, pcells (ringM k 5 6).parties ks = pcells (accs k) ks := fun ks => pcells_accs _ _ _ (withKeys_accs _ _)
  replace HR := hide HR
  replace HP1 := hide HP1
  replace HP2 := hide HP2
  replace hkI := hide hkI
  replace hmI := hide hmI
  replace hnp := hide hnp
  replace hpc := hide hpc
  obtain ⟨g0, hg0⟩ : ∃ g, w.heap.size = g := ⟨_, rfl⟩
  rw [hg0]
  go_enter Try.func5, Try.ntmps5
  go_wp2_with fail
  refine (HP1.out _).mono ?_
  rintro e w0 ⟨rfl, hw0⟩
  subst w0
  go_upto_region 2 with fail
  rw [hkI.out]
  clear hq HP1 hk
  go_wp2_with fail
  refine (HP2.out _).mono ?_
  rintro e w0 ⟨rfl, hw0⟩
  subst w0
  go_upto_region 3 with fail
  rw [hmI.out]
  clear hr HP2 hm hkI hmI
  go_wp2_with fail
  refine (HR.out _).mono ?_
  rintro e w1 ⟨v, rfl, hO1, hb1⟩
  rw [hg0] at hO1 hb1
  obtain ⟨v1, v2, v3, v4, rfl, ⟨ks0, hks0, hP1, _⟩, hA1, hI1, hS1⟩ := hO1
  have h7 := scells_seven (ringM k 5 6).id (ringM k 5 6).start (ringM k 5 6).delta (own_one hP1) (own_one hA1) (own_one hI1) (own_one hS1)
  rw [hnp.out] at hks0 hP1
  rw [hpc.out] at hP1
  obtain ⟨b1, c1, rfl⟩ := ownsRow_form_n hP1 (by omega)
  obtain ⟨g, hg⟩ : ∃ g, w1.heap.size = g := ⟨_, rfl⟩
  have hgg : g0 ≤ g := by have := hb1.size; omega
  clear hA1 hI1 hS1 HR hokR hpc hnp
  go_upto_region 4 with ((with_reducible refine wpList_at ?_); refine wpList_varS (by rfl) (by rfl) (by rfl) (.tmp 7) (.tmp 21) (by rfl) _ (by rfl) (by rfl) h7 ?_; intro w2 hv2 hz2 hb2)
  have hv2 : SAt w2 w1.heap.size ringId _ v2 v3 v4 5 6 := hv2
  have hP2 := own_below hP1 hb2
  have hB2 : Below g0 w w2 := hb1.trans (hb2.mono (by omega))
  rw [hg] at hv2
  try rw [hg]
  clear hz2 hb1 hb2 hP1 h7 hg
  obtain ⟨y0, y1, y2, y3, y4, y5, y6⟩ := hv2.cells
  have f2 := hv2.frozen 2
  have f3 := hv2.frozen 3
  have f4 := hv2.frozen 4
  have hv5 := hide (((hv2.set2 (.slice none 0 0)).set3 (.slice none 0 0)).set4 (.slice none 0 0))
  have hbut : Hid (But g w2 (((w2.setCell ⟨g, 2, none⟩ (.slice none 0 0)).setCell ⟨g, 3, none⟩ (.slice none 0 0)).setCell ⟨g, 4, none⟩ (.slice none 0 0))) := ((But.setCell _ _ _ _).trans (But.setCell _ _ _ _)).trans (But.setCell _ _ _ _)
  have hP5 : Hid ((((w2.setCell ⟨g, 2, none⟩ (.slice none 0 0)).setCell ⟨g, 3, none⟩ (.slice none 0 0)).setCell ⟨g, 4, none⟩ (.slice none 0 0)).ownsRow g0 32 2 (.slice (some ⟨b1, 0, none⟩) k c1) k (pcells (accs k) ks0)) := World.ownsRow.kept hP2 hbut.out.grown (row_apart hP2 hv2 (by decide))
  have hB5 : Hid (Below g0 w (((w2.setCell ⟨g, 2, none⟩ (.slice none 0 0)).setCell ⟨g, 3, none⟩ (.slice none 0 0)).setCell ⟨g, 4, none⟩ (.slice none 0 0))) := hB2.trans (hbut.out.below (by omega) (by have := hv2.lt; omega))
  have hz5 : Hid (g0 ≤ (((w2.setCell ⟨g, 2, none⟩ (.slice none 0 0)).setCell ⟨g, 3, none⟩ (.slice none 0 0)).setCell ⟨g, 4, none⟩ (.slice none 0 0)).heap.size) := by have h9 := hbut.out.size; have := hv2.lt; show g0 ≤ _; omega
  clear hv2 hP2 hB2
  go_upto_region 5 with fail
  generalize (((w2.setCell ⟨g, 2, none⟩ (.slice none 0 0)).setCell ⟨g, 3, none⟩ (.slice none 0 0)).setCell ⟨g, 4, none⟩ (.slice none 0 0)) = w5 at hv5 hP5 hB5 hz5 hbut ⊢
  clear y0 y1 y2 y3 y4 y5 y6 f2 f3 f4 hbut
  replace hv5 := hv5.out
  replace hP5 := hP5.out
  replace hB5 := hB5.out
  replace hz5 := hz5.out
  replace hks0 := hide hks0
  go_wp2_with fail
  go_loopw [8] (fun i wr => ∃ (a : Nat) (v2 : Value), a ≤ k ∧ i = .int .i64 a ∧ SAt wr g ringId (.slice (some ⟨b1, 0, none⟩) k c1) v2 (.slice none 0 0) (.slice none 0 0) 5 6 ∧ wr.ownsRow g0 32 2 (.slice (some ⟨b1, 0, none⟩) k c1) k (pcells (accs k) ks0) ∧ OwnA wr g0 v2 (fullF k a) ∧ Below g0 w wr ∧ g0 ≤ wr.heap.size) (fun i _ => k - (intOf i).toNat)
  case atStart => exact ⟨0, _, by omega, rfl, hv5, hP5, World.ownsRow_nil _ _ _ _, hB5, hz5⟩
  case round =>
    clear hv5 hP5 hB5 hz5
    obtain ⟨a, v2, ha, rfl, hv, hP, hA, hB, hz⟩ := hrel
    by_cases hlt : a < k
    · have a1 : (a : Int) < (k : Int) := by omega
      go_wp2_with fail
      go_loopw [9] (fun i wr => ∃ (b : Nat) (v2 : Value), b ≤ k ∧ i = .int .i64 b ∧ SAt wr g ringId (.slice (some ⟨b1, 0, none⟩) k c1) v2 (.slice none 0 0) (.slice none 0 0) 5 6 ∧ wr.ownsRow g0 32 2 (.slice (some ⟨b1, 0, none⟩) k c1) k (pcells (accs k) ks0) ∧ OwnA wr g0 v2 (fullF k a ++ rowF a b) ∧ Below g0 w wr ∧ g0 ≤ wr.heap.size) (fun i _ => k - (intOf i).toNat)
      case atStart => exact ⟨0, _, by omega, rfl, hv, hP, by rw [rowF, List.append_nil]; exact hA, hB, hz⟩
      case round =>
        clear hv hP hA hB hz
        obtain ⟨b, v2, hb, rfl, hv, hP, hA, hB, hz⟩ := hrel
        by_cases hltb : b < k
        · have b1' : (b : Int) < (k : Int) := by omega
          by_cases hab : a = b
          · have e1 : ((a : Int) != (b : Int)) = false := by rw [hab]; simp
            replace hab := hide hab
            go_wp2_with fail
            go_roundw
            case rel => exact ⟨b + 1, v2, by omega, by go_num, hv, hP, by rw [rowF, if_pos hab.out, List.append_nil]; exact hA, hB, hz⟩
            case measure => simp [intOf]; omega
          · have e1 : ((a : Int) != (b : Int)) = true := by rw [bne_iff_ne]; omega
            have hlen := cells_len k a b hk2.2 hlt hltb
            obtain ⟨LA, hLA⟩ : ∃ LA, fullF k a ++ rowF a b = LA := ⟨_, rfl⟩
            rw [hLA] at hA hlen
            replace hLA := hide hLA
            obtain ⟨va, vc, rfl⟩ := row_slice hA
            have q2 := hv.cells.2.2.1
            replace hab := hide hab
            go_wp2_with (at_builtin; refine wpList_put1 (st := 23) Try.underlying23 Try.info34 rfl (by decide) (by decide) wr _ (by rfl) (.tmp 39) (.tmp 43) (by rfl) g0 _ _ _ (by rfl) hA (by rfl) rfl (by intro u hu; simp at hu; rcases hu with rfl | rfl | rfl | rfl | rfl <;> rfl) (by omega) hz ?_; intro v7 w7 hown7 hg7; obtain ⟨v7a, v7c, rfl⟩ := row_slice hown7; have hv7 := hv.grown hg7 (by have := sv_apart hv hA (by decide); exact this); have q7 := hv7.cells.2.2.1; have f7 := hv7.frozen 2)
            have hO : OwnA w7 g0 (.slice v7a (LA.length + 1) v7c) (LA ++ [arcF a b]) := ownA_more _ hown7
            have hP7 := World.ownsRow.kept hP hg7 (rows_apart hP hA (by decide))
            have hB7 : Below g0 w w7 := hB.grown hg7 hz (row_own hA)
            have kb := But.setCell w7 g 2 (.slice v7a (LA.length + 1) v7c)
            go_roundw
            case rel => exact ⟨b + 1, _, by omega, by go_num, hv7.set2 _, World.ownsRow.kept hP7 kb.grown (row_apart hP7 hv7 (by decide)), by rw [rowF, if_neg hab.out, ← List.append_assoc, hLA.out]; exact World.ownsRow.kept hO kb.grown (row_apart hO hv7 (by decide)), hB7.setCell (p := ⟨g, 2, none⟩) (by show g0 ≤ g; omega) _, Nat.le_trans hz (Nat.le_trans hg7.size kb.size)⟩
            case measure => simp [intOf]; omega
        · have b1' : ¬ (b : Int) < (k : Int) := by omega
          have hbk : b = k := by omega
          rw [hbk] at hA
          replace hbk := hide hbk
          go_wp2_with fail
          go_roundw
          case rel => exact ⟨a + 1, v2, by omega, by go_num, hv, hP, hA, hB, hz⟩
          case measure => simp [intOf]; omega
    · have a1 : ¬ (a : Int) < (k : Int) := by omega
      have hak : a = k := by omega
      rw [hak] at hA
      clear hlt ha
      replace hak := hide hak
      obtain ⟨AL, hAL⟩ : ∃ AL, fullF k k = AL := ⟨_, rfl⟩
      rw [hAL] at hA
      replace hAL := hide hAL
      go_wp2_with fail
      go_loopw [10] (fun i wr => ∃ (j : Nat) (ks : List Value), j ≤ k ∧ i = .int .i64 j ∧ ks.length = k ∧ SAt wr g ringId (.slice (some ⟨b1, 0, none⟩) k c1) v2 (.slice none 0 0) (.slice none 0 0) 5 6 ∧ wr.ownsRow g0 32 2 (.slice (some ⟨b1, 0, none⟩) k c1) k (pcells (accs k) ks) ∧ Hid (∀ x, x < j → ks.getD x undef = .slice none 0 0) ∧ OwnA wr g0 v2 AL ∧ Below g0 w wr ∧ g0 ≤ wr.heap.size) (fun i _ => k - (intOf i).toNat)
      case atStart => exact ⟨0, ks0, by omega, rfl, hks0.out, hv, hP, fun x hx => absurd hx (by omega), hA, hB, hz⟩
      case round =>
        clear hv hP hA hB hz
        obtain ⟨j, ks, hj, rfl, hkl, hv, hP, hnil, hA, hB, hz⟩ := hrel
        by_cases hltj : j < k
        · have j1 : (j : Int) < (k : Int) := by omega
          have y1 := hv.cells.2.1
          have xc := World.ownsRow.cellAt hP (j * 2 + 1) (by omega)
          rw [(pcells_at (accs k) ks (by rw [accs_len]; exact hkl) j (by rw [accs_len]; exact hltj)).2] at xc
          have xf := World.ownsRow.frozenAt hP (j * 2 + 1)
          have st := World.ownsRow.stored hP (j * 2 + 1) (.slice none 0 0)
          rw [pcells_set (accs k) ks (by rw [accs_len]; exact hkl) j (by rw [accs_len]; exact hltj)] at st
          have hb1 := (World.ownsRow.lt hP b1 rfl).1
          replace st := hide st
          replace hkl := hide hkl
          go_wp2_with fail
          go_roundw
          case rel =>
            refine ⟨j + 1, ks.set j (.slice none 0 0), by omega, by go_num, by rw [List.length_set]; exact hkl.out, hv.grown st.out.2 (by have := sv_apart hv hP (by decide); exact this), st.out.1, fun x hx => ?_, World.ownsRow.kept hA st.out.2 (by have := rows_apart hA hP (by decide); exact this), hB.setCell (p := ⟨b1, j * 2 + 1, none⟩) (by show g0 ≤ b1; omega) _, Nat.le_trans hz st.out.2.size⟩
            by_cases e : x = j
            · subst e
              rw [List.getD_eq_getElem?_getD, List.getElem?_set_self (by have := hkl.out; omega)]; rfl
            · rw [List.getD_eq_getElem?_getD, List.getElem?_set_ne (fun e2 => e e2.symm), ← List.getD_eq_getElem?_getD]
              exact hnil.out x (by omega)
          case measure => simp [intOf]; omega
        · have j1 : ¬ (j : Int) < (k : Int) := by omega
          have hjk : j = k := by omega
          have hF0 : Full wr g g0 (.slice (some ⟨b1, 0, none⟩) k c1) v2 (.slice none 0 0) (.slice none 0 0) ks (partF k 0 0) AL (leadF 0) (List.replicate 0 lockF) := by
            have hn : ∀ x, x < k → ks.getD x undef = .slice none 0 0 := fun x hx => hnil.out x (by omega)
            refine ⟨hv, by rw [partF_len]; exact hkl, by rw [partF_len, partF_accs]; exact hP, fun x hx => ?_, hA, World.ownsRow_nil _ _ _ _, World.ownsRow_nil _ _ _ _, fun x y hx _ _ => ?_, fun x hx => ?_⟩
            · rw [partF_len] at hx
              rw [hn x hx, partF_get k 0 0 x hx, if_neg (Nat.not_lt_zero x)]
              exact World.ownsRow_nil _ _ _ _
            · rw [partF_len] at hx; rw [hn x hx]; exact .inl rfl
            · rw [partF_len] at hx; rw [hn x hx]; exact .inl rfl
          clear hv hP hnil hA hkl hltj hj
          replace hjk := hide hjk
          go_wp2_with fail
          go_loopw [11] (fun i wr => ∃ (j : Nat) (a3 a4 : Option Addr) (c3 c4 : Nat) (ks : List Value), j ≤ m ∧ i = .int .i64 j ∧ Full wr g g0 (.slice (some ⟨b1, 0, none⟩) k c1) v2 (.slice a3 j c3) (.slice a4 j c4) ks (partF k j 0) AL (leadF j) (List.replicate j lockF) ∧ Below g0 w wr ∧ g0 ≤ wr.heap.size) (fun i _ => m - (intOf i).toNat)
          case atStart => exact ⟨0, none, none, 0, 0, ks, by omega, rfl, hF0, hB, hz⟩
          case round =>
            clear hF0 hB hz
            obtain ⟨j, a3, a4, c3, c4, ks, hj, rfl, hF, hB, hz⟩ := hrel
            by_cases hltj : j < m
            · have j1 : (j : Int) < (m : Int) := by omega
              have y3 := hF.sv.cells.2.2.2.1
              have y4 := hF.sv.cells.2.2.2.2.1
              have e3g : some g ≠ Value.ownBlock (.slice a3 j c3) := sv_apart hF.sv hF.le (by decide)
              have hLe : wr.ownsRow g0 3 1 (.slice a3 j c3) j ((leadF j).map (Value.int .i64)) := by have h9 := hF.le; unfold OwnI at h9; rw [leadF_len] at h9; exact h9
              have hLo : wr.ownsRow g0 9 1 (.slice a4 j c4) j ((List.replicate j lockF).map Value.string) := by have h9 := hF.lo; unfold OwnS at h9; rw [List.length_replicate] at h9; exact h9
              have hj4 : j ≤ 3 := by omega
              replace hF := hide hF
              replace hLe := hide hLe
              replace hLo := hide hLo
              go_upto_region 20 with fail
              have HS1 : Below wr.heap.size wr wr.drew := ⟨rfl, rfl, rfl, Nat.le_refl _, fun _ _ => rfl⟩
              have HS2 : wr.grownBy wr.drew (Value.ownBlock (.slice a3 j c3)) := ⟨rfl, rfl, rfl, Nat.le_refl _, fun _ _ _ => rfl⟩
              refine wp_region_M 4 (fun W => Below wr.heap.size wr W) 8 (fun W => wr.grownBy W (Value.ownBlock (.slice a3 j c3))) (by kernel_rfl) ?_
              refine wpAnyM_pure (i := 0) (oi := { dst := some 61, op := Op.fieldAddr 27 (Operand.tmp 7) 3, type := 0, pos := "outright.go:26", after := #[], guard := none }) (v := ?_) rfl (by kernel_rfl) (by kernel_rfl) (by kernel_rfl) (fun _ _ _ h => h) (by decide) (by decide) (Or.inl ⟨by rfl, ?_⟩) (fun _ => HS1) (fun _ => HS2) ?_
              rotate_left
              · intro W hSW; first | (go_simp; done) | (go_simp; with_reducible rfl)
              try simp only [Act.put, List.setIfInBounds_toArray, List.set_cons_zero, List.set_cons_succ]
              refine wpAnyM_take (i := 1) (oi := { dst := some 62, op := Op.load 24 (Operand.tmp 61), type := 24, pos := "outright.go:26", after := #[{ on := 0, ground := Ground.data }], guard := none }) (v := ?_) rfl (by kernel_rfl) (by kernel_rfl) (by kernel_rfl) (fun _ _ _ h => h) (by decide) (by decide) (by kernel_rfl) (by kernel_rfl) (by kernel_rfl) (Or.inl ⟨by rfl, ?_⟩) HS1 (fun _ => HS2) ?_
              rotate_left
              · intro W hSW; have z := cell_on hSW y3; first | (go_simp; done) | (go_simp; with_reducible rfl)
              try simp only [Act.put, List.setIfInBounds_toArray, List.set_cons_zero, List.set_cons_succ]
              refine wpAnyM_pure (i := 2) (oi := { dst := some 63, op := Op.move (Operand.tmp 11), type := 3, pos := "outright.go:26", after := #[], guard := none }) (v := ?_) rfl (by kernel_rfl) (by kernel_rfl) (by kernel_rfl) (fun _ _ _ h => h) (by decide) (by decide) (Or.inl ⟨by rfl, ?_⟩) (fun _ => HS1) (fun _ => HS2) ?_
              rotate_left
              · intro W hSW; first | (go_simp; done) | (go_simp; with_reducible rfl)
              try simp only [Act.put, List.setIfInBounds_toArray, List.set_cons_zero, List.set_cons_succ]
              refine wpAnyM_pure (i := 5) (oi := { dst := some 66, op := Op.fieldAddr 27 (Operand.tmp 7) 4, type := 0, pos := "outright.go:26", after := #[], guard := none }) (v := ?_) rfl (by kernel_rfl) (by kernel_rfl) (by kernel_rfl) (fun _ _ _ h => h) (by decide) (by decide) (Or.inl ⟨by rfl, ?_⟩) (fun _ => HS1) (fun _ => HS2) ?_
              rotate_left
              · intro W hSW; first | (go_simp; done) | (go_simp; with_reducible rfl)
              try simp only [Act.put, List.setIfInBounds_toArray, List.set_cons_zero, List.set_cons_succ]
              refine wpAnyM_take2 (i := 6) (oi := { dst := some 67, op := Op.load 25 (Operand.tmp 66), type := 25, pos := "outright.go:26", after := #[{ on := 5, ground := Ground.data }], guard := none }) (v := ?_) rfl (by kernel_rfl) (by kernel_rfl) (by kernel_rfl) (fun _ _ _ h => h) (by decide) (by decide) (by kernel_rfl) (by kernel_rfl) (by kernel_rfl) (Or.inl ⟨by rfl, ?_⟩) (fun _ => HS1) HS2 ?_
              rotate_left
              · intro W hSW; have z := hSW.cell y4 e3g; first | (go_simp; done) | (go_simp; with_reducible rfl)
              try simp only [Act.put, List.setIfInBounds_toArray, List.set_cons_zero, List.set_cons_succ]
              refine wpAnyM_trip (Ti := fun v W => ∃ b, v = .slice (some ⟨b, 0, none⟩) 1 1 ∧ W.ownsRow wr.heap.size 3 1 v 1 [.int .i64 (j : Int)] ∧ Below wr.heap.size wr W) (Tj := fun u W => ∃ b, u = .slice (some ⟨b, 0, none⟩) 1 1 ∧ W.ownsRow wr.heap.size 9 1 u 1 [.string lockF] ∧ Below wr.heap.size wr W) (Tij := fun v u W => (∃ b, v = .slice (some ⟨b, 0, none⟩) 1 1 ∧ W.ownsRow wr.heap.size 3 1 v 1 [.int .i64 (j : Int)]) ∧ (∃ b, u = .slice (some ⟨b, 0, none⟩) 1 1 ∧ W.ownsRow wr.heap.size 9 1 u 1 [.string lockF]) ∧ Below wr.heap.size wr W) (Tik := fun x W => W.ownsRow g0 3 1 x (j + 1) ((leadF j).map (Value.int .i64) ++ [.int .i64 (j : Int)]) ∧ wr.grownBy W (Value.ownBlock (.slice a3 j c3))) (Tijk := fun x u W => (W.ownsRow g0 3 1 x (j + 1) ((leadF j).map (Value.int .i64) ++ [.int .i64 (j : Int)]) ∧ wr.grownBy W (Value.ownBlock (.slice a3 j c3))) ∧ ∃ b, u = .slice (some ⟨b, 0, none⟩) 1 1 ∧ W.ownsRow wr.heap.size 9 1 u 1 [.string lockF]) (i := 3) (j := 7) (k := 4) (p := 9) (oi := { dst := some 64, op := Op.buildSlice 24 1 #[(0, Operand.tmp 63)], type := 24, pos := "outright.go:26", after := #[{ on := 2, ground := Ground.data }], guard := none }) (oj := { dst := some 68, op := Op.buildSlice 25 1 #[(0, Operand.const (Value.string { data := #[48, 49, 50, 51, 52, 53, 54, 55, 56, 57, 48, 49, 50, 51, 52, 53, 54, 55, 56, 57, 48, 49, 50, 51, 52, 53, 54, 55, 56, 57, 48, 49] }))], type := 25, pos := "outright.go:26", after := #[], guard := none }) (ok := { dst := some 65, op := Op.call { callee := Callee.builtin Builtin.append, args := #[Operand.tmp 62, Operand.tmp 64], argTypes := #[24, 24] }, type := 24, pos := "outright.go:26", after := #[{ on := 1, ground := Ground.data }, { on := 3, ground := Ground.data }], guard := none }) (op := { dst := some 70, op := Op.fieldAddr 27 (Operand.tmp 7) 3, type := 0, pos := "outright.go:26", after := #[{ on := 0, ground := Ground.phase }, { on := 1, ground := Ground.phase }, { on := 2, ground := Ground.phase }, { on := 3, ground := Ground.phase }, { on := 4, ground := Ground.phase }, { on := 5, ground := Ground.phase }, { on := 6, ground := Ground.phase }, { on := 7, ground := Ground.textOnly Departure.lateStores }, { on := 8, ground := Ground.textOnly Departure.lateStoresUnsure }], guard := none }) (vp := .pointer (some ⟨g, 3, none⟩)) (by kernel_rfl) (by kernel_rfl) (by kernel_rfl) (by kernel_rfl) (by kernel_rfl) rfl rfl rfl rfl rfl rfl rfl rfl rfl rfl rfl rfl rfl (fun _ _ => rfl) (fun _ _ _ => rfl) (by kernel_rfl) (by kernel_rfl) (by kernel_rfl) (by kernel_rfl) (by kernel_rfl) (fun _ _ _ h => h) (by decide) (by decide) (fun v x => Or.inl ⟨by rfl, fun W _ => by go_simp⟩) (fun v u x => Or.inl ⟨by rfl, fun W _ => by go_simp⟩) (fun v W hT => hT.choose_spec.2.2) (fun v W hT => hT.choose_spec.2.2) (fun v u W hT => hT.2.2) (fun _ _ _ h => gone (by kernel_rfl) h) (fun _ _ _ _ h => gone (by kernel_rfl) h) (fun _ _ _ _ h => gone (by kernel_rfl) h) (fun v W hT => below_grownR hT.choose_spec.2.2) (fun v W hT => below_grownR hT.choose_spec.2.2) (fun v u W hT => below_grownR hT.2.2) (fun x W hT => hT.2) (fun x u W hT => hT.1.2) ?_ ?_ ?_ ?_ ?_ ?_ ?_ ?_
              · intro K hK
                go_simp
                exact hK.out _ _ ⟨_, rfl, World.ownsRow_lit wr.drew #[.int .i64 (j : Int)] 1 (Nat.le_refl _) (by unfold maxLen; omega) rfl, HS1.alloc (Nat.le_refl _) _⟩
              · intro K hK
                go_simp
                exact hK.out _ _ ⟨_, rfl, World.ownsRow_lit wr.drew #[.string lockF] 1 (Nat.le_refl _) (by unfold maxLen; omega) rfl, HS1.alloc (Nat.le_refl _) _⟩
              · intro v W hT K hK
                obtain ⟨b7, rfl, hr7, hb7⟩ := hT
                go_simp
                exact hK.out _ _ ⟨⟨_, rfl, hr7.alloc _⟩, ⟨_, rfl, World.ownsRow_lit W #[.string lockF] 1 (hb7.size) (by unfold maxLen; omega) rfl⟩, hb7.alloc hb7.size _⟩
              · intro u W hT K hK
                obtain ⟨b7, rfl, hr7, hb7⟩ := hT
                go_simp
                exact hK.out _ _ ⟨⟨_, rfl, World.ownsRow_lit W #[.int .i64 (j : Int)] 1 (hb7.size) (by unfold maxLen; omega) rfl⟩, ⟨_, rfl, hr7.alloc _⟩, hb7.alloc hb7.size _⟩
              · intro v W hT K hK
                obtain ⟨b7, rfl, hr7, hb7⟩ := hT
                refine step_appD (st := 24) Try.underlying24 Try.info3 rfl (by decide) (by decide) _ (by rfl) (.tmp 62) (.tmp 64) (by rfl) g0 _ j ((leadF j).map (Value.int .i64)) (by rfl) (own_below hLe.out hb7) ⟨b7, 0, none⟩ 1 1 [.int .i64 (j : Int)] (by rfl) rfl (fun j u hj => World.ownsRow.cells hr7 rfl j u hj) (by intro u hu; simp at hu; subst hu; rfl) (by omega) (Nat.le_trans hz hb7.size) (by omega) ?_
                intro v' w' h1 h2 _
                exact hK.out _ _ ⟨h1, grown_then (below_grownR hb7) h2⟩
              · intro v u W hT K hK
                obtain ⟨⟨b7, rfl, hr7⟩, ⟨b8, rfl, hr8⟩, hb7⟩ := hT
                refine step_appD (st := 24) Try.underlying24 Try.info3 rfl (by decide) (by decide) _ (by rfl) (.tmp 62) (.tmp 64) (by rfl) g0 _ j ((leadF j).map (Value.int .i64)) (by rfl) (own_below hLe.out hb7) ⟨b7, 0, none⟩ 1 1 [.int .i64 (j : Int)] (by rfl) rfl (fun j u hj => World.ownsRow.cells hr7 rfl j u hj) (by intro u hu; simp at hu; subst hu; rfl) (by omega) (Nat.le_trans hz hb7.size) (by omega) ?_
                intro v' w' h1 h2 _
                exact hK.out _ _ ⟨⟨h1, grown_then (below_grownR hb7) h2⟩, _, rfl, World.ownsRow.kept hr8 h2 (rows_apart hr8 (own_below hLe.out hb7) (by decide))⟩
              · intro v x W hT K hK
                obtain ⟨hr7, hg7⟩ := hT
                go_simp
                exact hK.out _ _ ⟨⟨hr7.alloc _, grown_then hg7 (World.grownBy_alloc _ _ _)⟩, _, rfl, World.ownsRow_lit W #[.string lockF] 1 (hg7.size) (by unfold maxLen; omega) rfl⟩
              intro v0 x7 u7 Wt h7
              obtain ⟨⟨hr7, hg7⟩, b8, rfl, hr8⟩ := h7
              have HS2 : wr.grownBy Wt (Value.ownBlock (.slice a3 j c3)) := hg7
              try simp only [Act.put, List.setIfInBounds_toArray, List.set_cons_zero, List.set_cons_succ]
              refine wpAnyM_lone (T := fun v W => W.ownsRow g0 9 1 v (j + 1) ((List.replicate j lockF).map Value.string ++ [.string lockF]) ∧ Wt.grownBy W (Value.ownBlock (.slice a4 j c4)) ∧ (v.ownBlock = (Value.ownBlock (.slice a4 j c4)) ∨ ∃ k, v.ownBlock = some k ∧ Wt.heap.size ≤ k)) (i := 8) (oi := { dst := some 69, op := Op.call { callee := Callee.builtin Builtin.append, args := #[Operand.tmp 67, Operand.tmp 68], argTypes := #[25, 25] }, type := 25, pos := "outright.go:26", after := #[{ on := 6, ground := Ground.data }, { on := 7, ground := Ground.data }, { on := 4, ground := Ground.chain }], guard := none }) (by kernel_rfl) rfl ?_ (fun _ _ _ h => gone (by kernel_rfl) h) (fun _ _ _ h => gone (by kernel_rfl) h) ?_
              · intro K hK
                have hL7 := World.ownsRow.kept hLo.out hg7 (rows_apart hLo.out hLe.out (by decide))
                refine step_appD (st := 25) Try.underlying25 Try.info9 rfl (by decide) (by decide) _ (by rfl) (.tmp 67) (.tmp 68) (by rfl) g0 _ j ((List.replicate j lockF).map Value.string) (by rfl) hL7 ⟨b8, 0, none⟩ 1 1 [.string lockF] (by rfl) rfl (fun j u hj => World.ownsRow.cells hr8 rfl j u hj) (by intro u hu; simp at hu; subst hu; rfl) (by omega) (Nat.le_trans hz hg7.size) (by omega) ?_
                intro v' w' h1 h2 h3
                exact hK.out _ _ ⟨h1, h2, h3⟩
              intro v8 Wb h8
              obtain ⟨hk8, hg8, hf8⟩ := h8
              obtain ⟨va7, vc7, hva7⟩ := row_slice hr7
              subst hva7
              obtain ⟨va8, vc8, hva8⟩ := row_slice hk8
              subst hva8
              have hv7 := hF.out.sv.grown hg7 e3g
              have hL7 := World.ownsRow.kept hLo.out hg7 (rows_apart hLo.out hLe.out (by decide))
              have hv8 := hv7.grown hg8 (sv_apart hv7 hL7 (by decide))
              have q8 := hv8.cells.2.2.2.1
              have f8 := hv8.frozen 3
              clear HS2 hr8
              try simp only [Act.put, List.setIfInBounds_toArray, List.set_cons_zero, List.set_cons_succ]
              refine wpAnyM_lone (T := fun _ W => W = Wb.setCell ⟨g, 3, none⟩ (.slice va7 (j + 1) vc7)) (i := 10) (oi := { dst := none, op := Op.store 24 (Operand.tmp 70) (Operand.tmp 65), type := 0, pos := "outright.go:26", after := #[{ on := 9, ground := Ground.data }, { on := 4, ground := Ground.data }, { on := 8, ground := Ground.chain }, { on := 0, ground := Ground.phase }, { on := 1, ground := Ground.phase }, { on := 2, ground := Ground.phase }, { on := 3, ground := Ground.phase }, { on := 4, ground := Ground.phase }, { on := 5, ground := Ground.phase }, { on := 6, ground := Ground.phase }, { on := 7, ground := Ground.textOnly Departure.lateStores }, { on := 8, ground := Ground.textOnly Departure.lateStoresUnsure }], guard := none }) (by kernel_rfl) rfl ?_ (fun _ _ _ h => gone (by kernel_rfl) h) (fun _ _ _ h => gone (by kernel_rfl) h) ?_
              · intro K hK
                go_simp
                exact hK.out undef _ rfl
              intro v9 W9 h9
              subst h9
              have hv9 := hv8.set3 (.slice va7 (j + 1) vc7)
              have q9 := hv9.cells.2.2.2.2.1
              have f9 := hv9.frozen 4
              clear q8 f8
              try simp only [Act.put]
              refine wpAnyM_pure (i := 11) (oi := { dst := some 71, op := Op.fieldAddr 27 (Operand.tmp 7) 4, type := 0, pos := "outright.go:26", after := #[{ on := 0, ground := Ground.phase }, { on := 1, ground := Ground.phase }, { on := 2, ground := Ground.phase }, { on := 3, ground := Ground.phase }, { on := 4, ground := Ground.phase }, { on := 5, ground := Ground.phase }, { on := 6, ground := Ground.phase }, { on := 7, ground := Ground.phase }, { on := 8, ground := Ground.phase }, { on := 9, ground := Ground.phase }, { on := 10, ground := Ground.phase }], guard := none }) (v := ?_) rfl (by kernel_rfl) (by kernel_rfl) (by kernel_rfl) (fun _ _ _ h => h) (by decide) (by decide) (Or.inl ⟨by rfl, ?_⟩) (fun h => gone (by kernel_rfl) h) (fun h => gone (by kernel_rfl) h) ?_
              rotate_left
              · intro W hSW; first | (go_simp; done) | (go_simp; with_reducible rfl)
              try simp only [Act.put, List.setIfInBounds_toArray, List.set_cons_zero, List.set_cons_succ]
              refine wpAnyM_lone (T := fun _ W => W = (Wb.setCell ⟨g, 3, none⟩ (.slice va7 (j + 1) vc7)).setCell ⟨g, 4, none⟩ (.slice va8 (j + 1) vc8)) (i := 12) (oi := { dst := none, op := Op.store 25 (Operand.tmp 71) (Operand.tmp 69), type := 0, pos := "outright.go:26", after := #[{ on := 11, ground := Ground.data }, { on := 8, ground := Ground.data }, { on := 10, ground := Ground.chain }, { on := 0, ground := Ground.phase }, { on := 1, ground := Ground.phase }, { on := 2, ground := Ground.phase }, { on := 3, ground := Ground.phase }, { on := 4, ground := Ground.phase }, { on := 5, ground := Ground.phase }, { on := 6, ground := Ground.phase }, { on := 7, ground := Ground.phase }, { on := 8, ground := Ground.phase }, { on := 9, ground := Ground.phase }, { on := 10, ground := Ground.phase }], guard := none }) (by kernel_rfl) rfl ?_ (fun _ _ _ h => gone (by kernel_rfl) h) (fun _ _ _ h => gone (by kernel_rfl) h) ?_
              · intro K hK
                go_simp
                exact hK.out undef _ rfl
              intro v10 W10 h10
              subst h10
              clear q9 f9
              try simp only [Act.put]
              refine wpAnyM_done (by kernel_rfl) ?_ _
              have hI9 : OwnI Wt g0 (.slice va7 (j + 1) vc7) (leadF (j + 1)) := by unfold OwnI; rw [leadF_len, leadF_succ, List.map_append]; exact hr7
              have hS9 : OwnS Wb g0 (.slice va8 (j + 1) vc8) (List.replicate (j + 1) lockF) := by unfold OwnS; rw [List.length_replicate, List.replicate_succ', List.map_append]; exact hk8
              have hF9 := hF.out.more hg7 hI9 hg8 hS9 hf8
              have hB8 : Below g0 w Wb := (hB.grown hg7 hz (row_own hLe.out)).grown hg8 (Nat.le_trans hz hg7.size) (row_own hL7)
              have hB9 := (hB8.setCell (p := ⟨g, 3, none⟩) (by show g0 ≤ g; omega) (.slice va7 (j + 1) vc7)).setCell (p := ⟨g, 4, none⟩) (by show g0 ≤ g; omega) (.slice va8 (j + 1) vc8)
              have hz9 : g0 ≤ ((Wb.setCell ⟨g, 3, none⟩ (.slice va7 (j + 1) vc7)).setCell ⟨g, 4, none⟩ (.slice va8 (j + 1) vc8)).heap.size := Nat.le_trans (Nat.le_trans hz (Nat.le_trans hg7.size hg8.size)) ((But.setCell Wb g 3 (.slice va7 (j + 1) vc7)).trans (But.setCell _ g 4 (.slice va8 (j + 1) vc8))).size
              clear hF hB hz hLe hLo hr7 hg7 hk8 hg8 hf8 hv7 hL7 hv8 hv9 hI9 hS9 hB8 y3 y4 e3g
              generalize (Wb.setCell ⟨g, 3, none⟩ (.slice va7 (j + 1) vc7)).setCell ⟨g, 4, none⟩ (.slice va8 (j + 1) vc8) = Wn at hF9 hB9 hz9 ⊢
              go_wp2_with fail
              go_loopw [12] (fun x wr => ∃ (i : Nat) (ks : List Value), i ≤ k ∧ x = .int .i64 i ∧ Full wr g g0 (.slice (some ⟨b1, 0, none⟩) k c1) v2 (.slice va7 (j + 1) vc7) (.slice va8 (j + 1) vc8) ks (partF k j i) AL (leadF (j + 1)) (List.replicate (j + 1) lockF) ∧ Below g0 w wr ∧ g0 ≤ wr.heap.size) (fun x _ => k - (intOf x).toNat)
              case atStart => exact ⟨0, ks, by omega, rfl, hF9, hB9, hz9⟩
              case round =>
                clear hF9 hB9 hz9
                obtain ⟨i, ks, hi, rfl, hF, hB, hz⟩ := hrel
                by_cases hlti : i < k
                · have i1 : (i : Int) < (k : Int) := by omega
                  have y1 := hF.sv.cells.2.1
                  have hPl := partF_len k j i
                  have hPr := hF.pr
                  rw [hPl] at hPr
                  have xc := World.ownsRow.cellAt hPr (i * 2 + 1) (by omega)
                  rw [(pcells_at (partF k j i) ks hF.kl i (by rw [hPl]; exact hlti)).2] at xc
                  have hky := hF.ky i (by rw [hPl]; exact hlti)
                  rw [partF_get k j i i hlti, if_neg (Nat.lt_irrefl i)] at hky
                  unfold OwnS at hky
                  rw [List.length_replicate] at hky
                  obtain ⟨ai, ci, hui⟩ := row_slice hky
                  rw [hui] at xc hky
                  have hb1 := (World.ownsRow.lt hPr b1 rfl).1
                  have e1g : some g ≠ Value.ownBlock (.slice ai j ci) := sv_apart hF.sv hky (by decide)
                  have hj4 : j ≤ 3 := by omega
                  replace hF := hide hF
                  replace hky := hide hky
                  replace hPr := hide hPr
                  replace hPl := hide hPl
                  replace hui := hide hui
                  go_upto_region 24 with fail
                  have HS1 : Below wr.heap.size wr wr.drew := ⟨rfl, rfl, rfl, Nat.le_refl _, fun _ _ => rfl⟩
                  have HS2 : wr.grownBy wr.drew (Value.ownBlock (.slice ai j ci)) := ⟨rfl, rfl, rfl, Nat.le_refl _, fun _ _ _ => rfl⟩
                  refine wp_region_M 10 (fun W => Below wr.heap.size wr W) 13 (fun W => wr.grownBy W (Value.ownBlock (.slice ai j ci))) (by kernel_rfl) ?_
                  refine wpAnyM_pure (i := 0) (oi := { dst := some 77, op := Op.fieldAddr 27 (Operand.tmp 7) 1, type := 0, pos := "outright.go:28", after := #[], guard := none }) (v := ?_) rfl (by kernel_rfl) (by kernel_rfl) (by kernel_rfl) (fun _ _ _ h => h) (by decide) (by decide) (Or.inl ⟨by rfl, ?_⟩) (fun _ => HS1) (fun _ => HS2) ?_
                  rotate_left
                  · intro W hSW; first | (go_simp; done) | (go_simp; with_reducible rfl)
                  try simp only [Act.put, List.setIfInBounds_toArray, List.set_cons_zero, List.set_cons_succ]
                  refine wpAnyM_take2 (i := 1) (oi := { dst := some 78, op := Op.load 22 (Operand.tmp 77), type := 22, pos := "outright.go:28", after := #[{ on := 0, ground := Ground.data }], guard := none }) (v := ?_) rfl (by kernel_rfl) (by kernel_rfl) (by kernel_rfl) (fun _ _ _ h => h) (by decide) (by decide) (by kernel_rfl) (by kernel_rfl) (by kernel_rfl) (Or.inl ⟨by rfl, ?_⟩) (fun _ => HS1) HS2 ?_
                  rotate_left
                  · intro W hSW; have z := hSW.cell y1 e1g; first | (go_simp; done) | (go_simp; with_reducible rfl)
                  try simp only [Act.put, List.setIfInBounds_toArray, List.set_cons_zero, List.set_cons_succ]
                  refine wpAnyM_pure (i := 2) (oi := { dst := some 79, op := Op.move (Operand.tmp 12), type := 3, pos := "outright.go:28", after := #[], guard := none }) (v := ?_) rfl (by kernel_rfl) (by kernel_rfl) (by kernel_rfl) (fun _ _ _ h => h) (by decide) (by decide) (Or.inl ⟨by rfl, ?_⟩) (fun _ => HS1) (fun _ => HS2) ?_
                  rotate_left
                  · intro W hSW; first | (go_simp; done) | (go_simp; with_reducible rfl)
                  try simp only [Act.put, List.setIfInBounds_toArray, List.set_cons_zero, List.set_cons_succ]
                  refine wpAnyM_pure (i := 3) (oi := { dst := some 80, op := Op.fieldAddr 27 (Operand.tmp 7) 1, type := 0, pos := "outright.go:28", after := #[], guard := none }) (v := ?_) rfl (by kernel_rfl) (by kernel_rfl) (by kernel_rfl) (fun _ _ _ h => h) (by decide) (by decide) (Or.inl ⟨by rfl, ?_⟩) (fun _ => HS1) (fun _ => HS2) ?_
                  rotate_left
                  · intro W hSW; first | (go_simp; done) | (go_simp; with_reducible rfl)
                  try simp only [Act.put, List.setIfInBounds_toArray, List.set_cons_zero, List.set_cons_succ]
                  refine wpAnyM_take (i := 4) (oi := { dst := some 81, op := Op.load 22 (Operand.tmp 80), type := 22, pos := "outright.go:28", after := #[{ on := 3, ground := Ground.data }], guard := none }) (v := ?_) rfl (by kernel_rfl) (by kernel_rfl) (by kernel_rfl) (fun _ _ _ h => h) (by decide) (by decide) (by kernel_rfl) (by kernel_rfl) (by kernel_rfl) (Or.inl ⟨by rfl, ?_⟩) HS1 (fun _ => HS2) ?_
                  rotate_left
                  · intro W hSW; have z := cell_on hSW y1; first | (go_simp; done) | (go_simp; with_reducible rfl)
                  try simp only [Act.put, List.setIfInBounds_toArray, List.set_cons_zero, List.set_cons_succ]
                  refine wpAnyM_pure (i := 5) (oi := { dst := some 82, op := Op.move (Operand.tmp 12), type := 3, pos := "outright.go:28", after := #[], guard := none }) (v := ?_) rfl (by kernel_rfl) (by kernel_rfl) (by kernel_rfl) (fun _ _ _ h => h) (by decide) (by decide) (Or.inl ⟨by rfl, ?_⟩) (fun _ => HS1) (fun _ => HS2) ?_
                  rotate_left
                  · intro W hSW; first | (go_simp; done) | (go_simp; with_reducible rfl)
                  try simp only [Act.put, List.setIfInBounds_toArray, List.set_cons_zero, List.set_cons_succ]
                  refine wpAnyM_pure (i := 6) (oi := { dst := some 83, op := Op.indexAddr 22 (Operand.tmp 81) (Operand.tmp 82), type := 0, pos := "outright.go:28", after := #[{ on := 4, ground := Ground.data }, { on := 5, ground := Ground.data }], guard := none }) (v := ?_) rfl (by kernel_rfl) (by kernel_rfl) (by kernel_rfl) (fun _ _ _ h => h) (by decide) (by decide) (Or.inl ⟨by rfl, ?_⟩) (fun _ => HS1) (fun _ => HS2) ?_
                  rotate_left
                  · intro W hSW; first | (go_simp; done) | (go_simp; with_reducible rfl)
                  try simp only [Act.put, List.setIfInBounds_toArray, List.set_cons_zero, List.set_cons_succ]
                  refine wpAnyM_pure (i := 7) (oi := { dst := some 84, op := Op.fieldAddr 32 (Operand.tmp 83) 1, type := 0, pos := "outright.go:28", after := #[{ on := 6, ground := Ground.data }], guard := none }) (v := ?_) rfl (by kernel_rfl) (by kernel_rfl) (by kernel_rfl) (fun _ _ _ h => h) (by decide) (by decide) (Or.inl ⟨by rfl, ?_⟩) (fun _ => HS1) (fun _ => HS2) ?_
                  rotate_left
                  · intro W hSW; first | (go_simp; done) | (go_simp; with_reducible rfl)
                  try simp only [Act.put, List.setIfInBounds_toArray, List.set_cons_zero, List.set_cons_succ]
                  refine wpAnyM_take (i := 8) (oi := { dst := some 85, op := Op.load 25 (Operand.tmp 84), type := 25, pos := "outright.go:28", after := #[{ on := 7, ground := Ground.data }], guard := none }) (v := ?_) rfl (by kernel_rfl) (by kernel_rfl) (by kernel_rfl) (fun _ _ _ h => h) (by decide) (by decide) (by kernel_rfl) (by kernel_rfl) (by kernel_rfl) (Or.inl ⟨by rfl, ?_⟩) HS1 (fun _ => HS2) ?_
                  rotate_left
                  · intro W hSW; have z := cell_on hSW xc; first | (go_simp; done) | (go_simp; with_reducible rfl)
                  try simp only [Act.put, List.setIfInBounds_toArray, List.set_cons_zero, List.set_cons_succ]
                  refine wpAnyM_lone (T := fun v W => ∃ b, v = .slice (some ⟨b, 0, none⟩) 1 1 ∧ W.ownsRow wr.heap.size 9 1 v 1 [.string keyF] ∧ Below wr.heap.size wr W) (i := 9) (oi := { dst := some 86, op := Op.buildSlice 25 1 #[(0, Operand.const (Value.string { data := #[48, 49, 50, 51, 52, 53, 54, 55, 56, 57, 97, 98, 99, 100, 101, 102] }))], type := 25, pos := "outright.go:28", after := #[], guard := none }) (by kernel_rfl) rfl ?_ (fun v W hT _ => hT.choose_spec.2.2) (fun v W hT _ => below_grownR hT.choose_spec.2.2) ?_
                  · intro K hK
                    go_simp
                    exact hK.out _ _ ⟨_, rfl, World.ownsRow_lit wr.drew #[.string keyF] 1 (Nat.le_refl _) (by unfold maxLen; omega) rfl, HS1.alloc (Nat.le_refl _) _⟩
                  intro v7 Wa h7
                  have HS1 : (fun W => Below wr.heap.size wr W) Wa := (fun v W hT => hT.choose_spec.2.2) v7 Wa h7
                  have HS2 : (fun W => wr.grownBy W (Value.ownBlock (.slice ai j ci))) Wa := (fun v W hT => below_grownR hT.choose_spec.2.2) v7 Wa h7
                  obtain ⟨b7, rfl, hr7, hb7⟩ := h7
                  try simp only [Act.put, List.setIfInBounds_toArray, List.set_cons_zero, List.set_cons_succ]
                  refine wpAnyM_lone (T := fun v W => W.ownsRow g0 9 1 v (j + 1) ((List.replicate j keyF).map Value.string ++ [.string keyF]) ∧ wr.grownBy W (Value.ownBlock (.slice ai j ci)) ∧ (v.ownBlock = (Value.ownBlock (.slice ai j ci)) ∨ ∃ k, v.ownBlock = some k ∧ wr.heap.size ≤ k)) (i := 10) (oi := { dst := some 87, op := Op.call { callee := Callee.builtin Builtin.append, args := #[Operand.tmp 85, Operand.tmp 86], argTypes := #[25, 25] }, type := 25, pos := "outright.go:28", after := #[{ on := 8, ground := Ground.data }, { on := 9, ground := Ground.data }], guard := none }) (by kernel_rfl) rfl ?_ (fun _ _ _ h => gone (by kernel_rfl) h) (fun v W hT _ => hT.2.1) ?_
                  · intro K hK
                    refine step_appD (st := 25) Try.underlying25 Try.info9 rfl (by decide) (by decide) _ (by rfl) (.tmp 85) (.tmp 86) (by rfl) g0 _ j ((List.replicate j keyF).map Value.string) (by rfl) (own_below hky.out hb7) ⟨b7, 0, none⟩ 1 1 [.string keyF] (by rfl) rfl (fun j u hj => World.ownsRow.cells hr7 rfl j u hj) (by intro u hu; simp at hu; subst hu; rfl) (by omega) (Nat.le_trans hz hb7.size) (by omega) ?_
                    intro v' w' h1 h2 h3
                    exact hK.out _ _ ⟨h1, grown_then (below_grownR hb7) h2, h3.imp id (fun ⟨k, hk, hk2⟩ => ⟨k, hk, Nat.le_trans hb7.size hk2⟩)⟩
                  intro v8 Wb h8
                  have HS2 : (fun W => wr.grownBy W (Value.ownBlock (.slice ai j ci))) Wb := (fun v W hT => hT.2.1) v8 Wb h8
                  obtain ⟨hk8, hg8, hf8⟩ := h8
                  obtain ⟨va9, vc9, hva8⟩ := row_slice hk8
                  subst hva8
                  have hPb := World.ownsRow.kept hPr.out hg8 (rows_apart hPr.out hky.out (by decide))
                  have q8 := World.ownsRow.cellAt hPb (i * 2 + 1) (by omega)
                  rw [(pcells_at (partF k j i) ks hF.out.kl i (by rw [hPl.out]; exact hlti)).2] at q8
                  have f8 := World.ownsRow.frozenAt hPb (i * 2 + 1)
                  clear hr7 hb7
                  try simp only [Act.put, List.setIfInBounds_toArray, List.set_cons_zero, List.set_cons_succ]
                  refine wpAnyM_pure (i := 11) (oi := { dst := some 88, op := Op.indexAddr 22 (Operand.tmp 78) (Operand.tmp 79), type := 0, pos := "outright.go:28", after := #[{ on := 1, ground := Ground.data }, { on := 2, ground := Ground.data }, { on := 0, ground := Ground.phase }, { on := 1, ground := Ground.phase }, { on := 2, ground := Ground.phase }, { on := 3, ground := Ground.phase }, { on := 4, ground := Ground.phase }, { on := 5, ground := Ground.phase }, { on := 6, ground := Ground.phase }, { on := 7, ground := Ground.phase }, { on := 8, ground := Ground.phase }, { on := 9, ground := Ground.phase }, { on := 10, ground := Ground.phase }], guard := none }) (v := ?_) rfl (by kernel_rfl) (by kernel_rfl) (by kernel_rfl) (fun _ _ _ h => h) (by decide) (by decide) (Or.inl ⟨by rfl, ?_⟩) (fun h => gone (by kernel_rfl) h) (fun _ => HS2) ?_
                  rotate_left
                  · intro W hSW; first | (go_simp; done) | (go_simp; with_reducible rfl)
                  try simp only [Act.put, List.setIfInBounds_toArray, List.set_cons_zero, List.set_cons_succ]
                  refine wpAnyM_pure (i := 12) (oi := { dst := some 89, op := Op.fieldAddr 32 (Operand.tmp 88) 1, type := 0, pos := "outright.go:28", after := #[{ on := 11, ground := Ground.data }, { on := 0, ground := Ground.phase }, { on := 1, ground := Ground.phase }, { on := 2, ground := Ground.phase }, { on := 3, ground := Ground.phase }, { on := 4, ground := Ground.phase }, { on := 5, ground := Ground.phase }, { on := 6, ground := Ground.phase }, { on := 7, ground := Ground.phase }, { on := 8, ground := Ground.phase }, { on := 9, ground := Ground.phase }, { on := 10, ground := Ground.phase }], guard := none }) (v := ?_) rfl (by kernel_rfl) (by kernel_rfl) (by kernel_rfl) (fun _ _ _ h => h) (by decide) (by decide) (Or.inl ⟨by rfl, ?_⟩) (fun h => gone (by kernel_rfl) h) (fun _ => HS2) ?_
                  rotate_left
                  · intro W hSW; first | (go_simp; done) | (go_simp; with_reducible rfl)
                  try simp only [Act.put, List.setIfInBounds_toArray, List.set_cons_zero, List.set_cons_succ]
                  refine wpAnyM_lone (T := fun _ W => W = Wb.setCell ⟨b1, i * 2 + 1, none⟩ (.slice va9 (j + 1) vc9)) (i := 13) (oi := { dst := none, op := Op.store 25 (Operand.tmp 89) (Operand.tmp 87), type := 0, pos := "outright.go:28", after := #[{ on := 12, ground := Ground.data }, { on := 10, ground := Ground.data }, { on := 10, ground := Ground.chain }, { on := 0, ground := Ground.phase }, { on := 1, ground := Ground.phase }, { on := 2, ground := Ground.phase }, { on := 3, ground := Ground.phase }, { on := 4, ground := Ground.phase }, { on := 5, ground := Ground.phase }, { on := 6, ground := Ground.phase }, { on := 7, ground := Ground.phase }, { on := 8, ground := Ground.phase }, { on := 9, ground := Ground.phase }, { on := 10, ground := Ground.phase }], guard := none }) (by kernel_rfl) rfl ?_ (fun _ _ _ h => gone (by kernel_rfl) h) (fun _ _ _ h => gone (by kernel_rfl) h) ?_
                  · intro K hK
                    go_simp
                    exact hK.out undef _ rfl
                  intro v9 W9 h9
                  subst h9
                  clear q8 f8
                  try simp only [Act.put]
                  refine wpAnyM_done (by kernel_rfl) ?_ _
                  have hS9 : OwnS Wb g0 (.slice va9 (j + 1) vc9) (List.replicate (j + 1) keyF) := by unfold OwnS; rw [List.length_replicate, List.replicate_succ', List.map_append]; exact hk8
                  have hF9 := hF.out.key (Q := partF k j (i + 1)) hPl.out.symm i (by rw [hPl.out]; exact hlti) (by rw [hui.out]; exact hg8) hS9 (by rw [hui.out]; exact hf8) (by rw [partF_len, partF_len]) (by simp [partF]) (by rw [partF_get k j (i + 1) i hlti, if_pos (Nat.lt_succ_self i)]) (fun x hx hne => by
                    rw [hPl.out] at hx
                    rw [partF_get k j (i + 1) x hx, partF_get k j i x hx]
                    by_cases h9 : x < i
                    · rw [if_pos (by omega), if_pos h9]
                    · rw [if_neg (by omega), if_neg h9])
                  have hB9 := (hB.grown hg8 hz (row_own hky.out)).setCell (p := ⟨b1, i * 2 + 1, none⟩) (by show g0 ≤ b1; omega) (.slice va9 (j + 1) vc9)
                  have hz9 := Nat.le_trans hz (Nat.le_trans hg8.size (But.setCell Wb b1 (i * 2 + 1) (.slice va9 (j + 1) vc9)).size)
                  clear hF hky hPr hui hk8 hg8 hf8 hPb hB hz hS9 y1 xc
                  generalize Wb.setCell ⟨b1, i * 2 + 1, none⟩ (.slice va9 (j + 1) vc9) = Wn at hF9 hB9 hz9 ⊢
                  go_wp2_with fail
                  go_roundw
                  case rel => exact ⟨i + 1, _, by omega, by go_num, hF9, hB9, hz9⟩
                  case measure => simp [intOf]; omega
                · have i1 : ¬ (i : Int) < (k : Int) := by omega
                  have hik : i = k := by omega
                  rw [hik, partF_end] at hF
                  replace hik := hide hik
                  go_wp2_with fail
                  go_roundw
                  case rel => exact ⟨j + 1, _, _, _, _, ks, by omega, by go_num, hF, hB, hz⟩
                  case measure => simp [intOf]; omega
            · have j1 : ¬ (j : Int) < (m : Int) := by omega
              have hjm : j = m := by omega
              have hW : SpecW wr (.agg (scells ringId (.slice (some ⟨b1, 0, none⟩) k c1) v2 (.slice a3 m c3) (.slice a4 m c4) 5 6)) (fullS k m) := by
                have h9 := hF.wide (full_sane k j hk2 (by omega) |> fun h => by rw [← hAL.out]; exact h)
                rw [hjm, ← hAL.out] at h9
                exact h9
              have hv := hF.sv
              rw [hjm] at hv
              have h7 := scells_seven ringId 5 6 (v1 := .slice (some ⟨b1, 0, none⟩) k c1) (v2 := v2) (v3 := .slice a3 m c3) (v4 := .slice a4 m c4) rfl (own_one hF.ar) rfl rfl
              obtain ⟨cs, hcs⟩ : ∃ cs, scells ringId (.slice (some ⟨b1, 0, none⟩) k c1) v2 (.slice a3 m c3) (.slice a4 m c4) 5 6 = cs := ⟨_, rfl⟩
              have hv : SvAt wr g (scells ringId (.slice (some ⟨b1, 0, none⟩) k c1) v2 (.slice a3 m c3) (.slice a4 m c4) 5 6) := hv
              rw [hcs] at hv hW h7
              clear hF hcs hltj hj
              replace hjm := hide hjm
              have HW : Hid (∀ W, Below wr.heap.size wr W → SpecW W (.agg cs) (fullS k m)) := fun W hW2 => hW.below hW2
              clear hW
              by_cases hbig : 3 < m
              · have hbigI : (3 : Int) < (m : Int) := by omega
                have hbad := full_bad k m hbig
                have HV : Hid (∀ W, Below wr.heap.size wr W → Calls Try.prog 13 #[.agg cs] W fun e w' => e = .returned (.bool false) ∧ Below W.heap.size W w') := fun W hW => by have h9 := pvalid_any (HW.out W hW); rw [valid_bad hbad] at h9; exact h9
                have HS : Hid (∀ W, Below wr.heap.size wr W → Calls Try.prog 14 #[.agg cs] W fun e w' => e = .returned (.bool false) ∧ Below W.heap.size W w') := fun W hW => by have h9 := pstrong_any (HW.out W hW); rw [strong_bad hbad] at h9; exact h9
                have HE : Hid (∀ W, Below wr.heap.size wr W → Calls Try.prog 15 #[.agg cs, .int .i64 0] W fun e w' => (∃ a c, e = .returned (.slice a 0 c)) ∧ Below W.heap.size W w') := fun W hW => by
                  refine (pent_any (HW.out W hW) 0 [] (fun h => absurd h hbad) (fun _ => rfl)).mono ?_
                  rintro e w' ⟨u, rfl, hO, hb⟩
                  obtain ⟨a, c, rfl⟩ := row_slice hO
                  exact ⟨⟨a, c, rfl⟩, hb⟩
                clear hbad HW
                have hR0 := Below.refl wr.heap.size wr
                have hx0 := hv
                go_wp2_with ((with_reducible refine wpList_at ?_); refine wpList_loadV (by rfl) (.tmp 7) (by rfl) _ cs (by rfl) hx0 h7 ?_)
                refine (HV.out _ hR0).mono ?_
                rintro e W1 ⟨rfl, hb1⟩
                have hR1 := below_then hR0 hb1
                have hx1 := hv.below hR1
                clear hb1 hx0 hR0
                go_wp2_with ((with_reducible refine wpList_at ?_); refine wpList_loadV (by rfl) (.tmp 7) (by rfl) _ cs (by rfl) hx1 h7 ?_)
                refine (HS.out _ hR1).mono ?_
                rintro e W2 ⟨rfl, hb2⟩
                have hR2 := below_then hR1 hb2
                have hx2 := hv.below hR2
                clear hb2 hx1 hR1
                go_wp2_with ((with_reducible refine wpList_at ?_); refine wpList_loadV (by rfl) (.tmp 7) (by rfl) _ cs (by rfl) hx2 h7 ?_)
                refine (HE.out _ hR2).mono ?_
                rintro e W3 ⟨⟨a9, c9, rfl⟩, hb3⟩
                have hR3 := below_then hR2 hb3
                have hx3 := hv.below hR3
                clear hb3 hx2 hR2
                go_wp2_with fail
                refine (HAW.out _).mono ?_
                rintro e We ⟨rfl, hbe⟩
                have hRe := below_then hR3 hbe
                go_wp2
                go_ret
                exact ⟨rfl, hB.trans (hRe.mono hz)⟩
              · have hbigI : ¬ (3 : Int) < (m : Int) := by omega
                have hok := full_ok k m hk2 (by omega)
                obtain ⟨x1, x2, x3, x4, x5⟩ := full_facts k m hk2 (by omega)
                obtain ⟨n1, hn1⟩ : ∃ n, k - 1 = n := ⟨_, rfl⟩
                have hk1 : (k : Int) - 1 = (n1 : Int) := by omega
                rw [hk1] at x5
                rw [hn1] at x2 x3 x4 x5
                obtain ⟨fb, hfb⟩ : ∃ b, decide (n1 ≤ m) = b := ⟨_, rfl⟩
                rw [hfb] at x2 x3
                have HV : Hid (∀ W, Below wr.heap.size wr W → Calls Try.prog 13 #[.agg cs] W fun e w' => e = .returned (.bool fb) ∧ Below W.heap.size W w') := fun W hW => by have h9 := pvalid_any (HW.out W hW); rw [x3] at h9; exact h9
                have HS : Hid (∀ W, Below wr.heap.size wr W → Calls Try.prog 14 #[.agg cs] W fun e w' => e = .returned (.bool true) ∧ Below W.heap.size W w') := fun W hW => by have h9 := pstrong_any (HW.out W hW); rw [x1] at h9; exact h9
                have HK : Hid (∀ W, Below wr.heap.size wr W → Calls Try.prog 17 #[.agg cs] W fun e w' => e = .returned (.bool fb) ∧ Below W.heap.size W w') := fun W hW => by have h9 := pfeedback_any (HW.out W hW); rw [x2] at h9; exact h9
                have HE : Hid (∀ W, Below wr.heap.size wr W → Calls Try.prog 15 #[.agg cs, .int .i64 0] W fun e w' => (∃ a c, e = .returned (.slice a n1 c)) ∧ Below W.heap.size W w') := fun W hW => by
                  refine (pent_any (HW.out W hW) 0 _ (fun _ => rfl) (fun h => absurd hok h)).mono ?_
                  rintro e w' ⟨u, rfl, hO, hb⟩
                  obtain ⟨a, c, rfl⟩ := row_slice hO
                  exact ⟨⟨a, c, by rw [x4]⟩, hb⟩
                have HL : Hid (∀ W, Below wr.heap.size wr W → Calls Try.prog 18 #[.agg cs, .int .i64 (n1 : Int)] W fun e w' => (∃ a c, e = .returned (.slice a n1 c)) ∧ Below W.heap.size W w') := fun W hW => by
                  refine (plev_any (HW.out W hW) (n1 : Int) _ (fun _ => rfl) (fun h => absurd hok h)).mono ?_
                  rintro e w' ⟨u, rfl, hO, hb⟩
                  obtain ⟨a, c, rfl⟩ := row_slice hO
                  exact ⟨⟨a, c, by rw [x5]⟩, hb⟩
                clear hok HW x1 x2 x3 x4 x5
                replace hfb := hide hfb
                replace hn1 := hide hn1
                by_cases hc : n1 ≤ m
                · obtain rfl : fb = true := by rw [← hfb.out]; simp [hc]
                  have hcI : (n1 : Int) ≤ (m : Int) := by omega
                  clear hc hfb
                  have hR0 := Below.refl wr.heap.size wr
                  have hx0 := hv
                  go_wp2_with ((with_reducible refine wpList_at ?_); refine wpList_loadV (by rfl) (.tmp 7) (by rfl) _ cs (by rfl) hx0 h7 ?_)
                  refine (HS.out _ hR0).mono ?_
                  rintro e W1 ⟨rfl, hb1⟩
                  have hR1 := below_then hR0 hb1
                  have hx1 := hv.below hR1
                  clear hb1 hx0 hR0
                  go_wp2_with ((with_reducible refine wpList_at ?_); refine wpList_loadV (by rfl) (.tmp 7) (by rfl) _ cs (by rfl) hx1 h7 ?_)
                  refine (HK.out _ hR1).mono ?_
                  rintro e W2 ⟨rfl, hb2⟩
                  have hR2 := below_then hR1 hb2
                  have hx2 := hv.below hR2
                  clear hb2 hx1 hR1
                  go_wp2_with ((with_reducible refine wpList_at ?_); refine wpList_loadV (by rfl) (.tmp 7) (by rfl) _ cs (by rfl) hx2 h7 ?_)
                  refine (HV.out _ hR2).mono ?_
                  rintro e W3 ⟨rfl, hb3⟩
                  have hR3 := below_then hR2 hb3
                  have hx3 := hv.below hR3
                  clear hb3 hx2 hR2
                  go_wp2_with ((with_reducible refine wpList_at ?_); refine wpList_loadV (by rfl) (.tmp 7) (by rfl) _ cs (by rfl) hx3 h7 ?_)
                  refine (HE.out _ hR3).mono ?_
                  rintro e W4 ⟨⟨a9, c9, rfl⟩, hb4⟩
                  have hR4 := below_then hR3 hb4
                  have hx4 := hv.below hR4
                  clear hb4 hx3 hR3
                  go_wp2_with ((with_reducible refine wpList_at ?_); refine wpList_loadV (by rfl) (.tmp 7) (by rfl) _ cs (by rfl) hx4 h7 ?_)
                  refine (HL.out _ hR4).mono ?_
                  rintro e W5 ⟨⟨a10, c10, rfl⟩, hb5⟩
                  have hR5 := below_then hR4 hb5
                  have hx5 := hv.below hR5
                  clear hb5 hx4 hR4
                  go_wp2_with fail
                  refine (HAW.out _).mono ?_
                  rintro e We ⟨rfl, hbe⟩
                  have hRe := below_then hR5 hbe
                  go_wp2
                  go_ret
                  exact ⟨rfl, hB.trans (hRe.mono hz)⟩
                · obtain rfl : fb = false := by rw [← hfb.out]; simp [hc]
                  have hcI : ¬ (n1 : Int) ≤ (m : Int) := by omega
                  have hcD : decide (n1 ≤ m) = false := decide_eq_false hc
                  have hcJ : m < n1 := by omega
                  clear hc hfb
                  have hR0 := Below.refl wr.heap.size wr
                  have hx0 := hv
                  go_wp2_with ((with_reducible refine wpList_at ?_); refine wpList_loadV (by rfl) (.tmp 7) (by rfl) _ cs (by rfl) hx0 h7 ?_)
                  refine (HS.out _ hR0).mono ?_
                  rintro e W1 ⟨rfl, hb1⟩
                  have hR1 := below_then hR0 hb1
                  have hx1 := hv.below hR1
                  clear hb1 hx0 hR0
                  go_wp2_with ((with_reducible refine wpList_at ?_); refine wpList_loadV (by rfl) (.tmp 7) (by rfl) _ cs (by rfl) hx1 h7 ?_)
                  refine (HK.out _ hR1).mono ?_
                  rintro e W2 ⟨rfl, hb2⟩
                  have hR2 := below_then hR1 hb2
                  have hx2 := hv.below hR2
                  clear hb2 hx1 hR1
                  go_wp2_with ((with_reducible refine wpList_at ?_); refine wpList_loadV (by rfl) (.tmp 7) (by rfl) _ cs (by rfl) hx2 h7 ?_)
                  refine (HV.out _ hR2).mono ?_
                  rintro e W3 ⟨rfl, hb3⟩
                  have hR3 := below_then hR2 hb3
                  have hx3 := hv.below hR3
                  clear hb3 hx2 hR2
                  go_wp2_with ((with_reducible refine wpList_at ?_); refine wpList_loadV (by rfl) (.tmp 7) (by rfl) _ cs (by rfl) hx3 h7 ?_)
                  refine (HE.out _ hR3).mono ?_
                  rintro e W4 ⟨⟨a9, c9, rfl⟩, hb4⟩
                  have hR4 := below_then hR3 hb4
                  have hx4 := hv.below hR4
                  clear hb4 hx3 hR3
                  go_wp2_with ((with_reducible refine wpList_at ?_); refine wpList_loadV (by rfl) (.tmp 7) (by rfl) _ cs (by rfl) hx4 h7 ?_)
                  refine (HL.out _ hR4).mono ?_
                  rintro e W5 ⟨⟨a10, c10, rfl⟩, hb5⟩
                  have hR5 := below_then hR4 hb5
                  have hx5 := hv.below hR5
                  clear hb5 hx4 hR4
                  go_wp2_with fail
                  refine (HAW.out _).mono ?_
                  rintro e We ⟨rfl, hbe⟩
                  have hRe := below_then hR5 hbe
                  go_wp2
                  go_ret
                  exact ⟨rfl, hB.trans (hRe.mono hz)⟩

end Go.Proofs.Ythdnldbkpllciaa
