/-
  The walk of WhenSteps.
-/
import Derived.Test.YtidhcnecmelkbabWhLaw
import Derived.Test.YtidhcnecmelkbabYieldV
namespace Go.Proofs.Ytidhcnecmelkbab
open Go.RowKit

theorem clamp_in (n : Nat) (k : Int) (h1 : 1 ≤ k) (h2 : k ≤ n) : clampM n k = k := by
  unfold clampM
  rw [if_neg (by omega), if_neg (by omega)]
theorem step_val (S : SpecM) (n : Nat) (hn : S.parties.length = n) (i : Nat) (hi : i < n) : (tableL S).getD i 0 = S.start + ((n : Int) + (i : Int)) * S.delta := by
  rw [tableL_get S i (by omega)]
  unfold deadM
  rw [hn, clamp_in n _ (by omega) (by omega)]
  congr 2
  omega
theorem dead_val (S : SpecM) (n : Nat) (hn : S.parties.length = n) (k : Int) (i : Nat) (hi : i < n) (hk : clampM n k = (i : Int) + 1) : deadM S k = (tableL S).getD i 0 := by
  rw [step_val S n hn i hi]
  unfold deadM
  rw [hn, hk]
  congr 2
  omega

set_option maxRecDepth 10000 in
set_option maxHeartbeats 4000000 in
theorem steps_any (a0 a1 a2 : Int) (_h0 : (Lit.int .i64 a0).wf = true) (_h1 : (Lit.int .i64 a1).wf = true) (_h2 : (Lit.int .i64 a2).wf = true) (w : World) : Calls Try.prog 7 #[.int .i64 a0, .int .i64 a1, .int .i64 a2] w fun e w' => e = .returned (.bool true) ∧ Below w.heap.size w w' := by
  obtain ⟨j, hj, HP0⟩ := place_ex a0 5 (by omega) (by omega)
  obtain ⟨st, hst, HP1⟩ := place_ex a1 1099511627777 (by omega) (by omega)
  obtain ⟨de, hde, HP2⟩ := place_ex a2 1048576 (by omega) (by omega)
  obtain ⟨S, hS, hok⟩ : ∃ S, S = ringM (2 + j) (st : Int) (1 + (de : Int)) ∧ specOk S := ⟨_, rfl, ring_ok (2 + j) (by omega) (by omega) _ _ (by omega) (by omega) (by omega) (by omega)⟩
  have HR : ∀ W, Calls Try.prog 10 #[.int .i64 (2 + (j : Int)), .int .i64 (st : Int), .int .i64 (1 + (de : Int))] W fun e w' => ∃ v, e = .returned v ∧ OwnSpec w' W.heap.size v S ∧ Below W.heap.size W w' := fun W => by
    rw [hS]; have := ring_any (2 + j) (by omega) (by omega) (st : Int) (1 + (de : Int)) W; push_cast at this; exact this
  have hsane := SaneS.of_ok hok
  have T := Timely.of_ok hok
  have hnS : S.parties.length = 2 + j := by rw [hS, ring_np]
  have hsS : S.start = (st : Int) := by rw [hS]; rfl
  have hdS : S.delta = 1 + (de : Int) := by rw [hS]; rfl
  obtain ⟨m, hm⟩ : ∃ m : Nat, m = 1 + j := ⟨_, rfl⟩
  obtain ⟨n, hn⟩ : ∃ n : Nat, n = 2 + j := ⟨_, rfl⟩
  obtain ⟨d, hd⟩ : ∃ d : Int, 1 + (de : Int) = d := ⟨_, rfl⟩
  have hN : 2 + (j : Int) = (n : Int) := by omega
  rw [hN, hd] at HR
  rw [← hn] at hnS
  rw [hd] at hdS
  have hmn : (n : Int) - 1 = (m : Int) := by omega
  have hval := fun i hi => step_val S n hnS i hi
  rw [hsS, hdS] at hval
  obtain ⟨p, hp⟩ : ∃ p, (n : Int) * d = p := ⟨_, rfl⟩
  have hpr := T.prod (n : Int) (by omega) (by omega)
  rw [hdS, hp] at hpr
  have hT0 : (tableL S).getD 0 0 = (st : Int) + p := by rw [hval 0 (by omega), ← hp]; simp
  have hTs : ∀ c, c + 1 < n → (tableL S).getD (c + 1) 0 = (tableL S).getD c 0 + d := fun c hc => by
    rw [hval (c + 1) hc, hval c (by omega)]
    have : ((n : Int) + ((c + 1 : Nat) : Int)) * d = ((n : Int) + (c : Int)) * d + d := by push_cast; rw [← Int.add_assoc, Int.add_mul ((n : Int) + (c : Int)) 1 d, Int.one_mul]
    omega
  have hTb : ∀ c, c < n → 0 ≤ (tableL S).getD c 0 ∧ (tableL S).getD c 0 ≤ 1099524210688 := fun c hc => by rw [tableL_get S c (by omega)]; exact dead_range T _
  have hTE : endM S = (tableL S).getD m 0 + d := by
    rw [hval m (by omega)]
    unfold endM
    rw [hnS, hsS, hdS]
    have : 2 * (n : Int) * d = ((n : Int) + (m : Int)) * d + d := by rw [← Int.one_mul d, ← hmn]; simp only [Int.one_mul]; rw [show 2 * (n : Int) = ((n : Int) + ((n : Int) - 1)) + 1 by omega, Int.add_mul, Int.one_mul]
    omega
  have HTab : Hid (∀ W v, SpecW W v S → Calls Try.prog 28 #[v] W fun e w' => ∃ a c, e = .returned (.slice a n c) ∧ Ints w' a n (tableL S) ∧ Below W.heap.size W w') := fun W v hv => by
    have := when_table hv (tableL S) (fun _ => rfl) (fun h => absurd hok h)
    rw [tableL_len, hnS] at this; exact this
  have HEnd : Hid (∀ W v, SpecW W v S → Calls Try.prog 25 #[v] W fun e w' => e = .returned (.int .i64 ((tableL S).getD m 0 + d)) ∧ Below W.heap.size W w') := fun W v hv => when_end hv (by omega) _ (fun _ => hTE.symm) (fun h => absurd hok h)
  have HDead : Hid (∀ W v, SpecW W v S → ∀ (k : Int) (i : Nat), i < n → clampM n k = (i : Int) + 1 → Calls Try.prog 21 #[v, .int .i64 k] W fun e w' => e = .returned (.int .i64 ((tableL S).getD i 0)) ∧ Below W.heap.size W w') := fun W v hv k i hi hk => when_dead hv k _ (fun _ => (dead_val S n hnS k i hi hk).symm) (fun h => absurd hok h)
  have HLast : Hid (∀ W v, SpecW W v S → Calls Try.prog 23 #[v] W fun e w' => e = .returned (.int .i64 ((tableL S).getD m 0)) ∧ Below W.heap.size W w') := fun W v hv => when_last hv _ (fun _ => by rw [hnS, dead_val S n hnS n m (by omega) (by rw [clamp_in n _ (by omega) (by omega)]; omega)]) (fun h => absurd hok h)
  generalize tableL S = L at hT0 hTs hTb HTab HEnd HDead HLast
  obtain ⟨t0, ht0⟩ : ∃ t, L.getD 0 0 = t := ⟨_, rfl⟩
  obtain ⟨tl, htl⟩ : ∃ t, L.getD m 0 = t := ⟨_, rfl⟩
  rw [htl] at HEnd HLast
  rw [ht0] at hT0
  have hb0 := hTb 0 (by omega)
  have hbl := hTb m (by omega)
  rw [ht0] at hb0
  rw [htl] at hbl
  obtain ⟨te, hte⟩ : ∃ t, tl + d = t := ⟨_, rfl⟩
  rw [hte] at HEnd
  have hn2 : 2 ≤ n := by omega
  have hn6 : n ≤ 6 := by omega
  have hmn' : m + 1 = n := by omega
  have hd0 : 1 ≤ d ∧ d ≤ 1048576 := by omega
  clear hS hnS hsS hdS hval T hTE hj hm hn
  replace HR := hide HR
  replace HP1 := hide HP1
  replace HP2 := hide HP2
  replace hTs := hide hTs
  replace hTb := hide hTb
  replace hok := hide hok
  obtain ⟨g0, hg0⟩ : ∃ g, w.heap.size = g := ⟨_, rfl⟩
  go_enter Try.func7, Try.ntmps7
  go_wp2_with fail
  refine (HP0 _).mono ?_
  rintro e w0 ⟨rfl, hw0⟩
  subst w0
  go_wp2_with fail
  refine (HP1.out _).mono ?_
  rintro e w0 ⟨rfl, hw0⟩
  subst w0
  go_wp2_with fail
  refine (HP2.out _).mono ?_
  rintro e w0 ⟨rfl, hw0⟩
  subst w0
  go_wp2_with fail
  refine (HR.out _).mono ?_
  rintro e w1 ⟨v, rfl, hO1, hb1⟩
  have hW1 := hO1.wide hsane
  obtain ⟨cs, rfl, h7⟩ := hW1.seven
  clear hO1 HR HP0 HP1 HP2 hsane
  go_wp2_with (first
    | ((with_reducible refine wpList_at ?_); refine wpList_varS (by rfl) (by rfl) (by rfl) (.tmp 10) (.tmp 24) (by rfl) cs (by rfl) (by rfl) h7 ?_; intro w2 hv2 hz2 hb2)
    | ((with_reducible refine wpList_at ?_); refine wpList_loadV (by rfl) (.tmp 10) (by rfl) _ cs (by rfl) hv2 h7 ?_))
  have hW2 := hW1.below hb2
  have hB2 := below_then hb1 hb2
  generalize w1.heap.size = g1 at hv2 hz2 ⊢
  refine (HTab.out _ _ hW2).mono ?_
  rintro e w4 ⟨ta, tc, rfl, hI4, hb4⟩
  have hB4 := below_then hB2 hb4
  have hW4 := hW2.below hb4
  have hx4 := hv2.below hb4
  obtain ⟨b, o, hta, i0⟩ := hI4.2.2.2 0 (by omega)
  subst hta
  have HI : Hid (∀ i, i < n → w4.cell? ⟨b, o + i, none⟩ = some (.int .i64 (L.getD i 0))) := fun i hi => by
    obtain ⟨b', o', hbo, h9⟩ := hI4.2.2.2 i hi
    injection hbo with hbo
    injection hbo with hbo1 hbo2
    subst hbo1 hbo2
    exact h9
  have c0 : w4.cell? ⟨b, o, none⟩ = some (.int .i64 t0) := by have := HI.out 0 (by omega); rw [ht0] at this; exact this
  have cm : w4.cell? ⟨b, o + m, none⟩ = some (.int .i64 tl) := by have := HI.out m (by omega); rw [htl] at this; exact this
  clear hI4 i0 hW2 hv2 hz2 hb1 hb2 hB2 HTab hW1 hb4
  have HQ1 : Hid (∀ W, Below w4.heap.size w4 W → Calls Try.prog 23 #[.agg cs] W fun e w' => e = .returned (.int .i64 tl) ∧ Below W.heap.size W w') := fun W hW => HLast.out W _ (hW4.below hW)
  have HQ2 : Hid (∀ W, Below w4.heap.size w4 W → Calls Try.prog 25 #[.agg cs] W fun e w' => e = .returned (.int .i64 te) ∧ Below W.heap.size W w') := fun W hW => HEnd.out W _ (hW4.below hW)
  have hq1 : IntKind.i64.wrap ((n : Int) * d) = p := by rw [hp]; exact wrap_i64 (by omega) (by omega)
  have hq2 : IntKind.i64.wrap ((st : Int) + p) = t0 := by rw [wrap_i64 (by omega) (by omega)]; exact hT0.symm
  have hq3 : IntKind.i64.wrap ((n : Int) - 1) = (m : Int) := by rw [hmn]; exact wrap_i64 (by omega) (by omega)
  have hq4 : IntKind.i64.wrap (tl + d) = te := by rw [hte]; exact wrap_i64 (by omega) (by omega)
  have k1 : (m : Int) < (n : Int) := by omega
  have k2 : (0 : Int) < (n : Int) := by omega
  have k3 : ¬ (m : Int) < 0 := by omega
  have k4 : 0 < n := by omega
  have k5 : m < n := by omega
  have hNN := hide hN
  have hp' := hide hp
  have hT0' := hide hT0
  have hte' := hide hte
  have hmn9 := hide hmn
  have HEE := HEnd
  clear HLast HEnd HEE hN hp hT0 hte hmn
  go_upto_region 5 with fail
  have hRw : Below w4.heap.size w4 w4.drew := ⟨rfl, rfl, rfl, Nat.le_refl _, fun _ _ => rfl⟩
  refine wp_region_held_drew (S := fun W => Below w4.heap.size w4 W) (by kernel_rfl) hRw (fun hHeld => ?_)
  refine wpAnyH_take (i := 0) (oi := { dst := some 27, op := Op.move (Operand.tmp 11), type := 25, pos := "law.go:33", after := #[], guard := none }) (v := ?_) rfl (by kernel_rfl) (by kernel_rfl) (by kernel_rfl) (fun _ _ _ h => h) (Or.inl ⟨by rfl, ?_⟩) (by assumption) ?_
  rotate_left
  · intro W hSW; first | (go_simp; done) | (go_simp; with_reducible rfl)
  try simp only [Act.put, List.setIfInBounds_toArray, List.set_cons_zero, List.set_cons_succ]
  refine wpAnyH_take (i := 1) (oi := { dst := some 28, op := Op.call { callee := Callee.builtin Builtin.len, args := #[Operand.tmp 27], argTypes := #[25] }, type := 3, pos := "law.go:33", after := #[{ on := 0, ground := Ground.data }], guard := none }) (v := ?_) rfl (by kernel_rfl) (by kernel_rfl) (by kernel_rfl) (fun _ _ _ h => h) (Or.inl ⟨by rfl, ?_⟩) (by assumption) ?_
  rotate_left
  · intro W hSW; first | (go_simp; done) | (go_simp; with_reducible rfl)
  try simp only [Act.put, List.setIfInBounds_toArray, List.set_cons_zero, List.set_cons_succ]
  refine wpAnyH_take (i := 2) (oi := { dst := some 29, op := Op.move (Operand.tmp 7), type := 3, pos := "law.go:33", after := #[], guard := none }) (v := ?_) rfl (by kernel_rfl) (by kernel_rfl) (by kernel_rfl) (fun _ _ _ h => h) (Or.inl ⟨by rfl, ?_⟩) (by assumption) ?_
  rotate_left
  · intro W hSW; first | (go_simp; done) | (go_simp; with_reducible rfl)
  try simp only [Act.put, List.setIfInBounds_toArray, List.set_cons_zero, List.set_cons_succ]
  refine wpAnyH_take (i := 3) (oi := { dst := some 30, op := Op.binOp BinOp.neq 3 (Operand.tmp 28) (Operand.tmp 29) 3, type := 4, pos := "law.go:33", after := #[{ on := 1, ground := Ground.data }, { on := 2, ground := Ground.data }], guard := none }) (v := ?_) rfl (by kernel_rfl) (by kernel_rfl) (by kernel_rfl) (fun _ _ _ h => h) (Or.inl ⟨by rfl, ?_⟩) (by assumption) ?_
  rotate_left
  · intro W hSW; first | (go_simp; done) | (go_simp; with_reducible rfl)
  try simp only [Act.put, List.setIfInBounds_toArray, List.set_cons_zero, List.set_cons_succ]
  refine wpAnyH_take (i := 4) (oi := { dst := some 31, op := Op.move (Operand.tmp 30), type := 4, pos := "law.go:33", after := #[{ on := 3, ground := Ground.data }], guard := none }) (v := ?_) rfl (by kernel_rfl) (by kernel_rfl) (by kernel_rfl) (fun _ _ _ h => h) (Or.inl ⟨by rfl, ?_⟩) (by assumption) ?_
  rotate_left
  · intro W hSW; first | (go_simp; done) | (go_simp; with_reducible rfl)
  try simp only [Act.put, List.setIfInBounds_toArray, List.set_cons_zero, List.set_cons_succ]
  refine wpAnyH_take (i := 5) (oi := { dst := some 32, op := Op.move (Operand.tmp 11), type := 25, pos := "law.go:33", after := #[{ on := 4, ground := Ground.guard }], guard := some (4, false) }) (v := ?_) rfl (by kernel_rfl) (by kernel_rfl) (by kernel_rfl) (fun _ _ _ h => h) (Or.inl ⟨by rfl, ?_⟩) (by assumption) ?_
  rotate_left
  · intro W hSW; first | (go_simp; done) | (go_simp; with_reducible rfl)
  try simp only [Act.put, List.setIfInBounds_toArray, List.set_cons_zero, List.set_cons_succ]
  refine wpAnyH_take (i := 6) (oi := { dst := some 33, op := Op.indexAddr 25 (Operand.tmp 32) (Operand.const (Value.int IntKind.i64 0)), type := 0, pos := "law.go:33", after := #[{ on := 5, ground := Ground.data }, { on := 4, ground := Ground.guard }], guard := some (4, false) }) (v := ?_) rfl (by kernel_rfl) (by kernel_rfl) (by kernel_rfl) (fun _ _ _ h => h) (Or.inl ⟨by rfl, ?_⟩) (by assumption) ?_
  rotate_left
  · intro W hSW; first | (go_simp; done) | (go_simp; with_reducible rfl)
  try simp only [Act.put, List.setIfInBounds_toArray, List.set_cons_zero, List.set_cons_succ]
  refine wpAnyH_take (i := 7) (oi := { dst := some 34, op := Op.load 3 (Operand.tmp 33), type := 3, pos := "law.go:33", after := #[{ on := 6, ground := Ground.data }, { on := 4, ground := Ground.guard }], guard := some (4, false) }) (v := ?_) rfl (by kernel_rfl) (by kernel_rfl) (by kernel_rfl) (fun _ _ _ h => h) (Or.inl ⟨by rfl, ?_⟩) (by assumption) ?_
  rotate_left
  · intro W hSW; have z0 := cell_on hSW c0; have z1 := cell_on hSW cm; first | (go_simp; done) | (go_simp; with_reducible rfl)
  try simp only [Act.put, List.setIfInBounds_toArray, List.set_cons_zero, List.set_cons_succ]
  refine wpAnyH_take (i := 8) (oi := { dst := some 35, op := Op.move (Operand.tmp 8), type := 3, pos := "law.go:33", after := #[{ on := 4, ground := Ground.guard }], guard := some (4, false) }) (v := ?_) rfl (by kernel_rfl) (by kernel_rfl) (by kernel_rfl) (fun _ _ _ h => h) (Or.inl ⟨by rfl, ?_⟩) (by assumption) ?_
  rotate_left
  · intro W hSW; first | (go_simp; done) | (go_simp; with_reducible rfl)
  try simp only [Act.put, List.setIfInBounds_toArray, List.set_cons_zero, List.set_cons_succ]
  refine wpAnyH_take (i := 9) (oi := { dst := some 36, op := Op.move (Operand.tmp 7), type := 3, pos := "law.go:33", after := #[{ on := 4, ground := Ground.guard }], guard := some (4, false) }) (v := ?_) rfl (by kernel_rfl) (by kernel_rfl) (by kernel_rfl) (fun _ _ _ h => h) (Or.inl ⟨by rfl, ?_⟩) (by assumption) ?_
  rotate_left
  · intro W hSW; first | (go_simp; done) | (go_simp; with_reducible rfl)
  try simp only [Act.put, List.setIfInBounds_toArray, List.set_cons_zero, List.set_cons_succ]
  refine wpAnyH_take (i := 10) (oi := { dst := some 37, op := Op.move (Operand.tmp 9), type := 3, pos := "law.go:33", after := #[{ on := 4, ground := Ground.guard }], guard := some (4, false) }) (v := ?_) rfl (by kernel_rfl) (by kernel_rfl) (by kernel_rfl) (fun _ _ _ h => h) (Or.inl ⟨by rfl, ?_⟩) (by assumption) ?_
  rotate_left
  · intro W hSW; first | (go_simp; done) | (go_simp; with_reducible rfl)
  try simp only [Act.put, List.setIfInBounds_toArray, List.set_cons_zero, List.set_cons_succ]
  refine wpAnyH_take (i := 11) (oi := { dst := some 38, op := Op.binOp BinOp.mul 3 (Operand.tmp 36) (Operand.tmp 37) 3, type := 3, pos := "law.go:33", after := #[{ on := 9, ground := Ground.data }, { on := 10, ground := Ground.data }, { on := 4, ground := Ground.guard }], guard := some (4, false) }) (v := ?_) rfl (by kernel_rfl) (by kernel_rfl) (by kernel_rfl) (fun _ _ _ h => h) (Or.inl ⟨by rfl, ?_⟩) (by assumption) ?_
  rotate_left
  · intro W hSW; first | (go_simp; done) | (go_simp; with_reducible rfl)
  try simp only [Act.put, List.setIfInBounds_toArray, List.set_cons_zero, List.set_cons_succ]
  refine wpAnyH_take (i := 12) (oi := { dst := some 39, op := Op.binOp BinOp.add 3 (Operand.tmp 35) (Operand.tmp 38) 3, type := 3, pos := "law.go:33", after := #[{ on := 8, ground := Ground.data }, { on := 11, ground := Ground.data }, { on := 4, ground := Ground.guard }], guard := some (4, false) }) (v := ?_) rfl (by kernel_rfl) (by kernel_rfl) (by kernel_rfl) (fun _ _ _ h => h) (Or.inl ⟨by rfl, ?_⟩) (by assumption) ?_
  rotate_left
  · intro W hSW; first | (go_simp; done) | (go_simp; with_reducible rfl)
  try simp only [Act.put, List.setIfInBounds_toArray, List.set_cons_zero, List.set_cons_succ]
  refine wpAnyH_take (i := 13) (oi := { dst := some 40, op := Op.binOp BinOp.neq 3 (Operand.tmp 34) (Operand.tmp 39) 3, type := 4, pos := "law.go:33", after := #[{ on := 7, ground := Ground.data }, { on := 12, ground := Ground.data }, { on := 4, ground := Ground.guard }], guard := some (4, false) }) (v := ?_) rfl (by kernel_rfl) (by kernel_rfl) (by kernel_rfl) (fun _ _ _ h => h) (Or.inl ⟨by rfl, ?_⟩) (by assumption) ?_
  rotate_left
  · intro W hSW; first | (go_simp; done) | (go_simp; with_reducible rfl)
  try simp only [Act.put, List.setIfInBounds_toArray, List.set_cons_zero, List.set_cons_succ]
  refine wpAnyH_take (i := 14) (oi := { dst := some 41, op := Op.pick (Operand.tmp 31) (Operand.const (Value.bool true)) (Operand.tmp 40), type := 4, pos := "law.go:33", after := #[{ on := 4, ground := Ground.data }, { on := 13, ground := Ground.data }], guard := none }) (v := ?_) rfl (by kernel_rfl) (by kernel_rfl) (by kernel_rfl) (fun _ _ _ h => h) (Or.inl ⟨by rfl, ?_⟩) (by assumption) ?_
  rotate_left
  · intro W hSW; first | (go_simp; done) | (go_simp; with_reducible rfl)
  try simp only [Act.put, List.setIfInBounds_toArray, List.set_cons_zero, List.set_cons_succ]
  refine wpAnyH_take (i := 15) (oi := { dst := some 42, op := Op.move (Operand.tmp 41), type := 4, pos := "law.go:33", after := #[{ on := 14, ground := Ground.data }, { on := 4, ground := Ground.chain }], guard := none }) (v := ?_) rfl (by kernel_rfl) (by kernel_rfl) (by kernel_rfl) (fun _ _ _ h => h) (Or.inl ⟨by rfl, ?_⟩) (by assumption) ?_
  rotate_left
  · intro W hSW; first | (go_simp; done) | (go_simp; with_reducible rfl)
  try simp only [Act.put, List.setIfInBounds_toArray, List.set_cons_zero, List.set_cons_succ]
  refine wpAnyH_take (i := 16) (oi := { dst := some 43, op := Op.load 28 (Operand.tmp 10), type := 28, pos := "law.go:33", after := #[{ on := 15, ground := Ground.guard }], guard := some (15, false) }) (v := .agg cs) rfl (by kernel_rfl) (by kernel_rfl) (by kernel_rfl) (fun _ _ _ h => h) (yields_loadV (by rfl) (.tmp 10) (by rfl) _ cs (by rfl) h7 (fun W hW => hx4.below hW)) (by assumption) ?_
  try simp only [Act.put, List.setIfInBounds_toArray, List.set_cons_zero, List.set_cons_succ]
  refine wpAnyH_take (i := 18) (oi := { dst := some 45, op := Op.move (Operand.tmp 11), type := 25, pos := "law.go:33", after := #[{ on := 15, ground := Ground.guard }], guard := some (15, false) }) (v := ?_) rfl (by kernel_rfl) (by kernel_rfl) (by kernel_rfl) (fun _ _ _ h => h) (Or.inl ⟨by rfl, ?_⟩) (by assumption) ?_
  rotate_left
  · intro W hSW; first | (go_simp; done) | (go_simp; with_reducible rfl)
  try simp only [Act.put, List.setIfInBounds_toArray, List.set_cons_zero, List.set_cons_succ]
  refine wpAnyH_take (i := 19) (oi := { dst := some 46, op := Op.move (Operand.tmp 7), type := 3, pos := "law.go:33", after := #[{ on := 15, ground := Ground.guard }], guard := some (15, false) }) (v := ?_) rfl (by kernel_rfl) (by kernel_rfl) (by kernel_rfl) (fun _ _ _ h => h) (Or.inl ⟨by rfl, ?_⟩) (by assumption) ?_
  rotate_left
  · intro W hSW; first | (go_simp; done) | (go_simp; with_reducible rfl)
  try simp only [Act.put, List.setIfInBounds_toArray, List.set_cons_zero, List.set_cons_succ]
  refine wpAnyH_take (i := 20) (oi := { dst := some 47, op := Op.binOp BinOp.sub 3 (Operand.tmp 46) (Operand.const (Value.int IntKind.i64 1)) 3, type := 3, pos := "law.go:33", after := #[{ on := 19, ground := Ground.data }, { on := 15, ground := Ground.guard }], guard := some (15, false) }) (v := ?_) rfl (by kernel_rfl) (by kernel_rfl) (by kernel_rfl) (fun _ _ _ h => h) (Or.inl ⟨by rfl, ?_⟩) (by assumption) ?_
  rotate_left
  · intro W hSW; first | (go_simp; done) | (go_simp; with_reducible rfl)
  try simp only [Act.put, List.setIfInBounds_toArray, List.set_cons_zero, List.set_cons_succ]
  refine wpAnyH_take (i := 21) (oi := { dst := some 48, op := Op.indexAddr 25 (Operand.tmp 45) (Operand.tmp 47), type := 0, pos := "law.go:33", after := #[{ on := 18, ground := Ground.data }, { on := 20, ground := Ground.data }, { on := 15, ground := Ground.guard }], guard := some (15, false) }) (v := ?_) rfl (by kernel_rfl) (by kernel_rfl) (by kernel_rfl) (fun _ _ _ h => h) (Or.inl ⟨by rfl, ?_⟩) (by assumption) ?_
  rotate_left
  · intro W hSW; first | (go_simp; done) | (go_simp; with_reducible rfl)
  try simp only [Act.put, List.setIfInBounds_toArray, List.set_cons_zero, List.set_cons_succ]
  refine wpAnyH_take (i := 22) (oi := { dst := some 49, op := Op.load 3 (Operand.tmp 48), type := 3, pos := "law.go:33", after := #[{ on := 21, ground := Ground.data }, { on := 15, ground := Ground.guard }], guard := some (15, false) }) (v := ?_) rfl (by kernel_rfl) (by kernel_rfl) (by kernel_rfl) (fun _ _ _ h => h) (Or.inl ⟨by rfl, ?_⟩) (by assumption) ?_
  rotate_left
  · intro W hSW; have z0 := cell_on hSW c0; have z1 := cell_on hSW cm; first | (go_simp; done) | (go_simp; with_reducible rfl)
  try simp only [Act.put, List.setIfInBounds_toArray, List.set_cons_zero, List.set_cons_succ]
  refine wpAnyH_lone (R := fun W => Below w4.heap.size w4 W) (i := 17) (oi := { dst := some 44, op := Op.call { callee := Callee.value (Operand.func 23), args := #[Operand.tmp 43], argTypes := #[28] }, type := 3, pos := "law.go:33", after := #[{ on := 16, ground := Ground.data }, { on := 15, ground := Ground.chain }, { on := 15, ground := Ground.guard }], guard := some (15, false) }) (vi := .int .i64 tl) (by kernel_rfl) rfl hRw (fun _ h => h) ?_ ?_
  · intro W hW K hK
    go_simp
    refine (HQ1.out W hW).mono ?_
    rintro e W2 ⟨rfl, hb⟩
    go_wp2_with fail
    exact hK.out _ (below_then hW hb)
  clear hRw hHeld
  intro W9 hRw hHeld
  try simp only [Act.put, List.setIfInBounds_toArray, List.set_cons_zero, List.set_cons_succ]
  refine wpAnyH_take (i := 23) (oi := { dst := some 50, op := Op.binOp BinOp.neq 3 (Operand.tmp 44) (Operand.tmp 49) 3, type := 4, pos := "law.go:33", after := #[{ on := 17, ground := Ground.data }, { on := 22, ground := Ground.data }, { on := 15, ground := Ground.guard }], guard := some (15, false) }) (v := ?_) rfl (by kernel_rfl) (by kernel_rfl) (by kernel_rfl) (fun _ _ _ h => h) (Or.inl ⟨by rfl, ?_⟩) (by assumption) ?_
  rotate_left
  · intro W hSW; first | (go_simp; done) | (go_simp; with_reducible rfl)
  try simp only [Act.put, List.setIfInBounds_toArray, List.set_cons_zero, List.set_cons_succ]
  refine wpAnyH_take (i := 24) (oi := { dst := some 51, op := Op.pick (Operand.tmp 42) (Operand.const (Value.bool true)) (Operand.tmp 50), type := 4, pos := "law.go:33", after := #[{ on := 15, ground := Ground.data }, { on := 23, ground := Ground.data }], guard := none }) (v := ?_) rfl (by kernel_rfl) (by kernel_rfl) (by kernel_rfl) (fun _ _ _ h => h) (Or.inl ⟨by rfl, ?_⟩) (by assumption) ?_
  rotate_left
  · intro W hSW; first | (go_simp; done) | (go_simp; with_reducible rfl)
  try simp only [Act.put, List.setIfInBounds_toArray, List.set_cons_zero, List.set_cons_succ]
  refine wpAnyH_take (i := 25) (oi := { dst := some 52, op := Op.move (Operand.tmp 51), type := 4, pos := "law.go:33", after := #[{ on := 24, ground := Ground.data }, { on := 17, ground := Ground.chain }], guard := none }) (v := ?_) rfl (by kernel_rfl) (by kernel_rfl) (by kernel_rfl) (fun _ _ _ h => h) (Or.inl ⟨by rfl, ?_⟩) (by assumption) ?_
  rotate_left
  · intro W hSW; first | (go_simp; done) | (go_simp; with_reducible rfl)
  try simp only [Act.put, List.setIfInBounds_toArray, List.set_cons_zero, List.set_cons_succ]
  refine wpAnyH_take (i := 26) (oi := { dst := some 53, op := Op.load 28 (Operand.tmp 10), type := 28, pos := "law.go:33", after := #[{ on := 25, ground := Ground.guard }], guard := some (25, false) }) (v := .agg cs) rfl (by kernel_rfl) (by kernel_rfl) (by kernel_rfl) (fun _ _ _ h => h) (yields_loadV (by rfl) (.tmp 10) (by rfl) _ cs (by rfl) h7 (fun W hW => hx4.below hW)) (by assumption) ?_
  try simp only [Act.put, List.setIfInBounds_toArray, List.set_cons_zero, List.set_cons_succ]
  refine wpAnyH_take (i := 28) (oi := { dst := some 55, op := Op.move (Operand.tmp 11), type := 25, pos := "law.go:33", after := #[{ on := 25, ground := Ground.guard }], guard := some (25, false) }) (v := ?_) rfl (by kernel_rfl) (by kernel_rfl) (by kernel_rfl) (fun _ _ _ h => h) (Or.inl ⟨by rfl, ?_⟩) (by assumption) ?_
  rotate_left
  · intro W hSW; first | (go_simp; done) | (go_simp; with_reducible rfl)
  try simp only [Act.put, List.setIfInBounds_toArray, List.set_cons_zero, List.set_cons_succ]
  refine wpAnyH_take (i := 29) (oi := { dst := some 56, op := Op.move (Operand.tmp 7), type := 3, pos := "law.go:33", after := #[{ on := 25, ground := Ground.guard }], guard := some (25, false) }) (v := ?_) rfl (by kernel_rfl) (by kernel_rfl) (by kernel_rfl) (fun _ _ _ h => h) (Or.inl ⟨by rfl, ?_⟩) (by assumption) ?_
  rotate_left
  · intro W hSW; first | (go_simp; done) | (go_simp; with_reducible rfl)
  try simp only [Act.put, List.setIfInBounds_toArray, List.set_cons_zero, List.set_cons_succ]
  refine wpAnyH_take (i := 30) (oi := { dst := some 57, op := Op.binOp BinOp.sub 3 (Operand.tmp 56) (Operand.const (Value.int IntKind.i64 1)) 3, type := 3, pos := "law.go:33", after := #[{ on := 29, ground := Ground.data }, { on := 25, ground := Ground.guard }], guard := some (25, false) }) (v := ?_) rfl (by kernel_rfl) (by kernel_rfl) (by kernel_rfl) (fun _ _ _ h => h) (Or.inl ⟨by rfl, ?_⟩) (by assumption) ?_
  rotate_left
  · intro W hSW; first | (go_simp; done) | (go_simp; with_reducible rfl)
  try simp only [Act.put, List.setIfInBounds_toArray, List.set_cons_zero, List.set_cons_succ]
  refine wpAnyH_take (i := 31) (oi := { dst := some 58, op := Op.indexAddr 25 (Operand.tmp 55) (Operand.tmp 57), type := 0, pos := "law.go:33", after := #[{ on := 28, ground := Ground.data }, { on := 30, ground := Ground.data }, { on := 25, ground := Ground.guard }], guard := some (25, false) }) (v := ?_) rfl (by kernel_rfl) (by kernel_rfl) (by kernel_rfl) (fun _ _ _ h => h) (Or.inl ⟨by rfl, ?_⟩) (by assumption) ?_
  rotate_left
  · intro W hSW; first | (go_simp; done) | (go_simp; with_reducible rfl)
  try simp only [Act.put, List.setIfInBounds_toArray, List.set_cons_zero, List.set_cons_succ]
  refine wpAnyH_take (i := 32) (oi := { dst := some 59, op := Op.load 3 (Operand.tmp 58), type := 3, pos := "law.go:33", after := #[{ on := 31, ground := Ground.data }, { on := 25, ground := Ground.guard }], guard := some (25, false) }) (v := ?_) rfl (by kernel_rfl) (by kernel_rfl) (by kernel_rfl) (fun _ _ _ h => h) (Or.inl ⟨by rfl, ?_⟩) (by assumption) ?_
  rotate_left
  · intro W hSW; have z0 := cell_on hSW c0; have z1 := cell_on hSW cm; first | (go_simp; done) | (go_simp; with_reducible rfl)
  try simp only [Act.put, List.setIfInBounds_toArray, List.set_cons_zero, List.set_cons_succ]
  refine wpAnyH_take (i := 33) (oi := { dst := some 60, op := Op.move (Operand.tmp 9), type := 3, pos := "law.go:33", after := #[{ on := 25, ground := Ground.guard }], guard := some (25, false) }) (v := ?_) rfl (by kernel_rfl) (by kernel_rfl) (by kernel_rfl) (fun _ _ _ h => h) (Or.inl ⟨by rfl, ?_⟩) (by assumption) ?_
  rotate_left
  · intro W hSW; first | (go_simp; done) | (go_simp; with_reducible rfl)
  try simp only [Act.put, List.setIfInBounds_toArray, List.set_cons_zero, List.set_cons_succ]
  refine wpAnyH_take (i := 34) (oi := { dst := some 61, op := Op.binOp BinOp.add 3 (Operand.tmp 59) (Operand.tmp 60) 3, type := 3, pos := "law.go:33", after := #[{ on := 32, ground := Ground.data }, { on := 33, ground := Ground.data }, { on := 25, ground := Ground.guard }], guard := some (25, false) }) (v := ?_) rfl (by kernel_rfl) (by kernel_rfl) (by kernel_rfl) (fun _ _ _ h => h) (Or.inl ⟨by rfl, ?_⟩) (by assumption) ?_
  rotate_left
  · intro W hSW; first | (go_simp; done) | (go_simp; with_reducible rfl)
  try simp only [Act.put, List.setIfInBounds_toArray, List.set_cons_zero, List.set_cons_succ]
  refine wpAnyH_lone (R := fun W => Below w4.heap.size w4 W) (i := 27) (oi := { dst := some 54, op := Op.call { callee := Callee.value (Operand.func 25), args := #[Operand.tmp 53], argTypes := #[28] }, type := 3, pos := "law.go:33", after := #[{ on := 26, ground := Ground.data }, { on := 25, ground := Ground.chain }, { on := 25, ground := Ground.guard }], guard := some (25, false) }) (vi := .int .i64 te) (by kernel_rfl) rfl hRw (fun _ h => h) ?_ ?_
  · intro W hW K hK
    go_simp
    refine (HQ2.out W hW).mono ?_
    rintro e W2 ⟨rfl, hb⟩
    go_wp2_with fail
    exact hK.out _ (below_then hW hb)
  clear hRw hHeld
  intro W9 hRw hHeld
  try simp only [Act.put, List.setIfInBounds_toArray, List.set_cons_zero, List.set_cons_succ]
  refine wpAnyH_take (i := 35) (oi := { dst := some 62, op := Op.binOp BinOp.neq 3 (Operand.tmp 54) (Operand.tmp 61) 3, type := 4, pos := "law.go:33", after := #[{ on := 27, ground := Ground.data }, { on := 34, ground := Ground.data }, { on := 25, ground := Ground.guard }], guard := some (25, false) }) (v := ?_) rfl (by kernel_rfl) (by kernel_rfl) (by kernel_rfl) (fun _ _ _ h => h) (Or.inl ⟨by rfl, ?_⟩) (by assumption) ?_
  rotate_left
  · intro W hSW; first | (go_simp; done) | (go_simp; with_reducible rfl)
  try simp only [Act.put, List.setIfInBounds_toArray, List.set_cons_zero, List.set_cons_succ]
  refine wpAnyH_take (i := 36) (oi := { dst := some 63, op := Op.pick (Operand.tmp 52) (Operand.const (Value.bool true)) (Operand.tmp 62), type := 4, pos := "law.go:33", after := #[{ on := 25, ground := Ground.data }, { on := 35, ground := Ground.data }], guard := none }) (v := ?_) rfl (by kernel_rfl) (by kernel_rfl) (by kernel_rfl) (fun _ _ _ h => h) (Or.inl ⟨by rfl, ?_⟩) (by assumption) ?_
  rotate_left
  · intro W hSW; first | (go_simp; done) | (go_simp; with_reducible rfl)
  try simp only [Act.put, List.setIfInBounds_toArray, List.set_cons_zero, List.set_cons_succ]
  refine wpAnyH_done (by kernel_rfl) ?_ _
  have hb9 : W9.heap.size = W9.heap.size := rfl
  clear hHeld hb9 HQ1 HQ2 c0 cm
  have HAW : Hid (∀ W, Calls Try.prog 20 #[] W fun e w' => e = .returned (.bool true) ∧ Below W.heap.size W w') := awake6_any
  go_wp2_with fail
  go_loopw [12] (fun i wr => ∃ x : Nat, 1 ≤ x ∧ x ≤ n ∧ i = .int .i64 x ∧ Below w4.heap.size w4 wr) (fun i _ => n - (intOf i).toNat)
  case atStart => exact ⟨1, by omega, by omega, rfl, hRw⟩
  case round =>
    clear hRw
    obtain ⟨x, hx1, hxn, rfl, hB⟩ := hrel
    have hxr := hx4.below hB
    have hsz : w4.heap.size ≤ wr.heap.size := hB.size
    have hWr := hide (hW4.below hB)
    by_cases hlt : x < n
    · have x1 : (x : Int) < (n : Int) := by omega
      obtain ⟨c, hc⟩ : ∃ c : Nat, x = c + 1 := ⟨x - 1, by omega⟩
      obtain ⟨tx, htx⟩ : ∃ t, L.getD x 0 = t := ⟨_, rfl⟩
      obtain ⟨tcc, htc⟩ : ∃ t, L.getD c 0 = t := ⟨_, rfl⟩
      have cx : wr.cell? ⟨b, o + x, none⟩ = some (.int .i64 tx) := by have := cell_on hB (HI.out x hlt); rw [htx] at this; exact this
      have cc : wr.cell? ⟨b, o + c, none⟩ = some (.int .i64 tcc) := by have := cell_on hB (HI.out c (by omega)); rw [htc] at this; exact this
      have hs : tx = tcc + d := by have := hTs.out c (by omega); rw [← hc, htx, htc] at this; exact this
      have bx := hTb.out x hlt
      rw [htx] at bx
      have e1 : IntKind.i64.wrap ((x : Int) - 1) = (c : Int) := by rw [show (x : Int) - 1 = (c : Int) by omega]; exact wrap_i64 (by omega) (by omega)
      have e2 : IntKind.i64.wrap (tcc + d) = tx := by rw [← hs]; exact wrap_i64 (by omega) (by omega)
      obtain ⟨y, hy⟩ : ∃ y : Int, (x : Int) + 1 = y := ⟨_, rfl⟩
      have e3 : IntKind.i64.wrap ((x : Int) + 1) = y := by rw [hy]; exact wrap_i64 (by omega) (by omega)
      have HQ3 : Hid (∀ W, Below wr.heap.size wr W → Calls Try.prog 21 #[.agg cs, .int .i64 y] W fun e w' => e = .returned (.int .i64 tx) ∧ Below W.heap.size W w') := fun W hW => by
        have := HDead.out W _ (hWr.out.below hW) y x hlt (by rw [clamp_in n _ (by omega) (by omega)]; omega)
        rw [htx] at this; exact this
      have kc : c < n := by omega
      clear hc htx htc hs hy
      go_upto_region 10 with fail
      have hRw : Below wr.heap.size wr wr.drew := ⟨rfl, rfl, rfl, Nat.le_refl _, fun _ _ => rfl⟩
      refine wp_region_held_drew (S := fun W => Below wr.heap.size wr W) (by kernel_rfl) hRw (fun hHeld => ?_)
      refine wpAnyH_take (i := 0) (oi := { dst := some 69, op := Op.move (Operand.tmp 11), type := 25, pos := "law.go:37", after := #[], guard := none }) (v := ?_) rfl (by kernel_rfl) (by kernel_rfl) (by kernel_rfl) (fun _ _ _ h => h) (Or.inl ⟨by rfl, ?_⟩) (by assumption) ?_
      rotate_left
      · intro W hSW; first | (go_simp; done) | (go_simp; with_reducible rfl)
      try simp only [Act.put, List.setIfInBounds_toArray, List.set_cons_zero, List.set_cons_succ]
      refine wpAnyH_take (i := 1) (oi := { dst := some 70, op := Op.move (Operand.tmp 12), type := 3, pos := "law.go:37", after := #[], guard := none }) (v := ?_) rfl (by kernel_rfl) (by kernel_rfl) (by kernel_rfl) (fun _ _ _ h => h) (Or.inl ⟨by rfl, ?_⟩) (by assumption) ?_
      rotate_left
      · intro W hSW; first | (go_simp; done) | (go_simp; with_reducible rfl)
      try simp only [Act.put, List.setIfInBounds_toArray, List.set_cons_zero, List.set_cons_succ]
      refine wpAnyH_take (i := 2) (oi := { dst := some 71, op := Op.indexAddr 25 (Operand.tmp 69) (Operand.tmp 70), type := 0, pos := "law.go:37", after := #[{ on := 0, ground := Ground.data }, { on := 1, ground := Ground.data }], guard := none }) (v := ?_) rfl (by kernel_rfl) (by kernel_rfl) (by kernel_rfl) (fun _ _ _ h => h) (Or.inl ⟨by rfl, ?_⟩) (by assumption) ?_
      rotate_left
      · intro W hSW; first | (go_simp; done) | (go_simp; with_reducible rfl)
      try simp only [Act.put, List.setIfInBounds_toArray, List.set_cons_zero, List.set_cons_succ]
      refine wpAnyH_take (i := 3) (oi := { dst := some 72, op := Op.load 3 (Operand.tmp 71), type := 3, pos := "law.go:37", after := #[{ on := 2, ground := Ground.data }], guard := none }) (v := ?_) rfl (by kernel_rfl) (by kernel_rfl) (by kernel_rfl) (fun _ _ _ h => h) (Or.inl ⟨by rfl, ?_⟩) (by assumption) ?_
      rotate_left
      · intro W hSW; have z0 := cell_on hSW cx; have z1 := cell_on hSW cc; first | (go_simp; done) | (go_simp; with_reducible rfl)
      try simp only [Act.put, List.setIfInBounds_toArray, List.set_cons_zero, List.set_cons_succ]
      refine wpAnyH_take (i := 4) (oi := { dst := some 73, op := Op.move (Operand.tmp 11), type := 25, pos := "law.go:37", after := #[], guard := none }) (v := ?_) rfl (by kernel_rfl) (by kernel_rfl) (by kernel_rfl) (fun _ _ _ h => h) (Or.inl ⟨by rfl, ?_⟩) (by assumption) ?_
      rotate_left
      · intro W hSW; first | (go_simp; done) | (go_simp; with_reducible rfl)
      try simp only [Act.put, List.setIfInBounds_toArray, List.set_cons_zero, List.set_cons_succ]
      refine wpAnyH_take (i := 5) (oi := { dst := some 74, op := Op.move (Operand.tmp 12), type := 3, pos := "law.go:37", after := #[], guard := none }) (v := ?_) rfl (by kernel_rfl) (by kernel_rfl) (by kernel_rfl) (fun _ _ _ h => h) (Or.inl ⟨by rfl, ?_⟩) (by assumption) ?_
      rotate_left
      · intro W hSW; first | (go_simp; done) | (go_simp; with_reducible rfl)
      try simp only [Act.put, List.setIfInBounds_toArray, List.set_cons_zero, List.set_cons_succ]
      refine wpAnyH_take (i := 6) (oi := { dst := some 75, op := Op.binOp BinOp.sub 3 (Operand.tmp 74) (Operand.const (Value.int IntKind.i64 1)) 3, type := 3, pos := "law.go:37", after := #[{ on := 5, ground := Ground.data }], guard := none }) (v := ?_) rfl (by kernel_rfl) (by kernel_rfl) (by kernel_rfl) (fun _ _ _ h => h) (Or.inl ⟨by rfl, ?_⟩) (by assumption) ?_
      rotate_left
      · intro W hSW; first | (go_simp; done) | (go_simp; with_reducible rfl)
      try simp only [Act.put, List.setIfInBounds_toArray, List.set_cons_zero, List.set_cons_succ]
      refine wpAnyH_take (i := 7) (oi := { dst := some 76, op := Op.indexAddr 25 (Operand.tmp 73) (Operand.tmp 75), type := 0, pos := "law.go:37", after := #[{ on := 4, ground := Ground.data }, { on := 6, ground := Ground.data }], guard := none }) (v := ?_) rfl (by kernel_rfl) (by kernel_rfl) (by kernel_rfl) (fun _ _ _ h => h) (Or.inl ⟨by rfl, ?_⟩) (by assumption) ?_
      rotate_left
      · intro W hSW; first | (go_simp; done) | (go_simp; with_reducible rfl)
      try simp only [Act.put, List.setIfInBounds_toArray, List.set_cons_zero, List.set_cons_succ]
      refine wpAnyH_take (i := 8) (oi := { dst := some 77, op := Op.load 3 (Operand.tmp 76), type := 3, pos := "law.go:37", after := #[{ on := 7, ground := Ground.data }], guard := none }) (v := ?_) rfl (by kernel_rfl) (by kernel_rfl) (by kernel_rfl) (fun _ _ _ h => h) (Or.inl ⟨by rfl, ?_⟩) (by assumption) ?_
      rotate_left
      · intro W hSW; have z0 := cell_on hSW cx; have z1 := cell_on hSW cc; first | (go_simp; done) | (go_simp; with_reducible rfl)
      try simp only [Act.put, List.setIfInBounds_toArray, List.set_cons_zero, List.set_cons_succ]
      refine wpAnyH_take (i := 9) (oi := { dst := some 78, op := Op.move (Operand.tmp 9), type := 3, pos := "law.go:37", after := #[], guard := none }) (v := ?_) rfl (by kernel_rfl) (by kernel_rfl) (by kernel_rfl) (fun _ _ _ h => h) (Or.inl ⟨by rfl, ?_⟩) (by assumption) ?_
      rotate_left
      · intro W hSW; first | (go_simp; done) | (go_simp; with_reducible rfl)
      try simp only [Act.put, List.setIfInBounds_toArray, List.set_cons_zero, List.set_cons_succ]
      refine wpAnyH_take (i := 10) (oi := { dst := some 79, op := Op.binOp BinOp.add 3 (Operand.tmp 77) (Operand.tmp 78) 3, type := 3, pos := "law.go:37", after := #[{ on := 8, ground := Ground.data }, { on := 9, ground := Ground.data }], guard := none }) (v := ?_) rfl (by kernel_rfl) (by kernel_rfl) (by kernel_rfl) (fun _ _ _ h => h) (Or.inl ⟨by rfl, ?_⟩) (by assumption) ?_
      rotate_left
      · intro W hSW; first | (go_simp; done) | (go_simp; with_reducible rfl)
      try simp only [Act.put, List.setIfInBounds_toArray, List.set_cons_zero, List.set_cons_succ]
      refine wpAnyH_take (i := 11) (oi := { dst := some 80, op := Op.binOp BinOp.neq 3 (Operand.tmp 72) (Operand.tmp 79) 3, type := 4, pos := "law.go:37", after := #[{ on := 3, ground := Ground.data }, { on := 10, ground := Ground.data }], guard := none }) (v := ?_) rfl (by kernel_rfl) (by kernel_rfl) (by kernel_rfl) (fun _ _ _ h => h) (Or.inl ⟨by rfl, ?_⟩) (by assumption) ?_
      rotate_left
      · intro W hSW; first | (go_simp; done) | (go_simp; with_reducible rfl)
      try simp only [Act.put, List.setIfInBounds_toArray, List.set_cons_zero, List.set_cons_succ]
      refine wpAnyH_take (i := 12) (oi := { dst := some 81, op := Op.move (Operand.tmp 80), type := 4, pos := "law.go:37", after := #[{ on := 11, ground := Ground.data }], guard := none }) (v := ?_) rfl (by kernel_rfl) (by kernel_rfl) (by kernel_rfl) (fun _ _ _ h => h) (Or.inl ⟨by rfl, ?_⟩) (by assumption) ?_
      rotate_left
      · intro W hSW; first | (go_simp; done) | (go_simp; with_reducible rfl)
      try simp only [Act.put, List.setIfInBounds_toArray, List.set_cons_zero, List.set_cons_succ]
      refine wpAnyH_take (i := 13) (oi := { dst := some 82, op := Op.load 28 (Operand.tmp 10), type := 28, pos := "law.go:37", after := #[{ on := 12, ground := Ground.guard }], guard := some (12, false) }) (v := .agg cs) rfl (by kernel_rfl) (by kernel_rfl) (by kernel_rfl) (fun _ _ _ h => h) (yields_loadV (by rfl) (.tmp 10) (by rfl) _ cs (by rfl) h7 (fun W hW => hxr.below hW)) (by assumption) ?_
      try simp only [Act.put, List.setIfInBounds_toArray, List.set_cons_zero, List.set_cons_succ]
      refine wpAnyH_take (i := 14) (oi := { dst := some 83, op := Op.move (Operand.tmp 12), type := 3, pos := "law.go:37", after := #[{ on := 12, ground := Ground.guard }], guard := some (12, false) }) (v := ?_) rfl (by kernel_rfl) (by kernel_rfl) (by kernel_rfl) (fun _ _ _ h => h) (Or.inl ⟨by rfl, ?_⟩) (by assumption) ?_
      rotate_left
      · intro W hSW; first | (go_simp; done) | (go_simp; with_reducible rfl)
      try simp only [Act.put, List.setIfInBounds_toArray, List.set_cons_zero, List.set_cons_succ]
      refine wpAnyH_take (i := 15) (oi := { dst := some 84, op := Op.binOp BinOp.add 3 (Operand.tmp 83) (Operand.const (Value.int IntKind.i64 1)) 3, type := 3, pos := "law.go:37", after := #[{ on := 14, ground := Ground.data }, { on := 12, ground := Ground.guard }], guard := some (12, false) }) (v := ?_) rfl (by kernel_rfl) (by kernel_rfl) (by kernel_rfl) (fun _ _ _ h => h) (Or.inl ⟨by rfl, ?_⟩) (by assumption) ?_
      rotate_left
      · intro W hSW; first | (go_simp; done) | (go_simp; with_reducible rfl)
      try simp only [Act.put, List.setIfInBounds_toArray, List.set_cons_zero, List.set_cons_succ]
      refine wpAnyH_take (i := 17) (oi := { dst := some 86, op := Op.move (Operand.tmp 11), type := 25, pos := "law.go:37", after := #[{ on := 12, ground := Ground.guard }], guard := some (12, false) }) (v := ?_) rfl (by kernel_rfl) (by kernel_rfl) (by kernel_rfl) (fun _ _ _ h => h) (Or.inl ⟨by rfl, ?_⟩) (by assumption) ?_
      rotate_left
      · intro W hSW; first | (go_simp; done) | (go_simp; with_reducible rfl)
      try simp only [Act.put, List.setIfInBounds_toArray, List.set_cons_zero, List.set_cons_succ]
      refine wpAnyH_take (i := 18) (oi := { dst := some 87, op := Op.move (Operand.tmp 12), type := 3, pos := "law.go:37", after := #[{ on := 12, ground := Ground.guard }], guard := some (12, false) }) (v := ?_) rfl (by kernel_rfl) (by kernel_rfl) (by kernel_rfl) (fun _ _ _ h => h) (Or.inl ⟨by rfl, ?_⟩) (by assumption) ?_
      rotate_left
      · intro W hSW; first | (go_simp; done) | (go_simp; with_reducible rfl)
      try simp only [Act.put, List.setIfInBounds_toArray, List.set_cons_zero, List.set_cons_succ]
      refine wpAnyH_take (i := 19) (oi := { dst := some 88, op := Op.indexAddr 25 (Operand.tmp 86) (Operand.tmp 87), type := 0, pos := "law.go:37", after := #[{ on := 17, ground := Ground.data }, { on := 18, ground := Ground.data }, { on := 12, ground := Ground.guard }], guard := some (12, false) }) (v := ?_) rfl (by kernel_rfl) (by kernel_rfl) (by kernel_rfl) (fun _ _ _ h => h) (Or.inl ⟨by rfl, ?_⟩) (by assumption) ?_
      rotate_left
      · intro W hSW; first | (go_simp; done) | (go_simp; with_reducible rfl)
      try simp only [Act.put, List.setIfInBounds_toArray, List.set_cons_zero, List.set_cons_succ]
      refine wpAnyH_take (i := 20) (oi := { dst := some 89, op := Op.load 3 (Operand.tmp 88), type := 3, pos := "law.go:37", after := #[{ on := 19, ground := Ground.data }, { on := 12, ground := Ground.guard }], guard := some (12, false) }) (v := ?_) rfl (by kernel_rfl) (by kernel_rfl) (by kernel_rfl) (fun _ _ _ h => h) (Or.inl ⟨by rfl, ?_⟩) (by assumption) ?_
      rotate_left
      · intro W hSW; have z0 := cell_on hSW cx; have z1 := cell_on hSW cc; first | (go_simp; done) | (go_simp; with_reducible rfl)
      try simp only [Act.put, List.setIfInBounds_toArray, List.set_cons_zero, List.set_cons_succ]
      refine wpAnyH_lone (R := fun W => Below wr.heap.size wr W) (i := 16) (oi := { dst := some 85, op := Op.call { callee := Callee.value (Operand.func 21), args := #[Operand.tmp 82, Operand.tmp 84], argTypes := #[28, 3] }, type := 3, pos := "law.go:37", after := #[{ on := 13, ground := Ground.data }, { on := 15, ground := Ground.data }, { on := 12, ground := Ground.chain }, { on := 12, ground := Ground.guard }], guard := some (12, false) }) (vi := .int .i64 tx) (by kernel_rfl) rfl hRw (fun _ h => h) ?_ ?_
      · intro W hW K hK
        go_simp
        refine (HQ3.out W hW).mono ?_
        rintro e W2 ⟨rfl, hb⟩
        go_wp2_with fail
        exact hK.out _ (below_then hW hb)
      clear hRw hHeld
      intro W9 hRw hHeld
      try simp only [Act.put, List.setIfInBounds_toArray, List.set_cons_zero, List.set_cons_succ]
      refine wpAnyH_take (i := 21) (oi := { dst := some 90, op := Op.binOp BinOp.neq 3 (Operand.tmp 85) (Operand.tmp 89) 3, type := 4, pos := "law.go:37", after := #[{ on := 16, ground := Ground.data }, { on := 20, ground := Ground.data }, { on := 12, ground := Ground.guard }], guard := some (12, false) }) (v := ?_) rfl (by kernel_rfl) (by kernel_rfl) (by kernel_rfl) (fun _ _ _ h => h) (Or.inl ⟨by rfl, ?_⟩) (by assumption) ?_
      rotate_left
      · intro W hSW; first | (go_simp; done) | (go_simp; with_reducible rfl)
      try simp only [Act.put, List.setIfInBounds_toArray, List.set_cons_zero, List.set_cons_succ]
      refine wpAnyH_take (i := 22) (oi := { dst := some 91, op := Op.pick (Operand.tmp 81) (Operand.const (Value.bool true)) (Operand.tmp 90), type := 4, pos := "law.go:37", after := #[{ on := 12, ground := Ground.data }, { on := 21, ground := Ground.data }], guard := none }) (v := ?_) rfl (by kernel_rfl) (by kernel_rfl) (by kernel_rfl) (fun _ _ _ h => h) (Or.inl ⟨by rfl, ?_⟩) (by assumption) ?_
      rotate_left
      · intro W hSW; first | (go_simp; done) | (go_simp; with_reducible rfl)
      try simp only [Act.put, List.setIfInBounds_toArray, List.set_cons_zero, List.set_cons_succ]
      refine wpAnyH_done (by kernel_rfl) ?_ _
      have hB9 := hide (hB.trans (hRw.mono hsz))
      clear hRw hHeld HQ3 cx cc e1 e2 e3 hxr hWr
      go_wp2_with fail
      go_roundw
      case rel => exact ⟨x + 1, by omega, by omega, by go_num, hB9.out⟩
      case measure => simp [intOf]; omega
    · have x1 : ¬ (x : Int) < (n : Int) := by omega
      have c0 : wr.cell? ⟨b, o, none⟩ = some (.int .i64 t0) := by have := cell_on hB (HI.out 0 (by omega)); rw [ht0] at this; exact this
      have cm : wr.cell? ⟨b, o + m, none⟩ = some (.int .i64 tl) := by have := cell_on hB (HI.out m (by omega)); rw [htl] at this; exact this
      obtain ⟨y, hy⟩ : ∃ y : Int, (n : Int) + 9 = y := ⟨_, rfl⟩
      have e3 : IntKind.i64.wrap ((n : Int) + 9) = y := by rw [hy]; exact wrap_i64 (by omega) (by omega)
      have HQ4 : Hid (∀ W, Below wr.heap.size wr W → Calls Try.prog 21 #[.agg cs, .int .i64 (-5)] W fun e w' => e = .returned (.int .i64 t0) ∧ Below W.heap.size W w') := fun W hW => by
        have := HDead.out W _ (hWr.out.below hW) (-5) 0 (by omega) (by unfold clampM; rw [if_pos (by omega), if_neg (by omega)]; simp)
        rw [ht0] at this; exact this
      have HQ5 : Hid (∀ W, Below wr.heap.size wr W → Calls Try.prog 21 #[.agg cs, .int .i64 y] W fun e w' => e = .returned (.int .i64 tl) ∧ Below W.heap.size W w') := fun W hW => by
        have := HDead.out W _ (hWr.out.below hW) y m (by omega) (by unfold clampM; rw [if_neg (by omega), if_pos (by omega)]; omega)
        rw [htl] at this; exact this
      have HQ6 : Hid (∀ W, Below wr.heap.size wr W → Calls Try.prog 20 #[] W fun e w' => e = .returned (.bool true) ∧ Below W.heap.size W w') := fun W _ => HAW.out W
      clear hy hlt
      go_upto_region 12 with fail
      have hRw : Below wr.heap.size wr wr.drew := ⟨rfl, rfl, rfl, Nat.le_refl _, fun _ _ => rfl⟩
      refine wp_region_held_drew (S := fun W => Below wr.heap.size wr W) (by kernel_rfl) hRw (fun hHeld => ?_)
      refine wpAnyH_take (i := 0) (oi := { dst := some 92, op := Op.load 28 (Operand.tmp 10), type := 28, pos := "law.go:41", after := #[], guard := none }) (v := .agg cs) rfl (by kernel_rfl) (by kernel_rfl) (by kernel_rfl) (fun _ _ _ h => h) (yields_loadV (by rfl) (.tmp 10) (by rfl) _ cs (by rfl) h7 (fun W hW => hxr.below hW)) (by assumption) ?_
      try simp only [Act.put, List.setIfInBounds_toArray, List.set_cons_zero, List.set_cons_succ]
      refine wpAnyH_take (i := 2) (oi := { dst := some 94, op := Op.move (Operand.tmp 11), type := 25, pos := "law.go:41", after := #[], guard := none }) (v := ?_) rfl (by kernel_rfl) (by kernel_rfl) (by kernel_rfl) (fun _ _ _ h => h) (Or.inl ⟨by rfl, ?_⟩) (by assumption) ?_
      rotate_left
      · intro W hSW; first | (go_simp; done) | (go_simp; with_reducible rfl)
      try simp only [Act.put, List.setIfInBounds_toArray, List.set_cons_zero, List.set_cons_succ]
      refine wpAnyH_take (i := 3) (oi := { dst := some 95, op := Op.indexAddr 25 (Operand.tmp 94) (Operand.const (Value.int IntKind.i64 0)), type := 0, pos := "law.go:41", after := #[{ on := 2, ground := Ground.data }], guard := none }) (v := ?_) rfl (by kernel_rfl) (by kernel_rfl) (by kernel_rfl) (fun _ _ _ h => h) (Or.inl ⟨by rfl, ?_⟩) (by assumption) ?_
      rotate_left
      · intro W hSW; first | (go_simp; done) | (go_simp; with_reducible rfl)
      try simp only [Act.put, List.setIfInBounds_toArray, List.set_cons_zero, List.set_cons_succ]
      refine wpAnyH_take (i := 4) (oi := { dst := some 96, op := Op.load 3 (Operand.tmp 95), type := 3, pos := "law.go:41", after := #[{ on := 3, ground := Ground.data }], guard := none }) (v := ?_) rfl (by kernel_rfl) (by kernel_rfl) (by kernel_rfl) (fun _ _ _ h => h) (Or.inl ⟨by rfl, ?_⟩) (by assumption) ?_
      rotate_left
      · intro W hSW; have z0 := cell_on hSW c0; have z1 := cell_on hSW cm; first | (go_simp; done) | (go_simp; with_reducible rfl)
      try simp only [Act.put, List.setIfInBounds_toArray, List.set_cons_zero, List.set_cons_succ]
      refine wpAnyH_lone (R := fun W => Below wr.heap.size wr W) (i := 1) (oi := { dst := some 93, op := Op.call { callee := Callee.value (Operand.func 21), args := #[Operand.tmp 92, Operand.const (Value.int IntKind.i64 (-5))], argTypes := #[28, 3] }, type := 3, pos := "law.go:41", after := #[{ on := 0, ground := Ground.data }], guard := none }) (vi := .int .i64 t0) (by kernel_rfl) rfl hRw (fun _ h => h) ?_ ?_
      · intro W hW K hK
        go_simp
        refine (HQ4.out W hW).mono ?_
        rintro e W2 ⟨rfl, hb⟩
        go_wp2_with fail
        exact hK.out _ (below_then hW hb)
      clear hRw hHeld
      intro W9 hRw hHeld
      try simp only [Act.put, List.setIfInBounds_toArray, List.set_cons_zero, List.set_cons_succ]
      refine wpAnyH_take (i := 5) (oi := { dst := some 97, op := Op.binOp BinOp.eql 3 (Operand.tmp 93) (Operand.tmp 96) 3, type := 4, pos := "law.go:41", after := #[{ on := 1, ground := Ground.data }, { on := 4, ground := Ground.data }], guard := none }) (v := ?_) rfl (by kernel_rfl) (by kernel_rfl) (by kernel_rfl) (fun _ _ _ h => h) (Or.inl ⟨by rfl, ?_⟩) (by assumption) ?_
      rotate_left
      · intro W hSW; first | (go_simp; done) | (go_simp; with_reducible rfl)
      try simp only [Act.put, List.setIfInBounds_toArray, List.set_cons_zero, List.set_cons_succ]
      refine wpAnyH_take (i := 6) (oi := { dst := some 98, op := Op.move (Operand.tmp 97), type := 4, pos := "law.go:41", after := #[{ on := 5, ground := Ground.data }, { on := 1, ground := Ground.chain }], guard := none }) (v := ?_) rfl (by kernel_rfl) (by kernel_rfl) (by kernel_rfl) (fun _ _ _ h => h) (Or.inl ⟨by rfl, ?_⟩) (by assumption) ?_
      rotate_left
      · intro W hSW; first | (go_simp; done) | (go_simp; with_reducible rfl)
      try simp only [Act.put, List.setIfInBounds_toArray, List.set_cons_zero, List.set_cons_succ]
      refine wpAnyH_take (i := 7) (oi := { dst := some 99, op := Op.load 28 (Operand.tmp 10), type := 28, pos := "law.go:41", after := #[{ on := 6, ground := Ground.guard }], guard := some (6, true) }) (v := .agg cs) rfl (by kernel_rfl) (by kernel_rfl) (by kernel_rfl) (fun _ _ _ h => h) (yields_loadV (by rfl) (.tmp 10) (by rfl) _ cs (by rfl) h7 (fun W hW => hxr.below hW)) (by assumption) ?_
      try simp only [Act.put, List.setIfInBounds_toArray, List.set_cons_zero, List.set_cons_succ]
      refine wpAnyH_take (i := 8) (oi := { dst := some 100, op := Op.move (Operand.tmp 7), type := 3, pos := "law.go:41", after := #[{ on := 6, ground := Ground.guard }], guard := some (6, true) }) (v := ?_) rfl (by kernel_rfl) (by kernel_rfl) (by kernel_rfl) (fun _ _ _ h => h) (Or.inl ⟨by rfl, ?_⟩) (by assumption) ?_
      rotate_left
      · intro W hSW; first | (go_simp; done) | (go_simp; with_reducible rfl)
      try simp only [Act.put, List.setIfInBounds_toArray, List.set_cons_zero, List.set_cons_succ]
      refine wpAnyH_take (i := 9) (oi := { dst := some 101, op := Op.binOp BinOp.add 3 (Operand.tmp 100) (Operand.const (Value.int IntKind.i64 9)) 3, type := 3, pos := "law.go:41", after := #[{ on := 8, ground := Ground.data }, { on := 6, ground := Ground.guard }], guard := some (6, true) }) (v := ?_) rfl (by kernel_rfl) (by kernel_rfl) (by kernel_rfl) (fun _ _ _ h => h) (Or.inl ⟨by rfl, ?_⟩) (by assumption) ?_
      rotate_left
      · intro W hSW; first | (go_simp; done) | (go_simp; with_reducible rfl)
      try simp only [Act.put, List.setIfInBounds_toArray, List.set_cons_zero, List.set_cons_succ]
      refine wpAnyH_take (i := 11) (oi := { dst := some 103, op := Op.move (Operand.tmp 11), type := 25, pos := "law.go:41", after := #[{ on := 6, ground := Ground.guard }], guard := some (6, true) }) (v := ?_) rfl (by kernel_rfl) (by kernel_rfl) (by kernel_rfl) (fun _ _ _ h => h) (Or.inl ⟨by rfl, ?_⟩) (by assumption) ?_
      rotate_left
      · intro W hSW; first | (go_simp; done) | (go_simp; with_reducible rfl)
      try simp only [Act.put, List.setIfInBounds_toArray, List.set_cons_zero, List.set_cons_succ]
      refine wpAnyH_take (i := 12) (oi := { dst := some 104, op := Op.move (Operand.tmp 7), type := 3, pos := "law.go:41", after := #[{ on := 6, ground := Ground.guard }], guard := some (6, true) }) (v := ?_) rfl (by kernel_rfl) (by kernel_rfl) (by kernel_rfl) (fun _ _ _ h => h) (Or.inl ⟨by rfl, ?_⟩) (by assumption) ?_
      rotate_left
      · intro W hSW; first | (go_simp; done) | (go_simp; with_reducible rfl)
      try simp only [Act.put, List.setIfInBounds_toArray, List.set_cons_zero, List.set_cons_succ]
      refine wpAnyH_take (i := 13) (oi := { dst := some 105, op := Op.binOp BinOp.sub 3 (Operand.tmp 104) (Operand.const (Value.int IntKind.i64 1)) 3, type := 3, pos := "law.go:41", after := #[{ on := 12, ground := Ground.data }, { on := 6, ground := Ground.guard }], guard := some (6, true) }) (v := ?_) rfl (by kernel_rfl) (by kernel_rfl) (by kernel_rfl) (fun _ _ _ h => h) (Or.inl ⟨by rfl, ?_⟩) (by assumption) ?_
      rotate_left
      · intro W hSW; first | (go_simp; done) | (go_simp; with_reducible rfl)
      try simp only [Act.put, List.setIfInBounds_toArray, List.set_cons_zero, List.set_cons_succ]
      refine wpAnyH_take (i := 14) (oi := { dst := some 106, op := Op.indexAddr 25 (Operand.tmp 103) (Operand.tmp 105), type := 0, pos := "law.go:41", after := #[{ on := 11, ground := Ground.data }, { on := 13, ground := Ground.data }, { on := 6, ground := Ground.guard }], guard := some (6, true) }) (v := ?_) rfl (by kernel_rfl) (by kernel_rfl) (by kernel_rfl) (fun _ _ _ h => h) (Or.inl ⟨by rfl, ?_⟩) (by assumption) ?_
      rotate_left
      · intro W hSW; first | (go_simp; done) | (go_simp; with_reducible rfl)
      try simp only [Act.put, List.setIfInBounds_toArray, List.set_cons_zero, List.set_cons_succ]
      refine wpAnyH_take (i := 15) (oi := { dst := some 107, op := Op.load 3 (Operand.tmp 106), type := 3, pos := "law.go:41", after := #[{ on := 14, ground := Ground.data }, { on := 6, ground := Ground.guard }], guard := some (6, true) }) (v := ?_) rfl (by kernel_rfl) (by kernel_rfl) (by kernel_rfl) (fun _ _ _ h => h) (Or.inl ⟨by rfl, ?_⟩) (by assumption) ?_
      rotate_left
      · intro W hSW; have z0 := cell_on hSW c0; have z1 := cell_on hSW cm; first | (go_simp; done) | (go_simp; with_reducible rfl)
      try simp only [Act.put, List.setIfInBounds_toArray, List.set_cons_zero, List.set_cons_succ]
      refine wpAnyH_lone (R := fun W => Below wr.heap.size wr W) (i := 10) (oi := { dst := some 102, op := Op.call { callee := Callee.value (Operand.func 21), args := #[Operand.tmp 99, Operand.tmp 101], argTypes := #[28, 3] }, type := 3, pos := "law.go:41", after := #[{ on := 7, ground := Ground.data }, { on := 9, ground := Ground.data }, { on := 6, ground := Ground.chain }, { on := 6, ground := Ground.guard }], guard := some (6, true) }) (vi := .int .i64 tl) (by kernel_rfl) rfl hRw (fun _ h => h) ?_ ?_
      · intro W hW K hK
        go_simp
        refine (HQ5.out W hW).mono ?_
        rintro e W2 ⟨rfl, hb⟩
        go_wp2_with fail
        exact hK.out _ (below_then hW hb)
      clear hRw hHeld
      intro W9 hRw hHeld
      try simp only [Act.put, List.setIfInBounds_toArray, List.set_cons_zero, List.set_cons_succ]
      refine wpAnyH_take (i := 16) (oi := { dst := some 108, op := Op.binOp BinOp.eql 3 (Operand.tmp 102) (Operand.tmp 107) 3, type := 4, pos := "law.go:41", after := #[{ on := 10, ground := Ground.data }, { on := 15, ground := Ground.data }, { on := 6, ground := Ground.guard }], guard := some (6, true) }) (v := ?_) rfl (by kernel_rfl) (by kernel_rfl) (by kernel_rfl) (fun _ _ _ h => h) (Or.inl ⟨by rfl, ?_⟩) (by assumption) ?_
      rotate_left
      · intro W hSW; first | (go_simp; done) | (go_simp; with_reducible rfl)
      try simp only [Act.put, List.setIfInBounds_toArray, List.set_cons_zero, List.set_cons_succ]
      refine wpAnyH_take (i := 17) (oi := { dst := some 109, op := Op.pick (Operand.tmp 98) (Operand.tmp 108) (Operand.const (Value.bool false)), type := 4, pos := "law.go:41", after := #[{ on := 6, ground := Ground.data }, { on := 16, ground := Ground.data }], guard := none }) (v := ?_) rfl (by kernel_rfl) (by kernel_rfl) (by kernel_rfl) (fun _ _ _ h => h) (Or.inl ⟨by rfl, ?_⟩) (by assumption) ?_
      rotate_left
      · intro W hSW; first | (go_simp; done) | (go_simp; with_reducible rfl)
      try simp only [Act.put, List.setIfInBounds_toArray, List.set_cons_zero, List.set_cons_succ]
      refine wpAnyH_take (i := 18) (oi := { dst := some 110, op := Op.move (Operand.tmp 109), type := 4, pos := "law.go:41", after := #[{ on := 17, ground := Ground.data }, { on := 10, ground := Ground.chain }], guard := none }) (v := ?_) rfl (by kernel_rfl) (by kernel_rfl) (by kernel_rfl) (fun _ _ _ h => h) (Or.inl ⟨by rfl, ?_⟩) (by assumption) ?_
      rotate_left
      · intro W hSW; first | (go_simp; done) | (go_simp; with_reducible rfl)
      try simp only [Act.put, List.setIfInBounds_toArray, List.set_cons_zero, List.set_cons_succ]
      refine wpAnyH_lone (R := fun W => Below wr.heap.size wr W) (i := 19) (oi := { dst := some 111, op := Op.call { callee := Callee.value (Operand.func 20), args := #[], argTypes := #[] }, type := 4, pos := "law.go:41", after := #[{ on := 18, ground := Ground.chain }, { on := 18, ground := Ground.guard }], guard := some (18, true) }) (vi := .bool true) (by kernel_rfl) rfl hRw (fun _ h => h) ?_ ?_
      · intro W hW K hK
        go_simp
        refine (HQ6.out W hW).mono ?_
        rintro e W2 ⟨rfl, hb⟩
        go_wp2_with fail
        exact hK.out _ (below_then hW hb)
      clear hRw hHeld
      intro W9 hRw hHeld
      try simp only [Act.put, List.setIfInBounds_toArray, List.set_cons_zero, List.set_cons_succ]
      refine wpAnyH_take (i := 20) (oi := { dst := some 112, op := Op.pick (Operand.tmp 110) (Operand.tmp 111) (Operand.const (Value.bool false)), type := 4, pos := "law.go:41", after := #[{ on := 18, ground := Ground.data }, { on := 19, ground := Ground.data }], guard := none }) (v := ?_) rfl (by kernel_rfl) (by kernel_rfl) (by kernel_rfl) (fun _ _ _ h => h) (Or.inl ⟨by rfl, ?_⟩) (by assumption) ?_
      rotate_left
      · intro W hSW; first | (go_simp; done) | (go_simp; with_reducible rfl)
      try simp only [Act.put, List.setIfInBounds_toArray, List.set_cons_zero, List.set_cons_succ]
      refine wpAnyH_take (i := 21) (oi := { dst := some 6, op := Op.assign (Operand.tmp 112), type := 4, pos := "law.go:41", after := #[{ on := 20, ground := Ground.data }, { on := 19, ground := Ground.chain }, { on := 0, ground := Ground.phase }, { on := 1, ground := Ground.phase }, { on := 2, ground := Ground.phase }, { on := 3, ground := Ground.phase }, { on := 4, ground := Ground.phase }, { on := 5, ground := Ground.phase }, { on := 6, ground := Ground.phase }, { on := 7, ground := Ground.phase }, { on := 8, ground := Ground.phase }, { on := 9, ground := Ground.phase }, { on := 10, ground := Ground.phase }, { on := 11, ground := Ground.phase }, { on := 12, ground := Ground.phase }, { on := 13, ground := Ground.phase }, { on := 14, ground := Ground.phase }, { on := 15, ground := Ground.phase }, { on := 16, ground := Ground.phase }, { on := 17, ground := Ground.phase }, { on := 18, ground := Ground.phase }, { on := 19, ground := Ground.phase }, { on := 20, ground := Ground.phase }], guard := none }) (v := ?_) rfl (by kernel_rfl) (by kernel_rfl) (by kernel_rfl) (fun _ _ _ h => h) (Or.inl ⟨by rfl, ?_⟩) (by assumption) ?_
      rotate_left
      · intro W hSW; first | (go_simp; done) | (go_simp; with_reducible rfl)
      try simp only [Act.put, List.setIfInBounds_toArray, List.set_cons_zero, List.set_cons_succ]
      refine wpAnyH_done (by kernel_rfl) ?_ _
      have hB9 := hide (hB.trans (hRw.mono hsz))
      clear hRw hHeld
      go_wp2
      go_ret
      exact ⟨rfl, by rw [← hg0]; exact hB4.trans (hB9.out.mono (by have := hB4.size; omega))⟩

end Go.Proofs.Ytidhcnecmelkbab
