/-
  The walk of WhenAll.
-/
import Derived.Test.YtpngohaheobkgaaWhLaw
import Derived.Test.YtpngohaheobkgaaWhR
import Derived.Test.YtpngohaheobkgaaLwFew
import Derived.Test.YtpngohaheobkgaaYieldV
namespace Go.Proofs.Ytpngohaheobkgaa
open Go.RowKit

theorem either {α : Type} (p : Prop) (a b : α) : ∃ r, (p → r = a) ∧ (¬ p → r = b) := by
  by_cases h : p
  · exact ⟨a, fun _ => rfl, fun h' => absurd h h'⟩
  · exact ⟨b, fun h' => absurd h' h, fun _ => rfl⟩

set_option maxRecDepth 10000 in
set_option maxHeartbeats 4000000 in
theorem whenall_any (va : Value) (A : SpecM) (k : Int) (_hk : (Lit.int .i64 k).wf = true) (w : World) (hA : SpecW w va A) : Calls Try.prog 3 #[va, .int .i64 k] w fun e w' => e = .returned (.bool true) ∧ Below w.heap.size w w' := by
  obtain ⟨cs, rfl, h7⟩ := hA.seven
  obtain ⟨g, hg⟩ : ∃ g, w.heap.size = g := ⟨_, rfl⟩
  have HF := fun W (h : Below w.heap.size w W) => few_any (hA.below h).toV
  replace HF := hide HF
  have HAW : Hid (∀ W, Calls Try.prog 9 #[] W fun e w' => e = .returned (.bool true) ∧ Below W.heap.size W w') := awake6_any
  go_enter Try.func3, Try.ntmps3
  go_wp2_with (first
    | ((with_reducible refine wpList_at ?_); refine wpList_boxv (by rfl) 27 (.tmp 0) (by rfl) _ (by rfl) ?_; rw [hg]; intro w1 hu1 hz1 hb1; have hx1 : SvAt w1 g cs := hu1; clear hu1)
    | ((with_reducible refine wpList_at ?_); refine wpList_loadV (by rfl) (.tmp 2) (by rfl) _ cs (by rfl) hx1 h7 ?_))
  refine (HF.out _ (by rw [hg]; exact hb1)).mono ?_
  rintro e w3 ⟨rfl, hb3⟩
  have hx3 := hx1.below hb3
  have hB3 : Below g w w3 := hb1.trans (hb3.mono (by omega))
  have hA3 : SpecW w3 (.agg cs) A := hA.below (by rw [hg]; exact hB3)
  clear hz1 hx1 HF hb1 hb3 hA
  by_cases hf : fewOk A
  · rw [told_yes hf]
    have hnp : A.parties.length ≤ 1000 := by have := hf.1; omega
    obtain ⟨r1, r1a, r1b⟩ := either (specOk A) (deadM A k) 0
    obtain ⟨r2, r2a, r2b⟩ := either (specOk A) (deadM A (A.parties.length : Int)) 0
    obtain ⟨r3, r3a, r3b⟩ := either (specOk A) (endM A) 0
    obtain ⟨L, La, Lb⟩ := either (specOk A) (tableL A) []
    have HD1 : Hid (∀ W, Below w3.heap.size w3 W → Calls Try.prog 10 #[.agg cs, .int .i64 k] W fun e w' => e = .returned (.int .i64 r1) ∧ Below W.heap.size W w') := fun W hW => when_dead (hA3.below hW) k r1 r1a r1b
    have HD2 : Hid (∀ W, Below w3.heap.size w3 W → Calls Try.prog 11 #[.agg cs, .int .i64 k] W fun e w' => e = .returned (.int .i64 r1) ∧ Below W.heap.size W w') := fun W hW => ref_dead (hA3.below hW) k r1 r1a r1b
    have HL1 : Hid (∀ W, Below w3.heap.size w3 W → Calls Try.prog 12 #[.agg cs] W fun e w' => e = .returned (.int .i64 r2) ∧ Below W.heap.size W w') := fun W hW => when_last (hA3.below hW) r2 r2a r2b
    have HL2 : Hid (∀ W, Below w3.heap.size w3 W → Calls Try.prog 13 #[.agg cs] W fun e w' => e = .returned (.int .i64 r2) ∧ Below W.heap.size W w') := fun W hW => ref_last (hA3.below hW) r2 r2a r2b
    have HE1 : Hid (∀ W, Below w3.heap.size w3 W → Calls Try.prog 14 #[.agg cs] W fun e w' => e = .returned (.int .i64 r3) ∧ Below W.heap.size W w') := fun W hW => when_end (hA3.below hW) hnp r3 r3a r3b
    have HE2 : Hid (∀ W, Below w3.heap.size w3 W → Calls Try.prog 15 #[.agg cs] W fun e w' => e = .returned (.int .i64 r3) ∧ Below W.heap.size W w') := fun W hW => ref_end (hA3.below hW) r3 r3a r3b
    have HT1 : Hid (∀ W, Below w3.heap.size w3 W → Calls Try.prog 17 #[.agg cs] W fun e w' => ∃ a c, e = .returned (.slice a L.length c) ∧ Ints w' a L.length L ∧ Below W.heap.size W w') := fun W hW => when_table (hA3.below hW) L La Lb
    have HT2 : Hid (∀ W, Below w3.heap.size w3 W → Calls Try.prog 18 #[.agg cs] W fun e w' => ∃ a c, e = .returned (.slice a L.length c) ∧ Ints w' a L.length L ∧ Below W.heap.size W w') := fun W hW => ref_table (hA3.below hW) L La Lb
    have HS : Hid (∀ W a b c d, Ints W a L.length L → Ints W b L.length L → Calls Try.prog 16 #[.slice a L.length c, .slice b L.length d] W fun e w' => e = .returned (.bool true) ∧ Below W.heap.size W w') := fun W a b c d ha hb => (refints_any ha hb).mono (by rintro e w' ⟨h1, h2⟩; exact ⟨by rw [h1, told_yes rfl], h2.still.on⟩)
    have HW2 : Hid (∀ W, Below w3.heap.size w3 W → Calls Try.prog 9 #[] W fun e w' => e = .returned (.bool true) ∧ Below W.heap.size W w') := fun W _ => HAW.out W
    clear r1a r1b r2a r2b r3a r3b La Lb hA3 HAW hnp hf
    generalize L.length = ln at HT1 HT2 HS
    go_upto_region 3 with fail
    have hRw : Below w3.heap.size w3 w3.drew := ⟨rfl, rfl, rfl, Nat.le_refl _, fun _ _ => rfl⟩
    refine wp_region_held_drew (S := fun W => Below w3.heap.size w3 W) (by kernel_rfl) hRw (fun hHeld => ?_)
    refine wpAnyH_take (i := 0) (oi := { dst := some 9, op := Op.load 27 (Operand.tmp 2), type := 27, pos := "law.go:24", after := #[], guard := none }) (v := .agg cs) rfl (by kernel_rfl) (by kernel_rfl) (by kernel_rfl) (fun _ _ _ h => h) (yields_loadV (by rfl) (.tmp 2) (by rfl) _ cs (by rfl) h7 (fun W hW => hx3.below hW)) (by assumption) ?_
    try simp only [Act.put, List.setIfInBounds_toArray, List.set_cons_zero, List.set_cons_succ]
    refine wpAnyH_take (i := 1) (oi := { dst := some 10, op := Op.move (Operand.tmp 1), type := 3, pos := "law.go:24", after := #[], guard := none }) (v := ?_) rfl (by kernel_rfl) (by kernel_rfl) (by kernel_rfl) (fun _ _ _ h => h) (Or.inl ⟨by rfl, ?_⟩) (by assumption) ?_
    rotate_left
    · intro W hSW; first | (go_simp; done) | (go_simp; with_reducible rfl)
    try simp only [Act.put, List.setIfInBounds_toArray, List.set_cons_zero, List.set_cons_succ]
    refine wpAnyH_take (i := 3) (oi := { dst := some 12, op := Op.load 27 (Operand.tmp 2), type := 27, pos := "law.go:24", after := #[], guard := none }) (v := .agg cs) rfl (by kernel_rfl) (by kernel_rfl) (by kernel_rfl) (fun _ _ _ h => h) (yields_loadV (by rfl) (.tmp 2) (by rfl) _ cs (by rfl) h7 (fun W hW => hx3.below hW)) (by assumption) ?_
    try simp only [Act.put, List.setIfInBounds_toArray, List.set_cons_zero, List.set_cons_succ]
    refine wpAnyH_take (i := 4) (oi := { dst := some 13, op := Op.move (Operand.tmp 1), type := 3, pos := "law.go:24", after := #[], guard := none }) (v := ?_) rfl (by kernel_rfl) (by kernel_rfl) (by kernel_rfl) (fun _ _ _ h => h) (Or.inl ⟨by rfl, ?_⟩) (by assumption) ?_
    rotate_left
    · intro W hSW; first | (go_simp; done) | (go_simp; with_reducible rfl)
    try simp only [Act.put, List.setIfInBounds_toArray, List.set_cons_zero, List.set_cons_succ]
    refine wpAnyH_lone (R := fun W => Below w3.heap.size w3 W) (i := 2) (oi := { dst := some 11, op := Op.call { callee := Callee.value (Operand.func 10), args := #[Operand.tmp 9, Operand.tmp 10], argTypes := #[27, 3] }, type := 3, pos := "law.go:24", after := #[{ on := 0, ground := Ground.data }, { on := 1, ground := Ground.data }], guard := none }) (vi := .int .i64 r1) (by kernel_rfl) rfl hRw (fun _ h => h) ?_ ?_
    · intro W hW K hK
      go_simp
      refine (HD1.out W hW).mono ?_
      rintro e W2 ⟨rfl, hb⟩
      go_wp2_with fail
      exact hK.out _ (below_then hW hb)
    clear hRw hHeld
    intro W9 hRw hHeld
    try simp only [Act.put, List.setIfInBounds_toArray, List.set_cons_zero, List.set_cons_succ]
    refine wpAnyH_lone (R := fun W => Below w3.heap.size w3 W) (i := 5) (oi := { dst := some 14, op := Op.call { callee := Callee.value (Operand.func 11), args := #[Operand.tmp 12, Operand.tmp 13], argTypes := #[27, 3] }, type := 3, pos := "law.go:24", after := #[{ on := 3, ground := Ground.data }, { on := 4, ground := Ground.data }, { on := 2, ground := Ground.chain }], guard := none }) (vi := .int .i64 r1) (by kernel_rfl) rfl hRw (fun _ h => h) ?_ ?_
    · intro W hW K hK
      go_simp
      refine (HD2.out W hW).mono ?_
      rintro e W2 ⟨rfl, hb⟩
      go_wp2_with fail
      exact hK.out _ (below_then hW hb)
    clear hRw hHeld
    intro W9 hRw hHeld
    try simp only [Act.put, List.setIfInBounds_toArray, List.set_cons_zero, List.set_cons_succ]
    refine wpAnyH_take (i := 6) (oi := { dst := some 15, op := Op.binOp BinOp.eql 3 (Operand.tmp 11) (Operand.tmp 14) 3, type := 4, pos := "law.go:24", after := #[{ on := 2, ground := Ground.data }, { on := 5, ground := Ground.data }], guard := none }) (v := ?_) rfl (by kernel_rfl) (by kernel_rfl) (by kernel_rfl) (fun _ _ _ h => h) (Or.inl ⟨by rfl, ?_⟩) (by assumption) ?_
    rotate_left
    · intro W hSW; first | (go_simp; done) | (go_simp; with_reducible rfl)
    try simp only [Act.put, List.setIfInBounds_toArray, List.set_cons_zero, List.set_cons_succ]
    refine wpAnyH_take (i := 7) (oi := { dst := some 16, op := Op.move (Operand.tmp 15), type := 4, pos := "law.go:24", after := #[{ on := 6, ground := Ground.data }, { on := 5, ground := Ground.chain }], guard := none }) (v := ?_) rfl (by kernel_rfl) (by kernel_rfl) (by kernel_rfl) (fun _ _ _ h => h) (Or.inl ⟨by rfl, ?_⟩) (by assumption) ?_
    rotate_left
    · intro W hSW; first | (go_simp; done) | (go_simp; with_reducible rfl)
    try simp only [Act.put, List.setIfInBounds_toArray, List.set_cons_zero, List.set_cons_succ]
    refine wpAnyH_take (i := 8) (oi := { dst := some 17, op := Op.load 27 (Operand.tmp 2), type := 27, pos := "law.go:24", after := #[{ on := 7, ground := Ground.guard }], guard := some (7, true) }) (v := .agg cs) rfl (by kernel_rfl) (by kernel_rfl) (by kernel_rfl) (fun _ _ _ h => h) (yields_loadV (by rfl) (.tmp 2) (by rfl) _ cs (by rfl) h7 (fun W hW => hx3.below hW)) (by assumption) ?_
    try simp only [Act.put, List.setIfInBounds_toArray, List.set_cons_zero, List.set_cons_succ]
    refine wpAnyH_take (i := 10) (oi := { dst := some 19, op := Op.load 27 (Operand.tmp 2), type := 27, pos := "law.go:24", after := #[{ on := 7, ground := Ground.guard }], guard := some (7, true) }) (v := .agg cs) rfl (by kernel_rfl) (by kernel_rfl) (by kernel_rfl) (fun _ _ _ h => h) (yields_loadV (by rfl) (.tmp 2) (by rfl) _ cs (by rfl) h7 (fun W hW => hx3.below hW)) (by assumption) ?_
    try simp only [Act.put, List.setIfInBounds_toArray, List.set_cons_zero, List.set_cons_succ]
    refine wpAnyH_lone (R := fun W => Below w3.heap.size w3 W) (i := 9) (oi := { dst := some 18, op := Op.call { callee := Callee.value (Operand.func 12), args := #[Operand.tmp 17], argTypes := #[27] }, type := 3, pos := "law.go:24", after := #[{ on := 8, ground := Ground.data }, { on := 7, ground := Ground.chain }, { on := 7, ground := Ground.guard }], guard := some (7, true) }) (vi := .int .i64 r2) (by kernel_rfl) rfl hRw (fun _ h => h) ?_ ?_
    · intro W hW K hK
      go_simp
      refine (HL1.out W hW).mono ?_
      rintro e W2 ⟨rfl, hb⟩
      go_wp2_with fail
      exact hK.out _ (below_then hW hb)
    clear hRw hHeld
    intro W9 hRw hHeld
    try simp only [Act.put, List.setIfInBounds_toArray, List.set_cons_zero, List.set_cons_succ]
    refine wpAnyH_lone (R := fun W => Below w3.heap.size w3 W) (i := 11) (oi := { dst := some 20, op := Op.call { callee := Callee.value (Operand.func 13), args := #[Operand.tmp 19], argTypes := #[27] }, type := 3, pos := "law.go:24", after := #[{ on := 10, ground := Ground.data }, { on := 9, ground := Ground.chain }, { on := 7, ground := Ground.guard }], guard := some (7, true) }) (vi := .int .i64 r2) (by kernel_rfl) rfl hRw (fun _ h => h) ?_ ?_
    · intro W hW K hK
      go_simp
      refine (HL2.out W hW).mono ?_
      rintro e W2 ⟨rfl, hb⟩
      go_wp2_with fail
      exact hK.out _ (below_then hW hb)
    clear hRw hHeld
    intro W9 hRw hHeld
    try simp only [Act.put, List.setIfInBounds_toArray, List.set_cons_zero, List.set_cons_succ]
    refine wpAnyH_take (i := 12) (oi := { dst := some 21, op := Op.binOp BinOp.eql 3 (Operand.tmp 18) (Operand.tmp 20) 3, type := 4, pos := "law.go:24", after := #[{ on := 9, ground := Ground.data }, { on := 11, ground := Ground.data }, { on := 7, ground := Ground.guard }], guard := some (7, true) }) (v := ?_) rfl (by kernel_rfl) (by kernel_rfl) (by kernel_rfl) (fun _ _ _ h => h) (Or.inl ⟨by rfl, ?_⟩) (by assumption) ?_
    rotate_left
    · intro W hSW; first | (go_simp; done) | (go_simp; with_reducible rfl)
    try simp only [Act.put, List.setIfInBounds_toArray, List.set_cons_zero, List.set_cons_succ]
    refine wpAnyH_take (i := 13) (oi := { dst := some 22, op := Op.pick (Operand.tmp 16) (Operand.tmp 21) (Operand.const (Value.bool false)), type := 4, pos := "law.go:24", after := #[{ on := 7, ground := Ground.data }, { on := 12, ground := Ground.data }], guard := none }) (v := ?_) rfl (by kernel_rfl) (by kernel_rfl) (by kernel_rfl) (fun _ _ _ h => h) (Or.inl ⟨by rfl, ?_⟩) (by assumption) ?_
    rotate_left
    · intro W hSW; first | (go_simp; done) | (go_simp; with_reducible rfl)
    try simp only [Act.put, List.setIfInBounds_toArray, List.set_cons_zero, List.set_cons_succ]
    refine wpAnyH_take (i := 14) (oi := { dst := some 23, op := Op.move (Operand.tmp 22), type := 4, pos := "law.go:24", after := #[{ on := 13, ground := Ground.data }, { on := 11, ground := Ground.chain }], guard := none }) (v := ?_) rfl (by kernel_rfl) (by kernel_rfl) (by kernel_rfl) (fun _ _ _ h => h) (Or.inl ⟨by rfl, ?_⟩) (by assumption) ?_
    rotate_left
    · intro W hSW; first | (go_simp; done) | (go_simp; with_reducible rfl)
    try simp only [Act.put, List.setIfInBounds_toArray, List.set_cons_zero, List.set_cons_succ]
    refine wpAnyH_take (i := 15) (oi := { dst := some 24, op := Op.load 27 (Operand.tmp 2), type := 27, pos := "law.go:24", after := #[{ on := 14, ground := Ground.guard }], guard := some (14, true) }) (v := .agg cs) rfl (by kernel_rfl) (by kernel_rfl) (by kernel_rfl) (fun _ _ _ h => h) (yields_loadV (by rfl) (.tmp 2) (by rfl) _ cs (by rfl) h7 (fun W hW => hx3.below hW)) (by assumption) ?_
    try simp only [Act.put, List.setIfInBounds_toArray, List.set_cons_zero, List.set_cons_succ]
    refine wpAnyH_take (i := 17) (oi := { dst := some 26, op := Op.load 27 (Operand.tmp 2), type := 27, pos := "law.go:24", after := #[{ on := 14, ground := Ground.guard }], guard := some (14, true) }) (v := .agg cs) rfl (by kernel_rfl) (by kernel_rfl) (by kernel_rfl) (fun _ _ _ h => h) (yields_loadV (by rfl) (.tmp 2) (by rfl) _ cs (by rfl) h7 (fun W hW => hx3.below hW)) (by assumption) ?_
    try simp only [Act.put, List.setIfInBounds_toArray, List.set_cons_zero, List.set_cons_succ]
    refine wpAnyH_lone (R := fun W => Below w3.heap.size w3 W) (i := 16) (oi := { dst := some 25, op := Op.call { callee := Callee.value (Operand.func 14), args := #[Operand.tmp 24], argTypes := #[27] }, type := 3, pos := "law.go:24", after := #[{ on := 15, ground := Ground.data }, { on := 14, ground := Ground.chain }, { on := 14, ground := Ground.guard }], guard := some (14, true) }) (vi := .int .i64 r3) (by kernel_rfl) rfl hRw (fun _ h => h) ?_ ?_
    · intro W hW K hK
      go_simp
      refine (HE1.out W hW).mono ?_
      rintro e W2 ⟨rfl, hb⟩
      go_wp2_with fail
      exact hK.out _ (below_then hW hb)
    clear hRw hHeld
    intro W9 hRw hHeld
    try simp only [Act.put, List.setIfInBounds_toArray, List.set_cons_zero, List.set_cons_succ]
    refine wpAnyH_lone (R := fun W => Below w3.heap.size w3 W) (i := 18) (oi := { dst := some 27, op := Op.call { callee := Callee.value (Operand.func 15), args := #[Operand.tmp 26], argTypes := #[27] }, type := 3, pos := "law.go:24", after := #[{ on := 17, ground := Ground.data }, { on := 16, ground := Ground.chain }, { on := 14, ground := Ground.guard }], guard := some (14, true) }) (vi := .int .i64 r3) (by kernel_rfl) rfl hRw (fun _ h => h) ?_ ?_
    · intro W hW K hK
      go_simp
      refine (HE2.out W hW).mono ?_
      rintro e W2 ⟨rfl, hb⟩
      go_wp2_with fail
      exact hK.out _ (below_then hW hb)
    clear hRw hHeld
    intro W9 hRw hHeld
    try simp only [Act.put, List.setIfInBounds_toArray, List.set_cons_zero, List.set_cons_succ]
    refine wpAnyH_take (i := 19) (oi := { dst := some 28, op := Op.binOp BinOp.eql 3 (Operand.tmp 25) (Operand.tmp 27) 3, type := 4, pos := "law.go:24", after := #[{ on := 16, ground := Ground.data }, { on := 18, ground := Ground.data }, { on := 14, ground := Ground.guard }], guard := some (14, true) }) (v := ?_) rfl (by kernel_rfl) (by kernel_rfl) (by kernel_rfl) (fun _ _ _ h => h) (Or.inl ⟨by rfl, ?_⟩) (by assumption) ?_
    rotate_left
    · intro W hSW; first | (go_simp; done) | (go_simp; with_reducible rfl)
    try simp only [Act.put, List.setIfInBounds_toArray, List.set_cons_zero, List.set_cons_succ]
    refine wpAnyH_take (i := 20) (oi := { dst := some 29, op := Op.pick (Operand.tmp 23) (Operand.tmp 28) (Operand.const (Value.bool false)), type := 4, pos := "law.go:24", after := #[{ on := 14, ground := Ground.data }, { on := 19, ground := Ground.data }], guard := none }) (v := ?_) rfl (by kernel_rfl) (by kernel_rfl) (by kernel_rfl) (fun _ _ _ h => h) (Or.inl ⟨by rfl, ?_⟩) (by assumption) ?_
    rotate_left
    · intro W hSW; first | (go_simp; done) | (go_simp; with_reducible rfl)
    try simp only [Act.put, List.setIfInBounds_toArray, List.set_cons_zero, List.set_cons_succ]
    refine wpAnyH_take (i := 21) (oi := { dst := some 30, op := Op.move (Operand.tmp 29), type := 4, pos := "law.go:24", after := #[{ on := 20, ground := Ground.data }, { on := 18, ground := Ground.chain }], guard := none }) (v := ?_) rfl (by kernel_rfl) (by kernel_rfl) (by kernel_rfl) (fun _ _ _ h => h) (Or.inl ⟨by rfl, ?_⟩) (by assumption) ?_
    rotate_left
    · intro W hSW; first | (go_simp; done) | (go_simp; with_reducible rfl)
    try simp only [Act.put, List.setIfInBounds_toArray, List.set_cons_zero, List.set_cons_succ]
    refine wpAnyH_take (i := 22) (oi := { dst := some 31, op := Op.load 27 (Operand.tmp 2), type := 27, pos := "law.go:24", after := #[{ on := 21, ground := Ground.guard }], guard := some (21, true) }) (v := .agg cs) rfl (by kernel_rfl) (by kernel_rfl) (by kernel_rfl) (fun _ _ _ h => h) (yields_loadV (by rfl) (.tmp 2) (by rfl) _ cs (by rfl) h7 (fun W hW => hx3.below hW)) (by assumption) ?_
    try simp only [Act.put, List.setIfInBounds_toArray, List.set_cons_zero, List.set_cons_succ]
    refine wpAnyH_take (i := 24) (oi := { dst := some 33, op := Op.load 27 (Operand.tmp 2), type := 27, pos := "law.go:24", after := #[{ on := 21, ground := Ground.guard }], guard := some (21, true) }) (v := .agg cs) rfl (by kernel_rfl) (by kernel_rfl) (by kernel_rfl) (fun _ _ _ h => h) (yields_loadV (by rfl) (.tmp 2) (by rfl) _ cs (by rfl) h7 (fun W hW => hx3.below hW)) (by assumption) ?_
    try simp only [Act.put, List.setIfInBounds_toArray, List.set_cons_zero, List.set_cons_succ]
    refine wpAnyH_loneE (T := fun v W => Below w3.heap.size w3 W ∧ ∃ a c, v = Value.slice a ln c ∧ Ints W a ln L) (i := 23) (oi := { dst := some 32, op := Op.call { callee := Callee.value (Operand.func 17), args := #[Operand.tmp 31], argTypes := #[27] }, type := 24, pos := "law.go:24", after := #[{ on := 22, ground := Ground.data }, { on := 21, ground := Ground.chain }, { on := 21, ground := Ground.guard }], guard := some (21, true) }) (by kernel_rfl) rfl (fun v W h => h.1) ?_ ?_
    · intro K hK
      go_simp
      refine (HT1.out _ hRw).mono ?_
      rintro e W2 ⟨ta, tc, rfl, hI, hb⟩
      go_wp2_with fail
      exact hK.out _ _ (⟨below_then hRw hb, ta, tc, rfl, hI⟩)
    intro u1 W9 hu1 hHeld
    clear hRw
    obtain ⟨hRw, ta1, tc1, rfl, hI1⟩ := hu1
    try simp only [Act.put, List.setIfInBounds_toArray, List.set_cons_zero, List.set_cons_succ]
    refine wpAnyH_loneE (T := fun v W => Below w3.heap.size w3 W ∧ Ints W ta1 ln L ∧ ∃ a c, v = Value.slice a ln c ∧ Ints W a ln L) (i := 25) (oi := { dst := some 34, op := Op.call { callee := Callee.value (Operand.func 18), args := #[Operand.tmp 33], argTypes := #[27] }, type := 24, pos := "law.go:24", after := #[{ on := 24, ground := Ground.data }, { on := 23, ground := Ground.chain }, { on := 21, ground := Ground.guard }], guard := some (21, true) }) (by kernel_rfl) rfl (fun v W h => h.1) ?_ ?_
    · intro K hK
      go_simp
      refine (HT2.out _ hRw).mono ?_
      rintro e W2 ⟨ta, tc, rfl, hI, hb⟩
      go_wp2_with fail
      exact hK.out _ _ (⟨below_then hRw hb, hI1.below hb, ta, tc, rfl, hI⟩)
    intro u2 W9 hu2 hHeld
    clear hRw hI1
    obtain ⟨hRw, hI1, ta2, tc2, rfl, hI2⟩ := hu2
    try simp only [Act.put, List.setIfInBounds_toArray, List.set_cons_zero, List.set_cons_succ]
    refine wpAnyH_loneE (T := fun v W => v = Value.bool true ∧ Below w3.heap.size w3 W) (i := 26) (oi := { dst := some 35, op := Op.call { callee := Callee.value (Operand.func 16), args := #[Operand.tmp 32, Operand.tmp 34], argTypes := #[24, 24] }, type := 4, pos := "law.go:24", after := #[{ on := 23, ground := Ground.data }, { on := 25, ground := Ground.data }, { on := 25, ground := Ground.chain }, { on := 21, ground := Ground.guard }], guard := some (21, true) }) (by kernel_rfl) rfl (fun v W h => h.2) ?_ ?_
    · intro K hK
      go_simp
      refine (HS.out _ _ _ _ _ hI1 hI2).mono ?_
      rintro e W2 ⟨rfl, hb⟩
      go_wp2_with fail
      exact hK.out _ _ (⟨rfl, below_then hRw hb⟩)
    intro u3 W9 hu3 hHeld
    clear hRw hI1 hI2
    obtain ⟨rfl, hRw⟩ := hu3
    try simp only [Act.put, List.setIfInBounds_toArray, List.set_cons_zero, List.set_cons_succ]
    refine wpAnyH_take (i := 27) (oi := { dst := some 36, op := Op.pick (Operand.tmp 30) (Operand.tmp 35) (Operand.const (Value.bool false)), type := 4, pos := "law.go:24", after := #[{ on := 21, ground := Ground.data }, { on := 26, ground := Ground.data }], guard := none }) (v := ?_) rfl (by kernel_rfl) (by kernel_rfl) (by kernel_rfl) (fun _ _ _ h => h) (Or.inl ⟨by rfl, ?_⟩) (by assumption) ?_
    rotate_left
    · intro W hSW; first | (go_simp; done) | (go_simp; with_reducible rfl)
    try simp only [Act.put, List.setIfInBounds_toArray, List.set_cons_zero, List.set_cons_succ]
    refine wpAnyH_take (i := 28) (oi := { dst := some 37, op := Op.move (Operand.tmp 36), type := 4, pos := "law.go:24", after := #[{ on := 27, ground := Ground.data }, { on := 26, ground := Ground.chain }], guard := none }) (v := ?_) rfl (by kernel_rfl) (by kernel_rfl) (by kernel_rfl) (fun _ _ _ h => h) (Or.inl ⟨by rfl, ?_⟩) (by assumption) ?_
    rotate_left
    · intro W hSW; first | (go_simp; done) | (go_simp; with_reducible rfl)
    try simp only [Act.put, List.setIfInBounds_toArray, List.set_cons_zero, List.set_cons_succ]
    refine wpAnyH_lone (R := fun W => Below w3.heap.size w3 W) (i := 29) (oi := { dst := some 38, op := Op.call { callee := Callee.value (Operand.func 9), args := #[], argTypes := #[] }, type := 4, pos := "law.go:24", after := #[{ on := 28, ground := Ground.chain }, { on := 28, ground := Ground.guard }], guard := some (28, true) }) (vi := .bool true) (by kernel_rfl) rfl hRw (fun _ h => h) ?_ ?_
    · intro W hW K hK
      go_simp
      refine (HW2.out W hW).mono ?_
      rintro e W2 ⟨rfl, hb⟩
      go_wp2_with fail
      exact hK.out _ (below_then hW hb)
    clear hRw hHeld
    intro W9 hRw hHeld
    try simp only [Act.put, List.setIfInBounds_toArray, List.set_cons_zero, List.set_cons_succ]
    refine wpAnyH_take (i := 30) (oi := { dst := some 39, op := Op.pick (Operand.tmp 37) (Operand.tmp 38) (Operand.const (Value.bool false)), type := 4, pos := "law.go:24", after := #[{ on := 28, ground := Ground.data }, { on := 29, ground := Ground.data }], guard := none }) (v := ?_) rfl (by kernel_rfl) (by kernel_rfl) (by kernel_rfl) (fun _ _ _ h => h) (Or.inl ⟨by rfl, ?_⟩) (by assumption) ?_
    rotate_left
    · intro W hSW; first | (go_simp; done) | (go_simp; with_reducible rfl)
    try simp only [Act.put, List.setIfInBounds_toArray, List.set_cons_zero, List.set_cons_succ]
    refine wpAnyH_take (i := 31) (oi := { dst := some 4, op := Op.assign (Operand.tmp 39), type := 4, pos := "law.go:24", after := #[{ on := 30, ground := Ground.data }, { on := 29, ground := Ground.chain }, { on := 0, ground := Ground.phase }, { on := 1, ground := Ground.phase }, { on := 2, ground := Ground.phase }, { on := 3, ground := Ground.phase }, { on := 4, ground := Ground.phase }, { on := 5, ground := Ground.phase }, { on := 6, ground := Ground.phase }, { on := 7, ground := Ground.phase }, { on := 8, ground := Ground.phase }, { on := 9, ground := Ground.phase }, { on := 10, ground := Ground.phase }, { on := 11, ground := Ground.phase }, { on := 12, ground := Ground.phase }, { on := 13, ground := Ground.phase }, { on := 14, ground := Ground.phase }, { on := 15, ground := Ground.phase }, { on := 16, ground := Ground.phase }, { on := 17, ground := Ground.phase }, { on := 18, ground := Ground.phase }, { on := 19, ground := Ground.phase }, { on := 20, ground := Ground.phase }, { on := 21, ground := Ground.phase }, { on := 22, ground := Ground.phase }, { on := 23, ground := Ground.phase }, { on := 24, ground := Ground.phase }, { on := 25, ground := Ground.phase }, { on := 26, ground := Ground.phase }, { on := 27, ground := Ground.phase }, { on := 28, ground := Ground.phase }, { on := 29, ground := Ground.phase }, { on := 30, ground := Ground.phase }], guard := none }) (v := ?_) rfl (by kernel_rfl) (by kernel_rfl) (by kernel_rfl) (fun _ _ _ h => h) (Or.inl ⟨by rfl, ?_⟩) (by assumption) ?_
    rotate_left
    · intro W hSW; first | (go_simp; done) | (go_simp; with_reducible rfl)
    try simp only [Act.put, List.setIfInBounds_toArray, List.set_cons_zero, List.set_cons_succ]
    refine wpAnyH_done (by kernel_rfl) ?_ _
    go_wp2
    go_ret
    rw [hg]
    exact ⟨rfl, hB3.trans (hRw.mono (by have := hx3.lt; omega))⟩
  · rw [told_no hf]
    go_wp2_with fail
    refine (HAW.out _).mono ?_
    rintro e w5 ⟨rfl, hb5⟩
    go_wp2
    go_ret
    rw [hg]
    exact ⟨rfl, hB3.trans (hb5.mono (by have := hx3.lt; omega))⟩

end Go.Proofs.Ytpngohaheobkgaa
