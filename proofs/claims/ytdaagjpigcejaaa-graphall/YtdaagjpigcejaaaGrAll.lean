/-
  The walk of GraphAll.
-/
import Derived.Test.YtdaagjpigcejaaaGrWake
import Derived.Test.YtdaagjpigcejaaaGrRefP
import Derived.Test.YtdaagjpigcejaaaGrRefE
import Derived.Test.YtdaagjpigcejaaaZ02
import Derived.Test.YtdaagjpigcejaaaZ35
namespace Go.Proofs.Ytdaagjpigcejaaa
open Go.RowKit

theorem either5 {α : Type} (p : Prop) (a b : α) : ∃ r, (p → r = a) ∧ (¬ p → r = b) := by
  by_cases h : p
  · exact ⟨a, fun _ => rfl, fun h' => absurd h h'⟩
  · exact ⟨b, fun h' => absurd h' h, fun _ => rfl⟩
/-- Places as a slice of numbers. -/
theorem own_places {w : World} {B : Nat} {u : Value} {L : List Int} (h : OwnI w B u L) (hn : L.length ≤ 1000) (hl : ∀ x ∈ L, 0 ≤ x ∧ x < 1000) : ∃ a c, u = .slice a L.length c ∧ Ints w a L.length L := by
  obtain ⟨a, c, h1, _, _, h4⟩ := h.ints hn (fun j hj => by have := hl _ (getD_mem L j 0 hj); unfold In64; omega)
  exact ⟨a, c, h1, h4⟩

set_option maxRecDepth 10000 in
set_option maxHeartbeats 4000000 in
theorem graphall_any (va : Value) (A : SpecM) (la : Option Addr) (n c : Nat) (l : List Int) (x : Int) (_hx : (Lit.int .i64 x).wf = true) (w : World) (hA : SpecW w va A) (hl : Ints w la n l ∧ n ≤ c ∧ c ≤ maxLen) : Calls Try.prog 7 #[va, .slice la n c, .int .i64 x] w fun e w' => e = .returned (.bool true) ∧ Below w.heap.size w w' := by
  obtain ⟨cs, rfl, h7⟩ := hA.seven
  obtain ⟨g, hg⟩ : ∃ g, w.heap.size = g := ⟨_, rfl⟩
  have HF := fun W (h : Below w.heap.size w W) => few_any (hA.below h).toV
  replace HF := hide HF
  have HAW : Hid (∀ W, Calls Try.prog 13 #[] W fun e w' => e = .returned (.bool true) ∧ Below W.heap.size W w') := awake5_any
  obtain ⟨hI, hc1, hc2⟩ := hl
  have hnm := hI.2.1
  unfold maxLen at hnm hc2
  replace hI := hide hI
  go_enter Try.func7, Try.ntmps7
  go_wp2_with (first
    | ((with_reducible refine wpList_at ?_); refine wpList_boxv (by rfl) 28 (.tmp 0) (by rfl) _ (by rfl) ?_; rw [hg]; intro w1 hu1 hz1 hb1; have hx1 : SvAt w1 g cs := hu1; clear hu1)
    | ((with_reducible refine wpList_at ?_); refine wpList_loadV (by rfl) (.tmp 3) (by rfl) _ cs (by rfl) hx1 h7 ?_))
  refine (HF.out _ (by rw [hg]; exact hb1)).mono ?_
  rintro e w3 ⟨rfl, hb3⟩
  have hx3 := hx1.below hb3
  have hB3 : Below g w w3 := hb1.trans (hb3.mono (by omega))
  have hA3 : SpecW w3 (.agg cs) A := hA.below (by rw [hg]; exact hB3)
  have hI3 := hI.out.below (w' := w3) (by rw [hg]; exact hB3)
  clear hz1 hx1 HF hb1 hb3 hA hI
  by_cases hf : fewOk A
  · rw [told_yes hf]
    by_cases h12 : 12 < n
    · have t0 : (12 : Int) < (n : Int) := by omega
      clear hI3 hA3 hf
      go_wp2_with fail
      refine (HAW.out _).mono ?_
      rintro e w5 ⟨rfl, hb5⟩
      go_wp2
      go_ret
      rw [hg]
      exact ⟨rfl, hB3.trans (hb5.mono (by have := hx3.lt; omega))⟩
    · have t0 : ¬ (12 : Int) < (n : Int) := by omega
      have hna : A.arcs.length ≤ 20 := hf.2.1
      have hln := hI3.1
      obtain ⟨LE, LEa, LEb⟩ := either5 (specOk A) (entL A.arcs x A.arcs.length) []
      obtain ⟨LL, LLa, LLb⟩ := either5 (specOk A) (levL A.arcs x A.arcs.length) []
      have hE1 : LE.length ≤ 1000 ∧ ∀ y ∈ LE, 0 ≤ y ∧ y < 1000 := by
        by_cases hok : specOk A
        · rw [LEa hok]
          exact ⟨Nat.le_trans (ent_len _ _ _) (by omega), fun y hy => by have := ent_in _ _ _ y hy; omega⟩
        · rw [LEb hok]
          exact ⟨by simp, fun y hy => by simp at hy⟩
      have hL1 : LL.length ≤ 1000 ∧ ∀ y ∈ LL, 0 ≤ y ∧ y < 1000 := by
        by_cases hok : specOk A
        · rw [LLa hok]
          exact ⟨Nat.le_trans (lev_len _ _ _) (by omega), fun y hy => by have := lev_in _ _ _ y hy; omega⟩
        · rw [LLb hok]
          exact ⟨by simp, fun y hy => by simp at hy⟩
      obtain ⟨r1, hr1⟩ : ∃ r, strM A = r := ⟨_, rfl⟩
      obtain ⟨r2, hr2⟩ : ∃ r, fbkM A = r := ⟨_, rfl⟩
      obtain ⟨r3, hr3⟩ : ∃ r, validM A = r := ⟨_, rfl⟩
      obtain ⟨r4, hr4⟩ : ∃ r, told (pathOk A l) = r := ⟨_, rfl⟩
      have H1 : Hid (∀ W, Below w3.heap.size w3 W → Calls Try.prog 11 #[.agg cs] W fun e w' => e = .returned (.bool r1) ∧ Below W.heap.size W w') := fun W hW => by rw [← hr1]; exact pstrong_any (hA3.below hW)
      have H2 : Hid (∀ W, Below w3.heap.size w3 W → Calls Try.prog 20 #[.agg cs] W fun e w' => e = .returned (.bool r1) ∧ Below W.heap.size W w') := fun W hW => by rw [← hr1]; exact rstrong_any (hA3.below hW)
      have H3 : Hid (∀ W, Below w3.heap.size w3 W → Calls Try.prog 12 #[.agg cs] W fun e w' => e = .returned (.bool r2) ∧ Below W.heap.size W w') := fun W hW => by rw [← hr2]; exact pfeedback_any (hA3.below hW)
      have H4 : Hid (∀ W, Below w3.heap.size w3 W → Calls Try.prog 21 #[.agg cs] W fun e w' => e = .returned (.bool r2) ∧ Below W.heap.size W w') := fun W hW => by rw [← hr2]; exact rfeedback_any (hA3.below hW)
      have H5 : Hid (∀ W, Below w3.heap.size w3 W → Calls Try.prog 14 #[.agg cs] W fun e w' => e = .returned (.bool r3) ∧ Below W.heap.size W w') := fun W hW => by rw [← hr3]; exact pvalid_any (hA3.below hW)
      have H6 : Hid (∀ W, Below w3.heap.size w3 W → Calls Try.prog 19 #[.agg cs] W fun e w' => e = .returned (.bool r3) ∧ Below W.heap.size W w') := fun W hW => by rw [← hr3]; exact rvalid_any (hA3.below hW)
      have H7 : Hid (∀ W, Below w3.heap.size w3 W → Calls Try.prog 10 #[.agg cs, .slice la n c] W fun e w' => e = .returned (.bool r4) ∧ Below W.heap.size W w') := fun W hW => by
        rw [← hr4]
        have h9 := ppath_any (cl := c) (hA3.below hW) (l := l) (al := la) (by rw [hln]; exact hI3.below hW) (by rw [hln]; exact hc1) (by unfold maxLen; exact hc2)
        rw [hln] at h9; exact h9
      have H8 : Hid (∀ W, Below w3.heap.size w3 W → Calls Try.prog 23 #[.agg cs, .slice la n c] W fun e w' => e = .returned (.bool r4) ∧ Below W.heap.size W w') := fun W hW => by
        rw [← hr4]
        have h9 := rpath_any (cl := c) (hA3.below hW) (l := l) (al := la) (by rw [hln]; exact hI3.below hW)
        rw [hln] at h9; exact h9
      have HE1 : Hid (∀ W, Below w3.heap.size w3 W → Calls Try.prog 15 #[.agg cs, .int .i64 x] W fun e w' => ∃ a c, e = .returned (.slice a LE.length c) ∧ Ints w' a LE.length LE ∧ Below W.heap.size W w') := fun W hW => (pent_any (hA3.below hW) x LE LEa LEb).mono (by rintro e w' ⟨u, rfl, hO, hb⟩; obtain ⟨a, c, rfl, hI⟩ := own_places hO hE1.1 hE1.2; exact ⟨a, c, rfl, hI, hb⟩)
      have HE2 : Hid (∀ W, Below w3.heap.size w3 W → Calls Try.prog 25 #[.agg cs, .int .i64 x] W fun e w' => ∃ a c, e = .returned (.slice a LE.length c) ∧ Ints w' a LE.length LE ∧ Below W.heap.size W w') := fun W hW => (rent_any (hA3.below hW) x LE LEa LEb).mono (by rintro e w' ⟨u, rfl, hO, hb⟩; obtain ⟨a, c, rfl, hI⟩ := own_places hO hE1.1 hE1.2; exact ⟨a, c, rfl, hI, hb⟩)
      have HL1 : Hid (∀ W, Below w3.heap.size w3 W → Calls Try.prog 16 #[.agg cs, .int .i64 x] W fun e w' => ∃ a c, e = .returned (.slice a LL.length c) ∧ Ints w' a LL.length LL ∧ Below W.heap.size W w') := fun W hW => (plev_any (hA3.below hW) x LL LLa LLb).mono (by rintro e w' ⟨u, rfl, hO, hb⟩; obtain ⟨a, c, rfl, hI⟩ := own_places hO hL1.1 hL1.2; exact ⟨a, c, rfl, hI, hb⟩)
      have HL2 : Hid (∀ W, Below w3.heap.size w3 W → Calls Try.prog 26 #[.agg cs, .int .i64 x] W fun e w' => ∃ a c, e = .returned (.slice a LL.length c) ∧ Ints w' a LL.length LL ∧ Below W.heap.size W w') := fun W hW => (rlev_any (hA3.below hW) x LL LLa LLb).mono (by rintro e w' ⟨u, rfl, hO, hb⟩; obtain ⟨a, c, rfl, hI⟩ := own_places hO hL1.1 hL1.2; exact ⟨a, c, rfl, hI, hb⟩)
      have HS : Hid (∀ (L : List Int) W a b c d, Ints W a L.length L → Ints W b L.length L → Calls Try.prog 24 #[.slice a L.length c, .slice b L.length d] W fun e w' => e = .returned (.bool true) ∧ Below W.heap.size W w') := fun L W a b c d ha hb => (refints_any ha hb).mono (by rintro e w' ⟨h1, h2⟩; exact ⟨by rw [h1, told_yes rfl], h2.still.on⟩)
      have HS1 := hide (HS.out LE)
      have HS2 := hide (HS.out LL)
      have HW2 : Hid (∀ W, Below w3.heap.size w3 W → Calls Try.prog 13 #[] W fun e w' => e = .returned (.bool true) ∧ Below W.heap.size W w') := fun W _ => HAW.out W
      clear hr1 hr2 hr3 hr4 LEa LEb LLa LLb hE1 hL1 hA3 HAW hf hI3 HS hna hln
      generalize LE.length = ln1 at HE1 HE2 HS1
      generalize LL.length = ln2 at HL1 HL2 HS2
      go_upto_region 3 with fail
      have hRw : Below w3.heap.size w3 w3.drew := ⟨rfl, rfl, rfl, Nat.le_refl _, fun _ _ => rfl⟩
      refine wp_region_held_drew (S := fun W => Below w3.heap.size w3 W) (by kernel_rfl) hRw (fun hHeld => ?_)
      refine wpAnyH_take (i := 0) (oi := { dst := some 16, op := Op.load 28 (Operand.tmp 3), type := 28, pos := "law.go:23", after := #[], guard := none }) (v := .agg cs) rfl (by kernel_rfl) (by kernel_rfl) (by kernel_rfl) (fun _ _ _ h => h) (yields_loadV (by rfl) (.tmp 3) (by rfl) _ cs (by rfl) h7 (fun W hW => hx3.below hW)) (by assumption) ?_
      try simp only [Act.put, List.setIfInBounds_toArray, List.set_cons_zero, List.set_cons_succ]
      refine wpAnyH_take (i := 2) (oi := { dst := some 18, op := Op.load 28 (Operand.tmp 3), type := 28, pos := "law.go:23", after := #[], guard := none }) (v := .agg cs) rfl (by kernel_rfl) (by kernel_rfl) (by kernel_rfl) (fun _ _ _ h => h) (yields_loadV (by rfl) (.tmp 3) (by rfl) _ cs (by rfl) h7 (fun W hW => hx3.below hW)) (by assumption) ?_
      try simp only [Act.put, List.setIfInBounds_toArray, List.set_cons_zero, List.set_cons_succ]
      refine wpAnyH_lone (R := fun W => Below w3.heap.size w3 W) (i := 1) (oi := { dst := some 17, op := Op.call { callee := Callee.value (Operand.func 11), args := #[Operand.tmp 16], argTypes := #[28] }, type := 4, pos := "law.go:23", after := #[{ on := 0, ground := Ground.data }], guard := none }) (vi := .bool r1) (by kernel_rfl) rfl hRw (fun _ h => h) ?_ ?_
      · intro W hW K hK
        go_simp
        refine (H1.out W hW).mono ?_
        rintro e W2 ⟨rfl, hb⟩
        go_wp2_with fail
        exact hK.out _ (below_then hW hb)
      clear hRw hHeld
      intro W9 hRw hHeld
      try simp only [Act.put, List.setIfInBounds_toArray, List.set_cons_zero, List.set_cons_succ]
      refine wpAnyH_lone (R := fun W => Below w3.heap.size w3 W) (i := 3) (oi := { dst := some 19, op := Op.call { callee := Callee.value (Operand.func 20), args := #[Operand.tmp 18], argTypes := #[28] }, type := 4, pos := "law.go:23", after := #[{ on := 2, ground := Ground.data }, { on := 1, ground := Ground.chain }], guard := none }) (vi := .bool r1) (by kernel_rfl) rfl hRw (fun _ h => h) ?_ ?_
      · intro W hW K hK
        go_simp
        refine (H2.out W hW).mono ?_
        rintro e W2 ⟨rfl, hb⟩
        go_wp2_with fail
        exact hK.out _ (below_then hW hb)
      clear hRw hHeld
      intro W9 hRw hHeld
      try simp only [Act.put, List.setIfInBounds_toArray, List.set_cons_zero, List.set_cons_succ]
      refine wpAnyH_take (i := 4) (oi := { dst := some 20, op := Op.binOp BinOp.eql 4 (Operand.tmp 17) (Operand.tmp 19) 4, type := 4, pos := "law.go:23", after := #[{ on := 1, ground := Ground.data }, { on := 3, ground := Ground.data }], guard := none }) (v := .bool true) rfl (by kernel_rfl) (by kernel_rfl) (by kernel_rfl) (fun _ _ _ h => h) (Or.inl ⟨by rfl, ?_⟩) (by assumption) ?_
      · intro W hSW; first | (go_simp; done) | (go_simp; with_reducible rfl)
      try simp only [Act.put, List.setIfInBounds_toArray, List.set_cons_zero, List.set_cons_succ]
      refine wpAnyH_take (i := 5) (oi := { dst := some 21, op := Op.move (Operand.tmp 20), type := 4, pos := "law.go:23", after := #[{ on := 4, ground := Ground.data }, { on := 3, ground := Ground.chain }], guard := none }) (v := ?_) rfl (by kernel_rfl) (by kernel_rfl) (by kernel_rfl) (fun _ _ _ h => h) (Or.inl ⟨by rfl, ?_⟩) (by assumption) ?_
      rotate_left
      · intro W hSW; first | (go_simp; done) | (go_simp; with_reducible rfl)
      try simp only [Act.put, List.setIfInBounds_toArray, List.set_cons_zero, List.set_cons_succ]
      refine wpAnyH_take (i := 6) (oi := { dst := some 22, op := Op.load 28 (Operand.tmp 3), type := 28, pos := "law.go:23", after := #[{ on := 5, ground := Ground.guard }], guard := some (5, true) }) (v := .agg cs) rfl (by kernel_rfl) (by kernel_rfl) (by kernel_rfl) (fun _ _ _ h => h) (yields_loadV (by rfl) (.tmp 3) (by rfl) _ cs (by rfl) h7 (fun W hW => hx3.below hW)) (by assumption) ?_
      try simp only [Act.put, List.setIfInBounds_toArray, List.set_cons_zero, List.set_cons_succ]
      refine wpAnyH_take (i := 8) (oi := { dst := some 24, op := Op.load 28 (Operand.tmp 3), type := 28, pos := "law.go:23", after := #[{ on := 5, ground := Ground.guard }], guard := some (5, true) }) (v := .agg cs) rfl (by kernel_rfl) (by kernel_rfl) (by kernel_rfl) (fun _ _ _ h => h) (yields_loadV (by rfl) (.tmp 3) (by rfl) _ cs (by rfl) h7 (fun W hW => hx3.below hW)) (by assumption) ?_
      try simp only [Act.put, List.setIfInBounds_toArray, List.set_cons_zero, List.set_cons_succ]
      refine wpAnyH_lone (R := fun W => Below w3.heap.size w3 W) (i := 7) (oi := { dst := some 23, op := Op.call { callee := Callee.value (Operand.func 12), args := #[Operand.tmp 22], argTypes := #[28] }, type := 4, pos := "law.go:23", after := #[{ on := 6, ground := Ground.data }, { on := 5, ground := Ground.chain }, { on := 5, ground := Ground.guard }], guard := some (5, true) }) (vi := .bool r2) (by kernel_rfl) rfl hRw (fun _ h => h) ?_ ?_
      · intro W hW K hK
        go_simp
        refine (H3.out W hW).mono ?_
        rintro e W2 ⟨rfl, hb⟩
        go_wp2_with fail
        exact hK.out _ (below_then hW hb)
      clear hRw hHeld
      intro W9 hRw hHeld
      try simp only [Act.put, List.setIfInBounds_toArray, List.set_cons_zero, List.set_cons_succ]
      refine wpAnyH_lone (R := fun W => Below w3.heap.size w3 W) (i := 9) (oi := { dst := some 25, op := Op.call { callee := Callee.value (Operand.func 21), args := #[Operand.tmp 24], argTypes := #[28] }, type := 4, pos := "law.go:23", after := #[{ on := 8, ground := Ground.data }, { on := 7, ground := Ground.chain }, { on := 5, ground := Ground.guard }], guard := some (5, true) }) (vi := .bool r2) (by kernel_rfl) rfl hRw (fun _ h => h) ?_ ?_
      · intro W hW K hK
        go_simp
        refine (H4.out W hW).mono ?_
        rintro e W2 ⟨rfl, hb⟩
        go_wp2_with fail
        exact hK.out _ (below_then hW hb)
      clear hRw hHeld
      intro W9 hRw hHeld
      try simp only [Act.put, List.setIfInBounds_toArray, List.set_cons_zero, List.set_cons_succ]
      refine wpAnyH_take (i := 10) (oi := { dst := some 26, op := Op.binOp BinOp.eql 4 (Operand.tmp 23) (Operand.tmp 25) 4, type := 4, pos := "law.go:23", after := #[{ on := 7, ground := Ground.data }, { on := 9, ground := Ground.data }, { on := 5, ground := Ground.guard }], guard := some (5, true) }) (v := .bool true) rfl (by kernel_rfl) (by kernel_rfl) (by kernel_rfl) (fun _ _ _ h => h) (Or.inl ⟨by rfl, ?_⟩) (by assumption) ?_
      · intro W hSW; first | (go_simp; done) | (go_simp; with_reducible rfl)
      try simp only [Act.put, List.setIfInBounds_toArray, List.set_cons_zero, List.set_cons_succ]
      refine wpAnyH_take (i := 11) (oi := { dst := some 27, op := Op.pick (Operand.tmp 21) (Operand.tmp 26) (Operand.const (Value.bool false)), type := 4, pos := "law.go:23", after := #[{ on := 5, ground := Ground.data }, { on := 10, ground := Ground.data }], guard := none }) (v := ?_) rfl (by kernel_rfl) (by kernel_rfl) (by kernel_rfl) (fun _ _ _ h => h) (Or.inl ⟨by rfl, ?_⟩) (by assumption) ?_
      rotate_left
      · intro W hSW; first | (go_simp; done) | (go_simp; with_reducible rfl)
      try simp only [Act.put, List.setIfInBounds_toArray, List.set_cons_zero, List.set_cons_succ]
      refine wpAnyH_take (i := 12) (oi := { dst := some 28, op := Op.move (Operand.tmp 27), type := 4, pos := "law.go:23", after := #[{ on := 11, ground := Ground.data }, { on := 9, ground := Ground.chain }], guard := none }) (v := ?_) rfl (by kernel_rfl) (by kernel_rfl) (by kernel_rfl) (fun _ _ _ h => h) (Or.inl ⟨by rfl, ?_⟩) (by assumption) ?_
      rotate_left
      · intro W hSW; first | (go_simp; done) | (go_simp; with_reducible rfl)
      try simp only [Act.put, List.setIfInBounds_toArray, List.set_cons_zero, List.set_cons_succ]
      refine wpAnyH_take (i := 13) (oi := { dst := some 29, op := Op.load 28 (Operand.tmp 3), type := 28, pos := "law.go:23", after := #[{ on := 12, ground := Ground.guard }], guard := some (12, true) }) (v := .agg cs) rfl (by kernel_rfl) (by kernel_rfl) (by kernel_rfl) (fun _ _ _ h => h) (yields_loadV (by rfl) (.tmp 3) (by rfl) _ cs (by rfl) h7 (fun W hW => hx3.below hW)) (by assumption) ?_
      try simp only [Act.put, List.setIfInBounds_toArray, List.set_cons_zero, List.set_cons_succ]
      refine wpAnyH_take (i := 15) (oi := { dst := some 31, op := Op.load 28 (Operand.tmp 3), type := 28, pos := "law.go:23", after := #[{ on := 12, ground := Ground.guard }], guard := some (12, true) }) (v := .agg cs) rfl (by kernel_rfl) (by kernel_rfl) (by kernel_rfl) (fun _ _ _ h => h) (yields_loadV (by rfl) (.tmp 3) (by rfl) _ cs (by rfl) h7 (fun W hW => hx3.below hW)) (by assumption) ?_
      try simp only [Act.put, List.setIfInBounds_toArray, List.set_cons_zero, List.set_cons_succ]
      refine wpAnyH_lone (R := fun W => Below w3.heap.size w3 W) (i := 14) (oi := { dst := some 30, op := Op.call { callee := Callee.value (Operand.func 14), args := #[Operand.tmp 29], argTypes := #[28] }, type := 4, pos := "law.go:23", after := #[{ on := 13, ground := Ground.data }, { on := 12, ground := Ground.chain }, { on := 12, ground := Ground.guard }], guard := some (12, true) }) (vi := .bool r3) (by kernel_rfl) rfl hRw (fun _ h => h) ?_ ?_
      · intro W hW K hK
        go_simp
        refine (H5.out W hW).mono ?_
        rintro e W2 ⟨rfl, hb⟩
        go_wp2_with fail
        exact hK.out _ (below_then hW hb)
      clear hRw hHeld
      intro W9 hRw hHeld
      try simp only [Act.put, List.setIfInBounds_toArray, List.set_cons_zero, List.set_cons_succ]
      refine wpAnyH_lone (R := fun W => Below w3.heap.size w3 W) (i := 16) (oi := { dst := some 32, op := Op.call { callee := Callee.value (Operand.func 19), args := #[Operand.tmp 31], argTypes := #[28] }, type := 4, pos := "law.go:23", after := #[{ on := 15, ground := Ground.data }, { on := 14, ground := Ground.chain }, { on := 12, ground := Ground.guard }], guard := some (12, true) }) (vi := .bool r3) (by kernel_rfl) rfl hRw (fun _ h => h) ?_ ?_
      · intro W hW K hK
        go_simp
        refine (H6.out W hW).mono ?_
        rintro e W2 ⟨rfl, hb⟩
        go_wp2_with fail
        exact hK.out _ (below_then hW hb)
      clear hRw hHeld
      intro W9 hRw hHeld
      try simp only [Act.put, List.setIfInBounds_toArray, List.set_cons_zero, List.set_cons_succ]
      refine wpAnyH_take (i := 17) (oi := { dst := some 33, op := Op.binOp BinOp.eql 4 (Operand.tmp 30) (Operand.tmp 32) 4, type := 4, pos := "law.go:23", after := #[{ on := 14, ground := Ground.data }, { on := 16, ground := Ground.data }, { on := 12, ground := Ground.guard }], guard := some (12, true) }) (v := .bool true) rfl (by kernel_rfl) (by kernel_rfl) (by kernel_rfl) (fun _ _ _ h => h) (Or.inl ⟨by rfl, ?_⟩) (by assumption) ?_
      · intro W hSW; first | (go_simp; done) | (go_simp; with_reducible rfl)
      try simp only [Act.put, List.setIfInBounds_toArray, List.set_cons_zero, List.set_cons_succ]
      refine wpAnyH_take (i := 18) (oi := { dst := some 34, op := Op.pick (Operand.tmp 28) (Operand.tmp 33) (Operand.const (Value.bool false)), type := 4, pos := "law.go:23", after := #[{ on := 12, ground := Ground.data }, { on := 17, ground := Ground.data }], guard := none }) (v := ?_) rfl (by kernel_rfl) (by kernel_rfl) (by kernel_rfl) (fun _ _ _ h => h) (Or.inl ⟨by rfl, ?_⟩) (by assumption) ?_
      rotate_left
      · intro W hSW; first | (go_simp; done) | (go_simp; with_reducible rfl)
      try simp only [Act.put, List.setIfInBounds_toArray, List.set_cons_zero, List.set_cons_succ]
      refine wpAnyH_take (i := 19) (oi := { dst := some 35, op := Op.move (Operand.tmp 34), type := 4, pos := "law.go:23", after := #[{ on := 18, ground := Ground.data }, { on := 16, ground := Ground.chain }], guard := none }) (v := ?_) rfl (by kernel_rfl) (by kernel_rfl) (by kernel_rfl) (fun _ _ _ h => h) (Or.inl ⟨by rfl, ?_⟩) (by assumption) ?_
      rotate_left
      · intro W hSW; first | (go_simp; done) | (go_simp; with_reducible rfl)
      try simp only [Act.put, List.setIfInBounds_toArray, List.set_cons_zero, List.set_cons_succ]
      refine wpAnyH_take (i := 20) (oi := { dst := some 36, op := Op.load 28 (Operand.tmp 3), type := 28, pos := "law.go:23", after := #[{ on := 19, ground := Ground.guard }], guard := some (19, true) }) (v := .agg cs) rfl (by kernel_rfl) (by kernel_rfl) (by kernel_rfl) (fun _ _ _ h => h) (yields_loadV (by rfl) (.tmp 3) (by rfl) _ cs (by rfl) h7 (fun W hW => hx3.below hW)) (by assumption) ?_
      try simp only [Act.put, List.setIfInBounds_toArray, List.set_cons_zero, List.set_cons_succ]
      refine wpAnyH_take (i := 21) (oi := { dst := some 37, op := Op.move (Operand.tmp 1), type := 25, pos := "law.go:23", after := #[{ on := 19, ground := Ground.guard }], guard := some (19, true) }) (v := ?_) rfl (by kernel_rfl) (by kernel_rfl) (by kernel_rfl) (fun _ _ _ h => h) (Or.inl ⟨by rfl, ?_⟩) (by assumption) ?_
      rotate_left
      · intro W hSW; first | (go_simp; done) | (go_simp; with_reducible rfl)
      try simp only [Act.put, List.setIfInBounds_toArray, List.set_cons_zero, List.set_cons_succ]
      refine wpAnyH_take (i := 23) (oi := { dst := some 39, op := Op.load 28 (Operand.tmp 3), type := 28, pos := "law.go:23", after := #[{ on := 19, ground := Ground.guard }], guard := some (19, true) }) (v := .agg cs) rfl (by kernel_rfl) (by kernel_rfl) (by kernel_rfl) (fun _ _ _ h => h) (yields_loadV (by rfl) (.tmp 3) (by rfl) _ cs (by rfl) h7 (fun W hW => hx3.below hW)) (by assumption) ?_
      try simp only [Act.put, List.setIfInBounds_toArray, List.set_cons_zero, List.set_cons_succ]
      refine wpAnyH_take (i := 24) (oi := { dst := some 40, op := Op.move (Operand.tmp 1), type := 25, pos := "law.go:23", after := #[{ on := 19, ground := Ground.guard }], guard := some (19, true) }) (v := ?_) rfl (by kernel_rfl) (by kernel_rfl) (by kernel_rfl) (fun _ _ _ h => h) (Or.inl ⟨by rfl, ?_⟩) (by assumption) ?_
      rotate_left
      · intro W hSW; first | (go_simp; done) | (go_simp; with_reducible rfl)
      try simp only [Act.put, List.setIfInBounds_toArray, List.set_cons_zero, List.set_cons_succ]
      refine wpAnyH_lone (R := fun W => Below w3.heap.size w3 W) (i := 22) (oi := { dst := some 38, op := Op.call { callee := Callee.value (Operand.func 10), args := #[Operand.tmp 36, Operand.tmp 37], argTypes := #[28, 25] }, type := 4, pos := "law.go:23", after := #[{ on := 20, ground := Ground.data }, { on := 21, ground := Ground.data }, { on := 19, ground := Ground.chain }, { on := 19, ground := Ground.guard }], guard := some (19, true) }) (vi := .bool r4) (by kernel_rfl) rfl hRw (fun _ h => h) ?_ ?_
      · intro W hW K hK
        go_simp
        refine (H7.out W hW).mono ?_
        rintro e W2 ⟨rfl, hb⟩
        go_wp2_with fail
        exact hK.out _ (below_then hW hb)
      clear hRw hHeld
      intro W9 hRw hHeld
      try simp only [Act.put, List.setIfInBounds_toArray, List.set_cons_zero, List.set_cons_succ]
      refine wpAnyH_lone (R := fun W => Below w3.heap.size w3 W) (i := 25) (oi := { dst := some 41, op := Op.call { callee := Callee.value (Operand.func 23), args := #[Operand.tmp 39, Operand.tmp 40], argTypes := #[28, 25] }, type := 4, pos := "law.go:23", after := #[{ on := 23, ground := Ground.data }, { on := 24, ground := Ground.data }, { on := 22, ground := Ground.chain }, { on := 19, ground := Ground.guard }], guard := some (19, true) }) (vi := .bool r4) (by kernel_rfl) rfl hRw (fun _ h => h) ?_ ?_
      · intro W hW K hK
        go_simp
        refine (H8.out W hW).mono ?_
        rintro e W2 ⟨rfl, hb⟩
        go_wp2_with fail
        exact hK.out _ (below_then hW hb)
      clear hRw hHeld
      intro W9 hRw hHeld
      try simp only [Act.put, List.setIfInBounds_toArray, List.set_cons_zero, List.set_cons_succ]
      refine wpAnyH_take (i := 26) (oi := { dst := some 42, op := Op.binOp BinOp.eql 4 (Operand.tmp 38) (Operand.tmp 41) 4, type := 4, pos := "law.go:23", after := #[{ on := 22, ground := Ground.data }, { on := 25, ground := Ground.data }, { on := 19, ground := Ground.guard }], guard := some (19, true) }) (v := .bool true) rfl (by kernel_rfl) (by kernel_rfl) (by kernel_rfl) (fun _ _ _ h => h) (Or.inl ⟨by rfl, ?_⟩) (by assumption) ?_
      · intro W hSW; first | (go_simp; done) | (go_simp; with_reducible rfl)
      try simp only [Act.put, List.setIfInBounds_toArray, List.set_cons_zero, List.set_cons_succ]
      refine wpAnyH_take (i := 27) (oi := { dst := some 43, op := Op.pick (Operand.tmp 35) (Operand.tmp 42) (Operand.const (Value.bool false)), type := 4, pos := "law.go:23", after := #[{ on := 19, ground := Ground.data }, { on := 26, ground := Ground.data }], guard := none }) (v := ?_) rfl (by kernel_rfl) (by kernel_rfl) (by kernel_rfl) (fun _ _ _ h => h) (Or.inl ⟨by rfl, ?_⟩) (by assumption) ?_
      rotate_left
      · intro W hSW; first | (go_simp; done) | (go_simp; with_reducible rfl)
      try simp only [Act.put, List.setIfInBounds_toArray, List.set_cons_zero, List.set_cons_succ]
      refine wpAnyH_take (i := 28) (oi := { dst := some 44, op := Op.move (Operand.tmp 43), type := 4, pos := "law.go:23", after := #[{ on := 27, ground := Ground.data }, { on := 25, ground := Ground.chain }], guard := none }) (v := ?_) rfl (by kernel_rfl) (by kernel_rfl) (by kernel_rfl) (fun _ _ _ h => h) (Or.inl ⟨by rfl, ?_⟩) (by assumption) ?_
      rotate_left
      · intro W hSW; first | (go_simp; done) | (go_simp; with_reducible rfl)
      try simp only [Act.put, List.setIfInBounds_toArray, List.set_cons_zero, List.set_cons_succ]
      refine wpAnyH_take (i := 29) (oi := { dst := some 45, op := Op.load 28 (Operand.tmp 3), type := 28, pos := "law.go:23", after := #[{ on := 28, ground := Ground.guard }], guard := some (28, true) }) (v := .agg cs) rfl (by kernel_rfl) (by kernel_rfl) (by kernel_rfl) (fun _ _ _ h => h) (yields_loadV (by rfl) (.tmp 3) (by rfl) _ cs (by rfl) h7 (fun W hW => hx3.below hW)) (by assumption) ?_
      try simp only [Act.put, List.setIfInBounds_toArray, List.set_cons_zero, List.set_cons_succ]
      refine wpAnyH_take (i := 30) (oi := { dst := some 46, op := Op.move (Operand.tmp 2), type := 3, pos := "law.go:23", after := #[{ on := 28, ground := Ground.guard }], guard := some (28, true) }) (v := ?_) rfl (by kernel_rfl) (by kernel_rfl) (by kernel_rfl) (fun _ _ _ h => h) (Or.inl ⟨by rfl, ?_⟩) (by assumption) ?_
      rotate_left
      · intro W hSW; first | (go_simp; done) | (go_simp; with_reducible rfl)
      try simp only [Act.put, List.setIfInBounds_toArray, List.set_cons_zero, List.set_cons_succ]
      refine wpAnyH_take (i := 32) (oi := { dst := some 48, op := Op.load 28 (Operand.tmp 3), type := 28, pos := "law.go:23", after := #[{ on := 28, ground := Ground.guard }], guard := some (28, true) }) (v := .agg cs) rfl (by kernel_rfl) (by kernel_rfl) (by kernel_rfl) (fun _ _ _ h => h) (yields_loadV (by rfl) (.tmp 3) (by rfl) _ cs (by rfl) h7 (fun W hW => hx3.below hW)) (by assumption) ?_
      try simp only [Act.put, List.setIfInBounds_toArray, List.set_cons_zero, List.set_cons_succ]
      refine wpAnyH_take (i := 33) (oi := { dst := some 49, op := Op.move (Operand.tmp 2), type := 3, pos := "law.go:23", after := #[{ on := 28, ground := Ground.guard }], guard := some (28, true) }) (v := ?_) rfl (by kernel_rfl) (by kernel_rfl) (by kernel_rfl) (fun _ _ _ h => h) (Or.inl ⟨by rfl, ?_⟩) (by assumption) ?_
      rotate_left
      · intro W hSW; first | (go_simp; done) | (go_simp; with_reducible rfl)
      try simp only [Act.put, List.setIfInBounds_toArray, List.set_cons_zero, List.set_cons_succ]
      refine wpAnyH_loneE (T := fun v W => Below w3.heap.size w3 W ∧ ∃ a c, v = Value.slice a ln1 c ∧ Ints W a ln1 LE) (i := 31) (oi := { dst := some 47, op := Op.call { callee := Callee.value (Operand.func 15), args := #[Operand.tmp 45, Operand.tmp 46], argTypes := #[28, 3] }, type := 25, pos := "law.go:23", after := #[{ on := 29, ground := Ground.data }, { on := 30, ground := Ground.data }, { on := 28, ground := Ground.chain }, { on := 28, ground := Ground.guard }], guard := some (28, true) }) (by kernel_rfl) rfl (fun v W h => h.1) ?_ ?_
      · intro K hK
        go_simp
        refine (HE1.out _ hRw).mono ?_
        rintro e W2 ⟨ta, tc, rfl, hI, hb⟩
        go_wp2_with fail
        exact hK.out _ _ (⟨below_then hRw hb, ta, tc, rfl, hI⟩)
      intro u1a W9 hu1a hHeld
      clear hRw
      obtain ⟨hRw, ta1a, tc1a, rfl, hI1a⟩ := hu1a
      try simp only [Act.put, List.setIfInBounds_toArray, List.set_cons_zero, List.set_cons_succ]
      refine wpAnyH_loneE (T := fun v W => Below w3.heap.size w3 W ∧ Ints W ta1a ln1 LE ∧ ∃ a c, v = Value.slice a ln1 c ∧ Ints W a ln1 LE) (i := 34) (oi := { dst := some 50, op := Op.call { callee := Callee.value (Operand.func 25), args := #[Operand.tmp 48, Operand.tmp 49], argTypes := #[28, 3] }, type := 25, pos := "law.go:23", after := #[{ on := 32, ground := Ground.data }, { on := 33, ground := Ground.data }, { on := 31, ground := Ground.chain }, { on := 28, ground := Ground.guard }], guard := some (28, true) }) (by kernel_rfl) rfl (fun v W h => h.1) ?_ ?_
      · intro K hK
        go_simp
        refine (HE2.out _ hRw).mono ?_
        rintro e W2 ⟨ta, tc, rfl, hI, hb⟩
        go_wp2_with fail
        exact hK.out _ _ (⟨below_then hRw hb, hI1a.below hb, ta, tc, rfl, hI⟩)
      intro u2a W9 hu2a hHeld
      clear hRw hI1a
      obtain ⟨hRw, hI1a, ta2a, tc2a, rfl, hI2a⟩ := hu2a
      try simp only [Act.put, List.setIfInBounds_toArray, List.set_cons_zero, List.set_cons_succ]
      refine wpAnyH_loneE (T := fun v W => v = Value.bool true ∧ Below w3.heap.size w3 W) (i := 35) (oi := { dst := some 51, op := Op.call { callee := Callee.value (Operand.func 24), args := #[Operand.tmp 47, Operand.tmp 50], argTypes := #[25, 25] }, type := 4, pos := "law.go:23", after := #[{ on := 31, ground := Ground.data }, { on := 34, ground := Ground.data }, { on := 34, ground := Ground.chain }, { on := 28, ground := Ground.guard }], guard := some (28, true) }) (by kernel_rfl) rfl (fun v W h => h.2) ?_ ?_
      · intro K hK
        go_simp
        refine (HS1.out _ _ _ _ _ hI1a hI2a).mono ?_
        rintro e W2 ⟨rfl, hb⟩
        go_wp2_with fail
        exact hK.out _ _ (⟨rfl, below_then hRw hb⟩)
      intro u3a W9 hu3a hHeld
      clear hRw hI1a hI2a
      obtain ⟨rfl, hRw⟩ := hu3a
      try simp only [Act.put, List.setIfInBounds_toArray, List.set_cons_zero, List.set_cons_succ]
      refine wpAnyH_take (i := 36) (oi := { dst := some 52, op := Op.pick (Operand.tmp 44) (Operand.tmp 51) (Operand.const (Value.bool false)), type := 4, pos := "law.go:23", after := #[{ on := 28, ground := Ground.data }, { on := 35, ground := Ground.data }], guard := none }) (v := ?_) rfl (by kernel_rfl) (by kernel_rfl) (by kernel_rfl) (fun _ _ _ h => h) (Or.inl ⟨by rfl, ?_⟩) (by assumption) ?_
      rotate_left
      · intro W hSW; first | (go_simp; done) | (go_simp; with_reducible rfl)
      try simp only [Act.put, List.setIfInBounds_toArray, List.set_cons_zero, List.set_cons_succ]
      refine wpAnyH_take (i := 37) (oi := { dst := some 53, op := Op.move (Operand.tmp 52), type := 4, pos := "law.go:23", after := #[{ on := 36, ground := Ground.data }, { on := 35, ground := Ground.chain }], guard := none }) (v := ?_) rfl (by kernel_rfl) (by kernel_rfl) (by kernel_rfl) (fun _ _ _ h => h) (Or.inl ⟨by rfl, ?_⟩) (by assumption) ?_
      rotate_left
      · intro W hSW; first | (go_simp; done) | (go_simp; with_reducible rfl)
      try simp only [Act.put, List.setIfInBounds_toArray, List.set_cons_zero, List.set_cons_succ]
      refine wpAnyH_take (i := 38) (oi := { dst := some 54, op := Op.load 28 (Operand.tmp 3), type := 28, pos := "law.go:23", after := #[{ on := 37, ground := Ground.guard }], guard := some (37, true) }) (v := .agg cs) rfl (by kernel_rfl) (by kernel_rfl) (by kernel_rfl) (fun _ _ _ h => h) (yields_loadV (by rfl) (.tmp 3) (by rfl) _ cs (by rfl) h7 (fun W hW => hx3.below hW)) (by assumption) ?_
      try simp only [Act.put, List.setIfInBounds_toArray, List.set_cons_zero, List.set_cons_succ]
      refine wpAnyH_take (i := 39) (oi := { dst := some 55, op := Op.move (Operand.tmp 2), type := 3, pos := "law.go:23", after := #[{ on := 37, ground := Ground.guard }], guard := some (37, true) }) (v := ?_) rfl (by kernel_rfl) (by kernel_rfl) (by kernel_rfl) (fun _ _ _ h => h) (Or.inl ⟨by rfl, ?_⟩) (by assumption) ?_
      rotate_left
      · intro W hSW; first | (go_simp; done) | (go_simp; with_reducible rfl)
      try simp only [Act.put, List.setIfInBounds_toArray, List.set_cons_zero, List.set_cons_succ]
      refine wpAnyH_take (i := 41) (oi := { dst := some 57, op := Op.load 28 (Operand.tmp 3), type := 28, pos := "law.go:23", after := #[{ on := 37, ground := Ground.guard }], guard := some (37, true) }) (v := .agg cs) rfl (by kernel_rfl) (by kernel_rfl) (by kernel_rfl) (fun _ _ _ h => h) (yields_loadV (by rfl) (.tmp 3) (by rfl) _ cs (by rfl) h7 (fun W hW => hx3.below hW)) (by assumption) ?_
      try simp only [Act.put, List.setIfInBounds_toArray, List.set_cons_zero, List.set_cons_succ]
      refine wpAnyH_take (i := 42) (oi := { dst := some 58, op := Op.move (Operand.tmp 2), type := 3, pos := "law.go:23", after := #[{ on := 37, ground := Ground.guard }], guard := some (37, true) }) (v := ?_) rfl (by kernel_rfl) (by kernel_rfl) (by kernel_rfl) (fun _ _ _ h => h) (Or.inl ⟨by rfl, ?_⟩) (by assumption) ?_
      rotate_left
      · intro W hSW; first | (go_simp; done) | (go_simp; with_reducible rfl)
      try simp only [Act.put, List.setIfInBounds_toArray, List.set_cons_zero, List.set_cons_succ]
      refine wpAnyH_loneE (T := fun v W => Below w3.heap.size w3 W ∧ ∃ a c, v = Value.slice a ln2 c ∧ Ints W a ln2 LL) (i := 40) (oi := { dst := some 56, op := Op.call { callee := Callee.value (Operand.func 16), args := #[Operand.tmp 54, Operand.tmp 55], argTypes := #[28, 3] }, type := 25, pos := "law.go:23", after := #[{ on := 38, ground := Ground.data }, { on := 39, ground := Ground.data }, { on := 37, ground := Ground.chain }, { on := 37, ground := Ground.guard }], guard := some (37, true) }) (by kernel_rfl) rfl (fun v W h => h.1) ?_ ?_
      · intro K hK
        go_simp
        refine (HL1.out _ hRw).mono ?_
        rintro e W2 ⟨ta, tc, rfl, hI, hb⟩
        go_wp2_with fail
        exact hK.out _ _ (⟨below_then hRw hb, ta, tc, rfl, hI⟩)
      intro u1b W9 hu1b hHeld
      clear hRw
      obtain ⟨hRw, ta1b, tc1b, rfl, hI1b⟩ := hu1b
      try simp only [Act.put, List.setIfInBounds_toArray, List.set_cons_zero, List.set_cons_succ]
      refine wpAnyH_loneE (T := fun v W => Below w3.heap.size w3 W ∧ Ints W ta1b ln2 LL ∧ ∃ a c, v = Value.slice a ln2 c ∧ Ints W a ln2 LL) (i := 43) (oi := { dst := some 59, op := Op.call { callee := Callee.value (Operand.func 26), args := #[Operand.tmp 57, Operand.tmp 58], argTypes := #[28, 3] }, type := 25, pos := "law.go:23", after := #[{ on := 41, ground := Ground.data }, { on := 42, ground := Ground.data }, { on := 40, ground := Ground.chain }, { on := 37, ground := Ground.guard }], guard := some (37, true) }) (by kernel_rfl) rfl (fun v W h => h.1) ?_ ?_
      · intro K hK
        go_simp
        refine (HL2.out _ hRw).mono ?_
        rintro e W2 ⟨ta, tc, rfl, hI, hb⟩
        go_wp2_with fail
        exact hK.out _ _ (⟨below_then hRw hb, hI1b.below hb, ta, tc, rfl, hI⟩)
      intro u2b W9 hu2b hHeld
      clear hRw hI1b
      obtain ⟨hRw, hI1b, ta2b, tc2b, rfl, hI2b⟩ := hu2b
      try simp only [Act.put, List.setIfInBounds_toArray, List.set_cons_zero, List.set_cons_succ]
      refine wpAnyH_loneE (T := fun v W => v = Value.bool true ∧ Below w3.heap.size w3 W) (i := 44) (oi := { dst := some 60, op := Op.call { callee := Callee.value (Operand.func 24), args := #[Operand.tmp 56, Operand.tmp 59], argTypes := #[25, 25] }, type := 4, pos := "law.go:23", after := #[{ on := 40, ground := Ground.data }, { on := 43, ground := Ground.data }, { on := 43, ground := Ground.chain }, { on := 37, ground := Ground.guard }], guard := some (37, true) }) (by kernel_rfl) rfl (fun v W h => h.2) ?_ ?_
      · intro K hK
        go_simp
        refine (HS2.out _ _ _ _ _ hI1b hI2b).mono ?_
        rintro e W2 ⟨rfl, hb⟩
        go_wp2_with fail
        exact hK.out _ _ (⟨rfl, below_then hRw hb⟩)
      intro u3b W9 hu3b hHeld
      clear hRw hI1b hI2b
      obtain ⟨rfl, hRw⟩ := hu3b
      try simp only [Act.put, List.setIfInBounds_toArray, List.set_cons_zero, List.set_cons_succ]
      refine wpAnyH_take (i := 45) (oi := { dst := some 61, op := Op.pick (Operand.tmp 53) (Operand.tmp 60) (Operand.const (Value.bool false)), type := 4, pos := "law.go:23", after := #[{ on := 37, ground := Ground.data }, { on := 44, ground := Ground.data }], guard := none }) (v := ?_) rfl (by kernel_rfl) (by kernel_rfl) (by kernel_rfl) (fun _ _ _ h => h) (Or.inl ⟨by rfl, ?_⟩) (by assumption) ?_
      rotate_left
      · intro W hSW; first | (go_simp; done) | (go_simp; with_reducible rfl)
      try simp only [Act.put, List.setIfInBounds_toArray, List.set_cons_zero, List.set_cons_succ]
      refine wpAnyH_take (i := 46) (oi := { dst := some 62, op := Op.move (Operand.tmp 61), type := 4, pos := "law.go:23", after := #[{ on := 45, ground := Ground.data }, { on := 44, ground := Ground.chain }], guard := none }) (v := ?_) rfl (by kernel_rfl) (by kernel_rfl) (by kernel_rfl) (fun _ _ _ h => h) (Or.inl ⟨by rfl, ?_⟩) (by assumption) ?_
      rotate_left
      · intro W hSW; first | (go_simp; done) | (go_simp; with_reducible rfl)
      try simp only [Act.put, List.setIfInBounds_toArray, List.set_cons_zero, List.set_cons_succ]
      refine wpAnyH_lone (R := fun W => Below w3.heap.size w3 W) (i := 47) (oi := { dst := some 63, op := Op.call { callee := Callee.value (Operand.func 13), args := #[], argTypes := #[] }, type := 4, pos := "law.go:23", after := #[{ on := 46, ground := Ground.chain }, { on := 46, ground := Ground.guard }], guard := some (46, true) }) (vi := .bool true) (by kernel_rfl) rfl hRw (fun _ h => h) ?_ ?_
      · intro W hW K hK
        go_simp
        refine (HW2.out W hW).mono ?_
        rintro e W2 ⟨rfl, hb⟩
        go_wp2_with fail
        exact hK.out _ (below_then hW hb)
      clear hRw hHeld
      intro W9 hRw hHeld
      try simp only [Act.put, List.setIfInBounds_toArray, List.set_cons_zero, List.set_cons_succ]
      refine wpAnyH_take (i := 48) (oi := { dst := some 64, op := Op.pick (Operand.tmp 62) (Operand.tmp 63) (Operand.const (Value.bool false)), type := 4, pos := "law.go:23", after := #[{ on := 46, ground := Ground.data }, { on := 47, ground := Ground.data }], guard := none }) (v := ?_) rfl (by kernel_rfl) (by kernel_rfl) (by kernel_rfl) (fun _ _ _ h => h) (Or.inl ⟨by rfl, ?_⟩) (by assumption) ?_
      rotate_left
      · intro W hSW; first | (go_simp; done) | (go_simp; with_reducible rfl)
      try simp only [Act.put, List.setIfInBounds_toArray, List.set_cons_zero, List.set_cons_succ]
      refine wpAnyH_take (i := 49) (oi := { dst := some 6, op := Op.assign (Operand.tmp 64), type := 4, pos := "law.go:23", after := #[{ on := 48, ground := Ground.data }, { on := 47, ground := Ground.chain }, { on := 0, ground := Ground.phase }, { on := 1, ground := Ground.phase }, { on := 2, ground := Ground.phase }, { on := 3, ground := Ground.phase }, { on := 4, ground := Ground.phase }, { on := 5, ground := Ground.phase }, { on := 6, ground := Ground.phase }, { on := 7, ground := Ground.phase }, { on := 8, ground := Ground.phase }, { on := 9, ground := Ground.phase }, { on := 10, ground := Ground.phase }, { on := 11, ground := Ground.phase }, { on := 12, ground := Ground.phase }, { on := 13, ground := Ground.phase }, { on := 14, ground := Ground.phase }, { on := 15, ground := Ground.phase }, { on := 16, ground := Ground.phase }, { on := 17, ground := Ground.phase }, { on := 18, ground := Ground.phase }, { on := 19, ground := Ground.phase }, { on := 20, ground := Ground.phase }, { on := 21, ground := Ground.phase }, { on := 22, ground := Ground.phase }, { on := 23, ground := Ground.phase }, { on := 24, ground := Ground.phase }, { on := 25, ground := Ground.phase }, { on := 26, ground := Ground.phase }, { on := 27, ground := Ground.phase }, { on := 28, ground := Ground.phase }, { on := 29, ground := Ground.phase }, { on := 30, ground := Ground.phase }, { on := 31, ground := Ground.phase }, { on := 32, ground := Ground.phase }, { on := 33, ground := Ground.phase }, { on := 34, ground := Ground.phase }, { on := 35, ground := Ground.phase }, { on := 36, ground := Ground.phase }, { on := 37, ground := Ground.phase }, { on := 38, ground := Ground.phase }, { on := 39, ground := Ground.phase }, { on := 40, ground := Ground.phase }, { on := 41, ground := Ground.phase }, { on := 42, ground := Ground.phase }, { on := 43, ground := Ground.phase }, { on := 44, ground := Ground.phase }, { on := 45, ground := Ground.phase }, { on := 46, ground := Ground.phase }, { on := 47, ground := Ground.phase }, { on := 48, ground := Ground.phase }], guard := none }) (v := ?_) rfl (by kernel_rfl) (by kernel_rfl) (by kernel_rfl) (fun _ _ _ h => h) (Or.inl ⟨by rfl, ?_⟩) (by assumption) ?_
      rotate_left
      · intro W hSW; first | (go_simp; done) | (go_simp; with_reducible rfl)
      try simp only [Act.put, List.setIfInBounds_toArray, List.set_cons_zero, List.set_cons_succ]
      refine wpAnyH_done (by kernel_rfl) ?_ _
      go_wp2
      go_ret
      rw [hg]
      exact ⟨rfl, hB3.trans (hRw.mono (by have := hx3.lt; omega))⟩
  · rw [told_no hf]
    clear hI3 hA3
    go_wp2_with fail
    refine (HAW.out _).mono ?_
    rintro e w5 ⟨rfl, hb5⟩
    go_wp2
    go_ret
    rw [hg]
    exact ⟨rfl, hB3.trans (hb5.mono (by have := hx3.lt; omega))⟩

end Go.Proofs.Ytdaagjpigcejaaa
