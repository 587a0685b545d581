/-
  The walk of SpecSame.
-/
import Derived.Test.YthdnldbkpllciaaSsP
import Derived.Test.YthdnldbkpllciaaZ05
import Derived.Test.YthdnldbkpllciaaZ33
import Derived.Deep.CutBlock
import Derived.Handy
namespace Go.Proofs.Ythdnldbkpllciaa
open Go.RowKit

set_option maxRecDepth 10000 in
set_option maxHeartbeats 4000000 in
theorem same12_any (a0 a1 : Int) (_h0 : (Lit.int .i64 a0).wf = true) (_h1 : (Lit.int .i64 a1).wf = true) (w : World) : Calls Try.prog 4 #[.int .i64 a0, .int .i64 a1] w fun e w' => e = .returned (.bool true) ∧ Below w.heap.size w w' := by
  obtain ⟨S, hNum, HR⟩ := spec_numS a0
  have hok := hNum.ok
  have hsane := SaneS.of_ok hok
  clear _h0 _h1
  obtain ⟨h, hh, HP1⟩ := place_ex a1 12 (by omega) (by omega)
  obtain ⟨y, hy⟩ : ∃ y : ByteArray, y = ⟨(specB S).toArray⟩ := ⟨_, rfl⟩
  have HSame : Hid (∀ W u v, SpecW W u S → SpecW W v S → Calls Try.prog 11 #[u, v] W fun e w' => e = .returned (.bool true) ∧ Below W.heap.size W w') := fun W u v hu hv => by have h9 := same_any hu.toV hv.toV; rw [told_yes rfl] at h9; exact h9
  have HB : Hid (∀ W v, SpecW W v S → Calls Try.prog 9 #[v] W fun e w' => e = .returned (.string y) ∧ Below W.heap.size W w') := fun W v hv => by rw [hy]; exact bytes_yes hv hok
  have HOther : Hid (∀ T : SpecM, T ≠ S → ∃ x : ByteArray, (x = ⟨#[]⟩ ∨ (x ≠ ⟨#[]⟩ ∧ x ≠ y)) ∧ (∀ W v, SpecW W v T → Calls Try.prog 9 #[v] W fun e w' => e = .returned (.string x) ∧ Below W.heap.size W w')
      ∧ (∀ W u v, SpecW W u S → SpecW W v T → Calls Try.prog 11 #[u, v] W fun e w' => e = .returned (.bool false) ∧ Below W.heap.size W w')
      ∧ (∀ W u v, SpecW W u T → SpecW W v S → Calls Try.prog 11 #[u, v] W fun e w' => e = .returned (.bool false) ∧ Below W.heap.size W w')) := fun T hT => by
    have h2 : ∀ W u v, SpecW W u S → SpecW W v T → Calls Try.prog 11 #[u, v] W fun e w' => e = .returned (.bool false) ∧ Below W.heap.size W w' := fun W u v hu hv => by have h9 := same_any hu.toV hv.toV; rw [told_no (fun e => hT e.symm)] at h9; exact h9
    have h3 : ∀ W u v, SpecW W u T → SpecW W v S → Calls Try.prog 11 #[u, v] W fun e w' => e = .returned (.bool false) ∧ Below W.heap.size W w' := fun W u v hu hv => by have h9 := same_any hu.toV hv.toV; rw [told_no hT] at h9; exact h9
    by_cases hTk : specOk T
    · by_cases hx : (⟨(specB T).toArray⟩ : ByteArray) = ⟨#[]⟩
      · exact ⟨_, .inl hx, fun W v hv => bytes_yes hv hTk, h2, h3⟩
      · refine ⟨_, .inr ⟨hx, fun e => ?_⟩, fun W v hv => bytes_yes hv hTk, h2, h3⟩
        rw [hy] at e
        have e1 := congrArg (fun b : ByteArray => b.data.toList) e
        exact hT (specB_inj hok hTk (by simpa using e1))
    · exact ⟨⟨#[]⟩, .inl rfl, fun W v hv => bytes_no hv hTk, h2, h3⟩
  have HAW : Hid (∀ W, Calls Try.prog 10 #[] W fun e w' => e = .returned (.bool true) ∧ Below W.heap.size W w') := awake4_any
  clear hy
  replace HR := hide HR
  replace HP1 := hide HP1
  replace hok := hide hok
  replace hsane := hide hsane
  replace hNum := hide hNum
  obtain ⟨g0, hg0⟩ : ∃ g, w.heap.size = g := ⟨_, rfl⟩
  rw [hg0]
  go_enter Try.func4, Try.ntmps4
  go_wp2_with fail
  refine (HR.out _).mono ?_
  rintro e w1 ⟨u, rfl, hO1, hb1⟩
  rw [hg0] at hb1
  have hW1 := hO1.wide hsane.out
  obtain ⟨v1, v2, v3, v4, rfl, hP1, hA1, hI1, hS1⟩ := hO1
  obtain ⟨ks, hks, hP1, hK1⟩ := hP1
  obtain ⟨cs, hcs⟩ : ∃ cs, scells S.id v1 v2 v3 v4 S.start S.delta = cs := ⟨_, rfl⟩
  have h7 : Seven cs := by rw [← hcs]; exact scells_seven S.id S.start S.delta (own_one hP1) (own_one hA1) (own_one hI1) (own_one hS1)
  rw [hcs] at hW1 ⊢
  clear hcs hP1 hA1 hI1 hS1 hK1 hks
  obtain ⟨B, hBd⟩ : ∃ B, w1.heap.size = B := ⟨_, rfl⟩
  have hgB : g0 ≤ B := by have := hb1.size; omega
  have hb10 : Hid (Below g0 w w1) := hb1
  have HW : Hid (∀ W, Below B w1 W → SpecW W (.agg cs) S) := fun W hW => hW1.below (by rw [hBd]; exact hW)
  clear hW1
  go_wp2_with fail
  refine (HR.out _).mono ?_
  rintro e w2 ⟨u, rfl, hO2, hb2⟩
  rw [hBd] at hO2 hb2
  have hW2 := hO2.wide hsane.out
  obtain ⟨u1, u2, u3, u4, rfl, hP2, hA2, hI2, hS2⟩ := hO2
  obtain ⟨ks, hks, hP2, hK2⟩ := hP2
  have ht7 := scells_seven S.id S.start S.delta (own_one hP2) (own_one hA2) (own_one hI2) (own_one hS2)
  obtain ⟨b1, c1, rfl⟩ := ownsRow_form_n hP2 (by have := hok.out.2.2.1.1; omega)
  obtain ⟨b2, c2, rfl⟩ := ownsRow_form_n hA2 (by have := hok.out.2.2.2.1.1; omega)
  obtain ⟨b4, c4, rfl⟩ := ownsRow_form_n hS2 (by have := hok.out.2.1.1; have := hok.out.2.1.2.2.1; omega)
  obtain ⟨b3, c3, rfl⟩ := ownsRow_form_n hI2 (by have := hok.out.2.1.1; omega)
  obtain ⟨gs, hgs⟩ : ∃ g, w2.heap.size = g := ⟨_, rfl⟩
  have hBs : B ≤ gs := by have := hb2.size; omega
  have hO2 : Hid (OwnSpec w2 B (.agg (scells S.id (.slice (some ⟨b1, 0, none⟩) S.parties.length c1) (.slice (some ⟨b2, 0, none⟩) S.arcs.length c2) (.slice (some ⟨b3, 0, none⟩) S.leaders.length c3) (.slice (some ⟨b4, 0, none⟩) S.locks.length c4) S.start S.delta)) S) := ⟨_, _, _, _, rfl, ⟨ks, hks, hP2, hK2⟩, hA2, hI2, hS2⟩
  have hz7 : Seven #[.string ⟨#[]⟩, .slice none 0 0, .slice none 0 0, .slice none 0 0, .slice none 0 0, .int .i64 0, .int .i64 0] := ⟨rfl, fun u hu => by simp at hu; rcases hu with rfl | rfl | rfl <;> rfl⟩
  go_wp2_with (first
    | ((with_reducible refine wpList_at ?_); refine wpList_allocS (by rfl) (by rfl) ?_; intro w3 hv3 hz3 hb3; refine Hid.out ?_))
  unfold Hid
  rw [hgs] at hv3 hz3 hb3
  try rw [hgs]
  have hb23 : Below B w1 w3 := hb2.trans (hb3.mono hBs)
  replace hz3 := hide hz3
  go_wp2_with (first
    | ((with_reducible refine wpList_at ?_); refine wpList_allocS (by rfl) (by rfl) ?_; intro w4 hv4 hz4 hb4; refine Hid.out ?_))
  unfold Hid
  obtain ⟨gt, hgt⟩ : ∃ g, w3.heap.size = g := ⟨_, rfl⟩
  rw [hgt] at hv4 hz4 hb4
  try rw [hgt]
  have hz3 := hz3.out
  have hgst : gs < gt := by omega
  have hs4 : SvAt w4 gs _ := hv3.below (by rw [hgt]; exact hb4)
  have ht4 : SvAt w4 gt _ := hv4
  have hB4 : Below B w1 w4 := hb23.trans (hb4.mono (by omega))
  go_wp2_with (first
    | ((with_reducible refine wpList_at ?_); refine wpList_storeV (by rfl) (.tmp 5) (.tmp 8) (by rfl) gs cs _ (by rfl) (by rfl) hs4 h7 hz7 ?_; intro w5 hs5 hz5 hb5; refine Hid.out ?_))
  unfold Hid
  have ht5 := ht4.but hb5 (by omega)
  go_wp2_with (first
    | ((with_reducible refine wpList_at ?_); refine wpList_storeV (by rfl) (.tmp 6) (.tmp 10) (by rfl) gt _ _ (by rfl) (by rfl) ht5 ht7 hz7 ?_; intro w6 ht6 hz6 hb6; refine Hid.out ?_))
  unfold Hid
  have hs6 := hs5.but hb6 (by omega)
  have hB6 : Below B w1 w6 := (hB4.trans (hb5.below hBs (by omega))).trans (hb6.below (by omega) (by omega))
  have hb26 : Below gs w2 w6 := ((hb3.trans (hb4.mono (by omega))).trans (hb5.below (Nat.le_refl _) (by omega))).trans (hb6.below (by omega) (by omega))
  rw [← hgs] at hb26
  have hO6 : Own4 w6 gt B w6.heap.size _ _ _ _ ks S := ⟨ht6, hks, own_below hP2 hb26, fun j hj => ⟨OwnS.base ((hK2 j hj).below hb26) (Nat.zero_le _), fun k hk => (World.ownsRow.lt ((hK2 j hj).below hb26) k hk).2⟩, hA2.below hb26, hI2.below hb26, hS2.below hb26⟩
  have hWT : Hid (∀ W, Below w6.heap.size w6 W → SpecW W (.agg (scells S.id (.slice (some ⟨b1, 0, none⟩) S.parties.length c1) (.slice (some ⟨b2, 0, none⟩) S.arcs.length c2) (.slice (some ⟨b3, 0, none⟩) S.leaders.length c3) (.slice (some ⟨b4, 0, none⟩) S.locks.length c4) S.start S.delta)) S) := fun W hW => (hO6.wide hsane.out).below hW
  have hKB : Hid (∀ j, j < S.parties.length → ∀ k, (ks.getD j undef).ownBlock = some k → B ≤ k) := fun j hj k hk => (World.ownsRow.lt (hK2 j hj) k hk).1
  replace hO6 := hide hO6
  clear hP2 hK2 hA2 hI2 hS2 hO2 hW2 hb1 hb2 hb3 hb4 hb5 hb6 hv3 hv4 hz3 hz4 hz5 hz6 hs4 ht4 hs5 ht5 hB4 hb23 hb26 hz7 HR
  obtain ⟨ct, hct⟩ : ∃ ct, scells S.id (.slice (some ⟨b1, 0, none⟩) S.parties.length c1) (.slice (some ⟨b2, 0, none⟩) S.arcs.length c2) (.slice (some ⟨b3, 0, none⟩) S.leaders.length c3) (.slice (some ⟨b4, 0, none⟩) S.locks.length c4) S.start S.delta = ct := ⟨_, rfl⟩
  rw [hct] at ht6 ht7 hWT ⊢
  replace hct := hide hct
  replace hgst := hide hgst
  go_upto_region 2 with fail
  have hRw : Below w6.heap.size w6 w6.drew := ⟨rfl, rfl, rfl, Nat.le_refl _, fun _ _ => rfl⟩
  refine wp_region_held_drew (S := fun W => Below w6.heap.size w6 W) (by kernel_rfl) hRw (fun hHeld => ?_)
  refine wpAnyH_take (i := 0) (oi := { dst := some 11, op := Op.load 27 (Operand.tmp 5), type := 27, pos := "outright.go:12", after := #[], guard := none }) (v := .agg cs) rfl (by kernel_rfl) (by kernel_rfl) (by kernel_rfl) (fun _ _ _ h => h) (yields_loadV (by rfl) (.tmp 5) (by rfl) _ cs (by rfl) h7 (fun W hW => hs6.below hW)) (by assumption) ?_
  try simp only [Act.put, List.setIfInBounds_toArray, List.set_cons_zero, List.set_cons_succ]
  refine wpAnyH_take (i := 1) (oi := { dst := some 12, op := Op.load 27 (Operand.tmp 6), type := 27, pos := "outright.go:12", after := #[], guard := none }) (v := .agg ct) rfl (by kernel_rfl) (by kernel_rfl) (by kernel_rfl) (fun _ _ _ h => h) (yields_loadV (by rfl) (.tmp 6) (by rfl) _ ct (by rfl) ht7 (fun W hW => ht6.below hW)) (by assumption) ?_
  try simp only [Act.put, List.setIfInBounds_toArray, List.set_cons_zero, List.set_cons_succ]
  refine wpAnyH_lone (R := fun W => Below w6.heap.size w6 W) (i := 2) (oi := { dst := some 13, op := Op.call { callee := Callee.value (Operand.func 11), args := #[Operand.tmp 11, Operand.tmp 12], argTypes := #[27, 27] }, type := 4, pos := "outright.go:12", after := #[{ on := 0, ground := Ground.data }, { on := 1, ground := Ground.data }], guard := none }) (vi := .bool true) (by kernel_rfl) rfl hRw (fun _ h => h) ?_ ?_
  · intro W hW K hK
    go_simp
    refine (HSame.out W _ _ (HW.out W (hB6.trans (hW.mono (by have := hB6.size; omega)))) (hWT.out W hW)).mono ?_
    rintro e W2 ⟨rfl, hb⟩
    go_wp2_with fail
    exact hK.out _ (below_then hW hb)
  clear hRw hHeld
  intro W9 hRw hHeld
  try simp only [Act.put, List.setIfInBounds_toArray, List.set_cons_zero, List.set_cons_succ]
  refine wpAnyH_take (i := 3) (oi := { dst := some 14, op := Op.unOp UnOp.not 4 (Operand.tmp 13), type := 4, pos := "outright.go:12", after := #[{ on := 2, ground := Ground.data }], guard := none }) (v := ?_) rfl (by kernel_rfl) (by kernel_rfl) (by kernel_rfl) (fun _ _ _ h => h) (Or.inl ⟨by rfl, ?_⟩) (by assumption) ?_
  rotate_left
  · intro W hSW; first | (go_simp; done) | (go_simp; with_reducible rfl)
  try simp only [Act.put, List.setIfInBounds_toArray, List.set_cons_zero, List.set_cons_succ]
  refine wpAnyH_take (i := 4) (oi := { dst := some 15, op := Op.move (Operand.tmp 14), type := 4, pos := "outright.go:12", after := #[{ on := 3, ground := Ground.data }, { on := 2, ground := Ground.chain }], guard := none }) (v := ?_) rfl (by kernel_rfl) (by kernel_rfl) (by kernel_rfl) (fun _ _ _ h => h) (Or.inl ⟨by rfl, ?_⟩) (by assumption) ?_
  rotate_left
  · intro W hSW; first | (go_simp; done) | (go_simp; with_reducible rfl)
  try simp only [Act.put, List.setIfInBounds_toArray, List.set_cons_zero, List.set_cons_succ]
  refine wpAnyH_take (i := 5) (oi := { dst := some 16, op := Op.load 27 (Operand.tmp 5), type := 27, pos := "outright.go:12", after := #[{ on := 4, ground := Ground.guard }], guard := some (4, false) }) (v := .agg cs) rfl (by kernel_rfl) (by kernel_rfl) (by kernel_rfl) (fun _ _ _ h => h) (yields_loadV (by rfl) (.tmp 5) (by rfl) _ cs (by rfl) h7 (fun W hW => hs6.below hW)) (by assumption) ?_
  try simp only [Act.put, List.setIfInBounds_toArray, List.set_cons_zero, List.set_cons_succ]
  refine wpAnyH_take (i := 7) (oi := { dst := some 18, op := Op.load 27 (Operand.tmp 6), type := 27, pos := "outright.go:12", after := #[{ on := 4, ground := Ground.guard }], guard := some (4, false) }) (v := .agg ct) rfl (by kernel_rfl) (by kernel_rfl) (by kernel_rfl) (fun _ _ _ h => h) (yields_loadV (by rfl) (.tmp 6) (by rfl) _ ct (by rfl) ht7 (fun W hW => ht6.below hW)) (by assumption) ?_
  try simp only [Act.put, List.setIfInBounds_toArray, List.set_cons_zero, List.set_cons_succ]
  refine wpAnyH_lone (R := fun W => Below w6.heap.size w6 W) (i := 6) (oi := { dst := some 17, op := Op.call { callee := Callee.value (Operand.func 9), args := #[Operand.tmp 16], argTypes := #[27] }, type := 9, pos := "outright.go:12", after := #[{ on := 5, ground := Ground.data }, { on := 4, ground := Ground.chain }, { on := 4, ground := Ground.guard }], guard := some (4, false) }) (vi := .string y) (by kernel_rfl) rfl hRw (fun _ h => h) ?_ ?_
  · intro W hW K hK
    go_simp
    refine (HB.out W _ (HW.out W (hB6.trans (hW.mono (by have := hB6.size; omega))))).mono ?_
    rintro e W2 ⟨rfl, hb⟩
    go_wp2_with fail
    exact hK.out _ (below_then hW hb)
  clear hRw hHeld
  intro W9 hRw hHeld
  try simp only [Act.put, List.setIfInBounds_toArray, List.set_cons_zero, List.set_cons_succ]
  refine wpAnyH_lone (R := fun W => Below w6.heap.size w6 W) (i := 8) (oi := { dst := some 19, op := Op.call { callee := Callee.value (Operand.func 9), args := #[Operand.tmp 18], argTypes := #[27] }, type := 9, pos := "outright.go:12", after := #[{ on := 7, ground := Ground.data }, { on := 6, ground := Ground.chain }, { on := 4, ground := Ground.guard }], guard := some (4, false) }) (vi := .string y) (by kernel_rfl) rfl hRw (fun _ h => h) ?_ ?_
  · intro W hW K hK
    go_simp
    refine (HB.out W _ (hWT.out W hW)).mono ?_
    rintro e W2 ⟨rfl, hb⟩
    go_wp2_with fail
    exact hK.out _ (below_then hW hb)
  clear hRw hHeld
  intro W9 hRw hHeld
  try simp only [Act.put, List.setIfInBounds_toArray, List.set_cons_zero, List.set_cons_succ]
  refine wpAnyH_take (i := 9) (oi := { dst := some 20, op := Op.binOp BinOp.neq 9 (Operand.tmp 17) (Operand.tmp 19) 9, type := 4, pos := "outright.go:12", after := #[{ on := 6, ground := Ground.data }, { on := 8, ground := Ground.data }, { on := 4, ground := Ground.guard }], guard := some (4, false) }) (v := ?_) rfl (by kernel_rfl) (by kernel_rfl) (by kernel_rfl) (fun _ _ _ h => h) (Or.inl ⟨by rfl, ?_⟩) (by assumption) ?_
  rotate_left
  · intro W hSW; first | (go_simp; done) | (go_simp; with_reducible rfl)
  try simp only [Act.put, List.setIfInBounds_toArray, List.set_cons_zero, List.set_cons_succ]
  refine wpAnyH_take (i := 10) (oi := { dst := some 21, op := Op.pick (Operand.tmp 15) (Operand.const (Value.bool true)) (Operand.tmp 20), type := 4, pos := "outright.go:12", after := #[{ on := 4, ground := Ground.data }, { on := 9, ground := Ground.data }], guard := none }) (v := ?_) rfl (by kernel_rfl) (by kernel_rfl) (by kernel_rfl) (fun _ _ _ h => h) (Or.inl ⟨by rfl, ?_⟩) (by assumption) ?_
  rotate_left
  · intro W hSW; first | (go_simp; done) | (go_simp; with_reducible rfl)
  try simp only [Act.put, List.setIfInBounds_toArray, List.set_cons_zero, List.set_cons_succ]
  refine wpAnyH_done (by kernel_rfl) ?_ _
  have hs7 := hs6.below hRw
  have ht7' := ht6.below hRw
  have hB7 : Below B w1 W9 := hB6.trans (hRw.mono (by have := hB6.size; omega))
  have hO7 : Own4 W9 gt B w6.heap.size (.slice (some ⟨b1, 0, none⟩) S.parties.length c1) (.slice (some ⟨b2, 0, none⟩) S.arcs.length c2) (.slice (some ⟨b3, 0, none⟩) S.leaders.length c3) (.slice (some ⟨b4, 0, none⟩) S.locks.length c4) ks S := by
    obtain ⟨q1, q2, q3, q4, q5, q6, q7⟩ := hO6.out
    exact ⟨q1.below hRw, q2, own_below q3 hRw, fun j hj => (q4 j hj).kept (below_grown hRw) (by cases (ks.getD j undef).ownBlock <;> simp), q5.below hRw, q6.below hRw, q7.below hRw⟩
  obtain ⟨H, hHd⟩ : ∃ H, w6.heap.size = H := ⟨_, rfl⟩
  rw [hHd] at hO7
  clear hHd hO6 hs6 ht6 hB6 hWT hRw hHeld ht7' ht7 hct
  go_wp2_with fail
  refine (HP1.out _).mono ?_
  rintro e w0 ⟨rfl, hw0⟩
  subst w0
  go_upto_block 0 with fail
  clear HP1
  obtain ⟨p0, p1', P, hP⟩ : ∃ p0 p1 P, S.parties = p0 :: p1 :: P := list_two (by have := hok.out.2.2.1.1; omega)
  obtain ⟨l0, L, hL⟩ : ∃ x l, S.leaders = x :: l := list_one (by have := hok.out.2.1.1; omega)
  obtain ⟨k0, K, hK⟩ : ∃ x l, S.locks = x :: l := list_one (by have := hok.out.2.1.1; have := hok.out.2.1.2.2.1; omega)
  obtain ⟨a0, A, hA⟩ : ∃ x l, S.arcs = x :: l := list_one (by have := hok.out.2.2.2.1.1; omega)
  obtain ⟨_, hb1, x10, x11, x12, fz1⟩ := hO7.partAt p0 p1' P hP
  obtain ⟨_, hb2, x20, x21, x22, x23, x24, fz2⟩ := hO7.arcAt a0 A hA
  obtain ⟨_, hb3, x30, fz3⟩ := hO7.leadAt l0 L hL
  obtain ⟨_, hb4, x40, fz4⟩ := hO7.lockAt k0 K hK
  obtain ⟨y0, y1, y2, y3, y4, y5, y6⟩ := hO7.sv.cells
  have yf := hO7.sv.frozen
  have m1 : 0 < S.parties.length := by rw [hP]; simp
  have m2 : 0 < S.arcs.length := by rw [hA]; simp
  have m3 : 0 < S.leaders.length := by rw [hL]; simp
  have m4 : 0 < S.locks.length := by rw [hK]; simp
  have sP : Hid (PartySane p0 ∧ PartySane p1' ∧ ∀ p ∈ P, PartySane p) := by
    have h9 := all_getDW _ _ _ hsane.out.pa
    rw [hP] at h9
    exact ⟨h9 p0 (by simp), h9 p1' (by simp), fun p hp => h9 p (by simp [hp])⟩
  have sA : Hid (ArcSane a0 ∧ ∀ p ∈ A, ArcSane p) := by
    have h9 := all_getDW _ _ _ hsane.out.ar
    rw [hA] at h9
    exact ⟨h9 a0 (by simp), fun p hp => h9 p (by simp [hp])⟩
  have sL : Hid (∀ p ∈ S.leaders, In64 p) := all_getDW _ _ _ hsane.out.le
  have nP2 : 2 ≤ S.parties.length := hok.out.2.2.1.1
  have nA : Hid (A.length ≤ 11) := by have h9 := hok.out.2.2.2.1.2.1; rw [hA] at h9; simp at h9; show A.length ≤ 11; omega
  have nL : Hid (S.leaders.length ≤ 3) := hok.out.2.1.2.1
  have nP : Hid (P.length ≤ 4) := by have h9 := hok.out.2.2.1.2.1; rw [hP] at h9; simp at h9; show P.length ≤ 4; omega
  have am0 : Hid ((1 : Int) ≤ a0.amount ∧ a0.amount ≤ 1125899906842624 ∧ a0.src ≠ a0.dst ∧ a0.ledger < 3 ∧ (a0.asset = gold ∨ a0.asset = salt)) := by
    have h9 := (hok.out.2.2.2.1.2.2 0 m2).1
    have h8 := hNum.out.ar a0 (by rw [hA]; simp)
    rw [hA] at h9
    exact ⟨h9.2.2.2.2.2.2.2.2.1, h9.2.2.2.2.2.2.2.2.2, h9.2.2.2.2.1, h8.1, h8.2⟩
  have acc0 : Hid (p0.acc = accB 0) := by have h9 := hNum.out.p0; rw [hP] at h9; exact h9
  have key00 : Hid (p0.keys.getD 0 ByteArray.empty = keyOf 0 0) := by have h9 := hNum.out.k0; rw [hP] at h9; exact h9
  have lock00 : Hid (k0 = lockOf 0) := by have h9 := hNum.out.l0; rw [hK] at h9; exact h9
  have nK0 : Hid (1 ≤ p0.keys.length) := by have h9 := (hok.out.2.2.1.2.2 0 m1).2.1; rw [hP] at h9; have h8 : p0.keys.length = S.leaders.length := h9; show 1 ≤ p0.keys.length; omega
  have e1s : some gs ≠ some b1 := by have := svat_apart hs7 hO7.pr (by decide); exact this
  have e2s : some gs ≠ some b2 := by have := svat_apart hs7 hO7.ar (by decide); exact this
  have e4s : some gs ≠ some b4 := by have := svat_apart hs7 hO7.lo (by decide); exact this
  have n1s : gs ≠ b1 := fun e => e1s (by rw [e])
  have n2s : gs ≠ b2 := fun e => e2s (by rw [e])
  have n4s : gs ≠ b4 := fun e => e4s (by rw [e])
  have nts : gs ≠ gt := by have := hgst.out; omega
  have hBt : B ≤ gt := by have := hgst.out; omega
  clear e1s e2s e4s
  replace n1s := hide n1s
  replace n2s := hide n2s
  replace n4s := hide n4s
  replace nts := hide nts
  replace hP := hide hP
  replace hL := hide hL
  replace hK := hide hK
  replace hA := hide hA
  replace hO7 := hide hO7
  replace hs7 := hide hs7
  go_cut [] from 24 to 111 (fun wx => OtherAt gs gt B cs w1 S wx)
  case first =>
    have hcase : h = 0 ∨ h = 1 ∨ h = 2 ∨ h = 3 ∨ h = 4 ∨ h = 5 ∨ h = 6 ∨ h = 7 ∨ h = 8 ∨ h = 9 ∨ h = 10 ∨ h = 11 := by omega
    rcases hcase with rfl | rfl | rfl | rfl | rfl | rfl | rfl | rfl | rfl | rfl | rfl | rfl
    · clear fz1 fz2 fz3 fz4 x10 x11 x12 x20 x21 x22 x23 x24 x30 x40 y1 y2 y3 y4 y5 y6
      go_wp2_with fail
      go_meet
      case rel => exact Own4.other (hO7.out.re (But.setCell _ _ _ _) ⟨#[111, 116, 104, 101, 114]⟩ S.start S.delta (hO7.out.sv.set0 _)) ({ hsane.out with id := by show (5 : Nat) ≤ 1000; omega }) (fun e => by have e1 := congrArg SpecM.id e; simp only at e1; rw [hNum.out.id] at e1; revert e1; decide) nP2 (hs7.out.but (But.setCell _ gt 0 _) nts.out) (hB7.setCell (p := ⟨gt, 0, none⟩) (by show B ≤ gt; omega) _)
    · clear fz2 fz3 fz4 x11 x12 x20 x21 x22 x23 x24 x30 x40 y0 y2 y3 y4 y5 y6
      go_wp2_with fail
      go_meet
      case rel =>
        obtain ⟨i0, i1, iP⟩ := sP.out
        have hT := hO7.out.acc 0 m1 ⟨#[111, 116, 104, 101, 114]⟩
        have eT : S.parties.set 0 ⟨⟨#[111, 116, 104, 101, 114]⟩, (S.parties.getD 0 noParty).keys⟩ = ⟨⟨#[111, 116, 104, 101, 114]⟩, p0.keys⟩ :: p1' :: P := by rw [hP.out]; rfl
        rw [eT] at hT
        exact Own4.other hT (hsane.out.parts _ (by have := nP.out; simp; omega) (fun p hp => by rcases List.mem_cons.1 hp with rfl | hp; exact ⟨by show (5 : Nat) ≤ 1000; omega, i0.2⟩; rcases List.mem_cons.1 hp with rfl | hp; exact i1; exact iP p hp)) (fun e => by have e1 := congrArg SpecM.parties e; simp only at e1; rw [hP.out] at e1; injection e1 with e1 _; have e2 := congrArg PartyM.acc e1; simp only at e2; rw [acc0.out] at e2; revert e2; decide) (by simp) (hs7.out.but (But.setCell _ b1 0 _) n1s.out) (hB7.setCell (p := ⟨b1, 0, none⟩) (by show B ≤ b1; omega) _)
    · clear fz2 fz3 fz4 x10 x12 x20 x21 x22 x23 x24 x30 x40 y0 y2 y3 y4 y5 y6
      have hky := (hO7.out.ky 0 m1).1
      rw [hP.out] at hky
      change OwnS W9 0 (ks.getD 0 undef) p0.keys at hky
      obtain ⟨kb, kc, hks0⟩ := ownsRow_form_n hky nK0.out
      have hkB : B ≤ kb := hKB.out 0 m1 kb (by rw [hks0]; rfl)
      rw [hks0] at x11 hky
      unfold OwnS at hky
      have hkc := World.ownsRow.cellAt hky 0 (by have := nK0.out; omega)
      have hkf := World.ownsRow.frozenAt hky 0
      have nk0 : 0 < p0.keys.length := nK0.out
      rw [show (p0.keys.map Value.string)[0]? = some (.string (p0.keys.getD 0 ByteArray.empty)) by rw [List.getElem?_map, List.getElem?_eq_getElem nk0, List.getD_eq_getElem?_getD, List.getElem?_eq_getElem nk0]; rfl] at hkc
      have nks : gs ≠ kb := fun e => by have h9 := svat_apart hs7.out hky (by decide); exact h9 (by rw [e]; rfl)
      replace nks := hide nks
      replace hky := hide hky
      go_wp2_with fail
      go_meet
      case rel =>
        obtain ⟨T, hT, hTs, hTl, hTk, _⟩ := hO7.out.text (kb := kb) (x := ⟨#[48, 49, 50, 51, 52, 53, 54, 55, 56, 57, 97, 98, 99, 100, 101, 102]⟩) hsane.out (by show (16 : Nat) ≤ 1000; omega) hky.out rfl
        exact Own4.other hT hTs (fun e => by have e1 := hTk (by rw [hks0]; rfl) m1 (by rw [hP.out]; exact nk0); rw [e, hP.out] at e1; rw [show ((p0 :: p1' :: P).getD 0 noParty).keys = p0.keys from rfl, key00.out] at e1; exact key0_other e1) (by omega) (hs7.out.but (But.setCell _ kb 0 _) nks.out) (hB7.setCell (p := ⟨kb, 0, none⟩) (by show B ≤ kb; omega) _)
    · clear fz1 fz3 fz4 x10 x11 x12 x20 x21 x23 x24 x30 x40 y0 y1 y3 y4 y5 y6
      go_wp2_with fail
      go_meet
      case rel =>
        obtain ⟨⟨i1, i2, i3, i4, i5⟩, iA⟩ := sA.out
        obtain ⟨am1, am2, am3, am4, am5⟩ := am0.out
        exact Own4.other (hO7.out.arc a0 ⟨a0.src, a0.dst, 3, a0.asset, a0.amount⟩ A hA.out 2 _ (by omega) rfl) (hsane.out.arcs' _ (by have := nA.out; simp; omega) (fun p hp => by rcases List.mem_cons.1 hp with rfl | hp; exact ⟨i1, i2, ⟨by show _ ≤ (3 : Int); omega, by show (3 : Int) ≤ _; omega⟩, i4, i5⟩; exact iA p hp)) (fun e => by have e1 := congrArg SpecM.arcs e; simp only at e1; rw [hA.out] at e1; injection e1 with e1 _; have e2 := congrArg ArcM.ledger e1; simp only at e2; omega) nP2 (hs7.out.but (But.setCell _ b2 2 _) n2s.out) (hB7.setCell (p := ⟨b2, 2, none⟩) (by show B ≤ b2; omega) _)
    · clear fz1 fz3 fz4 x10 x11 x12 x20 x21 x22 x24 x30 x40 y0 y1 y3 y4 y5 y6
      go_wp2_with fail
      go_meet
      case rel =>
        obtain ⟨⟨i1, i2, i3, i4, i5⟩, iA⟩ := sA.out
        obtain ⟨am1, am2, am3, am4, am5⟩ := am0.out
        exact Own4.other (hO7.out.arc a0 ⟨a0.src, a0.dst, a0.ledger, ⟨#[105, 114, 111, 110]⟩, a0.amount⟩ A hA.out 3 _ (by omega) rfl) (hsane.out.arcs' _ (by have := nA.out; simp; omega) (fun p hp => by rcases List.mem_cons.1 hp with rfl | hp; exact ⟨i1, i2, i3, i4, by show (4 : Nat) ≤ 1000; omega⟩; exact iA p hp)) (fun e => by have e1 := congrArg SpecM.arcs e; simp only at e1; rw [hA.out] at e1; injection e1 with e1 _; have e2 := congrArg ArcM.asset e1; simp only at e2; rcases am5 with h9 | h9 <;> (rw [h9] at e2; revert e2; decide)) nP2 (hs7.out.but (But.setCell _ b2 3 _) n2s.out) (hB7.setCell (p := ⟨b2, 3, none⟩) (by show B ≤ b2; omega) _)
    · clear fz1 fz3 fz4 x10 x11 x12 x20 x21 x22 x23 x30 x40 y0 y1 y3 y4 y5 y6
      have am1 := am0.out.1
      have am2 := am0.out.2.1
      go_wp2_with fail
      go_meet
      case rel =>
        obtain ⟨⟨i1, i2, i3, i4, i5⟩, iA⟩ := sA.out
        obtain ⟨am1, am2, am3, am4, am5⟩ := am0.out
        exact Own4.other (hO7.out.arc a0 ⟨a0.src, a0.dst, a0.ledger, a0.asset, a0.amount + 1⟩ A hA.out 4 _ (by omega) rfl) (hsane.out.arcs' _ (by have := nA.out; simp; omega) (fun p hp => by rcases List.mem_cons.1 hp with rfl | hp; exact ⟨i1, i2, i3, ⟨by show _ ≤ a0.amount + 1; omega, by show a0.amount + 1 ≤ _; omega⟩, i5⟩; exact iA p hp)) (fun e => by have e1 := congrArg SpecM.arcs e; simp only at e1; rw [hA.out] at e1; injection e1 with e1 _; have e2 := congrArg ArcM.amount e1; simp only at e2; omega) nP2 (hs7.out.but (But.setCell _ b2 4 _) n2s.out) (hB7.setCell (p := ⟨b2, 4, none⟩) (by show B ≤ b2; omega) _)
    · clear fz1 fz3 fz4 x10 x11 x12 x22 x23 x24 x30 x40 y0 y1 y3 y4 y5 y6
      have e2t : some gt ≠ some b2 := by have := sv_apart hO7.out.sv hO7.out.ar (by decide); exact this
      go_upto_region 19 with fail
      have HS1 : Below W9.heap.size W9 W9.drew := ⟨rfl, rfl, rfl, Nat.le_refl _, fun _ _ => rfl⟩
      have HS2 : W9.grownBy W9.drew (some b2) := ⟨rfl, rfl, rfl, Nat.le_refl _, fun _ _ _ => rfl⟩
      refine wp_region_M 16 (fun W => Below W9.heap.size W9 W) 19 (fun W => W9.grownBy W (some b2)) (by kernel_rfl) ?_
      refine wpAnyM_pure (i := 0) (oi := { dst := some 69, op := Op.fieldAddr 27 (Operand.tmp 6) 2, type := 0, pos := "outright.go:29", after := #[], guard := none }) (v := ?_) rfl (by kernel_rfl) (by kernel_rfl) (by kernel_rfl) (fun _ _ _ h => h) (by decide) (by decide) (Or.inl ⟨by rfl, ?_⟩) (fun _ => HS1) (fun _ => HS2) ?_
      rotate_left
      · intro W hSW; first | (go_simp; done) | (go_simp; with_reducible rfl)
      try simp only [Act.put, List.setIfInBounds_toArray, List.set_cons_zero, List.set_cons_succ]
      refine wpAnyM_take (i := 1) (oi := { dst := some 70, op := Op.load 23 (Operand.tmp 69), type := 23, pos := "outright.go:29", after := #[{ on := 0, ground := Ground.data }], guard := none }) (v := ?_) rfl (by kernel_rfl) (by kernel_rfl) (by kernel_rfl) (fun _ _ _ h => h) (by decide) (by decide) (by kernel_rfl) (by kernel_rfl) (by kernel_rfl) (Or.inl ⟨by rfl, ?_⟩) HS1 (fun _ => HS2) ?_
      rotate_left
      · intro W hSW; have z := cell_on hSW y2; first | (go_simp; done) | (go_simp; with_reducible rfl)
      try simp only [Act.put, List.setIfInBounds_toArray, List.set_cons_zero, List.set_cons_succ]
      refine wpAnyM_pure (i := 2) (oi := { dst := some 71, op := Op.fieldAddr 27 (Operand.tmp 6) 2, type := 0, pos := "outright.go:29", after := #[{ on := 16, ground := Ground.gcOnly Departure.lateStores }], guard := none }) (v := ?_) rfl (by kernel_rfl) (by kernel_rfl) (by kernel_rfl) (fun _ _ _ h => h) (by decide) (by decide) (Or.inl ⟨by rfl, ?_⟩) (fun _ => HS1) (fun _ => HS2) ?_
      rotate_left
      · intro W hSW; first | (go_simp; done) | (go_simp; with_reducible rfl)
      try simp only [Act.put, List.setIfInBounds_toArray, List.set_cons_zero, List.set_cons_succ]
      refine wpAnyM_take2 (i := 3) (oi := { dst := some 72, op := Op.load 23 (Operand.tmp 71), type := 23, pos := "outright.go:29", after := #[{ on := 2, ground := Ground.data }, { on := 16, ground := Ground.gcOnly Departure.lateStores }], guard := none }) (v := ?_) rfl (by kernel_rfl) (by kernel_rfl) (by kernel_rfl) (fun _ _ _ h => h) (by decide) (by decide) (by kernel_rfl) (by kernel_rfl) (by kernel_rfl) (Or.inl ⟨by rfl, ?_⟩) (fun _ => HS1) HS2 ?_
      rotate_left
      · intro W hSW; have z := hSW.cell y2 e2t; first | (go_simp; done) | (go_simp; with_reducible rfl)
      try simp only [Act.put, List.setIfInBounds_toArray, List.set_cons_zero, List.set_cons_succ]
      refine wpAnyM_pure (i := 4) (oi := { dst := some 73, op := Op.fieldAddr 27 (Operand.tmp 6) 2, type := 0, pos := "outright.go:29", after := #[], guard := none }) (v := ?_) rfl (by kernel_rfl) (by kernel_rfl) (by kernel_rfl) (fun _ _ _ h => h) (by decide) (by decide) (Or.inl ⟨by rfl, ?_⟩) (fun _ => HS1) (fun _ => HS2) ?_
      rotate_left
      · intro W hSW; first | (go_simp; done) | (go_simp; with_reducible rfl)
      try simp only [Act.put, List.setIfInBounds_toArray, List.set_cons_zero, List.set_cons_succ]
      refine wpAnyM_take (i := 5) (oi := { dst := some 74, op := Op.load 23 (Operand.tmp 73), type := 23, pos := "outright.go:29", after := #[{ on := 4, ground := Ground.data }], guard := none }) (v := ?_) rfl (by kernel_rfl) (by kernel_rfl) (by kernel_rfl) (fun _ _ _ h => h) (by decide) (by decide) (by kernel_rfl) (by kernel_rfl) (by kernel_rfl) (Or.inl ⟨by rfl, ?_⟩) HS1 (fun _ => HS2) ?_
      rotate_left
      · intro W hSW; have z := cell_on hSW y2; first | (go_simp; done) | (go_simp; with_reducible rfl)
      try simp only [Act.put, List.setIfInBounds_toArray, List.set_cons_zero, List.set_cons_succ]
      refine wpAnyM_pure (i := 6) (oi := { dst := some 75, op := Op.indexAddr 23 (Operand.tmp 74) (Operand.const (Value.int IntKind.i64 0)), type := 0, pos := "outright.go:29", after := #[{ on := 5, ground := Ground.data }], guard := none }) (v := ?_) rfl (by kernel_rfl) (by kernel_rfl) (by kernel_rfl) (fun _ _ _ h => h) (by decide) (by decide) (Or.inl ⟨by rfl, ?_⟩) (fun _ => HS1) (fun _ => HS2) ?_
      rotate_left
      · intro W hSW; first | (go_simp; done) | (go_simp; with_reducible rfl)
      try simp only [Act.put, List.setIfInBounds_toArray, List.set_cons_zero, List.set_cons_succ]
      refine wpAnyM_pure (i := 7) (oi := { dst := some 76, op := Op.fieldAddr 34 (Operand.tmp 75) 1, type := 0, pos := "outright.go:29", after := #[{ on := 6, ground := Ground.data }], guard := none }) (v := ?_) rfl (by kernel_rfl) (by kernel_rfl) (by kernel_rfl) (fun _ _ _ h => h) (by decide) (by decide) (Or.inl ⟨by rfl, ?_⟩) (fun _ => HS1) (fun _ => HS2) ?_
      rotate_left
      · intro W hSW; first | (go_simp; done) | (go_simp; with_reducible rfl)
      try simp only [Act.put, List.setIfInBounds_toArray, List.set_cons_zero, List.set_cons_succ]
      refine wpAnyM_take (i := 8) (oi := { dst := some 77, op := Op.load 3 (Operand.tmp 76), type := 3, pos := "outright.go:29", after := #[{ on := 7, ground := Ground.data }], guard := none }) (v := ?_) rfl (by kernel_rfl) (by kernel_rfl) (by kernel_rfl) (fun _ _ _ h => h) (by decide) (by decide) (by kernel_rfl) (by kernel_rfl) (by kernel_rfl) (Or.inl ⟨by rfl, ?_⟩) HS1 (fun _ => HS2) ?_
      rotate_left
      · intro W hSW; have z := cell_on hSW x21; first | (go_simp; done) | (go_simp; with_reducible rfl)
      try simp only [Act.put, List.setIfInBounds_toArray, List.set_cons_zero, List.set_cons_succ]
      refine wpAnyM_pure (i := 9) (oi := { dst := some 78, op := Op.fieldAddr 27 (Operand.tmp 6) 2, type := 0, pos := "outright.go:29", after := #[], guard := none }) (v := ?_) rfl (by kernel_rfl) (by kernel_rfl) (by kernel_rfl) (fun _ _ _ h => h) (by decide) (by decide) (Or.inl ⟨by rfl, ?_⟩) (fun _ => HS1) (fun _ => HS2) ?_
      rotate_left
      · intro W hSW; first | (go_simp; done) | (go_simp; with_reducible rfl)
      try simp only [Act.put, List.setIfInBounds_toArray, List.set_cons_zero, List.set_cons_succ]
      refine wpAnyM_take (i := 10) (oi := { dst := some 79, op := Op.load 23 (Operand.tmp 78), type := 23, pos := "outright.go:29", after := #[{ on := 9, ground := Ground.data }], guard := none }) (v := ?_) rfl (by kernel_rfl) (by kernel_rfl) (by kernel_rfl) (fun _ _ _ h => h) (by decide) (by decide) (by kernel_rfl) (by kernel_rfl) (by kernel_rfl) (Or.inl ⟨by rfl, ?_⟩) HS1 (fun _ => HS2) ?_
      rotate_left
      · intro W hSW; have z := cell_on hSW y2; first | (go_simp; done) | (go_simp; with_reducible rfl)
      try simp only [Act.put, List.setIfInBounds_toArray, List.set_cons_zero, List.set_cons_succ]
      refine wpAnyM_pure (i := 11) (oi := { dst := some 80, op := Op.indexAddr 23 (Operand.tmp 79) (Operand.const (Value.int IntKind.i64 0)), type := 0, pos := "outright.go:29", after := #[{ on := 10, ground := Ground.data }], guard := none }) (v := ?_) rfl (by kernel_rfl) (by kernel_rfl) (by kernel_rfl) (fun _ _ _ h => h) (by decide) (by decide) (Or.inl ⟨by rfl, ?_⟩) (fun _ => HS1) (fun _ => HS2) ?_
      rotate_left
      · intro W hSW; first | (go_simp; done) | (go_simp; with_reducible rfl)
      try simp only [Act.put, List.setIfInBounds_toArray, List.set_cons_zero, List.set_cons_succ]
      refine wpAnyM_pure (i := 12) (oi := { dst := some 81, op := Op.fieldAddr 34 (Operand.tmp 80) 0, type := 0, pos := "outright.go:29", after := #[{ on := 11, ground := Ground.data }], guard := none }) (v := ?_) rfl (by kernel_rfl) (by kernel_rfl) (by kernel_rfl) (fun _ _ _ h => h) (by decide) (by decide) (Or.inl ⟨by rfl, ?_⟩) (fun _ => HS1) (fun _ => HS2) ?_
      rotate_left
      · intro W hSW; first | (go_simp; done) | (go_simp; with_reducible rfl)
      try simp only [Act.put, List.setIfInBounds_toArray, List.set_cons_zero, List.set_cons_succ]
      refine wpAnyM_take (i := 13) (oi := { dst := some 82, op := Op.load 3 (Operand.tmp 81), type := 3, pos := "outright.go:29", after := #[{ on := 12, ground := Ground.data }], guard := none }) (v := ?_) rfl (by kernel_rfl) (by kernel_rfl) (by kernel_rfl) (fun _ _ _ h => h) (by decide) (by decide) (by kernel_rfl) (by kernel_rfl) (by kernel_rfl) (Or.inl ⟨by rfl, ?_⟩) HS1 (fun _ => HS2) ?_
      rotate_left
      · intro W hSW; have z := cell_on hSW x20; first | (go_simp; done) | (go_simp; with_reducible rfl)
      try simp only [Act.put, List.setIfInBounds_toArray, List.set_cons_zero, List.set_cons_succ]
      refine wpAnyM_pure (i := 14) (oi := { dst := some 83, op := Op.indexAddr 23 (Operand.tmp 70) (Operand.const (Value.int IntKind.i64 0)), type := 0, pos := "outright.go:29", after := #[{ on := 1, ground := Ground.data }, { on := 0, ground := Ground.phase }, { on := 1, ground := Ground.phase }, { on := 2, ground := Ground.textOnly Departure.lateStores }, { on := 3, ground := Ground.textOnly Departure.lateStores }, { on := 4, ground := Ground.phase }, { on := 5, ground := Ground.phase }, { on := 6, ground := Ground.phase }, { on := 7, ground := Ground.phase }, { on := 8, ground := Ground.phase }, { on := 9, ground := Ground.textOnly Departure.lateStores }, { on := 10, ground := Ground.textOnly Departure.lateStores }, { on := 11, ground := Ground.textOnly Departure.lateStoresUnsure }, { on := 12, ground := Ground.textOnly Departure.lateStoresUnsure }, { on := 13, ground := Ground.phase }], guard := none }) (v := ?_) rfl (by kernel_rfl) (by kernel_rfl) (by kernel_rfl) (fun _ _ _ h => h) (by decide) (by decide) (Or.inl ⟨by rfl, ?_⟩) (fun _ => HS1) (fun _ => HS2) ?_
      rotate_left
      · intro W hSW; first | (go_simp; done) | (go_simp; with_reducible rfl)
      try simp only [Act.put, List.setIfInBounds_toArray, List.set_cons_zero, List.set_cons_succ]
      refine wpAnyM_pure (i := 15) (oi := { dst := some 84, op := Op.fieldAddr 34 (Operand.tmp 83) 0, type := 0, pos := "outright.go:29", after := #[{ on := 14, ground := Ground.data }, { on := 0, ground := Ground.phase }, { on := 1, ground := Ground.phase }, { on := 2, ground := Ground.textOnly Departure.lateStores }, { on := 3, ground := Ground.textOnly Departure.lateStores }, { on := 4, ground := Ground.phase }, { on := 5, ground := Ground.phase }, { on := 6, ground := Ground.phase }, { on := 7, ground := Ground.phase }, { on := 8, ground := Ground.phase }, { on := 9, ground := Ground.textOnly Departure.lateStores }, { on := 10, ground := Ground.textOnly Departure.lateStores }, { on := 11, ground := Ground.textOnly Departure.lateStoresUnsure }, { on := 12, ground := Ground.textOnly Departure.lateStoresUnsure }, { on := 13, ground := Ground.phase }], guard := none }) (v := ?_) rfl (by kernel_rfl) (by kernel_rfl) (by kernel_rfl) (fun _ _ _ h => h) (by decide) (by decide) (Or.inl ⟨by rfl, ?_⟩) (fun _ => HS1) (fun _ => HS2) ?_
      rotate_left
      · intro W hSW; first | (go_simp; done) | (go_simp; with_reducible rfl)
      try simp only [Act.put, List.setIfInBounds_toArray, List.set_cons_zero, List.set_cons_succ]
      refine wpAnyM_lone (T := fun _ W => W = W9.drew.setCell ⟨b2, 0, none⟩ (.int .i64 a0.dst)) (i := 16) (oi := { dst := none, op := Op.store 3 (Operand.tmp 84) (Operand.tmp 77), type := 0, pos := "outright.go:29", after := #[{ on := 15, ground := Ground.data }, { on := 8, ground := Ground.data }, { on := 0, ground := Ground.phase }, { on := 1, ground := Ground.phase }, { on := 2, ground := Ground.textOnly Departure.lateStores }, { on := 3, ground := Ground.textOnly Departure.lateStores }, { on := 4, ground := Ground.phase }, { on := 5, ground := Ground.phase }, { on := 6, ground := Ground.phase }, { on := 7, ground := Ground.phase }, { on := 8, ground := Ground.phase }, { on := 9, ground := Ground.textOnly Departure.lateStores }, { on := 10, ground := Ground.textOnly Departure.lateStores }, { on := 11, ground := Ground.textOnly Departure.lateStoresUnsure }, { on := 12, ground := Ground.textOnly Departure.lateStoresUnsure }, { on := 13, ground := Ground.phase }], guard := none }) (by kernel_rfl) rfl ?_ (fun _ _ _ h => gone (by kernel_rfl) h) (fun v W hT _ => by subst hT; exact grown_then (⟨rfl, rfl, rfl, Nat.le_refl _, fun _ _ _ => rfl⟩ : W9.grownBy W9.drew (some b2)) (But.setCell _ _ _ _).grown) ?_
      · intro K hK
        go_simp
        exact hK.out undef _ rfl
      intro v9 Wa h9
      have HS2 : (fun W => W9.grownBy W (some b2)) Wa := (fun v W hT => by subst hT; exact grown_then (⟨rfl, rfl, rfl, Nat.le_refl _, fun _ _ _ => rfl⟩ : W9.grownBy W9.drew (some b2)) (But.setCell _ _ _ _).grown) v9 Wa h9
      subst h9
      have hx21 : (W9.drew.setCell ⟨b2, 0, none⟩ (.int .i64 a0.dst)).cell? ⟨b2, 1, none⟩ = some (.int .i64 a0.dst) := by rw [World.cell?_setCell_other _ _ _ _ (fun e => by injection e with _ e _; omega)]; exact x21
      have hf21 : (W9.drew.setCell ⟨b2, 0, none⟩ (.int .i64 a0.dst)).frozen? ⟨b2, 1, none⟩ = false := by have hh9 := World.ownsRow.stored hO7.out.ar 0 (.int .i64 a0.dst); exact World.ownsRow.frozenAt hh9.1 1
      try simp only [Act.put]
      refine wpAnyM_pure (i := 17) (oi := { dst := some 85, op := Op.indexAddr 23 (Operand.tmp 72) (Operand.const (Value.int IntKind.i64 0)), type := 0, pos := "outright.go:29", after := #[{ on := 3, ground := Ground.data }, { on := 0, ground := Ground.phase }, { on := 1, ground := Ground.phase }, { on := 2, ground := Ground.phase }, { on := 3, ground := Ground.phase }, { on := 4, ground := Ground.phase }, { on := 5, ground := Ground.phase }, { on := 6, ground := Ground.phase }, { on := 7, ground := Ground.phase }, { on := 8, ground := Ground.phase }, { on := 9, ground := Ground.phase }, { on := 10, ground := Ground.phase }, { on := 11, ground := Ground.phase }, { on := 12, ground := Ground.phase }, { on := 13, ground := Ground.phase }, { on := 14, ground := Ground.phase }, { on := 15, ground := Ground.phase }, { on := 16, ground := Ground.phase }], guard := none }) (v := ?_) rfl (by kernel_rfl) (by kernel_rfl) (by kernel_rfl) (fun _ _ _ h => h) (by decide) (by decide) (Or.inl ⟨by rfl, ?_⟩) (fun h => gone (by kernel_rfl) h) (fun _ => HS2) ?_
      rotate_left
      · intro W hSW; first | (go_simp; done) | (go_simp; with_reducible rfl)
      try simp only [Act.put, List.setIfInBounds_toArray, List.set_cons_zero, List.set_cons_succ]
      refine wpAnyM_pure (i := 18) (oi := { dst := some 86, op := Op.fieldAddr 34 (Operand.tmp 85) 1, type := 0, pos := "outright.go:29", after := #[{ on := 17, ground := Ground.data }, { on := 0, ground := Ground.phase }, { on := 1, ground := Ground.phase }, { on := 2, ground := Ground.phase }, { on := 3, ground := Ground.phase }, { on := 4, ground := Ground.phase }, { on := 5, ground := Ground.phase }, { on := 6, ground := Ground.phase }, { on := 7, ground := Ground.phase }, { on := 8, ground := Ground.phase }, { on := 9, ground := Ground.phase }, { on := 10, ground := Ground.phase }, { on := 11, ground := Ground.phase }, { on := 12, ground := Ground.phase }, { on := 13, ground := Ground.phase }, { on := 14, ground := Ground.phase }, { on := 15, ground := Ground.phase }, { on := 16, ground := Ground.phase }], guard := none }) (v := ?_) rfl (by kernel_rfl) (by kernel_rfl) (by kernel_rfl) (fun _ _ _ h => h) (by decide) (by decide) (Or.inl ⟨by rfl, ?_⟩) (fun h => gone (by kernel_rfl) h) (fun _ => HS2) ?_
      rotate_left
      · intro W hSW; first | (go_simp; done) | (go_simp; with_reducible rfl)
      try simp only [Act.put, List.setIfInBounds_toArray, List.set_cons_zero, List.set_cons_succ]
      refine wpAnyM_lone (T := fun _ W => W = (W9.drew.setCell ⟨b2, 0, none⟩ (.int .i64 a0.dst)).setCell ⟨b2, 1, none⟩ (.int .i64 a0.src)) (i := 19) (oi := { dst := none, op := Op.store 3 (Operand.tmp 86) (Operand.tmp 82), type := 0, pos := "outright.go:29", after := #[{ on := 18, ground := Ground.data }, { on := 13, ground := Ground.data }, { on := 16, ground := Ground.chain }, { on := 0, ground := Ground.phase }, { on := 1, ground := Ground.phase }, { on := 2, ground := Ground.phase }, { on := 3, ground := Ground.phase }, { on := 4, ground := Ground.phase }, { on := 5, ground := Ground.phase }, { on := 6, ground := Ground.phase }, { on := 7, ground := Ground.phase }, { on := 8, ground := Ground.phase }, { on := 9, ground := Ground.phase }, { on := 10, ground := Ground.phase }, { on := 11, ground := Ground.phase }, { on := 12, ground := Ground.phase }, { on := 13, ground := Ground.phase }, { on := 14, ground := Ground.phase }, { on := 15, ground := Ground.phase }, { on := 16, ground := Ground.phase }], guard := none }) (by kernel_rfl) rfl ?_ (fun _ _ _ h => gone (by kernel_rfl) h) (fun _ _ _ h => gone (by kernel_rfl) h) ?_
      · intro K hK
        go_simp
        exact hK.out undef _ rfl
      intro v10 Wb h10
      subst h10
      clear hx21 hf21
      try simp only [Act.put]
      refine wpAnyM_done (by kernel_rfl) ?_ _
      have hOD : Own4 W9.drew gt B H _ _ _ _ ks S := ⟨hO7.out.sv, hO7.out.kl, hO7.out.pr, hO7.out.ky, hO7.out.ar, hO7.out.le, hO7.out.lo⟩
      have hBD : Below B w1 W9.drew := ⟨hB7.os, hB7.tape, hB7.output, hB7.size, hB7.block⟩
      go_wp2_with fail
      go_meet
      case rel =>
        obtain ⟨⟨i1, i2, i3, i4, i5⟩, iA⟩ := sA.out
        obtain ⟨am1, am2, am3, am4, am5⟩ := am0.out
        have hT1 := hOD.arc a0 ⟨a0.dst, a0.dst, a0.ledger, a0.asset, a0.amount⟩ A hA.out 0 (.int .i64 a0.dst) (by omega) rfl
        have hT2 := hT1.arc ⟨a0.dst, a0.dst, a0.ledger, a0.asset, a0.amount⟩ ⟨a0.dst, a0.src, a0.ledger, a0.asset, a0.amount⟩ A rfl 1 (.int .i64 a0.src) (by omega) rfl
        have hsD : SvAt W9.drew gs cs := hs7.out
        exact Own4.other hT2 (hsane.out.arcs' _ (by have := nA.out; simp; omega) (fun p hp => by rcases List.mem_cons.1 hp with rfl | hp; exact ⟨i2, i1, i3, i4, i5⟩; exact iA p hp)) (fun e => by have e1 := congrArg SpecM.arcs e; simp only at e1; rw [hA.out] at e1; injection e1 with e1 _; have e2 := congrArg ArcM.src e1; simp only at e2; exact am3 e2.symm) nP2 ((hsD.but (But.setCell _ b2 0 _) n2s.out).but (But.setCell _ b2 1 _) n2s.out) ((hBD.setCell (p := ⟨b2, 0, none⟩) (by show B ≤ b2; omega) _).setCell (p := ⟨b2, 1, none⟩) (by show B ≤ b2; omega) _)
    · clear fz1 fz2 fz3 fz4 x10 x11 x12 x20 x21 x22 x23 x24 x30 x40 y0 y1 y2 y4 y5 y6
      obtain ⟨i0, hi, hz0, hzs, hzb⟩ := info_parts Try.info3
      replace hi := hide hi
      replace hz0 := hide hz0
      replace hzs := hide hzs
      replace hzb := hide hzb
      have X3 : Hid (∀ j u, (S.leaders.map (Value.int .i64))[j]? = some u → W9.cell? ((⟨b3, 0, none⟩ : Addr).add j) = some u) := World.ownsRow.cells hO7.out.le rfl
      have hBW : Hid (B ≤ W9.heap.size) := by show B ≤ W9.heap.size; have h9 := (World.ownsRow.lt hO7.out.le b3 rfl).2; omega
      go_wp2_with (at_builtin; refine wpList_append_own _ (by rfl) (.const (.slice none 0 0)) (.tmp 90) 24 (by rfl) W9.heap.size 3 i0 _ 1 8 Try.underlying24 hi.out hz0.out hzs.out hzb.out rfl (by decide) (.slice none 0 0) 0 [] (by rfl) (World.ownsRow_nil _ _ _ _) ⟨b3, 0, none⟩ S.leaders.length c3 (S.leaders.map (Value.int .i64)) (by rfl) (by simp) (fun j u hj => X3.out j u hj) (by intro u hu; obtain ⟨x, _, rfl⟩ := List.mem_map.1 hu; rfl) (by have := nL.out; unfold maxLen; omega) (by have := nL.out; omega) (Nat.le_refl _) ?_; intro v5 w5 hown5 hg5 _; refine Hid.out ?_)
      unfold Hid
      simp only [Nat.zero_add, List.nil_append] at hown5
      have hB5 : Below W9.heap.size W9 w5 := (Below.refl _ _).grown hg5 (Nat.le_refl _) (fun k hk => by simp [Value.ownBlock] at hk)
      obtain ⟨va5, vc5, rfl⟩ := row_slice hown5
      have al5 : Below w5.heap.size w5 (w5.alloc (Obj.cells #[Value.int IntKind.i64 5] 3)) := (Below.refl _ _).alloc (Nat.le_refl _) _
      go_wp2_with (at_builtin; refine wpList_put1 (st := 24) Try.underlying24 Try.info3 rfl (by decide) (by decide) w5 _ (by rfl) (.tmp 91) (.tmp 92) (by rfl) W9.heap.size _ _ _ (by rfl) hown5 (by rfl) (by rfl) (by intro u hu; simp at hu; subst hu; rfl) (by have := nL.out; omega) hB5.size ?_; intro v6 w6 hown6 hg6; refine Hid.out ?_)
      unfold Hid
      have hlt5 := World.ownsRow.lt hown5
      have hgW : Hid (W9.heap.size ≤ w5.heap.size) := hB5.size
      obtain ⟨va6, vc6, rfl⟩ := row_slice hown6
      have hB6 : Below W9.heap.size W9 w6 := hB5.grown hg6 hB5.size (fun k hk => (hlt5 k hk).1)
      have hv6 := hO7.out.sv.below hB6
      have q6 := hv6.cells.2.2.2.1
      have f6 := hv6.frozen 3
      clear hown5 hg5 al5 hg6 hlt5 hB5
      replace hown6 := hide hown6
      replace hv6 := hide hv6
      go_wp2_with fail
      go_meet
      case rel =>
        have hI6 : OwnI w6 B (.slice va6 (S.leaders.length + 1) vc6) (S.leaders ++ [5]) := by unfold OwnI; rw [List.length_append, List.map_append]; exact base_row hown6.out hBW.out
        exact Own4.other (hO7.out.leadTo hB6 _ _ hI6) (hsane.out.leads (S.leaders ++ [5]) (by have := nL.out; simp; omega) (fun p hp => by rcases List.mem_append.1 hp with hp | hp; exact sL.out p hp; (rw [List.mem_singleton.1 hp]; exact ⟨by omega, by omega⟩))) (fun e => by have e1 := congrArg (fun T : SpecM => T.leaders.length) e; simp at e1) nP2 (((hs7.out.below hB6)).but (But.setCell _ gt 3 _) nts.out) ((hB7.trans (hB6.mono (by have := hBW.out; omega))).setCell (p := ⟨gt, 3, none⟩) (by show B ≤ gt; omega) _)
    · clear fz1 fz2 fz3 x10 x11 x12 x20 x21 x22 x23 x24 x30 y0 y1 y2 y3 y5 y6
      go_wp2_with fail
      go_meet
      case rel =>
        obtain ⟨T, hT, hTs, hTl, _, hTk⟩ := hO7.out.text (kb := b4) (x := ⟨#[48, 49, 50, 51, 52, 53, 54, 55, 56, 57, 48, 49, 50, 51, 52, 53, 54, 55, 56, 57, 48, 49, 50, 51, 52, 53, 54, 55, 56, 57, 48, 49]⟩) hsane.out (by show (32 : Nat) ≤ 1000; omega) hO7.out.lo rfl
        exact Own4.other hT hTs (fun e => by have e1 := hTk rfl m4; rw [e, hK.out] at e1; rw [show (k0 :: K).getD 0 ByteArray.empty = k0 from rfl, lock00.out] at e1; exact lock0_other e1) (by omega) (hs7.out.but (But.setCell _ b4 0 _) n4s.out) (hB7.setCell (p := ⟨b4, 0, none⟩) (by show B ≤ b4; omega) _)
    · clear fz1 fz2 fz3 fz4 x10 x11 x12 x20 x21 x22 x23 x24 x30 x40 y0 y1 y2 y3 y4 y6
      have hst4 := hNum.out.st
      obtain ⟨st1, st2, st3, st4⟩ := hst4
      go_wp2_with fail
      go_meet
      case rel => exact Own4.other (hO7.out.re (But.setCell _ _ _ _) S.id (S.start + 1) S.delta (hO7.out.sv.set5 _)) ({ hsane.out with st := ⟨by show -9223372036854775808 ≤ S.start + 1; omega, by show S.start + 1 ≤ 9223372036854775807; omega⟩ }) (fun e => by have e1 := congrArg SpecM.start e; simp only at e1; omega) nP2 (hs7.out.but (But.setCell _ gt 5 _) nts.out) (hB7.setCell (p := ⟨gt, 5, none⟩) (by show B ≤ gt; omega) _)
    · clear fz1 fz2 fz3 fz4 x10 x11 x12 x20 x21 x22 x23 x24 x30 x40 y0 y1 y2 y3 y4 y5
      have hst4 := hNum.out.st
      obtain ⟨st1, st2, st3, st4⟩ := hst4
      go_wp2_with fail
      go_meet
      case rel => exact Own4.other (hO7.out.re (But.setCell _ _ _ _) S.id S.start (S.delta + 1) (hO7.out.sv.set6 _)) ({ hsane.out with de := ⟨by show -9223372036854775808 ≤ S.delta + 1; omega, by show S.delta + 1 ≤ 9223372036854775807; omega⟩ }) (fun e => by have e1 := congrArg SpecM.delta e; simp only at e1; omega) nP2 (hs7.out.but (But.setCell _ gt 6 _) nts.out) (hB7.setCell (p := ⟨gt, 6, none⟩) (by show B ≤ gt; omega) _)
    · clear fz1 fz2 fz3 fz4 x10 x11 x12 x20 x21 x22 x23 x24 x30 x40 y0 y1 y3 y4 y5 y6
      have nkc : Hid (S.arcs.length ≤ c2) := by rcases hO7.out.ar.2 with ⟨h9, _⟩ | ⟨g9, cap9, cur9, h9, _, _, h8, _⟩; (simp at h9); (simp only [Value.slice.injEq] at h9; obtain ⟨_, _, rfl⟩ := h9; exact h8)
      have nkc1 : ¬ (S.arcs.length : Int) < 1 := by omega
      have nkc2 : ((S.arcs.length : Int) ≤ (c2 : Int)) := by have := nkc.out; omega
      obtain ⟨ad, had⟩ : ∃ ad : Option Addr, (if c2 = 1 then (some ⟨b2, 0, none⟩ : Option Addr) else some ⟨b2, 0 + 1 * 5, none⟩) = ad := ⟨_, rfl⟩
      have Had := hide had
      simp only [Nat.one_mul, Nat.zero_add] at had
      go_wp2_with fail
      go_meet
      case rel =>
        exact hO7.out.tail hsane.out m2 nP2 ad Had.out (hs7.out.but (But.setCell _ gt 2 _) nts.out) (hB7.setCell (p := ⟨gt, 2, none⟩) (by show B ≤ gt; omega) _)
  case rest =>
    clear x10 x11 x12 x20 x21 x22 x23 x24 x30 x40 y0 y1 y2 y3 y4 y5 y6 yf fz1 fz2 fz3 fz4 hO7 hB7 sP sA sL nA nL nP hP hL hK hA hb1 hb2 hb3 hb4 hsane hok hh am0 acc0 key00 lock00 nK0 hNum hKB hs7 n1s n2s n4s nts m1 m2 m3 m4 nP2 HSame
    obtain ⟨T, ct, hvt, h7t, hWT0, hne, hp2, hvs, hB⟩ := hcut
    obtain ⟨x, hx, HX, HS1, HS2⟩ := HOther.out T hne
    clear HOther
    replace HX := hide HX
    replace HS1 := hide HS1
    replace HS2 := hide HS2
    have hWT : Hid (∀ W, Below wc.heap.size wc W → SpecW W (.agg ct) T) := fun W hW => hWT0.below hW
    obtain ⟨a1, a2, a3, a4, k1, k2, k3, k4, hct, LI, CA⟩ := hWT0
    obtain ⟨np, hnp⟩ : ∃ n, T.parties.length = n := ⟨_, rfl⟩
    have z1 : wc.cell? ⟨gt, 1, none⟩ = some (.slice a1 np k1) := by
      injection hct with hct
      rw [hct] at hvt
      rw [← hnp]
      exact (cells7_at hvt).2.1
    have hp2I : (2 : Int) ≤ (np : Int) := by omega
    clear hct LI CA
    replace hnp := hide hnp
    replace hne := hide hne
    rcases hx with rfl | ⟨hx1, hx2⟩
    · go_upto_region 28 with fail
      have hRw : Below wc.heap.size wc wc.drew := ⟨rfl, rfl, rfl, Nat.le_refl _, fun _ _ => rfl⟩
      refine wp_region_held_drew (S := fun W => Below wc.heap.size wc W) (by kernel_rfl) hRw (fun hHeld => ?_)
      refine wpAnyH_take (i := 0) (oi := { dst := some 112, op := Op.load 27 (Operand.tmp 5), type := 27, pos := "outright.go:41", after := #[], guard := none }) (v := .agg cs) rfl (by kernel_rfl) (by kernel_rfl) (by kernel_rfl) (fun _ _ _ h => h) (yields_loadV (by rfl) (.tmp 5) (by rfl) _ cs (by rfl) h7 (fun W hW => hvs.below hW)) (by assumption) ?_
      try simp only [Act.put, List.setIfInBounds_toArray, List.set_cons_zero, List.set_cons_succ]
      refine wpAnyH_take (i := 1) (oi := { dst := some 113, op := Op.load 27 (Operand.tmp 6), type := 27, pos := "outright.go:41", after := #[], guard := none }) (v := .agg ct) rfl (by kernel_rfl) (by kernel_rfl) (by kernel_rfl) (fun _ _ _ h => h) (yields_loadV (by rfl) (.tmp 6) (by rfl) _ ct (by rfl) h7t (fun W hW => hvt.below hW)) (by assumption) ?_
      try simp only [Act.put, List.setIfInBounds_toArray, List.set_cons_zero, List.set_cons_succ]
      refine wpAnyH_lone (R := fun W => Below wc.heap.size wc W) (i := 2) (oi := { dst := some 114, op := Op.call { callee := Callee.value (Operand.func 11), args := #[Operand.tmp 112, Operand.tmp 113], argTypes := #[27, 27] }, type := 4, pos := "outright.go:41", after := #[{ on := 0, ground := Ground.data }, { on := 1, ground := Ground.data }], guard := none }) (vi := .bool false) (by kernel_rfl) rfl hRw (fun _ h => h) ?_ ?_
      · intro W hW K hK
        go_simp
        refine (HS1.out W _ _ (HW.out W (hB.trans (hW.mono (by have := hB.size; omega)))) (hWT.out W hW)).mono ?_
        rintro e W2 ⟨rfl, hb⟩
        go_wp2_with fail
        exact hK.out _ (below_then hW hb)
      clear hRw hHeld
      intro W9 hRw hHeld
      try simp only [Act.put, List.setIfInBounds_toArray, List.set_cons_zero, List.set_cons_succ]
      refine wpAnyH_take (i := 3) (oi := { dst := some 115, op := Op.unOp UnOp.not 4 (Operand.tmp 114), type := 4, pos := "outright.go:41", after := #[{ on := 2, ground := Ground.data }], guard := none }) (v := ?_) rfl (by kernel_rfl) (by kernel_rfl) (by kernel_rfl) (fun _ _ _ h => h) (Or.inl ⟨by rfl, ?_⟩) (by assumption) ?_
      rotate_left
      · intro W hSW; first | (go_simp; done) | (go_simp; with_reducible rfl)
      try simp only [Act.put, List.setIfInBounds_toArray, List.set_cons_zero, List.set_cons_succ]
      refine wpAnyH_take (i := 4) (oi := { dst := some 116, op := Op.move (Operand.tmp 115), type := 4, pos := "outright.go:41", after := #[{ on := 3, ground := Ground.data }, { on := 2, ground := Ground.chain }], guard := none }) (v := ?_) rfl (by kernel_rfl) (by kernel_rfl) (by kernel_rfl) (fun _ _ _ h => h) (Or.inl ⟨by rfl, ?_⟩) (by assumption) ?_
      rotate_left
      · intro W hSW; first | (go_simp; done) | (go_simp; with_reducible rfl)
      try simp only [Act.put, List.setIfInBounds_toArray, List.set_cons_zero, List.set_cons_succ]
      refine wpAnyH_take (i := 5) (oi := { dst := some 117, op := Op.load 27 (Operand.tmp 6), type := 27, pos := "outright.go:41", after := #[{ on := 4, ground := Ground.guard }], guard := some (4, true) }) (v := .agg ct) rfl (by kernel_rfl) (by kernel_rfl) (by kernel_rfl) (fun _ _ _ h => h) (yields_loadV (by rfl) (.tmp 6) (by rfl) _ ct (by rfl) h7t (fun W hW => hvt.below hW)) (by assumption) ?_
      try simp only [Act.put, List.setIfInBounds_toArray, List.set_cons_zero, List.set_cons_succ]
      refine wpAnyH_take (i := 6) (oi := { dst := some 118, op := Op.load 27 (Operand.tmp 5), type := 27, pos := "outright.go:41", after := #[{ on := 4, ground := Ground.guard }], guard := some (4, true) }) (v := .agg cs) rfl (by kernel_rfl) (by kernel_rfl) (by kernel_rfl) (fun _ _ _ h => h) (yields_loadV (by rfl) (.tmp 5) (by rfl) _ cs (by rfl) h7 (fun W hW => hvs.below hW)) (by assumption) ?_
      try simp only [Act.put, List.setIfInBounds_toArray, List.set_cons_zero, List.set_cons_succ]
      refine wpAnyH_lone (R := fun W => Below wc.heap.size wc W) (i := 7) (oi := { dst := some 119, op := Op.call { callee := Callee.value (Operand.func 11), args := #[Operand.tmp 117, Operand.tmp 118], argTypes := #[27, 27] }, type := 4, pos := "outright.go:41", after := #[{ on := 5, ground := Ground.data }, { on := 6, ground := Ground.data }, { on := 4, ground := Ground.chain }, { on := 4, ground := Ground.guard }], guard := some (4, true) }) (vi := .bool false) (by kernel_rfl) rfl hRw (fun _ h => h) ?_ ?_
      · intro W hW K hK
        go_simp
        refine (HS2.out W _ _ (hWT.out W hW) (HW.out W (hB.trans (hW.mono (by have := hB.size; omega))))).mono ?_
        rintro e W2 ⟨rfl, hb⟩
        go_wp2_with fail
        exact hK.out _ (below_then hW hb)
      clear hRw hHeld
      intro W9 hRw hHeld
      try simp only [Act.put, List.setIfInBounds_toArray, List.set_cons_zero, List.set_cons_succ]
      refine wpAnyH_take (i := 8) (oi := { dst := some 120, op := Op.unOp UnOp.not 4 (Operand.tmp 119), type := 4, pos := "outright.go:41", after := #[{ on := 7, ground := Ground.data }, { on := 4, ground := Ground.guard }], guard := some (4, true) }) (v := ?_) rfl (by kernel_rfl) (by kernel_rfl) (by kernel_rfl) (fun _ _ _ h => h) (Or.inl ⟨by rfl, ?_⟩) (by assumption) ?_
      rotate_left
      · intro W hSW; first | (go_simp; done) | (go_simp; with_reducible rfl)
      try simp only [Act.put, List.setIfInBounds_toArray, List.set_cons_zero, List.set_cons_succ]
      refine wpAnyH_take (i := 9) (oi := { dst := some 121, op := Op.pick (Operand.tmp 116) (Operand.tmp 120) (Operand.const (Value.bool false)), type := 4, pos := "outright.go:41", after := #[{ on := 4, ground := Ground.data }, { on := 8, ground := Ground.data }], guard := none }) (v := ?_) rfl (by kernel_rfl) (by kernel_rfl) (by kernel_rfl) (fun _ _ _ h => h) (Or.inl ⟨by rfl, ?_⟩) (by assumption) ?_
      rotate_left
      · intro W hSW; first | (go_simp; done) | (go_simp; with_reducible rfl)
      try simp only [Act.put, List.setIfInBounds_toArray, List.set_cons_zero, List.set_cons_succ]
      refine wpAnyH_take (i := 10) (oi := { dst := some 122, op := Op.move (Operand.tmp 121), type := 4, pos := "outright.go:41", after := #[{ on := 9, ground := Ground.data }, { on := 7, ground := Ground.chain }], guard := none }) (v := ?_) rfl (by kernel_rfl) (by kernel_rfl) (by kernel_rfl) (fun _ _ _ h => h) (Or.inl ⟨by rfl, ?_⟩) (by assumption) ?_
      rotate_left
      · intro W hSW; first | (go_simp; done) | (go_simp; with_reducible rfl)
      try simp only [Act.put, List.setIfInBounds_toArray, List.set_cons_zero, List.set_cons_succ]
      refine wpAnyH_take (i := 11) (oi := { dst := some 123, op := Op.load 27 (Operand.tmp 6), type := 27, pos := "outright.go:41", after := #[{ on := 10, ground := Ground.guard }], guard := some (10, true) }) (v := .agg ct) rfl (by kernel_rfl) (by kernel_rfl) (by kernel_rfl) (fun _ _ _ h => h) (yields_loadV (by rfl) (.tmp 6) (by rfl) _ ct (by rfl) h7t (fun W hW => hvt.below hW)) (by assumption) ?_
      try simp only [Act.put, List.setIfInBounds_toArray, List.set_cons_zero, List.set_cons_succ]
      refine wpAnyH_lone (R := fun W => Below wc.heap.size wc W) (i := 12) (oi := { dst := some 124, op := Op.call { callee := Callee.value (Operand.func 9), args := #[Operand.tmp 123], argTypes := #[27] }, type := 9, pos := "outright.go:41", after := #[{ on := 11, ground := Ground.data }, { on := 10, ground := Ground.chain }, { on := 10, ground := Ground.guard }], guard := some (10, true) }) (vi := .string ⟨#[]⟩) (by kernel_rfl) rfl hRw (fun _ h => h) ?_ ?_
      · intro W hW K hK
        go_simp
        refine (HX.out W _ (hWT.out W hW)).mono ?_
        rintro e W2 ⟨rfl, hb⟩
        go_wp2_with fail
        exact hK.out _ (below_then hW hb)
      clear hRw hHeld
      intro W9 hRw hHeld
      try simp only [Act.put, List.setIfInBounds_toArray, List.set_cons_zero, List.set_cons_succ]
      refine wpAnyH_take (i := 13) (oi := { dst := some 125, op := Op.binOp BinOp.eql 9 (Operand.tmp 124) (Operand.const (Value.string { data := #[] })) 9, type := 4, pos := "outright.go:41", after := #[{ on := 12, ground := Ground.data }, { on := 10, ground := Ground.guard }], guard := some (10, true) }) (v := ?_) rfl (by kernel_rfl) (by kernel_rfl) (by kernel_rfl) (fun _ _ _ h => h) (Or.inl ⟨by rfl, ?_⟩) (by assumption) ?_
      rotate_left
      · intro W hSW; first | (go_simp; done) | (go_simp; with_reducible rfl)
      try simp only [Act.put, List.setIfInBounds_toArray, List.set_cons_zero, List.set_cons_succ]
      refine wpAnyH_take (i := 14) (oi := { dst := some 126, op := Op.move (Operand.tmp 125), type := 4, pos := "outright.go:41", after := #[{ on := 13, ground := Ground.data }, { on := 12, ground := Ground.chain }, { on := 10, ground := Ground.guard }], guard := some (10, true) }) (v := ?_) rfl (by kernel_rfl) (by kernel_rfl) (by kernel_rfl) (fun _ _ _ h => h) (Or.inl ⟨by rfl, ?_⟩) (by assumption) ?_
      rotate_left
      · intro W hSW; first | (go_simp; done) | (go_simp; with_reducible rfl)
      try simp only [Act.put, List.setIfInBounds_toArray, List.set_cons_zero, List.set_cons_succ]
      refine wpAnyH_take (i := 15) (oi := { dst := some 127, op := Op.load 27 (Operand.tmp 6), type := 27, pos := "outright.go:41", after := #[{ on := 14, ground := Ground.guard }], guard := some (14, false) }) (v := undef) rfl (by kernel_rfl) (by kernel_rfl) (by kernel_rfl) (fun _ _ _ h => h) (Or.inr ⟨by rfl, rfl⟩) (by assumption) ?_
      try simp only [Act.put, List.setIfInBounds_toArray, List.set_cons_zero, List.set_cons_succ]
      refine wpAnyH_take (i := 16) (oi := { dst := some 128, op := Op.call { callee := Callee.value (Operand.func 9), args := #[Operand.tmp 127], argTypes := #[27] }, type := 9, pos := "outright.go:41", after := #[{ on := 15, ground := Ground.data }, { on := 14, ground := Ground.chain }, { on := 14, ground := Ground.guard }], guard := some (14, false) }) (v := undef) rfl (by kernel_rfl) (by kernel_rfl) (by kernel_rfl) (fun _ _ _ h => h) (Or.inr ⟨by rfl, rfl⟩) (by assumption) ?_
      try simp only [Act.put, List.setIfInBounds_toArray, List.set_cons_zero, List.set_cons_succ]
      refine wpAnyH_take (i := 17) (oi := { dst := some 129, op := Op.load 27 (Operand.tmp 5), type := 27, pos := "outright.go:41", after := #[{ on := 14, ground := Ground.guard }], guard := some (14, false) }) (v := undef) rfl (by kernel_rfl) (by kernel_rfl) (by kernel_rfl) (fun _ _ _ h => h) (Or.inr ⟨by rfl, rfl⟩) (by assumption) ?_
      try simp only [Act.put, List.setIfInBounds_toArray, List.set_cons_zero, List.set_cons_succ]
      refine wpAnyH_take (i := 18) (oi := { dst := some 130, op := Op.call { callee := Callee.value (Operand.func 9), args := #[Operand.tmp 129], argTypes := #[27] }, type := 9, pos := "outright.go:41", after := #[{ on := 17, ground := Ground.data }, { on := 16, ground := Ground.chain }, { on := 14, ground := Ground.guard }], guard := some (14, false) }) (v := undef) rfl (by kernel_rfl) (by kernel_rfl) (by kernel_rfl) (fun _ _ _ h => h) (Or.inr ⟨by rfl, rfl⟩) (by assumption) ?_
      try simp only [Act.put, List.setIfInBounds_toArray, List.set_cons_zero, List.set_cons_succ]
      refine wpAnyH_take (i := 19) (oi := { dst := some 131, op := Op.binOp BinOp.neq 9 (Operand.tmp 128) (Operand.tmp 130) 9, type := 4, pos := "outright.go:41", after := #[{ on := 16, ground := Ground.data }, { on := 18, ground := Ground.data }, { on := 14, ground := Ground.guard }], guard := some (14, false) }) (v := undef) rfl (by kernel_rfl) (by kernel_rfl) (by kernel_rfl) (fun _ _ _ h => h) (Or.inr ⟨by rfl, rfl⟩) (by assumption) ?_
      try simp only [Act.put, List.setIfInBounds_toArray, List.set_cons_zero, List.set_cons_succ]
      refine wpAnyH_take (i := 20) (oi := { dst := some 132, op := Op.pick (Operand.tmp 126) (Operand.const (Value.bool true)) (Operand.tmp 131), type := 4, pos := "outright.go:41", after := #[{ on := 14, ground := Ground.data }, { on := 19, ground := Ground.data }, { on := 10, ground := Ground.guard }], guard := some (10, true) }) (v := ?_) rfl (by kernel_rfl) (by kernel_rfl) (by kernel_rfl) (fun _ _ _ h => h) (Or.inl ⟨by rfl, ?_⟩) (by assumption) ?_
      rotate_left
      · intro W hSW; first | (go_simp; done) | (go_simp; with_reducible rfl)
      try simp only [Act.put, List.setIfInBounds_toArray, List.set_cons_zero, List.set_cons_succ]
      refine wpAnyH_take (i := 21) (oi := { dst := some 133, op := Op.pick (Operand.tmp 122) (Operand.tmp 132) (Operand.const (Value.bool false)), type := 4, pos := "outright.go:41", after := #[{ on := 10, ground := Ground.data }, { on := 20, ground := Ground.data }], guard := none }) (v := ?_) rfl (by kernel_rfl) (by kernel_rfl) (by kernel_rfl) (fun _ _ _ h => h) (Or.inl ⟨by rfl, ?_⟩) (by assumption) ?_
      rotate_left
      · intro W hSW; first | (go_simp; done) | (go_simp; with_reducible rfl)
      try simp only [Act.put, List.setIfInBounds_toArray, List.set_cons_zero, List.set_cons_succ]
      refine wpAnyH_take (i := 22) (oi := { dst := some 134, op := Op.move (Operand.tmp 133), type := 4, pos := "outright.go:41", after := #[{ on := 21, ground := Ground.data }, { on := 18, ground := Ground.chain }], guard := none }) (v := ?_) rfl (by kernel_rfl) (by kernel_rfl) (by kernel_rfl) (fun _ _ _ h => h) (Or.inl ⟨by rfl, ?_⟩) (by assumption) ?_
      rotate_left
      · intro W hSW; first | (go_simp; done) | (go_simp; with_reducible rfl)
      try simp only [Act.put, List.setIfInBounds_toArray, List.set_cons_zero, List.set_cons_succ]
      refine wpAnyH_take (i := 23) (oi := { dst := some 135, op := Op.fieldAddr 27 (Operand.tmp 6) 1, type := 0, pos := "outright.go:41", after := #[{ on := 22, ground := Ground.guard }], guard := some (22, true) }) (v := ?_) rfl (by kernel_rfl) (by kernel_rfl) (by kernel_rfl) (fun _ _ _ h => h) (Or.inl ⟨by rfl, ?_⟩) (by assumption) ?_
      rotate_left
      · intro W hSW; first | (go_simp; done) | (go_simp; with_reducible rfl)
      try simp only [Act.put, List.setIfInBounds_toArray, List.set_cons_zero, List.set_cons_succ]
      refine wpAnyH_take (i := 24) (oi := { dst := some 136, op := Op.load 22 (Operand.tmp 135), type := 22, pos := "outright.go:41", after := #[{ on := 23, ground := Ground.data }, { on := 22, ground := Ground.guard }], guard := some (22, true) }) (v := ?_) rfl (by kernel_rfl) (by kernel_rfl) (by kernel_rfl) (fun _ _ _ h => h) (Or.inl ⟨by rfl, ?_⟩) (by assumption) ?_
      rotate_left
      · intro W hSW; have z0 := cell_on hSW z1; first | (go_simp; done) | (go_simp; with_reducible rfl)
      try simp only [Act.put, List.setIfInBounds_toArray, List.set_cons_zero, List.set_cons_succ]
      refine wpAnyH_take (i := 25) (oi := { dst := some 137, op := Op.call { callee := Callee.builtin Builtin.len, args := #[Operand.tmp 136], argTypes := #[22] }, type := 3, pos := "outright.go:41", after := #[{ on := 24, ground := Ground.data }, { on := 22, ground := Ground.guard }], guard := some (22, true) }) (v := ?_) rfl (by kernel_rfl) (by kernel_rfl) (by kernel_rfl) (fun _ _ _ h => h) (Or.inl ⟨by rfl, ?_⟩) (by assumption) ?_
      rotate_left
      · intro W hSW; first | (go_simp; done) | (go_simp; with_reducible rfl)
      try simp only [Act.put, List.setIfInBounds_toArray, List.set_cons_zero, List.set_cons_succ]
      refine wpAnyH_take (i := 26) (oi := { dst := some 138, op := Op.binOp BinOp.geq 3 (Operand.tmp 137) (Operand.const (Value.int IntKind.i64 2)) 3, type := 4, pos := "outright.go:41", after := #[{ on := 25, ground := Ground.data }, { on := 22, ground := Ground.guard }], guard := some (22, true) }) (v := ?_) rfl (by kernel_rfl) (by kernel_rfl) (by kernel_rfl) (fun _ _ _ h => h) (Or.inl ⟨by rfl, ?_⟩) (by assumption) ?_
      rotate_left
      · intro W hSW; first | (go_simp; done) | (go_simp; with_reducible rfl)
      try simp only [Act.put, List.setIfInBounds_toArray, List.set_cons_zero, List.set_cons_succ]
      refine wpAnyH_take (i := 27) (oi := { dst := some 139, op := Op.pick (Operand.tmp 134) (Operand.tmp 138) (Operand.const (Value.bool false)), type := 4, pos := "outright.go:41", after := #[{ on := 22, ground := Ground.data }, { on := 26, ground := Ground.data }], guard := none }) (v := ?_) rfl (by kernel_rfl) (by kernel_rfl) (by kernel_rfl) (fun _ _ _ h => h) (Or.inl ⟨by rfl, ?_⟩) (by assumption) ?_
      rotate_left
      · intro W hSW; first | (go_simp; done) | (go_simp; with_reducible rfl)
      try simp only [Act.put, List.setIfInBounds_toArray, List.set_cons_zero, List.set_cons_succ]
      refine wpAnyH_take (i := 28) (oi := { dst := some 140, op := Op.move (Operand.tmp 139), type := 4, pos := "outright.go:41", after := #[{ on := 27, ground := Ground.data }, { on := 22, ground := Ground.chain }], guard := none }) (v := ?_) rfl (by kernel_rfl) (by kernel_rfl) (by kernel_rfl) (fun _ _ _ h => h) (Or.inl ⟨by rfl, ?_⟩) (by assumption) ?_
      rotate_left
      · intro W hSW; first | (go_simp; done) | (go_simp; with_reducible rfl)
      try simp only [Act.put, List.setIfInBounds_toArray, List.set_cons_zero, List.set_cons_succ]
      refine wpAnyH_take (i := 29) (oi := { dst := some 141, op := Op.pick (Operand.tmp 140) (Operand.const (Value.bool true)) (Operand.const (Value.bool false)), type := 4, pos := "outright.go:41", after := #[{ on := 28, ground := Ground.data }], guard := none }) (v := ?_) rfl (by kernel_rfl) (by kernel_rfl) (by kernel_rfl) (fun _ _ _ h => h) (Or.inl ⟨by rfl, ?_⟩) (by assumption) ?_
      rotate_left
      · intro W hSW; first | (go_simp; done) | (go_simp; with_reducible rfl)
      try simp only [Act.put, List.setIfInBounds_toArray, List.set_cons_zero, List.set_cons_succ]
      refine wpAnyH_take (i := 30) (oi := { dst := some 142, op := Op.move (Operand.tmp 141), type := 4, pos := "outright.go:41", after := #[{ on := 29, ground := Ground.data }, { on := 28, ground := Ground.chain }], guard := none }) (v := ?_) rfl (by kernel_rfl) (by kernel_rfl) (by kernel_rfl) (fun _ _ _ h => h) (Or.inl ⟨by rfl, ?_⟩) (by assumption) ?_
      rotate_left
      · intro W hSW; first | (go_simp; done) | (go_simp; with_reducible rfl)
      try simp only [Act.put, List.setIfInBounds_toArray, List.set_cons_zero, List.set_cons_succ]
      refine wpAnyH_lone (R := fun W => Below wc.heap.size wc W) (i := 31) (oi := { dst := some 143, op := Op.call { callee := Callee.value (Operand.func 10), args := #[], argTypes := #[] }, type := 4, pos := "outright.go:41", after := #[{ on := 30, ground := Ground.chain }, { on := 30, ground := Ground.guard }], guard := some (30, true) }) (vi := .bool true) (by kernel_rfl) rfl hRw (fun _ h => h) ?_ ?_
      · intro W hW K hK
        go_simp
        refine (HAW.out W).mono ?_
        rintro e W2 ⟨rfl, hb⟩
        go_wp2_with fail
        exact hK.out _ (below_then hW hb)
      clear hRw hHeld
      intro W9 hRw hHeld
      try simp only [Act.put, List.setIfInBounds_toArray, List.set_cons_zero, List.set_cons_succ]
      refine wpAnyH_take (i := 32) (oi := { dst := some 144, op := Op.pick (Operand.tmp 142) (Operand.tmp 143) (Operand.const (Value.bool false)), type := 4, pos := "outright.go:41", after := #[{ on := 30, ground := Ground.data }, { on := 31, ground := Ground.data }], guard := none }) (v := ?_) rfl (by kernel_rfl) (by kernel_rfl) (by kernel_rfl) (fun _ _ _ h => h) (Or.inl ⟨by rfl, ?_⟩) (by assumption) ?_
      rotate_left
      · intro W hSW; first | (go_simp; done) | (go_simp; with_reducible rfl)
      try simp only [Act.put, List.setIfInBounds_toArray, List.set_cons_zero, List.set_cons_succ]
      refine wpAnyH_take (i := 33) (oi := { dst := some 4, op := Op.assign (Operand.tmp 144), type := 4, pos := "outright.go:41", after := #[{ on := 32, ground := Ground.data }, { on := 31, ground := Ground.chain }, { on := 0, ground := Ground.phase }, { on := 1, ground := Ground.phase }, { on := 2, ground := Ground.phase }, { on := 3, ground := Ground.phase }, { on := 4, ground := Ground.phase }, { on := 5, ground := Ground.phase }, { on := 6, ground := Ground.phase }, { on := 7, ground := Ground.phase }, { on := 8, ground := Ground.phase }, { on := 9, ground := Ground.phase }, { on := 10, ground := Ground.phase }, { on := 11, ground := Ground.phase }, { on := 12, ground := Ground.phase }, { on := 13, ground := Ground.phase }, { on := 14, ground := Ground.phase }, { on := 15, ground := Ground.phase }, { on := 16, ground := Ground.phase }, { on := 17, ground := Ground.phase }, { on := 18, ground := Ground.phase }, { on := 19, ground := Ground.phase }, { on := 20, ground := Ground.phase }, { on := 21, ground := Ground.phase }, { on := 22, ground := Ground.phase }, { on := 23, ground := Ground.phase }, { on := 24, ground := Ground.phase }, { on := 25, ground := Ground.phase }, { on := 26, ground := Ground.phase }, { on := 27, ground := Ground.phase }, { on := 28, ground := Ground.phase }, { on := 29, ground := Ground.phase }, { on := 30, ground := Ground.phase }, { on := 31, ground := Ground.phase }, { on := 32, ground := Ground.phase }], guard := none }) (v := ?_) rfl (by kernel_rfl) (by kernel_rfl) (by kernel_rfl) (fun _ _ _ h => h) (Or.inl ⟨by rfl, ?_⟩) (by assumption) ?_
      rotate_left
      · intro W hSW; first | (go_simp; done) | (go_simp; with_reducible rfl)
      try simp only [Act.put, List.setIfInBounds_toArray, List.set_cons_zero, List.set_cons_succ]
      refine wpAnyH_done (by kernel_rfl) ?_ _
      go_wp2_with fail
      go_ret
      exact ⟨rfl, hb10.out.trans ((hB.trans (hRw.mono (by have := hB.size; omega))).mono hgB)⟩
    · have hE : (x.toList == (⟨#[]⟩ : ByteArray).toList) = false := by
        rw [beq_eq_false_iff_ne, ByteArray.toList_eq, ByteArray.toList_eq]
        exact fun e => hx1 (by apply ByteArray.ext; rw [← Array.toList_inj]; exact e)
      have hN : (x.toList != y.toList) = true := by
        rw [bne_iff_ne, ByteArray.toList_eq, ByteArray.toList_eq]
        exact fun e => hx2 (by apply ByteArray.ext; rw [← Array.toList_inj]; exact e)
      have hE2 : (x.toList == y.toList) = false := by
        rw [beq_eq_false_iff_ne, ByteArray.toList_eq, ByteArray.toList_eq]
        exact fun e => hx2 (by apply ByteArray.ext; rw [← Array.toList_inj]; exact e)
      have hE1 : (x.toList == []) = false := by
        have h9 := hE
        rw [ByteArray.toList_eq ⟨#[]⟩] at h9
        exact h9
      clear hx1 hx2
      go_upto_region 28 with fail
      have hRw : Below wc.heap.size wc wc.drew := ⟨rfl, rfl, rfl, Nat.le_refl _, fun _ _ => rfl⟩
      refine wp_region_held_drew (S := fun W => Below wc.heap.size wc W) (by kernel_rfl) hRw (fun hHeld => ?_)
      refine wpAnyH_take (i := 0) (oi := { dst := some 112, op := Op.load 27 (Operand.tmp 5), type := 27, pos := "outright.go:41", after := #[], guard := none }) (v := .agg cs) rfl (by kernel_rfl) (by kernel_rfl) (by kernel_rfl) (fun _ _ _ h => h) (yields_loadV (by rfl) (.tmp 5) (by rfl) _ cs (by rfl) h7 (fun W hW => hvs.below hW)) (by assumption) ?_
      try simp only [Act.put, List.setIfInBounds_toArray, List.set_cons_zero, List.set_cons_succ]
      refine wpAnyH_take (i := 1) (oi := { dst := some 113, op := Op.load 27 (Operand.tmp 6), type := 27, pos := "outright.go:41", after := #[], guard := none }) (v := .agg ct) rfl (by kernel_rfl) (by kernel_rfl) (by kernel_rfl) (fun _ _ _ h => h) (yields_loadV (by rfl) (.tmp 6) (by rfl) _ ct (by rfl) h7t (fun W hW => hvt.below hW)) (by assumption) ?_
      try simp only [Act.put, List.setIfInBounds_toArray, List.set_cons_zero, List.set_cons_succ]
      refine wpAnyH_lone (R := fun W => Below wc.heap.size wc W) (i := 2) (oi := { dst := some 114, op := Op.call { callee := Callee.value (Operand.func 11), args := #[Operand.tmp 112, Operand.tmp 113], argTypes := #[27, 27] }, type := 4, pos := "outright.go:41", after := #[{ on := 0, ground := Ground.data }, { on := 1, ground := Ground.data }], guard := none }) (vi := .bool false) (by kernel_rfl) rfl hRw (fun _ h => h) ?_ ?_
      · intro W hW K hK
        go_simp
        refine (HS1.out W _ _ (HW.out W (hB.trans (hW.mono (by have := hB.size; omega)))) (hWT.out W hW)).mono ?_
        rintro e W2 ⟨rfl, hb⟩
        go_wp2_with fail
        exact hK.out _ (below_then hW hb)
      clear hRw hHeld
      intro W9 hRw hHeld
      try simp only [Act.put, List.setIfInBounds_toArray, List.set_cons_zero, List.set_cons_succ]
      refine wpAnyH_take (i := 3) (oi := { dst := some 115, op := Op.unOp UnOp.not 4 (Operand.tmp 114), type := 4, pos := "outright.go:41", after := #[{ on := 2, ground := Ground.data }], guard := none }) (v := ?_) rfl (by kernel_rfl) (by kernel_rfl) (by kernel_rfl) (fun _ _ _ h => h) (Or.inl ⟨by rfl, ?_⟩) (by assumption) ?_
      rotate_left
      · intro W hSW; first | (go_simp; done) | (go_simp; with_reducible rfl)
      try simp only [Act.put, List.setIfInBounds_toArray, List.set_cons_zero, List.set_cons_succ]
      refine wpAnyH_take (i := 4) (oi := { dst := some 116, op := Op.move (Operand.tmp 115), type := 4, pos := "outright.go:41", after := #[{ on := 3, ground := Ground.data }, { on := 2, ground := Ground.chain }], guard := none }) (v := ?_) rfl (by kernel_rfl) (by kernel_rfl) (by kernel_rfl) (fun _ _ _ h => h) (Or.inl ⟨by rfl, ?_⟩) (by assumption) ?_
      rotate_left
      · intro W hSW; first | (go_simp; done) | (go_simp; with_reducible rfl)
      try simp only [Act.put, List.setIfInBounds_toArray, List.set_cons_zero, List.set_cons_succ]
      refine wpAnyH_take (i := 5) (oi := { dst := some 117, op := Op.load 27 (Operand.tmp 6), type := 27, pos := "outright.go:41", after := #[{ on := 4, ground := Ground.guard }], guard := some (4, true) }) (v := .agg ct) rfl (by kernel_rfl) (by kernel_rfl) (by kernel_rfl) (fun _ _ _ h => h) (yields_loadV (by rfl) (.tmp 6) (by rfl) _ ct (by rfl) h7t (fun W hW => hvt.below hW)) (by assumption) ?_
      try simp only [Act.put, List.setIfInBounds_toArray, List.set_cons_zero, List.set_cons_succ]
      refine wpAnyH_take (i := 6) (oi := { dst := some 118, op := Op.load 27 (Operand.tmp 5), type := 27, pos := "outright.go:41", after := #[{ on := 4, ground := Ground.guard }], guard := some (4, true) }) (v := .agg cs) rfl (by kernel_rfl) (by kernel_rfl) (by kernel_rfl) (fun _ _ _ h => h) (yields_loadV (by rfl) (.tmp 5) (by rfl) _ cs (by rfl) h7 (fun W hW => hvs.below hW)) (by assumption) ?_
      try simp only [Act.put, List.setIfInBounds_toArray, List.set_cons_zero, List.set_cons_succ]
      refine wpAnyH_lone (R := fun W => Below wc.heap.size wc W) (i := 7) (oi := { dst := some 119, op := Op.call { callee := Callee.value (Operand.func 11), args := #[Operand.tmp 117, Operand.tmp 118], argTypes := #[27, 27] }, type := 4, pos := "outright.go:41", after := #[{ on := 5, ground := Ground.data }, { on := 6, ground := Ground.data }, { on := 4, ground := Ground.chain }, { on := 4, ground := Ground.guard }], guard := some (4, true) }) (vi := .bool false) (by kernel_rfl) rfl hRw (fun _ h => h) ?_ ?_
      · intro W hW K hK
        go_simp
        refine (HS2.out W _ _ (hWT.out W hW) (HW.out W (hB.trans (hW.mono (by have := hB.size; omega))))).mono ?_
        rintro e W2 ⟨rfl, hb⟩
        go_wp2_with fail
        exact hK.out _ (below_then hW hb)
      clear hRw hHeld
      intro W9 hRw hHeld
      try simp only [Act.put, List.setIfInBounds_toArray, List.set_cons_zero, List.set_cons_succ]
      refine wpAnyH_take (i := 8) (oi := { dst := some 120, op := Op.unOp UnOp.not 4 (Operand.tmp 119), type := 4, pos := "outright.go:41", after := #[{ on := 7, ground := Ground.data }, { on := 4, ground := Ground.guard }], guard := some (4, true) }) (v := ?_) rfl (by kernel_rfl) (by kernel_rfl) (by kernel_rfl) (fun _ _ _ h => h) (Or.inl ⟨by rfl, ?_⟩) (by assumption) ?_
      rotate_left
      · intro W hSW; first | (go_simp; done) | (go_simp; with_reducible rfl)
      try simp only [Act.put, List.setIfInBounds_toArray, List.set_cons_zero, List.set_cons_succ]
      refine wpAnyH_take (i := 9) (oi := { dst := some 121, op := Op.pick (Operand.tmp 116) (Operand.tmp 120) (Operand.const (Value.bool false)), type := 4, pos := "outright.go:41", after := #[{ on := 4, ground := Ground.data }, { on := 8, ground := Ground.data }], guard := none }) (v := ?_) rfl (by kernel_rfl) (by kernel_rfl) (by kernel_rfl) (fun _ _ _ h => h) (Or.inl ⟨by rfl, ?_⟩) (by assumption) ?_
      rotate_left
      · intro W hSW; first | (go_simp; done) | (go_simp; with_reducible rfl)
      try simp only [Act.put, List.setIfInBounds_toArray, List.set_cons_zero, List.set_cons_succ]
      refine wpAnyH_take (i := 10) (oi := { dst := some 122, op := Op.move (Operand.tmp 121), type := 4, pos := "outright.go:41", after := #[{ on := 9, ground := Ground.data }, { on := 7, ground := Ground.chain }], guard := none }) (v := ?_) rfl (by kernel_rfl) (by kernel_rfl) (by kernel_rfl) (fun _ _ _ h => h) (Or.inl ⟨by rfl, ?_⟩) (by assumption) ?_
      rotate_left
      · intro W hSW; first | (go_simp; done) | (go_simp; with_reducible rfl)
      try simp only [Act.put, List.setIfInBounds_toArray, List.set_cons_zero, List.set_cons_succ]
      refine wpAnyH_take (i := 11) (oi := { dst := some 123, op := Op.load 27 (Operand.tmp 6), type := 27, pos := "outright.go:41", after := #[{ on := 10, ground := Ground.guard }], guard := some (10, true) }) (v := .agg ct) rfl (by kernel_rfl) (by kernel_rfl) (by kernel_rfl) (fun _ _ _ h => h) (yields_loadV (by rfl) (.tmp 6) (by rfl) _ ct (by rfl) h7t (fun W hW => hvt.below hW)) (by assumption) ?_
      try simp only [Act.put, List.setIfInBounds_toArray, List.set_cons_zero, List.set_cons_succ]
      refine wpAnyH_lone (R := fun W => Below wc.heap.size wc W) (i := 12) (oi := { dst := some 124, op := Op.call { callee := Callee.value (Operand.func 9), args := #[Operand.tmp 123], argTypes := #[27] }, type := 9, pos := "outright.go:41", after := #[{ on := 11, ground := Ground.data }, { on := 10, ground := Ground.chain }, { on := 10, ground := Ground.guard }], guard := some (10, true) }) (vi := .string x) (by kernel_rfl) rfl hRw (fun _ h => h) ?_ ?_
      · intro W hW K hK
        go_simp
        refine (HX.out W _ (hWT.out W hW)).mono ?_
        rintro e W2 ⟨rfl, hb⟩
        go_wp2_with fail
        exact hK.out _ (below_then hW hb)
      clear hRw hHeld
      intro W9 hRw hHeld
      try simp only [Act.put, List.setIfInBounds_toArray, List.set_cons_zero, List.set_cons_succ]
      refine wpAnyH_take (i := 13) (oi := { dst := some 125, op := Op.binOp BinOp.eql 9 (Operand.tmp 124) (Operand.const (Value.string { data := #[] })) 9, type := 4, pos := "outright.go:41", after := #[{ on := 12, ground := Ground.data }, { on := 10, ground := Ground.guard }], guard := some (10, true) }) (v := ?_) rfl (by kernel_rfl) (by kernel_rfl) (by kernel_rfl) (fun _ _ _ h => h) (Or.inl ⟨by rfl, ?_⟩) (by assumption) ?_
      rotate_left
      · intro W hSW; first | (go_simp; done) | (go_simp; with_reducible rfl)
      try simp only [Act.put, List.setIfInBounds_toArray, List.set_cons_zero, List.set_cons_succ]
      refine wpAnyH_take (i := 14) (oi := { dst := some 126, op := Op.move (Operand.tmp 125), type := 4, pos := "outright.go:41", after := #[{ on := 13, ground := Ground.data }, { on := 12, ground := Ground.chain }, { on := 10, ground := Ground.guard }], guard := some (10, true) }) (v := ?_) rfl (by kernel_rfl) (by kernel_rfl) (by kernel_rfl) (fun _ _ _ h => h) (Or.inl ⟨by rfl, ?_⟩) (by assumption) ?_
      rotate_left
      · intro W hSW; first | (go_simp; done) | (go_simp; with_reducible rfl)
      try simp only [Act.put, List.setIfInBounds_toArray, List.set_cons_zero, List.set_cons_succ]
      refine wpAnyH_take (i := 15) (oi := { dst := some 127, op := Op.load 27 (Operand.tmp 6), type := 27, pos := "outright.go:41", after := #[{ on := 14, ground := Ground.guard }], guard := some (14, false) }) (v := .agg ct) rfl (by kernel_rfl) (by kernel_rfl) (by kernel_rfl) (fun _ _ _ h => h) (yields_loadV (by rfl) (.tmp 6) (by rfl) _ ct (by rfl) h7t (fun W hW => hvt.below hW)) (by assumption) ?_
      try simp only [Act.put, List.setIfInBounds_toArray, List.set_cons_zero, List.set_cons_succ]
      refine wpAnyH_take (i := 17) (oi := { dst := some 129, op := Op.load 27 (Operand.tmp 5), type := 27, pos := "outright.go:41", after := #[{ on := 14, ground := Ground.guard }], guard := some (14, false) }) (v := .agg cs) rfl (by kernel_rfl) (by kernel_rfl) (by kernel_rfl) (fun _ _ _ h => h) (yields_loadV (by rfl) (.tmp 5) (by rfl) _ cs (by rfl) h7 (fun W hW => hvs.below hW)) (by assumption) ?_
      try simp only [Act.put, List.setIfInBounds_toArray, List.set_cons_zero, List.set_cons_succ]
      refine wpAnyH_lone (R := fun W => Below wc.heap.size wc W) (i := 16) (oi := { dst := some 128, op := Op.call { callee := Callee.value (Operand.func 9), args := #[Operand.tmp 127], argTypes := #[27] }, type := 9, pos := "outright.go:41", after := #[{ on := 15, ground := Ground.data }, { on := 14, ground := Ground.chain }, { on := 14, ground := Ground.guard }], guard := some (14, false) }) (vi := .string x) (by kernel_rfl) rfl hRw (fun _ h => h) ?_ ?_
      · intro W hW K hK
        go_simp
        refine (HX.out W _ (hWT.out W hW)).mono ?_
        rintro e W2 ⟨rfl, hb⟩
        go_wp2_with fail
        exact hK.out _ (below_then hW hb)
      clear hRw hHeld
      intro W9 hRw hHeld
      try simp only [Act.put, List.setIfInBounds_toArray, List.set_cons_zero, List.set_cons_succ]
      refine wpAnyH_lone (R := fun W => Below wc.heap.size wc W) (i := 18) (oi := { dst := some 130, op := Op.call { callee := Callee.value (Operand.func 9), args := #[Operand.tmp 129], argTypes := #[27] }, type := 9, pos := "outright.go:41", after := #[{ on := 17, ground := Ground.data }, { on := 16, ground := Ground.chain }, { on := 14, ground := Ground.guard }], guard := some (14, false) }) (vi := .string y) (by kernel_rfl) rfl hRw (fun _ h => h) ?_ ?_
      · intro W hW K hK
        go_simp
        refine (HB.out W _ (HW.out W (hB.trans (hW.mono (by have := hB.size; omega))))).mono ?_
        rintro e W2 ⟨rfl, hb⟩
        go_wp2_with fail
        exact hK.out _ (below_then hW hb)
      clear hRw hHeld
      intro W9 hRw hHeld
      try simp only [Act.put, List.setIfInBounds_toArray, List.set_cons_zero, List.set_cons_succ]
      refine wpAnyH_take (i := 19) (oi := { dst := some 131, op := Op.binOp BinOp.neq 9 (Operand.tmp 128) (Operand.tmp 130) 9, type := 4, pos := "outright.go:41", after := #[{ on := 16, ground := Ground.data }, { on := 18, ground := Ground.data }, { on := 14, ground := Ground.guard }], guard := some (14, false) }) (v := ?_) rfl (by kernel_rfl) (by kernel_rfl) (by kernel_rfl) (fun _ _ _ h => h) (Or.inl ⟨by rfl, ?_⟩) (by assumption) ?_
      rotate_left
      · intro W hSW; first | (go_simp; done) | (go_simp; with_reducible rfl)
      try simp only [Act.put, List.setIfInBounds_toArray, List.set_cons_zero, List.set_cons_succ]
      refine wpAnyH_take (i := 20) (oi := { dst := some 132, op := Op.pick (Operand.tmp 126) (Operand.const (Value.bool true)) (Operand.tmp 131), type := 4, pos := "outright.go:41", after := #[{ on := 14, ground := Ground.data }, { on := 19, ground := Ground.data }, { on := 10, ground := Ground.guard }], guard := some (10, true) }) (v := ?_) rfl (by kernel_rfl) (by kernel_rfl) (by kernel_rfl) (fun _ _ _ h => h) (Or.inl ⟨by rfl, ?_⟩) (by assumption) ?_
      rotate_left
      · intro W hSW; first | (go_simp; done) | (go_simp; with_reducible rfl)
      try simp only [Act.put, List.setIfInBounds_toArray, List.set_cons_zero, List.set_cons_succ]
      refine wpAnyH_take (i := 21) (oi := { dst := some 133, op := Op.pick (Operand.tmp 122) (Operand.tmp 132) (Operand.const (Value.bool false)), type := 4, pos := "outright.go:41", after := #[{ on := 10, ground := Ground.data }, { on := 20, ground := Ground.data }], guard := none }) (v := ?_) rfl (by kernel_rfl) (by kernel_rfl) (by kernel_rfl) (fun _ _ _ h => h) (Or.inl ⟨by rfl, ?_⟩) (by assumption) ?_
      rotate_left
      · intro W hSW; first | (go_simp; done) | (go_simp; with_reducible rfl)
      try simp only [Act.put, List.setIfInBounds_toArray, List.set_cons_zero, List.set_cons_succ]
      refine wpAnyH_take (i := 22) (oi := { dst := some 134, op := Op.move (Operand.tmp 133), type := 4, pos := "outright.go:41", after := #[{ on := 21, ground := Ground.data }, { on := 18, ground := Ground.chain }], guard := none }) (v := ?_) rfl (by kernel_rfl) (by kernel_rfl) (by kernel_rfl) (fun _ _ _ h => h) (Or.inl ⟨by rfl, ?_⟩) (by assumption) ?_
      rotate_left
      · intro W hSW; first | (go_simp; done) | (go_simp; with_reducible rfl)
      try simp only [Act.put, List.setIfInBounds_toArray, List.set_cons_zero, List.set_cons_succ]
      refine wpAnyH_take (i := 23) (oi := { dst := some 135, op := Op.fieldAddr 27 (Operand.tmp 6) 1, type := 0, pos := "outright.go:41", after := #[{ on := 22, ground := Ground.guard }], guard := some (22, true) }) (v := ?_) rfl (by kernel_rfl) (by kernel_rfl) (by kernel_rfl) (fun _ _ _ h => h) (Or.inl ⟨by rfl, ?_⟩) (by assumption) ?_
      rotate_left
      · intro W hSW; first | (go_simp; done) | (go_simp; with_reducible rfl)
      try simp only [Act.put, List.setIfInBounds_toArray, List.set_cons_zero, List.set_cons_succ]
      refine wpAnyH_take (i := 24) (oi := { dst := some 136, op := Op.load 22 (Operand.tmp 135), type := 22, pos := "outright.go:41", after := #[{ on := 23, ground := Ground.data }, { on := 22, ground := Ground.guard }], guard := some (22, true) }) (v := ?_) rfl (by kernel_rfl) (by kernel_rfl) (by kernel_rfl) (fun _ _ _ h => h) (Or.inl ⟨by rfl, ?_⟩) (by assumption) ?_
      rotate_left
      · intro W hSW; have z0 := cell_on hSW z1; first | (go_simp; done) | (go_simp; with_reducible rfl)
      try simp only [Act.put, List.setIfInBounds_toArray, List.set_cons_zero, List.set_cons_succ]
      refine wpAnyH_take (i := 25) (oi := { dst := some 137, op := Op.call { callee := Callee.builtin Builtin.len, args := #[Operand.tmp 136], argTypes := #[22] }, type := 3, pos := "outright.go:41", after := #[{ on := 24, ground := Ground.data }, { on := 22, ground := Ground.guard }], guard := some (22, true) }) (v := ?_) rfl (by kernel_rfl) (by kernel_rfl) (by kernel_rfl) (fun _ _ _ h => h) (Or.inl ⟨by rfl, ?_⟩) (by assumption) ?_
      rotate_left
      · intro W hSW; first | (go_simp; done) | (go_simp; with_reducible rfl)
      try simp only [Act.put, List.setIfInBounds_toArray, List.set_cons_zero, List.set_cons_succ]
      refine wpAnyH_take (i := 26) (oi := { dst := some 138, op := Op.binOp BinOp.geq 3 (Operand.tmp 137) (Operand.const (Value.int IntKind.i64 2)) 3, type := 4, pos := "outright.go:41", after := #[{ on := 25, ground := Ground.data }, { on := 22, ground := Ground.guard }], guard := some (22, true) }) (v := ?_) rfl (by kernel_rfl) (by kernel_rfl) (by kernel_rfl) (fun _ _ _ h => h) (Or.inl ⟨by rfl, ?_⟩) (by assumption) ?_
      rotate_left
      · intro W hSW; first | (go_simp; done) | (go_simp; with_reducible rfl)
      try simp only [Act.put, List.setIfInBounds_toArray, List.set_cons_zero, List.set_cons_succ]
      refine wpAnyH_take (i := 27) (oi := { dst := some 139, op := Op.pick (Operand.tmp 134) (Operand.tmp 138) (Operand.const (Value.bool false)), type := 4, pos := "outright.go:41", after := #[{ on := 22, ground := Ground.data }, { on := 26, ground := Ground.data }], guard := none }) (v := ?_) rfl (by kernel_rfl) (by kernel_rfl) (by kernel_rfl) (fun _ _ _ h => h) (Or.inl ⟨by rfl, ?_⟩) (by assumption) ?_
      rotate_left
      · intro W hSW; first | (go_simp; done) | (go_simp; with_reducible rfl)
      try simp only [Act.put, List.setIfInBounds_toArray, List.set_cons_zero, List.set_cons_succ]
      refine wpAnyH_take (i := 28) (oi := { dst := some 140, op := Op.move (Operand.tmp 139), type := 4, pos := "outright.go:41", after := #[{ on := 27, ground := Ground.data }, { on := 22, ground := Ground.chain }], guard := none }) (v := ?_) rfl (by kernel_rfl) (by kernel_rfl) (by kernel_rfl) (fun _ _ _ h => h) (Or.inl ⟨by rfl, ?_⟩) (by assumption) ?_
      rotate_left
      · intro W hSW; first | (go_simp; done) | (go_simp; with_reducible rfl)
      try simp only [Act.put, List.setIfInBounds_toArray, List.set_cons_zero, List.set_cons_succ]
      refine wpAnyH_take (i := 29) (oi := { dst := some 141, op := Op.pick (Operand.tmp 140) (Operand.const (Value.bool true)) (Operand.const (Value.bool false)), type := 4, pos := "outright.go:41", after := #[{ on := 28, ground := Ground.data }], guard := none }) (v := ?_) rfl (by kernel_rfl) (by kernel_rfl) (by kernel_rfl) (fun _ _ _ h => h) (Or.inl ⟨by rfl, ?_⟩) (by assumption) ?_
      rotate_left
      · intro W hSW; first | (go_simp; done) | (go_simp; with_reducible rfl)
      try simp only [Act.put, List.setIfInBounds_toArray, List.set_cons_zero, List.set_cons_succ]
      refine wpAnyH_take (i := 30) (oi := { dst := some 142, op := Op.move (Operand.tmp 141), type := 4, pos := "outright.go:41", after := #[{ on := 29, ground := Ground.data }, { on := 28, ground := Ground.chain }], guard := none }) (v := ?_) rfl (by kernel_rfl) (by kernel_rfl) (by kernel_rfl) (fun _ _ _ h => h) (Or.inl ⟨by rfl, ?_⟩) (by assumption) ?_
      rotate_left
      · intro W hSW; first | (go_simp; done) | (go_simp; with_reducible rfl)
      try simp only [Act.put, List.setIfInBounds_toArray, List.set_cons_zero, List.set_cons_succ]
      refine wpAnyH_lone (R := fun W => Below wc.heap.size wc W) (i := 31) (oi := { dst := some 143, op := Op.call { callee := Callee.value (Operand.func 10), args := #[], argTypes := #[] }, type := 4, pos := "outright.go:41", after := #[{ on := 30, ground := Ground.chain }, { on := 30, ground := Ground.guard }], guard := some (30, true) }) (vi := .bool true) (by kernel_rfl) rfl hRw (fun _ h => h) ?_ ?_
      · intro W hW K hK
        go_simp
        refine (HAW.out W).mono ?_
        rintro e W2 ⟨rfl, hb⟩
        go_wp2_with fail
        exact hK.out _ (below_then hW hb)
      clear hRw hHeld
      intro W9 hRw hHeld
      try simp only [Act.put, List.setIfInBounds_toArray, List.set_cons_zero, List.set_cons_succ]
      refine wpAnyH_take (i := 32) (oi := { dst := some 144, op := Op.pick (Operand.tmp 142) (Operand.tmp 143) (Operand.const (Value.bool false)), type := 4, pos := "outright.go:41", after := #[{ on := 30, ground := Ground.data }, { on := 31, ground := Ground.data }], guard := none }) (v := ?_) rfl (by kernel_rfl) (by kernel_rfl) (by kernel_rfl) (fun _ _ _ h => h) (Or.inl ⟨by rfl, ?_⟩) (by assumption) ?_
      rotate_left
      · intro W hSW; first | (go_simp; done) | (go_simp; with_reducible rfl)
      try simp only [Act.put, List.setIfInBounds_toArray, List.set_cons_zero, List.set_cons_succ]
      refine wpAnyH_take (i := 33) (oi := { dst := some 4, op := Op.assign (Operand.tmp 144), type := 4, pos := "outright.go:41", after := #[{ on := 32, ground := Ground.data }, { on := 31, ground := Ground.chain }, { on := 0, ground := Ground.phase }, { on := 1, ground := Ground.phase }, { on := 2, ground := Ground.phase }, { on := 3, ground := Ground.phase }, { on := 4, ground := Ground.phase }, { on := 5, ground := Ground.phase }, { on := 6, ground := Ground.phase }, { on := 7, ground := Ground.phase }, { on := 8, ground := Ground.phase }, { on := 9, ground := Ground.phase }, { on := 10, ground := Ground.phase }, { on := 11, ground := Ground.phase }, { on := 12, ground := Ground.phase }, { on := 13, ground := Ground.phase }, { on := 14, ground := Ground.phase }, { on := 15, ground := Ground.phase }, { on := 16, ground := Ground.phase }, { on := 17, ground := Ground.phase }, { on := 18, ground := Ground.phase }, { on := 19, ground := Ground.phase }, { on := 20, ground := Ground.phase }, { on := 21, ground := Ground.phase }, { on := 22, ground := Ground.phase }, { on := 23, ground := Ground.phase }, { on := 24, ground := Ground.phase }, { on := 25, ground := Ground.phase }, { on := 26, ground := Ground.phase }, { on := 27, ground := Ground.phase }, { on := 28, ground := Ground.phase }, { on := 29, ground := Ground.phase }, { on := 30, ground := Ground.phase }, { on := 31, ground := Ground.phase }, { on := 32, ground := Ground.phase }], guard := none }) (v := ?_) rfl (by kernel_rfl) (by kernel_rfl) (by kernel_rfl) (fun _ _ _ h => h) (Or.inl ⟨by rfl, ?_⟩) (by assumption) ?_
      rotate_left
      · intro W hSW; first | (go_simp; done) | (go_simp; with_reducible rfl)
      try simp only [Act.put, List.setIfInBounds_toArray, List.set_cons_zero, List.set_cons_succ]
      refine wpAnyH_done (by kernel_rfl) ?_ _
      go_wp2_with fail
      go_ret
      exact ⟨rfl, hb10.out.trans ((hB.trans (hRw.mono (by have := hB.size; omega))).mono hgB)⟩

end Go.Proofs.Ythdnldbkpllciaa
