/-
  The walk of SpecWrong.
-/
import Derived.Test.YthdnldbkpllciaaSwP
import Derived.Test.YthdnldbkpllciaaZ05
import Derived.Test.YthdnldbkpllciaaZ35
import Derived.Deep.CutBlock
import Derived.Handy
namespace Go.Proofs.Ythdnldbkpllciaa
open Go.RowKit

set_option maxRecDepth 10000 in
set_option maxHeartbeats 4000000 in
theorem wrong_any (a0 a1 a2 : Int) (_h0 : (Lit.int .i64 a0).wf = true) (_h1 : (Lit.int .i64 a1).wf = true) (_h2 : (Lit.int .i64 a2).wf = true) (w : World) : Calls Try.prog 3 #[.int .i64 a0, .int .i64 a1, .int .i64 a2] w fun e w' => e = .returned (.bool true) ∧ Below w.heap.size w w' := by
  obtain ⟨S, hNum, HR⟩ := spec_num a0
  have hok := hNum.ok
  have hsane := SaneS.of_ok hok
  clear hNum _h0 _h1 _h2
  obtain ⟨h, hh, HP1⟩ := place_ex a1 20 (by omega) (by omega)
  obtain ⟨r, hr, HP2⟩ := place_ex a2 1000 (by omega) (by omega)
  have HC : Hid (∀ W v, SpecW W v S → Calls Try.prog 7 #[v] W fun e w' => e = .returned (.bool true) ∧ Below W.heap.size W w') := fun W v hv => by have h9 := check_spec hv; rw [told_yes hok] at h9; exact h9
  have HF : Hid (∀ W v T, ¬ specOk T → SpecW W v T → Calls Try.prog 7 #[v] W fun e w' => e = .returned (.bool false) ∧ Below W.heap.size W w') := fun W v T hT hv => by have h9 := check_spec hv; rw [told_no hT] at h9; exact h9
  have HY : Hid (∀ W v T, ¬ specOk T → SpecW W v T → Calls Try.prog 9 #[v] W fun e w' => e = .returned (.string ⟨#[]⟩) ∧ Below W.heap.size W w') := fun W v T hT hv => bytes_no hv hT
  have HAW : Hid (∀ W, Calls Try.prog 10 #[] W fun e w' => e = .returned (.bool true) ∧ Below W.heap.size W w') := awake4_any
  replace HR := hide HR
  replace HP1 := hide HP1
  replace HP2 := hide HP2
  replace hok := hide hok
  replace hsane := hide hsane
  obtain ⟨g0, hg0⟩ : ∃ g, w.heap.size = g := ⟨_, rfl⟩
  rw [hg0]
  go_enter Try.func3, Try.ntmps3
  go_wp2_with fail
  refine (HR.out _).mono ?_
  rintro e w1 ⟨v, rfl, hO1, hb1⟩
  rw [hg0] at hb1
  obtain ⟨v1, v2, v3, v4, rfl, hP1, hA1, hI1, hS1⟩ := hO1
  obtain ⟨ks, hks, hP1, hK1⟩ := hP1
  rw [hg0] at hA1 hI1 hS1
  have h7 := scells_seven S.id S.start S.delta (own_one hP1) (own_one hA1) (own_one hI1) (own_one hS1)
  have hW1 : SpecW w1 (.agg (scells S.id v1 v2 v3 v4 S.start S.delta)) S := OwnSpec.wide (B := g0) ⟨v1, v2, v3, v4, rfl, ⟨ks, hks, by rw [← hg0]; exact hP1, fun j hj => by rw [← hg0]; exact hK1 j hj⟩, hA1, hI1, hS1⟩ hsane.out
  obtain ⟨b1, c1, rfl⟩ := ownsRow_form_n hP1 (by have := hok.out.2.2.1.1; omega)
  obtain ⟨b2, c2, rfl⟩ := ownsRow_form_n hA1 (by have := hok.out.2.2.2.1.1; omega)
  obtain ⟨b3, c3, rfl⟩ := ownsRow_form_n hI1 (by have := hok.out.2.1.1; omega)
  obtain ⟨b4, c4, rfl⟩ := ownsRow_form_n hS1 (by have := hok.out.2.1.1; have := hok.out.2.1.2.2.1; omega)
  obtain ⟨g, hg⟩ : ∃ g, w1.heap.size = g := ⟨_, rfl⟩
  have hgg : g0 ≤ g := by have := hb1.size; omega
  go_wp2_with (first
    | ((with_reducible refine wpList_at ?_); refine wpList_varS (by rfl) (by rfl) (by rfl) (.tmp 7) (.tmp 10) (by rfl) _ (by rfl) (by rfl) h7 ?_; intro w2 hv2 hz2 hb2)
    | ((with_reducible refine wpList_at ?_); refine wpList_loadV (by rfl) (.tmp 7) (by rfl) _ _ (by rfl) hv2 h7 ?_))
  have hW2 := hW1.below hb2
  refine (HC.out _ _ hW2).mono ?_
  rintro e w3 ⟨rfl, hb3⟩
  have hb23 := below_then hb2 hb3
  replace hv2 : SAt w2 w1.heap.size S.id _ _ _ _ S.start S.delta := hv2
  have hv3 := hv2.below hb3
  have hP3 := own_below hP1 hb23
  have hA3 := own_below hA1 hb23
  have hI3 := own_below hI1 hb23
  have hS3 := own_below hS1 hb23
  have hK3 : Hid (∀ j, j < S.parties.length → Low w3 w3.heap.size (ks.getD j undef) (S.parties.getD j noParty).keys) := fun j hj => ⟨OwnS.base ((hK1 j hj).below hb23) (Nat.zero_le _), fun k hk => (World.ownsRow.lt ((hK1 j hj).below hb23) k hk).2⟩
  have hB3 : Below g0 w w3 := hb1.trans (hb23.mono (by omega))
  have hgl : g < w3.heap.size := by rw [← hg]; exact hv3.lt
  rw [hg] at hv3
  clear hz2 hv2 hW1 hW2 hb1 hb2 hb3 hb23 hP1 hA1 hI1 hS1 hK1 HC h7 HR
  go_wp2_with fail
  refine (HP2.out _).mono ?_
  rintro e w0 ⟨rfl, hw0⟩
  subst w0
  go_upto_region 5 with fail
  obtain ⟨kq, hkq⟩ : ∃ k : Int, 1 + (r : Int) = k := ⟨_, rfl⟩
  have hkq1 : 1 ≤ kq := by omega
  have hkq2 : kq ≤ 1000 := by omega
  rw [hkq]
  clear hr hkq HP2
  obtain ⟨G, hGd⟩ : ∃ G, w3.heap.size = G := ⟨_, rfl⟩
  have hG : Hid (G ≤ w3.heap.size) := by rw [hGd]; exact Nat.le_refl _
  replace hGd := hide hGd
  have hNs : Hid (S.parties.length ≤ 6 ∧ S.arcs.length ≤ 12 ∧ S.leaders.length ≤ 3 ∧ S.locks.length ≤ 3) := ⟨hok.out.2.2.1.2.1, hok.out.2.2.2.1.2.1, hok.out.2.1.2.1, by have h1 := hok.out.2.1.2.1; have h2 := hok.out.2.1.2.2.1; omega⟩
  have hks1 : Hid (∀ k ∈ ks, k.oneCell' = true) := fun k hk => by
    obtain ⟨j, hj, rfl⟩ := List.mem_iff_getElem.1 hk
    have h9 := (hK3.out j (by rw [← hks]; exact hj)).1
    rw [List.getD_eq_getElem?_getD, List.getElem?_eq_getElem hj] at h9
    exact own_one h9
  have X1 : Hid ((∀ j u, (pcells S.parties ks)[j]? = some u → w3.cell? ((⟨b1, 0, none⟩ : Addr).add j) = some u) ∧ (pcells S.parties ks).length = S.parties.length * 2 ∧ ∀ u ∈ pcells S.parties ks, u.oneCell' = true) := ⟨World.ownsRow.cells hP3 rfl, pcells_length _ _ hks, pcells_one _ _ hks1.out⟩
  have X2 : Hid ((∀ j u, (S.arcs.flatMap acells)[j]? = some u → w3.cell? ((⟨b2, 0, none⟩ : Addr).add j) = some u) ∧ (S.arcs.flatMap acells).length = S.arcs.length * 5 ∧ ∀ u ∈ S.arcs.flatMap acells, u.oneCell' = true) := ⟨World.ownsRow.cells hA3 rfl, acells_length _, acells_oneW _⟩
  have d1 := hv3.cells.2.1
  have d2 := hv3.cells.2.2.1
  have HV := hide hv3
  have HN : Hid (S.parties.length ≤ 1000000 ∧ S.arcs.length ≤ 1000000) := ⟨by have := hNs.out; omega, by have := hNs.out; omega⟩
  have HS1 : Below w3.heap.size w3 w3.drew := ⟨rfl, rfl, rfl, Nat.le_refl _, fun _ _ => rfl⟩
  clear hv3
  replace hP3 := hide hP3
  replace hA3 := hide hA3
  replace hI3 := hide hI3
  replace hS3 := hide hS3
  refine wp_region_M 7 (fun W => Below w3.heap.size w3 W) 7 (fun _ => True) (by kernel_rfl) ?_
  refine wpAnyM_pure (i := 0) (oi := { dst := some 17, op := Op.fieldAddr 27 (Operand.tmp 7) 1, type := 0, pos := "law.go:52", after := #[], guard := none }) (v := ?_) rfl (by kernel_rfl) (by kernel_rfl) (by kernel_rfl) (fun _ _ _ h => h) (by decide) (by decide) (Or.inl ⟨by rfl, ?_⟩) (fun _ => HS1) (fun _ => trivial) ?_
  rotate_left
  · intro W hSW; first | (go_simp; done) | (go_simp; with_reducible rfl)
  try simp only [Act.put, List.setIfInBounds_toArray, List.set_cons_zero, List.set_cons_succ]
  refine wpAnyM_take (i := 1) (oi := { dst := some 18, op := Op.load 22 (Operand.tmp 17), type := 22, pos := "law.go:52", after := #[{ on := 0, ground := Ground.data }], guard := none }) (v := ?_) rfl (by kernel_rfl) (by kernel_rfl) (by kernel_rfl) (fun _ _ _ h => h) (by decide) (by decide) (by kernel_rfl) (by kernel_rfl) (by kernel_rfl) (Or.inl ⟨by rfl, ?_⟩) HS1 (fun _ => trivial) ?_
  rotate_left
  · intro W hSW; have z := cell_on hSW d1; first | (go_simp; done) | (go_simp; with_reducible rfl)
  try simp only [Act.put, List.setIfInBounds_toArray, List.set_cons_zero, List.set_cons_succ]
  refine wpAnyM_pure (i := 3) (oi := { dst := some 20, op := Op.fieldAddr 27 (Operand.tmp 7) 2, type := 0, pos := "law.go:52", after := #[], guard := none }) (v := ?_) rfl (by kernel_rfl) (by kernel_rfl) (by kernel_rfl) (fun _ _ _ h => h) (by decide) (by decide) (Or.inl ⟨by rfl, ?_⟩) (fun _ => HS1) (fun _ => trivial) ?_
  rotate_left
  · intro W hSW; first | (go_simp; done) | (go_simp; with_reducible rfl)
  try simp only [Act.put, List.setIfInBounds_toArray, List.set_cons_zero, List.set_cons_succ]
  refine wpAnyM_take (i := 4) (oi := { dst := some 21, op := Op.load 23 (Operand.tmp 20), type := 23, pos := "law.go:52", after := #[{ on := 3, ground := Ground.data }], guard := none }) (v := ?_) rfl (by kernel_rfl) (by kernel_rfl) (by kernel_rfl) (fun _ _ _ h => h) (by decide) (by decide) (by kernel_rfl) (by kernel_rfl) (by kernel_rfl) (Or.inl ⟨by rfl, ?_⟩) HS1 (fun _ => trivial) ?_
  rotate_left
  · intro W hSW; have z := cell_on hSW d2; first | (go_simp; done) | (go_simp; with_reducible rfl)
  try simp only [Act.put, List.setIfInBounds_toArray, List.set_cons_zero, List.set_cons_succ]
  refine wpAnyM_lone (T := fun u W => W.ownsRow G 32 2 u S.parties.length (pcells S.parties ks) ∧ Below w3.heap.size w3 W) (i := 2) (oi := { dst := some 19, op := Op.call { callee := Callee.builtin Builtin.append, args := #[Operand.const (Value.slice none 0 0), Operand.tmp 18], argTypes := #[22, 22] }, type := 22, pos := "law.go:52", after := #[{ on := 1, ground := Ground.data }], guard := none }) (by kernel_rfl) rfl ?_ (fun v W hT _ => hT.2) (fun _ _ _ _ => trivial) ?_
  · intro K hK
    refine step_appR (st := 22) Try.underlying22 Try.info32 rfl (by decide) (by decide) _ (by rfl) (.const (.slice none 0 0)) (.tmp 18) (by rfl) G _ 0 [] (by rfl) (World.ownsRow_nil _ _ _ _) ⟨b1, 0, none⟩ S.parties.length c1 (pcells S.parties ks) (by rfl) X1.out.2.1 (fun j u hj => X1.out.1 j u hj) X1.out.2.2 (by have := HN.out.1; omega) (Nat.le_trans hG.out (Nat.le_refl _)) ?_
    intro v' w' h1 h2
    rw [Nat.zero_add, List.nil_append] at h1
    exact hK.out _ _ ⟨h1, (show Below w3.heap.size w3 w3.drew from ⟨rfl, rfl, rfl, Nat.le_refl _, fun _ _ => rfl⟩).grown h2 (Nat.le_refl _) (fun k hk => by simp [Value.ownBlock] at hk)⟩
  intro u1 Wa hu1
  have HS1 : (fun W => Below w3.heap.size w3 W) Wa := (fun v W hT => hT.2) u1 Wa hu1
  try simp only [Act.put, List.setIfInBounds_toArray, List.set_cons_zero, List.set_cons_succ]
  refine wpAnyM_pure (i := 6) (oi := { dst := some 23, op := Op.fieldAddr 27 (Operand.tmp 7) 1, type := 0, pos := "law.go:52", after := #[{ on := 0, ground := Ground.phase }, { on := 1, ground := Ground.phase }, { on := 2, ground := Ground.phase }, { on := 3, ground := Ground.phase }, { on := 4, ground := Ground.phase }, { on := 5, ground := Ground.textOnly Departure.lateStoresUnsure }], guard := none }) (v := ?_) rfl (by kernel_rfl) (by kernel_rfl) (by kernel_rfl) (fun _ _ _ h => h) (by decide) (by decide) (Or.inl ⟨by rfl, ?_⟩) (fun _ => HS1) (fun _ => trivial) ?_
  rotate_left
  · intro W hSW; first | (go_simp; done) | (go_simp; with_reducible rfl)
  try simp only [Act.put, List.setIfInBounds_toArray, List.set_cons_zero, List.set_cons_succ]
  refine wpAnyM_lone (T := fun u W => W.ownsRow G 34 5 u S.arcs.length (S.arcs.flatMap acells) ∧ W.ownsRow G 32 2 u1 S.parties.length (pcells S.parties ks) ∧ Below w3.heap.size w3 W) (i := 5) (oi := { dst := some 22, op := Op.call { callee := Callee.builtin Builtin.append, args := #[Operand.const (Value.slice none 0 0), Operand.tmp 21], argTypes := #[23, 23] }, type := 23, pos := "law.go:52", after := #[{ on := 4, ground := Ground.data }, { on := 2, ground := Ground.chain }], guard := none }) (by kernel_rfl) rfl ?_ (fun v W hT _ => hT.2.2) (fun _ _ _ _ => trivial) ?_
  · intro K hK
    refine step_appR (st := 23) Try.underlying23 Try.info34 rfl (by decide) (by decide) _ (by rfl) (.const (.slice none 0 0)) (.tmp 21) (by rfl) G _ 0 [] (by rfl) (World.ownsRow_nil _ _ _ _) ⟨b2, 0, none⟩ S.arcs.length c2 (S.arcs.flatMap acells) (by rfl) X2.out.2.1 (fun j u hj => cell_on hu1.2 (X2.out.1 j u hj)) X2.out.2.2 (by have := HN.out.2; omega) (Nat.le_trans hG.out hu1.2.size) ?_
    intro v' w' h1 h2
    rw [Nat.zero_add, List.nil_append] at h1
    exact hK.out _ _ ⟨h1, World.ownsRow.kept hu1.1 h2 (by cases u1.ownBlock <;> simp [Value.ownBlock]), hu1.2.grown h2 hu1.2.size (fun k hk => by simp [Value.ownBlock] at hk)⟩
  intro u2 Wb hu2
  have HS1 : (fun W => Below w3.heap.size w3 W) Wb := (fun v W hT => hT.2.2) u2 Wb hu2
  have hvb := HV.out.below hu2.2.2
  have qb := hvb.cells.2.1
  have fb := hvb.frozen 1
  obtain ⟨p1, q1, hua⟩ := row_slice hu2.2.1
  obtain ⟨p2, q2, hub⟩ := row_slice hu2.1
  subst hua hub
  try simp only [Act.put, List.setIfInBounds_toArray, List.set_cons_zero, List.set_cons_succ]
  refine wpAnyM_lone (T := fun _ W => SAt W g S.id ((.slice p1 S.parties.length q1)) (.slice (some ⟨b2, 0, none⟩) S.arcs.length c2) (.slice (some ⟨b3, 0, none⟩) S.leaders.length c3) (.slice (some ⟨b4, 0, none⟩) S.locks.length c4) S.start S.delta ∧ W.ownsRow G 32 2 (.slice p1 S.parties.length q1) S.parties.length (pcells S.parties ks) ∧ W.ownsRow G 34 5 (.slice p2 S.arcs.length q2) S.arcs.length (S.arcs.flatMap acells) ∧ w3.grownBy W (some g)) (i := 7) (oi := { dst := none, op := Op.store 22 (Operand.tmp 23) (Operand.tmp 19), type := 0, pos := "law.go:52", after := #[{ on := 6, ground := Ground.data }, { on := 2, ground := Ground.data }, { on := 5, ground := Ground.chain }, { on := 0, ground := Ground.phase }, { on := 1, ground := Ground.phase }, { on := 2, ground := Ground.phase }, { on := 3, ground := Ground.phase }, { on := 4, ground := Ground.phase }, { on := 5, ground := Ground.textOnly Departure.lateStoresUnsure }], guard := none }) (by kernel_rfl) rfl ?_ (fun _ _ _ h => gone (by kernel_rfl) h) (fun _ _ _ _ => trivial) ?_
  · intro K hK
    go_simp
    exact hK.out undef _ ⟨hvb.set1 _, World.ownsRow.kept hu2.2.1 (But.setCell _ _ _ _).grown (row_apart hu2.2.1 hvb (by decide)), World.ownsRow.kept hu2.1 (But.setCell _ _ _ _).grown (row_apart hu2.1 hvb (by decide)), (grown_then (below_grownR hu2.2.2) (But.setCell _ _ _ _).grown)⟩
  intro u3 Wc hu3
  clear hu1 hu2 hvb qb fb HS1
  have qc := hu3.1.cells.2.2.1
  have fc := hu3.1.frozen 2
  try simp only [Act.put]
  refine wpAnyM_pure (i := 8) (oi := { dst := some 24, op := Op.fieldAddr 27 (Operand.tmp 7) 2, type := 0, pos := "law.go:52", after := #[{ on := 0, ground := Ground.phase }, { on := 1, ground := Ground.phase }, { on := 2, ground := Ground.phase }, { on := 3, ground := Ground.phase }, { on := 4, ground := Ground.phase }, { on := 5, ground := Ground.phase }, { on := 6, ground := Ground.phase }, { on := 7, ground := Ground.phase }], guard := none }) (v := ?_) rfl (by kernel_rfl) (by kernel_rfl) (by kernel_rfl) (fun _ _ _ h => h) (by decide) (by decide) (Or.inl ⟨by rfl, ?_⟩) (fun h => gone (by kernel_rfl) h) (fun _ => trivial) ?_
  rotate_left
  · intro W hSW; first | (go_simp; done) | (go_simp; with_reducible rfl)
  try simp only [Act.put, List.setIfInBounds_toArray, List.set_cons_zero, List.set_cons_succ]
  refine wpAnyM_lone (T := fun _ W => SAt W g S.id ((.slice p1 S.parties.length q1)) ((.slice p2 S.arcs.length q2)) (.slice (some ⟨b3, 0, none⟩) S.leaders.length c3) (.slice (some ⟨b4, 0, none⟩) S.locks.length c4) S.start S.delta ∧ W.ownsRow G 32 2 (.slice p1 S.parties.length q1) S.parties.length (pcells S.parties ks) ∧ W.ownsRow G 34 5 (.slice p2 S.arcs.length q2) S.arcs.length (S.arcs.flatMap acells) ∧ w3.grownBy W (some g)) (i := 9) (oi := { dst := none, op := Op.store 23 (Operand.tmp 24) (Operand.tmp 22), type := 0, pos := "law.go:52", after := #[{ on := 8, ground := Ground.data }, { on := 5, ground := Ground.data }, { on := 7, ground := Ground.chain }, { on := 0, ground := Ground.phase }, { on := 1, ground := Ground.phase }, { on := 2, ground := Ground.phase }, { on := 3, ground := Ground.phase }, { on := 4, ground := Ground.phase }, { on := 5, ground := Ground.phase }, { on := 6, ground := Ground.phase }, { on := 7, ground := Ground.phase }], guard := none }) (by kernel_rfl) rfl ?_ (fun _ _ _ h => gone (by kernel_rfl) h) (fun _ _ _ _ => trivial) ?_
  · intro K hK
    go_simp
    exact hK.out undef _ ⟨hu3.1.set2 _, World.ownsRow.kept hu3.2.1 (But.setCell _ _ _ _).grown (row_apart hu3.2.1 hu3.1 (by decide)), World.ownsRow.kept hu3.2.2.1 (But.setCell _ _ _ _).grown (row_apart hu3.2.2.1 hu3.1 (by decide)), (grown_then hu3.2.2.2 (But.setCell _ _ _ _).grown)⟩
  intro u4 w5 hu4
  clear qc fc hu3
  try simp only [Act.put]
  refine wpAnyM_done (by kernel_rfl) ?_ _
  obtain ⟨hv5, hP5, hA5, hg5⟩ := hu4
  clear d1 d2 X1 X2 HN hP3 hA3
  have hI5 : OwnI w5 g0 (.slice (some ⟨b3, 0, none⟩) S.leaders.length c3) S.leaders := World.ownsRow.kept hI3.out hg5 (row_apart hI3.out HV.out (by decide))
  have hS5 : OwnS w5 g0 (.slice (some ⟨b4, 0, none⟩) S.locks.length c4) S.locks := World.ownsRow.kept hS3.out hg5 (row_apart hS3.out HV.out (by decide))
  have hK5 : Hid (∀ j, j < S.parties.length → Low w5 G (ks.getD j undef) (S.parties.getD j noParty).keys) := fun j hj => by have h9 := (hK3.out j hj).kept hg5 (row_apart (hK3.out j hj).1 HV.out (by decide)); rw [hGd.out] at h9; exact h9
  have hB5 : Below g0 w w5 := hB3.grown hg5 (by have := hB3.size; omega) (fun k hk => by injection hk with hk; omega)
  have hG5 : Hid (G ≤ w5.heap.size) := Nat.le_trans hG.out hg5.size
  have hgG : g < G := by rw [← hGd.out]; exact HV.out.lt
  clear hI3 hS3 hK3 hB3 hg5 HV hG hGd hgl
  have X1 : Hid ((∀ j u, (S.leaders.map (Value.int .i64))[j]? = some u → w5.cell? ((⟨b3, 0, none⟩ : Addr).add j) = some u) ∧ (S.leaders.map (Value.int .i64)).length = S.leaders.length * 1 ∧ ∀ u ∈ S.leaders.map (Value.int .i64), u.oneCell' = true) := ⟨World.ownsRow.cells hI5 rfl, by simp, fun u hu => by obtain ⟨x, _, rfl⟩ := List.mem_map.1 hu; rfl⟩
  have X2 : Hid ((∀ j u, (S.locks.map Value.string)[j]? = some u → w5.cell? ((⟨b4, 0, none⟩ : Addr).add j) = some u) ∧ (S.locks.map Value.string).length = S.locks.length * 1 ∧ ∀ u ∈ S.locks.map Value.string, u.oneCell' = true) := ⟨World.ownsRow.cells hS5 rfl, by simp, fun u hu => by obtain ⟨x, _, rfl⟩ := List.mem_map.1 hu; rfl⟩
  have d1 := hv5.cells.2.2.2.1
  have d2 := hv5.cells.2.2.2.2.1
  have HV := hide hv5
  have hG := hG5
  have HN : Hid (S.leaders.length ≤ 1000000 ∧ S.locks.length ≤ 1000000) := ⟨by have := hNs.out; omega, by have := hNs.out; omega⟩
  have HS1 : Below w5.heap.size w5 w5.drew := ⟨rfl, rfl, rfl, Nat.le_refl _, fun _ _ => rfl⟩
  clear hv5 hI5 hS5 hG5
  replace hP5 := hide hP5
  replace hA5 := hide hA5
  go_upto_region 6 with fail
  refine wp_region_M 7 (fun W => Below w5.heap.size w5 W) 7 (fun _ => True) (by kernel_rfl) ?_
  refine wpAnyM_pure (i := 0) (oi := { dst := some 25, op := Op.fieldAddr 27 (Operand.tmp 7) 3, type := 0, pos := "law.go:53", after := #[], guard := none }) (v := ?_) rfl (by kernel_rfl) (by kernel_rfl) (by kernel_rfl) (fun _ _ _ h => h) (by decide) (by decide) (Or.inl ⟨by rfl, ?_⟩) (fun _ => HS1) (fun _ => trivial) ?_
  rotate_left
  · intro W hSW; first | (go_simp; done) | (go_simp; with_reducible rfl)
  try simp only [Act.put, List.setIfInBounds_toArray, List.set_cons_zero, List.set_cons_succ]
  refine wpAnyM_take (i := 1) (oi := { dst := some 26, op := Op.load 24 (Operand.tmp 25), type := 24, pos := "law.go:53", after := #[{ on := 0, ground := Ground.data }], guard := none }) (v := ?_) rfl (by kernel_rfl) (by kernel_rfl) (by kernel_rfl) (fun _ _ _ h => h) (by decide) (by decide) (by kernel_rfl) (by kernel_rfl) (by kernel_rfl) (Or.inl ⟨by rfl, ?_⟩) HS1 (fun _ => trivial) ?_
  rotate_left
  · intro W hSW; have z := cell_on hSW d1; first | (go_simp; done) | (go_simp; with_reducible rfl)
  try simp only [Act.put, List.setIfInBounds_toArray, List.set_cons_zero, List.set_cons_succ]
  refine wpAnyM_pure (i := 3) (oi := { dst := some 28, op := Op.fieldAddr 27 (Operand.tmp 7) 4, type := 0, pos := "law.go:53", after := #[], guard := none }) (v := ?_) rfl (by kernel_rfl) (by kernel_rfl) (by kernel_rfl) (fun _ _ _ h => h) (by decide) (by decide) (Or.inl ⟨by rfl, ?_⟩) (fun _ => HS1) (fun _ => trivial) ?_
  rotate_left
  · intro W hSW; first | (go_simp; done) | (go_simp; with_reducible rfl)
  try simp only [Act.put, List.setIfInBounds_toArray, List.set_cons_zero, List.set_cons_succ]
  refine wpAnyM_take (i := 4) (oi := { dst := some 29, op := Op.load 25 (Operand.tmp 28), type := 25, pos := "law.go:53", after := #[{ on := 3, ground := Ground.data }], guard := none }) (v := ?_) rfl (by kernel_rfl) (by kernel_rfl) (by kernel_rfl) (fun _ _ _ h => h) (by decide) (by decide) (by kernel_rfl) (by kernel_rfl) (by kernel_rfl) (Or.inl ⟨by rfl, ?_⟩) HS1 (fun _ => trivial) ?_
  rotate_left
  · intro W hSW; have z := cell_on hSW d2; first | (go_simp; done) | (go_simp; with_reducible rfl)
  try simp only [Act.put, List.setIfInBounds_toArray, List.set_cons_zero, List.set_cons_succ]
  refine wpAnyM_lone (T := fun u W => W.ownsRow G 3 1 u S.leaders.length (S.leaders.map (Value.int .i64)) ∧ Below w5.heap.size w5 W) (i := 2) (oi := { dst := some 27, op := Op.call { callee := Callee.builtin Builtin.append, args := #[Operand.const (Value.slice none 0 0), Operand.tmp 26], argTypes := #[24, 24] }, type := 24, pos := "law.go:53", after := #[{ on := 1, ground := Ground.data }], guard := none }) (by kernel_rfl) rfl ?_ (fun v W hT _ => hT.2) (fun _ _ _ _ => trivial) ?_
  · intro K hK
    refine step_appR (st := 24) Try.underlying24 Try.info3 rfl (by decide) (by decide) _ (by rfl) (.const (.slice none 0 0)) (.tmp 26) (by rfl) G _ 0 [] (by rfl) (World.ownsRow_nil _ _ _ _) ⟨b3, 0, none⟩ S.leaders.length c3 (S.leaders.map (Value.int .i64)) (by rfl) X1.out.2.1 (fun j u hj => X1.out.1 j u hj) X1.out.2.2 (by have := HN.out.1; omega) (Nat.le_trans hG.out (Nat.le_refl _)) ?_
    intro v' w' h1 h2
    rw [Nat.zero_add, List.nil_append] at h1
    exact hK.out _ _ ⟨h1, (show Below w5.heap.size w5 w5.drew from ⟨rfl, rfl, rfl, Nat.le_refl _, fun _ _ => rfl⟩).grown h2 (Nat.le_refl _) (fun k hk => by simp [Value.ownBlock] at hk)⟩
  intro u1 Wa hu1
  have HS1 : (fun W => Below w5.heap.size w5 W) Wa := (fun v W hT => hT.2) u1 Wa hu1
  try simp only [Act.put, List.setIfInBounds_toArray, List.set_cons_zero, List.set_cons_succ]
  refine wpAnyM_pure (i := 6) (oi := { dst := some 31, op := Op.fieldAddr 27 (Operand.tmp 7) 3, type := 0, pos := "law.go:53", after := #[{ on := 0, ground := Ground.phase }, { on := 1, ground := Ground.phase }, { on := 2, ground := Ground.phase }, { on := 3, ground := Ground.phase }, { on := 4, ground := Ground.phase }, { on := 5, ground := Ground.textOnly Departure.lateStoresUnsure }], guard := none }) (v := ?_) rfl (by kernel_rfl) (by kernel_rfl) (by kernel_rfl) (fun _ _ _ h => h) (by decide) (by decide) (Or.inl ⟨by rfl, ?_⟩) (fun _ => HS1) (fun _ => trivial) ?_
  rotate_left
  · intro W hSW; first | (go_simp; done) | (go_simp; with_reducible rfl)
  try simp only [Act.put, List.setIfInBounds_toArray, List.set_cons_zero, List.set_cons_succ]
  refine wpAnyM_lone (T := fun u W => W.ownsRow G 9 1 u S.locks.length (S.locks.map Value.string) ∧ W.ownsRow G 3 1 u1 S.leaders.length (S.leaders.map (Value.int .i64)) ∧ Below w5.heap.size w5 W) (i := 5) (oi := { dst := some 30, op := Op.call { callee := Callee.builtin Builtin.append, args := #[Operand.const (Value.slice none 0 0), Operand.tmp 29], argTypes := #[25, 25] }, type := 25, pos := "law.go:53", after := #[{ on := 4, ground := Ground.data }, { on := 2, ground := Ground.chain }], guard := none }) (by kernel_rfl) rfl ?_ (fun v W hT _ => hT.2.2) (fun _ _ _ _ => trivial) ?_
  · intro K hK
    refine step_appR (st := 25) Try.underlying25 Try.info9 rfl (by decide) (by decide) _ (by rfl) (.const (.slice none 0 0)) (.tmp 29) (by rfl) G _ 0 [] (by rfl) (World.ownsRow_nil _ _ _ _) ⟨b4, 0, none⟩ S.locks.length c4 (S.locks.map Value.string) (by rfl) X2.out.2.1 (fun j u hj => cell_on hu1.2 (X2.out.1 j u hj)) X2.out.2.2 (by have := HN.out.2; omega) (Nat.le_trans hG.out hu1.2.size) ?_
    intro v' w' h1 h2
    rw [Nat.zero_add, List.nil_append] at h1
    exact hK.out _ _ ⟨h1, World.ownsRow.kept hu1.1 h2 (by cases u1.ownBlock <;> simp [Value.ownBlock]), hu1.2.grown h2 hu1.2.size (fun k hk => by simp [Value.ownBlock] at hk)⟩
  intro u2 Wb hu2
  have HS1 : (fun W => Below w5.heap.size w5 W) Wb := (fun v W hT => hT.2.2) u2 Wb hu2
  have hvb := HV.out.below hu2.2.2
  have qb := hvb.cells.2.2.2.1
  have fb := hvb.frozen 3
  obtain ⟨p3, q3, hua⟩ := row_slice hu2.2.1
  obtain ⟨p4, q4, hub⟩ := row_slice hu2.1
  subst hua hub
  try simp only [Act.put, List.setIfInBounds_toArray, List.set_cons_zero, List.set_cons_succ]
  refine wpAnyM_lone (T := fun _ W => SAt W g S.id (.slice p1 S.parties.length q1) (.slice p2 S.arcs.length q2) ((.slice p3 S.leaders.length q3)) (.slice (some ⟨b4, 0, none⟩) S.locks.length c4) S.start S.delta ∧ W.ownsRow G 3 1 (.slice p3 S.leaders.length q3) S.leaders.length (S.leaders.map (Value.int .i64)) ∧ W.ownsRow G 9 1 (.slice p4 S.locks.length q4) S.locks.length (S.locks.map Value.string) ∧ w5.grownBy W (some g)) (i := 7) (oi := { dst := none, op := Op.store 24 (Operand.tmp 31) (Operand.tmp 27), type := 0, pos := "law.go:53", after := #[{ on := 6, ground := Ground.data }, { on := 2, ground := Ground.data }, { on := 5, ground := Ground.chain }, { on := 0, ground := Ground.phase }, { on := 1, ground := Ground.phase }, { on := 2, ground := Ground.phase }, { on := 3, ground := Ground.phase }, { on := 4, ground := Ground.phase }, { on := 5, ground := Ground.textOnly Departure.lateStoresUnsure }], guard := none }) (by kernel_rfl) rfl ?_ (fun _ _ _ h => gone (by kernel_rfl) h) (fun _ _ _ _ => trivial) ?_
  · intro K hK
    go_simp
    exact hK.out undef _ ⟨hvb.set3 _, World.ownsRow.kept hu2.2.1 (But.setCell _ _ _ _).grown (row_apart hu2.2.1 hvb (by decide)), World.ownsRow.kept hu2.1 (But.setCell _ _ _ _).grown (row_apart hu2.1 hvb (by decide)), (grown_then (below_grownR hu2.2.2) (But.setCell _ _ _ _).grown)⟩
  intro u3 Wc hu3
  clear hu1 hu2 hvb qb fb HS1
  have qc := hu3.1.cells.2.2.2.2.1
  have fc := hu3.1.frozen 4
  try simp only [Act.put]
  refine wpAnyM_pure (i := 8) (oi := { dst := some 32, op := Op.fieldAddr 27 (Operand.tmp 7) 4, type := 0, pos := "law.go:53", after := #[{ on := 0, ground := Ground.phase }, { on := 1, ground := Ground.phase }, { on := 2, ground := Ground.phase }, { on := 3, ground := Ground.phase }, { on := 4, ground := Ground.phase }, { on := 5, ground := Ground.phase }, { on := 6, ground := Ground.phase }, { on := 7, ground := Ground.phase }], guard := none }) (v := ?_) rfl (by kernel_rfl) (by kernel_rfl) (by kernel_rfl) (fun _ _ _ h => h) (by decide) (by decide) (Or.inl ⟨by rfl, ?_⟩) (fun h => gone (by kernel_rfl) h) (fun _ => trivial) ?_
  rotate_left
  · intro W hSW; first | (go_simp; done) | (go_simp; with_reducible rfl)
  try simp only [Act.put, List.setIfInBounds_toArray, List.set_cons_zero, List.set_cons_succ]
  refine wpAnyM_lone (T := fun _ W => SAt W g S.id (.slice p1 S.parties.length q1) (.slice p2 S.arcs.length q2) ((.slice p3 S.leaders.length q3)) ((.slice p4 S.locks.length q4)) S.start S.delta ∧ W.ownsRow G 3 1 (.slice p3 S.leaders.length q3) S.leaders.length (S.leaders.map (Value.int .i64)) ∧ W.ownsRow G 9 1 (.slice p4 S.locks.length q4) S.locks.length (S.locks.map Value.string) ∧ w5.grownBy W (some g)) (i := 9) (oi := { dst := none, op := Op.store 25 (Operand.tmp 32) (Operand.tmp 30), type := 0, pos := "law.go:53", after := #[{ on := 8, ground := Ground.data }, { on := 5, ground := Ground.data }, { on := 7, ground := Ground.chain }, { on := 0, ground := Ground.phase }, { on := 1, ground := Ground.phase }, { on := 2, ground := Ground.phase }, { on := 3, ground := Ground.phase }, { on := 4, ground := Ground.phase }, { on := 5, ground := Ground.phase }, { on := 6, ground := Ground.phase }, { on := 7, ground := Ground.phase }], guard := none }) (by kernel_rfl) rfl ?_ (fun _ _ _ h => gone (by kernel_rfl) h) (fun _ _ _ _ => trivial) ?_
  · intro K hK
    go_simp
    exact hK.out undef _ ⟨hu3.1.set4 _, World.ownsRow.kept hu3.2.1 (But.setCell _ _ _ _).grown (row_apart hu3.2.1 hu3.1 (by decide)), World.ownsRow.kept hu3.2.2.1 (But.setCell _ _ _ _).grown (row_apart hu3.2.2.1 hu3.1 (by decide)), (grown_then hu3.2.2.2 (But.setCell _ _ _ _).grown)⟩
  intro u4 w6 hu4
  clear qc fc hu3
  try simp only [Act.put]
  refine wpAnyM_done (by kernel_rfl) ?_ _
  obtain ⟨hv6, hI6, hS6, hg6⟩ := hu4
  clear d1 d2 X1 X2 HN
  have hA6 : OwnA w6 G _ S.arcs := World.ownsRow.kept hA5.out hg6 (row_apart hA5.out HV.out (by decide))
  have hP6 := World.ownsRow.kept hP5.out hg6 (row_apart hP5.out HV.out (by decide))
  have hK6 : ∀ j, j < S.parties.length → Low w6 G (ks.getD j undef) (S.parties.getD j noParty).keys := fun j hj => (hK5.out j hj).kept hg6 (row_apart (hK5.out j hj).1 HV.out (by decide))
  have hB6 : Below g0 w w6 := hB5.grown hg6 (by have := hB5.size; omega) (fun k hk => by injection hk with hk; omega)
  have hG6 : G ≤ w6.heap.size := Nat.le_trans hG.out hg6.size
  have hO6 : Own4 w6 g G G _ _ _ _ ks S := ⟨hv6, hks, hP6, hK6, hA6, hI6, hS6⟩
  obtain ⟨e1, f1, hq1⟩ := ownsRow_form_n hP6 (by have := hok.out.2.2.1.1; omega)
  obtain ⟨e2, f2, hq2⟩ := ownsRow_form_n hA6 (by have := hok.out.2.2.2.1.1; omega)
  obtain ⟨e3, f3, hq3⟩ := ownsRow_form_n hI6 (by have := hok.out.2.1.1; omega)
  obtain ⟨e4, f4, hq4⟩ := ownsRow_form_n hS6 (by have := hok.out.2.1.1; have := hok.out.2.1.2.2.1; omega)
  rw [hq1, hq2, hq3, hq4] at hO6
  clear hv6 hP6 hA6 hI6 hS6 hK6 hA5 hP5 hB5 hK5 hg6 HV hks hks1
  go_upto_block 0 with fail
  refine (HP1.out _).mono ?_
  rintro e w0 ⟨rfl, hw0⟩
  subst w0
  go_upto_block 0 with fail
  clear HP1
  obtain ⟨p0, p1', P, hP⟩ : ∃ p0 p1 P, S.parties = p0 :: p1 :: P := list_two (by have := hok.out.2.2.1.1; omega)
  obtain ⟨l0, L, hL⟩ : ∃ x l, S.leaders = x :: l := list_one (by have := hok.out.2.1.1; omega)
  obtain ⟨k0, K, hK⟩ : ∃ x l, S.locks = x :: l := list_one (by have := hok.out.2.1.1; have := hok.out.2.1.2.2.1; omega)
  obtain ⟨a0, A, hA⟩ : ∃ x l, S.arcs = x :: l := list_one (by have := hok.out.2.2.2.1.1; omega)
  obtain ⟨_, hb1, x10, x11, x12, fz1⟩ := hO6.partAt p0 p1' P hP
  obtain ⟨_, hb2, x20, x21, x22, x23, x24, fz2⟩ := hO6.arcAt a0 A hA
  obtain ⟨_, hb3, x30, fz3⟩ := hO6.leadAt l0 L hL
  obtain ⟨_, hb4, x40, fz4⟩ := hO6.lockAt k0 K hK
  obtain ⟨y0, y1, y2, y3, y4, y5, y6⟩ := hO6.sv.cells
  have yf := hO6.sv.frozen
  have m1 : 0 < S.parties.length := by rw [hP]; simp
  have m1' : 1 < S.parties.length := by rw [hP]; simp
  have m2 : 0 < S.arcs.length := by rw [hA]; simp
  have m3 : 0 < S.leaders.length := by rw [hL]; simp
  have m4 : 0 < S.locks.length := by rw [hK]; simp
  have sP : Hid (PartySane p0 ∧ PartySane p1' ∧ ∀ p ∈ P, PartySane p) := by
    have h9 := all_getDW _ _ _ hsane.out.pa
    rw [hP] at h9
    exact ⟨h9 p0 (by simp), h9 p1' (by simp), fun p hp => h9 p (by simp [hp])⟩
  have sA : Hid (ArcSane a0 ∧ ∀ p ∈ A, ArcSane p) := by
    have h9 := all_getDW _ _ _ hsane.out.ar
    rw [hA] at h9
    exact ⟨h9 a0 (by simp), fun p hp => h9 p (by simp [hp])⟩
  have sL : Hid (In64 l0 ∧ ∀ p ∈ L, In64 p) := by
    have h9 := all_getDW _ _ _ hsane.out.le
    rw [hL] at h9
    exact ⟨h9 l0 (by simp), fun p hp => h9 p (by simp [hp])⟩
  have sK : Hid (k0.size ≤ 1000 ∧ ∀ p ∈ K, p.size ≤ 1000) := by
    have h9 := all_getDW (fun k : ByteArray => k.size ≤ 1000) ByteArray.empty S.locks hsane.out.lk
    rw [hK] at h9
    exact ⟨h9 k0 (by simp), fun p hp => h9 p (by simp [hp])⟩
  have nA : A.length ≤ 11 := by have h9 := hNs.out.2.1; rw [hA] at h9; simp at h9; omega
  have nL : L.length ≤ 2 := by have h9 := hNs.out.2.2.1; rw [hL] at h9; simp at h9; omega
  have nK : K.length ≤ 2 := by have h9 := hNs.out.2.2.2; rw [hK] at h9; simp at h9; omega
  have nP : P.length ≤ 4 := by have h9 := hNs.out.1; rw [hP] at h9; simp at h9; omega
  have nPS : S.parties.length ≤ 6 := hNs.out.1
  replace hP := hide hP
  replace hL := hide hL
  replace hK := hide hK
  replace hA := hide hA
  replace nA := hide nA
  replace nL := hide nL
  replace nK := hide nK
  replace nP := hide nP
  replace hO6 := hide hO6
  go_cut [] from 36 to 192 (fun wx => WrongAt w g0 g wx)
  case first =>
    have hcase : h = 0 ∨ h = 1 ∨ h = 2 ∨ h = 3 ∨ h = 4 ∨ h = 5 ∨ h = 6 ∨ h = 7 ∨ h = 8 ∨ h = 9 ∨ h = 10 ∨ h = 11 ∨ h = 12 ∨ h = 13 ∨ h = 14 ∨ h = 15 ∨ h = 16 ∨ h = 17 ∨ h = 18 ∨ h = 19 := by omega
    rcases hcase with rfl | rfl | rfl | rfl | rfl | rfl | rfl | rfl | rfl | rfl | rfl | rfl | rfl | rfl | rfl | rfl | rfl | rfl | rfl | rfl
    · clear fz1 fz2 fz3 fz4 x10 x11 x12 x20 x21 x22 x23 x24 x30 x40 y1 y2 y3 y4 y5 y6
      go_wp2_with fail
      go_meet
      case rel => exact Own4.wrong (hO6.out.re (But.setCell _ _ _ _) ⟨#[]⟩ S.start S.delta (hO6.out.sv.set0 _)) ({ hsane.out with id := by show (0 : Nat) ≤ 1000; omega }) (fun hk => by have h8 : 1 ≤ (0 : Nat) := hk.1.1; omega) (hB6.setCell (p := ⟨g, 0, none⟩) (by show g0 ≤ g; omega) _)
    · clear fz1 fz2 fz3 fz4 x10 x11 x12 x20 x21 x22 x23 x24 x30 x40 y1 y2 y3 y4 y5 y6
      go_wp2_with fail
      go_meet
      case rel => exact Own4.wrong (hO6.out.re (But.setCell _ _ _ _) ⟨#[48, 49, 50, 51, 52, 53, 54, 55, 56, 57, 48, 49, 50, 51, 52, 53, 54]⟩ S.start S.delta (hO6.out.sv.set0 _)) ({ hsane.out with id := by show (17 : Nat) ≤ 1000; omega }) (fun hk => by have h8 : (17 : Nat) ≤ 16 := hk.1.2; omega) (hB6.setCell (p := ⟨g, 0, none⟩) (by show g0 ≤ g; omega) _)
    · clear fz2 fz3 fz4 x11 x20 x21 x22 x23 x24 x30 x40 y0 y2 y3 y4 y5 y6
      have m1I : (1 : Int) < (S.parties.length : Int) := by omega
      go_upto_region 14 with fail
      have HS1 : Below w6.heap.size w6 w6.drew := ⟨rfl, rfl, rfl, Nat.le_refl _, fun _ _ => rfl⟩
      refine wp_region_M 9 (fun W => Below w6.heap.size w6 W) 9 (fun _ => True) (by kernel_rfl) ?_
      refine wpAnyM_pure (i := 0) (oi := { dst := some 44, op := Op.fieldAddr 27 (Operand.tmp 7) 1, type := 0, pos := "law.go:60", after := #[], guard := none }) (v := ?_) rfl (by kernel_rfl) (by kernel_rfl) (by kernel_rfl) (fun _ _ _ h => h) (by decide) (by decide) (Or.inl ⟨by rfl, ?_⟩) (fun _ => HS1) (fun _ => trivial) ?_
      rotate_left
      · intro W hSW; first | (go_simp; done) | (go_simp; with_reducible rfl)
      try simp only [Act.put, List.setIfInBounds_toArray, List.set_cons_zero, List.set_cons_succ]
      refine wpAnyM_take (i := 1) (oi := { dst := some 45, op := Op.load 22 (Operand.tmp 44), type := 22, pos := "law.go:60", after := #[{ on := 0, ground := Ground.data }], guard := none }) (v := ?_) rfl (by kernel_rfl) (by kernel_rfl) (by kernel_rfl) (fun _ _ _ h => h) (by decide) (by decide) (by kernel_rfl) (by kernel_rfl) (by kernel_rfl) (Or.inl ⟨by rfl, ?_⟩) HS1 (fun _ => trivial) ?_
      rotate_left
      · intro W hSW; have z := cell_on hSW y1; first | (go_simp; done) | (go_simp; with_reducible rfl)
      try simp only [Act.put, List.setIfInBounds_toArray, List.set_cons_zero, List.set_cons_succ]
      refine wpAnyM_pure (i := 2) (oi := { dst := some 46, op := Op.fieldAddr 27 (Operand.tmp 7) 1, type := 0, pos := "law.go:60", after := #[], guard := none }) (v := ?_) rfl (by kernel_rfl) (by kernel_rfl) (by kernel_rfl) (fun _ _ _ h => h) (by decide) (by decide) (Or.inl ⟨by rfl, ?_⟩) (fun _ => HS1) (fun _ => trivial) ?_
      rotate_left
      · intro W hSW; first | (go_simp; done) | (go_simp; with_reducible rfl)
      try simp only [Act.put, List.setIfInBounds_toArray, List.set_cons_zero, List.set_cons_succ]
      refine wpAnyM_take (i := 3) (oi := { dst := some 47, op := Op.load 22 (Operand.tmp 46), type := 22, pos := "law.go:60", after := #[{ on := 2, ground := Ground.data }], guard := none }) (v := ?_) rfl (by kernel_rfl) (by kernel_rfl) (by kernel_rfl) (fun _ _ _ h => h) (by decide) (by decide) (by kernel_rfl) (by kernel_rfl) (by kernel_rfl) (Or.inl ⟨by rfl, ?_⟩) HS1 (fun _ => trivial) ?_
      rotate_left
      · intro W hSW; have z := cell_on hSW y1; first | (go_simp; done) | (go_simp; with_reducible rfl)
      try simp only [Act.put, List.setIfInBounds_toArray, List.set_cons_zero, List.set_cons_succ]
      refine wpAnyM_pure (i := 4) (oi := { dst := some 48, op := Op.indexAddr 22 (Operand.tmp 47) (Operand.const (Value.int IntKind.i64 0)), type := 0, pos := "law.go:60", after := #[{ on := 3, ground := Ground.data }], guard := none }) (v := ?_) rfl (by kernel_rfl) (by kernel_rfl) (by kernel_rfl) (fun _ _ _ h => h) (by decide) (by decide) (Or.inl ⟨by rfl, ?_⟩) (fun _ => HS1) (fun _ => trivial) ?_
      rotate_left
      · intro W hSW; first | (go_simp; done) | (go_simp; with_reducible rfl)
      try simp only [Act.put, List.setIfInBounds_toArray, List.set_cons_zero, List.set_cons_succ]
      refine wpAnyM_pure (i := 5) (oi := { dst := some 49, op := Op.fieldAddr 32 (Operand.tmp 48) 0, type := 0, pos := "law.go:60", after := #[{ on := 4, ground := Ground.data }], guard := none }) (v := ?_) rfl (by kernel_rfl) (by kernel_rfl) (by kernel_rfl) (fun _ _ _ h => h) (by decide) (by decide) (Or.inl ⟨by rfl, ?_⟩) (fun _ => HS1) (fun _ => trivial) ?_
      rotate_left
      · intro W hSW; first | (go_simp; done) | (go_simp; with_reducible rfl)
      try simp only [Act.put, List.setIfInBounds_toArray, List.set_cons_zero, List.set_cons_succ]
      refine wpAnyM_take (i := 6) (oi := { dst := some 50, op := Op.load 9 (Operand.tmp 49), type := 9, pos := "law.go:60", after := #[{ on := 5, ground := Ground.data }], guard := none }) (v := ?_) rfl (by kernel_rfl) (by kernel_rfl) (by kernel_rfl) (fun _ _ _ h => h) (by decide) (by decide) (by kernel_rfl) (by kernel_rfl) (by kernel_rfl) (Or.inl ⟨by rfl, ?_⟩) HS1 (fun _ => trivial) ?_
      rotate_left
      · intro W hSW; have z := cell_on hSW x10; first | (go_simp; done) | (go_simp; with_reducible rfl)
      try simp only [Act.put, List.setIfInBounds_toArray, List.set_cons_zero, List.set_cons_succ]
      refine wpAnyM_pure (i := 7) (oi := { dst := some 51, op := Op.indexAddr 22 (Operand.tmp 45) (Operand.const (Value.int IntKind.i64 1)), type := 0, pos := "law.go:60", after := #[{ on := 1, ground := Ground.data }, { on := 0, ground := Ground.phase }, { on := 1, ground := Ground.phase }, { on := 2, ground := Ground.phase }, { on := 3, ground := Ground.phase }, { on := 4, ground := Ground.phase }, { on := 5, ground := Ground.phase }, { on := 6, ground := Ground.phase }], guard := none }) (v := ?_) rfl (by kernel_rfl) (by kernel_rfl) (by kernel_rfl) (fun _ _ _ h => h) (by decide) (by decide) (Or.inl ⟨by rfl, ?_⟩) (fun _ => HS1) (fun _ => trivial) ?_
      rotate_left
      · intro W hSW; first | (go_simp; done) | (go_simp; with_reducible rfl)
      try simp only [Act.put, List.setIfInBounds_toArray, List.set_cons_zero, List.set_cons_succ]
      refine wpAnyM_pure (i := 8) (oi := { dst := some 52, op := Op.fieldAddr 32 (Operand.tmp 51) 0, type := 0, pos := "law.go:60", after := #[{ on := 7, ground := Ground.data }, { on := 0, ground := Ground.phase }, { on := 1, ground := Ground.phase }, { on := 2, ground := Ground.phase }, { on := 3, ground := Ground.phase }, { on := 4, ground := Ground.phase }, { on := 5, ground := Ground.phase }, { on := 6, ground := Ground.phase }], guard := none }) (v := ?_) rfl (by kernel_rfl) (by kernel_rfl) (by kernel_rfl) (fun _ _ _ h => h) (by decide) (by decide) (Or.inl ⟨by rfl, ?_⟩) (fun _ => HS1) (fun _ => trivial) ?_
      rotate_left
      · intro W hSW; first | (go_simp; done) | (go_simp; with_reducible rfl)
      try simp only [Act.put, List.setIfInBounds_toArray, List.set_cons_zero, List.set_cons_succ]
      refine wpAnyM_lone (T := fun _ W => W = w6.drew.setCell ⟨e1, 2, none⟩ (.string p0.acc)) (i := 9) (oi := { dst := none, op := Op.store 9 (Operand.tmp 52) (Operand.tmp 50), type := 0, pos := "law.go:60", after := #[{ on := 8, ground := Ground.data }, { on := 6, ground := Ground.data }, { on := 0, ground := Ground.phase }, { on := 1, ground := Ground.phase }, { on := 2, ground := Ground.phase }, { on := 3, ground := Ground.phase }, { on := 4, ground := Ground.phase }, { on := 5, ground := Ground.phase }, { on := 6, ground := Ground.phase }], guard := none }) (by kernel_rfl) rfl ?_ (fun _ _ _ h => gone (by kernel_rfl) h) (fun _ _ _ _ => trivial) ?_
      · intro K hK
        go_simp
        exact hK.out undef _ rfl
      intro v9 W9 h9
      subst h9
      try simp only [Act.put]
      refine wpAnyM_done (by kernel_rfl) ?_ _
      have hOD : Own4 w6.drew g G G _ _ _ _ ks S := ⟨hO6.out.sv, hO6.out.kl, hO6.out.pr, hO6.out.ky, hO6.out.ar, hO6.out.le, hO6.out.lo⟩
      have hBD : Below g0 w w6.drew := ⟨hB6.os, hB6.tape, hB6.output, hB6.size, hB6.block⟩
      go_wp2_with fail
      go_meet
      case rel =>
        obtain ⟨i0, i1, iP⟩ := sP.out
        have hT := hOD.acc 1 m1' p0.acc
        have eT : S.parties.set 1 ⟨p0.acc, (S.parties.getD 1 noParty).keys⟩ = p0 :: ⟨p0.acc, p1'.keys⟩ :: P := by rw [hP.out]; rfl
        rw [eT] at hT
        exact Own4.wrong hT (hsane.out.parts _ (by have := nP.out; simp; omega) (fun p hp => by rcases List.mem_cons.1 hp with rfl | hp; exact i0; rcases List.mem_cons.1 hp with rfl | hp; exact ⟨i0.1, i1.2⟩; exact iP p hp)) (fun hk => by have h9 := (hk.2.2.1.2.2 1 (by show 1 < (p0 :: ⟨p0.acc, p1'.keys⟩ :: P : List PartyM).length; simp)).2.2.2 0 (by omega); exact h9 rfl) (hBD.setCell (p := ⟨e1, 2, none⟩) (by show g0 ≤ e1; omega) _)
    · clear fz2 fz3 fz4 x11 x12 x20 x21 x22 x23 x24 x30 x40 y0 y2 y3 y4 y5 y6
      go_wp2_with fail
      go_meet
      case rel =>
        obtain ⟨i0, i1, iP⟩ := sP.out
        have hT := hO6.out.acc 0 m1 ⟨#[]⟩
        rw [hP.out] at hT
        exact Own4.wrong hT (hsane.out.parts _ (by have := nP.out; simp; omega) (fun p hp => by rcases List.mem_cons.1 hp with rfl | hp; exact ⟨by show (0 : Nat) ≤ 1000; omega, i0.2⟩; rcases List.mem_cons.1 hp with rfl | hp; exact i1; exact iP p hp)) (fun hk => by have h9 := (hk.2.2.1.2.2 0 (Nat.succ_pos _)).1; have h8 : 1 ≤ (0 : Nat) := h9.1; omega) (hB6.setCell (p := ⟨e1, 0, none⟩) (by show g0 ≤ e1; omega) _)
    · clear fz2 fz3 fz4 x10 x12 x20 x21 x22 x23 x24 x30 x40 y0 y2 y3 y4 y5 y6
      go_wp2_with fail
      go_meet
      case rel =>
        obtain ⟨i0, i1, iP⟩ := sP.out
        have hT := hO6.out.keys (Nat.le_refl _) p0 (p1' :: P) hP.out (.slice none 0 0) [] ⟨World.ownsRow_nil _ _ _ _, fun k hk => by simp [Value.ownBlock] at hk⟩
        exact Own4.wrong hT (hsane.out.parts _ (by have := nP.out; simp; omega) (fun p hp => by rcases List.mem_cons.1 hp with rfl | hp; exact ⟨i0.1, by simp, fun i hi => absurd hi (by simp)⟩; rcases List.mem_cons.1 hp with rfl | hp; exact i1; exact iP p hp)) (fun hk => by have h9 := (hk.2.2.1.2.2 0 (Nat.succ_pos _)).2.1; have h8 : (0 : Nat) = S.leaders.length := h9; omega) (hB6.setCell (p := ⟨e1, 1, none⟩) (by show g0 ≤ e1; omega) _)
    · clear fz2 fz3 fz4 x10 x12 x20 x21 x22 x23 x24 x30 x40 y0 y2 y3 y4 y5 y6
      have hky := (hO6.out.ky 0 m1).1
      have hk1 : 1 ≤ p0.keys.length := by have h9 := (hok.out.2.2.1.2.2 0 m1).2.1; rw [hP.out] at h9; have h8 : p0.keys.length = S.leaders.length := h9; omega
      have hk3 : p0.keys.length ≤ 3 := by have h9 := (hok.out.2.2.1.2.2 0 m1).2.1; rw [hP.out] at h9; have h8 : p0.keys.length = S.leaders.length := h9; have := hNs.out; omega
      rw [hP.out] at hky
      change OwnS w6 0 (ks.getD 0 undef) p0.keys at hky
      obtain ⟨kb, kc, hks0⟩ := ownsRow_form_n hky hk1
      obtain ⟨nk, hnk⟩ : ∃ n, p0.keys.length = n := ⟨_, rfl⟩
      rw [hks0] at x11 hky
      unfold OwnS at hky
      rw [hnk] at x11 hky hk1 hk3
      obtain ⟨kcc, kcm, _, ad, had, hAd⟩ := strs_rest hky hk1
      replace hAd := hide hAd
      have hk1' : ¬ (nk : Int) < 1 := by omega
      unfold maxLen at kcm
      replace hnk := hide hnk
      clear hky
      go_upto_region 20 with fail
      have HS1 : Below w6.heap.size w6 w6.drew := ⟨rfl, rfl, rfl, Nat.le_refl _, fun _ _ => rfl⟩
      refine wp_region_M 12 (fun W => Below w6.heap.size w6 W) 12 (fun _ => True) (by kernel_rfl) ?_
      refine wpAnyM_pure (i := 0) (oi := { dst := some 67, op := Op.fieldAddr 27 (Operand.tmp 7) 1, type := 0, pos := "law.go:66", after := #[], guard := none }) (v := ?_) rfl (by kernel_rfl) (by kernel_rfl) (by kernel_rfl) (fun _ _ _ h => h) (by decide) (by decide) (Or.inl ⟨by rfl, ?_⟩) (fun _ => HS1) (fun _ => trivial) ?_
      rotate_left
      · intro W hSW; first | (go_simp; done) | (go_simp; with_reducible rfl)
      try simp only [Act.put, List.setIfInBounds_toArray, List.set_cons_zero, List.set_cons_succ]
      refine wpAnyM_take (i := 1) (oi := { dst := some 68, op := Op.load 22 (Operand.tmp 67), type := 22, pos := "law.go:66", after := #[{ on := 0, ground := Ground.data }], guard := none }) (v := ?_) rfl (by kernel_rfl) (by kernel_rfl) (by kernel_rfl) (fun _ _ _ h => h) (by decide) (by decide) (by kernel_rfl) (by kernel_rfl) (by kernel_rfl) (Or.inl ⟨by rfl, ?_⟩) HS1 (fun _ => trivial) ?_
      rotate_left
      · intro W hSW; have z := cell_on hSW y1; first | (go_simp; done) | (go_simp; with_reducible rfl)
      try simp only [Act.put, List.setIfInBounds_toArray, List.set_cons_zero, List.set_cons_succ]
      refine wpAnyM_pure (i := 3) (oi := { dst := some 70, op := Op.fieldAddr 27 (Operand.tmp 7) 1, type := 0, pos := "law.go:66", after := #[], guard := none }) (v := ?_) rfl (by kernel_rfl) (by kernel_rfl) (by kernel_rfl) (fun _ _ _ h => h) (by decide) (by decide) (Or.inl ⟨by rfl, ?_⟩) (fun _ => HS1) (fun _ => trivial) ?_
      rotate_left
      · intro W hSW; first | (go_simp; done) | (go_simp; with_reducible rfl)
      try simp only [Act.put, List.setIfInBounds_toArray, List.set_cons_zero, List.set_cons_succ]
      refine wpAnyM_take (i := 4) (oi := { dst := some 71, op := Op.load 22 (Operand.tmp 70), type := 22, pos := "law.go:66", after := #[{ on := 3, ground := Ground.data }], guard := none }) (v := ?_) rfl (by kernel_rfl) (by kernel_rfl) (by kernel_rfl) (fun _ _ _ h => h) (by decide) (by decide) (by kernel_rfl) (by kernel_rfl) (by kernel_rfl) (Or.inl ⟨by rfl, ?_⟩) HS1 (fun _ => trivial) ?_
      rotate_left
      · intro W hSW; have z := cell_on hSW y1; first | (go_simp; done) | (go_simp; with_reducible rfl)
      try simp only [Act.put, List.setIfInBounds_toArray, List.set_cons_zero, List.set_cons_succ]
      refine wpAnyM_pure (i := 5) (oi := { dst := some 72, op := Op.indexAddr 22 (Operand.tmp 71) (Operand.const (Value.int IntKind.i64 0)), type := 0, pos := "law.go:66", after := #[{ on := 4, ground := Ground.data }], guard := none }) (v := ?_) rfl (by kernel_rfl) (by kernel_rfl) (by kernel_rfl) (fun _ _ _ h => h) (by decide) (by decide) (Or.inl ⟨by rfl, ?_⟩) (fun _ => HS1) (fun _ => trivial) ?_
      rotate_left
      · intro W hSW; first | (go_simp; done) | (go_simp; with_reducible rfl)
      try simp only [Act.put, List.setIfInBounds_toArray, List.set_cons_zero, List.set_cons_succ]
      refine wpAnyM_pure (i := 6) (oi := { dst := some 73, op := Op.fieldAddr 32 (Operand.tmp 72) 1, type := 0, pos := "law.go:66", after := #[{ on := 5, ground := Ground.data }], guard := none }) (v := ?_) rfl (by kernel_rfl) (by kernel_rfl) (by kernel_rfl) (fun _ _ _ h => h) (by decide) (by decide) (Or.inl ⟨by rfl, ?_⟩) (fun _ => HS1) (fun _ => trivial) ?_
      rotate_left
      · intro W hSW; first | (go_simp; done) | (go_simp; with_reducible rfl)
      try simp only [Act.put, List.setIfInBounds_toArray, List.set_cons_zero, List.set_cons_succ]
      refine wpAnyM_take (i := 7) (oi := { dst := some 74, op := Op.load 25 (Operand.tmp 73), type := 25, pos := "law.go:66", after := #[{ on := 6, ground := Ground.data }], guard := none }) (v := ?_) rfl (by kernel_rfl) (by kernel_rfl) (by kernel_rfl) (fun _ _ _ h => h) (by decide) (by decide) (by kernel_rfl) (by kernel_rfl) (by kernel_rfl) (Or.inl ⟨by rfl, ?_⟩) HS1 (fun _ => trivial) ?_
      rotate_left
      · intro W hSW; have z := cell_on hSW x11; first | (go_simp; done) | (go_simp; with_reducible rfl)
      try simp only [Act.put, List.setIfInBounds_toArray, List.set_cons_zero, List.set_cons_succ]
      refine wpAnyM_pure (i := 8) (oi := { dst := some 75, op := Op.slice 25 (Operand.tmp 74) (some (Operand.const (Value.int IntKind.i64 1))) none none, type := 25, pos := "law.go:66", after := #[{ on := 7, ground := Ground.data }], guard := none }) (v := .slice (some ad) (nk - 1) (kc - 1)) rfl (by kernel_rfl) (by kernel_rfl) (by kernel_rfl) (fun _ _ _ h => h) (by decide) (by decide) (Or.inl ⟨by rfl, ?_⟩) (fun _ => HS1) (fun _ => trivial) ?_
      · intro W hSW; first | (go_simp; done) | (go_simp; with_reducible rfl)
      try simp only [Act.put, List.setIfInBounds_toArray, List.set_cons_zero, List.set_cons_succ]
      refine wpAnyM_lone (T := fun v W => ∃ b, v = .slice (some ⟨b, 0, none⟩) 1 1 ∧ W.ownsRow w6.heap.size 9 1 v 1 [.string ⟨#[115, 104, 111, 114, 116]⟩] ∧ Below w6.heap.size w6 W) (i := 2) (oi := { dst := some 69, op := Op.buildSlice 25 1 #[(0, Operand.const (Value.string { data := #[115, 104, 111, 114, 116] }))], type := 25, pos := "law.go:66", after := #[], guard := none }) (by kernel_rfl) rfl ?_ (fun v W hT _ => hT.choose_spec.2.2) (fun _ _ _ _ => trivial) ?_
      · intro K hK
        go_simp
        exact hK.out _ _ ⟨_, rfl, World.ownsRow_lit w6.drew #[.string ⟨#[115, 104, 111, 114, 116]⟩] 1 (Nat.le_refl _) (by unfold maxLen; omega) rfl, HS1.alloc (Nat.le_refl _) _⟩
      intro v7 Wa h7
      have HS1 : (fun W => Below w6.heap.size w6 W) Wa := (fun v W hT => hT.choose_spec.2.2) v7 Wa h7
      obtain ⟨b7, rfl, hr7, hb7⟩ := h7
      try simp only [Act.put, List.setIfInBounds_toArray, List.set_cons_zero, List.set_cons_succ]
      refine wpAnyM_lone (T := fun v W => W.ownsRow w6.heap.size 9 1 v nk ([.string ⟨#[115, 104, 111, 114, 116]⟩] ++ (p0.keys.drop 1).map Value.string) ∧ Below w6.heap.size w6 W) (i := 9) (oi := { dst := some 76, op := Op.call { callee := Callee.builtin Builtin.append, args := #[Operand.tmp 69, Operand.tmp 75], argTypes := #[25, 25] }, type := 25, pos := "law.go:66", after := #[{ on := 2, ground := Ground.data }, { on := 8, ground := Ground.data }], guard := none }) (by kernel_rfl) rfl ?_ (fun v W hT _ => hT.2) (fun _ _ _ _ => trivial) ?_
      · intro K hK
        refine step_appR (st := 25) Try.underlying25 Try.info9 rfl (by decide) (by decide) _ (by rfl) (.tmp 69) (.tmp 75) (by rfl) w6.heap.size _ 1 [.string ⟨#[115, 104, 111, 114, 116]⟩] (by rfl) hr7 ad (nk - 1) (kc - 1) ((p0.keys.drop 1).map Value.string) (by rfl) (by rw [List.length_map, List.length_drop, hnk.out]; omega) (fun j u hj => cell_on hb7 (hAd.out j u hj)) (by intro u hu; obtain ⟨x, _, rfl⟩ := List.mem_map.1 hu; rfl) (by omega) hb7.size ?_
        intro v' w' h1 h2
        rw [show 1 + (nk - 1) = nk by omega] at h1
        exact hK.out _ _ ⟨h1, hb7.grown h2 hb7.size (fun k hk => (World.ownsRow.lt hr7 k hk).1)⟩
      intro v8 Wb h8
      have HS1 : (fun W => Below w6.heap.size w6 W) Wb := (fun v W hT => hT.2) v8 Wb h8
      obtain ⟨hr8, hb8⟩ := h8
      have q8 := cell_on hb8 x11
      have f8 : Wb.frozen? ⟨e1, 1, none⟩ = false := by rw [World.frozen?_of_block (w := w6) (hb8.block e1 (block_lt_of_cell x11))]; exact fz1 1
      clear hr7 hb7
      obtain ⟨va8, vc8, hva8⟩ := row_slice hr8
      subst hva8
      try simp only [Act.put, List.setIfInBounds_toArray, List.set_cons_zero, List.set_cons_succ]
      refine wpAnyM_pure (i := 10) (oi := { dst := some 77, op := Op.indexAddr 22 (Operand.tmp 68) (Operand.const (Value.int IntKind.i64 0)), type := 0, pos := "law.go:66", after := #[{ on := 1, ground := Ground.data }, { on := 0, ground := Ground.phase }, { on := 1, ground := Ground.phase }, { on := 2, ground := Ground.phase }, { on := 3, ground := Ground.phase }, { on := 4, ground := Ground.phase }, { on := 5, ground := Ground.phase }, { on := 6, ground := Ground.phase }, { on := 7, ground := Ground.phase }, { on := 8, ground := Ground.phase }, { on := 9, ground := Ground.phase }], guard := none }) (v := ?_) rfl (by kernel_rfl) (by kernel_rfl) (by kernel_rfl) (fun _ _ _ h => h) (by decide) (by decide) (Or.inl ⟨by rfl, ?_⟩) (fun _ => HS1) (fun _ => trivial) ?_
      rotate_left
      · intro W hSW; first | (go_simp; done) | (go_simp; with_reducible rfl)
      try simp only [Act.put, List.setIfInBounds_toArray, List.set_cons_zero, List.set_cons_succ]
      refine wpAnyM_pure (i := 11) (oi := { dst := some 78, op := Op.fieldAddr 32 (Operand.tmp 77) 1, type := 0, pos := "law.go:66", after := #[{ on := 10, ground := Ground.data }, { on := 0, ground := Ground.phase }, { on := 1, ground := Ground.phase }, { on := 2, ground := Ground.phase }, { on := 3, ground := Ground.phase }, { on := 4, ground := Ground.phase }, { on := 5, ground := Ground.phase }, { on := 6, ground := Ground.phase }, { on := 7, ground := Ground.phase }, { on := 8, ground := Ground.phase }, { on := 9, ground := Ground.phase }], guard := none }) (v := ?_) rfl (by kernel_rfl) (by kernel_rfl) (by kernel_rfl) (fun _ _ _ h => h) (by decide) (by decide) (Or.inl ⟨by rfl, ?_⟩) (fun _ => HS1) (fun _ => trivial) ?_
      rotate_left
      · intro W hSW; first | (go_simp; done) | (go_simp; with_reducible rfl)
      try simp only [Act.put, List.setIfInBounds_toArray, List.set_cons_zero, List.set_cons_succ]
      refine wpAnyM_lone (T := fun _ W => W = Wb.setCell ⟨e1, 1, none⟩ (.slice va8 nk vc8)) (i := 12) (oi := { dst := none, op := Op.store 25 (Operand.tmp 78) (Operand.tmp 76), type := 0, pos := "law.go:66", after := #[{ on := 11, ground := Ground.data }, { on := 9, ground := Ground.data }, { on := 9, ground := Ground.chain }, { on := 0, ground := Ground.phase }, { on := 1, ground := Ground.phase }, { on := 2, ground := Ground.phase }, { on := 3, ground := Ground.phase }, { on := 4, ground := Ground.phase }, { on := 5, ground := Ground.phase }, { on := 6, ground := Ground.phase }, { on := 7, ground := Ground.phase }, { on := 8, ground := Ground.phase }, { on := 9, ground := Ground.phase }], guard := none }) (by kernel_rfl) rfl ?_ (fun _ _ _ h => gone (by kernel_rfl) h) (fun _ _ _ _ => trivial) ?_
      · intro K hK
        go_simp
        exact hK.out undef _ rfl
      intro v9 W9 h9
      subst h9
      try simp only [Act.put]
      refine wpAnyM_done (by kernel_rfl) ?_ _
      clear q8 f8 had
      go_wp2_with fail
      go_meet
      case rel =>
        obtain ⟨i0, i1, iP⟩ := sP.out
        have hO8 : Own4 Wb g G G _ _ _ _ ks S := ⟨hO6.out.sv.below hb8, hO6.out.kl, own_below hO6.out.pr hb8, fun j hj => (hO6.out.ky j hj).kept (below_grown hb8) (by cases (ks.getD j undef).ownBlock <;> simp), own_below hO6.out.ar hb8, own_below hO6.out.le hb8, own_below hO6.out.lo hb8⟩
        have hr9 : OwnS Wb 0 (.slice va8 nk vc8) (⟨#[115, 104, 111, 114, 116]⟩ :: p0.keys.drop 1) := by unfold OwnS; rw [show (⟨#[115, 104, 111, 114, 116]⟩ :: p0.keys.drop 1).length = nk by rw [List.length_cons, List.length_drop, hnk.out]; omega]; exact base_row hr8 (Nat.zero_le _)
        have hT := hO8.keys (H' := Wb.heap.size) (Nat.le_trans (Nat.le_of_lt (Nat.lt_of_le_of_lt hb1 ((World.ownsRow.lt hO6.out.pr e1 rfl).2))) hb8.size) p0 (p1' :: P) hP.out _ _ ⟨hr9, fun k hk => (World.ownsRow.lt hr8 k hk).2⟩
        exact Own4.wrong hT (hsane.out.parts _ (by have := nP.out; simp; omega) (fun p hp => by rcases List.mem_cons.1 hp with rfl | hp; exact ⟨i0.1, by show (_ :: p0.keys.drop 1).length ≤ 1000; rw [List.length_cons, List.length_drop, hnk.out]; omega, getD_all (fun k : ByteArray => k.size ≤ 1000) _ _ (fun k hk => by rcases List.mem_cons.1 hk with rfl | hk; (show (5 : Nat) ≤ 1000; omega); exact (all_getDW (fun k : ByteArray => k.size ≤ 1000) _ _ i0.2.2) k (List.mem_of_mem_drop hk))⟩; rcases List.mem_cons.1 hp with rfl | hp; exact i1; exact iP p hp)) (fun hk => by have h9 := (hk.2.2.1.2.2 0 (Nat.succ_pos _)).2.2.1 0 (Nat.succ_pos _); have h8 : (5 : Nat) = 16 := h9; omega) ((hB6.trans (hb8.mono (by have := hB6.size; omega))).setCell (p := ⟨e1, 1, none⟩) (by show g0 ≤ e1; omega) _)
    · clear fz1 fz3 fz4 x10 x11 x12 x21 x22 x23 x24 x30 x40 y0 y1 y3 y4 y5 y6
      go_wp2_with fail
      go_meet
      case rel =>
        obtain ⟨⟨i1, i2, i3, i4, i5⟩, iA⟩ := sA.out
        exact Own4.wrong (hO6.out.arc a0 ⟨-kq, a0.dst, a0.ledger, a0.asset, a0.amount⟩ A hA.out 0 _ (by omega) rfl) (hsane.out.arcs' _ (by have := nA.out; simp; omega) (fun p hp => by rcases List.mem_cons.1 hp with rfl | hp; exact ⟨⟨by show _ ≤ -kq; omega, by show -kq ≤ _; omega⟩, i2, i3, i4, i5⟩; exact iA p hp)) (fun hk => by have h9 := (hk.2.2.2.1.2.2 0 (Nat.succ_pos _)).1; have h8 : (0 : Int) ≤ -kq := h9.1; omega) (hB6.setCell (p := ⟨e2, 0, none⟩) (by show g0 ≤ e2; omega) _)
    · clear fz1 fz3 fz4 x10 x11 x12 x20 x22 x23 x24 x30 x40 y0 y3 y4 y5 y6
      go_wp2_with fail
      go_meet
      case rel =>
        obtain ⟨⟨i1, i2, i3, i4, i5⟩, iA⟩ := sA.out
        exact Own4.wrong (hO6.out.arc a0 ⟨a0.src, (S.parties.length : Int) + kq, a0.ledger, a0.asset, a0.amount⟩ A hA.out 1 _ (by omega) rfl) (hsane.out.arcs' _ (by have := nA.out; simp; omega) (fun p hp => by rcases List.mem_cons.1 hp with rfl | hp; exact ⟨i1, ⟨by show _ ≤ (S.parties.length : Int) + kq; omega, by show (S.parties.length : Int) + kq ≤ _; omega⟩, i3, i4, i5⟩; exact iA p hp)) (fun hk => by have h9 := (hk.2.2.2.1.2.2 0 (Nat.succ_pos _)).1; have h8 : (S.parties.length : Int) + kq < (S.parties.length : Int) := h9.2.2.2.1; omega) (hB6.setCell (p := ⟨e2, 1, none⟩) (by show g0 ≤ e2; omega) _)
    · clear fz1 fz3 fz4 x10 x11 x12 x22 x23 x24 x30 x40 y0 y1 y3 y4 y5 y6
      go_upto_region 26 with fail
      have HS1 : Below w6.heap.size w6 w6.drew := ⟨rfl, rfl, rfl, Nat.le_refl _, fun _ _ => rfl⟩
      refine wp_region_M 9 (fun W => Below w6.heap.size w6 W) 9 (fun _ => True) (by kernel_rfl) ?_
      refine wpAnyM_pure (i := 0) (oi := { dst := some 100, op := Op.fieldAddr 27 (Operand.tmp 7) 2, type := 0, pos := "law.go:72", after := #[], guard := none }) (v := ?_) rfl (by kernel_rfl) (by kernel_rfl) (by kernel_rfl) (fun _ _ _ h => h) (by decide) (by decide) (Or.inl ⟨by rfl, ?_⟩) (fun _ => HS1) (fun _ => trivial) ?_
      rotate_left
      · intro W hSW; first | (go_simp; done) | (go_simp; with_reducible rfl)
      try simp only [Act.put, List.setIfInBounds_toArray, List.set_cons_zero, List.set_cons_succ]
      refine wpAnyM_take (i := 1) (oi := { dst := some 101, op := Op.load 23 (Operand.tmp 100), type := 23, pos := "law.go:72", after := #[{ on := 0, ground := Ground.data }], guard := none }) (v := ?_) rfl (by kernel_rfl) (by kernel_rfl) (by kernel_rfl) (fun _ _ _ h => h) (by decide) (by decide) (by kernel_rfl) (by kernel_rfl) (by kernel_rfl) (Or.inl ⟨by rfl, ?_⟩) HS1 (fun _ => trivial) ?_
      rotate_left
      · intro W hSW; have z := cell_on hSW y2; first | (go_simp; done) | (go_simp; with_reducible rfl)
      try simp only [Act.put, List.setIfInBounds_toArray, List.set_cons_zero, List.set_cons_succ]
      refine wpAnyM_pure (i := 2) (oi := { dst := some 102, op := Op.fieldAddr 27 (Operand.tmp 7) 2, type := 0, pos := "law.go:72", after := #[], guard := none }) (v := ?_) rfl (by kernel_rfl) (by kernel_rfl) (by kernel_rfl) (fun _ _ _ h => h) (by decide) (by decide) (Or.inl ⟨by rfl, ?_⟩) (fun _ => HS1) (fun _ => trivial) ?_
      rotate_left
      · intro W hSW; first | (go_simp; done) | (go_simp; with_reducible rfl)
      try simp only [Act.put, List.setIfInBounds_toArray, List.set_cons_zero, List.set_cons_succ]
      refine wpAnyM_take (i := 3) (oi := { dst := some 103, op := Op.load 23 (Operand.tmp 102), type := 23, pos := "law.go:72", after := #[{ on := 2, ground := Ground.data }], guard := none }) (v := ?_) rfl (by kernel_rfl) (by kernel_rfl) (by kernel_rfl) (fun _ _ _ h => h) (by decide) (by decide) (by kernel_rfl) (by kernel_rfl) (by kernel_rfl) (Or.inl ⟨by rfl, ?_⟩) HS1 (fun _ => trivial) ?_
      rotate_left
      · intro W hSW; have z := cell_on hSW y2; first | (go_simp; done) | (go_simp; with_reducible rfl)
      try simp only [Act.put, List.setIfInBounds_toArray, List.set_cons_zero, List.set_cons_succ]
      refine wpAnyM_pure (i := 4) (oi := { dst := some 104, op := Op.indexAddr 23 (Operand.tmp 103) (Operand.const (Value.int IntKind.i64 0)), type := 0, pos := "law.go:72", after := #[{ on := 3, ground := Ground.data }], guard := none }) (v := ?_) rfl (by kernel_rfl) (by kernel_rfl) (by kernel_rfl) (fun _ _ _ h => h) (by decide) (by decide) (Or.inl ⟨by rfl, ?_⟩) (fun _ => HS1) (fun _ => trivial) ?_
      rotate_left
      · intro W hSW; first | (go_simp; done) | (go_simp; with_reducible rfl)
      try simp only [Act.put, List.setIfInBounds_toArray, List.set_cons_zero, List.set_cons_succ]
      refine wpAnyM_pure (i := 5) (oi := { dst := some 105, op := Op.fieldAddr 34 (Operand.tmp 104) 0, type := 0, pos := "law.go:72", after := #[{ on := 4, ground := Ground.data }], guard := none }) (v := ?_) rfl (by kernel_rfl) (by kernel_rfl) (by kernel_rfl) (fun _ _ _ h => h) (by decide) (by decide) (Or.inl ⟨by rfl, ?_⟩) (fun _ => HS1) (fun _ => trivial) ?_
      rotate_left
      · intro W hSW; first | (go_simp; done) | (go_simp; with_reducible rfl)
      try simp only [Act.put, List.setIfInBounds_toArray, List.set_cons_zero, List.set_cons_succ]
      refine wpAnyM_take (i := 6) (oi := { dst := some 106, op := Op.load 3 (Operand.tmp 105), type := 3, pos := "law.go:72", after := #[{ on := 5, ground := Ground.data }], guard := none }) (v := ?_) rfl (by kernel_rfl) (by kernel_rfl) (by kernel_rfl) (fun _ _ _ h => h) (by decide) (by decide) (by kernel_rfl) (by kernel_rfl) (by kernel_rfl) (Or.inl ⟨by rfl, ?_⟩) HS1 (fun _ => trivial) ?_
      rotate_left
      · intro W hSW; have z := cell_on hSW x20; first | (go_simp; done) | (go_simp; with_reducible rfl)
      try simp only [Act.put, List.setIfInBounds_toArray, List.set_cons_zero, List.set_cons_succ]
      refine wpAnyM_pure (i := 7) (oi := { dst := some 107, op := Op.indexAddr 23 (Operand.tmp 101) (Operand.const (Value.int IntKind.i64 0)), type := 0, pos := "law.go:72", after := #[{ on := 1, ground := Ground.data }, { on := 0, ground := Ground.phase }, { on := 1, ground := Ground.phase }, { on := 2, ground := Ground.phase }, { on := 3, ground := Ground.phase }, { on := 4, ground := Ground.phase }, { on := 5, ground := Ground.phase }, { on := 6, ground := Ground.phase }], guard := none }) (v := ?_) rfl (by kernel_rfl) (by kernel_rfl) (by kernel_rfl) (fun _ _ _ h => h) (by decide) (by decide) (Or.inl ⟨by rfl, ?_⟩) (fun _ => HS1) (fun _ => trivial) ?_
      rotate_left
      · intro W hSW; first | (go_simp; done) | (go_simp; with_reducible rfl)
      try simp only [Act.put, List.setIfInBounds_toArray, List.set_cons_zero, List.set_cons_succ]
      refine wpAnyM_pure (i := 8) (oi := { dst := some 108, op := Op.fieldAddr 34 (Operand.tmp 107) 1, type := 0, pos := "law.go:72", after := #[{ on := 7, ground := Ground.data }, { on := 0, ground := Ground.phase }, { on := 1, ground := Ground.phase }, { on := 2, ground := Ground.phase }, { on := 3, ground := Ground.phase }, { on := 4, ground := Ground.phase }, { on := 5, ground := Ground.phase }, { on := 6, ground := Ground.phase }], guard := none }) (v := ?_) rfl (by kernel_rfl) (by kernel_rfl) (by kernel_rfl) (fun _ _ _ h => h) (by decide) (by decide) (Or.inl ⟨by rfl, ?_⟩) (fun _ => HS1) (fun _ => trivial) ?_
      rotate_left
      · intro W hSW; first | (go_simp; done) | (go_simp; with_reducible rfl)
      try simp only [Act.put, List.setIfInBounds_toArray, List.set_cons_zero, List.set_cons_succ]
      refine wpAnyM_lone (T := fun _ W => W = w6.drew.setCell ⟨e2, 1, none⟩ (.int .i64 a0.src)) (i := 9) (oi := { dst := none, op := Op.store 3 (Operand.tmp 108) (Operand.tmp 106), type := 0, pos := "law.go:72", after := #[{ on := 8, ground := Ground.data }, { on := 6, ground := Ground.data }, { on := 0, ground := Ground.phase }, { on := 1, ground := Ground.phase }, { on := 2, ground := Ground.phase }, { on := 3, ground := Ground.phase }, { on := 4, ground := Ground.phase }, { on := 5, ground := Ground.phase }, { on := 6, ground := Ground.phase }], guard := none }) (by kernel_rfl) rfl ?_ (fun _ _ _ h => gone (by kernel_rfl) h) (fun _ _ _ _ => trivial) ?_
      · intro K hK
        go_simp
        exact hK.out undef _ rfl
      intro v9 W9 h9
      subst h9
      try simp only [Act.put]
      refine wpAnyM_done (by kernel_rfl) ?_ _
      have hOD : Own4 w6.drew g G G _ _ _ _ ks S := ⟨hO6.out.sv, hO6.out.kl, hO6.out.pr, hO6.out.ky, hO6.out.ar, hO6.out.le, hO6.out.lo⟩
      have hBD : Below g0 w w6.drew := ⟨hB6.os, hB6.tape, hB6.output, hB6.size, hB6.block⟩
      go_wp2_with fail
      go_meet
      case rel =>
        obtain ⟨⟨i1, i2, i3, i4, i5⟩, iA⟩ := sA.out
        exact Own4.wrong (hOD.arc a0 ⟨a0.src, a0.src, a0.ledger, a0.asset, a0.amount⟩ A hA.out 1 _ (by omega) rfl) (hsane.out.arcs' _ (by have := nA.out; simp; omega) (fun p hp => by rcases List.mem_cons.1 hp with rfl | hp; exact ⟨i1, i1, i3, i4, i5⟩; exact iA p hp)) (fun hk => (hk.2.2.2.1.2.2 0 (Nat.succ_pos _)).1.2.2.2.2.1 rfl) (hBD.setCell (p := ⟨e2, 1, none⟩) (by show g0 ≤ e2; omega) _)
    · clear fz1 fz2 fz3 fz4 x10 x11 x12 x30 x40 y0 y1 y3 y4 y5 y6
      go_upto_region 28 with fail
      have HS1 : Below w6.heap.size w6 w6.drew := ⟨rfl, rfl, rfl, Nat.le_refl _, fun _ _ => rfl⟩
      refine wp_region_M 7 (fun W => Below w6.heap.size w6 W) 7 (fun _ => True) (by kernel_rfl) ?_
      refine wpAnyM_pure (i := 0) (oi := { dst := some 111, op := Op.fieldAddr 27 (Operand.tmp 7) 2, type := 0, pos := "law.go:74", after := #[], guard := none }) (v := ?_) rfl (by kernel_rfl) (by kernel_rfl) (by kernel_rfl) (fun _ _ _ h => h) (by decide) (by decide) (Or.inl ⟨by rfl, ?_⟩) (fun _ => HS1) (fun _ => trivial) ?_
      rotate_left
      · intro W hSW; first | (go_simp; done) | (go_simp; with_reducible rfl)
      try simp only [Act.put, List.setIfInBounds_toArray, List.set_cons_zero, List.set_cons_succ]
      refine wpAnyM_take (i := 1) (oi := { dst := some 112, op := Op.load 23 (Operand.tmp 111), type := 23, pos := "law.go:74", after := #[{ on := 0, ground := Ground.data }], guard := none }) (v := ?_) rfl (by kernel_rfl) (by kernel_rfl) (by kernel_rfl) (fun _ _ _ h => h) (by decide) (by decide) (by kernel_rfl) (by kernel_rfl) (by kernel_rfl) (Or.inl ⟨by rfl, ?_⟩) HS1 (fun _ => trivial) ?_
      rotate_left
      · intro W hSW; have z := cell_on hSW y2; first | (go_simp; done) | (go_simp; with_reducible rfl)
      try simp only [Act.put, List.setIfInBounds_toArray, List.set_cons_zero, List.set_cons_succ]
      refine wpAnyM_pure (i := 2) (oi := { dst := some 113, op := Op.fieldAddr 27 (Operand.tmp 7) 2, type := 0, pos := "law.go:74", after := #[], guard := none }) (v := ?_) rfl (by kernel_rfl) (by kernel_rfl) (by kernel_rfl) (fun _ _ _ h => h) (by decide) (by decide) (Or.inl ⟨by rfl, ?_⟩) (fun _ => HS1) (fun _ => trivial) ?_
      rotate_left
      · intro W hSW; first | (go_simp; done) | (go_simp; with_reducible rfl)
      try simp only [Act.put, List.setIfInBounds_toArray, List.set_cons_zero, List.set_cons_succ]
      refine wpAnyM_take (i := 3) (oi := { dst := some 114, op := Op.load 23 (Operand.tmp 113), type := 23, pos := "law.go:74", after := #[{ on := 2, ground := Ground.data }], guard := none }) (v := ?_) rfl (by kernel_rfl) (by kernel_rfl) (by kernel_rfl) (fun _ _ _ h => h) (by decide) (by decide) (by kernel_rfl) (by kernel_rfl) (by kernel_rfl) (Or.inl ⟨by rfl, ?_⟩) HS1 (fun _ => trivial) ?_
      rotate_left
      · intro W hSW; have z := cell_on hSW y2; first | (go_simp; done) | (go_simp; with_reducible rfl)
      try simp only [Act.put, List.setIfInBounds_toArray, List.set_cons_zero, List.set_cons_succ]
      refine wpAnyM_pure (i := 4) (oi := { dst := some 115, op := Op.indexAddr 23 (Operand.tmp 114) (Operand.const (Value.int IntKind.i64 0)), type := 0, pos := "law.go:74", after := #[{ on := 3, ground := Ground.data }], guard := none }) (v := ?_) rfl (by kernel_rfl) (by kernel_rfl) (by kernel_rfl) (fun _ _ _ h => h) (by decide) (by decide) (Or.inl ⟨by rfl, ?_⟩) (fun _ => HS1) (fun _ => trivial) ?_
      rotate_left
      · intro W hSW; first | (go_simp; done) | (go_simp; with_reducible rfl)
      try simp only [Act.put, List.setIfInBounds_toArray, List.set_cons_zero, List.set_cons_succ]
      refine wpAnyM_take (i := 5) (oi := { dst := some 116, op := Op.load 34 (Operand.tmp 115), type := 34, pos := "law.go:74", after := #[{ on := 4, ground := Ground.data }], guard := none }) (v := ?_) rfl (by kernel_rfl) (by kernel_rfl) (by kernel_rfl) (fun _ _ _ h => h) (by decide) (by decide) (by kernel_rfl) (by kernel_rfl) (by kernel_rfl) (Or.inl ⟨by rfl, ?_⟩) HS1 (fun _ => trivial) ?_
      rotate_left
      · intro W hSW; have z0 := cell_on hSW x20; have z1 := cell_on hSW x21; have z2 := cell_on hSW x22; have z3 := cell_on hSW x23; have z4 := cell_on hSW x24; first | (go_simp; done) | (go_simp; with_reducible rfl)
      try simp only [Act.put, List.setIfInBounds_toArray, List.set_cons_zero, List.set_cons_succ]
      refine wpAnyM_lone (T := fun v W => ∃ b, v = .slice (some ⟨b, 0, none⟩) 1 1 ∧ W.ownsRow w6.heap.size 34 5 v 1 (acells a0) ∧ Below w6.heap.size w6 W) (i := 6) (oi := { dst := some 117, op := Op.buildSlice 23 1 #[(0, Operand.tmp 116)], type := 23, pos := "law.go:74", after := #[{ on := 5, ground := Ground.data }], guard := none }) (by kernel_rfl) rfl ?_ (fun v W hT _ => hT.choose_spec.2.2) (fun _ _ _ _ => trivial) ?_
      · intro K hK
        go_simp
        exact hK.out _ _ ⟨_, rfl, World.ownsRow_lit w6.drew #[.int .i64 a0.src, .int .i64 a0.dst, .int .i64 a0.ledger, .string a0.asset, .int .i64 a0.amount] 1 (Nat.le_refl _) (by unfold maxLen; omega) rfl, HS1.alloc (Nat.le_refl _) _⟩
      intro v7 Wa h7
      have HS1 : (fun W => Below w6.heap.size w6 W) Wa := (fun v W hT => hT.choose_spec.2.2) v7 Wa h7
      obtain ⟨b7, rfl, hr7, hb7⟩ := h7
      try simp only [Act.put, List.setIfInBounds_toArray, List.set_cons_zero, List.set_cons_succ]
      refine wpAnyM_lone (T := fun v W => W.ownsRow G 34 5 v (S.arcs.length + 1) (S.arcs.flatMap acells ++ acells a0) ∧ w6.grownBy W (some e2)) (i := 7) (oi := { dst := some 118, op := Op.call { callee := Callee.builtin Builtin.append, args := #[Operand.tmp 112, Operand.tmp 117], argTypes := #[23, 23] }, type := 23, pos := "law.go:74", after := #[{ on := 1, ground := Ground.data }, { on := 6, ground := Ground.data }], guard := none }) (by kernel_rfl) rfl ?_ (fun _ _ _ h => gone (by kernel_rfl) h) (fun _ _ _ _ => trivial) ?_
      · intro K hK
        refine step_appR (st := 23) Try.underlying23 Try.info34 rfl (by decide) (by decide) _ (by rfl) (.tmp 112) (.tmp 117) (by rfl) G _ S.arcs.length (S.arcs.flatMap acells) (by rfl) (own_below hO6.out.ar hb7) ⟨b7, 0, none⟩ 1 1 (acells a0) (by rfl) rfl (fun j u hj => World.ownsRow.cells hr7 rfl j u hj) (by intro u hu; simp [acells] at hu; rcases hu with rfl | rfl | rfl | rfl | rfl <;> rfl) (by have := hNs.out; omega) (by have := hb7.size; omega) ?_
        intro v' w' h1 h2
        exact hK.out _ _ ⟨h1, grown_then (below_grownR hb7) h2⟩
      intro v8 Wb h8
      obtain ⟨hr8, hg8⟩ := h8
      have hv8 := hO6.out.sv.grown hg8 (by have := sv_apart hO6.out.sv hO6.out.ar (by decide); exact this)
      have q8 := hv8.cells.2.2.1
      have f8 := hv8.frozen 2
      clear hr7 hb7
      obtain ⟨va8, vc8, hva8⟩ := row_slice hr8
      subst hva8
      try simp only [Act.put, List.setIfInBounds_toArray, List.set_cons_zero, List.set_cons_succ]
      refine wpAnyM_pure (i := 8) (oi := { dst := some 119, op := Op.fieldAddr 27 (Operand.tmp 7) 2, type := 0, pos := "law.go:74", after := #[{ on := 0, ground := Ground.phase }, { on := 1, ground := Ground.phase }, { on := 2, ground := Ground.phase }, { on := 3, ground := Ground.phase }, { on := 4, ground := Ground.phase }, { on := 5, ground := Ground.phase }, { on := 6, ground := Ground.phase }, { on := 7, ground := Ground.phase }], guard := none }) (v := ?_) rfl (by kernel_rfl) (by kernel_rfl) (by kernel_rfl) (fun _ _ _ h => h) (by decide) (by decide) (Or.inl ⟨by rfl, ?_⟩) (fun h => gone (by kernel_rfl) h) (fun _ => trivial) ?_
      rotate_left
      · intro W hSW; first | (go_simp; done) | (go_simp; with_reducible rfl)
      try simp only [Act.put, List.setIfInBounds_toArray, List.set_cons_zero, List.set_cons_succ]
      refine wpAnyM_lone (T := fun _ W => W = Wb.setCell ⟨g, 2, none⟩ (.slice va8 (S.arcs.length + 1) vc8)) (i := 9) (oi := { dst := none, op := Op.store 23 (Operand.tmp 119) (Operand.tmp 118), type := 0, pos := "law.go:74", after := #[{ on := 8, ground := Ground.data }, { on := 7, ground := Ground.data }, { on := 7, ground := Ground.chain }, { on := 0, ground := Ground.phase }, { on := 1, ground := Ground.phase }, { on := 2, ground := Ground.phase }, { on := 3, ground := Ground.phase }, { on := 4, ground := Ground.phase }, { on := 5, ground := Ground.phase }, { on := 6, ground := Ground.phase }, { on := 7, ground := Ground.phase }], guard := none }) (by kernel_rfl) rfl ?_ (fun _ _ _ h => gone (by kernel_rfl) h) (fun _ _ _ _ => trivial) ?_
      · intro K hK
        go_simp
        exact hK.out undef _ rfl
      intro v9 W9 h9
      subst h9
      try simp only [Act.put]
      refine wpAnyM_done (by kernel_rfl) ?_ _
      clear q8 f8
      go_wp2_with fail
      go_meet
      case rel =>
        obtain ⟨i0, iA⟩ := sA.out
        have hr9 : OwnA Wb G (.slice va8 (S.arcs.length + 1) vc8) (S.arcs ++ [a0]) := by unfold OwnA; rw [List.length_append, List.flatMap_append, List.flatMap_singleton]; exact hr8
        exact Own4.wrong (hO6.out.arcsTo hg8 _ _ hr9) (hsane.out.arcs' _ (by have := hNs.out; simp; omega) (fun p hp => by rcases List.mem_append.1 hp with hp | hp; (rw [hA.out] at hp; rcases List.mem_cons.1 hp with rfl | hp; exact i0; exact iA p hp); (rw [List.mem_singleton.1 hp]; exact i0))) (fun hk => by have h9 := (hk.2.2.2.1.2.2 S.arcs.length (by show _ < (S.arcs ++ [a0]).length; simp)).2 0 m2; refine h9 ?_; show ((S.arcs ++ [a0]).getD 0 noArc).src = ((S.arcs ++ [a0]).getD S.arcs.length noArc).src ∧ ((S.arcs ++ [a0]).getD 0 noArc).dst = ((S.arcs ++ [a0]).getD S.arcs.length noArc).dst; rw [hA.out]; simp [List.getD_eq_getElem?_getD]) ((hB6.grown hg8 (by have := hB6.size; omega) (fun k hk => by injection hk with hk; omega)).setCell (p := ⟨g, 2, none⟩) (by show g0 ≤ g; omega) _)
    · clear fz1 fz3 fz4 x10 x11 x12 x20 x21 x23 x24 x30 x40 y0 y1 y3 y4 y5 y6
      go_wp2_with fail
      go_meet
      case rel =>
        obtain ⟨⟨i1, i2, i3, i4, i5⟩, iA⟩ := sA.out
        exact Own4.wrong (hO6.out.arc a0 ⟨a0.src, a0.dst, 4 + kq, a0.asset, a0.amount⟩ A hA.out 2 _ (by omega) rfl) (hsane.out.arcs' _ (by have := nA.out; simp; omega) (fun p hp => by rcases List.mem_cons.1 hp with rfl | hp; exact ⟨i1, i2, ⟨by show _ ≤ 4 + kq; omega, by show 4 + kq ≤ _; omega⟩, i4, i5⟩; exact iA p hp)) (fun hk => by have h9 := (hk.2.2.2.1.2.2 0 (Nat.succ_pos _)).1; have h8 : 4 + kq < 4 := h9.2.2.2.2.2.2.1; omega) (hB6.setCell (p := ⟨e2, 2, none⟩) (by show g0 ≤ e2; omega) _)
    · clear fz1 fz3 fz4 x10 x11 x12 x20 x21 x22 x23 x30 x40 y0 y1 y3 y4 y5 y6
      go_wp2_with fail
      go_meet
      case rel =>
        obtain ⟨⟨i1, i2, i3, i4, i5⟩, iA⟩ := sA.out
        exact Own4.wrong (hO6.out.arc a0 ⟨a0.src, a0.dst, a0.ledger, a0.asset, 0⟩ A hA.out 4 _ (by omega) rfl) (hsane.out.arcs' _ (by have := nA.out; simp; omega) (fun p hp => by rcases List.mem_cons.1 hp with rfl | hp; exact ⟨i1, i2, i3, ⟨by show _ ≤ (0 : Int); omega, by show (0 : Int) ≤ _; omega⟩, i5⟩; exact iA p hp)) (fun hk => by have h9 := (hk.2.2.2.1.2.2 0 (Nat.succ_pos _)).1; have h8 : (1 : Int) ≤ 0 := h9.2.2.2.2.2.2.2.2.1; omega) (hB6.setCell (p := ⟨e2, 4, none⟩) (by show g0 ≤ e2; omega) _)
    · clear fz1 fz3 fz4 x10 x11 x12 x20 x21 x22 x23 x30 x40 y0 y1 y3 y4 y5 y6
      go_wp2_with fail
      go_meet
      case rel =>
        obtain ⟨⟨i1, i2, i3, i4, i5⟩, iA⟩ := sA.out
        exact Own4.wrong (hO6.out.arc a0 ⟨a0.src, a0.dst, a0.ledger, a0.asset, 1125899906842624 + kq⟩ A hA.out 4 _ (by omega) rfl) (hsane.out.arcs' _ (by have := nA.out; simp; omega) (fun p hp => by rcases List.mem_cons.1 hp with rfl | hp; exact ⟨i1, i2, i3, ⟨by show _ ≤ 1125899906842624 + kq; omega, by show 1125899906842624 + kq ≤ _; omega⟩, i5⟩; exact iA p hp)) (fun hk => by have h9 := (hk.2.2.2.1.2.2 0 (Nat.succ_pos _)).1; have h8 : 1125899906842624 + kq ≤ 1125899906842624 := h9.2.2.2.2.2.2.2.2.2; omega) (hB6.setCell (p := ⟨e2, 4, none⟩) (by show g0 ≤ e2; omega) _)
    · clear fz1 fz3 fz4 x10 x11 x12 x20 x21 x22 x24 x30 x40 y0 y1 y3 y4 y5 y6
      go_wp2_with fail
      go_meet
      case rel =>
        obtain ⟨⟨i1, i2, i3, i4, i5⟩, iA⟩ := sA.out
        exact Own4.wrong (hO6.out.arc a0 ⟨a0.src, a0.dst, a0.ledger, ⟨#[]⟩, a0.amount⟩ A hA.out 3 _ (by omega) rfl) (hsane.out.arcs' _ (by have := nA.out; simp; omega) (fun p hp => by rcases List.mem_cons.1 hp with rfl | hp; exact ⟨i1, i2, i3, i4, by show (0 : Nat) ≤ 1000; omega⟩; exact iA p hp)) (fun hk => by have h9 := (hk.2.2.2.1.2.2 0 (Nat.succ_pos _)).1; have h8 : 1 ≤ (0 : Nat) := h9.2.2.2.2.2.2.2.1.1; omega) (hB6.setCell (p := ⟨e2, 3, none⟩) (by show g0 ≤ e2; omega) _)
    · clear fz1 fz2 fz4 x10 x11 x12 x20 x21 x22 x23 x24 x40 y0 y1 y2 y4 y5 y6
      go_wp2_with fail
      go_meet
      case rel =>
        exact Own4.wrong (hO6.out.lead l0 (-kq) L hL.out) (hsane.out.leads _ (by have := nL.out; simp; omega) (fun p hp => by rcases List.mem_cons.1 hp with rfl | hp; exact ⟨by omega, by omega⟩; exact sL.out.2 p hp)) (fun hk => by have h9 := (hk.2.1.2.2.2 0 (Nat.succ_pos _)).1; have h8 : (0 : Int) ≤ -kq := h9; omega) (hB6.setCell (p := ⟨e3, 0, none⟩) (by show g0 ≤ e3; omega) _)
    · clear fz1 fz2 fz3 fz4 x10 x11 x12 x20 x21 x22 x23 x24 y0 y1 y2 y5 y6
      have e43 : some e4 ≠ some e3 := by rcases rows_apart hO6.out.lo hO6.out.le (by decide) with h9 | h9; simp [Value.ownBlock] at h9; exact h9
      have e3g : some g ≠ some e3 := by have := sv_apart hO6.out.sv hO6.out.le (by decide); exact this
      go_upto_region 40 with fail
      have HS1 : Below w6.heap.size w6 w6.drew := ⟨rfl, rfl, rfl, Nat.le_refl _, fun _ _ => rfl⟩
      have HS2 : w6.grownBy w6.drew (some e3) := ⟨rfl, rfl, rfl, Nat.le_refl _, fun _ _ _ => rfl⟩
      refine wp_region_M 7 (fun W => Below w6.heap.size w6 W) 15 (fun W => w6.grownBy W (some e3)) (by kernel_rfl) ?_
      refine wpAnyM_pure (i := 0) (oi := { dst := some 157, op := Op.fieldAddr 27 (Operand.tmp 7) 3, type := 0, pos := "law.go:86", after := #[], guard := none }) (v := ?_) rfl (by kernel_rfl) (by kernel_rfl) (by kernel_rfl) (fun _ _ _ h => h) (by decide) (by decide) (Or.inl ⟨by rfl, ?_⟩) (fun _ => HS1) (fun _ => HS2) ?_
      rotate_left
      · intro W hSW; first | (go_simp; done) | (go_simp; with_reducible rfl)
      try simp only [Act.put, List.setIfInBounds_toArray, List.set_cons_zero, List.set_cons_succ]
      refine wpAnyM_take (i := 1) (oi := { dst := some 158, op := Op.load 24 (Operand.tmp 157), type := 24, pos := "law.go:86", after := #[{ on := 0, ground := Ground.data }], guard := none }) (v := ?_) rfl (by kernel_rfl) (by kernel_rfl) (by kernel_rfl) (fun _ _ _ h => h) (by decide) (by decide) (by kernel_rfl) (by kernel_rfl) (by kernel_rfl) (Or.inl ⟨by rfl, ?_⟩) HS1 (fun _ => HS2) ?_
      rotate_left
      · intro W hSW; have z := cell_on hSW y3; first | (go_simp; done) | (go_simp; with_reducible rfl)
      try simp only [Act.put, List.setIfInBounds_toArray, List.set_cons_zero, List.set_cons_succ]
      refine wpAnyM_pure (i := 2) (oi := { dst := some 159, op := Op.fieldAddr 27 (Operand.tmp 7) 3, type := 0, pos := "law.go:86", after := #[], guard := none }) (v := ?_) rfl (by kernel_rfl) (by kernel_rfl) (by kernel_rfl) (fun _ _ _ h => h) (by decide) (by decide) (Or.inl ⟨by rfl, ?_⟩) (fun _ => HS1) (fun _ => HS2) ?_
      rotate_left
      · intro W hSW; first | (go_simp; done) | (go_simp; with_reducible rfl)
      try simp only [Act.put, List.setIfInBounds_toArray, List.set_cons_zero, List.set_cons_succ]
      refine wpAnyM_take (i := 3) (oi := { dst := some 160, op := Op.load 24 (Operand.tmp 159), type := 24, pos := "law.go:86", after := #[{ on := 2, ground := Ground.data }], guard := none }) (v := ?_) rfl (by kernel_rfl) (by kernel_rfl) (by kernel_rfl) (fun _ _ _ h => h) (by decide) (by decide) (by kernel_rfl) (by kernel_rfl) (by kernel_rfl) (Or.inl ⟨by rfl, ?_⟩) HS1 (fun _ => HS2) ?_
      rotate_left
      · intro W hSW; have z := cell_on hSW y3; first | (go_simp; done) | (go_simp; with_reducible rfl)
      try simp only [Act.put, List.setIfInBounds_toArray, List.set_cons_zero, List.set_cons_succ]
      refine wpAnyM_pure (i := 4) (oi := { dst := some 161, op := Op.indexAddr 24 (Operand.tmp 160) (Operand.const (Value.int IntKind.i64 0)), type := 0, pos := "law.go:86", after := #[{ on := 3, ground := Ground.data }], guard := none }) (v := ?_) rfl (by kernel_rfl) (by kernel_rfl) (by kernel_rfl) (fun _ _ _ h => h) (by decide) (by decide) (Or.inl ⟨by rfl, ?_⟩) (fun _ => HS1) (fun _ => HS2) ?_
      rotate_left
      · intro W hSW; first | (go_simp; done) | (go_simp; with_reducible rfl)
      try simp only [Act.put, List.setIfInBounds_toArray, List.set_cons_zero, List.set_cons_succ]
      refine wpAnyM_take (i := 5) (oi := { dst := some 162, op := Op.load 3 (Operand.tmp 161), type := 3, pos := "law.go:86", after := #[{ on := 4, ground := Ground.data }], guard := none }) (v := ?_) rfl (by kernel_rfl) (by kernel_rfl) (by kernel_rfl) (fun _ _ _ h => h) (by decide) (by decide) (by kernel_rfl) (by kernel_rfl) (by kernel_rfl) (Or.inl ⟨by rfl, ?_⟩) HS1 (fun _ => HS2) ?_
      rotate_left
      · intro W hSW; have z := cell_on hSW x30; first | (go_simp; done) | (go_simp; with_reducible rfl)
      try simp only [Act.put, List.setIfInBounds_toArray, List.set_cons_zero, List.set_cons_succ]
      refine wpAnyM_pure (i := 8) (oi := { dst := some 165, op := Op.fieldAddr 27 (Operand.tmp 7) 4, type := 0, pos := "law.go:86", after := #[], guard := none }) (v := ?_) rfl (by kernel_rfl) (by kernel_rfl) (by kernel_rfl) (fun _ _ _ h => h) (by decide) (by decide) (Or.inl ⟨by rfl, ?_⟩) (fun _ => HS1) (fun _ => HS2) ?_
      rotate_left
      · intro W hSW; first | (go_simp; done) | (go_simp; with_reducible rfl)
      try simp only [Act.put, List.setIfInBounds_toArray, List.set_cons_zero, List.set_cons_succ]
      refine wpAnyM_take2 (i := 9) (oi := { dst := some 166, op := Op.load 25 (Operand.tmp 165), type := 25, pos := "law.go:86", after := #[{ on := 8, ground := Ground.data }], guard := none }) (v := ?_) rfl (by kernel_rfl) (by kernel_rfl) (by kernel_rfl) (fun _ _ _ h => h) (by decide) (by decide) (by kernel_rfl) (by kernel_rfl) (by kernel_rfl) (Or.inl ⟨by rfl, ?_⟩) (fun _ => HS1) HS2 ?_
      rotate_left
      · intro W hSW; have z := hSW.cell y4 e3g; first | (go_simp; done) | (go_simp; with_reducible rfl)
      try simp only [Act.put, List.setIfInBounds_toArray, List.set_cons_zero, List.set_cons_succ]
      refine wpAnyM_pure (i := 10) (oi := { dst := some 167, op := Op.fieldAddr 27 (Operand.tmp 7) 4, type := 0, pos := "law.go:86", after := #[], guard := none }) (v := ?_) rfl (by kernel_rfl) (by kernel_rfl) (by kernel_rfl) (fun _ _ _ h => h) (by decide) (by decide) (Or.inl ⟨by rfl, ?_⟩) (fun _ => HS1) (fun _ => HS2) ?_
      rotate_left
      · intro W hSW; first | (go_simp; done) | (go_simp; with_reducible rfl)
      try simp only [Act.put, List.setIfInBounds_toArray, List.set_cons_zero, List.set_cons_succ]
      refine wpAnyM_take2 (i := 11) (oi := { dst := some 168, op := Op.load 25 (Operand.tmp 167), type := 25, pos := "law.go:86", after := #[{ on := 10, ground := Ground.data }], guard := none }) (v := ?_) rfl (by kernel_rfl) (by kernel_rfl) (by kernel_rfl) (fun _ _ _ h => h) (by decide) (by decide) (by kernel_rfl) (by kernel_rfl) (by kernel_rfl) (Or.inl ⟨by rfl, ?_⟩) (fun _ => HS1) HS2 ?_
      rotate_left
      · intro W hSW; have z := hSW.cell y4 e3g; first | (go_simp; done) | (go_simp; with_reducible rfl)
      try simp only [Act.put, List.setIfInBounds_toArray, List.set_cons_zero, List.set_cons_succ]
      refine wpAnyM_pure (i := 12) (oi := { dst := some 169, op := Op.indexAddr 25 (Operand.tmp 168) (Operand.const (Value.int IntKind.i64 0)), type := 0, pos := "law.go:86", after := #[{ on := 11, ground := Ground.data }], guard := none }) (v := ?_) rfl (by kernel_rfl) (by kernel_rfl) (by kernel_rfl) (fun _ _ _ h => h) (by decide) (by decide) (Or.inl ⟨by rfl, ?_⟩) (fun _ => HS1) (fun _ => HS2) ?_
      rotate_left
      · intro W hSW; first | (go_simp; done) | (go_simp; with_reducible rfl)
      try simp only [Act.put, List.setIfInBounds_toArray, List.set_cons_zero, List.set_cons_succ]
      refine wpAnyM_take2 (i := 13) (oi := { dst := some 170, op := Op.load 9 (Operand.tmp 169), type := 9, pos := "law.go:86", after := #[{ on := 12, ground := Ground.data }], guard := none }) (v := ?_) rfl (by kernel_rfl) (by kernel_rfl) (by kernel_rfl) (fun _ _ _ h => h) (by decide) (by decide) (by kernel_rfl) (by kernel_rfl) (by kernel_rfl) (Or.inl ⟨by rfl, ?_⟩) (fun _ => HS1) HS2 ?_
      rotate_left
      · intro W hSW; have z := hSW.cell x40 e43; first | (go_simp; done) | (go_simp; with_reducible rfl)
      try simp only [Act.put, List.setIfInBounds_toArray, List.set_cons_zero, List.set_cons_succ]
      refine wpAnyM_trip (Ti := fun v W => ∃ b, v = .slice (some ⟨b, 0, none⟩) 1 1 ∧ W.ownsRow w6.heap.size 3 1 v 1 [.int .i64 l0] ∧ Below w6.heap.size w6 W) (Tj := fun u W => ∃ b, u = .slice (some ⟨b, 0, none⟩) 1 1 ∧ W.ownsRow w6.heap.size 9 1 u 1 [.string k0] ∧ Below w6.heap.size w6 W) (Tij := fun v u W => (∃ b, v = .slice (some ⟨b, 0, none⟩) 1 1 ∧ W.ownsRow w6.heap.size 3 1 v 1 [.int .i64 l0]) ∧ (∃ b, u = .slice (some ⟨b, 0, none⟩) 1 1 ∧ W.ownsRow w6.heap.size 9 1 u 1 [.string k0]) ∧ Below w6.heap.size w6 W) (Tik := fun x W => W.ownsRow G 3 1 x (S.leaders.length + 1) (S.leaders.map (Value.int .i64) ++ [.int .i64 l0]) ∧ w6.grownBy W (some e3)) (Tijk := fun x u W => (W.ownsRow G 3 1 x (S.leaders.length + 1) (S.leaders.map (Value.int .i64) ++ [.int .i64 l0]) ∧ w6.grownBy W (some e3)) ∧ ∃ b, u = .slice (some ⟨b, 0, none⟩) 1 1 ∧ W.ownsRow w6.heap.size 9 1 u 1 [.string k0]) (i := 6) (j := 14) (k := 7) (p := 16) (oi := { dst := some 163, op := Op.buildSlice 24 1 #[(0, Operand.tmp 162)], type := 24, pos := "law.go:86", after := #[{ on := 5, ground := Ground.data }], guard := none }) (oj := { dst := some 171, op := Op.buildSlice 25 1 #[(0, Operand.tmp 170)], type := 25, pos := "law.go:86", after := #[{ on := 13, ground := Ground.data }], guard := none }) (ok := { dst := some 164, op := Op.call { callee := Callee.builtin Builtin.append, args := #[Operand.tmp 158, Operand.tmp 163], argTypes := #[24, 24] }, type := 24, pos := "law.go:86", after := #[{ on := 1, ground := Ground.data }, { on := 6, ground := Ground.data }], guard := none }) (op := { dst := some 173, op := Op.fieldAddr 27 (Operand.tmp 7) 3, type := 0, pos := "law.go:86", after := #[{ on := 0, ground := Ground.phase }, { on := 1, ground := Ground.phase }, { on := 2, ground := Ground.phase }, { on := 3, ground := Ground.phase }, { on := 4, ground := Ground.phase }, { on := 5, ground := Ground.phase }, { on := 6, ground := Ground.phase }, { on := 7, ground := Ground.phase }, { on := 8, ground := Ground.phase }, { on := 9, ground := Ground.phase }, { on := 10, ground := Ground.phase }, { on := 11, ground := Ground.phase }, { on := 12, ground := Ground.textOnly Departure.lateStoresUnsure }, { on := 13, ground := Ground.textOnly Departure.lateStoresUnsure }, { on := 14, ground := Ground.textOnly Departure.lateStoresUnsure }, { on := 15, ground := Ground.textOnly Departure.lateStoresUnsure }], guard := none }) (vp := .pointer (some ⟨g, 3, none⟩)) (by kernel_rfl) (by kernel_rfl) (by kernel_rfl) (by kernel_rfl) (by kernel_rfl) rfl rfl rfl rfl rfl rfl rfl rfl rfl rfl rfl rfl rfl (fun _ _ => rfl) (fun _ _ _ => rfl) (by kernel_rfl) (by kernel_rfl) (by kernel_rfl) (by kernel_rfl) (by kernel_rfl) (fun _ _ _ h => h) (by decide) (by decide) (fun v x => Or.inl ⟨by rfl, fun W _ => by go_simp⟩) (fun v u x => Or.inl ⟨by rfl, fun W _ => by go_simp⟩) (fun v W hT => hT.choose_spec.2.2) (fun v W hT => hT.choose_spec.2.2) (fun v u W hT => hT.2.2) (fun _ _ _ h => gone (by kernel_rfl) h) (fun _ _ _ _ h => gone (by kernel_rfl) h) (fun _ _ _ _ h => gone (by kernel_rfl) h) (fun v W hT => below_grownR hT.choose_spec.2.2) (fun v W hT => below_grownR hT.choose_spec.2.2) (fun v u W hT => below_grownR hT.2.2) (fun x W hT => hT.2) (fun x u W hT => hT.1.2) ?_ ?_ ?_ ?_ ?_ ?_ ?_ ?_
      · intro K hK
        go_simp
        exact hK.out _ _ ⟨_, rfl, World.ownsRow_lit w6.drew #[.int .i64 l0] 1 (Nat.le_refl _) (by unfold maxLen; omega) rfl, HS1.alloc (Nat.le_refl _) _⟩
      · intro K hK
        go_simp
        exact hK.out _ _ ⟨_, rfl, World.ownsRow_lit w6.drew #[.string k0] 1 (Nat.le_refl _) (by unfold maxLen; omega) rfl, HS1.alloc (Nat.le_refl _) _⟩
      · intro v W hT K hK
        obtain ⟨b7, rfl, hr7, hb7⟩ := hT
        go_simp
        exact hK.out _ _ ⟨⟨_, rfl, hr7.alloc _⟩, ⟨_, rfl, World.ownsRow_lit W #[.string k0] 1 (hb7.size) (by unfold maxLen; omega) rfl⟩, hb7.alloc hb7.size _⟩
      · intro u W hT K hK
        obtain ⟨b7, rfl, hr7, hb7⟩ := hT
        go_simp
        exact hK.out _ _ ⟨⟨_, rfl, World.ownsRow_lit W #[.int .i64 l0] 1 (hb7.size) (by unfold maxLen; omega) rfl⟩, ⟨_, rfl, hr7.alloc _⟩, hb7.alloc hb7.size _⟩
      · intro v W hT K hK
        obtain ⟨b7, rfl, hr7, hb7⟩ := hT
        refine step_appR (st := 24) Try.underlying24 Try.info3 rfl (by decide) (by decide) _ (by rfl) (.tmp 158) (.tmp 163) (by rfl) G _ S.leaders.length (S.leaders.map (Value.int .i64)) (by rfl) (own_below hO6.out.le hb7) ⟨b7, 0, none⟩ 1 1 [.int .i64 l0] (by rfl) rfl (fun j u hj => World.ownsRow.cells hr7 rfl j u hj) (by intro u hu; simp at hu; subst hu; rfl) (by have := hNs.out; omega) (by have := hb7.size; omega) ?_
        intro v' w' h1 h2
        exact hK.out _ _ ⟨h1, grown_then (below_grownR hb7) h2⟩
      · intro v u W hT K hK
        obtain ⟨⟨b7, rfl, hr7⟩, ⟨b8, rfl, hr8⟩, hb7⟩ := hT
        refine step_appR (st := 24) Try.underlying24 Try.info3 rfl (by decide) (by decide) _ (by rfl) (.tmp 158) (.tmp 163) (by rfl) G _ S.leaders.length (S.leaders.map (Value.int .i64)) (by rfl) (own_below hO6.out.le hb7) ⟨b7, 0, none⟩ 1 1 [.int .i64 l0] (by rfl) rfl (fun j u hj => World.ownsRow.cells hr7 rfl j u hj) (by intro u hu; simp at hu; subst hu; rfl) (by have := hNs.out; omega) (by have := hb7.size; omega) ?_
        intro v' w' h1 h2
        exact hK.out _ _ ⟨⟨h1, grown_then (below_grownR hb7) h2⟩, _, rfl, World.ownsRow.kept hr8 h2 (rows_apart hr8 (own_below hO6.out.le hb7) (by decide))⟩
      · intro v x W hT K hK
        obtain ⟨hr7, hg7⟩ := hT
        go_simp
        exact hK.out _ _ ⟨⟨hr7.alloc _, grown_then hg7 (World.grownBy_alloc _ _ _)⟩, _, rfl, World.ownsRow_lit W #[.string k0] 1 (hg7.size) (by unfold maxLen; omega) rfl⟩
      intro v0 x7 u7 Wt h7
      obtain ⟨⟨hr7, hg7⟩, b8, rfl, hr8⟩ := h7
      have HS2 : w6.grownBy Wt (some e3) := hg7
      try simp only [Act.put, List.setIfInBounds_toArray, List.set_cons_zero, List.set_cons_succ]
      refine wpAnyM_lone (T := fun v W => W.ownsRow G 9 1 v (S.locks.length + 1) (S.locks.map Value.string ++ [.string k0]) ∧ W.ownsRow G 3 1 x7 (S.leaders.length + 1) (S.leaders.map (Value.int .i64) ++ [.int .i64 l0]) ∧ Rest2 W g G G (.slice (some ⟨e1, 0, none⟩) S.parties.length q1) (.slice (some ⟨e2, 0, none⟩) S.arcs.length q2) (.slice (some ⟨e3, 0, none⟩) S.leaders.length q3) (.slice (some ⟨e4, 0, none⟩) S.locks.length q4) ks S ∧ Below g0 w W) (i := 15) (oi := { dst := some 172, op := Op.call { callee := Callee.builtin Builtin.append, args := #[Operand.tmp 166, Operand.tmp 171], argTypes := #[25, 25] }, type := 25, pos := "law.go:86", after := #[{ on := 9, ground := Ground.data }, { on := 14, ground := Ground.data }, { on := 7, ground := Ground.chain }], guard := none }) (by kernel_rfl) rfl ?_ (fun _ _ _ h => gone (by kernel_rfl) h) (fun _ _ _ h => gone (by kernel_rfl) h) ?_
      · intro K hK
        have hR6 : Rest2 w6 g G G (.slice (some ⟨e1, 0, none⟩) S.parties.length q1) (.slice (some ⟨e2, 0, none⟩) S.arcs.length q2) (.slice (some ⟨e3, 0, none⟩) S.leaders.length q3) (.slice (some ⟨e4, 0, none⟩) S.locks.length q4) ks S := ⟨hO6.out.sv, hO6.out.pr, hO6.out.ky, hO6.out.ar⟩
        have hR7 := hR6.grown hO6.out.le hg7 (.inl rfl)
        have hL7 := World.ownsRow.kept hO6.out.lo hg7 (rows_apart hO6.out.lo hO6.out.le (by decide))
        refine step_appR (st := 25) Try.underlying25 Try.info9 rfl (by decide) (by decide) _ (by rfl) (.tmp 166) (.tmp 171) (by rfl) G _ S.locks.length (S.locks.map Value.string) (by rfl) hL7 ⟨b8, 0, none⟩ 1 1 [.string k0] (by rfl) rfl (fun j u hj => World.ownsRow.cells hr8 rfl j u hj) (by intro u hu; simp at hu; subst hu; rfl) (by have := hNs.out; omega) (by have := hg7.size; omega) ?_
        intro v' w' h1 h2
        have hB7 : Below g0 w Wt := hB6.grown hg7 (by have := hB6.size; omega) (fun k hk => by injection hk with hk; omega)
        exact hK.out _ _ ⟨h1, World.ownsRow.kept hr7 h2 (rows_apart hr7 hL7 (by decide)), hR7.grown hL7 h2 (.inr ⟨rfl, Nat.le_refl _⟩), hB7.grown h2 (by have := hB7.size; omega) (fun k hk => by have h9 : some e4 = some k := hk; injection h9 with h9; omega)⟩
      intro v8 Wb h8
      obtain ⟨hk8, hl8, hR8, hB8⟩ := h8
      have q8 := hR8.1.cells.2.2.2.1
      have f8 := hR8.1.frozen 3
      obtain ⟨va7, vc7, hva7⟩ := row_slice hl8
      subst hva7
      obtain ⟨va8, vc8, hva8⟩ := row_slice hk8
      subst hva8
      clear hr7 hr8 hg7 HS2
      try simp only [Act.put, List.setIfInBounds_toArray, List.set_cons_zero, List.set_cons_succ]
      refine wpAnyM_lone (T := fun _ W => W = Wb.setCell ⟨g, 3, none⟩ (.slice va7 (S.leaders.length + 1) vc7)) (i := 17) (oi := { dst := none, op := Op.store 24 (Operand.tmp 173) (Operand.tmp 164), type := 0, pos := "law.go:86", after := #[{ on := 16, ground := Ground.data }, { on := 7, ground := Ground.data }, { on := 15, ground := Ground.chain }, { on := 0, ground := Ground.phase }, { on := 1, ground := Ground.phase }, { on := 2, ground := Ground.phase }, { on := 3, ground := Ground.phase }, { on := 4, ground := Ground.phase }, { on := 5, ground := Ground.phase }, { on := 6, ground := Ground.phase }, { on := 7, ground := Ground.phase }, { on := 8, ground := Ground.phase }, { on := 9, ground := Ground.phase }, { on := 10, ground := Ground.phase }, { on := 11, ground := Ground.phase }, { on := 12, ground := Ground.textOnly Departure.lateStoresUnsure }, { on := 13, ground := Ground.textOnly Departure.lateStoresUnsure }, { on := 14, ground := Ground.textOnly Departure.lateStoresUnsure }, { on := 15, ground := Ground.textOnly Departure.lateStoresUnsure }], guard := none }) (by kernel_rfl) rfl ?_ (fun _ _ _ h => gone (by kernel_rfl) h) (fun _ _ _ h => gone (by kernel_rfl) h) ?_
      · intro K hK
        go_simp
        exact hK.out undef _ rfl
      intro v9 W9 h9
      subst h9
      have hv9 := hR8.1.set3 (.slice va7 (S.leaders.length + 1) vc7)
      have q9 := hv9.cells.2.2.2.2.1
      have f9 := hv9.frozen 4
      clear q8 f8
      try simp only [Act.put]
      refine wpAnyM_pure (i := 18) (oi := { dst := some 174, op := Op.fieldAddr 27 (Operand.tmp 7) 4, type := 0, pos := "law.go:86", after := #[{ on := 0, ground := Ground.phase }, { on := 1, ground := Ground.phase }, { on := 2, ground := Ground.phase }, { on := 3, ground := Ground.phase }, { on := 4, ground := Ground.phase }, { on := 5, ground := Ground.phase }, { on := 6, ground := Ground.phase }, { on := 7, ground := Ground.phase }, { on := 8, ground := Ground.phase }, { on := 9, ground := Ground.phase }, { on := 10, ground := Ground.phase }, { on := 11, ground := Ground.phase }, { on := 12, ground := Ground.phase }, { on := 13, ground := Ground.phase }, { on := 14, ground := Ground.phase }, { on := 15, ground := Ground.phase }, { on := 16, ground := Ground.phase }, { on := 17, ground := Ground.phase }], guard := none }) (v := ?_) rfl (by kernel_rfl) (by kernel_rfl) (by kernel_rfl) (fun _ _ _ h => h) (by decide) (by decide) (Or.inl ⟨by rfl, ?_⟩) (fun h => gone (by kernel_rfl) h) (fun h => gone (by kernel_rfl) h) ?_
      rotate_left
      · intro W hSW; first | (go_simp; done) | (go_simp; with_reducible rfl)
      try simp only [Act.put, List.setIfInBounds_toArray, List.set_cons_zero, List.set_cons_succ]
      refine wpAnyM_lone (T := fun _ W => W = (Wb.setCell ⟨g, 3, none⟩ (.slice va7 (S.leaders.length + 1) vc7)).setCell ⟨g, 4, none⟩ (.slice va8 (S.locks.length + 1) vc8)) (i := 19) (oi := { dst := none, op := Op.store 25 (Operand.tmp 174) (Operand.tmp 172), type := 0, pos := "law.go:86", after := #[{ on := 18, ground := Ground.data }, { on := 15, ground := Ground.data }, { on := 17, ground := Ground.chain }, { on := 0, ground := Ground.phase }, { on := 1, ground := Ground.phase }, { on := 2, ground := Ground.phase }, { on := 3, ground := Ground.phase }, { on := 4, ground := Ground.phase }, { on := 5, ground := Ground.phase }, { on := 6, ground := Ground.phase }, { on := 7, ground := Ground.phase }, { on := 8, ground := Ground.phase }, { on := 9, ground := Ground.phase }, { on := 10, ground := Ground.phase }, { on := 11, ground := Ground.phase }, { on := 12, ground := Ground.phase }, { on := 13, ground := Ground.phase }, { on := 14, ground := Ground.phase }, { on := 15, ground := Ground.phase }, { on := 16, ground := Ground.phase }, { on := 17, ground := Ground.phase }], guard := none }) (by kernel_rfl) rfl ?_ (fun _ _ _ h => gone (by kernel_rfl) h) (fun _ _ _ h => gone (by kernel_rfl) h) ?_
      · intro K hK
        go_simp
        exact hK.out undef _ rfl
      intro v10 W10 h10
      subst h10
      clear q9 f9
      try simp only [Act.put]
      refine wpAnyM_done (by kernel_rfl) ?_ _
      go_wp2_with fail
      go_meet
      case rel =>
        have hI9 : OwnI Wb G (.slice va7 (S.leaders.length + 1) vc7) (S.leaders ++ [l0]) := by unfold OwnI; rw [List.length_append, List.map_append]; exact hl8
        have hS9 : OwnS Wb G (.slice va8 (S.locks.length + 1) vc8) (S.locks ++ [k0]) := by unfold OwnS; rw [List.length_append, List.map_append]; exact hk8
        have nL3 := hNs.out.2.2.1
        have nK3 := hNs.out.2.2.2
        exact Own4.wrong (hR8.both hO6.out.kl _ _ hI9 hS9) ((hsane.out.leads (S.leaders ++ [l0]) (by simp; omega) (fun p hp => by rcases List.mem_append.1 hp with hp | hp; (rw [hL.out] at hp; rcases List.mem_cons.1 hp with rfl | hp; exact sL.out.1; exact sL.out.2 p hp); (rw [List.mem_singleton.1 hp]; exact sL.out.1))).lks (S.locks ++ [k0]) (by simp; omega) (fun p hp => by rcases List.mem_append.1 hp with hp | hp; (rw [hK.out] at hp; rcases List.mem_cons.1 hp with rfl | hp; exact sK.out.1; exact sK.out.2 p hp); (rw [List.mem_singleton.1 hp]; exact sK.out.1))) (fun hk => by have h9 := (hk.2.1.2.2.2 S.leaders.length (by show _ < (S.leaders ++ [l0]).length; simp)).2.2.2 0 m3; refine h9 ?_; show (S.leaders ++ [l0]).getD 0 0 = (S.leaders ++ [l0]).getD S.leaders.length 0; rw [hL.out]; simp [List.getD_eq_getElem?_getD]) ((hB8.setCell (p := ⟨g, 3, none⟩) (by show g0 ≤ g; omega) _).setCell (p := ⟨g, 4, none⟩) (by show g0 ≤ g; omega) _)
    · clear fz1 fz2 fz3 x10 x11 x12 x20 x21 x22 x23 x24 x30 y0 y1 y2 y3 y5 y6
      have k32 : k0.size = 32 := by have h9 := (hok.out.2.1.2.2.2 0 m3).2.2.1; rw [hK.out] at h9; exact h9
      go_upto_region 42 with fail
      have HS1 : Below w6.heap.size w6 w6.drew := ⟨rfl, rfl, rfl, Nat.le_refl _, fun _ _ => rfl⟩
      refine wp_region_M 8 (fun W => Below w6.heap.size w6 W) 8 (fun _ => True) (by kernel_rfl) ?_
      refine wpAnyM_pure (i := 0) (oi := { dst := some 177, op := Op.fieldAddr 27 (Operand.tmp 7) 4, type := 0, pos := "law.go:88", after := #[], guard := none }) (v := ?_) rfl (by kernel_rfl) (by kernel_rfl) (by kernel_rfl) (fun _ _ _ h => h) (by decide) (by decide) (Or.inl ⟨by rfl, ?_⟩) (fun _ => HS1) (fun _ => trivial) ?_
      rotate_left
      · intro W hSW; first | (go_simp; done) | (go_simp; with_reducible rfl)
      try simp only [Act.put, List.setIfInBounds_toArray, List.set_cons_zero, List.set_cons_succ]
      refine wpAnyM_take (i := 1) (oi := { dst := some 178, op := Op.load 25 (Operand.tmp 177), type := 25, pos := "law.go:88", after := #[{ on := 0, ground := Ground.data }], guard := none }) (v := ?_) rfl (by kernel_rfl) (by kernel_rfl) (by kernel_rfl) (fun _ _ _ h => h) (by decide) (by decide) (by kernel_rfl) (by kernel_rfl) (by kernel_rfl) (Or.inl ⟨by rfl, ?_⟩) HS1 (fun _ => trivial) ?_
      rotate_left
      · intro W hSW; have z := cell_on hSW y4; first | (go_simp; done) | (go_simp; with_reducible rfl)
      try simp only [Act.put, List.setIfInBounds_toArray, List.set_cons_zero, List.set_cons_succ]
      refine wpAnyM_pure (i := 2) (oi := { dst := some 179, op := Op.fieldAddr 27 (Operand.tmp 7) 4, type := 0, pos := "law.go:88", after := #[], guard := none }) (v := ?_) rfl (by kernel_rfl) (by kernel_rfl) (by kernel_rfl) (fun _ _ _ h => h) (by decide) (by decide) (Or.inl ⟨by rfl, ?_⟩) (fun _ => HS1) (fun _ => trivial) ?_
      rotate_left
      · intro W hSW; first | (go_simp; done) | (go_simp; with_reducible rfl)
      try simp only [Act.put, List.setIfInBounds_toArray, List.set_cons_zero, List.set_cons_succ]
      refine wpAnyM_take (i := 3) (oi := { dst := some 180, op := Op.load 25 (Operand.tmp 179), type := 25, pos := "law.go:88", after := #[{ on := 2, ground := Ground.data }], guard := none }) (v := ?_) rfl (by kernel_rfl) (by kernel_rfl) (by kernel_rfl) (fun _ _ _ h => h) (by decide) (by decide) (by kernel_rfl) (by kernel_rfl) (by kernel_rfl) (Or.inl ⟨by rfl, ?_⟩) HS1 (fun _ => trivial) ?_
      rotate_left
      · intro W hSW; have z := cell_on hSW y4; first | (go_simp; done) | (go_simp; with_reducible rfl)
      try simp only [Act.put, List.setIfInBounds_toArray, List.set_cons_zero, List.set_cons_succ]
      refine wpAnyM_pure (i := 4) (oi := { dst := some 181, op := Op.indexAddr 25 (Operand.tmp 180) (Operand.const (Value.int IntKind.i64 0)), type := 0, pos := "law.go:88", after := #[{ on := 3, ground := Ground.data }], guard := none }) (v := ?_) rfl (by kernel_rfl) (by kernel_rfl) (by kernel_rfl) (fun _ _ _ h => h) (by decide) (by decide) (Or.inl ⟨by rfl, ?_⟩) (fun _ => HS1) (fun _ => trivial) ?_
      rotate_left
      · intro W hSW; first | (go_simp; done) | (go_simp; with_reducible rfl)
      try simp only [Act.put, List.setIfInBounds_toArray, List.set_cons_zero, List.set_cons_succ]
      refine wpAnyM_take (i := 5) (oi := { dst := some 182, op := Op.load 9 (Operand.tmp 181), type := 9, pos := "law.go:88", after := #[{ on := 4, ground := Ground.data }], guard := none }) (v := ?_) rfl (by kernel_rfl) (by kernel_rfl) (by kernel_rfl) (fun _ _ _ h => h) (by decide) (by decide) (by kernel_rfl) (by kernel_rfl) (by kernel_rfl) (Or.inl ⟨by rfl, ?_⟩) HS1 (fun _ => trivial) ?_
      rotate_left
      · intro W hSW; have z := cell_on hSW x40; first | (go_simp; done) | (go_simp; with_reducible rfl)
      try simp only [Act.put, List.setIfInBounds_toArray, List.set_cons_zero, List.set_cons_succ]
      refine wpAnyM_pure (i := 6) (oi := { dst := some 183, op := Op.slice 9 (Operand.tmp 182) (some (Operand.const (Value.int IntKind.i64 1))) none none, type := 9, pos := "law.go:88", after := #[{ on := 5, ground := Ground.data }], guard := none }) (v := ?_) rfl (by kernel_rfl) (by kernel_rfl) (by kernel_rfl) (fun _ _ _ h => h) (by decide) (by decide) (Or.inl ⟨by rfl, ?_⟩) (fun _ => HS1) (fun _ => trivial) ?_
      rotate_left
      · intro W hSW; first | (go_simp; done) | (go_simp; with_reducible rfl)
      try simp only [Act.put, List.setIfInBounds_toArray, List.set_cons_zero, List.set_cons_succ]
      refine wpAnyM_pure (i := 7) (oi := { dst := some 184, op := Op.indexAddr 25 (Operand.tmp 178) (Operand.const (Value.int IntKind.i64 0)), type := 0, pos := "law.go:88", after := #[{ on := 1, ground := Ground.data }, { on := 0, ground := Ground.phase }, { on := 1, ground := Ground.phase }, { on := 2, ground := Ground.phase }, { on := 3, ground := Ground.phase }, { on := 4, ground := Ground.phase }, { on := 5, ground := Ground.phase }, { on := 6, ground := Ground.phase }], guard := none }) (v := ?_) rfl (by kernel_rfl) (by kernel_rfl) (by kernel_rfl) (fun _ _ _ h => h) (by decide) (by decide) (Or.inl ⟨by rfl, ?_⟩) (fun _ => HS1) (fun _ => trivial) ?_
      rotate_left
      · intro W hSW; first | (go_simp; done) | (go_simp; with_reducible rfl)
      try simp only [Act.put, List.setIfInBounds_toArray, List.set_cons_zero, List.set_cons_succ]
      refine wpAnyM_lone (T := fun _ W => ∃ x : ByteArray, x.size = 31 ∧ W = w6.drew.setCell ⟨e4, 0, none⟩ (.string x)) (i := 8) (oi := { dst := none, op := Op.store 9 (Operand.tmp 184) (Operand.tmp 183), type := 0, pos := "law.go:88", after := #[{ on := 7, ground := Ground.data }, { on := 6, ground := Ground.data }, { on := 0, ground := Ground.phase }, { on := 1, ground := Ground.phase }, { on := 2, ground := Ground.phase }, { on := 3, ground := Ground.phase }, { on := 4, ground := Ground.phase }, { on := 5, ground := Ground.phase }, { on := 6, ground := Ground.phase }], guard := none }) (by kernel_rfl) rfl ?_ (fun _ _ _ h => gone (by kernel_rfl) h) (fun _ _ _ _ => trivial) ?_
      · intro K hK
        go_simp
        exact hK.out undef _ ⟨_, by rw [ByteArray.size_extract]; omega, rfl⟩
      intro v9 W9 h9
      obtain ⟨x9, hx9, h9⟩ := h9
      subst h9
      try simp only [Act.put]
      refine wpAnyM_done (by kernel_rfl) ?_ _
      have hOD : Own4 w6.drew g G G _ _ _ _ ks S := ⟨hO6.out.sv, hO6.out.kl, hO6.out.pr, hO6.out.ky, hO6.out.ar, hO6.out.le, hO6.out.lo⟩
      have hBD : Below g0 w w6.drew := ⟨hB6.os, hB6.tape, hB6.output, hB6.size, hB6.block⟩
      go_wp2_with fail
      go_meet
      case rel =>
        exact Own4.wrong (hOD.lock (Nat.le_refl _) k0 x9 K hK.out) (hsane.out.lks _ (by have := nK.out; simp; omega) (fun p hp => by rcases List.mem_cons.1 hp with rfl | hp; omega; exact sK.out.2 p hp)) (fun hk => by have h9 := (hk.2.1.2.2.2 0 (by rw [show ({ S with locks := x9 :: K } : SpecM).leaders = S.leaders from rfl]; exact m3)).2.2.1; have h8 : x9.size = 32 := h9; omega) (hBD.setCell (p := ⟨e4, 0, none⟩) (by show g0 ≤ e4; omega) _)
    · clear fz1 fz2 fz3 fz4 x10 x11 x12 x20 x21 x22 x23 x24 x30 x40 y0 y1 y2 y3 y4 y6
      go_wp2_with fail
      go_meet
      case rel => exact Own4.wrong (hO6.out.re (But.setCell _ _ _ _) S.id (1099511627776 + kq) S.delta (hO6.out.sv.set5 _)) ({ hsane.out with st := ⟨by show -9223372036854775808 ≤ 1099511627776 + kq; omega, by show 1099511627776 + kq ≤ 9223372036854775807; omega⟩ }) (fun hk => by have h8 : 1099511627776 + kq ≤ 1099511627776 := hk.2.2.2.2.2.1; omega) (hB6.setCell (p := ⟨g, 5, none⟩) (by show g0 ≤ g; omega) _)
    · clear fz1 fz2 fz3 fz4 x10 x11 x12 x20 x21 x22 x23 x24 x30 x40 y0 y1 y2 y3 y4 y5
      go_wp2_with fail
      go_meet
      case rel => exact Own4.wrong (hO6.out.re (But.setCell _ _ _ _) S.id S.start 0 (hO6.out.sv.set6 _)) ({ hsane.out with de := ⟨by show -9223372036854775808 ≤ (0 : Int); omega, by show (0 : Int) ≤ 9223372036854775807; omega⟩ }) (fun hk => by have h8 : (1 : Int) ≤ 0 := hk.2.2.2.2.2.2.1; omega) (hB6.setCell (p := ⟨g, 6, none⟩) (by show g0 ≤ g; omega) _)
    · clear fz1 fz2 fz3 fz4 x10 x11 x12 x20 x21 x22 x23 x24 x30 x40 y0 y1 y3 y4 y5 y6
      go_wp2_with fail
      go_meet
      case rel => exact Own4.wrong (hO6.out.noarcs (But.setCell _ _ _ _) (hO6.out.sv.set2 _)) (hsane.out.arcs' [] (by simp) (fun p hp => absurd hp (by simp))) (fun hk => by have h8 : 1 ≤ (0 : Nat) := hk.2.2.2.1.1; omega) (hB6.setCell (p := ⟨g, 2, none⟩) (by show g0 ≤ g; omega) _)
  case rest =>
    clear x10 x11 x12 x20 x21 x22 x23 x24 x30 x40 y0 y1 y2 y3 y4 y5 y6 yf fz1 fz2 fz3 fz4 hO6 hB6 sP sA sL sK nA nL nK nP hP hL hK hA hb1 hb2 hb3 hb4 hNs hsane hok hh
    obtain ⟨T, cs, hv, h7, hW, hT, hB⟩ := hcut
    go_wp2_with ((with_reducible refine wpList_at ?_); refine wpList_loadV (by rfl) (.tmp 7) (by rfl) _ cs (by rfl) hv h7 ?_)
    refine (HF.out _ _ T hT hW).mono ?_
    rintro e w7 ⟨rfl, hb7⟩
    have hv7 := hv.below hb7
    have hW7 := hW.below hb7
    have hB7 := hB.trans (hb7.mono (by have := hv.lt; omega))
    clear hv hW hB hb7
    go_wp2_with ((with_reducible refine wpList_at ?_); refine wpList_loadV (by rfl) (.tmp 7) (by rfl) _ cs (by rfl) hv7 h7 ?_)
    refine (HY.out _ _ T hT hW7).mono ?_
    rintro e w8 ⟨rfl, hb8⟩
    have hB8 := hB7.trans (hb8.mono (by have := hv7.lt; omega))
    have hg8 : g0 ≤ w8.heap.size := by have := hb8.size; have := hv7.lt; omega
    clear hv7 hW7 hB7 hb8
    go_wp2_with fail
    refine (HAW.out _).mono ?_
    rintro e w9 ⟨rfl, hb9⟩
    go_wp2
    go_ret
    exact ⟨rfl, hB8.trans (hb9.mono hg8)⟩

end Go.Proofs.Ythdnldbkpllciaa
