/-
  The walk of SpecAll.
-/
import Derived.Test.YtidhcnecmelkbaaWake4
import Derived.Test.YtidhcnecmelkbaaZ05
import Derived.Test.YtidhcnecmelkbaaZ13
import Derived.Test.YtidhcnecmelkbaaZ28
import Derived.Test.YtidhcnecmelkbaaSpRefB
import Derived.Test.YtidhcnecmelkbaaZ40
namespace Go.Proofs.Ytidhcnecmelkbaa
open Go.RowKit
attribute [local go_sem ↓] Go.wp_at_zero Go.wp_at_succ

/-- What the document reads is what the program reads. -/
theorem ref_acc (l : List UInt8) : told (refE l = ([], false) ∧ specOk (refM l)) = told (acc l) := by
  obtain ⟨h1, h2⟩ := ref_same l
  cases hb : (rdE l).2
  · obtain ⟨e1, e2⟩ := h1 hb
    rw [e1, e2]; rfl
  · have h3 := h2 hb
    rw [told_no (fun h => by rw [h.1] at h3; exact Bool.noConfusion h3), told_no (fun h => by have h4 := h.1; rw [h4] at hb; exact Bool.noConfusion hb)]
theorem ref_mod (l : List UInt8) (h : acc l) : refM l = rdM l := ((ref_same l).1 (by rw [h.1])).1

theorem bytes_letter (A : SpecM) : ∃ x : ByteArray, (∀ W v, SpecW W v A → Calls Try.prog 15 #[v] W fun e w' => e = .returned (.string x) ∧ Below W.heap.size W w')
    ∧ ∀ W v, SpecW W v A → Calls Try.prog 16 #[v] W fun e w' => e = .returned (.string x) ∧ Below W.heap.size W w' := by
  by_cases h : specOk A
  · refine ⟨⟨(specB A).toArray⟩, fun W v hv => bytes_yes hv h, fun W v hv => (refbytes_yes hv.toV h).mono ?_⟩
    rintro e w' ⟨y, hy, he, hb⟩
    exact ⟨by rw [he, bytes_of _ y hy], hb⟩
  · exact ⟨⟨#[]⟩, fun W v hv => bytes_no hv h, fun W v hv => refbytes_no hv.toV h⟩

def RefReads : Prop := ∀ (b : ByteArray) (w : World) (ok : Bool), told (refE b.data.toList = ([], false) ∧ specOk (refM b.data.toList)) = ok →
  Calls Try.prog 12 #[.string b] w fun e w' => ∃ v, e = .returned (.tuple #[v, .int .i64 (bif ok then 0 else 2)]) ∧ SpecW w' v (bif ok then refM b.data.toList else noSpec) ∧ Below w.heap.size w w'
/-- Both read the same. -/
theorem reads_letter (HREF : RefReads) (s : ByteArray) (hs : s.size ≤ 3000) : ∃ (M : SpecM) (k : Int), (∀ W, Calls Try.prog 11 #[.string s] W fun e w' => ∃ v, e = .returned (.tuple #[v, .int .i64 k]) ∧ SpecW w' v M ∧ Below W.heap.size W w')
    ∧ ∀ W, Calls Try.prog 12 #[.string s] W fun e w' => ∃ v, e = .returned (.tuple #[v, .int .i64 k]) ∧ SpecW w' v M ∧ Below W.heap.size W w' := by
  have hs' : s.size ≤ 1099511627776 := by omega
  by_cases h : acc s.data.toList
  · refine ⟨rdM s.data.toList, 0, fun W => read_any s hs' W true (told_yes h), fun W => ?_⟩
    have := HREF s W true (by rw [ref_acc, told_yes h])
    simp only [cond_true, ref_mod _ h] at this
    exact this
  · exact ⟨noSpec, 2, fun W => read_any s hs' W false (told_no h), fun W => HREF s W false (by rw [ref_acc, told_no h])⟩

/-- A swap in a variable, read in a region that draws its order. -/
theorem yields_loadV {ops : Array Oper} {o : Oper} {a : Act} {S : World → Prop} (hw : Region.wanted o (yielded ops a.tmps) = true) (x : Operand) (ho : o.op = .load 27 x) (g : Nat) (cs : Array Value) (hx : a.eval x = .pointer (some ⟨g, 0, none⟩)) (h7 : Seven cs) (hS : ∀ W, S W → SvAt W g cs) : YieldsIf Try.prog ops S o (.agg cs) a :=
  .inl ⟨hw, fun W hW => by
    unfold execOp
    simp only [ho, hx, Instr.loadAt, Instr.sureAddr, Sem.run_bind, Sem.run_pure, Result.andThen_ok, run_loadVar_row W g 27 27 cs (0, 0) (.struct _) (hS W hW) Try.underlying27 rfl (by rw [h7.1]; exact sizeSpecK)]⟩

set_option maxRecDepth 10000 in
set_option maxHeartbeats 4000000 in
theorem all_walk (HREF : RefReads) (va vb : Value) (s : ByteArray) (A B : SpecM) (w : World) (hA : SpecW w va A) (hB : SpecW w vb B) : Calls Try.prog 3 #[va, vb, .string s] w fun e w' => e = .returned (.bool true) ∧ Below w.heap.size w w' := by
  obtain ⟨ca, rfl, h7a⟩ := hA.seven
  obtain ⟨cb, rfl, h7b⟩ := hB.seven
  go_enter Try.func3, Try.ntmps3
  go_wp2_with (first
    | ((with_reducible refine wpList_at ?_); refine wpList_boxv (by rfl) 27 (.tmp 0) (by rfl) _ (by rfl) ?_; intro w1 hu1 hz1 hb1)
    | ((with_reducible refine wpList_at ?_); refine wpList_boxv (by rfl) 27 (.tmp 1) (by rfl) _ (by rfl) ?_; intro w2 hv2 hz2 hb2; have hu2 : SvAt w2 w.heap.size ca := SvAt.below (w := w1) hu1 hb2)
    | ((with_reducible refine wpList_at ?_); refine wpList_loadV (by rfl) (.tmp 3) (by rfl) _ ca (by rfl) hu2 h7a ?_))
  have hB2 := below_then hb1 hb2
  have hA2 := hA.below hB2
  have hBB2 := hB.below hB2
  obtain ⟨g3, hg3⟩ : ∃ g, w.heap.size = g := ⟨_, rfl⟩
  have hv2' : SvAt w2 (g3 + 1) cb := by rw [← hg3, ← hz1]; exact hv2
  rw [hg3] at hu2 ⊢
  clear hu1 hz1 hb1 hv2 hz2 hb2 hA hB
  have HF := few_any hA2.toV
  refine HF.mono ?_
  rintro e w3 ⟨rfl, hb3⟩
  rw [hg3] at hB2
  have hB3 := hB2.trans (hb3.mono (by have := hB2.size; omega))
  have hA3 := hA2.below hb3
  have hBB3 := hBB2.below hb3
  have hu3 := hu2.below hb3
  have hv3 := hv2'.below hb3
  clear hA2 hBB2 hu2 hv2' hB2 HF hb3
  have HWK : Hid (∀ W, Calls Try.prog 10 #[] W fun e w' => e = .returned (.bool true) ∧ Below W.heap.size W w') := awake4_any
  by_cases cA : fewOk A
  · rw [told_yes cA]
    go_wp2_with ((with_reducible refine wpList_at ?_); refine wpList_loadV (by rfl) (.tmp 4) (by rfl) _ cb (by rfl) hv3 h7b ?_)
    refine (few_any hBB3.toV).mono ?_
    rintro e w4 ⟨rfl, hb4⟩
    have hB4 := hB3.trans (hb4.mono (by have := hB3.size; omega))
    have hA4 := hA3.below hb4
    have hBB4 := hBB3.below hb4
    have hu4 := hu3.below hb4
    have hv4 := hv3.below hb4
    clear hA3 hBB3 hu3 hv3 hB3 hb4
    by_cases cB : fewOk B
    · rw [told_yes cB]
      by_cases cs : s.size ≤ 3000
      · have hsz : ¬ (3000 : Int) < (s.size : Int) := by omega
        obtain ⟨M, k, HR1, HR2⟩ := reads_letter HREF s cs
        replace HR1 := hide HR1
        replace HR2 := hide HR2
        go_wp2_with fail
        refine (HR1.out _).mono ?_
        rintro e w5 ⟨vx, rfl, hX5, hb5⟩
        obtain ⟨cx, rfl, h7x⟩ := hX5.seven
        have hB5 := hB4.trans (hb5.mono (by have := hB4.size; omega))
        have hA5 := hA4.below hb5
        have hBB5 := hBB4.below hb5
        have hu5 := hu4.below hb5
        have hv5 := hv4.below hb5
        clear hA4 hBB4 hu4 hv4 hB4 hb5 HR1
        go_wp2_with ((with_reducible refine wpList_at ?_); refine wpList_varS (by rfl) (by rfl) (by rfl) (.tmp 7) (.tmp 28) (by rfl) cx (by rfl) (by rfl) h7x ?_; intro w6 hx6 hz6 hb6)
        have hB6 := hB5.trans (hb6.mono (by have := hB5.size; omega))
        have hA6 := hA5.below hb6
        have hBB6 := hBB5.below hb6
        have hX6 := hX5.below hb6
        have hu6 := hu5.below hb6
        have hv6 := hv5.below hb6
        obtain ⟨g7, hg7⟩ : ∃ g, w5.heap.size = g := ⟨_, rfl⟩
        rw [hg7] at hx6 ⊢
        clear hA5 hBB5 hu5 hv5 hB5 hb6 hX5 hz6 hg7
        refine (HR2.out _).mono ?_
        rintro e w7 ⟨vy, rfl, hY7, hb7⟩
        obtain ⟨cy, rfl, h7y⟩ := hY7.seven
        have hB7 := hB6.trans (hb7.mono (by have := hB6.size; omega))
        have hA7 := hA6.below hb7
        have hBB7 := hBB6.below hb7
        have hX7 := hX6.below hb7
        have hu7 := hu6.below hb7
        have hv7 := hv6.below hb7
        have hx7 := hx6.below hb7
        clear hA6 hBB6 hu6 hv6 hB6 hb7 hX6 hx6 HR2
        go_upto_region 5 with ((with_reducible refine wpList_at ?_); refine wpList_varS (by rfl) (by rfl) (by rfl) (.tmp 9) (.tmp 33) (by rfl) cy (by rfl) (by rfl) h7y ?_; intro w8 hy8 hz8 hb8)
        have hB8 := hB7.trans (hb8.mono (by have := hB7.size; omega))
        have hA8 := hA7.below hb8
        have hBB8 := hBB7.below hb8
        have hX8 := hX7.below hb8
        have hY8 := hY7.below hb8
        have hu8 := hu7.below hb8
        have hv8 := hv7.below hb8
        have hx8 := hx7.below hb8
        obtain ⟨g9, hg9⟩ : ∃ g, w7.heap.size = g := ⟨_, rfl⟩
        rw [hg9] at hy8 ⊢
        clear hA7 hBB7 hu7 hv7 hB7 hb8 hX7 hY7 hx7 hz8 hg9
        obtain ⟨r1, hr1⟩ : ∃ r1, told (specOk A) = r1 := ⟨_, rfl⟩
        obtain ⟨r2, hr2⟩ : ∃ r2, told (A = B) = r2 := ⟨_, rfl⟩
        obtain ⟨x, HX1, HX2⟩ := bytes_letter A
        have HC1 : Hid (∀ W, Below w8.heap.size w8 W → Calls Try.prog 13 #[.agg ca] W fun e w' => e = .returned (.bool r1) ∧ Below W.heap.size W w') := fun W hW => by rw [← hr1]; exact check_spec (hA8.below hW)
        have HC2 : Hid (∀ W, Below w8.heap.size w8 W → Calls Try.prog 14 #[.agg ca] W fun e w' => e = .returned (.bool r1) ∧ Below W.heap.size W w') := fun W hW => by rw [← hr1]; exact refcheck_any (hA8.below hW).toV
        have HY1 : Hid (∀ W, Below w8.heap.size w8 W → Calls Try.prog 15 #[.agg ca] W fun e w' => e = .returned (.string x) ∧ Below W.heap.size W w') := fun W hW => HX1 W _ (hA8.below hW)
        have HY2 : Hid (∀ W, Below w8.heap.size w8 W → Calls Try.prog 16 #[.agg ca] W fun e w' => e = .returned (.string x) ∧ Below W.heap.size W w') := fun W hW => HX2 W _ (hA8.below hW)
        have HE1 : Hid (∀ W, Below w8.heap.size w8 W → Calls Try.prog 17 #[.agg ca, .agg cb] W fun e w' => e = .returned (.bool r2) ∧ Below W.heap.size W w') := fun W hW => by rw [← hr2]; exact same_any (hA8.below hW).toV (hBB8.below hW).toV
        have HE2 : Hid (∀ W, Below w8.heap.size w8 W → Calls Try.prog 18 #[.agg ca, .agg cb] W fun e w' => e = .returned (.bool r2) ∧ Below W.heap.size W w') := fun W hW => by rw [← hr2]; exact refsame_any (hA8.below hW).toV (hBB8.below hW).toV
        have HE3 : Hid (∀ W, Below w8.heap.size w8 W → Calls Try.prog 18 #[.agg cx, .agg cy] W fun e w' => e = .returned (.bool true) ∧ Below W.heap.size W w') := fun W hW => by rw [← told_yes (rfl : M = M)]; exact refsame_any (hX8.below hW).toV (hY8.below hW).toV
        have HE4 : Hid (∀ W, Below w8.heap.size w8 W → Calls Try.prog 17 #[.agg ca, .agg ca] W fun e w' => e = .returned (.bool true) ∧ Below W.heap.size W w') := fun W hW => by rw [← told_yes (rfl : A = A)]; exact same_any (hA8.below hW).toV (hA8.below hW).toV
        have HWK2 : Hid (∀ W, Below w8.heap.size w8 W → Calls Try.prog 10 #[] W fun e w' => e = .returned (.bool true) ∧ Below W.heap.size W w') := fun W _ => HWK.out W
        clear HX1 HX2 hr1 hr2 HWK
        have hxx : (x.toList == x.toList) = true := beq_self_eq_true _
        have hRw : Below w8.heap.size w8 w8.drew := ⟨rfl, rfl, rfl, Nat.le_refl _, fun _ _ => rfl⟩
        have hRS : ∀ W, Below w8.heap.size w8 W → SvAt W g3 ca ∧ SvAt W (g3 + 1) cb ∧ SvAt W g7 cx ∧ SvAt W g9 cy := fun W hW => ⟨hu8.below hW, hv8.below hW, hx8.below hW, hy8.below hW⟩
        replace hA8 := hide hA8
        replace hBB8 := hide hBB8
        replace hX8 := hide hX8
        replace hY8 := hide hY8
        clear hA8 hBB8 hX8 hY8
        refine wp_region_held_drew (S := fun W => SvAt W g3 ca ∧ SvAt W (g3 + 1) cb ∧ SvAt W g7 cx ∧ SvAt W g9 cy) (by kernel_rfl) (hRS _ hRw) (fun hHeld => ?_)
        refine wpAnyH_take (i := 0) (oi := { dst := some 35, op := Op.load 27 (Operand.tmp 3), type := 27, pos := "law.go:26", after := #[], guard := none }) (v := .agg ca) rfl (by kernel_rfl) (by kernel_rfl) (by kernel_rfl) (fun _ _ _ h => h) (yields_loadV (by rfl) (.tmp 3) (by rfl) g3 ca (by rfl) h7a (fun W hW => hW.1)) (by assumption) ?_
        try simp only [Act.put, List.setIfInBounds_toArray, List.set_cons_zero, List.set_cons_succ]
        refine wpAnyH_take (i := 2) (oi := { dst := some 37, op := Op.load 27 (Operand.tmp 3), type := 27, pos := "law.go:26", after := #[], guard := none }) (v := .agg ca) rfl (by kernel_rfl) (by kernel_rfl) (by kernel_rfl) (fun _ _ _ h => h) (yields_loadV (by rfl) (.tmp 3) (by rfl) g3 ca (by rfl) h7a (fun W hW => hW.1)) (by assumption) ?_
        try simp only [Act.put, List.setIfInBounds_toArray, List.set_cons_zero, List.set_cons_succ]
        refine wpAnyH_lone (R := fun W => Below w8.heap.size w8 W) (i := 1) (oi := { dst := some 36, op := Op.call { callee := Callee.value (Operand.func 13), args := #[Operand.tmp 35], argTypes := #[27] }, type := 4, pos := "law.go:26", after := #[{ on := 0, ground := Ground.data }], guard := none }) (vi := .bool r1) (by kernel_rfl) rfl hRw hRS ?_ ?_
        · intro W hW K hK
          go_simp
          refine (HC1.out W hW).mono ?_
          rintro e W2 ⟨rfl, hb⟩
          go_wp2_with fail
          exact hK.out _ (below_then hW hb)
        clear hRw hHeld
        intro W9 hRw hHeld
        try simp only [Act.put, List.setIfInBounds_toArray, List.set_cons_zero, List.set_cons_succ]
        refine wpAnyH_lone (R := fun W => Below w8.heap.size w8 W) (i := 3) (oi := { dst := some 38, op := Op.call { callee := Callee.value (Operand.func 14), args := #[Operand.tmp 37], argTypes := #[27] }, type := 4, pos := "law.go:26", after := #[{ on := 2, ground := Ground.data }, { on := 1, ground := Ground.chain }], guard := none }) (vi := .bool r1) (by kernel_rfl) rfl hRw hRS ?_ ?_
        · intro W hW K hK
          go_simp
          refine (HC2.out W hW).mono ?_
          rintro e W2 ⟨rfl, hb⟩
          go_wp2_with fail
          exact hK.out _ (below_then hW hb)
        clear hRw hHeld
        intro W9 hRw hHeld
        try simp only [Act.put, List.setIfInBounds_toArray, List.set_cons_zero, List.set_cons_succ]
        refine wpAnyH_take (i := 4) (oi := { dst := some 39, op := Op.binOp BinOp.eql 4 (Operand.tmp 36) (Operand.tmp 38) 4, type := 4, pos := "law.go:26", after := #[{ on := 1, ground := Ground.data }, { on := 3, ground := Ground.data }], guard := none }) (v := ?_) rfl (by kernel_rfl) (by kernel_rfl) (by kernel_rfl) (fun _ _ _ h => h) (Or.inl ⟨by rfl, ?_⟩) (by assumption) ?_
        rotate_left
        · intro W hSW; first | (go_simp; done) | (go_simp; with_reducible rfl)
        try simp only [Act.put, List.setIfInBounds_toArray, List.set_cons_zero, List.set_cons_succ]
        refine wpAnyH_take (i := 5) (oi := { dst := some 40, op := Op.move (Operand.tmp 39), type := 4, pos := "law.go:26", after := #[{ on := 4, ground := Ground.data }, { on := 3, ground := Ground.chain }], guard := none }) (v := ?_) rfl (by kernel_rfl) (by kernel_rfl) (by kernel_rfl) (fun _ _ _ h => h) (Or.inl ⟨by rfl, ?_⟩) (by assumption) ?_
        rotate_left
        · intro W hSW; first | (go_simp; done) | (go_simp; with_reducible rfl)
        try simp only [Act.put, List.setIfInBounds_toArray, List.set_cons_zero, List.set_cons_succ]
        refine wpAnyH_take (i := 6) (oi := { dst := some 41, op := Op.load 27 (Operand.tmp 3), type := 27, pos := "law.go:26", after := #[{ on := 5, ground := Ground.guard }], guard := some (5, true) }) (v := .agg ca) rfl (by kernel_rfl) (by kernel_rfl) (by kernel_rfl) (fun _ _ _ h => h) (yields_loadV (by rfl) (.tmp 3) (by rfl) g3 ca (by rfl) h7a (fun W hW => hW.1)) (by assumption) ?_
        try simp only [Act.put, List.setIfInBounds_toArray, List.set_cons_zero, List.set_cons_succ]
        refine wpAnyH_take (i := 8) (oi := { dst := some 43, op := Op.load 27 (Operand.tmp 3), type := 27, pos := "law.go:26", after := #[{ on := 5, ground := Ground.guard }], guard := some (5, true) }) (v := .agg ca) rfl (by kernel_rfl) (by kernel_rfl) (by kernel_rfl) (fun _ _ _ h => h) (yields_loadV (by rfl) (.tmp 3) (by rfl) g3 ca (by rfl) h7a (fun W hW => hW.1)) (by assumption) ?_
        try simp only [Act.put, List.setIfInBounds_toArray, List.set_cons_zero, List.set_cons_succ]
        refine wpAnyH_lone (R := fun W => Below w8.heap.size w8 W) (i := 7) (oi := { dst := some 42, op := Op.call { callee := Callee.value (Operand.func 15), args := #[Operand.tmp 41], argTypes := #[27] }, type := 9, pos := "law.go:26", after := #[{ on := 6, ground := Ground.data }, { on := 5, ground := Ground.chain }, { on := 5, ground := Ground.guard }], guard := some (5, true) }) (vi := .string x) (by kernel_rfl) rfl hRw hRS ?_ ?_
        · intro W hW K hK
          go_simp
          refine (HY1.out W hW).mono ?_
          rintro e W2 ⟨rfl, hb⟩
          go_wp2_with fail
          exact hK.out _ (below_then hW hb)
        clear hRw hHeld
        intro W9 hRw hHeld
        try simp only [Act.put, List.setIfInBounds_toArray, List.set_cons_zero, List.set_cons_succ]
        refine wpAnyH_lone (R := fun W => Below w8.heap.size w8 W) (i := 9) (oi := { dst := some 44, op := Op.call { callee := Callee.value (Operand.func 16), args := #[Operand.tmp 43], argTypes := #[27] }, type := 9, pos := "law.go:26", after := #[{ on := 8, ground := Ground.data }, { on := 7, ground := Ground.chain }, { on := 5, ground := Ground.guard }], guard := some (5, true) }) (vi := .string x) (by kernel_rfl) rfl hRw hRS ?_ ?_
        · intro W hW K hK
          go_simp
          refine (HY2.out W hW).mono ?_
          rintro e W2 ⟨rfl, hb⟩
          go_wp2_with fail
          exact hK.out _ (below_then hW hb)
        clear hRw hHeld
        intro W9 hRw hHeld
        try simp only [Act.put, List.setIfInBounds_toArray, List.set_cons_zero, List.set_cons_succ]
        refine wpAnyH_take (i := 10) (oi := { dst := some 45, op := Op.binOp BinOp.eql 9 (Operand.tmp 42) (Operand.tmp 44) 9, type := 4, pos := "law.go:26", after := #[{ on := 7, ground := Ground.data }, { on := 9, ground := Ground.data }, { on := 5, ground := Ground.guard }], guard := some (5, true) }) (v := ?_) rfl (by kernel_rfl) (by kernel_rfl) (by kernel_rfl) (fun _ _ _ h => h) (Or.inl ⟨by rfl, ?_⟩) (by assumption) ?_
        rotate_left
        · intro W hSW; first | (go_simp; done) | (go_simp; with_reducible rfl)
        try simp only [Act.put, List.setIfInBounds_toArray, List.set_cons_zero, List.set_cons_succ]
        refine wpAnyH_take (i := 11) (oi := { dst := some 46, op := Op.pick (Operand.tmp 40) (Operand.tmp 45) (Operand.const (Value.bool false)), type := 4, pos := "law.go:26", after := #[{ on := 5, ground := Ground.data }, { on := 10, ground := Ground.data }], guard := none }) (v := ?_) rfl (by kernel_rfl) (by kernel_rfl) (by kernel_rfl) (fun _ _ _ h => h) (Or.inl ⟨by rfl, ?_⟩) (by assumption) ?_
        rotate_left
        · intro W hSW; first | (go_simp; done) | (go_simp; with_reducible rfl)
        try simp only [Act.put, List.setIfInBounds_toArray, List.set_cons_zero, List.set_cons_succ]
        refine wpAnyH_take (i := 12) (oi := { dst := some 47, op := Op.move (Operand.tmp 46), type := 4, pos := "law.go:26", after := #[{ on := 11, ground := Ground.data }, { on := 9, ground := Ground.chain }], guard := none }) (v := ?_) rfl (by kernel_rfl) (by kernel_rfl) (by kernel_rfl) (fun _ _ _ h => h) (Or.inl ⟨by rfl, ?_⟩) (by assumption) ?_
        rotate_left
        · intro W hSW; first | (go_simp; done) | (go_simp; with_reducible rfl)
        try simp only [Act.put, List.setIfInBounds_toArray, List.set_cons_zero, List.set_cons_succ]
        refine wpAnyH_take (i := 13) (oi := { dst := some 48, op := Op.load 27 (Operand.tmp 3), type := 27, pos := "law.go:26", after := #[{ on := 12, ground := Ground.guard }], guard := some (12, true) }) (v := .agg ca) rfl (by kernel_rfl) (by kernel_rfl) (by kernel_rfl) (fun _ _ _ h => h) (yields_loadV (by rfl) (.tmp 3) (by rfl) g3 ca (by rfl) h7a (fun W hW => hW.1)) (by assumption) ?_
        try simp only [Act.put, List.setIfInBounds_toArray, List.set_cons_zero, List.set_cons_succ]
        refine wpAnyH_take (i := 14) (oi := { dst := some 49, op := Op.load 27 (Operand.tmp 4), type := 27, pos := "law.go:26", after := #[{ on := 12, ground := Ground.guard }], guard := some (12, true) }) (v := .agg cb) rfl (by kernel_rfl) (by kernel_rfl) (by kernel_rfl) (fun _ _ _ h => h) (yields_loadV (by rfl) (.tmp 4) (by rfl) (g3 + 1) cb (by rfl) h7b (fun W hW => hW.2.1)) (by assumption) ?_
        try simp only [Act.put, List.setIfInBounds_toArray, List.set_cons_zero, List.set_cons_succ]
        refine wpAnyH_take (i := 16) (oi := { dst := some 51, op := Op.load 27 (Operand.tmp 3), type := 27, pos := "law.go:26", after := #[{ on := 12, ground := Ground.guard }], guard := some (12, true) }) (v := .agg ca) rfl (by kernel_rfl) (by kernel_rfl) (by kernel_rfl) (fun _ _ _ h => h) (yields_loadV (by rfl) (.tmp 3) (by rfl) g3 ca (by rfl) h7a (fun W hW => hW.1)) (by assumption) ?_
        try simp only [Act.put, List.setIfInBounds_toArray, List.set_cons_zero, List.set_cons_succ]
        refine wpAnyH_take (i := 17) (oi := { dst := some 52, op := Op.load 27 (Operand.tmp 4), type := 27, pos := "law.go:26", after := #[{ on := 12, ground := Ground.guard }], guard := some (12, true) }) (v := .agg cb) rfl (by kernel_rfl) (by kernel_rfl) (by kernel_rfl) (fun _ _ _ h => h) (yields_loadV (by rfl) (.tmp 4) (by rfl) (g3 + 1) cb (by rfl) h7b (fun W hW => hW.2.1)) (by assumption) ?_
        try simp only [Act.put, List.setIfInBounds_toArray, List.set_cons_zero, List.set_cons_succ]
        refine wpAnyH_lone (R := fun W => Below w8.heap.size w8 W) (i := 15) (oi := { dst := some 50, op := Op.call { callee := Callee.value (Operand.func 17), args := #[Operand.tmp 48, Operand.tmp 49], argTypes := #[27, 27] }, type := 4, pos := "law.go:26", after := #[{ on := 13, ground := Ground.data }, { on := 14, ground := Ground.data }, { on := 12, ground := Ground.chain }, { on := 12, ground := Ground.guard }], guard := some (12, true) }) (vi := .bool r2) (by kernel_rfl) rfl hRw hRS ?_ ?_
        · intro W hW K hK
          go_simp
          refine (HE1.out W hW).mono ?_
          rintro e W2 ⟨rfl, hb⟩
          go_wp2_with fail
          exact hK.out _ (below_then hW hb)
        clear hRw hHeld
        intro W9 hRw hHeld
        try simp only [Act.put, List.setIfInBounds_toArray, List.set_cons_zero, List.set_cons_succ]
        refine wpAnyH_lone (R := fun W => Below w8.heap.size w8 W) (i := 18) (oi := { dst := some 53, op := Op.call { callee := Callee.value (Operand.func 18), args := #[Operand.tmp 51, Operand.tmp 52], argTypes := #[27, 27] }, type := 4, pos := "law.go:26", after := #[{ on := 16, ground := Ground.data }, { on := 17, ground := Ground.data }, { on := 15, ground := Ground.chain }, { on := 12, ground := Ground.guard }], guard := some (12, true) }) (vi := .bool r2) (by kernel_rfl) rfl hRw hRS ?_ ?_
        · intro W hW K hK
          go_simp
          refine (HE2.out W hW).mono ?_
          rintro e W2 ⟨rfl, hb⟩
          go_wp2_with fail
          exact hK.out _ (below_then hW hb)
        clear hRw hHeld
        intro W9 hRw hHeld
        try simp only [Act.put, List.setIfInBounds_toArray, List.set_cons_zero, List.set_cons_succ]
        refine wpAnyH_take (i := 19) (oi := { dst := some 54, op := Op.binOp BinOp.eql 4 (Operand.tmp 50) (Operand.tmp 53) 4, type := 4, pos := "law.go:26", after := #[{ on := 15, ground := Ground.data }, { on := 18, ground := Ground.data }, { on := 12, ground := Ground.guard }], guard := some (12, true) }) (v := ?_) rfl (by kernel_rfl) (by kernel_rfl) (by kernel_rfl) (fun _ _ _ h => h) (Or.inl ⟨by rfl, ?_⟩) (by assumption) ?_
        rotate_left
        · intro W hSW; first | (go_simp; done) | (go_simp; with_reducible rfl)
        try simp only [Act.put, List.setIfInBounds_toArray, List.set_cons_zero, List.set_cons_succ]
        refine wpAnyH_take (i := 20) (oi := { dst := some 55, op := Op.pick (Operand.tmp 47) (Operand.tmp 54) (Operand.const (Value.bool false)), type := 4, pos := "law.go:26", after := #[{ on := 12, ground := Ground.data }, { on := 19, ground := Ground.data }], guard := none }) (v := ?_) rfl (by kernel_rfl) (by kernel_rfl) (by kernel_rfl) (fun _ _ _ h => h) (Or.inl ⟨by rfl, ?_⟩) (by assumption) ?_
        rotate_left
        · intro W hSW; first | (go_simp; done) | (go_simp; with_reducible rfl)
        try simp only [Act.put, List.setIfInBounds_toArray, List.set_cons_zero, List.set_cons_succ]
        refine wpAnyH_take (i := 21) (oi := { dst := some 56, op := Op.move (Operand.tmp 55), type := 4, pos := "law.go:26", after := #[{ on := 20, ground := Ground.data }, { on := 18, ground := Ground.chain }], guard := none }) (v := ?_) rfl (by kernel_rfl) (by kernel_rfl) (by kernel_rfl) (fun _ _ _ h => h) (Or.inl ⟨by rfl, ?_⟩) (by assumption) ?_
        rotate_left
        · intro W hSW; first | (go_simp; done) | (go_simp; with_reducible rfl)
        try simp only [Act.put, List.setIfInBounds_toArray, List.set_cons_zero, List.set_cons_succ]
        refine wpAnyH_take (i := 22) (oi := { dst := some 57, op := Op.load 27 (Operand.tmp 7), type := 27, pos := "law.go:26", after := #[{ on := 21, ground := Ground.guard }], guard := some (21, true) }) (v := .agg cx) rfl (by kernel_rfl) (by kernel_rfl) (by kernel_rfl) (fun _ _ _ h => h) (yields_loadV (by rfl) (.tmp 7) (by rfl) g7 cx (by rfl) h7x (fun W hW => hW.2.2.1)) (by assumption) ?_
        try simp only [Act.put, List.setIfInBounds_toArray, List.set_cons_zero, List.set_cons_succ]
        refine wpAnyH_take (i := 23) (oi := { dst := some 58, op := Op.load 27 (Operand.tmp 9), type := 27, pos := "law.go:26", after := #[{ on := 21, ground := Ground.guard }], guard := some (21, true) }) (v := .agg cy) rfl (by kernel_rfl) (by kernel_rfl) (by kernel_rfl) (fun _ _ _ h => h) (yields_loadV (by rfl) (.tmp 9) (by rfl) g9 cy (by rfl) h7y (fun W hW => hW.2.2.2)) (by assumption) ?_
        try simp only [Act.put, List.setIfInBounds_toArray, List.set_cons_zero, List.set_cons_succ]
        refine wpAnyH_lone (R := fun W => Below w8.heap.size w8 W) (i := 24) (oi := { dst := some 59, op := Op.call { callee := Callee.value (Operand.func 18), args := #[Operand.tmp 57, Operand.tmp 58], argTypes := #[27, 27] }, type := 4, pos := "law.go:26", after := #[{ on := 22, ground := Ground.data }, { on := 23, ground := Ground.data }, { on := 21, ground := Ground.chain }, { on := 21, ground := Ground.guard }], guard := some (21, true) }) (vi := .bool true) (by kernel_rfl) rfl hRw hRS ?_ ?_
        · intro W hW K hK
          go_simp
          refine (HE3.out W hW).mono ?_
          rintro e W2 ⟨rfl, hb⟩
          go_wp2_with fail
          exact hK.out _ (below_then hW hb)
        clear hRw hHeld
        intro W9 hRw hHeld
        try simp only [Act.put, List.setIfInBounds_toArray, List.set_cons_zero, List.set_cons_succ]
        refine wpAnyH_take (i := 25) (oi := { dst := some 60, op := Op.pick (Operand.tmp 56) (Operand.tmp 59) (Operand.const (Value.bool false)), type := 4, pos := "law.go:26", after := #[{ on := 21, ground := Ground.data }, { on := 24, ground := Ground.data }], guard := none }) (v := ?_) rfl (by kernel_rfl) (by kernel_rfl) (by kernel_rfl) (fun _ _ _ h => h) (Or.inl ⟨by rfl, ?_⟩) (by assumption) ?_
        rotate_left
        · intro W hSW; first | (go_simp; done) | (go_simp; with_reducible rfl)
        try simp only [Act.put, List.setIfInBounds_toArray, List.set_cons_zero, List.set_cons_succ]
        refine wpAnyH_take (i := 26) (oi := { dst := some 61, op := Op.move (Operand.tmp 60), type := 4, pos := "law.go:26", after := #[{ on := 25, ground := Ground.data }, { on := 24, ground := Ground.chain }], guard := none }) (v := ?_) rfl (by kernel_rfl) (by kernel_rfl) (by kernel_rfl) (fun _ _ _ h => h) (Or.inl ⟨by rfl, ?_⟩) (by assumption) ?_
        rotate_left
        · intro W hSW; first | (go_simp; done) | (go_simp; with_reducible rfl)
        try simp only [Act.put, List.setIfInBounds_toArray, List.set_cons_zero, List.set_cons_succ]
        refine wpAnyH_take (i := 27) (oi := { dst := some 62, op := Op.move (Operand.tmp 8), type := 30, pos := "law.go:26", after := #[{ on := 26, ground := Ground.guard }], guard := some (26, true) }) (v := ?_) rfl (by kernel_rfl) (by kernel_rfl) (by kernel_rfl) (fun _ _ _ h => h) (Or.inl ⟨by rfl, ?_⟩) (by assumption) ?_
        rotate_left
        · intro W hSW; first | (go_simp; done) | (go_simp; with_reducible rfl)
        try simp only [Act.put, List.setIfInBounds_toArray, List.set_cons_zero, List.set_cons_succ]
        refine wpAnyH_take (i := 28) (oi := { dst := some 63, op := Op.move (Operand.tmp 10), type := 30, pos := "law.go:26", after := #[{ on := 26, ground := Ground.guard }], guard := some (26, true) }) (v := ?_) rfl (by kernel_rfl) (by kernel_rfl) (by kernel_rfl) (fun _ _ _ h => h) (Or.inl ⟨by rfl, ?_⟩) (by assumption) ?_
        rotate_left
        · intro W hSW; first | (go_simp; done) | (go_simp; with_reducible rfl)
        try simp only [Act.put, List.setIfInBounds_toArray, List.set_cons_zero, List.set_cons_succ]
        refine wpAnyH_take (i := 29) (oi := { dst := some 64, op := Op.binOp BinOp.eql 30 (Operand.tmp 62) (Operand.tmp 63) 30, type := 4, pos := "law.go:26", after := #[{ on := 27, ground := Ground.data }, { on := 28, ground := Ground.data }, { on := 26, ground := Ground.guard }], guard := some (26, true) }) (v := ?_) rfl (by kernel_rfl) (by kernel_rfl) (by kernel_rfl) (fun _ _ _ h => h) (Or.inl ⟨by rfl, ?_⟩) (by assumption) ?_
        rotate_left
        · intro W hSW; first | (go_simp; done) | (go_simp; with_reducible rfl)
        try simp only [Act.put, List.setIfInBounds_toArray, List.set_cons_zero, List.set_cons_succ]
        refine wpAnyH_take (i := 30) (oi := { dst := some 65, op := Op.pick (Operand.tmp 61) (Operand.tmp 64) (Operand.const (Value.bool false)), type := 4, pos := "law.go:26", after := #[{ on := 26, ground := Ground.data }, { on := 29, ground := Ground.data }], guard := none }) (v := ?_) rfl (by kernel_rfl) (by kernel_rfl) (by kernel_rfl) (fun _ _ _ h => h) (Or.inl ⟨by rfl, ?_⟩) (by assumption) ?_
        rotate_left
        · intro W hSW; first | (go_simp; done) | (go_simp; with_reducible rfl)
        try simp only [Act.put, List.setIfInBounds_toArray, List.set_cons_zero, List.set_cons_succ]
        refine wpAnyH_take (i := 31) (oi := { dst := some 66, op := Op.move (Operand.tmp 65), type := 4, pos := "law.go:26", after := #[{ on := 30, ground := Ground.data }, { on := 26, ground := Ground.chain }], guard := none }) (v := ?_) rfl (by kernel_rfl) (by kernel_rfl) (by kernel_rfl) (fun _ _ _ h => h) (Or.inl ⟨by rfl, ?_⟩) (by assumption) ?_
        rotate_left
        · intro W hSW; first | (go_simp; done) | (go_simp; with_reducible rfl)
        try simp only [Act.put, List.setIfInBounds_toArray, List.set_cons_zero, List.set_cons_succ]
        refine wpAnyH_take (i := 32) (oi := { dst := some 67, op := Op.load 27 (Operand.tmp 3), type := 27, pos := "law.go:26", after := #[{ on := 31, ground := Ground.guard }], guard := some (31, true) }) (v := .agg ca) rfl (by kernel_rfl) (by kernel_rfl) (by kernel_rfl) (fun _ _ _ h => h) (yields_loadV (by rfl) (.tmp 3) (by rfl) g3 ca (by rfl) h7a (fun W hW => hW.1)) (by assumption) ?_
        try simp only [Act.put, List.setIfInBounds_toArray, List.set_cons_zero, List.set_cons_succ]
        refine wpAnyH_take (i := 33) (oi := { dst := some 68, op := Op.load 27 (Operand.tmp 3), type := 27, pos := "law.go:26", after := #[{ on := 31, ground := Ground.guard }], guard := some (31, true) }) (v := .agg ca) rfl (by kernel_rfl) (by kernel_rfl) (by kernel_rfl) (fun _ _ _ h => h) (yields_loadV (by rfl) (.tmp 3) (by rfl) g3 ca (by rfl) h7a (fun W hW => hW.1)) (by assumption) ?_
        try simp only [Act.put, List.setIfInBounds_toArray, List.set_cons_zero, List.set_cons_succ]
        refine wpAnyH_lone (R := fun W => Below w8.heap.size w8 W) (i := 34) (oi := { dst := some 69, op := Op.call { callee := Callee.value (Operand.func 17), args := #[Operand.tmp 67, Operand.tmp 68], argTypes := #[27, 27] }, type := 4, pos := "law.go:26", after := #[{ on := 32, ground := Ground.data }, { on := 33, ground := Ground.data }, { on := 31, ground := Ground.chain }, { on := 31, ground := Ground.guard }], guard := some (31, true) }) (vi := .bool true) (by kernel_rfl) rfl hRw hRS ?_ ?_
        · intro W hW K hK
          go_simp
          refine (HE4.out W hW).mono ?_
          rintro e W2 ⟨rfl, hb⟩
          go_wp2_with fail
          exact hK.out _ (below_then hW hb)
        clear hRw hHeld
        intro W9 hRw hHeld
        try simp only [Act.put, List.setIfInBounds_toArray, List.set_cons_zero, List.set_cons_succ]
        refine wpAnyH_take (i := 35) (oi := { dst := some 70, op := Op.pick (Operand.tmp 66) (Operand.tmp 69) (Operand.const (Value.bool false)), type := 4, pos := "law.go:26", after := #[{ on := 31, ground := Ground.data }, { on := 34, ground := Ground.data }], guard := none }) (v := ?_) rfl (by kernel_rfl) (by kernel_rfl) (by kernel_rfl) (fun _ _ _ h => h) (Or.inl ⟨by rfl, ?_⟩) (by assumption) ?_
        rotate_left
        · intro W hSW; first | (go_simp; done) | (go_simp; with_reducible rfl)
        try simp only [Act.put, List.setIfInBounds_toArray, List.set_cons_zero, List.set_cons_succ]
        refine wpAnyH_take (i := 36) (oi := { dst := some 71, op := Op.move (Operand.tmp 70), type := 4, pos := "law.go:26", after := #[{ on := 35, ground := Ground.data }, { on := 34, ground := Ground.chain }], guard := none }) (v := ?_) rfl (by kernel_rfl) (by kernel_rfl) (by kernel_rfl) (fun _ _ _ h => h) (Or.inl ⟨by rfl, ?_⟩) (by assumption) ?_
        rotate_left
        · intro W hSW; first | (go_simp; done) | (go_simp; with_reducible rfl)
        try simp only [Act.put, List.setIfInBounds_toArray, List.set_cons_zero, List.set_cons_succ]
        refine wpAnyH_lone (R := fun W => Below w8.heap.size w8 W) (i := 37) (oi := { dst := some 72, op := Op.call { callee := Callee.value (Operand.func 10), args := #[], argTypes := #[] }, type := 4, pos := "law.go:26", after := #[{ on := 36, ground := Ground.chain }, { on := 36, ground := Ground.guard }], guard := some (36, true) }) (vi := .bool true) (by kernel_rfl) rfl hRw hRS ?_ ?_
        · intro W hW K hK
          go_simp
          refine (HWK2.out W hW).mono ?_
          rintro e W2 ⟨rfl, hb⟩
          go_wp2_with fail
          exact hK.out _ (below_then hW hb)
        clear hRw hHeld
        intro W9 hRw hHeld
        try simp only [Act.put, List.setIfInBounds_toArray, List.set_cons_zero, List.set_cons_succ]
        refine wpAnyH_take (i := 38) (oi := { dst := some 73, op := Op.pick (Operand.tmp 71) (Operand.tmp 72) (Operand.const (Value.bool false)), type := 4, pos := "law.go:26", after := #[{ on := 36, ground := Ground.data }, { on := 37, ground := Ground.data }], guard := none }) (v := ?_) rfl (by kernel_rfl) (by kernel_rfl) (by kernel_rfl) (fun _ _ _ h => h) (Or.inl ⟨by rfl, ?_⟩) (by assumption) ?_
        rotate_left
        · intro W hSW; first | (go_simp; done) | (go_simp; with_reducible rfl)
        try simp only [Act.put, List.setIfInBounds_toArray, List.set_cons_zero, List.set_cons_succ]
        refine wpAnyH_take (i := 39) (oi := { dst := some 6, op := Op.assign (Operand.tmp 73), type := 4, pos := "law.go:26", after := #[{ on := 38, ground := Ground.data }, { on := 37, ground := Ground.chain }, { on := 0, ground := Ground.phase }, { on := 1, ground := Ground.phase }, { on := 2, ground := Ground.phase }, { on := 3, ground := Ground.phase }, { on := 4, ground := Ground.phase }, { on := 5, ground := Ground.phase }, { on := 6, ground := Ground.phase }, { on := 7, ground := Ground.phase }, { on := 8, ground := Ground.phase }, { on := 9, ground := Ground.phase }, { on := 10, ground := Ground.phase }, { on := 11, ground := Ground.phase }, { on := 12, ground := Ground.phase }, { on := 13, ground := Ground.phase }, { on := 14, ground := Ground.phase }, { on := 15, ground := Ground.phase }, { on := 16, ground := Ground.phase }, { on := 17, ground := Ground.phase }, { on := 18, ground := Ground.phase }, { on := 19, ground := Ground.phase }, { on := 20, ground := Ground.phase }, { on := 21, ground := Ground.phase }, { on := 22, ground := Ground.phase }, { on := 23, ground := Ground.phase }, { on := 24, ground := Ground.phase }, { on := 25, ground := Ground.phase }, { on := 26, ground := Ground.phase }, { on := 27, ground := Ground.phase }, { on := 28, ground := Ground.phase }, { on := 29, ground := Ground.phase }, { on := 30, ground := Ground.phase }, { on := 31, ground := Ground.phase }, { on := 32, ground := Ground.phase }, { on := 33, ground := Ground.phase }, { on := 34, ground := Ground.phase }, { on := 35, ground := Ground.phase }, { on := 36, ground := Ground.phase }, { on := 37, ground := Ground.phase }, { on := 38, ground := Ground.phase }], guard := none }) (v := ?_) rfl (by kernel_rfl) (by kernel_rfl) (by kernel_rfl) (fun _ _ _ h => h) (Or.inl ⟨by rfl, ?_⟩) (by assumption) ?_
        rotate_left
        · intro W hSW; first | (go_simp; done) | (go_simp; with_reducible rfl)
        try simp only [Act.put, List.setIfInBounds_toArray, List.set_cons_zero, List.set_cons_succ]
        refine wpAnyH_done (by kernel_rfl) ?_ _
        go_wp2
        go_ret
        rw [hg3]
        exact ⟨rfl, hB8.trans (hRw.mono (by have := hB8.size; omega))⟩
      · have hsz : (3000 : Int) < (s.size : Int) := by omega
        go_wp2_with fail
        refine (HWK.out _).mono ?_
        rintro e w5 ⟨rfl, hb5⟩
        go_wp2
        go_ret
        rw [hg3]
        exact ⟨rfl, hB4.trans (hb5.mono (by have := hB4.size; omega))⟩
    · rw [told_no cB]
      go_wp2_with fail
      refine (HWK.out _).mono ?_
      rintro e w5 ⟨rfl, hb5⟩
      go_wp2
      go_ret
      rw [hg3]
      exact ⟨rfl, hB4.trans (hb5.mono (by have := hB4.size; omega))⟩
  · rw [told_no cA]
    go_wp2_with fail
    refine (HWK.out _).mono ?_
    rintro e w5 ⟨rfl, hb5⟩
    go_wp2
    go_ret
    rw [hg3]
    exact ⟨rfl, hB3.trans (hb5.mono (by have := hB3.size; omega))⟩

end Go.Proofs.Ytidhcnecmelkbaa
