/-
  Which text, which fund comes first; where a thing stands in a rising list.
-/
import Derived.Test.YtiepkablapjpmaaBkM
import Derived.Test.YtiepkablapjpmaaRegL
import Derived.Laws.Externs
import Derived.BigQuiet
import Derived.Deep.QuietTactic
import Derived.Deep.CutRange
import Derived.Deep.CutBlock
import Derived.Handy
namespace Go.Proofs.Ytiepkablapjpmaa
open Go.RowKit

set_option maxHeartbeats 1000000 in
set_option maxRecDepth 100000 in
theorem compare0_any (a b : ByteArray) (w : World) : Calls Try.prog 65 #[.string a, .string b] w fun e w' => e = .returned (.int .i64 (cmpT a b)) ∧ w' = w := by
  have hx : ∀ w0, (callFunc 72 #[.string a, .string b]).run Try.prog w0 = .ok (.value (.int .i64 (cmpT a b))) w0 := fun w0 => by
    rw [run_callFunc_extern Try.func72 (by kernel_rfl) (by kernel_rfl) (by kernel_rfl) (e := Extern.BytealgCompare.compare) (by kernel_rfl), Lib.run_compareString]
    rfl
  go_enter Try.func65, Try.ntmps65
  go_wp2_with (simp only [hx])
  go_ret
  exact ⟨rfl, rfl⟩
set_option maxHeartbeats 1000000 in
theorem compare_any (a b : ByteArray) (w : World) : Calls Try.prog 47 #[.string a, .string b] w fun e w' => e = .returned (.int .i64 (cmpT a b)) ∧ w' = w := by
  go_enter Try.func47, Try.ntmps47
  go_wp2_with fail
  refine (compare0_any a b _).mono ?_
  rintro e w0 ⟨rfl, hw0⟩
  subst w0
  go_wp2
  go_ret
  exact ⟨rfl, rfl⟩

set_option maxRecDepth 10000 in
set_option maxHeartbeats 1000000 in
theorem or_any {w : World} {g : Nat} {x y : Int} (h0 : w.cell? ⟨g, 0, none⟩ = some (.int .i64 x)) (h1 : w.cell? ⟨g, 1, none⟩ = some (.int .i64 y)) :
    Calls Try.prog 62 #[.slice (some ⟨g, 0, none⟩) 2 2] w fun e w' => e = .returned (.int .i64 (if x ≠ 0 then x else y)) ∧ w' = w := by
  obtain ⟨r, hr⟩ : ∃ r, (if x ≠ 0 then x else y) = r := ⟨_, rfl⟩
  rw [hr]
  replace hr := hide hr
  go_enter Try.func62, Try.ntmps62
  go_wp2
  go_loopw [8] (fun i wr => (i = .int .i64 0 ∨ (i = .int .i64 1 ∧ Hid (x = 0)) ∨ (i = .int .i64 2 ∧ Hid (x = 0 ∧ y = 0))) ∧ wr = w) (fun i _ => 2 - (intOf i).toNat)
  case atStart => exact ⟨.inl rfl, rfl⟩
  case round =>
    obtain ⟨hor, rfl⟩ := hrel
    rcases hor with rfl | ⟨rfl, HX⟩ | ⟨rfl, HX⟩
    · by_cases c : x = 0
      · have t : (x != 0) = false := by rw [c]; rfl
        have c' := hide c
        clear c
        go_wp2
        go_roundw
        case rel => exact ⟨.inr (.inl ⟨by go_num, c'⟩), trivial⟩
        case measure => simp [intOf]
      · have t : (x != 0) = true := by rw [bne_iff_ne]; exact c
        have c' := hide c
        clear c
        go_wp2
        go_ret
        exact ⟨ret_int (by rw [← hr.out, if_pos c'.out]), rfl⟩
    · by_cases c : y = 0
      · have t : (y != 0) = false := by rw [c]; rfl
        have c' := hide c
        clear c
        go_wp2
        go_roundw
        case rel => exact ⟨.inr (.inr ⟨by go_num, HX.out, c'.out⟩), trivial⟩
        case measure => simp [intOf]
      · have t : (y != 0) = true := by rw [bne_iff_ne]; exact c
        clear c
        go_wp2
        go_ret
        exact ⟨ret_int (by rw [← hr.out, if_neg (fun h => h HX.out)]), rfl⟩
    · go_wp2
      go_ret
      exact ⟨ret_int (by rw [← hr.out, if_neg (fun h => h HX.out.1), HX.out.2]), rfl⟩

set_option maxRecDepth 10000 in
set_option maxHeartbeats 4000000 in
theorem inorder_any (f : FundM) (a s : ByteArray) (w : World) : Calls Try.prog 43 #[.agg #[.string f.acc, .string f.asset, .int .i64 f.amt], .agg #[.string a, .string s, .int .i64 0]] w fun e w' => e = .returned (.int .i64 (cmpK f a s)) ∧ Below w.heap.size w w' := by
  obtain ⟨x, hx⟩ : ∃ x, cmpT f.acc a = x := ⟨_, rfl⟩
  obtain ⟨y, hy⟩ : ∃ y, cmpT f.asset s = y := ⟨_, rfl⟩
  obtain ⟨r, hr⟩ : ∃ r, (if x ≠ 0 then x else y) = r := ⟨_, rfl⟩
  have hk : cmpK f a s = r := by unfold cmpK; rw [hx, hy, hr]
  rw [hk]
  obtain ⟨g, hg⟩ : ∃ g, w.heap.size = g := ⟨_, rfl⟩
  rw [hg]
  clear hk
  replace hx := hide hx
  replace hy := hide hy
  replace hr := hide hr
  go_enter Try.func43, Try.ntmps43
  go_upto_region 1 with (first
    | ((with_reducible refine wpList_at ?_); refine wpList_boxv (by rfl) 37 (.tmp 0) (by rfl) _ (by rfl) ?_; rw [hg]; intro w1 hu1 hz1 hb1)
    | ((with_reducible refine wpList_at ?_); refine wpList_boxv (by rfl) 37 (.tmp 1) (by rfl) _ (by rfl) ?_; rw [hz1]; intro w2 hu2 hz2 hb2))
  have hv1 : VAt w2 37 g #[.string f.acc, .string f.asset, .int .i64 f.amt] := VAt.below (w := w1) hu1 hb2 (by omega)
  have hv2 : VAt w2 37 (g + 1) #[.string a, .string s, .int .i64 0] := hu2
  have a0 : w2.cell? ⟨g, 0, none⟩ = some (.string f.acc) := by rw [hv1.cell]; rfl
  have a1 : w2.cell? ⟨g, 1, none⟩ = some (.string f.asset) := by rw [hv1.cell]; rfl
  have b0 : w2.cell? ⟨g + 1, 0, none⟩ = some (.string a) := by rw [hv2.cell]; rfl
  have b1 : w2.cell? ⟨g + 1, 1, none⟩ = some (.string s) := by rw [hv2.cell]; rfl
  have hB2 : Below g w w2 := hb1.trans (hb2.mono (by omega))
  have hs2 : g ≤ w2.heap.size := by omega
  clear hu1 hu2 hv1 hv2 hb1 hb2 hz1 hz2
  replace hx := hx.out
  replace hy := hy.out
  replace hr := hr.out
  have hRw : Below w2.heap.size w2 w2.drew := ⟨rfl, rfl, rfl, Nat.le_refl _, fun _ _ => rfl⟩
  refine wp_region_held_drew (S := fun W => Below w2.heap.size w2 W) (by kernel_rfl) hRw (fun hHeld => ?_)
  refine wpAnyH_take (i := 0) (oi := { dst := some 5, op := Op.fieldAddr 37 (Operand.tmp 2) 0, type := 0, pos := "funds.go:34", after := #[], guard := none }) (v := ?_) rfl (by kernel_rfl) (by kernel_rfl) (by kernel_rfl) (fun _ _ _ h => h) (Or.inl ⟨by rfl, ?_⟩) (by assumption) ?_
  rotate_left
  · intro W hSW; first | (go_simp; done) | (go_simp; with_reducible rfl)
  try simp only [Act.put, List.setIfInBounds_toArray, List.set_cons_zero, List.set_cons_succ]
  refine wpAnyH_take (i := 1) (oi := { dst := some 6, op := Op.load 9 (Operand.tmp 5), type := 9, pos := "funds.go:34", after := #[{ on := 0, ground := Ground.data }], guard := none }) (v := ?_) rfl (by kernel_rfl) (by kernel_rfl) (by kernel_rfl) (fun _ _ _ h => h) (Or.inl ⟨by rfl, ?_⟩) (by assumption) ?_
  rotate_left
  · intro W hSW; have z0 := cell_on hSW a0; have z1 := cell_on hSW a1; have z2 := cell_on hSW b0; have z3 := cell_on hSW b1; first | (go_simp; done) | (go_simp; with_reducible rfl)
  try simp only [Act.put, List.setIfInBounds_toArray, List.set_cons_zero, List.set_cons_succ]
  refine wpAnyH_take (i := 2) (oi := { dst := some 7, op := Op.fieldAddr 37 (Operand.tmp 3) 0, type := 0, pos := "funds.go:34", after := #[], guard := none }) (v := ?_) rfl (by kernel_rfl) (by kernel_rfl) (by kernel_rfl) (fun _ _ _ h => h) (Or.inl ⟨by rfl, ?_⟩) (by assumption) ?_
  rotate_left
  · intro W hSW; first | (go_simp; done) | (go_simp; with_reducible rfl)
  try simp only [Act.put, List.setIfInBounds_toArray, List.set_cons_zero, List.set_cons_succ]
  refine wpAnyH_take (i := 3) (oi := { dst := some 8, op := Op.load 9 (Operand.tmp 7), type := 9, pos := "funds.go:34", after := #[{ on := 2, ground := Ground.data }], guard := none }) (v := ?_) rfl (by kernel_rfl) (by kernel_rfl) (by kernel_rfl) (fun _ _ _ h => h) (Or.inl ⟨by rfl, ?_⟩) (by assumption) ?_
  rotate_left
  · intro W hSW; have z0 := cell_on hSW a0; have z1 := cell_on hSW a1; have z2 := cell_on hSW b0; have z3 := cell_on hSW b1; first | (go_simp; done) | (go_simp; with_reducible rfl)
  try simp only [Act.put, List.setIfInBounds_toArray, List.set_cons_zero, List.set_cons_succ]
  refine wpAnyH_take (i := 5) (oi := { dst := some 10, op := Op.fieldAddr 37 (Operand.tmp 2) 1, type := 0, pos := "funds.go:34", after := #[], guard := none }) (v := ?_) rfl (by kernel_rfl) (by kernel_rfl) (by kernel_rfl) (fun _ _ _ h => h) (Or.inl ⟨by rfl, ?_⟩) (by assumption) ?_
  rotate_left
  · intro W hSW; first | (go_simp; done) | (go_simp; with_reducible rfl)
  try simp only [Act.put, List.setIfInBounds_toArray, List.set_cons_zero, List.set_cons_succ]
  refine wpAnyH_take (i := 6) (oi := { dst := some 11, op := Op.load 9 (Operand.tmp 10), type := 9, pos := "funds.go:34", after := #[{ on := 5, ground := Ground.data }], guard := none }) (v := ?_) rfl (by kernel_rfl) (by kernel_rfl) (by kernel_rfl) (fun _ _ _ h => h) (Or.inl ⟨by rfl, ?_⟩) (by assumption) ?_
  rotate_left
  · intro W hSW; have z0 := cell_on hSW a0; have z1 := cell_on hSW a1; have z2 := cell_on hSW b0; have z3 := cell_on hSW b1; first | (go_simp; done) | (go_simp; with_reducible rfl)
  try simp only [Act.put, List.setIfInBounds_toArray, List.set_cons_zero, List.set_cons_succ]
  refine wpAnyH_take (i := 7) (oi := { dst := some 12, op := Op.fieldAddr 37 (Operand.tmp 3) 1, type := 0, pos := "funds.go:34", after := #[], guard := none }) (v := ?_) rfl (by kernel_rfl) (by kernel_rfl) (by kernel_rfl) (fun _ _ _ h => h) (Or.inl ⟨by rfl, ?_⟩) (by assumption) ?_
  rotate_left
  · intro W hSW; first | (go_simp; done) | (go_simp; with_reducible rfl)
  try simp only [Act.put, List.setIfInBounds_toArray, List.set_cons_zero, List.set_cons_succ]
  refine wpAnyH_take (i := 8) (oi := { dst := some 13, op := Op.load 9 (Operand.tmp 12), type := 9, pos := "funds.go:34", after := #[{ on := 7, ground := Ground.data }], guard := none }) (v := ?_) rfl (by kernel_rfl) (by kernel_rfl) (by kernel_rfl) (fun _ _ _ h => h) (Or.inl ⟨by rfl, ?_⟩) (by assumption) ?_
  rotate_left
  · intro W hSW; have z0 := cell_on hSW a0; have z1 := cell_on hSW a1; have z2 := cell_on hSW b0; have z3 := cell_on hSW b1; first | (go_simp; done) | (go_simp; with_reducible rfl)
  try simp only [Act.put, List.setIfInBounds_toArray, List.set_cons_zero, List.set_cons_succ]
  refine wpAnyH_loneE (T := fun u W => u = Value.int .i64 x ∧ Below w2.heap.size w2 W) (i := 4) (oi := { dst := some 9, op := Op.call { callee := Callee.value (Operand.func 47), args := #[Operand.tmp 6, Operand.tmp 8], argTypes := #[9, 9] }, type := 3, pos := "funds.go:34", after := #[{ on := 1, ground := Ground.data }, { on := 3, ground := Ground.data }], guard := none }) (by kernel_rfl) rfl (fun u W h => h.2) ?_ ?_
  · intro K hK
    go_simp
    refine (compare_any f.acc a _).mono ?_
    rintro e W2 ⟨rfl, hw0⟩
    go_wp2_with fail
    exact hK.out _ _ (⟨rfl, hRw⟩)
  intro u1 W9 hx1 hHeld
  clear hRw
  obtain ⟨rfl, hR1⟩ := hx1
  try simp only [Act.put, List.setIfInBounds_toArray, List.set_cons_zero, List.set_cons_succ]
  refine wpAnyH_loneE (T := fun u W => u = Value.int .i64 y ∧ Below w2.heap.size w2 W) (i := 9) (oi := { dst := some 14, op := Op.call { callee := Callee.value (Operand.func 47), args := #[Operand.tmp 11, Operand.tmp 13], argTypes := #[9, 9] }, type := 3, pos := "funds.go:34", after := #[{ on := 6, ground := Ground.data }, { on := 8, ground := Ground.data }, { on := 4, ground := Ground.chain }], guard := none }) (by kernel_rfl) rfl (fun u W h => h.2) ?_ ?_
  · intro K hK
    go_simp
    refine (compare_any f.asset s _).mono ?_
    rintro e W2 ⟨rfl, hw0⟩
    go_wp2_with fail
    exact hK.out _ _ (⟨rfl, hR1⟩)
  intro u2 W9 hx2 hHeld
  clear hR1
  obtain ⟨rfl, hR2⟩ := hx2
  try simp only [Act.put, List.setIfInBounds_toArray, List.set_cons_zero, List.set_cons_succ]
  refine wpAnyH_loneE (T := fun u W => Below w2.heap.size w2 W ∧ ∃ hb, u = Value.slice (some ⟨hb, 0, none⟩) 2 2 ∧ W.cell? ⟨hb, 0, none⟩ = some (.int .i64 x) ∧ W.cell? ⟨hb, 1, none⟩ = some (.int .i64 y)) (i := 10) (oi := { dst := some 15, op := Op.buildSlice 22 2 #[(0, Operand.tmp 9), (1, Operand.tmp 14)], type := 22, pos := "funds.go:34", after := #[{ on := 4, ground := Ground.data }, { on := 9, ground := Ground.data }], guard := none }) (by kernel_rfl) rfl (fun u W h => h.1) ?_ ?_
  · intro K hK
    go_simp
    exact hK.out _ _ ⟨hR2.alloc (by exact hR2.size) _, _, rfl, by rw [World.cell?_alloc_new]; rfl, by rw [World.cell?_alloc_new]; rfl⟩
  intro u3 W9 hx3 hHeld
  clear hR2
  obtain ⟨hR3, hb, rfl, hc0, hc1⟩ := hx3
  try simp only [Act.put, List.setIfInBounds_toArray, List.set_cons_zero, List.set_cons_succ]
  refine wpAnyH_loneE (T := fun u W => u = Value.int .i64 r ∧ Below w2.heap.size w2 W) (i := 11) (oi := { dst := some 16, op := Op.call { callee := Callee.value (Operand.func 62), args := #[Operand.tmp 15], argTypes := #[22] }, type := 3, pos := "funds.go:34", after := #[{ on := 10, ground := Ground.data }, { on := 9, ground := Ground.chain }], guard := none }) (by kernel_rfl) rfl (fun u W h => h.2) ?_ ?_
  · intro K hK
    go_simp
    refine (or_any hc0 hc1).mono ?_
    rintro e W2 ⟨rfl, hw0⟩
    go_wp2_with fail
    exact hK.out _ _ (⟨rfl, hR3⟩)
  intro u4 W9 hx4 hHeld
  clear hR3 hc0 hc1
  obtain ⟨rfl, hR4⟩ := hx4
  try simp only [Act.put, List.setIfInBounds_toArray, List.set_cons_zero, List.set_cons_succ]
  refine wpAnyH_take (i := 12) (oi := { dst := some 4, op := Op.assign (Operand.tmp 16), type := 3, pos := "funds.go:34", after := #[{ on := 11, ground := Ground.data }, { on := 11, ground := Ground.chain }, { on := 0, ground := Ground.phase }, { on := 1, ground := Ground.phase }, { on := 2, ground := Ground.phase }, { on := 3, ground := Ground.phase }, { on := 4, ground := Ground.phase }, { on := 5, ground := Ground.phase }, { on := 6, ground := Ground.phase }, { on := 7, ground := Ground.phase }, { on := 8, ground := Ground.phase }, { on := 9, ground := Ground.phase }, { on := 10, ground := Ground.phase }, { on := 11, ground := Ground.phase }], guard := none }) (v := ?_) rfl (by kernel_rfl) (by kernel_rfl) (by kernel_rfl) (fun _ _ _ h => h) (Or.inl ⟨by rfl, ?_⟩) (by assumption) ?_
  rotate_left
  · intro W hSW; first | (go_simp; done) | (go_simp; with_reducible rfl)
  try simp only [Act.put, List.setIfInBounds_toArray, List.set_cons_zero, List.set_cons_succ]
  refine wpAnyH_done (by kernel_rfl) ?_ _
  have hB9 : Below g w W9 := hB2.trans (hR4.mono hs2)
  go_wp2
  go_ret
  exact ⟨rfl, hB9⟩

theorem memT_getD {l : List ByteArray} {x : ByteArray} : x ∈ l ↔ ∃ j, j < l.length ∧ l.getD j ByteArray.empty = x := by
  constructor
  · intro h
    obtain ⟨j, hj, rfl⟩ := List.mem_iff_getElem.1 h
    exact ⟨j, hj, by rw [List.getD_eq_getElem?_getD, List.getElem?_eq_getElem hj]; rfl⟩
  · rintro ⟨j, hj, rfl⟩
    exact getD_mem l j ByteArray.empty hj

set_option maxRecDepth 10000 in
set_option maxHeartbeats 1000000 in
theorem indexT_any {w : World} {a : Option Addr} {c : Nat} {l : List ByteArray} (ha : Strs w a l.length l) (x : ByteArray) :
    Calls Try.prog 61 #[.slice a l.length c, .string x] w fun e w' => ∃ r : Int, e = .returned (.int .i64 r) ∧ (0 ≤ r ↔ x ∈ l) ∧ w' = w := by
  obtain ⟨n, hn⟩ : ∃ n, l.length = n := ⟨_, rfl⟩
  rw [hn] at ha ⊢
  have hl1 := ha.2.1
  unfold maxLen at hl1
  replace ha := hide ha
  replace hn := hide hn
  go_enter Try.func61, Try.ntmps61
  go_wp2
  go_loopw [8] (fun i wr => ∃ j : Nat, j ≤ n ∧ i = .int .i64 j ∧ Hid (∀ i, i < j → l.getD i ByteArray.empty ≠ x) ∧ wr = w) (fun i _ => n - (intOf i).toNat)
  case atStart => exact ⟨0, by omega, rfl, fun j hj => absurd hj (by omega), rfl⟩
  case round =>
    obtain ⟨j, hj, rfl, HO, rfl⟩ := hrel
    by_cases hlt : j < n
    · have j1 : (j : Int) < (n : Int) := by omega
      obtain ⟨b1, o1, rfl, d1⟩ := ha.out.2.2.2 j hlt
      obtain ⟨y, hy⟩ : ∃ y, l.getD j ByteArray.empty = y := ⟨_, rfl⟩
      rw [hy] at d1
      replace hy := hide hy
      by_cases hxy : x = y
      · have t : (x.toList == y.toList) = true := text_same hxy
        have HM : Hid (x ∈ l) := memT_getD.2 ⟨j, by rw [hn.out]; exact hlt, by rw [hy.out, hxy]⟩
        clear hxy
        go_wp2
        go_ret
        exact ⟨_, rfl, ⟨fun _ => HM.out, fun _ => by omega⟩, rfl⟩
      · have t : (x.toList == y.toList) = false := text_other hxy
        replace hxy := hide hxy
        go_wp2
        go_roundw
        case rel =>
          refine ⟨j + 1, by omega, by go_num, fun i hi => ?_, trivial⟩
          by_cases hij : i = j
          · subst hij; rw [hy.out]; exact fun e => hxy.out e.symm
          · exact HO.out i (by omega)
        case measure => simp [intOf]; omega
    · have j1 : ¬ (j : Int) < (n : Int) := by omega
      go_wp2
      go_ret
      exact ⟨_, rfl, ⟨fun h => absurd h (by omega), fun h => by
        obtain ⟨i, hi, hx⟩ := memT_getD.1 h
        exact absurd hx (HO.out i (by rw [hn.out] at hi; omega))⟩, rfl⟩

set_option maxRecDepth 10000 in
set_option maxHeartbeats 400000 in
theorem containsT_any {w : World} {a : Option Addr} {c : Nat} {l : List ByteArray} (ha : Strs w a l.length l) (x : ByteArray) :
    Calls Try.prog 40 #[.slice a l.length c, .string x] w fun e w' => e = .returned (.bool (inL x l)) ∧ w' = w := by
  have HI := indexT_any (c := c) ha x
  generalize l.length = n at HI ⊢
  replace HI := hide HI
  obtain ⟨t, ht⟩ : ∃ t, inL x l = t := ⟨_, rfl⟩
  rw [ht]
  replace ht := hide ht
  go_enter Try.func40, Try.ntmps40
  go_wp2_with fail
  refine HI.out.mono ?_
  rintro e w0 ⟨r, rfl, hr, hw0⟩
  subst w0
  replace hr := hide hr
  go_wp2
  go_ret
  refine ⟨ret_bool ?_, rfl⟩
  rw [← ht.out, ← inL_told]
  by_cases h : x ∈ l
  · rw [told_yes h]; exact decide_eq_true (hr.out.2 h)
  · rw [told_no h]; exact decide_eq_false (fun e => h (hr.out.1 e))

/-- Texts rise. -/
def RisingT (l : List ByteArray) : Prop := l.Pairwise fun a b => cmpT a b < 0
theorem RisingT.mono {l : List ByteArray} (h : RisingT l) (x : ByteArray) {i j : Nat} (hij : i < j) (hj : j < l.length) (hk : cmpT (l.getD j ByteArray.empty) x ≤ 0) : cmpT (l.getD i ByteArray.empty) x < 0 := by
  have hi : i < l.length := by omega
  have h9 := List.pairwise_iff_getElem.1 h i j hi hj hij
  have e1 : l.getD i ByteArray.empty = l[i] := by rw [List.getD_eq_getElem?_getD, List.getElem?_eq_getElem hi]; rfl
  have e2 : l.getD j ByteArray.empty = l[j] := by rw [List.getD_eq_getElem?_getD, List.getElem?_eq_getElem hj]; rfl
  rw [e1]
  rw [e2] at hk
  rcases cmpT_range l[j] x with h1 | h1 | h1
  · exact cmpT_trans h9 (by omega)
  · rw [← (cmpT_zero _ _).1 h1]; exact h9
  · omega
structure StandsT (l : List ByteArray) (x : ByteArray) (i : Nat) : Prop where
  le : i ≤ l.length
  lo : ∀ j, j < i → cmpT (l.getD j ByteArray.empty) x < 0
  hi : ∀ j, i ≤ j → j < l.length → 0 ≤ cmpT (l.getD j ByteArray.empty) x
theorem StandsT.there {l : List ByteArray} {x : ByteArray} {i : Nat} (h : StandsT l x i) (hr : RisingT l) : inL x l = decide (i < l.length ∧ cmpT (l.getD i ByteArray.empty) x = 0) := by
  by_cases hc : i < l.length ∧ cmpT (l.getD i ByteArray.empty) x = 0
  · rw [decide_eq_true hc, inL_iff, memT_getD]
    exact ⟨i, hc.1, (cmpT_zero _ _).1 hc.2⟩
  · rw [decide_eq_false hc]
    cases hin : inL x l with
    | false => rfl
    | true =>
      exfalso
      obtain ⟨j, hj, hx⟩ := memT_getD.1 ((inL_iff _ _).1 hin)
      have hz := (cmpT_zero _ _).2 hx
      by_cases h1 : j < i
      · have := h.lo j h1; omega
      · by_cases h2 : j = i
        · exact hc ⟨by omega, by rw [← h2]; exact hz⟩
        · have := hr.mono x (show i < j by omega) hj (by omega)
          have := h.hi i (Nat.le_refl _) (by omega)
          omega
theorem half_bounds {lo hi : Nat} (h : lo < hi) : ∃ m : Nat, (lo : Int) + ((hi : Int) - (lo : Int)) / 2 = (m : Int) ∧ lo ≤ m ∧ m < hi := ⟨lo + (hi - lo) / 2, by omega, by omega, by omega⟩

set_option maxRecDepth 10000 in
set_option maxHeartbeats 1000000 in
theorem searchT_any {w : World} {a : Option Addr} {c : Nat} {l : List ByteArray} (ha : Strs w a l.length l) (hlen : l.length ≤ 1000) (hr : RisingT l) (x : ByteArray) :
    Calls Try.prog 46 #[.slice a l.length c, .string x, .func (.func 47) #[] #[]] w fun e w' => ∃ i : Nat, e = .returned (.tuple #[.int .i64 (i : Int), .bool (inL x l)]) ∧ StandsT l x i ∧ Drew w w' := by
  obtain ⟨n, hn⟩ : ∃ n, l.length = n := ⟨_, rfl⟩
  obtain ⟨t, ht⟩ : ∃ t, inL x l = t := ⟨_, rfl⟩
  rw [ht]
  rw [hn] at ha hlen ⊢
  replace ha := hide ha
  replace hn := hide hn
  replace hr := hide hr
  replace ht := hide ht
  go_enter Try.func46, Try.ntmps46
  go_wp2
  go_loopw [8, 9] (fun p q wr => ∃ lo hi : Nat, lo ≤ hi ∧ hi ≤ n ∧ p = .int .i64 lo ∧ q = .int .i64 hi ∧ Hid ((∀ j, j < lo → cmpT (l.getD j ByteArray.empty) x < 0) ∧ ∀ j, hi ≤ j → j < n → 0 ≤ cmpT (l.getD j ByteArray.empty) x) ∧ Drew w wr) (fun p q _ => (intOf q).toNat - (intOf p).toNat)
  case atStart => exact ⟨0, n, by omega, by omega, rfl, rfl, ⟨fun j hj => absurd hj (by omega), fun j h1 h2 => absurd h1 (by omega)⟩, Drew.refl _⟩
  case round =>
    obtain ⟨lo, hi, h1, h2, rfl, rfl, HO, hst⟩ := hrel
    by_cases hlt : lo < hi
    · have j1 : (lo : Int) < (hi : Int) := by omega
      have j0 : (0 : Int) ≤ (lo : Int) := by omega
      have j3 : (hi : Int) ≤ 1000 := by omega
      obtain ⟨m, hm, hm1, hm2⟩ := half_bounds hlt
      obtain ⟨b1, o1, rfl, d1⟩ := ha.out.2.2.2 m (by omega)
      replace d1 := hst.cell d1
      obtain ⟨y, hy⟩ : ∃ y, l.getD m ByteArray.empty = y := ⟨_, rfl⟩
      rw [hy] at d1
      replace hy := hide hy
      obtain ⟨k, hk⟩ : ∃ k, cmpT y x = k := ⟨_, rfl⟩
      have HC : Hid (∀ W, Calls Try.prog 47 #[.string y, .string x] W fun e w' => e = .returned (.int .i64 k) ∧ w' = W) := fun W => by rw [← hk]; exact compare_any y x W
      replace hk := hide hk
      have hm3 : (m : Int) < (n : Int) := by omega
      have hm4 : m < n := by omega
      by_cases hc : k < 0
      · go_wp2_with fail
        refine (HC.out _).mono ?_
        rintro e w0 ⟨rfl, hw0⟩
        subst w0
        go_wp2
        go_roundw
        case rel =>
          refine ⟨m + 1, hi, by omega, h2, by go_num, rfl, ⟨fun j hj => ?_, HO.out.2⟩, hst⟩
          by_cases hjm : j = m
          · rw [hjm, hy.out, hk.out]; exact hc
          · exact hr.out.mono x (show j < m by omega) (by rw [hn.out]; omega) (by rw [hy.out, hk.out]; omega)
        case measure => simp [intOf]; omega
      · go_wp2_with fail
        refine (HC.out _).mono ?_
        rintro e w0 ⟨rfl, hw0⟩
        subst w0
        go_wp2
        go_roundw
        case rel =>
          refine ⟨lo, m, by omega, by omega, rfl, rfl, ⟨HO.out.1, fun j hj hjn => ?_⟩, hst⟩
          by_cases hjm : j = m
          · rw [hjm, hy.out, hk.out]; omega
          · by_cases h9 : 0 ≤ cmpT (l.getD j ByteArray.empty) x
            · exact h9
            · have := hr.out.mono x (show m < j by omega) (by rw [hn.out]; omega) (by omega)
              rw [hy.out, hk.out] at this; omega
        case measure => simp [intOf]; omega
    · have j1 : ¬ (lo : Int) < (hi : Int) := by omega
      obtain rfl : lo = hi := by omega
      have hS : StandsT l x lo := ⟨by rw [hn.out]; exact h2, HO.out.1, fun j hj hl => HO.out.2 j hj (by rw [hn.out] at hl; exact hl)⟩
      have hin : Hid (t = decide (lo < n ∧ cmpT (l.getD lo ByteArray.empty) x = 0)) := by show _ = _; rw [← ht.out, hS.there hr.out, hn.out]
      replace hS := hide hS
      by_cases hln : lo < n
      · have j2 : (lo : Int) < (n : Int) := by omega
        obtain ⟨b1, o1, rfl, d1⟩ := ha.out.2.2.2 lo hln
        replace d1 := hst.cell d1
        obtain ⟨y, hy⟩ : ∃ y, l.getD lo ByteArray.empty = y := ⟨_, rfl⟩
        rw [hy] at d1
        replace hy := hide hy
        obtain ⟨k, hk⟩ : ∃ k, cmpT y x = k := ⟨_, rfl⟩
        have HC : Hid (∀ W, Calls Try.prog 47 #[.string y, .string x] W fun e w' => e = .returned (.int .i64 k) ∧ w' = W) := fun W => by rw [← hk]; exact compare_any y x W
        replace hk := hide hk
        have hd : decide ((lo : Int) < (n : Int)) = true := decide_eq_true j2
        go_wp2_with fail
        refine (HC.out _).mono ?_
        rintro e w0 ⟨rfl, hw0⟩
        subst w0
        go_wp2
        go_ret2
        refine ⟨lo, ?_, hS.out, hst⟩
        rw [hin.out, hy.out, hk.out]
        simp [hln]
        rw [Bool.eq_iff_iff]; simp
      · have j2 : ¬ (lo : Int) < (n : Int) := by omega
        have hd : decide ((lo : Int) < (n : Int)) = false := decide_eq_false j2
        go_wp2
        go_ret2
        refine ⟨lo, ?_, hS.out, hst⟩
        rw [hin.out, decide_eq_false (fun h => hln h.1)]
        rfl

end Go.Proofs.Ytiepkablapjpmaa
