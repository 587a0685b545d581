/-
  The walk of BankKeeps.
-/
import Derived.Test.YtiepkablapjpmaaBkAmt
import Derived.Test.YtiepkablapjpmaaPlace
namespace Go.Proofs.Ytiepkablapjpmaa
open Go.RowKit

def four : ByteArray := ⟨#[97, 98, 99, 100]⟩
def nm (j : Nat) : ByteArray := four.extract j (j + 1)
def kpM : Nat → BookM
  | 0 => newM 0
  | j + 1 => giveM (openM (kpM j) (nm j)) (nm j) tGold 100
theorem kp_ok : ∀ j, BookOk (kpM j) j
  | 0 => new_ok 0
  | j + 1 => give_ok (open_ok (kp_ok j) (nm j)) (nm j) tGold 100
/-- What is known of the book all the way. -/
structure Keeps (M : BookM) (i : Nat) : Prop where
  ok : BookOk M (4 + 2 * i)
  accs : M.accs = [nm 0, nm 1, nm 2, nm 3]
  sum : amtOf M.funds (nm 0) tGold + amtOf M.funds (nm 1) tGold + amtOf M.funds (nm 2) tGold + amtOf M.funds (nm 3) tGold = 400
  total : totalL M.funds tGold = 400
theorem keeps0 : Keeps (kpM 4) 0 := ⟨kp_ok 4, by kernel_rfl, by kernel_rfl, by kernel_rfl⟩
theorem nm_in {M : BookM} {i : Nat} (h : Keeps M i) {j : Nat} (hj : j < 4) : inL (nm j) M.accs = true := by
  rw [inL_iff, h.accs]
  have : j = 0 ∨ j = 1 ∨ j = 2 ∨ j = 3 := by omega
  rcases this with rfl | rfl | rfl | rfl <;> simp
theorem nm_ne {i j : Nat} (hi : i < 4) (hj : j < 4) (h : nm i = nm j) : i = j := by
  have h1 : ∀ i, i < 4 → ∀ j, j < 4 → nm i = nm j → i = j := by decide +kernel
  exact h1 i hi j hj h
theorem gold_name : nameB tGold = true := by kernel_rfl
theorem Keeps.bal {M : BookM} {i : Nat} (h : Keeps M i) {j : Nat} (hj : j < 4) : balE M (nm j) tGold = 0 ∧ balM M (nm j) tGold = amtOf M.funds (nm j) tGold := by
  have e : balE M (nm j) tGold = 0 := by unfold balE; rw [gold_name, nm_in h hj]; rfl
  exact ⟨e, by unfold balM; rw [e]; rfl⟩
theorem Keeps.take {M : BookM} {i : Nat} (h : Keeps M i) {j : Nat} (hj : j < 4) {n : Int} (hn : 1 ≤ n ∧ n ≤ 1125899906842624) : takeE M (nm j) tGold n = bif decide (amtOf M.funds (nm j) tGold < n) then 6 else 0 := by
  unfold takeE; rw [gold_name, nm_in h hj, amountB_iff.2 hn]; rfl
theorem Keeps.move {M : BookM} {i : Nat} (h : Keeps M i) {j k : Nat} (hj : j < 4) (hk : k < 4) {n : Int} (hn : 1 ≤ n ∧ n ≤ 1125899906842624) : moveE M (nm j) (nm k) tGold n = bif decide (amtOf M.funds (nm j) tGold < n) then 6 else 0 := by
  unfold moveE; rw [h.take hj hn, nm_in h hk]
  cases decide (amtOf M.funds (nm j) tGold < n) <;> rfl
theorem Keeps.next {M : BookM} {i : Nat} (h : Keeps M i) {j k : Nat} (hj : j < 4) (hk : k < 4) {n : Int} : Keeps (moveM M (nm j) (nm k) tGold n) (i + 1) := by
  refine ⟨(move_ok h.ok _ _ _ _).more (by omega), by rw [move_accs]; exact h.accs, ?_, by rw [move_total h.ok]; exact h.total⟩
  by_cases hz : moveE M (nm j) (nm k) tGold n = 0
  · rw [move_amt h.ok hz, move_amt h.ok hz, move_amt h.ok hz, move_amt h.ok hz]
    have hs := h.sum
    have e : ∀ a b : Nat, a < 4 → b < 4 → (if nm a = nm b ∧ tGold = tGold then n else 0) = (if a = b then n else 0) := fun a b ha hb => by
      by_cases h : a = b
      · rw [if_pos ⟨by rw [h], rfl⟩, if_pos h]
      · rw [if_neg (fun h' => h (nm_ne ha hb h'.1)), if_neg h]
    rw [e j 0 hj (by omega), e j 1 hj (by omega), e j 2 hj (by omega), e j 3 hj (by omega), e k 0 hk (by omega), e k 1 hk (by omega), e k 2 hk (by omega), e k 3 hk (by omega)]
    have hj4 : j = 0 ∨ j = 1 ∨ j = 2 ∨ j = 3 := by omega
    have hk4 : k = 0 ∨ k = 1 ∨ k = 2 ∨ k = 3 := by omega
    rcases hj4 with rfl | rfl | rfl | rfl <;> rcases hk4 with rfl | rfl | rfl | rfl <;> simp <;> omega
  · have : moveM M (nm j) (nm k) tGold n = M := by unfold moveM; rw [decide_eq_false hz]; rfl
    rw [this]; exact h.sum

def ps (M : BookM) : Nat → Int
  | 0 => 0
  | j + 1 => ps M j + amtOf M.funds (nm j) tGold
theorem Keeps.ps4 {M : BookM} {i : Nat} (h : Keeps M i) : ps M 4 = 400 := by
  have := h.sum
  show 0 + amtOf M.funds (nm 0) tGold + amtOf M.funds (nm 1) tGold + amtOf M.funds (nm 2) tGold + amtOf M.funds (nm 3) tGold = 400
  omega
theorem Keeps.ps_bounds {M : BookM} {i : Nat} (h : Keeps M i) : ∀ j, j ≤ 4 → 0 ≤ ps M j ∧ ps M j ≤ 400 := by
  intro j hj
  have h4 := h.ps4
  have hb := fun k => (amtOf_bounds h.ok.pos (nm k) tGold).1
  have h0 := hb 0
  have h1 := hb 1
  have h2 := hb 2
  have h3 := hb 3
  have e1 : ps M 1 = 0 + amtOf M.funds (nm 0) tGold := rfl
  have e2 : ps M 2 = ps M 1 + amtOf M.funds (nm 1) tGold := rfl
  have e3 : ps M 3 = ps M 2 + amtOf M.funds (nm 2) tGold := rfl
  have e4 : ps M 4 = ps M 3 + amtOf M.funds (nm 3) tGold := rfl
  have e0 : ps M 0 = 0 := rfl
  have : j = 0 ∨ j = 1 ∨ j = 2 ∨ j = 3 ∨ j = 4 := by omega
  rcases this with rfl | rfl | rfl | rfl | rfl <;> omega

set_option maxRecDepth 10000 in
set_option maxHeartbeats 8000000 in
theorem keeps_any (a : Option Addr) (n c : Nat) (l : List Int) (w : World) (hl : Ints w a n l) : Calls Try.prog 5 #[.slice a n c] w fun e w' => e = .returned (.bool true) ∧ Below w.heap.size w w' := by
  obtain ⟨g, hg⟩ : ∃ g, w.heap.size = g := ⟨_, rfl⟩
  rw [hg]
  have hnm := hl.2.1
  unfold maxLen at hnm
  have HL : Hid (∀ W, Below g w W → Ints W a n l) := fun W hW => hl.below (by rw [hg]; exact hW)
  have HX : ∀ j : Nat, four.extract j (j + 1) = nm j := fun j => rfl
  unfold four at HX
  clear hl
  go_enter Try.func5, Try.ntmps5
  go_wp2_with fail
  refine (new_any 0 _).mono ?_
  rintro e w1 ⟨u1, rfl, hU1, hb1⟩
  rw [hg] at hb1
  obtain ⟨c1, rfl, f1, hU1⟩ := hU1.five
  obtain ⟨p, hp⟩ : ∃ p, w1.heap.size = p := ⟨_, rfl⟩
  have hgp : g ≤ p := by have := hb1.size; omega
  go_upto_region 2 with (first
    | ((with_reducible refine wpList_at ?_); refine wpList_allocG (by rfl) 27 (by rfl) 5 _ zeroBook ?_; rw [hp]; intro w3 hv3 hz3 hb3)
    | ((with_reducible refine wpList_at ?_); refine wpList_wholeG (by rfl) 27 (.tmp 3) (.tmp 18) (by rfl) p bzero c1 (by rfl) (by rfl) hv3 f1.info f1.size f1.one ?_; intro w4 hv4 hz4 hb4))
  have hU4 : BookV w4 (.agg c1) (newM 0) := (hU1.below (by rw [hp]; exact hb3)).but hv3 noText_z hb4
  have hB4 : Below g w w4 := hb1.trans ((hb3.mono hgp).trans (hb4.below hgp (by omega)))
  clear hU1 hv3 hb3 hb4 hb1 hz3 hz4 hp
  go_wp2
  go_loopw [4] (fun i wr => ∃ (j : Nat) (cs : Array Value), j ≤ 4 ∧ i = .int .i64 j ∧ VAt wr 27 p cs ∧ Five cs ∧ BookV wr (.agg cs) (kpM j) ∧ Below g w wr) (fun i _ => 4 - (intOf i).toNat)
  case atStart => exact ⟨0, c1, by omega, rfl, hv4, f1, hU4, hB4⟩
  case round =>
    clear hv4 hU4 hB4 f1
    obtain ⟨j, cs, hj, rfl, hvB, fB, hUB, hBB⟩ := hrel
    by_cases hlt : j < 4
    · have j1 : (j : Int) < 4 := by omega
      have j2 : (0 : Int) ≤ (j : Int) := by omega
      have j3 : (j : Int) + 1 ≤ 4 := by omega
      have j4 : (j : Int) ≤ (j : Int) + 1 := by omega
      have hw1 : IntKind.i64.wrap ((j : Int) + 1) = ((j + 1 : Nat) : Int) := by rw [IntWalk.i64_in _ (by omega)]; omega
      have hXj := HX j
      replace fB := hide fB
      replace hvB := hide hvB
      replace hUB := hide hUB
      replace hBB := hide hBB
      go_upto_region 5 with fail
      replace fB := fB.out
      replace hvB := hvB.out
      replace hUB := hUB.out
      replace hBB := hBB.out
      have hq0 : Below g w wr.drew ∧ VAt wr.drew 27 p cs ∧ BookV wr.drew (.agg cs) (kpM j) := ⟨hBB.trans ⟨rfl, rfl, rfl, Nat.le_refl _, fun _ _ => rfl⟩, hvB, hUB.below ⟨rfl, rfl, rfl, Nat.le_refl _, fun _ _ => rfl⟩⟩
      have hRw : Below wr.heap.size wr wr.drew := ⟨rfl, rfl, rfl, Nat.le_refl _, fun _ _ => rfl⟩
      refine wp_region_held_drew (S := fun W => Below g w W) (by kernel_rfl) (hq0.1) (fun hHeld => ?_)
      refine wpAnyH_take (i := 1) (oi := { dst := some 25, op := Op.move (Operand.tmp 4), type := 3, pos := "law.go:91", after := #[], guard := none }) (v := ?_) rfl (by kernel_rfl) (by kernel_rfl) (by kernel_rfl) (fun _ _ _ h => h) (Or.inl ⟨by rfl, ?_⟩) (by assumption) ?_
      rotate_left
      · intro W hSW; first | (go_simp; done) | (go_simp; with_reducible rfl)
      try simp only [Act.put, List.setIfInBounds_toArray, List.set_cons_zero, List.set_cons_succ]
      refine wpAnyH_take (i := 2) (oi := { dst := some 26, op := Op.move (Operand.tmp 4), type := 3, pos := "law.go:91", after := #[], guard := none }) (v := ?_) rfl (by kernel_rfl) (by kernel_rfl) (by kernel_rfl) (fun _ _ _ h => h) (Or.inl ⟨by rfl, ?_⟩) (by assumption) ?_
      rotate_left
      · intro W hSW; first | (go_simp; done) | (go_simp; with_reducible rfl)
      try simp only [Act.put, List.setIfInBounds_toArray, List.set_cons_zero, List.set_cons_succ]
      refine wpAnyH_take (i := 3) (oi := { dst := some 27, op := Op.binOp BinOp.add 3 (Operand.tmp 26) (Operand.const (Value.int IntKind.i64 1)) 3, type := 3, pos := "law.go:91", after := #[{ on := 2, ground := Ground.data }], guard := none }) (v := ?_) rfl (by kernel_rfl) (by kernel_rfl) (by kernel_rfl) (fun _ _ _ h => h) (Or.inl ⟨by rfl, ?_⟩) (by assumption) ?_
      rotate_left
      · intro W hSW; first | (go_simp; done) | (go_simp; with_reducible rfl)
      try simp only [Act.put, List.setIfInBounds_toArray, List.set_cons_zero, List.set_cons_succ]
      refine wpAnyH_take (i := 4) (oi := { dst := some 28, op := Op.slice 9 (Operand.const (Value.string { data := #[97, 98, 99, 100] })) (some (Operand.tmp 25)) (some (Operand.tmp 27)) none, type := 9, pos := "law.go:91", after := #[{ on := 1, ground := Ground.data }, { on := 3, ground := Ground.data }], guard := none }) (v := .string (nm j)) rfl (by kernel_rfl) (by kernel_rfl) (by kernel_rfl) (fun _ _ _ h => h) (Or.inl ⟨by rfl, ?_⟩) (by assumption) ?_
      · intro W hSW; first | (go_simp; done) | (go_simp; with_reducible rfl)
      try simp only [Act.put, List.setIfInBounds_toArray, List.set_cons_zero, List.set_cons_succ]
      refine wpAnyH_loneE (T := fun u W => u = Value.agg cs ∧ Below g w W ∧ VAt W 27 p cs ∧ BookV W (.agg cs) (kpM j)) (i := 0) (oi := { dst := some 24, op := Op.load 27 (Operand.tmp 3), type := 27, pos := "law.go:91", after := #[], guard := none }) (by kernel_rfl) rfl (fun u W h => h.2.1) ?_ ?_
      · intro K hK
        refine step_loadG (by rfl) 27 (.tmp 3) (by rfl) _ Try.underlying27 p cs (by rfl) hq0.2.1 fB.info ?_
        exact hK.out _ _ ⟨rfl, hq0⟩
      intro ul W9 hql hHeld
      obtain ⟨rfl, hq1⟩ := hql
      clear hq0
      try simp only [Act.put, List.setIfInBounds_toArray, List.set_cons_zero, List.set_cons_succ]
      refine wpAnyH_loneE (T := fun u W => ∃ u1, u = Value.tuple #[u1, .int .i64 (openE (kpM j) (nm j))] ∧ Below g w W ∧ VAt W 27 p cs ∧ BookV W u1 (openM (kpM j) (nm j))) (i := 5) (oi := { dst := some 29, op := Op.call { callee := Callee.value (Operand.func 9), args := #[Operand.tmp 24, Operand.tmp 28], argTypes := #[27, 9] }, type := 30, pos := "law.go:91", after := #[{ on := 0, ground := Ground.data }, { on := 4, ground := Ground.data }], guard := none }) (by kernel_rfl) rfl (fun u W h => h.choose_spec.2.1) ?_ ?_
      · intro K hK
        go_simp
        refine (open_any hq1.2.2 (kp_ok j) (nm j)).mono ?_
        rintro e W2 ⟨u1, rfl, hU1, hb9⟩
        go_wp2_with fail
        exact hK.out _ _ (⟨u1, rfl, hq1.1.trans (hb9.mono (hg ▸ hq1.1.size)), hq1.2.1.on hb9, hU1⟩)
      intro uc W9 hqc hHeld
      clear hq1
      obtain ⟨u1, rfl, hB9, hv9, hU9⟩ := hqc
      obtain ⟨c9, rfl, f9, hU9⟩ := hU9.five
      try simp only [Act.put, List.setIfInBounds_toArray, List.set_cons_zero, List.set_cons_succ]
      refine wpAnyH_take (i := 6) (oi := { dst := some 23, op := Op.move (Operand.tmp 29), type := 30, pos := "law.go:91", after := #[{ on := 5, ground := Ground.data }], guard := none }) (v := ?_) rfl (by kernel_rfl) (by kernel_rfl) (by kernel_rfl) (fun _ _ _ h => h) (Or.inl ⟨by rfl, ?_⟩) (by assumption) ?_
      rotate_left
      · intro W hSW; first | (go_simp; done) | (go_simp; with_reducible rfl)
      try simp only [Act.put, List.setIfInBounds_toArray, List.set_cons_zero, List.set_cons_succ]
      refine wpAnyH_take (i := 7) (oi := { dst := some 30, op := Op.extract (Operand.tmp 23) 0, type := 27, pos := "law.go:91", after := #[{ on := 6, ground := Ground.data }], guard := none }) (v := ?_) rfl (by kernel_rfl) (by kernel_rfl) (by kernel_rfl) (fun _ _ _ h => h) (Or.inl ⟨by rfl, ?_⟩) (by assumption) ?_
      rotate_left
      · intro W hSW; first | (go_simp; done) | (go_simp; with_reducible rfl)
      try simp only [Act.put, List.setIfInBounds_toArray, List.set_cons_zero, List.set_cons_succ]
      refine wpAnyH_take (i := 8) (oi := { dst := some 31, op := Op.extract (Operand.tmp 23) 1, type := 29, pos := "law.go:91", after := #[{ on := 6, ground := Ground.data }, { on := 9, ground := Ground.gcOnly Departure.lateStores }], guard := none }) (v := ?_) rfl (by kernel_rfl) (by kernel_rfl) (by kernel_rfl) (fun _ _ _ h => h) (Or.inl ⟨by rfl, ?_⟩) (by assumption) ?_
      rotate_left
      · intro W hSW; first | (go_simp; done) | (go_simp; with_reducible rfl)
      try simp only [Act.put, List.setIfInBounds_toArray, List.set_cons_zero, List.set_cons_succ]
      refine wpAnyH_loneE (T := fun _ W => Below g w W ∧ VAt W 27 p c9 ∧ BookV W (.agg c9) (openM (kpM j) (nm j))) (i := 9) (oi := { dst := none, op := Op.store 27 (Operand.tmp 3) (Operand.tmp 30), type := 0, pos := "law.go:91", after := #[{ on := 7, ground := Ground.data }, { on := 5, ground := Ground.chain }, { on := 0, ground := Ground.phase }, { on := 1, ground := Ground.phase }, { on := 2, ground := Ground.phase }, { on := 3, ground := Ground.phase }, { on := 4, ground := Ground.phase }, { on := 5, ground := Ground.phase }, { on := 6, ground := Ground.phase }, { on := 7, ground := Ground.phase }, { on := 8, ground := Ground.textOnly Departure.lateStores }], guard := none }) (by kernel_rfl) rfl (fun u W h => h.1) ?_ ?_
      · intro K hK
        refine step_wholeG (by rfl) 27 (.tmp 3) (.tmp 30) (by rfl) p cs c9 (by rfl) (by rfl) hv9 f9.info (by rw [f9.size, fB.size]) f9.one ?_
        intro w8 hv8 hz8 hb8
        exact hK.out undef _ ⟨hB9.trans (hb8.below hgp (hg ▸ hB9.size)), hv8, hU9.but hv9 fB.noText hb8⟩
      intro us W9 hqs hHeld
      clear hB9 hv9 hU9
      obtain ⟨hB9, hv9, hU9⟩ := hqs
      try simp only [Act.put]
      refine wpAnyH_done (by kernel_rfl) ?_ _
      clear hvB hUB hBB fB
      have fB := hide f9
      have hvB := hide hv9
      have hUB := hide hU9
      have hBB := hide hB9
      clear f9 hv9 hU9 hB9 hHeld
      generalize openE (kpM j) (nm j) = eo
      go_upto_region 6 with fail
      replace fB := fB.out
      replace hvB := hvB.out
      replace hUB := hUB.out
      replace hBB := hBB.out
      generalize c9 = cs0 at hvB hUB fB ⊢
      have hq0 : Below g w W9.drew ∧ VAt W9.drew 27 p cs0 ∧ BookV W9.drew (.agg cs0) (openM (kpM j) (nm j)) := ⟨hBB.trans ⟨rfl, rfl, rfl, Nat.le_refl _, fun _ _ => rfl⟩, hvB, hUB.below ⟨rfl, rfl, rfl, Nat.le_refl _, fun _ _ => rfl⟩⟩
      have hRw : Below W9.heap.size W9 W9.drew := ⟨rfl, rfl, rfl, Nat.le_refl _, fun _ _ => rfl⟩
      refine wp_region_held_drew (S := fun W => Below g w W) (by kernel_rfl) (hq0.1) (fun hHeld => ?_)
      refine wpAnyH_take (i := 1) (oi := { dst := some 34, op := Op.move (Operand.tmp 4), type := 3, pos := "law.go:92", after := #[], guard := none }) (v := ?_) rfl (by kernel_rfl) (by kernel_rfl) (by kernel_rfl) (fun _ _ _ h => h) (Or.inl ⟨by rfl, ?_⟩) (by assumption) ?_
      rotate_left
      · intro W hSW; first | (go_simp; done) | (go_simp; with_reducible rfl)
      try simp only [Act.put, List.setIfInBounds_toArray, List.set_cons_zero, List.set_cons_succ]
      refine wpAnyH_take (i := 2) (oi := { dst := some 35, op := Op.move (Operand.tmp 4), type := 3, pos := "law.go:92", after := #[], guard := none }) (v := ?_) rfl (by kernel_rfl) (by kernel_rfl) (by kernel_rfl) (fun _ _ _ h => h) (Or.inl ⟨by rfl, ?_⟩) (by assumption) ?_
      rotate_left
      · intro W hSW; first | (go_simp; done) | (go_simp; with_reducible rfl)
      try simp only [Act.put, List.setIfInBounds_toArray, List.set_cons_zero, List.set_cons_succ]
      refine wpAnyH_take (i := 3) (oi := { dst := some 36, op := Op.binOp BinOp.add 3 (Operand.tmp 35) (Operand.const (Value.int IntKind.i64 1)) 3, type := 3, pos := "law.go:92", after := #[{ on := 2, ground := Ground.data }], guard := none }) (v := ?_) rfl (by kernel_rfl) (by kernel_rfl) (by kernel_rfl) (fun _ _ _ h => h) (Or.inl ⟨by rfl, ?_⟩) (by assumption) ?_
      rotate_left
      · intro W hSW; first | (go_simp; done) | (go_simp; with_reducible rfl)
      try simp only [Act.put, List.setIfInBounds_toArray, List.set_cons_zero, List.set_cons_succ]
      refine wpAnyH_take (i := 4) (oi := { dst := some 37, op := Op.slice 9 (Operand.const (Value.string { data := #[97, 98, 99, 100] })) (some (Operand.tmp 34)) (some (Operand.tmp 36)) none, type := 9, pos := "law.go:92", after := #[{ on := 1, ground := Ground.data }, { on := 3, ground := Ground.data }], guard := none }) (v := .string (nm j)) rfl (by kernel_rfl) (by kernel_rfl) (by kernel_rfl) (fun _ _ _ h => h) (Or.inl ⟨by rfl, ?_⟩) (by assumption) ?_
      · intro W hSW; first | (go_simp; done) | (go_simp; with_reducible rfl)
      try simp only [Act.put, List.setIfInBounds_toArray, List.set_cons_zero, List.set_cons_succ]
      refine wpAnyH_loneE (T := fun u W => u = Value.agg cs0 ∧ Below g w W ∧ VAt W 27 p cs0 ∧ BookV W (.agg cs0) (openM (kpM j) (nm j))) (i := 0) (oi := { dst := some 33, op := Op.load 27 (Operand.tmp 3), type := 27, pos := "law.go:92", after := #[], guard := none }) (by kernel_rfl) rfl (fun u W h => h.2.1) ?_ ?_
      · intro K hK
        refine step_loadG (by rfl) 27 (.tmp 3) (by rfl) _ Try.underlying27 p cs0 (by rfl) hq0.2.1 fB.info ?_
        exact hK.out _ _ ⟨rfl, hq0⟩
      intro ul W9 hql hHeld
      obtain ⟨rfl, hq1⟩ := hql
      clear hq0
      try simp only [Act.put, List.setIfInBounds_toArray, List.set_cons_zero, List.set_cons_succ]
      refine wpAnyH_loneE (T := fun u W => ∃ u1, u = Value.tuple #[u1, .int .i64 (giveE (openM (kpM j) (nm j)) (nm j) tGold 100)] ∧ Below g w W ∧ VAt W 27 p cs0 ∧ BookV W u1 (kpM (j + 1))) (i := 5) (oi := { dst := some 38, op := Op.call { callee := Callee.value (Operand.func 13), args := #[Operand.tmp 33, Operand.tmp 37, Operand.const (Value.string { data := #[103, 111, 108, 100] }), Operand.const (Value.int IntKind.i64 100)], argTypes := #[27, 9, 9, 3] }, type := 30, pos := "law.go:92", after := #[{ on := 0, ground := Ground.data }, { on := 4, ground := Ground.data }], guard := none }) (by kernel_rfl) rfl (fun u W h => h.choose_spec.2.1) ?_ ?_
      · intro K hK
        go_simp
        refine (give_any hq1.2.2 (open_ok (kp_ok j) (nm j)) (by omega) (nm j) tGold 100).mono ?_
        rintro e W2 ⟨u1, rfl, hU1, hb9⟩
        go_wp2_with fail
        exact hK.out _ _ (⟨u1, rfl, hq1.1.trans (hb9.mono (hg ▸ hq1.1.size)), hq1.2.1.on hb9, hU1⟩)
      intro uc W9 hqc hHeld
      clear hq1
      obtain ⟨u1, rfl, hB9, hv9, hU9⟩ := hqc
      obtain ⟨c9, rfl, f9, hU9⟩ := hU9.five
      try simp only [Act.put, List.setIfInBounds_toArray, List.set_cons_zero, List.set_cons_succ]
      refine wpAnyH_take (i := 6) (oi := { dst := some 32, op := Op.move (Operand.tmp 38), type := 30, pos := "law.go:92", after := #[{ on := 5, ground := Ground.data }], guard := none }) (v := ?_) rfl (by kernel_rfl) (by kernel_rfl) (by kernel_rfl) (fun _ _ _ h => h) (Or.inl ⟨by rfl, ?_⟩) (by assumption) ?_
      rotate_left
      · intro W hSW; first | (go_simp; done) | (go_simp; with_reducible rfl)
      try simp only [Act.put, List.setIfInBounds_toArray, List.set_cons_zero, List.set_cons_succ]
      refine wpAnyH_take (i := 7) (oi := { dst := some 39, op := Op.extract (Operand.tmp 32) 0, type := 27, pos := "law.go:92", after := #[{ on := 6, ground := Ground.data }], guard := none }) (v := ?_) rfl (by kernel_rfl) (by kernel_rfl) (by kernel_rfl) (fun _ _ _ h => h) (Or.inl ⟨by rfl, ?_⟩) (by assumption) ?_
      rotate_left
      · intro W hSW; first | (go_simp; done) | (go_simp; with_reducible rfl)
      try simp only [Act.put, List.setIfInBounds_toArray, List.set_cons_zero, List.set_cons_succ]
      refine wpAnyH_take (i := 8) (oi := { dst := some 40, op := Op.extract (Operand.tmp 32) 1, type := 29, pos := "law.go:92", after := #[{ on := 6, ground := Ground.data }, { on := 9, ground := Ground.gcOnly Departure.lateStores }], guard := none }) (v := ?_) rfl (by kernel_rfl) (by kernel_rfl) (by kernel_rfl) (fun _ _ _ h => h) (Or.inl ⟨by rfl, ?_⟩) (by assumption) ?_
      rotate_left
      · intro W hSW; first | (go_simp; done) | (go_simp; with_reducible rfl)
      try simp only [Act.put, List.setIfInBounds_toArray, List.set_cons_zero, List.set_cons_succ]
      refine wpAnyH_loneE (T := fun _ W => Below g w W ∧ VAt W 27 p c9 ∧ BookV W (.agg c9) (kpM (j + 1))) (i := 9) (oi := { dst := none, op := Op.store 27 (Operand.tmp 3) (Operand.tmp 39), type := 0, pos := "law.go:92", after := #[{ on := 7, ground := Ground.data }, { on := 5, ground := Ground.chain }, { on := 0, ground := Ground.phase }, { on := 1, ground := Ground.phase }, { on := 2, ground := Ground.phase }, { on := 3, ground := Ground.phase }, { on := 4, ground := Ground.phase }, { on := 5, ground := Ground.phase }, { on := 6, ground := Ground.phase }, { on := 7, ground := Ground.phase }, { on := 8, ground := Ground.textOnly Departure.lateStores }], guard := none }) (by kernel_rfl) rfl (fun u W h => h.1) ?_ ?_
      · intro K hK
        refine step_wholeG (by rfl) 27 (.tmp 3) (.tmp 39) (by rfl) p cs0 c9 (by rfl) (by rfl) hv9 f9.info (by rw [f9.size, fB.size]) f9.one ?_
        intro w8 hv8 hz8 hb8
        exact hK.out undef _ ⟨hB9.trans (hb8.below hgp (hg ▸ hB9.size)), hv8, hU9.but hv9 fB.noText hb8⟩
      intro us W9 hqs hHeld
      clear hB9 hv9 hU9
      obtain ⟨hB9, hv9, hU9⟩ := hqs
      try simp only [Act.put]
      refine wpAnyH_done (by kernel_rfl) ?_ _
      clear hvB hUB hBB fB hHeld
      go_wp2
      go_roundw
      case rel => exact ⟨j + 1, c9, by omega, by go_num, hv9, f9, hU9, hB9⟩
      case measure => simp [intOf]; omega
    · have hj4 : j = 4 := by omega
      rw [hj4] at hUB
      have j1 : ¬ (j : Int) < 4 := by omega
      replace hj4 := hide hj4
      have HK := hide keeps0
      generalize kpM 4 = M at hUB HK
      go_wp2
      go_loopw [5] (fun i wr => ∃ (j : Nat) (cs : Array Value) (M : BookM), j ≤ n ∧ j ≤ 100 ∧ i = .int .i64 j ∧ VAt wr 27 p cs ∧ Five cs ∧ BookV wr (.agg cs) M ∧ Hid (Keeps M j) ∧ Below g w wr) (fun i _ => n - (intOf i).toNat)
      case atStart => exact ⟨0, cs, M, by omega, by omega, rfl, hvB, fB, hUB, HK, hBB⟩
      case round =>
        clear hvB fB hUB HK hBB hj hlt hj4 j1
        obtain ⟨j0, hj0⟩ : ∃ j0, j0 = j := ⟨_, rfl⟩
        clear hj0
        obtain ⟨j, cs, M, hj, hj100, rfl, hvB, fB, hUB, HK, hBB⟩ := hrel
        have hend : (j < n ∧ j < 100) ∨ ¬ j < n ∨ (j < n ∧ j = 100) := by omega
        rcases hend with ⟨h1, h2⟩ | h1 | ⟨h1, h2⟩
        · have j1 : (j : Int) < (n : Int) := by omega
          have j2 : (j : Int) < 100 := by omega
          have hd : decide ((j : Int) < (n : Int)) = true := decide_eq_true j1
          obtain ⟨b1, o1, rfl, d1⟩ := (HL.out wr hBB).2.2.2 j h1
          obtain ⟨k, hk, HP⟩ := place_ex (l.getD j 0) 1048576 (by decide) (by decide)
          obtain ⟨v, hv⟩ : ∃ v, l.getD j 0 = v := ⟨_, rfl⟩
          rw [hv] at d1 HP
          replace HP := hide HP
          clear hv
          obtain ⟨r1, hr1, hr1'⟩ : ∃ r1 : Nat, (k : Int) % 4 = (r1 : Int) ∧ r1 < 4 := ⟨k % 4, by omega, by omega⟩
          obtain ⟨k4, hk4⟩ : ∃ k4 : Nat, (k : Int) / 4 = (k4 : Int) := ⟨k / 4, by omega⟩
          obtain ⟨r2, hr2, hr2'⟩ : ∃ r2 : Nat, (k4 : Int) % 4 = (r2 : Int) ∧ r2 < 4 := ⟨k4 % 4, by omega, by omega⟩
          obtain ⟨k16, hk16⟩ : ∃ k16 : Nat, (k : Int) / 16 = (k16 : Int) := ⟨k / 16, by omega⟩
          obtain ⟨r3, hr3, hr3'⟩ : ∃ r3 : Nat, (k16 : Int) % 60 = (r3 : Int) ∧ r3 < 60 := ⟨k16 % 60, by omega, by omega⟩
          replace hvB := hide hvB
          replace hUB := hide hUB
          replace hBB := hide hBB
          replace fB := hide fB
          have hX1 := HX r1
          have hX2 := HX r2
          go_wp2_with fail
          refine (HP.out _).mono ?_
          rintro e w0 ⟨rfl, hw0⟩
          subst w0
          go_wp2
          go_quiet (fail)
          have hdr : Below wr.heap.size wr (wr.drewN nq) := below_drewN (Below.refl _ _) nq
          replace hvB := hvB.out.on hdr
          replace hUB := hUB.out.below hdr
          replace hBB := hBB.out.trans (hdr.mono (hg ▸ hBB.out.size))
          replace fB := fB.out
          generalize wr.drewN nq = w3 at hvB hUB hBB ⊢
          clear hdr hX1 hX2 HP hr1 hr2 hr3 hk4 hk16 hk d1 hd j1 j2
          obtain ⟨m, hm⟩ : ∃ m : Int, 1 + (r3 : Int) = m := ⟨_, rfl⟩
          rw [hm]
          have hm1 : 1 ≤ m ∧ m ≤ 1125899906842624 := by omega
          clear hm
          have hb5 := HK.out.bal hr1'
          have hmv := HK.out.move hr1' hr2' hm1
          have hK2 : Hid (Keeps (moveM M (nm r1) (nm r2) tGold m) (j + 1)) := HK.out.next hr1' hr2'
          have HBa := hide (balance_any hUB HK.out.ok (by omega) (nm r1) tGold)
          obtain ⟨x, hx⟩ : ∃ x, amtOf M.funds (nm r1) tGold = x := ⟨_, rfl⟩
          rw [hx] at hb5 hmv
          rw [hb5.1, hb5.2] at HBa
          obtain ⟨E, hE⟩ : ∃ E, moveE M (nm r1) (nm r2) tGold m = E := ⟨_, rfl⟩
          have HMv : Hid (∀ W, BookV W (.agg cs) M → Calls Try.prog 18 #[.agg cs, .string (nm r1), .string (nm r2), .string tGold, .int .i64 m] W fun e w' => ∃ u, e = .returned (.tuple #[u, .int .i64 E]) ∧ BookV w' u (moveM M (nm r1) (nm r2) tGold m) ∧ Below W.heap.size W w') := fun W hW => by
            rw [← hE]; exact move_any hW HK.out.ok (by omega) (nm r1) (nm r2) tGold m
          rw [hE] at hmv
          generalize moveM M (nm r1) (nm r2) tGold m = M2 at hK2 HMv
          generalize nm r1 = y1 at HBa HMv ⊢
          generalize nm r2 = y2 at HMv ⊢
          clear hb5 hx hE hr1' hr2' hr3'
          replace hmv := hide hmv
          unfold tGold at HBa HMv
          have hgw : Hid (w.heap.size = g) := hg
          go_wp2_with ((with_reducible refine wpList_at ?_); refine wpList_loadG (by rfl) 27 (.tmp 3) (by rfl) _ Try.underlying27 p cs (by rfl) hvB fB.info ?_)
          refine HBa.out.mono ?_
          rintro e w4 ⟨rfl, hb4⟩
          have hv4 := hvB.on hb4
          have hU4 := hUB.below hb4
          have hB4 : Below g w w4 := hBB.trans (hb4.mono (hg ▸ hBB.size))
          clear hvB hUB hBB hb4 HBa
          go_wp2_with ((with_reducible refine wpList_at ?_); refine wpList_loadG (by rfl) 27 (.tmp 3) (by rfl) _ Try.underlying27 p cs (by rfl) hv4 fB.info ?_)
          refine (HMv.out _ hU4).mono ?_
          rintro e w5 ⟨u5, rfl, hU5, hb5⟩
          have hv5 := hv4.on hb5
          have hB5 : Below g w w5 := hB4.trans (hb5.mono (hg ▸ hB4.size))
          obtain ⟨c5, rfl, f5, hU5⟩ := hU5.five
          obtain ⟨q, hq⟩ : ∃ q, w5.heap.size = q := ⟨_, rfl⟩
          have hpq : p < q := by rw [← hq]; exact hv5.lt
          clear hv4 hU4 hB4 hb5 HMv
          go_upto_region 14 with (first
            | ((with_reducible refine wpList_at ?_); refine wpList_allocG (by rfl) 27 (by rfl) 5 _ zeroBook ?_; rw [hq]; intro w6 hv6 hz6 hb6)
            | ((with_reducible refine wpList_at ?_); refine wpList_wholeG (by rfl) 27 (.tmp 12) (.tmp 86) (by rfl) q bzero c5 (by rfl) (by rfl) hv6 f5.info f5.size f5.one ?_; intro w7 hv7 hz7 hb7))
          have hU7 : BookV w7 (.agg c5) M2 := (hU5.below (by rw [hq]; exact hb6)).but hv6 noText_z hb7
          have hbt7 : Below q w5 w7 := hb6.trans (hb7.below (Nat.le_refl _) (by omega))
          have hp7 := hv5.below hbt7 hpq
          have hB7 : Below g w w7 := hB5.trans (hbt7.mono (by omega))
          have hs7 : q + 1 ≤ w7.heap.size := by omega
          clear hU5 hv6 hb6 hb7 hbt7 hv5 hB5 hz6 hz7 hq
          have hcase : (E = 6 ∧ decide (m ≤ x) = false) ∨ (E = 0 ∧ decide (m ≤ x) = true) := by
            replace hmv := hmv.out
            by_cases h : x < m
            · rw [decide_eq_true h] at hmv; exact .inl ⟨hmv, decide_eq_false (by omega)⟩
            · rw [decide_eq_false h] at hmv; exact .inr ⟨hmv, decide_eq_true (by omega)⟩
          clear hmv HK
          rcases hcase with ⟨rfl, hc⟩ | ⟨rfl, hc⟩
          all_goals
            go_wp2_with (first
              | ((with_reducible refine wpList_at ?_); refine wpList_loadG (by rfl) 27 (.tmp 12) (by rfl) _ Try.underlying27 q c5 (by rfl) hv7 f5.info ?_)
              | ((with_reducible refine wpList_at ?_); refine wpList_wholeG (by rfl) 27 (.tmp 3) (.tmp 106) (by rfl) p cs c5 (by rfl) (by rfl) hp7 f5.info (by rw [f5.size, fB.size]) f5.one ?_; intro w8 hv8 hz8 hb8))
            have hU8 : BookV w8 (.agg c5) M2 := hU7.but hp7 fB.noText hb8
            have hB8 : Below g w w8 := hB7.trans (hb8.below hgp (by omega))
            have hps := hK2.out.ps_bounds
            clear hU7 hp7 hB7 hs7 hb8 hv7 fB hz8
            go_loopw [14, 15] (fun sm i wr => ∃ jj : Nat, jj ≤ 4 ∧ i = .int .i64 jj ∧ sm = .int .i64 (ps M2 jj) ∧ VAt wr 27 p c5 ∧ BookV wr (.agg c5) M2 ∧ Below g w wr) (fun _ i _ => 4 - (intOf i).toNat)
            case atStart => exact ⟨0, by omega, rfl, rfl, hv8, hU8, hB8⟩
            case round =>
              clear hv8 hU8 hB8
              obtain ⟨jj, hjj, rfl, rfl, hvi, hUi, hBi⟩ := hrel
              have hs0 := hps jj hjj
              by_cases hlt : jj < 4
              · have j1 : (jj : Int) < 4 := by omega
                have j2 : (0 : Int) ≤ (jj : Int) := by omega
                have j3 : (jj : Int) + 1 ≤ 4 := by omega
                have j4 : (jj : Int) ≤ (jj : Int) + 1 := by omega
                have hw1 : IntKind.i64.wrap ((jj : Int) + 1) = ((jj + 1 : Nat) : Int) := by rw [IntWalk.i64_in _ (by omega)]; omega
                have hXj := HX jj
                have hbl := hK2.out.bal hlt
                have hx0 := (amtOf_bounds hK2.out.ok.pos (nm jj) tGold).1
                have hs1 := (hps (jj + 1) (by omega)).2
                have hs2 : Hid (ps M2 (jj + 1) = ps M2 jj + amtOf M2.funds (nm jj) tGold) := rfl
                have HB2 : Hid (∀ W, Below wr.heap.size wr W → Calls Try.prog 11 #[.agg c5, .string (nm jj), .string ⟨#[103, 111, 108, 100]⟩] W fun e w' => e = .returned (.tuple #[.int .i64 (amtOf M2.funds (nm jj) tGold), .int .i64 0]) ∧ Below W.heap.size W w') := fun W hW => by
                  have h := balance_any (hUi.below hW) hK2.out.ok (by omega) (nm jj) tGold
                  rw [hbl.1, hbl.2] at h; exact h
                rw [show ps M2 (jj + 1) = ps M2 jj + amtOf M2.funds (nm jj) tGold from rfl] at hs1
                obtain ⟨x2, hx2⟩ : ∃ x2, amtOf M2.funds (nm jj) tGold = x2 := ⟨_, rfl⟩
                rw [hx2] at HB2 hx0 hs1 hs2
                obtain ⟨s2, hs2'⟩ : ∃ s2, ps M2 jj = s2 := ⟨_, rfl⟩
                rw [hs2'] at hs0 hs1 hs2 ⊢
                clear hbl hx2 hs2'
                replace hUi := hide hUi
                replace hBi := hide hBi
                replace hvi := hide hvi
                go_upto_region 21 with fail
                have hvi := hvi.out
                have hRw : Below wr.heap.size wr wr.drew := ⟨rfl, rfl, rfl, Nat.le_refl _, fun _ _ => rfl⟩
                refine wp_region_held_drew (S := fun W => Below wr.heap.size wr W) (by kernel_rfl) hRw (fun hHeld => ?_)
                refine wpAnyH_take (i := 0) (oi := { dst := some 112, op := Op.load 27 (Operand.tmp 3), type := 27, pos := "law.go:105", after := #[], guard := none }) (v := .agg c5) rfl (by kernel_rfl) (by kernel_rfl) (by kernel_rfl) (fun _ _ _ h => h) (yields_loadG (by rfl) 27 (.tmp 3) (by rfl) _ Try.underlying27 p c5 (by rfl) f5.info (fun W hW => hvi.on hW)) (by assumption) ?_
                try simp only [Act.put, List.setIfInBounds_toArray, List.set_cons_zero, List.set_cons_succ]
                refine wpAnyH_take (i := 1) (oi := { dst := some 113, op := Op.move (Operand.tmp 15), type := 3, pos := "law.go:105", after := #[], guard := none }) (v := ?_) rfl (by kernel_rfl) (by kernel_rfl) (by kernel_rfl) (fun _ _ _ h => h) (Or.inl ⟨by rfl, ?_⟩) (by assumption) ?_
                rotate_left
                · intro W hSW; first | (go_simp; done) | (go_simp; with_reducible rfl)
                try simp only [Act.put, List.setIfInBounds_toArray, List.set_cons_zero, List.set_cons_succ]
                refine wpAnyH_take (i := 2) (oi := { dst := some 114, op := Op.move (Operand.tmp 15), type := 3, pos := "law.go:105", after := #[], guard := none }) (v := ?_) rfl (by kernel_rfl) (by kernel_rfl) (by kernel_rfl) (fun _ _ _ h => h) (Or.inl ⟨by rfl, ?_⟩) (by assumption) ?_
                rotate_left
                · intro W hSW; first | (go_simp; done) | (go_simp; with_reducible rfl)
                try simp only [Act.put, List.setIfInBounds_toArray, List.set_cons_zero, List.set_cons_succ]
                refine wpAnyH_take (i := 3) (oi := { dst := some 115, op := Op.binOp BinOp.add 3 (Operand.tmp 114) (Operand.const (Value.int IntKind.i64 1)) 3, type := 3, pos := "law.go:105", after := #[{ on := 2, ground := Ground.data }], guard := none }) (v := ?_) rfl (by kernel_rfl) (by kernel_rfl) (by kernel_rfl) (fun _ _ _ h => h) (Or.inl ⟨by rfl, ?_⟩) (by assumption) ?_
                rotate_left
                · intro W hSW; first | (go_simp; done) | (go_simp; with_reducible rfl)
                try simp only [Act.put, List.setIfInBounds_toArray, List.set_cons_zero, List.set_cons_succ]
                refine wpAnyH_take (i := 4) (oi := { dst := some 116, op := Op.slice 9 (Operand.const (Value.string { data := #[97, 98, 99, 100] })) (some (Operand.tmp 113)) (some (Operand.tmp 115)) none, type := 9, pos := "law.go:105", after := #[{ on := 1, ground := Ground.data }, { on := 3, ground := Ground.data }], guard := none }) (v := .string (nm jj)) rfl (by kernel_rfl) (by kernel_rfl) (by kernel_rfl) (fun _ _ _ h => h) (Or.inl ⟨by rfl, ?_⟩) (by assumption) ?_
                · intro W hSW; first | (go_simp; done) | (go_simp; with_reducible rfl)
                try simp only [Act.put, List.setIfInBounds_toArray, List.set_cons_zero, List.set_cons_succ]
                refine wpAnyH_lone (R := fun W => Below wr.heap.size wr W) (i := 5) (oi := { dst := some 117, op := Op.call { callee := Callee.value (Operand.func 11), args := #[Operand.tmp 112, Operand.tmp 116, Operand.const (Value.string { data := #[103, 111, 108, 100] })], argTypes := #[27, 9, 9] }, type := 33, pos := "law.go:105", after := #[{ on := 0, ground := Ground.data }, { on := 4, ground := Ground.data }], guard := none }) (vi := .tuple #[.int .i64 x2, .int .i64 0]) (by kernel_rfl) rfl hRw (fun _ h => h) ?_ ?_
                · intro W hW K hK
                  go_simp
                  refine (HB2.out W hW).mono ?_
                  rintro e W2 ⟨rfl, hb⟩
                  go_wp2_with fail
                  exact hK.out _ (below_then hW hb)
                clear hRw hHeld
                intro W9 hRw hHeld
                try simp only [Act.put, List.setIfInBounds_toArray, List.set_cons_zero, List.set_cons_succ]
                refine wpAnyH_take (i := 6) (oi := { dst := some 111, op := Op.move (Operand.tmp 117), type := 33, pos := "law.go:105", after := #[{ on := 5, ground := Ground.data }], guard := none }) (v := ?_) rfl (by kernel_rfl) (by kernel_rfl) (by kernel_rfl) (fun _ _ _ h => h) (Or.inl ⟨by rfl, ?_⟩) (by assumption) ?_
                rotate_left
                · intro W hSW; first | (go_simp; done) | (go_simp; with_reducible rfl)
                try simp only [Act.put, List.setIfInBounds_toArray, List.set_cons_zero, List.set_cons_succ]
                refine wpAnyH_take (i := 7) (oi := { dst := some 118, op := Op.extract (Operand.tmp 111) 0, type := 3, pos := "law.go:105", after := #[{ on := 6, ground := Ground.data }], guard := none }) (v := ?_) rfl (by kernel_rfl) (by kernel_rfl) (by kernel_rfl) (fun _ _ _ h => h) (Or.inl ⟨by rfl, ?_⟩) (by assumption) ?_
                rotate_left
                · intro W hSW; first | (go_simp; done) | (go_simp; with_reducible rfl)
                try simp only [Act.put, List.setIfInBounds_toArray, List.set_cons_zero, List.set_cons_succ]
                refine wpAnyH_take (i := 8) (oi := { dst := some 119, op := Op.extract (Operand.tmp 111) 1, type := 29, pos := "law.go:105", after := #[{ on := 6, ground := Ground.data }, { on := 9, ground := Ground.gcOnly Departure.lateStores }], guard := none }) (v := ?_) rfl (by kernel_rfl) (by kernel_rfl) (by kernel_rfl) (fun _ _ _ h => h) (Or.inl ⟨by rfl, ?_⟩) (by assumption) ?_
                rotate_left
                · intro W hSW; first | (go_simp; done) | (go_simp; with_reducible rfl)
                try simp only [Act.put, List.setIfInBounds_toArray, List.set_cons_zero, List.set_cons_succ]
                refine wpAnyH_take (i := 9) (oi := { dst := some 16, op := Op.assign (Operand.tmp 118), type := 3, pos := "law.go:105", after := #[{ on := 7, ground := Ground.data }, { on := 5, ground := Ground.chain }, { on := 0, ground := Ground.phase }, { on := 1, ground := Ground.phase }, { on := 2, ground := Ground.phase }, { on := 3, ground := Ground.phase }, { on := 4, ground := Ground.phase }, { on := 5, ground := Ground.phase }, { on := 6, ground := Ground.phase }, { on := 7, ground := Ground.phase }, { on := 8, ground := Ground.textOnly Departure.lateStores }], guard := none }) (v := ?_) rfl (by kernel_rfl) (by kernel_rfl) (by kernel_rfl) (fun _ _ _ h => h) (Or.inl ⟨by rfl, ?_⟩) (by assumption) ?_
                rotate_left
                · intro W hSW; first | (go_simp; done) | (go_simp; with_reducible rfl)
                try simp only [Act.put, List.setIfInBounds_toArray, List.set_cons_zero, List.set_cons_succ]
                refine wpAnyH_take (i := 10) (oi := { dst := some 17, op := Op.assign (Operand.tmp 119), type := 29, pos := "law.go:105", after := #[{ on := 8, ground := Ground.data }, { on := 9, ground := Ground.chain }, { on := 0, ground := Ground.phase }, { on := 1, ground := Ground.phase }, { on := 2, ground := Ground.phase }, { on := 3, ground := Ground.phase }, { on := 4, ground := Ground.phase }, { on := 5, ground := Ground.phase }, { on := 6, ground := Ground.phase }, { on := 7, ground := Ground.phase }, { on := 8, ground := Ground.phase }, { on := 9, ground := Ground.phase }], guard := none }) (v := ?_) rfl (by kernel_rfl) (by kernel_rfl) (by kernel_rfl) (fun _ _ _ h => h) (Or.inl ⟨by rfl, ?_⟩) (by assumption) ?_
                rotate_left
                · intro W hSW; first | (go_simp; done) | (go_simp; with_reducible rfl)
                try simp only [Act.put, List.setIfInBounds_toArray, List.set_cons_zero, List.set_cons_succ]
                refine wpAnyH_done (by kernel_rfl) ?_ _
                have hU9 := hUi.out.below hRw
                have hv9 := hvi.on hRw
                have hB9 : Below g w W9 := hBi.out.trans (hRw.mono (hg ▸ hBi.out.size))
                clear hRw hHeld hUi hBi hvi HB2 hXj
                go_wp2
                go_roundw
                case rel => exact ⟨jj + 1, by omega, by go_num, by rw [hs2.out], hv9, hU9, hB9⟩
                case measure => simp [intOf]; omega
              · obtain rfl : jj = 4 := by omega
                have h400 : ps M2 4 = 400 := hK2.out.ps4
                rw [h400]
                have HTo := hide (total_any hUi hK2.out.ok (by omega) tGold)
                rw [hK2.out.total] at HTo
                unfold tGold at HTo
                clear h400 hps hs0
                go_wp2_with ((with_reducible refine wpList_at ?_); refine wpList_loadG (by rfl) 27 (.tmp 3) (by rfl) _ Try.underlying27 p c5 (by rfl) hvi f5.info ?_)
                refine HTo.out.mono ?_
                rintro e w9 ⟨rfl, hb9⟩
                have hv9 := hvi.on hb9
                have hU9 := hUi.below hb9
                have hB9 : Below g w w9 := hBi.trans (hb9.mono (hg ▸ hBi.size))
                clear hvi hUi hBi hb9 HTo
                go_wp2
                go_roundw
                case rel => exact ⟨j + 1, c5, M2, by omega, by omega, by go_num, hv9, f5, hU9, hK2, hB9⟩
                case measure => simp [intOf]; omega
        · have j1 : ¬ (j : Int) < (n : Int) := by omega
          have hd : decide ((j : Int) < (n : Int)) = false := decide_eq_false j1
          go_wp2_with fail
          refine (awake9_any _).mono ?_
          rintro e w4 ⟨rfl, hb4⟩
          have hB4 : Below g w w4 := hBB.trans (hb4.mono (hg ▸ hBB.size))
          go_wp2
          go_ret
          exact ⟨rfl, hB4⟩
        · have j1 : (j : Int) < (n : Int) := by omega
          have hd : decide ((j : Int) < (n : Int)) = true := decide_eq_true j1
          subst h2
          go_wp2_with fail
          refine (awake9_any _).mono ?_
          rintro e w4 ⟨rfl, hb4⟩
          have hB4 : Below g w w4 := hBB.trans (hb4.mono (hg ▸ hBB.size))
          go_wp2
          go_ret
          exact ⟨rfl, hB4⟩

end Go.Proofs.Ytiepkablapjpmaa
