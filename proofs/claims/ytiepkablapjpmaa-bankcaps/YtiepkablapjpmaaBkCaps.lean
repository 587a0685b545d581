/-
  The walk of BankCaps.
-/
import Derived.Test.YtiepkablapjpmaaBkAmt
import Derived.Test.YtiepkablapjpmaaPlace
import Derived.Test.YtiepkablapjpmaaLw2
import Derived.Test.YtiepkablapjpmaaRegC2
namespace Go.Proofs.Ytiepkablapjpmaa
open Go.RowKit

def capM : Nat → BookM
  | 0 => newM 0
  | j + 1 => openM (capM j) (acN j)
theorem cap_ok : ∀ j, BookOk (capM j) 0
  | 0 => new_ok 0
  | j + 1 => open_ok (cap_ok j) (acN j)
def asN (i : Nat) : ByteArray := ⟨#[97, 115, 115, 101, 116]⟩ ++ dg i
def gvM : Nat → BookM
  | 0 => capM 12
  | j + 1 => giveM (gvM j) (acN 0) (asN j) 1
theorem gv_ok : ∀ j, BookOk (gvM j) j
  | 0 => cap_ok 12
  | j + 1 => give_ok (gv_ok j) (acN 0) (asN j) 1
def tOther : ByteArray := ⟨#[111, 116, 104, 101, 114]⟩
def tLong : ByteArray := ⟨#[48, 49, 50, 51, 52, 53, 54, 55, 56, 57, 48, 49, 50, 51, 52, 53, 54]⟩
def tNew : ByteArray := ⟨#[110, 101, 119]⟩
def tAs0 : ByteArray := ⟨#[97, 115, 115, 101, 116, 48]⟩
theorem cap_open : ∀ j, j < 12 → openE (capM j) (acN j) = 0 := by decide +kernel
theorem cap_full : openE (capM 12) tOther = 7 ∧ openE (capM 12) tLong = 1 := by decide +kernel
theorem gv_give : ∀ j, j < 4 → giveE (gvM j) (acN 0) (asN j) 1 = 0 := by decide +kernel
theorem gv_new0 : giveE (gvM 3) (acN 0) tNew 1 = 0 ∧ giveE (gvM 3) (acN 0) tAs0 1 = 0 := by decide +kernel
theorem gv_new1 : giveE (gvM 4) (acN 0) tNew 1 = 7 ∧ giveE (gvM 4) (acN 0) tAs0 1 = 0 := by decide +kernel
def bigM : BookM := giveM (capM 12) (acN 0) tGold 1125899906842623
theorem big_ok : BookOk bigM 1 := give_ok (cap_ok 12) _ _ _
theorem big_facts : giveE (capM 12) (acN 0) tGold 1125899906842623 = 0 ∧ giveE bigM (acN 1) tGold 1 = 0 ∧ giveE bigM (acN 1) tGold 2 = 3 ∧ totalL (giveM bigM (acN 1) tGold 1).funds tGold = 1125899906842624 ∧ totalL (giveM bigM (acN 1) tGold 2).funds tGold = 1125899906842623 := by decide +kernel

set_option maxRecDepth 10000 in
set_option maxHeartbeats 8000000 in
theorem caps_K0_Q0 (how more : Int) (HPm : Hid (∀ W, Calls Try.prog 10 #[.int .i64 more, .int .i64 2] W fun e w' => e = .returned (.int .i64 0) ∧ w' = W)) (HPq : Hid (∀ W, Calls Try.prog 10 #[.int .i64 how, .int .i64 2] W fun e w' => e = .returned (.int .i64 0) ∧ w' = W)) (w : World) : Calls Try.prog 4 #[.int .i64 how, .int .i64 more] w fun e w' => e = .returned (.bool true) ∧ Below w.heap.size w w' := by
  obtain ⟨g, hg⟩ : ∃ g, w.heap.size = g := ⟨_, rfl⟩
  rw [hg]
  have HAc : Hid (∀ n : Nat, n < 100 → ∀ W, Calls Try.prog 15 #[.int .i64 (n : Int)] W fun e w' => e = .returned (.string (acN n)) ∧ Drew W w') := account_any
  have HA0 : Hid (∀ W, Calls Try.prog 15 #[.int .i64 0] W fun e w' => e = .returned (.string (acN 0)) ∧ Drew W w') := HAc.out 0 (by omega)
  have HA1 : Hid (∀ W, Calls Try.prog 15 #[.int .i64 1] W fun e w' => e = .returned (.string (acN 1)) ∧ Drew W w') := HAc.out 1 (by omega)
  go_enter Try.func4, Try.ntmps4
  go_wp2_with fail
  refine (new_any 0 _).mono ?_
  rintro e w1 ⟨u1, rfl, hU1, hb1⟩
  rw [hg] at hb1
  obtain ⟨c1, rfl, f1, hU1⟩ := hU1.five
  obtain ⟨p, hp⟩ : ∃ p, w1.heap.size = p := ⟨_, rfl⟩
  have hgp : g ≤ p := by have := hb1.size; omega
  go_upto_region 2 with (first
    | ((with_reducible refine wpList_at ?_); refine wpList_allocG (by rfl) 27 (by rfl) 5 _ zeroBook ?_; rw [hp]; intro w3 hv3 hz3 hb3)
    | ((with_reducible refine wpList_at ?_); refine wpList_wholeG (by rfl) 27 (.tmp 5) (.tmp 16) (by rfl) p bzero c1 (by rfl) (by rfl) hv3 f1.info f1.size f1.one ?_; intro w4 hv4 hz4 hb4))
  have hU4 : BookV w4 (.agg c1) (newM 0) := (hU1.below (by rw [hp]; exact hb3)).but hv3 noText_z hb4
  have hB4 : Below g w w4 := hb1.trans ((hb3.mono hgp).trans (hb4.below hgp (by omega)))
  clear hU1 hv3 hb3 hb4 hb1 hz3 hz4 hp
  go_wp2_with fail
  refine (HPm.out _).mono ?_
  rintro e w0 ⟨rfl, hw0⟩
  subst w0
  go_wp2_with fail
  go_loopw [7, 8] (fun er i wr => ∃ (j : Nat) (cs : Array Value), j ≤ 12 ∧ i = .int .i64 j ∧ er = .int .i64 0 ∧ VAt wr 27 p cs ∧ Five cs ∧ BookV wr (.agg cs) (capM j) ∧ Below g w wr) (fun _ i _ => 12 - (intOf i).toNat)
  case atStart => exact ⟨0, c1, by omega, rfl, rfl, hv4, f1, hU4, hB4⟩
  case round =>
    clear hv4 hU4 hB4 f1
    obtain ⟨j, cs, hj, rfl, rfl, hvB, fB, hUB, hBB⟩ := hrel
    by_cases hlt : j < 12
    · have j1 : (j : Int) < 12 := by omega
      have j2 : (0 : Int) ≤ (j : Int) := by omega
      replace fB := hide fB
      replace hvB := hide hvB
      replace hUB := hide hUB
      replace hBB := hide hBB
      go_upto_region 7 with fail
      replace fB := fB.out
      replace hvB := hvB.out
      replace hUB := hUB.out
      replace hBB := hBB.out
      have hq0 : Below g w wr.drew ∧ VAt wr.drew 27 p cs ∧ BookV wr.drew (.agg cs) (capM j) := ⟨hBB.trans ⟨rfl, rfl, rfl, Nat.le_refl _, fun _ _ => rfl⟩, hvB, hUB.below ⟨rfl, rfl, rfl, Nat.le_refl _, fun _ _ => rfl⟩⟩
      have hRw : Below wr.heap.size wr wr.drew := ⟨rfl, rfl, rfl, Nat.le_refl _, fun _ _ => rfl⟩
      refine wp_region_held_drew (S := fun W => Below g w W) (by kernel_rfl) (hq0.1) (fun hHeld => ?_)
      refine wpAnyH_take (i := 1) (oi := { dst := some 25, op := Op.move (Operand.tmp 8), type := 3, pos := "outright.go:15", after := #[], guard := none }) (v := ?_) rfl (by kernel_rfl) (by kernel_rfl) (by kernel_rfl) (fun _ _ _ h => h) (Or.inl ⟨by rfl, ?_⟩) (by assumption) ?_
      rotate_left
      · intro W hSW; first | (go_simp; done) | (go_simp; with_reducible rfl)
      try simp only [Act.put, List.setIfInBounds_toArray, List.set_cons_zero, List.set_cons_succ]
      refine wpAnyH_pair (R := fun W => Below g w W ∧ VAt W 27 p cs ∧ BookV W (.agg cs) (capM j)) (i := 0) (j := 2) (oi := { dst := some 24, op := Op.load 27 (Operand.tmp 5), type := 27, pos := "outright.go:15", after := #[], guard := none }) (oj := { dst := some 26, op := Op.call { callee := Callee.value (Operand.func 15), args := #[Operand.tmp 25], argTypes := #[3] }, type := 9, pos := "outright.go:15", after := #[{ on := 1, ground := Ground.data }], guard := none }) (vi := .agg cs) (vj := .string (acN j)) (by kernel_rfl) (by kernel_rfl) (by kernel_rfl) rfl rfl rfl rfl rfl rfl (hq0) (fun W h => h.1) ?_ ?_ ?_ ?_ ?_
      · intro W hW K hK
        refine step_loadG (by rfl) 27 (.tmp 5) (by rfl) _ Try.underlying27 p cs (by rfl) hW.2.1 fB.info ?_
        exact hK.out _ hW
      · intro W hW K hK
        go_simp
        refine (HAc.out j (by omega) W).mono ?_
        rintro e W2 ⟨rfl, hdw⟩
        go_wp2_with fail
        exact hK.out _ ⟨hdw.below hW.1, hW.2.1.on hdw.on, hW.2.2.below hdw.on⟩
      · intro W hW K hK
        go_simp
        refine (HAc.out j (by omega) W).mono ?_
        rintro e W2 ⟨rfl, hdw⟩
        go_wp2_with fail
        exact hK.out _ ⟨hdw.below hW.1, hW.2.1.on hdw.on, hW.2.2.below hdw.on⟩
      · intro W hW K hK
        refine step_loadG (by rfl) 27 (.tmp 5) (by rfl) _ Try.underlying27 p cs (by rfl) hW.2.1 fB.info ?_
        exact hK.out _ hW
      clear hq0
      intro W9 hq1 hHeld
      try simp only [Act.put, List.setIfInBounds_toArray, List.set_cons_zero, List.set_cons_succ]
      refine wpAnyH_loneE (T := fun u W => ∃ u1, u = Value.tuple #[u1, .int .i64 (openE (capM j) (acN j))] ∧ Below g w W ∧ VAt W 27 p cs ∧ BookV W u1 (capM (j + 1))) (i := 3) (oi := { dst := some 27, op := Op.call { callee := Callee.value (Operand.func 9), args := #[Operand.tmp 24, Operand.tmp 26], argTypes := #[27, 9] }, type := 30, pos := "outright.go:15", after := #[{ on := 0, ground := Ground.data }, { on := 2, ground := Ground.data }, { on := 2, ground := Ground.chain }], guard := none }) (by kernel_rfl) rfl (fun u W h => h.choose_spec.2.1) ?_ ?_
      · intro K hK
        go_simp
        refine (open_any hq1.2.2 (cap_ok j) (acN j)).mono ?_
        rintro e W2 ⟨u1, rfl, hU1, hb9⟩
        go_wp2_with fail
        exact hK.out _ _ (⟨u1, rfl, hq1.1.trans (hb9.mono (hg ▸ hq1.1.size)), hq1.2.1.on hb9, hU1⟩)
      intro uc W9 hqc hHeld
      clear hq1
      obtain ⟨u1, rfl, hB9, hv9, hU9⟩ := hqc
      obtain ⟨c9, rfl, f9, hU9⟩ := hU9.five
      try simp only [Act.put, List.setIfInBounds_toArray, List.set_cons_zero, List.set_cons_succ]
      refine wpAnyH_take (i := 4) (oi := { dst := some 23, op := Op.move (Operand.tmp 27), type := 30, pos := "outright.go:15", after := #[{ on := 3, ground := Ground.data }], guard := none }) (v := ?_) rfl (by kernel_rfl) (by kernel_rfl) (by kernel_rfl) (fun _ _ _ h => h) (Or.inl ⟨by rfl, ?_⟩) (by assumption) ?_
      rotate_left
      · intro W hSW; first | (go_simp; done) | (go_simp; with_reducible rfl)
      try simp only [Act.put, List.setIfInBounds_toArray, List.set_cons_zero, List.set_cons_succ]
      refine wpAnyH_take (i := 5) (oi := { dst := some 28, op := Op.extract (Operand.tmp 23) 0, type := 27, pos := "outright.go:15", after := #[{ on := 4, ground := Ground.data }], guard := none }) (v := ?_) rfl (by kernel_rfl) (by kernel_rfl) (by kernel_rfl) (fun _ _ _ h => h) (Or.inl ⟨by rfl, ?_⟩) (by assumption) ?_
      rotate_left
      · intro W hSW; first | (go_simp; done) | (go_simp; with_reducible rfl)
      try simp only [Act.put, List.setIfInBounds_toArray, List.set_cons_zero, List.set_cons_succ]
      refine wpAnyH_take (i := 6) (oi := { dst := some 29, op := Op.extract (Operand.tmp 23) 1, type := 29, pos := "outright.go:15", after := #[{ on := 4, ground := Ground.data }, { on := 7, ground := Ground.gcOnly Departure.lateStores }], guard := none }) (v := ?_) rfl (by kernel_rfl) (by kernel_rfl) (by kernel_rfl) (fun _ _ _ h => h) (Or.inl ⟨by rfl, ?_⟩) (by assumption) ?_
      rotate_left
      · intro W hSW; first | (go_simp; done) | (go_simp; with_reducible rfl)
      try simp only [Act.put, List.setIfInBounds_toArray, List.set_cons_zero, List.set_cons_succ]
      refine wpAnyH_loneE (T := fun _ W => Below g w W ∧ VAt W 27 p c9 ∧ BookV W (.agg c9) (capM (j + 1))) (i := 7) (oi := { dst := none, op := Op.store 27 (Operand.tmp 5) (Operand.tmp 28), type := 0, pos := "outright.go:15", after := #[{ on := 5, ground := Ground.data }, { on := 3, ground := Ground.chain }, { on := 0, ground := Ground.phase }, { on := 1, ground := Ground.phase }, { on := 2, ground := Ground.phase }, { on := 3, ground := Ground.phase }, { on := 4, ground := Ground.phase }, { on := 5, ground := Ground.phase }, { on := 6, ground := Ground.textOnly Departure.lateStores }], guard := none }) (by kernel_rfl) rfl (fun u W h => h.1) ?_ ?_
      · intro K hK
        refine step_wholeG (by rfl) 27 (.tmp 5) (.tmp 28) (by rfl) p cs c9 (by rfl) (by rfl) hv9 f9.info (by rw [f9.size, fB.size]) f9.one ?_
        intro w8 hv8 hz8 hb8
        exact hK.out undef _ ⟨hB9.trans (hb8.below hgp (hg ▸ hB9.size)), hv8, hU9.but hv9 fB.noText hb8⟩
      intro us W9 hqs hHeld
      clear hB9 hv9 hU9
      obtain ⟨hB9, hv9, hU9⟩ := hqs
      try simp only [Act.put]
      refine wpAnyH_take (i := 8) (oi := { dst := some 7, op := Op.assign (Operand.tmp 29), type := 29, pos := "outright.go:15", after := #[{ on := 6, ground := Ground.data }, { on := 7, ground := Ground.chain }, { on := 0, ground := Ground.phase }, { on := 1, ground := Ground.phase }, { on := 2, ground := Ground.phase }, { on := 3, ground := Ground.phase }, { on := 4, ground := Ground.phase }, { on := 5, ground := Ground.phase }, { on := 6, ground := Ground.phase }, { on := 7, ground := Ground.phase }], guard := none }) (v := ?_) rfl (by kernel_rfl) (by kernel_rfl) (by kernel_rfl) (fun _ _ _ h => h) (Or.inl ⟨by rfl, ?_⟩) (by assumption) ?_
      rotate_left
      · intro W hSW; first | (go_simp; done) | (go_simp; with_reducible rfl)
      try simp only [Act.put, List.setIfInBounds_toArray, List.set_cons_zero, List.set_cons_succ]
      refine wpAnyH_done (by kernel_rfl) ?_ _
      clear hvB hUB hBB fB hHeld
      rw [cap_open j hlt]
      go_wp2
      go_roundw
      case rel => exact ⟨j + 1, c9, by omega, by go_num, rfl, hv9, f9, hU9, hB9⟩
      case measure => simp [intOf]; omega
    · have hj12 : j = 12 := by omega
      rw [hj12] at hUB
      have j1 : ¬ (j : Int) < 12 := by omega
      replace hj12 := hide hj12
      have HO1 := hide (fun W (hW : BookV W (.agg cs) (capM 12)) => open_any hW (cap_ok 12) tOther)
      have HO2 := hide (fun W (hW : BookV W (.agg cs) (capM 12)) => open_any hW (cap_ok 12) tLong)
      rw [cap_full.1] at HO1
      rw [cap_full.2] at HO2
      unfold tOther at HO1
      unfold tLong at HO2
      go_wp2_with ((with_reducible refine wpList_at ?_); refine wpList_loadG (by rfl) 27 (.tmp 5) (by rfl) _ Try.underlying27 p cs (by rfl) hvB fB.info ?_)
      refine (HO1.out _ hUB).mono ?_
      rintro e w3 ⟨u3, rfl, hU3, hb3⟩
      obtain ⟨c3, rfl, f3, hU3⟩ := hU3.five
      have hv3 := hvB.on hb3
      have hUx := hUB.below hb3
      have hB3 : Below g w w3 := hBB.trans (hb3.mono (hg ▸ hBB.size))
      obtain ⟨p3, hp3⟩ : ∃ p3, w3.heap.size = p3 := ⟨_, rfl⟩
      have hgp3 : g ≤ p3 := by have := hB3.size; omega
      clear hvB hUB hBB hb3 hU3 HO1
      go_upto_region 11 with (first
        | ((with_reducible refine wpList_at ?_); refine wpList_allocG (by rfl) 27 (by rfl) 5 _ zeroBook ?_; rw [hp3]; intro w5 hv5 hz5 hb5)
        | ((with_reducible refine wpList_at ?_); refine wpList_wholeG (by rfl) 27 (.tmp 9) (.tmp 35) (by rfl) p3 bzero c3 (by rfl) (by rfl) hv5 f3.info f3.size f3.one ?_; intro w6 hv6 hz6 hb6))
      have hbx : Below p3 w3 w6 := hb5.trans (hb6.below (Nat.le_refl _) (by omega))
      have hby : Below w3.heap.size w3 w6 := by rw [hp3]; exact hbx
      have hvB := hv3.on hby
      have hUB := hUx.below hby
      have hBB : Below g w w6 := hB3.trans (hbx.mono hgp3)
      clear hv3 hUx hB3 hv5 hz5 hb5 hv6 hz6 hb6 hbx hby f3 hp3 hgp3
      go_wp2_with ((with_reducible refine wpList_at ?_); refine wpList_loadG (by rfl) 27 (.tmp 5) (by rfl) _ Try.underlying27 p cs (by rfl) hvB fB.info ?_)
      refine (HO2.out _ hUB).mono ?_
      rintro e w3 ⟨u3, rfl, hU3, hb3⟩
      obtain ⟨c3, rfl, f3, hU3⟩ := hU3.five
      have hv3 := hvB.on hb3
      have hUx := hUB.below hb3
      have hB3 : Below g w w3 := hBB.trans (hb3.mono (hg ▸ hBB.size))
      obtain ⟨p3, hp3⟩ : ∃ p3, w3.heap.size = p3 := ⟨_, rfl⟩
      have hgp3 : g ≤ p3 := by have := hB3.size; omega
      clear hvB hUB hBB hb3 hU3 HO2
      go_upto_region 12 with (first
        | ((with_reducible refine wpList_at ?_); refine wpList_allocG (by rfl) 27 (by rfl) 5 _ zeroBook ?_; rw [hp3]; intro w5 hv5 hz5 hb5)
        | ((with_reducible refine wpList_at ?_); refine wpList_wholeG (by rfl) 27 (.tmp 11) (.tmp 40) (by rfl) p3 bzero c3 (by rfl) (by rfl) hv5 f3.info f3.size f3.one ?_; intro w6 hv6 hz6 hb6))
      have hbx : Below p3 w3 w6 := hb5.trans (hb6.below (Nat.le_refl _) (by omega))
      have hby : Below w3.heap.size w3 w6 := by rw [hp3]; exact hbx
      have hvB := hv3.on hby
      have hUB := hUx.below hby
      have hBB : Below g w w6 := hB3.trans (hbx.mono hgp3)
      clear hv3 hUx hB3 hv5 hz5 hb5 hv6 hz6 hb6 hbx hby f3 hp3 hgp3
      go_wp2_with fail
      refine (HA0.out _).mono ?_
      rintro e w3 ⟨rfl, hdw⟩
      replace hvB := hvB.on hdw.on
      replace hUB := hUB.below hdw.on
      have hBB := hdw.below hBB
      clear hdw
      go_wp2_with fail
      refine (HPq.out _).mono ?_
      rintro e w0 ⟨rfl, hw0⟩
      subst w0
      go_wp2_with fail
      go_loopw [7, 14] (fun er i wr => ∃ (j : Nat) (cs : Array Value), j ≤ 3 ∧ i = .int .i64 j ∧ er = .int .i64 0 ∧ VAt wr 27 p cs ∧ Five cs ∧ BookV wr (.agg cs) (gvM j) ∧ Below g w wr) (fun _ i _ => 3 - (intOf i).toNat)
      case atStart => exact ⟨0, cs, by omega, rfl, rfl, hvB, fB, hUB, hBB⟩
      case round =>
        clear hvB fB hUB hBB hj hlt j1
        obtain ⟨j0, hj0⟩ : ∃ j0, j0 = j := ⟨_, rfl⟩
        clear hj0
        obtain ⟨j, cs, hj, rfl, rfl, hvB, fB, hUB, hBB⟩ := hrel
        by_cases hlt : j < 3
        · have j1 : (j : Int) < 3 := by omega
          have j2 : (0 : Int) ≤ (j : Int) := by omega
          have hds := dg_size j (by omega)
          obtain ⟨dj, hdj⟩ : ∃ dj, dg j = dj := ⟨_, rfl⟩
          have HDg : Hid (∀ W, Calls Try.prog 16 #[.int .i64 (j : Int)] W fun e w' => e = .returned (.string dj) ∧ Drew W w') := fun W => by rw [← hdj]; exact digits_any j (by omega) W
          have HGv : Hid (∀ W cs', BookV W (.agg cs') (gvM j) → Calls Try.prog 13 #[.agg cs', .string (acN 0), .string (⟨#[97, 115, 115, 101, 116]⟩ ++ dj), .int .i64 1] W fun e w' => ∃ u, e = .returned (.tuple #[u, .int .i64 (giveE (gvM j) (acN 0) (asN j) 1)]) ∧ BookV w' u (gvM (j + 1)) ∧ Below W.heap.size W w') := fun W cs' hW => by rw [← hdj]; exact give_any hW (gv_ok j) (by omega) (acN 0) (asN j) 1
          rw [hdj] at hds
          have hs' : (ByteArray.size ⟨#[97, 115, 115, 101, 116]⟩ : Int) = 5 := rfl
          have z3 : ¬ 9223372036854775807 < (5 : Int) + (dj.size : Int) := by omega
          have z6 : ¬ 9223372036854775807 < 5 + dj.size := by omega
          have z4 : 5 + dj.size ≤ 9223372036854775807 := by omega
          have z5 : (5 : Int) + (dj.size : Int) ≤ 9223372036854775807 := by omega
          clear hdj hds
          replace fB := hide fB
          replace hvB := hide hvB
          replace hUB := hide hUB
          replace hBB := hide hBB
          go_upto_region 19 with fail
          replace fB := fB.out
          replace hvB := hvB.out
          replace hUB := hUB.out
          replace hBB := hBB.out
          have hq0 : Below g w wr.drew ∧ VAt wr.drew 27 p cs ∧ BookV wr.drew (.agg cs) (gvM j) := ⟨hBB.trans ⟨rfl, rfl, rfl, Nat.le_refl _, fun _ _ => rfl⟩, hvB, hUB.below ⟨rfl, rfl, rfl, Nat.le_refl _, fun _ _ => rfl⟩⟩
          have hRw : Below wr.heap.size wr wr.drew := ⟨rfl, rfl, rfl, Nat.le_refl _, fun _ _ => rfl⟩
          refine wp_region_held_drew (S := fun W => Below g w W) (by kernel_rfl) (hq0.1) (fun hHeld => ?_)
          refine wpAnyH_take (i := 1) (oi := { dst := some 60, op := Op.move (Operand.tmp 13), type := 9, pos := "outright.go:27", after := #[], guard := none }) (v := ?_) rfl (by kernel_rfl) (by kernel_rfl) (by kernel_rfl) (fun _ _ _ h => h) (Or.inl ⟨by rfl, ?_⟩) (by assumption) ?_
          rotate_left
          · intro W hSW; first | (go_simp; done) | (go_simp; with_reducible rfl)
          try simp only [Act.put, List.setIfInBounds_toArray, List.set_cons_zero, List.set_cons_succ]
          refine wpAnyH_take (i := 2) (oi := { dst := some 61, op := Op.move (Operand.tmp 14), type := 3, pos := "outright.go:27", after := #[], guard := none }) (v := ?_) rfl (by kernel_rfl) (by kernel_rfl) (by kernel_rfl) (fun _ _ _ h => h) (Or.inl ⟨by rfl, ?_⟩) (by assumption) ?_
          rotate_left
          · intro W hSW; first | (go_simp; done) | (go_simp; with_reducible rfl)
          try simp only [Act.put, List.setIfInBounds_toArray, List.set_cons_zero, List.set_cons_succ]
          refine wpAnyH_tri (R := fun W => Below g w W ∧ VAt W 27 p cs ∧ BookV W (.agg cs) (gvM j)) (i := 0) (j := 3) (m := 4) (oi := { dst := some 59, op := Op.load 27 (Operand.tmp 5), type := 27, pos := "outright.go:27", after := #[], guard := none }) (oj := { dst := some 62, op := Op.call { callee := Callee.value (Operand.func 16), args := #[Operand.tmp 61], argTypes := #[3] }, type := 9, pos := "outright.go:27", after := #[{ on := 2, ground := Ground.data }], guard := none }) (om := { dst := some 63, op := Op.binOp BinOp.add 9 (Operand.const (Value.string { data := #[97, 115, 115, 101, 116] })) (Operand.tmp 62) 9, type := 9, pos := "outright.go:27", after := #[{ on := 3, ground := Ground.data }], guard := none }) (vi := .agg cs) (vj := .string dj) (vm := .string (⟨#[97, 115, 115, 101, 116]⟩ ++ dj)) (by kernel_rfl) (by kernel_rfl) (by kernel_rfl) (by kernel_rfl) (by kernel_rfl) rfl rfl rfl rfl rfl rfl rfl rfl rfl rfl (hq0) (fun W h => h.1) ?_ ?_ ?_ ?_ ?_ ?_ ?_ ?_
          · intro W hW K hK
            refine step_loadG (by rfl) 27 (.tmp 5) (by rfl) _ Try.underlying27 p cs (by rfl) hW.2.1 fB.info ?_
            exact hK.out _ hW
          · intro W hW K hK
            go_simp
            refine (HDg.out W).mono ?_
            rintro e W2 ⟨rfl, hdw⟩
            go_wp2_with fail
            exact hK.out _ ⟨hdw.below hW.1, hW.2.1.on hdw.on, hW.2.2.below hdw.on⟩
          · intro W hW K hK
            go_simp
            refine (HDg.out W).mono ?_
            rintro e W2 ⟨rfl, hdw⟩
            go_wp2_with fail
            exact hK.out _ ⟨hdw.below hW.1, hW.2.1.on hdw.on, hW.2.2.below hdw.on⟩
          · intro W hW K hK
            refine step_loadG (by rfl) 27 (.tmp 5) (by rfl) _ Try.underlying27 p cs (by rfl) hW.2.1 fB.info ?_
            exact hK.out _ hW
          · intro W hW K hK
            go_simp
            exact hK.out _ hW
          · intro W hW K hK
            go_simp
            exact hK.out _ hW
          · intro W hW K hK
            refine step_loadG (by rfl) 27 (.tmp 5) (by rfl) _ Try.underlying27 p cs (by rfl) hW.2.1 fB.info ?_
            exact hK.out _ hW
          clear hq0
          intro W9 hq1 hHeld
          try simp only [Act.put, List.setIfInBounds_toArray, List.set_cons_zero, List.set_cons_succ]
          refine wpAnyH_loneE (T := fun u W => ∃ u1, u = Value.tuple #[u1, .int .i64 (giveE (gvM j) (acN 0) (asN j) 1)] ∧ Below g w W ∧ VAt W 27 p cs ∧ BookV W u1 (gvM (j + 1))) (i := 5) (oi := { dst := some 64, op := Op.call { callee := Callee.value (Operand.func 13), args := #[Operand.tmp 59, Operand.tmp 60, Operand.tmp 63, Operand.const (Value.int IntKind.i64 1)], argTypes := #[27, 9, 9, 3] }, type := 30, pos := "outright.go:27", after := #[{ on := 0, ground := Ground.data }, { on := 1, ground := Ground.data }, { on := 4, ground := Ground.data }, { on := 3, ground := Ground.chain }], guard := none }) (by kernel_rfl) rfl (fun u W h => h.choose_spec.2.1) ?_ ?_
          · intro K hK
            go_simp
            refine (HGv.out _ _ hq1.2.2).mono ?_
            rintro e W2 ⟨u1, rfl, hU1, hb9⟩
            go_wp2_with fail
            exact hK.out _ _ (⟨u1, rfl, hq1.1.trans (hb9.mono (hg ▸ hq1.1.size)), hq1.2.1.on hb9, hU1⟩)
          intro uc W9 hqc hHeld
          clear hq1
          obtain ⟨u1, rfl, hB9, hv9, hU9⟩ := hqc
          obtain ⟨c9, rfl, f9, hU9⟩ := hU9.five
          try simp only [Act.put, List.setIfInBounds_toArray, List.set_cons_zero, List.set_cons_succ]
          refine wpAnyH_take (i := 6) (oi := { dst := some 58, op := Op.move (Operand.tmp 64), type := 30, pos := "outright.go:27", after := #[{ on := 5, ground := Ground.data }], guard := none }) (v := ?_) rfl (by kernel_rfl) (by kernel_rfl) (by kernel_rfl) (fun _ _ _ h => h) (Or.inl ⟨by rfl, ?_⟩) (by assumption) ?_
          rotate_left
          · intro W hSW; first | (go_simp; done) | (go_simp; with_reducible rfl)
          try simp only [Act.put, List.setIfInBounds_toArray, List.set_cons_zero, List.set_cons_succ]
          refine wpAnyH_take (i := 7) (oi := { dst := some 65, op := Op.extract (Operand.tmp 58) 0, type := 27, pos := "outright.go:27", after := #[{ on := 6, ground := Ground.data }], guard := none }) (v := ?_) rfl (by kernel_rfl) (by kernel_rfl) (by kernel_rfl) (fun _ _ _ h => h) (Or.inl ⟨by rfl, ?_⟩) (by assumption) ?_
          rotate_left
          · intro W hSW; first | (go_simp; done) | (go_simp; with_reducible rfl)
          try simp only [Act.put, List.setIfInBounds_toArray, List.set_cons_zero, List.set_cons_succ]
          refine wpAnyH_take (i := 8) (oi := { dst := some 66, op := Op.extract (Operand.tmp 58) 1, type := 29, pos := "outright.go:27", after := #[{ on := 6, ground := Ground.data }, { on := 9, ground := Ground.gcOnly Departure.lateStores }], guard := none }) (v := ?_) rfl (by kernel_rfl) (by kernel_rfl) (by kernel_rfl) (fun _ _ _ h => h) (Or.inl ⟨by rfl, ?_⟩) (by assumption) ?_
          rotate_left
          · intro W hSW; first | (go_simp; done) | (go_simp; with_reducible rfl)
          try simp only [Act.put, List.setIfInBounds_toArray, List.set_cons_zero, List.set_cons_succ]
          refine wpAnyH_loneE (T := fun _ W => Below g w W ∧ VAt W 27 p c9 ∧ BookV W (.agg c9) (gvM (j + 1))) (i := 9) (oi := { dst := none, op := Op.store 27 (Operand.tmp 5) (Operand.tmp 65), type := 0, pos := "outright.go:27", after := #[{ on := 7, ground := Ground.data }, { on := 5, ground := Ground.chain }, { on := 0, ground := Ground.phase }, { on := 1, ground := Ground.phase }, { on := 2, ground := Ground.phase }, { on := 3, ground := Ground.phase }, { on := 4, ground := Ground.phase }, { on := 5, ground := Ground.phase }, { on := 6, ground := Ground.phase }, { on := 7, ground := Ground.phase }, { on := 8, ground := Ground.textOnly Departure.lateStores }], guard := none }) (by kernel_rfl) rfl (fun u W h => h.1) ?_ ?_
          · intro K hK
            refine step_wholeG (by rfl) 27 (.tmp 5) (.tmp 65) (by rfl) p cs c9 (by rfl) (by rfl) hv9 f9.info (by rw [f9.size, fB.size]) f9.one ?_
            intro w8 hv8 hz8 hb8
            exact hK.out undef _ ⟨hB9.trans (hb8.below hgp (hg ▸ hB9.size)), hv8, hU9.but hv9 fB.noText hb8⟩
          intro us W9 hqs hHeld
          clear hB9 hv9 hU9
          obtain ⟨hB9, hv9, hU9⟩ := hqs
          try simp only [Act.put]
          refine wpAnyH_take (i := 10) (oi := { dst := some 7, op := Op.assign (Operand.tmp 66), type := 29, pos := "outright.go:27", after := #[{ on := 8, ground := Ground.data }, { on := 9, ground := Ground.chain }, { on := 0, ground := Ground.phase }, { on := 1, ground := Ground.phase }, { on := 2, ground := Ground.phase }, { on := 3, ground := Ground.phase }, { on := 4, ground := Ground.phase }, { on := 5, ground := Ground.phase }, { on := 6, ground := Ground.phase }, { on := 7, ground := Ground.phase }, { on := 8, ground := Ground.phase }, { on := 9, ground := Ground.phase }], guard := none }) (v := ?_) rfl (by kernel_rfl) (by kernel_rfl) (by kernel_rfl) (fun _ _ _ h => h) (Or.inl ⟨by rfl, ?_⟩) (by assumption) ?_
          rotate_left
          · intro W hSW; first | (go_simp; done) | (go_simp; with_reducible rfl)
          try simp only [Act.put, List.setIfInBounds_toArray, List.set_cons_zero, List.set_cons_succ]
          refine wpAnyH_done (by kernel_rfl) ?_ _
          clear hvB hUB hBB fB hHeld HDg HGv z3 z4 z5 z6 hs'
          rw [gv_give j (by omega)]
          go_wp2
          go_roundw
          case rel => exact ⟨j + 1, c9, by omega, by go_num, rfl, hv9, f9, hU9, hB9⟩
          case measure => simp [intOf]; omega
        · have hjN : j = 3 := by omega
          rw [hjN] at hUB
          have j1 : ¬ (j : Int) < 3 := by omega
          replace hjN := hide hjN
          have HN1 := hide (fun W (hW : BookV W (.agg cs) (gvM 3)) => give_any hW (gv_ok 3) (by omega) (acN 0) tNew 1)
          have HN2 := hide (fun W (hW : BookV W (.agg cs) (gvM 3)) => give_any hW (gv_ok 3) (by omega) (acN 0) tAs0 1)
          rw [gv_new0.1] at HN1
          rw [gv_new0.2] at HN2
          unfold tNew at HN1
          unfold tAs0 at HN2
          go_wp2_with ((with_reducible refine wpList_at ?_); refine wpList_loadG (by rfl) 27 (.tmp 5) (by rfl) _ Try.underlying27 p cs (by rfl) hvB fB.info ?_)
          refine (HN1.out _ hUB).mono ?_
          rintro e w3 ⟨u3, rfl, hU3, hb3⟩
          replace hvB := hvB.on hb3
          replace hUB := hUB.below hb3
          replace hBB := hBB.trans (hb3.mono (hg ▸ hBB.size))
          clear hU3 hb3 HN1
          go_wp2_with ((with_reducible refine wpList_at ?_); refine wpList_loadG (by rfl) 27 (.tmp 5) (by rfl) _ Try.underlying27 p cs (by rfl) hvB fB.info ?_)
          refine (HN2.out _ hUB).mono ?_
          rintro e w3 ⟨u3, rfl, hU3, hb3⟩
          replace hvB := hvB.on hb3
          replace hUB := hUB.below hb3
          replace hBB := hBB.trans (hb3.mono (hg ▸ hBB.size))
          clear hU3 hb3 HN2
          clear hvB hUB fB
          go_wp2_with fail
          refine (awake9_any _).mono ?_
          rintro e w9 ⟨rfl, hb9⟩
          have hB9 := hide (hBB.trans (hb9.mono (hg ▸ hBB.size)))
          clear hBB hb9
          go_wp2
          go_ret
          exact ⟨rfl, hB9.out⟩
set_option maxRecDepth 10000 in
set_option maxHeartbeats 8000000 in
theorem caps_K0_Q1 (how more : Int) (HPm : Hid (∀ W, Calls Try.prog 10 #[.int .i64 more, .int .i64 2] W fun e w' => e = .returned (.int .i64 0) ∧ w' = W)) (HPq : Hid (∀ W, Calls Try.prog 10 #[.int .i64 how, .int .i64 2] W fun e w' => e = .returned (.int .i64 1) ∧ w' = W)) (w : World) : Calls Try.prog 4 #[.int .i64 how, .int .i64 more] w fun e w' => e = .returned (.bool true) ∧ Below w.heap.size w w' := by
  obtain ⟨g, hg⟩ : ∃ g, w.heap.size = g := ⟨_, rfl⟩
  rw [hg]
  have HAc : Hid (∀ n : Nat, n < 100 → ∀ W, Calls Try.prog 15 #[.int .i64 (n : Int)] W fun e w' => e = .returned (.string (acN n)) ∧ Drew W w') := account_any
  have HA0 : Hid (∀ W, Calls Try.prog 15 #[.int .i64 0] W fun e w' => e = .returned (.string (acN 0)) ∧ Drew W w') := HAc.out 0 (by omega)
  have HA1 : Hid (∀ W, Calls Try.prog 15 #[.int .i64 1] W fun e w' => e = .returned (.string (acN 1)) ∧ Drew W w') := HAc.out 1 (by omega)
  go_enter Try.func4, Try.ntmps4
  go_wp2_with fail
  refine (new_any 0 _).mono ?_
  rintro e w1 ⟨u1, rfl, hU1, hb1⟩
  rw [hg] at hb1
  obtain ⟨c1, rfl, f1, hU1⟩ := hU1.five
  obtain ⟨p, hp⟩ : ∃ p, w1.heap.size = p := ⟨_, rfl⟩
  have hgp : g ≤ p := by have := hb1.size; omega
  go_upto_region 2 with (first
    | ((with_reducible refine wpList_at ?_); refine wpList_allocG (by rfl) 27 (by rfl) 5 _ zeroBook ?_; rw [hp]; intro w3 hv3 hz3 hb3)
    | ((with_reducible refine wpList_at ?_); refine wpList_wholeG (by rfl) 27 (.tmp 5) (.tmp 16) (by rfl) p bzero c1 (by rfl) (by rfl) hv3 f1.info f1.size f1.one ?_; intro w4 hv4 hz4 hb4))
  have hU4 : BookV w4 (.agg c1) (newM 0) := (hU1.below (by rw [hp]; exact hb3)).but hv3 noText_z hb4
  have hB4 : Below g w w4 := hb1.trans ((hb3.mono hgp).trans (hb4.below hgp (by omega)))
  clear hU1 hv3 hb3 hb4 hb1 hz3 hz4 hp
  go_wp2_with fail
  refine (HPm.out _).mono ?_
  rintro e w0 ⟨rfl, hw0⟩
  subst w0
  go_wp2_with fail
  go_loopw [7, 8] (fun er i wr => ∃ (j : Nat) (cs : Array Value), j ≤ 12 ∧ i = .int .i64 j ∧ er = .int .i64 0 ∧ VAt wr 27 p cs ∧ Five cs ∧ BookV wr (.agg cs) (capM j) ∧ Below g w wr) (fun _ i _ => 12 - (intOf i).toNat)
  case atStart => exact ⟨0, c1, by omega, rfl, rfl, hv4, f1, hU4, hB4⟩
  case round =>
    clear hv4 hU4 hB4 f1
    obtain ⟨j, cs, hj, rfl, rfl, hvB, fB, hUB, hBB⟩ := hrel
    by_cases hlt : j < 12
    · have j1 : (j : Int) < 12 := by omega
      have j2 : (0 : Int) ≤ (j : Int) := by omega
      replace fB := hide fB
      replace hvB := hide hvB
      replace hUB := hide hUB
      replace hBB := hide hBB
      go_upto_region 7 with fail
      replace fB := fB.out
      replace hvB := hvB.out
      replace hUB := hUB.out
      replace hBB := hBB.out
      have hq0 : Below g w wr.drew ∧ VAt wr.drew 27 p cs ∧ BookV wr.drew (.agg cs) (capM j) := ⟨hBB.trans ⟨rfl, rfl, rfl, Nat.le_refl _, fun _ _ => rfl⟩, hvB, hUB.below ⟨rfl, rfl, rfl, Nat.le_refl _, fun _ _ => rfl⟩⟩
      have hRw : Below wr.heap.size wr wr.drew := ⟨rfl, rfl, rfl, Nat.le_refl _, fun _ _ => rfl⟩
      refine wp_region_held_drew (S := fun W => Below g w W) (by kernel_rfl) (hq0.1) (fun hHeld => ?_)
      refine wpAnyH_take (i := 1) (oi := { dst := some 25, op := Op.move (Operand.tmp 8), type := 3, pos := "outright.go:15", after := #[], guard := none }) (v := ?_) rfl (by kernel_rfl) (by kernel_rfl) (by kernel_rfl) (fun _ _ _ h => h) (Or.inl ⟨by rfl, ?_⟩) (by assumption) ?_
      rotate_left
      · intro W hSW; first | (go_simp; done) | (go_simp; with_reducible rfl)
      try simp only [Act.put, List.setIfInBounds_toArray, List.set_cons_zero, List.set_cons_succ]
      refine wpAnyH_pair (R := fun W => Below g w W ∧ VAt W 27 p cs ∧ BookV W (.agg cs) (capM j)) (i := 0) (j := 2) (oi := { dst := some 24, op := Op.load 27 (Operand.tmp 5), type := 27, pos := "outright.go:15", after := #[], guard := none }) (oj := { dst := some 26, op := Op.call { callee := Callee.value (Operand.func 15), args := #[Operand.tmp 25], argTypes := #[3] }, type := 9, pos := "outright.go:15", after := #[{ on := 1, ground := Ground.data }], guard := none }) (vi := .agg cs) (vj := .string (acN j)) (by kernel_rfl) (by kernel_rfl) (by kernel_rfl) rfl rfl rfl rfl rfl rfl (hq0) (fun W h => h.1) ?_ ?_ ?_ ?_ ?_
      · intro W hW K hK
        refine step_loadG (by rfl) 27 (.tmp 5) (by rfl) _ Try.underlying27 p cs (by rfl) hW.2.1 fB.info ?_
        exact hK.out _ hW
      · intro W hW K hK
        go_simp
        refine (HAc.out j (by omega) W).mono ?_
        rintro e W2 ⟨rfl, hdw⟩
        go_wp2_with fail
        exact hK.out _ ⟨hdw.below hW.1, hW.2.1.on hdw.on, hW.2.2.below hdw.on⟩
      · intro W hW K hK
        go_simp
        refine (HAc.out j (by omega) W).mono ?_
        rintro e W2 ⟨rfl, hdw⟩
        go_wp2_with fail
        exact hK.out _ ⟨hdw.below hW.1, hW.2.1.on hdw.on, hW.2.2.below hdw.on⟩
      · intro W hW K hK
        refine step_loadG (by rfl) 27 (.tmp 5) (by rfl) _ Try.underlying27 p cs (by rfl) hW.2.1 fB.info ?_
        exact hK.out _ hW
      clear hq0
      intro W9 hq1 hHeld
      try simp only [Act.put, List.setIfInBounds_toArray, List.set_cons_zero, List.set_cons_succ]
      refine wpAnyH_loneE (T := fun u W => ∃ u1, u = Value.tuple #[u1, .int .i64 (openE (capM j) (acN j))] ∧ Below g w W ∧ VAt W 27 p cs ∧ BookV W u1 (capM (j + 1))) (i := 3) (oi := { dst := some 27, op := Op.call { callee := Callee.value (Operand.func 9), args := #[Operand.tmp 24, Operand.tmp 26], argTypes := #[27, 9] }, type := 30, pos := "outright.go:15", after := #[{ on := 0, ground := Ground.data }, { on := 2, ground := Ground.data }, { on := 2, ground := Ground.chain }], guard := none }) (by kernel_rfl) rfl (fun u W h => h.choose_spec.2.1) ?_ ?_
      · intro K hK
        go_simp
        refine (open_any hq1.2.2 (cap_ok j) (acN j)).mono ?_
        rintro e W2 ⟨u1, rfl, hU1, hb9⟩
        go_wp2_with fail
        exact hK.out _ _ (⟨u1, rfl, hq1.1.trans (hb9.mono (hg ▸ hq1.1.size)), hq1.2.1.on hb9, hU1⟩)
      intro uc W9 hqc hHeld
      clear hq1
      obtain ⟨u1, rfl, hB9, hv9, hU9⟩ := hqc
      obtain ⟨c9, rfl, f9, hU9⟩ := hU9.five
      try simp only [Act.put, List.setIfInBounds_toArray, List.set_cons_zero, List.set_cons_succ]
      refine wpAnyH_take (i := 4) (oi := { dst := some 23, op := Op.move (Operand.tmp 27), type := 30, pos := "outright.go:15", after := #[{ on := 3, ground := Ground.data }], guard := none }) (v := ?_) rfl (by kernel_rfl) (by kernel_rfl) (by kernel_rfl) (fun _ _ _ h => h) (Or.inl ⟨by rfl, ?_⟩) (by assumption) ?_
      rotate_left
      · intro W hSW; first | (go_simp; done) | (go_simp; with_reducible rfl)
      try simp only [Act.put, List.setIfInBounds_toArray, List.set_cons_zero, List.set_cons_succ]
      refine wpAnyH_take (i := 5) (oi := { dst := some 28, op := Op.extract (Operand.tmp 23) 0, type := 27, pos := "outright.go:15", after := #[{ on := 4, ground := Ground.data }], guard := none }) (v := ?_) rfl (by kernel_rfl) (by kernel_rfl) (by kernel_rfl) (fun _ _ _ h => h) (Or.inl ⟨by rfl, ?_⟩) (by assumption) ?_
      rotate_left
      · intro W hSW; first | (go_simp; done) | (go_simp; with_reducible rfl)
      try simp only [Act.put, List.setIfInBounds_toArray, List.set_cons_zero, List.set_cons_succ]
      refine wpAnyH_take (i := 6) (oi := { dst := some 29, op := Op.extract (Operand.tmp 23) 1, type := 29, pos := "outright.go:15", after := #[{ on := 4, ground := Ground.data }, { on := 7, ground := Ground.gcOnly Departure.lateStores }], guard := none }) (v := ?_) rfl (by kernel_rfl) (by kernel_rfl) (by kernel_rfl) (fun _ _ _ h => h) (Or.inl ⟨by rfl, ?_⟩) (by assumption) ?_
      rotate_left
      · intro W hSW; first | (go_simp; done) | (go_simp; with_reducible rfl)
      try simp only [Act.put, List.setIfInBounds_toArray, List.set_cons_zero, List.set_cons_succ]
      refine wpAnyH_loneE (T := fun _ W => Below g w W ∧ VAt W 27 p c9 ∧ BookV W (.agg c9) (capM (j + 1))) (i := 7) (oi := { dst := none, op := Op.store 27 (Operand.tmp 5) (Operand.tmp 28), type := 0, pos := "outright.go:15", after := #[{ on := 5, ground := Ground.data }, { on := 3, ground := Ground.chain }, { on := 0, ground := Ground.phase }, { on := 1, ground := Ground.phase }, { on := 2, ground := Ground.phase }, { on := 3, ground := Ground.phase }, { on := 4, ground := Ground.phase }, { on := 5, ground := Ground.phase }, { on := 6, ground := Ground.textOnly Departure.lateStores }], guard := none }) (by kernel_rfl) rfl (fun u W h => h.1) ?_ ?_
      · intro K hK
        refine step_wholeG (by rfl) 27 (.tmp 5) (.tmp 28) (by rfl) p cs c9 (by rfl) (by rfl) hv9 f9.info (by rw [f9.size, fB.size]) f9.one ?_
        intro w8 hv8 hz8 hb8
        exact hK.out undef _ ⟨hB9.trans (hb8.below hgp (hg ▸ hB9.size)), hv8, hU9.but hv9 fB.noText hb8⟩
      intro us W9 hqs hHeld
      clear hB9 hv9 hU9
      obtain ⟨hB9, hv9, hU9⟩ := hqs
      try simp only [Act.put]
      refine wpAnyH_take (i := 8) (oi := { dst := some 7, op := Op.assign (Operand.tmp 29), type := 29, pos := "outright.go:15", after := #[{ on := 6, ground := Ground.data }, { on := 7, ground := Ground.chain }, { on := 0, ground := Ground.phase }, { on := 1, ground := Ground.phase }, { on := 2, ground := Ground.phase }, { on := 3, ground := Ground.phase }, { on := 4, ground := Ground.phase }, { on := 5, ground := Ground.phase }, { on := 6, ground := Ground.phase }, { on := 7, ground := Ground.phase }], guard := none }) (v := ?_) rfl (by kernel_rfl) (by kernel_rfl) (by kernel_rfl) (fun _ _ _ h => h) (Or.inl ⟨by rfl, ?_⟩) (by assumption) ?_
      rotate_left
      · intro W hSW; first | (go_simp; done) | (go_simp; with_reducible rfl)
      try simp only [Act.put, List.setIfInBounds_toArray, List.set_cons_zero, List.set_cons_succ]
      refine wpAnyH_done (by kernel_rfl) ?_ _
      clear hvB hUB hBB fB hHeld
      rw [cap_open j hlt]
      go_wp2
      go_roundw
      case rel => exact ⟨j + 1, c9, by omega, by go_num, rfl, hv9, f9, hU9, hB9⟩
      case measure => simp [intOf]; omega
    · have hj12 : j = 12 := by omega
      rw [hj12] at hUB
      have j1 : ¬ (j : Int) < 12 := by omega
      replace hj12 := hide hj12
      have HO1 := hide (fun W (hW : BookV W (.agg cs) (capM 12)) => open_any hW (cap_ok 12) tOther)
      have HO2 := hide (fun W (hW : BookV W (.agg cs) (capM 12)) => open_any hW (cap_ok 12) tLong)
      rw [cap_full.1] at HO1
      rw [cap_full.2] at HO2
      unfold tOther at HO1
      unfold tLong at HO2
      go_wp2_with ((with_reducible refine wpList_at ?_); refine wpList_loadG (by rfl) 27 (.tmp 5) (by rfl) _ Try.underlying27 p cs (by rfl) hvB fB.info ?_)
      refine (HO1.out _ hUB).mono ?_
      rintro e w3 ⟨u3, rfl, hU3, hb3⟩
      obtain ⟨c3, rfl, f3, hU3⟩ := hU3.five
      have hv3 := hvB.on hb3
      have hUx := hUB.below hb3
      have hB3 : Below g w w3 := hBB.trans (hb3.mono (hg ▸ hBB.size))
      obtain ⟨p3, hp3⟩ : ∃ p3, w3.heap.size = p3 := ⟨_, rfl⟩
      have hgp3 : g ≤ p3 := by have := hB3.size; omega
      clear hvB hUB hBB hb3 hU3 HO1
      go_upto_region 11 with (first
        | ((with_reducible refine wpList_at ?_); refine wpList_allocG (by rfl) 27 (by rfl) 5 _ zeroBook ?_; rw [hp3]; intro w5 hv5 hz5 hb5)
        | ((with_reducible refine wpList_at ?_); refine wpList_wholeG (by rfl) 27 (.tmp 9) (.tmp 35) (by rfl) p3 bzero c3 (by rfl) (by rfl) hv5 f3.info f3.size f3.one ?_; intro w6 hv6 hz6 hb6))
      have hbx : Below p3 w3 w6 := hb5.trans (hb6.below (Nat.le_refl _) (by omega))
      have hby : Below w3.heap.size w3 w6 := by rw [hp3]; exact hbx
      have hvB := hv3.on hby
      have hUB := hUx.below hby
      have hBB : Below g w w6 := hB3.trans (hbx.mono hgp3)
      clear hv3 hUx hB3 hv5 hz5 hb5 hv6 hz6 hb6 hbx hby f3 hp3 hgp3
      go_wp2_with ((with_reducible refine wpList_at ?_); refine wpList_loadG (by rfl) 27 (.tmp 5) (by rfl) _ Try.underlying27 p cs (by rfl) hvB fB.info ?_)
      refine (HO2.out _ hUB).mono ?_
      rintro e w3 ⟨u3, rfl, hU3, hb3⟩
      obtain ⟨c3, rfl, f3, hU3⟩ := hU3.five
      have hv3 := hvB.on hb3
      have hUx := hUB.below hb3
      have hB3 : Below g w w3 := hBB.trans (hb3.mono (hg ▸ hBB.size))
      obtain ⟨p3, hp3⟩ : ∃ p3, w3.heap.size = p3 := ⟨_, rfl⟩
      have hgp3 : g ≤ p3 := by have := hB3.size; omega
      clear hvB hUB hBB hb3 hU3 HO2
      go_upto_region 12 with (first
        | ((with_reducible refine wpList_at ?_); refine wpList_allocG (by rfl) 27 (by rfl) 5 _ zeroBook ?_; rw [hp3]; intro w5 hv5 hz5 hb5)
        | ((with_reducible refine wpList_at ?_); refine wpList_wholeG (by rfl) 27 (.tmp 11) (.tmp 40) (by rfl) p3 bzero c3 (by rfl) (by rfl) hv5 f3.info f3.size f3.one ?_; intro w6 hv6 hz6 hb6))
      have hbx : Below p3 w3 w6 := hb5.trans (hb6.below (Nat.le_refl _) (by omega))
      have hby : Below w3.heap.size w3 w6 := by rw [hp3]; exact hbx
      have hvB := hv3.on hby
      have hUB := hUx.below hby
      have hBB : Below g w w6 := hB3.trans (hbx.mono hgp3)
      clear hv3 hUx hB3 hv5 hz5 hb5 hv6 hz6 hb6 hbx hby f3 hp3 hgp3
      go_wp2_with fail
      refine (HA0.out _).mono ?_
      rintro e w3 ⟨rfl, hdw⟩
      replace hvB := hvB.on hdw.on
      replace hUB := hUB.below hdw.on
      have hBB := hdw.below hBB
      clear hdw
      go_wp2_with fail
      refine (HPq.out _).mono ?_
      rintro e w0 ⟨rfl, hw0⟩
      subst w0
      have HG1 := hide (fun W (hW : BookV W (.agg cs) (capM 12)) => give_any hW (cap_ok 12) (by omega) (acN 0) tGold 1125899906842623)
      rw [big_facts.1] at HG1
      have HG2 := hide (fun c5 W (hW : BookV W (.agg c5) bigM) => give_any hW big_ok (by omega) (acN 1) tGold 1)
      rw [big_facts.2.1] at HG2
      have HTo := hide (fun c9 W (hW : BookV W (.agg c9) (giveM bigM (acN 1) tGold 1)) => total_any hW (give_ok big_ok (acN 1) tGold 1) (by omega) tGold)
      rw [big_facts.2.2.2.1] at HTo
      have HG1' : Hid (∀ W, BookV W (.agg cs) (capM 12) → Calls Try.prog 13 #[.agg cs, .string (acN 0), .string ⟨#[103, 111, 108, 100]⟩, .int .i64 1125899906842623] W fun e w' => ∃ u, e = .returned (.tuple #[u, .int .i64 0]) ∧ BookV w' u bigM ∧ Below W.heap.size W w') := HG1
      have HG2' : Hid (∀ c5 W, BookV W (.agg c5) bigM → Calls Try.prog 13 #[.agg c5, .string (acN 1), .string ⟨#[103, 111, 108, 100]⟩, .int .i64 1] W fun e w' => ∃ u, e = .returned (.tuple #[u, .int .i64 0]) ∧ BookV w' u (giveM bigM (acN 1) tGold 1) ∧ Below W.heap.size W w') := HG2
      have HTo' : Hid (∀ c9 W, BookV W (.agg c9) (giveM bigM (acN 1) tGold 1) → Calls Try.prog 17 #[.agg c9, .string ⟨#[103, 111, 108, 100]⟩] W fun e w' => e = .returned (.int .i64 1125899906842624) ∧ Below W.heap.size W w') := HTo
      clear HG1 HG2 HTo
      go_wp2_with ((with_reducible refine wpList_at ?_); refine wpList_loadG (by rfl) 27 (.tmp 5) (by rfl) _ Try.underlying27 p cs (by rfl) hvB fB.info ?_)
      refine (HG1'.out _ hUB).mono ?_
      rintro e w3 ⟨u3, rfl, hU3, hb3⟩
      have hv3 := hvB.on hb3
      have hB3 : Below g w w3 := hBB.trans (hb3.mono (hg ▸ hBB.size))
      obtain ⟨c5, rfl, f5, hU3⟩ := hU3.five
      clear hvB hUB hBB hb3 HG1'
      go_upto_region 26 with ((with_reducible refine wpList_at ?_); refine wpList_wholeG (by rfl) 27 (.tmp 5) (.tmp 105) (by rfl) p cs c5 (by rfl) (by rfl) hv3 f5.info (by rw [f5.size, fB.size]) f5.one ?_; intro w5 hv5 hz5 hb5)
      have hU5 : BookV w5 (.agg c5) bigM := hU3.but hv3 fB.noText hb5
      have hB5 : Below g w w5 := hB3.trans (hb5.below hgp (hg ▸ hB3.size))
      clear hU3 hv3 hB3 hb5 hz5 fB
      have HG2 := hide (HG2'.out c5)
      clear HG2'
      have hRw : Below w5.heap.size w5 w5.drew := ⟨rfl, rfl, rfl, Nat.le_refl _, fun _ _ => rfl⟩
      refine wp_region_held_drew (S := fun W => Below w5.heap.size w5 W) (by kernel_rfl) hRw (fun hHeld => ?_)
      refine wpAnyH_take (i := 0) (oi := { dst := some 108, op := Op.load 27 (Operand.tmp 5), type := 27, pos := "outright.go:36", after := #[], guard := none }) (v := .agg c5) rfl (by kernel_rfl) (by kernel_rfl) (by kernel_rfl) (fun _ _ _ h => h) (yields_loadG (by rfl) 27 (.tmp 5) (by rfl) _ Try.underlying27 p c5 (by rfl) f5.info (fun W hW => hv5.on hW)) (by assumption) ?_
      try simp only [Act.put, List.setIfInBounds_toArray, List.set_cons_zero, List.set_cons_succ]
      refine wpAnyH_take (i := 2) (oi := { dst := some 110, op := Op.move (Operand.tmp 6), type := 3, pos := "outright.go:36", after := #[], guard := none }) (v := .int .i64 0) rfl (by kernel_rfl) (by kernel_rfl) (by kernel_rfl) (fun _ _ _ h => h) (Or.inl ⟨by rfl, ?_⟩) (by assumption) ?_
      · intro W hSW; first | (go_simp; done) | (go_simp; with_reducible rfl) | (go_simp; rfl)
      try simp only [Act.put, List.setIfInBounds_toArray, List.set_cons_zero, List.set_cons_succ]
      refine wpAnyH_take (i := 3) (oi := { dst := some 111, op := Op.binOp BinOp.add 3 (Operand.const (Value.int IntKind.i64 1)) (Operand.tmp 110) 3, type := 3, pos := "outright.go:36", after := #[{ on := 2, ground := Ground.data }], guard := none }) (v := .int .i64 1) rfl (by kernel_rfl) (by kernel_rfl) (by kernel_rfl) (fun _ _ _ h => h) (Or.inl ⟨by rfl, ?_⟩) (by assumption) ?_
      · intro W hSW; first | (go_simp; done) | (go_simp; with_reducible rfl) | (go_simp; rfl)
      try simp only [Act.put, List.setIfInBounds_toArray, List.set_cons_zero, List.set_cons_succ]
      refine wpAnyH_c2b (R := fun W => Below w5.heap.size w5 W) (R' := fun p9 W => Below w5.heap.size w5 W ∧ ∃ gk, w5.heap.size ≤ gk ∧ p9 = Value.pointer (some ⟨gk, 0, none⟩) ∧ VAt W 27 gk bzero) (T := fun u W => Below w5.heap.size w5 W ∧ ∃ u1, u = Value.tuple #[u1, .int .i64 0] ∧ BookV W u1 (giveM bigM (acN 1) tGold 1)) (T' := fun p9 u W => Below w5.heap.size w5 W ∧ (∃ u1, u = Value.tuple #[u1, .int .i64 0] ∧ BookV W u1 (giveM bigM (acN 1) tGold 1)) ∧ ∃ gk, w5.heap.size ≤ gk ∧ p9 = Value.pointer (some ⟨gk, 0, none⟩) ∧ VAt W 27 gk bzero) (i1 := 1) (i2 := 4) (k := 8) (o1 := { dst := some 109, op := Op.call { callee := Callee.value (Operand.func 15), args := #[Operand.const (Value.int IntKind.i64 1)], argTypes := #[3] }, type := 9, pos := "outright.go:36", after := #[], guard := none }) (o2 := { dst := some 112, op := Op.call { callee := Callee.value (Operand.func 13), args := #[Operand.tmp 108, Operand.tmp 109, Operand.const (Value.string { data := #[103, 111, 108, 100] }), Operand.tmp 111], argTypes := #[27, 9, 9, 3] }, type := 30, pos := "outright.go:36", after := #[{ on := 0, ground := Ground.data }, { on := 1, ground := Ground.data }, { on := 3, ground := Ground.data }, { on := 1, ground := Ground.chain }], guard := none }) (ok := { dst := some 15, op := Op.alloc 27, type := 0, pos := "outright.go:36", after := #[], guard := none }) (v1 := .string (acN 1)) (by kernel_rfl) (by kernel_rfl) (by kernel_rfl) (by kernel_rfl) rfl rfl rfl rfl rfl rfl rfl rfl rfl (fun _ => rfl) (fun _ _ => rfl) hRw (fun _ h => h) (fun _ _ h => h.1) (fun _ _ h => h.1) (fun _ _ _ h => h.1) ?_ ?_ ?_ ?_ (gives_allocG rfl 27 rfl 5 _ zeroBook (fun W hW W1 hv9 hb => ⟨below_then hW hb, W.heap.size, hW.size, rfl, hv9⟩)) ?_ ?_
      · intro W hW K hK
        go_simp
        refine (HA1.out W).mono ?_
        rintro e W2 ⟨rfl, hdw⟩
        go_wp2_with fail
        exact hK.out _ (hdw.below hW)
      · intro p9 W hW K hK
        obtain ⟨hW1, gk, hgk, rfl, hv9⟩ := hW
        go_simp
        refine (HA1.out W).mono ?_
        rintro e W2 ⟨rfl, hdw⟩
        go_wp2_with fail
        exact hK.out _ ⟨hdw.below hW1, gk, hgk, rfl, hv9.on hdw.on⟩
      · intro W hW K hK
        go_simp
        refine (HG2.out W (hU5.below hW)).mono ?_
        rintro e W2 ⟨u1, rfl, hU1, hb9⟩
        go_wp2_with fail
        exact hK.out _ _ ⟨below_then hW hb9, u1, rfl, hU1⟩
      · intro p9 W hW K hK
        obtain ⟨hW1, gk, hgk, rfl, hv9⟩ := hW
        go_simp
        refine (HG2.out W (hU5.below hW1)).mono ?_
        rintro e W2 ⟨u1, rfl, hU1, hb9⟩
        go_wp2_with fail
        exact hK.out _ _ ⟨below_then hW1 hb9, ⟨u1, rfl, hU1⟩, gk, hgk, rfl, hv9.on hb9⟩
      · intro u9 W9 hT9 hHeld
        obtain ⟨hb9, u1, rfl, hU9⟩ := hT9
        obtain ⟨c9, rfl, f9, hU9⟩ := hU9.five
        try simp only [Act.put, List.setIfInBounds_toArray, List.set_cons_zero, List.set_cons_succ]
        refine wpAnyH_take (i := 5) (oi := { dst := some 107, op := Op.move (Operand.tmp 112), type := 30, pos := "outright.go:36", after := #[{ on := 4, ground := Ground.data }], guard := none }) (v := ?_) rfl (by kernel_rfl) (by kernel_rfl) (by kernel_rfl) (fun _ _ _ h => h) (Or.inl ⟨by rfl, ?_⟩) (by assumption) ?_
        rotate_left
        · intro W hSW; first | (go_simp; done) | (go_simp; with_reducible rfl) | (go_simp; rfl)
        try simp only [Act.put, List.setIfInBounds_toArray, List.set_cons_zero, List.set_cons_succ]
        refine wpAnyH_take (i := 6) (oi := { dst := some 113, op := Op.extract (Operand.tmp 107) 0, type := 27, pos := "outright.go:36", after := #[{ on := 5, ground := Ground.data }], guard := none }) (v := ?_) rfl (by kernel_rfl) (by kernel_rfl) (by kernel_rfl) (fun _ _ _ h => h) (Or.inl ⟨by rfl, ?_⟩) (by assumption) ?_
        rotate_left
        · intro W hSW; first | (go_simp; done) | (go_simp; with_reducible rfl) | (go_simp; rfl)
        try simp only [Act.put, List.setIfInBounds_toArray, List.set_cons_zero, List.set_cons_succ]
        refine wpAnyH_take (i := 7) (oi := { dst := some 114, op := Op.extract (Operand.tmp 107) 1, type := 29, pos := "outright.go:36", after := #[{ on := 5, ground := Ground.data }, { on := 9, ground := Ground.gcOnly Departure.lateStores }], guard := none }) (v := ?_) rfl (by kernel_rfl) (by kernel_rfl) (by kernel_rfl) (fun _ _ _ h => h) (Or.inl ⟨by rfl, ?_⟩) (by assumption) ?_
        rotate_left
        · intro W hSW; first | (go_simp; done) | (go_simp; with_reducible rfl) | (go_simp; rfl)
        try simp only [Act.put, List.setIfInBounds_toArray, List.set_cons_zero, List.set_cons_succ]
        refine wpAnyH_loneE (T := fun p9 W => Below w5.heap.size w5 W ∧ (∃ gk, w5.heap.size ≤ gk ∧ p9 = Value.pointer (some ⟨gk, 0, none⟩) ∧ VAt W 27 gk bzero) ∧ BookV W (.agg c9) (giveM bigM (acN 1) tGold 1)) (i := 8) (oi := { dst := some 15, op := Op.alloc 27, type := 0, pos := "outright.go:36", after := #[], guard := none }) (by kernel_rfl) rfl (fun _ _ h => h.1) ?_ ?_
        · intro K hK
          exact gives_allocG (R := fun W => W = W9) (R' := fun p9 W => Below w5.heap.size w5 W ∧ (∃ gk, w5.heap.size ≤ gk ∧ p9 = Value.pointer (some ⟨gk, 0, none⟩) ∧ VAt W 27 gk bzero) ∧ BookV W (.agg c9) (giveM bigM (acN 1) tGold 1)) rfl 27 rfl 5 _ zeroBook (fun W hW W1 hv9 hb => by subst hW; exact ⟨below_then hb9 hb, ⟨_, hb9.size, rfl, hv9⟩, hU9.below hb⟩) _ _ rfl K hK
        intro p9 W10 hT9 hHeld
        clear hb9 hU9
        obtain ⟨hb9, ⟨gk, hgk, rfl, hv9⟩, hU9⟩ := hT9
        try simp only [Act.put, List.setIfInBounds_toArray, List.set_cons_zero, List.set_cons_succ]
        refine wpAnyH_loneE (T := fun _ W => Below w5.heap.size w5 W ∧ VAt W 27 gk c9 ∧ BookV W (.agg c9) (giveM bigM (acN 1) tGold 1)) (i := 9) (oi := { dst := none, op := Op.store 27 (Operand.tmp 15) (Operand.tmp 113), type := 0, pos := "outright.go:36", after := #[{ on := 8, ground := Ground.data }, { on := 6, ground := Ground.data }, { on := 4, ground := Ground.chain }, { on := 0, ground := Ground.phase }, { on := 1, ground := Ground.phase }, { on := 2, ground := Ground.phase }, { on := 3, ground := Ground.phase }, { on := 4, ground := Ground.phase }, { on := 5, ground := Ground.phase }, { on := 6, ground := Ground.phase }, { on := 7, ground := Ground.textOnly Departure.lateStores }, { on := 8, ground := Ground.phase }], guard := none }) (by kernel_rfl) rfl (fun _ _ h => h.1) ?_ ?_
        · intro K hK
          refine step_wholeG (by rfl) 27 (.tmp 15) (.tmp 113) (by rfl) gk bzero c9 (by rfl) (by rfl) hv9 f9.info f9.size f9.one ?_
          intro w8 hv8 hz8 hb8
          exact hK.out undef _ ⟨hb9.trans (hb8.below hgk hb9.size), hv8, hU9.but hv9 noText_z hb8⟩
        intro us W10 hqs hHeld
        clear hb9 hv9 hU9
        obtain ⟨hb9, hv9, hU9⟩ := hqs
        try simp only [Act.put]
        refine wpAnyH_take (i := 10) (oi := { dst := some 10, op := Op.assign (Operand.tmp 114), type := 29, pos := "outright.go:36", after := #[{ on := 7, ground := Ground.data }, { on := 9, ground := Ground.chain }, { on := 0, ground := Ground.phase }, { on := 1, ground := Ground.phase }, { on := 2, ground := Ground.phase }, { on := 3, ground := Ground.phase }, { on := 4, ground := Ground.phase }, { on := 5, ground := Ground.phase }, { on := 6, ground := Ground.phase }, { on := 7, ground := Ground.phase }, { on := 8, ground := Ground.phase }, { on := 9, ground := Ground.phase }], guard := none }) (v := ?_) rfl (by kernel_rfl) (by kernel_rfl) (by kernel_rfl) (fun _ _ _ h => h) (Or.inl ⟨by rfl, ?_⟩) (by assumption) ?_
        rotate_left
        · intro W hSW; first | (go_simp; done) | (go_simp; with_reducible rfl) | (go_simp; rfl)
        try simp only [Act.put, List.setIfInBounds_toArray, List.set_cons_zero, List.set_cons_succ]
        refine wpAnyH_done (by kernel_rfl) ?_ _
        have hs5 : g ≤ w5.heap.size := by have := hB5.size; omega
        have hB9 : Below g w _ := hB5.trans (hb9.mono hs5)
        clear hB5 hb9 hv5 hU5 HG2 hHeld
        go_wp2_with ((with_reducible refine wpList_at ?_); refine wpList_loadG (by rfl) 27 (.tmp 15) (by rfl) _ Try.underlying27 gk c9 (by rfl) hv9 f9.info ?_)
        refine (HTo'.out _ _ hU9).mono ?_
        rintro e w7 ⟨rfl, hb7⟩
        have hB7 : Below g w w7 := hB9.trans (hb7.mono (hg ▸ hB9.size))
        clear hB9 hb7 hv9 hU9 f9
        go_wp2_with fail
        refine (awake9_any _).mono ?_
        rintro e w8 ⟨rfl, hb8⟩
        have hB8 := hide (hB7.trans (hb8.mono (hg ▸ hB7.size)))
        clear hB7 hb8
        go_wp2
        go_ret
        exact ⟨rfl, hB8.out⟩
      · intro p9 u9 W9 hT9 hHeld
        obtain ⟨hb9, ⟨u1, rfl, hU9⟩, gk, hgk, rfl, hv9⟩ := hT9
        obtain ⟨c9, rfl, f9, hU9⟩ := hU9.five
        try simp only [Act.put, List.setIfInBounds_toArray, List.set_cons_zero, List.set_cons_succ]
        refine wpAnyH_take (i := 5) (oi := { dst := some 107, op := Op.move (Operand.tmp 112), type := 30, pos := "outright.go:36", after := #[{ on := 4, ground := Ground.data }], guard := none }) (v := ?_) rfl (by kernel_rfl) (by kernel_rfl) (by kernel_rfl) (fun _ _ _ h => h) (Or.inl ⟨by rfl, ?_⟩) (by assumption) ?_
        rotate_left
        · intro W hSW; first | (go_simp; done) | (go_simp; with_reducible rfl) | (go_simp; rfl)
        try simp only [Act.put, List.setIfInBounds_toArray, List.set_cons_zero, List.set_cons_succ]
        refine wpAnyH_take (i := 6) (oi := { dst := some 113, op := Op.extract (Operand.tmp 107) 0, type := 27, pos := "outright.go:36", after := #[{ on := 5, ground := Ground.data }], guard := none }) (v := ?_) rfl (by kernel_rfl) (by kernel_rfl) (by kernel_rfl) (fun _ _ _ h => h) (Or.inl ⟨by rfl, ?_⟩) (by assumption) ?_
        rotate_left
        · intro W hSW; first | (go_simp; done) | (go_simp; with_reducible rfl) | (go_simp; rfl)
        try simp only [Act.put, List.setIfInBounds_toArray, List.set_cons_zero, List.set_cons_succ]
        refine wpAnyH_take (i := 7) (oi := { dst := some 114, op := Op.extract (Operand.tmp 107) 1, type := 29, pos := "outright.go:36", after := #[{ on := 5, ground := Ground.data }, { on := 9, ground := Ground.gcOnly Departure.lateStores }], guard := none }) (v := ?_) rfl (by kernel_rfl) (by kernel_rfl) (by kernel_rfl) (fun _ _ _ h => h) (Or.inl ⟨by rfl, ?_⟩) (by assumption) ?_
        rotate_left
        · intro W hSW; first | (go_simp; done) | (go_simp; with_reducible rfl) | (go_simp; rfl)
        try simp only [Act.put, List.setIfInBounds_toArray, List.set_cons_zero, List.set_cons_succ]
        refine wpAnyH_loneE (T := fun _ W => Below w5.heap.size w5 W ∧ VAt W 27 gk c9 ∧ BookV W (.agg c9) (giveM bigM (acN 1) tGold 1)) (i := 9) (oi := { dst := none, op := Op.store 27 (Operand.tmp 15) (Operand.tmp 113), type := 0, pos := "outright.go:36", after := #[{ on := 8, ground := Ground.data }, { on := 6, ground := Ground.data }, { on := 4, ground := Ground.chain }, { on := 0, ground := Ground.phase }, { on := 1, ground := Ground.phase }, { on := 2, ground := Ground.phase }, { on := 3, ground := Ground.phase }, { on := 4, ground := Ground.phase }, { on := 5, ground := Ground.phase }, { on := 6, ground := Ground.phase }, { on := 7, ground := Ground.textOnly Departure.lateStores }, { on := 8, ground := Ground.phase }], guard := none }) (by kernel_rfl) rfl (fun _ _ h => h.1) ?_ ?_
        · intro K hK
          refine step_wholeG (by rfl) 27 (.tmp 15) (.tmp 113) (by rfl) gk bzero c9 (by rfl) (by rfl) hv9 f9.info f9.size f9.one ?_
          intro w8 hv8 hz8 hb8
          exact hK.out undef _ ⟨hb9.trans (hb8.below hgk hb9.size), hv8, hU9.but hv9 noText_z hb8⟩
        intro us W10 hqs hHeld
        clear hb9 hv9 hU9
        obtain ⟨hb9, hv9, hU9⟩ := hqs
        try simp only [Act.put]
        refine wpAnyH_take (i := 10) (oi := { dst := some 10, op := Op.assign (Operand.tmp 114), type := 29, pos := "outright.go:36", after := #[{ on := 7, ground := Ground.data }, { on := 9, ground := Ground.chain }, { on := 0, ground := Ground.phase }, { on := 1, ground := Ground.phase }, { on := 2, ground := Ground.phase }, { on := 3, ground := Ground.phase }, { on := 4, ground := Ground.phase }, { on := 5, ground := Ground.phase }, { on := 6, ground := Ground.phase }, { on := 7, ground := Ground.phase }, { on := 8, ground := Ground.phase }, { on := 9, ground := Ground.phase }], guard := none }) (v := ?_) rfl (by kernel_rfl) (by kernel_rfl) (by kernel_rfl) (fun _ _ _ h => h) (Or.inl ⟨by rfl, ?_⟩) (by assumption) ?_
        rotate_left
        · intro W hSW; first | (go_simp; done) | (go_simp; with_reducible rfl) | (go_simp; rfl)
        try simp only [Act.put, List.setIfInBounds_toArray, List.set_cons_zero, List.set_cons_succ]
        refine wpAnyH_done (by kernel_rfl) ?_ _
        have hs5 : g ≤ w5.heap.size := by have := hB5.size; omega
        have hB9 : Below g w _ := hB5.trans (hb9.mono hs5)
        clear hB5 hb9 hv5 hU5 HG2 hHeld
        go_wp2_with ((with_reducible refine wpList_at ?_); refine wpList_loadG (by rfl) 27 (.tmp 15) (by rfl) _ Try.underlying27 gk c9 (by rfl) hv9 f9.info ?_)
        refine (HTo'.out _ _ hU9).mono ?_
        rintro e w7 ⟨rfl, hb7⟩
        have hB7 : Below g w w7 := hB9.trans (hb7.mono (hg ▸ hB9.size))
        clear hB9 hb7 hv9 hU9 f9
        go_wp2_with fail
        refine (awake9_any _).mono ?_
        rintro e w8 ⟨rfl, hb8⟩
        have hB8 := hide (hB7.trans (hb8.mono (hg ▸ hB7.size)))
        clear hB7 hb8
        go_wp2
        go_ret
        exact ⟨rfl, hB8.out⟩
set_option maxRecDepth 10000 in
set_option maxHeartbeats 8000000 in
theorem caps_K1_Q0 (how more : Int) (HPm : Hid (∀ W, Calls Try.prog 10 #[.int .i64 more, .int .i64 2] W fun e w' => e = .returned (.int .i64 1) ∧ w' = W)) (HPq : Hid (∀ W, Calls Try.prog 10 #[.int .i64 how, .int .i64 2] W fun e w' => e = .returned (.int .i64 0) ∧ w' = W)) (w : World) : Calls Try.prog 4 #[.int .i64 how, .int .i64 more] w fun e w' => e = .returned (.bool true) ∧ Below w.heap.size w w' := by
  obtain ⟨g, hg⟩ : ∃ g, w.heap.size = g := ⟨_, rfl⟩
  rw [hg]
  have HAc : Hid (∀ n : Nat, n < 100 → ∀ W, Calls Try.prog 15 #[.int .i64 (n : Int)] W fun e w' => e = .returned (.string (acN n)) ∧ Drew W w') := account_any
  have HA0 : Hid (∀ W, Calls Try.prog 15 #[.int .i64 0] W fun e w' => e = .returned (.string (acN 0)) ∧ Drew W w') := HAc.out 0 (by omega)
  have HA1 : Hid (∀ W, Calls Try.prog 15 #[.int .i64 1] W fun e w' => e = .returned (.string (acN 1)) ∧ Drew W w') := HAc.out 1 (by omega)
  go_enter Try.func4, Try.ntmps4
  go_wp2_with fail
  refine (new_any 0 _).mono ?_
  rintro e w1 ⟨u1, rfl, hU1, hb1⟩
  rw [hg] at hb1
  obtain ⟨c1, rfl, f1, hU1⟩ := hU1.five
  obtain ⟨p, hp⟩ : ∃ p, w1.heap.size = p := ⟨_, rfl⟩
  have hgp : g ≤ p := by have := hb1.size; omega
  go_upto_region 2 with (first
    | ((with_reducible refine wpList_at ?_); refine wpList_allocG (by rfl) 27 (by rfl) 5 _ zeroBook ?_; rw [hp]; intro w3 hv3 hz3 hb3)
    | ((with_reducible refine wpList_at ?_); refine wpList_wholeG (by rfl) 27 (.tmp 5) (.tmp 16) (by rfl) p bzero c1 (by rfl) (by rfl) hv3 f1.info f1.size f1.one ?_; intro w4 hv4 hz4 hb4))
  have hU4 : BookV w4 (.agg c1) (newM 0) := (hU1.below (by rw [hp]; exact hb3)).but hv3 noText_z hb4
  have hB4 : Below g w w4 := hb1.trans ((hb3.mono hgp).trans (hb4.below hgp (by omega)))
  clear hU1 hv3 hb3 hb4 hb1 hz3 hz4 hp
  go_wp2_with fail
  refine (HPm.out _).mono ?_
  rintro e w0 ⟨rfl, hw0⟩
  subst w0
  go_wp2_with fail
  go_loopw [7, 8] (fun er i wr => ∃ (j : Nat) (cs : Array Value), j ≤ 12 ∧ i = .int .i64 j ∧ er = .int .i64 0 ∧ VAt wr 27 p cs ∧ Five cs ∧ BookV wr (.agg cs) (capM j) ∧ Below g w wr) (fun _ i _ => 12 - (intOf i).toNat)
  case atStart => exact ⟨0, c1, by omega, rfl, rfl, hv4, f1, hU4, hB4⟩
  case round =>
    clear hv4 hU4 hB4 f1
    obtain ⟨j, cs, hj, rfl, rfl, hvB, fB, hUB, hBB⟩ := hrel
    by_cases hlt : j < 12
    · have j1 : (j : Int) < 12 := by omega
      have j2 : (0 : Int) ≤ (j : Int) := by omega
      replace fB := hide fB
      replace hvB := hide hvB
      replace hUB := hide hUB
      replace hBB := hide hBB
      go_upto_region 7 with fail
      replace fB := fB.out
      replace hvB := hvB.out
      replace hUB := hUB.out
      replace hBB := hBB.out
      have hq0 : Below g w wr.drew ∧ VAt wr.drew 27 p cs ∧ BookV wr.drew (.agg cs) (capM j) := ⟨hBB.trans ⟨rfl, rfl, rfl, Nat.le_refl _, fun _ _ => rfl⟩, hvB, hUB.below ⟨rfl, rfl, rfl, Nat.le_refl _, fun _ _ => rfl⟩⟩
      have hRw : Below wr.heap.size wr wr.drew := ⟨rfl, rfl, rfl, Nat.le_refl _, fun _ _ => rfl⟩
      refine wp_region_held_drew (S := fun W => Below g w W) (by kernel_rfl) (hq0.1) (fun hHeld => ?_)
      refine wpAnyH_take (i := 1) (oi := { dst := some 25, op := Op.move (Operand.tmp 8), type := 3, pos := "outright.go:15", after := #[], guard := none }) (v := ?_) rfl (by kernel_rfl) (by kernel_rfl) (by kernel_rfl) (fun _ _ _ h => h) (Or.inl ⟨by rfl, ?_⟩) (by assumption) ?_
      rotate_left
      · intro W hSW; first | (go_simp; done) | (go_simp; with_reducible rfl)
      try simp only [Act.put, List.setIfInBounds_toArray, List.set_cons_zero, List.set_cons_succ]
      refine wpAnyH_pair (R := fun W => Below g w W ∧ VAt W 27 p cs ∧ BookV W (.agg cs) (capM j)) (i := 0) (j := 2) (oi := { dst := some 24, op := Op.load 27 (Operand.tmp 5), type := 27, pos := "outright.go:15", after := #[], guard := none }) (oj := { dst := some 26, op := Op.call { callee := Callee.value (Operand.func 15), args := #[Operand.tmp 25], argTypes := #[3] }, type := 9, pos := "outright.go:15", after := #[{ on := 1, ground := Ground.data }], guard := none }) (vi := .agg cs) (vj := .string (acN j)) (by kernel_rfl) (by kernel_rfl) (by kernel_rfl) rfl rfl rfl rfl rfl rfl (hq0) (fun W h => h.1) ?_ ?_ ?_ ?_ ?_
      · intro W hW K hK
        refine step_loadG (by rfl) 27 (.tmp 5) (by rfl) _ Try.underlying27 p cs (by rfl) hW.2.1 fB.info ?_
        exact hK.out _ hW
      · intro W hW K hK
        go_simp
        refine (HAc.out j (by omega) W).mono ?_
        rintro e W2 ⟨rfl, hdw⟩
        go_wp2_with fail
        exact hK.out _ ⟨hdw.below hW.1, hW.2.1.on hdw.on, hW.2.2.below hdw.on⟩
      · intro W hW K hK
        go_simp
        refine (HAc.out j (by omega) W).mono ?_
        rintro e W2 ⟨rfl, hdw⟩
        go_wp2_with fail
        exact hK.out _ ⟨hdw.below hW.1, hW.2.1.on hdw.on, hW.2.2.below hdw.on⟩
      · intro W hW K hK
        refine step_loadG (by rfl) 27 (.tmp 5) (by rfl) _ Try.underlying27 p cs (by rfl) hW.2.1 fB.info ?_
        exact hK.out _ hW
      clear hq0
      intro W9 hq1 hHeld
      try simp only [Act.put, List.setIfInBounds_toArray, List.set_cons_zero, List.set_cons_succ]
      refine wpAnyH_loneE (T := fun u W => ∃ u1, u = Value.tuple #[u1, .int .i64 (openE (capM j) (acN j))] ∧ Below g w W ∧ VAt W 27 p cs ∧ BookV W u1 (capM (j + 1))) (i := 3) (oi := { dst := some 27, op := Op.call { callee := Callee.value (Operand.func 9), args := #[Operand.tmp 24, Operand.tmp 26], argTypes := #[27, 9] }, type := 30, pos := "outright.go:15", after := #[{ on := 0, ground := Ground.data }, { on := 2, ground := Ground.data }, { on := 2, ground := Ground.chain }], guard := none }) (by kernel_rfl) rfl (fun u W h => h.choose_spec.2.1) ?_ ?_
      · intro K hK
        go_simp
        refine (open_any hq1.2.2 (cap_ok j) (acN j)).mono ?_
        rintro e W2 ⟨u1, rfl, hU1, hb9⟩
        go_wp2_with fail
        exact hK.out _ _ (⟨u1, rfl, hq1.1.trans (hb9.mono (hg ▸ hq1.1.size)), hq1.2.1.on hb9, hU1⟩)
      intro uc W9 hqc hHeld
      clear hq1
      obtain ⟨u1, rfl, hB9, hv9, hU9⟩ := hqc
      obtain ⟨c9, rfl, f9, hU9⟩ := hU9.five
      try simp only [Act.put, List.setIfInBounds_toArray, List.set_cons_zero, List.set_cons_succ]
      refine wpAnyH_take (i := 4) (oi := { dst := some 23, op := Op.move (Operand.tmp 27), type := 30, pos := "outright.go:15", after := #[{ on := 3, ground := Ground.data }], guard := none }) (v := ?_) rfl (by kernel_rfl) (by kernel_rfl) (by kernel_rfl) (fun _ _ _ h => h) (Or.inl ⟨by rfl, ?_⟩) (by assumption) ?_
      rotate_left
      · intro W hSW; first | (go_simp; done) | (go_simp; with_reducible rfl)
      try simp only [Act.put, List.setIfInBounds_toArray, List.set_cons_zero, List.set_cons_succ]
      refine wpAnyH_take (i := 5) (oi := { dst := some 28, op := Op.extract (Operand.tmp 23) 0, type := 27, pos := "outright.go:15", after := #[{ on := 4, ground := Ground.data }], guard := none }) (v := ?_) rfl (by kernel_rfl) (by kernel_rfl) (by kernel_rfl) (fun _ _ _ h => h) (Or.inl ⟨by rfl, ?_⟩) (by assumption) ?_
      rotate_left
      · intro W hSW; first | (go_simp; done) | (go_simp; with_reducible rfl)
      try simp only [Act.put, List.setIfInBounds_toArray, List.set_cons_zero, List.set_cons_succ]
      refine wpAnyH_take (i := 6) (oi := { dst := some 29, op := Op.extract (Operand.tmp 23) 1, type := 29, pos := "outright.go:15", after := #[{ on := 4, ground := Ground.data }, { on := 7, ground := Ground.gcOnly Departure.lateStores }], guard := none }) (v := ?_) rfl (by kernel_rfl) (by kernel_rfl) (by kernel_rfl) (fun _ _ _ h => h) (Or.inl ⟨by rfl, ?_⟩) (by assumption) ?_
      rotate_left
      · intro W hSW; first | (go_simp; done) | (go_simp; with_reducible rfl)
      try simp only [Act.put, List.setIfInBounds_toArray, List.set_cons_zero, List.set_cons_succ]
      refine wpAnyH_loneE (T := fun _ W => Below g w W ∧ VAt W 27 p c9 ∧ BookV W (.agg c9) (capM (j + 1))) (i := 7) (oi := { dst := none, op := Op.store 27 (Operand.tmp 5) (Operand.tmp 28), type := 0, pos := "outright.go:15", after := #[{ on := 5, ground := Ground.data }, { on := 3, ground := Ground.chain }, { on := 0, ground := Ground.phase }, { on := 1, ground := Ground.phase }, { on := 2, ground := Ground.phase }, { on := 3, ground := Ground.phase }, { on := 4, ground := Ground.phase }, { on := 5, ground := Ground.phase }, { on := 6, ground := Ground.textOnly Departure.lateStores }], guard := none }) (by kernel_rfl) rfl (fun u W h => h.1) ?_ ?_
      · intro K hK
        refine step_wholeG (by rfl) 27 (.tmp 5) (.tmp 28) (by rfl) p cs c9 (by rfl) (by rfl) hv9 f9.info (by rw [f9.size, fB.size]) f9.one ?_
        intro w8 hv8 hz8 hb8
        exact hK.out undef _ ⟨hB9.trans (hb8.below hgp (hg ▸ hB9.size)), hv8, hU9.but hv9 fB.noText hb8⟩
      intro us W9 hqs hHeld
      clear hB9 hv9 hU9
      obtain ⟨hB9, hv9, hU9⟩ := hqs
      try simp only [Act.put]
      refine wpAnyH_take (i := 8) (oi := { dst := some 7, op := Op.assign (Operand.tmp 29), type := 29, pos := "outright.go:15", after := #[{ on := 6, ground := Ground.data }, { on := 7, ground := Ground.chain }, { on := 0, ground := Ground.phase }, { on := 1, ground := Ground.phase }, { on := 2, ground := Ground.phase }, { on := 3, ground := Ground.phase }, { on := 4, ground := Ground.phase }, { on := 5, ground := Ground.phase }, { on := 6, ground := Ground.phase }, { on := 7, ground := Ground.phase }], guard := none }) (v := ?_) rfl (by kernel_rfl) (by kernel_rfl) (by kernel_rfl) (fun _ _ _ h => h) (Or.inl ⟨by rfl, ?_⟩) (by assumption) ?_
      rotate_left
      · intro W hSW; first | (go_simp; done) | (go_simp; with_reducible rfl)
      try simp only [Act.put, List.setIfInBounds_toArray, List.set_cons_zero, List.set_cons_succ]
      refine wpAnyH_done (by kernel_rfl) ?_ _
      clear hvB hUB hBB fB hHeld
      rw [cap_open j hlt]
      go_wp2
      go_roundw
      case rel => exact ⟨j + 1, c9, by omega, by go_num, rfl, hv9, f9, hU9, hB9⟩
      case measure => simp [intOf]; omega
    · have hj12 : j = 12 := by omega
      rw [hj12] at hUB
      have j1 : ¬ (j : Int) < 12 := by omega
      replace hj12 := hide hj12
      have HO1 := hide (fun W (hW : BookV W (.agg cs) (capM 12)) => open_any hW (cap_ok 12) tOther)
      have HO2 := hide (fun W (hW : BookV W (.agg cs) (capM 12)) => open_any hW (cap_ok 12) tLong)
      rw [cap_full.1] at HO1
      rw [cap_full.2] at HO2
      unfold tOther at HO1
      unfold tLong at HO2
      go_wp2_with ((with_reducible refine wpList_at ?_); refine wpList_loadG (by rfl) 27 (.tmp 5) (by rfl) _ Try.underlying27 p cs (by rfl) hvB fB.info ?_)
      refine (HO1.out _ hUB).mono ?_
      rintro e w3 ⟨u3, rfl, hU3, hb3⟩
      obtain ⟨c3, rfl, f3, hU3⟩ := hU3.five
      have hv3 := hvB.on hb3
      have hUx := hUB.below hb3
      have hB3 : Below g w w3 := hBB.trans (hb3.mono (hg ▸ hBB.size))
      obtain ⟨p3, hp3⟩ : ∃ p3, w3.heap.size = p3 := ⟨_, rfl⟩
      have hgp3 : g ≤ p3 := by have := hB3.size; omega
      clear hvB hUB hBB hb3 hU3 HO1
      go_upto_region 11 with (first
        | ((with_reducible refine wpList_at ?_); refine wpList_allocG (by rfl) 27 (by rfl) 5 _ zeroBook ?_; rw [hp3]; intro w5 hv5 hz5 hb5)
        | ((with_reducible refine wpList_at ?_); refine wpList_wholeG (by rfl) 27 (.tmp 9) (.tmp 35) (by rfl) p3 bzero c3 (by rfl) (by rfl) hv5 f3.info f3.size f3.one ?_; intro w6 hv6 hz6 hb6))
      have hbx : Below p3 w3 w6 := hb5.trans (hb6.below (Nat.le_refl _) (by omega))
      have hby : Below w3.heap.size w3 w6 := by rw [hp3]; exact hbx
      have hvB := hv3.on hby
      have hUB := hUx.below hby
      have hBB : Below g w w6 := hB3.trans (hbx.mono hgp3)
      clear hv3 hUx hB3 hv5 hz5 hb5 hv6 hz6 hb6 hbx hby f3 hp3 hgp3
      go_wp2_with ((with_reducible refine wpList_at ?_); refine wpList_loadG (by rfl) 27 (.tmp 5) (by rfl) _ Try.underlying27 p cs (by rfl) hvB fB.info ?_)
      refine (HO2.out _ hUB).mono ?_
      rintro e w3 ⟨u3, rfl, hU3, hb3⟩
      obtain ⟨c3, rfl, f3, hU3⟩ := hU3.five
      have hv3 := hvB.on hb3
      have hUx := hUB.below hb3
      have hB3 : Below g w w3 := hBB.trans (hb3.mono (hg ▸ hBB.size))
      obtain ⟨p3, hp3⟩ : ∃ p3, w3.heap.size = p3 := ⟨_, rfl⟩
      have hgp3 : g ≤ p3 := by have := hB3.size; omega
      clear hvB hUB hBB hb3 hU3 HO2
      go_upto_region 12 with (first
        | ((with_reducible refine wpList_at ?_); refine wpList_allocG (by rfl) 27 (by rfl) 5 _ zeroBook ?_; rw [hp3]; intro w5 hv5 hz5 hb5)
        | ((with_reducible refine wpList_at ?_); refine wpList_wholeG (by rfl) 27 (.tmp 11) (.tmp 40) (by rfl) p3 bzero c3 (by rfl) (by rfl) hv5 f3.info f3.size f3.one ?_; intro w6 hv6 hz6 hb6))
      have hbx : Below p3 w3 w6 := hb5.trans (hb6.below (Nat.le_refl _) (by omega))
      have hby : Below w3.heap.size w3 w6 := by rw [hp3]; exact hbx
      have hvB := hv3.on hby
      have hUB := hUx.below hby
      have hBB : Below g w w6 := hB3.trans (hbx.mono hgp3)
      clear hv3 hUx hB3 hv5 hz5 hb5 hv6 hz6 hb6 hbx hby f3 hp3 hgp3
      go_wp2_with fail
      refine (HA0.out _).mono ?_
      rintro e w3 ⟨rfl, hdw⟩
      replace hvB := hvB.on hdw.on
      replace hUB := hUB.below hdw.on
      have hBB := hdw.below hBB
      clear hdw
      go_wp2_with fail
      refine (HPq.out _).mono ?_
      rintro e w0 ⟨rfl, hw0⟩
      subst w0
      go_wp2_with fail
      go_loopw [7, 14] (fun er i wr => ∃ (j : Nat) (cs : Array Value), j ≤ 4 ∧ i = .int .i64 j ∧ er = .int .i64 0 ∧ VAt wr 27 p cs ∧ Five cs ∧ BookV wr (.agg cs) (gvM j) ∧ Below g w wr) (fun _ i _ => 4 - (intOf i).toNat)
      case atStart => exact ⟨0, cs, by omega, rfl, rfl, hvB, fB, hUB, hBB⟩
      case round =>
        clear hvB fB hUB hBB hj hlt j1
        obtain ⟨j0, hj0⟩ : ∃ j0, j0 = j := ⟨_, rfl⟩
        clear hj0
        obtain ⟨j, cs, hj, rfl, rfl, hvB, fB, hUB, hBB⟩ := hrel
        by_cases hlt : j < 4
        · have j1 : (j : Int) < 4 := by omega
          have j2 : (0 : Int) ≤ (j : Int) := by omega
          have hds := dg_size j (by omega)
          obtain ⟨dj, hdj⟩ : ∃ dj, dg j = dj := ⟨_, rfl⟩
          have HDg : Hid (∀ W, Calls Try.prog 16 #[.int .i64 (j : Int)] W fun e w' => e = .returned (.string dj) ∧ Drew W w') := fun W => by rw [← hdj]; exact digits_any j (by omega) W
          have HGv : Hid (∀ W cs', BookV W (.agg cs') (gvM j) → Calls Try.prog 13 #[.agg cs', .string (acN 0), .string (⟨#[97, 115, 115, 101, 116]⟩ ++ dj), .int .i64 1] W fun e w' => ∃ u, e = .returned (.tuple #[u, .int .i64 (giveE (gvM j) (acN 0) (asN j) 1)]) ∧ BookV w' u (gvM (j + 1)) ∧ Below W.heap.size W w') := fun W cs' hW => by rw [← hdj]; exact give_any hW (gv_ok j) (by omega) (acN 0) (asN j) 1
          rw [hdj] at hds
          have hs' : (ByteArray.size ⟨#[97, 115, 115, 101, 116]⟩ : Int) = 5 := rfl
          have z3 : ¬ 9223372036854775807 < (5 : Int) + (dj.size : Int) := by omega
          have z6 : ¬ 9223372036854775807 < 5 + dj.size := by omega
          have z4 : 5 + dj.size ≤ 9223372036854775807 := by omega
          have z5 : (5 : Int) + (dj.size : Int) ≤ 9223372036854775807 := by omega
          clear hdj hds
          replace fB := hide fB
          replace hvB := hide hvB
          replace hUB := hide hUB
          replace hBB := hide hBB
          go_upto_region 19 with fail
          replace fB := fB.out
          replace hvB := hvB.out
          replace hUB := hUB.out
          replace hBB := hBB.out
          have hq0 : Below g w wr.drew ∧ VAt wr.drew 27 p cs ∧ BookV wr.drew (.agg cs) (gvM j) := ⟨hBB.trans ⟨rfl, rfl, rfl, Nat.le_refl _, fun _ _ => rfl⟩, hvB, hUB.below ⟨rfl, rfl, rfl, Nat.le_refl _, fun _ _ => rfl⟩⟩
          have hRw : Below wr.heap.size wr wr.drew := ⟨rfl, rfl, rfl, Nat.le_refl _, fun _ _ => rfl⟩
          refine wp_region_held_drew (S := fun W => Below g w W) (by kernel_rfl) (hq0.1) (fun hHeld => ?_)
          refine wpAnyH_take (i := 1) (oi := { dst := some 60, op := Op.move (Operand.tmp 13), type := 9, pos := "outright.go:27", after := #[], guard := none }) (v := ?_) rfl (by kernel_rfl) (by kernel_rfl) (by kernel_rfl) (fun _ _ _ h => h) (Or.inl ⟨by rfl, ?_⟩) (by assumption) ?_
          rotate_left
          · intro W hSW; first | (go_simp; done) | (go_simp; with_reducible rfl)
          try simp only [Act.put, List.setIfInBounds_toArray, List.set_cons_zero, List.set_cons_succ]
          refine wpAnyH_take (i := 2) (oi := { dst := some 61, op := Op.move (Operand.tmp 14), type := 3, pos := "outright.go:27", after := #[], guard := none }) (v := ?_) rfl (by kernel_rfl) (by kernel_rfl) (by kernel_rfl) (fun _ _ _ h => h) (Or.inl ⟨by rfl, ?_⟩) (by assumption) ?_
          rotate_left
          · intro W hSW; first | (go_simp; done) | (go_simp; with_reducible rfl)
          try simp only [Act.put, List.setIfInBounds_toArray, List.set_cons_zero, List.set_cons_succ]
          refine wpAnyH_tri (R := fun W => Below g w W ∧ VAt W 27 p cs ∧ BookV W (.agg cs) (gvM j)) (i := 0) (j := 3) (m := 4) (oi := { dst := some 59, op := Op.load 27 (Operand.tmp 5), type := 27, pos := "outright.go:27", after := #[], guard := none }) (oj := { dst := some 62, op := Op.call { callee := Callee.value (Operand.func 16), args := #[Operand.tmp 61], argTypes := #[3] }, type := 9, pos := "outright.go:27", after := #[{ on := 2, ground := Ground.data }], guard := none }) (om := { dst := some 63, op := Op.binOp BinOp.add 9 (Operand.const (Value.string { data := #[97, 115, 115, 101, 116] })) (Operand.tmp 62) 9, type := 9, pos := "outright.go:27", after := #[{ on := 3, ground := Ground.data }], guard := none }) (vi := .agg cs) (vj := .string dj) (vm := .string (⟨#[97, 115, 115, 101, 116]⟩ ++ dj)) (by kernel_rfl) (by kernel_rfl) (by kernel_rfl) (by kernel_rfl) (by kernel_rfl) rfl rfl rfl rfl rfl rfl rfl rfl rfl rfl (hq0) (fun W h => h.1) ?_ ?_ ?_ ?_ ?_ ?_ ?_ ?_
          · intro W hW K hK
            refine step_loadG (by rfl) 27 (.tmp 5) (by rfl) _ Try.underlying27 p cs (by rfl) hW.2.1 fB.info ?_
            exact hK.out _ hW
          · intro W hW K hK
            go_simp
            refine (HDg.out W).mono ?_
            rintro e W2 ⟨rfl, hdw⟩
            go_wp2_with fail
            exact hK.out _ ⟨hdw.below hW.1, hW.2.1.on hdw.on, hW.2.2.below hdw.on⟩
          · intro W hW K hK
            go_simp
            refine (HDg.out W).mono ?_
            rintro e W2 ⟨rfl, hdw⟩
            go_wp2_with fail
            exact hK.out _ ⟨hdw.below hW.1, hW.2.1.on hdw.on, hW.2.2.below hdw.on⟩
          · intro W hW K hK
            refine step_loadG (by rfl) 27 (.tmp 5) (by rfl) _ Try.underlying27 p cs (by rfl) hW.2.1 fB.info ?_
            exact hK.out _ hW
          · intro W hW K hK
            go_simp
            exact hK.out _ hW
          · intro W hW K hK
            go_simp
            exact hK.out _ hW
          · intro W hW K hK
            refine step_loadG (by rfl) 27 (.tmp 5) (by rfl) _ Try.underlying27 p cs (by rfl) hW.2.1 fB.info ?_
            exact hK.out _ hW
          clear hq0
          intro W9 hq1 hHeld
          try simp only [Act.put, List.setIfInBounds_toArray, List.set_cons_zero, List.set_cons_succ]
          refine wpAnyH_loneE (T := fun u W => ∃ u1, u = Value.tuple #[u1, .int .i64 (giveE (gvM j) (acN 0) (asN j) 1)] ∧ Below g w W ∧ VAt W 27 p cs ∧ BookV W u1 (gvM (j + 1))) (i := 5) (oi := { dst := some 64, op := Op.call { callee := Callee.value (Operand.func 13), args := #[Operand.tmp 59, Operand.tmp 60, Operand.tmp 63, Operand.const (Value.int IntKind.i64 1)], argTypes := #[27, 9, 9, 3] }, type := 30, pos := "outright.go:27", after := #[{ on := 0, ground := Ground.data }, { on := 1, ground := Ground.data }, { on := 4, ground := Ground.data }, { on := 3, ground := Ground.chain }], guard := none }) (by kernel_rfl) rfl (fun u W h => h.choose_spec.2.1) ?_ ?_
          · intro K hK
            go_simp
            refine (HGv.out _ _ hq1.2.2).mono ?_
            rintro e W2 ⟨u1, rfl, hU1, hb9⟩
            go_wp2_with fail
            exact hK.out _ _ (⟨u1, rfl, hq1.1.trans (hb9.mono (hg ▸ hq1.1.size)), hq1.2.1.on hb9, hU1⟩)
          intro uc W9 hqc hHeld
          clear hq1
          obtain ⟨u1, rfl, hB9, hv9, hU9⟩ := hqc
          obtain ⟨c9, rfl, f9, hU9⟩ := hU9.five
          try simp only [Act.put, List.setIfInBounds_toArray, List.set_cons_zero, List.set_cons_succ]
          refine wpAnyH_take (i := 6) (oi := { dst := some 58, op := Op.move (Operand.tmp 64), type := 30, pos := "outright.go:27", after := #[{ on := 5, ground := Ground.data }], guard := none }) (v := ?_) rfl (by kernel_rfl) (by kernel_rfl) (by kernel_rfl) (fun _ _ _ h => h) (Or.inl ⟨by rfl, ?_⟩) (by assumption) ?_
          rotate_left
          · intro W hSW; first | (go_simp; done) | (go_simp; with_reducible rfl)
          try simp only [Act.put, List.setIfInBounds_toArray, List.set_cons_zero, List.set_cons_succ]
          refine wpAnyH_take (i := 7) (oi := { dst := some 65, op := Op.extract (Operand.tmp 58) 0, type := 27, pos := "outright.go:27", after := #[{ on := 6, ground := Ground.data }], guard := none }) (v := ?_) rfl (by kernel_rfl) (by kernel_rfl) (by kernel_rfl) (fun _ _ _ h => h) (Or.inl ⟨by rfl, ?_⟩) (by assumption) ?_
          rotate_left
          · intro W hSW; first | (go_simp; done) | (go_simp; with_reducible rfl)
          try simp only [Act.put, List.setIfInBounds_toArray, List.set_cons_zero, List.set_cons_succ]
          refine wpAnyH_take (i := 8) (oi := { dst := some 66, op := Op.extract (Operand.tmp 58) 1, type := 29, pos := "outright.go:27", after := #[{ on := 6, ground := Ground.data }, { on := 9, ground := Ground.gcOnly Departure.lateStores }], guard := none }) (v := ?_) rfl (by kernel_rfl) (by kernel_rfl) (by kernel_rfl) (fun _ _ _ h => h) (Or.inl ⟨by rfl, ?_⟩) (by assumption) ?_
          rotate_left
          · intro W hSW; first | (go_simp; done) | (go_simp; with_reducible rfl)
          try simp only [Act.put, List.setIfInBounds_toArray, List.set_cons_zero, List.set_cons_succ]
          refine wpAnyH_loneE (T := fun _ W => Below g w W ∧ VAt W 27 p c9 ∧ BookV W (.agg c9) (gvM (j + 1))) (i := 9) (oi := { dst := none, op := Op.store 27 (Operand.tmp 5) (Operand.tmp 65), type := 0, pos := "outright.go:27", after := #[{ on := 7, ground := Ground.data }, { on := 5, ground := Ground.chain }, { on := 0, ground := Ground.phase }, { on := 1, ground := Ground.phase }, { on := 2, ground := Ground.phase }, { on := 3, ground := Ground.phase }, { on := 4, ground := Ground.phase }, { on := 5, ground := Ground.phase }, { on := 6, ground := Ground.phase }, { on := 7, ground := Ground.phase }, { on := 8, ground := Ground.textOnly Departure.lateStores }], guard := none }) (by kernel_rfl) rfl (fun u W h => h.1) ?_ ?_
          · intro K hK
            refine step_wholeG (by rfl) 27 (.tmp 5) (.tmp 65) (by rfl) p cs c9 (by rfl) (by rfl) hv9 f9.info (by rw [f9.size, fB.size]) f9.one ?_
            intro w8 hv8 hz8 hb8
            exact hK.out undef _ ⟨hB9.trans (hb8.below hgp (hg ▸ hB9.size)), hv8, hU9.but hv9 fB.noText hb8⟩
          intro us W9 hqs hHeld
          clear hB9 hv9 hU9
          obtain ⟨hB9, hv9, hU9⟩ := hqs
          try simp only [Act.put]
          refine wpAnyH_take (i := 10) (oi := { dst := some 7, op := Op.assign (Operand.tmp 66), type := 29, pos := "outright.go:27", after := #[{ on := 8, ground := Ground.data }, { on := 9, ground := Ground.chain }, { on := 0, ground := Ground.phase }, { on := 1, ground := Ground.phase }, { on := 2, ground := Ground.phase }, { on := 3, ground := Ground.phase }, { on := 4, ground := Ground.phase }, { on := 5, ground := Ground.phase }, { on := 6, ground := Ground.phase }, { on := 7, ground := Ground.phase }, { on := 8, ground := Ground.phase }, { on := 9, ground := Ground.phase }], guard := none }) (v := ?_) rfl (by kernel_rfl) (by kernel_rfl) (by kernel_rfl) (fun _ _ _ h => h) (Or.inl ⟨by rfl, ?_⟩) (by assumption) ?_
          rotate_left
          · intro W hSW; first | (go_simp; done) | (go_simp; with_reducible rfl)
          try simp only [Act.put, List.setIfInBounds_toArray, List.set_cons_zero, List.set_cons_succ]
          refine wpAnyH_done (by kernel_rfl) ?_ _
          clear hvB hUB hBB fB hHeld HDg HGv z3 z4 z5 z6 hs'
          rw [gv_give j (by omega)]
          go_wp2
          go_roundw
          case rel => exact ⟨j + 1, c9, by omega, by go_num, rfl, hv9, f9, hU9, hB9⟩
          case measure => simp [intOf]; omega
        · have hjN : j = 4 := by omega
          rw [hjN] at hUB
          have j1 : ¬ (j : Int) < 4 := by omega
          replace hjN := hide hjN
          have HN1 := hide (fun W (hW : BookV W (.agg cs) (gvM 4)) => give_any hW (gv_ok 4) (by omega) (acN 0) tNew 1)
          have HN2 := hide (fun W (hW : BookV W (.agg cs) (gvM 4)) => give_any hW (gv_ok 4) (by omega) (acN 0) tAs0 1)
          rw [gv_new1.1] at HN1
          rw [gv_new1.2] at HN2
          unfold tNew at HN1
          unfold tAs0 at HN2
          go_wp2_with ((with_reducible refine wpList_at ?_); refine wpList_loadG (by rfl) 27 (.tmp 5) (by rfl) _ Try.underlying27 p cs (by rfl) hvB fB.info ?_)
          refine (HN1.out _ hUB).mono ?_
          rintro e w3 ⟨u3, rfl, hU3, hb3⟩
          replace hvB := hvB.on hb3
          replace hUB := hUB.below hb3
          replace hBB := hBB.trans (hb3.mono (hg ▸ hBB.size))
          clear hU3 hb3 HN1
          go_wp2_with ((with_reducible refine wpList_at ?_); refine wpList_loadG (by rfl) 27 (.tmp 5) (by rfl) _ Try.underlying27 p cs (by rfl) hvB fB.info ?_)
          refine (HN2.out _ hUB).mono ?_
          rintro e w3 ⟨u3, rfl, hU3, hb3⟩
          replace hvB := hvB.on hb3
          replace hUB := hUB.below hb3
          replace hBB := hBB.trans (hb3.mono (hg ▸ hBB.size))
          clear hU3 hb3 HN2
          clear hvB hUB fB
          go_wp2_with fail
          refine (awake9_any _).mono ?_
          rintro e w9 ⟨rfl, hb9⟩
          have hB9 := hide (hBB.trans (hb9.mono (hg ▸ hBB.size)))
          clear hBB hb9
          go_wp2
          go_ret
          exact ⟨rfl, hB9.out⟩
set_option maxRecDepth 10000 in
set_option maxHeartbeats 8000000 in
theorem caps_K1_Q1 (how more : Int) (HPm : Hid (∀ W, Calls Try.prog 10 #[.int .i64 more, .int .i64 2] W fun e w' => e = .returned (.int .i64 1) ∧ w' = W)) (HPq : Hid (∀ W, Calls Try.prog 10 #[.int .i64 how, .int .i64 2] W fun e w' => e = .returned (.int .i64 1) ∧ w' = W)) (w : World) : Calls Try.prog 4 #[.int .i64 how, .int .i64 more] w fun e w' => e = .returned (.bool true) ∧ Below w.heap.size w w' := by
  obtain ⟨g, hg⟩ : ∃ g, w.heap.size = g := ⟨_, rfl⟩
  rw [hg]
  have HAc : Hid (∀ n : Nat, n < 100 → ∀ W, Calls Try.prog 15 #[.int .i64 (n : Int)] W fun e w' => e = .returned (.string (acN n)) ∧ Drew W w') := account_any
  have HA0 : Hid (∀ W, Calls Try.prog 15 #[.int .i64 0] W fun e w' => e = .returned (.string (acN 0)) ∧ Drew W w') := HAc.out 0 (by omega)
  have HA1 : Hid (∀ W, Calls Try.prog 15 #[.int .i64 1] W fun e w' => e = .returned (.string (acN 1)) ∧ Drew W w') := HAc.out 1 (by omega)
  go_enter Try.func4, Try.ntmps4
  go_wp2_with fail
  refine (new_any 0 _).mono ?_
  rintro e w1 ⟨u1, rfl, hU1, hb1⟩
  rw [hg] at hb1
  obtain ⟨c1, rfl, f1, hU1⟩ := hU1.five
  obtain ⟨p, hp⟩ : ∃ p, w1.heap.size = p := ⟨_, rfl⟩
  have hgp : g ≤ p := by have := hb1.size; omega
  go_upto_region 2 with (first
    | ((with_reducible refine wpList_at ?_); refine wpList_allocG (by rfl) 27 (by rfl) 5 _ zeroBook ?_; rw [hp]; intro w3 hv3 hz3 hb3)
    | ((with_reducible refine wpList_at ?_); refine wpList_wholeG (by rfl) 27 (.tmp 5) (.tmp 16) (by rfl) p bzero c1 (by rfl) (by rfl) hv3 f1.info f1.size f1.one ?_; intro w4 hv4 hz4 hb4))
  have hU4 : BookV w4 (.agg c1) (newM 0) := (hU1.below (by rw [hp]; exact hb3)).but hv3 noText_z hb4
  have hB4 : Below g w w4 := hb1.trans ((hb3.mono hgp).trans (hb4.below hgp (by omega)))
  clear hU1 hv3 hb3 hb4 hb1 hz3 hz4 hp
  go_wp2_with fail
  refine (HPm.out _).mono ?_
  rintro e w0 ⟨rfl, hw0⟩
  subst w0
  go_wp2_with fail
  go_loopw [7, 8] (fun er i wr => ∃ (j : Nat) (cs : Array Value), j ≤ 12 ∧ i = .int .i64 j ∧ er = .int .i64 0 ∧ VAt wr 27 p cs ∧ Five cs ∧ BookV wr (.agg cs) (capM j) ∧ Below g w wr) (fun _ i _ => 12 - (intOf i).toNat)
  case atStart => exact ⟨0, c1, by omega, rfl, rfl, hv4, f1, hU4, hB4⟩
  case round =>
    clear hv4 hU4 hB4 f1
    obtain ⟨j, cs, hj, rfl, rfl, hvB, fB, hUB, hBB⟩ := hrel
    by_cases hlt : j < 12
    · have j1 : (j : Int) < 12 := by omega
      have j2 : (0 : Int) ≤ (j : Int) := by omega
      replace fB := hide fB
      replace hvB := hide hvB
      replace hUB := hide hUB
      replace hBB := hide hBB
      go_upto_region 7 with fail
      replace fB := fB.out
      replace hvB := hvB.out
      replace hUB := hUB.out
      replace hBB := hBB.out
      have hq0 : Below g w wr.drew ∧ VAt wr.drew 27 p cs ∧ BookV wr.drew (.agg cs) (capM j) := ⟨hBB.trans ⟨rfl, rfl, rfl, Nat.le_refl _, fun _ _ => rfl⟩, hvB, hUB.below ⟨rfl, rfl, rfl, Nat.le_refl _, fun _ _ => rfl⟩⟩
      have hRw : Below wr.heap.size wr wr.drew := ⟨rfl, rfl, rfl, Nat.le_refl _, fun _ _ => rfl⟩
      refine wp_region_held_drew (S := fun W => Below g w W) (by kernel_rfl) (hq0.1) (fun hHeld => ?_)
      refine wpAnyH_take (i := 1) (oi := { dst := some 25, op := Op.move (Operand.tmp 8), type := 3, pos := "outright.go:15", after := #[], guard := none }) (v := ?_) rfl (by kernel_rfl) (by kernel_rfl) (by kernel_rfl) (fun _ _ _ h => h) (Or.inl ⟨by rfl, ?_⟩) (by assumption) ?_
      rotate_left
      · intro W hSW; first | (go_simp; done) | (go_simp; with_reducible rfl)
      try simp only [Act.put, List.setIfInBounds_toArray, List.set_cons_zero, List.set_cons_succ]
      refine wpAnyH_pair (R := fun W => Below g w W ∧ VAt W 27 p cs ∧ BookV W (.agg cs) (capM j)) (i := 0) (j := 2) (oi := { dst := some 24, op := Op.load 27 (Operand.tmp 5), type := 27, pos := "outright.go:15", after := #[], guard := none }) (oj := { dst := some 26, op := Op.call { callee := Callee.value (Operand.func 15), args := #[Operand.tmp 25], argTypes := #[3] }, type := 9, pos := "outright.go:15", after := #[{ on := 1, ground := Ground.data }], guard := none }) (vi := .agg cs) (vj := .string (acN j)) (by kernel_rfl) (by kernel_rfl) (by kernel_rfl) rfl rfl rfl rfl rfl rfl (hq0) (fun W h => h.1) ?_ ?_ ?_ ?_ ?_
      · intro W hW K hK
        refine step_loadG (by rfl) 27 (.tmp 5) (by rfl) _ Try.underlying27 p cs (by rfl) hW.2.1 fB.info ?_
        exact hK.out _ hW
      · intro W hW K hK
        go_simp
        refine (HAc.out j (by omega) W).mono ?_
        rintro e W2 ⟨rfl, hdw⟩
        go_wp2_with fail
        exact hK.out _ ⟨hdw.below hW.1, hW.2.1.on hdw.on, hW.2.2.below hdw.on⟩
      · intro W hW K hK
        go_simp
        refine (HAc.out j (by omega) W).mono ?_
        rintro e W2 ⟨rfl, hdw⟩
        go_wp2_with fail
        exact hK.out _ ⟨hdw.below hW.1, hW.2.1.on hdw.on, hW.2.2.below hdw.on⟩
      · intro W hW K hK
        refine step_loadG (by rfl) 27 (.tmp 5) (by rfl) _ Try.underlying27 p cs (by rfl) hW.2.1 fB.info ?_
        exact hK.out _ hW
      clear hq0
      intro W9 hq1 hHeld
      try simp only [Act.put, List.setIfInBounds_toArray, List.set_cons_zero, List.set_cons_succ]
      refine wpAnyH_loneE (T := fun u W => ∃ u1, u = Value.tuple #[u1, .int .i64 (openE (capM j) (acN j))] ∧ Below g w W ∧ VAt W 27 p cs ∧ BookV W u1 (capM (j + 1))) (i := 3) (oi := { dst := some 27, op := Op.call { callee := Callee.value (Operand.func 9), args := #[Operand.tmp 24, Operand.tmp 26], argTypes := #[27, 9] }, type := 30, pos := "outright.go:15", after := #[{ on := 0, ground := Ground.data }, { on := 2, ground := Ground.data }, { on := 2, ground := Ground.chain }], guard := none }) (by kernel_rfl) rfl (fun u W h => h.choose_spec.2.1) ?_ ?_
      · intro K hK
        go_simp
        refine (open_any hq1.2.2 (cap_ok j) (acN j)).mono ?_
        rintro e W2 ⟨u1, rfl, hU1, hb9⟩
        go_wp2_with fail
        exact hK.out _ _ (⟨u1, rfl, hq1.1.trans (hb9.mono (hg ▸ hq1.1.size)), hq1.2.1.on hb9, hU1⟩)
      intro uc W9 hqc hHeld
      clear hq1
      obtain ⟨u1, rfl, hB9, hv9, hU9⟩ := hqc
      obtain ⟨c9, rfl, f9, hU9⟩ := hU9.five
      try simp only [Act.put, List.setIfInBounds_toArray, List.set_cons_zero, List.set_cons_succ]
      refine wpAnyH_take (i := 4) (oi := { dst := some 23, op := Op.move (Operand.tmp 27), type := 30, pos := "outright.go:15", after := #[{ on := 3, ground := Ground.data }], guard := none }) (v := ?_) rfl (by kernel_rfl) (by kernel_rfl) (by kernel_rfl) (fun _ _ _ h => h) (Or.inl ⟨by rfl, ?_⟩) (by assumption) ?_
      rotate_left
      · intro W hSW; first | (go_simp; done) | (go_simp; with_reducible rfl)
      try simp only [Act.put, List.setIfInBounds_toArray, List.set_cons_zero, List.set_cons_succ]
      refine wpAnyH_take (i := 5) (oi := { dst := some 28, op := Op.extract (Operand.tmp 23) 0, type := 27, pos := "outright.go:15", after := #[{ on := 4, ground := Ground.data }], guard := none }) (v := ?_) rfl (by kernel_rfl) (by kernel_rfl) (by kernel_rfl) (fun _ _ _ h => h) (Or.inl ⟨by rfl, ?_⟩) (by assumption) ?_
      rotate_left
      · intro W hSW; first | (go_simp; done) | (go_simp; with_reducible rfl)
      try simp only [Act.put, List.setIfInBounds_toArray, List.set_cons_zero, List.set_cons_succ]
      refine wpAnyH_take (i := 6) (oi := { dst := some 29, op := Op.extract (Operand.tmp 23) 1, type := 29, pos := "outright.go:15", after := #[{ on := 4, ground := Ground.data }, { on := 7, ground := Ground.gcOnly Departure.lateStores }], guard := none }) (v := ?_) rfl (by kernel_rfl) (by kernel_rfl) (by kernel_rfl) (fun _ _ _ h => h) (Or.inl ⟨by rfl, ?_⟩) (by assumption) ?_
      rotate_left
      · intro W hSW; first | (go_simp; done) | (go_simp; with_reducible rfl)
      try simp only [Act.put, List.setIfInBounds_toArray, List.set_cons_zero, List.set_cons_succ]
      refine wpAnyH_loneE (T := fun _ W => Below g w W ∧ VAt W 27 p c9 ∧ BookV W (.agg c9) (capM (j + 1))) (i := 7) (oi := { dst := none, op := Op.store 27 (Operand.tmp 5) (Operand.tmp 28), type := 0, pos := "outright.go:15", after := #[{ on := 5, ground := Ground.data }, { on := 3, ground := Ground.chain }, { on := 0, ground := Ground.phase }, { on := 1, ground := Ground.phase }, { on := 2, ground := Ground.phase }, { on := 3, ground := Ground.phase }, { on := 4, ground := Ground.phase }, { on := 5, ground := Ground.phase }, { on := 6, ground := Ground.textOnly Departure.lateStores }], guard := none }) (by kernel_rfl) rfl (fun u W h => h.1) ?_ ?_
      · intro K hK
        refine step_wholeG (by rfl) 27 (.tmp 5) (.tmp 28) (by rfl) p cs c9 (by rfl) (by rfl) hv9 f9.info (by rw [f9.size, fB.size]) f9.one ?_
        intro w8 hv8 hz8 hb8
        exact hK.out undef _ ⟨hB9.trans (hb8.below hgp (hg ▸ hB9.size)), hv8, hU9.but hv9 fB.noText hb8⟩
      intro us W9 hqs hHeld
      clear hB9 hv9 hU9
      obtain ⟨hB9, hv9, hU9⟩ := hqs
      try simp only [Act.put]
      refine wpAnyH_take (i := 8) (oi := { dst := some 7, op := Op.assign (Operand.tmp 29), type := 29, pos := "outright.go:15", after := #[{ on := 6, ground := Ground.data }, { on := 7, ground := Ground.chain }, { on := 0, ground := Ground.phase }, { on := 1, ground := Ground.phase }, { on := 2, ground := Ground.phase }, { on := 3, ground := Ground.phase }, { on := 4, ground := Ground.phase }, { on := 5, ground := Ground.phase }, { on := 6, ground := Ground.phase }, { on := 7, ground := Ground.phase }], guard := none }) (v := ?_) rfl (by kernel_rfl) (by kernel_rfl) (by kernel_rfl) (fun _ _ _ h => h) (Or.inl ⟨by rfl, ?_⟩) (by assumption) ?_
      rotate_left
      · intro W hSW; first | (go_simp; done) | (go_simp; with_reducible rfl)
      try simp only [Act.put, List.setIfInBounds_toArray, List.set_cons_zero, List.set_cons_succ]
      refine wpAnyH_done (by kernel_rfl) ?_ _
      clear hvB hUB hBB fB hHeld
      rw [cap_open j hlt]
      go_wp2
      go_roundw
      case rel => exact ⟨j + 1, c9, by omega, by go_num, rfl, hv9, f9, hU9, hB9⟩
      case measure => simp [intOf]; omega
    · have hj12 : j = 12 := by omega
      rw [hj12] at hUB
      have j1 : ¬ (j : Int) < 12 := by omega
      replace hj12 := hide hj12
      have HO1 := hide (fun W (hW : BookV W (.agg cs) (capM 12)) => open_any hW (cap_ok 12) tOther)
      have HO2 := hide (fun W (hW : BookV W (.agg cs) (capM 12)) => open_any hW (cap_ok 12) tLong)
      rw [cap_full.1] at HO1
      rw [cap_full.2] at HO2
      unfold tOther at HO1
      unfold tLong at HO2
      go_wp2_with ((with_reducible refine wpList_at ?_); refine wpList_loadG (by rfl) 27 (.tmp 5) (by rfl) _ Try.underlying27 p cs (by rfl) hvB fB.info ?_)
      refine (HO1.out _ hUB).mono ?_
      rintro e w3 ⟨u3, rfl, hU3, hb3⟩
      obtain ⟨c3, rfl, f3, hU3⟩ := hU3.five
      have hv3 := hvB.on hb3
      have hUx := hUB.below hb3
      have hB3 : Below g w w3 := hBB.trans (hb3.mono (hg ▸ hBB.size))
      obtain ⟨p3, hp3⟩ : ∃ p3, w3.heap.size = p3 := ⟨_, rfl⟩
      have hgp3 : g ≤ p3 := by have := hB3.size; omega
      clear hvB hUB hBB hb3 hU3 HO1
      go_upto_region 11 with (first
        | ((with_reducible refine wpList_at ?_); refine wpList_allocG (by rfl) 27 (by rfl) 5 _ zeroBook ?_; rw [hp3]; intro w5 hv5 hz5 hb5)
        | ((with_reducible refine wpList_at ?_); refine wpList_wholeG (by rfl) 27 (.tmp 9) (.tmp 35) (by rfl) p3 bzero c3 (by rfl) (by rfl) hv5 f3.info f3.size f3.one ?_; intro w6 hv6 hz6 hb6))
      have hbx : Below p3 w3 w6 := hb5.trans (hb6.below (Nat.le_refl _) (by omega))
      have hby : Below w3.heap.size w3 w6 := by rw [hp3]; exact hbx
      have hvB := hv3.on hby
      have hUB := hUx.below hby
      have hBB : Below g w w6 := hB3.trans (hbx.mono hgp3)
      clear hv3 hUx hB3 hv5 hz5 hb5 hv6 hz6 hb6 hbx hby f3 hp3 hgp3
      go_wp2_with ((with_reducible refine wpList_at ?_); refine wpList_loadG (by rfl) 27 (.tmp 5) (by rfl) _ Try.underlying27 p cs (by rfl) hvB fB.info ?_)
      refine (HO2.out _ hUB).mono ?_
      rintro e w3 ⟨u3, rfl, hU3, hb3⟩
      obtain ⟨c3, rfl, f3, hU3⟩ := hU3.five
      have hv3 := hvB.on hb3
      have hUx := hUB.below hb3
      have hB3 : Below g w w3 := hBB.trans (hb3.mono (hg ▸ hBB.size))
      obtain ⟨p3, hp3⟩ : ∃ p3, w3.heap.size = p3 := ⟨_, rfl⟩
      have hgp3 : g ≤ p3 := by have := hB3.size; omega
      clear hvB hUB hBB hb3 hU3 HO2
      go_upto_region 12 with (first
        | ((with_reducible refine wpList_at ?_); refine wpList_allocG (by rfl) 27 (by rfl) 5 _ zeroBook ?_; rw [hp3]; intro w5 hv5 hz5 hb5)
        | ((with_reducible refine wpList_at ?_); refine wpList_wholeG (by rfl) 27 (.tmp 11) (.tmp 40) (by rfl) p3 bzero c3 (by rfl) (by rfl) hv5 f3.info f3.size f3.one ?_; intro w6 hv6 hz6 hb6))
      have hbx : Below p3 w3 w6 := hb5.trans (hb6.below (Nat.le_refl _) (by omega))
      have hby : Below w3.heap.size w3 w6 := by rw [hp3]; exact hbx
      have hvB := hv3.on hby
      have hUB := hUx.below hby
      have hBB : Below g w w6 := hB3.trans (hbx.mono hgp3)
      clear hv3 hUx hB3 hv5 hz5 hb5 hv6 hz6 hb6 hbx hby f3 hp3 hgp3
      go_wp2_with fail
      refine (HA0.out _).mono ?_
      rintro e w3 ⟨rfl, hdw⟩
      replace hvB := hvB.on hdw.on
      replace hUB := hUB.below hdw.on
      have hBB := hdw.below hBB
      clear hdw
      go_wp2_with fail
      refine (HPq.out _).mono ?_
      rintro e w0 ⟨rfl, hw0⟩
      subst w0
      have HG1 := hide (fun W (hW : BookV W (.agg cs) (capM 12)) => give_any hW (cap_ok 12) (by omega) (acN 0) tGold 1125899906842623)
      rw [big_facts.1] at HG1
      have HG2 := hide (fun c5 W (hW : BookV W (.agg c5) bigM) => give_any hW big_ok (by omega) (acN 1) tGold 2)
      rw [big_facts.2.2.1] at HG2
      have HTo := hide (fun c9 W (hW : BookV W (.agg c9) (giveM bigM (acN 1) tGold 2)) => total_any hW (give_ok big_ok (acN 1) tGold 2) (by omega) tGold)
      rw [big_facts.2.2.2.2] at HTo
      have HG1' : Hid (∀ W, BookV W (.agg cs) (capM 12) → Calls Try.prog 13 #[.agg cs, .string (acN 0), .string ⟨#[103, 111, 108, 100]⟩, .int .i64 1125899906842623] W fun e w' => ∃ u, e = .returned (.tuple #[u, .int .i64 0]) ∧ BookV w' u bigM ∧ Below W.heap.size W w') := HG1
      have HG2' : Hid (∀ c5 W, BookV W (.agg c5) bigM → Calls Try.prog 13 #[.agg c5, .string (acN 1), .string ⟨#[103, 111, 108, 100]⟩, .int .i64 2] W fun e w' => ∃ u, e = .returned (.tuple #[u, .int .i64 3]) ∧ BookV w' u (giveM bigM (acN 1) tGold 2) ∧ Below W.heap.size W w') := HG2
      have HTo' : Hid (∀ c9 W, BookV W (.agg c9) (giveM bigM (acN 1) tGold 2) → Calls Try.prog 17 #[.agg c9, .string ⟨#[103, 111, 108, 100]⟩] W fun e w' => e = .returned (.int .i64 1125899906842623) ∧ Below W.heap.size W w') := HTo
      clear HG1 HG2 HTo
      go_wp2_with ((with_reducible refine wpList_at ?_); refine wpList_loadG (by rfl) 27 (.tmp 5) (by rfl) _ Try.underlying27 p cs (by rfl) hvB fB.info ?_)
      refine (HG1'.out _ hUB).mono ?_
      rintro e w3 ⟨u3, rfl, hU3, hb3⟩
      have hv3 := hvB.on hb3
      have hB3 : Below g w w3 := hBB.trans (hb3.mono (hg ▸ hBB.size))
      obtain ⟨c5, rfl, f5, hU3⟩ := hU3.five
      clear hvB hUB hBB hb3 HG1'
      go_upto_region 26 with ((with_reducible refine wpList_at ?_); refine wpList_wholeG (by rfl) 27 (.tmp 5) (.tmp 105) (by rfl) p cs c5 (by rfl) (by rfl) hv3 f5.info (by rw [f5.size, fB.size]) f5.one ?_; intro w5 hv5 hz5 hb5)
      have hU5 : BookV w5 (.agg c5) bigM := hU3.but hv3 fB.noText hb5
      have hB5 : Below g w w5 := hB3.trans (hb5.below hgp (hg ▸ hB3.size))
      clear hU3 hv3 hB3 hb5 hz5 fB
      have HG2 := hide (HG2'.out c5)
      clear HG2'
      have hRw : Below w5.heap.size w5 w5.drew := ⟨rfl, rfl, rfl, Nat.le_refl _, fun _ _ => rfl⟩
      refine wp_region_held_drew (S := fun W => Below w5.heap.size w5 W) (by kernel_rfl) hRw (fun hHeld => ?_)
      refine wpAnyH_take (i := 0) (oi := { dst := some 108, op := Op.load 27 (Operand.tmp 5), type := 27, pos := "outright.go:36", after := #[], guard := none }) (v := .agg c5) rfl (by kernel_rfl) (by kernel_rfl) (by kernel_rfl) (fun _ _ _ h => h) (yields_loadG (by rfl) 27 (.tmp 5) (by rfl) _ Try.underlying27 p c5 (by rfl) f5.info (fun W hW => hv5.on hW)) (by assumption) ?_
      try simp only [Act.put, List.setIfInBounds_toArray, List.set_cons_zero, List.set_cons_succ]
      refine wpAnyH_take (i := 2) (oi := { dst := some 110, op := Op.move (Operand.tmp 6), type := 3, pos := "outright.go:36", after := #[], guard := none }) (v := .int .i64 1) rfl (by kernel_rfl) (by kernel_rfl) (by kernel_rfl) (fun _ _ _ h => h) (Or.inl ⟨by rfl, ?_⟩) (by assumption) ?_
      · intro W hSW; first | (go_simp; done) | (go_simp; with_reducible rfl) | (go_simp; rfl)
      try simp only [Act.put, List.setIfInBounds_toArray, List.set_cons_zero, List.set_cons_succ]
      refine wpAnyH_take (i := 3) (oi := { dst := some 111, op := Op.binOp BinOp.add 3 (Operand.const (Value.int IntKind.i64 1)) (Operand.tmp 110) 3, type := 3, pos := "outright.go:36", after := #[{ on := 2, ground := Ground.data }], guard := none }) (v := .int .i64 2) rfl (by kernel_rfl) (by kernel_rfl) (by kernel_rfl) (fun _ _ _ h => h) (Or.inl ⟨by rfl, ?_⟩) (by assumption) ?_
      · intro W hSW; first | (go_simp; done) | (go_simp; with_reducible rfl) | (go_simp; rfl)
      try simp only [Act.put, List.setIfInBounds_toArray, List.set_cons_zero, List.set_cons_succ]
      refine wpAnyH_c2b (R := fun W => Below w5.heap.size w5 W) (R' := fun p9 W => Below w5.heap.size w5 W ∧ ∃ gk, w5.heap.size ≤ gk ∧ p9 = Value.pointer (some ⟨gk, 0, none⟩) ∧ VAt W 27 gk bzero) (T := fun u W => Below w5.heap.size w5 W ∧ ∃ u1, u = Value.tuple #[u1, .int .i64 3] ∧ BookV W u1 (giveM bigM (acN 1) tGold 2)) (T' := fun p9 u W => Below w5.heap.size w5 W ∧ (∃ u1, u = Value.tuple #[u1, .int .i64 3] ∧ BookV W u1 (giveM bigM (acN 1) tGold 2)) ∧ ∃ gk, w5.heap.size ≤ gk ∧ p9 = Value.pointer (some ⟨gk, 0, none⟩) ∧ VAt W 27 gk bzero) (i1 := 1) (i2 := 4) (k := 8) (o1 := { dst := some 109, op := Op.call { callee := Callee.value (Operand.func 15), args := #[Operand.const (Value.int IntKind.i64 1)], argTypes := #[3] }, type := 9, pos := "outright.go:36", after := #[], guard := none }) (o2 := { dst := some 112, op := Op.call { callee := Callee.value (Operand.func 13), args := #[Operand.tmp 108, Operand.tmp 109, Operand.const (Value.string { data := #[103, 111, 108, 100] }), Operand.tmp 111], argTypes := #[27, 9, 9, 3] }, type := 30, pos := "outright.go:36", after := #[{ on := 0, ground := Ground.data }, { on := 1, ground := Ground.data }, { on := 3, ground := Ground.data }, { on := 1, ground := Ground.chain }], guard := none }) (ok := { dst := some 15, op := Op.alloc 27, type := 0, pos := "outright.go:36", after := #[], guard := none }) (v1 := .string (acN 1)) (by kernel_rfl) (by kernel_rfl) (by kernel_rfl) (by kernel_rfl) rfl rfl rfl rfl rfl rfl rfl rfl rfl (fun _ => rfl) (fun _ _ => rfl) hRw (fun _ h => h) (fun _ _ h => h.1) (fun _ _ h => h.1) (fun _ _ _ h => h.1) ?_ ?_ ?_ ?_ (gives_allocG rfl 27 rfl 5 _ zeroBook (fun W hW W1 hv9 hb => ⟨below_then hW hb, W.heap.size, hW.size, rfl, hv9⟩)) ?_ ?_
      · intro W hW K hK
        go_simp
        refine (HA1.out W).mono ?_
        rintro e W2 ⟨rfl, hdw⟩
        go_wp2_with fail
        exact hK.out _ (hdw.below hW)
      · intro p9 W hW K hK
        obtain ⟨hW1, gk, hgk, rfl, hv9⟩ := hW
        go_simp
        refine (HA1.out W).mono ?_
        rintro e W2 ⟨rfl, hdw⟩
        go_wp2_with fail
        exact hK.out _ ⟨hdw.below hW1, gk, hgk, rfl, hv9.on hdw.on⟩
      · intro W hW K hK
        go_simp
        refine (HG2.out W (hU5.below hW)).mono ?_
        rintro e W2 ⟨u1, rfl, hU1, hb9⟩
        go_wp2_with fail
        exact hK.out _ _ ⟨below_then hW hb9, u1, rfl, hU1⟩
      · intro p9 W hW K hK
        obtain ⟨hW1, gk, hgk, rfl, hv9⟩ := hW
        go_simp
        refine (HG2.out W (hU5.below hW1)).mono ?_
        rintro e W2 ⟨u1, rfl, hU1, hb9⟩
        go_wp2_with fail
        exact hK.out _ _ ⟨below_then hW1 hb9, ⟨u1, rfl, hU1⟩, gk, hgk, rfl, hv9.on hb9⟩
      · intro u9 W9 hT9 hHeld
        obtain ⟨hb9, u1, rfl, hU9⟩ := hT9
        obtain ⟨c9, rfl, f9, hU9⟩ := hU9.five
        try simp only [Act.put, List.setIfInBounds_toArray, List.set_cons_zero, List.set_cons_succ]
        refine wpAnyH_take (i := 5) (oi := { dst := some 107, op := Op.move (Operand.tmp 112), type := 30, pos := "outright.go:36", after := #[{ on := 4, ground := Ground.data }], guard := none }) (v := ?_) rfl (by kernel_rfl) (by kernel_rfl) (by kernel_rfl) (fun _ _ _ h => h) (Or.inl ⟨by rfl, ?_⟩) (by assumption) ?_
        rotate_left
        · intro W hSW; first | (go_simp; done) | (go_simp; with_reducible rfl) | (go_simp; rfl)
        try simp only [Act.put, List.setIfInBounds_toArray, List.set_cons_zero, List.set_cons_succ]
        refine wpAnyH_take (i := 6) (oi := { dst := some 113, op := Op.extract (Operand.tmp 107) 0, type := 27, pos := "outright.go:36", after := #[{ on := 5, ground := Ground.data }], guard := none }) (v := ?_) rfl (by kernel_rfl) (by kernel_rfl) (by kernel_rfl) (fun _ _ _ h => h) (Or.inl ⟨by rfl, ?_⟩) (by assumption) ?_
        rotate_left
        · intro W hSW; first | (go_simp; done) | (go_simp; with_reducible rfl) | (go_simp; rfl)
        try simp only [Act.put, List.setIfInBounds_toArray, List.set_cons_zero, List.set_cons_succ]
        refine wpAnyH_take (i := 7) (oi := { dst := some 114, op := Op.extract (Operand.tmp 107) 1, type := 29, pos := "outright.go:36", after := #[{ on := 5, ground := Ground.data }, { on := 9, ground := Ground.gcOnly Departure.lateStores }], guard := none }) (v := ?_) rfl (by kernel_rfl) (by kernel_rfl) (by kernel_rfl) (fun _ _ _ h => h) (Or.inl ⟨by rfl, ?_⟩) (by assumption) ?_
        rotate_left
        · intro W hSW; first | (go_simp; done) | (go_simp; with_reducible rfl) | (go_simp; rfl)
        try simp only [Act.put, List.setIfInBounds_toArray, List.set_cons_zero, List.set_cons_succ]
        refine wpAnyH_loneE (T := fun p9 W => Below w5.heap.size w5 W ∧ (∃ gk, w5.heap.size ≤ gk ∧ p9 = Value.pointer (some ⟨gk, 0, none⟩) ∧ VAt W 27 gk bzero) ∧ BookV W (.agg c9) (giveM bigM (acN 1) tGold 2)) (i := 8) (oi := { dst := some 15, op := Op.alloc 27, type := 0, pos := "outright.go:36", after := #[], guard := none }) (by kernel_rfl) rfl (fun _ _ h => h.1) ?_ ?_
        · intro K hK
          exact gives_allocG (R := fun W => W = W9) (R' := fun p9 W => Below w5.heap.size w5 W ∧ (∃ gk, w5.heap.size ≤ gk ∧ p9 = Value.pointer (some ⟨gk, 0, none⟩) ∧ VAt W 27 gk bzero) ∧ BookV W (.agg c9) (giveM bigM (acN 1) tGold 2)) rfl 27 rfl 5 _ zeroBook (fun W hW W1 hv9 hb => by subst hW; exact ⟨below_then hb9 hb, ⟨_, hb9.size, rfl, hv9⟩, hU9.below hb⟩) _ _ rfl K hK
        intro p9 W10 hT9 hHeld
        clear hb9 hU9
        obtain ⟨hb9, ⟨gk, hgk, rfl, hv9⟩, hU9⟩ := hT9
        try simp only [Act.put, List.setIfInBounds_toArray, List.set_cons_zero, List.set_cons_succ]
        refine wpAnyH_loneE (T := fun _ W => Below w5.heap.size w5 W ∧ VAt W 27 gk c9 ∧ BookV W (.agg c9) (giveM bigM (acN 1) tGold 2)) (i := 9) (oi := { dst := none, op := Op.store 27 (Operand.tmp 15) (Operand.tmp 113), type := 0, pos := "outright.go:36", after := #[{ on := 8, ground := Ground.data }, { on := 6, ground := Ground.data }, { on := 4, ground := Ground.chain }, { on := 0, ground := Ground.phase }, { on := 1, ground := Ground.phase }, { on := 2, ground := Ground.phase }, { on := 3, ground := Ground.phase }, { on := 4, ground := Ground.phase }, { on := 5, ground := Ground.phase }, { on := 6, ground := Ground.phase }, { on := 7, ground := Ground.textOnly Departure.lateStores }, { on := 8, ground := Ground.phase }], guard := none }) (by kernel_rfl) rfl (fun _ _ h => h.1) ?_ ?_
        · intro K hK
          refine step_wholeG (by rfl) 27 (.tmp 15) (.tmp 113) (by rfl) gk bzero c9 (by rfl) (by rfl) hv9 f9.info f9.size f9.one ?_
          intro w8 hv8 hz8 hb8
          exact hK.out undef _ ⟨hb9.trans (hb8.below hgk hb9.size), hv8, hU9.but hv9 noText_z hb8⟩
        intro us W10 hqs hHeld
        clear hb9 hv9 hU9
        obtain ⟨hb9, hv9, hU9⟩ := hqs
        try simp only [Act.put]
        refine wpAnyH_take (i := 10) (oi := { dst := some 10, op := Op.assign (Operand.tmp 114), type := 29, pos := "outright.go:36", after := #[{ on := 7, ground := Ground.data }, { on := 9, ground := Ground.chain }, { on := 0, ground := Ground.phase }, { on := 1, ground := Ground.phase }, { on := 2, ground := Ground.phase }, { on := 3, ground := Ground.phase }, { on := 4, ground := Ground.phase }, { on := 5, ground := Ground.phase }, { on := 6, ground := Ground.phase }, { on := 7, ground := Ground.phase }, { on := 8, ground := Ground.phase }, { on := 9, ground := Ground.phase }], guard := none }) (v := ?_) rfl (by kernel_rfl) (by kernel_rfl) (by kernel_rfl) (fun _ _ _ h => h) (Or.inl ⟨by rfl, ?_⟩) (by assumption) ?_
        rotate_left
        · intro W hSW; first | (go_simp; done) | (go_simp; with_reducible rfl) | (go_simp; rfl)
        try simp only [Act.put, List.setIfInBounds_toArray, List.set_cons_zero, List.set_cons_succ]
        refine wpAnyH_done (by kernel_rfl) ?_ _
        have hs5 : g ≤ w5.heap.size := by have := hB5.size; omega
        have hB9 : Below g w _ := hB5.trans (hb9.mono hs5)
        clear hB5 hb9 hv5 hU5 HG2 hHeld
        go_wp2_with ((with_reducible refine wpList_at ?_); refine wpList_loadG (by rfl) 27 (.tmp 15) (by rfl) _ Try.underlying27 gk c9 (by rfl) hv9 f9.info ?_)
        refine (HTo'.out _ _ hU9).mono ?_
        rintro e w7 ⟨rfl, hb7⟩
        have hB7 : Below g w w7 := hB9.trans (hb7.mono (hg ▸ hB9.size))
        clear hB9 hb7 hv9 hU9 f9
        go_wp2_with fail
        refine (awake9_any _).mono ?_
        rintro e w8 ⟨rfl, hb8⟩
        have hB8 := hide (hB7.trans (hb8.mono (hg ▸ hB7.size)))
        clear hB7 hb8
        go_wp2
        go_ret
        exact ⟨rfl, hB8.out⟩
      · intro p9 u9 W9 hT9 hHeld
        obtain ⟨hb9, ⟨u1, rfl, hU9⟩, gk, hgk, rfl, hv9⟩ := hT9
        obtain ⟨c9, rfl, f9, hU9⟩ := hU9.five
        try simp only [Act.put, List.setIfInBounds_toArray, List.set_cons_zero, List.set_cons_succ]
        refine wpAnyH_take (i := 5) (oi := { dst := some 107, op := Op.move (Operand.tmp 112), type := 30, pos := "outright.go:36", after := #[{ on := 4, ground := Ground.data }], guard := none }) (v := ?_) rfl (by kernel_rfl) (by kernel_rfl) (by kernel_rfl) (fun _ _ _ h => h) (Or.inl ⟨by rfl, ?_⟩) (by assumption) ?_
        rotate_left
        · intro W hSW; first | (go_simp; done) | (go_simp; with_reducible rfl) | (go_simp; rfl)
        try simp only [Act.put, List.setIfInBounds_toArray, List.set_cons_zero, List.set_cons_succ]
        refine wpAnyH_take (i := 6) (oi := { dst := some 113, op := Op.extract (Operand.tmp 107) 0, type := 27, pos := "outright.go:36", after := #[{ on := 5, ground := Ground.data }], guard := none }) (v := ?_) rfl (by kernel_rfl) (by kernel_rfl) (by kernel_rfl) (fun _ _ _ h => h) (Or.inl ⟨by rfl, ?_⟩) (by assumption) ?_
        rotate_left
        · intro W hSW; first | (go_simp; done) | (go_simp; with_reducible rfl) | (go_simp; rfl)
        try simp only [Act.put, List.setIfInBounds_toArray, List.set_cons_zero, List.set_cons_succ]
        refine wpAnyH_take (i := 7) (oi := { dst := some 114, op := Op.extract (Operand.tmp 107) 1, type := 29, pos := "outright.go:36", after := #[{ on := 5, ground := Ground.data }, { on := 9, ground := Ground.gcOnly Departure.lateStores }], guard := none }) (v := ?_) rfl (by kernel_rfl) (by kernel_rfl) (by kernel_rfl) (fun _ _ _ h => h) (Or.inl ⟨by rfl, ?_⟩) (by assumption) ?_
        rotate_left
        · intro W hSW; first | (go_simp; done) | (go_simp; with_reducible rfl) | (go_simp; rfl)
        try simp only [Act.put, List.setIfInBounds_toArray, List.set_cons_zero, List.set_cons_succ]
        refine wpAnyH_loneE (T := fun _ W => Below w5.heap.size w5 W ∧ VAt W 27 gk c9 ∧ BookV W (.agg c9) (giveM bigM (acN 1) tGold 2)) (i := 9) (oi := { dst := none, op := Op.store 27 (Operand.tmp 15) (Operand.tmp 113), type := 0, pos := "outright.go:36", after := #[{ on := 8, ground := Ground.data }, { on := 6, ground := Ground.data }, { on := 4, ground := Ground.chain }, { on := 0, ground := Ground.phase }, { on := 1, ground := Ground.phase }, { on := 2, ground := Ground.phase }, { on := 3, ground := Ground.phase }, { on := 4, ground := Ground.phase }, { on := 5, ground := Ground.phase }, { on := 6, ground := Ground.phase }, { on := 7, ground := Ground.textOnly Departure.lateStores }, { on := 8, ground := Ground.phase }], guard := none }) (by kernel_rfl) rfl (fun _ _ h => h.1) ?_ ?_
        · intro K hK
          refine step_wholeG (by rfl) 27 (.tmp 15) (.tmp 113) (by rfl) gk bzero c9 (by rfl) (by rfl) hv9 f9.info f9.size f9.one ?_
          intro w8 hv8 hz8 hb8
          exact hK.out undef _ ⟨hb9.trans (hb8.below hgk hb9.size), hv8, hU9.but hv9 noText_z hb8⟩
        intro us W10 hqs hHeld
        clear hb9 hv9 hU9
        obtain ⟨hb9, hv9, hU9⟩ := hqs
        try simp only [Act.put]
        refine wpAnyH_take (i := 10) (oi := { dst := some 10, op := Op.assign (Operand.tmp 114), type := 29, pos := "outright.go:36", after := #[{ on := 7, ground := Ground.data }, { on := 9, ground := Ground.chain }, { on := 0, ground := Ground.phase }, { on := 1, ground := Ground.phase }, { on := 2, ground := Ground.phase }, { on := 3, ground := Ground.phase }, { on := 4, ground := Ground.phase }, { on := 5, ground := Ground.phase }, { on := 6, ground := Ground.phase }, { on := 7, ground := Ground.phase }, { on := 8, ground := Ground.phase }, { on := 9, ground := Ground.phase }], guard := none }) (v := ?_) rfl (by kernel_rfl) (by kernel_rfl) (by kernel_rfl) (fun _ _ _ h => h) (Or.inl ⟨by rfl, ?_⟩) (by assumption) ?_
        rotate_left
        · intro W hSW; first | (go_simp; done) | (go_simp; with_reducible rfl) | (go_simp; rfl)
        try simp only [Act.put, List.setIfInBounds_toArray, List.set_cons_zero, List.set_cons_succ]
        refine wpAnyH_done (by kernel_rfl) ?_ _
        have hs5 : g ≤ w5.heap.size := by have := hB5.size; omega
        have hB9 : Below g w _ := hB5.trans (hb9.mono hs5)
        clear hB5 hb9 hv5 hU5 HG2 hHeld
        go_wp2_with ((with_reducible refine wpList_at ?_); refine wpList_loadG (by rfl) 27 (.tmp 15) (by rfl) _ Try.underlying27 gk c9 (by rfl) hv9 f9.info ?_)
        refine (HTo'.out _ _ hU9).mono ?_
        rintro e w7 ⟨rfl, hb7⟩
        have hB7 : Below g w w7 := hB9.trans (hb7.mono (hg ▸ hB9.size))
        clear hB9 hb7 hv9 hU9 f9
        go_wp2_with fail
        refine (awake9_any _).mono ?_
        rintro e w8 ⟨rfl, hb8⟩
        have hB8 := hide (hB7.trans (hb8.mono (hg ▸ hB7.size)))
        clear hB7 hb8
        go_wp2
        go_ret
        exact ⟨rfl, hB8.out⟩

theorem place2 (v : Int) : ∃ K : Int, (K = 0 ∨ K = 1) ∧ Hid (∀ W, Calls Try.prog 10 #[.int .i64 v, .int .i64 2] W fun e w' => e = .returned (.int .i64 K) ∧ w' = W) := by
  obtain ⟨k, hk, h⟩ := place_ex v 2 (by decide) (by decide)
  exact ⟨k, by omega, h⟩
theorem caps_any (how more : Int) (_w1 : (Lit.int .i64 how).wf = true) (_w2 : (Lit.int .i64 more).wf = true) (w : World) : Calls Try.prog 4 #[.int .i64 how, .int .i64 more] w fun e w' => e = .returned (.bool true) ∧ Below w.heap.size w w' := by
  obtain ⟨K, hK, HPm⟩ := place2 more
  obtain ⟨Q, hQ, HPq⟩ := place2 how
  rcases hK with rfl | rfl <;> rcases hQ with rfl | rfl
  · exact caps_K0_Q0 how more HPm HPq w
  · exact caps_K0_Q1 how more HPm HPq w
  · exact caps_K1_Q0 how more HPm HPq w
  · exact caps_K1_Q1 how more HPm HPq w

end Go.Proofs.Ytiepkablapjpmaa
