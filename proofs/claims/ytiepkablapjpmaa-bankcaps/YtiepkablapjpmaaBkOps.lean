/-
  Package bank: New, Open, Give, Take, Move.
-/
import Derived.Test.YtiepkablapjpmaaBkCatS
namespace Go.Proofs.Ytiepkablapjpmaa
open Go.RowKit

theorem book_nil (W : World) (r : Int) : BookV W (.agg #[.int .i64 r, .int .i64 0, .slice none 0 0, .slice none 0 0, .slice none 0 0]) ⟨r, [], []⟩ :=
  ⟨none, none, 0, 0, rfl, ⟨strs_nil W, funds_nil W none, ⟨Nat.le_refl _, by unfold maxLen; omega⟩, ⟨Nat.le_refl _, by unfold maxLen; omega⟩, fun _ => rfl, fun _ => rfl, fun ad h => (by cases h), fun ad h => (by cases h)⟩⟩
theorem giveE_bal {M : BookM} {a s : ByteArray} {n : Int} (h : amountB n = true) (hb : balE M a s ≠ 0) : giveE M a s n = balE M a s := by
  unfold giveE balE at *
  cases h1 : nameB s with
  | false => rw [h]; rfl
  | true =>
    rw [h]
    cases h2 : inL a M.accs with
    | false => rfl
    | true => rw [h1, h2] at hb; exact absurd rfl hb
theorem takeE_bal {M : BookM} {a s : ByteArray} {n : Int} (h : amountB n = true) (hb : balE M a s ≠ 0) : takeE M a s n = balE M a s := by
  unfold takeE balE at *
  cases h1 : nameB s with
  | false => rw [h]; rfl
  | true =>
    rw [h]
    cases h2 : inL a M.accs with
    | false => rfl
    | true => rw [h1, h2] at hb; exact absurd rfl hb
theorem balE_zero {M : BookM} {a s : ByteArray} (h : balE M a s = 0) : nameB s = true ∧ inL a M.accs = true := by
  unfold balE at h
  cases h1 : nameB s with
  | false => rw [h1] at h; exact absurd h (by simp)
  | true =>
    cases h2 : inL a M.accs with
    | false => rw [h1, h2] at h; exact absurd h (by simp)
    | true => exact ⟨rfl, rfl⟩
theorem amount_no {M : BookM} {a s : ByteArray} {n : Int} (h : amountB n = false) : giveE M a s n = 1 ∧ takeE M a s n = 1 := by
  unfold giveE takeE
  rw [h, Bool.and_false]
  exact ⟨rfl, rfl⟩

set_option maxRecDepth 10000 in
set_option maxHeartbeats 1000000 in
theorem new_any (n : Int) (w : World) : Calls Try.prog 8 #[.int .i64 n] w fun e w' => ∃ u, e = .returned u ∧ BookV w' u (newM n) ∧ Below w.heap.size w w' := by
  obtain ⟨g, hg⟩ : ∃ g, w.heap.size = g := ⟨_, rfl⟩
  rw [hg]
  obtain ⟨r, hr⟩ : ∃ r, (newM n).number = r := ⟨_, rfl⟩
  have hr1 : (if 3 < (if n < 0 then 0 else n) then 3 else (if n < 0 then 0 else n)) = r := by
    rw [← hr]; show _ = min (max n 0) 3; (repeat' split) <;> omega
  have hM : Hid (newM n = ⟨r, [], []⟩) := by show _ = _; rw [← hr]; rfl
  clear hr
  have hc := hide (fun W => book_nil W r)
  have one5 : ∀ (r : Int) (u : Value), u ∈ (#[Value.int .i64 r, .int .i64 0, .slice none 0 0, .slice none 0 0, .slice none 0 0] : Array Value).toList → u.oneCell' = true := by
    intro r u hu
    simp at hu
    rcases hu with rfl | rfl | rfl <;> rfl
  replace one5 := one5 r
  by_cases c1 : n < 0
  · have hrv : r = 0 := by rw [← hr1]; (repeat' split) <;> omega
    rw [hrv] at hM hc one5
    clear hr1 hrv
    go_enter Try.func8, Try.ntmps8
    go_wp2_with (first
      | ((with_reducible refine wpList_at ?_); refine wpList_allocG (by rfl) 27 (by rfl) 5 _ zeroBook ?_; rw [hg]; intro w1 hv1 hz1 hb1)
      | ((with_reducible refine wpList_at ?_); refine wpList_wholeG (by rfl) 27 (.tmp 2) (.tmp 6) (by rfl) g bzero #[.int .i64 0, .int .i64 0, .slice none 0 0, .slice none 0 0, .slice none 0 0] (by rfl) (by rfl) hv1 sizeBook (by rfl) one5 ?_; intro w8 hv8 hz8 hb8))
    refine bodyPost_ret (v := .agg _) (results_cell (fn := Try.f8) Try.results8 _ _ g _ _ (by rfl) hv8 Try.underlying27 sizeBook) rfl ?_
    exact ⟨_, rfl, by rw [hM.out]; exact hc.out w8, hb1.trans (hb8.below (Nat.le_refl _) (by omega))⟩
  by_cases c2 : 3 < n
  · have hrv : r = 3 := by rw [← hr1]; (repeat' split) <;> omega
    rw [hrv] at hM hc one5
    clear hr1 hrv
    go_enter Try.func8, Try.ntmps8
    go_wp2_with (first
      | ((with_reducible refine wpList_at ?_); refine wpList_allocG (by rfl) 27 (by rfl) 5 _ zeroBook ?_; rw [hg]; intro w1 hv1 hz1 hb1)
      | ((with_reducible refine wpList_at ?_); refine wpList_wholeG (by rfl) 27 (.tmp 2) (.tmp 6) (by rfl) g bzero #[.int .i64 3, .int .i64 0, .slice none 0 0, .slice none 0 0, .slice none 0 0] (by rfl) (by rfl) hv1 sizeBook (by rfl) one5 ?_; intro w8 hv8 hz8 hb8))
    refine bodyPost_ret (v := .agg _) (results_cell (fn := Try.f8) Try.results8 _ _ g _ _ (by rfl) hv8 Try.underlying27 sizeBook) rfl ?_
    exact ⟨_, rfl, by rw [hM.out]; exact hc.out w8, hb1.trans (hb8.below (Nat.le_refl _) (by omega))⟩
  · have hrv : r = n := by rw [← hr1]; (repeat' split) <;> omega
    rw [hrv] at hM hc one5
    clear hr1 hrv
    go_enter Try.func8, Try.ntmps8
    go_wp2_with (first
      | ((with_reducible refine wpList_at ?_); refine wpList_allocG (by rfl) 27 (by rfl) 5 _ zeroBook ?_; rw [hg]; intro w1 hv1 hz1 hb1)
      | ((with_reducible refine wpList_at ?_); refine wpList_wholeG (by rfl) 27 (.tmp 2) (.tmp 6) (by rfl) g bzero #[.int .i64 n, .int .i64 0, .slice none 0 0, .slice none 0 0, .slice none 0 0] (by rfl) (by rfl) hv1 sizeBook (by rfl) one5 ?_; intro w8 hv8 hz8 hb8))
    refine bodyPost_ret (v := .agg _) (results_cell (fn := Try.f8) Try.results8 _ _ g _ _ (by rfl) hv8 Try.underlying27 sizeBook) rfl ?_
    exact ⟨_, rfl, by rw [hM.out]; exact hc.out w8, hb1.trans (hb8.below (Nat.le_refl _) (by omega))⟩

set_option maxRecDepth 10000 in
set_option maxHeartbeats 4000000 in
theorem give_any {w : World} {v : Value} {M : BookM} {k : Nat} (hv : BookV w v M) (hok : BookOk M k) (hk : k ≤ 500) (a s : ByteArray) (n : Int) : Calls Try.prog 13 #[v, .string a, .string s, .int .i64 n] w fun e w' => ∃ u, e = .returned (.tuple #[u, .int .i64 (giveE M a s n)]) ∧ BookV w' u (giveM M a s n) ∧ Below w.heap.size w w' := by
  obtain ⟨g, hg⟩ : ∃ g, w.heap.size = g := ⟨_, rfl⟩
  rw [hg]
  have HV : Hid (∀ W, Below g w W → BookV W v M) := fun W hW => hv.below (by rw [hg]; exact hW)
  have HBal : Hid (∀ W, Below g w W → Calls Try.prog 11 #[v, .string a, .string s] W fun e w' => e = .returned (.tuple #[.int .i64 (balM M a s), .int .i64 (balE M a s)]) ∧ Below W.heap.size W w') := fun W hW => balance_any (HV.out W hW) hok hk a s
  have HAm : Hid (∀ W, Calls Try.prog 26 #[.int .i64 n] W fun e w' => e = .returned (.bool (amountB n)) ∧ w' = W) := fun W => bamount_any n W
  have HRm : Hid (∀ W, Below g w W → Calls Try.prog 28 #[v, .string s] W fun e w' => e = .returned (.bool (roomM M s)) ∧ Below W.heap.size W w') := fun W hW => room_any (HV.out W hW) hok hk s
  have HTo : Hid (∀ W, Below g w W → Calls Try.prog 17 #[v, .string s] W fun e w' => e = .returned (.int .i64 (totalL M.funds s)) ∧ Below W.heap.size W w') := fun W hW => total_any (HV.out W hW) hok hk s
  have HWi : Hid (amountB n = true → ∀ W, Below g w W → Calls Try.prog 27 #[v, .string a, .string s, .int .i64 n] W fun e w' => ∃ u, e = .returned u ∧ BookV w' u (putM M a s (amtOf M.funds a s + n)) ∧ Below W.heap.size W w') := fun hn W hW => by
    have := amountB_iff.1 hn
    exact with_any (HV.out W hW) hok hk a s n _ rfl (by omega) (by omega)
  have htb := (total_bounds hok.pos s).1
  obtain ⟨E, hE⟩ : ∃ E, giveE M a s n = E := ⟨_, rfl⟩
  obtain ⟨R, hR⟩ : ∃ R, giveM M a s n = R := ⟨_, rfl⟩
  rw [hE, hR]
  have hR' : R = bif decide (E = 0) then putM M a s (amtOf M.funds a s + n) else M := by rw [← hR, ← hE]; rfl
  replace hR' := hide hR'
  replace hE := hide hE
  clear hR hok
  obtain ⟨aa, fa, ac, fc, rfl, _⟩ := hv
  go_enter Try.func13, Try.ntmps13
  go_upto_region 1 with (first
    | ((with_reducible refine wpList_at ?_); refine wpList_boxv (by rfl) 27 (.tmp 0) (by rfl) _ (by rfl) ?_; rw [hg]; intro w1 hu1 hz1 hb1)
    | ((with_reducible refine wpList_at ?_); refine wpList_allocG (by rfl) 27 (by rfl) 5 _ zeroBook ?_; rw [hz1]; intro w2 hv2 hz2 hb2))
  have hx2 : VAt w2 27 g (bcells aa fa ac fc M) := VAt.below (w := w1) hu1 hb2 (by omega)
  have hB2 : Below g w w2 := hb1.trans (hb2.mono (by omega))
  have hs2 : g + 2 ≤ w2.heap.size := by omega
  clear hu1 hb1 hb2 hz1 hz2
  go_wp2_with ((with_reducible refine wpList_at ?_); refine wpList_loadG (by rfl) 27 (.tmp 4) (by rfl) _ Try.underlying27 g (bcells aa fa ac fc M) (by rfl) hx2 sizeBook ?_)
  refine (HBal.out _ hB2).mono ?_
  rintro e w3 ⟨rfl, hb3⟩
  have hx3 := hx2.below hb3 (by omega)
  have hv3 := hv2.below hb3 (by omega)
  have hB3 : Below g w w3 := hB2.trans (hb3.mono (by omega))
  have hs3 : g + 2 ≤ w3.heap.size := by have := hb3.size; omega
  clear hx2 hv2 hB2 hb3 hs2
  clear HBal
  obtain ⟨be, hbe⟩ : ∃ be, balE M a s = be := ⟨_, rfl⟩
  obtain ⟨bm, hbm⟩ : ∃ bm, balM M a s = bm := ⟨_, rfl⟩
  rw [hbe, hbm]
  replace hbe := hide hbe
  clear hbm
  go_wp2_with fail
  refine (HAm.out _).mono ?_
  rintro e w0 ⟨rfl, hw0⟩
  subst w0
  cases c1 : amountB n with
  | false =>
    have hE : Hid (E = 1) := by show _ = _; rw [← hE.out, (amount_no c1).1]
    have hR : Hid (R = M) := by show _ = _; rw [hR'.out, hE.out]; rfl
    go_wp2_with (first
      | ((with_reducible refine wpList_at ?_); refine wpList_loadG (by rfl) 27 (.tmp 4) (by rfl) _ Try.underlying27 g (bcells aa fa ac fc M) (by rfl) hx3 sizeBook ?_)
      | ((with_reducible refine wpList_at ?_); refine wpList_wholeG (by rfl) 27 (.tmp 8) (.tmp 23) (by rfl) (g + 1) bzero (bcells aa fa ac fc M) (by rfl) (by rfl) hv3 sizeBook (by rfl) (bcells_one _ _ _ _ _) ?_; intro w8 hv8 hz8 hb8))
    refine bodyPost_ret (v := .tuple #[.agg (bcells aa fa ac fc M), .int .i64 1]) (results_cell_slot (fn := Try.f13) Try.results13 _ _ (g + 1) (bcells aa fa ac fc M) _ _ (by rfl) (by rfl) hv8 Try.underlying27 sizeBook) rfl ?_
    have hB8 : Below g w w8 := hB3.trans (hb8.below (by omega) (by omega))
    exact ⟨_, by rw [hE.out], by rw [hR.out]; exact HV.out _ hB8, hB8⟩
  | true =>
    have HW := hide (HWi.out c1)
    by_cases c2 : be = 0
    · have t2 : (be != 0) = false := by rw [c2]; rfl
      obtain ⟨hnm, hac⟩ := balE_zero (hbe.out.trans c2)
      have hE1 : Hid (E = bif !roomM M s then 7 else bif decide (1125899906842624 < totalL M.funds s + n) then 3 else 0) := by show _ = _; rw [← hE.out]; unfold giveE; rw [hnm, c1, hac]; rfl
      replace c2 := hide c2
      have hn := amountB_iff.1 c1
      have hn0 := hn.1
      have hn1 := hn.2
      clear hn hnm hac
      go_wp2_with ((with_reducible refine wpList_at ?_); refine wpList_loadG (by rfl) 27 (.tmp 4) (by rfl) _ Try.underlying27 g (bcells aa fa ac fc M) (by rfl) hx3 sizeBook ?_)
      refine (HRm.out _ hB3).mono ?_
      rintro e w4 ⟨rfl, hb4⟩
      have hx4 := hx3.below hb4 (by omega)
      have hv4 := hv3.below hb4 (by omega)
      have hB4 : Below g w w4 := hB3.trans (hb4.mono (by omega))
      have hs4 : g + 2 ≤ w4.heap.size := by have := hb4.size; omega
      clear hx3 hv3 hB3 hb4 hs3
      cases c3 : roomM M s with
      | false =>
        rw [c3] at hE1
        have hE : Hid (E = 7) := hE1.out
        have hR : Hid (R = M) := by show _ = _; rw [hR'.out, hE.out]; rfl
        go_wp2_with (first
          | ((with_reducible refine wpList_at ?_); refine wpList_loadG (by rfl) 27 (.tmp 4) (by rfl) _ Try.underlying27 g (bcells aa fa ac fc M) (by rfl) hx4 sizeBook ?_)
          | ((with_reducible refine wpList_at ?_); refine wpList_wholeG (by rfl) 27 (.tmp 8) (.tmp 34) (by rfl) (g + 1) bzero (bcells aa fa ac fc M) (by rfl) (by rfl) hv4 sizeBook (by rfl) (bcells_one _ _ _ _ _) ?_; intro w8 hv8 hz8 hb8))
        refine bodyPost_ret (v := .tuple #[.agg (bcells aa fa ac fc M), .int .i64 7]) (results_cell_slot (fn := Try.f13) Try.results13 _ _ (g + 1) (bcells aa fa ac fc M) _ _ (by rfl) (by rfl) hv8 Try.underlying27 sizeBook) rfl ?_
        have hB8 : Below g w w8 := hB4.trans (hb8.below (by omega) (by omega))
        exact ⟨_, by rw [hE.out], by rw [hR.out]; exact HV.out _ hB8, hB8⟩
      | true =>
        rw [c3] at hE1
        go_wp2_with ((with_reducible refine wpList_at ?_); refine wpList_loadG (by rfl) 27 (.tmp 4) (by rfl) _ Try.underlying27 g (bcells aa fa ac fc M) (by rfl) hx4 sizeBook ?_)
        refine (HTo.out _ hB4).mono ?_
        rintro e w5 ⟨rfl, hb5⟩
        have hx5 := hx4.below hb5 (by omega)
        have hv5 := hv4.below hb5 (by omega)
        have hB5 : Below g w w5 := hB4.trans (hb5.mono (by omega))
        have hs5 : g + 2 ≤ w5.heap.size := by have := hb5.size; omega
        clear hx4 hv4 hB4 hb5 hs4
        obtain ⟨t, ht⟩ : ∃ t, totalL M.funds s = t := ⟨_, rfl⟩
        rw [ht] at hE1 htb ⊢
        clear ht
        by_cases c4 : 1125899906842624 < t + n
        · rw [decide_eq_true c4] at hE1
          have hE : Hid (E = 3) := hE1.out
          have hR : Hid (R = M) := by show _ = _; rw [hR'.out, hE.out]; rfl
          have c4' : 1125899906842624 - n < t := by omega
          clear c4
          go_wp2_with (first
            | ((with_reducible refine wpList_at ?_); refine wpList_loadG (by rfl) 27 (.tmp 4) (by rfl) _ Try.underlying27 g (bcells aa fa ac fc M) (by rfl) hx5 sizeBook ?_)
            | ((with_reducible refine wpList_at ?_); refine wpList_wholeG (by rfl) 27 (.tmp 8) (.tmp 42) (by rfl) (g + 1) bzero (bcells aa fa ac fc M) (by rfl) (by rfl) hv5 sizeBook (by rfl) (bcells_one _ _ _ _ _) ?_; intro w8 hv8 hz8 hb8))
          refine bodyPost_ret (v := .tuple #[.agg (bcells aa fa ac fc M), .int .i64 3]) (results_cell_slot (fn := Try.f13) Try.results13 _ _ (g + 1) (bcells aa fa ac fc M) _ _ (by rfl) (by rfl) hv8 Try.underlying27 sizeBook) rfl ?_
          have hB8 : Below g w w8 := hB5.trans (hb8.below (by omega) (by omega))
          exact ⟨_, by rw [hE.out], by rw [hR.out]; exact HV.out _ hB8, hB8⟩
        · rw [decide_eq_false c4] at hE1
          have hE : Hid (E = 0) := hE1.out
          have hR : Hid (R = putM M a s (amtOf M.funds a s + n)) := by show _ = _; rw [hR'.out, hE.out]; rfl
          have c4' : ¬ 1125899906842624 - n < t := by omega
          clear c4
          go_wp2_with ((with_reducible refine wpList_at ?_); refine wpList_loadG (by rfl) 27 (.tmp 4) (by rfl) _ Try.underlying27 g (bcells aa fa ac fc M) (by rfl) hx5 sizeBook ?_)
          refine (HW.out _ hB5).mono ?_
          rintro e w6 ⟨u, rfl, hU, hb6⟩
          have hx6 := hx5.below hb6 (by omega)
          have hv6 := hv5.below hb6 (by omega)
          have hB6 : Below g w w6 := hB5.trans (hb6.mono (by omega))
          have hs6 : g + 2 ≤ w6.heap.size := by have := hb6.size; omega
          clear hx5 hv5 hB5 hb6 hs5
          obtain ⟨aa', fa', ac', fc', rfl, L'⟩ := hU
          have hU : BookV w6 (.agg (bcells aa' fa' ac' fc' (putM M a s (amtOf M.funds a s + n)))) (putM M a s (amtOf M.funds a s + n)) := ⟨aa', fa', ac', fc', rfl, L'⟩
          clear L'
          obtain ⟨cs', hcs'⟩ : ∃ cs', cs' = bcells aa' fa' ac' fc' (putM M a s (amtOf M.funds a s + n)) := ⟨_, rfl⟩
          have hsz' : cs'.size = 5 := by rw [hcs']; rfl
          have h1' : ∀ u ∈ cs'.toList, u.oneCell' = true := by rw [hcs']; exact bcells_one _ _ _ _ _
          have hsb' : (Try.prog.info? 27).map (·.size) = some cs'.size := by rw [hsz']; exact sizeBook
          rw [← hcs'] at hU ⊢
          clear hcs'
          go_wp2_with ((with_reducible refine wpList_at ?_); refine wpList_wholeG (by rfl) 27 (.tmp 8) (.tmp 47) (by rfl) (g + 1) bzero cs' (by rfl) (by rfl) hv6 hsb' hsz' h1' ?_; intro w8 hv8 hz8 hb8)
          refine bodyPost_ret (v := .tuple #[.agg cs', .int .i64 0]) (results_cell_slot (fn := Try.f13) Try.results13 _ _ (g + 1) cs' _ _ (by rfl) (by rfl) hv8 Try.underlying27 hsb') rfl ?_
          have hB8 : Below g w w8 := hB6.trans (hb8.below (by omega) (by omega))
          exact ⟨_, by rw [hE.out], by rw [hR.out]; exact hU.but hv6 noText_z hb8, hB8⟩
    · have t2 : (be != 0) = true := by rw [bne_iff_ne]; exact c2
      have hE : Hid (E = be) := by show _ = _; rw [← hE.out, giveE_bal c1 (by rw [hbe.out]; exact c2), hbe.out]
      have hR : Hid (R = M) := by show _ = _; rw [hR'.out, hE.out, decide_eq_false c2]; rfl
      clear c2
      go_wp2_with (first
        | ((with_reducible refine wpList_at ?_); refine wpList_loadG (by rfl) 27 (.tmp 4) (by rfl) _ Try.underlying27 g (bcells aa fa ac fc M) (by rfl) hx3 sizeBook ?_)
        | ((with_reducible refine wpList_at ?_); refine wpList_wholeG (by rfl) 27 (.tmp 8) (.tmp 27) (by rfl) (g + 1) bzero (bcells aa fa ac fc M) (by rfl) (by rfl) hv3 sizeBook (by rfl) (bcells_one _ _ _ _ _) ?_; intro w8 hv8 hz8 hb8))
      refine bodyPost_ret (v := .tuple #[.agg (bcells aa fa ac fc M), .int .i64 be]) (results_cell_slot (fn := Try.f13) Try.results13 _ _ (g + 1) (bcells aa fa ac fc M) _ _ (by rfl) (by rfl) hv8 Try.underlying27 sizeBook) rfl ?_
      have hB8 : Below g w w8 := hB3.trans (hb8.below (by omega) (by omega))
      exact ⟨_, by rw [hE.out], by rw [hR.out]; exact HV.out _ hB8, hB8⟩

set_option maxRecDepth 10000 in
set_option maxHeartbeats 4000000 in
theorem take_any {w : World} {v : Value} {M : BookM} {k : Nat} (hv : BookV w v M) (hok : BookOk M k) (hk : k ≤ 500) (a s : ByteArray) (n : Int) : Calls Try.prog 12 #[v, .string a, .string s, .int .i64 n] w fun e w' => ∃ u, e = .returned (.tuple #[u, .int .i64 (takeE M a s n)]) ∧ BookV w' u (takeM M a s n) ∧ Below w.heap.size w w' := by
  obtain ⟨g, hg⟩ : ∃ g, w.heap.size = g := ⟨_, rfl⟩
  rw [hg]
  have HV : Hid (∀ W, Below g w W → BookV W v M) := fun W hW => hv.below (by rw [hg]; exact hW)
  have HBal : Hid (∀ W, Below g w W → Calls Try.prog 11 #[v, .string a, .string s] W fun e w' => e = .returned (.tuple #[.int .i64 (balM M a s), .int .i64 (balE M a s)]) ∧ Below W.heap.size W w') := fun W hW => balance_any (HV.out W hW) hok hk a s
  have HAm : Hid (∀ W, Calls Try.prog 26 #[.int .i64 n] W fun e w' => e = .returned (.bool (amountB n)) ∧ w' = W) := fun W => bamount_any n W
  have HWi : Hid (amountB n = true → ∀ W, Below g w W → Calls Try.prog 27 #[v, .string a, .string s, .int .i64 (-n)] W fun e w' => ∃ u, e = .returned u ∧ BookV w' u (putM M a s (amtOf M.funds a s - n)) ∧ Below W.heap.size W w') := fun hn W hW => by
    have := amountB_iff.1 hn
    exact with_any (HV.out W hW) hok hk a s (-n) _ (by omega) (by omega) (by omega)
  obtain ⟨E, hE⟩ : ∃ E, takeE M a s n = E := ⟨_, rfl⟩
  obtain ⟨R, hR⟩ : ∃ R, takeM M a s n = R := ⟨_, rfl⟩
  rw [hE, hR]
  have hR' : R = bif decide (E = 0) then putM M a s (amtOf M.funds a s - n) else M := by rw [← hR, ← hE]; rfl
  replace hR' := hide hR'
  replace hE := hide hE
  clear hR hok
  obtain ⟨aa, fa, ac, fc, rfl, _⟩ := hv
  go_enter Try.func12, Try.ntmps12
  go_upto_region 1 with (first
    | ((with_reducible refine wpList_at ?_); refine wpList_boxv (by rfl) 27 (.tmp 0) (by rfl) _ (by rfl) ?_; rw [hg]; intro w1 hu1 hz1 hb1)
    | ((with_reducible refine wpList_at ?_); refine wpList_allocG (by rfl) 27 (by rfl) 5 _ zeroBook ?_; rw [hz1]; intro w2 hv2 hz2 hb2))
  have hx2 : VAt w2 27 g (bcells aa fa ac fc M) := VAt.below (w := w1) hu1 hb2 (by omega)
  have hB2 : Below g w w2 := hb1.trans (hb2.mono (by omega))
  have hs2 : g + 2 ≤ w2.heap.size := by omega
  clear hu1 hb1 hb2 hz1 hz2
  go_wp2_with ((with_reducible refine wpList_at ?_); refine wpList_loadG (by rfl) 27 (.tmp 4) (by rfl) _ Try.underlying27 g (bcells aa fa ac fc M) (by rfl) hx2 sizeBook ?_)
  refine (HBal.out _ hB2).mono ?_
  rintro e w3 ⟨rfl, hb3⟩
  have hx3 := hx2.below hb3 (by omega)
  have hv3 := hv2.below hb3 (by omega)
  have hB3 : Below g w w3 := hB2.trans (hb3.mono (by omega))
  have hs3 : g + 2 ≤ w3.heap.size := by have := hb3.size; omega
  clear hx2 hv2 hB2 hb3 hs2
  clear HBal
  obtain ⟨be, hbe⟩ : ∃ be, balE M a s = be := ⟨_, rfl⟩
  obtain ⟨bm, hbm⟩ : ∃ bm, balM M a s = bm := ⟨_, rfl⟩
  have hbm' : bm = bif decide (be = 0) then amtOf M.funds a s else 0 := by rw [← hbm, ← hbe]; rfl
  rw [hbe, hbm]
  replace hbe := hide hbe
  replace hbm' := hide hbm'
  clear hbm
  go_wp2_with fail
  refine (HAm.out _).mono ?_
  rintro e w0 ⟨rfl, hw0⟩
  subst w0
  cases c1 : amountB n with
  | false =>
    have hE : Hid (E = 1) := by show _ = _; rw [← hE.out, (amount_no c1).2]
    have hR : Hid (R = M) := by show _ = _; rw [hR'.out, hE.out]; rfl
    go_wp2_with (first
      | ((with_reducible refine wpList_at ?_); refine wpList_loadG (by rfl) 27 (.tmp 4) (by rfl) _ Try.underlying27 g (bcells aa fa ac fc M) (by rfl) hx3 sizeBook ?_)
      | ((with_reducible refine wpList_at ?_); refine wpList_wholeG (by rfl) 27 (.tmp 8) (.tmp 23) (by rfl) (g + 1) bzero (bcells aa fa ac fc M) (by rfl) (by rfl) hv3 sizeBook (by rfl) (bcells_one _ _ _ _ _) ?_; intro w8 hv8 hz8 hb8))
    refine bodyPost_ret (v := .tuple #[.agg (bcells aa fa ac fc M), .int .i64 1]) (results_cell_slot (fn := Try.f12) Try.results12 _ _ (g + 1) (bcells aa fa ac fc M) _ _ (by rfl) (by rfl) hv8 Try.underlying27 sizeBook) rfl ?_
    have hB8 : Below g w w8 := hB3.trans (hb8.below (by omega) (by omega))
    exact ⟨_, by rw [hE.out], by rw [hR.out]; exact HV.out _ hB8, hB8⟩
  | true =>
    have HW := hide (HWi.out c1)
    by_cases c2 : be = 0
    · have t2 : (be != 0) = false := by rw [c2]; rfl
      obtain ⟨hnm, hac⟩ := balE_zero (hbe.out.trans c2)
      have hbm : Hid (bm = amtOf M.funds a s) := by show _ = _; rw [hbm'.out, c2]; rfl
      have hE1 : Hid (E = bif decide (bm < n) then 6 else 0) := by show _ = _; rw [← hE.out, hbm.out]; unfold takeE; rw [hnm, c1, hac]; rfl
      replace c2 := hide c2
      have hn := amountB_iff.1 c1
      have hn0 := hn.1
      have hn1 := hn.2
      clear hn hnm hac hbm'
      by_cases c4 : bm < n
      · rw [decide_eq_true c4] at hE1
        have hE : Hid (E = 6) := hE1.out
        have hR : Hid (R = M) := by show _ = _; rw [hR'.out, hE.out]; rfl
        go_wp2_with (first
          | ((with_reducible refine wpList_at ?_); refine wpList_loadG (by rfl) 27 (.tmp 4) (by rfl) _ Try.underlying27 g (bcells aa fa ac fc M) (by rfl) hx3 sizeBook ?_)
          | ((with_reducible refine wpList_at ?_); refine wpList_wholeG (by rfl) 27 (.tmp 8) (.tmp 33) (by rfl) (g + 1) bzero (bcells aa fa ac fc M) (by rfl) (by rfl) hv3 sizeBook (by rfl) (bcells_one _ _ _ _ _) ?_; intro w8 hv8 hz8 hb8))
        refine bodyPost_ret (v := .tuple #[.agg (bcells aa fa ac fc M), .int .i64 6]) (results_cell_slot (fn := Try.f12) Try.results12 _ _ (g + 1) (bcells aa fa ac fc M) _ _ (by rfl) (by rfl) hv8 Try.underlying27 sizeBook) rfl ?_
        have hB8 : Below g w w8 := hB3.trans (hb8.below (by omega) (by omega))
        exact ⟨_, by rw [hE.out], by rw [hR.out]; exact HV.out _ hB8, hB8⟩
      · rw [decide_eq_false c4] at hE1
        have hE : Hid (E = 0) := hE1.out
        have hR : Hid (R = putM M a s (amtOf M.funds a s - n)) := by show _ = _; rw [hR'.out, hE.out]; rfl
        go_wp2_with ((with_reducible refine wpList_at ?_); refine wpList_loadG (by rfl) 27 (.tmp 4) (by rfl) _ Try.underlying27 g (bcells aa fa ac fc M) (by rfl) hx3 sizeBook ?_)
        refine (HW.out _ hB3).mono ?_
        rintro e w4 ⟨u, rfl, hU, hb4⟩
        have hx4 := hx3.below hb4 (by omega)
        have hv4 := hv3.below hb4 (by omega)
        have hB4 : Below g w w4 := hB3.trans (hb4.mono (by omega))
        have hs4 : g + 2 ≤ w4.heap.size := by have := hb4.size; omega
        clear hx3 hv3 hB3 hb4 hs3
        obtain ⟨aa', fa', ac', fc', rfl, L'⟩ := hU
        have hU : BookV w4 (.agg (bcells aa' fa' ac' fc' (putM M a s (amtOf M.funds a s - n)))) (putM M a s (amtOf M.funds a s - n)) := ⟨aa', fa', ac', fc', rfl, L'⟩
        clear L'
        obtain ⟨cs', hcs'⟩ : ∃ cs', cs' = bcells aa' fa' ac' fc' (putM M a s (amtOf M.funds a s - n)) := ⟨_, rfl⟩
        have hsz' : cs'.size = 5 := by rw [hcs']; rfl
        have h1' : ∀ u ∈ cs'.toList, u.oneCell' = true := by rw [hcs']; exact bcells_one _ _ _ _ _
        have hsb' : (Try.prog.info? 27).map (·.size) = some cs'.size := by rw [hsz']; exact sizeBook
        rw [← hcs'] at hU ⊢
        clear hcs'
        go_wp2_with ((with_reducible refine wpList_at ?_); refine wpList_wholeG (by rfl) 27 (.tmp 8) (.tmp 39) (by rfl) (g + 1) bzero cs' (by rfl) (by rfl) hv4 hsb' hsz' h1' ?_; intro w8 hv8 hz8 hb8)
        refine bodyPost_ret (v := .tuple #[.agg cs', .int .i64 0]) (results_cell_slot (fn := Try.f12) Try.results12 _ _ (g + 1) cs' _ _ (by rfl) (by rfl) hv8 Try.underlying27 hsb') rfl ?_
        have hB8 : Below g w w8 := hB4.trans (hb8.below (by omega) (by omega))
        exact ⟨_, by rw [hE.out], by rw [hR.out]; exact hU.but hv4 noText_z hb8, hB8⟩
    · have t2 : (be != 0) = true := by rw [bne_iff_ne]; exact c2
      have hE : Hid (E = be) := by show _ = _; rw [← hE.out, takeE_bal c1 (by rw [hbe.out]; exact c2), hbe.out]
      have hR : Hid (R = M) := by show _ = _; rw [hR'.out, hE.out, decide_eq_false c2]; rfl
      clear c2
      go_wp2_with (first
        | ((with_reducible refine wpList_at ?_); refine wpList_loadG (by rfl) 27 (.tmp 4) (by rfl) _ Try.underlying27 g (bcells aa fa ac fc M) (by rfl) hx3 sizeBook ?_)
        | ((with_reducible refine wpList_at ?_); refine wpList_wholeG (by rfl) 27 (.tmp 8) (.tmp 27) (by rfl) (g + 1) bzero (bcells aa fa ac fc M) (by rfl) (by rfl) hv3 sizeBook (by rfl) (bcells_one _ _ _ _ _) ?_; intro w8 hv8 hz8 hb8))
      refine bodyPost_ret (v := .tuple #[.agg (bcells aa fa ac fc M), .int .i64 be]) (results_cell_slot (fn := Try.f12) Try.results12 _ _ (g + 1) (bcells aa fa ac fc M) _ _ (by rfl) (by rfl) hv8 Try.underlying27 sizeBook) rfl ?_
      have hB8 : Below g w w8 := hB3.trans (hb8.below (by omega) (by omega))
      exact ⟨_, by rw [hE.out], by rw [hR.out]; exact HV.out _ hB8, hB8⟩

end Go.Proofs.Ytiepkablapjpmaa
