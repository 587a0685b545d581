/-
  Package bank: names, accounts, what there is.
-/
import Derived.Test.YtiepkablapjpmaaBkSr
import Derived.Test.YtiepkablapjpmaaBkCat
import Derived.Test.YtiepkablapjpmaaBkIns
namespace Go.Proofs.Ytiepkablapjpmaa
open Go.RowKit

set_option maxHeartbeats 1000000 in
theorem bwithin_any (x a b : Int) (w : World) : Calls Try.prog 39 #[.int .i64 x, .int .i64 a, .int .i64 b] w fun e w' => e = .returned (.bool (decide (a ≤ x ∧ x ≤ b))) ∧ w' = w := by
  obtain ⟨r, hr⟩ : ∃ r, decide (a ≤ x ∧ x ≤ b) = r := ⟨_, rfl⟩
  rw [hr]
  replace hr := hide hr
  by_cases h : a ≤ x
  · have hd : decide (a ≤ x) = true := decide_eq_true h
    have h' := hide h
    clear h
    go_enter Try.func39, Try.ntmps39
    go_wp2
    go_ret
    exact ⟨ret_bool (by rw [← hr.out]; simp [h'.out]), rfl⟩
  · have hd : decide (a ≤ x) = false := decide_eq_false h
    have h' := hide h
    clear h
    go_enter Try.func39, Try.ntmps39
    go_wp2
    go_ret
    exact ⟨ret_bool (by rw [← hr.out]; exact (decide_eq_false (fun h9 => by have := h'.out; omega)).symm), rfl⟩
set_option maxHeartbeats 1000000 in
theorem bname_any (s : ByteArray) (w : World) : Calls Try.prog 22 #[.string s] w fun e w' => e = .returned (.bool (nameB s)) ∧ w' = w := by
  obtain ⟨r, hr⟩ : ∃ r, nameB s = r := ⟨_, rfl⟩
  rw [hr]
  have HW : Hid (∀ W, Calls Try.prog 39 #[.int .i64 (s.size : Int), .int .i64 1, .int .i64 16] W fun e w' => e = .returned (.bool r) ∧ w' = W) := fun W => by
    have h9 := bwithin_any (s.size : Int) 1 16 W
    have e : decide ((1 : Int) ≤ (s.size : Int) ∧ (s.size : Int) ≤ 16) = r := by
      rw [← hr]; unfold nameB
      rw [Bool.eq_iff_iff, decide_eq_true_iff, decide_eq_true_iff]; omega
    rw [e] at h9; exact h9
  clear hr
  go_enter Try.func22, Try.ntmps22
  go_wp2_with fail
  refine (HW.out _).mono ?_
  rintro e w0 ⟨rfl, hw0⟩
  subst w0
  go_wp2
  go_ret
  exact ⟨rfl, rfl⟩
set_option maxHeartbeats 1000000 in
theorem bamount_any (n : Int) (w : World) : Calls Try.prog 26 #[.int .i64 n] w fun e w' => e = .returned (.bool (amountB n)) ∧ w' = w := by
  obtain ⟨r, hr⟩ : ∃ r, amountB n = r := ⟨_, rfl⟩
  rw [hr]
  have HW : Hid (∀ W, Calls Try.prog 39 #[.int .i64 n, .int .i64 1, .int .i64 1125899906842624] W fun e w' => e = .returned (.bool r) ∧ w' = W) := fun W => by
    rw [← hr]; exact bwithin_any n 1 1125899906842624 W
  clear hr
  go_enter Try.func26, Try.ntmps26
  go_wp2_with fail
  refine (HW.out _).mono ?_
  rintro e w0 ⟨rfl, hw0⟩
  subst w0
  go_wp2
  go_ret
  exact ⟨rfl, rfl⟩

set_option maxRecDepth 10000 in
set_option maxHeartbeats 1000000 in
theorem baccount_any {w : World} {v : Value} {M : BookM} (hv : BookV w v M) (a : ByteArray) : Calls Try.prog 23 #[v, .string a] w fun e w' => e = .returned (.bool (inL a M.accs)) ∧ Below w.heap.size w w' := by
  obtain ⟨aa, fa, ac, fc, rfl, L⟩ := hv
  obtain ⟨g, hg⟩ : ∃ g, w.heap.size = g := ⟨_, rfl⟩
  rw [hg]
  obtain ⟨r, hr⟩ : ∃ r, inL a M.accs = r := ⟨_, rfl⟩
  rw [hr]
  have HC : Hid (∀ W, Below g w W → Calls Try.prog 40 #[.slice aa M.accs.length ac, .string a] W fun e w' => e = .returned (.bool r) ∧ w' = W) := fun W hW => by
    rw [← hr]; exact containsT_any (L.accs.below (by rw [hg]; exact hW)) a
  clear hr L
  go_enter Try.func23, Try.ntmps23
  go_upto_region 1 with ((with_reducible refine wpList_at ?_); refine wpList_boxv (by rfl) 27 (.tmp 0) (by rfl) _ (by rfl) ?_; rw [hg]; intro w1 hu1 hz1 hb1)
  obtain ⟨_, _, q2, _, _⟩ := bcells_at (w := w1) (t := 27) hu1
  clear hu1
  go_wp2_with fail
  refine (HC.out _ hb1).mono ?_
  rintro e w0 ⟨rfl, hw0⟩
  subst w0
  go_wp2
  go_ret
  exact ⟨rfl, hb1⟩

theorem BLies.part {w : World} {aa fa : Option Addr} {ac fc : Nat} {M : BookM} (L : BLies w aa fa ac fc M) : FPart w fa M.funds.length fc M.funds := ⟨rfl, L.funds, L.fnil⟩

set_option maxRecDepth 10000 in
set_option maxHeartbeats 1000000 in
theorem stock_any {w : World} {v : Value} {M : BookM} (hv : BookV w v M) (hn : M.funds.length ≤ 1000) : Calls Try.prog 29 #[v] w fun e w' => ∃ u, e = .returned u ∧ OwnF w' w.heap.size u M.funds ∧ Below w.heap.size w w' := by
  obtain ⟨aa, fa, ac, fc, rfl, L⟩ := hv
  obtain ⟨g, hg⟩ : ∃ g, w.heap.size = g := ⟨_, rfl⟩
  rw [hg]
  have HC : Hid (∀ W, Below g w W → Calls Try.prog 48 #[.slice fa M.funds.length fc] W fun e w' => ∃ u, e = .returned u ∧ OwnF w' W.heap.size u M.funds ∧ Below W.heap.size W w') := fun W hW =>
    clone_funds ((L.below (by rw [hg]; exact hW)).part) hn
  clear L
  go_enter Try.func29, Try.ntmps29
  go_upto_region 1 with ((with_reducible refine wpList_at ?_); refine wpList_boxv (by rfl) 27 (.tmp 0) (by rfl) _ (by rfl) ?_; rw [hg]; intro w1 hu1 hz1 hb1)
  obtain ⟨_, _, _, q3, _⟩ := bcells_at (w := w1) (t := 27) hu1
  have hx1 : VAt w1 27 g (bcells aa fa ac fc M) := hu1
  clear hu1
  replace hx1 := hide hx1
  go_wp2_with fail
  refine (HC.out _ hb1).mono ?_
  rintro e w2 ⟨u, rfl, hO, hb2⟩
  obtain ⟨_, _, _, _, q4⟩ := bcells_at (hx1.out.on hb2)
  obtain ⟨ua, uc, rfl⟩ := row_slice hO
  have hB2 : Below g w w2 := hb1.trans (hb2.mono (by omega))
  have hO2 : OwnF w2 g (.slice ua M.funds.length uc) M.funds := ⟨hO.1, by
    rcases hO.2 with h | ⟨q, cap, cur, h1, h2, h3⟩
    · exact .inl h
    · exact .inr ⟨q, cap, cur, h1, by omega, h3⟩⟩
  clear hx1 HC hO hb1 hb2 hz1
  replace hO2 := hide hO2
  go_wp2_with fail
  go_loopw [3, 13] (fun u i wr => u = .slice ua M.funds.length uc ∧ i = .int .i64 0 ∧ wr = w2) (fun _ i _ => 1 - (intOf i).toNat)
  case atStart => exact ⟨rfl, rfl, rfl⟩
  case round =>
    obtain ⟨rfl, rfl, hwr⟩ := hrel
    subst wr
    go_wp2
    go_ret
    exact ⟨_, rfl, hO2.out, hB2⟩

theorem takeD_succ {α : Type} (l : List α) (d : α) {j : Nat} (hj : j < l.length) : l.take (j + 1) = l.take j ++ [l.getD j d] := by
  rw [List.take_succ_eq_append_getElem hj, List.getD_eq_getElem?_getD, List.getElem?_eq_getElem hj]; rfl
theorem getD_in {α : Type} (l : List α) (d : α) {j : Nat} (hj : j < l.length) : l.getD j d ∈ l := getD_mem l j d hj

set_option maxRecDepth 10000 in
set_option maxHeartbeats 2000000 in
theorem total_any {w : World} {v : Value} {M : BookM} {k : Nat} (hv : BookV w v M) (hok : BookOk M k) (hk : k ≤ 500) (s : ByteArray) : Calls Try.prog 17 #[v, .string s] w fun e w' => e = .returned (.int .i64 (totalL M.funds s)) ∧ Below w.heap.size w w' := by
  have hlen := hok.len
  have hsum := hok.sum
  have HS : Hid (∀ W, Below w.heap.size w W → Calls Try.prog 29 #[v] W fun e w' => ∃ u, e = .returned u ∧ OwnF w' W.heap.size u M.funds ∧ Below W.heap.size W w') := fun W hW => stock_any (hv.below hW) (by omega)
  obtain ⟨aa, fa, ac, fc, rfl, L⟩ := hv
  obtain ⟨g, hg⟩ : ∃ g, w.heap.size = g := ⟨_, rfl⟩
  rw [hg] at HS ⊢
  obtain ⟨l, hl⟩ : ∃ l, M.funds = l := ⟨_, rfl⟩
  have hpos : Pos l := by rw [← hl]; exact hok.pos
  rw [hl] at HS hlen hsum ⊢
  obtain ⟨n, hn⟩ : ∃ n, l.length = n := ⟨_, rfl⟩
  rw [hn] at hlen
  have hmax : sumL l ≤ 562949953421312000 := by omega
  replace hpos := hide hpos
  replace hn := hide hn
  replace hmax := hide hmax
  clear L hok hl hsum
  go_enter Try.func17, Try.ntmps17
  go_wp2_with (first
    | ((with_reducible refine wpList_at ?_); refine wpList_boxv (by rfl) 27 (.tmp 0) (by rfl) _ (by rfl) ?_; rw [hg]; intro w1 hu1 hz1 hb1; have hx1 : VAt w1 27 g (bcells aa fa ac fc M) := hu1; clear hu1)
    | ((with_reducible refine wpList_at ?_); refine wpList_loadG (by rfl) 27 (.tmp 2) (by rfl) _ Try.underlying27 g (bcells aa fa ac fc M) (by rfl) hx1 sizeBook ?_))
  refine (HS.out _ hb1).mono ?_
  rintro e w2 ⟨u, rfl, hO, hb2⟩
  obtain ⟨ua, uc, rfl, hcap, hcm, _, hF, _⟩ := hO.funds
  have hB2 : Below g w w2 := hb1.trans (hb2.mono (by omega))
  obtain ⟨q, hq⟩ : ∃ q, w2.heap.size = q := ⟨_, rfl⟩
  have hgq : g ≤ q := by have := hb2.size; omega
  have HF : Hid (∀ W, Below q w2 W → Funds W ua l) := fun W hW => hF.below (by rw [hq]; exact hW)
  rw [hn.out] at hcap ⊢
  clear hx1 HS hO hb1 hb2 hz1 hF
  replace hB2 := hide hB2
  replace hq := hide hq
  go_wp2_with fail
  go_loopw [5, 11] (fun x i wr => ∃ j : Nat, j ≤ n ∧ i = .int .i64 j ∧ x = .int .i64 (totalL (l.take j) s) ∧ Below q w2 wr) (fun _ i _ => n - (intOf i).toNat)
  case atStart => exact ⟨0, by omega, rfl, rfl, Below.refl _ _⟩
  case round =>
    obtain ⟨j, hj, rfl, rfl, hst⟩ := hrel
    have hqr : q ≤ wr.heap.size := by have := hst.size; have := hq.out; omega
    have hb := total_bounds (hpos.out.take j) s
    have hb2 := sum_take hpos.out j
    have hx0 : 0 ≤ totalL (l.take j) s := hb.1
    have hx1 : totalL (l.take j) s ≤ 562949953421312000 := by have := hmax.out; omega
    obtain ⟨x, hx⟩ : ∃ x, totalL (l.take j) s = x := ⟨_, rfl⟩
    rw [hx] at hx0 hx1 ⊢
    replace hx := hide hx
    clear hb hb2
    by_cases hlt : j < n
    · have j1 : (j : Int) < (n : Int) := by omega
      obtain ⟨b1, o1, rfl, d0, d1, d2⟩ := HF.out wr hst j (by rw [hn.out]; exact hlt)
      have hin := getD_in l noFund (j := j) (by rw [hn.out]; exact hlt)
      have hsucc := takeD_succ l noFund (j := j) (by rw [hn.out]; exact hlt)
      obtain ⟨f, hf⟩ : ∃ f, l.getD j noFund = f := ⟨_, rfl⟩
      rw [hf] at d0 d1 d2 hin hsucc
      have hy0 : 1 ≤ f.amt := hpos.out f hin
      have hy1 : f.amt ≤ 562949953421312000 := by have := amt_le hpos.out hin; have := hmax.out; omega
      have hnext : Hid (totalL (l.take (j + 1)) s = x + part s f) := by
        show _ = _
        rw [hsucc, totalL_append, hx.out]
        have : totalL [f] s = part s f := by simp [totalL]
        rw [this]
      obtain ⟨y, hy⟩ : ∃ y, f.amt = y := ⟨_, rfl⟩
      rw [hy] at d2 hy0 hy1
      have hy' := hide hy
      clear hin hsucc hf hy
      replace hst := hide hst
      have hcell : Hid (∀ W : World, VAt W 37 wr.heap.size #[.string f.acc, .string f.asset, .int .i64 y] → W.cell? ⟨wr.heap.size, 0, none⟩ = some (.string f.acc) ∧ W.cell? ⟨wr.heap.size, 1, none⟩ = some (.string f.asset) ∧ W.cell? ⟨wr.heap.size, 2, none⟩ = some (.int .i64 y)) := fun W hW => ⟨by rw [hW.cell]; rfl, by rw [hW.cell]; rfl, by rw [hW.cell]; rfl⟩
      go_upto_region 5 with (first
        | ((with_reducible refine wpList_at ?_); refine wpList_allocG (by rfl) 37 (by rfl) 3 _ zeroFund ?_; intro w4 hv4 hz4 hb4)
        | ((with_reducible refine wpList_at ?_); refine wpList_wholeG (by rfl) 37 (.tmp 7) (.tmp 14) (by rfl) wr.heap.size _ #[.string f.acc, .string f.asset, .int .i64 y] (by rfl) (by rfl) hv4 sizeFund (by rfl) (by intro u hu; simp at hu; rcases hu with rfl | rfl | rfl <;> rfl) ?_; intro w5 hv5 hz5 hb5))
      obtain ⟨c0, c1, c2⟩ := hcell.out _ hv5
      have hst5 : Below q w2 w5 := hst.out.trans ((hb4.mono hqr).trans (hb5.below hqr (by omega)))
      clear hcell hv4 hv5 hb4 hb5 d0 d1 d2
      by_cases hfs : f.asset = s
      · have t : (f.asset.toList == s.toList) = true := text_same hfs
        have hp : Hid (part s f = y) := by show _ = _; unfold part; rw [if_pos hfs]; exact hy'.out
        clear hfs
        go_wp2
        go_roundw
        case rel => exact ⟨j + 1, by omega, by go_num, by rw [hnext.out, hp.out], hst5⟩
        case measure => simp [intOf]; omega
      · have t : (f.asset.toList == s.toList) = false := text_other hfs
        have hp : Hid (part s f = 0) := by show _ = _; unfold part; rw [if_neg hfs]
        clear hfs
        go_wp2
        go_roundw
        case rel => exact ⟨j + 1, by omega, by go_num, by rw [hnext.out, hp.out, Int.add_zero], hst5⟩
        case measure => simp [intOf]; omega
    · have j1 : ¬ (j : Int) < (n : Int) := by omega
      have hfin : Hid (x = totalL l s) := by show _ = _; rw [← hx.out, List.take_of_length_le (by rw [hn.out]; omega)]
      go_wp2
      go_ret
      exact ⟨ret_int hfin.out, hB2.out.trans (hst.mono hgq)⟩

end Go.Proofs.Ytiepkablapjpmaa
