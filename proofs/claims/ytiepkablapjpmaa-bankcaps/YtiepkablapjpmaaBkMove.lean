/-
  Package bank: Move.
-/
import Derived.Test.YtiepkablapjpmaaBkOps
namespace Go.Proofs.Ytiepkablapjpmaa
open Go.RowKit

set_option maxRecDepth 10000 in
set_option maxHeartbeats 4000000 in
theorem move_any {w : World} {v : Value} {M : BookM} {k : Nat} (hv : BookV w v M) (hok : BookOk M k) (hk : k ≤ 400) (a b s : ByteArray) (n : Int) : Calls Try.prog 18 #[v, .string a, .string b, .string s, .int .i64 n] w fun e w' => ∃ u, e = .returned (.tuple #[u, .int .i64 (moveE M a b s n)]) ∧ BookV w' u (moveM M a b s n) ∧ Below w.heap.size w w' := by
  obtain ⟨g, hg⟩ : ∃ g, w.heap.size = g := ⟨_, rfl⟩
  rw [hg]
  have HV : Hid (∀ W, Below g w W → BookV W v M) := fun W hW => hv.below (by rw [hg]; exact hW)
  have HTk : Hid (∀ W, Below g w W → Calls Try.prog 12 #[v, .string a, .string s, .int .i64 n] W fun e w' => ∃ u, e = .returned (.tuple #[u, .int .i64 (takeE M a s n)]) ∧ BookV w' u (takeM M a s n) ∧ Below W.heap.size W w') := fun W hW => take_any (HV.out W hW) hok (by omega) a s n
  have HAc : Hid (∀ W, Below g w W → Calls Try.prog 23 #[v, .string b] W fun e w' => e = .returned (.bool (inL b M.accs)) ∧ Below W.heap.size W w') := fun W hW => baccount_any (HV.out W hW) b
  have HWi : Hid (takeE M a s n = 0 → ∀ W u, BookV W u (takeM M a s n) → Calls Try.prog 27 #[u, .string b, .string s, .int .i64 n] W fun e w' => ∃ u, e = .returned u ∧ BookV w' u (putM (takeM M a s n) b s (amtOf (takeM M a s n).funds b s + n)) ∧ Below W.heap.size W w') := fun hn W u hu => by
    have := (takeE_zero hn).2.1
    exact with_any hu (take_ok hok a s n) (by omega) b s n _ rfl (by omega) (by omega)
  obtain ⟨E, hE⟩ : ∃ E, moveE M a b s n = E := ⟨_, rfl⟩
  obtain ⟨R, hR⟩ : ∃ R, moveM M a b s n = R := ⟨_, rfl⟩
  rw [hE, hR]
  have hR' : R = bif decide (E = 0) then putM (takeM M a s n) b s (amtOf (takeM M a s n).funds b s + n) else M := by rw [← hR, ← hE]; rfl
  obtain ⟨T, hT⟩ : ∃ T, takeM M a s n = T := ⟨_, rfl⟩
  obtain ⟨te, hte⟩ : ∃ te, takeE M a s n = te := ⟨_, rfl⟩
  rw [hT] at HTk HWi hR'
  rw [hte] at HTk HWi
  have hE' : E = bif !decide (te = 0) then te else bif !inL b M.accs then 4 else 0 := by rw [← hE, ← hte]; rfl
  replace hR' := hide hR'
  replace hE' := hide hE'
  clear hE hR hok hT hte
  obtain ⟨aa, fa, ac, fc, rfl, _⟩ := hv
  go_enter Try.func18, Try.ntmps18
  go_upto_region 1 with (first
    | ((with_reducible refine wpList_at ?_); refine wpList_boxv (by rfl) 27 (.tmp 0) (by rfl) _ (by rfl) ?_; rw [hg]; intro w1 hu1 hz1 hb1)
    | ((with_reducible refine wpList_at ?_); refine wpList_allocG (by rfl) 27 (by rfl) 5 _ zeroBook ?_; rw [hz1]; intro w2 hv2 hz2 hb2))
  have hx2 : VAt w2 27 g (bcells aa fa ac fc M) := VAt.below (w := w1) hu1 hb2 (by omega)
  have hB2 : Below g w w2 := hb1.trans (hb2.mono (by omega))
  have hs2 : g + 2 ≤ w2.heap.size := by omega
  clear hu1 hb1 hb2 hz1 hz2
  go_wp2_with ((with_reducible refine wpList_at ?_); refine wpList_loadG (by rfl) 27 (.tmp 5) (by rfl) _ Try.underlying27 g (bcells aa fa ac fc M) (by rfl) hx2 sizeBook ?_)
  refine (HTk.out _ hB2).mono ?_
  rintro e w3 ⟨u, rfl, hU, hb3⟩
  obtain ⟨aa', fa', ac', fc', rfl, L'⟩ := hU
  have hU : BookV w3 (.agg (bcells aa' fa' ac' fc' T)) T := ⟨aa', fa', ac', fc', rfl, L'⟩
  clear L'
  obtain ⟨cs', hcs'⟩ : ∃ cs', cs' = bcells aa' fa' ac' fc' T := ⟨_, rfl⟩
  have hsz' : cs'.size = 5 := by rw [hcs']; rfl
  have h1' : ∀ u ∈ cs'.toList, u.oneCell' = true := by rw [hcs']; exact bcells_one _ _ _ _ _
  have hsb' : (Try.prog.info? 27).map (·.size) = some cs'.size := by rw [hsz']; exact sizeBook
  have hno' : NoText cs' := by rw [hcs']; exact noText_b _ _ _ _ _
  rw [← hcs'] at hU ⊢
  clear hcs'
  have hx3 := hx2.below hb3 (by omega)
  have hv3 := hv2.below hb3 (by omega)
  have hB3 : Below g w w3 := hB2.trans (hb3.mono (by omega))
  have hs3 : g + 2 ≤ w3.heap.size := by have := hb3.size; omega
  clear hx2 hv2 hB2 hb3 hs2
  obtain ⟨q, hq⟩ : ∃ q, w3.heap.size = q := ⟨_, rfl⟩
  have hgq : g + 2 ≤ q := by omega
  go_upto_region 2 with (first
    | ((with_reducible refine wpList_at ?_); refine wpList_allocG (by rfl) 27 (by rfl) 5 _ zeroBook ?_; rw [hq]; intro w4 hl4 hz4 hb4)
    | ((with_reducible refine wpList_at ?_); refine wpList_wholeG (by rfl) 27 (.tmp 12) (.tmp 20) (by rfl) q bzero cs' (by rfl) (by rfl) hl4 hsb' hsz' h1' ?_; intro w5 hl5 hz5 hb5))
  have hU5 : BookV w5 (.agg cs') T := (hU.below (by rw [hq]; exact hb4)).but hl4 noText_z hb5
  have hbt : Below q w3 w5 := hb4.trans (hb5.below (Nat.le_refl _) (by omega))
  have hx5 := hx3.below hbt (by omega)
  have hv5 := hv3.below hbt (by omega)
  have hB5 : Below g w w5 := hB3.trans (hbt.mono (by omega))
  have hs5 : g + 2 ≤ w5.heap.size := by have := hbt.size; omega
  have hU5' := hide hU5
  have hl5' := hide hl5
  clear hU hU5 hl4 hb4 hb5 hbt hx3 hv3 hB3 hs3 hz4 hz5 hl5 HTk
  by_cases c1 : te = 0
  · have t1 : (te != 0) = false := by rw [c1]; rfl
    have HW := hide (HWi.out c1)
    have hE1 : Hid (E = bif !inL b M.accs then 4 else 0) := by show _ = _; rw [hE'.out, decide_eq_true c1]; rfl
    replace c1 := hide c1
    go_wp2_with ((with_reducible refine wpList_at ?_); refine wpList_loadG (by rfl) 27 (.tmp 5) (by rfl) _ Try.underlying27 g (bcells aa fa ac fc M) (by rfl) hx5 sizeBook ?_)
    refine (HAc.out _ hB5).mono ?_
    rintro e w6 ⟨rfl, hb6⟩
    have hU6 := hide (hU5'.out.below hb6)
    have hl6 := hl5'.out.on hb6
    have hx6 := hx5.below hb6 (by omega)
    have hv6 := hv5.below hb6 (by omega)
    have hB6 : Below g w w6 := hB5.trans (hb6.mono (by omega))
    have hs6 : g + 2 ≤ w6.heap.size := by have := hb6.size; omega
    clear hx5 hv5 hB5 hb6 hs5
    cases c2 : inL b M.accs with
    | false =>
      rw [c2] at hE1
      have hE : Hid (E = 4) := hE1.out
      have hR : Hid (R = M) := by show _ = _; rw [hR'.out, hE.out]; rfl
      go_wp2_with (first
        | ((with_reducible refine wpList_at ?_); refine wpList_loadG (by rfl) 27 (.tmp 5) (by rfl) _ Try.underlying27 g (bcells aa fa ac fc M) (by rfl) hx6 sizeBook ?_)
        | ((with_reducible refine wpList_at ?_); refine wpList_wholeG (by rfl) 27 (.tmp 10) (.tmp 32) (by rfl) (g + 1) bzero (bcells aa fa ac fc M) (by rfl) (by rfl) hv6 sizeBook (by rfl) (bcells_one _ _ _ _ _) ?_; intro w8 hv8 hz8 hb8))
      refine bodyPost_ret (v := .tuple #[.agg (bcells aa fa ac fc M), .int .i64 4]) (results_cell_slot (fn := Try.f18) Try.results18 _ _ (g + 1) (bcells aa fa ac fc M) _ _ (by rfl) (by rfl) hv8 Try.underlying27 sizeBook) rfl ?_
      have hB8 : Below g w w8 := hB6.trans (hb8.below (by omega) (by omega))
      exact ⟨_, by rw [hE.out], by rw [hR.out]; exact HV.out _ hB8, hB8⟩
    | true =>
      rw [c2] at hE1
      have hE : Hid (E = 0) := hE1.out
      have hR : Hid (R = putM T b s (amtOf T.funds b s + n)) := by show _ = _; rw [hR'.out, hE.out]; rfl
      go_wp2_with ((with_reducible refine wpList_at ?_); refine wpList_loadG (by rfl) 27 (.tmp 12) (by rfl) _ Try.underlying27 q cs' (by rfl) hl6 hsb' ?_)
      refine (HW.out _ _ hU6.out).mono ?_
      rintro e w7 ⟨u, rfl, hU, hb7⟩
      have hx7 := hx6.below hb7 (by omega)
      have hv7 := hv6.below hb7 (by omega)
      have hB7 : Below g w w7 := hB6.trans (hb7.mono (by omega))
      have hs7 : g + 2 ≤ w7.heap.size := by have := hb7.size; omega
      clear hx6 hv6 hB6 hb7 hs6
      obtain ⟨aa2', fa2', ac2', fc2', rfl, L'⟩ := hU
      have hU : BookV w7 (.agg (bcells aa2' fa2' ac2' fc2' (putM T b s (amtOf T.funds b s + n)))) (putM T b s (amtOf T.funds b s + n)) := ⟨aa2', fa2', ac2', fc2', rfl, L'⟩
      clear L'
      obtain ⟨cs2', hcs2'⟩ : ∃ cs2', cs2' = bcells aa2' fa2' ac2' fc2' (putM T b s (amtOf T.funds b s + n)) := ⟨_, rfl⟩
      have hsz2' : cs2'.size = 5 := by rw [hcs2']; rfl
      have h12' : ∀ u ∈ cs2'.toList, u.oneCell' = true := by rw [hcs2']; exact bcells_one _ _ _ _ _
      have hsb2' : (Try.prog.info? 27).map (·.size) = some cs2'.size := by rw [hsz2']; exact sizeBook
      rw [← hcs2'] at hU ⊢
      clear hcs2'
      go_wp2_with ((with_reducible refine wpList_at ?_); refine wpList_wholeG (by rfl) 27 (.tmp 10) (.tmp 37) (by rfl) (g + 1) bzero cs2' (by rfl) (by rfl) hv7 hsb2' hsz2' h12' ?_; intro w9 hv9 hz9 hb9)
      refine bodyPost_ret (v := .tuple #[.agg cs2', .int .i64 0]) (results_cell_slot (fn := Try.f18) Try.results18 _ _ (g + 1) cs2' _ _ (by rfl) (by rfl) hv9 Try.underlying27 hsb2') rfl ?_
      have hB9 : Below g w w9 := hB7.trans (hb9.below (by omega) (by omega))
      exact ⟨_, by rw [hE.out], by rw [hR.out]; exact hU.but hv7 noText_z hb9, hB9⟩
  · have t1 : (te != 0) = true := by rw [bne_iff_ne]; exact c1
    have hE : Hid (E = te) := by show _ = _; rw [hE'.out, decide_eq_false c1]; rfl
    have hR : Hid (R = M) := by show _ = _; rw [hR'.out, hE.out, decide_eq_false c1]; rfl
    clear c1
    go_wp2_with (first
      | ((with_reducible refine wpList_at ?_); refine wpList_loadG (by rfl) 27 (.tmp 5) (by rfl) _ Try.underlying27 g (bcells aa fa ac fc M) (by rfl) hx5 sizeBook ?_)
      | ((with_reducible refine wpList_at ?_); refine wpList_wholeG (by rfl) 27 (.tmp 10) (.tmp 25) (by rfl) (g + 1) bzero (bcells aa fa ac fc M) (by rfl) (by rfl) hv5 sizeBook (by rfl) (bcells_one _ _ _ _ _) ?_; intro w8 hv8 hz8 hb8))
    refine bodyPost_ret (v := .tuple #[.agg (bcells aa fa ac fc M), .int .i64 te]) (results_cell_slot (fn := Try.f18) Try.results18 _ _ (g + 1) (bcells aa fa ac fc M) _ _ (by rfl) (by rfl) hv8 Try.underlying27 sizeBook) rfl ?_
    have hB8 : Below g w w8 := hB5.trans (hb8.below (by omega) (by omega))
    exact ⟨_, by rw [hE.out], by rw [hR.out]; exact HV.out _ hB8, hB8⟩

end Go.Proofs.Ytiepkablapjpmaa
