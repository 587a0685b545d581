/-
  Package bank: Open.
-/
import Derived.Test.YtiepkablapjpmaaBkOps
namespace Go.Proofs.Ytiepkablapjpmaa
open Go.RowKit

set_option maxRecDepth 10000 in
set_option maxHeartbeats 4000000 in
theorem open_any {w : World} {v : Value} {M : BookM} {k : Nat} (hv : BookV w v M) (hok : BookOk M k) (a : ByteArray) : Calls Try.prog 9 #[v, .string a] w fun e w' => ∃ u, e = .returned (.tuple #[u, .int .i64 (openE M a)]) ∧ BookV w' u (openM M a) ∧ Below w.heap.size w w' := by
  obtain ⟨g, hg⟩ : ∃ g, w.heap.size = g := ⟨_, rfl⟩
  rw [hg]
  have HV : Hid (∀ W, Below g w W → BookV W v M) := fun W hW => hv.below (by rw [hg]; exact hW)
  have HNm : Hid (∀ W, Calls Try.prog 22 #[.string a] W fun e w' => e = .returned (.bool (nameB a)) ∧ w' = W) := fun W => bname_any a W
  have HAc : Hid (∀ W, Below g w W → Calls Try.prog 23 #[v, .string a] W fun e w' => e = .returned (.bool (inL a M.accs)) ∧ Below W.heap.size W w') := fun W hW => baccount_any (HV.out W hW) a
  have hal := hok.accs
  have hnames := hide hok.names
  obtain ⟨E, hE⟩ : ∃ E, openE M a = E := ⟨_, rfl⟩
  obtain ⟨R, hR⟩ : ∃ R, openM M a = R := ⟨_, rfl⟩
  rw [hE, hR]
  have hR' : R = bif decide (E = 0) then ⟨M.number, M.accs ++ [a], M.funds⟩ else M := by rw [← hR, ← hE]; rfl
  have hE' : E = bif !nameB a then 1 else bif inL a M.accs then 5 else bif decide (12 ≤ M.accs.length) then 7 else 0 := by rw [← hE]; rfl
  replace hR' := hide hR'
  replace hE' := hide hE'
  clear hE hR hok
  obtain ⟨aa, fa, ac, fc, rfl, L⟩ := hv
  have HL : Hid (∀ W, Below g w W → BLies W aa fa ac fc M) := fun W hW => L.below (by rw [hg]; exact hW)
  clear L
  go_enter Try.func9, Try.ntmps9
  go_upto_region 1 with (first
    | ((with_reducible refine wpList_at ?_); refine wpList_boxv (by rfl) 27 (.tmp 0) (by rfl) _ (by rfl) ?_; rw [hg]; intro w1 hu1 hz1 hb1)
    | ((with_reducible refine wpList_at ?_); refine wpList_allocG (by rfl) 27 (by rfl) 5 _ zeroBook ?_; rw [hz1]; intro w2 hv2 hz2 hb2))
  have hx2 : VAt w2 27 g (bcells aa fa ac fc M) := VAt.below (w := w1) hu1 hb2 (by omega)
  have hB2 : Below g w w2 := hb1.trans (hb2.mono (by omega))
  have hs2 : g + 2 ≤ w2.heap.size := by omega
  clear hu1 hb1 hb2 hz1 hz2
  go_wp2_with fail
  refine (HNm.out _).mono ?_
  rintro e w0 ⟨rfl, hw0⟩
  subst w0
  cases c1 : nameB a with
  | false =>
    rw [c1] at hE'
    have hE : Hid (E = 1) := hE'.out
    have hR : Hid (R = M) := by show _ = _; rw [hR'.out, hE.out]; rfl
    go_wp2_with (first
      | ((with_reducible refine wpList_at ?_); refine wpList_loadG (by rfl) 27 (.tmp 2) (by rfl) _ Try.underlying27 g (bcells aa fa ac fc M) (by rfl) hx2 sizeBook ?_)
      | ((with_reducible refine wpList_at ?_); refine wpList_wholeG (by rfl) 27 (.tmp 4) (.tmp 10) (by rfl) (g + 1) bzero (bcells aa fa ac fc M) (by rfl) (by rfl) hv2 sizeBook (by rfl) (bcells_one _ _ _ _ _) ?_; intro w8 hv8 hz8 hb8))
    refine bodyPost_ret (v := .tuple #[.agg (bcells aa fa ac fc M), .int .i64 1]) (results_cell_slot (fn := Try.f9) Try.results9 _ _ (g + 1) (bcells aa fa ac fc M) _ _ (by rfl) (by rfl) hv8 Try.underlying27 sizeBook) rfl ?_
    have hB8 : Below g w w8 := hB2.trans (hb8.below (by omega) (by omega))
    exact ⟨_, by rw [hE.out], by rw [hR.out]; exact HV.out _ hB8, hB8⟩
  | true =>
    rw [c1] at hE'
    go_wp2_with ((with_reducible refine wpList_at ?_); refine wpList_loadG (by rfl) 27 (.tmp 2) (by rfl) _ Try.underlying27 g (bcells aa fa ac fc M) (by rfl) hx2 sizeBook ?_)
    refine (HAc.out _ hB2).mono ?_
    rintro e w3 ⟨rfl, hb3⟩
    have hx3 := hx2.below hb3 (by omega)
    have hv3 := hv2.below hb3 (by omega)
    have hB3 : Below g w w3 := hB2.trans (hb3.mono (by omega))
    have hs3 : g + 2 ≤ w3.heap.size := by have := hb3.size; omega
    clear hx2 hv2 hB2 hb3 hs2
    cases c2 : inL a M.accs with
    | true =>
      rw [c2] at hE'
      have hE : Hid (E = 5) := hE'.out
      have hR : Hid (R = M) := by show _ = _; rw [hR'.out, hE.out]; rfl
      go_wp2_with (first
        | ((with_reducible refine wpList_at ?_); refine wpList_loadG (by rfl) 27 (.tmp 2) (by rfl) _ Try.underlying27 g (bcells aa fa ac fc M) (by rfl) hx3 sizeBook ?_)
        | ((with_reducible refine wpList_at ?_); refine wpList_wholeG (by rfl) 27 (.tmp 4) (.tmp 15) (by rfl) (g + 1) bzero (bcells aa fa ac fc M) (by rfl) (by rfl) hv3 sizeBook (by rfl) (bcells_one _ _ _ _ _) ?_; intro w8 hv8 hz8 hb8))
      refine bodyPost_ret (v := .tuple #[.agg (bcells aa fa ac fc M), .int .i64 5]) (results_cell_slot (fn := Try.f9) Try.results9 _ _ (g + 1) (bcells aa fa ac fc M) _ _ (by rfl) (by rfl) hv8 Try.underlying27 sizeBook) rfl ?_
      have hB8 : Below g w w8 := hB3.trans (hb8.below (by omega) (by omega))
      exact ⟨_, by rw [hE.out], by rw [hR.out]; exact HV.out _ hB8, hB8⟩
    | false =>
      rw [c2] at hE'
      obtain ⟨_, _, q2, _, _⟩ := bcells_at hx3
      have HLn := hide (show M.accs.length = M.accs.length from rfl)
      by_cases c3 : 12 ≤ M.accs.length
      · rw [decide_eq_true c3] at hE'
        have hE : Hid (E = 7) := hE'.out
        have hR : Hid (R = M) := by show _ = _; rw [hR'.out, hE.out]; rfl
        have t3 : (12 : Int) ≤ (M.accs.length : Int) := by omega
        clear c3
        go_wp2_with (first
          | ((with_reducible refine wpList_at ?_); refine wpList_loadG (by rfl) 27 (.tmp 2) (by rfl) _ Try.underlying27 g (bcells aa fa ac fc M) (by rfl) hx3 sizeBook ?_)
          | ((with_reducible refine wpList_at ?_); refine wpList_wholeG (by rfl) 27 (.tmp 4) (.tmp 21) (by rfl) (g + 1) bzero (bcells aa fa ac fc M) (by rfl) (by rfl) hv3 sizeBook (by rfl) (bcells_one _ _ _ _ _) ?_; intro w8 hv8 hz8 hb8))
        refine bodyPost_ret (v := .tuple #[.agg (bcells aa fa ac fc M), .int .i64 7]) (results_cell_slot (fn := Try.f9) Try.results9 _ _ (g + 1) (bcells aa fa ac fc M) _ _ (by rfl) (by rfl) hv8 Try.underlying27 sizeBook) rfl ?_
        have hB8 : Below g w w8 := hB3.trans (hb8.below (by omega) (by omega))
        exact ⟨_, by rw [hE.out], by rw [hR.out]; exact HV.out _ hB8, hB8⟩
      · rw [decide_eq_false c3] at hE'
        have hE : Hid (E = 0) := hE'.out
        have hR : Hid (R = ⟨M.number, M.accs ++ [a], M.funds⟩) := by show _ = _; rw [hR'.out, hE.out]; rfl
        have t3 : ¬ (12 : Int) ≤ (M.accs.length : Int) := by omega
        have h12 : M.accs.length < 12 := by omega
        clear c3
        have hasz : Hid (a.size ≤ 16) := (nameB_iff.1 c1).2
        have HL3 := hide (HL.out _ hB3)
        have hal4 : Below w3.heap.size w3 (w3.alloc (.cells #[.string a] 9)) := (Below.refl _ _).alloc (Nat.le_refl _) _
        have hc4 : (w3.alloc (.cells #[.string a] 9)).cell? ⟨w3.heap.size, 0, none⟩ = some (.string a) := by rw [World.cell?_alloc_new]; rfl
        go_upto_region 7 with fail
        have hx4 := hx3.below hal4 (by omega)
        have hv4 := hv3.below hal4 (by omega)
        have hB4 : Below g w (w3.alloc (.cells #[.string a] 9)) := hB3.trans (hal4.mono (by omega))
        have hs4 : g + 2 ≤ (w3.alloc (.cells #[.string a] 9)).heap.size := by simp; omega
        have HL4 := hide (HL.out _ hB4)
        replace hx4 := hide hx4
        replace hv4 := hide hv4
        replace hB4 := hide hB4
        clear hx3 hv3 hB3 HL3 hal4
        go_wp2_with fail
        have he4 : (w3.alloc (.cells #[.string a] 9)).heap.size = w3.heap.size + 1 := by simp
        generalize w3.heap.size = q3 at hc4 he4 ⊢
        generalize w3.alloc (.cells #[.string a] 9) = w4 at he4 hc4 hx4 hv4 hB4 hs4 HL4 ⊢
        obtain ⟨na, hna⟩ : ∃ na, M.accs.length = na := ⟨_, rfl⟩
        rw [hna] at h12 hal ⊢
        have hal5 : Below w4.heap.size w4 (w4.alloc (.cells #[.slice aa na ac, .slice (some ⟨q3, 0, none⟩) 1 1] 23)) := (Below.refl _ _).alloc (Nat.le_refl _) _
        have hp1 : SPart w4 aa na ac M.accs := by rw [← hna]; exact ⟨HL4.out.accs, HL4.out.anil⟩
        have hp2 : SPart w4 (some ⟨q3, 0, none⟩) 1 1 [a] := ⟨⟨rfl, by unfold maxLen; omega, fun j hj => by
          obtain rfl : j = 0 := by omega
          show a.size ≤ maxLen
          unfold maxLen; have := hasz.out; omega, fun j hj => by
          obtain rfl : j = 0 := by omega
          exact ⟨q3, 0, rfl, hc4⟩⟩, fun e => by cases e⟩
        refine (concat2_strs (w := w4.alloc (.cells #[.slice aa na ac, .slice (some ⟨q3, 0, none⟩) 1 1] 23)) (q3 + 1) (hp1.below hal5) (hp2.below hal5) (by rw [← he4, World.cell?_alloc_new]; rfl) (by rw [← he4, World.cell?_alloc_new]; rfl) (by omega) (by omega)).mono ?_
        rintro e w6 ⟨u, rfl, hO, hb6⟩
        have hlen : (M.accs ++ [a]).length = na + 1 := by rw [List.length_append, hna]; rfl
        have hsz : ∀ j, j < (M.accs ++ [a]).length → ((M.accs ++ [a]).getD j ByteArray.empty).size ≤ 1000 := fun j hj => by
          have := getD_mem (M.accs ++ [a]) j ByteArray.empty hj
          rcases List.mem_append.1 this with h | h
          · have := hnames.out _ h; omega
          · rw [List.mem_singleton.1 h]; have := hasz.out; omega
        obtain ⟨fa6, fc6, rfl⟩ := row_slice hO
        have hb9 : Below w4.heap.size w4 w6 := hal5.trans (hb6.mono (by simp))
        have hx6 := hx4.out.on hb9
        have hv6 := hv4.out.on hb9
        have hB6 : Below g w w6 := hB4.out.trans (hb9.mono (by omega))
        have hs6 : g + 2 ≤ w6.heap.size := by have := hb9.size; omega
        obtain ⟨cs6, hcs6⟩ : ∃ cs6, cs6 = bcells fa6 fa fc6 fc ⟨M.number, M.accs ++ [a], M.funds⟩ := ⟨_, rfl⟩
        have hcs6' : cs6 = ((bcells aa fa ac fc M).toList.take 2 ++ [Value.slice fa6 (M.accs ++ [a]).length fc6] ++ (bcells aa fa ac fc M).toList.drop (2 + 1)).toArray := by rw [hcs6]; rfl
        have hsz6 : cs6.size = 5 := by rw [hcs6]; rfl
        have h16 : ∀ u ∈ cs6.toList, u.oneCell' = true := by rw [hcs6]; exact bcells_one _ _ _ _ _
        have hsb6 : (Try.prog.info? 27).map (·.size) = some cs6.size := by rw [hsz6]; exact sizeBook
        have hO' : OwnS w6 (w4.alloc (.cells #[.slice aa na ac, .slice (some ⟨q3, 0, none⟩) 1 1] 23)).heap.size (.slice fa6 (na + 1) fc6) (M.accs ++ [a]) := by rw [← hlen]; exact hO
        rw [hlen] at hcs6' ⊢
        clear hO
        replace hO' := hide hO'
        replace hlen := hide hlen
        replace hna := hide hna
        replace hsz := hide hsz
        replace hcs6 := hide hcs6
        replace hcs6' := hide hcs6'
        replace hx6 := hide hx6
        replace hv6 := hide hv6
        replace hB6 := hide hB6
        clear hb6 hb9 hx4 hv4 hB4 hs4 hal5 hp1 hp2 hc4 HL4 q2 t3 hs3
        go_wp2_with (first
          | ((with_reducible refine wpList_at ?_); refine wpList_storeG (by rfl) 23 (.tmp 28) (.tmp 27) (by rfl) 27 g 2 #[.slice fa6 (na + 1) fc6] (.slice fa6 (na + 1) fc6) (bcells aa fa ac fc M) cs6 (by rfl) (by rfl) rfl hx6.out sizeTexts (by show 2 + 1 ≤ 5; omega) (by intro u hu; simp at hu; subst hu; rfl) hcs6'.out ?_; intro w7 hx7 hz7 hb7; have hv7 := hv6.out.but hb7 (by omega))
          | ((with_reducible refine wpList_at ?_); refine wpList_loadG (by rfl) 27 (.tmp 2) (by rfl) _ Try.underlying27 g cs6 (by rfl) hx7 hsb6 ?_)
          | ((with_reducible refine wpList_at ?_); refine wpList_wholeG (by rfl) 27 (.tmp 4) (.tmp 29) (by rfl) (g + 1) bzero cs6 (by rfl) (by rfl) hv7 hsb6 hsz6 h16 ?_; intro w8 hv8 hz8 hb8))
        refine bodyPost_ret (v := .tuple #[.agg cs6, .int .i64 0]) (results_cell_slot (fn := Try.f9) Try.results9 _ _ (g + 1) cs6 _ _ (by rfl) (by rfl) hv8 Try.underlying27 hsb6) rfl ?_
        have hO8 := (hO'.out.but hb7 hx6.out (by decide)).but hb8 hv7 (by decide)
        have hB8 : Below g w w8 := (hB6.out.trans (hb7.below (Nat.le_refl _) (by omega))).trans (hb8.below (by omega) (by omega))
        rw [← hlen.out] at hO8
        have hnil8 := own_nil hO8
        have hform8 := own_form hO8
        obtain ⟨fa8, fc8, he8, k1, k2, k4⟩ := OwnS.strs hO8 (by rw [hlen.out]; omega) hsz.out
        injection he8 with e1 e2 e3
        subst e1 e3
        have L8 := HL.out _ hB8
        rw [hcs6.out]
        exact ⟨_, by rw [hE.out], by rw [hR.out]; exact ⟨fa6, fa, fc6, fc, rfl, ⟨k4, L8.funds, ⟨k1, k2⟩, L8.fcap, hnil8, L8.fnil, L8.fform, hform8⟩⟩, hB8⟩

end Go.Proofs.Ytiepkablapjpmaa
