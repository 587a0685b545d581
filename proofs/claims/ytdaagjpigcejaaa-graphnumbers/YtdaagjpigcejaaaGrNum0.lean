/-
  The walk of GraphNumbers.
-/
import Derived.Test.YtdaagjpigcejaaaNumV
import Derived.Test.YtdaagjpigcejaaaGrWake
import Derived.Test.YtdaagjpigcejaaaGrRef
import Derived.Test.YtdaagjpigcejaaaGrPl
import Derived.Test.YtdaagjpigcejaaaYieldV
import Derived.Test.YtdaagjpigcejaaaStepA
import Derived.Deep.RegionHeld3
import Derived.Deep.RegionLaw
import Derived.Handy
namespace Go.Proofs.Ytdaagjpigcejaaa
open Go.RowKit

theorem cell_below {B : Nat} {w w' : World} {p : Addr} {v : Value} (h : Below B w w') (k : w.cell? p = some v) (hp : p.block < B) : w'.cell? p = some v := by rw [h.cell hp]; exact k
theorem frozen_below {B : Nat} {w w' : World} {p : Addr} {v : Value} (h : Below B w w') (_k : w.cell? p = some v) (f : w.frozen? p = false) (hp : p.block < B) : w'.frozen? p = false := by rw [World.frozen?_of_block (w := w) (h.block p.block hp)]; exact f
theorem tmod_in (x : Int) (n : Nat) (hx : 0 ≤ x) (hn : 0 < n) : 0 ≤ Int.tmod x (n : Int) ∧ Int.tmod x (n : Int) < (n : Int) := by
  rw [Int.tmod_eq_emod_of_nonneg hx]
  exact ⟨Int.emod_nonneg _ (by omega), Int.emod_lt_of_pos _ (by omega)⟩
theorem ent_some {n : Nat} {A : List ArcM} (h : RingIn n A) (i : Nat) (hi : i < n) : (entL A (i : Int) A.length).length ≠ 0 := by
  obtain ⟨x, hx, _, h2⟩ := h ((i + n - 1) % n) (Nat.mod_lt _ (by omega))
  obtain ⟨j, hj, rfl⟩ := List.mem_iff_getElem.1 hx
  have e : ((i + n - 1) % n + 1) % n = i := by
    rw [Nat.mod_add_mod, show i + n - 1 + 1 = i + n by omega, Nat.add_mod_right, Nat.mod_eq_of_lt hi]
  rw [e] at h2
  have hm : (j : Int) ∈ entL A (i : Int) A.length := by
    unfold entL
    refine List.mem_map.2 ⟨j, List.mem_filter.2 ⟨List.mem_range.2 hj, ?_⟩, rfl⟩
    rw [List.getD_eq_getElem?_getD, List.getElem?_eq_getElem hj]
    show (A[j].dst == (i : Int)) = true
    rw [h2]; exact beq_self_eq_true _
  have := List.length_pos_of_mem hm
  omega
theorem lev_some {n : Nat} {A : List ArcM} (h : RingIn n A) (i : Nat) (hi : i < n) : (levL A (i : Int) A.length).length ≠ 0 := by
  obtain ⟨x, hx, h1, _⟩ := h i hi
  obtain ⟨j, hj, rfl⟩ := List.mem_iff_getElem.1 hx
  have hm : (j : Int) ∈ levL A (i : Int) A.length := by
    unfold levL
    refine List.mem_map.2 ⟨j, List.mem_filter.2 ⟨List.mem_range.2 hj, ?_⟩, rfl⟩
    rw [List.getD_eq_getElem?_getD, List.getElem?_eq_getElem hj]
    show (A[j].src == (i : Int)) = true
    rw [h1]; exact beq_self_eq_true _
  have := List.length_pos_of_mem hm
  omega

set_option maxRecDepth 10000 in
set_option maxHeartbeats 4000000 in
theorem numbers_any (a0 a1 a2 : Int) (_h0 : (Lit.int .i64 a0).wf = true) (_h1 : (Lit.int .i64 a1).wf = true) (_h2 : (Lit.int .i64 a2).wf = true) (w : World) : Calls Try.prog 6 #[.int .i64 a0, .int .i64 a1, .int .i64 a2] w fun e w' => e = .returned (.bool true) ∧ Below w.heap.size w w' := by
  obtain ⟨S, hG, HR⟩ := spec_good a0
  have hok := hG.num.ok
  obtain ⟨hn2, hn6, hn12⟩ := ok_parts hok
  have hA1 : 1 ≤ S.arcs.length := hok.2.2.2.1.1
  have hL3 : S.leaders.length ≤ 3 := hok.2.1.2.1
  have hsane := SaneS.of_ok hok
  have hval := hG.valid
  have hring := hG.ring
  clear hG _h0 _h1 _h2
  obtain ⟨i1, hi1, HP1⟩ := place_ex a1 (S.arcs.length : Int) (by omega) (by omega)
  obtain ⟨i2, hi2, HP2⟩ := place_ex a2 (S.parties.length : Int) (by omega) (by omega)
  have HV : Hid (∀ W v, SpecW W v S → Calls Try.prog 14 #[v] W fun e w' => e = .returned (.bool true) ∧ Below W.heap.size W w') := fun W v hv => by have h := pvalid_any hv; rw [hval] at h; exact h
  have HE : Hid (∀ W v (i : Nat), i < S.parties.length → SpecW W v S → Calls Try.prog 15 #[v, .int .i64 (i : Int)] W fun e w' => ∃ a n c, n ≠ 0 ∧ e = .returned (.slice a n c) ∧ Below W.heap.size W w') := fun W v i hi hv => by
    refine (pent_any hv (i : Int) _ (fun _ => rfl) (fun h => absurd hok h)).mono ?_
    rintro e w' ⟨u, rfl, hO, hb⟩
    obtain ⟨a, c, rfl⟩ := row_slice hO
    exact ⟨a, _, c, ent_some hring i hi, rfl, hb⟩
  have HL : Hid (∀ W v (i : Nat), i < S.parties.length → SpecW W v S → Calls Try.prog 16 #[v, .int .i64 (i : Int)] W fun e w' => ∃ a n c, n ≠ 0 ∧ e = .returned (.slice a n c) ∧ Below W.heap.size W w') := fun W v i hi hv => by
    refine (plev_any hv (i : Int) _ (fun _ => rfl) (fun h => absurd hok h)).mono ?_
    rintro e w' ⟨u, rfl, hO, hb⟩
    obtain ⟨a, c, rfl⟩ := row_slice hO
    exact ⟨a, _, c, lev_some hring i hi, rfl, hb⟩
  have HAW : Hid (∀ W, Calls Try.prog 13 #[] W fun e w' => e = .returned (.bool true) ∧ Below W.heap.size W w') := awake5_any
  clear hval hring
  replace HR := hide HR
  replace HP1 := hide HP1
  replace HP2 := hide HP2
  replace hok := hide hok
  obtain ⟨g0, hg0⟩ : ∃ g, w.heap.size = g := ⟨_, rfl⟩
  rw [hg0]
  go_enter Try.func6, Try.ntmps6
  go_wp2_with fail
  refine (HR.out _).mono ?_
  rintro e w1 ⟨v, rfl, hO1, hb1⟩
  rw [hg0] at hb1
  have hW1 := hO1.wide hsane
  have hWcs := hW1
  obtain ⟨a1, a2, a3, a4, k1, k2, k3, k4, hv, LI, CA⟩ := hWcs
  subst hv
  clear HR hO1
  have h7 : Seven (cells7 a1 a2 a3 a4 k1 k2 k3 k4 S) := by
    refine ⟨rfl, fun u hu => ?_⟩
    simp [cells7] at hu
    rcases hu with rfl | rfl | rfl | rfl | rfl | rfl | rfl <;> rfl
  go_wp2_with (first
    | ((with_reducible refine wpList_at ?_); refine wpList_varS (by rfl) (by rfl) (by rfl) (.tmp 7) (.tmp 14) (by rfl) _ (by rfl) (by rfl) h7 ?_; intro w2 hv2 hz2 hb2)
    | ((with_reducible refine wpList_at ?_); refine wpList_loadV (by rfl) (.tmp 7) (by rfl) _ _ (by rfl) hv2 h7 ?_))
  have hW2 := hW1.below hb2
  obtain ⟨g, hg⟩ : ∃ g, w1.heap.size = g := ⟨_, rfl⟩
  have HW : Hid (∀ W, Below g w1 W → SpecW W (.agg (cells7 a1 a2 a3 a4 k1 k2 k3 k4 S)) S) := fun W hW => hW1.below (by rw [hg]; exact hW)
  have HLI : Hid (∀ W, Below g w1 W → Lies W a1 a2 a3 a4 S) := fun W hW => LI.below (by rw [hg]; exact hW)
  rw [hg] at hv2 hb2 ⊢
  have hgg : g0 ≤ g := by have := hb1.size; omega
  clear hz2 LI hW1
  refine (HV.out _ _ hW2).mono ?_
  rintro e w3 ⟨rfl, hb3⟩
  have hx3 := hv2.below hb3
  have hB3 : Below g w1 w3 := hb2.trans (hb3.mono (by have := hv2.lt; omega))
  clear hW2 hv2 hb2 hb3 HV
  obtain ⟨np, hnp⟩ : ∃ n, S.parties.length = n := ⟨_, rfl⟩
  rw [hnp] at hn2 hn6 HE HL HP2 hi2
  replace hnp := hide hnp
  have HC : Hid (∀ W, SvAt W g (cells7 a1 a2 a3 a4 k1 k2 k3 k4 S) → W.cell? ⟨g, 1, none⟩ = some (.slice a1 np k1) ∧ W.cell? ⟨g, 2, none⟩ = some (.slice a2 S.arcs.length k2) ∧ W.cell? ⟨g, 3, none⟩ = some (.slice a3 S.leaders.length k3)) := fun W hW => by
    rw [← hnp.out]
    exact ⟨(cells7_at hW).2.1, (cells7_at hW).2.2.1, (cells7_at hW).2.2.2.1⟩
  go_wp2_with fail
  go_loopw [8] (fun i wr => ∃ j : Nat, j ≤ np ∧ i = .int .i64 j ∧ SvAt wr g (cells7 a1 a2 a3 a4 k1 k2 k3 k4 S) ∧ Below g w1 wr) (fun i _ => np - (intOf i).toNat)
  case atStart => exact ⟨0, by omega, rfl, hx3, hB3⟩
  case round =>
    clear hx3 hB3
    obtain ⟨j, hj, rfl, hx, hB⟩ := hrel
    obtain ⟨c1, c2, c3⟩ := HC.out _ hx
    by_cases hlt : j < np
    · have j1 : (j : Int) < (np : Int) := by omega
      have HE3 := hide (HE.out wr _ j hlt (HW.out wr hB))
      go_wp2_with ((with_reducible refine wpList_at ?_); refine wpList_loadV (by rfl) (.tmp 7) (by rfl) _ _ (by rfl) hx h7 ?_)
      refine HE3.out.mono ?_
      rintro e w4 ⟨ea, en, ec, hen, rfl, hb4⟩
      have hx4 := hx.below hb4
      have hB4 : Below g w1 w4 := hB.trans (hb4.mono (by have := hx.lt; omega))
      have en0 : ((en : Int) == 0) = false := by rw [beq_eq_false_iff_ne]; omega
      have HL4 := hide (HL.out w4 _ j hlt (HW.out w4 hB4))
      clear hx hB hb4 HE3 c1 c2 c3
      replace hen := hide hen
      go_wp2_with ((with_reducible refine wpList_at ?_); refine wpList_loadV (by rfl) (.tmp 7) (by rfl) _ _ (by rfl) hx4 h7 ?_)
      refine HL4.out.mono ?_
      rintro e w5 ⟨la, ln, lc, hln, rfl, hb5⟩
      have hx5 := hx4.below hb5
      have hB5 : Below g w1 w5 := hB4.trans (hb5.mono (by have := hx4.lt; omega))
      have ln0 : ((ln : Int) == 0) = false := by rw [beq_eq_false_iff_ne]; omega
      clear hx4 hB4 hb5 HL4
      replace hln := hide hln
      go_wp2_with fail
      go_roundw
      case rel => exact ⟨j + 1, by omega, by go_num, hx5, hB5⟩
      case measure => simp [intOf]; omega
    · have j1 : ¬ (j : Int) < (np : Int) := by omega
      have hgw := hx.lt
      go_upto_region 10 with (first
        | ((with_reducible refine wpList_at ?_); refine wpList_loadV (by rfl) (.tmp 7) (by rfl) _ _ (by rfl) hx h7 ?_)
        | ((with_reducible refine wpList_at ?_); refine wpList_varS (by rfl) (by rfl) (by rfl) (.tmp 9) (.tmp 37) (by rfl) _ (by rfl) (by rfl) h7 ?_; intro w6 hv6 hz6 hb6))
      obtain ⟨gt, hgt⟩ : ∃ gt, wr.heap.size = gt := ⟨_, rfl⟩
      rw [hgt] at hv6 hz6 hgw ⊢
      have hx6 := hx.below hb6
      have hB6 : Below g w1 w6 := hB.trans (hb6.mono (by omega))
      obtain ⟨d1, d2, d3⟩ := HC.out _ hx6
      clear c1 c2 c3 hx hB hb6
      obtain ⟨na, hna⟩ : ∃ n, S.arcs.length = n := ⟨_, rfl⟩
      rw [hna] at d2 HP1 hi1 hA1 hn12
      replace hna := hide hna
      have hz6' := hz6
      clear hz6
      have hq0 : IntKind.i64.wrap ((i1 : Int) + 1) = ((i1 + 1 : Nat) : Int) := by rw [wrap_i64 (by omega) (by omega)]; omega
      obtain ⟨q, hq⟩ : ∃ q, i1 + 1 = q := ⟨_, rfl⟩
      rw [hq] at hq0
      obtain ⟨e1, e2, ek2, ek2m, ek3, ek3m⟩ := CA
      rw [hna.out] at ek2
      have hLies6 := HLI.out w6 hB6
      obtain ⟨b2, o2, ha2⟩ : ∃ b o, a2 = some ⟨b, o, none⟩ := by obtain ⟨b, o, h, _⟩ := hLies6.arcs.2 0 (by rw [hna.out]; omega); exact ⟨b, o, h⟩
      subst ha2
      have hAr := hLies6.arcs
      obtain ⟨ad, had, hAd, hAdc⟩ := hAr.rest q k2 (by rw [hna.out]; omega) (by rw [hna.out]; exact ek2)
      have hTk := (hAr.take i1).cells
      have ek2' : i1 ≤ k2 := by omega
      have ekq : q ≤ na := by omega
      have ekq' : (q : Int) ≤ (na : Int) := by omega
      have hkc : ((na : Int) ≤ (k2 : Int)) := by omega
      have hgl : g < w6.heap.size := hx6.lt
      have hz7 : w6.heap.size = gt + 1 := hz6'
      have hT6 : SAt w6 gt S.id (.slice a1 S.parties.length k1) (.slice (some ⟨b2, o2, none⟩) S.arcs.length k2) (.slice a3 S.leaders.length k3) (.slice a4 S.locks.length k4) S.start S.delta := hv6
      have hlen1 : ((S.arcs.take i1).flatMap acells).length = i1 * 5 := by rw [acells_len, List.length_take, hna.out]; omega
      have hlen2 : ((S.arcs.drop q).flatMap acells).length = (na - q) * 5 := by rw [acells_len, List.length_drop, hna.out]
      have one1 := acells_one (S.arcs.take i1)
      have one2 := acells_one (S.arcs.drop q)
      generalize hxs1 : (S.arcs.take i1).flatMap acells = xs1 at hTk hlen1 one1
      generalize hxs2 : (S.arcs.drop q).flatMap acells = xs2 at hAdc hlen2 one2
      have X1 : Hid ((∀ j u, xs1[j]? = some u → w6.cell? ((⟨b2, o2, none⟩ : Addr).add j) = some u) ∧ xs1.length = i1 * 5 ∧ ∀ u ∈ xs1, u.oneCell' = true) := ⟨hTk, hlen1, one1⟩
      have X2 : Hid ((∀ j u, xs2[j]? = some u → w6.cell? (ad.add j) = some u) ∧ xs2.length = (na - q) * 5 ∧ ∀ u ∈ xs2, u.oneCell' = true) := ⟨hAdc, hlen2, one2⟩
      have HX1 := hide hxs1
      have HX2 := hide hxs2
      have HQ := hide hq
      replace hT6 := hide hT6
      replace hv6 := hide hv6
      replace hAd := hide hAd
      clear hTk hlen1 one1 hAdc hlen2 one2 hxs1 hxs2 hAr hLies6 hq hz6'
      replace hz7 := hide hz7
      obtain ⟨nt, hnt⟩ : ∃ nt, i1 + (na - q) = nt := ⟨_, rfl⟩
      have hntl : nt ≤ 12 := by have := HQ.out; omega
      replace hnt := hide hnt
      go_wp2_with fail
      refine (HP1.out _).mono ?_
      rintro e w0 ⟨rfl, hw0⟩
      subst w0
      clear HP1
      go_upto_region 11 with fail
      have hRw : Below w6.heap.size w6 w6.drew := ⟨rfl, rfl, rfl, Nat.le_refl _, fun _ _ => rfl⟩
      refine wp_region_held_drew (S := fun W => W.cell? ⟨g, 2, none⟩ = some (.slice (some ⟨b2, o2, none⟩) na k2)) (by kernel_rfl) (d2) (fun hHeld => ?_)
      refine wpAnyH_take (i := 0) (oi := { dst := some 43, op := Op.fieldAddr 28 (Operand.tmp 7) 2, type := 0, pos := "law.go:39", after := #[], guard := none }) (v := ?_) rfl (by kernel_rfl) (by kernel_rfl) (by kernel_rfl) (fun _ _ _ h => h) (Or.inl ⟨by rfl, ?_⟩) (by assumption) ?_
      rotate_left
      · intro W hSW; first | (go_simp; done) | (go_simp; with_reducible rfl)
      try simp only [Act.put, List.setIfInBounds_toArray, List.set_cons_zero, List.set_cons_succ]
      refine wpAnyH_take (i := 1) (oi := { dst := some 44, op := Op.load 24 (Operand.tmp 43), type := 24, pos := "law.go:39", after := #[{ on := 0, ground := Ground.data }], guard := none }) (v := ?_) rfl (by kernel_rfl) (by kernel_rfl) (by kernel_rfl) (fun _ _ _ h => h) (Or.inl ⟨by rfl, ?_⟩) (by assumption) ?_
      rotate_left
      · intro W hSW; have z0 := hSW; first | (go_simp; done) | (go_simp; with_reducible rfl)
      try simp only [Act.put, List.setIfInBounds_toArray, List.set_cons_zero, List.set_cons_succ]
      refine wpAnyH_take (i := 2) (oi := { dst := some 45, op := Op.move (Operand.tmp 10), type := 3, pos := "law.go:39", after := #[], guard := none }) (v := ?_) rfl (by kernel_rfl) (by kernel_rfl) (by kernel_rfl) (fun _ _ _ h => h) (Or.inl ⟨by rfl, ?_⟩) (by assumption) ?_
      rotate_left
      · intro W hSW; first | (go_simp; done) | (go_simp; with_reducible rfl)
      try simp only [Act.put, List.setIfInBounds_toArray, List.set_cons_zero, List.set_cons_succ]
      refine wpAnyH_take (i := 3) (oi := { dst := some 46, op := Op.slice 24 (Operand.tmp 44) none (some (Operand.tmp 45)) none, type := 24, pos := "law.go:39", after := #[{ on := 1, ground := Ground.data }, { on := 2, ground := Ground.data }], guard := none }) (v := ?_) rfl (by kernel_rfl) (by kernel_rfl) (by kernel_rfl) (fun _ _ _ h => h) (Or.inl ⟨by rfl, ?_⟩) (by assumption) ?_
      rotate_left
      · intro W hSW; first | (go_simp; done) | (go_simp; with_reducible rfl)
      try simp only [Act.put, List.setIfInBounds_toArray, List.set_cons_zero, List.set_cons_succ]
      refine wpAnyH_take (i := 5) (oi := { dst := some 48, op := Op.fieldAddr 28 (Operand.tmp 7) 2, type := 0, pos := "law.go:39", after := #[], guard := none }) (v := ?_) rfl (by kernel_rfl) (by kernel_rfl) (by kernel_rfl) (fun _ _ _ h => h) (Or.inl ⟨by rfl, ?_⟩) (by assumption) ?_
      rotate_left
      · intro W hSW; first | (go_simp; done) | (go_simp; with_reducible rfl)
      try simp only [Act.put, List.setIfInBounds_toArray, List.set_cons_zero, List.set_cons_succ]
      refine wpAnyH_take (i := 6) (oi := { dst := some 49, op := Op.load 24 (Operand.tmp 48), type := 24, pos := "law.go:39", after := #[{ on := 5, ground := Ground.data }], guard := none }) (v := ?_) rfl (by kernel_rfl) (by kernel_rfl) (by kernel_rfl) (fun _ _ _ h => h) (Or.inl ⟨by rfl, ?_⟩) (by assumption) ?_
      rotate_left
      · intro W hSW; have z0 := hSW; first | (go_simp; done) | (go_simp; with_reducible rfl)
      try simp only [Act.put, List.setIfInBounds_toArray, List.set_cons_zero, List.set_cons_succ]
      refine wpAnyH_take (i := 7) (oi := { dst := some 50, op := Op.move (Operand.tmp 10), type := 3, pos := "law.go:39", after := #[], guard := none }) (v := ?_) rfl (by kernel_rfl) (by kernel_rfl) (by kernel_rfl) (fun _ _ _ h => h) (Or.inl ⟨by rfl, ?_⟩) (by assumption) ?_
      rotate_left
      · intro W hSW; first | (go_simp; done) | (go_simp; with_reducible rfl)
      try simp only [Act.put, List.setIfInBounds_toArray, List.set_cons_zero, List.set_cons_succ]
      refine wpAnyH_take (i := 8) (oi := { dst := some 51, op := Op.binOp BinOp.add 3 (Operand.tmp 50) (Operand.const (Value.int IntKind.i64 1)) 3, type := 3, pos := "law.go:39", after := #[{ on := 7, ground := Ground.data }], guard := none }) (v := ?_) rfl (by kernel_rfl) (by kernel_rfl) (by kernel_rfl) (fun _ _ _ h => h) (Or.inl ⟨by rfl, ?_⟩) (by assumption) ?_
      rotate_left
      · intro W hSW; first | (go_simp; done) | (go_simp; with_reducible rfl)
      try simp only [Act.put, List.setIfInBounds_toArray, List.set_cons_zero, List.set_cons_succ]
      refine wpAnyH_take (i := 9) (oi := { dst := some 52, op := Op.slice 24 (Operand.tmp 49) (some (Operand.tmp 51)) none none, type := 24, pos := "law.go:39", after := #[{ on := 6, ground := Ground.data }, { on := 8, ground := Ground.data }], guard := none }) (v := .slice (some ad) (na - q) (k2 - q)) rfl (by kernel_rfl) (by kernel_rfl) (by kernel_rfl) (fun _ _ _ h => h) (Or.inl ⟨by rfl, ?_⟩) (by assumption) ?_
      · intro W hSW; first | (go_simp; done) | (go_simp; with_reducible rfl)
      try simp only [Act.put, List.setIfInBounds_toArray, List.set_cons_zero, List.set_cons_succ]
      refine wpAnyH_loneE (T := fun u W => W.ownsRow (gt + 1) 35 5 u i1 xs1 ∧ Below (gt + 1) w6 W) (i := 4) (oi := { dst := some 47, op := Op.call { callee := Callee.builtin Builtin.append, args := #[Operand.const (Value.slice none 0 0), Operand.tmp 46], argTypes := #[24, 24] }, type := 24, pos := "law.go:39", after := #[{ on := 3, ground := Ground.data }], guard := none }) (by kernel_rfl) rfl (fun v W h => by rw [h.2.cell (by show g < gt + 1; have := hz7.out; omega)]; exact d2) ?_ ?_
      · intro K hK
        refine step_app (st := 24) Try.underlying24 Try.info35 rfl (by decide) (by decide) _ (by rfl) (.const (.slice none 0 0)) (.tmp 46) (by rfl) (gt + 1) _ 0 [] (by rfl) (World.ownsRow_nil _ _ _ _) ⟨b2, o2, none⟩ i1 k2 xs1 (by rfl) X1.out.2.1 (fun j u hj => X1.out.1 j u hj) X1.out.2.2 (by omega) (by have := hz7.out; show gt + 1 ≤ w6.heap.size; omega) ?_
        intro v' w' h1 h2
        rw [Nat.zero_add, List.nil_append] at h1
        exact hK.out _ _ ⟨h1, (show Below (gt + 1) w6 w6.drew from ⟨rfl, rfl, rfl, Nat.le_refl _, fun _ _ => rfl⟩).grown h2 (by have := hz7.out; show gt + 1 ≤ w6.heap.size; omega) (fun k hk => by simp [Value.ownBlock] at hk)⟩
      intro u1 W9 hu1 hHeld
      clear hRw
      obtain ⟨hO8, hB8⟩ := hu1
      obtain ⟨va, vc, rfl⟩ := row_slice hO8
      have hz8 : gt + 1 ≤ W9.heap.size := by have := hB8.size; have := hz7.out; omega
      have hlt8 := World.ownsRow.lt hO8
      try simp only [Act.put, List.setIfInBounds_toArray, List.set_cons_zero, List.set_cons_succ]
      refine wpAnyH_loneE (T := fun u W => W.ownsRow (gt + 1) 35 5 u nt (xs1 ++ xs2) ∧ Below (gt + 1) w6 W) (i := 10) (oi := { dst := some 53, op := Op.call { callee := Callee.builtin Builtin.append, args := #[Operand.tmp 47, Operand.tmp 52], argTypes := #[24, 24] }, type := 24, pos := "law.go:39", after := #[{ on := 4, ground := Ground.data }, { on := 9, ground := Ground.data }, { on := 4, ground := Ground.chain }], guard := none }) (by kernel_rfl) rfl (fun v W h => by rw [h.2.cell (by show g < gt + 1; have := hz7.out; omega)]; exact d2) ?_ ?_
      · intro K hK
        refine step_app (st := 24) Try.underlying24 Try.info35 rfl (by decide) (by decide) _ (by rfl) (.tmp 47) (.tmp 52) (by rfl) (gt + 1) _ i1 xs1 (by rfl) hO8 ad (na - q) (k2 - q) xs2 (by rfl) X2.out.2.1 (fun j u hj => by rw [hB8.cell (by have h9 := block_lt_of_cell (X2.out.1 j u hj); have := hz7.out; omega)]; exact X2.out.1 j u hj) X2.out.2.2 (by omega) hz8 ?_
        intro v' w' h1 h2
        rw [hnt.out] at h1
        exact hK.out _ _ ⟨h1, hB8.grown h2 hz8 (fun k hk => (hlt8 k hk).1)⟩
      intro u2 W9 hu2 hHeld
      clear hO8 hB8 hz8 hlt8
      obtain ⟨hO9, hB9⟩ := hu2
      obtain ⟨va2, vc2, rfl⟩ := row_slice hO9
      have q9 : _ := cell_below hB9 (hT6.out.cells.2.2.1) (by show gt < gt + 1; omega)
      have f9 : _ := frozen_below hB9 (hT6.out.cells.2.2.1) (hT6.out.frozen 2) (by show gt < gt + 1; omega)
      try simp only [Act.put, List.setIfInBounds_toArray, List.set_cons_zero, List.set_cons_succ]
      refine wpAnyH_take (i := 11) (oi := { dst := some 54, op := Op.fieldAddr 28 (Operand.tmp 9) 2, type := 0, pos := "law.go:39", after := #[{ on := 0, ground := Ground.phase }, { on := 1, ground := Ground.phase }, { on := 2, ground := Ground.phase }, { on := 3, ground := Ground.phase }, { on := 4, ground := Ground.phase }, { on := 5, ground := Ground.phase }, { on := 6, ground := Ground.phase }, { on := 7, ground := Ground.phase }, { on := 8, ground := Ground.phase }, { on := 9, ground := Ground.phase }, { on := 10, ground := Ground.phase }], guard := none }) (v := ?_) rfl (by kernel_rfl) (by kernel_rfl) (by kernel_rfl) (fun _ _ _ h => h) (Or.inl ⟨by rfl, ?_⟩) (by assumption) ?_
      rotate_left
      · intro W hSW; first | (go_simp; done) | (go_simp; with_reducible rfl)
      try simp only [Act.put, List.setIfInBounds_toArray, List.set_cons_zero, List.set_cons_succ]
      refine wpAnyH_loneE (T := fun _ W => ∃ u W0, W0.ownsRow (gt + 1) 35 5 u nt (xs1 ++ xs2) ∧ Below (gt + 1) w6 W0 ∧ W = W0.setCell ⟨gt, 2, none⟩ u) (i := 12) (oi := { dst := none, op := Op.store 24 (Operand.tmp 54) (Operand.tmp 53), type := 0, pos := "law.go:39", after := #[{ on := 11, ground := Ground.data }, { on := 10, ground := Ground.data }, { on := 10, ground := Ground.chain }, { on := 0, ground := Ground.phase }, { on := 1, ground := Ground.phase }, { on := 2, ground := Ground.phase }, { on := 3, ground := Ground.phase }, { on := 4, ground := Ground.phase }, { on := 5, ground := Ground.phase }, { on := 6, ground := Ground.phase }, { on := 7, ground := Ground.phase }, { on := 8, ground := Ground.phase }, { on := 9, ground := Ground.phase }, { on := 10, ground := Ground.phase }], guard := none }) (by kernel_rfl) rfl (fun v W h => by obtain ⟨u, W0, _, hb, rfl⟩ := h; rw [World.cell?_setCell_other _ _ _ _ (fun e => by injection e with e _ _; omega), hb.cell (by show g < gt + 1; have := hz7.out; omega)]; exact d2) ?_ ?_
      · intro K hK
        go_simp
        exact hK.out undef _ ⟨_, _, hO9, hB9, rfl⟩
      intro u3 W9 hu3 hHeld
      clear hO9 hB9 q9 f9
      obtain ⟨ut, W0, hOt, hBt, rfl⟩ := hu3
      try simp only [Act.put]
      refine wpAnyH_done (by kernel_rfl) ?_ _
      have hTarcs : xs1 ++ xs2 = (S.arcs.take i1 ++ S.arcs.drop q).flatMap acells := by rw [List.flatMap_append, HX1.out, HX2.out]
      have hTlen : nt = (S.arcs.take i1 ++ S.arcs.drop q).length := by rw [List.length_append, List.length_take, List.length_drop, hna.out, ← hnt.out]; have := HQ.out; omega
      rw [hTarcs] at hOt
      have hgt1 : gt < gt + 1 := Nat.lt_succ_self _
      have hS0 : SAt W0 gt S.id (.slice a1 S.parties.length k1) (.slice (some ⟨b2, o2, none⟩) S.arcs.length k2) (.slice a3 S.leaders.length k3) (.slice a4 S.locks.length k4) S.start S.delta := by
        have h9 := hT6.out
        unfold SAt at h9 ⊢
        rw [hBt.block gt hgt1]; exact h9
      have hset := But.setCell W0 gt 2 ut
      have hT7 := hS0.set2 ut
      have hA7 : OwnA (W0.setCell ⟨gt, 2, none⟩ ut) (gt + 1) ut (S.arcs.take i1 ++ S.arcs.drop q) := by
        unfold OwnA
        rw [← hTlen]
        exact World.ownsRow.kept hOt hset.grown (row_apart hOt hS0 (by decide))
      have hx7 : SvAt (W0.setCell ⟨gt, 2, none⟩ ut) g (cells7 a1 (some ⟨b2, o2, none⟩) a3 a4 k1 k2 k3 k4 S) := by
        refine SvAt.but (w := W0) ?_ hset (by omega)
        have h9 := hx6
        unfold SvAt at h9 ⊢
        rw [hBt.block g (by omega)]; exact h9
      have hB7 : Below g w1 (W0.setCell ⟨gt, 2, none⟩ ut) := (hB6.trans (hBt.mono (by omega))).setCell (p := ⟨gt, 2, none⟩) (by show g ≤ gt; omega) ut
      have hz7' : gt + 1 ≤ (W0.setCell ⟨gt, 2, none⟩ ut).heap.size := by have h1 := hset.size; have h2 := hBt.size; have := hz7.out; omega
      clear hOt hBt hS0 hset hT6 hv6 hAd had X1 X2 HX1 HX2 hx6 hB6 d1 d2 d3 hHeld hgl
      generalize W0.setCell ⟨gt, 2, none⟩ ut = w7 at hT7 hA7 hx7 hB7 hz7' ⊢
      -- the swap with an arc less
      obtain ⟨T, hTd⟩ : ∃ T : SpecM, T = { S with arcs := S.arcs.take i1 ++ S.arcs.drop q } := ⟨_, rfl⟩
      have hL7 := HLI.out w7 hB7
      obtain ⟨at7, ct7, rfl, hcc7, hcm7, hAr7⟩ := hA7.arcs (by rw [← hTlen]; omega) (fun j hj => by
        have hm := getD_mem (S.arcs.take i1 ++ S.arcs.drop q) j noArc hj
        have hm2 : (S.arcs.take i1 ++ S.arcs.drop q).getD j noArc ∈ S.arcs := by
          rcases List.mem_append.1 hm with h | h
          · exact List.mem_of_mem_take h
          · exact List.mem_of_mem_drop h
        obtain ⟨k, hk, hke⟩ := List.mem_iff_getElem.1 hm2
        have h9 := hsane.ar k hk
        rw [List.getD_eq_getElem?_getD, List.getElem?_eq_getElem hk] at h9
        rw [← hke]; exact h9)
      have hWT : SpecW w7 (.agg (scells S.id (.slice a1 S.parties.length k1) (.slice at7 (S.arcs.take i1 ++ S.arcs.drop q).length ct7) (.slice a3 S.leaders.length k3) (.slice a4 S.locks.length k4) S.start S.delta)) T := by
        rw [hTd]
        exact ⟨a1, at7, a3, a4, k1, ct7, k3, k4, rfl, ⟨hL7.id, hL7.parties, hAr7, hL7.leaders, hL7.locks, hL7.start, hL7.delta⟩, e1, e2, hcc7, hcm7, ek3, ek3m⟩
      have hvT : SvAt w7 gt (scells S.id (.slice a1 S.parties.length k1) (.slice at7 (S.arcs.take i1 ++ S.arcs.drop q).length ct7) (.slice a3 S.leaders.length k3) (.slice a4 S.locks.length k4) S.start S.delta) := hT7
      have h7T : Seven (scells S.id (.slice a1 S.parties.length k1) (.slice at7 (S.arcs.take i1 ++ S.arcs.drop q).length ct7) (.slice a3 S.leaders.length k3) (.slice a4 S.locks.length k4) S.start S.delta) := ⟨rfl, fun u hu => by simp [scells] at hu; rcases hu with rfl | rfl | rfl | rfl | rfl | rfl | rfl <;> rfl⟩
      generalize scells S.id (.slice a1 S.parties.length k1) (.slice at7 (S.arcs.take i1 ++ S.arcs.drop q).length ct7) (.slice a3 S.leaders.length k3) (.slice a4 S.locks.length k4) S.start S.delta = csT at hWT hvT h7T
      clear hT7 hA7 hAr7 hTd hTlen hTarcs hcc7 hcm7 hL7
      -- other leaders
      obtain ⟨gu, hgu⟩ : ∃ gu, w7.heap.size = gu := ⟨_, rfl⟩
      have hLd7 := (HLI.out w7 hB7).leaders
      have hl1 : 1 ≤ S.leaders.length := hok.out.2.1.1
      obtain ⟨b3, o3, ha3⟩ : ∃ b o, a3 = some ⟨b, o, none⟩ := by obtain ⟨b, o, h, _⟩ := hLd7.2.2.2 0 (by omega); exact ⟨b, o, h⟩
      subst ha3
      replace hLd7 := hide hLd7
      go_upto_region 13 with (first
        | ((with_reducible refine wpList_at ?_); refine wpList_loadV (by rfl) (.tmp 7) (by rfl) _ _ (by rfl) hx7 h7 ?_)
        | ((with_reducible refine wpList_at ?_); refine wpList_varS (by rfl) (by rfl) (by rfl) (.tmp 11) (.tmp 55) (by rfl) _ (by rfl) (by rfl) h7 ?_; intro w8 hv8 hz8 hb8))
      rw [hgu] at hv8 hz8 ⊢
      have hx8 := hx7.below hb8
      have hB8 : Below gu w7 w8 := by rw [← hgu]; exact hb8
      obtain ⟨d1, d2, d3⟩ := HC.out _ hx8
      have hgu' : gt + 1 ≤ gu := by omega
      have hU8 : SAt w8 gu S.id (.slice a1 S.parties.length k1) (.slice (some ⟨b2, o2, none⟩) S.arcs.length k2) (.slice (some ⟨b3, o3, none⟩) S.leaders.length k3) (.slice a4 S.locks.length k4) S.start S.delta := hv8
      have q3 := hU8.cells.2.2.2.1
      have f3 := hU8.frozen 3
      have hLc := ((HLI.out w7 hB7).leaders.below hb8).cells
      obtain ⟨nl, hnl⟩ : ∃ n, S.leaders.length = n := ⟨_, rfl⟩
      have hIL : Hid (∀ x ∈ S.leaders, 0 ≤ x ∧ x < 6) := fun x hx => by
        obtain ⟨j, hj, rfl⟩ := List.mem_iff_getElem.1 hx
        obtain ⟨i1', i2', _⟩ := hok.out.2.1.2.2.2 j hj
        rw [List.getD_eq_getElem?_getD, List.getElem?_eq_getElem hj] at i1' i2'
        have := (ok_parts hok.out).2.1
        simp at i1' i2'
        omega
      rw [hnl] at d3 hL3 hl1 q3
      have hLl : (S.leaders.map (Value.int .i64)).length = nl * 1 := by rw [List.length_map, hnl]; omega
      have hU8' : SAt w8 gu S.id (.slice a1 S.parties.length k1) (.slice (some ⟨b2, o2, none⟩) S.arcs.length k2) (.slice (some ⟨b3, o3, none⟩) nl k3) (.slice a4 S.locks.length k4) S.start S.delta := by rw [← hnl]; exact hU8
      replace hnl := hide hnl
      have HLc := hide hLc
      have HLl := hide hLl
      replace hU8' := hide hU8'
      obtain ⟨i0, hi, hz0, hzs, hzb⟩ := info_parts Try.info3
      replace hi := hide hi
      replace hz0 := hide hz0
      replace hzs := hide hzs
      replace hzb := hide hzb
      have HX7 : Hid (∀ W, Below gu w7 W → SvAt W g (cells7 a1 (some ⟨b2, o2, none⟩) (some ⟨b3, o3, none⟩) a4 k1 k2 k3 k4 S)) := fun W hW => hx7.below (by rw [hgu]; exact hW)
      have HT7 : Hid (∀ W, Below gu w7 W → SvAt W gt csT ∧ SpecW W (.agg csT) T) := fun W hW => ⟨hvT.below (by rw [hgu]; exact hW), hWT.below (by rw [hgu]; exact hW)⟩
      clear hLc hLl hU8 hv8 hLd7 hx7 hvT hWT
      go_upto_region 14 with (at_builtin; refine wpList_append_own _ (by rfl) (.const (.slice none 0 0)) (.tmp 57) 25 (by rfl) (gu + 1) 3 i0 _ 1 8 Try.underlying25 hi.out hz0.out hzs.out hzb.out rfl (by decide) (.slice none 0 0) 0 [] (by rfl) (World.ownsRow_nil _ _ _ _) ⟨b3, o3, none⟩ nl k3 (S.leaders.map (Value.int .i64)) (by rfl) HLl.out HLc.out (ints_one _) (by unfold maxLen; omega) (by omega) (by omega) ?_; intro v9 w9 hown9 hg9 _; obtain ⟨v9a, v9c, rfl⟩ := row_slice hown9; have q3' := hg9.cell q3 (by show some gu ≠ none; simp); have f3' := grown_frozen hg9 (show some gu ≠ none by simp) q3 f3)
      clear d1 d2 d3 q3 f3 q3' f3' hi hz0 hzs hzb HLc HLl
      simp only [Nat.zero_add, List.nil_append] at hown9
      have hU9 := hU8'.out.grown hg9 (by show some gu ≠ none; simp)
      have hset := But.setCell w9 gu 3 (.slice v9a nl v9c)
      have hU10 := hU9.set3 (.slice v9a nl v9c)
      have hI10 : OwnI (w9.setCell ⟨gu, 3, none⟩ (.slice v9a nl v9c)) (gu + 1) (.slice v9a nl v9c) S.leaders := by
        unfold OwnI
        rw [hnl.out]
        exact World.ownsRow.kept hown9 hset.grown (row_apart hown9 hU9 (by decide))
      have hB9 : Below gu w7 w9 := hB8.grown hg9 (by omega) (fun k hk => by simp [Value.ownBlock] at hk)
      have hB10 : Below gu w7 (w9.setCell ⟨gu, 3, none⟩ (.slice v9a nl v9c)) := hB9.setCell (p := ⟨gu, 3, none⟩) (Nat.le_refl _) _
      have hz10 : gu + 1 ≤ (w9.setCell ⟨gu, 3, none⟩ (.slice v9a nl v9c)).heap.size := by have h1 := hset.size; have h2 := hg9.size; omega
      clear hown9 hg9 hU9 hset hU8' hB9 hB8 hb8 hz8 hx8
      generalize w9.setCell ⟨gu, 3, none⟩ (.slice v9a nl v9c) = w10 at hU10 hI10 hB10 hz10 ⊢
      go_wp2_with fail
      go_loopw [12] (fun i wr => ∃ (j : Nat) (Lj : List Int), j ≤ nl ∧ i = .int .i64 j ∧ Lj.length = nl ∧ (∀ x ∈ Lj, 0 ≤ x ∧ x < 6) ∧ OwnI wr (gu + 1) (.slice v9a nl v9c) Lj ∧ SAt wr gu S.id (.slice a1 S.parties.length k1) (.slice (some ⟨b2, o2, none⟩) S.arcs.length k2) (.slice v9a nl v9c) (.slice a4 S.locks.length k4) S.start S.delta ∧ Below gu w7 wr ∧ gu + 1 ≤ wr.heap.size) (fun i _ => nl - (intOf i).toNat)
      case atStart => exact ⟨0, S.leaders, by omega, rfl, hnl.out, hIL.out, hI10, hU10, hB10, hz10⟩
      case round =>
        clear hI10 hU10 hB10 hz10
        obtain ⟨j, Lj, hj, rfl, hjl, hjx, hI, hU, hB, hz⟩ := hrel
        have q3 := hU.cells.2.2.2.1
        have row : wr.ownsRow (gu + 1) 3 1 (.slice v9a nl v9c) nl (Lj.map (Value.int .i64)) := by have h9 := hI; unfold OwnI at h9; rw [hjl] at h9; exact h9
        by_cases hlt : j < nl
        · have j1 : (j : Int) < (nl : Int) := by omega
          have c1 := (HC.out wr (HX7.out wr hB)).1
          obtain ⟨gl, hgl, hBl, _⟩ : ∃ gl, v9a = some ⟨gl, 0, none⟩ ∧ gu + 1 ≤ gl ∧ True := by
            obtain ⟨a', c', hv, _, _, hx⟩ := row_at row
            injection hv with hv _ _
            subst hv
            obtain ⟨gl, h1, h2, _⟩ := hx (by omega)
            exact ⟨gl, h1, h2, trivial⟩
          subst hgl
          obtain ⟨x, hx⟩ : ∃ x, Lj.getD j 0 = x := ⟨_, rfl⟩
          have cl : wr.cell? ⟨gl, j, none⟩ = some (.int .i64 x) := by
            rw [row.cellAt j (by omega), List.getElem?_map, List.getElem?_eq_getElem (by omega), ← hx, List.getD_eq_getElem?_getD, List.getElem?_eq_getElem (by omega)]; rfl
          have fl := row.frozenAt j
          obtain ⟨x0, x6⟩ := hjx x (by rw [← hx]; exact getD_mem Lj j 0 (by omega))
          obtain ⟨y, hy⟩ : ∃ y, x + (i2 : Int) = y := ⟨_, rfl⟩
          have hw0 : IntKind.i64.wrap (x + (i2 : Int)) = y := by rw [wrap_i64 (by omega) (by omega)]; exact hy
          have hnp0 : ¬ np = 0 := by omega
          have hnp1 : ((np : Int) == 0) = false := by rw [beq_eq_false_iff_ne]; omega
          obtain ⟨z, hz'⟩ : ∃ z, Int.tmod y (np : Int) = z := ⟨_, rfl⟩
          have hzb := tmod_in y np (by omega) (by omega)
          rw [hz'] at hzb
          have hzb6 : Hid (0 ≤ z ∧ z < 6) := ⟨hzb.1, by omega⟩
          have hwz : IntKind.i64.wrap (Int.tmod y (np : Int)) = z := by rw [hz', wrap_i64 (by omega) (by omega)]
          have row' := hide row
          have hU' := hide hU
          have hB' := hide hB
          have hjx' := hide hjx
          replace hy := hide hy
          replace hx := hide hx
          clear row hU hB hjx hI hzb
          go_upto_region 17 with fail
          have hRw : Below wr.heap.size wr wr.drew := ⟨rfl, rfl, rfl, Nat.le_refl _, fun _ _ => rfl⟩
          refine wp_region_held_drew (S := fun W => W.cell? ⟨g, 1, none⟩ = some (.slice a1 np k1) ∧ W.cell? ⟨gu, 3, none⟩ = some (.slice (some ⟨gl, 0, none⟩) nl v9c)) (by kernel_rfl) (⟨c1, q3⟩) (fun hHeld => ?_)
          refine wpAnyH_take (i := 0) (oi := { dst := some 67, op := Op.fieldAddr 28 (Operand.tmp 11) 3, type := 0, pos := "law.go:43", after := #[], guard := none }) (v := ?_) rfl (by kernel_rfl) (by kernel_rfl) (by kernel_rfl) (fun _ _ _ h => h) (Or.inl ⟨by rfl, ?_⟩) (by assumption) ?_
          rotate_left
          · intro W hSW; first | (go_simp; done) | (go_simp; with_reducible rfl)
          try simp only [Act.put, List.setIfInBounds_toArray, List.set_cons_zero, List.set_cons_succ]
          refine wpAnyH_take (i := 1) (oi := { dst := some 68, op := Op.load 25 (Operand.tmp 67), type := 25, pos := "law.go:43", after := #[{ on := 0, ground := Ground.data }], guard := none }) (v := ?_) rfl (by kernel_rfl) (by kernel_rfl) (by kernel_rfl) (fun _ _ _ h => h) (Or.inl ⟨by rfl, ?_⟩) (by assumption) ?_
          rotate_left
          · intro W hSW; have z0 := hSW.1; have z1 := hSW.2; first | (go_simp; done) | (go_simp; with_reducible rfl)
          try simp only [Act.put, List.setIfInBounds_toArray, List.set_cons_zero, List.set_cons_succ]
          refine wpAnyH_take (i := 2) (oi := { dst := some 69, op := Op.move (Operand.tmp 12), type := 3, pos := "law.go:43", after := #[], guard := none }) (v := ?_) rfl (by kernel_rfl) (by kernel_rfl) (by kernel_rfl) (fun _ _ _ h => h) (Or.inl ⟨by rfl, ?_⟩) (by assumption) ?_
          rotate_left
          · intro W hSW; first | (go_simp; done) | (go_simp; with_reducible rfl)
          try simp only [Act.put, List.setIfInBounds_toArray, List.set_cons_zero, List.set_cons_succ]
          refine wpAnyH_take (i := 3) (oi := { dst := some 70, op := Op.fieldAddr 28 (Operand.tmp 11) 3, type := 0, pos := "law.go:43", after := #[], guard := none }) (v := ?_) rfl (by kernel_rfl) (by kernel_rfl) (by kernel_rfl) (fun _ _ _ h => h) (Or.inl ⟨by rfl, ?_⟩) (by assumption) ?_
          rotate_left
          · intro W hSW; first | (go_simp; done) | (go_simp; with_reducible rfl)
          try simp only [Act.put, List.setIfInBounds_toArray, List.set_cons_zero, List.set_cons_succ]
          refine wpAnyH_take (i := 4) (oi := { dst := some 71, op := Op.load 25 (Operand.tmp 70), type := 25, pos := "law.go:43", after := #[{ on := 3, ground := Ground.data }], guard := none }) (v := ?_) rfl (by kernel_rfl) (by kernel_rfl) (by kernel_rfl) (fun _ _ _ h => h) (Or.inl ⟨by rfl, ?_⟩) (by assumption) ?_
          rotate_left
          · intro W hSW; have z0 := hSW.1; have z1 := hSW.2; first | (go_simp; done) | (go_simp; with_reducible rfl)
          try simp only [Act.put, List.setIfInBounds_toArray, List.set_cons_zero, List.set_cons_succ]
          refine wpAnyH_take (i := 5) (oi := { dst := some 72, op := Op.move (Operand.tmp 12), type := 3, pos := "law.go:43", after := #[], guard := none }) (v := ?_) rfl (by kernel_rfl) (by kernel_rfl) (by kernel_rfl) (fun _ _ _ h => h) (Or.inl ⟨by rfl, ?_⟩) (by assumption) ?_
          rotate_left
          · intro W hSW; first | (go_simp; done) | (go_simp; with_reducible rfl)
          try simp only [Act.put, List.setIfInBounds_toArray, List.set_cons_zero, List.set_cons_succ]
          refine wpAnyH_take (i := 6) (oi := { dst := some 73, op := Op.indexAddr 25 (Operand.tmp 71) (Operand.tmp 72), type := 0, pos := "law.go:43", after := #[{ on := 4, ground := Ground.data }, { on := 5, ground := Ground.data }], guard := none }) (v := ?_) rfl (by kernel_rfl) (by kernel_rfl) (by kernel_rfl) (fun _ _ _ h => h) (Or.inl ⟨by rfl, ?_⟩) (by assumption) ?_
          rotate_left
          · intro W hSW; first | (go_simp; done) | (go_simp; with_reducible rfl)
          try simp only [Act.put, List.setIfInBounds_toArray, List.set_cons_zero, List.set_cons_succ]
          refine wpAnyH_take (i := 8) (oi := { dst := some 75, op := Op.move (Operand.tmp 2), type := 3, pos := "law.go:43", after := #[], guard := none }) (v := ?_) rfl (by kernel_rfl) (by kernel_rfl) (by kernel_rfl) (fun _ _ _ h => h) (Or.inl ⟨by rfl, ?_⟩) (by assumption) ?_
          rotate_left
          · intro W hSW; first | (go_simp; done) | (go_simp; with_reducible rfl)
          try simp only [Act.put, List.setIfInBounds_toArray, List.set_cons_zero, List.set_cons_succ]
          refine wpAnyH_take (i := 9) (oi := { dst := some 76, op := Op.fieldAddr 28 (Operand.tmp 7) 1, type := 0, pos := "law.go:43", after := #[], guard := none }) (v := ?_) rfl (by kernel_rfl) (by kernel_rfl) (by kernel_rfl) (fun _ _ _ h => h) (Or.inl ⟨by rfl, ?_⟩) (by assumption) ?_
          rotate_left
          · intro W hSW; first | (go_simp; done) | (go_simp; with_reducible rfl)
          try simp only [Act.put, List.setIfInBounds_toArray, List.set_cons_zero, List.set_cons_succ]
          refine wpAnyH_take (i := 10) (oi := { dst := some 77, op := Op.load 23 (Operand.tmp 76), type := 23, pos := "law.go:43", after := #[{ on := 9, ground := Ground.data }], guard := none }) (v := ?_) rfl (by kernel_rfl) (by kernel_rfl) (by kernel_rfl) (fun _ _ _ h => h) (Or.inl ⟨by rfl, ?_⟩) (by assumption) ?_
          rotate_left
          · intro W hSW; have z0 := hSW.1; have z1 := hSW.2; first | (go_simp; done) | (go_simp; with_reducible rfl)
          try simp only [Act.put, List.setIfInBounds_toArray, List.set_cons_zero, List.set_cons_succ]
          refine wpAnyH_take (i := 11) (oi := { dst := some 78, op := Op.call { callee := Callee.builtin Builtin.len, args := #[Operand.tmp 77], argTypes := #[23] }, type := 3, pos := "law.go:43", after := #[{ on := 10, ground := Ground.data }], guard := none }) (v := ?_) rfl (by kernel_rfl) (by kernel_rfl) (by kernel_rfl) (fun _ _ _ h => h) (Or.inl ⟨by rfl, ?_⟩) (by assumption) ?_
          rotate_left
          · intro W hSW; first | (go_simp; done) | (go_simp; with_reducible rfl)
          try simp only [Act.put, List.setIfInBounds_toArray, List.set_cons_zero, List.set_cons_succ]
          refine wpAnyH_take (i := 14) (oi := { dst := some 81, op := Op.fieldAddr 28 (Operand.tmp 7) 1, type := 0, pos := "law.go:43", after := #[], guard := none }) (v := ?_) rfl (by kernel_rfl) (by kernel_rfl) (by kernel_rfl) (fun _ _ _ h => h) (Or.inl ⟨by rfl, ?_⟩) (by assumption) ?_
          rotate_left
          · intro W hSW; first | (go_simp; done) | (go_simp; with_reducible rfl)
          try simp only [Act.put, List.setIfInBounds_toArray, List.set_cons_zero, List.set_cons_succ]
          refine wpAnyH_take (i := 15) (oi := { dst := some 82, op := Op.load 23 (Operand.tmp 81), type := 23, pos := "law.go:43", after := #[{ on := 14, ground := Ground.data }], guard := none }) (v := ?_) rfl (by kernel_rfl) (by kernel_rfl) (by kernel_rfl) (fun _ _ _ h => h) (Or.inl ⟨by rfl, ?_⟩) (by assumption) ?_
          rotate_left
          · intro W hSW; have z0 := hSW.1; have z1 := hSW.2; first | (go_simp; done) | (go_simp; with_reducible rfl)
          try simp only [Act.put, List.setIfInBounds_toArray, List.set_cons_zero, List.set_cons_succ]
          refine wpAnyH_take (i := 16) (oi := { dst := some 83, op := Op.call { callee := Callee.builtin Builtin.len, args := #[Operand.tmp 82], argTypes := #[23] }, type := 3, pos := "law.go:43", after := #[{ on := 15, ground := Ground.data }], guard := none }) (v := ?_) rfl (by kernel_rfl) (by kernel_rfl) (by kernel_rfl) (fun _ _ _ h => h) (Or.inl ⟨by rfl, ?_⟩) (by assumption) ?_
          rotate_left
          · intro W hSW; first | (go_simp; done) | (go_simp; with_reducible rfl)
          try simp only [Act.put, List.setIfInBounds_toArray, List.set_cons_zero, List.set_cons_succ]
          refine wpAnyH_pair (R := fun W => W = wr.drew) (i := 7) (j := 12) (oi := { dst := some 74, op := Op.load 3 (Operand.tmp 73), type := 3, pos := "law.go:43", after := #[{ on := 6, ground := Ground.data }], guard := none }) (oj := { dst := some 79, op := Op.call { callee := Callee.value (Operand.func 8), args := #[Operand.tmp 75, Operand.tmp 78], argTypes := #[3, 3] }, type := 3, pos := "law.go:43", after := #[{ on := 8, ground := Ground.data }, { on := 11, ground := Ground.data }], guard := none }) (vi := .int .i64 x) (vj := .int .i64 (i2 : Int)) (by kernel_rfl) (by kernel_rfl) (by kernel_rfl) rfl rfl rfl rfl rfl rfl (rfl) (fun W hW => by subst hW; exact ⟨c1, q3⟩) ?_ ?_ ?_ ?_ ?_
          · intro W hW K hK
            subst hW
            have z0 : wr.drew.cell? ⟨gl, j, none⟩ = some (.int .i64 x) := cl
            go_simp
            exact hK.out _ rfl
          · intro W hW K hK
            subst hW
            go_simp
            refine (HP2.out _).mono ?_
            rintro e W2 ⟨rfl, hw2⟩
            subst W2
            go_wp2_with fail
            exact hK.out _ rfl
          · intro W hW K hK
            subst hW
            go_simp
            refine (HP2.out _).mono ?_
            rintro e W2 ⟨rfl, hw2⟩
            subst W2
            go_wp2_with fail
            exact hK.out _ rfl
          · intro W hW K hK
            subst hW
            have z0 : wr.drew.cell? ⟨gl, j, none⟩ = some (.int .i64 x) := cl
            go_simp
            exact hK.out _ rfl
          clear hRw
          intro W9 hRw hHeld
          subst hRw
          try simp only [Act.put, List.setIfInBounds_toArray, List.set_cons_zero, List.set_cons_succ]
          refine wpAnyH_take (i := 13) (oi := { dst := some 80, op := Op.binOp BinOp.add 3 (Operand.tmp 74) (Operand.tmp 79) 3, type := 3, pos := "law.go:43", after := #[{ on := 7, ground := Ground.data }, { on := 12, ground := Ground.data }], guard := none }) (v := ?_) rfl (by kernel_rfl) (by kernel_rfl) (by kernel_rfl) (fun _ _ _ h => h) (Or.inl ⟨by rfl, ?_⟩) (by assumption) ?_
          rotate_left
          · intro W hSW; first | (go_simp; done) | (go_simp; with_reducible rfl)
          try simp only [Act.put, List.setIfInBounds_toArray, List.set_cons_zero, List.set_cons_succ]
          refine wpAnyH_take (i := 17) (oi := { dst := some 84, op := Op.binOp BinOp.rem 3 (Operand.tmp 80) (Operand.tmp 83) 3, type := 3, pos := "law.go:43", after := #[{ on := 13, ground := Ground.data }, { on := 16, ground := Ground.data }], guard := none }) (v := .int .i64 z) rfl (by kernel_rfl) (by kernel_rfl) (by kernel_rfl) (fun _ _ _ h => h) (Or.inl ⟨by rfl, ?_⟩) (by assumption) ?_
          · intro W hSW; first | (go_simp; done) | (go_simp; with_reducible rfl)
          try simp only [Act.put, List.setIfInBounds_toArray, List.set_cons_zero, List.set_cons_succ]
          refine wpAnyH_take (i := 18) (oi := { dst := some 85, op := Op.indexAddr 25 (Operand.tmp 68) (Operand.tmp 69), type := 0, pos := "law.go:43", after := #[{ on := 1, ground := Ground.data }, { on := 2, ground := Ground.data }, { on := 0, ground := Ground.phase }, { on := 1, ground := Ground.phase }, { on := 2, ground := Ground.phase }, { on := 3, ground := Ground.phase }, { on := 4, ground := Ground.phase }, { on := 5, ground := Ground.phase }, { on := 6, ground := Ground.phase }, { on := 7, ground := Ground.phase }, { on := 8, ground := Ground.phase }, { on := 9, ground := Ground.phase }, { on := 10, ground := Ground.phase }, { on := 11, ground := Ground.phase }, { on := 12, ground := Ground.phase }, { on := 13, ground := Ground.phase }, { on := 14, ground := Ground.phase }, { on := 15, ground := Ground.phase }, { on := 16, ground := Ground.phase }, { on := 17, ground := Ground.phase }], guard := none }) (v := ?_) rfl (by kernel_rfl) (by kernel_rfl) (by kernel_rfl) (fun _ _ _ h => h) (Or.inl ⟨by rfl, ?_⟩) (by assumption) ?_
          rotate_left
          · intro W hSW; first | (go_simp; done) | (go_simp; with_reducible rfl)
          try simp only [Act.put, List.setIfInBounds_toArray, List.set_cons_zero, List.set_cons_succ]
          refine wpAnyH_loneE (T := fun _ W => W = wr.drew.setCell ⟨gl, j, none⟩ (.int .i64 z)) (i := 19) (oi := { dst := none, op := Op.store 3 (Operand.tmp 85) (Operand.tmp 84), type := 0, pos := "law.go:43", after := #[{ on := 18, ground := Ground.data }, { on := 17, ground := Ground.data }, { on := 12, ground := Ground.chain }, { on := 0, ground := Ground.phase }, { on := 1, ground := Ground.phase }, { on := 2, ground := Ground.phase }, { on := 3, ground := Ground.phase }, { on := 4, ground := Ground.phase }, { on := 5, ground := Ground.phase }, { on := 6, ground := Ground.phase }, { on := 7, ground := Ground.phase }, { on := 8, ground := Ground.phase }, { on := 9, ground := Ground.phase }, { on := 10, ground := Ground.phase }, { on := 11, ground := Ground.phase }, { on := 12, ground := Ground.phase }, { on := 13, ground := Ground.phase }, { on := 14, ground := Ground.phase }, { on := 15, ground := Ground.phase }, { on := 16, ground := Ground.phase }, { on := 17, ground := Ground.phase }], guard := none }) (by kernel_rfl) rfl (fun v W h => by subst h; exact ⟨by rw [World.cell?_setCell_other _ _ _ _ (fun e => by injection e with e _ _; have := HX7.out wr hB'.out; omega)]; exact c1, by rw [World.cell?_setCell_other _ _ _ _ (fun e => by injection e with e _ _; omega)]; exact q3⟩) ?_ ?_
          · intro K hK
            have z1 : wr.drew.cell? ⟨gl, j, none⟩ = some (.int .i64 x) := cl
            have z2 : wr.drew.frozen? ⟨gl, j, none⟩ = false := fl
            go_simp
            exact hK.out undef _ rfl
          intro u17 W9 hu17 hHeld
          subst hu17
          try simp only [Act.put]
          refine wpAnyH_done (by kernel_rfl) ?_ _
          have rowd := (row'.out.drew).stored j (.int .i64 z)
          have hset := But.setCell wr.drew gl j (.int .i64 z)
          have hUd : SAt wr.drew gu S.id (.slice a1 S.parties.length k1) (.slice (some ⟨b2, o2, none⟩) S.arcs.length k2) (.slice (some ⟨gl, 0, none⟩) nl v9c) (.slice a4 S.locks.length k4) S.start S.delta := hU'.out
          have hU2 := hide (hUd.but hset (by omega))
          have hI2 : Hid (OwnI (wr.drew.setCell ⟨gl, j, none⟩ (.int .i64 z)) (gu + 1) (.slice (some ⟨gl, 0, none⟩) nl v9c) (Lj.set j z)) := by
            show World.ownsRow _ _ _ _ _ _ _
            rw [List.length_set, hjl, List.map_set]; exact rowd.1
          have hBd : Below gu w7 wr.drew := ⟨hB'.out.os, hB'.out.tape, hB'.out.output, hB'.out.size, hB'.out.block⟩
          have hB2 := hide (hBd.setCell (p := ⟨gl, j, none⟩) (by show gu ≤ gl; omega) (.int .i64 z))
          have hz2 : gu + 1 ≤ (wr.drew.setCell ⟨gl, j, none⟩ (.int .i64 z)).heap.size := by have h1 := hset.size; have h2 : wr.drew.heap.size = wr.heap.size := rfl; omega
          clear rowd hset hUd hBd row' hU' hB' q3 c1 cl fl hHeld
          generalize wr.drew.setCell ⟨gl, j, none⟩ (.int .i64 z) = w17 at hU2 hI2 hB2 hz2 ⊢
          go_wp2_with fail
          go_roundw
          case rel => exact ⟨j + 1, Lj.set j z, by omega, by go_num, by rw [List.length_set]; exact hjl, fun u hu => by
            rcases List.mem_or_eq_of_mem_set hu with h | h
            · exact hjx'.out u h
            · rw [h]; exact hzb6.out, hI2.out, hU2.out, hB2.out, hz2⟩
          case measure => simp [intOf]; omega
        · have j1 : ¬ (j : Int) < (nl : Int) := by omega
          have hBg : Below g w1 wr := hB7.trans (hB.mono (by omega))
          have hLw := HLI.out wr hBg
          obtain ⟨al, cl, hal, hcl1, hcl2, hIl⟩ := hI.ints (by omega) (fun j hj => by have := hjx _ (getD_mem Lj j 0 hj); unfold In64; omega)
          obtain ⟨U, hUd⟩ : ∃ U : SpecM, U = { S with leaders := Lj } := ⟨_, rfl⟩
          have hWU : SpecW wr (.agg (scells S.id (.slice a1 S.parties.length k1) (.slice (some ⟨b2, o2, none⟩) S.arcs.length k2) (.slice v9a nl v9c) (.slice a4 S.locks.length k4) S.start S.delta)) U := by
            rw [hUd, hal, hjl]
            rw [hjl] at hIl hcl1
            exact ⟨a1, some ⟨b2, o2, none⟩, al, a4, k1, k2, cl, k4, by rw [← hjl]; rfl, ⟨hLw.id, hLw.parties, hLw.arcs, by show Ints wr al Lj.length Lj; rw [hjl]; exact hIl, hLw.locks, hLw.start, hLw.delta⟩, e1, e2, by rw [hna.out]; exact ek2, ek2m, by show Lj.length ≤ cl; rw [hjl]; exact hcl1, hcl2⟩
          have hvU : SvAt wr gu (scells S.id (.slice a1 S.parties.length k1) (.slice (some ⟨b2, o2, none⟩) S.arcs.length k2) (.slice v9a nl v9c) (.slice a4 S.locks.length k4) S.start S.delta) := hU
          have h7U : Seven (scells S.id (.slice a1 S.parties.length k1) (.slice (some ⟨b2, o2, none⟩) S.arcs.length k2) (.slice v9a nl v9c) (.slice a4 S.locks.length k4) S.start S.delta) := ⟨rfl, fun u hu => by simp [scells] at hu; rcases hu with rfl | rfl | rfl | rfl | rfl | rfl | rfl <;> rfl⟩
          obtain ⟨hvT, hWT⟩ := HT7.out wr hB
          obtain ⟨r1, hr1⟩ : ∃ r, validM T = r := ⟨_, rfl⟩
          obtain ⟨r2, hr2⟩ : ∃ r, strM T = r := ⟨_, rfl⟩
          obtain ⟨r3, hr3⟩ : ∃ r, fbkM U = r := ⟨_, rfl⟩
          have hBw : Below g0 w wr := hb1.trans (hBg.mono hgg)
          generalize scells S.id (.slice a1 S.parties.length k1) (.slice (some ⟨b2, o2, none⟩) S.arcs.length k2) (.slice v9a nl v9c) (.slice a4 S.locks.length k4) S.start S.delta = csU at hWU hvU h7U
          have H1 : Hid (∀ W, Below wr.heap.size wr W → Calls Try.prog 14 #[.agg csT] W fun e w' => e = .returned (.bool r1) ∧ Below W.heap.size W w') := fun W hW => by rw [← hr1]; exact pvalid_any (hWT.below hW)
          have H2 : Hid (∀ W, Below wr.heap.size wr W → Calls Try.prog 19 #[.agg csT] W fun e w' => e = .returned (.bool r1) ∧ Below W.heap.size W w') := fun W hW => by rw [← hr1]; exact rvalid_any (hWT.below hW)
          have H3 : Hid (∀ W, Below wr.heap.size wr W → Calls Try.prog 11 #[.agg csT] W fun e w' => e = .returned (.bool r2) ∧ Below W.heap.size W w') := fun W hW => by rw [← hr2]; exact pstrong_any (hWT.below hW)
          have H4 : Hid (∀ W, Below wr.heap.size wr W → Calls Try.prog 20 #[.agg csT] W fun e w' => e = .returned (.bool r2) ∧ Below W.heap.size W w') := fun W hW => by rw [← hr2]; exact rstrong_any (hWT.below hW)
          have H5 : Hid (∀ W, Below wr.heap.size wr W → Calls Try.prog 12 #[.agg csU] W fun e w' => e = .returned (.bool r3) ∧ Below W.heap.size W w') := fun W hW => by rw [← hr3]; exact pfeedback_any (hWU.below hW)
          have H6 : Hid (∀ W, Below wr.heap.size wr W → Calls Try.prog 21 #[.agg csU] W fun e w' => e = .returned (.bool r3) ∧ Below W.heap.size W w') := fun W hW => by rw [← hr3]; exact rfeedback_any (hWU.below hW)
          have HW2 : Hid (∀ W, Below wr.heap.size wr W → Calls Try.prog 13 #[] W fun e w' => e = .returned (.bool true) ∧ Below W.heap.size W w') := fun W _ => HAW.out W
          clear hr1 hr2 hr3 hWT hWU hUd hal hIl hcl1 hcl2 hLw row hI hU HT7 HX7 HC HLI HW HE HL HP2 hjx
          go_upto_region 18 with fail
          have hRw : Below wr.heap.size wr wr.drew := ⟨rfl, rfl, rfl, Nat.le_refl _, fun _ _ => rfl⟩
          refine wp_region_held_drew (S := fun W => Below wr.heap.size wr W) (by kernel_rfl) hRw (fun hHeld => ?_)
          refine wpAnyH_take (i := 0) (oi := { dst := some 86, op := Op.load 28 (Operand.tmp 9), type := 28, pos := "law.go:45", after := #[], guard := none }) (v := .agg csT) rfl (by kernel_rfl) (by kernel_rfl) (by kernel_rfl) (fun _ _ _ h => h) (yields_loadV (by rfl) (.tmp 9) (by rfl) _ csT (by rfl) h7T (fun W hW => hvT.below hW)) (by assumption) ?_
          try simp only [Act.put, List.setIfInBounds_toArray, List.set_cons_zero, List.set_cons_succ]
          refine wpAnyH_take (i := 2) (oi := { dst := some 88, op := Op.load 28 (Operand.tmp 9), type := 28, pos := "law.go:45", after := #[], guard := none }) (v := .agg csT) rfl (by kernel_rfl) (by kernel_rfl) (by kernel_rfl) (fun _ _ _ h => h) (yields_loadV (by rfl) (.tmp 9) (by rfl) _ csT (by rfl) h7T (fun W hW => hvT.below hW)) (by assumption) ?_
          try simp only [Act.put, List.setIfInBounds_toArray, List.set_cons_zero, List.set_cons_succ]
          refine wpAnyH_lone (R := fun W => Below wr.heap.size wr W) (i := 1) (oi := { dst := some 87, op := Op.call { callee := Callee.value (Operand.func 14), args := #[Operand.tmp 86], argTypes := #[28] }, type := 4, pos := "law.go:45", after := #[{ on := 0, ground := Ground.data }], guard := none }) (vi := .bool r1) (by kernel_rfl) rfl hRw (fun _ h => h) ?_ ?_
          · intro W hW K hK
            go_simp
            refine (H1.out W hW).mono ?_
            rintro e W2 ⟨rfl, hb⟩
            go_wp2_with fail
            exact hK.out _ (below_then hW hb)
          clear hRw hHeld
          intro W9 hRw hHeld
          try simp only [Act.put, List.setIfInBounds_toArray, List.set_cons_zero, List.set_cons_succ]
          refine wpAnyH_lone (R := fun W => Below wr.heap.size wr W) (i := 3) (oi := { dst := some 89, op := Op.call { callee := Callee.value (Operand.func 19), args := #[Operand.tmp 88], argTypes := #[28] }, type := 4, pos := "law.go:45", after := #[{ on := 2, ground := Ground.data }, { on := 1, ground := Ground.chain }], guard := none }) (vi := .bool r1) (by kernel_rfl) rfl hRw (fun _ h => h) ?_ ?_
          · intro W hW K hK
            go_simp
            refine (H2.out W hW).mono ?_
            rintro e W2 ⟨rfl, hb⟩
            go_wp2_with fail
            exact hK.out _ (below_then hW hb)
          clear hRw hHeld
          intro W9 hRw hHeld
          try simp only [Act.put, List.setIfInBounds_toArray, List.set_cons_zero, List.set_cons_succ]
          refine wpAnyH_take (i := 4) (oi := { dst := some 90, op := Op.binOp BinOp.eql 4 (Operand.tmp 87) (Operand.tmp 89) 4, type := 4, pos := "law.go:45", after := #[{ on := 1, ground := Ground.data }, { on := 3, ground := Ground.data }], guard := none }) (v := .bool true) rfl (by kernel_rfl) (by kernel_rfl) (by kernel_rfl) (fun _ _ _ h => h) (Or.inl ⟨by rfl, ?_⟩) (by assumption) ?_
          · intro W hSW; first | (go_simp; done) | (go_simp; with_reducible rfl)
          try simp only [Act.put, List.setIfInBounds_toArray, List.set_cons_zero, List.set_cons_succ]
          refine wpAnyH_take (i := 5) (oi := { dst := some 91, op := Op.move (Operand.tmp 90), type := 4, pos := "law.go:45", after := #[{ on := 4, ground := Ground.data }, { on := 3, ground := Ground.chain }], guard := none }) (v := ?_) rfl (by kernel_rfl) (by kernel_rfl) (by kernel_rfl) (fun _ _ _ h => h) (Or.inl ⟨by rfl, ?_⟩) (by assumption) ?_
          rotate_left
          · intro W hSW; first | (go_simp; done) | (go_simp; with_reducible rfl)
          try simp only [Act.put, List.setIfInBounds_toArray, List.set_cons_zero, List.set_cons_succ]
          refine wpAnyH_take (i := 6) (oi := { dst := some 92, op := Op.load 28 (Operand.tmp 9), type := 28, pos := "law.go:45", after := #[{ on := 5, ground := Ground.guard }], guard := some (5, true) }) (v := .agg csT) rfl (by kernel_rfl) (by kernel_rfl) (by kernel_rfl) (fun _ _ _ h => h) (yields_loadV (by rfl) (.tmp 9) (by rfl) _ csT (by rfl) h7T (fun W hW => hvT.below hW)) (by assumption) ?_
          try simp only [Act.put, List.setIfInBounds_toArray, List.set_cons_zero, List.set_cons_succ]
          refine wpAnyH_take (i := 8) (oi := { dst := some 94, op := Op.load 28 (Operand.tmp 9), type := 28, pos := "law.go:45", after := #[{ on := 5, ground := Ground.guard }], guard := some (5, true) }) (v := .agg csT) rfl (by kernel_rfl) (by kernel_rfl) (by kernel_rfl) (fun _ _ _ h => h) (yields_loadV (by rfl) (.tmp 9) (by rfl) _ csT (by rfl) h7T (fun W hW => hvT.below hW)) (by assumption) ?_
          try simp only [Act.put, List.setIfInBounds_toArray, List.set_cons_zero, List.set_cons_succ]
          refine wpAnyH_lone (R := fun W => Below wr.heap.size wr W) (i := 7) (oi := { dst := some 93, op := Op.call { callee := Callee.value (Operand.func 11), args := #[Operand.tmp 92], argTypes := #[28] }, type := 4, pos := "law.go:45", after := #[{ on := 6, ground := Ground.data }, { on := 5, ground := Ground.chain }, { on := 5, ground := Ground.guard }], guard := some (5, true) }) (vi := .bool r2) (by kernel_rfl) rfl hRw (fun _ h => h) ?_ ?_
          · intro W hW K hK
            go_simp
            refine (H3.out W hW).mono ?_
            rintro e W2 ⟨rfl, hb⟩
            go_wp2_with fail
            exact hK.out _ (below_then hW hb)
          clear hRw hHeld
          intro W9 hRw hHeld
          try simp only [Act.put, List.setIfInBounds_toArray, List.set_cons_zero, List.set_cons_succ]
          refine wpAnyH_lone (R := fun W => Below wr.heap.size wr W) (i := 9) (oi := { dst := some 95, op := Op.call { callee := Callee.value (Operand.func 20), args := #[Operand.tmp 94], argTypes := #[28] }, type := 4, pos := "law.go:45", after := #[{ on := 8, ground := Ground.data }, { on := 7, ground := Ground.chain }, { on := 5, ground := Ground.guard }], guard := some (5, true) }) (vi := .bool r2) (by kernel_rfl) rfl hRw (fun _ h => h) ?_ ?_
          · intro W hW K hK
            go_simp
            refine (H4.out W hW).mono ?_
            rintro e W2 ⟨rfl, hb⟩
            go_wp2_with fail
            exact hK.out _ (below_then hW hb)
          clear hRw hHeld
          intro W9 hRw hHeld
          try simp only [Act.put, List.setIfInBounds_toArray, List.set_cons_zero, List.set_cons_succ]
          refine wpAnyH_take (i := 10) (oi := { dst := some 96, op := Op.binOp BinOp.eql 4 (Operand.tmp 93) (Operand.tmp 95) 4, type := 4, pos := "law.go:45", after := #[{ on := 7, ground := Ground.data }, { on := 9, ground := Ground.data }, { on := 5, ground := Ground.guard }], guard := some (5, true) }) (v := .bool true) rfl (by kernel_rfl) (by kernel_rfl) (by kernel_rfl) (fun _ _ _ h => h) (Or.inl ⟨by rfl, ?_⟩) (by assumption) ?_
          · intro W hSW; first | (go_simp; done) | (go_simp; with_reducible rfl)
          try simp only [Act.put, List.setIfInBounds_toArray, List.set_cons_zero, List.set_cons_succ]
          refine wpAnyH_take (i := 11) (oi := { dst := some 97, op := Op.pick (Operand.tmp 91) (Operand.tmp 96) (Operand.const (Value.bool false)), type := 4, pos := "law.go:45", after := #[{ on := 5, ground := Ground.data }, { on := 10, ground := Ground.data }], guard := none }) (v := ?_) rfl (by kernel_rfl) (by kernel_rfl) (by kernel_rfl) (fun _ _ _ h => h) (Or.inl ⟨by rfl, ?_⟩) (by assumption) ?_
          rotate_left
          · intro W hSW; first | (go_simp; done) | (go_simp; with_reducible rfl)
          try simp only [Act.put, List.setIfInBounds_toArray, List.set_cons_zero, List.set_cons_succ]
          refine wpAnyH_take (i := 12) (oi := { dst := some 98, op := Op.move (Operand.tmp 97), type := 4, pos := "law.go:45", after := #[{ on := 11, ground := Ground.data }, { on := 9, ground := Ground.chain }], guard := none }) (v := ?_) rfl (by kernel_rfl) (by kernel_rfl) (by kernel_rfl) (fun _ _ _ h => h) (Or.inl ⟨by rfl, ?_⟩) (by assumption) ?_
          rotate_left
          · intro W hSW; first | (go_simp; done) | (go_simp; with_reducible rfl)
          try simp only [Act.put, List.setIfInBounds_toArray, List.set_cons_zero, List.set_cons_succ]
          refine wpAnyH_take (i := 13) (oi := { dst := some 99, op := Op.load 28 (Operand.tmp 11), type := 28, pos := "law.go:45", after := #[{ on := 12, ground := Ground.guard }], guard := some (12, true) }) (v := .agg csU) rfl (by kernel_rfl) (by kernel_rfl) (by kernel_rfl) (fun _ _ _ h => h) (yields_loadV (by rfl) (.tmp 11) (by rfl) _ csU (by rfl) h7U (fun W hW => hvU.below hW)) (by assumption) ?_
          try simp only [Act.put, List.setIfInBounds_toArray, List.set_cons_zero, List.set_cons_succ]
          refine wpAnyH_take (i := 15) (oi := { dst := some 101, op := Op.load 28 (Operand.tmp 11), type := 28, pos := "law.go:45", after := #[{ on := 12, ground := Ground.guard }], guard := some (12, true) }) (v := .agg csU) rfl (by kernel_rfl) (by kernel_rfl) (by kernel_rfl) (fun _ _ _ h => h) (yields_loadV (by rfl) (.tmp 11) (by rfl) _ csU (by rfl) h7U (fun W hW => hvU.below hW)) (by assumption) ?_
          try simp only [Act.put, List.setIfInBounds_toArray, List.set_cons_zero, List.set_cons_succ]
          refine wpAnyH_lone (R := fun W => Below wr.heap.size wr W) (i := 14) (oi := { dst := some 100, op := Op.call { callee := Callee.value (Operand.func 12), args := #[Operand.tmp 99], argTypes := #[28] }, type := 4, pos := "law.go:45", after := #[{ on := 13, ground := Ground.data }, { on := 12, ground := Ground.chain }, { on := 12, ground := Ground.guard }], guard := some (12, true) }) (vi := .bool r3) (by kernel_rfl) rfl hRw (fun _ h => h) ?_ ?_
          · intro W hW K hK
            go_simp
            refine (H5.out W hW).mono ?_
            rintro e W2 ⟨rfl, hb⟩
            go_wp2_with fail
            exact hK.out _ (below_then hW hb)
          clear hRw hHeld
          intro W9 hRw hHeld
          try simp only [Act.put, List.setIfInBounds_toArray, List.set_cons_zero, List.set_cons_succ]
          refine wpAnyH_lone (R := fun W => Below wr.heap.size wr W) (i := 16) (oi := { dst := some 102, op := Op.call { callee := Callee.value (Operand.func 21), args := #[Operand.tmp 101], argTypes := #[28] }, type := 4, pos := "law.go:45", after := #[{ on := 15, ground := Ground.data }, { on := 14, ground := Ground.chain }, { on := 12, ground := Ground.guard }], guard := some (12, true) }) (vi := .bool r3) (by kernel_rfl) rfl hRw (fun _ h => h) ?_ ?_
          · intro W hW K hK
            go_simp
            refine (H6.out W hW).mono ?_
            rintro e W2 ⟨rfl, hb⟩
            go_wp2_with fail
            exact hK.out _ (below_then hW hb)
          clear hRw hHeld
          intro W9 hRw hHeld
          try simp only [Act.put, List.setIfInBounds_toArray, List.set_cons_zero, List.set_cons_succ]
          refine wpAnyH_take (i := 17) (oi := { dst := some 103, op := Op.binOp BinOp.eql 4 (Operand.tmp 100) (Operand.tmp 102) 4, type := 4, pos := "law.go:45", after := #[{ on := 14, ground := Ground.data }, { on := 16, ground := Ground.data }, { on := 12, ground := Ground.guard }], guard := some (12, true) }) (v := .bool true) rfl (by kernel_rfl) (by kernel_rfl) (by kernel_rfl) (fun _ _ _ h => h) (Or.inl ⟨by rfl, ?_⟩) (by assumption) ?_
          · intro W hSW; first | (go_simp; done) | (go_simp; with_reducible rfl)
          try simp only [Act.put, List.setIfInBounds_toArray, List.set_cons_zero, List.set_cons_succ]
          refine wpAnyH_take (i := 18) (oi := { dst := some 104, op := Op.pick (Operand.tmp 98) (Operand.tmp 103) (Operand.const (Value.bool false)), type := 4, pos := "law.go:45", after := #[{ on := 12, ground := Ground.data }, { on := 17, ground := Ground.data }], guard := none }) (v := ?_) rfl (by kernel_rfl) (by kernel_rfl) (by kernel_rfl) (fun _ _ _ h => h) (Or.inl ⟨by rfl, ?_⟩) (by assumption) ?_
          rotate_left
          · intro W hSW; first | (go_simp; done) | (go_simp; with_reducible rfl)
          try simp only [Act.put, List.setIfInBounds_toArray, List.set_cons_zero, List.set_cons_succ]
          refine wpAnyH_take (i := 19) (oi := { dst := some 105, op := Op.move (Operand.tmp 104), type := 4, pos := "law.go:45", after := #[{ on := 18, ground := Ground.data }, { on := 16, ground := Ground.chain }], guard := none }) (v := ?_) rfl (by kernel_rfl) (by kernel_rfl) (by kernel_rfl) (fun _ _ _ h => h) (Or.inl ⟨by rfl, ?_⟩) (by assumption) ?_
          rotate_left
          · intro W hSW; first | (go_simp; done) | (go_simp; with_reducible rfl)
          try simp only [Act.put, List.setIfInBounds_toArray, List.set_cons_zero, List.set_cons_succ]
          refine wpAnyH_lone (R := fun W => Below wr.heap.size wr W) (i := 20) (oi := { dst := some 106, op := Op.call { callee := Callee.value (Operand.func 13), args := #[], argTypes := #[] }, type := 4, pos := "law.go:45", after := #[{ on := 19, ground := Ground.chain }, { on := 19, ground := Ground.guard }], guard := some (19, true) }) (vi := .bool true) (by kernel_rfl) rfl hRw (fun _ h => h) ?_ ?_
          · intro W hW K hK
            go_simp
            refine (HW2.out W hW).mono ?_
            rintro e W2 ⟨rfl, hb⟩
            go_wp2_with fail
            exact hK.out _ (below_then hW hb)
          clear hRw hHeld
          intro W9 hRw hHeld
          try simp only [Act.put, List.setIfInBounds_toArray, List.set_cons_zero, List.set_cons_succ]
          refine wpAnyH_take (i := 21) (oi := { dst := some 107, op := Op.pick (Operand.tmp 105) (Operand.tmp 106) (Operand.const (Value.bool false)), type := 4, pos := "law.go:45", after := #[{ on := 19, ground := Ground.data }, { on := 20, ground := Ground.data }], guard := none }) (v := ?_) rfl (by kernel_rfl) (by kernel_rfl) (by kernel_rfl) (fun _ _ _ h => h) (Or.inl ⟨by rfl, ?_⟩) (by assumption) ?_
          rotate_left
          · intro W hSW; first | (go_simp; done) | (go_simp; with_reducible rfl)
          try simp only [Act.put, List.setIfInBounds_toArray, List.set_cons_zero, List.set_cons_succ]
          refine wpAnyH_take (i := 22) (oi := { dst := some 6, op := Op.assign (Operand.tmp 107), type := 4, pos := "law.go:45", after := #[{ on := 21, ground := Ground.data }, { on := 20, ground := Ground.chain }, { on := 0, ground := Ground.phase }, { on := 1, ground := Ground.phase }, { on := 2, ground := Ground.phase }, { on := 3, ground := Ground.phase }, { on := 4, ground := Ground.phase }, { on := 5, ground := Ground.phase }, { on := 6, ground := Ground.phase }, { on := 7, ground := Ground.phase }, { on := 8, ground := Ground.phase }, { on := 9, ground := Ground.phase }, { on := 10, ground := Ground.phase }, { on := 11, ground := Ground.phase }, { on := 12, ground := Ground.phase }, { on := 13, ground := Ground.phase }, { on := 14, ground := Ground.phase }, { on := 15, ground := Ground.phase }, { on := 16, ground := Ground.phase }, { on := 17, ground := Ground.phase }, { on := 18, ground := Ground.phase }, { on := 19, ground := Ground.phase }, { on := 20, ground := Ground.phase }, { on := 21, ground := Ground.phase }], guard := none }) (v := ?_) rfl (by kernel_rfl) (by kernel_rfl) (by kernel_rfl) (fun _ _ _ h => h) (Or.inl ⟨by rfl, ?_⟩) (by assumption) ?_
          rotate_left
          · intro W hSW; first | (go_simp; done) | (go_simp; with_reducible rfl)
          try simp only [Act.put, List.setIfInBounds_toArray, List.set_cons_zero, List.set_cons_succ]
          refine wpAnyH_done (by kernel_rfl) ?_ _
          go_wp2
          go_ret
          exact ⟨rfl, hBw.trans (hRw.mono (by have := hBw.size; omega))⟩

end Go.Proofs.Ytdaagjpigcejaaa
