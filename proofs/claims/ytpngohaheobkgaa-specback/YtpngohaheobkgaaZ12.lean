/-
  The program's Check of chapter 4: within, isName, isParty, digestsFit.
-/
import Derived.Test.YtpngohaheobkgaaZ11
namespace Go.Proofs.Ytpngohaheobkgaa
open Go.RowKit

theorem told_congr {p q : Prop} (h : p ↔ q) : told p = told q := by
  by_cases hp : p
  · rw [told_yes hp, told_yes (h.1 hp)]
  · rw [told_no hp, told_no (fun k => hp (h.2 k))]

set_option maxHeartbeats 400000 in
theorem within_any (v a b : Int) (w : World) : Calls Try.prog 44 #[.int .i64 v, .int .i64 a, .int .i64 b] w fun e w' => e = .returned (.bool (told (a ≤ v ∧ v ≤ b))) ∧ w' = w := by
  obtain ⟨r, hr⟩ : ∃ r, told (a ≤ v ∧ v ≤ b) = r := ⟨_, rfl⟩
  have HR : Hid (told (a ≤ v ∧ v ≤ b) = r) := hr
  rw [hr]
  clear hr
  by_cases h1 : a ≤ v
  · by_cases h2 : v ≤ b
    · go_enter Try.func44, Try.ntmps44
      go_wp2
      go_ret
      exact ⟨ret_bool (by rw [← HR.out, told_yes ⟨h1, h2⟩]), rfl⟩
    · go_enter Try.func44, Try.ntmps44
      go_wp2
      go_ret
      exact ⟨ret_bool (by rw [← HR.out, told_no (fun h => by omega)]), rfl⟩
  · go_enter Try.func44, Try.ntmps44
    go_wp2
    go_ret
    exact ⟨ret_bool (by rw [← HR.out, told_no (fun h => by have := h.1; omega)]), rfl⟩

set_option maxHeartbeats 400000 in
theorem isname_any (s : ByteArray) (w : World) : Calls Try.prog 43 #[.string s] w fun e w' => e = .returned (.bool (told (nameOk s))) ∧ w' = w := by
  have HW := within_any (s.size : Int) 1 16 w
  rw [told_congr (q := nameOk s) (by unfold nameOk; omega)] at HW
  generalize told (nameOk s) = r at HW ⊢
  go_enter Try.func43, Try.ntmps43
  go_wp2_with fail
  refine HW.mono ?_
  rintro e w0 ⟨rfl, hw0⟩
  subst w0
  go_wp2
  go_ret
  exact ⟨rfl, rfl⟩

set_option maxHeartbeats 400000 in
theorem isparty_any {w : World} {a1 a2 a3 a4 : Option Addr} {c1 c2 c3 c4 : Nat} {s : SpecM} (hs : s.parties.length ≤ maxLen) (v : Int) :
    Calls Try.prog 77 #[.agg (cells7 a1 a2 a3 a4 c1 c2 c3 c4 s), .int .i64 v] w fun e w' => e = .returned (.bool (told (0 ≤ v ∧ v < (s.parties.length : Int)))) ∧ Below w.heap.size w w' := by
  have HW := fun W => within_any v 0 ((s.parties.length : Int) - 1) W
  simp only [told_congr (p := 0 ≤ v ∧ v ≤ (s.parties.length : Int) - 1) (q := 0 ≤ v ∧ v < (s.parties.length : Int)) (by omega)] at HW
  generalize told (0 ≤ v ∧ v < (s.parties.length : Int)) = r at HW ⊢
  unfold maxLen at hs
  generalize hg : w.heap.size = g
  go_enter Try.func77, Try.ntmps77
  go_wp2_with ((with_reducible refine wpList_at ?_); refine wpList_boxv (by rfl) 27 (.tmp 0) (by rfl) _ (by rfl) ?_; rw [hg]; intro w1 hg1 hz1 hb1; obtain ⟨q0, q1, q2, q3, q4, q5, q6⟩ := cells7_at hg1)
  refine (HW w1).mono ?_
  rintro e w0 ⟨rfl, hw0⟩
  subst w0
  go_wp2
  go_ret
  exact ⟨rfl, hb1⟩

def digestsOk (l : List ByteArray) (n : Nat) (z : Nat) : Prop := l.length = n ∧ ∀ k, k < l.length → (l.getD k ByteArray.empty).size = z

set_option maxHeartbeats 400000 in
theorem digests_any {w : World} {a : Option Addr} {c : Nat} {l : List ByteArray} (hl : Strs w a l.length l) (n z : Nat) (hn : n ≤ maxLen) :
    Calls Try.prog 74 #[.slice a l.length c, .int .i64 n, .int .i64 z] w fun e w' => e = .returned (.bool (told (digestsOk l n z))) ∧ w' = w := by
  obtain ⟨r, hr⟩ : ∃ r, told (digestsOk l n z) = r := ⟨_, rfl⟩
  have HR : Hid (told (digestsOk l n z) = r) := hr
  rw [hr]
  clear hr
  have hm := hl.2.1
  unfold maxLen at hm hn
  have HL : Hid (Strs w a l.length l) := hl
  clear hl
  by_cases h1 : l.length ≠ n
  · have h1' : ((l.length : Int) != (n : Int)) = true := nat_ne h1
    go_enter Try.func74, Try.ntmps74
    go_wp2
    go_ret
    exact ⟨ret_bool (by rw [← HR.out, told_no (fun h => by have := h.1; omega)]), rfl⟩
  have h1e : l.length = n := by omega
  have h1' : ((l.length : Int) != (n : Int)) = false := nat_same h1e
  go_enter Try.func74, Try.ntmps74
  go_wp2
  go_loopw [15] (fun i wr => ∃ k : Nat, k ≤ l.length ∧ i = .int .i64 k ∧ Hid (∀ j, j < k → (l.getD j ByteArray.empty).size = z) ∧ wr = w) (fun i _ => l.length - (intOf i).toNat)
  case atStart => exact ⟨0, by omega, rfl, fun j hj => absurd hj (by omega), rfl⟩
  case round =>
    obtain ⟨i, hi, rfl, HO, rfl⟩ := hrel
    by_cases hlt : i < l.length
    · have i1 : (i : Int) < (l.length : Int) := by omega
      obtain ⟨b, o, rfl, d⟩ := HL.out.2.2.2 i hlt
      obtain ⟨x, hx⟩ : ∃ x, l.getD i ByteArray.empty = x := ⟨_, rfl⟩
      rw [hx] at d
      have HX : Hid (l.getD i ByteArray.empty = x) := hx
      clear hx
      by_cases x1 : x.size ≠ z
      · have x1' : ((x.size : Int) != (z : Int)) = true := nat_ne x1
        go_wp2
        go_ret
        exact ⟨ret_bool (by rw [← HR.out, told_no (fun h => x1 (by rw [← HX.out]; exact h.2 i hlt))]), rfl⟩
      have x1e : x.size = z := by omega
      have x1' : ((x.size : Int) != (z : Int)) = false := nat_same x1e
      go_wp2
      go_roundw
      case rel =>
        refine ⟨i + 1, by omega, by go_num, fun j hj => ?_, trivial⟩
        by_cases hj' : j < i
        · exact HO.out j hj'
        · have : j = i := by omega
          subst this; rw [HX.out]; exact x1e
      case measure => simp [intOf]; omega
    · have i1 : ¬ (i : Int) < (l.length : Int) := by omega
      go_wp2
      go_ret
      exact ⟨ret_bool (by rw [← HR.out, told_yes ⟨h1e, fun k hk => HO.out k (by omega)⟩]), rfl⟩

end Go.Proofs.Ytpngohaheobkgaa

/-
  The statements' FewSpec: a swap that is not too much.
-/
namespace Go.Proofs.Ytpngohaheobkgaa
open Go.RowKit

def fewParty (p : PartyM) : Prop := p.keys.length ≤ 6 ∧ p.acc.size ≤ 40 ∧ ∀ k, k < p.keys.length → (p.keys.getD k ByteArray.empty).size ≤ 40
def fewOk (s : SpecM) : Prop := s.parties.length ≤ 10 ∧ s.arcs.length ≤ 20 ∧ s.leaders.length ≤ 6 ∧ s.locks.length ≤ 6 ∧ s.id.size ≤ 40 ∧ (∀ i, i < s.parties.length → fewParty (s.parties.getD i noParty))
  ∧ (∀ i, i < s.arcs.length → (s.arcs.getD i noArc).asset.size ≤ 40) ∧ ∀ i, i < s.locks.length → (s.locks.getD i ByteArray.empty).size ≤ 40

set_option maxRecDepth 10000 in
set_option maxHeartbeats 4000000 in
theorem few_any {w : World} {v : Value} {s : SpecM} (hv : SpecV w v s) : Calls Try.prog 8 #[v] w fun e w' => e = .returned (.bool (told (fewOk s))) ∧ Below w.heap.size w w' := by
  obtain ⟨a1, a2, a3, a4, c1, c2, c3, c4, rfl, L⟩ := hv
  obtain ⟨r, hr⟩ : ∃ r, told (fewOk s) = r := ⟨_, rfl⟩
  have HR : Hid (told (fewOk s) = r) := hr
  rw [hr]
  clear hr
  generalize hg : w.heap.size = g
  have m1 := L.parties.1
  have m2 := L.arcs.1
  have m3 := L.leaders.2.1
  have m4 := L.locks.2.1
  have m5 := L.id
  unfold maxLen at m1 m2 m3 m4 m5
  by_cases n0 : 10 < s.parties.length
  · have n0' : (10 : Int) < (s.parties.length : Int) := by omega
    go_enter Try.func8, Try.ntmps8
    go_wp2_with ((with_reducible refine wpList_at ?_); refine wpList_boxv (by rfl) 27 (.tmp 0) (by rfl) _ (by rfl) ?_; rw [hg]; intro w1 hg1 hz1 hb1; obtain ⟨q0, q1, q2, q3, q4, q5, q6⟩ := cells7_at hg1)
    go_ret
    exact ⟨ret_bool (by rw [← HR.out, told_no (fun h => by have := h.1; omega)]), hb1⟩
  have n0' : ¬ (10 : Int) < (s.parties.length : Int) := by omega
  by_cases n1 : 20 < s.arcs.length
  · have n1' : (20 : Int) < (s.arcs.length : Int) := by omega
    go_enter Try.func8, Try.ntmps8
    go_wp2_with ((with_reducible refine wpList_at ?_); refine wpList_boxv (by rfl) 27 (.tmp 0) (by rfl) _ (by rfl) ?_; rw [hg]; intro w1 hg1 hz1 hb1; obtain ⟨q0, q1, q2, q3, q4, q5, q6⟩ := cells7_at hg1)
    go_ret
    exact ⟨ret_bool (by rw [← HR.out, told_no (fun h => by have := h.2.1; omega)]), hb1⟩
  have n1' : ¬ (20 : Int) < (s.arcs.length : Int) := by omega
  by_cases n2 : 6 < s.leaders.length
  · have n2' : (6 : Int) < (s.leaders.length : Int) := by omega
    go_enter Try.func8, Try.ntmps8
    go_wp2_with ((with_reducible refine wpList_at ?_); refine wpList_boxv (by rfl) 27 (.tmp 0) (by rfl) _ (by rfl) ?_; rw [hg]; intro w1 hg1 hz1 hb1; obtain ⟨q0, q1, q2, q3, q4, q5, q6⟩ := cells7_at hg1)
    go_ret
    exact ⟨ret_bool (by rw [← HR.out, told_no (fun h => by have := h.2.2.1; omega)]), hb1⟩
  have n2' : ¬ (6 : Int) < (s.leaders.length : Int) := by omega
  by_cases n3 : 6 < s.locks.length
  · have n3' : (6 : Int) < (s.locks.length : Int) := by omega
    go_enter Try.func8, Try.ntmps8
    go_wp2_with ((with_reducible refine wpList_at ?_); refine wpList_boxv (by rfl) 27 (.tmp 0) (by rfl) _ (by rfl) ?_; rw [hg]; intro w1 hg1 hz1 hb1; obtain ⟨q0, q1, q2, q3, q4, q5, q6⟩ := cells7_at hg1)
    go_ret
    exact ⟨ret_bool (by rw [← HR.out, told_no (fun h => by have := h.2.2.2.1; omega)]), hb1⟩
  have n3' : ¬ (6 : Int) < (s.locks.length : Int) := by omega
  by_cases n4 : 40 < s.id.size
  · have n4' : (40 : Int) < (s.id.size : Int) := by omega
    go_enter Try.func8, Try.ntmps8
    go_wp2_with ((with_reducible refine wpList_at ?_); refine wpList_boxv (by rfl) 27 (.tmp 0) (by rfl) _ (by rfl) ?_; rw [hg]; intro w1 hg1 hz1 hb1; obtain ⟨q0, q1, q2, q3, q4, q5, q6⟩ := cells7_at hg1)
    go_ret
    exact ⟨ret_bool (by rw [← HR.out, told_no (fun h => by have := h.2.2.2.2.1; omega)]), hb1⟩
  have n4' : ¬ (40 : Int) < (s.id.size : Int) := by omega
  go_enter Try.func8, Try.ntmps8
  go_wp2_with ((with_reducible refine wpList_at ?_); refine wpList_boxv (by rfl) 27 (.tmp 0) (by rfl) _ (by rfl) ?_; rw [hg]; intro w1 hg1 hz1 hb1; obtain ⟨q0, q1, q2, q3, q4, q5, q6⟩ := cells7_at hg1)
  have HL : Hid (Lies w1 a1 a2 a3 a4 s) := L.below (by rw [hg]; exact hb1)
  clear L hg1 hz1 q0 q3 q5 q6
  go_loop [3] (fun i => ∃ j : Nat, j ≤ s.parties.length ∧ i = .int .i64 j ∧ Hid (∀ i, i < j → fewParty (s.parties.getD i noParty))) (fun i => s.parties.length - (intOf i).toNat)
  case atStart => exact ⟨0, by omega, rfl, fun j hj => absurd hj (by omega)⟩
  case round =>
    obtain ⟨j, hj, rfl, HO⟩ := hrel
    by_cases hlt : j < s.parties.length
    · have j1 : (j : Int) < (s.parties.length : Int) := by omega
      obtain ⟨b1, o1, rfl, _, d0, ka, kc, d1, hks⟩ := HL.out.parties.2 j hlt
      obtain ⟨P, hP⟩ : ∃ P, s.parties.getD j noParty = P := ⟨_, rfl⟩
      rw [hP] at d0 d1 hks
      have HP : Hid (s.parties.getD j noParty = P) := hP
      have hkm := hks.2.1
      unfold maxLen at hkm
      have HK : Hid (Strs w1 ka P.keys.length P.keys) := hks
      clear hP hks
      by_cases k0 : 6 < P.keys.length
      · have k0' : (6 : Int) < (P.keys.length : Int) := by omega
        go_wp2
        go_ret
        exact ⟨ret_bool (by rw [← HR.out, told_no (fun h => by have := (h.2.2.2.2.2.1 j hlt).1; rw [HP.out] at this; omega)]), hb1⟩
      have k0' : ¬ (6 : Int) < (P.keys.length : Int) := by omega
      by_cases k1 : 40 < P.acc.size
      · have k1' : (40 : Int) < (P.acc.size : Int) := by omega
        go_wp2
        go_ret
        exact ⟨ret_bool (by rw [← HR.out, told_no (fun h => by have := (h.2.2.2.2.2.1 j hlt).2.1; rw [HP.out] at this; omega)]), hb1⟩
      have k1' : ¬ (40 : Int) < (P.acc.size : Int) := by omega
      go_wp2
      go_loop [4] (fun i => ∃ k : Nat, k ≤ P.keys.length ∧ i = .int .i64 k ∧ Hid (∀ i, i < k → (P.keys.getD i ByteArray.empty).size ≤ 40)) (fun i => P.keys.length - (intOf i).toNat)
      case atStart => exact ⟨0, by omega, rfl, fun j hj => absurd hj (by omega)⟩
      case round =>
        obtain ⟨k, hk, rfl, HO2⟩ := hrel
        by_cases hlt2 : k < P.keys.length
        · have k2 : (k : Int) < (P.keys.length : Int) := by omega
          obtain ⟨b4, o4, rfl, d4⟩ := HK.out.2.2.2 k hlt2
          obtain ⟨t, ht⟩ : ∃ t, P.keys.getD k ByteArray.empty = t := ⟨_, rfl⟩
          rw [ht] at d4
          have HT : Hid (P.keys.getD k ByteArray.empty = t) := ht
          clear ht
          by_cases t0 : 40 < t.size
          · have t0' : (40 : Int) < (t.size : Int) := by omega
            go_wp2
            go_ret
            exact ⟨ret_bool (by rw [← HR.out, told_no (fun h => by have := (h.2.2.2.2.2.1 j hlt).2.2; rw [HP.out] at this; have := this k hlt2; rw [HT.out] at this; omega)]), hb1⟩
          · have t0' : ¬ (40 : Int) < (t.size : Int) := by omega
            go_wp2
            go_round
            case rel =>
              refine ⟨k + 1, by omega, by go_num, ?_⟩
              intro i hi
              by_cases hik : i = k
              · subst hik; rw [HT.out]; omega
              · exact HO2.out i (by omega)
            case measure => simp [intOf]; omega
        · have k2 : ¬ (k : Int) < (P.keys.length : Int) := by omega
          go_wp2
          go_round
          case rel =>
            refine ⟨j + 1, by omega, by go_num, ?_⟩
            intro i hi
            by_cases hij : i = j
            · subst hij; rw [HP.out]; exact ⟨by omega, by omega, fun k hk => HO2.out k (by omega)⟩
            · exact HO.out i (by omega)
          case measure => simp [intOf]; omega
    · have j1 : ¬ (j : Int) < (s.parties.length : Int) := by omega
      have H1 : Hid (∀ i, i < s.parties.length → fewParty (s.parties.getD i noParty)) := fun i hi => HO.out i (by omega)
      clear HO
      go_wp2
      go_loop [5] (fun i => ∃ j : Nat, j ≤ s.arcs.length ∧ i = .int .i64 j ∧ Hid (∀ i, i < j → (s.arcs.getD i noArc).asset.size ≤ 40)) (fun i => s.arcs.length - (intOf i).toNat)
      case atStart => exact ⟨0, by omega, rfl, fun j hj => absurd hj (by omega)⟩
      case round =>
        clear hj hlt j1
        obtain ⟨j5, hj, rfl, HO⟩ := hrel
        by_cases hlt : j5 < s.arcs.length
        · have j1 : (j5 : Int) < (s.arcs.length : Int) := by omega
          obtain ⟨b2, o2, rfl, _, _, _, _, _, _, _, _, d3, _⟩ := HL.out.arcs.2 j5 hlt
          obtain ⟨t, ht⟩ : ∃ t, (s.arcs.getD j5 noArc).asset = t := ⟨_, rfl⟩
          rw [ht] at d3
          have HT : Hid ((s.arcs.getD j5 noArc).asset = t) := ht
          clear ht
          by_cases t0 : 40 < t.size
          · have t0' : (40 : Int) < (t.size : Int) := by omega
            go_wp2
            go_ret
            exact ⟨ret_bool (by rw [← HR.out, told_no (fun h => by have := h.2.2.2.2.2.2.1 j5 hlt; rw [HT.out] at this; omega)]), hb1⟩
          · have t0' : ¬ (40 : Int) < (t.size : Int) := by omega
            go_wp2
            go_round
            case rel =>
              refine ⟨j5 + 1, by omega, by go_num, ?_⟩
              intro i hi
              by_cases hik : i = j5
              · subst hik; rw [HT.out]; omega
              · exact HO.out i (by omega)
            case measure => simp [intOf]; omega
        · have j1 : ¬ (j5 : Int) < (s.arcs.length : Int) := by omega
          have H2 : Hid (∀ i, i < s.arcs.length → (s.arcs.getD i noArc).asset.size ≤ 40) := fun i hi => HO.out i (by omega)
          clear HO
          go_wp2
          go_loop [6] (fun i => ∃ j : Nat, j ≤ s.locks.length ∧ i = .int .i64 j ∧ Hid (∀ i, i < j → (s.locks.getD i ByteArray.empty).size ≤ 40)) (fun i => s.locks.length - (intOf i).toNat)
          case atStart => exact ⟨0, by omega, rfl, fun j hj => absurd hj (by omega)⟩
          case round =>
            clear hj hlt j1
            obtain ⟨j6, hj, rfl, HO⟩ := hrel
            by_cases hlt : j6 < s.locks.length
            · have j1 : (j6 : Int) < (s.locks.length : Int) := by omega
              obtain ⟨b4, o4, rfl, d4⟩ := HL.out.locks.2.2.2 j6 hlt
              obtain ⟨t, ht⟩ : ∃ t, s.locks.getD j6 ByteArray.empty = t := ⟨_, rfl⟩
              rw [ht] at d4
              have HT : Hid (s.locks.getD j6 ByteArray.empty = t) := ht
              clear ht
              by_cases t0 : 40 < t.size
              · have t0' : (40 : Int) < (t.size : Int) := by omega
                go_wp2
                go_ret
                exact ⟨ret_bool (by rw [← HR.out, told_no (fun h => by have := h.2.2.2.2.2.2.2 j6 hlt; rw [HT.out] at this; omega)]), hb1⟩
              · have t0' : ¬ (40 : Int) < (t.size : Int) := by omega
                go_wp2
                go_round
                case rel =>
                  refine ⟨j6 + 1, by omega, by go_num, ?_⟩
                  intro i hi
                  by_cases hik : i = j6
                  · subst hik; rw [HT.out]; omega
                  · exact HO.out i (by omega)
                case measure => simp [intOf]; omega
            · have j1 : ¬ (j6 : Int) < (s.locks.length : Int) := by omega
              go_wp2
              go_ret
              exact ⟨ret_bool (by rw [← HR.out, told_yes ⟨by omega, by omega, by omega, by omega, by omega, H1.out, H2.out, fun i hi => HO.out i (by omega)⟩]), hb1⟩

end Go.Proofs.Ytpngohaheobkgaa
