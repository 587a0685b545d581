/-
  GraphApart's own closure: arcs by pairs.
-/
import Derived.Test.YtdaagjpigcejaaaGrWake
import Derived.Test.YtdaagjpigcejaaaZ00
import Derived.Deep.RegionLaw
import Derived.Handy
namespace Go.Proofs.Ytdaagjpigcejaaa
open Go.RowKit

/-- Arcs by pairs. -/
def pairsA (l : List Int) : Nat → List ArcM
  | 0 => []
  | k + 1 => pairsA l k ++ [⟨l.getD (2 * k) 0, l.getD (2 * k + 1) 0, 0, gold, 1⟩]
theorem pairsA_len (l : List Int) (k : Nat) : (pairsA l k).length = k := by
  induction k with
  | zero => rfl
  | succ k ih => rw [pairsA, List.length_append, ih]; rfl

set_option maxRecDepth 10000 in
set_option maxHeartbeats 2000000 in
theorem apart1_any {w : World} {g : Nat} {id : ByteArray} {v1 v2 v3 v4 : Value} {st de : Int} (hS : SAt w g id v1 v2 v3 v4 st de) (al : Option Addr) (c : Nat) (n m : Nat) (l : List Int) (hl : Ints w al n l) (hn : n = 2 * m) (hm : m ≤ 100) (hlg : ∀ b o, al = some ⟨b, o, none⟩ → b ≠ g) :
    Calls Try.prog 17 #[.slice al n c, .pointer (some ⟨g, 0, none⟩)] w fun e w' => (∃ r, e = .returned r) ∧ ∃ u, SAt w' g id v1 u v3 v4 st de ∧ OwnA w' w.heap.size u (pairsA l m) ∧ But g w w' := by
  obtain ⟨B, hB⟩ : ∃ B, w.heap.size = B := ⟨_, rfl⟩
  rw [hB]
  have f2 := hS.frozen 2
  have c2 := hS.cells.2.2.1
  have hS1 := hide (hS.set2 (.slice none 0 0))
  have hb1 := hide (But.setCell w g 2 (.slice none 0 0))
  have hz1 : (w.setCell ⟨g, 2, none⟩ (.slice none 0 0)).heap.size = B := by simp [World.setCell, hB]
  have hgB := hS.lt
  rw [hB] at hgB
  replace hl := hide hl
  have hn200 : n ≤ 200 := by omega
  replace hn := hide hn
  clear hS
  go_enter Try.func17, Try.ntmps17
  go_wp2_with fail
  generalize w.setCell ⟨g, 2, none⟩ (.slice none 0 0) = w1 at hS1 hb1 hz1 ⊢
  clear c2 f2
  go_loopw [3] (fun i wr => ∃ (k p : Nat) (u : Value), k ≤ m ∧ i = .int .i64 (p : Int) ∧ Hid (p = 2 * k) ∧ SAt wr g id v1 u v3 v4 st de ∧ OwnA wr B u (pairsA l k) ∧ But g w wr ∧ B ≤ wr.heap.size) (fun i _ => n - (intOf i).toNat)
  case atStart => exact ⟨0, 0, _, by omega, rfl, rfl, hS1.out, World.ownsRow_nil _ _ _ _, hb1.out, by omega⟩
  case round =>
    clear hS1 hb1 hz1 w1
    obtain ⟨k, p, u, hk, rfl, hp, hS, hA, hbt, hz⟩ := hrel
    have hA : wr.ownsRow B 35 5 u k ((pairsA l k).flatMap acells) := by have h9 := hA; unfold OwnA at h9; rw [pairsA_len] at h9; exact h9
    obtain ⟨va, vc, rfl⟩ := row_slice hA
    by_cases hlt : k < m
    · obtain ⟨q, hq⟩ : ∃ q : Nat, q = p + 1 := ⟨_, rfl⟩
      have hpn : p < n := by have := hn.out; have := hp.out; omega
      have hqn : q < n := by have := hn.out; have := hp.out; omega
      have k1 : (p : Int) + 1 < (n : Int) := by omega
      have hw : IntKind.i64.wrap ((p : Int) + 1) = (q : Int) := by rw [wrap_i64 (by omega) (by omega)]; omega
      obtain ⟨b, o, rfl, d0⟩ := hl.out.2.2.2 p hpn
      have d1 := hl.out.get q hqn
      have hbg := hlg b o rfl
      replace d0 := hbt.cell hbg d0
      replace d1 := hbt.cell hbg d1
      obtain ⟨x, hx⟩ : ∃ x, l.getD p 0 = x := ⟨_, rfl⟩
      obtain ⟨y, hy⟩ : ∃ y, l.getD q 0 = y := ⟨_, rfl⟩
      rw [hx] at d0
      rw [hy] at d1
      have c2 := hS.cells.2.2.1
      have f2 := hS.frozen 2
      have own6 : wr.drew.ownsRow B 35 5 (.slice va k vc) k ((pairsA l k).flatMap acells) := own_below hA ⟨rfl, rfl, rfl, Nat.le_refl _, fun _ _ => rfl⟩
      have hz6 : B ≤ wr.drew.heap.size := hz
      have e2 : ∀ ob, (wr.alloc ob).cell? ⟨g, 2, none⟩ = some (.slice va k vc) := fun ob => cell_on ((Below.refl _ _).alloc (Nat.le_refl _) ob) c2
      have c6 : wr.drew.cell? ⟨g, 2, none⟩ = some (.slice va k vc) := c2
      have f6 : wr.drew.frozen? ⟨g, 2, none⟩ = false := f2
      have hne7 : some g ≠ Value.ownBlock (.slice va k vc) := fun e => by have := (World.ownsRow.lt hA g e.symm).1; omega
      have hxq := hide hq
      clear hq
      replace hx := hide hx
      replace hy := hide hy
      replace hS := hide hS
      replace hA := hide hA
      replace hbt := hide hbt
      replace own6 := hide own6
      replace hne7 := hide hne7
      go_wp2_with fail
      go_region_law (refine step_put1 (st := 24) Try.underlying24 Try.info35 rfl (by decide) (by decide) wr.drew _ (by rfl) (.tmp 13) (.tmp 24) (by rfl) B _ _ _ (by rfl) own6.out (by rfl) rfl (by intro u hu; simp at hu; rcases hu with rfl | rfl | rfl | rfl | rfl <;> rfl) (by omega) hz6 ?_; intro v7 w7 hown7 hg7; obtain ⟨v7a, v7c, rfl⟩ := row_slice hown7; have c7 := hg7.cell c6 hne7.out; have f7 := grown_frozen hg7 hne7.out c6 f6)
      all_goals
        go_wp2
        go_roundw
        case rel =>
          have hS6 := SAt.below hS.out (w' := wr.drew) ⟨rfl, rfl, rfl, Nat.le_refl _, fun _ _ => rfl⟩
          have hS7 := hS6.grown hg7 hne7.out
          have hset := But.setCell w7 g 2 (.slice v7a (k + 1) v7c)
          have hA7 : w7.ownsRow B 35 5 (.slice v7a (k + 1) v7c) (pairsA l (k + 1)).length ((pairsA l (k + 1)).flatMap acells) := by
            rw [pairsA_len, pairsA, List.flatMap_append, ← hp.out, hx.out, ← hxq.out, hy.out]; exact hown7
          refine ⟨k + 1, p + 2, _, by omega, by go_num, by have := hp.out; show _ = _; omega, hS7.set2 _, World.ownsRow.kept hA7 hset.grown (row_apart hA7 hS7 (by decide)), ?_, ?_⟩
          · have hbd : But g w wr.drew := hbt.out.drew
            have hlt6 := World.ownsRow.lt own6.out
            exact (hbd.of_own (by omega) ((Below.refl B wr.drew).grown hg7 hz6 (fun j hj => (hlt6 j hj).1))).trans hset
          · have h7 := hg7.size
            have h8 := hset.size
            omega
        case measure => simp [intOf]; omega
    · obtain ⟨q, hq⟩ : ∃ q : Nat, q = p + 1 := ⟨_, rfl⟩
      have hp200 : p ≤ 200 := by have := hn.out; have := hp.out; omega
      have k1 : ¬ (q : Int) < (n : Int) := by have := hn.out; have := hp.out; omega
      have hw : IntKind.i64.wrap ((p : Int) + 1) = (q : Int) := by rw [wrap_i64 (by omega) (by omega)]; omega
      replace hq := hide hq
      have hkm : k = m := by omega
      replace hA := hide hA
      go_wp2
      go_returns
      refine ⟨⟨_, rfl⟩, _, hS, ?_, hbt⟩
      unfold OwnA
      rw [pairsA_len, ← hkm]; exact hA.out

end Go.Proofs.Ytdaagjpigcejaaa
