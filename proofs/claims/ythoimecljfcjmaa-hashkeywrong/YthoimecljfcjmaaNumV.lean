/-
  A swap by a number may go on: it is strong, and its leaders are enough.
-/
import Derived.Test.YthoimecljfcjmaaZ33
import Derived.Test.YthoimecljfcjmaaZ39
import Derived.Test.YthoimecljfcjmaaGrPath
namespace Go.Proofs.Ythoimecljfcjmaa
open Go.RowKit

theorem pairF_sub (n a b : Nat) (q : List ArcM × Nat) : ∀ x ∈ q.1, x ∈ (pairF n a b q).1 := by
  intro x hx
  unfold pairF
  split
  · exact hx
  · simp only
    split
    · exact List.mem_append_left _ hx
    · exact hx
theorem fillB_sub (n a b : Nat) (q : List ArcM × Nat) : ∀ x ∈ q.1, x ∈ (fillB n a b q).1 := by
  induction b with
  | zero => exact fun x hx => hx
  | succ b ih => exact fun x hx => pairF_sub _ _ _ _ x (ih x hx)
theorem fillA_sub (n a : Nat) (q : List ArcM × Nat) : ∀ x ∈ q.1, x ∈ (fillA n a q).1 := by
  induction a with
  | zero => exact fun x hx => hx
  | succ a ih => exact fun x hx => fillB_sub _ _ _ _ x (ih x hx)
theorem ringL_mem (n j i : Nat) (h : i < j) : bareArc i ((i + 1) % n) ∈ ringL n j := by
  induction j with
  | zero => omega
  | succ j ih =>
    rw [ringL, List.mem_append]
    by_cases e : i = j
    · subst e; right; simp
    · left; exact ih (by omega)
/-- Each one gives to the next one. -/
def RingIn (n : Nat) (A : List ArcM) : Prop := ∀ i, i < n → ∃ x ∈ A, x.src = (i : Int) ∧ x.dst = (((i + 1) % n : Nat) : Int)
theorem ring_in (n bits ledgers : Nat) : RingIn n (arcsP n bits ledgers) := fun i hi => by
  have h1 := fillA_sub n n (ringL n n, bits) _ (ringL_mem n n i hi)
  unfold arcsP
  simp only
  generalize fillA n n (ringL n n, bits) = q at h1
  obtain ⟨j, hj, hq⟩ := List.mem_iff_getElem.1 h1
  refine ⟨deck q.2 ledgers j q.1[j], ?_, ?_, ?_⟩
  · exact List.mem_mapIdx.2 ⟨j, hj, rfl⟩
  · show (q.1[j]).src = _; rw [hq]; rfl
  · show (q.1[j]).dst = _; rw [hq]; rfl
theorem ring_lead {n : Nat} {A : List ArcM} (h : RingIn n A) (hn : 0 < n) (a : Nat) (ha : a < n) (t : Nat) : Lead A [] (a : Int) (((a + t + 1) % n : Nat) : Int) := by
  induction t with
  | zero =>
    obtain ⟨x, hx, h1, h2⟩ := h a ha
    rw [Nat.add_zero, ← h2]
    exact .one x hx h1 (by simp)
  | succ t ih =>
    obtain ⟨x, hx, h1, h2⟩ := h ((a + t + 1) % n) (Nat.mod_lt _ hn)
    have e : (a + (t + 1) + 1) % n = ((a + t + 1) % n + 1) % n := by rw [Nat.mod_add_mod]; rfl
    rw [e, ← h2]
    exact .step _ x ih hx h1 (by simp)
theorem ring_strong {n : Nat} {A : List ArcM} (h : RingIn n A) (hn : 2 ≤ n) (hn6 : n ≤ 6) (hA : ∀ x ∈ A, 0 ≤ x.dst ∧ x.dst < (n : Int)) : strongP n A = true := by
  have hA6 : ∀ x ∈ A, 0 ≤ x.dst ∧ x.dst < 6 := fun x hx => by have := hA x hx; omega
  refine strongP_yes n A (fun v hv => ?_)
  refine (few_all (reachP_few hA6 _ _ 7 [] Few.nil).1 (fun x hx => ?_)).2 (fun k hk => ?_)
  · obtain ⟨y, hy, rfl⟩ := ((reachP_mem hA6 (v : Int) [] x).1 hx).dst
    exact hA y hy
  · rw [reachP_mem hA6]
    have h9 := ring_lead h (by omega) v hv (n + k - v - 1)
    have e : (v + (n + k - v - 1) + 1) % n = k := by
      rw [show v + (n + k - v - 1) + 1 = n + k by omega, Nat.add_mod_left, Nat.mod_eq_of_lt hk]
    rw [e] at h9
    exact h9
theorem ring_fb (n : Nat) (h2 : 2 ≤ n) (h5 : n ≤ 5) : fbP n (arcsP n 0 0) [0] = true := by
  have : n = 2 ∨ n = 3 ∨ n = 4 ∨ n = 5 := by omega
  rcases this with rfl | rfl | rfl | rfl <;> decide +kernel
theorem pick_fb (n : Nat) (s : SpecM) (f m : Nat) (l : List Int) (h : pickL n s f m = some l) : fbM (looseM s l) = true := by
  induction f generalizing m with
  | zero => simp [pickL] at h
  | succ f ih =>
    rw [pickL] at h
    split at h
    · split at h
      · rename_i hc
        injection h with h
        subst h
        exact hc.2
      · exact ih (m + 1) h
    · simp at h
theorem fb_of {n : Nat} {s : SpecM} {l : List Int} (h : fbM (looseM s l) = true) (hn : s.parties.length = n) (hn6 : n ≤ 6) (hA : ∀ x ∈ s.arcs, 0 ≤ x.dst ∧ x.dst < 6) : fbP n s.arcs l = true := by
  unfold fbM at h
  rw [Bool.and_eq_true] at h
  have h9 : fbR (looseM s l).parties.length s.arcs l = true := h.2
  have e : (looseM s l).parties.length = n := by show (s.parties.map _).length = n; rw [List.length_map]; exact hn
  rw [e] at h9
  rw [fb_same l hn6 hA]; exact h9
/-- A swap by a number, all of it. -/
structure GoodSpec (S : SpecM) : Prop where
  num : NumSpec S
  ring : RingIn S.parties.length S.arcs
  valid : validM S = true
theorem spec_good (v : Int) : ∃ S, GoodSpec S ∧ ∀ w, Calls Try.prog 4 #[.int .i64 v] w fun e w' => ∃ u, e = .returned u ∧ OwnSpec w' w.heap.size u S ∧ Below w.heap.size w w' := by
  obtain ⟨k, n, A, L, st, de, hM, h1, h2⟩ := spec_from v
  refine ⟨_, ⟨h1, ?_, ?_⟩, h2⟩
  all_goals
    have hok := h1.ok
    have hpl : (withKeys (accs n) L.length).length = n := by rw [withKeys_len, accs_len]
    have hn2 : 2 ≤ n := by have h9 := hok.2.2.1.1; rw [show (SpecM.parties ⟨swapId, withKeys (accs n) L.length, A, L, locksL L.length, st, de⟩).length = n from hpl] at h9; exact h9
    have hAs : ∀ x ∈ A, 0 ≤ x.dst ∧ x.dst < (n : Int) := fun x hx => by have h9 := (ok_arcs hok x hx).2; rw [show (SpecM.parties ⟨swapId, withKeys (accs n) L.length, A, L, locksL L.length, st, de⟩).length = n from hpl] at h9; exact h9
    have key : RingIn n A ∧ fbP n A L = true ∧ n ≤ 6 := by
      unfold bareM at hM
      cases e : pickL (2 + k % 4) (bareS (2 + k % 4) k) 40 1 with
      | some l =>
        rw [e] at hM
        have hn : (accs (2 + k % 4)).length = (accs n).length := congrArg (fun s : SpecM => s.parties.length) hM
        rw [accs_len, accs_len] at hn
        have hA : arcsP (2 + k % 4) (k / 4 % 4096) (k / 16384 % 5) = A := congrArg (fun s : SpecM => s.arcs) hM
        have hL : l = L := congrArg (fun s : SpecM => s.leaders) hM
        rw [← hn, ← hA, ← hL]
        refine ⟨ring_in _ _ _, ?_, by omega⟩
        exact fb_of (pick_fb _ _ _ _ _ e) (by show (accs (2 + k % 4)).length = _; rw [accs_len]) (by omega) (fun x hx => by
          have h9 := hAs x (by rw [← hA]; exact hx)
          omega)
      | none =>
        rw [e] at hM
        have hn : (accs (2 + k % 4)).length = (accs n).length := congrArg (fun s : SpecM => s.parties.length) hM
        rw [accs_len, accs_len] at hn
        have hA : arcsP (2 + k % 4) 0 0 = A := congrArg (fun s : SpecM => s.arcs) hM
        have hL : [0] = L := congrArg (fun s : SpecM => s.leaders) hM
        rw [← hn, ← hA, ← hL]
        exact ⟨ring_in _ _ _, ring_fb _ (by omega) (by omega), by omega⟩
    obtain ⟨k1, k2, k3⟩ := key
  · show RingIn (withKeys (accs n) L.length).length A
    rw [hpl]; exact k1
  · unfold validM strM fbkM
    rw [told_yes hok]
    show (true && strongP (withKeys (accs n) L.length).length A && (true && fbP (withKeys (accs n) L.length).length A L)) = true
    rw [hpl, ring_strong k1 hn2 k3 hAs, k2]; rfl

end Go.Proofs.Ythoimecljfcjmaa
