/-
  Package graph: places, Enter, Leave.
-/
import Derived.Test.YtccaaaifhiigcaaGrPath
import Derived.Test.YtccaaaifhiigcaaGrReach
namespace Go.Proofs.Ytccaaaifhiigcaa
open Go.RowKit


/-- The places of the arcs that enter, that leave a party. -/
def entL (A : List ArcM) (v : Int) (k : Nat) : List Int := ((List.range k).filter fun i => (A.getD i noArc).dst == v).map fun (i : Nat) => (i : Int)
def levL (A : List ArcM) (v : Int) (k : Nat) : List Int := ((List.range k).filter fun i => (A.getD i noArc).src == v).map fun (i : Nat) => (i : Int)
theorem ent_yes (A : List ArcM) (v : Int) (k : Nat) (h : (A.getD k noArc).dst = v) : entL A v (k + 1) = entL A v k ++ [(k : Int)] := by
  unfold entL
  rw [List.range_succ, List.filter_append, List.map_append, List.filter_cons_of_pos (by rw [h]; exact beq_self_eq_true _)]; rfl
theorem ent_no (A : List ArcM) (v : Int) (k : Nat) (h : (A.getD k noArc).dst ≠ v) : entL A v (k + 1) = entL A v k := by
  unfold entL
  rw [List.range_succ, List.filter_append, List.map_append, List.filter_cons_of_neg (by rw [beq_iff_eq]; exact h)]; simp
theorem ent_len (A : List ArcM) (v : Int) (k : Nat) : (entL A v k).length ≤ k := by
  unfold entL
  rw [List.length_map]
  exact Nat.le_trans (List.length_filter_le _ _) (by rw [List.length_range]; exact Nat.le_refl _)
theorem ent_in (A : List ArcM) (v : Int) (k : Nat) : ∀ x ∈ entL A v k, 0 ≤ x ∧ x < (k : Int) := by
  intro x hx
  unfold entL at hx
  obtain ⟨i, hi, rfl⟩ := List.mem_map.1 hx
  have := List.mem_range.1 (List.mem_filter.1 hi).1
  omega
theorem lev_yes (A : List ArcM) (v : Int) (k : Nat) (h : (A.getD k noArc).src = v) : levL A v (k + 1) = levL A v k ++ [(k : Int)] := by
  unfold levL
  rw [List.range_succ, List.filter_append, List.map_append, List.filter_cons_of_pos (by rw [h]; exact beq_self_eq_true _)]; rfl
theorem lev_no (A : List ArcM) (v : Int) (k : Nat) (h : (A.getD k noArc).src ≠ v) : levL A v (k + 1) = levL A v k := by
  unfold levL
  rw [List.range_succ, List.filter_append, List.map_append, List.filter_cons_of_neg (by rw [beq_iff_eq]; exact h)]; simp
theorem lev_len (A : List ArcM) (v : Int) (k : Nat) : (levL A v k).length ≤ k := by
  unfold levL
  rw [List.length_map]
  exact Nat.le_trans (List.length_filter_le _ _) (by rw [List.length_range]; exact Nat.le_refl _)
theorem lev_in (A : List ArcM) (v : Int) (k : Nat) : ∀ x ∈ levL A v k, 0 ≤ x ∧ x < (k : Int) := by
  intro x hx
  unfold levL at hx
  obtain ⟨i, hi, rfl⟩ := List.mem_map.1 hx
  have := List.mem_range.1 (List.mem_filter.1 hi).1
  omega

end Go.Proofs.Ytccaaaifhiigcaa
