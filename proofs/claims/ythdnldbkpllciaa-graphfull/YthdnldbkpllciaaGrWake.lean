/-
  Chapter 5's own example (awake).
-/
import Derived.Test.YthdnldbkpllciaaGrPl
import Derived.Test.YthdnldbkpllciaaGrFn
import Derived.Test.YthdnldbkpllciaaZ26
import Derived.Test.YthdnldbkpllciaaZ38
import Derived.Test.YthdnldbkpllciaaVar
namespace Go.Proofs.Ythdnldbkpllciaa
open Go.RowKit

def garcB (A : List ArcM) (a b : Int) : Bool := A.any fun x => x.src == a && x.dst == b
def stepB (n : Nat) (A : List ArcM) (l : List Int) (i : Nat) : Bool := decide (0 ≤ l.getD i 0) && decide (l.getD i 0 < (n : Int)) && !(l.take i).contains (l.getD i 0) && (i == 0 || garcB A (l.getD (i - 1) 0) (l.getD i 0))
/-- Path, to be reckoned. -/
def pathB (n : Nat) (A : List ArcM) (l : List Int) : Bool := decide (1 ≤ l.length) && (List.range l.length).all (stepB n A l)
theorem garcB_iff (A : List ArcM) (a b : Int) : garcB A a b = true ↔ arcM A a b := by
  unfold garcB arcM
  rw [List.any_eq_true]
  constructor
  · rintro ⟨x, hx, h⟩
    obtain ⟨j, hj, rfl⟩ := List.mem_iff_getElem.1 hx
    rw [Bool.and_eq_true, beq_iff_eq, beq_iff_eq] at h
    exact ⟨j, hj, by rw [List.getD_eq_getElem?_getD, List.getElem?_eq_getElem hj]; exact h⟩
  · rintro ⟨j, hj, h⟩
    refine ⟨A.getD j noArc, getD_mem A j noArc hj, ?_⟩
    rw [Bool.and_eq_true, beq_iff_eq, beq_iff_eq]; exact h
theorem stepB_iff {s : SpecM} {l : List Int} {i : Nat} (hi : i < l.length) : stepB s.parties.length s.arcs l i = true ↔ stepOk s l i := by
  unfold stepB stepOk
  simp only [Bool.and_eq_true, decide_eq_true_eq, Bool.not_eq_true', Bool.or_eq_true, beq_iff_eq, garcB_iff, ← Bool.not_eq_true, List.contains_iff_mem, mem_take (Nat.le_of_lt hi)]
  constructor
  · rintro ⟨⟨h1, h2⟩, h3⟩
    exact ⟨h1, fun k hk e => h2 ⟨k, hk, e⟩, fun h0 => h3.resolve_left (by omega)⟩
  · rintro ⟨h1, h2, h3⟩
    refine ⟨⟨h1, fun ⟨k, hk, e⟩ => h2 k hk e⟩, ?_⟩
    by_cases h0 : i = 0
    · exact .inl h0
    · exact .inr (h3 (by omega))
theorem path_reckoned {s : SpecM} (h : specOk s) (l : List Int) : told (pathOk s l) = pathB s.parties.length s.arcs l := by
  rw [Bool.eq_iff_iff, told_iff]
  unfold pathOk pathB
  rw [Bool.and_eq_true, decide_eq_true_eq, List.all_eq_true]
  constructor
  · rintro ⟨_, h1, h2⟩
    exact ⟨h1, fun i hi => (stepB_iff (List.mem_range.1 hi)).2 (h2 i (List.mem_range.1 hi))⟩
  · rintro ⟨h1, h2⟩
    exact ⟨h, h1, fun i hi => (stepB_iff hi).1 (h2 i (List.mem_range.2 hi))⟩
theorem valid_reckoned {s : SpecM} (h : specOk s) : validM s = (strongP s.parties.length s.arcs && fbP s.parties.length s.arcs s.leaders) := by
  unfold validM strM fbkM
  rw [told_yes h]; rfl
theorem strong_reckoned {s : SpecM} (h : specOk s) : strM s = strongP s.parties.length s.arcs := by
  unfold strM
  rw [told_yes h]; rfl
theorem fb_reckoned {s : SpecM} (h : specOk s) : fbkM s = fbP s.parties.length s.arcs s.leaders := by
  unfold fbkM
  rw [told_yes h]; rfl
theorem valid_bad {s : SpecM} (h : ¬ specOk s) : validM s = false := by
  unfold validM strM
  rw [told_no h]; rfl
theorem strong_bad {s : SpecM} (h : ¬ specOk s) : strM s = false := by
  unfold strM
  rw [told_no h]; rfl
theorem noSpec_bad5 : ¬ specOk noSpec := fun h => by have : 1 ≤ (0 : Nat) := h.1.1; omega
theorem ring_np5 (n : Nat) (st de : Int) : (ringM n st de).parties.length = n := by
  show (withKeys (accs n) 1).length = n
  rw [withKeys_len, accs_len]
theorem valid_none (w : World) : Calls Try.prog 13 #[.agg #[.string ⟨#[]⟩, .slice none 0 0, .slice none 0 0, .slice none 0 0, .slice none 0 0, .int .i64 0, .int .i64 0]] w fun e w' => e = .returned (.bool false) ∧ Below w.heap.size w w' := by
  have h := pvalid_any (no_spec w)
  rw [valid_bad noSpec_bad5] at h
  exact h
/-- Numbers written out. -/
theorem lit_ints {w : World} {g : Nat} {l : List Int} {t : TypeId} (h : w.heap[g]? = some (.cells (l.map (Value.int .i64)).toArray t (0, 0))) (hn : l.length ≤ 1000) (hl : ∀ x ∈ l, 0 ≤ x ∧ x < 1000) : Ints w (some ⟨g, 0, none⟩) l.length l := by
  refine ⟨rfl, by unfold maxLen; omega, fun j hj => (by have := hl _ (getD_mem l j 0 hj); omega), fun j hj => ⟨g, 0, rfl, ?_⟩⟩
  rw [Nat.zero_add, cell_of_row w g j _ t (0, 0) h, List.getElem?_toArray, List.getElem?_map, List.getElem?_eq_getElem hj, List.getD_eq_getElem?_getD, List.getElem?_eq_getElem hj]; rfl

set_option maxRecDepth 10000 in
set_option maxHeartbeats 2000000 in
theorem awake5_any (w : World) : Calls Try.prog 16 #[] w fun e w' => e = .returned (.bool true) ∧ Below w.heap.size w w' := by
  obtain ⟨S, hS, hok⟩ : ∃ S, S = ringM 3 5 6 ∧ specOk S := ⟨_, rfl, ring_ok 3 (by omega) (by omega) 5 6 (by omega) (by omega) (by omega) (by omega)⟩
  have HR : ∀ W, Calls Try.prog 12 #[.int .i64 3, .int .i64 5, .int .i64 6] W fun e w' => ∃ v, e = .returned v ∧ OwnSpec w' W.heap.size v S ∧ Below W.heap.size W w' := fun W => by rw [hS]; exact ring_any 3 (by omega) (by omega) 5 6 W
  have hsane := SaneS.of_ok hok
  have hn : S.parties.length = 3 := by rw [hS, ring_np5]
  have hA : S.arcs = arcsP 3 0 2 := by rw [hS]; rfl
  have hL : S.leaders = [0] := by rw [hS]; rfl
  have r1 : validM S = true := by rw [valid_reckoned hok, hn, hA, hL]; decide +kernel
  have r2 : told (pathOk S [0, 1, 2]) = true := by rw [path_reckoned hok, hn, hA]; decide +kernel
  have r3 : told (pathOk S [0, 2]) = false := by rw [path_reckoned hok, hn, hA]; decide +kernel
  have r4 : entL S.arcs 0 S.arcs.length = [2] := by rw [hA]; decide +kernel
  have r5 : levL S.arcs 0 S.arcs.length = [0] := by rw [hA]; decide +kernel
  have HV : Hid (∀ W v, SpecW W v S → Calls Try.prog 13 #[v] W fun e w' => e = .returned (.bool true) ∧ Below W.heap.size W w') := fun W v hv => by have h := pvalid_any hv; rw [r1] at h; exact h
  have HP1 : Hid (∀ W v b, SpecW W v S → Ints W (some ⟨b, 0, none⟩) 3 [0, 1, 2] → Calls Try.prog 38 #[v, .slice (some ⟨b, 0, none⟩) 3 3] W fun e w' => e = .returned (.bool true) ∧ Below W.heap.size W w') := fun W v b hv hI => by have h := ppath_any (l := [0, 1, 2]) (cl := 3) hv hI (by simp) (by unfold maxLen; omega); rw [r2] at h; exact h
  have HP2 : Hid (∀ W v b, SpecW W v S → Ints W (some ⟨b, 0, none⟩) 2 [0, 2] → Calls Try.prog 38 #[v, .slice (some ⟨b, 0, none⟩) 2 2] W fun e w' => e = .returned (.bool false) ∧ Below W.heap.size W w') := fun W v b hv hI => by have h := ppath_any (l := [0, 2]) (cl := 2) hv hI (by simp) (by unfold maxLen; omega); rw [r3] at h; exact h
  have HE : Hid (∀ W v, SpecW W v S → Calls Try.prog 15 #[v, .int .i64 0] W fun e w' => ∃ a c, e = .returned (.slice a 1 c) ∧ Below W.heap.size W w') := fun W v hv => by
    refine (pent_any hv 0 [2] (fun _ => r4.symm) (fun h => absurd hok h)).mono ?_
    rintro e w' ⟨u, rfl, hO, hb⟩
    obtain ⟨a, c, rfl⟩ := row_slice hO
    exact ⟨a, c, rfl, hb⟩
  have HL : Hid (∀ W v, SpecW W v S → Calls Try.prog 18 #[v, .int .i64 0] W fun e w' => ∃ a c, e = .returned (.slice a 1 c) ∧ Below W.heap.size W w') := fun W v hv => by
    refine (plev_any hv 0 [0] (fun _ => r5.symm) (fun h => absurd hok h)).mono ?_
    rintro e w' ⟨u, rfl, hO, hb⟩
    obtain ⟨a, c, rfl⟩ := row_slice hO
    exact ⟨a, c, rfl, hb⟩
  clear hS hn hA hL r1 r2 r3 r4 r5 hok
  go_enter Try.func16, Try.ntmps16
  go_wp2_with fail
  refine (HR _).mono ?_
  rintro e w1 ⟨v, rfl, hO1, hb1⟩
  have hW1 := hO1.wide hsane
  obtain ⟨cs, rfl, h7⟩ := hW1.seven
  clear hO1 HR
  go_wp2_with (first
    | ((with_reducible refine wpList_at ?_); refine wpList_varS (by rfl) (by rfl) (by rfl) (.tmp 1) (.tmp 2) (by rfl) cs (by rfl) (by rfl) h7 ?_; intro w2 hv2 hz2 hb2)
    | ((with_reducible refine wpList_at ?_); refine wpList_loadV (by rfl) (.tmp 1) (by rfl) _ cs (by rfl) hv2 h7 ?_))
  have hW2 := hW1.below hb2
  have hB2 := below_then hb1 hb2
  generalize w1.heap.size = g1 at hv2 hz2 ⊢
  refine (HV.out _ _ hW2).mono ?_
  rintro e w3 ⟨rfl, hb3⟩
  have hB3 := below_then hB2 hb3
  have hW3 := hW2.below hb3
  have hv3 := hv2.below hb3
  clear hW2 hv2 hz2 hb1 hb2 hB2 HV hW1 hb3
  have hal3 : Below w3.heap.size w3 (w3.alloc (.cells #[.int .i64 0, .int .i64 1, .int .i64 2] 3)) := (Below.refl _ _).alloc (Nat.le_refl _) _
  have hI3 : Ints (w3.alloc (.cells #[.int .i64 0, .int .i64 1, .int .i64 2] 3)) (some ⟨w3.heap.size, 0, none⟩) 3 [0, 1, 2] := lit_ints (l := [0, 1, 2]) (t := 3) (heap_alloc_new _ _) (by simp) (by decide)
  replace hI3 := hide hI3
  replace hal3 := hide hal3
  go_wp2_with ((with_reducible refine wpList_at ?_); refine wpList_loadV (by rfl) (.tmp 1) (by rfl) _ cs (by rfl) hv3 h7 ?_)
  refine (HP1.out _ _ _ (hW3.below hal3.out) hI3.out).mono ?_
  rintro e w4 ⟨rfl, hb4⟩
  have hb34 := below_then hal3.out hb4
  have hB4 := below_then hB3 hb34
  have hW4 := hW3.below hb34
  have hv4 := hv3.below hb34
  clear hW3 hv3 hB3 hb4 HP1 hI3 hal3 hb34
  have hal4 : Below w4.heap.size w4 (w4.alloc (.cells #[.int .i64 0, .int .i64 2] 3)) := (Below.refl _ _).alloc (Nat.le_refl _) _
  have hI4 : Ints (w4.alloc (.cells #[.int .i64 0, .int .i64 2] 3)) (some ⟨w4.heap.size, 0, none⟩) 2 [0, 2] := lit_ints (l := [0, 2]) (t := 3) (heap_alloc_new _ _) (by simp) (by decide)
  replace hI4 := hide hI4
  replace hal4 := hide hal4
  go_wp2_with ((with_reducible refine wpList_at ?_); refine wpList_loadV (by rfl) (.tmp 1) (by rfl) _ cs (by rfl) hv4 h7 ?_)
  refine (HP2.out _ _ _ (hW4.below hal4.out) hI4.out).mono ?_
  rintro e w5 ⟨rfl, hb5⟩
  have hb45 := below_then hal4.out hb5
  have hB5 := below_then hB4 hb45
  have hW5 := hW4.below hb45
  have hv5 := hv4.below hb45
  clear hW4 hv4 hB4 hb5 HP2 hI4 hal4 hb45
  go_wp2_with ((with_reducible refine wpList_at ?_); refine wpList_loadV (by rfl) (.tmp 1) (by rfl) _ cs (by rfl) hv5 h7 ?_)
  refine (HE.out _ _ hW5).mono ?_
  rintro e w6 ⟨a6, c6, rfl, hb6⟩
  have hB6 := below_then hB5 hb6
  have hW6 := hW5.below hb6
  have hv6 := hv5.below hb6
  clear hW5 hv5 hB5 hb6 HE
  go_wp2_with ((with_reducible refine wpList_at ?_); refine wpList_loadV (by rfl) (.tmp 1) (by rfl) _ cs (by rfl) hv6 h7 ?_)
  refine (HL.out _ _ hW6).mono ?_
  rintro e w7 ⟨a7, c7, rfl, hb7⟩
  have hB7 := below_then hB6 hb7
  clear hW6 hv6 hB6 hb7 HL
  go_wp2_with fail
  refine (valid_none _).mono ?_
  rintro e w8 ⟨rfl, hb8⟩
  have hB8 := below_then hB7 hb8
  go_wp2
  go_ret
  exact ⟨rfl, hB8⟩

end Go.Proofs.Ythdnldbkpllciaa
