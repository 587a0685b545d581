/-
  Package graph: isParty, isArc, Path.
-/
import Derived.Test.YthoimecljfcjmaaZ02
import Derived.Test.YthoimecljfcjmaaZ25
import Derived.Test.YthoimecljfcjmaaYieldV
import Derived.BigQuiet
import Derived.Deep.QuietTactic
namespace Go.Proofs.Ythoimecljfcjmaa
open Go.RowKit

def arcM (A : List ArcM) (a b : Int) : Prop := ∃ j, j < A.length ∧ (A.getD j noArc).src = a ∧ (A.getD j noArc).dst = b
def stepOk (s : SpecM) (l : List Int) (i : Nat) : Prop := (0 ≤ l.getD i 0 ∧ l.getD i 0 < (s.parties.length : Int)) ∧ (∀ k, k < i → l.getD k 0 ≠ l.getD i 0) ∧ (0 < i → arcM s.arcs (l.getD (i - 1) 0) (l.getD i 0))
/-- What Path asks. -/
def pathOk (s : SpecM) (l : List Int) : Prop := specOk s ∧ 1 ≤ l.length ∧ ∀ i, i < l.length → stepOk s l i
def acells5 (x : ArcM) : Array Value := #[.int .i64 x.src, .int .i64 x.dst, .int .i64 x.ledger, .string x.asset, .int .i64 x.amount]
theorem Ints.take {w : World} {a : Option Addr} {n : Nat} {l : List Int} (h : Ints w a n l) (k : Nat) (hk : k ≤ n) : Ints w a k (l.take k) := by
  obtain ⟨h1, h2, h3, h4⟩ := h
  refine ⟨by rw [List.length_take]; omega, by omega, fun j hj => ?_, fun j hj => ?_⟩
  · rw [take_getD _ _ _ _ hj]; exact h3 j (by omega)
  · rw [take_getD _ _ _ _ hj]; exact h4 j (by omega)
theorem mem_take {l : List Int} {k : Nat} (hk : k ≤ l.length) {x : Int} : x ∈ l.take k ↔ ∃ j, j < k ∧ l.getD j 0 = x := by
  rw [mem_getD, List.length_take]
  constructor
  · rintro ⟨j, hj, rfl⟩
    exact ⟨j, by omega, by rw [take_getD _ _ _ _ (by omega)]⟩
  · rintro ⟨j, hj, rfl⟩
    exact ⟨j, by omega, by rw [take_getD _ _ _ _ hj]⟩

set_option maxHeartbeats 400000 in
theorem pisparty_any {w : World} {v : Value} {s : SpecM} (hv : SpecW w v s) (x : Int) :
    Calls Try.prog 68 #[v, .int .i64 x] w fun e w' => e = .returned (.bool (told (0 ≤ x ∧ x < (s.parties.length : Int)))) ∧ Below w.heap.size w w' := by
  obtain ⟨a1, a2, a3, a4, k1, k2, k3, k4, rfl, LI, hcap⟩ := hv
  have hs := LI.parties.1
  unfold maxLen at hs
  clear LI hcap
  obtain ⟨n, hn⟩ : ∃ n, s.parties.length = n := ⟨_, rfl⟩
  obtain ⟨r, hr⟩ : ∃ r, told (0 ≤ x ∧ x < (s.parties.length : Int)) = r := ⟨_, rfl⟩
  rw [hr]
  rw [hn] at hr hs
  replace hr := hide hr
  generalize hg : w.heap.size = g
  by_cases h0 : 0 ≤ x
  · by_cases h1 : x < (n : Int)
    · go_enter Try.func68, Try.ntmps68
      go_wp2_with ((with_reducible refine wpList_at ?_); refine wpList_boxv (by rfl) 27 (.tmp 0) (by rfl) _ (by rfl) ?_; rw [hg]; intro w1 hg1 hz1 hb1; obtain ⟨q0, q1, q2, q3, q4, q5, q6⟩ := cells7_at hg1; rw [hn] at q1; clear hg1 q0 q2 q3 q4 q5 q6)
      go_ret
      exact ⟨ret_bool (by rw [← hr.out, told_yes ⟨h0, h1⟩]), hb1⟩
    · go_enter Try.func68, Try.ntmps68
      go_wp2_with ((with_reducible refine wpList_at ?_); refine wpList_boxv (by rfl) 27 (.tmp 0) (by rfl) _ (by rfl) ?_; rw [hg]; intro w1 hg1 hz1 hb1; obtain ⟨q0, q1, q2, q3, q4, q5, q6⟩ := cells7_at hg1; rw [hn] at q1; clear hg1 q0 q2 q3 q4 q5 q6)
      go_ret
      exact ⟨ret_bool (by rw [← hr.out, told_no (fun h => by omega)]), hb1⟩
  · go_enter Try.func68, Try.ntmps68
    go_wp2_with ((with_reducible refine wpList_at ?_); refine wpList_boxv (by rfl) 27 (.tmp 0) (by rfl) _ (by rfl) ?_; rw [hg]; intro w1 hg1 hz1 hb1; clear hg1)
    go_ret
    exact ⟨ret_bool (by rw [← hr.out, told_no (fun h => by omega)]), hb1⟩

theorem arc5_at {w : World} {g : Nat} {t : TypeId} {x : ArcM} (h : w.heap[g]? = some (.cells (acells5 x) t (0, 0))) : w.cell? ⟨g, 0, none⟩ = some (.int .i64 x.src) ∧ w.cell? ⟨g, 1, none⟩ = some (.int .i64 x.dst) := by
  refine ⟨?_, ?_⟩ <;> (rw [cell_of_row w g _ _ t (0, 0) h]; rfl)

set_option maxHeartbeats 400000 in
theorem isarc1_any (x : ArcM) (p q : Nat) (a b : Int) (w : World) (hp : w.cell? ⟨p, 0, none⟩ = some (.int .i64 a)) (hq : w.cell? ⟨q, 0, none⟩ = some (.int .i64 b)) :
    Calls Try.prog 99 #[.agg #[.int .i64 x.src, .int .i64 x.dst, .int .i64 x.ledger, .string x.asset, .int .i64 x.amount], .pointer (some ⟨p, 0, none⟩), .pointer (some ⟨q, 0, none⟩)] w fun e w' => e = .returned (.bool (told (x.src = a ∧ x.dst = b))) ∧ Below w.heap.size w w' := by
  obtain ⟨r, hr⟩ : ∃ r, told (x.src = a ∧ x.dst = b) = r := ⟨_, rfl⟩
  rw [hr]
  replace hr := hide hr
  by_cases h0 : x.src = a
  · have t0 : (x.src == a) = true := by rw [h0]; exact beq_self_eq_true _
    by_cases h1 : x.dst = b
    · have t1 : (x.dst == b) = true := by rw [h1]; exact beq_self_eq_true _
      have hf : Hid (r = true) := by show _ = _; rw [← hr.out, told_yes ⟨h0, h1⟩]
      clear h0 h1 hr
      go_enter Try.func99, Try.ntmps99
      go_wp2_with ((with_reducible refine wpList_at ?_); refine wpList_boxv (by rfl) 42 (.tmp 0) (by rfl) (acells5 x) (by rfl) ?_; intro w1 hg1 hz1 hb1; obtain ⟨q0, q1⟩ := arc5_at hg1; replace hp := cell_on hb1 hp; replace hq := cell_on hb1 hq; clear hg1)
      go_ret
      exact ⟨ret_bool hf.out.symm, hb1⟩
    · have t1 : (x.dst == b) = false := by rw [beq_eq_false_iff_ne]; exact h1
      have hf : Hid (r = false) := by show _ = _; rw [← hr.out, told_no (fun h => h1 h.2)]
      clear h0 h1 hr
      go_enter Try.func99, Try.ntmps99
      go_wp2_with ((with_reducible refine wpList_at ?_); refine wpList_boxv (by rfl) 42 (.tmp 0) (by rfl) (acells5 x) (by rfl) ?_; intro w1 hg1 hz1 hb1; obtain ⟨q0, q1⟩ := arc5_at hg1; replace hp := cell_on hb1 hp; replace hq := cell_on hb1 hq; clear hg1)
      go_ret
      exact ⟨ret_bool hf.out.symm, hb1⟩
  · have t0 : (x.src == a) = false := by rw [beq_eq_false_iff_ne]; exact h0
    have hf : Hid (r = false) := by show _ = _; rw [← hr.out, told_no (fun h => h0 h.1)]
    clear h0 hr
    go_enter Try.func99, Try.ntmps99
    go_wp2_with ((with_reducible refine wpList_at ?_); refine wpList_boxv (by rfl) 42 (.tmp 0) (by rfl) (acells5 x) (by rfl) ?_; intro w1 hg1 hz1 hb1; obtain ⟨q0, q1⟩ := arc5_at hg1; replace hp := cell_on hb1 hp; replace hq := cell_on hb1 hq; clear hg1)
    go_ret
    exact ⟨ret_bool hf.out.symm, hb1⟩

set_option maxRecDepth 10000 in
set_option maxHeartbeats 1000000 in
theorem idxarc_any {w : World} {a2 : Option Addr} {c : Nat} {A : List ArcM} (hv : Arcs w a2 A) (p q : Nat) (a b : Int) (hp : w.cell? ⟨p, 0, none⟩ = some (.int .i64 a)) (hq : w.cell? ⟨q, 0, none⟩ = some (.int .i64 b)) :
    Calls Try.prog 102 #[.slice a2 A.length c, .func (.func 99) #[] #[.pointer (some ⟨p, 0, none⟩), .pointer (some ⟨q, 0, none⟩)]] w fun e w' => ∃ r : Int, e = .returned (.int .i64 r) ∧ (0 ≤ r ↔ arcM A a b) ∧ Below w.heap.size w w' := by
  obtain ⟨n, hn⟩ : ∃ n, A.length = n := ⟨_, rfl⟩
  have hnm := hv.1
  rw [hn] at hnm ⊢
  unfold maxLen at hnm
  obtain ⟨g, hg⟩ : ∃ g, w.heap.size = g := ⟨_, rfl⟩
  rw [hg]
  replace hv := hide hv
  replace hn := hide hn
  replace hp := hide hp
  replace hq := hide hq
  go_enter Try.func102, Try.ntmps102
  go_wp2
  go_loopw [8] (fun i wr => ∃ j : Nat, j ≤ n ∧ i = .int .i64 j ∧ Hid (∀ i, i < j → ¬ ((A.getD i noArc).src = a ∧ (A.getD i noArc).dst = b)) ∧ Below g w wr) (fun i _ => n - (intOf i).toNat)
  case atStart => exact ⟨0, by omega, rfl, fun j hj => absurd hj (by omega), by rw [← hg]; exact Below.refl _ _⟩
  case round =>
    obtain ⟨j, hj, rfl, HO, hB⟩ := hrel
    by_cases hlt : j < n
    · have j1 : (j : Int) < (n : Int) := by omega
      obtain ⟨X, hX⟩ : ∃ X, A.getD j noArc = X := ⟨_, rfl⟩
      have hBw : Below w.heap.size w wr := by rw [hg]; exact hB
      obtain ⟨b2, o2, rfl, _, _, _, _, _, d0, d1, d2, d3, d4⟩ := (hv.out.below hBw).2 j (by rw [hn.out]; exact hlt)
      rw [hX] at d0 d1 d2 d3 d4
      have HI := hide (isarc1_any X p q a b wr (cell_on hBw hp.out) (cell_on hBw hq.out))
      replace hX := hide hX
      replace hB := hide hB
      clear hBw
      go_wp2_with fail
      refine HI.out.mono ?_
      rintro e w3 ⟨rfl, hb3⟩
      have hB3 := hB.out.trans (hb3.mono (by have := hB.out.size; omega))
      clear HI hb3 d0 d1 d2 d3 d4
      by_cases hx : X.src = a ∧ X.dst = b
      · rw [told_yes hx]
        have HM : Hid (arcM A a b) := ⟨j, by rw [hn.out]; exact hlt, by rw [hX.out]; exact hx⟩
        clear hx
        go_wp2
        go_ret
        exact ⟨_, rfl, ⟨fun _ => HM.out, fun _ => by omega⟩, hB3⟩
      · rw [told_no hx]
        replace hx := hide hx
        go_wp2
        go_roundw
        case rel =>
          refine ⟨j + 1, by omega, by go_num, fun i hi => ?_, hB3⟩
          by_cases hij : i = j
          · subst hij; rw [hX.out]; exact hx.out
          · exact HO.out i (by omega)
        case measure => simp [intOf]; omega
    · have j1 : ¬ (j : Int) < (n : Int) := by omega
      go_wp2
      go_ret
      exact ⟨_, rfl, ⟨fun h => absurd h (by omega), fun h => by
        obtain ⟨i, hi, hx⟩ := h
        exact absurd hx (HO.out i (by rw [hn.out] at hi; omega))⟩, hB⟩

set_option maxRecDepth 10000 in
set_option maxHeartbeats 400000 in
theorem contarc_any {w : World} {a2 : Option Addr} {c : Nat} {A : List ArcM} (hv : Arcs w a2 A) (p q : Nat) (a b : Int) (hp : w.cell? ⟨p, 0, none⟩ = some (.int .i64 a)) (hq : w.cell? ⟨q, 0, none⟩ = some (.int .i64 b)) :
    Calls Try.prog 98 #[.slice a2 A.length c, .func (.func 99) #[] #[.pointer (some ⟨p, 0, none⟩), .pointer (some ⟨q, 0, none⟩)]] w fun e w' => e = .returned (.bool (told (arcM A a b))) ∧ Below w.heap.size w w' := by
  have HI := idxarc_any (c := c) hv p q a b hp hq
  generalize A.length = n at HI ⊢
  replace HI := hide HI
  obtain ⟨t, ht⟩ : ∃ t, told (arcM A a b) = t := ⟨_, rfl⟩
  rw [ht]
  replace ht := hide ht
  clear hp hq
  go_enter Try.func98, Try.ntmps98
  go_wp2_with fail
  refine HI.out.mono ?_
  rintro e w1 ⟨r, rfl, hr, hb1⟩
  replace hr := hide hr
  go_wp2
  go_ret
  refine ⟨ret_bool ?_, hb1⟩
  rw [← ht.out]
  by_cases h : arcM A a b
  · rw [told_yes h]; exact decide_eq_true (hr.out.2 h)
  · rw [told_no h]; exact decide_eq_false (fun e => h (hr.out.1 e))

set_option maxRecDepth 10000 in
set_option maxHeartbeats 400000 in
theorem pisarc_any {w : World} {v : Value} {s : SpecM} (hv : SpecW w v s) (a b : Int) :
    Calls Try.prog 69 #[v, .int .i64 a, .int .i64 b] w fun e w' => e = .returned (.bool (told (arcM s.arcs a b))) ∧ Below w.heap.size w w' := by
  obtain ⟨a1, a2, a3, a4, k1, k2, k3, k4, rfl, LI, hcap⟩ := hv
  obtain ⟨g, hg⟩ : ∃ g, w.heap.size = g := ⟨_, rfl⟩
  have HA : Hid (∀ W p q, Below w.heap.size w W → W.cell? ⟨p, 0, none⟩ = some (.int .i64 a) → W.cell? ⟨q, 0, none⟩ = some (.int .i64 b) → Calls Try.prog 98 #[.slice a2 s.arcs.length k2, .func (.func 99) #[] #[.pointer (some ⟨p, 0, none⟩), .pointer (some ⟨q, 0, none⟩)]] W fun e w' => e = .returned (.bool (told (arcM s.arcs a b))) ∧ Below W.heap.size W w') := fun W p q hW hp hq => contarc_any (LI.arcs.below hW) p q a b hp hq
  clear LI hcap
  generalize told (arcM s.arcs a b) = t at HA ⊢
  go_enter Try.func69, Try.ntmps69
  go_wp2_with ((with_reducible refine wpList_at ?_); refine wpList_boxv (by rfl) 27 (.tmp 0) (by rfl) _ (by rfl) ?_; rw [hg]; intro w1 hg1 hz1 hb1; obtain ⟨q0, q1, q2, q3, q4, q5, q6⟩ := cells7_at hg1; clear hg1 q0 q1 q3 q4 q5 q6; have hq2 : ∀ o o', ((w1.alloc o).alloc o').cell? ⟨g, 2, none⟩ = some (.slice a2 s.arcs.length k2) := (fun o o' => cell_on ((Below.refl _ _).alloc (by simp) o') (cell_on ((Below.refl _ _).alloc (Nat.le_refl _) o) q2)))
  refine (HA.out _ _ _ (by rw [hg]; exact (hb1.alloc (by omega) _).alloc (by simp; omega) _) ?_ ?_).mono ?_
  · rw [cell_on (w := w1.alloc _) ((Below.refl _ _).alloc (Nat.le_refl _) _) (v := .int .i64 a) (by rw [← hz1, World.cell?_alloc_new]; rfl)]
  · have hz2 : (w1.alloc (Obj.cells #[Value.int IntKind.i64 a] 3)).heap.size = g + 1 + 1 := by simp [hz1]
    rw [← hz2, World.cell?_alloc_new]; rfl
  rintro e w4 ⟨rfl, hb4⟩
  go_wp2
  go_ret
  exact ⟨rfl, by rw [hg]; exact ((hb1.alloc (by omega) _).alloc (by simp; omega) _).trans (hb4.mono (by simp; omega))⟩

theorem path_yes {s : SpecM} {l : List Int} (h0 : specOk s) (h1 : 1 ≤ l.length) (h : ∀ i, i < l.length → stepOk s l i) : told (pathOk s l) = true := told_yes ⟨h0, h1, h⟩
theorem path_no {s : SpecM} {l : List Int} (i : Nat) (hi : i < l.length) (h : ¬ stepOk s l i) : told (pathOk s l) = false := told_no (fun k => h (k.2.2 i hi))

set_option maxRecDepth 10000 in
set_option maxHeartbeats 4000000 in
theorem ppath_any {w : World} {v : Value} {s : SpecM} (hv : SpecW w v s) {al : Option Addr} {cl : Nat} {l : List Int} (hl : Ints w al l.length l) (hcl : l.length ≤ cl) (hcm : cl ≤ maxLen) :
    Calls Try.prog 47 #[v, .slice al l.length cl] w fun e w' => e = .returned (.bool (told (pathOk s l))) ∧ Below w.heap.size w w' := by
  obtain ⟨cs, rfl, h7⟩ := hv.seven
  obtain ⟨g, hg⟩ : ∃ g, w.heap.size = g := ⟨_, rfl⟩
  obtain ⟨r, hr⟩ : ∃ r, told (pathOk s l) = r := ⟨_, rfl⟩
  rw [hr]
  replace hr := hide hr
  obtain ⟨n, hn⟩ : ∃ n, l.length = n := ⟨_, rfl⟩
  rw [hn] at hl hcl ⊢
  replace hn := hide hn
  unfold maxLen at hcm
  have HC := fun W (h : Below w.heap.size w W) => check_spec (hv.below h)
  have HP : Hid (∀ W, Below g w W → ∀ x, Calls Try.prog 68 #[.agg cs, .int .i64 x] W fun e w' => e = .returned (.bool (told (0 ≤ x ∧ x < (s.parties.length : Int)))) ∧ Below W.heap.size W w') := fun W hW x => pisparty_any (hv.below (by rw [hg]; exact hW)) x
  have HI : Hid (∀ W, Below g w W → ∀ x y, Calls Try.prog 69 #[.agg cs, .int .i64 x, .int .i64 y] W fun e w' => e = .returned (.bool (told (arcM s.arcs x y))) ∧ Below W.heap.size W w') := fun W hW x y => pisarc_any (hv.below (by rw [hg]; exact hW)) x y
  have HT : Hid (∀ W, Below g w W → ∀ k, k ≤ n → ∀ x, Calls Try.prog 65 #[.slice al k cl, .int .i64 x] W fun e w' => e = .returned (.bool (told (x ∈ l.take k))) ∧ w' = W) := fun W hW k hk x => by
    have h8 := (hl.below (w' := W) (by rw [hg]; exact hW)).take k hk
    have h9 := contains_any (c := cl) (l := l.take k) (a := al) (w := W) (by rw [h8.1]; exact h8) x
    rw [h8.1] at h9; exact h9
  replace HC := hide HC
  replace hl := hide hl
  clear hv
  go_enter Try.func47, Try.ntmps47
  go_wp2_with (first
    | ((with_reducible refine wpList_at ?_); refine wpList_boxv (by rfl) 27 (.tmp 0) (by rfl) _ (by rfl) ?_; rw [hg]; intro w1 hu1 hz1 hb1; have hx1 : SvAt w1 g cs := hu1; clear hu1)
    | ((with_reducible refine wpList_at ?_); refine wpList_loadV (by rfl) (.tmp 2) (by rfl) _ cs (by rfl) hx1 h7 ?_))
  refine (HC.out _ (by rw [hg]; exact hb1)).mono ?_
  rintro e w2 ⟨rfl, hb2⟩
  have hx2 := hx1.below hb2
  have hB2 : Below g w w2 := hb1.trans (hb2.mono (by omega))
  clear hz1 hx1 HC hb1 hb2
  by_cases hok : specOk s
  · rw [told_yes hok]
    by_cases h0 : n = 0
    · have h0' : ((n : Int) == 0) = true := by rw [h0]; rfl
      have hf : Hid (r = false) := by show _ = _; rw [← hr.out]; exact told_no (fun k => by have := k.2.1; rw [hn.out] at this; omega)
      clear h0 hok
      go_wp2
      go_ret
      exact ⟨ret_bool hf.out.symm, by rw [hg]; exact hB2⟩
    · have h0' : ((n : Int) == 0) = false := by rw [beq_eq_false_iff_ne]; omega
      replace hok := hide hok
      go_wp2_with fail
      go_loopw [17] (fun i wr => ∃ k : Nat, k ≤ n ∧ i = .int .i64 k ∧ Hid (∀ j, j < k → stepOk s l j) ∧ SvAt wr g cs ∧ Below g w wr) (fun i _ => n - (intOf i).toNat)
      case atStart => exact ⟨0, by omega, rfl, fun j hj => absurd hj (by omega), hx2, hB2⟩
      case round =>
        clear hx2 hB2
        obtain ⟨k, hk, rfl, HD, hx, hB⟩ := hrel
        by_cases hlt : k < n
        · have k1' : (k : Int) < (n : Int) := by omega
          obtain ⟨bl, ol, rfl, d1⟩ := (hl.out.below (w' := wr) (by rw [hg]; exact hB)).2.2.2 k hlt
          obtain ⟨x, hxl⟩ : ∃ x, l.getD k 0 = x := ⟨_, rfl⟩
          rw [hxl] at d1
          have HP3 := hide (HP.out wr hB x)
          have hno : Hid (¬ stepOk s l k → r = false) := fun h => by rw [← hr.out]; exact path_no k (by rw [hn.out]; exact hlt) h
          replace hxl := hide hxl
          go_wp2_with ((with_reducible refine wpList_at ?_); refine wpList_loadV (by rfl) (.tmp 2) (by rfl) _ cs (by rfl) hx h7 ?_)
          refine HP3.out.mono ?_
          rintro e w3 ⟨rfl, hb3⟩
          have hx3 := hx.below hb3
          have hB3 : Below g w w3 := hB.trans (hb3.mono (by have := hx.lt; omega))
          clear hx hB hb3 d1 HP3
          by_cases hp : 0 ≤ x ∧ x < (s.parties.length : Int)
          · rw [told_yes hp]
            have HT3 := hide (HT.out w3 hB3 k (by omega) x)
            replace hp := hide hp
            have hkc : k ≤ cl := by omega
            go_wp2_with fail
            refine HT3.out.mono ?_
            rintro e w0 ⟨rfl, hw0⟩
            subst w0
            clear HT3
            by_cases ht : x ∈ l.take k
            · rw [told_yes ht]
              have hf : Hid (r = false) := hno.out (fun h => by
                obtain ⟨j, hj, hjx⟩ := (mem_take (by rw [hn.out]; omega)).1 ht
                exact h.2.1 j hj (by rw [hjx, hxl.out]))
              clear ht
              go_wp2
              go_ret
              exact ⟨ret_bool hf.out.symm, by rw [hg]; exact hB3⟩
            · rw [told_no ht]
              have ht' : Hid (∀ j, j < k → l.getD j 0 ≠ l.getD k 0) := fun j hj e => ht ((mem_take (by rw [hn.out]; omega)).2 ⟨j, hj, by rw [e, hxl.out]⟩)
              clear ht
              by_cases hk0 : k = 0
              · subst hk0
                have hs : Hid (stepOk s l 0) := ⟨by rw [hxl.out]; exact hp.out, ht'.out, fun h => absurd h (by omega)⟩
                go_upto_region 8 with fail
                have hRw : Below w3.heap.size w3 w3.drew := ⟨rfl, rfl, rfl, Nat.le_refl _, fun _ _ => rfl⟩
                refine wp_region_held_drew (S := fun W => Below w3.heap.size w3 W) (by kernel_rfl) hRw (fun hHeld => ?_)
                refine wpAnyH_take (i := 0) (oi := { dst := some 33, op := Op.move (Operand.tmp 5), type := 3, pos := "graph.go:48", after := #[], guard := none }) (v := ?_) rfl (by kernel_rfl) (by kernel_rfl) (by kernel_rfl) (fun _ _ _ h => h) (Or.inl ⟨by rfl, ?_⟩) (by assumption) ?_
                rotate_left
                · intro W hSW; first | (go_simp; done) | (go_simp; with_reducible rfl)
                try simp only [Act.put, List.setIfInBounds_toArray, List.set_cons_zero, List.set_cons_succ]
                refine wpAnyH_take (i := 1) (oi := { dst := some 34, op := Op.binOp BinOp.gtr 3 (Operand.tmp 33) (Operand.const (Value.int IntKind.i64 0)) 3, type := 4, pos := "graph.go:48", after := #[{ on := 0, ground := Ground.data }], guard := none }) (v := ?_) rfl (by kernel_rfl) (by kernel_rfl) (by kernel_rfl) (fun _ _ _ h => h) (Or.inl ⟨by rfl, ?_⟩) (by assumption) ?_
                rotate_left
                · intro W hSW; first | (go_simp; done) | (go_simp; with_reducible rfl)
                try simp only [Act.put, List.setIfInBounds_toArray, List.set_cons_zero, List.set_cons_succ]
                refine wpAnyH_take (i := 2) (oi := { dst := some 35, op := Op.move (Operand.tmp 34), type := 4, pos := "graph.go:48", after := #[{ on := 1, ground := Ground.data }], guard := none }) (v := ?_) rfl (by kernel_rfl) (by kernel_rfl) (by kernel_rfl) (fun _ _ _ h => h) (Or.inl ⟨by rfl, ?_⟩) (by assumption) ?_
                rotate_left
                · intro W hSW; first | (go_simp; done) | (go_simp; with_reducible rfl)
                try simp only [Act.put, List.setIfInBounds_toArray, List.set_cons_zero, List.set_cons_succ]
                refine wpAnyH_take (i := 3) (oi := { dst := some 36, op := Op.load 27 (Operand.tmp 2), type := 27, pos := "graph.go:48", after := #[{ on := 2, ground := Ground.guard }], guard := some (2, true) }) (v := undef) rfl (by kernel_rfl) (by kernel_rfl) (by kernel_rfl) (fun _ _ _ h => h) (Or.inr ⟨by rfl, rfl⟩) (by assumption) ?_
                try simp only [Act.put, List.setIfInBounds_toArray, List.set_cons_zero, List.set_cons_succ]
                refine wpAnyH_take (i := 4) (oi := { dst := some 37, op := Op.move (Operand.tmp 1), type := 22, pos := "graph.go:48", after := #[{ on := 2, ground := Ground.guard }], guard := some (2, true) }) (v := undef) rfl (by kernel_rfl) (by kernel_rfl) (by kernel_rfl) (fun _ _ _ h => h) (Or.inr ⟨by rfl, rfl⟩) (by assumption) ?_
                try simp only [Act.put, List.setIfInBounds_toArray, List.set_cons_zero, List.set_cons_succ]
                refine wpAnyH_take (i := 5) (oi := { dst := some 38, op := Op.move (Operand.tmp 5), type := 3, pos := "graph.go:48", after := #[{ on := 2, ground := Ground.guard }], guard := some (2, true) }) (v := undef) rfl (by kernel_rfl) (by kernel_rfl) (by kernel_rfl) (fun _ _ _ h => h) (Or.inr ⟨by rfl, rfl⟩) (by assumption) ?_
                try simp only [Act.put, List.setIfInBounds_toArray, List.set_cons_zero, List.set_cons_succ]
                refine wpAnyH_take (i := 6) (oi := { dst := some 39, op := Op.binOp BinOp.sub 3 (Operand.tmp 38) (Operand.const (Value.int IntKind.i64 1)) 3, type := 3, pos := "graph.go:48", after := #[{ on := 5, ground := Ground.data }, { on := 2, ground := Ground.guard }], guard := some (2, true) }) (v := undef) rfl (by kernel_rfl) (by kernel_rfl) (by kernel_rfl) (fun _ _ _ h => h) (Or.inr ⟨by rfl, rfl⟩) (by assumption) ?_
                try simp only [Act.put, List.setIfInBounds_toArray, List.set_cons_zero, List.set_cons_succ]
                refine wpAnyH_take (i := 7) (oi := { dst := some 40, op := Op.indexAddr 22 (Operand.tmp 37) (Operand.tmp 39), type := 0, pos := "graph.go:48", after := #[{ on := 4, ground := Ground.data }, { on := 6, ground := Ground.data }, { on := 2, ground := Ground.guard }], guard := some (2, true) }) (v := undef) rfl (by kernel_rfl) (by kernel_rfl) (by kernel_rfl) (fun _ _ _ h => h) (Or.inr ⟨by rfl, rfl⟩) (by assumption) ?_
                try simp only [Act.put, List.setIfInBounds_toArray, List.set_cons_zero, List.set_cons_succ]
                refine wpAnyH_take (i := 8) (oi := { dst := some 41, op := Op.load 3 (Operand.tmp 40), type := 3, pos := "graph.go:48", after := #[{ on := 7, ground := Ground.data }, { on := 2, ground := Ground.guard }], guard := some (2, true) }) (v := undef) rfl (by kernel_rfl) (by kernel_rfl) (by kernel_rfl) (fun _ _ _ h => h) (Or.inr ⟨by rfl, rfl⟩) (by assumption) ?_
                try simp only [Act.put, List.setIfInBounds_toArray, List.set_cons_zero, List.set_cons_succ]
                refine wpAnyH_take (i := 9) (oi := { dst := some 42, op := Op.move (Operand.tmp 6), type := 3, pos := "graph.go:48", after := #[{ on := 2, ground := Ground.guard }], guard := some (2, true) }) (v := undef) rfl (by kernel_rfl) (by kernel_rfl) (by kernel_rfl) (fun _ _ _ h => h) (Or.inr ⟨by rfl, rfl⟩) (by assumption) ?_
                try simp only [Act.put, List.setIfInBounds_toArray, List.set_cons_zero, List.set_cons_succ]
                refine wpAnyH_take (i := 10) (oi := { dst := some 43, op := Op.call { callee := Callee.value (Operand.func 69), args := #[Operand.tmp 36, Operand.tmp 41, Operand.tmp 42], argTypes := #[27, 3, 3] }, type := 4, pos := "graph.go:48", after := #[{ on := 3, ground := Ground.data }, { on := 8, ground := Ground.data }, { on := 9, ground := Ground.data }, { on := 2, ground := Ground.chain }, { on := 2, ground := Ground.guard }], guard := some (2, true) }) (v := undef) rfl (by kernel_rfl) (by kernel_rfl) (by kernel_rfl) (fun _ _ _ h => h) (Or.inr ⟨by rfl, rfl⟩) (by assumption) ?_
                try simp only [Act.put, List.setIfInBounds_toArray, List.set_cons_zero, List.set_cons_succ]
                refine wpAnyH_take (i := 11) (oi := { dst := some 44, op := Op.unOp UnOp.not 4 (Operand.tmp 43), type := 4, pos := "graph.go:48", after := #[{ on := 10, ground := Ground.data }, { on := 2, ground := Ground.guard }], guard := some (2, true) }) (v := undef) rfl (by kernel_rfl) (by kernel_rfl) (by kernel_rfl) (fun _ _ _ h => h) (Or.inr ⟨by rfl, rfl⟩) (by assumption) ?_
                try simp only [Act.put, List.setIfInBounds_toArray, List.set_cons_zero, List.set_cons_succ]
                refine wpAnyH_take (i := 12) (oi := { dst := some 45, op := Op.pick (Operand.tmp 35) (Operand.tmp 44) (Operand.const (Value.bool false)), type := 4, pos := "graph.go:48", after := #[{ on := 2, ground := Ground.data }, { on := 11, ground := Ground.data }], guard := none }) (v := ?_) rfl (by kernel_rfl) (by kernel_rfl) (by kernel_rfl) (fun _ _ _ h => h) (Or.inl ⟨by rfl, ?_⟩) (by assumption) ?_
                rotate_left
                · intro W hSW; first | (go_simp; done) | (go_simp; with_reducible rfl)
                try simp only [Act.put, List.setIfInBounds_toArray, List.set_cons_zero, List.set_cons_succ]
                refine wpAnyH_done (by kernel_rfl) ?_ _
                have hx9 := hx3.below hRw
                have hB9 : Below g w w3.drew := hB3.trans (hRw.mono (by have := hx3.lt; omega))
                clear hx3 hB3 hRw hHeld
                go_wp2_with fail
                go_roundw
                case rel => exact ⟨1, by omega, by go_num, fun j hj => by
                  have : j = 0 := by omega
                  subst this; exact hs.out, hx9, hB9⟩
                case measure => simp [intOf]; omega
              · obtain ⟨q, hq⟩ : ∃ q, k = q + 1 := ⟨k - 1, by omega⟩
                have g0 : 0 < k := by omega
                have hw0 : IntKind.i64.wrap ((k : Int) - 1) = (q : Int) := by rw [wrap_i64 (by omega) (by omega)]; omega
                have hqn : q < n := by omega
                have d1 := (hl.out.below (w' := w3) (by rw [hg]; exact hB3)).get q hqn
                obtain ⟨y, hyl⟩ : ∃ y, l.getD q 0 = y := ⟨_, rfl⟩
                rw [hyl] at d1
                have HI3 : Hid (∀ W, Below w3.heap.size w3 W → Calls Try.prog 69 #[.agg cs, .int .i64 y, .int .i64 x] W fun e w' => e = .returned (.bool (told (arcM s.arcs y x))) ∧ Below W.heap.size W w') := fun W hW => HI.out W (hB3.trans (hW.mono (by have := hx3.lt; omega))) y x
                obtain ⟨t, ht⟩ : ∃ t, told (arcM s.arcs y x) = t := ⟨_, rfl⟩
                rw [ht] at HI3
                replace ht := hide ht
                replace hyl := hide hyl
                replace hq := hide hq
                replace hk0 := hide hk0
                go_upto_region 8 with fail
                have hRw : Below w3.heap.size w3 w3.drew := ⟨rfl, rfl, rfl, Nat.le_refl _, fun _ _ => rfl⟩
                refine wp_region_held_drew (S := fun W => Below w3.heap.size w3 W) (by kernel_rfl) hRw (fun hHeld => ?_)
                refine wpAnyH_take (i := 0) (oi := { dst := some 33, op := Op.move (Operand.tmp 5), type := 3, pos := "graph.go:48", after := #[], guard := none }) (v := ?_) rfl (by kernel_rfl) (by kernel_rfl) (by kernel_rfl) (fun _ _ _ h => h) (Or.inl ⟨by rfl, ?_⟩) (by assumption) ?_
                rotate_left
                · intro W hSW; first | (go_simp; done) | (go_simp; with_reducible rfl)
                try simp only [Act.put, List.setIfInBounds_toArray, List.set_cons_zero, List.set_cons_succ]
                refine wpAnyH_take (i := 1) (oi := { dst := some 34, op := Op.binOp BinOp.gtr 3 (Operand.tmp 33) (Operand.const (Value.int IntKind.i64 0)) 3, type := 4, pos := "graph.go:48", after := #[{ on := 0, ground := Ground.data }], guard := none }) (v := .bool true) rfl (by kernel_rfl) (by kernel_rfl) (by kernel_rfl) (fun _ _ _ h => h) (Or.inl ⟨by rfl, ?_⟩) (by assumption) ?_
                · intro W hSW; first | (go_simp; done) | (go_simp; with_reducible rfl)
                try simp only [Act.put, List.setIfInBounds_toArray, List.set_cons_zero, List.set_cons_succ]
                refine wpAnyH_take (i := 2) (oi := { dst := some 35, op := Op.move (Operand.tmp 34), type := 4, pos := "graph.go:48", after := #[{ on := 1, ground := Ground.data }], guard := none }) (v := ?_) rfl (by kernel_rfl) (by kernel_rfl) (by kernel_rfl) (fun _ _ _ h => h) (Or.inl ⟨by rfl, ?_⟩) (by assumption) ?_
                rotate_left
                · intro W hSW; first | (go_simp; done) | (go_simp; with_reducible rfl)
                try simp only [Act.put, List.setIfInBounds_toArray, List.set_cons_zero, List.set_cons_succ]
                refine wpAnyH_take (i := 3) (oi := { dst := some 36, op := Op.load 27 (Operand.tmp 2), type := 27, pos := "graph.go:48", after := #[{ on := 2, ground := Ground.guard }], guard := some (2, true) }) (v := .agg cs) rfl (by kernel_rfl) (by kernel_rfl) (by kernel_rfl) (fun _ _ _ h => h) (yields_loadV (by rfl) (.tmp 2) (by rfl) _ cs (by rfl) h7 (fun W hW => hx3.below hW)) (by assumption) ?_
                try simp only [Act.put, List.setIfInBounds_toArray, List.set_cons_zero, List.set_cons_succ]
                refine wpAnyH_take (i := 4) (oi := { dst := some 37, op := Op.move (Operand.tmp 1), type := 22, pos := "graph.go:48", after := #[{ on := 2, ground := Ground.guard }], guard := some (2, true) }) (v := ?_) rfl (by kernel_rfl) (by kernel_rfl) (by kernel_rfl) (fun _ _ _ h => h) (Or.inl ⟨by rfl, ?_⟩) (by assumption) ?_
                rotate_left
                · intro W hSW; first | (go_simp; done) | (go_simp; with_reducible rfl)
                try simp only [Act.put, List.setIfInBounds_toArray, List.set_cons_zero, List.set_cons_succ]
                refine wpAnyH_take (i := 5) (oi := { dst := some 38, op := Op.move (Operand.tmp 5), type := 3, pos := "graph.go:48", after := #[{ on := 2, ground := Ground.guard }], guard := some (2, true) }) (v := ?_) rfl (by kernel_rfl) (by kernel_rfl) (by kernel_rfl) (fun _ _ _ h => h) (Or.inl ⟨by rfl, ?_⟩) (by assumption) ?_
                rotate_left
                · intro W hSW; first | (go_simp; done) | (go_simp; with_reducible rfl)
                try simp only [Act.put, List.setIfInBounds_toArray, List.set_cons_zero, List.set_cons_succ]
                refine wpAnyH_take (i := 6) (oi := { dst := some 39, op := Op.binOp BinOp.sub 3 (Operand.tmp 38) (Operand.const (Value.int IntKind.i64 1)) 3, type := 3, pos := "graph.go:48", after := #[{ on := 5, ground := Ground.data }, { on := 2, ground := Ground.guard }], guard := some (2, true) }) (v := ?_) rfl (by kernel_rfl) (by kernel_rfl) (by kernel_rfl) (fun _ _ _ h => h) (Or.inl ⟨by rfl, ?_⟩) (by assumption) ?_
                rotate_left
                · intro W hSW; first | (go_simp; done) | (go_simp; with_reducible rfl)
                try simp only [Act.put, List.setIfInBounds_toArray, List.set_cons_zero, List.set_cons_succ]
                refine wpAnyH_take (i := 7) (oi := { dst := some 40, op := Op.indexAddr 22 (Operand.tmp 37) (Operand.tmp 39), type := 0, pos := "graph.go:48", after := #[{ on := 4, ground := Ground.data }, { on := 6, ground := Ground.data }, { on := 2, ground := Ground.guard }], guard := some (2, true) }) (v := ?_) rfl (by kernel_rfl) (by kernel_rfl) (by kernel_rfl) (fun _ _ _ h => h) (Or.inl ⟨by rfl, ?_⟩) (by assumption) ?_
                rotate_left
                · intro W hSW; first | (go_simp; done) | (go_simp; with_reducible rfl)
                try simp only [Act.put, List.setIfInBounds_toArray, List.set_cons_zero, List.set_cons_succ]
                refine wpAnyH_take (i := 8) (oi := { dst := some 41, op := Op.load 3 (Operand.tmp 40), type := 3, pos := "graph.go:48", after := #[{ on := 7, ground := Ground.data }, { on := 2, ground := Ground.guard }], guard := some (2, true) }) (v := ?_) rfl (by kernel_rfl) (by kernel_rfl) (by kernel_rfl) (fun _ _ _ h => h) (Or.inl ⟨by rfl, ?_⟩) (by assumption) ?_
                rotate_left
                · intro W hSW; have z0 := cell_on hSW d1; first | (go_simp; done) | (go_simp; with_reducible rfl)
                try simp only [Act.put, List.setIfInBounds_toArray, List.set_cons_zero, List.set_cons_succ]
                refine wpAnyH_take (i := 9) (oi := { dst := some 42, op := Op.move (Operand.tmp 6), type := 3, pos := "graph.go:48", after := #[{ on := 2, ground := Ground.guard }], guard := some (2, true) }) (v := ?_) rfl (by kernel_rfl) (by kernel_rfl) (by kernel_rfl) (fun _ _ _ h => h) (Or.inl ⟨by rfl, ?_⟩) (by assumption) ?_
                rotate_left
                · intro W hSW; first | (go_simp; done) | (go_simp; with_reducible rfl)
                try simp only [Act.put, List.setIfInBounds_toArray, List.set_cons_zero, List.set_cons_succ]
                refine wpAnyH_lone (R := fun W => Below w3.heap.size w3 W) (i := 10) (oi := { dst := some 43, op := Op.call { callee := Callee.value (Operand.func 69), args := #[Operand.tmp 36, Operand.tmp 41, Operand.tmp 42], argTypes := #[27, 3, 3] }, type := 4, pos := "graph.go:48", after := #[{ on := 3, ground := Ground.data }, { on := 8, ground := Ground.data }, { on := 9, ground := Ground.data }, { on := 2, ground := Ground.chain }, { on := 2, ground := Ground.guard }], guard := some (2, true) }) (vi := .bool t) (by kernel_rfl) rfl hRw (fun _ h => h) ?_ ?_
                · intro W hW K hK
                  go_simp
                  refine (HI3.out W hW).mono ?_
                  rintro e W2 ⟨rfl, hb⟩
                  go_wp2_with fail
                  exact hK.out _ (below_then hW hb)
                clear hRw hHeld
                intro W9 hRw hHeld
                try simp only [Act.put, List.setIfInBounds_toArray, List.set_cons_zero, List.set_cons_succ]
                refine wpAnyH_take (i := 11) (oi := { dst := some 44, op := Op.unOp UnOp.not 4 (Operand.tmp 43), type := 4, pos := "graph.go:48", after := #[{ on := 10, ground := Ground.data }, { on := 2, ground := Ground.guard }], guard := some (2, true) }) (v := ?_) rfl (by kernel_rfl) (by kernel_rfl) (by kernel_rfl) (fun _ _ _ h => h) (Or.inl ⟨by rfl, ?_⟩) (by assumption) ?_
                rotate_left
                · intro W hSW; first | (go_simp; done) | (go_simp; with_reducible rfl)
                try simp only [Act.put, List.setIfInBounds_toArray, List.set_cons_zero, List.set_cons_succ]
                refine wpAnyH_take (i := 12) (oi := { dst := some 45, op := Op.pick (Operand.tmp 35) (Operand.tmp 44) (Operand.const (Value.bool false)), type := 4, pos := "graph.go:48", after := #[{ on := 2, ground := Ground.data }, { on := 11, ground := Ground.data }], guard := none }) (v := ?_) rfl (by kernel_rfl) (by kernel_rfl) (by kernel_rfl) (fun _ _ _ h => h) (Or.inl ⟨by rfl, ?_⟩) (by assumption) ?_
                rotate_left
                · intro W hSW; first | (go_simp; done) | (go_simp; with_reducible rfl)
                try simp only [Act.put, List.setIfInBounds_toArray, List.set_cons_zero, List.set_cons_succ]
                refine wpAnyH_done (by kernel_rfl) ?_ _
                have hx9 := hx3.below hRw
                have hB9 : Below g w W9 := hB3.trans (hRw.mono (by have := hx3.lt; omega))
                clear hx3 hB3 hRw hHeld d1 HI3
                cases t with
                | false =>
                  have hf : Hid (r = false) := hno.out (fun h => by
                    have h9 := h.2.2 (by have := hk0.out; omega)
                    rw [show k - 1 = q by have := hq.out; omega, hyl.out, hxl.out] at h9
                    have h8 := ht.out
                    rw [told_yes h9] at h8
                    exact Bool.noConfusion h8)
                  go_wp2
                  go_ret
                  exact ⟨ret_bool hf.out.symm, by rw [hg]; exact hB9⟩
                | true =>
                  have hs : Hid (stepOk s l k) := ⟨by rw [hxl.out]; exact hp.out, ht'.out, fun _ => by
                    rw [show k - 1 = q by have := hq.out; omega, hyl.out, hxl.out]; exact (told_iff _).1 ht.out⟩
                  go_wp2_with fail
                  go_roundw
                  case rel => exact ⟨k + 1, by omega, by go_num, fun j hj => by
                    by_cases h : j < k
                    · exact HD.out j h
                    · have : j = k := by omega
                      subst this; exact hs.out, hx9, hB9⟩
                  case measure => simp [intOf]; omega
          · rw [told_no hp]
            have hf : Hid (r = false) := hno.out (fun h => hp (by rw [← hxl.out]; exact h.1))
            clear hp
            go_wp2
            go_ret
            exact ⟨ret_bool hf.out.symm, by rw [hg]; exact hB3⟩
        · have k1' : ¬ (k : Int) < (n : Int) := by omega
          have hf : Hid (r = true) := by show _ = _; rw [← hr.out]; exact path_yes hok.out (by rw [hn.out]; omega) (fun i hi => HD.out i (by rw [hn.out] at hi; omega))
          go_wp2
          go_ret
          exact ⟨ret_bool hf.out.symm, hB⟩
  · rw [told_no hok]
    have hf : Hid (r = false) := by show _ = _; rw [← hr.out]; exact told_no (fun k => hok k.1)
    go_wp2
    go_ret
    exact ⟨ret_bool hf.out.symm, by rw [hg]; exact hB2⟩

end Go.Proofs.Ythoimecljfcjmaa
