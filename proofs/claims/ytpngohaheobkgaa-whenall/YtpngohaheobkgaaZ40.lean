/-
  Swaps as values and in variables.
-/
import Derived.Test.YtpngohaheobkgaaRingP
import Derived.Test.YtpngohaheobkgaaSpMk
import Derived.Test.YtpngohaheobkgaaSpRefC
import Derived.Test.YtpngohaheobkgaaSpOwnD
namespace Go.Proofs.Ytpngohaheobkgaa
open Go.RowKit

/-- Seven cells. -/
def Seven (cs : Array Value) : Prop := cs.size = 7 ∧ ∀ u ∈ cs.toList, u.oneCell' = true
/-- A variable of this value. -/
def SvAt (w : World) (g : Nat) (cs : Array Value) : Prop := w.heap[g]? = some (.cells cs 27 (0, 0))
theorem SvAt.below {w w' : World} {g : Nat} {cs : Array Value} (h : SvAt w g cs) (hb : Below w.heap.size w w') : SvAt w' g cs := by
  unfold SvAt at *
  rw [hb.block g (Array.getElem?_eq_some_iff.1 h).1]; exact h
theorem SvAt.but {w w' : World} {g k : Nat} {cs : Array Value} (h : SvAt w g cs) (hb : But k w w') (hg : g ≠ k) : SvAt w' g cs := by
  unfold SvAt at *
  rw [hb.block g (Array.getElem?_eq_some_iff.1 h).1 hg]; exact h
theorem SvAt.lt {w : World} {g : Nat} {cs : Array Value} (h : SvAt w g cs) : g < w.heap.size := (Array.getElem?_eq_some_iff.1 h).1
theorem SpecW.seven {w : World} {v : Value} {s : SpecM} (h : SpecW w v s) : ∃ cs, v = .agg cs ∧ Seven cs := by
  obtain ⟨a1, a2, a3, a4, c1, c2, c3, c4, rfl, _⟩ := h
  refine ⟨_, rfl, rfl, fun u hu => ?_⟩
  simp [cells7] at hu
  rcases hu with rfl | rfl | rfl | rfl | rfl | rfl | rfl <;> rfl
theorem seven_list {cs : Array Value} (h : Seven cs) : ∃ l : List Value, l.length = 7 ∧ cs = l.toArray := ⟨cs.toList, by simp [h.1], by simp⟩

/-- 'var x Spec = v'. -/
theorem wpList_varS {ops : Array Oper} {rest : List Oper} {o1 o2 : Oper} {a : Act} {w : World} {Q : Exit → Act → World → Prop} (hg1 : o1.guard = none) (hg2 : o2.guard = none) (ho1 : o1.op = .alloc 27) (x y : Operand) (ho2 : o2.op = .store 27 x y)
    (cs : Array Value) (hx : (a.put o1.dst (.pointer (some ⟨w.heap.size, 0, none⟩))).eval x = .pointer (some ⟨w.heap.size, 0, none⟩)) (hy : (a.put o1.dst (.pointer (some ⟨w.heap.size, 0, none⟩))).eval y = .agg cs) (h7 : Seven cs)
    (h : ∀ w1, SvAt w1 w.heap.size cs → w1.heap.size = w.heap.size + 1 → Below w.heap.size w w1 → wpList Try.prog ops Q rest ((a.put o1.dst (.pointer (some ⟨w.heap.size, 0, none⟩))).put o2.dst undef) w1) :
    wpList Try.prog ops Q (o1 :: o2 :: rest) a w :=
  wpList_plain hg1 fun _ hK => by
    have hr : (Instr.alloc 27 true (.tuple #[])).run Try.prog w = .ok (.pointer (some ⟨w.heap.size, 0, none⟩)) (w.alloc (.cells #[Value.string ⟨#[]⟩, Value.slice none 0 0, Value.slice none 0 0, Value.slice none 0 0, Value.slice none 0 0, Value.int IntKind.i64 0, Value.int IntKind.i64 0] 27)) := by
      have hz : (Try.prog.info? 27).map (fun i => (i.zero, i.size)) = some (some (.agg #[Value.string ⟨#[]⟩, Value.slice none 0 0, Value.slice none 0 0, Value.slice none 0 0, Value.slice none 0 0, Value.int IntKind.i64 0, Value.int IntKind.i64 0]), 7) := by kernel_rfl
      simp [Instr.alloc, (zero_of_info hz).1 w, go_sem, Value.cells]
    unfold Oper.wp execOp
    simp only [ho1, Sem.run_bind, hr, Result.andThen_ok]
    refine hK _ _ ?_
    refine wpList_splice hg2 27 x y ho2 w.heap.size 0 cs _ hx hy rfl 27 [.string ⟨#[]⟩, .slice none 0 0, .slice none 0 0, .slice none 0 0, .slice none 0 0, .int .i64 0, .int .i64 0] (heap_alloc_new _ _) (by rw [h7.1]; exact sizeSpecK) (by rw [h7.1]; simp) h7.2 ?_
    intro w1 hc hz hb
    refine h w1 ?_ (by rw [hz]; simp) ?_
    · unfold Cells at hc
      unfold SvAt
      rw [hc, h7.1]; simp
    · have hal : Below w.heap.size w (w.alloc (.cells #[Value.string ⟨#[]⟩, Value.slice none 0 0, Value.slice none 0 0, Value.slice none 0 0, Value.slice none 0 0, Value.int IntKind.i64 0, Value.int IntKind.i64 0] 27)) := (Below.refl _ _).alloc (Nat.le_refl _) _
      exact hal.trans (hb.below (Nat.le_refl _) hal.size)
/-- A swap is read of a variable. -/
theorem wpList_loadV {ops : Array Oper} {rest : List Oper} {o : Oper} {a : Act} {w : World} {Q : Exit → Act → World → Prop} (hw : Region.wanted o (yielded ops a.tmps) = true) (x : Operand) (ho : o.op = .load 27 x)
    (g : Nat) (cs : Array Value) (hx : a.eval x = .pointer (some ⟨g, 0, none⟩)) (hg : SvAt w g cs) (h7 : Seven cs)
    (h : wpList Try.prog ops Q rest (a.put o.dst (.agg cs)) w) : wpList Try.prog ops Q (o :: rest) a w :=
  wpList_step fun K hK => by
    rw [if_pos hw]
    unfold Oper.wp execOp
    simp only [ho, hx, Instr.loadAt, Instr.sureAddr, Sem.run_bind, Sem.run_pure, Result.andThen_ok, run_loadVar_row w g 27 27 cs (0, 0) (.struct _) hg Try.underlying27 rfl (by rw [h7.1]; exact sizeSpecK)]
    exact hK _ _ h
/-- A swap is written into a variable. -/
theorem wpList_storeV {ops : Array Oper} {rest : List Oper} {o : Oper} {a : Act} {w : World} {Q : Exit → Act → World → Prop} (hgd : o.guard = none) (x y : Operand) (ho : o.op = .store 27 x y)
    (g : Nat) (cs old : Array Value) (hx : a.eval x = .pointer (some ⟨g, 0, none⟩)) (hy : a.eval y = .agg cs) (hg : SvAt w g old) (h7 : Seven cs) (h7' : Seven old)
    (h : ∀ w1, SvAt w1 g cs → w1.heap.size = w.heap.size → But g w w1 → wpList Try.prog ops Q rest (a.put o.dst undef) w1) : wpList Try.prog ops Q (o :: rest) a w := by
  refine wpList_splice hgd 27 x y ho g 0 cs _ hx hy rfl 27 old.toList (by unfold Cells; rw [Array.toArray_toList]; exact hg) (by rw [h7.1]; exact sizeSpecK) (by rw [h7.1, Array.length_toList, h7'.1]; omega) h7.2 ?_
  intro w1 hc hz hb
  refine h w1 ?_ hz hb
  unfold Cells at hc
  unfold SvAt
  rw [hc]
  congr 2
  rw [h7.1, List.drop_of_length_le (by rw [Array.length_toList, h7'.1]; omega)]
  simp

end Go.Proofs.Ytpngohaheobkgaa

/-
  Package when: deadlines. Chapter 6's own answer.
-/
namespace Go.Proofs.Ytpngohaheobkgaa
open Go.RowKit

/-- Any number as one from 1 to n. -/
def clampM (n : Nat) (k : Int) : Int := if k < 1 then (if (n : Int) < 1 then n else 1) else if (n : Int) < k then n else k
def deadM (s : SpecM) (k : Int) : Int := s.start + ((s.parties.length : Int) + clampM s.parties.length k - 1) * s.delta
def tableL (s : SpecM) : List Int := (List.range s.parties.length).map (fun (i : Nat) => deadM s ((i : Int) + 1))
def endM (s : SpecM) : Int := s.start + 2 * (s.parties.length : Int) * s.delta
theorem clamp_range (n : Nat) (k : Int) (h : 1 ≤ n) : 1 ≤ clampM n k ∧ clampM n k ≤ n := by
  unfold clampM
  split
  · split <;> omega
  · split <;> omega
theorem clamp_if (n : Nat) (k : Int) : (if (n : Int) < (if k < 1 then 1 else k) then (n : Int) else (if k < 1 then 1 else k)) = clampM n k := by
  unfold clampM
  split <;> rfl
theorem tableL_len (s : SpecM) : (tableL s).length = s.parties.length := by simp [tableL]
theorem tableL_get (s : SpecM) (j : Nat) (h : j < s.parties.length) : (tableL s).getD j 0 = deadM s ((j : Int) + 1) := by
  simp [tableL, List.getD_eq_getElem?_getD, List.getElem?_range h]
/-- What of a swap that may be is asked here. -/
structure Timely (s : SpecM) : Prop where
  n2 : 2 ≤ s.parties.length
  n6 : s.parties.length ≤ 6
  s0 : 0 ≤ s.start
  s1 : s.start ≤ 1099511627776
  d0 : 1 ≤ s.delta
  d1 : s.delta ≤ 1048576
theorem Timely.of_ok {s : SpecM} (h : specOk s) : Timely s := by
  obtain ⟨_, _, ⟨p1, p2, _⟩, _, t1, t2, t3, t4⟩ := h
  exact ⟨p1, p2, t1, t2, t3, t4⟩
theorem Timely.prod {s : SpecM} (h : Timely s) (k : Int) (k0 : 0 ≤ k) (k1 : k ≤ 12) : 0 ≤ k * s.delta ∧ k * s.delta ≤ 12582912 := by
  have h1 := h.d0
  have h2 := h.d1
  have h3 := Int.mul_le_mul k1 h2 (by omega) (by omega)
  exact ⟨Int.mul_nonneg k0 (by omega), by omega⟩
/-- A variable of type times. -/
def TvAt (w : World) (g : Nat) (cs : Array Value) : Prop := w.heap[g]? = some (.cells cs 53 (0, 0))
theorem TvAt.below {w w' : World} {g : Nat} {cs : Array Value} (h : TvAt w g cs) (hb : Below w.heap.size w w') : TvAt w' g cs := by
  unfold TvAt at *
  rw [hb.block g (Array.getElem?_eq_some_iff.1 h).1]; exact h
theorem TvAt.but {w w' : World} {g k : Nat} {cs : Array Value} (h : TvAt w g cs) (hb : But k w w') (hg : g ≠ k) : TvAt w' g cs := by
  unfold TvAt at *
  rw [hb.block g (Array.getElem?_eq_some_iff.1 h).1 hg]; exact h
theorem TvAt.lt {w : World} {g : Nat} {cs : Array Value} (h : TvAt w g cs) : g < w.heap.size := (Array.getElem?_eq_some_iff.1 h).1
theorem sizeTimes : (Try.prog.info? 53).map (·.size) = some 7 := by kernel_rfl
theorem wpList_loadT {ops : Array Oper} {rest : List Oper} {o : Oper} {a : Act} {w : World} {Q : Exit → Act → World → Prop} (hw : Region.wanted o (yielded ops a.tmps) = true) (x : Operand) (ho : o.op = .load 53 x)
    (g : Nat) (cs : Array Value) (hx : a.eval x = .pointer (some ⟨g, 0, none⟩)) (hg : TvAt w g cs) (h7 : Seven cs)
    (h : wpList Try.prog ops Q rest (a.put o.dst (.agg cs)) w) : wpList Try.prog ops Q (o :: rest) a w :=
  wpList_step fun K hK => by
    rw [if_pos hw]
    unfold Oper.wp execOp
    simp only [ho, hx, Instr.loadAt, Instr.sureAddr, Sem.run_bind, Sem.run_pure, Result.andThen_ok, run_loadVar_row w g 53 53 cs (0, 0) (.struct _) hg Try.underlying53 rfl (by rw [h7.1]; exact sizeTimes)]
    exact hK _ _ h
theorem cells7_seven (a1 a2 a3 a4 : Option Addr) (c1 c2 c3 c4 : Nat) (s : SpecM) : Seven (cells7 a1 a2 a3 a4 c1 c2 c3 c4 s) := by
  refine ⟨rfl, fun u hu => ?_⟩
  simp [cells7] at hu
  rcases hu with rfl | rfl | rfl | rfl | rfl | rfl | rfl <;> rfl

set_option maxRecDepth 10000 in
set_option maxHeartbeats 1000000 in
theorem after_any {w : World} {a1 a2 a3 a4 : Option Addr} {c1 c2 c3 c4 : Nat} {s : SpecM} (T : Timely s) (k : Int) (k0 : 0 ≤ k) (k1 : k ≤ 12) :
    Calls Try.prog 32 #[.agg (cells7 a1 a2 a3 a4 c1 c2 c3 c4 s), .int .i64 k] w fun e w' => e = .returned (.int .i64 (s.start + k * s.delta)) ∧ Below w.heap.size w w' := by
  obtain ⟨p0, p1⟩ := T.prod k k0 k1
  have s0 := T.s0
  have s1 := T.s1
  obtain ⟨p, hp⟩ : ∃ p, k * s.delta = p := ⟨_, rfl⟩
  rw [hp] at p0 p1 ⊢
  go_enter Try.func32, Try.ntmps32
  go_wp2_with ((with_reducible refine wpList_at ?_); refine wpList_boxv (by rfl) 53 (.tmp 0) (by rfl) _ (by rfl) ?_; intro w1 hg1 hz1 hb1; obtain ⟨q0, q1, q2, q3, q4, q5, q6⟩ := cells7_at hg1; clear hg1 hz1)
  go_ret
  exact ⟨rfl, hb1⟩

set_option maxRecDepth 10000 in
set_option maxHeartbeats 1000000 in
theorem deadline_any {w : World} {a1 a2 a3 a4 : Option Addr} {c1 c2 c3 c4 : Nat} {s : SpecM} (T : Timely s) (k : Int) :
    Calls Try.prog 30 #[.agg (cells7 a1 a2 a3 a4 c1 c2 c3 c4 s), .int .i64 k] w fun e w' => e = .returned (.int .i64 (deadM s k)) ∧ Below w.heap.size w w' := by
  have HI := fun W k k0 k1 => after_any (w := W) (a1 := a1) (a2 := a2) (a3 := a3) (a4 := a4) (c1 := c1) (c2 := c2) (c3 := c3) (c4 := c4) T k k0 k1
  have h7 := cells7_seven a1 a2 a3 a4 c1 c2 c3 c4 s
  have n6 := T.n6
  have n2 := T.n2
  obtain ⟨m0, m1⟩ := clamp_range s.parties.length k (by omega)
  have hm := clamp_if s.parties.length k
  unfold deadM
  obtain ⟨k1, hk1⟩ : ∃ k1, (if k < 1 then 1 else k) = k1 := ⟨_, rfl⟩
  rw [hk1] at hm
  generalize clampM s.parties.length k = m at m0 m1 hm ⊢
  obtain ⟨g, hg⟩ : ∃ g, w.heap.size = g := ⟨_, rfl⟩
  replace HI := hide HI
  go_enter Try.func30, Try.ntmps30
  go_wp2_with (first
    | ((with_reducible refine wpList_at ?_); refine wpList_boxv (by rfl) 53 (.tmp 0) (by rfl) _ (by rfl) ?_; rw [hg]; intro w1 hg1 hz1 hb1; obtain ⟨q0, q1, q2, q3, q4, q5, q6⟩ := cells7_at hg1; have ht1 : TvAt w1 g (cells7 a1 a2 a3 a4 c1 c2 c3 c4 s) := hg1; clear hg1)
    | ((with_reducible refine wpList_at ?_); refine wpList_loadT (by rfl) (.tmp 2) (by rfl) _ _ (by rfl) ht1 h7 ?_))
  refine (HI.out _ _ (by omega) (by omega)).mono ?_
  rintro e w2 ⟨rfl, hb2⟩
  go_wp2
  go_ret
  rw [hg]
  exact ⟨rfl, hb1.trans (hb2.mono (by omega))⟩

end Go.Proofs.Ytpngohaheobkgaa
