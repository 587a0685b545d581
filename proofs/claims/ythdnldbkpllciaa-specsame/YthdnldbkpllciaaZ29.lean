/-
  Swaps as values and in variables.
-/
import Derived.Test.YthdnldbkpllciaaZ28
import Derived.Test.YthdnldbkpllciaaZ18
namespace Go.Proofs.Ythdnldbkpllciaa
open Go.RowKit

/-- Seven cells. -/
def Seven (cs : Array Value) : Prop := cs.size = 7 ∧ ∀ u ∈ cs.toList, u.oneCell' = true
/-- A variable of this value. -/
def SvAt (w : World) (g : Nat) (cs : Array Value) : Prop := w.heap[g]? = some (.cells cs 27 (0, 0))
theorem SvAt.below {w w' : World} {g : Nat} {cs : Array Value} (h : SvAt w g cs) (hb : Below w.heap.size w w') : SvAt w' g cs := by
  unfold SvAt at *
  rw [hb.block g (Array.getElem?_eq_some_iff.1 h).1]; exact h
theorem SvAt.but {w w' : World} {g k : Nat} {cs : Array Value} (h : SvAt w g cs) (hb : But k w w') (hg : g ≠ k) : SvAt w' g cs := by
  unfold SvAt at *
  rw [hb.block g (Array.getElem?_eq_some_iff.1 h).1 hg]; exact h
theorem SvAt.lt {w : World} {g : Nat} {cs : Array Value} (h : SvAt w g cs) : g < w.heap.size := (Array.getElem?_eq_some_iff.1 h).1
theorem SpecW.seven {w : World} {v : Value} {s : SpecM} (h : SpecW w v s) : ∃ cs, v = .agg cs ∧ Seven cs := by
  obtain ⟨a1, a2, a3, a4, c1, c2, c3, c4, rfl, _⟩ := h
  refine ⟨_, rfl, rfl, fun u hu => ?_⟩
  simp [cells7] at hu
  rcases hu with rfl | rfl | rfl | rfl | rfl | rfl | rfl <;> rfl
theorem seven_list {cs : Array Value} (h : Seven cs) : ∃ l : List Value, l.length = 7 ∧ cs = l.toArray := ⟨cs.toList, by simp [h.1], by simp⟩

/-- 'var x Spec = v'. -/
theorem wpList_varS {ops : Array Oper} {rest : List Oper} {o1 o2 : Oper} {a : Act} {w : World} {Q : Exit → Act → World → Prop} (hg1 : o1.guard = none) (hg2 : o2.guard = none) (ho1 : o1.op = .alloc 27) (x y : Operand) (ho2 : o2.op = .store 27 x y)
    (cs : Array Value) (hx : (a.put o1.dst (.pointer (some ⟨w.heap.size, 0, none⟩))).eval x = .pointer (some ⟨w.heap.size, 0, none⟩)) (hy : (a.put o1.dst (.pointer (some ⟨w.heap.size, 0, none⟩))).eval y = .agg cs) (h7 : Seven cs)
    (h : ∀ w1, SvAt w1 w.heap.size cs → w1.heap.size = w.heap.size + 1 → Below w.heap.size w w1 → wpList Try.prog ops Q rest ((a.put o1.dst (.pointer (some ⟨w.heap.size, 0, none⟩))).put o2.dst undef) w1) :
    wpList Try.prog ops Q (o1 :: o2 :: rest) a w :=
  wpList_plain hg1 fun _ hK => by
    have hr : (Instr.alloc 27 true (.tuple #[])).run Try.prog w = .ok (.pointer (some ⟨w.heap.size, 0, none⟩)) (w.alloc (.cells #[Value.string ⟨#[]⟩, Value.slice none 0 0, Value.slice none 0 0, Value.slice none 0 0, Value.slice none 0 0, Value.int IntKind.i64 0, Value.int IntKind.i64 0] 27)) := by
      have hz : (Try.prog.info? 27).map (fun i => (i.zero, i.size)) = some (some (.agg #[Value.string ⟨#[]⟩, Value.slice none 0 0, Value.slice none 0 0, Value.slice none 0 0, Value.slice none 0 0, Value.int IntKind.i64 0, Value.int IntKind.i64 0]), 7) := by kernel_rfl
      simp [Instr.alloc, (zero_of_info hz).1 w, go_sem, Value.cells]
    unfold Oper.wp execOp
    simp only [ho1, Sem.run_bind, hr, Result.andThen_ok]
    refine hK _ _ ?_
    refine wpList_splice hg2 27 x y ho2 w.heap.size 0 cs _ hx hy rfl 27 [.string ⟨#[]⟩, .slice none 0 0, .slice none 0 0, .slice none 0 0, .slice none 0 0, .int .i64 0, .int .i64 0] (heap_alloc_new _ _) (by rw [h7.1]; exact sizeSpecK) (by rw [h7.1]; simp) h7.2 ?_
    intro w1 hc hz hb
    refine h w1 ?_ (by rw [hz]; simp) ?_
    · unfold Cells at hc
      unfold SvAt
      rw [hc, h7.1]; simp
    · have hal : Below w.heap.size w (w.alloc (.cells #[Value.string ⟨#[]⟩, Value.slice none 0 0, Value.slice none 0 0, Value.slice none 0 0, Value.slice none 0 0, Value.int IntKind.i64 0, Value.int IntKind.i64 0] 27)) := (Below.refl _ _).alloc (Nat.le_refl _) _
      exact hal.trans (hb.below (Nat.le_refl _) hal.size)
/-- A swap is read of a variable. -/
theorem wpList_loadV {ops : Array Oper} {rest : List Oper} {o : Oper} {a : Act} {w : World} {Q : Exit → Act → World → Prop} (hw : Region.wanted o (yielded ops a.tmps) = true) (x : Operand) (ho : o.op = .load 27 x)
    (g : Nat) (cs : Array Value) (hx : a.eval x = .pointer (some ⟨g, 0, none⟩)) (hg : SvAt w g cs) (h7 : Seven cs)
    (h : wpList Try.prog ops Q rest (a.put o.dst (.agg cs)) w) : wpList Try.prog ops Q (o :: rest) a w :=
  wpList_step fun K hK => by
    rw [if_pos hw]
    unfold Oper.wp execOp
    simp only [ho, hx, Instr.loadAt, Instr.sureAddr, Sem.run_bind, Sem.run_pure, Result.andThen_ok, run_loadVar_row w g 27 27 cs (0, 0) (.struct _) hg Try.underlying27 rfl (by rw [h7.1]; exact sizeSpecK)]
    exact hK _ _ h
/-- A swap is written into a variable. -/
theorem wpList_storeV {ops : Array Oper} {rest : List Oper} {o : Oper} {a : Act} {w : World} {Q : Exit → Act → World → Prop} (hgd : o.guard = none) (x y : Operand) (ho : o.op = .store 27 x y)
    (g : Nat) (cs old : Array Value) (hx : a.eval x = .pointer (some ⟨g, 0, none⟩)) (hy : a.eval y = .agg cs) (hg : SvAt w g old) (h7 : Seven cs) (h7' : Seven old)
    (h : ∀ w1, SvAt w1 g cs → w1.heap.size = w.heap.size → But g w w1 → wpList Try.prog ops Q rest (a.put o.dst undef) w1) : wpList Try.prog ops Q (o :: rest) a w := by
  refine wpList_splice hgd 27 x y ho g 0 cs _ hx hy rfl 27 old.toList (by unfold Cells; rw [Array.toArray_toList]; exact hg) (by rw [h7.1]; exact sizeSpecK) (by rw [h7.1, Array.length_toList, h7'.1]; omega) h7.2 ?_
  intro w1 hc hz hb
  refine h w1 ?_ hz hb
  unfold Cells at hc
  unfold SvAt
  rw [hc]
  congr 2
  rw [h7.1, List.drop_of_length_le (by rw [Array.length_toList, h7'.1]; omega)]
  simp

end Go.Proofs.Ythdnldbkpllciaa

/-
  Chapter 5's own Feedback.
-/
namespace Go.Proofs.Ythdnldbkpllciaa
open Go.RowKit

theorem fbR_yes (n : Nat) (A : List ArcM) (L : List Int) (h : ∀ a, a < n → reachR A (a : Int) (a : Int) L = false) : fbR n A L = true := by
  unfold fbR
  rw [List.all_eq_true]
  intro a ha
  rw [h a (List.mem_range.1 ha)]; rfl
theorem fbR_no (n : Nat) (A : List ArcM) (L : List Int) (a : Nat) (ha : a < n) (h : reachR A (a : Int) (a : Int) L = true) : fbR n A L = false := by
  unfold fbR
  rw [List.all_eq_false]
  exact ⟨a, List.mem_range.2 ha, by rw [h]; simp⟩
/-- What Feedback tells. -/
def fbM (s : SpecM) (h : Decidable (specOk s) := Classical.propDecidable (specOk s)) : Bool := told (specOk s) h && fbR s.parties.length s.arcs s.leaders

set_option maxRecDepth 10000 in
set_option maxHeartbeats 2000000 in
theorem feedback_any {w : World} {v : Value} {s : SpecM} (hv : SpecW w v s) : Calls Try.prog 71 #[v] w fun e w' => e = .returned (.bool (fbM s)) ∧ Below w.heap.size w w' := by
  obtain ⟨cs, rfl, h7⟩ := hv.seven
  obtain ⟨g, hg⟩ : ∃ g, w.heap.size = g := ⟨_, rfl⟩
  obtain ⟨r, hr⟩ : ∃ r, fbM s = r := ⟨_, rfl⟩
  rw [hr]
  replace hr := hide hr
  have HC := fun W (h : Below w.heap.size w W) => refcheck_any (hv.below h).toV
  replace HC := hide HC
  go_enter Try.func71, Try.ntmps71
  go_wp2_with (first
    | ((with_reducible refine wpList_at ?_); refine wpList_boxv (by rfl) 27 (.tmp 0) (by rfl) _ (by rfl) ?_; rw [hg]; intro w1 hu1 hz1 hb1; have hx1 : SvAt w1 g cs := hu1)
    | ((with_reducible refine wpList_at ?_); refine wpList_loadV (by rfl) (.tmp 1) (by rfl) _ cs (by rfl) hx1 h7 ?_))
  refine (HC.out _ (by rw [hg]; exact hb1)).mono ?_
  rintro e w2 ⟨rfl, hb2⟩
  have hx2 := hx1.below hb2
  have hB2 : Below g w w2 := hb1.trans (hb2.mono (by omega))
  clear hu1 hz1 hx1 HC hb1 hb2
  by_cases hok : specOk s
  · rw [told_yes hok]
    have hrr : fbR s.parties.length s.arcs s.leaders = r := by rw [← hr.out]; unfold fbM; rw [told_yes hok]; rfl
    replace hrr := hide hrr
    have hok' := hok
    obtain ⟨_, ⟨l1, l2, l3, l4⟩, ⟨p1, p2, p3⟩, ⟨q1, q2, q3⟩, _⟩ := hok'
    have hA : ∀ j, j < s.arcs.length → 0 ≤ (s.arcs.getD j noArc).dst ∧ (s.arcs.getD j noArc).dst < 6 := fun j hj => by
      obtain ⟨⟨_, _, i3, i4, _⟩, _⟩ := q3 j hj
      omega
    have hL6 : ∀ x ∈ s.leaders, 0 ≤ x ∧ x < 6 := fun x hx => by
      obtain ⟨j, hj, rfl⟩ := List.mem_iff_getElem.1 hx
      obtain ⟨i1, i2, _⟩ := l4 j hj
      rw [List.getD_eq_getElem?_getD, List.getElem?_eq_getElem hj] at i1 i2
      simp at i1 i2
      omega
    replace hA := hide hA
    replace hL6 := hide hL6
    clear l3 l4 p3 q3
    obtain ⟨a1, a2, a3, a4, k1, k2, k3, k4, hcs, LI, hcap⟩ := hv
    injection hcs with hcs
    have HV : Hid (∀ W, Below g w W → SpecW W (.agg cs) s) := fun W hW => by
      rw [hcs]
      exact ⟨a1, a2, a3, a4, k1, k2, k3, k4, rfl, LI.below (by rw [hg]; exact hW), hcap⟩
    have HL : Hid (∀ W, Below g w W → Ints W a3 s.leaders.length s.leaders) := fun W hW => LI.leaders.below (by rw [hg]; exact hW)
    have HX : ∀ W, SvAt W g cs → W.cell? ⟨g, 1, none⟩ = some (.slice a1 s.parties.length k1) ∧ W.cell? ⟨g, 3, none⟩ = some (.slice a3 s.leaders.length k3) := fun W hW => by
      have h9 : W.heap[g]? = some (.cells (cells7 a1 a2 a3 a4 k1 k2 k3 k4 s) 27 (0, 0)) := by rw [← hcs]; exact hW
      exact ⟨(cells7_at h9).2.1, (cells7_at h9).2.2.2.1⟩
    replace HX := hide HX
    clear hcs LI hcap hok
    go_wp2_with fail
    go_loopw [3] (fun i wr => ∃ k : Nat, k ≤ s.parties.length ∧ i = .int .i64 k ∧ Hid (∀ j, j < k → reachR s.arcs (j : Int) (j : Int) s.leaders = false) ∧ SvAt wr g cs ∧ Below g w wr) (fun i _ => s.parties.length - (intOf i).toNat)
    case atStart => exact ⟨0, by omega, rfl, fun j hj => absurd hj (by omega), hx2, hB2⟩
    case round =>
      clear hx2 hB2
      obtain ⟨k, hk, rfl, HD, hx, hB⟩ := hrel
      obtain ⟨c1, c3⟩ := HX.out _ hx
      by_cases hlt : k < s.parties.length
      · have k1' : (k : Int) < (s.parties.length : Int) := by omega
        have HR := reach_any (HV.out wr hB).toV hA.out (by omega) k k (by omega) (by omega) a3 k3 s.leaders (HL.out wr hB) hL6.out (by omega)
        obtain ⟨t, ht⟩ : ∃ t, reachR s.arcs (k : Int) (k : Int) s.leaders = t := ⟨_, rfl⟩
        rw [ht] at HR
        have HT : Hid (reachR s.arcs (k : Int) (k : Int) s.leaders = t) := ht
        replace HR := hide HR
        clear ht
        go_wp2_with ((with_reducible refine wpList_at ?_); refine wpList_loadV (by rfl) (.tmp 1) (by rfl) _ cs (by rfl) hx h7 ?_)
        refine HR.out.mono ?_
        rintro e w3 ⟨rfl, hb3⟩
        have hx3 := hx.below hb3
        have hB3 : Below g w w3 := hB.trans (hb3.mono (by have := hx.lt; omega))
        clear hx hB hb3 HR c1 c3
        cases t with
        | true =>
          have hf : Hid (r = false) := by show _ = _; rw [← hrr.out]; exact fbR_no _ _ _ k hlt HT.out
          go_wp2
          go_ret
          exact ⟨ret_bool hf.out.symm, by rw [hg]; exact hB3⟩
        | false =>
          go_wp2_with fail
          go_roundw
          case rel => exact ⟨k + 1, by omega, by go_num, fun j hj => by
            by_cases h : j < k
            · exact HD.out j h
            · have : j = k := by omega
              subst this; exact HT.out, hx3, hB3⟩
          case measure => simp [intOf]; omega
      · have k1' : ¬ (k : Int) < (s.parties.length : Int) := by omega
        have hf : Hid (r = true) := by show _ = _; rw [← hrr.out]; exact fbR_yes _ _ _ (fun a ha => HD.out a (by omega))
        go_wp2
        go_ret
        exact ⟨ret_bool hf.out.symm, hB⟩
  · rw [told_no hok]
    have hf : Hid (r = false) := by show _ = _; rw [← hr.out]; unfold fbM; rw [told_no hok]; rfl
    go_wp2
    go_ret
    exact ⟨ret_bool hf.out.symm, by rw [hg]; exact hB2⟩

end Go.Proofs.Ythdnldbkpllciaa
