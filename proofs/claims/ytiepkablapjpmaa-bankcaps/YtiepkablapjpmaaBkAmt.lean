/-
  What a key has behind a put; a struct of a variable loaded in a region that draws its order.
-/
import Derived.Test.YtiepkablapjpmaaBkWake
namespace Go.Proofs.Ytiepkablapjpmaa
open Go.RowKit

theorem amtOf_skip (l m k : List FundM) (b t : ByteArray) (h : ∀ f ∈ m, cmpK f b t ≠ 0) : amtOf (l ++ m ++ k) b t = amtOf (l ++ k) b t := by
  induction l with
  | nil =>
    induction m with
    | nil => rfl
    | cons f m ih =>
      show (if cmpK f b t = 0 then f.amt else amtOf (m ++ k) b t) = amtOf k b t
      rw [if_neg (h f (List.mem_cons_self ..))]
      have := ih (fun x hx => h x (List.mem_cons_of_mem _ hx))
      exact this
  | cons f l ih =>
    show amtOf (f :: (l ++ m ++ k)) b t = amtOf (f :: (l ++ k)) b t
    unfold amtOf
    rw [ih]
theorem amtOf_front (l k : List FundM) (b t : ByteArray) (h : ∀ f ∈ l, cmpK f b t ≠ 0) : amtOf (l ++ k) b t = amtOf k b t := by
  have := amtOf_skip [] l k b t h
  simpa using this
theorem newF_key {a s : ByteArray} {n : Int} {f : FundM} (h : f ∈ newF a s n) : f = ⟨a, s, n⟩ ∧ n ≠ 0 := by
  unfold newF at h
  split at h
  · exact absurd h (by simp)
  · exact ⟨List.mem_singleton.1 h, by assumption⟩
theorem amtOf_put {l : List FundM} (hr : Rising l) (a s : ByteArray) (n : Int) (b t : ByteArray) : amtOf (putL l a s n) b t = if a = b ∧ s = t then n else amtOf l b t := by
  obtain ⟨i, hi⟩ := split_key hr a s
  have hlow := take_all (P := fun f => cmpK f a s < 0) hi.le hi.lo
  by_cases hc : i < l.length ∧ cmpK (l.getD i noFund) a s = 0
  · obtain ⟨h1, h2⟩ := hc
    obtain ⟨_, e2⟩ := hi.put_old hr h1 h2 n
    have hhi := drop_all (l := l) (i := i + 1) (d := noFund) (P := fun f => 0 < cmpK f a s) (fun j hj hl => hi.behind hr (by omega) hl)
    rw [e2]
    by_cases hk : a = b ∧ s = t
    · obtain ⟨rfl, rfl⟩ := hk
      rw [if_pos ⟨rfl, rfl⟩, List.append_assoc, amtOf_front _ _ _ _ (fun f hf => by have := hlow f hf; omega)]
      by_cases hn : n = 0
      · rw [show newF a s n = [] by unfold newF; rw [if_pos hn], List.nil_append, hn]
        have := amtOf_front (l.drop (i + 1)) [] a s (fun f hf => by have := hhi f hf; omega)
        rw [List.append_nil] at this
        rw [this]; rfl
      · rw [show newF a s n = [⟨a, s, n⟩] by unfold newF; rw [if_neg hn]]
        show (if cmpK ⟨a, s, n⟩ a s = 0 then n else _) = n
        rw [if_pos ((cmpK_zero _ _ _).2 ⟨rfl, rfl⟩)]
    · rw [if_neg hk]
      have e3 := part_at l i h1
      rw [amtOf_skip _ _ _ _ _ (fun f hf => by
        obtain ⟨rfl, _⟩ := newF_key hf
        intro hz
        exact hk ((cmpK_zero _ _ _).1 hz))]
      conv => rhs; rw [e3]
      rw [amtOf_skip _ _ _ _ _ (fun f hf => by
        rw [List.mem_singleton.1 hf]
        intro hz
        have k1 := (cmpK_zero _ _ _).1 hz
        have k2 := (cmpK_zero _ _ _).1 h2
        exact hk ⟨k2.1.symm.trans k1.1, k2.2.symm.trans k1.2⟩)]
  · obtain ⟨_, e2⟩ := hi.put_new hr (by have := hi.le; by_cases hl : i = l.length; exact .inl hl; exact .inr (fun hz => hc ⟨by omega, hz⟩)) n
    have hhi : ∀ f ∈ l.drop i, cmpK f a s ≠ 0 := by
      refine drop_all (l := l) (i := i) (d := noFund) (P := fun f => cmpK f a s ≠ 0) (fun j hj hl => ?_)
      by_cases hji : j = i
      · rw [hji]; exact fun hz => hc ⟨by omega, hz⟩
      · have := hi.behind hr (show i < j by omega) hl; omega
    rw [e2]
    by_cases hk : a = b ∧ s = t
    · obtain ⟨rfl, rfl⟩ := hk
      rw [if_pos ⟨rfl, rfl⟩, List.append_assoc, amtOf_front _ _ _ _ (fun f hf => by have := hlow f hf; omega)]
      by_cases hn : n = 0
      · rw [show newF a s n = [] by unfold newF; rw [if_pos hn], List.nil_append, hn]
        have := amtOf_front (l.drop i) [] a s hhi
        rw [List.append_nil] at this
        rw [this]; rfl
      · rw [show newF a s n = [⟨a, s, n⟩] by unfold newF; rw [if_neg hn]]
        show (if cmpK ⟨a, s, n⟩ a s = 0 then n else _) = n
        rw [if_pos ((cmpK_zero _ _ _).2 ⟨rfl, rfl⟩)]
    · rw [if_neg hk, amtOf_skip _ _ _ _ _ (fun f hf => by
        obtain ⟨rfl, _⟩ := newF_key hf
        intro hz
        exact hk ((cmpK_zero _ _ _).1 hz)), List.take_append_drop]
theorem move_amt {M : BookM} {i : Nat} (h : BookOk M i) {a b s : ByteArray} {n : Int} (hz : moveE M a b s n = 0) (c t : ByteArray) : amtOf (moveM M a b s n).funds c t = amtOf M.funds c t - (if a = c ∧ s = t then n else 0) + (if b = c ∧ s = t then n else 0) := by
  have ht := (moveE_zero hz).1
  have h1 : ∀ c t, amtOf (takeM M a s n).funds c t = if a = c ∧ s = t then amtOf M.funds a s - n else amtOf M.funds c t := fun c t => by
    unfold takeM; rw [decide_eq_true ht]; exact amtOf_put h.rise a s _ c t
  have hr := (take_ok h a s n).rise
  unfold moveM
  rw [decide_eq_true hz]
  show amtOf (putL (takeM M a s n).funds b s _) c t = _
  rw [amtOf_put hr, h1, h1]
  by_cases e1 : a = c ∧ s = t
  · obtain ⟨rfl, rfl⟩ := e1
    by_cases e2 : b = a
    · subst e2; simp <;> omega
    · have e3 : ¬ a = b := fun e => e2 e.symm
      simp [e2]
  · by_cases e2 : b = c ∧ s = t
    · obtain ⟨rfl, rfl⟩ := e2
      simp at e1
      simp [e1]
    · rw [if_neg e2, if_neg e1, if_neg e1, if_neg e2]; omega
theorem move_total {M : BookM} {i : Nat} (h : BookOk M i) (a b s : ByteArray) (n : Int) (t : ByteArray) : totalL (moveM M a b s n).funds t = totalL M.funds t := by
  unfold moveM
  cases h1 : decide (moveE M a b s n = 0) with
  | false => rfl
  | true =>
    have ht := (moveE_zero (of_decide_eq_true h1)).1
    have hr := (take_ok h a s n).rise
    show totalL (putL (takeM M a s n).funds b s _) t = _
    rw [(put_sums hr b s _).2]
    have h2 : totalL (takeM M a s n).funds t = totalL M.funds t + (if s = t then - n else 0) := by
      unfold takeM; rw [decide_eq_true ht]
      show totalL (putL M.funds a s _) t = _
      rw [(put_sums h.rise a s _).2]; congr 1; split <;> omega
    rw [h2]; split <;> omega
theorem move_accs (M : BookM) (a b s : ByteArray) (n : Int) : (moveM M a b s n).accs = M.accs := by
  unfold moveM
  cases decide (moveE M a b s n = 0)
  · rfl
  · exact (take_accs M a s n).1

theorem step_loadG {ops : Array Oper} {o : Oper} {a : Act} {w : World} {K : Act → World → Prop} {Q : Exit → Act → World → Prop} {E : Prop} (hw : Region.wanted o (yielded ops a.tmps) = true) (ty : TypeId) (x : Operand) (ho : o.op = .load ty x)
    (d : Array Field) (hu : Try.prog.underlying ty = some (.struct d)) (g : Nat) (cs : Array Value) (hx : a.eval x = .pointer (some ⟨g, 0, none⟩)) (hg : VAt w ty g cs) (hi : (Try.prog.info? ty).map (·.size) = some cs.size)
    (h : K (a.put o.dst (.agg cs)) w) : if Region.wanted o (yielded ops a.tmps) = true then Oper.wp Try.prog o a w K Q else E := by
  rw [if_pos hw]
  unfold Oper.wp execOp
  simp only [ho, hx, Instr.loadAt, Instr.sureAddr, Sem.run_bind, Sem.run_pure, Result.andThen_ok, run_loadVar_row w g ty ty cs (0, 0) (.struct d) hg hu rfl hi]
  exact h
/-- The whole of a variable is written, in a region that draws its order. -/
theorem step_wholeG {ops : Array Oper} {o : Oper} {a : Act} {w : World} {K : Act → World → Prop} {Q : Exit → Act → World → Prop} {E : Prop} (hw : Region.wanted o (yielded ops a.tmps) = true) (ty : TypeId) (x y : Operand) (ho : o.op = .store ty x y)
    (g : Nat) (old cs : Array Value) (hx : a.eval x = .pointer (some ⟨g, 0, none⟩)) (hy : a.eval y = .agg cs)
    (hg : VAt w ty g old) (hi : (Try.prog.info? ty).map (·.size) = some cs.size) (hold : cs.size = old.size) (h1 : ∀ u ∈ cs.toList, u.oneCell' = true)
    (h : ∀ w1, VAt w1 ty g cs → w1.heap.size = w.heap.size → But g w w1 → K (a.put o.dst undef) w1) : if Region.wanted o (yielded ops a.tmps) = true then Oper.wp Try.prog o a w K Q else E :=
  step_storeG hw ty x y ho ty g 0 cs _ old cs hx hy rfl hg hi (by omega) h1 (by
    have hd : old.toList.drop (0 + cs.size) = [] := List.drop_eq_nil_of_le (by simp [hold])
    rw [hd, List.take_zero, List.nil_append, List.append_nil, Array.toArray_toList]) h

end Go.Proofs.Ytiepkablapjpmaa
