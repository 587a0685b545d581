/-
  Chapter 9 on plain data: funds, books, what each call makes of them.
-/
import Derived.Test.YtiepkablapjpmaaSp
import Derived.Lib.Bytealg
namespace Go.Proofs.Ytiepkablapjpmaa
open Go.RowKit

/-- Which text comes first: below 0, 0, above 0. -/
def cmpT (a b : ByteArray) : Int := Lib.compareBytes a.data.toList b.data.toList
theorem cmpB_range : ∀ a b : List UInt8, Lib.compareBytes a b = -1 ∨ Lib.compareBytes a b = 0 ∨ Lib.compareBytes a b = 1
  | [], [] => by simp [Lib.compareBytes]
  | [], _ :: _ => by simp [Lib.compareBytes]
  | _ :: _, [] => by simp [Lib.compareBytes]
  | a :: xs, b :: ys => by
    unfold Lib.compareBytes
    split
    · exact .inl rfl
    · split
      · exact .inr (.inr rfl)
      · exact cmpB_range xs ys
theorem u8_lt {a b : UInt8} : a < b ↔ a.toNat < b.toNat := UInt8.lt_iff_toNat_lt
theorem u8_eq {a b : UInt8} (h : a.toNat = b.toNat) : a = b := UInt8.toNat_inj.1 h
theorem cmpB_zero : ∀ a b : List UInt8, Lib.compareBytes a b = 0 ↔ a = b
  | [], [] => by simp [Lib.compareBytes]
  | [], _ :: _ => by simp [Lib.compareBytes]
  | _ :: _, [] => by simp [Lib.compareBytes]
  | a :: xs, b :: ys => by
    unfold Lib.compareBytes
    by_cases h1 : a < b
    · rw [if_pos h1]
      refine ⟨fun h => absurd h (by decide), fun h => ?_⟩
      injection h with h _
      rw [u8_lt, h] at h1
      exact absurd h1 (Nat.lt_irrefl _)
    · rw [if_neg h1]
      by_cases h2 : b < a
      · rw [if_pos h2]
        refine ⟨fun h => absurd h (by decide), fun h => ?_⟩
        injection h with h _
        rw [u8_lt, h] at h2
        exact absurd h2 (Nat.lt_irrefl _)
      · rw [if_neg h2, cmpB_zero xs ys]
        rw [u8_lt] at h1 h2
        have : a = b := u8_eq (by omega)
        rw [this]
        exact ⟨fun h => by rw [h], fun h => by injection h⟩
theorem cmpB_back : ∀ a b : List UInt8, Lib.compareBytes b a = - Lib.compareBytes a b
  | [], [] => by simp [Lib.compareBytes]
  | [], _ :: _ => by simp [Lib.compareBytes]
  | _ :: _, [] => by simp [Lib.compareBytes]
  | a :: xs, b :: ys => by
    unfold Lib.compareBytes
    by_cases h1 : a < b
    · have h2 : ¬ b < a := by rw [u8_lt] at *; omega
      rw [if_pos h1, if_neg h2, if_pos h1]; rfl
    · rw [if_neg h1]
      by_cases h2 : b < a
      · rw [if_pos h2, if_pos h2, if_neg h1]
      · rw [if_neg h2, if_neg h2, if_neg h1]
        exact cmpB_back xs ys
theorem cmpB_trans : ∀ a b c : List UInt8, Lib.compareBytes a b < 0 → Lib.compareBytes b c < 0 → Lib.compareBytes a c < 0
  | [], [], _ => by intro h; simp [Lib.compareBytes] at h
  | [], _ :: _, [] => by intro _ h; simp [Lib.compareBytes] at h
  | [], _ :: _, _ :: _ => by intro _ _; simp [Lib.compareBytes]
  | _ :: _, [], _ => by intro h; simp [Lib.compareBytes] at h
  | _ :: _, _ :: _, [] => by intro _ h; simp [Lib.compareBytes] at h
  | a :: xs, b :: ys, c :: zs => by
    unfold Lib.compareBytes
    intro h1 h2
    by_cases p1 : a < b
    · by_cases p2 : b < c
      · rw [if_pos (by rw [u8_lt] at *; omega)]; decide
      · rw [if_neg p2] at h2
        by_cases p3 : c < b
        · rw [if_pos p3] at h2; exact absurd h2 (by decide)
        · rw [if_pos (by rw [u8_lt] at *; omega)]; decide
    · rw [if_neg p1] at h1
      by_cases q1 : b < a
      · rw [if_pos q1] at h1; exact absurd h1 (by decide)
      · rw [if_neg q1] at h1
        by_cases p2 : b < c
        · rw [if_pos (by rw [u8_lt] at *; omega)]; decide
        · rw [if_neg p2] at h2
          by_cases p3 : c < b
          · rw [if_pos p3] at h2; exact absurd h2 (by decide)
          · rw [if_neg p3] at h2
            rw [if_neg (by rw [u8_lt] at *; omega), if_neg (by rw [u8_lt] at *; omega)]
            exact cmpB_trans xs ys zs h1 h2
theorem less_cmp : ∀ a b : List UInt8, Op.bytesLess a b = decide (Lib.compareBytes a b < 0)
  | [], [] => by simp [Lib.compareBytes, Op.bytesLess]
  | [], _ :: _ => by simp [Lib.compareBytes, Op.bytesLess]
  | _ :: _, [] => by simp [Lib.compareBytes, Op.bytesLess]
  | a :: xs, b :: ys => by
    unfold Lib.compareBytes Op.bytesLess
    by_cases h1 : a < b
    · rw [if_pos h1, decide_eq_true h1]; rfl
    · rw [if_neg h1, decide_eq_false h1, Bool.false_or]
      by_cases h2 : b < a
      · have h3 : (a == b) = false := by rw [beq_eq_false_iff_ne]; intro h; rw [u8_lt, h] at h2; omega
        rw [if_pos h2, h3]; rfl
      · have h3 : a = b := u8_eq (by rw [u8_lt] at *; omega)
        rw [if_neg h2, h3, beq_self_eq_true, Bool.true_and]
        exact less_cmp xs ys
theorem cmpT_range (a b : ByteArray) : cmpT a b = -1 ∨ cmpT a b = 0 ∨ cmpT a b = 1 := cmpB_range _ _
theorem cmpT_zero (a b : ByteArray) : cmpT a b = 0 ↔ a = b :=
  (cmpB_zero _ _).trans ⟨fun h => ByteArray.ext (Array.toList_inj.1 h), fun h => by rw [h]⟩
theorem cmpT_back (a b : ByteArray) : cmpT b a = - cmpT a b := cmpB_back _ _
theorem cmpT_trans {a b c : ByteArray} (h : cmpT a b < 0) (k : cmpT b c < 0) : cmpT a c < 0 := cmpB_trans _ _ _ h k
theorem less_text (a b : ByteArray) : Op.bytesLess a.toList b.toList = decide (cmpT a b < 0) := by
  rw [ByteArray.toList_eq, ByteArray.toList_eq]; exact less_cmp _ _

structure FundM where
  acc : ByteArray
  asset : ByteArray
  amt : Int
structure BookM where
  number : Int
  accs : List ByteArray
  funds : List FundM
def noFund : FundM := ⟨⟨#[]⟩, ⟨#[]⟩, 0⟩
/-- How funds follow one another. -/
def cmpK (f : FundM) (a s : ByteArray) : Int := if cmpT f.acc a ≠ 0 then cmpT f.acc a else cmpT f.asset s
theorem cmpK_range (f : FundM) (a s : ByteArray) : cmpK f a s = -1 ∨ cmpK f a s = 0 ∨ cmpK f a s = 1 := by
  unfold cmpK; split
  · exact cmpT_range _ _
  · exact cmpT_range _ _
theorem cmpK_zero (f : FundM) (a s : ByteArray) : cmpK f a s = 0 ↔ f.acc = a ∧ f.asset = s := by
  unfold cmpK
  by_cases h : cmpT f.acc a = 0
  · rw [if_neg (fun h' => h' h), cmpT_zero]
    exact ⟨fun k => ⟨(cmpT_zero _ _).1 h, k⟩, fun k => k.2⟩
  · rw [if_pos h]
    exact ⟨fun k => absurd k h, fun k => absurd ((cmpT_zero _ _).2 k.1) h⟩
theorem cmpK_back (f g : FundM) : cmpK g f.acc f.asset = - cmpK f g.acc g.asset := by
  unfold cmpK
  have h1 := cmpT_back f.acc g.acc
  have h2 := cmpT_back f.asset g.asset
  by_cases h : cmpT f.acc g.acc = 0
  · rw [if_neg (by omega), if_neg (by omega)]; exact h2
  · rw [if_pos (by omega), if_pos (by omega)]; exact h1
theorem cmpK_trans {f g : FundM} {a s : ByteArray} (h : cmpK f g.acc g.asset < 0) (k : cmpK g a s < 0) : cmpK f a s < 0 := by
  unfold cmpK at *
  by_cases h1 : cmpT f.acc g.acc = 0
  · rw [if_neg (by omega)] at h
    have e1 := (cmpT_zero _ _).1 h1
    rw [e1]
    by_cases h2 : cmpT g.acc a = 0
    · rw [if_neg (by omega)] at k ⊢
      exact cmpT_trans h k
    · rw [if_pos h2] at k ⊢
      exact k
  · rw [if_pos h1] at h
    by_cases h2 : cmpT g.acc a = 0
    · have e2 := (cmpT_zero _ _).1 h2
      rw [← e2, if_pos h1]
      exact h
    · rw [if_pos h2] at k
      have := cmpT_trans h k
      rw [if_pos (by omega)]
      exact this
/-- Funds rise. -/
def Rising (l : List FundM) : Prop := l.Pairwise fun f g => cmpK f g.acc g.asset < 0
/-- The keys of a rising list, held against one key: first those below it, then those above. -/
theorem Rising.mono {l : List FundM} (h : Rising l) (a s : ByteArray) {i j : Nat} (hij : i < j) (hj : j < l.length) (hk : cmpK (l.getD j noFund) a s ≤ 0) : cmpK (l.getD i noFund) a s < 0 := by
  have hi : i < l.length := by omega
  have h9 := List.pairwise_iff_getElem.1 h i j hi hj hij
  have e1 : l.getD i noFund = l[i] := by rw [List.getD_eq_getElem?_getD, List.getElem?_eq_getElem hi]; rfl
  have e2 : l.getD j noFund = l[j] := by rw [List.getD_eq_getElem?_getD, List.getElem?_eq_getElem hj]; rfl
  rw [e1]
  rw [e2] at hk
  rcases cmpK_range l[j] a s with h1 | h1 | h1
  · exact cmpK_trans h9 (by omega)
  · obtain ⟨h2, h3⟩ := (cmpK_zero _ _ _).1 h1
    rw [h2, h3] at h9; exact h9
  · omega
def ltK (a s : ByteArray) (f : FundM) : Bool := decide (cmpK f a s < 0)
def gtK (a s : ByteArray) (f : FundM) : Bool := decide (0 < cmpK f a s)
/-- The funds with so much under one key. -/
def newF (a s : ByteArray) (n : Int) : List FundM := if n = 0 then [] else [⟨a, s, n⟩]
def putL (l : List FundM) (a s : ByteArray) (n : Int) : List FundM := l.filter (ltK a s) ++ newF a s n ++ l.filter (gtK a s)
/-- What one key has. -/
def amtOf : List FundM → ByteArray → ByteArray → Int
  | [], _, _ => 0
  | f :: l, a, s => if cmpK f a s = 0 then f.amt else amtOf l a s
theorem amtOf_none {l : List FundM} {a s : ByteArray} (h : ∀ j, j < l.length → cmpK (l.getD j noFund) a s ≠ 0) : amtOf l a s = 0 := by
  induction l with
  | nil => rfl
  | cons f l ih =>
    unfold amtOf
    have h0 : cmpK f a s ≠ 0 := h 0 (by simp)
    rw [if_neg h0]
    exact ih (fun j hj => h (j + 1) (by simp; omega))
theorem amtOf_at {l : List FundM} {a s : ByteArray} {j : Nat} (hj : j < l.length) (h0 : ∀ i, i < j → cmpK (l.getD i noFund) a s ≠ 0) (h : cmpK (l.getD j noFund) a s = 0) : amtOf l a s = (l.getD j noFund).amt := by
  induction l generalizing j with
  | nil => exact absurd hj (by simp)
  | cons f l ih =>
    unfold amtOf
    cases j with
    | zero => exact if_pos h
    | succ j =>
      have h1 : cmpK f a s ≠ 0 := h0 0 (by omega)
      rw [if_neg h1]
      exact ih (by simpa using hj) (fun i hi => h0 (i + 1) (by omega)) h
/-- Where a key stands, or would stand. -/
structure Stands (l : List FundM) (a s : ByteArray) (i : Nat) : Prop where
  le : i ≤ l.length
  lo : ∀ j, j < i → cmpK (l.getD j noFund) a s < 0
  hi : ∀ j, i ≤ j → j < l.length → 0 ≤ cmpK (l.getD j noFund) a s
theorem filter_none {α : Type} {p : α → Bool} {l : List α} (h : ∀ x ∈ l, p x = false) : l.filter p = [] := by
  rw [List.filter_eq_nil_iff]; intro x hx; rw [h x hx]; exact Bool.false_ne_true
theorem filter_all {α : Type} {p : α → Bool} {l : List α} (h : ∀ x ∈ l, p x = true) : l.filter p = l := List.filter_eq_self.2 h
theorem take_all {α : Type} {l : List α} {i : Nat} {d : α} {P : α → Prop} (hi : i ≤ l.length) (h : ∀ j, j < i → P (l.getD j d)) : ∀ x ∈ l.take i, P x := by
  intro x hx
  obtain ⟨j, hj, rfl⟩ := List.mem_iff_getElem.1 hx
  rw [List.length_take] at hj
  have := h j (by omega)
  rw [List.getD_eq_getElem?_getD, List.getElem?_eq_getElem (by omega)] at this
  rw [List.getElem_take]; exact this
theorem drop_all {α : Type} {l : List α} {i : Nat} {d : α} {P : α → Prop} (h : ∀ j, i ≤ j → j < l.length → P (l.getD j d)) : ∀ x ∈ l.drop i, P x := by
  intro x hx
  obtain ⟨j, hj, rfl⟩ := List.mem_iff_getElem.1 hx
  rw [List.length_drop] at hj
  have := h (i + j) (by omega) (by omega)
  rw [List.getD_eq_getElem?_getD, List.getElem?_eq_getElem (by omega)] at this
  rw [List.getElem_drop]; exact this
theorem Stands.low {l : List FundM} {a s : ByteArray} {i : Nat} (h : Stands l a s i) : l.filter (ltK a s) = l.take i := by
  have e : l = l.take i ++ l.drop i := (List.take_append_drop i l).symm
  have h1 := take_all (P := fun f => cmpK f a s < 0) h.le h.lo
  have h2 := drop_all (P := fun f => 0 ≤ cmpK f a s) h.hi
  conv => lhs; rw [e]
  rw [List.filter_append, filter_all (fun x hx => by unfold ltK; exact decide_eq_true (h1 x hx)), filter_none (fun x hx => by unfold ltK; exact decide_eq_false (by have := h2 x hx; omega)), List.append_nil]
theorem Stands.high {l : List FundM} {a s : ByteArray} {i : Nat} (h : Stands l a s i) (hn : ∀ j, i ≤ j → j < l.length → cmpK (l.getD j noFund) a s ≠ 0) : l.filter (gtK a s) = l.drop i := by
  have e : l = l.take i ++ l.drop i := (List.take_append_drop i l).symm
  have h1 := take_all (P := fun f => cmpK f a s < 0) h.le h.lo
  have h2 := drop_all (d := noFund) (P := fun f => 0 < cmpK f a s) (fun j hj hl => by have := h.hi j hj hl; have := hn j hj hl; omega)
  conv => lhs; rw [e]
  rw [List.filter_append, filter_none (fun x hx => by unfold gtK; exact decide_eq_false (by have := h1 x hx; omega)), filter_all (fun x hx => by unfold gtK; exact decide_eq_true (h2 x hx)), List.nil_append]
/-- A rising list has each key once. -/
theorem Stands.behind {l : List FundM} {a s : ByteArray} {i : Nat} (h : Stands l a s i) (hr : Rising l) {j : Nat} (hj : i < j) (hl : j < l.length) : 0 < cmpK (l.getD j noFund) a s := by
  have h0 := h.hi i (Nat.le_refl _) (by omega)
  by_cases h1 : 0 < cmpK (l.getD j noFund) a s
  · exact h1
  · have := hr.mono a s hj hl (by omega); omega
theorem Stands.high1 {l : List FundM} {a s : ByteArray} {i : Nat} (h : Stands l a s i) (hr : Rising l) (hi : i < l.length) (hz : cmpK (l.getD i noFund) a s = 0) : l.filter (gtK a s) = l.drop (i + 1) := by
  have e : l = l.take (i + 1) ++ l.drop (i + 1) := (List.take_append_drop (i + 1) l).symm
  have h1 := take_all (l := l) (i := i + 1) (d := noFund) (P := fun f => cmpK f a s ≤ 0) (by omega) (fun j hj => by
    by_cases hji : j = i
    · rw [hji]; omega
    · have := h.lo j (by omega); omega)
  have h2 := drop_all (l := l) (i := i + 1) (d := noFund) (P := fun f => 0 < cmpK f a s) (fun j hj hl => h.behind hr (by omega) hl)
  conv => lhs; rw [e]
  rw [List.filter_append, filter_none (fun x hx => by unfold gtK; exact decide_eq_false (by have := h1 x hx; omega)), filter_all (fun x hx => by unfold gtK; exact decide_eq_true (h2 x hx)), List.nil_append]
theorem Stands.put_new {l : List FundM} {a s : ByteArray} {i : Nat} (h : Stands l a s i) (hr : Rising l) (hn : i = l.length ∨ cmpK (l.getD i noFund) a s ≠ 0) (n : Int) : amtOf l a s = 0 ∧ putL l a s n = l.take i ++ newF a s n ++ l.drop i := by
  have hall : ∀ j, i ≤ j → j < l.length → cmpK (l.getD j noFund) a s ≠ 0 := fun j hj hl => by
    by_cases hji : j = i
    · rcases hn with h1 | h1
      · omega
      · rw [hji]; exact h1
    · have := h.behind hr (show i < j by omega) hl; omega
  refine ⟨amtOf_none (fun j hj => ?_), by unfold putL; rw [h.low, h.high hall]⟩
  by_cases hji : j < i
  · have := h.lo j hji; omega
  · exact hall j (by omega) hj
theorem Stands.put_old {l : List FundM} {a s : ByteArray} {i : Nat} (h : Stands l a s i) (hr : Rising l) (hi : i < l.length) (hz : cmpK (l.getD i noFund) a s = 0) (n : Int) : amtOf l a s = (l.getD i noFund).amt ∧ putL l a s n = l.take i ++ newF a s n ++ l.drop (i + 1) :=
  ⟨amtOf_at hi (fun j hj => by have := h.lo j hj; omega) hz, by unfold putL; rw [h.low, h.high1 hr hi hz]⟩

/-- How much there is of an asset; of all. -/
def part (s : ByteArray) (f : FundM) : Int := if f.asset = s then f.amt else 0
def totalL (l : List FundM) (s : ByteArray) : Int := (l.map (part s)).sum
def sumL (l : List FundM) : Int := (l.map FundM.amt).sum
def inL (s : ByteArray) (l : List ByteArray) : Bool := l.any fun x => decide (x = s)
theorem inL_iff (s : ByteArray) (l : List ByteArray) : inL s l = true ↔ s ∈ l := by
  unfold inL
  rw [List.any_eq_true]
  exact ⟨fun ⟨x, h1, h2⟩ => by have := of_decide_eq_true h2; rw [← this]; exact h1, fun h => ⟨s, h, decide_eq_true rfl⟩⟩
theorem inL_told (s : ByteArray) (l : List ByteArray) : told (s ∈ l) = inL s l := by
  cases h : inL s l
  · exact told_no (fun h' => by rw [(inL_iff s l).2 h'] at h; exact Bool.noConfusion h)
  · exact told_yes ((inL_iff s l).1 h)
def assetsL (l : List FundM) : List ByteArray := l.foldl (fun acc f => bif inL f.asset acc then acc else acc ++ [f.asset]) []
theorem assetsL_snoc (l : List FundM) (f : FundM) : assetsL (l ++ [f]) = bif inL f.asset (assetsL l) then assetsL l else assetsL l ++ [f.asset] := by
  unfold assetsL; rw [List.foldl_append]; rfl
theorem totalL_append (l m : List FundM) (s : ByteArray) : totalL (l ++ m) s = totalL l s + totalL m s := by
  unfold totalL; rw [List.map_append, List.sum_append]
theorem sumL_append (l m : List FundM) : sumL (l ++ m) = sumL l + sumL m := by
  unfold sumL; rw [List.map_append, List.sum_append]
def Pos (l : List FundM) : Prop := ∀ f ∈ l, 1 ≤ f.amt
theorem total_bounds {l : List FundM} (h : Pos l) (s : ByteArray) : 0 ≤ totalL l s ∧ totalL l s ≤ sumL l ∧ 0 ≤ sumL l := by
  induction l with
  | nil => simp [totalL, sumL]
  | cons f l ih =>
    have := ih (fun x hx => h x (List.mem_cons_of_mem _ hx))
    have h1 := h f (List.mem_cons_self ..)
    have e1 : totalL (f :: l) s = part s f + totalL l s := by simp [totalL]
    have e2 : sumL (f :: l) = f.amt + sumL l := by simp [sumL]
    have e3 : 0 ≤ part s f ∧ part s f ≤ f.amt := by unfold part; split <;> omega
    rw [e1, e2]; omega
theorem Pos.take {l : List FundM} (h : Pos l) (k : Nat) : Pos (l.take k) := fun f hf => h f (List.mem_of_mem_take hf)
theorem Pos.drop {l : List FundM} (h : Pos l) (k : Nat) : Pos (l.drop k) := fun f hf => h f (List.mem_of_mem_drop hf)
theorem sum_take {l : List FundM} (h : Pos l) (k : Nat) : sumL (l.take k) ≤ sumL l := by
  have e := sumL_append (l.take k) (l.drop k)
  rw [List.take_append_drop] at e
  have := (total_bounds (h.drop k) ByteArray.empty).2.2
  omega
theorem amt_le {l : List FundM} (h : Pos l) {f : FundM} (hf : f ∈ l) : f.amt ≤ sumL l := by
  induction l with
  | nil => exact absurd hf (by simp)
  | cons g l ih =>
    have e2 : sumL (g :: l) = g.amt + sumL l := by simp [sumL]
    have h2 : Pos l := fun x hx => h x (List.mem_cons_of_mem _ hx)
    have := (total_bounds h2 ByteArray.empty).2.2
    have h1 := h g (List.mem_cons_self ..)
    rcases List.mem_cons.1 hf with rfl | hf
    · omega
    · have := ih h2 hf; omega
theorem amtOf_bounds {l : List FundM} (h : Pos l) (a s : ByteArray) : 0 ≤ amtOf l a s ∧ amtOf l a s ≤ sumL l := by
  induction l with
  | nil => simp [amtOf, sumL]
  | cons f l ih =>
    have e2 : sumL (f :: l) = f.amt + sumL l := by simp [sumL]
    have h2 : Pos l := fun x hx => h x (List.mem_cons_of_mem _ hx)
    have h1 := h f (List.mem_cons_self ..)
    have := ih h2
    have := (total_bounds h2 ByteArray.empty).2.2
    unfold amtOf; split <;> omega
/-- A list by one key: what is put there changes the sums by the difference. -/
theorem split_key {l : List FundM} (hr : Rising l) (a s : ByteArray) : ∃ i, Stands l a s i := by
  induction l with
  | nil => exact ⟨0, Nat.le_refl _, fun j hj => absurd hj (by omega), fun j _ hj => absurd hj (by simp)⟩
  | cons f l ih =>
    obtain ⟨i, hi⟩ := ih (List.pairwise_cons.1 hr).2
    by_cases h : cmpK f a s < 0
    · refine ⟨i + 1, by have := hi.le; simp; omega, fun j hj => ?_, fun j hj hl => ?_⟩
      · cases j with
        | zero => exact h
        | succ j => exact hi.lo j (by omega)
      · cases j with
        | zero => omega
        | succ j => exact hi.hi j (by omega) (by simpa using hl)
    · refine ⟨0, Nat.zero_le _, fun j hj => absurd hj (by omega), fun j _ hl => ?_⟩
      cases j with
      | zero => show 0 ≤ cmpK f a s; omega
      | succ j =>
        by_cases h1 : 0 < cmpK ((f :: l).getD (j + 1) noFund) a s
        · omega
        · exact absurd (hr.mono a s (show 0 < j + 1 by omega) hl (by omega)) h
theorem newF_sum (a s : ByteArray) (n : Int) : sumL (newF a s n) = n := by
  unfold newF; split <;> simp [sumL]; omega
theorem newF_total (a s t : ByteArray) (n : Int) : totalL (newF a s n) t = if s = t then n else 0 := by
  unfold newF; split
  · rename_i h; rw [h]; simp [totalL]
  · simp [totalL, part]
theorem part_at (l : List FundM) (i : Nat) (hi : i < l.length) : l = l.take i ++ [l.getD i noFund] ++ l.drop (i + 1) := by
  have e : l.getD i noFund = l[i] := by rw [List.getD_eq_getElem?_getD, List.getElem?_eq_getElem hi]; rfl
  rw [e, ← List.take_succ_eq_append_getElem hi, List.take_append_drop]
theorem put_sums {l : List FundM} (hr : Rising l) (a s : ByteArray) (n : Int) : sumL (putL l a s n) = sumL l - amtOf l a s + n ∧ ∀ t, totalL (putL l a s n) t = totalL l t + (if s = t then n - amtOf l a s else 0) := by
  obtain ⟨i, hi⟩ := split_key hr a s
  by_cases h : i < l.length ∧ cmpK (l.getD i noFund) a s = 0
  · obtain ⟨h1, h2⟩ := h
    obtain ⟨e1, e2⟩ := hi.put_old hr h1 h2 n
    have e3 := part_at l i h1
    obtain ⟨k1, k2⟩ := (cmpK_zero _ _ _).1 h2
    rw [e2]
    constructor
    · have e4 : sumL l = sumL (l.take i) + (l.getD i noFund).amt + sumL (l.drop (i + 1)) := by
        conv => lhs; rw [e3]
        rw [sumL_append, sumL_append]; simp [sumL]
      rw [sumL_append, sumL_append, newF_sum, e1]; omega
    · intro t
      have e4 : totalL l t = totalL (l.take i) t + (if s = t then (l.getD i noFund).amt else 0) + totalL (l.drop (i + 1)) t := by
        conv => lhs; rw [e3]
        rw [totalL_append, totalL_append]
        have : totalL [l.getD i noFund] t = part t (l.getD i noFund) := by simp [totalL]
        rw [this]; unfold part; rw [k2]
      rw [totalL_append, totalL_append, newF_total, e4, e1]
      split <;> omega
  · obtain ⟨e1, e2⟩ := hi.put_new hr (by have := hi.le; by_cases hl : i = l.length; exact .inl hl; exact .inr (fun hz => h ⟨by omega, hz⟩)) n
    have e3 : l = l.take i ++ l.drop i := (List.take_append_drop i l).symm
    rw [e2, e1]
    constructor
    · have e4 : sumL l = sumL (l.take i) + sumL (l.drop i) := by conv => lhs; rw [e3]; rw [sumL_append]
      rw [sumL_append, sumL_append, newF_sum, e4]; omega
    · intro t
      have e4 : totalL l t = totalL (l.take i) t + totalL (l.drop i) t := by conv => lhs; rw [e3]; rw [totalL_append]
      rw [totalL_append, totalL_append, newF_total, e4]
      split <;> omega
theorem filter_len {α : Type} (p q : α → Bool) (l : List α) (h : ∀ x, p x = true → q x = false) : (l.filter p).length + (l.filter q).length ≤ l.length := by
  induction l with
  | nil => simp
  | cons x l ih =>
    cases hp : p x with
    | true => rw [List.filter_cons_of_pos hp, List.filter_cons_of_neg (by rw [h x hp]; exact Bool.false_ne_true)]; simp; omega
    | false =>
      rw [List.filter_cons_of_neg (by rw [hp]; exact Bool.false_ne_true)]
      cases hq : q x with
      | true => rw [List.filter_cons_of_pos hq]; simp; omega
      | false => rw [List.filter_cons_of_neg (by rw [hq]; exact Bool.false_ne_true)]; simp; omega
theorem put_len (l : List FundM) (a s : ByteArray) (n : Int) : (putL l a s n).length ≤ l.length + 1 := by
  have h1 := filter_len (ltK a s) (gtK a s) l (fun x hx => by unfold ltK at hx; unfold gtK; have := of_decide_eq_true hx; exact decide_eq_false (by omega))
  have h2 : (newF a s n).length ≤ 1 := by unfold newF; split <;> simp
  unfold putL; rw [List.length_append, List.length_append]; omega
theorem put_mem {l : List FundM} {a s : ByteArray} {n : Int} {f : FundM} (h : f ∈ putL l a s n) : (f ∈ l ∧ cmpK f a s ≠ 0) ∨ (f = ⟨a, s, n⟩ ∧ n ≠ 0) := by
  unfold putL at h
  rw [List.mem_append, List.mem_append] at h
  rcases h with (h | h) | h
  · have h9 := List.mem_filter.1 h
    have := of_decide_eq_true h9.2
    exact .inl ⟨h9.1, by omega⟩
  · unfold newF at h
    split at h
    · exact absurd h (by simp)
    · exact .inr ⟨by simpa using h, by assumption⟩
  · have h9 := List.mem_filter.1 h
    have := of_decide_eq_true h9.2
    exact .inl ⟨h9.1, by omega⟩
theorem put_pos {l : List FundM} (h : Pos l) (a s : ByteArray) (n : Int) (hn : 0 ≤ n) : Pos (putL l a s n) := by
  intro f hf
  rcases put_mem hf with h1 | ⟨rfl, h1⟩
  · exact h f h1.1
  · show 1 ≤ n; omega
theorem put_rising {l : List FundM} (hr : Rising l) (a s : ByteArray) (n : Int) : Rising (putL l a s n) := by
  unfold putL Rising
  have hnew : ∀ f ∈ newF a s n, f.acc = a ∧ f.asset = s := by
    intro f hf
    unfold newF at hf
    split at hf
    · exact absurd hf (by simp)
    · have := List.mem_singleton.1 hf; rw [this]; exact ⟨rfl, rfl⟩
  rw [List.pairwise_append, List.pairwise_append]
  refine ⟨⟨hr.filter _, ?_, fun x hx y hy => ?_⟩, hr.filter _, fun x hx y hy => ?_⟩
  · unfold newF; split <;> simp
  · obtain ⟨e1, e2⟩ := hnew y hy
    rw [e1, e2]
    exact of_decide_eq_true (List.mem_filter.1 hx).2
  · have hy' : 0 < cmpK y a s := of_decide_eq_true (List.mem_filter.1 hy).2
    have hy2 : cmpK ⟨a, s, 0⟩ y.acc y.asset < 0 := by have := cmpK_back y ⟨a, s, 0⟩; rw [this]; show - cmpK y a s < 0; omega
    rcases List.mem_append.1 hx with hx | hx
    · have hx' : cmpK x a s < 0 := of_decide_eq_true (List.mem_filter.1 hx).2
      exact cmpK_trans (g := ⟨a, s, 0⟩) hx' hy2
    · obtain ⟨e1, e2⟩ := hnew x hx
      unfold cmpK at hy2 ⊢
      rw [e1, e2]
      exact hy2

end Go.Proofs.Ytiepkablapjpmaa
