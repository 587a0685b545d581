/-
  Books in memory: funds in rows, books as values and in variables; what the calls of chapter 9 make of a book.
-/
import Derived.Test.YtiepkablapjpmaaBkP
import Derived.Test.YtiepkablapjpmaaVarG
import Derived.Test.YtiepkablapjpmaaSpRowP
import Derived.Test.YtiepkablapjpmaaSpRefS
namespace Go.Proofs.Ytiepkablapjpmaa
open Go.RowKit

theorem Try.info37 : (Try.prog.info? 37).map (fun i => (i.zero, i.size, i.bytes)) = some (some (.agg #[.string ⟨#[]⟩, .string ⟨#[]⟩, .int .i64 0]), 3, 40) := by kernel_rfl
theorem sizeFund : (Try.prog.info? 37).map (·.size) = some 3 := by kernel_rfl
theorem sizeBook : (Try.prog.info? 27).map (·.size) = some 5 := by kernel_rfl
theorem sizeText : (Try.prog.info? 9).map (·.size) = some 1 := by kernel_rfl
theorem sizeTexts : (Try.prog.info? 23).map (·.size) = some 1 := by kernel_rfl
theorem sizeFunds : (Try.prog.info? 24).map (·.size) = some 1 := by kernel_rfl
def bzero : Array Value := #[.int .i64 0, .int .i64 0, .slice none 0 0, .slice none 0 0, .slice none 0 0]
theorem zeroBook : (Try.prog.info? 27).map (fun i => (i.zero, i.size)) = some (some (.agg bzero), 5) := by kernel_rfl
theorem zeroFund : (Try.prog.info? 37).map (fun i => (i.zero, i.size)) = some (some (.agg #[.string ⟨#[]⟩, .string ⟨#[]⟩, .int .i64 0]), 3) := by kernel_rfl

def fcells (f : FundM) : List Value := [.string f.acc, .string f.asset, .int .i64 f.amt]
def FundAt (w : World) (b o : Nat) (f : FundM) : Prop := w.cell? ⟨b, o, none⟩ = some (.string f.acc) ∧ w.cell? ⟨b, o + 1, none⟩ = some (.string f.asset) ∧ w.cell? ⟨b, o + 2, none⟩ = some (.int .i64 f.amt)
def Funds (w : World) (a : Option Addr) (l : List FundM) : Prop := ∀ j, j < l.length → ∃ b o, a = some ⟨b, o, none⟩ ∧ FundAt w b (o + j * 3) (l.getD j noFund)
theorem FundAt.below {w w' : World} {b o : Nat} {p : FundM} (h : FundAt w b o p) (hb : Below w.heap.size w w') : FundAt w' b o p := ⟨cell_on hb h.1, cell_on hb h.2.1, cell_on hb h.2.2⟩
theorem Funds.below {w w' : World} {a : Option Addr} {l : List FundM} (h : Funds w a l) (hb : Below w.heap.size w w') : Funds w' a l := fun j hj => by
  obtain ⟨b, o, h1, h2⟩ := h j hj; exact ⟨b, o, h1, h2.below hb⟩
theorem Funds.get {w : World} {b o : Nat} {l : List FundM} (h : Funds w (some ⟨b, o, none⟩) l) (j : Nat) (hj : j < l.length) : FundAt w b (o + j * 3) (l.getD j noFund) := by
  obtain ⟨b', o', h1, h2⟩ := h j hj
  injection h1 with h1; injection h1 with h1 h3
  rw [h1, h3]; exact h2
theorem funds_nil (w : World) (a : Option Addr) : Funds w a [] := fun j hj => absurd hj (by simp)
theorem fcells_len (l : List FundM) : (l.flatMap fcells).length = l.length * 3 := by
  induction l with
  | nil => rfl
  | cons x l ih => rw [List.flatMap_cons, List.length_append, ih]; simp [fcells]; omega
theorem fcells_one (l : List FundM) : ∀ u ∈ l.flatMap fcells, u.oneCell' = true := by
  intro u hu
  obtain ⟨x, _, hx⟩ := List.mem_flatMap.1 hu
  simp [fcells] at hx
  rcases hx with rfl | rfl | rfl <;> rfl
theorem fcells_at : ∀ (l : List FundM) (j : Nat), j < l.length → ∀ i, i < 3 → (l.flatMap fcells)[j * 3 + i]? = (fcells (l.getD j noFund))[i]?
  | [], j, h, _, _ => absurd h (by simp)
  | x :: l, 0, _, i, hi => by
    rw [List.flatMap_cons, List.getElem?_append_left (by simp [fcells]; omega), Nat.zero_mul, Nat.zero_add]; rfl
  | x :: l, j + 1, h, i, hi => by
    rw [List.flatMap_cons, List.getElem?_append_right (by simp [fcells]; omega)]
    have e : (j + 1) * 3 + i - (fcells x).length = j * 3 + i := by simp [fcells]; omega
    rw [e, fcells_at l j (by simpa using h) i hi]; rfl
theorem Funds.cells {w : World} {b o : Nat} {l : List FundM} (h : Funds w (some ⟨b, o, none⟩) l) : ∀ j u, (l.flatMap fcells)[j]? = some u → w.cell? ((⟨b, o, none⟩ : Addr).add j) = some u := by
  intro j u hu
  have hj : j < l.length * 3 := by rw [← fcells_len]; exact (List.getElem?_eq_some_iff.1 hu).1
  obtain ⟨d0, d1, d2⟩ := h.get (j / 3) (by omega)
  rw [Go.WideShapes.add_plain]
  have hc : ∀ i, i < 3 → (l.flatMap fcells)[j / 3 * 3 + i]? = (fcells (l.getD (j / 3) noFund))[i]? := fun i hi => fcells_at l (j / 3) (by omega) i hi
  have : j % 3 = 0 ∨ j % 3 = 1 ∨ j % 3 = 2 := by omega
  rcases this with e | e | e
  · rw [show j = j / 3 * 3 + 0 by omega, hc 0 (by omega)] at hu
    rw [show o + j = o + j / 3 * 3 by omega, d0]; exact hu
  · rw [show j = j / 3 * 3 + 1 by omega, hc 1 (by omega)] at hu
    rw [show o + j = o + j / 3 * 3 + 1 by omega, d1]; exact hu
  · rw [show j = j / 3 * 3 + 2 by omega, hc 2 (by omega)] at hu
    rw [show o + j = o + j / 3 * 3 + 2 by omega, d2]; exact hu
theorem Funds.take {w : World} {a : Option Addr} {l : List FundM} (h : Funds w a l) (k : Nat) : Funds w a (l.take k) := by
  intro j hj
  rw [List.length_take] at hj
  rw [take_getD _ _ _ _ (by omega)]
  exact h j (by omega)
theorem Funds.drop {w : World} {b o : Nat} {l : List FundM} (h : Funds w (some ⟨b, o, none⟩) l) (k : Nat) : Funds w (some ⟨b, o + k * 3, none⟩) (l.drop k) := by
  intro j hj
  rw [List.length_drop] at hj
  refine ⟨b, o + k * 3, rfl, ?_⟩
  have h9 := h.get (k + j) (by omega)
  rw [show o + k * 3 + j * 3 = o + (k + j) * 3 by omega, show (l.drop k).getD j noFund = l.getD (k + j) noFund by rw [List.getD_eq_getElem?_getD, List.getElem?_drop, List.getD_eq_getElem?_getD]]
  exact h9
/-- Funds in a row of a call's own. -/
def OwnF (w : World) (B : Nat) (v : Value) (l : List FundM) : Prop := w.ownsRow B 37 3 v l.length (l.flatMap fcells)
theorem OwnF.below {w w' : World} {B : Nat} {v : Value} {l : List FundM} (h : OwnF w B v l) (k : Below w.heap.size w w') : OwnF w' B v l :=
  World.ownsRow.kept h (below_grown k) (by cases v.ownBlock <;> simp)
theorem OwnF.but {w w' : World} {B g : Nat} {v : Value} {l : List FundM} {cs : Array Value} {t : TypeId} (h : OwnF w B v l) (k : But g w w') (hg : VAt w t g cs) (ht : (37 : TypeId) ≠ t) : OwnF w' B v l :=
  World.ownsRow.kept h k.grown (row_apart h hg ht)
theorem own_nil {w : World} {B : Nat} {e : TypeId} {size : Nat} {a : Option Addr} {n c : Nat} {xs : List Value} (h : w.ownsRow B e size (.slice a n c) n xs) : a = none → c = 0 := by
  rcases h.2 with ⟨h1, _⟩ | ⟨g, cap, cur, h1, _⟩
  · injection h1 with _ _ h3; exact fun _ => h3
  · injection h1 with h1 _ _; intro h2; rw [h1] at h2; cases h2
theorem own_form {w : World} {B : Nat} {e : TypeId} {size : Nat} {a : Option Addr} {n c : Nat} {xs : List Value} (h : w.ownsRow B e size (.slice a n c) n xs) : ∀ ad, a = some ad → ∃ b o, ad = ⟨b, o, none⟩ := by
  rcases h.2 with ⟨h1, _⟩ | ⟨g, cap, cur, h1, _⟩
  · injection h1 with h1 _ h3; intro ad h2; rw [h1] at h2; cases h2
  · injection h1 with h1 _ _; intro ad h2; rw [h1] at h2; cases h2; exact ⟨g, 0, rfl⟩
theorem OwnF.funds {w : World} {B : Nat} {v : Value} {l : List FundM} (h : OwnF w B v l) : ∃ a c, v = .slice a l.length c ∧ l.length ≤ c ∧ c ≤ maxLen ∧ (a = none → c = 0) ∧ Funds w a l ∧ ∀ ad, a = some ad → ∃ b o, ad = ⟨b, o, none⟩ := by
  obtain ⟨a, c, hv, hc, hm, hx⟩ := row_at h
  subst hv
  refine ⟨a, c, rfl, hc, hm, own_nil h, fun j hj => ?_, own_form h⟩
  obtain ⟨g, ha, _, hg⟩ := hx (by omega)
  refine ⟨g, 0, ha, ?_⟩
  rw [Nat.zero_add]
  refine ⟨?_, ?_, ?_⟩
  · have := hg (j * 3 + 0) (by omega); rw [fcells_at l j hj 0 (by omega)] at this; exact this
  · rw [hg (j * 3 + 1) (by omega), fcells_at l j hj 1 (by omega)]; rfl
  · rw [hg (j * 3 + 2) (by omega), fcells_at l j hj 2 (by omega)]; rfl

def bcells (aa fa : Option Addr) (ac fc : Nat) (M : BookM) : Array Value := #[.int .i64 M.number, .int .i64 0, .slice aa M.accs.length ac, .slice fa M.funds.length fc, .slice none 0 0]
/-- What a book leads to. -/
structure BLies (w : World) (aa fa : Option Addr) (ac fc : Nat) (M : BookM) : Prop where
  accs : Strs w aa M.accs.length M.accs
  funds : Funds w fa M.funds
  acap : M.accs.length ≤ ac ∧ ac ≤ maxLen
  fcap : M.funds.length ≤ fc ∧ fc ≤ maxLen
  anil : aa = none → ac = 0
  fnil : fa = none → fc = 0
  fform : ∀ ad, fa = some ad → ∃ b o, ad = ⟨b, o, none⟩
  aform : ∀ ad, aa = some ad → ∃ b o, ad = ⟨b, o, none⟩
/-- The value v is the book M. -/
def BookV (w : World) (v : Value) (M : BookM) : Prop := ∃ aa fa ac fc, v = .agg (bcells aa fa ac fc M) ∧ BLies w aa fa ac fc M
theorem BLies.below {w w' : World} {aa fa : Option Addr} {ac fc : Nat} {M : BookM} (h : BLies w aa fa ac fc M) (hb : Below w.heap.size w w') : BLies w' aa fa ac fc M :=
  ⟨h.accs.below hb, h.funds.below hb, h.acap, h.fcap, h.anil, h.fnil, h.fform, h.aform⟩
theorem BookV.below {w w' : World} {v : Value} {M : BookM} (h : BookV w v M) (hb : Below w.heap.size w w') : BookV w' v M := by
  obtain ⟨aa, fa, ac, fc, h1, h2⟩ := h
  exact ⟨aa, fa, ac, fc, h1, h2.below hb⟩
theorem bcells_one (aa fa : Option Addr) (ac fc : Nat) (M : BookM) : ∀ u ∈ (bcells aa fa ac fc M).toList, u.oneCell' = true := by
  intro u hu
  simp [bcells] at hu
  rcases hu with rfl | rfl | rfl | rfl | rfl <;> rfl
theorem bcells_at {w : World} {g : Nat} {t : TypeId} {aa fa : Option Addr} {ac fc : Nat} {M : BookM} (h : VAt w t g (bcells aa fa ac fc M)) :
    w.cell? ⟨g, 0, none⟩ = some (.int .i64 M.number) ∧ w.cell? ⟨g, 1, none⟩ = some (.int .i64 0) ∧ w.cell? ⟨g, 2, none⟩ = some (.slice aa M.accs.length ac) ∧ w.cell? ⟨g, 3, none⟩ = some (.slice fa M.funds.length fc) ∧ w.cell? ⟨g, 4, none⟩ = some (.slice none 0 0) := by
  refine ⟨?_, ?_, ?_, ?_, ?_⟩ <;> (rw [h.cell]; rfl)

/-- What is known of a book behind so many calls. -/
structure BookOk (M : BookM) (i : Nat) : Prop where
  number : 0 ≤ M.number ∧ M.number ≤ 3
  accs : M.accs.length ≤ 12
  names : ∀ a ∈ M.accs, a.size ≤ 16
  rise : Rising M.funds
  pos : Pos M.funds
  sum : sumL M.funds ≤ (i : Int) * 1125899906842624
  len : M.funds.length ≤ i
  accn : ∀ f ∈ M.funds, f.acc.size ≤ 16
  ass : ∀ f ∈ M.funds, 1 ≤ f.asset.size ∧ f.asset.size ≤ 16
theorem BookOk.more {M : BookM} {i j : Nat} (h : BookOk M i) (hij : i ≤ j) : BookOk M j :=
  ⟨h.number, h.accs, h.names, h.rise, h.pos, by have := h.sum; omega, by have := h.len; omega, h.accn, h.ass⟩
def nameB (s : ByteArray) : Bool := decide (1 ≤ s.size ∧ s.size ≤ 16)
def amountB (n : Int) : Bool := decide (1 ≤ n ∧ n ≤ 1125899906842624)
def putM (M : BookM) (a s : ByteArray) (n : Int) : BookM := ⟨M.number, M.accs, putL M.funds a s n⟩
def roomM (M : BookM) (s : ByteArray) : Bool := inL s (assetsL M.funds) || decide ((assetsL M.funds).length < 4)
/-- P9.1, P9.2. -/
def openE (M : BookM) (a : ByteArray) : Int := bif !nameB a then 1 else bif inL a M.accs then 5 else bif decide (12 ≤ M.accs.length) then 7 else 0
def openM (M : BookM) (a : ByteArray) : BookM := bif decide (openE M a = 0) then ⟨M.number, M.accs ++ [a], M.funds⟩ else M
def giveE (M : BookM) (a s : ByteArray) (n : Int) : Int := bif !(nameB s && amountB n) then 1 else bif !inL a M.accs then 4 else bif !roomM M s then 7 else bif decide (1125899906842624 < totalL M.funds s + n) then 3 else 0
def giveM (M : BookM) (a s : ByteArray) (n : Int) : BookM := bif decide (giveE M a s n = 0) then putM M a s (amtOf M.funds a s + n) else M
def takeE (M : BookM) (a s : ByteArray) (n : Int) : Int := bif !(nameB s && amountB n) then 1 else bif !inL a M.accs then 4 else bif decide (amtOf M.funds a s < n) then 6 else 0
def takeM (M : BookM) (a s : ByteArray) (n : Int) : BookM := bif decide (takeE M a s n = 0) then putM M a s (amtOf M.funds a s - n) else M
def moveE (M : BookM) (a b s : ByteArray) (n : Int) : Int := bif !decide (takeE M a s n = 0) then takeE M a s n else bif !inL b M.accs then 4 else 0
def moveM (M : BookM) (a b s : ByteArray) (n : Int) : BookM := bif decide (moveE M a b s n = 0) then putM (takeM M a s n) b s (amtOf (takeM M a s n).funds b s + n) else M
def balE (M : BookM) (a s : ByteArray) : Int := bif !nameB s then 1 else bif !inL a M.accs then 4 else 0
def balM (M : BookM) (a s : ByteArray) : Int := bif decide (balE M a s = 0) then amtOf M.funds a s else 0
theorem put_ok {M : BookM} {i : Nat} (h : BookOk M i) {a s : ByteArray} {n : Int} (ha : a.size ≤ 16) (hs : 1 ≤ s.size ∧ s.size ≤ 16) (hn : 0 ≤ n) (hb : n ≤ amtOf M.funds a s + 1125899906842624) : BookOk (putM M a s n) (i + 1) := by
  have hsum := (put_sums h.rise a s n).1
  have hl := put_len M.funds a s n
  refine ⟨h.number, h.accs, h.names, put_rising h.rise a s n, put_pos h.pos a s n hn, ?_, ?_, fun f hf => ?_, fun f hf => ?_⟩
  · show sumL (putL M.funds a s n) ≤ _
    rw [hsum]; have := h.sum; omega
  · show (putL M.funds a s n).length ≤ _
    have := h.len; omega
  · rcases put_mem hf with h1 | ⟨rfl, _⟩
    · exact h.accn f h1.1
    · exact ha
  · rcases put_mem hf with h1 | ⟨rfl, _⟩
    · exact h.ass f h1.1
    · exact hs
theorem nameB_iff {s : ByteArray} : nameB s = true ↔ 1 ≤ s.size ∧ s.size ≤ 16 := by unfold nameB; exact decide_eq_true_iff
theorem amountB_iff {n : Int} : amountB n = true ↔ 1 ≤ n ∧ n ≤ 1125899906842624 := by unfold amountB; exact decide_eq_true_iff
theorem giveE_zero {M : BookM} {a s : ByteArray} {n : Int} (h : giveE M a s n = 0) : (1 ≤ s.size ∧ s.size ≤ 16) ∧ (1 ≤ n ∧ n ≤ 1125899906842624) ∧ a ∈ M.accs ∧ roomM M s = true ∧ totalL M.funds s + n ≤ 1125899906842624 := by
  unfold giveE at h
  cases h1 : nameB s with
  | false => rw [h1] at h; exact absurd h (by simp)
  | true =>
    cases h2 : amountB n with
    | false => rw [h1, h2] at h; exact absurd h (by simp)
    | true =>
      cases h3 : inL a M.accs with
      | false => rw [h1, h2, h3] at h; exact absurd h (by simp)
      | true =>
        cases h4 : roomM M s with
        | false => rw [h1, h2, h3, h4] at h; exact absurd h (by simp)
        | true =>
          cases h5 : decide (1125899906842624 < totalL M.funds s + n) with
          | true => rw [h1, h2, h3, h4, h5] at h; exact absurd h (by simp)
          | false => exact ⟨nameB_iff.1 h1, amountB_iff.1 h2, (inL_iff _ _).1 h3, rfl, by have := of_decide_eq_false h5; omega⟩
theorem takeE_zero {M : BookM} {a s : ByteArray} {n : Int} (h : takeE M a s n = 0) : (1 ≤ s.size ∧ s.size ≤ 16) ∧ (1 ≤ n ∧ n ≤ 1125899906842624) ∧ a ∈ M.accs ∧ n ≤ amtOf M.funds a s := by
  unfold takeE at h
  cases h1 : nameB s with
  | false => rw [h1] at h; exact absurd h (by simp)
  | true =>
    cases h2 : amountB n with
    | false => rw [h1, h2] at h; exact absurd h (by simp)
    | true =>
      cases h3 : inL a M.accs with
      | false => rw [h1, h2, h3] at h; exact absurd h (by simp)
      | true =>
        cases h5 : decide (amtOf M.funds a s < n) with
        | true => rw [h1, h2, h3, h5] at h; exact absurd h (by simp)
        | false => exact ⟨nameB_iff.1 h1, amountB_iff.1 h2, (inL_iff _ _).1 h3, by have := of_decide_eq_false h5; omega⟩
theorem moveE_zero {M : BookM} {a b s : ByteArray} {n : Int} (h : moveE M a b s n = 0) : takeE M a s n = 0 ∧ b ∈ M.accs := by
  unfold moveE at h
  cases h1 : decide (takeE M a s n = 0) with
  | false => rw [h1] at h; have := of_decide_eq_false h1; exact absurd h this
  | true =>
    cases h2 : inL b M.accs with
    | false => rw [h1, h2] at h; exact absurd h (by simp)
    | true => exact ⟨of_decide_eq_true h1, (inL_iff _ _).1 h2⟩
theorem openE_zero {M : BookM} {a : ByteArray} (h : openE M a = 0) : (1 ≤ a.size ∧ a.size ≤ 16) ∧ a ∉ M.accs ∧ M.accs.length < 12 := by
  unfold openE at h
  cases h1 : nameB a with
  | false => rw [h1] at h; exact absurd h (by simp)
  | true =>
    cases h3 : inL a M.accs with
    | true => rw [h1, h3] at h; exact absurd h (by simp)
    | false =>
      cases h5 : decide (12 ≤ M.accs.length) with
      | true => rw [h1, h3, h5] at h; exact absurd h (by simp)
      | false => exact ⟨nameB_iff.1 h1, fun h' => by rw [(inL_iff _ _).2 h'] at h3; exact Bool.noConfusion h3, by have := of_decide_eq_false h5; omega⟩
theorem give_ok {M : BookM} {i : Nat} (h : BookOk M i) (a s : ByteArray) (n : Int) : BookOk (giveM M a s n) (i + 1) := by
  unfold giveM
  cases h1 : decide (giveE M a s n = 0) with
  | false => exact h.more (by omega)
  | true =>
    obtain ⟨h2, h3, h4, _⟩ := giveE_zero (of_decide_eq_true h1)
    have := (amtOf_bounds h.pos a s).1
    exact put_ok h (h.names a h4) h2 (by omega) (by omega)
theorem take_ok {M : BookM} {i : Nat} (h : BookOk M i) (a s : ByteArray) (n : Int) : BookOk (takeM M a s n) (i + 1) := by
  unfold takeM
  cases h1 : decide (takeE M a s n = 0) with
  | false => exact h.more (by omega)
  | true =>
    obtain ⟨h2, h3, h4, h5⟩ := takeE_zero (of_decide_eq_true h1)
    exact put_ok h (h.names a h4) h2 (by omega) (by omega)
theorem take_accs (M : BookM) (a s : ByteArray) (n : Int) : (takeM M a s n).accs = M.accs ∧ (takeM M a s n).number = M.number := by
  unfold takeM
  cases decide (takeE M a s n = 0) <;> exact ⟨rfl, rfl⟩
theorem move_ok {M : BookM} {i : Nat} (h : BookOk M i) (a b s : ByteArray) (n : Int) : BookOk (moveM M a b s n) (i + 2) := by
  unfold moveM
  cases h1 : decide (moveE M a b s n = 0) with
  | false => exact h.more (by omega)
  | true =>
    obtain ⟨h2, h3⟩ := moveE_zero (of_decide_eq_true h1)
    obtain ⟨h4, h5, _, _⟩ := takeE_zero h2
    have ht := take_ok h a s n
    have := (amtOf_bounds ht.pos b s).1
    exact put_ok ht (h.names b h3) h4 (by omega) (by omega)
theorem open_ok {M : BookM} {i : Nat} (h : BookOk M i) (a : ByteArray) : BookOk (openM M a) i := by
  unfold openM
  cases h1 : decide (openE M a = 0) with
  | false => exact h
  | true =>
    obtain ⟨h2, _, h4⟩ := openE_zero (of_decide_eq_true h1)
    refine ⟨h.number, ?_, fun x hx => ?_, h.rise, h.pos, h.sum, h.len, h.accn, h.ass⟩
    · show (M.accs ++ [a]).length ≤ 12
      rw [List.length_append]; simp; omega
    · rcases List.mem_append.1 hx with hx | hx
      · exact h.names x hx
      · rw [List.mem_singleton.1 hx]; exact h2.2
def newM (n : Int) : BookM := ⟨min (max n 0) 3, [], []⟩
theorem new_ok (n : Int) : BookOk (newM n) 0 := by
  refine ⟨⟨?_, ?_⟩, by simp [newM], fun a ha => absurd ha (by simp [newM]), List.Pairwise.nil, fun f hf => absurd hf (by simp [newM]), by simp [newM, sumL], by simp [newM], fun f hf => absurd hf (by simp [newM]), fun f hf => absurd hf (by simp [newM])⟩
  · show 0 ≤ min (max n 0) 3; omega
  · show min (max n 0) 3 ≤ 3; omega

end Go.Proofs.Ytiepkablapjpmaa
