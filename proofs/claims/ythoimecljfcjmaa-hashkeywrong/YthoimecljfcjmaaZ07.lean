/-
  Swaps as bytes, on plain data.
-/
import Derived.Test.YthoimecljfcjmaaZ06
import Derived.Test.YthoimecljfcjmaaZ01
namespace Go.Proofs.Ythoimecljfcjmaa
open Go.RowKit

/-- How many, and they. -/
def numsB (l : List Int) : List UInt8 := num8 (l.length : Int) ++ l.flatMap num8
def textsB (l : List ByteArray) : List UInt8 := num8 (l.length : Int) ++ l.flatMap (fun t => text8 t.data.toList)
theorem take_flat {α : Type} (f : α → List UInt8) (l : List α) (d : α) (j : Nat) (h : j < l.length) : (l.take (j + 1)).flatMap f = (l.take j).flatMap f ++ f (l.getD j d) := by
  rw [List.take_add_one, List.getElem?_eq_getElem h, List.flatMap_append, List.getD_eq_getElem?_getD, List.getElem?_eq_getElem h]; simp

/-- P4.2: a party, an arc, a swap as bytes. -/
def partyB (p : PartyM) : List UInt8 := text8 p.acc.data.toList ++ textsB p.keys
def arcB (a : ArcM) : List UInt8 := num8 a.src ++ num8 a.dst ++ num8 a.ledger ++ text8 a.asset.data.toList ++ num8 a.amount
def specB (s : SpecM) : List UInt8 := text8 s.id.data.toList ++ num8 (s.parties.length : Int) ++ s.parties.flatMap partyB ++ num8 (s.arcs.length : Int) ++ s.arcs.flatMap arcB ++ numsB s.leaders ++ textsB s.locks ++ num8 s.start ++ num8 s.delta

theorem bytes_of (l : List UInt8) (y : ByteArray) (h : y.data.toList = l) : y = ⟨l.toArray⟩ := by rw [← h]
theorem flat_le {α : Type} (f : α → List UInt8) (l : List α) (m : Nat) (h : ∀ x ∈ l, (f x).length ≤ m) : (l.flatMap f).length ≤ m * l.length := by
  induction l with
  | nil => simp
  | cons x l ih =>
    have h1 := h x (by simp)
    have h2 := ih (fun y hy => h y (by simp [hy]))
    rw [List.flatMap_cons, List.length_append, List.length_cons, Nat.mul_add]; omega
theorem textsB_le (l : List ByteArray) (m : Nat) (h : ∀ j, j < l.length → (l.getD j ByteArray.empty).size ≤ m) : (textsB l).length ≤ 8 + (8 + m) * l.length := by
  unfold textsB
  rw [List.length_append, num8_length]
  have := flat_le (fun t : ByteArray => text8 t.data.toList) l (8 + m) (fun x hx => by
    obtain ⟨j, hj, e⟩ := List.getElem_of_mem hx
    have := h j hj
    rw [List.getD_eq_getElem?_getD, List.getElem?_eq_getElem hj] at this
    rw [text8_length, len_list, ← e]
    exact Nat.add_le_add_left this 8)
  omega
theorem numsB_length (l : List Int) : (numsB l).length = 8 + 8 * l.length := by
  unfold numsB
  rw [List.length_append, num8_length]
  induction l with
  | nil => rfl
  | cons x l ih =>
    rw [List.flatMap_cons, List.length_append, num8_length, List.length_cons]; omega

end Go.Proofs.Ythoimecljfcjmaa

/-
  A swap read of bytes, on plain data.
-/
namespace Go.Proofs.Ythoimecljfcjmaa
open Go.RowKit

/-- So many texts, as long as it is not bad. -/
def textsL (sz : Int) : Nat → (List UInt8 × Bool) → List (List UInt8) × (List UInt8 × Bool)
  | 0, r => ([], r)
  | n + 1, r => if r.2 = true then ([], r) else (txtV r sz :: (textsL sz n (txtS r sz)).1, (textsL sz n (txtS r sz)).2)
theorem textsL_bad (sz : Int) (n : Nat) (r : List UInt8 × Bool) (h : r.2 = true) : textsL sz n r = ([], r) := by
  cases n with
  | zero => rfl
  | succ n => rw [textsL, if_pos h]
theorem textsL_go (sz : Int) (n : Nat) (r : List UInt8 × Bool) (h : r.2 = false) : textsL sz (n + 1) r = (txtV r sz :: (textsL sz n (txtS r sz)).1, (textsL sz n (txtS r sz)).2) := by
  rw [textsL, if_neg (by rw [h]; decide)]
/-- How many, and they. -/
def rdTexts (r : List UInt8 × Bool) (m sz : Int) : List (List UInt8) × (List UInt8 × Bool) := textsL sz (cntV r.1 m).toNat (cntS r m)
theorem cntV_le (l : List UInt8) (m : Int) (h : 0 ≤ m) : cntV l m ≤ m := by unfold cntV; split <;> omega

def mk (l : List UInt8) : ByteArray := ⟨l.toArray⟩
/-- So many parties, as long as it is not bad. -/
def partiesL : Nat → (List UInt8 × Bool) → List PartyM × (List UInt8 × Bool)
  | 0, r => ([], r)
  | n + 1, r => if r.2 = true then ([], r) else
    (⟨mk (txtV r 16), (rdTexts (txtS r 16) 3 16).1.map mk⟩ :: (partiesL n (rdTexts (txtS r 16) 3 16).2).1, (partiesL n (rdTexts (txtS r 16) 3 16).2).2)
theorem partiesL_bad (n : Nat) (r : List UInt8 × Bool) (h : r.2 = true) : partiesL n r = ([], r) := by
  cases n with
  | zero => rfl
  | succ n => rw [partiesL, if_pos h]
theorem partiesL_go (n : Nat) (r : List UInt8 × Bool) (h : r.2 = false) : partiesL (n + 1) r = (⟨mk (txtV r 16), (rdTexts (txtS r 16) 3 16).1.map mk⟩ :: (partiesL n (rdTexts (txtS r 16) 3 16).2).1, (partiesL n (rdTexts (txtS r 16) 3 16).2).2) := by
  rw [partiesL, if_neg (by rw [h]; decide)]

/-- So many arcs, as long as it is not bad. -/
def arcOf (r : List UInt8 × Bool) : ArcM := ⟨numV r.1, numV (numS r).1, numV (numS (numS r)).1, mk (txtV (numS (numS (numS r))) 16), numV (txtS (numS (numS (numS r))) 16).1⟩
def arcS (r : List UInt8 × Bool) : List UInt8 × Bool := numS (txtS (numS (numS (numS r))) 16)
def arcsL : Nat → (List UInt8 × Bool) → List ArcM × (List UInt8 × Bool)
  | 0, r => ([], r)
  | n + 1, r => if r.2 = true then ([], r) else (arcOf r :: (arcsL n (arcS r)).1, (arcsL n (arcS r)).2)
theorem arcsL_bad (n : Nat) (r : List UInt8 × Bool) (h : r.2 = true) : arcsL n r = ([], r) := by
  cases n with
  | zero => rfl
  | succ n => rw [arcsL, if_pos h]
theorem arcsL_go (n : Nat) (r : List UInt8 × Bool) (h : r.2 = false) : arcsL (n + 1) r = (arcOf r :: (arcsL n (arcS r)).1, (arcsL n (arcS r)).2) := by
  rw [arcsL, if_neg (by rw [h]; decide)]
theorem fine_arc (r : List UInt8 × Bool) (h : Fine r) : Fine (arcS r) := fine_num _ (fine_txt _ _ (fine_num _ (fine_num _ (fine_num _ h))))
/-- So many numbers, as long as it is not bad. -/
def numsL : Nat → (List UInt8 × Bool) → List Int × (List UInt8 × Bool)
  | 0, r => ([], r)
  | n + 1, r => if r.2 = true then ([], r) else (numV r.1 :: (numsL n (numS r)).1, (numsL n (numS r)).2)
theorem numsL_bad (n : Nat) (r : List UInt8 × Bool) (h : r.2 = true) : numsL n r = ([], r) := by
  cases n with
  | zero => rfl
  | succ n => rw [numsL, if_pos h]
theorem numsL_go (n : Nat) (r : List UInt8 × Bool) (h : r.2 = false) : numsL (n + 1) r = (numV r.1 :: (numsL n (numS r)).1, (numsL n (numS r)).2) := by
  rw [numsL, if_neg (by rw [h]; decide)]
def acells (a : ArcM) : List Value := [.int .i64 a.src, .int .i64 a.dst, .int .i64 a.ledger, .string a.asset, .int .i64 a.amount]
def pcells (l : List PartyM) (ks : List Value) : List Value := (List.zipWith (fun (p : PartyM) k => [Value.string p.acc, k]) l ks).flatten
theorem pcells_snoc (l : List PartyM) (ks : List Value) (p : PartyM) (k : Value) (h : ks.length = l.length) : pcells (l ++ [p]) (ks ++ [k]) = pcells l ks ++ [Value.string p.acc, k] := by
  unfold pcells; rw [List.zipWith_append h.symm]; simp

/-- So many things, one behind the other, whatever the reader says. -/
def itemsL {α : Type} (f : (List UInt8 × Bool) → α) (g : (List UInt8 × Bool) → (List UInt8 × Bool)) : Nat → (List UInt8 × Bool) → List α
  | 0, _ => []
  | n + 1, r => f r :: itemsL f g n (g r)
def itemsS (g : (List UInt8 × Bool) → (List UInt8 × Bool)) : Nat → (List UInt8 × Bool) → (List UInt8 × Bool)
  | 0, r => r
  | n + 1, r => itemsS g n (g r)
theorem itemsL_length {α : Type} (f : (List UInt8 × Bool) → α) (g : (List UInt8 × Bool) → (List UInt8 × Bool)) (n : Nat) (r : List UInt8 × Bool) : (itemsL f g n r).length = n := by
  induction n generalizing r with
  | zero => rfl
  | succ n ih => rw [itemsL, List.length_cons, ih]
theorem itemsL_snoc {α : Type} (f : (List UInt8 × Bool) → α) (g : (List UInt8 × Bool) → (List UInt8 × Bool)) (n : Nat) (r : List UInt8 × Bool) : itemsL f g (n + 1) r = itemsL f g n r ++ [f (itemsS g n r)] := by
  induction n generalizing r with
  | zero => rfl
  | succ n ih => rw [itemsL, ih]; rfl
theorem itemsS_snoc (g : (List UInt8 × Bool) → (List UInt8 × Bool)) (n : Nat) (r : List UInt8 × Bool) : itemsS g (n + 1) r = g (itemsS g n r) := by
  induction n generalizing r with
  | zero => rfl
  | succ n ih => rw [itemsS, ih]; rfl
theorem itemsS_le (g : (List UInt8 × Bool) → (List UInt8 × Bool)) (h : ∀ r, (g r).1.length ≤ r.1.length) (n : Nat) (r : List UInt8 × Bool) : (itemsS g n r).1.length ≤ r.1.length := by
  induction n generalizing r with
  | zero => exact Nat.le_refl _
  | succ n ih => rw [itemsS]; exact Nat.le_trans (ih _) (h r)
def keysOf (sz : Int) (r : List UInt8 × Bool) : List ByteArray := itemsL (fun r => mk (txtV r sz)) (fun r => txtS r sz) (cntV r.1 3).toNat (cntS r 3)
def keysS (sz : Int) (r : List UInt8 × Bool) : List UInt8 × Bool := itemsS (fun r => txtS r sz) (cntV r.1 3).toNat (cntS r 3)
def partyOf (r : List UInt8 × Bool) : PartyM := ⟨mk (txtV r 16), keysOf 16 (txtS r 16)⟩
def partyS (r : List UInt8 × Bool) : List UInt8 × Bool := keysS 16 (txtS r 16)
theorem keysS_le (sz : Int) (r : List UInt8 × Bool) : (keysS sz r).1.length ≤ r.1.length := Nat.le_trans (itemsS_le _ (fun r => txt_le r sz) _ _) (cnt_le r 3)
theorem partyS_le (r : List UInt8 × Bool) : (partyS r).1.length ≤ r.1.length := Nat.le_trans (keysS_le 16 _) (txt_le r 16)
theorem arcS_le (r : List UInt8 × Bool) : (arcS r).1.length ≤ r.1.length := Nat.le_trans (num_le _) (Nat.le_trans (txt_le _ 16) (Nat.le_trans (num_le _) (Nat.le_trans (num_le _) (num_le _))))

theorem pcells_at (l : List PartyM) (ks : List Value) (h : ks.length = l.length) (j : Nat) (hj : j < l.length) : (pcells l ks)[j * 2]? = some (.string (l.getD j noParty).acc) ∧ (pcells l ks)[j * 2 + 1]? = some (ks.getD j undef) := by
  unfold pcells
  induction l generalizing ks j with
  | nil => simp at hj
  | cons p l ih =>
    cases ks with
    | nil => simp at h
    | cons k ks =>
      rw [List.zipWith_cons_cons, List.flatten_cons]
      cases j with
      | zero => exact ⟨rfl, rfl⟩
      | succ j =>
        have h9 := ih ks (by simpa using h) j (by simpa using hj)
        have e1 : (j + 1) * 2 = 2 + j * 2 := by omega
        have e2 : (j + 1) * 2 + 1 = 2 + (j * 2 + 1) := by omega
        rw [e1, show 2 + j * 2 + 1 = 2 + (j * 2 + 1) by omega, List.getElem?_append_right (by simp), List.getElem?_append_right (by simp)]
        simpa using h9
theorem acells_at (l : List ArcM) (j : Nat) (hj : j < l.length) (i : Nat) (hi : i < 5) : (l.flatMap acells)[j * 5 + i]? = (acells (l.getD j noArc))[i]? := by
  induction l generalizing j with
  | nil => simp at hj
  | cons a l ih =>
    rw [List.flatMap_cons]
    cases j with
    | zero => rw [List.getElem?_append_left (by simp [acells]; omega)]; simp
    | succ j =>
      have h9 := ih j (by simpa using hj)
      rw [show (j + 1) * 5 + i = 5 + (j * 5 + i) by omega, List.getElem?_append_right (by simp [acells])]
      simpa [acells] using h9

end Go.Proofs.Ythoimecljfcjmaa
