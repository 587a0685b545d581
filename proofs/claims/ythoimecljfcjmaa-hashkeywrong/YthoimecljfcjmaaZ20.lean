/-
  The statements' locks and keys by numbers, and a swap's cells in a block.
-/
import Derived.Test.YthoimecljfcjmaaZ00
import Derived.Test.YthoimecljfcjmaaRef
import Derived.Test.YthoimecljfcjmaaZ17
import Derived.Test.YthoimecljfcjmaaZ09
import Derived.Test.YthoimecljfcjmaaSpMk
import Derived.Test.YthoimecljfcjmaaHold
namespace Go.Proofs.Ythoimecljfcjmaa
open Go.RowKit

def secretB (k : Nat) : List UInt8 := [115, 101, 99, 114, 101, 116, UInt8.ofNat (48 + k)]
def seedB (k : Nat) : List UInt8 := [115, 101, 101, 100, UInt8.ofNat (48 + k)]
def lockOf (k : Nat) : ByteArray := ⟨(digest (secretB k)).toArray⟩
def keyOf (i k : Nat) : ByteArray := ⟨(publicOf (seedB i) k).toArray⟩
def locksL (m : Nat) : List ByteArray := (List.range m).map lockOf
def keysL (i m : Nat) : List ByteArray := (List.range m).map (keyOf i)
def withKeys (P : List PartyM) (m : Nat) : List PartyM := P.mapIdx fun i p => ⟨p.acc, keysL i m⟩
theorem locksL_succ (m : Nat) : locksL (m + 1) = locksL m ++ [lockOf m] := by unfold locksL; rw [List.range_succ, List.map_append]; rfl
theorem keysL_succ (i m : Nat) : keysL i (m + 1) = keysL i m ++ [keyOf i m] := by unfold keysL; rw [List.range_succ, List.map_append]; rfl
theorem locksL_len (m : Nat) : (locksL m).length = m := by simp [locksL]
theorem keysL_len (i m : Nat) : (keysL i m).length = m := by simp [keysL]
theorem lockOf_size (k : Nat) : (lockOf k).size = 32 := by unfold lockOf; rw [mk_size, digest_length]
theorem short_len16 (l : List UInt8) : (short l).length = 16 := by unfold short; rw [List.length_take, digest_length]; rfl
theorem keyOf_size (i k : Nat) : (keyOf i k).size = 16 := by unfold keyOf; rw [mk_size]; exact short_len16 _

theorem secret_sum (k : Nat) (hk : k < 10) : ∃ d x : ByteArray, x = lockOf k ∧ (∀ w, Calls Try.prog 14 #[.int .i64 (k : Int)] w fun e w' => e = .returned (.string d) ∧ w' = w)
    ∧ ∀ w, Calls Try.prog 25 #[.string d] w fun e w' => e = .returned (.string x) ∧ Below w.heap.size w w' := by
  obtain ⟨d, hd, hs, H⟩ := secret_ex k hk
  exact ⟨d, _, rfl, H, fun w => (refsum_any d (by omega) w).mono (fun e w' h => ⟨by rw [h.1, hd]; rfl, h.2⟩)⟩
theorem seed_public (i k : Nat) (hi : i < 10) (hk : k ≤ 255) : ∃ d x : ByteArray, x = keyOf i k ∧ (∀ w, Calls Try.prog 15 #[.int .i64 (i : Int)] w fun e w' => e = .returned (.string d) ∧ w' = w)
    ∧ ∀ w, Calls Try.prog 28 #[.string d, .int .i64 (k : Int)] w fun e w' => e = .returned (.string x) ∧ Below w.heap.size w w' := by
  obtain ⟨d, hd, hs, H⟩ := seed_ex i hi
  refine ⟨d, _, rfl, H, fun w => (refpublic_any d k (by omega) hk w).mono (fun e w' h => ?_)⟩
  obtain ⟨x, hx, he, hb⟩ := h
  refine ⟨?_, hb⟩
  rw [he]
  congr 2
  apply ByteArray.ext
  rw [← Array.toList_inj, hx, hd]; rfl

theorem pcells_set (P : List PartyM) (ks : List Value) (h : ks.length = P.length) (i : Nat) (hi : i < P.length) (u : Value) : (pcells P ks).set (i * 2 + 1) u = pcells P (ks.set i u) := by
  unfold pcells
  induction P generalizing ks i with
  | nil => simp at hi
  | cons p P ih =>
    cases ks with
    | nil => simp at h
    | cons k ks =>
      rw [List.zipWith_cons_cons, List.flatten_cons]
      cases i with
      | zero => simp
      | succ i =>
        have h9 := ih ks (by simpa using h) i (by simpa using hi)
        rw [List.set_cons_succ, List.zipWith_cons_cons, List.flatten_cons, ← h9]
        simp [show (i + 1) * 2 + 1 = (i * 2 + 1) + 1 + 1 by omega]
theorem pcells_accs (P Q : List PartyM) (ks : List Value) (h : P.map PartyM.acc = Q.map PartyM.acc) : pcells P ks = pcells Q ks := by
  unfold pcells
  induction P generalizing Q ks with
  | nil =>
    cases Q with
    | nil => rfl
    | cons q Q => simp at h
  | cons p P ih =>
    cases Q with
    | nil => simp at h
    | cons q Q =>
      simp at h
      cases ks with
      | nil => rfl
      | cons k ks => rw [List.zipWith_cons_cons, List.zipWith_cons_cons, List.flatten_cons, List.flatten_cons, ih Q ks h.2, h.1]
theorem withKeys_len (P : List PartyM) (m : Nat) : (withKeys P m).length = P.length := by simp [withKeys]
theorem withKeys_accs (P : List PartyM) (m : Nat) : (withKeys P m).map PartyM.acc = P.map PartyM.acc := by
  apply List.ext_getElem? ; intro i; simp [withKeys, List.getElem?_mapIdx]
  cases P[i]? <;> rfl
theorem withKeys_keys (P : List PartyM) (m j : Nat) (h : j < P.length) : ((withKeys P m).getD j noParty).keys = keysL j m := by
  simp [withKeys, List.getD_eq_getElem?_getD, List.getElem?_mapIdx, List.getElem?_eq_getElem h]
theorem withKeys_acc (P : List PartyM) (m j : Nat) (h : j < P.length) : ((withKeys P m).getD j noParty).acc = (P.getD j noParty).acc := by
  simp [withKeys, List.getD_eq_getElem?_getD, List.getElem?_mapIdx, List.getElem?_eq_getElem h]

theorem sizeSpecK : (Try.prog.info? 27).map (·.size) = some 7 := by kernel_rfl
theorem results_one {fn : Func} {p : Tmp} {ty : TypeId} (h : fn.results = #[.cell p ty]) (tmps : Array Value) (w : World) (g : Nat) (t : TypeId) (cs : Array Value) (fr : Nat × Nat) (d : Array Field)
    (hp : tmps.getD p undef = .pointer (some ⟨g, 0, none⟩)) (hg : w.heap[g]? = some (.cells cs t fr))
    (hu : Try.prog.underlying ty = some (.struct d)) (hi : (Try.prog.info? ty).map (·.size) = some cs.size) :
    (results fn tmps).run Try.prog w = .ok (.agg cs) w := by
  have hp' : tmps[p]?.getD undef = .pointer (some ⟨g, 0, none⟩) := by simpa using hp
  simp [results, h, hp', asAddr, run_loadVar_row w g t ty cs fr (.struct d) hg hu rfl hi]
/-- A struct is loaded whole. -/
theorem wpList_loadS {ops : Array Oper} {rest : List Oper} {o : Oper} {a : Act} {w : World} {Q : Exit → Act → World → Prop} (hgd : o.guard = none) (ty : TypeId) (x : Operand) (ho : o.op = .load ty x)
    (g : Nat) (t : TypeId) (cs : Array Value) (fr : Nat × Nat) (d : Array Field) (hx : a.eval x = .pointer (some ⟨g, 0, none⟩)) (hg : w.heap[g]? = some (.cells cs t fr))
    (hu : Try.prog.underlying ty = some (.struct d)) (hi : (Try.prog.info? ty).map (·.size) = some cs.size)
    (h : wpList Try.prog ops Q rest (a.put o.dst (.agg cs)) w) : wpList Try.prog ops Q (o :: rest) a w :=
  wpList_plain hgd fun _ hK => by
    unfold Oper.wp execOp
    simp only [ho, hx, Instr.loadAt, Instr.sureAddr, Sem.run_bind, Sem.run_pure, Result.andThen_ok, run_loadVar_row w g t ty cs fr (.struct d) hg hu rfl hi]
    exact hK _ _ h
/-- A struct is written whole into its block. -/
theorem wpList_storeS {ops : Array Oper} {rest : List Oper} {o : Oper} {a : Act} {w : World} {Q : Exit → Act → World → Prop} (hgd : o.guard = none) (x y : Operand) (ho : o.op = .store 27 x y)
    (g : Nat) (id i0 : ByteArray) (v1 v2 v3 v4 u1 u2 u3 u4 : Value) (st de s0 d0 : Int) (hx : a.eval x = .pointer (some ⟨g, 0, none⟩)) (hy : a.eval y = .agg (scells id v1 v2 v3 v4 st de)) (hg : SAt w g i0 u1 u2 u3 u4 s0 d0)
    (h1 : v1.oneCell' = true) (h2 : v2.oneCell' = true) (h3 : v3.oneCell' = true) (h4 : v4.oneCell' = true)
    (h : ∀ w1, SAt w1 g id v1 v2 v3 v4 st de → w1.heap.size = w.heap.size → But g w w1 → wpList Try.prog ops Q rest (a.put o.dst undef) w1) : wpList Try.prog ops Q (o :: rest) a w := by
  refine wpList_splice hgd 27 x y ho g 0 (scells id v1 v2 v3 v4 st de) _ hx hy rfl 27 [.string i0, u1, u2, u3, u4, .int .i64 s0, .int .i64 d0] hg sizeSpecK (by simp [scells]) ?_ ?_
  · intro u hu
    simp [scells] at hu
    rcases hu with rfl | rfl | rfl | rfl | rfl | rfl | rfl
    · rfl
    · exact h1
    · exact h2
    · exact h3
    · exact h4
    · rfl
    · rfl
  · intro w1 hc hz hb
    refine h w1 ?_ hz hb
    unfold Cells at hc
    unfold SAt
    rw [hc]; rfl

end Go.Proofs.Ythoimecljfcjmaa

/-
  A slice of bytes that began as a text's bytes, written to.
-/
namespace Go.Proofs.Ythoimecljfcjmaa
open Go.RowKit

/-- The slice at the block g holds the bytes l; they may be written. -/
def ByteW (w : World) (g : Nat) (l : List UInt8) : Prop := g < w.heap.size ∧ (∀ j u, (cb l)[j]? = some u → w.cell? ⟨g, j, none⟩ = some u) ∧ (∀ j, j < l.length → w.frozen? ⟨g, j, none⟩ = false)
theorem ByteW.below {w w' : World} {g : Nat} {l : List UInt8} (h : ByteW w g l) (k : Below w.heap.size w w') : ByteW w' g l :=
  ⟨Nat.lt_of_lt_of_le h.1 k.size, fun j u hj => by rw [k.cell h.1]; exact h.2.1 j u hj, fun j hj => by rw [k.frozen h.1]; exact h.2.2 j hj⟩
theorem ByteW.of_hold {w : World} {B : Nat} {v : Value} {l : List UInt8} (h : Hold w B v l) (hl : 0 < l.length) : ∃ g c, v = .slice (some ⟨g, 0, none⟩) l.length c ∧ B ≤ g ∧ ByteW w g l := by
  obtain ⟨g, c, hv, hB, hc, h1, h2⟩ := h
  have h0 := h1 0 _ (List.getElem?_eq_getElem (by rw [cb_length]; exact hl))
  exact ⟨g, c, hv, hB, World.block_lt_of_cell? w _ h0, h1, fun j hj => (h2 j (by omega)).2⟩
theorem ByteW.get {w : World} {g : Nat} {l : List UInt8} (h : ByteW w g l) (i : Nat) (hi : i < l.length) : w.cell? ⟨g, i, none⟩ = some (.int .u8 (l[i].toNat : Int)) :=
  h.2.1 i _ (by simp [cb, hi])
theorem ByteW.set {w : World} {g : Nat} {l : List UInt8} (h : ByteW w g l) (i : Nat) (hi : i < l.length) (x : UInt8) (n : Int) (hn : n = (x.toNat : Int)) : ByteW (w.setCell ⟨g, i, none⟩ (.int .u8 n)) g (l.set i x) := by
  subst hn
  refine ⟨by simp only [World.setCell, Array.size_modify]; exact h.1, fun j u hj => ?_, fun j hj => ?_⟩
  · by_cases e : i = j
    · subst e
      rw [World.cell?_setCell_same' w _ _ (by rw [h.get i hi]; rfl)]
      simpa [cb, hi] using hj
    · rw [World.cell?_setCell_other w _ _ _ (fun q => e (by injection q))]
      refine h.2.1 j u ?_
      simpa [cb, List.getElem?_set_ne e] using hj
  · rw [World.frozen?_setCell]
    exact h.2.2 j (by simpa using hj)
theorem ByteW.run {w : World} {g : Nat} {l : List UInt8} (h : ByteW w g l) (c : Nat) : (convert 34 9 (.slice (some ⟨g, 0, none⟩) l.length c)).run Try.prog w = .ok (.string ⟨l.toArray⟩) w :=
  run_convert_bytes_back (P := Try.prog) w 34 9 5 ⟨g, 0, none⟩ c l Try.underlying34 Try.underlying5 Try.underlying9 (fun j hj => by
    rw [show (⟨g, 0, none⟩ : Addr).add j = ⟨g, j, none⟩ by unfold Addr.add; split <;> simp_all]
    exact h.2.1 j _ (by simp [cb, hj]))

end Go.Proofs.Ythoimecljfcjmaa
