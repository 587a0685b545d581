/-
  Chapter 5's own example (awake).
-/
import Derived.Test.YthoimecljfcjmaaZ39
import Derived.Test.YthoimecljfcjmaaZ26
import Derived.Test.YthoimecljfcjmaaZ36
import Derived.Test.YthoimecljfcjmaaZ43
import Derived.Test.YthoimecljfcjmaaZ10
import Derived.Test.YthoimecljfcjmaaNumV
namespace Go.Proofs.Ythoimecljfcjmaa
open Go.RowKit


def garcB (A : List ArcM) (a b : Int) : Bool := A.any fun x => x.src == a && x.dst == b
def stepB (n : Nat) (A : List ArcM) (l : List Int) (i : Nat) : Bool := decide (0 ≤ l.getD i 0) && decide (l.getD i 0 < (n : Int)) && !(l.take i).contains (l.getD i 0) && (i == 0 || garcB A (l.getD (i - 1) 0) (l.getD i 0))
/-- Path, to be reckoned. -/
def pathB (n : Nat) (A : List ArcM) (l : List Int) : Bool := decide (1 ≤ l.length) && (List.range l.length).all (stepB n A l)
theorem garcB_iff (A : List ArcM) (a b : Int) : garcB A a b = true ↔ arcM A a b := by
  unfold garcB arcM
  rw [List.any_eq_true]
  constructor
  · rintro ⟨x, hx, h⟩
    obtain ⟨j, hj, rfl⟩ := List.mem_iff_getElem.1 hx
    rw [Bool.and_eq_true, beq_iff_eq, beq_iff_eq] at h
    exact ⟨j, hj, by rw [List.getD_eq_getElem?_getD, List.getElem?_eq_getElem hj]; exact h⟩
  · rintro ⟨j, hj, h⟩
    refine ⟨A.getD j noArc, getD_mem A j noArc hj, ?_⟩
    rw [Bool.and_eq_true, beq_iff_eq, beq_iff_eq]; exact h
theorem stepB_iff {s : SpecM} {l : List Int} {i : Nat} (hi : i < l.length) : stepB s.parties.length s.arcs l i = true ↔ stepOk s l i := by
  unfold stepB stepOk
  simp only [Bool.and_eq_true, decide_eq_true_eq, Bool.not_eq_true', Bool.or_eq_true, beq_iff_eq, garcB_iff, ← Bool.not_eq_true, List.contains_iff_mem, mem_take (Nat.le_of_lt hi)]
  constructor
  · rintro ⟨⟨h1, h2⟩, h3⟩
    exact ⟨h1, fun k hk e => h2 ⟨k, hk, e⟩, fun h0 => h3.resolve_left (by omega)⟩
  · rintro ⟨h1, h2, h3⟩
    refine ⟨⟨h1, fun ⟨k, hk, e⟩ => h2 k hk e⟩, ?_⟩
    by_cases h0 : i = 0
    · exact .inl h0
    · exact .inr (h3 (by omega))
theorem path_reckoned {s : SpecM} (h : specOk s) (l : List Int) : told (pathOk s l) = pathB s.parties.length s.arcs l := by
  rw [Bool.eq_iff_iff, told_iff]
  unfold pathOk pathB
  rw [Bool.and_eq_true, decide_eq_true_eq, List.all_eq_true]
  constructor
  · rintro ⟨_, h1, h2⟩
    exact ⟨h1, fun i hi => (stepB_iff (List.mem_range.1 hi)).2 (h2 i (List.mem_range.1 hi))⟩
  · rintro ⟨h1, h2⟩
    exact ⟨h, h1, fun i hi => (stepB_iff hi).1 (h2 i (List.mem_range.2 hi))⟩
theorem valid_reckoned {s : SpecM} (h : specOk s) : validM s = (strongP s.parties.length s.arcs && fbP s.parties.length s.arcs s.leaders) := by
  unfold validM strM fbkM
  rw [told_yes h]; rfl
theorem strong_reckoned {s : SpecM} (h : specOk s) : strM s = strongP s.parties.length s.arcs := by
  unfold strM
  rw [told_yes h]; rfl
theorem fb_reckoned {s : SpecM} (h : specOk s) : fbkM s = fbP s.parties.length s.arcs s.leaders := by
  unfold fbkM
  rw [told_yes h]; rfl
theorem valid_bad {s : SpecM} (h : ¬ specOk s) : validM s = false := by
  unfold validM strM
  rw [told_no h]; rfl
theorem strong_bad {s : SpecM} (h : ¬ specOk s) : strM s = false := by
  unfold strM
  rw [told_no h]; rfl
theorem noSpec_bad5 : ¬ specOk noSpec := fun h => by have : 1 ≤ (0 : Nat) := h.1.1; omega
theorem ring_np5 (n : Nat) (st de : Int) : (ringM n st de).parties.length = n := by
  show (withKeys (accs n) 1).length = n
  rw [withKeys_len, accs_len]
theorem valid_none (w : World) : Calls Try.prog 19 #[.agg #[.string ⟨#[]⟩, .slice none 0 0, .slice none 0 0, .slice none 0 0, .slice none 0 0, .int .i64 0, .int .i64 0]] w fun e w' => e = .returned (.bool false) ∧ Below w.heap.size w w' := by
  have h := pvalid_any (no_spec w)
  rw [valid_bad noSpec_bad5] at h
  exact h
/-- Numbers written out. -/
theorem lit_ints {w : World} {g : Nat} {l : List Int} {t : TypeId} (h : w.heap[g]? = some (.cells (l.map (Value.int .i64)).toArray t (0, 0))) (hn : l.length ≤ 1000) (hl : ∀ x ∈ l, 0 ≤ x ∧ x < 1000) : Ints w (some ⟨g, 0, none⟩) l.length l := by
  refine ⟨rfl, by unfold maxLen; omega, fun j hj => (by have := hl _ (getD_mem l j 0 hj); omega), fun j hj => ⟨g, 0, rfl, ?_⟩⟩
  rw [Nat.zero_add, cell_of_row w g j _ t (0, 0) h, List.getElem?_toArray, List.getElem?_map, List.getElem?_eq_getElem hj, List.getD_eq_getElem?_getD, List.getElem?_eq_getElem hj]; rfl

end Go.Proofs.Ythoimecljfcjmaa

/-
  A key in a variable whose rows are a call's own, one thing of it turned.
-/
namespace Go.Proofs.Ythoimecljfcjmaa
open Go.RowKit

theorem num_seedsW {S : SpecM} (h : NumSpec S) : BySeeds S := by
  have hok := h.ok
  obtain ⟨n, A, L, st, de, rfl, _⟩ := h
  refine ⟨hok, fun i hi k hk => ?_, fun k hk => locksL_get _ _ hk⟩
  have hi' : i < (accs n).length := by have h9 : i < (withKeys (accs n) L.length).length := hi; rw [withKeys_len] at h9; exact h9
  show ((withKeys (accs n) L.length).getD i noParty).keys.getD k ByteArray.empty = _
  rw [withKeys_keys _ _ _ hi']
  exact keysL_get _ _ _ hk
theorem ent_someW {n : Nat} {A : List ArcM} (h : RingIn n A) (i : Nat) (hi : i < n) : (entL A (i : Int) A.length).length ≠ 0 := by
  obtain ⟨x, hx, _, h2⟩ := h ((i + n - 1) % n) (Nat.mod_lt _ (by omega))
  obtain ⟨j, hj, rfl⟩ := List.mem_iff_getElem.1 hx
  have e : ((i + n - 1) % n + 1) % n = i := by
    rw [Nat.mod_add_mod, show i + n - 1 + 1 = i + n by omega, Nat.add_mod_right, Nat.mod_eq_of_lt hi]
  rw [e] at h2
  have hm : (j : Int) ∈ entL A (i : Int) A.length := by
    unfold entL
    refine List.mem_map.2 ⟨j, List.mem_filter.2 ⟨List.mem_range.2 hj, ?_⟩, rfl⟩
    rw [List.getD_eq_getElem?_getD, List.getElem?_eq_getElem hj]
    show (A[j].dst == (i : Int)) = true
    rw [h2]; exact beq_self_eq_true _
  have := List.length_pos_of_mem hm
  omega
theorem getD_allW {α : Type} (p : α → Prop) (l : List α) (d : α) (h : ∀ x ∈ l, p x) (j : Nat) (hj : j < l.length) : p (l.getD j d) := by
  rw [List.getD_eq_getElem?_getD, List.getElem?_eq_getElem hj]
  exact h _ (List.getElem_mem hj)
theorem bgR {w w' : World} {row : Option Nat} (h : Below w.heap.size w w') : w.grownBy w' row := ⟨h.os, h.tape, h.output, h.size, fun k hk _ => h.block k hk⟩
theorem grownW {a b c : World} {row : Option Nat} (h : a.grownBy b row) (k : b.grownBy c row) : a.grownBy c row :=
  ⟨k.os.trans h.os, k.tape.trans h.tape, k.output.trans h.output, Nat.le_trans h.size k.size, fun i hi hne => (k.block i (Nat.lt_of_lt_of_le hi h.size) hne).trans (h.block i hi hne)⟩
theorem own_form {w : World} {B : Nat} {e : TypeId} {size : Nat} {v : Value} {n : Nat} {xs : List Value} (h : w.ownsRow B e size v n xs) (hn : 0 < n) : ∃ b c, v = .slice (some ⟨b, 0, none⟩) n c ∧ n ≤ c ∧ c ≤ maxLen := by
  rcases h.2 with ⟨_, h0⟩ | ⟨g, cap, cur, hv, _, _, h1, h2, _⟩
  · omega
  · exact ⟨g, cap, hv, h1, h2⟩
def kcells (K : HkM) (up us : Value) : Array Value := #[.int .i64 K.lock, .string K.secret, up, us]
structure KOwn (w : World) (g G : Nat) (up us : Value) (K : HkM) : Prop where
  hv : HvAt w g (kcells K up us)
  pa : OwnI w G up K.path
  si : OwnS w G us K.sigs
theorem HvAt.set {w : World} {g i : Nat} {l : List Value} (h : HvAt w g l.toArray) (v : Value) : HvAt (w.setCell ⟨g, i, none⟩ v) g (l.set i v).toArray := by
  unfold HvAt at *
  rw [setCell_eq_setRow w g i _ _ (0, 0) _ h, setRow_heap w g _ _ _ (0, 0) h]
  simp
theorem hv_apart {w : World} {g : Nat} {cs : Array Value} (h : HvAt w g cs) {v : Value} {B : Nat} {e : TypeId} {size n : Nat} {xs : List Value} (k : w.ownsRow B e size v n xs) (he : e ≠ 31) : some g ≠ v.ownBlock := by
  rcases row_apart k h he with h1 | h1
  · rw [h1]; simp
  · exact fun e => h1 e.symm
theorem sv_apartK {w : World} {g : Nat} {cs : Array Value} (h : SvAt w g cs) {v : Value} {B : Nat} {e : TypeId} {size n : Nat} {xs : List Value} (k : w.ownsRow B e size v n xs) (he : e ≠ 27) : some g ≠ v.ownBlock := by
  rcases row_apart k h he with h1 | h1
  · rw [h1]; simp
  · exact fun e => h1 e.symm
theorem HvAt.grown {w w' : World} {g : Nat} {row : Option Nat} {cs : Array Value} (h : HvAt w g cs) (hb : w.grownBy w' row) (hg : some g ≠ row) : HvAt w' g cs := by
  unfold HvAt at *
  rw [hb.block g (Array.getElem?_eq_some_iff.1 h).1 hg]; exact h
/-- What each way of HashkeyWrong comes to. -/
def WrongK (S : SpecM) (arc : Int) (gs gk B : Nat) (cs : Array Value) (w1 : World) (sure : Bool) (wx : World) : Prop := ∃ K pa sa pc sc, HvAt wx gk (hcells pa sa pc sc K) ∧ HkL wx pa sa pc sc K ∧ K.path.length ≤ 100 ∧ (∀ j, j < K.sigs.length → (K.sigs.getD j ByteArray.empty).size ≤ 1000) ∧ K.secret.size ≤ 1000000 ∧ (sure = true → ¬ hkOpens S arc K) ∧ SvAt wx gs cs ∧ Below B w1 wx
theorem KOwn.wrong {w w1 : World} {gs gk B G : Nat} {cs : Array Value} {up us : Value} {K : HkM} {S : SpecM} {arc : Int} {sure : Bool} (h : KOwn w gk G up us K) (hs : HkSane K) (hp : K.path.length ≤ 100) (hn : sure = true → ¬ hkOpens S arc K) (hv : SvAt w gs cs) (hb : Below B w1 w) : WrongK S arc gs gk B cs w1 sure w := by
  have hO : HkO w G (.agg (kcells K up us)) K := ⟨up, us, rfl, h.pa, h.si⟩
  obtain ⟨pa, sa, pc, sc, he⟩ := hO.cells hs
  rw [he] at hO
  have h4 := h.hv
  injection he with he
  rw [he] at h4
  exact ⟨K, pa, sa, pc, sc, h4, hO.lies hs, hp, hs.si, by have := hs.secret; omega, hn, hv, hb⟩
theorem KOwn.re {w w' : World} {g G : Nat} {up us : Value} {K : HkM} (h : KOwn w g G up us K) (b : But g w w') (lock : Int) (secret : ByteArray) (hv : HvAt w' g (kcells ⟨lock, secret, K.path, K.sigs⟩ up us)) : KOwn w' g G up us ⟨lock, secret, K.path, K.sigs⟩ :=
  ⟨hv, World.ownsRow.kept h.pa b.grown (row_apart h.pa h.hv (by decide)), World.ownsRow.kept h.si b.grown (row_apart h.si h.hv (by decide))⟩
theorem KOwn.sig {w : World} {g G b c n : Nat} {up : Value} {K : HkM} (h : KOwn w g G up (.slice (some ⟨b, 0, none⟩) n c) K) (x : ByteArray) : KOwn (w.setCell ⟨b, 0, none⟩ (.string x)) g G up (.slice (some ⟨b, 0, none⟩) n c) ⟨K.lock, K.secret, K.path, K.sigs.set 0 x⟩ := by
  have hr := h.si
  unfold OwnS at hr
  obtain ⟨_, _, he⟩ := row_slice hr
  simp only [Value.slice.injEq] at he
  obtain ⟨_, hn, _⟩ := he
  rw [← hn] at hr
  obtain ⟨k1, k2⟩ := World.ownsRow.stored hr 0 (.string x)
  refine ⟨h.hv.grown k2 (by have := hv_apart h.hv hr (by decide); exact this), World.ownsRow.kept h.pa k2 (rows_apart h.pa hr (by decide)), ?_⟩
  unfold OwnS
  rw [List.length_set, List.map_set, ← hn]
  exact k1
theorem KOwn.way {w : World} {g G b c n : Nat} {us : Value} {K : HkM} (h : KOwn w g G (.slice (some ⟨b, 0, none⟩) n c) us K) (i : Nat) (x : Int) : KOwn (w.setCell ⟨b, i, none⟩ (.int .i64 x)) g G (.slice (some ⟨b, 0, none⟩) n c) us ⟨K.lock, K.secret, K.path.set i x, K.sigs⟩ := by
  have hr := h.pa
  unfold OwnI at hr
  obtain ⟨_, _, he⟩ := row_slice hr
  simp only [Value.slice.injEq] at he
  obtain ⟨_, hn, _⟩ := he
  rw [← hn] at hr
  obtain ⟨k1, k2⟩ := World.ownsRow.stored hr i (.int .i64 x)
  refine ⟨h.hv.grown k2 (by have := hv_apart h.hv hr (by decide); exact this), ?_, World.ownsRow.kept h.si k2 (rows_apart h.si hr (by decide))⟩
  unfold OwnI
  rw [List.length_set, List.map_set, ← hn]
  exact k1
/-- A row from the second cell on. -/
theorem own_drop {w : World} {B b n c : Nat} {e : TypeId} {xs : List Value} (h : w.ownsRow B e 1 (.slice (some ⟨b, 0, none⟩) n c) n xs) : ∀ j, j + 1 < n → w.cell? ⟨b, 1 + j, none⟩ = xs[1 + j]? := fun j hj => World.ownsRow.cellAt h (1 + j) (by omega)
theorem KOwn.cutPath {w w' w1 : World} {gs gk B G b c n : Nat} {cs : Array Value} {us : Value} {K : HkM} {S : SpecM} {arc : Int} (h : KOwn w gk G (.slice (some ⟨b, 0, none⟩) n c) us K) (hs : HkSane K) (hlen : K.sigs.length = K.path.length) (hn0 : 1 ≤ n) (hn : n ≤ 100) (hc : n ≤ c ∧ c ≤ maxLen) (ad : Option Addr)
    (had : (if c = 1 then (some ⟨b, 0, none⟩ : Option Addr) else some ⟨b, 1, none⟩) = ad) (hb : But gk w w') (h2 : HvAt w' gk (kcells K (.slice ad (n - 1) (c - 1)) us)) (hv : SvAt w' gs cs) (hB : Below B w1 w') : WrongK S arc gs gk B cs w1 true w' := by
  have hp := World.ownsRow.kept h.pa hb.grown (row_apart h.pa h.hv (by decide))
  have hq : OwnS w' G us K.sigs := World.ownsRow.kept h.si hb.grown (row_apart h.si h.hv (by decide))
  obtain ⟨_, _, he⟩ := row_slice hp
  simp only [Value.slice.injEq] at he
  obtain ⟨_, hnn, _⟩ := he
  obtain ⟨a', c', rfl, q1, q2, hK⟩ := hq.strs hs.ns hs.si
  have hpl : (K.path.drop 1).length = n - 1 := by rw [List.length_drop, hnn]
  have hI : Ints w' ad (K.path.drop 1).length (K.path.drop 1) := by
    refine ⟨rfl, by rw [hpl]; unfold maxLen; omega, fun j hj => ?_, fun j hj => ?_⟩
    · rw [hpl] at hj
      have h9 := hs.pa (1 + j) (by omega)
      rw [show (K.path.drop 1).getD j 0 = K.path.getD (1 + j) 0 by rw [List.getD_eq_getElem?_getD, List.getElem?_drop, List.getD_eq_getElem?_getD]]
      exact h9
    · rw [hpl] at hj
      have hc1 : c ≠ 1 := by omega
      rw [if_neg hc1] at had
      refine ⟨b, 1, had.symm, ?_⟩
      rw [← hnn] at hp
      rw [own_drop hp j (by omega), List.getElem?_map, List.getElem?_eq_getElem (show 1 + j < K.path.length by omega), show (K.path.drop 1).getD j 0 = K.path.getD (1 + j) 0 by rw [List.getD_eq_getElem?_getD, List.getElem?_drop, List.getD_eq_getElem?_getD], List.getD_eq_getElem?_getD, List.getElem?_eq_getElem (show 1 + j < K.path.length by omega)]
      rfl
  refine ⟨⟨K.lock, K.secret, K.path.drop 1, K.sigs⟩, ad, a', c - 1, c', ?_, ⟨hs.lock, by show K.secret.size ≤ maxLen; have := hs.secret; unfold maxLen; omega, hI, hK, by show (K.path.drop 1).length ≤ c - 1; omega, by omega, q1, q2, fun e => ?_, own_cap hq⟩, by show (K.path.drop 1).length ≤ 100; omega, hs.si, by show K.secret.size ≤ 1000000; have := hs.secret; omega, fun _ ho => ?_, hv, hB⟩
  · have h3 := h2
    unfold kcells at h3
    unfold hcells
    simp only
    rw [hpl]; exact h3
  · rw [← had] at e
    split at e <;> simp at e
  · have h9 := ho.2.2.2.2.2.2.1
    have h8 : K.sigs.length = (K.path.drop 1).length := h9
    omega
theorem KOwn.cutSigs {w w' w1 : World} {gs gk B G b c n : Nat} {cs : Array Value} {up : Value} {K : HkM} {S : SpecM} {arc : Int} (h : KOwn w gk G up (.slice (some ⟨b, 0, none⟩) n c) K) (hs : HkSane K) (hlen : K.sigs.length = K.path.length) (hn0 : 1 ≤ n) (hn : n ≤ 100) (hc : n ≤ c ∧ c ≤ maxLen) (ad : Option Addr)
    (had : (if c = 1 then (some ⟨b, 0, none⟩ : Option Addr) else some ⟨b, 1, none⟩) = ad) (hb : But gk w w') (h2 : HvAt w' gk (kcells K up (.slice ad (n - 1) (c - 1)))) (hv : SvAt w' gs cs) (hB : Below B w1 w') : WrongK S arc gs gk B cs w1 true w' := by
  have hp : OwnI w' G up K.path := World.ownsRow.kept h.pa hb.grown (row_apart h.pa h.hv (by decide))
  have hq := World.ownsRow.kept h.si hb.grown (row_apart h.si h.hv (by decide))
  obtain ⟨_, _, he⟩ := row_slice hq
  simp only [Value.slice.injEq] at he
  obtain ⟨_, hnn, _⟩ := he
  obtain ⟨a', c', rfl, q1, q2, hK⟩ := hp.ints hs.np hs.pa
  have hpl : (K.sigs.drop 1).length = n - 1 := by rw [List.length_drop, hnn]
  have hg : ∀ j, (K.sigs.drop 1).getD j ByteArray.empty = K.sigs.getD (1 + j) ByteArray.empty := fun j => by rw [List.getD_eq_getElem?_getD, List.getElem?_drop, List.getD_eq_getElem?_getD]
  have hI : Strs w' ad (K.sigs.drop 1).length (K.sigs.drop 1) := by
    refine ⟨rfl, by rw [hpl]; unfold maxLen; omega, fun j hj => ?_, fun j hj => ?_⟩
    · rw [hpl] at hj
      rw [hg]
      exact Nat.le_trans (hs.si (1 + j) (by omega)) (by unfold maxLen; omega)
    · rw [hpl] at hj
      have hc1 : c ≠ 1 := by omega
      rw [if_neg hc1] at had
      refine ⟨b, 1, had.symm, ?_⟩
      rw [← hnn] at hq
      rw [own_drop hq j (by omega), List.getElem?_map, List.getElem?_eq_getElem (show 1 + j < K.sigs.length by omega), hg, List.getD_eq_getElem?_getD, List.getElem?_eq_getElem (show 1 + j < K.sigs.length by omega)]
      rfl
  refine ⟨⟨K.lock, K.secret, K.path, K.sigs.drop 1⟩, a', ad, c', c - 1, ?_, ⟨hs.lock, by show K.secret.size ≤ maxLen; have := hs.secret; unfold maxLen; omega, hK, hI, q1, q2, by show (K.sigs.drop 1).length ≤ c - 1; omega, by omega, own_cap hp, fun e => ?_⟩, by show K.path.length ≤ 100; omega, fun j hj => ?_, by show K.secret.size ≤ 1000000; have := hs.secret; omega, fun _ ho => ?_, hv, hB⟩
  · have h3 := h2
    unfold kcells at h3
    unfold hcells
    simp only
    rw [hpl]; exact h3
  · rw [← had] at e
    split at e <;> simp at e
  · have hj' : j < (K.sigs.drop 1).length := hj
    show ((K.sigs.drop 1).getD j ByteArray.empty).size ≤ 1000
    rw [hg]
    exact hs.si (1 + j) (by omega)
  · have h9 := ho.2.2.2.2.2.2.1
    have h8 : (K.sigs.drop 1).length = K.path.length := h9
    omega
theorem ver_size {s : SpecM} {K : HkM} (hn : 0 < K.sigs.length) (h : (K.sigs.getD 0 ByteArray.empty).size ≠ 512) : verAt s K 0 ≠ true := by
  intro e
  unfold verAt verifyOf at e
  rw [Bool.and_eq_true, decide_eq_true_eq] at e
  have e1 := e.1
  unfold textAt at e1
  rw [if_pos hn, Array.length_toList] at e1
  exact h e1

end Go.Proofs.Ythoimecljfcjmaa
