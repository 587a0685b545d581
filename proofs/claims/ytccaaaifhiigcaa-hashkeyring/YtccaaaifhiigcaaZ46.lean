/-
  Package hashkey: Check.
-/
import Derived.Test.YtccaaaifhiigcaaHkVer
import Derived.Test.YtccaaaifhiigcaaZ45
import Derived.Test.YtccaaaifhiigcaaZ20
import Derived.Test.YtccaaaifhiigcaaZ33
import Derived.Test.YtccaaaifhiigcaaHkMk
import Derived.Test.YtccaaaifhiigcaaZ13
import Derived.Test.YtccaaaifhiigcaaZ41
namespace Go.Proofs.Ytccaaaifhiigcaa
open Go.RowKit

/-- What P7.2 asks. -/
def hkOpens (s : SpecM) (arc : Int) (K : HkM) : Prop :=
  validM s = true ∧ (0 ≤ arc ∧ arc < (s.arcs.length : Int)) ∧ (0 ≤ K.lock ∧ K.lock < (s.locks.length : Int)) ∧ K.secret.size ≤ 64 ∧ (⟨(digest K.secret.data.toList).toArray⟩ : ByteArray) = s.locks.getD K.lock.toNat ByteArray.empty
  ∧ (pathOk s K.path ∧ K.path.getD 0 0 = (s.arcs.getD arc.toNat noArc).dst ∧ K.path.getD (K.path.length - 1) 0 = s.leaders.getD K.lock.toNat 0) ∧ K.sigs.length = K.path.length ∧ ∀ i, i < K.path.length → verAt s K i = true
theorem yields_loadK {ops : Array Oper} {o : Oper} {a : Act} {S : World → Prop} (hw : Region.wanted o (yielded ops a.tmps) = true) (x : Operand) (ho : o.op = .load 30 x) (g : Nat) (cs : Array Value) (hx : a.eval x = .pointer (some ⟨g, 0, none⟩)) (h4 : cs.size = 4) (hS : ∀ W, S W → HvAt W g cs) : YieldsIf Try.prog ops S o (.agg cs) a :=
  .inl ⟨hw, fun W hW => by
    unfold execOp
    simp only [ho, hx, Instr.loadAt, Instr.sureAddr, Sem.run_bind, Sem.run_pure, Result.andThen_ok, run_loadVar_row W g 30 30 cs (0, 0) (.struct _) (hS W hW) Try.underlying30 rfl (by rw [h4]; exact sizeHk)]⟩
theorem valid_ok {s : SpecM} (h : validM s = true) : specOk s := by
  by_cases hok : specOk s
  · exact hok
  · unfold validM strM at h
    rw [told_no hok] at h
    exact Bool.noConfusion h

end Go.Proofs.Ytccaaaifhiigcaa

/-
  Hashkeys that were made by a leader and extended along a path: they open (plain data).
-/
namespace Go.Proofs.Ytccaaaifhiigcaa
open Go.RowKit

/-- The keys and locks of a swap are those of the statements' seeds and secrets. -/
structure BySeeds (s : SpecM) : Prop where
  ok : specOk s
  keys : ∀ i, i < s.parties.length → ∀ k, k < s.leaders.length → (s.parties.getD i noParty).keys.getD k ByteArray.empty = keyOf i k
  locks : ∀ k, k < s.leaders.length → s.locks.getD k ByteArray.empty = lockOf k
/-- A key that was made and extended as the document says. -/
structure GrownK (s : SpecM) (K : HkM) : Prop where
  lk : 0 ≤ K.lock ∧ K.lock < (s.leaders.length : Int)
  secret : K.secret.data.toList = secretB K.lock.toNat
  ne : 1 ≤ K.path.length
  len : K.sigs.length = K.path.length
  rng : ∀ j, j < K.path.length → 0 ≤ K.path.getD j 0 ∧ K.path.getD j 0 < (s.parties.length : Int)
  sz : ∀ j, j < K.sigs.length → (K.sigs.getD j ByteArray.empty).size = 512
  ver : ∀ i, i < K.path.length → verAt s K i = true
  last : K.path.getD (K.path.length - 1) 0 = s.leaders.getD K.lock.toNat 0
theorem textAt_next (K : HkM) (p : Int) (seed : ByteArray) (i : Nat) : textAt (signedM K p seed) (i + 1) = textAt K i := by
  unfold textAt signedM
  by_cases h : i < K.sigs.length
  · simp [h]
  · simp [h]
theorem textAt_first (K : HkM) (p : Int) (seed : ByteArray) : textAt (signedM K p seed) 0 = sigM seed K.lock.toNat (textAt K 0) := by
  conv => lhs; unfold textAt signedM
  simp
theorem verAt_next (s : SpecM) (K : HkM) (p : Int) (seed : ByteArray) (i : Nat) : verAt s (signedM K p seed) (i + 1) = verAt s K i := by
  unfold verAt
  rw [textAt_next, textAt_next]
  rfl
theorem verAt_first {s : SpecM} (h : BySeeds s) (K : HkM) (p : Nat) (seed : ByteArray) (hseed : seed.data.toList = seedB p) (hp : p < s.parties.length) (hlk : 0 ≤ K.lock ∧ K.lock < (s.leaders.length : Int)) : verAt s (signedM K (p : Int) seed) 0 = true := by
  unfold verAt
  rw [textAt_next, textAt_first]
  have e : keyAt s (signedM K (p : Int) seed) 0 = keyOf p K.lock.toNat := by
    show (s.parties.getD (p : Int).toNat noParty).keys.getD K.lock.toNat ByteArray.empty = _
    exact h.keys p hp _ (by omega)
  rw [e]
  unfold keyOf sigM
  show verifyOf (publicOf (seedB p) K.lock.toNat) (textAt K 0).data.toList (signOf seed.data.toList K.lock.toNat (textAt K 0).data.toList) = true
  rw [hseed]
  exact verify_sign _ _ _
theorem signed_sizes {K : HkM} (hz : ∀ j, j < K.sigs.length → (K.sigs.getD j ByteArray.empty).size = 512) (p : Int) (seed : ByteArray) : ∀ j, j < (signedM K p seed).sigs.length → ((signedM K p seed).sigs.getD j ByteArray.empty).size = 512 := by
  intro j hj
  cases j with
  | zero => exact sigM_size _ _ _
  | succ j => exact hz j (by have : j + 1 < K.sigs.length + 1 := hj; omega)
/-- What a leader makes. -/
theorem GrownK.made {s : SpecM} (h : BySeeds s) (lk : Nat) (hlk : lk < s.leaders.length) (secret seed : ByteArray) (hsec : secret.data.toList = secretB lk) (p : Nat) (hp : s.leaders.getD lk 0 = (p : Int)) (hseed : seed.data.toList = seedB p) : GrownK s (signedM ⟨(lk : Int), secret, [], []⟩ (p : Int) seed) := by
  have hpn : p < s.parties.length := by have := (h.ok.2.1.2.2.2 lk hlk).2.1; rw [hp] at this; omega
  refine ⟨⟨by show (0 : Int) ≤ (lk : Int); omega, by show (lk : Int) < _; omega⟩, hsec, Nat.le_refl _, rfl, fun j hj => ?_, signed_sizes (fun j hj => absurd hj (by simp)) _ _, fun i hi => ?_, hp.symm⟩
  · have hj' : j < 0 + 1 := hj
    obtain rfl : j = 0 := by omega
    exact ⟨by show (0 : Int) ≤ (p : Int); omega, by show (p : Int) < _; omega⟩
  · have hi' : i < 0 + 1 := hi
    obtain rfl : i = 0 := by omega
    exact verAt_first h _ p seed hseed hpn ⟨by show (0 : Int) ≤ (lk : Int); omega, by show (lk : Int) < _; omega⟩
theorem GrownK.next {s : SpecM} (h : BySeeds s) {K : HkM} (hk : GrownK s K) (p : Nat) (hp : p < s.parties.length) (seed : ByteArray) (hseed : seed.data.toList = seedB p) : GrownK s (signedM K (p : Int) seed) := by
  refine ⟨hk.lk, hk.secret, Nat.succ_le_succ (Nat.zero_le _), by show K.sigs.length + 1 = K.path.length + 1; rw [hk.len], fun j hj => ?_, signed_sizes hk.sz _ _, fun i hi => ?_, ?_⟩
  · cases j with
    | zero => exact ⟨by show (0 : Int) ≤ (p : Int); omega, by show (p : Int) < _; omega⟩
    | succ j => exact hk.rng j (by have : j + 1 < K.path.length + 1 := hj; omega)
  · cases i with
    | zero => exact verAt_first h _ p seed hseed hp hk.lk
    | succ i => rw [verAt_next]; exact hk.ver i (by have : i + 1 < K.path.length + 1 := hi; omega)
  · have h1 := hk.ne
    show ((p : Int) :: K.path).getD (K.path.length + 1 - 1) 0 = _
    rw [Nat.add_sub_cancel, show K.path.length = (K.path.length - 1) + 1 by omega, List.getD_cons_succ]
    exact hk.last
theorem GrownK.sec7 {s : SpecM} {K : HkM} (hk : GrownK s K) : K.secret.size = 7 := by
  have h := congrArg List.length hk.secret
  rw [Array.length_toList] at h
  exact h
/-- Whom it opens. -/
theorem opens_grown {s : SpecM} (h : BySeeds s) {K : HkM} (hk : GrownK s K) (hv : validM s = true) (arc : Int) : hkOpens s arc K ↔ ((0 ≤ arc ∧ arc < (s.arcs.length : Int)) ∧ pathOk s K.path ∧ K.path.getD 0 0 = (s.arcs.getD arc.toNat noArc).dst) := by
  have hll : s.locks.length = s.leaders.length := h.ok.2.1.2.2.1
  constructor
  · intro q
    exact ⟨q.2.1, q.2.2.2.2.2.1.1, q.2.2.2.2.2.1.2.1⟩
  · rintro ⟨q1, q2, q3⟩
    refine ⟨hv, q1, ⟨hk.lk.1, by rw [hll]; exact hk.lk.2⟩, by rw [hk.sec7]; omega, ?_, ⟨q2, q3, hk.last⟩, hk.len, hk.ver⟩
    rw [h.locks _ (by have := hk.lk; omega), hk.secret]; rfl
/-- With another secret it opens nothing. -/
theorem opens_secret {s : SpecM} (h : BySeeds s) {K : HkM} (x : ByteArray) (hx : (⟨(digest x.data.toList).toArray⟩ : ByteArray) ≠ lockOf K.lock.toNat) (arc : Int) : ¬ hkOpens s arc ⟨K.lock, x, K.path, K.sigs⟩ := by
  intro q
  have hll : s.locks.length = s.leaders.length := h.ok.2.1.2.2.1
  have q3 := q.2.2.1
  have h9 := q.2.2.2.2.1
  apply hx
  rw [← h.locks K.lock.toNat (by have q4 : 0 ≤ K.lock ∧ K.lock < (s.locks.length : Int) := q3; omega)]
  exact h9
theorem ring_seeds (n : Nat) (h2 : 2 ≤ n) (h6 : n ≤ 6) (st de : Int) (s0 : 0 ≤ st) (s1 : st ≤ 1099511627776) (d0 : 1 ≤ de) (d1 : de ≤ 1048576) : BySeeds (ringM n st de) := by
  refine ⟨ring_ok n h2 h6 st de s0 s1 d0 d1, fun i hi k hk => ?_, fun k hk => ?_⟩
  · have hi' : i < (accs n).length := by have h9 : i < (withKeys (accs n) 1).length := hi; rw [withKeys_len] at h9; exact h9
    show ((withKeys (accs n) 1).getD i noParty).keys.getD k ByteArray.empty = _
    rw [withKeys_keys _ _ _ hi']
    exact keysL_get _ _ _ hk
  · exact locksL_get _ _ hk
/-- A Bool that the kernel reckons. -/
def unlikeB (a b : List UInt8) : Bool := !(a == b)
theorem other_unlike : unlikeB (digest [111, 116, 104, 101, 114]) (digest (secretB 0)) = true := by decide +kernel
theorem other_lock : (⟨(digest [111, 116, 104, 101, 114]).toArray⟩ : ByteArray) ≠ lockOf 0 := by
  intro e
  have h1 := other_unlike
  unfold unlikeB at h1
  have h2 : digest [111, 116, 104, 101, 114] = digest (secretB 0) := by
    have h3 := congrArg (fun b : ByteArray => b.data.toList) e
    simpa [lockOf] using h3
  rw [h2] at h1
  simp at h1

end Go.Proofs.Ytccaaaifhiigcaa

/-
  A hashkey in a variable: made, written, one field of it written.
-/
namespace Go.Proofs.Ytccaaaifhiigcaa
open Go.RowKit

theorem le_of_below {B : Nat} {w W : World} (h : Below B w W) (hB : w.heap.size = B) : B ≤ W.heap.size := by have := h.size; omega
theorem below_then3 {B : Nat} {w W W2 : World} (hB : w.heap.size = B) (h : Below B w W) (k : Below W.heap.size W W2) : Below B w W2 := h.trans (k.mono (le_of_below h hB))
theorem below_but3 {B g : Nat} {w W W2 : World} (hB : w.heap.size = B) (h : Below B w W) (k : But g W W2) (hg : B ≤ g) : Below B w W2 := h.trans (k.below hg (le_of_below h hB))
def Z4 : Array Value := #[.int .i64 0, .string ⟨#[]⟩, .slice none 0 0, .slice none 0 0]
/-- 'var x Hashkey' in a region that draws its order. -/
theorem gives_allocK {ops : Array Oper} {Q : Exit → Act → World → Prop} {R : World → Prop} {R' : Value → World → Prop} {o : Oper} (hg : o.guard = none) (ho : o.op = .alloc 30)
    (h : ∀ W, R W → ∀ W1, HvAt W1 W.heap.size Z4 → Below W.heap.size W W1 → R' (.pointer (some ⟨W.heap.size, 0, none⟩)) W1) : ∀ b, GivesE Try.prog ops Q R R' o b := by
  intro b W hW K hK
  have hr : (Instr.alloc 30 true (.tuple #[])).run Try.prog W = .ok (.pointer (some ⟨W.heap.size, 0, none⟩)) (W.alloc (.cells Z4 30)) := by
    have hz : (Try.prog.info? 30).map (fun i => (i.zero, i.size)) = some (some (.agg #[Value.int IntKind.i64 0, Value.string ⟨#[]⟩, Value.slice none 0 0, Value.slice none 0 0]), 4) := by kernel_rfl
    simp [Instr.alloc, (zero_of_info hz).1 W, go_sem, Value.cells, Z4]
  have hw : Region.wanted o (yielded ops b.tmps) = true := by unfold Region.wanted; rw [hg]
  rw [if_pos hw]
  unfold Oper.wp execOp
  simp only [ho, Sem.run_bind, hr, Result.andThen_ok]
  exact hK.out _ _ (h W hW _ (heap_alloc_new _ _) ((Below.refl _ _).alloc (Nat.le_refl _) _))
theorem sizeStr : (Try.prog.info? 9).map (·.size) = some 1 := by kernel_rfl
/-- A field of it is written. -/
theorem wpList_fieldK {ops : Array Oper} {rest : List Oper} {o : Oper} {a : Act} {w : World} {Q : Exit → Act → World → Prop} (hgd : o.guard = none) (ty : TypeId) (x y : Operand) (ho : o.op = .store ty x y)
    (g off : Nat) (v : Value) (cs cs' : Array Value) (hx : a.eval x = .pointer (some ⟨g, off, none⟩)) (hy : a.eval y = v) (hv : v.cells = #[v]) (hi : (Try.prog.info? ty).map (·.size) = some 1) (h1 : v.oneCell' = true)
    (hg : HvAt w g cs) (h4 : cs.size = 4) (hoff : off < 4) (hcs : cs' = (cs.toList.take off ++ [v] ++ cs.toList.drop (off + 1)).toArray)
    (h : ∀ w1, HvAt w1 g cs' → w1.heap.size = w.heap.size → But g w w1 → wpList Try.prog ops Q rest (a.put o.dst undef) w1) : wpList Try.prog ops Q (o :: rest) a w := by
  refine wpList_splice hgd ty x y ho g off #[v] v hx hy hv 30 cs.toList (by unfold Cells; rw [Array.toArray_toList]; exact hg) hi (by simp [h4]; omega) (by intro u hu; simp at hu; subst hu; exact h1) ?_
  intro w1 hc hz hb
  refine h w1 ?_ hz hb
  rw [hcs]
  exact hc
theorem GrownK.sane {s : SpecM} {K : HkM} (hk : GrownK s K) (hok : specOk s) (hp : K.path.length ≤ 100) : HkSane K := by
  have h6 := hok.2.2.1.2.1
  have h3 := hok.2.1.2.1
  refine ⟨⟨by have := hk.lk; omega, by have := hk.lk; omega⟩, by rw [hk.sec7]; omega, by omega, fun j hj => ?_, by rw [hk.len]; omega, fun j hj => by rw [hk.sz j hj]; omega⟩
  have := hk.rng j hj
  exact ⟨by omega, by omega⟩
/-- The rows of a key that lies in a variable. -/
theorem HkO.lies {w : World} {B : Nat} {K : HkM} {pa sa : Option Addr} {pc sc : Nat} (h : HkO w B (.agg (hcells pa sa pc sc K)) K) (hs : HkSane K) : HkL w pa sa pc sc K := by
  obtain ⟨pa', sa', pc', sc', he, L⟩ := h.wide hs
  injection he with he
  simp only [hcells] at he
  injection he with he
  injection he with _ he
  injection he with _ he
  injection he with h1 he
  injection he with h2 _
  injection h1 with h3 _ h4
  injection h2 with h5 _ h6
  subst h3 h4 h5 h6
  exact L
theorem HkO.cells {w : World} {B : Nat} {u : Value} {K : HkM} (h : HkO w B u K) (hs : HkSane K) : ∃ pa sa pc sc, u = .agg (hcells pa sa pc sc K) := by
  obtain ⟨pa, sa, pc, sc, he, _⟩ := h.wide hs
  exact ⟨pa, sa, pc, sc, he⟩

end Go.Proofs.Ytccaaaifhiigcaa

/-
  Chapter 5's own example (awake).
-/
namespace Go.Proofs.Ytccaaaifhiigcaa
open Go.RowKit


def garcB (A : List ArcM) (a b : Int) : Bool := A.any fun x => x.src == a && x.dst == b
def stepB (n : Nat) (A : List ArcM) (l : List Int) (i : Nat) : Bool := decide (0 ≤ l.getD i 0) && decide (l.getD i 0 < (n : Int)) && !(l.take i).contains (l.getD i 0) && (i == 0 || garcB A (l.getD (i - 1) 0) (l.getD i 0))
/-- Path, to be reckoned. -/
def pathB (n : Nat) (A : List ArcM) (l : List Int) : Bool := decide (1 ≤ l.length) && (List.range l.length).all (stepB n A l)
theorem garcB_iff (A : List ArcM) (a b : Int) : garcB A a b = true ↔ arcM A a b := by
  unfold garcB arcM
  rw [List.any_eq_true]
  constructor
  · rintro ⟨x, hx, h⟩
    obtain ⟨j, hj, rfl⟩ := List.mem_iff_getElem.1 hx
    rw [Bool.and_eq_true, beq_iff_eq, beq_iff_eq] at h
    exact ⟨j, hj, by rw [List.getD_eq_getElem?_getD, List.getElem?_eq_getElem hj]; exact h⟩
  · rintro ⟨j, hj, h⟩
    refine ⟨A.getD j noArc, getD_mem A j noArc hj, ?_⟩
    rw [Bool.and_eq_true, beq_iff_eq, beq_iff_eq]; exact h
theorem stepB_iff {s : SpecM} {l : List Int} {i : Nat} (hi : i < l.length) : stepB s.parties.length s.arcs l i = true ↔ stepOk s l i := by
  unfold stepB stepOk
  simp only [Bool.and_eq_true, decide_eq_true_eq, Bool.not_eq_true', Bool.or_eq_true, beq_iff_eq, garcB_iff, ← Bool.not_eq_true, List.contains_iff_mem, mem_take (Nat.le_of_lt hi)]
  constructor
  · rintro ⟨⟨h1, h2⟩, h3⟩
    exact ⟨h1, fun k hk e => h2 ⟨k, hk, e⟩, fun h0 => h3.resolve_left (by omega)⟩
  · rintro ⟨h1, h2, h3⟩
    refine ⟨⟨h1, fun ⟨k, hk, e⟩ => h2 k hk e⟩, ?_⟩
    by_cases h0 : i = 0
    · exact .inl h0
    · exact .inr (h3 (by omega))
theorem path_reckoned {s : SpecM} (h : specOk s) (l : List Int) : told (pathOk s l) = pathB s.parties.length s.arcs l := by
  rw [Bool.eq_iff_iff, told_iff]
  unfold pathOk pathB
  rw [Bool.and_eq_true, decide_eq_true_eq, List.all_eq_true]
  constructor
  · rintro ⟨_, h1, h2⟩
    exact ⟨h1, fun i hi => (stepB_iff (List.mem_range.1 hi)).2 (h2 i (List.mem_range.1 hi))⟩
  · rintro ⟨h1, h2⟩
    exact ⟨h, h1, fun i hi => (stepB_iff hi).1 (h2 i (List.mem_range.2 hi))⟩
theorem valid_reckoned {s : SpecM} (h : specOk s) : validM s = (strongP s.parties.length s.arcs && fbP s.parties.length s.arcs s.leaders) := by
  unfold validM strM fbkM
  rw [told_yes h]; rfl
theorem strong_reckoned {s : SpecM} (h : specOk s) : strM s = strongP s.parties.length s.arcs := by
  unfold strM
  rw [told_yes h]; rfl
theorem fb_reckoned {s : SpecM} (h : specOk s) : fbkM s = fbP s.parties.length s.arcs s.leaders := by
  unfold fbkM
  rw [told_yes h]; rfl
theorem valid_bad {s : SpecM} (h : ¬ specOk s) : validM s = false := by
  unfold validM strM
  rw [told_no h]; rfl
theorem strong_bad {s : SpecM} (h : ¬ specOk s) : strM s = false := by
  unfold strM
  rw [told_no h]; rfl
theorem noSpec_bad5 : ¬ specOk noSpec := fun h => by have : 1 ≤ (0 : Nat) := h.1.1; omega
theorem ring_np5 (n : Nat) (st de : Int) : (ringM n st de).parties.length = n := by
  show (withKeys (accs n) 1).length = n
  rw [withKeys_len, accs_len]
theorem valid_none (w : World) : Calls Try.prog 31 #[.agg #[.string ⟨#[]⟩, .slice none 0 0, .slice none 0 0, .slice none 0 0, .slice none 0 0, .int .i64 0, .int .i64 0]] w fun e w' => e = .returned (.bool false) ∧ Below w.heap.size w w' := by
  have h := pvalid_any (no_spec w)
  rw [valid_bad noSpec_bad5] at h
  exact h
/-- Numbers written out. -/
theorem lit_ints {w : World} {g : Nat} {l : List Int} {t : TypeId} (h : w.heap[g]? = some (.cells (l.map (Value.int .i64)).toArray t (0, 0))) (hn : l.length ≤ 1000) (hl : ∀ x ∈ l, 0 ≤ x ∧ x < 1000) : Ints w (some ⟨g, 0, none⟩) l.length l := by
  refine ⟨rfl, by unfold maxLen; omega, fun j hj => (by have := hl _ (getD_mem l j 0 hj); omega), fun j hj => ⟨g, 0, rfl, ?_⟩⟩
  rw [Nat.zero_add, cell_of_row w g j _ t (0, 0) h, List.getElem?_toArray, List.getElem?_map, List.getElem?_eq_getElem hj, List.getD_eq_getElem?_getD, List.getElem?_eq_getElem hj]; rfl

end Go.Proofs.Ytccaaaifhiigcaa
