/-
  GraphFull's swaps on plain data; append with word of the block in which the new row lies; the swap in its variable.
-/
import Derived.Test.YthdnldbkpllciaaSwP
import Derived.Test.YthdnldbkpllciaaGrWake
import Derived.Test.YthdnldbkpllciaaGrPl
import Derived.Test.YthdnldbkpllciaaZ04
namespace Go.Proofs.Ythdnldbkpllciaa
open Go.RowKit

def arcF (a b : Nat) : ArcM := ⟨a, b, 0, gold, 1⟩
def rowF (a : Nat) : Nat → List ArcM
  | 0 => []
  | b + 1 => rowF a b ++ (if a = b then [] else [arcF a b])
def fullF (k : Nat) : Nat → List ArcM
  | 0 => []
  | a + 1 => fullF k a ++ rowF a k
def keyF : ByteArray := ⟨#[48, 49, 50, 51, 52, 53, 54, 55, 56, 57, 97, 98, 99, 100, 101, 102]⟩
def lockF : ByteArray := ⟨#[48, 49, 50, 51, 52, 53, 54, 55, 56, 57, 48, 49, 50, 51, 52, 53, 54, 55, 56, 57, 48, 49, 50, 51, 52, 53, 54, 55, 56, 57, 48, 49]⟩
def partF (k j i : Nat) : List PartyM := (List.range k).map fun q => ⟨accB q, List.replicate (if q < i then j + 1 else j) keyF⟩
def leadF (m : Nat) : List Int := (List.range m).map (fun x : Nat => (x : Int))
def fullS (k m : Nat) : SpecM := ⟨ringId, partF k m 0, fullF k k, leadF m, List.replicate m lockF, 5, 6⟩
theorem leadF_succ (m : Nat) : leadF (m + 1) = leadF m ++ [(m : Int)] := by unfold leadF; rw [List.range_succ, List.map_append]; rfl
theorem leadF_len (m : Nat) : (leadF m).length = m := by simp [leadF]
theorem partF_len (k j i : Nat) : (partF k j i).length = k := by simp [partF]
theorem partF_get (k j i q : Nat) (h : q < k) : (partF k j i).getD q noParty = ⟨accB q, List.replicate (if q < i then j + 1 else j) keyF⟩ := by
  simp [partF, List.getD_eq_getElem?_getD, List.getElem?_range h]
theorem partF_end (k j : Nat) : partF k j k = partF k (j + 1) 0 := by
  unfold partF
  apply List.map_congr_left
  intro q hq
  rw [List.mem_range] at hq
  simp [hq]
theorem partF_accs (k j i : Nat) (ks : List Value) : pcells (partF k j i) ks = pcells (accs k) ks := pcells_accs _ _ _ (by simp [partF, accs])
theorem rowF_len (a b : Nat) : (rowF a b).length ≤ b := by
  induction b with
  | zero => simp [rowF]
  | succ b ih =>
    rw [rowF, List.length_append]
    split <;> simp <;> omega
theorem fullF_len (k a : Nat) : (fullF k a).length ≤ a * k := by
  induction a with
  | zero => simp [fullF]
  | succ a ih =>
    rw [fullF, List.length_append, Nat.succ_mul]
    have := rowF_len a k
    omega
theorem leadF_get (m i : Nat) (h : i < m) : (leadF m).getD i 0 = (i : Int) := by simp [leadF, List.getD_eq_getElem?_getD, List.getElem?_range h]
theorem rep_get (m i : Nat) (x d : ByteArray) (h : i < m) : (List.replicate m x).getD i d = x := by simp [List.getD_eq_getElem?_getD, h]
theorem fullF_fine (k : Nat) (hk : 2 ≤ k ∧ k ≤ 4) : arcsFine k (fullF k k) := by
  have h1 : k = 2 ∨ k = 3 ∨ k = 4 := by omega
  rcases h1 with rfl | rfl | rfl <;> exact @of_decide_eq_true _ (arcsFineDec _ _) (by kernel_rfl)
theorem full_ok (k m : Nat) (hk : 2 ≤ k ∧ k ≤ 4) (hm : 1 ≤ m ∧ m ≤ 3 ∧ m ≤ k) : specOk (fullS k m) := by
  obtain ⟨x1, x2, x3⟩ := fullF_fine k hk
  refine ⟨by show nameOk ringId; unfold nameOk; decide, ⟨by show 1 ≤ (leadF m).length; rw [leadF_len]; omega, by show (leadF m).length ≤ 3; rw [leadF_len]; omega, by show (List.replicate m lockF).length = (leadF m).length; rw [leadF_len, List.length_replicate], fun i hi => ?_⟩, ⟨by show 2 ≤ (partF k m 0).length; rw [partF_len]; omega, by show (partF k m 0).length ≤ 6; rw [partF_len]; omega, fun i hi => ?_⟩, ⟨x1, x2, fun i hi => ?_⟩, by show (0 : Int) ≤ 5; omega, by show (5 : Int) ≤ 1099511627776; omega, by show (1 : Int) ≤ 6; omega, by show (6 : Int) ≤ 1048576; omega⟩
  · have hi' : i < m := by have h9 : i < (leadF m).length := hi; rw [leadF_len] at h9; exact h9
    have e : (fullS k m).leaders.getD i 0 = (i : Int) := leadF_get m i hi'
    refine ⟨by rw [e]; omega, ?_, ?_, fun q hq => ?_⟩
    · rw [e]
      show (i : Int) < ((partF k m 0).length : Int)
      rw [partF_len]; omega
    · show ((List.replicate m lockF).getD i ByteArray.empty).size = 32
      rw [rep_get _ _ _ _ hi']; rfl
    · have e2 : (fullS k m).leaders.getD q 0 = (q : Int) := leadF_get m q (by omega)
      rw [e, e2]; omega
  · have hi' : i < k := by have h9 : i < (partF k m 0).length := hi; rw [partF_len] at h9; exact h9
    have e : ∀ q, q < k → (fullS k m).parties.getD q noParty = ⟨accB q, List.replicate m keyF⟩ := fun q hq => by
      have h9 := partF_get k m 0 q hq
      rw [if_neg (Nat.not_lt_zero q)] at h9
      exact h9
    unfold partyOk
    rw [e i hi']
    refine ⟨by unfold nameOk; rw [accB_size]; omega, by show (List.replicate m keyF).length = (leadF m).length; rw [leadF_len, List.length_replicate], fun q hq => ?_, fun q hq => ?_⟩
    · have hq' : q < m := by simpa using hq
      show ((List.replicate m keyF).getD q ByteArray.empty).size = 16
      rw [rep_get _ _ _ _ hq']; rfl
    · rw [e q (by omega)]
      exact accB_ne q i (by omega) (by omega) (by omega)
  · obtain ⟨y1, y2⟩ := x3 i hi
    refine ⟨?_, y2⟩
    show arcFine (partF k m 0).length ((fullF k k).getD i noArc)
    rw [partF_len]; exact y1
theorem full_facts (k m : Nat) (hk : 2 ≤ k ∧ k ≤ 4) (hm : 1 ≤ m ∧ m ≤ 3 ∧ m ≤ k) : strM (fullS k m) = true ∧ fbkM (fullS k m) = decide (k - 1 ≤ m) ∧ validM (fullS k m) = decide (k - 1 ≤ m) ∧ (entL (fullS k m).arcs 0 (fullS k m).arcs.length).length = k - 1 ∧ (levL (fullS k m).arcs ((k : Int) - 1) (fullS k m).arcs.length).length = k - 1 := by
  have hok := full_ok k m hk hm
  rw [strong_reckoned hok, fb_reckoned hok, valid_reckoned hok]
  clear hok
  have h1 : k = 2 ∨ k = 3 ∨ k = 4 := by omega
  have h2 : m = 1 ∨ m = 2 ∨ m = 3 := by omega
  rcases h1 with rfl | rfl | rfl <;> rcases h2 with rfl | rfl | rfl <;> first | omega | (refine ⟨?_, ?_, ?_, ?_, ?_⟩ <;> kernel_rfl)
theorem full_bad (k : Nat) (m : Nat) (hm : 3 < m) : ¬ specOk (fullS k m) := fun h => by
  have h9 := h.2.1.2.1
  have h8 : (leadF m).length ≤ 3 := h9
  rw [leadF_len] at h8
  omega

theorem full_sane (k m : Nat) (hk : 2 ≤ k ∧ k ≤ 4) (hm : m ≤ 4) : SaneS (fullS k m) := by
  obtain ⟨x1, x2, x3⟩ := fullF_fine k hk
  refine ⟨by show ringId.size ≤ 1000; decide, by show (partF k m 0).length ≤ 1000; rw [partF_len]; omega, fun j hj => ?_, by show (fullF k k).length ≤ 1000; omega, fun j hj => ?_, by show (leadF m).length ≤ 1000; rw [leadF_len]; omega, fun j hj => ?_, by show (List.replicate m lockF).length ≤ 1000; rw [List.length_replicate]; omega, fun j hj => ?_, ⟨by show _ ≤ (5 : Int); omega, by show (5 : Int) ≤ _; omega⟩, ⟨by show _ ≤ (6 : Int); omega, by show (6 : Int) ≤ _; omega⟩⟩
  · have hj' : j < k := by have h9 : j < (partF k m 0).length := hj; rw [partF_len] at h9; exact h9
    have h9 := partF_get k m 0 j hj'
    rw [if_neg (Nat.not_lt_zero j)] at h9
    show PartySane ((partF k m 0).getD j noParty)
    rw [h9]
    refine ⟨by show (accB j).size ≤ 1000; rw [accB_size]; omega, by show (List.replicate m keyF).length ≤ 1000; rw [List.length_replicate]; omega, fun i hi => ?_⟩
    have hi' : i < m := by simpa using hi
    show ((List.replicate m keyF).getD i ByteArray.empty).size ≤ 1000
    rw [rep_get _ _ _ _ hi']; decide
  · obtain ⟨⟨i1, i2, i3, i4, _, i5, i6, ⟨_, i7⟩, i8, i9⟩, _⟩ := x3 j hj
    show ArcSane ((fullF k k).getD j noArc)
    exact ⟨⟨by omega, by omega⟩, ⟨by omega, by omega⟩, ⟨by omega, by omega⟩, ⟨by omega, by omega⟩, by omega⟩
  · have hj' : j < m := by have h9 : j < (leadF m).length := hj; rw [leadF_len] at h9; exact h9
    show In64 ((leadF m).getD j 0)
    rw [leadF_get _ _ hj']
    exact ⟨by omega, by omega⟩
  · have hj' : j < m := by have h9 : j < (List.replicate m lockF).length := hj; rw [List.length_replicate] at h9; exact h9
    show ((List.replicate m lockF).getD j ByteArray.empty).size ≤ 1000
    rw [rep_get _ _ _ _ hj']; decide
theorem cells_len (k a b : Nat) (hk : k ≤ 4) (ha : a < k) (hb : b < k) : (fullF k a ++ rowF a b).length ≤ 100 := by
  have h1 := fullF_len k a
  have h2 := rowF_len a b
  have h3 : a * k ≤ 4 * 4 := Nat.mul_le_mul (by omega) (by omega)
  rw [List.length_append]; omega
/-- append of a row: the new row lies where the old one lay, or in a new block. -/
theorem run_append_info {P : Program} (w : World) (base : Nat) (t ty e : TypeId) (i : TypeInfo) (z : Value) (size bytes : Nat) (ht : P.underlying t = some (.slice e)) (hi : P.info? e = some i) (hz : i.zero = some z)
    (hsize : i.size = size) (hby : i.bytes = bytes) (hzs : z.cells.size = size) (hsz : 0 < size)
    (v : Value) (n : Nat) (xs : List Value) (hown : w.ownsRow base e size v n xs)
    (a : Addr) (m c : Nat) (news : List Value) (hl : news.length = m * size) (hnews : ∀ j u, news[j]? = some u → w.cell? (a.add j) = some u) (h1 : ∀ u ∈ news, u.oneCell' = true)
    (h63 : n + m ≤ maxLen) (hbytes : (n + m) * bytes ≤ 140737488355328) (hbase : base ≤ w.heap.size) (hm : 0 < m) :
    ∃ v' w', (Builtin.append_ #[t, t] ty #[v, .slice (some a) m c]).run P w = .ok v' w' ∧ w'.ownsRow base e size v' (n + m) (xs ++ news) ∧ w.grownBy w' v.ownBlock ∧ (v'.ownBlock = v.ownBlock ∨ ∃ k, v'.ownBlock = some k ∧ w.heap.size ≤ k) := by
  obtain ⟨v', w', hr, h2, h3, _⟩ := run_append_own (P := P) w base t ty e i z size bytes ht hi hz hsize hby hzs hsz v n xs hown a m c news hl hnews h1 h63 hbytes hbase
  refine ⟨v', w', hr, h2, h3, ?_⟩
  have hsmall : n + m ≤ 9223372036854775807 := by simp only [maxLen] at h63; omega
  subst hsize
  subst hby
  rcases hown.2 with ⟨rfl, rfl⟩ | ⟨g, cap, cur, rfl, hbg, hg, hnc, hcm, hcs, htake⟩
  · have hq := run_append_nil (P := P) w t ty e i z ht hi hz a m c news hl hnews hm (by omega) (by have hb := hbytes; simp only [Nat.zero_add] at hb; omega)
    rw [hq] at hr
    injection hr with hr _
    right
    exact ⟨_, by rw [← hr]; rfl, Nat.le_refl _⟩
  · by_cases hroom : n + m ≤ cap
    · have hq := run_append_room (P := P) w t ty e i ht hi g n cap cur hg a m c news hl hnews h1 hroom (by rw [hl, hcs, ← Nat.add_mul]; exact Nat.mul_le_mul_right _ hroom)
      rw [hq] at hr
      injection hr with hr _
      left
      rw [← hr]; rfl
    · have hq := run_append_grow (P := P) w t ty e i z ht hi hz ⟨g, 0, none⟩ n cap xs hown.1 (hown.cells (g := g) rfl) a m c news hl hnews (by omega) (by omega) (growslice_fits (by omega) hbytes)
      rw [hq] at hr
      injection hr with hr _
      right
      exact ⟨_, by rw [← hr]; rfl, Nat.le_refl _⟩
theorem step_appD {st e : TypeId} {size bytes : Nat} {z : Value} (ht : Try.prog.underlying st = some (.slice e)) (hinfo : (Try.prog.info? e).map (fun i => (i.zero, i.size, i.bytes)) = some (some z, size, bytes)) (hzs : z.cells.size = size) (hsz : 0 < size) (hby : bytes ≤ 100)
    {ops : Array Oper} {o : Oper} {a : Act} {K : Act → World → Prop} {Q : Exit → Act → World → Prop} {E : Prop} (w : World) (hgd : o.guard = none) (s x : Operand)
    (ho : o.op = .call { callee := .builtin .append, args := #[s, x], argTypes := #[st, st] })
    (B : Nat) (v : Value) (n : Nat) (xs : List Value) (hs : a.eval s = v) (hown : w.ownsRow B e size v n xs) (ad : Addr) (m c : Nat) (news : List Value) (hx : a.eval x = .slice (some ad) m c)
    (hl : news.length = m * size) (hnews : ∀ j u, news[j]? = some u → w.cell? (ad.add j) = some u) (h1 : ∀ u ∈ news, u.oneCell' = true) (hn : n + m ≤ 1000000) (hB : B ≤ w.heap.size) (hm : 0 < m)
    (h : ∀ v' w', w'.ownsRow B e size v' (n + m) (xs ++ news) → w.grownBy w' v.ownBlock → (v'.ownBlock = v.ownBlock ∨ ∃ k, v'.ownBlock = some k ∧ w.heap.size ≤ k) → K (a.put o.dst v') w') :
    if Region.wanted o (yielded ops a.tmps) = true then Oper.wp Try.prog o a w K Q else E := by
  obtain ⟨i0, hi, hz0, hz1, hz2⟩ := info_parts hinfo
  have hw : Region.wanted o (yielded ops a.tmps) = true := by simp [Region.wanted, hgd]
  rw [if_pos hw]
  obtain ⟨v', w', hr, h2, h3, h4⟩ := run_append_info (P := Try.prog) w B st o.type e i0 z size bytes ht hi hz0 hz1 hz2 hzs hsz v n xs hown ad m c news hl hnews h1 (by unfold maxLen; omega) (by have : (n + m) * bytes ≤ (n + m) * 100 := Nat.mul_le_mul_left _ hby; omega) hB hm
  unfold Oper.wp execOp
  simp only [ho, resolve, invoke, builtin, Sem.run_bind, Sem.run_pure, Result.andThen_ok, List.map_toArray, List.map_cons, List.map_nil, hs, hx, hr]
  exact h v' w' h2 h3 h4

/-- A swap whose keys' rows and locks lie in blocks of their own. -/
structure Full (w : World) (g B : Nat) (v1 v2 v3 v4 : Value) (ks : List Value) (P : List PartyM) (A : List ArcM) (L : List Int) (K : List ByteArray) : Prop where
  sv : SAt w g ringId v1 v2 v3 v4 5 6
  kl : ks.length = P.length
  pr : w.ownsRow B 32 2 v1 P.length (pcells P ks)
  ky : ∀ j, j < P.length → OwnS w B (ks.getD j undef) (P.getD j noParty).keys
  ar : OwnA w B v2 A
  le : OwnI w B v3 L
  lo : OwnS w B v4 K
  ap : ∀ i j, i < P.length → j < P.length → i ≠ j → (ks.getD i undef).ownBlock = none ∨ (ks.getD i undef).ownBlock ≠ (ks.getD j undef).ownBlock
  al : ∀ i, i < P.length → (ks.getD i undef).ownBlock = none ∨ (ks.getD i undef).ownBlock ≠ v4.ownBlock
theorem Full.wide {w : World} {g B : Nat} {v1 v2 v3 v4 : Value} {ks : List Value} {P : List PartyM} {A : List ArcM} {L : List Int} {K : List ByteArray} (h : Full w g B v1 v2 v3 v4 ks P A L K) (hs : SaneS ⟨ringId, P, A, L, K, 5, 6⟩) : SpecW w (.agg (scells ringId v1 v2 v3 v4 5 6)) ⟨ringId, P, A, L, K, 5, 6⟩ :=
  OwnSpec.wide (B := B) ⟨v1, v2, v3, v4, rfl, ⟨ks, h.kl, h.pr, h.ky⟩, h.ar, h.le, h.lo⟩ hs
theorem apart_back {u v : Option Nat} (h : u = none ∨ u ≠ v) : v = none ∨ v ≠ u := by
  rcases h with rfl | h
  · cases v
    · exact .inl rfl
    · exact .inr (by simp)
  · exact .inr (fun e => h e.symm)
theorem Full.below {w w' : World} {g B : Nat} {v1 v2 v3 v4 : Value} {ks : List Value} {P : List PartyM} {A : List ArcM} {L : List Int} {K : List ByteArray} (h : Full w g B v1 v2 v3 v4 ks P A L K) (hb : Below w.heap.size w w') : Full w' g B v1 v2 v3 v4 ks P A L K :=
  ⟨h.sv.below hb, h.kl, own_below h.pr hb, fun j hj => (h.ky j hj).below hb, h.ar.below hb, h.le.below hb, h.lo.below hb, h.ap, h.al⟩
/-- A leader and a lock more: the rows have grown, the variable is written. -/
theorem Full.more {w w1 w2 : World} {g B : Nat} {v1 v2 v3 v4 u3 u4 : Value} {ks : List Value} {P : List PartyM} {A : List ArcM} {L L' : List Int} {K K' : List ByteArray} (h : Full w g B v1 v2 v3 v4 ks P A L K)
    (g1 : w.grownBy w1 v3.ownBlock) (r3 : OwnI w1 B u3 L') (g2 : w1.grownBy w2 v4.ownBlock) (r4 : OwnS w2 B u4 K') (hf : u4.ownBlock = v4.ownBlock ∨ ∃ k, u4.ownBlock = some k ∧ w1.heap.size ≤ k) :
    Full ((w2.setCell ⟨g, 3, none⟩ u3).setCell ⟨g, 4, none⟩ u4) g B v1 v2 u3 u4 ks P A L' K' := by
  have s1 := h.sv.grown g1 (sv_apart h.sv h.le (by decide))
  have p1 := World.ownsRow.kept h.pr g1 (rows_apart h.pr h.le (by decide))
  have k1 : ∀ j, j < P.length → OwnS w1 B (ks.getD j undef) (P.getD j noParty).keys := fun j hj => World.ownsRow.kept (h.ky j hj) g1 (rows_apart (h.ky j hj) h.le (by decide))
  have a1 : OwnA w1 B v2 A := World.ownsRow.kept h.ar g1 (rows_apart h.ar h.le (by decide))
  have l1 : OwnS w1 B v4 K := World.ownsRow.kept h.lo g1 (rows_apart h.lo h.le (by decide))
  have s2 := s1.grown g2 (sv_apart s1 l1 (by decide))
  have p2 := World.ownsRow.kept p1 g2 (rows_apart p1 l1 (by decide))
  have k2 : ∀ j, j < P.length → OwnS w2 B (ks.getD j undef) (P.getD j noParty).keys := fun j hj => World.ownsRow.kept (k1 j hj) g2 (h.al j hj)
  have a2 : OwnA w2 B v2 A := World.ownsRow.kept a1 g2 (rows_apart a1 l1 (by decide))
  have i2 : OwnI w2 B u3 L' := World.ownsRow.kept r3 g2 (rows_apart r3 l1 (by decide))
  have b1 := (But.setCell w2 g 3 u3)
  have b2 := (But.setCell (w2.setCell ⟨g, 3, none⟩ u3) g 4 u4)
  have b := (b1.trans b2).grown
  refine ⟨(s2.set3 u3).set4 u4, h.kl, World.ownsRow.kept p2 b (row_apart p2 s2 (by decide)), fun j hj => World.ownsRow.kept (k2 j hj) b (row_apart (k2 j hj) s2 (by decide)), World.ownsRow.kept a2 b (row_apart a2 s2 (by decide)), World.ownsRow.kept i2 b (row_apart i2 s2 (by decide)), World.ownsRow.kept r4 b (row_apart r4 s2 (by decide)), h.ap, fun i hi => ?_⟩
  rcases hf with hf | ⟨k, hk, hk2⟩
  · rw [hf]; exact h.al i hi
  · rw [hk]
    cases hu : (ks.getD i undef).ownBlock with
    | none => exact .inl rfl
    | some x =>
      right
      intro e
      injection e with e
      have := (World.ownsRow.lt (k1 i hi) x hu).2
      omega
/-- A key more of party i. -/
theorem Full.key {w w1 : World} {g B b c n : Nat} {v2 v3 v4 u : Value} {ks : List Value} {P Q : List PartyM} {A : List ArcM} {L : List Int} {K : List ByteArray} {l' : List ByteArray} (h : Full w g B (.slice (some ⟨b, 0, none⟩) n c) v2 v3 v4 ks P A L K) (hn : n = P.length) (i : Nat) (hi : i < P.length)
    (g1 : w.grownBy w1 (ks.getD i undef).ownBlock) (r : OwnS w1 B u l') (hf : u.ownBlock = (ks.getD i undef).ownBlock ∨ ∃ k, u.ownBlock = some k ∧ w.heap.size ≤ k)
    (hQl : Q.length = P.length) (hQa : Q.map PartyM.acc = P.map PartyM.acc) (hQi : (Q.getD i noParty).keys = l') (hQj : ∀ j, j < P.length → j ≠ i → (Q.getD j noParty).keys = (P.getD j noParty).keys) :
    Full (w1.setCell ⟨b, i * 2 + 1, none⟩ u) g B (.slice (some ⟨b, 0, none⟩) n c) v2 v3 v4 (ks.set i u) Q A L K := by
  subst hn
  have hki := h.ky i hi
  have s1 := h.sv.grown g1 (sv_apart h.sv hki (by decide))
  have p1 := World.ownsRow.kept h.pr g1 (rows_apart h.pr hki (by decide))
  have a1 : OwnA w1 B v2 A := World.ownsRow.kept h.ar g1 (rows_apart h.ar hki (by decide))
  have i1 : OwnI w1 B v3 L := World.ownsRow.kept h.le g1 (rows_apart h.le hki (by decide))
  have l1 : OwnS w1 B v4 K := World.ownsRow.kept h.lo g1 (apart_back (h.al i hi))
  have k1 : ∀ j, j < P.length → j ≠ i → OwnS w1 B (ks.getD j undef) (P.getD j noParty).keys := fun j hj hne => World.ownsRow.kept (h.ky j hj) g1 (h.ap j i hj hi hne)
  obtain ⟨q1, q2⟩ := World.ownsRow.stored p1 (i * 2 + 1) u
  have keep : ∀ {e : TypeId} {size n : Nat} {v : Value} {xs : List Value}, w1.ownsRow B e size v n xs → e ≠ 32 → (w1.setCell ⟨b, i * 2 + 1, none⟩ u).ownsRow B e size v n xs := fun hh he => World.ownsRow.kept hh q2 (by have := rows_apart hh p1 he; exact this)
  have hlt := h.kl
  have hgi : (ks.set i u).getD i undef = u := by rw [List.getD_eq_getElem?_getD, List.getElem?_set_self (by omega)]; rfl
  have hgj : ∀ j, j ≠ i → (ks.set i u).getD j undef = ks.getD j undef := fun j hj => by rw [List.getD_eq_getElem?_getD, List.getElem?_set_ne (fun e => hj e.symm), List.getD_eq_getElem?_getD]
  have hfar : ∀ (x : Option Nat), (∀ y, x = some y → y < w.heap.size) → (x = none ∨ x ≠ (ks.getD i undef).ownBlock) → (x = none ∨ x ≠ u.ownBlock) := fun x hx hn => by
    rcases hf with hf | ⟨k, hk, hk2⟩
    · rw [hf]; exact hn
    · cases x with
      | none => exact .inl rfl
      | some y => exact .inr (by rw [hk]; intro e; injection e with e; have := hx y rfl; omega)
  refine ⟨s1.grown q2 (by have := sv_apart s1 p1 (by decide); exact this), by rw [List.length_set, hQl]; exact h.kl, ?_, fun j hj => ?_, keep a1 (by decide), keep i1 (by decide), keep l1 (by decide), fun x y hx hy hxy => ?_, fun x hx => ?_⟩
  · rw [hQl, pcells_accs Q P _ hQa, ← pcells_set P ks h.kl i hi u]; exact q1
  · rw [hQl] at hj
    by_cases e : j = i
    · subst e
      rw [hgi, hQi]; exact keep r (by decide)
    · rw [hgj j e, hQj j hj e]; exact keep (k1 j hj e) (by decide)
  · rw [hQl] at hx hy
    by_cases e1 : x = i
    · subst e1
      rw [hgi, hgj y (fun e => hxy e.symm)]
      exact apart_back (hfar _ (fun z hz => (World.ownsRow.lt (h.ky y hy) z hz).2) (h.ap y x hy hx (fun e => hxy e.symm)))
    · rw [hgj x e1]
      by_cases e2 : y = i
      · subst e2
        rw [hgi]
        exact hfar _ (fun z hz => (World.ownsRow.lt (h.ky x hx) z hz).2) (h.ap x y hx hy hxy)
      · rw [hgj y e2]; exact h.ap x y hx hy hxy
  · rw [hQl] at hx
    by_cases e1 : x = i
    · subst e1
      rw [hgi]
      exact apart_back (hfar _ (fun z hz => (World.ownsRow.lt h.lo z hz).2) (apart_back (h.al x hx)))
    · rw [hgj x e1]; exact h.al x hx

end Go.Proofs.Ythdnldbkpllciaa
