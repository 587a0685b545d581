/-
  Swaps by numbers with one thing otherwise: they are others.
-/
import Derived.Test.YthdnldbkpllciaaSwP
import Derived.Test.YthdnldbkpllciaaKey0
namespace Go.Proofs.Ythdnldbkpllciaa
open Go.RowKit

theorem arcsP_deck (n b g : Nat) : ∀ x ∈ arcsP n b g, x.ledger < 3 ∧ (x.asset = gold ∨ x.asset = salt) := by
  intro x hx
  unfold arcsP at hx
  obtain ⟨i, hi, rfl⟩ := List.mem_mapIdx.1 hx
  unfold deck
  simp only
  refine ⟨by have := Nat.mod_lt (i + g) (show 0 < 1 + g % 3 by omega); omega, ?_⟩
  split
  · exact .inl rfl
  · exact .inr rfl
theorem bare_deck (k : Nat) : ∀ x ∈ (bareM k).arcs, x.ledger < 3 ∧ (x.asset = gold ∨ x.asset = salt) := by
  unfold bareM
  split <;> exact arcsP_deck _ _ _
/-- What SpecSame asks to know of a swap by a number. -/
structure NumS (S : SpecM) : Prop where
  ok : specOk S
  id : S.id = swapId
  p0 : (S.parties.getD 0 noParty).acc = accB 0
  k0 : (S.parties.getD 0 noParty).keys.getD 0 ByteArray.empty = keyOf 0 0
  l0 : S.locks.getD 0 ByteArray.empty = lockOf 0
  ar : ∀ x ∈ S.arcs, x.ledger < 3 ∧ (x.asset = gold ∨ x.asset = salt)
  st : 5 ≤ S.start ∧ S.start ≤ 14 ∧ 6 ≤ S.delta ∧ S.delta ≤ 14
theorem spec_numS (v : Int) : ∃ S, NumS S ∧ ∀ w, Calls Try.prog 6 #[.int .i64 v] w fun e w' => ∃ u, e = .returned u ∧ OwnSpec w' w.heap.size u S ∧ Below w.heap.size w w' := by
  obtain ⟨k, n, A, L, st, de, hM, hN, HR⟩ := spec_from v
  refine ⟨_, ⟨hN.ok, rfl, ?_, ?_, ?_, ?_, ?_⟩, HR⟩
  all_goals
    have hok := hN.ok
    obtain ⟨n', A', L', st', de', he, h2, h5, hA, hA8, hL, s0, s1, d0, d1⟩ := hN
    simp only [SpecM.mk.injEq] at he
  · have hn : 0 < n := by
      have h9 := hok.2.2.1.1
      have h8 : 2 ≤ (withKeys (accs n) L.length).length := h9
      rw [withKeys_len, accs_len] at h8; omega
    show ((withKeys (accs n) L.length).getD 0 noParty).acc = accB 0
    rw [withKeys_acc _ _ _ (by rw [accs_len]; exact hn), accs_acc n 0 hn]
  · have hn : 0 < n := by
      have h9 := hok.2.2.1.1
      have h8 : 2 ≤ (withKeys (accs n) L.length).length := h9
      rw [withKeys_len, accs_len] at h8; omega
    have h9 : 1 ≤ L.length := hok.2.1.1
    show ((withKeys (accs n) L.length).getD 0 noParty).keys.getD 0 ByteArray.empty = keyOf 0 0
    rw [withKeys_keys _ _ _ (by rw [accs_len]; exact hn), keysL_get _ _ _ (by omega)]
  · have h9 : 1 ≤ L.length := hok.2.1.1
    show (locksL L.length).getD 0 ByteArray.empty = lockOf 0
    rw [locksL_get _ _ (by omega)]
  · have h9 := bare_deck k
    rw [hM] at h9
    exact h9
  · show 5 ≤ st ∧ st ≤ 14 ∧ 6 ≤ de ∧ de ≤ 14
    omega
theorem specB_inj {S T : SpecM} (hS : specOk S) (hT : specOk T) (h : specB T = specB S) : T = S := by
  have h1 := (read_back S hS).1
  have h2 := (read_back T hT).1
  rw [h] at h2
  exact h2.symm.trans h1
/-- What each way of SpecSame comes to: another swap in the second variable, the first as it was. -/
def OtherAt (gs gt B : Nat) (cs : Array Value) (w1 : World) (S : SpecM) (wx : World) : Prop := ∃ T ct, SvAt wx gt ct ∧ Seven ct ∧ SpecW wx (.agg ct) T ∧ T ≠ S ∧ 2 ≤ T.parties.length ∧ SvAt wx gs cs ∧ Below B w1 wx
theorem Own4.other {w w1 : World} {gs gt B G H : Nat} {cs : Array Value} {v1 v2 v3 v4 : Value} {ks : List Value} {S T : SpecM} (h : Own4 w gt G H v1 v2 v3 v4 ks T) (hs : SaneS T) (hne : T ≠ S) (hp : 2 ≤ T.parties.length) (hv : SvAt w gs cs) (hb : Below B w1 w) : OtherAt gs gt B cs w1 S w :=
  ⟨T, _, h.sv, scells_seven _ _ _ (own_one h.pr) (own_one h.ar) (own_one h.le) (own_one h.lo), h.wide hs, hne, hp, hv, hb⟩
theorem svat_apart {w : World} {g : Nat} {cs : Array Value} (h : SvAt w g cs) {v : Value} {B : Nat} {e : TypeId} {size n : Nat} {xs : List Value} (k : w.ownsRow B e size v n xs) (he : e ≠ 27) : some g ≠ v.ownBlock := by
  rcases row_apart k h he with h1 | h1
  · rw [h1]; simp
  · exact fun e => h1 e.symm
theorem OwnS.put0 {w : World} {B kb : Nat} {u : Value} {l : List ByteArray} {x : ByteArray} (h : OwnS w B u l) (hx : x.size ≤ 1000) (hl : ∀ k ∈ l, k.size ≤ 1000) :
    ∃ l', OwnS (w.setCell ⟨kb, 0, none⟩ (.string x)) B u l' ∧ l'.length = l.length ∧ (∀ k ∈ l', k.size ≤ 1000) ∧ (u.ownBlock = some kb → 0 < l.length → l'.getD 0 ByteArray.empty = x) := by
  by_cases e : u.ownBlock = some kb
  · refine ⟨l.set 0 x, ?_, by simp, fun k hk => ?_, fun _ hn => ?_⟩
    · unfold OwnS at h ⊢
      obtain ⟨a, c, rfl⟩ := row_slice h
      have ha : a = some ⟨kb, 0, none⟩ := by
        rcases h.2 with ⟨h', _⟩ | ⟨g', cap', cur, h', _⟩
        · rw [h'] at e; simp [Value.ownBlock] at e
        · simp only [Value.slice.injEq] at h'
          rw [h'.1] at e ⊢
          simp [Value.ownBlock] at e
          rw [e]
      subst ha
      have k1 := (World.ownsRow.stored h 0 (.string x)).1
      rw [List.length_set, List.map_set]
      exact k1
    · rcases List.mem_or_eq_of_mem_set hk with h1 | h1
      · exact hl k h1
      · rw [h1]; exact hx
    · cases l with
      | nil => simp at hn
      | cons y l => rfl
  · exact ⟨l, World.ownsRow.kept h (But.setCell _ _ _ _).grown (by cases hu : u.ownBlock with
      | none => exact .inl rfl
      | some y => exact .inr (by rw [hu] at e; exact e)), rfl, hl, fun h1 => absurd h1 e⟩
theorem Own4.text {w : World} {g G H kb : Nat} {v1 v2 v3 v4 : Value} {ks : List Value} {S : SpecM} {x : ByteArray} (h : Own4 w g G H v1 v2 v3 v4 ks S) (hs : SaneS S) (hx : x.size ≤ 1000) {B n : Nat} {u : Value} {xs : List Value} (hk : w.ownsRow B 9 1 u n xs) (hu : u.ownBlock = some kb) :
    ∃ T, Own4 (w.setCell ⟨kb, 0, none⟩ (.string x)) g G H v1 v2 v3 v4 ks T ∧ SaneS T ∧ T.parties.length = S.parties.length ∧ ((ks.getD 0 undef).ownBlock = some kb → 0 < S.parties.length → 0 < (S.parties.getD 0 noParty).keys.length → (T.parties.getD 0 noParty).keys.getD 0 ByteArray.empty = x) ∧ (v4.ownBlock = some kb → 0 < S.locks.length → T.locks.getD 0 ByteArray.empty = x) := by
  have hb : w.grownBy (w.setCell ⟨kb, 0, none⟩ (.string x)) u.ownBlock := by rw [hu]; exact (But.setCell _ _ _ _).grown
  have hpa := all_getDW _ _ _ hs.pa
  have hlk := all_getDW (fun k : ByteArray => k.size ≤ 1000) ByteArray.empty S.locks hs.lk
  have hkey : ∀ j, ∃ l', j < S.parties.length → (OwnS (w.setCell ⟨kb, 0, none⟩ (.string x)) 0 (ks.getD j undef) l' ∧ l'.length = (S.parties.getD j noParty).keys.length ∧ (∀ k ∈ l', k.size ≤ 1000) ∧ ((ks.getD j undef).ownBlock = some kb → 0 < (S.parties.getD j noParty).keys.length → l'.getD 0 ByteArray.empty = x)) := fun j => by
    by_cases hj : j < S.parties.length
    · obtain ⟨l', h1, h2, h3, h4⟩ := OwnS.put0 (kb := kb) (h.ky j hj).1 hx (all_getDW (fun k : ByteArray => k.size ≤ 1000) ByteArray.empty _ (hs.pa j hj).2.2)
      exact ⟨l', fun _ => ⟨h1, h2, h3, h4⟩⟩
    · exact ⟨[], fun h => absurd h hj⟩
  obtain ⟨f, hf⟩ : ∃ f : Nat → List ByteArray, ∀ j, j < S.parties.length → (OwnS (w.setCell ⟨kb, 0, none⟩ (.string x)) 0 (ks.getD j undef) (f j) ∧ (f j).length = (S.parties.getD j noParty).keys.length ∧ (∀ k ∈ f j, k.size ≤ 1000) ∧ ((ks.getD j undef).ownBlock = some kb → 0 < (S.parties.getD j noParty).keys.length → (f j).getD 0 ByteArray.empty = x)) := ⟨fun j => (hkey j).choose, fun j hj => (hkey j).choose_spec hj⟩
  obtain ⟨K, k1, k2, k3, k4⟩ := OwnS.put0 (kb := kb) h.lo hx hlk
  obtain ⟨P, hP⟩ : ∃ P : List PartyM, P = S.parties.mapIdx (fun j p => ⟨p.acc, f j⟩) := ⟨_, rfl⟩
  have hPl : P.length = S.parties.length := by rw [hP]; simp
  have hPa : P.map PartyM.acc = S.parties.map PartyM.acc := by
    rw [hP]
    apply List.ext_getElem?
    intro i
    simp [List.getElem?_mapIdx]
    cases S.parties[i]? <;> rfl
  have hPk : ∀ j, j < S.parties.length → (P.getD j noParty).keys = f j := fun j hj => by
    rw [hP, List.getD_eq_getElem?_getD, List.getElem?_mapIdx, List.getElem?_eq_getElem hj]; rfl
  have hPc : ∀ j, j < S.parties.length → (P.getD j noParty).acc = (S.parties.getD j noParty).acc := fun j hj => by
    rw [hP, List.getD_eq_getElem?_getD, List.getElem?_mapIdx, List.getD_eq_getElem?_getD, List.getElem?_eq_getElem hj]; rfl
  refine ⟨{ S with parties := P, locks := K }, ⟨h.sv.grown hb (sv_apart h.sv hk (by decide)), ?_, ?_, fun j hj => ?_, World.ownsRow.kept h.ar hb (rows_apart h.ar hk (by decide)), World.ownsRow.kept h.le hb (rows_apart h.le hk (by decide)), k1⟩, ?_, hPl, fun h1 h2 h3 => ?_, fun h1 h2 => k4 h1 h2⟩
  · show ks.length = P.length
    rw [hPl]; exact h.kl
  · show World.ownsRow _ G _ 2 v1 P.length (pcells P ks)
    rw [hPl, pcells_accs P S.parties ks hPa]
    exact World.ownsRow.kept h.pr hb (rows_apart h.pr hk (by decide))
  · have hj' : j < S.parties.length := by rw [← hPl]; exact hj
    show Low _ H _ (P.getD j noParty).keys
    rw [hPk j hj']
    exact ⟨(hf j hj').1, (h.ky j hj').2⟩
  · have s1 := hs.parts P (by have := hs.np; omega) (fun p hp => by
      obtain ⟨j, hj, rfl⟩ := List.mem_iff_getElem.1 hp
      have hj' : j < S.parties.length := by rw [← hPl]; exact hj
      have e1 := hPk j hj'
      have e2 := hPc j hj'
      rw [List.getD_eq_getElem?_getD, List.getElem?_eq_getElem hj] at e1 e2
      simp only [Option.getD_some] at e1 e2
      have h9 := hs.pa j hj'
      refine ⟨by rw [e2]; exact h9.1, by rw [e1, (hf j hj').2.1]; exact h9.2.1, fun i hi => ?_⟩
      rw [e1] at hi ⊢
      exact (hf j hj').2.2.1 _ (getD_mem _ i _ hi))
    exact s1.lks K (by show K.length ≤ 1000; rw [k2]; exact hs.nk) k3
  · show (P.getD 0 noParty).keys.getD 0 ByteArray.empty = x
    rw [hPk 0 h2]
    exact (hf 0 h2).2.2.2 h1 h3
theorem Own4.leadTo {w w' : World} {g G H : Nat} {v1 v2 v3 v4 : Value} {ks : List Value} {S : SpecM} (h : Own4 w g G H v1 v2 v3 v4 ks S) (hb : Below w.heap.size w w') (u : Value) (L : List Int) (hu : OwnI w' G u L) : Own4 (w'.setCell ⟨g, 3, none⟩ u) g G H v1 v2 u v4 ks { S with leaders := L } := by
  have hv := h.sv.below hb
  have k := (But.setCell w' g 3 u).grown
  have r1 := own_below h.pr hb
  have r2 : OwnA w' G v2 S.arcs := h.ar.below hb
  have r4 : OwnS w' G v4 S.locks := h.lo.below hb
  have rk : ∀ j, j < S.parties.length → Low w' H (ks.getD j undef) (S.parties.getD j noParty).keys := fun j hj => (h.ky j hj).kept (below_grown hb) (by cases (ks.getD j undef).ownBlock <;> simp)
  exact ⟨hv.set3 u, h.kl, World.ownsRow.kept r1 k (row_apart r1 hv (by decide)), fun j hj => (rk j hj).kept k (row_apart (rk j hj).1 hv (by decide)), World.ownsRow.kept r2 k (row_apart r2 hv (by decide)), World.ownsRow.kept hu k (row_apart hu hv (by decide)), World.ownsRow.kept r4 k (row_apart r4 hv (by decide))⟩
/-- Without the first arc. -/
theorem Own4.tail {w w1 : World} {gs gt B G H b n c : Nat} {cs : Array Value} {v1 v3 v4 : Value} {ks : List Value} {S : SpecM} (h : Own4 w gt G H v1 (.slice (some ⟨b, 0, none⟩) n c) v3 v4 ks S) (hs : SaneS S) (hn : 1 ≤ n) (hp : 2 ≤ S.parties.length) (ad : Option Addr) (had : (if c = 1 then (some ⟨b, 0, none⟩ : Option Addr) else some ⟨b, 0 + 1 * 5, none⟩) = ad)
    (hv : SvAt (w.setCell ⟨gt, 2, none⟩ (.slice ad (n - 1) (c - 1))) gs cs) (hb : Below B w1 (w.setCell ⟨gt, 2, none⟩ (.slice ad (n - 1) (c - 1)))) : OtherAt gs gt B cs w1 S (w.setCell ⟨gt, 2, none⟩ (.slice ad (n - 1) (c - 1))) := by
  have k := But.setCell w gt 2 (.slice ad (n - 1) (c - 1))
  obtain ⟨r1, rk, r2, r3, r4⟩ := h.rows k
  obtain ⟨_, _, he⟩ := row_slice r2
  simp only [Value.slice.injEq] at he
  obtain ⟨_, hnn, _⟩ := he
  have hW : SpecW (w.setCell ⟨gt, 2, none⟩ (.slice ad (n - 1) (c - 1))) (.agg (scells S.id v1 (.slice (some ⟨b, 0, none⟩) n c) v3 v4 S.start S.delta)) S :=
    OwnSpec.wide (B := 0) ⟨v1, _, v3, v4, rfl, ⟨ks, h.kl, base_row r1 (Nat.zero_le _), fun j hj => (rk j hj).1⟩, base_row r2 (Nat.zero_le _), base_row r3 (Nat.zero_le _), r4.base (Nat.zero_le _)⟩ hs
  have hT := h.sv.set2 (.slice ad (n - 1) (c - 1))
  obtain ⟨a1, a2, a3, a4, c1, c2, c3, c4, hv', LI, CA⟩ := hW
  simp only [scells, cells7, Value.agg.injEq] at hv'
  have hv2 := congrArg Array.toList hv'
  simp only [List.cons.injEq, Value.slice.injEq] at hv2
  obtain ⟨_, rfl, ⟨rfl, _, rfl⟩, rfl, rfl, _⟩ := hv2
  obtain ⟨q1, q2, q3, q4, q5, q6⟩ := CA
  have hA : Arcs (w.setCell ⟨gt, 2, none⟩ (.slice ad (n - 1) (c - 1))) (if c = 1 then (some ⟨b, 0, none⟩ : Option Addr) else some ⟨b, 0 + 1 * 5, none⟩) (S.arcs.drop 1) := by
    by_cases e : c = 1
    · rw [if_pos e]
      have h0 : S.arcs.drop 1 = [] := List.drop_eq_nil_of_le (by omega)
      rw [h0]
      exact ⟨Nat.zero_le _, fun j hj => absurd hj (by simp)⟩
    · rw [if_neg e]
      refine ⟨by have := LI.arcs.1; rw [List.length_drop]; omega, fun j hj => ⟨b, 0 + 1 * 5, rfl, ?_⟩⟩
      rw [List.length_drop] at hj
      have h9 := LI.arcs.get (1 + j) (by omega)
      rw [show 0 + 1 * 5 + j * 5 = 0 + (1 + j) * 5 by omega, show (S.arcs.drop 1).getD j noArc = S.arcs.getD (1 + j) noArc by rw [List.getD_eq_getElem?_getD, List.getElem?_drop, List.getD_eq_getElem?_getD]]
      exact h9
  rw [had] at hA
  have hl : n - 1 = (S.arcs.drop 1).length := by rw [List.length_drop, hnn]
  refine ⟨{ S with arcs := S.arcs.drop 1 }, _, hT, scells_seven _ _ _ rfl rfl rfl rfl, ⟨a1, ad, a3, a4, c1, c - 1, c3, c4, by rw [hl]; rfl, ⟨LI.id, LI.parties, hA, LI.leaders, LI.locks, LI.start, LI.delta⟩, q1, q2, by show (S.arcs.drop 1).length ≤ c - 1; omega, by omega, q5, q6⟩, fun e => ?_, hp, hv, hb⟩
  have e1 := congrArg (fun T : SpecM => T.arcs.length) e
  simp only [List.length_drop] at e1
  omega
/-- 'var x Spec'. -/
theorem wpList_allocS {ops : Array Oper} {rest : List Oper} {o : Oper} {a : Act} {w : World} {Q : Exit → Act → World → Prop} (hgd : o.guard = none) (ho : o.op = .alloc 27)
    (h : ∀ w1, SvAt w1 w.heap.size #[.string ⟨#[]⟩, .slice none 0 0, .slice none 0 0, .slice none 0 0, .slice none 0 0, .int .i64 0, .int .i64 0] → w1.heap.size = w.heap.size + 1 → Below w.heap.size w w1 → wpList Try.prog ops Q rest (a.put o.dst (.pointer (some ⟨w.heap.size, 0, none⟩))) w1) : wpList Try.prog ops Q (o :: rest) a w :=
  wpList_plain hgd fun _ hK => by
    have hr : (Instr.alloc 27 true (.tuple #[])).run Try.prog w = .ok (.pointer (some ⟨w.heap.size, 0, none⟩)) (w.alloc (.cells #[Value.string ⟨#[]⟩, Value.slice none 0 0, Value.slice none 0 0, Value.slice none 0 0, Value.slice none 0 0, Value.int IntKind.i64 0, Value.int IntKind.i64 0] 27)) := by
      have hz : (Try.prog.info? 27).map (fun i => (i.zero, i.size)) = some (some (.agg #[Value.string ⟨#[]⟩, Value.slice none 0 0, Value.slice none 0 0, Value.slice none 0 0, Value.slice none 0 0, Value.int IntKind.i64 0, Value.int IntKind.i64 0]), 7) := by kernel_rfl
      simp [Instr.alloc, (zero_of_info hz).1 w, go_sem, Value.cells]
    unfold Oper.wp execOp
    simp only [ho, Sem.run_bind, hr, Result.andThen_ok]
    exact hK _ _ (h _ (heap_alloc_new _ _) (by simp) ((Below.refl _ _).alloc (Nat.le_refl _) _))

end Go.Proofs.Ythdnldbkpllciaa
