/-
  The statements' loose: whether these leaders are enough.
-/
import Derived.Test.YthoimecljfcjmaaFbF
import Derived.Test.YthoimecljfcjmaaZ20
namespace Go.Proofs.Ythoimecljfcjmaa
open Go.RowKit
attribute [local go_sem ↓] Go.wp_at_zero Go.wp_at_succ

def k16 : ByteArray := ⟨#[48, 49, 50, 51, 52, 53, 54, 55, 56, 57, 97, 98, 99, 100, 101, 102]⟩
def k32 : ByteArray := ⟨#[48, 49, 50, 51, 52, 53, 54, 55, 56, 57, 48, 49, 50, 51, 52, 53, 54, 55, 56, 57, 48, 49, 50, 51, 52, 53, 54, 55, 56, 57, 48, 49]⟩
def looseM (s : SpecM) (L : List Int) : SpecM := ⟨s.id, s.parties.map (fun p => ⟨p.acc, List.replicate L.length k16⟩), s.arcs, L, List.replicate L.length k32, s.start, s.delta⟩
/-- A row of parties in memory, as cells. -/
theorem parties_cells {w : World} {b o : Nat} {P : List PartyM} (h : Parties w (some ⟨b, o, none⟩) P) : ∃ ks : List Value, ks.length = P.length ∧ (∀ k ∈ ks, k.oneCell' = true) ∧ ∀ j u, (pcells P ks)[j]? = some u → w.cell? ((⟨b, o, none⟩ : Addr).add j) = some u := by
  have hq : ∀ j, j < P.length → ∃ k : Value, k.oneCell' = true ∧ w.cell? ⟨b, o + j * 2, none⟩ = some (.string (P.getD j noParty).acc) ∧ w.cell? ⟨b, o + j * 2 + 1, none⟩ = some k := fun j hj => by
    obtain ⟨_, h1, ka, kc, h2, _⟩ := h.get j hj
    exact ⟨_, rfl, h1, h2⟩
  have : ∃ f : Nat → Value, ∀ j, j < P.length → (f j).oneCell' = true ∧ w.cell? ⟨b, o + j * 2, none⟩ = some (.string (P.getD j noParty).acc) ∧ w.cell? ⟨b, o + j * 2 + 1, none⟩ = some (f j) := by
    classical
    exact ⟨fun j => if hj : j < P.length then Classical.choose (hq j hj) else undef, fun j hj => by simp only [dif_pos hj]; exact Classical.choose_spec (hq j hj)⟩
  obtain ⟨f, hf⟩ := this
  have hks : ((List.range P.length).map f).length = P.length := by simp
  have hg : ∀ j, j < P.length → ((List.range P.length).map f).getD j undef = f j := fun j hj => by simp [List.getD_eq_getElem?_getD, List.getElem?_range hj]
  refine ⟨(List.range P.length).map f, hks, fun k hk => ?_, fun j u hu => ?_⟩
  · obtain ⟨j, hj, rfl⟩ := List.mem_map.1 hk
    exact (hf j (List.mem_range.1 hj)).1
  · have hlen : (pcells P ((List.range P.length).map f)).length = P.length * 2 := by
      unfold pcells
      generalize (List.range P.length).map f = ks at hks
      clear hu hq hf hg h
      induction P generalizing ks with
      | nil => simp
      | cons p P ih =>
        cases ks with
        | nil => simp at hks
        | cons k ks => rw [List.zipWith_cons_cons, List.flatten_cons, List.length_append, ih ks (by simpa using hks)]; simp; omega
    have hj : j < P.length * 2 := by rw [← hlen]; exact (List.getElem?_eq_some_iff.1 hu).1
    rw [Go.WideShapes.add_plain]
    obtain ⟨c1, c2⟩ := pcells_at P _ hks (j / 2) (by omega)
    rw [hg _ (by omega)] at c2
    obtain ⟨_, d1, d2⟩ := hf (j / 2) (by omega)
    rcases Nat.mod_two_eq_zero_or_one j with e | e
    · have : j = j / 2 * 2 := by omega
      rw [this, c1] at hu; rw [this, d1]; exact hu
    · have : j = j / 2 * 2 + 1 := by omega
      rw [this, c2] at hu; rw [this, show o + (j / 2 * 2 + 1) = o + j / 2 * 2 + 1 by omega, d2]; exact hu
theorem pcells_len (P : List PartyM) (ks : List Value) (h : ks.length = P.length) : (pcells P ks).length = P.length * 2 := by
  unfold pcells
  induction P generalizing ks with
  | nil => simp
  | cons p P ih =>
    cases ks with
    | nil => simp at h
    | cons k ks => rw [List.zipWith_cons_cons, List.flatten_cons, List.length_append, ih ks (by simpa using h)]; simp; omega
theorem pcells_one (P : List PartyM) (ks : List Value) (h : ∀ k ∈ ks, k.oneCell' = true) : ∀ u ∈ pcells P ks, u.oneCell' = true := by
  unfold pcells
  induction P generalizing ks with
  | nil => simp
  | cons p P ih =>
    cases ks with
    | nil => simp
    | cons k ks =>
      intro u hu
      rw [List.zipWith_cons_cons, List.flatten_cons, List.mem_append] at hu
      rcases hu with hu | hu
      · simp at hu
        rcases hu with rfl | rfl
        · rfl
        · exact h _ List.mem_cons_self
      · exact ih ks (fun k hk => h k (List.mem_cons_of_mem _ hk)) u hu

set_option maxRecDepth 10000 in
set_option maxHeartbeats 4000000 in
theorem loose_any {w : World} {v : Value} {s : SpecM} (hv : SpecW w v s) (hs : SaneS s) (hp1 : 1 ≤ s.parties.length) (hp6 : s.parties.length ≤ 6) (o : Option Addr) (c : Nat) (L : List Int) (hL : Ints w o L.length L) (hLc : L.length ≤ c) (hcm : c ≤ maxLen) (hL3 : L.length ≤ 3) :
    Calls Try.prog 31 #[v, .slice o L.length c] w fun e w' => e = .returned (.bool (fbM (looseM s L))) ∧ Below w.heap.size w w' := by
  obtain ⟨r, hr⟩ : ∃ r, fbM (looseM s L) = r := ⟨_, rfl⟩
  rw [hr]
  replace hr := hide hr
  obtain ⟨a1, a2, a3, a4, k1, k2, k3, k4, rfl, LI, hcap⟩ := hv
  obtain ⟨g, hg⟩ : ∃ g, w.heap.size = g := ⟨_, rfl⟩
  have h7 : Seven (cells7 a1 a2 a3 a4 k1 k2 k3 k4 s) := ⟨rfl, fun u hu => by simp [cells7] at hu; rcases hu with rfl | rfl | rfl | rfl | rfl | rfl | rfl <;> rfl⟩
  obtain ⟨b1, o1, rfl⟩ : ∃ b o, a1 = some ⟨b, o, none⟩ := by obtain ⟨b, o, h, _⟩ := LI.parties.2 0 (by omega); exact ⟨b, o, h⟩
  go_enter Try.func31, Try.ntmps31
  go_upto_region 2 with (first
    | ((with_reducible refine wpList_at ?_); refine wpList_boxv (by rfl) 27 (.tmp 0) (by rfl) _ (by rfl) ?_; rw [hg]; intro w1 hu1 hz1 hb1; have hx1 : SvAt w1 g _ := hu1)
    | ((with_reducible refine wpList_at ?_); refine wpList_loadV (by rfl) (.tmp 2) (by rfl) _ _ (by rfl) hx1 h7 ?_)
    | ((with_reducible refine wpList_at ?_); refine wpList_varS (by rfl) (by rfl) (by rfl) (.tmp 5) (.tmp 9) (by rfl) _ (by rfl) (by rfl) h7 ?_; intro w2 hv2 hz2 hb2))
  have hX2 := hx1.below hb2
  have hB2 : Below g w w2 := hb1.trans (hb2.mono (by omega))
  rw [hz1] at hv2 hz2 ⊢
  have hT2 : SAt w2 (g + 1) s.id (.slice (some ⟨b1, o1, none⟩) s.parties.length k1) (.slice a2 s.arcs.length k2) (.slice a3 s.leaders.length k3) (.slice a4 s.locks.length k4) s.start s.delta := hv2
  clear hu1 hx1 hb1 hb2 hv2 hz1
  have q3 := hT2.cells.2.2.2.1
  have f3 := hT2.frozen 3
  have hT3 := hide (hT2.set3 (.slice o L.length c))
  have hX3 := hide (hX2.but (But.setCell w2 (g + 1) 3 (.slice o L.length c)) (by omega))
  have hB3 := hide (hB2.setCell (p := ⟨g + 1, 3, none⟩) (by show g ≤ g + 1; omega) (.slice o L.length c))
  have hz3 : Hid ((w2.setCell ⟨g + 1, 3, none⟩ (.slice o L.length c)).heap.size = g + 2) := by show _ = _; simp [World.setCell, hz2]
  clear hT2 hX2 hB2 hz2
  replace LI := hide LI
  replace hL := hide hL
  go_upto_region 3 with fail
  clear q3 f3
  generalize w2.setCell ⟨g + 1, 3, none⟩ (.slice o L.length c) = w3 at hT3 hX3 hB3 hz3 ⊢
  have q4 := hT3.out.cells.2.2.2.2.1
  have f4 := hT3.out.frozen 4
  have hT4 := hide (hT3.out.set4 (.slice none 0 0))
  have hX4 := hide (hX3.out.but (But.setCell w3 (g + 1) 4 (.slice none 0 0)) (by omega))
  have hB4 := hide (hB3.out.setCell (p := ⟨g + 1, 4, none⟩) (by show g ≤ g + 1; omega) (.slice none 0 0))
  have hz4 : Hid ((w3.setCell ⟨g + 1, 4, none⟩ (.slice none 0 0)).heap.size = g + 2) := by show _ = _; simp [World.setCell, hz3.out]
  clear hT3 hX3 hB3 hz3
  go_upto_region 4 with fail
  clear q4 f4
  generalize w3.setCell ⟨g + 1, 4, none⟩ (.slice none 0 0) = w4 at hT4 hX4 hB4 hz4 ⊢
  have c1 : w4.cell? ⟨g, 1, none⟩ = some (.slice (some ⟨b1, o1, none⟩) s.parties.length k1) := (cells7_at hX4.out).2.1
  have q1 := hT4.out.cells.2.1
  have f1 := hT4.out.frozen 1
  obtain ⟨ks, hks, hone, hcell⟩ := parties_cells (LI.out.below (by rw [hg]; exact hB4.out)).parties
  replace hcell := hide hcell
  replace hone := hide hone
  have hz4' := hz4.out
  obtain ⟨i0, hi, hz0, hzs, hzb⟩ := info_parts Try.info52
  replace hi := hide hi
  replace hz0 := hide hz0
  replace hzs := hide hzs
  replace hzb := hide hzb
  go_upto_region 5 with (at_builtin; refine wpList_append_own _ (by rfl) (.const (.slice none 0 0)) (.tmp 14) 23 (by rfl) (g + 2) 52 i0 _ 2 40 Try.underlying23 hi.out hz0.out hzs.out hzb.out rfl (by decide) (.slice none 0 0) 0 [] (by rfl) (World.ownsRow_nil _ _ _ _) ⟨b1, o1, none⟩ s.parties.length k1 (pcells s.parties ks) (by rfl) (pcells_len _ _ hks) hcell.out (pcells_one _ _ hone.out) (by unfold maxLen; omega) (by omega) (by omega) ?_; intro v5 w5 hown5 hg5 _; obtain ⟨v5a, v5c, rfl⟩ := row_slice hown5; have q1' := hg5.cell q1 (by show some (g + 1) ≠ none; simp); have f1' := grown_frozen hg5 (show some (g + 1) ≠ none by simp) q1 f1)
  clear c1 q1 f1 q1' f1' hcell hone hi hz0 hzs hzb
  simp only [Nat.zero_add, List.nil_append] at hown5
  have hT5 := hT4.out.grown hg5 (by show some (g + 1) ≠ none; simp)
  have hB5 : Below g w w5 := hB4.out.grown hg5 (by omega) (fun k hk => by simp [Value.ownBlock] at hk)
  have hsz5 : g + 2 ≤ w5.heap.size := by have := hg5.size; omega
  have hset := But.setCell w5 (g + 1) 1 (.slice v5a s.parties.length v5c)
  have hT6 := hide (hT5.set1 (.slice v5a s.parties.length v5c))
  have hP6 : Hid ((w5.setCell ⟨g + 1, 1, none⟩ (.slice v5a s.parties.length v5c)).ownsRow (g + 2) 52 2 (.slice v5a s.parties.length v5c) s.parties.length (pcells s.parties ks)) := World.ownsRow.kept hown5 hset.grown (row_apart hown5 hT5 (by decide))
  have hB6 := hide (hB5.setCell (p := ⟨g + 1, 1, none⟩) (by show g ≤ g + 1; omega) (.slice v5a s.parties.length v5c))
  have hsz6 : g + 2 ≤ (w5.setCell ⟨g + 1, 1, none⟩ (.slice v5a s.parties.length v5c)).heap.size := by simp [World.setCell]; exact hsz5
  clear hT4 hX4 hB4 hz4 hz4' hown5 hg5 hT5 hB5 hsz5 hset
  generalize w5.setCell ⟨g + 1, 1, none⟩ (.slice v5a s.parties.length v5c) = w6 at hT6 hP6 hB6 hsz6 ⊢
  go_wp2_with fail
  go_loopw [6] (fun i wr => ∃ (k : Nat) (v4 : Value), k ≤ L.length ∧ i = .int .i64 k ∧ SAt wr (g + 1) s.id (.slice v5a s.parties.length v5c) (.slice a2 s.arcs.length k2) (.slice o L.length c) v4 s.start s.delta ∧ OwnS wr (g + 2) v4 (List.replicate k k32) ∧ wr.ownsRow (g + 2) 52 2 (.slice v5a s.parties.length v5c) s.parties.length (pcells s.parties ks) ∧ Below g w wr ∧ g + 2 ≤ wr.heap.size) (fun i _ => L.length - (intOf i).toNat)
  case atStart => exact ⟨0, _, by omega, rfl, hT6.out, World.ownsRow_nil _ _ _ _, hP6.out, hB6.out, hsz6⟩
  case round =>
    clear hT6 hP6 hB6 hsz6
    obtain ⟨k, v4, hk, rfl, hT, hK, hP, hB, hsz⟩ := hrel
    by_cases hlt : k < L.length
    · have j1 : (k : Int) < (L.length : Int) := by omega
      obtain ⟨va, vc, rfl⟩ := row_slice hK
      have hlen : (List.replicate k k32).length = k := by simp
      have hK : wr.ownsRow (g + 2) 9 1 (.slice va k vc) k ((List.replicate k k32).map Value.string) := by have h9 := hK; unfold OwnS at h9; rw [hlen] at h9; exact h9
      rw [hlen] at hT
      have q4 := hT.cells.2.2.2.2.1
      have f4 := hT.frozen 4
      have hlt1 := World.ownsRow.lt hK
      replace hT := hide hT
      replace hK := hide hK
      replace hP := hide hP
      replace hlt1 := hide hlt1
      replace hlen := hide hlen
      have e4 : ∀ ob, (wr.alloc ob).cell? ⟨g + 1, 4, none⟩ = some (.slice va k vc) := fun ob => cell_on ((Below.refl _ _).alloc (Nat.le_refl _) ob) q4
      go_wp2_with (at_builtin; refine wpList_put1 (st := 25) Try.underlying25 Try.info9 rfl (by decide) (by decide) wr _ (by rfl) (.tmp 24) (.tmp 25) (by rfl) (g + 2) _ _ _ (by rfl) hK.out (by rfl) rfl (by intro u hu; simp at hu; subst hu; rfl) (by omega) hsz ?_; intro v7 w7 hown7 hg7; obtain ⟨v7a, v7c, rfl⟩ := row_slice hown7; have hne7 : some (g + 1) ≠ Value.ownBlock (.slice va k vc) := (fun e => by have := (hlt1.out (g + 1) e.symm).1; omega); have q7 := hg7.cell q4 hne7; have f7 := grown_frozen hg7 hne7 q4 f4)
      go_roundw
      case rel =>
        have hT7 := hT.out.grown hg7 hne7
        have hP7 := World.ownsRow.kept hP.out hg7 (rows_apart hP.out hK.out (by decide))
        have hset := But.setCell w7 (g + 1) 4 (.slice v7a (k + 1) v7c)
        have hK7 : OwnS w7 (g + 2) (.slice v7a (k + 1) v7c) (List.replicate (k + 1) k32) := by
          rw [List.replicate_succ']; unfold OwnS; rw [List.length_append, List.map_append, hlen.out]; exact hown7
        have hB7 : Below g w w7 := hB.grown hg7 (by omega) (fun k hk => by have := (hlt1.out k hk).1; omega)
        refine ⟨k + 1, _, by omega, by go_num, hT7.set4 _, hK7.but hset hT7 (by decide), World.ownsRow.kept hP7 hset.grown (row_apart hP7 hT7 (by decide)), hB7.setCell (by show g ≤ g + 1; omega) _, ?_⟩
        have h7 := hg7.size
        have h8 := hset.size
        omega
      case measure => simp [intOf]; omega
    · have j1 : ¬ (k : Int) < (L.length : Int) := by omega
      have hkm : k = L.length := by omega
      rw [hkm] at hK
      replace hT := hide hT
      replace hK := hide hK
      replace hP := hide hP
      replace hB := hide hB
      go_wp2_with fail
      go_loopw [7] (fun i wr => ∃ (i' : Nat) (ks : List Value), i' ≤ s.parties.length ∧ i = .int .i64 i' ∧ ks.length = s.parties.length ∧ wr.ownsRow (g + 2) 52 2 (.slice v5a s.parties.length v5c) s.parties.length (pcells s.parties ks) ∧ (∀ j, j < i' → OwnS wr (g + 2) (ks.getD j undef) (List.replicate L.length k16)) ∧ SAt wr (g + 1) s.id (.slice v5a s.parties.length v5c) (.slice a2 s.arcs.length k2) (.slice o L.length c) v4 s.start s.delta ∧ OwnS wr (g + 2) v4 (List.replicate L.length k32) ∧ Below g w wr ∧ g + 2 ≤ wr.heap.size) (fun i _ => s.parties.length - (intOf i).toNat)
      case atStart => exact ⟨0, ks, by omega, rfl, hks, hP.out, fun j hj => absurd hj (by omega), hT.out, hK.out, hB.out, hsz⟩
      case round =>
        clear hP hT hK hB hsz hks
        obtain ⟨i, ks, hi, rfl, hks, hrw, hdone, hT, hK, hB, hsz⟩ := hrel
        have c1 := hT.cells.2.1
        by_cases hlt' : i < s.parties.length
        · have i1 : (i : Int) < (s.parties.length : Int) := by omega
          obtain ⟨gP, hv5, hgP, hcell⟩ : ∃ gP, v5a = some ⟨gP, 0, none⟩ ∧ g + 2 ≤ gP ∧ ∀ j, j < s.parties.length * 2 → wr.cell? ⟨gP, j, none⟩ = (pcells s.parties ks)[j]? := by
            obtain ⟨a', c', hv, _, _, hx⟩ := row_at hrw
            injection hv with hv _ _
            subst hv
            exact hx (by omega)
          subst hv5
          have e1 : wr.cell? ⟨gP, i * 2 + 1, none⟩ = some (ks.getD i undef) := by rw [hcell _ (by omega), (pcells_at s.parties ks hks i hlt').2]
          have f1 := World.ownsRow.frozenAt hrw (i * 2 + 1)
          obtain ⟨hs1, hg1⟩ := World.ownsRow.stored hrw (i * 2 + 1) (.slice none 0 0)
          rw [pcells_set s.parties ks hks i hlt'] at hs1
          have hset := But.setCell wr gP (i * 2 + 1) (.slice none 0 0)
          obtain ⟨cP, hcP⟩ := row_type hrw (g := gP) rfl
          have hdone1 : ∀ j, j < i → OwnS (wr.setCell ⟨gP, i * 2 + 1, none⟩ (.slice none 0 0)) (g + 2) (ks.getD j undef) (List.replicate L.length k16) := fun j hj => (hdone j hj).but hset hcP (by decide)
          have hT1 := hT.but hset (by omega)
          have hK1 := hK.but hset hcP (by decide)
          have hB1 := hB.setCell (p := ⟨gP, i * 2 + 1, none⟩) (by show g ≤ gP; omega) (.slice none 0 0)
          have hz1 : (wr.setCell ⟨gP, i * 2 + 1, none⟩ (.slice none 0 0)).heap.size = wr.heap.size := by simp [World.setCell]
          replace hs1 := hide hs1
          replace hdone1 := hide hdone1
          replace hT1 := hide hT1
          replace hK1 := hide hK1
          replace hB1 := hide hB1
          replace hz1 := hide hz1
          clear hrw hdone hT hK hB hg1 hset hcP hcell
          go_upto_region 13 with fail
          clear c1 e1 f1
          generalize wr.setCell ⟨gP, i * 2 + 1, none⟩ (.slice none 0 0) = w8 at hs1 hdone1 hT1 hK1 hB1 hz1 ⊢
          have hsz8 : g + 2 ≤ w8.heap.size := by rw [hz1.out]; exact hsz
          obtain ⟨C, hC⟩ : ∃ C, w8.heap.size = C := ⟨_, rfl⟩
          have hgPC : gP < C := by have := (World.ownsRow.lt hs1.out gP rfl).2; omega
          clear hz1 hsz
          go_wp2_with fail
          go_loopw [8] (fun i' wr => ∃ (k : Nat) (kv : Value), k ≤ L.length ∧ i' = .int .i64 k ∧ wr.ownsRow (g + 2) 52 2 (.slice (some ⟨gP, 0, none⟩) s.parties.length v5c) s.parties.length (pcells s.parties (ks.set i kv)) ∧ wr.ownsRow C 9 1 kv k ((List.replicate k k16).map Value.string) ∧ But gP w8 wr) (fun i' _ => L.length - (intOf i').toNat)
          case atStart => exact ⟨0, _, by omega, rfl, hs1.out, World.ownsRow_nil _ _ _ _, But.refl _ _⟩
          case round =>
            obtain ⟨k, kv, hk', rfl, hrw, hkv, hbut⟩ := hrel
            have hTr := hT1.out.but hbut (by omega)
            have c1 := hTr.cells.2.1
            have hCr : C ≤ wr.heap.size := by have := hbut.size; omega
            by_cases hltk : k < L.length
            · have k1' : (k : Int) < (L.length : Int) := by omega
              obtain ⟨va, vc, rfl⟩ := row_slice hkv
              have hlt1 := World.ownsRow.lt hkv
              have cK : wr.cell? ⟨gP, i * 2 + 1, none⟩ = some (.slice va k vc) := by
                rw [World.ownsRow.cellAt hrw _ (by omega), (pcells_at s.parties _ (by simpa using hks) i hlt').2]; simp [List.getD_eq_getElem?_getD, hks, hlt']
              have fK := World.ownsRow.frozenAt hrw (i * 2 + 1)
              replace hrw := hide hrw
              replace hkv := hide hkv
              replace hTr := hide hTr
              replace hlt1 := hide hlt1
              go_wp2_with fail
              refine wp_region_held_drew (S := fun W => W.cell? ⟨g + 1, 1, none⟩ = some (.slice (some ⟨gP, 0, none⟩) s.parties.length v5c)) (by kernel_rfl) c1 (fun hHeld => ?_)
              have rw6 : Hid (wr.drew.ownsRow (g + 2) 52 2 (.slice (some ⟨gP, 0, none⟩) s.parties.length v5c) s.parties.length (pcells s.parties (ks.set i (.slice va k vc)))) := World.ownsRow.drew hrw.out
              have own6 : Hid (wr.drew.ownsRow C 9 1 (.slice va k vc) k ((List.replicate k k16).map Value.string)) := World.ownsRow.drew hkv.out
              have hbut6 : But gP w8 wr.drew := hbut.drew
              have hz6 : C ≤ wr.drew.heap.size := hCr
              have c6 : wr.drew.cell? ⟨gP, i * 2 + 1, none⟩ = some (.slice va k vc) := cK
              have f6 : wr.drew.frozen? ⟨gP, i * 2 + 1, none⟩ = false := fK
              have e6 : wr.drew.cell? ⟨g + 1, 1, none⟩ = some (.slice (some ⟨gP, 0, none⟩) s.parties.length v5c) := c1
              have hlt6 : Hid (∀ g, Value.ownBlock (.slice va k vc) = some g → C ≤ g) := fun g hg => (hlt1.out g hg).1
              generalize wr.drew = w6 at hHeld rw6 own6 hbut6 hz6 c6 f6 e6 ⊢
              clear cK fK c1 hrw hkv hTr hlt1 hbut hCr
              have d6 : ∀ o, (w6.alloc o).cell? ⟨gP, i * 2 + 1, none⟩ = some (.slice va k vc) := fun o => cell_on ((Below.refl _ _).alloc (Nat.le_refl _) o) c6
              have d6' : ∀ o, (w6.alloc o).cell? ⟨g + 1, 1, none⟩ = some (.slice (some ⟨gP, 0, none⟩) s.parties.length v5c) := fun o => cell_on ((Below.refl _ _).alloc (Nat.le_refl _) o) e6
              refine wpAnyH_take (i := 0) (oi := { dst := some 46, op := Op.fieldAddr 27 (Operand.tmp 5) 1, type := 0, pos := "law.go:122", after := #[], guard := none }) (v := ?_) rfl (by kernel_rfl) (by kernel_rfl) (by kernel_rfl) (fun _ _ _ h => h) (Or.inl ⟨by rfl, ?_⟩) (by assumption) ?_
              rotate_left
              · intro W hSW; first | (go_simp; done) | (go_simp; with_reducible rfl)
              try simp only [Act.put, List.setIfInBounds_toArray, List.set_cons_zero, List.set_cons_succ]
              refine wpAnyH_take (i := 1) (oi := { dst := some 47, op := Op.load 23 (Operand.tmp 46), type := 23, pos := "law.go:122", after := #[{ on := 0, ground := Ground.data }], guard := none }) (v := ?_) rfl (by kernel_rfl) (by kernel_rfl) (by kernel_rfl) (fun _ _ _ h => h) (Or.inl ⟨by rfl, ?_⟩) (by assumption) ?_
              rotate_left
              · intro W hSW; first | (go_simp; done) | (go_simp; with_reducible rfl)
              try simp only [Act.put, List.setIfInBounds_toArray, List.set_cons_zero, List.set_cons_succ]
              refine wpAnyH_take (i := 2) (oi := { dst := some 48, op := Op.move (Operand.tmp 7), type := 3, pos := "law.go:122", after := #[], guard := none }) (v := ?_) rfl (by kernel_rfl) (by kernel_rfl) (by kernel_rfl) (fun _ _ _ h => h) (Or.inl ⟨by rfl, ?_⟩) (by assumption) ?_
              rotate_left
              · intro W hSW; first | (go_simp; done) | (go_simp; with_reducible rfl)
              try simp only [Act.put, List.setIfInBounds_toArray, List.set_cons_zero, List.set_cons_succ]
              refine wpAnyH_take (i := 3) (oi := { dst := some 49, op := Op.fieldAddr 27 (Operand.tmp 5) 1, type := 0, pos := "law.go:122", after := #[], guard := none }) (v := ?_) rfl (by kernel_rfl) (by kernel_rfl) (by kernel_rfl) (fun _ _ _ h => h) (Or.inl ⟨by rfl, ?_⟩) (by assumption) ?_
              rotate_left
              · intro W hSW; first | (go_simp; done) | (go_simp; with_reducible rfl)
              try simp only [Act.put, List.setIfInBounds_toArray, List.set_cons_zero, List.set_cons_succ]
              refine wpAnyH_take (i := 4) (oi := { dst := some 50, op := Op.load 23 (Operand.tmp 49), type := 23, pos := "law.go:122", after := #[{ on := 3, ground := Ground.data }], guard := none }) (v := ?_) rfl (by kernel_rfl) (by kernel_rfl) (by kernel_rfl) (fun _ _ _ h => h) (Or.inl ⟨by rfl, ?_⟩) (by assumption) ?_
              rotate_left
              · intro W hSW; first | (go_simp; done) | (go_simp; with_reducible rfl)
              try simp only [Act.put, List.setIfInBounds_toArray, List.set_cons_zero, List.set_cons_succ]
              refine wpAnyH_take (i := 5) (oi := { dst := some 51, op := Op.move (Operand.tmp 7), type := 3, pos := "law.go:122", after := #[], guard := none }) (v := ?_) rfl (by kernel_rfl) (by kernel_rfl) (by kernel_rfl) (fun _ _ _ h => h) (Or.inl ⟨by rfl, ?_⟩) (by assumption) ?_
              rotate_left
              · intro W hSW; first | (go_simp; done) | (go_simp; with_reducible rfl)
              try simp only [Act.put, List.setIfInBounds_toArray, List.set_cons_zero, List.set_cons_succ]
              refine wpAnyH_take (i := 6) (oi := { dst := some 52, op := Op.indexAddr 23 (Operand.tmp 50) (Operand.tmp 51), type := 0, pos := "law.go:122", after := #[{ on := 4, ground := Ground.data }, { on := 5, ground := Ground.data }], guard := none }) (v := ?_) rfl (by kernel_rfl) (by kernel_rfl) (by kernel_rfl) (fun _ _ _ h => h) (Or.inl ⟨by rfl, ?_⟩) (by assumption) ?_
              rotate_left
              · intro W hSW; first | (go_simp; done) | (go_simp; with_reducible rfl)
              try simp only [Act.put, List.setIfInBounds_toArray, List.set_cons_zero, List.set_cons_succ]
              refine wpAnyH_take (i := 7) (oi := { dst := some 53, op := Op.fieldAddr 52 (Operand.tmp 52) 1, type := 0, pos := "law.go:122", after := #[{ on := 6, ground := Ground.data }], guard := none }) (v := ?_) rfl (by kernel_rfl) (by kernel_rfl) (by kernel_rfl) (fun _ _ _ h => h) (Or.inl ⟨by rfl, ?_⟩) (by assumption) ?_
              rotate_left
              · intro W hSW; first | (go_simp; done) | (go_simp; with_reducible rfl)
              try simp only [Act.put, List.setIfInBounds_toArray, List.set_cons_zero, List.set_cons_succ]
              refine wpAnyH_ready (rs := [8, 9]) (by kernel_rfl) (by simp) ?_
              refine AllReadyH.cons (o := { dst := some 54, op := Op.load 25 (Operand.tmp 53), type := 25, pos := "law.go:122", after := #[{ on := 7, ground := Ground.data }], guard := none }) rfl (fun K hK => ?_) (AllReadyH.cons (o := { dst := some 55, op := Op.buildSlice 25 1 #[(0, Operand.const (Value.string { data := #[48, 49, 50, 51, 52, 53, 54, 55, 56, 57, 97, 98, 99, 100, 101, 102] }))], type := 25, pos := "law.go:122", after := #[], guard := none }) rfl (fun K hK => ?_) AllReadyH.nil)
              · go_simp
                refine hK.out _ _ e6 (fun hHeld => ?_)
                clear hK K
                try simp only [Act.put, List.setIfInBounds_toArray, List.set_cons_zero, List.set_cons_succ]
                refine wpAnyH_ready (rs := [9]) (by kernel_rfl) (by simp) ?_
                refine AllReadyH.cons (o := { dst := some 55, op := Op.buildSlice 25 1 #[(0, Operand.const (Value.string { data := #[48, 49, 50, 51, 52, 53, 54, 55, 56, 57, 97, 98, 99, 100, 101, 102] }))], type := 25, pos := "law.go:122", after := #[], guard := none }) rfl (fun K hK => ?_) AllReadyH.nil
                go_simp
                refine hK.out _ _ (d6' _) (fun hHeld => ?_)
                clear hK K
                try simp only [Act.put, List.setIfInBounds_toArray, List.set_cons_zero, List.set_cons_succ]
                refine wpAnyH_ready (rs := [10]) (by kernel_rfl) (by simp) ?_
                refine AllReadyH.cons (o := { dst := some 56, op := Op.call { callee := Callee.builtin Builtin.append, args := #[Operand.tmp 54, Operand.tmp 55], argTypes := #[25, 25] }, type := 25, pos := "law.go:122", after := #[{ on := 8, ground := Ground.data }, { on := 9, ground := Ground.data }], guard := none }) rfl (fun K hK => ?_) AllReadyH.nil
                refine step_put1 (st := 25) Try.underlying25 Try.info9 rfl (by decide) (by decide) w6 _ (by rfl) (.tmp 54) (.tmp 55) (by rfl) C _ _ _ (by rfl) own6.out (by rfl) rfl (by intro u hu; simp at hu; subst hu; rfl) (by omega) hz6 ?_
                intro v7 w7 hown7 hg7
                obtain ⟨v7a, v7c, rfl⟩ := row_slice hown7
                have hneP : some gP ≠ Value.ownBlock (.slice va k vc) := fun e => by have := hlt6.out gP e.symm; omega
                have hneg : some (g + 1) ≠ Value.ownBlock (.slice va k vc) := fun e => by have := hlt6.out (g + 1) e.symm; omega
                have c7 := hg7.cell c6 hneP
                have f7 := grown_frozen hg7 hneP c6 f6
                have e7 := hg7.cell e6 hneg
                replace hown7 := hide hown7
                replace hg7 := hide hg7
                refine hK.out _ _ e7 (fun hHeld => ?_)
                clear hK K
                try simp only [Act.put, List.setIfInBounds_toArray, List.set_cons_zero, List.set_cons_succ]
                refine wpAnyH_take (i := 11) (oi := { dst := some 57, op := Op.indexAddr 23 (Operand.tmp 47) (Operand.tmp 48), type := 0, pos := "law.go:122", after := #[{ on := 1, ground := Ground.data }, { on := 2, ground := Ground.data }, { on := 0, ground := Ground.phase }, { on := 1, ground := Ground.phase }, { on := 2, ground := Ground.phase }, { on := 3, ground := Ground.phase }, { on := 4, ground := Ground.phase }, { on := 5, ground := Ground.phase }, { on := 6, ground := Ground.phase }, { on := 7, ground := Ground.phase }, { on := 8, ground := Ground.phase }, { on := 9, ground := Ground.phase }, { on := 10, ground := Ground.phase }], guard := none }) (v := ?_) rfl (by kernel_rfl) (by kernel_rfl) (by kernel_rfl) (fun _ _ _ h => h) (Or.inl ⟨by rfl, ?_⟩) (by assumption) ?_
                rotate_left
                · intro W hSW; first | (go_simp; done) | (go_simp; with_reducible rfl)
                try simp only [Act.put, List.setIfInBounds_toArray, List.set_cons_zero, List.set_cons_succ]
                refine wpAnyH_take (i := 12) (oi := { dst := some 58, op := Op.fieldAddr 52 (Operand.tmp 57) 1, type := 0, pos := "law.go:122", after := #[{ on := 11, ground := Ground.data }, { on := 0, ground := Ground.phase }, { on := 1, ground := Ground.phase }, { on := 2, ground := Ground.phase }, { on := 3, ground := Ground.phase }, { on := 4, ground := Ground.phase }, { on := 5, ground := Ground.phase }, { on := 6, ground := Ground.phase }, { on := 7, ground := Ground.phase }, { on := 8, ground := Ground.phase }, { on := 9, ground := Ground.phase }, { on := 10, ground := Ground.phase }], guard := none }) (v := ?_) rfl (by kernel_rfl) (by kernel_rfl) (by kernel_rfl) (fun _ _ _ h => h) (Or.inl ⟨by rfl, ?_⟩) (by assumption) ?_
                rotate_left
                · intro W hSW; first | (go_simp; done) | (go_simp; with_reducible rfl)
                try simp only [Act.put, List.setIfInBounds_toArray, List.set_cons_zero, List.set_cons_succ]
                refine wpAnyH_ready (rs := [13]) (by kernel_rfl) (by simp) ?_
                refine AllReadyH.cons (o := { dst := none, op := Op.store 25 (Operand.tmp 58) (Operand.tmp 56), type := 0, pos := "law.go:122", after := #[{ on := 12, ground := Ground.data }, { on := 10, ground := Ground.data }, { on := 10, ground := Ground.chain }, { on := 0, ground := Ground.phase }, { on := 1, ground := Ground.phase }, { on := 2, ground := Ground.phase }, { on := 3, ground := Ground.phase }, { on := 4, ground := Ground.phase }, { on := 5, ground := Ground.phase }, { on := 6, ground := Ground.phase }, { on := 7, ground := Ground.phase }, { on := 8, ground := Ground.phase }, { on := 9, ground := Ground.phase }, { on := 10, ground := Ground.phase }], guard := none }) rfl (fun K hK => ?_) AllReadyH.nil
                go_simp
                refine hK.out _ _ ((But.setCell w7 gP (i * 2 + 1) _).cell (show g + 1 ≠ gP by omega) e7) (fun hHeld => ?_)
                clear hK K
                try simp only [Act.put, List.setIfInBounds_toArray, List.set_cons_zero, List.set_cons_succ]
                refine wpAnyH_done (by kernel_rfl) ?_ _
                go_wp2_with fail
                go_roundw
                case rel =>
                  have rw7 := World.ownsRow.kept rw6.out hg7.out (rows_apart rw6.out own6.out (by decide))
                  obtain ⟨hs8, hg8⟩ := World.ownsRow.stored rw7 (i * 2 + 1) (.slice v7a (k + 1) v7c)
                  rw [pcells_set s.parties _ (by simpa using hks) i hlt', List.set_set] at hs8
                  have hset := But.setCell w7 gP (i * 2 + 1) (.slice v7a (k + 1) v7c)
                  obtain ⟨cP, hcP⟩ := row_type rw7 (g := gP) rfl
                  have hK7 : w7.ownsRow C 9 1 (.slice v7a (k + 1) v7c) (k + 1) ((List.replicate (k + 1) k16).map Value.string) := by
                    rw [List.replicate_succ', List.map_append]; exact hown7.out
                  have hb4 : But gP w8 w7 := by
                    refine ⟨hg7.out.os.trans hbut6.os, hg7.out.tape.trans hbut6.tape, hg7.out.output.trans hbut6.output, Nat.le_trans hbut6.size hg7.out.size, fun b hb hne => (hg7.out.block b (Nat.lt_of_lt_of_le hb hbut6.size) (fun e => ?_)).trans (hbut6.block b hb hne)⟩
                    have := hlt6.out b e.symm; omega
                  exact ⟨k + 1, _, by omega, by go_num, hs8, World.ownsRow.kept hK7 hset.grown (row_apart hK7 hcP (by decide)), hb4.trans hset⟩
                case measure => simp [intOf]; omega
              · go_simp
                refine hK.out _ _ (d6' _) (fun hHeld => ?_)
                clear hK K
                try simp only [Act.put, List.setIfInBounds_toArray, List.set_cons_zero, List.set_cons_succ]
                refine wpAnyH_ready (rs := [8]) (by kernel_rfl) (by simp) ?_
                refine AllReadyH.cons (o := { dst := some 54, op := Op.load 25 (Operand.tmp 53), type := 25, pos := "law.go:122", after := #[{ on := 7, ground := Ground.data }], guard := none }) rfl (fun K hK => ?_) AllReadyH.nil
                go_simp
                refine hK.out _ _ (d6' _) (fun hHeld => ?_)
                clear hK K
                try simp only [Act.put, List.setIfInBounds_toArray, List.set_cons_zero, List.set_cons_succ]
                refine wpAnyH_ready (rs := [10]) (by kernel_rfl) (by simp) ?_
                refine AllReadyH.cons (o := { dst := some 56, op := Op.call { callee := Callee.builtin Builtin.append, args := #[Operand.tmp 54, Operand.tmp 55], argTypes := #[25, 25] }, type := 25, pos := "law.go:122", after := #[{ on := 8, ground := Ground.data }, { on := 9, ground := Ground.data }], guard := none }) rfl (fun K hK => ?_) AllReadyH.nil
                refine step_put1 (st := 25) Try.underlying25 Try.info9 rfl (by decide) (by decide) w6 _ (by rfl) (.tmp 54) (.tmp 55) (by rfl) C _ _ _ (by rfl) own6.out (by rfl) rfl (by intro u hu; simp at hu; subst hu; rfl) (by omega) hz6 ?_
                intro v7 w7 hown7 hg7
                obtain ⟨v7a, v7c, rfl⟩ := row_slice hown7
                have hneP : some gP ≠ Value.ownBlock (.slice va k vc) := fun e => by have := hlt6.out gP e.symm; omega
                have hneg : some (g + 1) ≠ Value.ownBlock (.slice va k vc) := fun e => by have := hlt6.out (g + 1) e.symm; omega
                have c7 := hg7.cell c6 hneP
                have f7 := grown_frozen hg7 hneP c6 f6
                have e7 := hg7.cell e6 hneg
                replace hown7 := hide hown7
                replace hg7 := hide hg7
                refine hK.out _ _ e7 (fun hHeld => ?_)
                clear hK K
                try simp only [Act.put, List.setIfInBounds_toArray, List.set_cons_zero, List.set_cons_succ]
                refine wpAnyH_take (i := 11) (oi := { dst := some 57, op := Op.indexAddr 23 (Operand.tmp 47) (Operand.tmp 48), type := 0, pos := "law.go:122", after := #[{ on := 1, ground := Ground.data }, { on := 2, ground := Ground.data }, { on := 0, ground := Ground.phase }, { on := 1, ground := Ground.phase }, { on := 2, ground := Ground.phase }, { on := 3, ground := Ground.phase }, { on := 4, ground := Ground.phase }, { on := 5, ground := Ground.phase }, { on := 6, ground := Ground.phase }, { on := 7, ground := Ground.phase }, { on := 8, ground := Ground.phase }, { on := 9, ground := Ground.phase }, { on := 10, ground := Ground.phase }], guard := none }) (v := ?_) rfl (by kernel_rfl) (by kernel_rfl) (by kernel_rfl) (fun _ _ _ h => h) (Or.inl ⟨by rfl, ?_⟩) (by assumption) ?_
                rotate_left
                · intro W hSW; first | (go_simp; done) | (go_simp; with_reducible rfl)
                try simp only [Act.put, List.setIfInBounds_toArray, List.set_cons_zero, List.set_cons_succ]
                refine wpAnyH_take (i := 12) (oi := { dst := some 58, op := Op.fieldAddr 52 (Operand.tmp 57) 1, type := 0, pos := "law.go:122", after := #[{ on := 11, ground := Ground.data }, { on := 0, ground := Ground.phase }, { on := 1, ground := Ground.phase }, { on := 2, ground := Ground.phase }, { on := 3, ground := Ground.phase }, { on := 4, ground := Ground.phase }, { on := 5, ground := Ground.phase }, { on := 6, ground := Ground.phase }, { on := 7, ground := Ground.phase }, { on := 8, ground := Ground.phase }, { on := 9, ground := Ground.phase }, { on := 10, ground := Ground.phase }], guard := none }) (v := ?_) rfl (by kernel_rfl) (by kernel_rfl) (by kernel_rfl) (fun _ _ _ h => h) (Or.inl ⟨by rfl, ?_⟩) (by assumption) ?_
                rotate_left
                · intro W hSW; first | (go_simp; done) | (go_simp; with_reducible rfl)
                try simp only [Act.put, List.setIfInBounds_toArray, List.set_cons_zero, List.set_cons_succ]
                refine wpAnyH_ready (rs := [13]) (by kernel_rfl) (by simp) ?_
                refine AllReadyH.cons (o := { dst := none, op := Op.store 25 (Operand.tmp 58) (Operand.tmp 56), type := 0, pos := "law.go:122", after := #[{ on := 12, ground := Ground.data }, { on := 10, ground := Ground.data }, { on := 10, ground := Ground.chain }, { on := 0, ground := Ground.phase }, { on := 1, ground := Ground.phase }, { on := 2, ground := Ground.phase }, { on := 3, ground := Ground.phase }, { on := 4, ground := Ground.phase }, { on := 5, ground := Ground.phase }, { on := 6, ground := Ground.phase }, { on := 7, ground := Ground.phase }, { on := 8, ground := Ground.phase }, { on := 9, ground := Ground.phase }, { on := 10, ground := Ground.phase }], guard := none }) rfl (fun K hK => ?_) AllReadyH.nil
                go_simp
                refine hK.out _ _ ((But.setCell w7 gP (i * 2 + 1) _).cell (show g + 1 ≠ gP by omega) e7) (fun hHeld => ?_)
                clear hK K
                try simp only [Act.put, List.setIfInBounds_toArray, List.set_cons_zero, List.set_cons_succ]
                refine wpAnyH_done (by kernel_rfl) ?_ _
                go_wp2_with fail
                go_roundw
                case rel =>
                  have rw7 := World.ownsRow.kept rw6.out hg7.out (rows_apart rw6.out own6.out (by decide))
                  obtain ⟨hs8, hg8⟩ := World.ownsRow.stored rw7 (i * 2 + 1) (.slice v7a (k + 1) v7c)
                  rw [pcells_set s.parties _ (by simpa using hks) i hlt', List.set_set] at hs8
                  have hset := But.setCell w7 gP (i * 2 + 1) (.slice v7a (k + 1) v7c)
                  obtain ⟨cP, hcP⟩ := row_type rw7 (g := gP) rfl
                  have hK7 : w7.ownsRow C 9 1 (.slice v7a (k + 1) v7c) (k + 1) ((List.replicate (k + 1) k16).map Value.string) := by
                    rw [List.replicate_succ', List.map_append]; exact hown7.out
                  have hb4 : But gP w8 w7 := by
                    refine ⟨hg7.out.os.trans hbut6.os, hg7.out.tape.trans hbut6.tape, hg7.out.output.trans hbut6.output, Nat.le_trans hbut6.size hg7.out.size, fun b hb hne => (hg7.out.block b (Nat.lt_of_lt_of_le hb hbut6.size) (fun e => ?_)).trans (hbut6.block b hb hne)⟩
                    have := hlt6.out b e.symm; omega
                  exact ⟨k + 1, _, by omega, by go_num, hs8, World.ownsRow.kept hK7 hset.grown (row_apart hK7 hcP (by decide)), hb4.trans hset⟩
                case measure => simp [intOf]; omega
            · have k1' : ¬ (k : Int) < (L.length : Int) := by omega
              have hkm' : k = L.length := by omega
              rw [hkm'] at hkv
              replace hrw := hide hrw
              replace hkv := hide hkv
              replace hTr := hide hTr
              go_wp2_with fail
              go_roundw
              case rel =>
                obtain ⟨cP, hcP⟩ : ∃ cur, w8.heap[gP]? = some (.cells cur 52 (0, 0)) := row_type hs1.out (g := gP) rfl
                refine ⟨i + 1, ks.set i kv, by omega, by go_num, by simpa using hks, hrw.out, fun j hj => ?_, hTr.out, hK1.out.but hbut hcP (by decide), hB1.out.trans (hbut.below (by omega) (by omega)), by omega⟩
                by_cases hji : j = i
                · subst hji
                  rw [show (ks.set j kv).getD j undef = kv by simp [List.getD_eq_getElem?_getD, hks, hlt']]
                  have h9 : OwnS wr C kv (List.replicate L.length k16) := by unfold OwnS; rw [List.length_replicate]; exact hkv.out
                  exact h9.base (by omega)
                · rw [show (ks.set i kv).getD j undef = ks.getD j undef by simp [List.getD_eq_getElem?_getD, List.getElem?_set_ne (fun e => hji e.symm)]]
                  exact (hdone1.out j (by omega)).but hbut hcP (by decide)
              case measure => simp [intOf]; omega
        · have i1 : ¬ (i : Int) < (s.parties.length : Int) := by omega
          have hi' : i = s.parties.length := by omega
          have hPR : PRow wr (g + 2) (.slice v5a s.parties.length v5c) (looseM s L).parties := by
            have hl : (looseM s L).parties.length = s.parties.length := by simp [looseM]
            refine ⟨ks, by rw [hl]; exact hks, ?_, fun j hj => ?_⟩
            · rw [hl, pcells_accs _ s.parties _ (by simp [looseM])]; exact hrw
            · rw [hl] at hj
              rw [show ((looseM s L).parties.getD j noParty).keys = List.replicate L.length k16 by simp [looseM, List.getD_eq_getElem?_getD, List.getElem?_eq_getElem hj]]
              exact hdone j (by omega)
          obtain ⟨A1, C1, hV1, x1, y1, L1⟩ := hPR.parties (by simp [looseM]; omega) (fun j hj => by
            have hj' : j < s.parties.length := by simpa [looseM] using hj
            have h9 := (hs.pa j hj').1
            rw [show (looseM s L).parties.getD j noParty = ⟨(s.parties.getD j noParty).acc, List.replicate L.length k16⟩ by simp [looseM, List.getD_eq_getElem?_getD, List.getElem?_eq_getElem hj']]
            refine ⟨h9, by simp; omega, fun i hi => ?_⟩
            have hi2 : i < L.length := by simpa using hi
            rw [show (List.replicate L.length k16).getD i ByteArray.empty = k16 by simp [List.getD_eq_getElem?_getD, hi2]]
            decide)
          obtain ⟨A4, C4, hV4, x4, y4, L4⟩ := hK.strs (by simp; omega) (fun i hi => by
            have hi2 : i < L.length := by simpa using hi
            rw [show (List.replicate L.length k32).getD i ByteArray.empty = k32 by simp [List.getD_eq_getElem?_getD, hi2]]
            decide)
          have LI' := LI.out.below (w' := wr) (by rw [hg]; exact hB)
          have hW : SpecW wr (.agg (scells s.id (.slice v5a s.parties.length v5c) (.slice a2 s.arcs.length k2) (.slice o L.length c) v4 s.start s.delta)) (looseM s L) := by
            rw [hV1, hV4]
            exact ⟨A1, a2, o, A4, C1, k2, c, C4, rfl, ⟨LI'.id, L1, LI'.arcs, hL.out.below (by rw [hg]; exact hB), L4, LI'.start, LI'.delta⟩, x1, y1, hcap.2.2.1, hcap.2.2.2.1, hLc, hcm⟩
          obtain ⟨cs, hcs, h7'⟩ := hW.seven
          injection hcs with hcs
          have hvT : SvAt wr (g + 1) cs := by rw [← hcs]; exact hT
          rw [hcs] at hW
          have HF := feedback_any hW
          rw [hr.out] at HF
          replace HF := hide HF
          clear hPR hW LI' L1 L4 hrw hdone hT hK hcs hV1 hV4 x1 y1 x4 y4
          go_wp2_with ((with_reducible refine wpList_at ?_); refine wpList_loadV (by rfl) (.tmp 5) (by rfl) _ cs (by rfl) hvT h7' ?_)
          refine HF.out.mono ?_
          rintro e w9 ⟨rfl, hb9⟩
          go_wp2
          go_ret
          rw [hg]
          exact ⟨rfl, hB.trans (hb9.mono (by have := hvT.lt; omega))⟩

end Go.Proofs.Ythoimecljfcjmaa
