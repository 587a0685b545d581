/-
  The statements' locks and keys by numbers, and a swap's cells in a block.
-/
import Derived.Test.YthdnldbkpllciaaZ00
import Derived.Test.YthdnldbkpllciaaRef
import Derived.Test.YthdnldbkpllciaaZ10
import Derived.Test.YthdnldbkpllciaaZ14
import Derived.Test.YthdnldbkpllciaaSpMk
import Derived.Test.YthdnldbkpllciaaZ11
import Derived.BigQuiet
import Derived.Deep.QuietTactic
namespace Go.Proofs.Ythdnldbkpllciaa
open Go.RowKit

def secretB (k : Nat) : List UInt8 := [115, 101, 99, 114, 101, 116, UInt8.ofNat (48 + k)]
def seedB (k : Nat) : List UInt8 := [115, 101, 101, 100, UInt8.ofNat (48 + k)]
def lockOf (k : Nat) : ByteArray := ⟨(digest (secretB k)).toArray⟩
def keyOf (i k : Nat) : ByteArray := ⟨(publicOf (seedB i) k).toArray⟩
def locksL (m : Nat) : List ByteArray := (List.range m).map lockOf
def keysL (i m : Nat) : List ByteArray := (List.range m).map (keyOf i)
def withKeys (P : List PartyM) (m : Nat) : List PartyM := P.mapIdx fun i p => ⟨p.acc, keysL i m⟩
theorem locksL_succ (m : Nat) : locksL (m + 1) = locksL m ++ [lockOf m] := by unfold locksL; rw [List.range_succ, List.map_append]; rfl
theorem keysL_succ (i m : Nat) : keysL i (m + 1) = keysL i m ++ [keyOf i m] := by unfold keysL; rw [List.range_succ, List.map_append]; rfl
theorem locksL_len (m : Nat) : (locksL m).length = m := by simp [locksL]
theorem keysL_len (i m : Nat) : (keysL i m).length = m := by simp [keysL]
theorem lockOf_size (k : Nat) : (lockOf k).size = 32 := by unfold lockOf; rw [mk_size, digest_length]
theorem short_len16 (l : List UInt8) : (short l).length = 16 := by unfold short; rw [List.length_take, digest_length]; rfl
theorem keyOf_size (i k : Nat) : (keyOf i k).size = 16 := by unfold keyOf; rw [mk_size]; exact short_len16 _

theorem secret_sum (k : Nat) (hk : k < 10) : ∃ d x : ByteArray, x = lockOf k ∧ (∀ w, Calls Try.prog 42 #[.int .i64 (k : Int)] w fun e w' => e = .returned (.string d) ∧ w' = w)
    ∧ ∀ w, Calls Try.prog 41 #[.string d] w fun e w' => e = .returned (.string x) ∧ Below w.heap.size w w' := by
  obtain ⟨d, hd, hs, H⟩ := secret_ex k hk
  exact ⟨d, _, rfl, H, fun w => (refsum_any d (by omega) w).mono (fun e w' h => ⟨by rw [h.1, hd]; rfl, h.2⟩)⟩
theorem seed_public (i k : Nat) (hi : i < 10) (hk : k ≤ 255) : ∃ d x : ByteArray, x = keyOf i k ∧ (∀ w, Calls Try.prog 44 #[.int .i64 (i : Int)] w fun e w' => e = .returned (.string d) ∧ w' = w)
    ∧ ∀ w, Calls Try.prog 43 #[.string d, .int .i64 (k : Int)] w fun e w' => e = .returned (.string x) ∧ Below w.heap.size w w' := by
  obtain ⟨d, hd, hs, H⟩ := seed_ex i hi
  refine ⟨d, _, rfl, H, fun w => (refpublic_any d k (by omega) hk w).mono (fun e w' h => ?_)⟩
  obtain ⟨x, hx, he, hb⟩ := h
  refine ⟨?_, hb⟩
  rw [he]
  congr 2
  apply ByteArray.ext
  rw [← Array.toList_inj, hx, hd]; rfl

theorem pcells_set (P : List PartyM) (ks : List Value) (h : ks.length = P.length) (i : Nat) (hi : i < P.length) (u : Value) : (pcells P ks).set (i * 2 + 1) u = pcells P (ks.set i u) := by
  unfold pcells
  induction P generalizing ks i with
  | nil => simp at hi
  | cons p P ih =>
    cases ks with
    | nil => simp at h
    | cons k ks =>
      rw [List.zipWith_cons_cons, List.flatten_cons]
      cases i with
      | zero => simp
      | succ i =>
        have h9 := ih ks (by simpa using h) i (by simpa using hi)
        rw [List.set_cons_succ, List.zipWith_cons_cons, List.flatten_cons, ← h9]
        simp [show (i + 1) * 2 + 1 = (i * 2 + 1) + 1 + 1 by omega]
theorem pcells_accs (P Q : List PartyM) (ks : List Value) (h : P.map PartyM.acc = Q.map PartyM.acc) : pcells P ks = pcells Q ks := by
  unfold pcells
  induction P generalizing Q ks with
  | nil =>
    cases Q with
    | nil => rfl
    | cons q Q => simp at h
  | cons p P ih =>
    cases Q with
    | nil => simp at h
    | cons q Q =>
      simp at h
      cases ks with
      | nil => rfl
      | cons k ks => rw [List.zipWith_cons_cons, List.zipWith_cons_cons, List.flatten_cons, List.flatten_cons, ih Q ks h.2, h.1]
theorem withKeys_len (P : List PartyM) (m : Nat) : (withKeys P m).length = P.length := by simp [withKeys]
theorem withKeys_accs (P : List PartyM) (m : Nat) : (withKeys P m).map PartyM.acc = P.map PartyM.acc := by
  apply List.ext_getElem? ; intro i; simp [withKeys, List.getElem?_mapIdx]
  cases P[i]? <;> rfl
theorem withKeys_keys (P : List PartyM) (m j : Nat) (h : j < P.length) : ((withKeys P m).getD j noParty).keys = keysL j m := by
  simp [withKeys, List.getD_eq_getElem?_getD, List.getElem?_mapIdx, List.getElem?_eq_getElem h]
theorem withKeys_acc (P : List PartyM) (m j : Nat) (h : j < P.length) : ((withKeys P m).getD j noParty).acc = (P.getD j noParty).acc := by
  simp [withKeys, List.getD_eq_getElem?_getD, List.getElem?_mapIdx, List.getElem?_eq_getElem h]

theorem sizeSpecK : (Try.prog.info? 27).map (·.size) = some 7 := by kernel_rfl
theorem results_one {fn : Func} {p : Tmp} {ty : TypeId} (h : fn.results = #[.cell p ty]) (tmps : Array Value) (w : World) (g : Nat) (t : TypeId) (cs : Array Value) (fr : Nat × Nat) (d : Array Field)
    (hp : tmps.getD p undef = .pointer (some ⟨g, 0, none⟩)) (hg : w.heap[g]? = some (.cells cs t fr))
    (hu : Try.prog.underlying ty = some (.struct d)) (hi : (Try.prog.info? ty).map (·.size) = some cs.size) :
    (results fn tmps).run Try.prog w = .ok (.agg cs) w := by
  have hp' : tmps[p]?.getD undef = .pointer (some ⟨g, 0, none⟩) := by simpa using hp
  simp [results, h, hp', asAddr, run_loadVar_row w g t ty cs fr (.struct d) hg hu rfl hi]
/-- A struct is loaded whole. -/
theorem wpList_loadS {ops : Array Oper} {rest : List Oper} {o : Oper} {a : Act} {w : World} {Q : Exit → Act → World → Prop} (hgd : o.guard = none) (ty : TypeId) (x : Operand) (ho : o.op = .load ty x)
    (g : Nat) (t : TypeId) (cs : Array Value) (fr : Nat × Nat) (d : Array Field) (hx : a.eval x = .pointer (some ⟨g, 0, none⟩)) (hg : w.heap[g]? = some (.cells cs t fr))
    (hu : Try.prog.underlying ty = some (.struct d)) (hi : (Try.prog.info? ty).map (·.size) = some cs.size)
    (h : wpList Try.prog ops Q rest (a.put o.dst (.agg cs)) w) : wpList Try.prog ops Q (o :: rest) a w :=
  wpList_plain hgd fun _ hK => by
    unfold Oper.wp execOp
    simp only [ho, hx, Instr.loadAt, Instr.sureAddr, Sem.run_bind, Sem.run_pure, Result.andThen_ok, run_loadVar_row w g t ty cs fr (.struct d) hg hu rfl hi]
    exact hK _ _ h
/-- A struct is written whole into its block. -/
theorem wpList_storeS {ops : Array Oper} {rest : List Oper} {o : Oper} {a : Act} {w : World} {Q : Exit → Act → World → Prop} (hgd : o.guard = none) (x y : Operand) (ho : o.op = .store 27 x y)
    (g : Nat) (id i0 : ByteArray) (v1 v2 v3 v4 u1 u2 u3 u4 : Value) (st de s0 d0 : Int) (hx : a.eval x = .pointer (some ⟨g, 0, none⟩)) (hy : a.eval y = .agg (scells id v1 v2 v3 v4 st de)) (hg : SAt w g i0 u1 u2 u3 u4 s0 d0)
    (h1 : v1.oneCell' = true) (h2 : v2.oneCell' = true) (h3 : v3.oneCell' = true) (h4 : v4.oneCell' = true)
    (h : ∀ w1, SAt w1 g id v1 v2 v3 v4 st de → w1.heap.size = w.heap.size → But g w w1 → wpList Try.prog ops Q rest (a.put o.dst undef) w1) : wpList Try.prog ops Q (o :: rest) a w := by
  refine wpList_splice hgd 27 x y ho g 0 (scells id v1 v2 v3 v4 st de) _ hx hy rfl 27 [.string i0, u1, u2, u3, u4, .int .i64 s0, .int .i64 d0] hg sizeSpecK (by simp [scells]) ?_ ?_
  · intro u hu
    simp [scells] at hu
    rcases hu with rfl | rfl | rfl | rfl | rfl | rfl | rfl
    · rfl
    · exact h1
    · exact h2
    · exact h3
    · exact h4
    · rfl
    · rfl
  · intro w1 hc hz hb
    refine h w1 ?_ hz hb
    unfold Cells at hc
    unfold SAt
    rw [hc]; rfl

end Go.Proofs.Ythdnldbkpllciaa

/-
  The document's Check of chapter 4: names, leaders.
-/
namespace Go.Proofs.Ythdnldbkpllciaa
open Go.RowKit

set_option maxHeartbeats 400000 in
theorem refname_any (s : ByteArray) (w : World) : Calls Try.prog 100 #[.string s] w fun e w' => e = .returned (.bool (told (nameOk s))) ∧ w' = w := by
  obtain ⟨r, hr⟩ : ∃ r, told (nameOk s) = r := ⟨_, rfl⟩
  have HR : Hid (told (1 ≤ s.size ∧ s.size ≤ 16) = r) := hr
  rw [hr]
  clear hr
  by_cases h1 : 1 ≤ s.size
  · have h1' : (1 : Int) ≤ (s.size : Int) := by omega
    by_cases h2 : s.size ≤ 16
    · have h2' : (s.size : Int) ≤ 16 := by omega
      go_enter Try.func100, Try.ntmps100
      go_wp2
      go_ret
      exact ⟨ret_bool (by rw [← HR.out, told_yes ⟨h1, h2⟩]), rfl⟩
    · have h2' : ¬ (s.size : Int) ≤ 16 := by omega
      go_enter Try.func100, Try.ntmps100
      go_wp2
      go_ret
      exact ⟨ret_bool (by rw [← HR.out, told_no (fun h => h2 h.2)]), rfl⟩
  · have h1' : ¬ (1 : Int) ≤ (s.size : Int) := by omega
    go_enter Try.func100, Try.ntmps100
    go_wp2
    go_ret
    exact ⟨ret_bool (by rw [← HR.out, told_no (fun h => h1 h.1)]), rfl⟩

set_option maxRecDepth 10000 in
set_option maxHeartbeats 1000000 in
theorem refleaders_any {w : World} {v : Value} {s : SpecM} (hv : SpecV w v s) : Calls Try.prog 101 #[v] w fun e w' => e = .returned (.bool (told (leadersOk s))) ∧ Below w.heap.size w w' := by
  obtain ⟨a1, a2, a3, a4, c1, c2, c3, c4, rfl, L⟩ := hv
  obtain ⟨r, hr⟩ : ∃ r, told (leadersOk s) = r := ⟨_, rfl⟩
  have HR : Hid (told (leadersOk s) = r) := hr
  rw [hr]
  clear hr
  generalize hg : w.heap.size = g
  have hL1 := L.leaders.2.1
  have hL2 := L.locks.2.1
  have hL3 := L.parties.1
  unfold maxLen at hL1 hL2 hL3
  by_cases h1 : s.leaders.length < 1
  · have h1' : (s.leaders.length : Int) < 1 := by omega
    go_enter Try.func101, Try.ntmps101
    go_wp2_with ((with_reducible refine wpList_at ?_); refine wpList_boxv (by rfl) 27 (.tmp 0) (by rfl) _ (by rfl) ?_; rw [hg]; intro w1 hg1 hz1 hb1; obtain ⟨q0, q1, q2, q3, q4, q5, q6⟩ := cells7_at hg1)
    go_ret
    exact ⟨ret_bool (by rw [← HR.out, told_no (fun h => by have := h.1; omega)]), hb1⟩
  have h1' : ¬ (s.leaders.length : Int) < 1 := by omega
  by_cases h2 : 3 < s.leaders.length
  · have h2' : (3 : Int) < (s.leaders.length : Int) := by omega
    go_enter Try.func101, Try.ntmps101
    go_wp2_with ((with_reducible refine wpList_at ?_); refine wpList_boxv (by rfl) 27 (.tmp 0) (by rfl) _ (by rfl) ?_; rw [hg]; intro w1 hg1 hz1 hb1; obtain ⟨q0, q1, q2, q3, q4, q5, q6⟩ := cells7_at hg1)
    go_ret
    exact ⟨ret_bool (by rw [← HR.out, told_no (fun h => by have := h.2.1; omega)]), hb1⟩
  have h2' : ¬ (3 : Int) < (s.leaders.length : Int) := by omega
  by_cases h3 : s.locks.length ≠ s.leaders.length
  · have h3' : ((s.locks.length : Int) != (s.leaders.length : Int)) = true := nat_ne h3
    go_enter Try.func101, Try.ntmps101
    go_wp2_with ((with_reducible refine wpList_at ?_); refine wpList_boxv (by rfl) 27 (.tmp 0) (by rfl) _ (by rfl) ?_; rw [hg]; intro w1 hg1 hz1 hb1; obtain ⟨q0, q1, q2, q3, q4, q5, q6⟩ := cells7_at hg1)
    go_ret
    exact ⟨ret_bool (by rw [← HR.out, told_no (fun h => h3 h.2.2.1)]), hb1⟩
  have h3e : s.locks.length = s.leaders.length := by omega
  have h3' : ((s.locks.length : Int) != (s.leaders.length : Int)) = false := nat_same h3e
  go_enter Try.func101, Try.ntmps101
  go_wp2_with ((with_reducible refine wpList_at ?_); refine wpList_boxv (by rfl) 27 (.tmp 0) (by rfl) _ (by rfl) ?_; rw [hg]; intro w1 hg1 hz1 hb1; obtain ⟨q0, q1, q2, q3, q4, q5, q6⟩ := cells7_at hg1)
  have L1 : Lies w1 a1 a2 a3 a4 s := L.below (by rw [hg]; exact hb1)
  have Q1 : Hid (w1.cell? ⟨g, 1, none⟩ = some (.slice a1 s.parties.length c1)) := q1
  have Q3 : Hid (w1.cell? ⟨g, 3, none⟩ = some (.slice a3 s.leaders.length c3)) := q3
  have Q4 : Hid (w1.cell? ⟨g, 4, none⟩ = some (.slice a4 s.locks.length c4)) := q4
  have HL1 : Hid (Lies w1 a1 a2 a3 a4 s) := L1
  clear L L1 hg1 hz1 q0 q1 q2 q3 q4 q5 q6
  go_loopw [4] (fun i wr => ∃ k : Nat, k ≤ s.leaders.length ∧ i = .int .i64 k ∧ Hid (∀ j, j < k → leaderOk s j) ∧ Still w1 wr) (fun i _ => s.leaders.length - (intOf i).toNat)
  case atStart => exact ⟨0, by omega, rfl, fun j hj => absurd hj (by omega), Still.refl _⟩
  case round =>
    obtain ⟨i, hi, rfl, HO, hst⟩ := hrel
    by_cases hlt : i < s.leaders.length
    · have i1 : (i : Int) < (s.leaders.length : Int) := by omega
      obtain ⟨b3, o3, rfl, d3⟩ := HL1.out.leaders.2.2.2 i hlt
      obtain ⟨b4, o4, rfl, d4⟩ := HL1.out.locks.2.2.2 i (by omega)
      have HO' : Hid (leaderOk s i = (0 ≤ s.leaders.getD i 0 ∧ s.leaders.getD i 0 < (s.parties.length : Int) ∧ (s.locks.getD i ByteArray.empty).size = 32 ∧ ∀ k, k < i → s.leaders.getD k 0 ≠ s.leaders.getD i 0)) := (rfl : _ = _)
      generalize hx : s.leaders.getD i 0 = x at d3 HO'
      generalize ht : s.locks.getD i ByteArray.empty = t at d4 HO'
      have i4 : (i : Int) < (s.locks.length : Int) := by omega
      have D3 : Hid (w1.cell? ⟨b3, o3 + i, none⟩ = some (.int .i64 x)) := d3
      replace d3 := hst.cell d3
      replace d4 := hst.cell d4
      have q1 := hst.cell Q1.out
      have q3 := hst.cell Q3.out
      have q4 := hst.cell Q4.out
      clear hx ht
      by_cases x0 : x < 0
      · go_wp2
        go_quiet (fail)
        go_wp2
        go_ret
        exact ⟨ret_bool (by rw [← HR.out, told_no (fun h => by have := h.2.2.2 i hlt; rw [HO'.out] at this; omega)]), below_drewN (hst.below hb1) _⟩
      have x0' : decide (x < 0) = false := decide_eq_false x0
      by_cases x1 : (s.parties.length : Int) ≤ x
      · go_wp2
        go_quiet (fail)
        go_wp2
        go_ret
        exact ⟨ret_bool (by rw [← HR.out, told_no (fun h => by have := h.2.2.2 i hlt; rw [HO'.out] at this; omega)]), below_drewN (hst.below hb1) _⟩
      have x1' : decide ((s.parties.length : Int) ≤ x) = false := decide_eq_false x1
      by_cases x2 : t.size ≠ 32
      · have x2' : ((t.size : Int) != 32) = true := by rw [bne_iff_ne]; omega
        go_wp2
        go_quiet (fail)
        go_wp2
        go_ret
        exact ⟨ret_bool (by rw [← HR.out, told_no (fun h => by have := h.2.2.2 i hlt; rw [HO'.out] at this; exact x2 this.2.2.1)]), below_drewN (hst.below hb1) _⟩
      have x2' : ((t.size : Int) != 32) = false := by rw [bne_eq_false_iff_eq]; omega
      go_wp2
      go_quiet (fail)
      replace hst := hst.drewN nq
      generalize wr.drewN nq = w2 at hst ⊢
      clear q1 q3 q4 d3 d4 x2' x1' x0'
      go_wp2
      go_loopw [5] (fun i5 wr => ∃ k : Nat, k ≤ i ∧ i5 = .int .i64 k ∧ Hid (∀ j, j < k → s.leaders.getD j 0 ≠ x) ∧ Still w1 wr) (fun i5 _ => i - (intOf i5).toNat)
      case atStart => exact ⟨0, by omega, rfl, fun j hj => absurd hj (by omega), hst⟩
      case round =>
        clear hst
        obtain ⟨k, hk, rfl, HK, hst⟩ := hrel
        by_cases hkl : k < i
        · have k1 : (k : Int) < (i : Int) := by omega
          have k2 : (k : Int) < (s.leaders.length : Int) := by omega
          have dk := hst.cell (HL1.out.leaders.get k (by omega))
          have d3 := hst.cell D3.out
          have q3 := hst.cell Q3.out
          generalize hy : s.leaders.getD k 0 = y at dk
          have HY : Hid (s.leaders.getD k 0 = y) := hy
          clear hy
          by_cases hxy : y = x
          · have e : (y == x) = true := by rw [hxy]; exact beq_self_eq_true _
            have HXY : Hid (y = x) := hxy
            clear hxy
            go_wp2
            go_quiet (fail)
            go_wp2
            go_ret
            exact ⟨ret_bool (by rw [← HR.out, told_no (fun h => by have := h.2.2.2 i hlt; rw [HO'.out] at this; exact this.2.2.2 k hkl (by rw [HY.out, HXY.out]))]), below_drewN (hst.below hb1) _⟩
          · have e : (y == x) = false := by rw [beq_eq_false_iff_ne]; exact hxy
            go_wp2
            go_quiet (fail)
            replace hst := hst.drewN nq
            generalize wr.drewN nq = w3 at hst ⊢
            go_wp2
            go_roundw
            case rel =>
              refine ⟨k + 1, by omega, by go_num, ?_, hst⟩
              intro j hj
              by_cases hjk : j = k
              · subst hjk; rw [HY.out]; exact hxy
              · exact HK.out j (by omega)
            case measure => simp [intOf]; omega
        · have k1 : ¬ (k : Int) < (i : Int) := by omega
          go_wp2
          go_roundw
          case rel =>
            refine ⟨i + 1, by omega, by go_num, ?_, hst⟩
            intro j hj
            by_cases hjk : j = i
            · subst hjk; rw [HO'.out]; exact ⟨by omega, by omega, by omega, fun j hj => HK.out j (by omega)⟩
            · exact HO.out j (by omega)
          case measure => simp [intOf]; omega
    · have i1 : ¬ (i : Int) < (s.leaders.length : Int) := by omega
      go_wp2
      go_ret
      exact ⟨ret_bool (by rw [← HR.out, told_yes ⟨by omega, by omega, by omega, fun j hj => HO.out j (by omega)⟩]), hst.below hb1⟩

end Go.Proofs.Ythdnldbkpllciaa

/-
  The document's Check of chapter 4: parties.
-/
namespace Go.Proofs.Ythdnldbkpllciaa
open Go.RowKit

set_option maxRecDepth 10000 in
set_option maxHeartbeats 2000000 in
theorem refparties_any {w : World} {v : Value} {s : SpecM} (hv : SpecV w v s) : Calls Try.prog 102 #[v] w fun e w' => e = .returned (.bool (told (partiesOk s))) ∧ Below w.heap.size w w' := by
  obtain ⟨a1, a2, a3, a4, c1, c2, c3, c4, rfl, L⟩ := hv
  obtain ⟨r, hr⟩ : ∃ r, told (partiesOk s) = r := ⟨_, rfl⟩
  have HR : Hid (told (partiesOk s) = r) := hr
  rw [hr]
  clear hr
  generalize hg : w.heap.size = g
  have hL1 := L.leaders.2.1
  have hL3 := L.parties.1
  unfold maxLen at hL1 hL3
  by_cases h1 : s.parties.length < 2
  · have h1' : (s.parties.length : Int) < 2 := by omega
    go_enter Try.func102, Try.ntmps102
    go_wp2_with ((with_reducible refine wpList_at ?_); refine wpList_boxv (by rfl) 27 (.tmp 0) (by rfl) _ (by rfl) ?_; rw [hg]; intro w1 hg1 hz1 hb1; obtain ⟨q0, q1, q2, q3, q4, q5, q6⟩ := cells7_at hg1)
    go_ret
    exact ⟨ret_bool (by rw [← HR.out, told_no (fun h => by have := h.1; omega)]), hb1⟩
  have h1' : ¬ (s.parties.length : Int) < 2 := by omega
  by_cases h2 : 6 < s.parties.length
  · have h2' : (6 : Int) < (s.parties.length : Int) := by omega
    go_enter Try.func102, Try.ntmps102
    go_wp2_with ((with_reducible refine wpList_at ?_); refine wpList_boxv (by rfl) 27 (.tmp 0) (by rfl) _ (by rfl) ?_; rw [hg]; intro w1 hg1 hz1 hb1; obtain ⟨q0, q1, q2, q3, q4, q5, q6⟩ := cells7_at hg1)
    go_ret
    exact ⟨ret_bool (by rw [← HR.out, told_no (fun h => by have := h.2.1; omega)]), hb1⟩
  have h2' : ¬ (6 : Int) < (s.parties.length : Int) := by omega
  go_enter Try.func102, Try.ntmps102
  go_wp2_with ((with_reducible refine wpList_at ?_); refine wpList_boxv (by rfl) 27 (.tmp 0) (by rfl) _ (by rfl) ?_; rw [hg]; intro w1 hg1 hz1 hb1; obtain ⟨q0, q1, q2, q3, q4, q5, q6⟩ := cells7_at hg1)
  have L1 : Lies w1 a1 a2 a3 a4 s := L.below (by rw [hg]; exact hb1)
  have Q1 : Hid (w1.cell? ⟨g, 1, none⟩ = some (.slice a1 s.parties.length c1)) := q1
  have Q3 : Hid (w1.cell? ⟨g, 3, none⟩ = some (.slice a3 s.leaders.length c3)) := q3
  have HL1 : Hid (Lies w1 a1 a2 a3 a4 s) := L1
  have hgs : g ≤ w1.heap.size := by omega
  clear L L1 hg1 hz1 q0 q1 q2 q3 q4 q5 q6
  go_loopw [4] (fun i wr => ∃ k : Nat, k ≤ s.parties.length ∧ i = .int .i64 k ∧ Hid (∀ j, j < k → partyOk s j) ∧ Below w1.heap.size w1 wr) (fun i _ => s.parties.length - (intOf i).toNat)
  case atStart => exact ⟨0, by omega, rfl, fun j hj => absurd hj (by omega), Below.refl _ _⟩
  case round =>
    obtain ⟨i, hi, rfl, HO, hst⟩ := hrel
    by_cases hlt : i < s.parties.length
    · have i1 : (i : Int) < (s.parties.length : Int) := by omega
      obtain ⟨b1, o1, rfl, ps, d0, ka, kc, d1, hks⟩ := HL1.out.parties.2 i hlt
      obtain ⟨P, hP⟩ : ∃ P, s.parties.getD i noParty = P := ⟨_, rfl⟩
      have HO' : Hid (partyOk s i = (nameOk P.acc ∧ P.keys.length = s.leaders.length ∧ (∀ k, k < P.keys.length → (P.keys.getD k ByteArray.empty).size = 16) ∧ ∀ k, k < i → (s.parties.getD k noParty).acc ≠ P.acc)) := by
        show _ = _
        unfold partyOk; rw [hP]
      rw [hP] at ps d0 d1 hks
      clear hP
      have hkm := hks.2.1
      unfold maxLen at hkm ps
      have HKS : Hid (Strs w1 ka P.keys.length P.keys) := hks
      replace d0 := cell_on hst d0
      replace d1 := cell_on hst d1
      have q1 := cell_on hst Q1.out
      have q3 := cell_on hst Q3.out
      clear hks
      go_wp2_with fail
      have e0 : (wr.alloc (Obj.cells #[Value.string P.acc, Value.slice ka P.keys.length kc] 32)).cell? ⟨wr.heap.size, 0, none⟩ = some (.string P.acc) := by rw [World.cell?_alloc_new]; rfl
      have e1 : (wr.alloc (Obj.cells #[Value.string P.acc, Value.slice ka P.keys.length kc] 32)).cell? ⟨wr.heap.size, 1, none⟩ = some (.slice ka P.keys.length kc) := by rw [World.cell?_alloc_new]; rfl
      have hB2 : Below w1.heap.size w1 (wr.alloc (Obj.cells #[Value.string P.acc, Value.slice ka P.keys.length kc] 32)) := hst.alloc hst.size _
      clear q1 q3 d0 d1 hst
      generalize wr.alloc (Obj.cells #[Value.string P.acc, Value.slice ka P.keys.length kc] 32) = w2 at e0 e1 hB2 ⊢
      generalize wr.heap.size = gp at e0 e1 ⊢
      have q3 := cell_on hB2 Q3.out
      have HN := refname_any P.acc w2
      by_cases hn : nameOk P.acc
      · rw [told_yes hn] at HN
        have HNm : Hid (nameOk P.acc) := hn
        clear hn
        refine HN.mono ?_
        rintro e w0 ⟨rfl, hw0⟩
        subst w0
        clear HN
        by_cases hkl : P.keys.length = s.leaders.length
        · have hkl' : ((P.keys.length : Int) != (s.leaders.length : Int)) = false := nat_same hkl
          have HKL : Hid (P.keys.length = s.leaders.length) := hkl
          have E0 : Hid (w2.cell? ⟨gp, 0, none⟩ = some (.string P.acc)) := e0
          have E1 : Hid (w2.cell? ⟨gp, 1, none⟩ = some (.slice ka P.keys.length kc)) := e1
          clear hkl
          go_wp2
          clear e0 e1 q3
          go_loopw [6] (fun i6 wr => ∃ k : Nat, k ≤ P.keys.length ∧ i6 = .int .i64 k ∧ Hid (∀ j, j < k → (P.keys.getD j ByteArray.empty).size = 16) ∧ Still w2 wr) (fun i6 _ => P.keys.length - (intOf i6).toNat)
          case atStart => exact ⟨0, by omega, rfl, fun j hj => absurd hj (by omega), Still.refl _⟩
          case round =>
            obtain ⟨k, hk, rfl, HK, hst⟩ := hrel
            by_cases hkl : k < P.keys.length
            · have k1 : (k : Int) < (P.keys.length : Int) := by omega
              obtain ⟨bk, ok, rfl, dk⟩ := HKS.out.2.2.2 k hkl
              replace dk := hst.cell (cell_on hB2 dk)
              have e1 := hst.cell E1.out
              obtain ⟨t, ht⟩ : ∃ t, P.keys.getD k ByteArray.empty = t := ⟨_, rfl⟩
              rw [ht] at dk
              have HT : Hid (P.keys.getD k ByteArray.empty = t) := ht
              clear ht
              by_cases ht16 : t.size = 16
              · have t1 : ((t.size : Int) != 16) = false := by rw [bne_eq_false_iff_eq]; omega
                have HT16 : Hid (t.size = 16) := ht16
                clear ht16
                go_wp2
                go_roundw
                case rel =>
                  refine ⟨k + 1, by omega, by go_num, ?_, hst⟩
                  intro j hj
                  by_cases hjk : j = k
                  · subst hjk; rw [HT.out]; exact HT16.out
                  · exact HK.out j (by omega)
                case measure => simp [intOf]; omega
              · have t1 : ((t.size : Int) != 16) = true := by rw [bne_iff_ne]; omega
                go_wp2
                go_ret
                exact ⟨ret_bool (by rw [← HR.out, told_no (fun h => by have := h.2.2 i hlt; rw [HO'.out] at this; exact ht16 (by rw [← HT.out]; exact this.2.2.1 k hkl))]), hst.below (hb1.trans (hB2.mono hgs))⟩
            · have k1 : ¬ (k : Int) < (P.keys.length : Int) := by omega
              have HKK : Hid (∀ j, j < P.keys.length → (P.keys.getD j ByteArray.empty).size = 16) := fun j hj => HK.out j (by omega)
              have e1 := hst.cell E1.out
              clear HK
              go_wp2
              clear e1
              replace hst : Still w2 wr := hst
              go_loopw [7] (fun i7 wr => ∃ k : Nat, k ≤ i ∧ i7 = .int .i64 k ∧ Hid (∀ j, j < k → (s.parties.getD j noParty).acc ≠ P.acc) ∧ Still w2 wr) (fun i7 _ => i - (intOf i7).toNat)
              case atStart => exact ⟨0, by omega, rfl, fun j hj => absurd hj (by omega), hst⟩
              case round =>
                clear hst hk k1 hkl
                obtain ⟨k7, hk, rfl, HK7, hst⟩ := hrel
                by_cases hkl : k7 < i
                · have k1 : (k7 : Int) < (i : Int) := by omega
                  have k2 : (k7 : Int) < (s.parties.length : Int) := by omega
                  obtain ⟨ps7, d7, ka7, kc7, d71, hks7⟩ := HL1.out.parties.get k7 (by omega)
                  replace d7 := hst.cell (cell_on hB2 d7)
                  have q1 := hst.cell (cell_on hB2 Q1.out)
                  have e0 := hst.cell E0.out
                  obtain ⟨t, ht⟩ : ∃ t, (s.parties.getD k7 noParty).acc = t := ⟨_, rfl⟩
                  rw [ht] at d7
                  have HT : Hid ((s.parties.getD k7 noParty).acc = t) := ht
                  clear ht d71 hks7 ps7
                  by_cases hta : t = P.acc
                  · have t1 : (t.toList == P.acc.toList) = true := by rw [hta]; exact beq_self_eq_true _
                    have HTA : Hid (t = P.acc) := hta
                    clear hta
                    go_wp2
                    go_quiet (fail)
                    go_wp2
                    go_ret
                    exact ⟨ret_bool (by rw [← HR.out, told_no (fun h => by have := h.2.2 i hlt; rw [HO'.out] at this; exact this.2.2.2 k7 hkl (by rw [HT.out, HTA.out]))]), below_drewN (hst.below (hb1.trans (hB2.mono hgs))) _⟩
                  · have t1 : (t.toList == P.acc.toList) = false := by
                      rw [same_list, beq_eq_false_iff_ne]
                      exact fun h => hta (ByteArray.ext (Array.toList_inj.1 h))
                    go_wp2
                    go_quiet (fail)
                    replace hst := hst.drewN nq
                    generalize wr.drewN nq = w3 at hst ⊢
                    go_wp2
                    go_roundw
                    case rel =>
                      refine ⟨k7 + 1, by omega, by go_num, ?_, hst⟩
                      intro j hj
                      by_cases hjk : j = k7
                      · subst hjk; rw [HT.out]; exact hta
                      · exact HK7.out j (by omega)
                    case measure => simp [intOf]; omega
                · have k1 : ¬ (k7 : Int) < (i : Int) := by omega
                  go_wp2
                  go_roundw
                  case rel =>
                    refine ⟨i + 1, by omega, by go_num, ?_, hst.below hB2⟩
                    intro j hj
                    by_cases hjk : j = i
                    · subst hjk; rw [HO'.out]; exact ⟨HNm.out, HKL.out, HKK.out, fun j hj => HK7.out j (by omega)⟩
                    · exact HO.out j (by omega)
                  case measure => simp [intOf]; omega
        · have hkl' : ((P.keys.length : Int) != (s.leaders.length : Int)) = true := nat_ne hkl
          go_wp2
          go_ret
          exact ⟨ret_bool (by rw [← HR.out, told_no (fun h => by have := h.2.2 i hlt; rw [HO'.out] at this; exact hkl this.2.1)]), hb1.trans (hB2.mono hgs)⟩
      · rw [told_no hn] at HN
        refine HN.mono ?_
        rintro e w0 ⟨rfl, hw0⟩
        subst w0
        go_wp2
        go_ret
        exact ⟨ret_bool (by rw [← HR.out, told_no (fun h => by have := h.2.2 i hlt; rw [HO'.out] at this; exact hn this.1)]), hb1.trans (hB2.mono hgs)⟩
    · have i1 : ¬ (i : Int) < (s.parties.length : Int) := by omega
      go_wp2
      go_ret
      exact ⟨ret_bool (by rw [← HR.out, told_yes ⟨by omega, by omega, fun j hj => HO.out j (by omega)⟩]), hb1.trans (hst.mono hgs)⟩

end Go.Proofs.Ythdnldbkpllciaa

/-
  The document's Check of chapter 4: arcs; the whole of it.
-/
namespace Go.Proofs.Ythdnldbkpllciaa
open Go.RowKit

set_option maxRecDepth 10000 in
set_option maxHeartbeats 4000000 in
theorem refarcs_any {w : World} {v : Value} {s : SpecM} (hv : SpecV w v s) : Calls Try.prog 103 #[v] w fun e w' => e = .returned (.bool (told (arcsOk s))) ∧ Below w.heap.size w w' := by
  obtain ⟨a1, a2, a3, a4, c1, c2, c3, c4, rfl, L⟩ := hv
  obtain ⟨r, hr⟩ : ∃ r, told (arcsOk s) = r := ⟨_, rfl⟩
  have HR : Hid (told (arcsOk s) = r) := hr
  rw [hr]
  clear hr
  generalize hg : w.heap.size = g
  have hL1 := L.arcs.1
  have hL3 := L.parties.1
  unfold maxLen at hL1 hL3
  obtain ⟨n, hn⟩ : ∃ n, s.arcs.length = n := ⟨_, rfl⟩
  have HN0 : Hid (s.arcs.length = n) := hn
  obtain ⟨m, hm⟩ : ∃ m, s.parties.length = m := ⟨_, rfl⟩
  have HM0 : Hid (s.parties.length = m) := hm
  go_enter Try.func103, Try.ntmps103
  go_wp2_with ((with_reducible refine wpList_at ?_); refine wpList_boxv (by rfl) 27 (.tmp 0) (by rfl) _ (by rfl) ?_; rw [hg]; intro w1 hg1 hz1 hb1; obtain ⟨q0, q1, q2, q3, q4, q5, q6⟩ := cells7_at hg1; rw [hm] at q1; rw [hn] at q2)
  have L1 : Lies w1 a1 a2 a3 a4 s := L.below (by rw [hg]; exact hb1)
  have Q2 : Hid (w1.cell? ⟨g, 2, none⟩ = some (.slice a2 n c2)) := q2
  have HL1 : Hid (Lies w1 a1 a2 a3 a4 s) := L1
  have hgs : g ≤ w1.heap.size := by omega
  rw [hn] at hL1
  rw [hm] at hL3
  clear L L1 hg1 hz1 q0 q1 q2 q3 q4 q5 q6 hn hm
  go_loopw [4] (fun i wr => ∃ k : Nat, k ≤ n ∧ i = .int .i64 k ∧ Hid (∀ j, j < k → arcOk s j) ∧ Below w1.heap.size w1 wr) (fun i _ => n - (intOf i).toNat)
  case atStart => exact ⟨0, by omega, rfl, fun j hj => absurd hj (by omega), Below.refl _ _⟩
  case round =>
    obtain ⟨i, hi, rfl, HO, hst⟩ := hrel
    have q2 := cell_on hst Q2.out
    by_cases hlt : i < n
    · have i1 : (i : Int) < (n : Int) := by omega
      have hlt' : i < s.arcs.length := by rw [HN0.out]; exact hlt
      have HLT : Hid (i < s.arcs.length) := hlt'
      obtain ⟨b2, o2, rfl, i1', i2', i3', i4', i5', d0, d1, d2, d3, d4⟩ := HL1.out.arcs.2 i hlt'
      obtain ⟨A, hA⟩ : ∃ A, s.arcs.getD i noArc = A := ⟨_, rfl⟩
      have HO' : Hid (arcOk s i = ((0 ≤ A.src ∧ A.src < (m : Int) ∧ 0 ≤ A.dst ∧ A.dst < (m : Int) ∧ A.src ≠ A.dst ∧ 0 ≤ A.ledger ∧ A.ledger < 4 ∧ nameOk A.asset ∧ 1 ≤ A.amount ∧ A.amount ≤ 1125899906842624) ∧ ∀ k, k < i → ¬ ((s.arcs.getD k noArc).src = A.src ∧ (s.arcs.getD k noArc).dst = A.dst))) := by
        show _ = _
        unfold arcOk arcFine; rw [hA, HM0.out]
      rw [hA] at d0 d1 d2 d3 d4
      clear hA i1' i2' i3' i4' i5' hlt'
      replace d0 := cell_on hst d0
      replace d1 := cell_on hst d1
      replace d2 := cell_on hst d2
      replace d3 := cell_on hst d3
      replace d4 := cell_on hst d4
      have e0 : (wr.alloc (Obj.cells #[Value.int IntKind.i64 A.src, Value.int IntKind.i64 A.dst, Value.int IntKind.i64 A.ledger, Value.string A.asset, Value.int IntKind.i64 A.amount] 34)).cell? ⟨wr.heap.size, 0, none⟩ = some (.int .i64 A.src) := by rw [World.cell?_alloc_new]; rfl
      have e1 : (wr.alloc (Obj.cells #[Value.int IntKind.i64 A.src, Value.int IntKind.i64 A.dst, Value.int IntKind.i64 A.ledger, Value.string A.asset, Value.int IntKind.i64 A.amount] 34)).cell? ⟨wr.heap.size, 1, none⟩ = some (.int .i64 A.dst) := by rw [World.cell?_alloc_new]; rfl
      have hB2 : Below w1.heap.size w1 (wr.alloc (Obj.cells #[Value.int IntKind.i64 A.src, Value.int IntKind.i64 A.dst, Value.int IntKind.i64 A.ledger, Value.string A.asset, Value.int IntKind.i64 A.amount] 34)) := hst.alloc hst.size _
      have E0 : Hid ((wr.alloc (Obj.cells #[Value.int IntKind.i64 A.src, Value.int IntKind.i64 A.dst, Value.int IntKind.i64 A.ledger, Value.string A.asset, Value.int IntKind.i64 A.amount] 34)).cell? ⟨wr.heap.size, 0, none⟩ = some (.int .i64 A.src)) := e0
      have E1 : Hid ((wr.alloc (Obj.cells #[Value.int IntKind.i64 A.src, Value.int IntKind.i64 A.dst, Value.int IntKind.i64 A.ledger, Value.string A.asset, Value.int IntKind.i64 A.amount] 34)).cell? ⟨wr.heap.size, 1, none⟩ = some (.int .i64 A.dst)) := e1
      clear e0 e1
      have HNm := fun W => refname_any A.asset W
      by_cases c1 : A.src < 0
      · go_wp2
        go_ret
        exact ⟨ret_bool (by rw [← HR.out, told_no (fun h => by have := h.2.2 i HLT.out; rw [HO'.out] at this; omega)]), hb1.trans (hB2.mono hgs)⟩
      by_cases c2 : (m : Int) ≤ A.src
      · go_wp2
        go_ret
        exact ⟨ret_bool (by rw [← HR.out, told_no (fun h => by have := h.2.2 i HLT.out; rw [HO'.out] at this; omega)]), hb1.trans (hB2.mono hgs)⟩
      by_cases c3 : A.dst < 0
      · go_wp2
        go_ret
        exact ⟨ret_bool (by rw [← HR.out, told_no (fun h => by have := h.2.2 i HLT.out; rw [HO'.out] at this; omega)]), hb1.trans (hB2.mono hgs)⟩
      by_cases c4 : (m : Int) ≤ A.dst
      · go_wp2
        go_ret
        exact ⟨ret_bool (by rw [← HR.out, told_no (fun h => by have := h.2.2 i HLT.out; rw [HO'.out] at this; omega)]), hb1.trans (hB2.mono hgs)⟩
      by_cases c5 : A.src = A.dst
      · have c5' : (A.src == A.dst) = true := by rw [c5]; exact beq_self_eq_true _
        have HC : Hid (A.src = A.dst) := c5
        clear c5
        go_wp2
        go_ret
        exact ⟨ret_bool (by rw [← HR.out, told_no (fun h => by have := h.2.2 i HLT.out; rw [HO'.out] at this; exact this.1.2.2.2.2.1 HC.out)]), hb1.trans (hB2.mono hgs)⟩
      have c5' : (A.src == A.dst) = false := by rw [beq_eq_false_iff_ne]; exact c5
      by_cases c6 : A.ledger < 0
      · go_wp2
        go_ret
        exact ⟨ret_bool (by rw [← HR.out, told_no (fun h => by have := h.2.2 i HLT.out; rw [HO'.out] at this; omega)]), hb1.trans (hB2.mono hgs)⟩
      by_cases c7 : (4 : Int) ≤ A.ledger
      · go_wp2
        go_ret
        exact ⟨ret_bool (by rw [← HR.out, told_no (fun h => by have := h.2.2 i HLT.out; rw [HO'.out] at this; omega)]), hb1.trans (hB2.mono hgs)⟩
      by_cases c8 : ¬ nameOk A.asset
      · rw [told_no c8] at HNm
        go_wp2_with (go_at_call 100; refine (HNm _).mono ?_; rintro e w0 ⟨rfl, hw0⟩; subst w0)
        go_ret
        exact ⟨ret_bool (by rw [← HR.out, told_no (fun h => by have := h.2.2 i HLT.out; rw [HO'.out] at this; exact c8 this.1.2.2.2.2.2.2.2.1)]), hb1.trans (hB2.mono hgs)⟩
      have c8n : nameOk A.asset := Classical.not_not.1 c8
      rw [told_yes c8n] at HNm
      have HC8 : Hid (nameOk A.asset) := c8n
      clear c8 c8n
      by_cases c9 : A.amount < 1
      · go_wp2_with (go_at_call 100; refine (HNm _).mono ?_; rintro e w0 ⟨rfl, hw0⟩; subst w0)
        go_ret
        exact ⟨ret_bool (by rw [← HR.out, told_no (fun h => by have := h.2.2 i HLT.out; rw [HO'.out] at this; omega)]), hb1.trans (hB2.mono hgs)⟩
      by_cases c10 : (1125899906842624 : Int) < A.amount
      · go_wp2_with (go_at_call 100; refine (HNm _).mono ?_; rintro e w0 ⟨rfl, hw0⟩; subst w0)
        go_ret
        exact ⟨ret_bool (by rw [← HR.out, told_no (fun h => by have := h.2.2 i HLT.out; rw [HO'.out] at this; omega)]), hb1.trans (hB2.mono hgs)⟩
      go_wp2_with (go_at_call 100; refine (HNm _).mono ?_; rintro e w0 ⟨rfl, hw0⟩; subst w0)
      clear q2 d0 d1 d2 d3 d4 hst HNm
      generalize wr.alloc (Obj.cells #[Value.int IntKind.i64 A.src, Value.int IntKind.i64 A.dst, Value.int IntKind.i64 A.ledger, Value.string A.asset, Value.int IntKind.i64 A.amount] 34) = w2 at E0 E1 hB2 ⊢
      generalize wr.heap.size = gp at E0 E1 ⊢
      go_loopw [6] (fun i6 wr => ∃ k : Nat, k ≤ i ∧ i6 = .int .i64 k ∧ Hid (∀ j, j < k → ¬ ((s.arcs.getD j noArc).src = A.src ∧ (s.arcs.getD j noArc).dst = A.dst)) ∧ Still w2 wr) (fun i6 _ => i - (intOf i6).toNat)
      case atStart => exact ⟨0, by omega, rfl, fun j hj => absurd hj (by omega), Still.refl _⟩
      case round =>
        obtain ⟨k, hk, rfl, HK, hst⟩ := hrel
        by_cases hkl : k < i
        · have k1 : (k : Int) < (i : Int) := by omega
          have k2 : (k : Int) < (n : Int) := by omega
          obtain ⟨_, _, _, _, _, d0, d1, _, _, _⟩ := HL1.out.arcs.get k (by rw [HN0.out]; omega)
          replace d0 := hst.cell (cell_on hB2 d0)
          replace d1 := hst.cell (cell_on hB2 d1)
          have q2 := hst.cell (cell_on hB2 Q2.out)
          have e0 := hst.cell E0.out
          have e1 := hst.cell E1.out
          obtain ⟨x, hx⟩ : ∃ x, (s.arcs.getD k noArc).src = x := ⟨_, rfl⟩
          obtain ⟨y, hy⟩ : ∃ y, (s.arcs.getD k noArc).dst = y := ⟨_, rfl⟩
          rw [hx] at d0
          rw [hy] at d1
          have HX : Hid ((s.arcs.getD k noArc).src = x) := hx
          have HY : Hid ((s.arcs.getD k noArc).dst = y) := hy
          clear hx hy
          by_cases hxs : x = A.src
          · have t1 : (x == A.src) = true := by rw [hxs]; exact beq_self_eq_true _
            have HXS : Hid (x = A.src) := hxs
            clear hxs
            by_cases hyd : y = A.dst
            · have t2 : (y == A.dst) = true := by rw [hyd]; exact beq_self_eq_true _
              have HYD : Hid (y = A.dst) := hyd
              clear hyd
              go_wp2
              go_quiet (fail)
              go_wp2
              go_ret
              exact ⟨ret_bool (by rw [← HR.out, told_no (fun h => by have := h.2.2 i HLT.out; rw [HO'.out] at this; exact this.2 k hkl ⟨by rw [HX.out, HXS.out], by rw [HY.out, HYD.out]⟩)]), below_drewN (hst.below (hb1.trans (hB2.mono hgs))) _⟩
            · have t2 : (y == A.dst) = false := by rw [beq_eq_false_iff_ne]; exact hyd
              go_wp2
              go_quiet (fail)
              replace hst := hst.drewN nq
              generalize wr.drewN nq = w3 at hst ⊢
              go_wp2
              go_roundw
              case rel =>
                refine ⟨k + 1, by omega, by go_num, ?_, hst⟩
                intro j hj
                by_cases hjk : j = k
                · subst hjk; rw [HX.out, HY.out]; exact fun h => hyd h.2
                · exact HK.out j (by omega)
              case measure => simp [intOf]; omega
          · have t1 : (x == A.src) = false := by rw [beq_eq_false_iff_ne]; exact hxs
            go_wp2
            go_quiet (fail)
            replace hst := hst.drewN nq
            generalize wr.drewN nq = w3 at hst ⊢
            go_wp2
            go_roundw
            case rel =>
              refine ⟨k + 1, by omega, by go_num, ?_, hst⟩
              intro j hj
              by_cases hjk : j = k
              · subst hjk; rw [HX.out]; exact fun h => hxs h.1
              · exact HK.out j (by omega)
            case measure => simp [intOf]; omega
        · have k1 : ¬ (k : Int) < (i : Int) := by omega
          go_wp2
          go_roundw
          case rel =>
            refine ⟨i + 1, by omega, by go_num, ?_, hst.below hB2⟩
            intro j hj
            by_cases hjk : j = i
            · subst hjk; rw [HO'.out]; exact ⟨⟨by omega, by omega, by omega, by omega, c5, by omega, by omega, HC8.out, by omega, by omega⟩, fun j hj => HK.out j (by omega)⟩
            · exact HO.out j (by omega)
          case measure => simp [intOf]; omega
    · have i1 : ¬ (i : Int) < (n : Int) := by omega
      have HALL : Hid (∀ j, j < s.arcs.length → arcOk s j) := fun j hj => HO.out j (by rw [HN0.out] at hj; omega)
      clear HO
      by_cases hn1 : 1 ≤ n
      · have n1 : (1 : Int) ≤ (n : Int) := by omega
        by_cases hn2 : n ≤ 12
        · have n2 : (n : Int) ≤ 12 := by omega
          go_wp2
          go_ret
          exact ⟨ret_bool (by rw [← HR.out, told_yes ⟨by rw [HN0.out]; exact hn1, by rw [HN0.out]; exact hn2, HALL.out⟩]), hb1.trans (hst.mono hgs)⟩
        · have n2 : ¬ (n : Int) ≤ 12 := by omega
          go_wp2
          go_ret
          exact ⟨ret_bool (by rw [← HR.out, told_no (fun h => by have := h.2.1; rw [HN0.out] at this; omega)]), hb1.trans (hst.mono hgs)⟩
      · have n1 : ¬ (1 : Int) ≤ (n : Int) := by omega
        go_wp2
        go_ret
        exact ⟨ret_bool (by rw [← HR.out, told_no (fun h => by have := h.1; rw [HN0.out] at this; omega)]), hb1.trans (hst.mono hgs)⟩

end Go.Proofs.Ythdnldbkpllciaa
