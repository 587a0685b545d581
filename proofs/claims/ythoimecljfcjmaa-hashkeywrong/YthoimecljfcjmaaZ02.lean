/-
  The document's Same of chapter 4: numbers, texts.
-/
import Derived.Test.YthoimecljfcjmaaZ01
import Derived.BigQuiet
import Derived.Deep.QuietTactic
namespace Go.Proofs.Ythoimecljfcjmaa
open Go.RowKit


theorem all_getD {α : Type} (d : α) {l k : List α} (hl : l.length = k.length) (h : ∀ j, j < l.length → l.getD j d = k.getD j d) : l = k := by
  apply List.ext_getElem hl
  intro j h1 h2
  have := h j h1
  rw [List.getD_eq_getElem?_getD, List.getD_eq_getElem?_getD, List.getElem?_eq_getElem h1, List.getElem?_eq_getElem h2] at this
  exact this
theorem neq_list (a b : ByteArray) : (a.toList != b.toList) = !(a.data.toList == b.data.toList) := by
  rw [bne, same_list]
theorem text_same {a b : ByteArray} (h : a = b) : (a.toList == b.toList) = true := by rw [h]; exact beq_self_eq_true _
theorem text_other {a b : ByteArray} (h : a ≠ b) : (a.toList == b.toList) = false := by
  rw [same_list, beq_eq_false_iff_ne]
  exact fun e => h (ByteArray.ext (Array.toList_inj.1 e))
theorem text_nsame {a b : ByteArray} (h : a = b) : (a.toList != b.toList) = false := by rw [bne, text_same h]; rfl
theorem text_nother {a b : ByteArray} (h : a ≠ b) : (a.toList != b.toList) = true := by rw [bne, text_other h]; rfl

end Go.Proofs.Ythoimecljfcjmaa

/-
  Hashkeys: plain data, and what memory holds of them; below, and whether one fits.
-/
namespace Go.Proofs.Ythoimecljfcjmaa
open Go.RowKit


structure HkM where
  lock : Int
  secret : ByteArray
  path : List Int
  sigs : List ByteArray
def noHk : HkM := ⟨0, ⟨#[]⟩, [], []⟩
def hcells (pa sa : Option Addr) (pc sc : Nat) (K : HkM) : Array Value := #[.int .i64 K.lock, .string K.secret, .slice pa K.path.length pc, .slice sa K.sigs.length sc]
/-- What the four cells of a key lead to. -/
structure HkL (w : World) (pa sa : Option Addr) (pc sc : Nat) (K : HkM) : Prop where
  lock : In64 K.lock
  secret : K.secret.size ≤ maxLen
  path : Ints w pa K.path.length K.path
  sigs : Strs w sa K.sigs.length K.sigs
  pc1 : K.path.length ≤ pc
  pc2 : pc ≤ maxLen
  sc1 : K.sigs.length ≤ sc
  sc2 : sc ≤ maxLen
  pn : pa = none → pc = 0
  sn : sa = none → sc = 0
/-- The value v is the key K. -/
def HkV (w : World) (v : Value) (K : HkM) : Prop := ∃ pa sa pc sc, v = .agg (hcells pa sa pc sc K) ∧ HkL w pa sa pc sc K
theorem HkL.below {w w' : World} {pa sa : Option Addr} {pc sc : Nat} {K : HkM} (h : HkL w pa sa pc sc K) (hb : Below w.heap.size w w') : HkL w' pa sa pc sc K :=
  ⟨h.lock, h.secret, h.path.below hb, h.sigs.below hb, h.pc1, h.pc2, h.sc1, h.sc2, h.pn, h.sn⟩
theorem HkV.below {w w' : World} {v : Value} {K : HkM} (h : HkV w v K) (hb : Below w.heap.size w w') : HkV w' v K := by
  obtain ⟨pa, sa, pc, sc, h1, h2⟩ := h
  exact ⟨pa, sa, pc, sc, h1, h2.below hb⟩
theorem hcells_at {w : World} {g : Nat} {t : TypeId} {pa sa : Option Addr} {pc sc : Nat} {K : HkM} (h : w.heap[g]? = some (.cells (hcells pa sa pc sc K) t (0, 0))) :
    w.cell? ⟨g, 0, none⟩ = some (.int .i64 K.lock) ∧ w.cell? ⟨g, 1, none⟩ = some (.string K.secret) ∧ w.cell? ⟨g, 2, none⟩ = some (.slice pa K.path.length pc) ∧ w.cell? ⟨g, 3, none⟩ = some (.slice sa K.sigs.length sc) := by
  refine ⟨?_, ?_, ?_, ?_⟩ <;> (rw [cell_of_row w g _ _ t (0, 0) h]; rfl)
/-- What P7.3 asks. -/
def hkFits (K : HkM) : Prop := (0 ≤ K.lock ∧ K.lock < 3) ∧ K.secret.size ≤ 64 ∧ 0 < K.path.length ∧ K.path.length ≤ 6 ∧ K.sigs.length = K.path.length ∧ (∀ j, j < K.path.length → 0 ≤ K.path.getD j 0 ∧ K.path.getD j 0 < 6) ∧ ∀ j, j < K.sigs.length → (K.sigs.getD j ByteArray.empty).size = 512

set_option maxHeartbeats 400000 in
theorem hbelow_any (v b : Int) (w : World) : Calls Try.prog 20 #[.int .i64 v, .int .i64 b] w fun e w' => e = .returned (.bool (told (0 ≤ v ∧ v < b))) ∧ w' = w := by
  obtain ⟨r, hr⟩ : ∃ r, told (0 ≤ v ∧ v < b) = r := ⟨_, rfl⟩
  rw [hr]
  replace hr := hide hr
  by_cases h1 : 0 ≤ v
  · by_cases h2 : v < b
    · have hf : Hid (r = true) := by show _ = _; rw [← hr.out, told_yes ⟨h1, h2⟩]
      go_enter Try.func20, Try.ntmps20
      go_wp2
      go_ret
      exact ⟨ret_bool hf.out.symm, rfl⟩
    · have hf : Hid (r = false) := by show _ = _; rw [← hr.out, told_no (fun h => h2 h.2)]
      go_enter Try.func20, Try.ntmps20
      go_wp2
      go_ret
      exact ⟨ret_bool hf.out.symm, rfl⟩
  · have hf : Hid (r = false) := by show _ = _; rw [← hr.out, told_no (fun h => h1 h.1)]
    go_enter Try.func20, Try.ntmps20
    go_wp2
    go_ret
    exact ⟨ret_bool hf.out.symm, rfl⟩

end Go.Proofs.Ythoimecljfcjmaa

/-
  slices.Index and slices.Contains at numbers.
-/
namespace Go.Proofs.Ythoimecljfcjmaa
open Go.RowKit

theorem mem_getD {l : List Int} {x : Int} : x ∈ l ↔ ∃ j, j < l.length ∧ l.getD j 0 = x := by
  constructor
  · intro h
    obtain ⟨j, hj, rfl⟩ := List.mem_iff_getElem.1 h
    exact ⟨j, hj, by rw [List.getD_eq_getElem?_getD, List.getElem?_eq_getElem hj]; rfl⟩
  · rintro ⟨j, hj, rfl⟩
    exact getD_mem l j 0 hj

set_option maxRecDepth 10000 in
set_option maxHeartbeats 1000000 in
theorem index_any {w : World} {a : Option Addr} {c : Nat} {l : List Int} (ha : Ints w a l.length l) (x : Int) :
    Calls Try.prog 91 #[.slice a l.length c, .int .i64 x] w fun e w' => ∃ r : Int, e = .returned (.int .i64 r) ∧ (0 ≤ r ↔ x ∈ l) ∧ w' = w := by
  obtain ⟨n, hn⟩ : ∃ n, l.length = n := ⟨_, rfl⟩
  rw [hn] at ha ⊢
  have hl1 := ha.2.1
  unfold maxLen at hl1
  replace ha := hide ha
  replace hn := hide hn
  go_enter Try.func91, Try.ntmps91
  go_wp2
  go_loopw [8] (fun i wr => ∃ j : Nat, j ≤ n ∧ i = .int .i64 j ∧ Hid (∀ i, i < j → l.getD i 0 ≠ x) ∧ wr = w) (fun i _ => n - (intOf i).toNat)
  case atStart => exact ⟨0, by omega, rfl, fun j hj => absurd hj (by omega), rfl⟩
  case round =>
    obtain ⟨j, hj, rfl, HO, rfl⟩ := hrel
    by_cases hlt : j < n
    · have j1 : (j : Int) < (n : Int) := by omega
      obtain ⟨b1, o1, rfl, d1⟩ := ha.out.2.2.2 j hlt
      obtain ⟨y, hy⟩ : ∃ y, l.getD j 0 = y := ⟨_, rfl⟩
      rw [hy] at d1
      replace hy := hide hy
      by_cases hxy : x = y
      · have t : (x == y) = true := by rw [hxy]; exact beq_self_eq_true _
        have HM : Hid (x ∈ l) := mem_getD.2 ⟨j, by rw [hn.out]; exact hlt, by rw [hy.out, hxy]⟩
        clear hxy
        go_wp2
        go_ret
        exact ⟨_, rfl, ⟨fun _ => HM.out, fun _ => by omega⟩, rfl⟩
      · have t : (x == y) = false := by rw [beq_eq_false_iff_ne]; exact hxy
        replace hxy := hide hxy
        go_wp2
        go_roundw
        case rel =>
          refine ⟨j + 1, by omega, by go_num, fun i hi => ?_, trivial⟩
          by_cases hij : i = j
          · subst hij; rw [hy.out]; exact fun e => hxy.out e.symm
          · exact HO.out i (by omega)
        case measure => simp [intOf]; omega
    · have j1 : ¬ (j : Int) < (n : Int) := by omega
      go_wp2
      go_ret
      exact ⟨_, rfl, ⟨fun h => absurd h (by omega), fun h => by
        obtain ⟨i, hi, hx⟩ := mem_getD.1 h
        exact absurd hx (HO.out i (by rw [hn.out] at hi; omega))⟩, rfl⟩

set_option maxRecDepth 10000 in
set_option maxHeartbeats 400000 in
theorem contains_any {w : World} {a : Option Addr} {c : Nat} {l : List Int} (ha : Ints w a l.length l) (x : Int) :
    Calls Try.prog 65 #[.slice a l.length c, .int .i64 x] w fun e w' => e = .returned (.bool (told (x ∈ l))) ∧ w' = w := by
  have HI := index_any (c := c) ha x
  generalize l.length = n at HI ⊢
  replace HI := hide HI
  obtain ⟨t, ht⟩ : ∃ t, told (x ∈ l) = t := ⟨_, rfl⟩
  rw [ht]
  replace ht := hide ht
  go_enter Try.func65, Try.ntmps65
  go_wp2_with fail
  refine HI.out.mono ?_
  rintro e w0 ⟨r, rfl, hr, hw0⟩
  subst w0
  replace hr := hide hr
  go_wp2
  go_ret
  refine ⟨ret_bool ?_, rfl⟩
  rw [← ht.out]
  by_cases h : x ∈ l
  · rw [told_yes h]; exact decide_eq_true (hr.out.2 h)
  · rw [told_no h]; exact decide_eq_false (fun e => h (hr.out.1 e))

end Go.Proofs.Ythoimecljfcjmaa

/-
  The document's Check of chapter 4: names, leaders.
-/
namespace Go.Proofs.Ythoimecljfcjmaa
open Go.RowKit

set_option maxHeartbeats 400000 in
theorem refname_any (s : ByteArray) (w : World) : Calls Try.prog 36 #[.string s] w fun e w' => e = .returned (.bool (told (nameOk s))) ∧ w' = w := by
  obtain ⟨r, hr⟩ : ∃ r, told (nameOk s) = r := ⟨_, rfl⟩
  have HR : Hid (told (1 ≤ s.size ∧ s.size ≤ 16) = r) := hr
  rw [hr]
  clear hr
  by_cases h1 : 1 ≤ s.size
  · have h1' : (1 : Int) ≤ (s.size : Int) := by omega
    by_cases h2 : s.size ≤ 16
    · have h2' : (s.size : Int) ≤ 16 := by omega
      go_enter Try.func36, Try.ntmps36
      go_wp2
      go_ret
      exact ⟨ret_bool (by rw [← HR.out, told_yes ⟨h1, h2⟩]), rfl⟩
    · have h2' : ¬ (s.size : Int) ≤ 16 := by omega
      go_enter Try.func36, Try.ntmps36
      go_wp2
      go_ret
      exact ⟨ret_bool (by rw [← HR.out, told_no (fun h => h2 h.2)]), rfl⟩
  · have h1' : ¬ (1 : Int) ≤ (s.size : Int) := by omega
    go_enter Try.func36, Try.ntmps36
    go_wp2
    go_ret
    exact ⟨ret_bool (by rw [← HR.out, told_no (fun h => h1 h.1)]), rfl⟩

set_option maxRecDepth 10000 in
set_option maxHeartbeats 1000000 in
theorem refleaders_any {w : World} {v : Value} {s : SpecM} (hv : SpecV w v s) : Calls Try.prog 37 #[v] w fun e w' => e = .returned (.bool (told (leadersOk s))) ∧ Below w.heap.size w w' := by
  obtain ⟨a1, a2, a3, a4, c1, c2, c3, c4, rfl, L⟩ := hv
  obtain ⟨r, hr⟩ : ∃ r, told (leadersOk s) = r := ⟨_, rfl⟩
  have HR : Hid (told (leadersOk s) = r) := hr
  rw [hr]
  clear hr
  generalize hg : w.heap.size = g
  have hL1 := L.leaders.2.1
  have hL2 := L.locks.2.1
  have hL3 := L.parties.1
  unfold maxLen at hL1 hL2 hL3
  by_cases h1 : s.leaders.length < 1
  · have h1' : (s.leaders.length : Int) < 1 := by omega
    go_enter Try.func37, Try.ntmps37
    go_wp2_with ((with_reducible refine wpList_at ?_); refine wpList_boxv (by rfl) 27 (.tmp 0) (by rfl) _ (by rfl) ?_; rw [hg]; intro w1 hg1 hz1 hb1; obtain ⟨q0, q1, q2, q3, q4, q5, q6⟩ := cells7_at hg1)
    go_ret
    exact ⟨ret_bool (by rw [← HR.out, told_no (fun h => by have := h.1; omega)]), hb1⟩
  have h1' : ¬ (s.leaders.length : Int) < 1 := by omega
  by_cases h2 : 3 < s.leaders.length
  · have h2' : (3 : Int) < (s.leaders.length : Int) := by omega
    go_enter Try.func37, Try.ntmps37
    go_wp2_with ((with_reducible refine wpList_at ?_); refine wpList_boxv (by rfl) 27 (.tmp 0) (by rfl) _ (by rfl) ?_; rw [hg]; intro w1 hg1 hz1 hb1; obtain ⟨q0, q1, q2, q3, q4, q5, q6⟩ := cells7_at hg1)
    go_ret
    exact ⟨ret_bool (by rw [← HR.out, told_no (fun h => by have := h.2.1; omega)]), hb1⟩
  have h2' : ¬ (3 : Int) < (s.leaders.length : Int) := by omega
  by_cases h3 : s.locks.length ≠ s.leaders.length
  · have h3' : ((s.locks.length : Int) != (s.leaders.length : Int)) = true := nat_ne h3
    go_enter Try.func37, Try.ntmps37
    go_wp2_with ((with_reducible refine wpList_at ?_); refine wpList_boxv (by rfl) 27 (.tmp 0) (by rfl) _ (by rfl) ?_; rw [hg]; intro w1 hg1 hz1 hb1; obtain ⟨q0, q1, q2, q3, q4, q5, q6⟩ := cells7_at hg1)
    go_ret
    exact ⟨ret_bool (by rw [← HR.out, told_no (fun h => h3 h.2.2.1)]), hb1⟩
  have h3e : s.locks.length = s.leaders.length := by omega
  have h3' : ((s.locks.length : Int) != (s.leaders.length : Int)) = false := nat_same h3e
  go_enter Try.func37, Try.ntmps37
  go_wp2_with ((with_reducible refine wpList_at ?_); refine wpList_boxv (by rfl) 27 (.tmp 0) (by rfl) _ (by rfl) ?_; rw [hg]; intro w1 hg1 hz1 hb1; obtain ⟨q0, q1, q2, q3, q4, q5, q6⟩ := cells7_at hg1)
  have L1 : Lies w1 a1 a2 a3 a4 s := L.below (by rw [hg]; exact hb1)
  have Q1 : Hid (w1.cell? ⟨g, 1, none⟩ = some (.slice a1 s.parties.length c1)) := q1
  have Q3 : Hid (w1.cell? ⟨g, 3, none⟩ = some (.slice a3 s.leaders.length c3)) := q3
  have Q4 : Hid (w1.cell? ⟨g, 4, none⟩ = some (.slice a4 s.locks.length c4)) := q4
  have HL1 : Hid (Lies w1 a1 a2 a3 a4 s) := L1
  clear L L1 hg1 hz1 q0 q1 q2 q3 q4 q5 q6
  go_loopw [4] (fun i wr => ∃ k : Nat, k ≤ s.leaders.length ∧ i = .int .i64 k ∧ Hid (∀ j, j < k → leaderOk s j) ∧ Still w1 wr) (fun i _ => s.leaders.length - (intOf i).toNat)
  case atStart => exact ⟨0, by omega, rfl, fun j hj => absurd hj (by omega), Still.refl _⟩
  case round =>
    obtain ⟨i, hi, rfl, HO, hst⟩ := hrel
    by_cases hlt : i < s.leaders.length
    · have i1 : (i : Int) < (s.leaders.length : Int) := by omega
      obtain ⟨b3, o3, rfl, d3⟩ := HL1.out.leaders.2.2.2 i hlt
      obtain ⟨b4, o4, rfl, d4⟩ := HL1.out.locks.2.2.2 i (by omega)
      have HO' : Hid (leaderOk s i = (0 ≤ s.leaders.getD i 0 ∧ s.leaders.getD i 0 < (s.parties.length : Int) ∧ (s.locks.getD i ByteArray.empty).size = 32 ∧ ∀ k, k < i → s.leaders.getD k 0 ≠ s.leaders.getD i 0)) := (rfl : _ = _)
      generalize hx : s.leaders.getD i 0 = x at d3 HO'
      generalize ht : s.locks.getD i ByteArray.empty = t at d4 HO'
      have i4 : (i : Int) < (s.locks.length : Int) := by omega
      have D3 : Hid (w1.cell? ⟨b3, o3 + i, none⟩ = some (.int .i64 x)) := d3
      replace d3 := hst.cell d3
      replace d4 := hst.cell d4
      have q1 := hst.cell Q1.out
      have q3 := hst.cell Q3.out
      have q4 := hst.cell Q4.out
      clear hx ht
      by_cases x0 : x < 0
      · go_wp2
        go_quiet (fail)
        go_wp2
        go_ret
        exact ⟨ret_bool (by rw [← HR.out, told_no (fun h => by have := h.2.2.2 i hlt; rw [HO'.out] at this; omega)]), below_drewN (hst.below hb1) _⟩
      have x0' : decide (x < 0) = false := decide_eq_false x0
      by_cases x1 : (s.parties.length : Int) ≤ x
      · go_wp2
        go_quiet (fail)
        go_wp2
        go_ret
        exact ⟨ret_bool (by rw [← HR.out, told_no (fun h => by have := h.2.2.2 i hlt; rw [HO'.out] at this; omega)]), below_drewN (hst.below hb1) _⟩
      have x1' : decide ((s.parties.length : Int) ≤ x) = false := decide_eq_false x1
      by_cases x2 : t.size ≠ 32
      · have x2' : ((t.size : Int) != 32) = true := by rw [bne_iff_ne]; omega
        go_wp2
        go_quiet (fail)
        go_wp2
        go_ret
        exact ⟨ret_bool (by rw [← HR.out, told_no (fun h => by have := h.2.2.2 i hlt; rw [HO'.out] at this; exact x2 this.2.2.1)]), below_drewN (hst.below hb1) _⟩
      have x2' : ((t.size : Int) != 32) = false := by rw [bne_eq_false_iff_eq]; omega
      go_wp2
      go_quiet (fail)
      replace hst := hst.drewN nq
      generalize wr.drewN nq = w2 at hst ⊢
      clear q1 q3 q4 d3 d4 x2' x1' x0'
      go_wp2
      go_loopw [5] (fun i5 wr => ∃ k : Nat, k ≤ i ∧ i5 = .int .i64 k ∧ Hid (∀ j, j < k → s.leaders.getD j 0 ≠ x) ∧ Still w1 wr) (fun i5 _ => i - (intOf i5).toNat)
      case atStart => exact ⟨0, by omega, rfl, fun j hj => absurd hj (by omega), hst⟩
      case round =>
        clear hst
        obtain ⟨k, hk, rfl, HK, hst⟩ := hrel
        by_cases hkl : k < i
        · have k1 : (k : Int) < (i : Int) := by omega
          have k2 : (k : Int) < (s.leaders.length : Int) := by omega
          have dk := hst.cell (HL1.out.leaders.get k (by omega))
          have d3 := hst.cell D3.out
          have q3 := hst.cell Q3.out
          generalize hy : s.leaders.getD k 0 = y at dk
          have HY : Hid (s.leaders.getD k 0 = y) := hy
          clear hy
          by_cases hxy : y = x
          · have e : (y == x) = true := by rw [hxy]; exact beq_self_eq_true _
            have HXY : Hid (y = x) := hxy
            clear hxy
            go_wp2
            go_quiet (fail)
            go_wp2
            go_ret
            exact ⟨ret_bool (by rw [← HR.out, told_no (fun h => by have := h.2.2.2 i hlt; rw [HO'.out] at this; exact this.2.2.2 k hkl (by rw [HY.out, HXY.out]))]), below_drewN (hst.below hb1) _⟩
          · have e : (y == x) = false := by rw [beq_eq_false_iff_ne]; exact hxy
            go_wp2
            go_quiet (fail)
            replace hst := hst.drewN nq
            generalize wr.drewN nq = w3 at hst ⊢
            go_wp2
            go_roundw
            case rel =>
              refine ⟨k + 1, by omega, by go_num, ?_, hst⟩
              intro j hj
              by_cases hjk : j = k
              · subst hjk; rw [HY.out]; exact hxy
              · exact HK.out j (by omega)
            case measure => simp [intOf]; omega
        · have k1 : ¬ (k : Int) < (i : Int) := by omega
          go_wp2
          go_roundw
          case rel =>
            refine ⟨i + 1, by omega, by go_num, ?_, hst⟩
            intro j hj
            by_cases hjk : j = i
            · subst hjk; rw [HO'.out]; exact ⟨by omega, by omega, by omega, fun j hj => HK.out j (by omega)⟩
            · exact HO.out j (by omega)
          case measure => simp [intOf]; omega
    · have i1 : ¬ (i : Int) < (s.leaders.length : Int) := by omega
      go_wp2
      go_ret
      exact ⟨ret_bool (by rw [← HR.out, told_yes ⟨by omega, by omega, by omega, fun j hj => HO.out j (by omega)⟩]), hst.below hb1⟩

end Go.Proofs.Ythoimecljfcjmaa

/-
  The document's Check of chapter 4: parties.
-/
namespace Go.Proofs.Ythoimecljfcjmaa
open Go.RowKit

set_option maxRecDepth 10000 in
set_option maxHeartbeats 2000000 in
theorem refparties_any {w : World} {v : Value} {s : SpecM} (hv : SpecV w v s) : Calls Try.prog 38 #[v] w fun e w' => e = .returned (.bool (told (partiesOk s))) ∧ Below w.heap.size w w' := by
  obtain ⟨a1, a2, a3, a4, c1, c2, c3, c4, rfl, L⟩ := hv
  obtain ⟨r, hr⟩ : ∃ r, told (partiesOk s) = r := ⟨_, rfl⟩
  have HR : Hid (told (partiesOk s) = r) := hr
  rw [hr]
  clear hr
  generalize hg : w.heap.size = g
  have hL1 := L.leaders.2.1
  have hL3 := L.parties.1
  unfold maxLen at hL1 hL3
  by_cases h1 : s.parties.length < 2
  · have h1' : (s.parties.length : Int) < 2 := by omega
    go_enter Try.func38, Try.ntmps38
    go_wp2_with ((with_reducible refine wpList_at ?_); refine wpList_boxv (by rfl) 27 (.tmp 0) (by rfl) _ (by rfl) ?_; rw [hg]; intro w1 hg1 hz1 hb1; obtain ⟨q0, q1, q2, q3, q4, q5, q6⟩ := cells7_at hg1)
    go_ret
    exact ⟨ret_bool (by rw [← HR.out, told_no (fun h => by have := h.1; omega)]), hb1⟩
  have h1' : ¬ (s.parties.length : Int) < 2 := by omega
  by_cases h2 : 6 < s.parties.length
  · have h2' : (6 : Int) < (s.parties.length : Int) := by omega
    go_enter Try.func38, Try.ntmps38
    go_wp2_with ((with_reducible refine wpList_at ?_); refine wpList_boxv (by rfl) 27 (.tmp 0) (by rfl) _ (by rfl) ?_; rw [hg]; intro w1 hg1 hz1 hb1; obtain ⟨q0, q1, q2, q3, q4, q5, q6⟩ := cells7_at hg1)
    go_ret
    exact ⟨ret_bool (by rw [← HR.out, told_no (fun h => by have := h.2.1; omega)]), hb1⟩
  have h2' : ¬ (6 : Int) < (s.parties.length : Int) := by omega
  go_enter Try.func38, Try.ntmps38
  go_wp2_with ((with_reducible refine wpList_at ?_); refine wpList_boxv (by rfl) 27 (.tmp 0) (by rfl) _ (by rfl) ?_; rw [hg]; intro w1 hg1 hz1 hb1; obtain ⟨q0, q1, q2, q3, q4, q5, q6⟩ := cells7_at hg1)
  have L1 : Lies w1 a1 a2 a3 a4 s := L.below (by rw [hg]; exact hb1)
  have Q1 : Hid (w1.cell? ⟨g, 1, none⟩ = some (.slice a1 s.parties.length c1)) := q1
  have Q3 : Hid (w1.cell? ⟨g, 3, none⟩ = some (.slice a3 s.leaders.length c3)) := q3
  have HL1 : Hid (Lies w1 a1 a2 a3 a4 s) := L1
  have hgs : g ≤ w1.heap.size := by omega
  clear L L1 hg1 hz1 q0 q1 q2 q3 q4 q5 q6
  go_loopw [4] (fun i wr => ∃ k : Nat, k ≤ s.parties.length ∧ i = .int .i64 k ∧ Hid (∀ j, j < k → partyOk s j) ∧ Below w1.heap.size w1 wr) (fun i _ => s.parties.length - (intOf i).toNat)
  case atStart => exact ⟨0, by omega, rfl, fun j hj => absurd hj (by omega), Below.refl _ _⟩
  case round =>
    obtain ⟨i, hi, rfl, HO, hst⟩ := hrel
    by_cases hlt : i < s.parties.length
    · have i1 : (i : Int) < (s.parties.length : Int) := by omega
      obtain ⟨b1, o1, rfl, ps, d0, ka, kc, d1, hks⟩ := HL1.out.parties.2 i hlt
      obtain ⟨P, hP⟩ : ∃ P, s.parties.getD i noParty = P := ⟨_, rfl⟩
      have HO' : Hid (partyOk s i = (nameOk P.acc ∧ P.keys.length = s.leaders.length ∧ (∀ k, k < P.keys.length → (P.keys.getD k ByteArray.empty).size = 16) ∧ ∀ k, k < i → (s.parties.getD k noParty).acc ≠ P.acc)) := by
        show _ = _
        unfold partyOk; rw [hP]
      rw [hP] at ps d0 d1 hks
      clear hP
      have hkm := hks.2.1
      unfold maxLen at hkm ps
      have HKS : Hid (Strs w1 ka P.keys.length P.keys) := hks
      replace d0 := cell_on hst d0
      replace d1 := cell_on hst d1
      have q1 := cell_on hst Q1.out
      have q3 := cell_on hst Q3.out
      clear hks
      go_wp2_with fail
      have e0 : (wr.alloc (Obj.cells #[Value.string P.acc, Value.slice ka P.keys.length kc] 52)).cell? ⟨wr.heap.size, 0, none⟩ = some (.string P.acc) := by rw [World.cell?_alloc_new]; rfl
      have e1 : (wr.alloc (Obj.cells #[Value.string P.acc, Value.slice ka P.keys.length kc] 52)).cell? ⟨wr.heap.size, 1, none⟩ = some (.slice ka P.keys.length kc) := by rw [World.cell?_alloc_new]; rfl
      have hB2 : Below w1.heap.size w1 (wr.alloc (Obj.cells #[Value.string P.acc, Value.slice ka P.keys.length kc] 52)) := hst.alloc hst.size _
      clear q1 q3 d0 d1 hst
      generalize wr.alloc (Obj.cells #[Value.string P.acc, Value.slice ka P.keys.length kc] 52) = w2 at e0 e1 hB2 ⊢
      generalize wr.heap.size = gp at e0 e1 ⊢
      have q3 := cell_on hB2 Q3.out
      have HN := refname_any P.acc w2
      by_cases hn : nameOk P.acc
      · rw [told_yes hn] at HN
        have HNm : Hid (nameOk P.acc) := hn
        clear hn
        refine HN.mono ?_
        rintro e w0 ⟨rfl, hw0⟩
        subst w0
        clear HN
        by_cases hkl : P.keys.length = s.leaders.length
        · have hkl' : ((P.keys.length : Int) != (s.leaders.length : Int)) = false := nat_same hkl
          have HKL : Hid (P.keys.length = s.leaders.length) := hkl
          have E0 : Hid (w2.cell? ⟨gp, 0, none⟩ = some (.string P.acc)) := e0
          have E1 : Hid (w2.cell? ⟨gp, 1, none⟩ = some (.slice ka P.keys.length kc)) := e1
          clear hkl
          go_wp2
          clear e0 e1 q3
          go_loopw [6] (fun i6 wr => ∃ k : Nat, k ≤ P.keys.length ∧ i6 = .int .i64 k ∧ Hid (∀ j, j < k → (P.keys.getD j ByteArray.empty).size = 16) ∧ Still w2 wr) (fun i6 _ => P.keys.length - (intOf i6).toNat)
          case atStart => exact ⟨0, by omega, rfl, fun j hj => absurd hj (by omega), Still.refl _⟩
          case round =>
            obtain ⟨k, hk, rfl, HK, hst⟩ := hrel
            by_cases hkl : k < P.keys.length
            · have k1 : (k : Int) < (P.keys.length : Int) := by omega
              obtain ⟨bk, ok, rfl, dk⟩ := HKS.out.2.2.2 k hkl
              replace dk := hst.cell (cell_on hB2 dk)
              have e1 := hst.cell E1.out
              obtain ⟨t, ht⟩ : ∃ t, P.keys.getD k ByteArray.empty = t := ⟨_, rfl⟩
              rw [ht] at dk
              have HT : Hid (P.keys.getD k ByteArray.empty = t) := ht
              clear ht
              by_cases ht16 : t.size = 16
              · have t1 : ((t.size : Int) != 16) = false := by rw [bne_eq_false_iff_eq]; omega
                have HT16 : Hid (t.size = 16) := ht16
                clear ht16
                go_wp2
                go_roundw
                case rel =>
                  refine ⟨k + 1, by omega, by go_num, ?_, hst⟩
                  intro j hj
                  by_cases hjk : j = k
                  · subst hjk; rw [HT.out]; exact HT16.out
                  · exact HK.out j (by omega)
                case measure => simp [intOf]; omega
              · have t1 : ((t.size : Int) != 16) = true := by rw [bne_iff_ne]; omega
                go_wp2
                go_ret
                exact ⟨ret_bool (by rw [← HR.out, told_no (fun h => by have := h.2.2 i hlt; rw [HO'.out] at this; exact ht16 (by rw [← HT.out]; exact this.2.2.1 k hkl))]), hst.below (hb1.trans (hB2.mono hgs))⟩
            · have k1 : ¬ (k : Int) < (P.keys.length : Int) := by omega
              have HKK : Hid (∀ j, j < P.keys.length → (P.keys.getD j ByteArray.empty).size = 16) := fun j hj => HK.out j (by omega)
              have e1 := hst.cell E1.out
              clear HK
              go_wp2
              clear e1
              replace hst : Still w2 wr := hst
              go_loopw [7] (fun i7 wr => ∃ k : Nat, k ≤ i ∧ i7 = .int .i64 k ∧ Hid (∀ j, j < k → (s.parties.getD j noParty).acc ≠ P.acc) ∧ Still w2 wr) (fun i7 _ => i - (intOf i7).toNat)
              case atStart => exact ⟨0, by omega, rfl, fun j hj => absurd hj (by omega), hst⟩
              case round =>
                clear hst hk k1 hkl
                obtain ⟨k7, hk, rfl, HK7, hst⟩ := hrel
                by_cases hkl : k7 < i
                · have k1 : (k7 : Int) < (i : Int) := by omega
                  have k2 : (k7 : Int) < (s.parties.length : Int) := by omega
                  obtain ⟨ps7, d7, ka7, kc7, d71, hks7⟩ := HL1.out.parties.get k7 (by omega)
                  replace d7 := hst.cell (cell_on hB2 d7)
                  have q1 := hst.cell (cell_on hB2 Q1.out)
                  have e0 := hst.cell E0.out
                  obtain ⟨t, ht⟩ : ∃ t, (s.parties.getD k7 noParty).acc = t := ⟨_, rfl⟩
                  rw [ht] at d7
                  have HT : Hid ((s.parties.getD k7 noParty).acc = t) := ht
                  clear ht d71 hks7 ps7
                  by_cases hta : t = P.acc
                  · have t1 : (t.toList == P.acc.toList) = true := by rw [hta]; exact beq_self_eq_true _
                    have HTA : Hid (t = P.acc) := hta
                    clear hta
                    go_wp2
                    go_quiet (fail)
                    go_wp2
                    go_ret
                    exact ⟨ret_bool (by rw [← HR.out, told_no (fun h => by have := h.2.2 i hlt; rw [HO'.out] at this; exact this.2.2.2 k7 hkl (by rw [HT.out, HTA.out]))]), below_drewN (hst.below (hb1.trans (hB2.mono hgs))) _⟩
                  · have t1 : (t.toList == P.acc.toList) = false := by
                      rw [same_list, beq_eq_false_iff_ne]
                      exact fun h => hta (ByteArray.ext (Array.toList_inj.1 h))
                    go_wp2
                    go_quiet (fail)
                    replace hst := hst.drewN nq
                    generalize wr.drewN nq = w3 at hst ⊢
                    go_wp2
                    go_roundw
                    case rel =>
                      refine ⟨k7 + 1, by omega, by go_num, ?_, hst⟩
                      intro j hj
                      by_cases hjk : j = k7
                      · subst hjk; rw [HT.out]; exact hta
                      · exact HK7.out j (by omega)
                    case measure => simp [intOf]; omega
                · have k1 : ¬ (k7 : Int) < (i : Int) := by omega
                  go_wp2
                  go_roundw
                  case rel =>
                    refine ⟨i + 1, by omega, by go_num, ?_, hst.below hB2⟩
                    intro j hj
                    by_cases hjk : j = i
                    · subst hjk; rw [HO'.out]; exact ⟨HNm.out, HKL.out, HKK.out, fun j hj => HK7.out j (by omega)⟩
                    · exact HO.out j (by omega)
                  case measure => simp [intOf]; omega
        · have hkl' : ((P.keys.length : Int) != (s.leaders.length : Int)) = true := nat_ne hkl
          go_wp2
          go_ret
          exact ⟨ret_bool (by rw [← HR.out, told_no (fun h => by have := h.2.2 i hlt; rw [HO'.out] at this; exact hkl this.2.1)]), hb1.trans (hB2.mono hgs)⟩
      · rw [told_no hn] at HN
        refine HN.mono ?_
        rintro e w0 ⟨rfl, hw0⟩
        subst w0
        go_wp2
        go_ret
        exact ⟨ret_bool (by rw [← HR.out, told_no (fun h => by have := h.2.2 i hlt; rw [HO'.out] at this; exact hn this.1)]), hb1.trans (hB2.mono hgs)⟩
    · have i1 : ¬ (i : Int) < (s.parties.length : Int) := by omega
      go_wp2
      go_ret
      exact ⟨ret_bool (by rw [← HR.out, told_yes ⟨by omega, by omega, fun j hj => HO.out j (by omega)⟩]), hb1.trans (hst.mono hgs)⟩

end Go.Proofs.Ythoimecljfcjmaa

/-
  The document's Check of chapter 4: arcs; the whole of it.
-/
namespace Go.Proofs.Ythoimecljfcjmaa
open Go.RowKit

set_option maxRecDepth 10000 in
set_option maxHeartbeats 4000000 in
theorem refarcs_any {w : World} {v : Value} {s : SpecM} (hv : SpecV w v s) : Calls Try.prog 39 #[v] w fun e w' => e = .returned (.bool (told (arcsOk s))) ∧ Below w.heap.size w w' := by
  obtain ⟨a1, a2, a3, a4, c1, c2, c3, c4, rfl, L⟩ := hv
  obtain ⟨r, hr⟩ : ∃ r, told (arcsOk s) = r := ⟨_, rfl⟩
  have HR : Hid (told (arcsOk s) = r) := hr
  rw [hr]
  clear hr
  generalize hg : w.heap.size = g
  have hL1 := L.arcs.1
  have hL3 := L.parties.1
  unfold maxLen at hL1 hL3
  obtain ⟨n, hn⟩ : ∃ n, s.arcs.length = n := ⟨_, rfl⟩
  have HN0 : Hid (s.arcs.length = n) := hn
  obtain ⟨m, hm⟩ : ∃ m, s.parties.length = m := ⟨_, rfl⟩
  have HM0 : Hid (s.parties.length = m) := hm
  go_enter Try.func39, Try.ntmps39
  go_wp2_with ((with_reducible refine wpList_at ?_); refine wpList_boxv (by rfl) 27 (.tmp 0) (by rfl) _ (by rfl) ?_; rw [hg]; intro w1 hg1 hz1 hb1; obtain ⟨q0, q1, q2, q3, q4, q5, q6⟩ := cells7_at hg1; rw [hm] at q1; rw [hn] at q2)
  have L1 : Lies w1 a1 a2 a3 a4 s := L.below (by rw [hg]; exact hb1)
  have Q2 : Hid (w1.cell? ⟨g, 2, none⟩ = some (.slice a2 n c2)) := q2
  have HL1 : Hid (Lies w1 a1 a2 a3 a4 s) := L1
  have hgs : g ≤ w1.heap.size := by omega
  rw [hn] at hL1
  rw [hm] at hL3
  clear L L1 hg1 hz1 q0 q1 q2 q3 q4 q5 q6 hn hm
  go_loopw [4] (fun i wr => ∃ k : Nat, k ≤ n ∧ i = .int .i64 k ∧ Hid (∀ j, j < k → arcOk s j) ∧ Below w1.heap.size w1 wr) (fun i _ => n - (intOf i).toNat)
  case atStart => exact ⟨0, by omega, rfl, fun j hj => absurd hj (by omega), Below.refl _ _⟩
  case round =>
    obtain ⟨i, hi, rfl, HO, hst⟩ := hrel
    have q2 := cell_on hst Q2.out
    by_cases hlt : i < n
    · have i1 : (i : Int) < (n : Int) := by omega
      have hlt' : i < s.arcs.length := by rw [HN0.out]; exact hlt
      have HLT : Hid (i < s.arcs.length) := hlt'
      obtain ⟨b2, o2, rfl, i1', i2', i3', i4', i5', d0, d1, d2, d3, d4⟩ := HL1.out.arcs.2 i hlt'
      obtain ⟨A, hA⟩ : ∃ A, s.arcs.getD i noArc = A := ⟨_, rfl⟩
      have HO' : Hid (arcOk s i = ((0 ≤ A.src ∧ A.src < (m : Int) ∧ 0 ≤ A.dst ∧ A.dst < (m : Int) ∧ A.src ≠ A.dst ∧ 0 ≤ A.ledger ∧ A.ledger < 4 ∧ nameOk A.asset ∧ 1 ≤ A.amount ∧ A.amount ≤ 1125899906842624) ∧ ∀ k, k < i → ¬ ((s.arcs.getD k noArc).src = A.src ∧ (s.arcs.getD k noArc).dst = A.dst))) := by
        show _ = _
        unfold arcOk arcFine; rw [hA, HM0.out]
      rw [hA] at d0 d1 d2 d3 d4
      clear hA i1' i2' i3' i4' i5' hlt'
      replace d0 := cell_on hst d0
      replace d1 := cell_on hst d1
      replace d2 := cell_on hst d2
      replace d3 := cell_on hst d3
      replace d4 := cell_on hst d4
      have e0 : (wr.alloc (Obj.cells #[Value.int IntKind.i64 A.src, Value.int IntKind.i64 A.dst, Value.int IntKind.i64 A.ledger, Value.string A.asset, Value.int IntKind.i64 A.amount] 42)).cell? ⟨wr.heap.size, 0, none⟩ = some (.int .i64 A.src) := by rw [World.cell?_alloc_new]; rfl
      have e1 : (wr.alloc (Obj.cells #[Value.int IntKind.i64 A.src, Value.int IntKind.i64 A.dst, Value.int IntKind.i64 A.ledger, Value.string A.asset, Value.int IntKind.i64 A.amount] 42)).cell? ⟨wr.heap.size, 1, none⟩ = some (.int .i64 A.dst) := by rw [World.cell?_alloc_new]; rfl
      have hB2 : Below w1.heap.size w1 (wr.alloc (Obj.cells #[Value.int IntKind.i64 A.src, Value.int IntKind.i64 A.dst, Value.int IntKind.i64 A.ledger, Value.string A.asset, Value.int IntKind.i64 A.amount] 42)) := hst.alloc hst.size _
      have E0 : Hid ((wr.alloc (Obj.cells #[Value.int IntKind.i64 A.src, Value.int IntKind.i64 A.dst, Value.int IntKind.i64 A.ledger, Value.string A.asset, Value.int IntKind.i64 A.amount] 42)).cell? ⟨wr.heap.size, 0, none⟩ = some (.int .i64 A.src)) := e0
      have E1 : Hid ((wr.alloc (Obj.cells #[Value.int IntKind.i64 A.src, Value.int IntKind.i64 A.dst, Value.int IntKind.i64 A.ledger, Value.string A.asset, Value.int IntKind.i64 A.amount] 42)).cell? ⟨wr.heap.size, 1, none⟩ = some (.int .i64 A.dst)) := e1
      clear e0 e1
      have HNm := fun W => refname_any A.asset W
      by_cases c1 : A.src < 0
      · go_wp2
        go_ret
        exact ⟨ret_bool (by rw [← HR.out, told_no (fun h => by have := h.2.2 i HLT.out; rw [HO'.out] at this; omega)]), hb1.trans (hB2.mono hgs)⟩
      by_cases c2 : (m : Int) ≤ A.src
      · go_wp2
        go_ret
        exact ⟨ret_bool (by rw [← HR.out, told_no (fun h => by have := h.2.2 i HLT.out; rw [HO'.out] at this; omega)]), hb1.trans (hB2.mono hgs)⟩
      by_cases c3 : A.dst < 0
      · go_wp2
        go_ret
        exact ⟨ret_bool (by rw [← HR.out, told_no (fun h => by have := h.2.2 i HLT.out; rw [HO'.out] at this; omega)]), hb1.trans (hB2.mono hgs)⟩
      by_cases c4 : (m : Int) ≤ A.dst
      · go_wp2
        go_ret
        exact ⟨ret_bool (by rw [← HR.out, told_no (fun h => by have := h.2.2 i HLT.out; rw [HO'.out] at this; omega)]), hb1.trans (hB2.mono hgs)⟩
      by_cases c5 : A.src = A.dst
      · have c5' : (A.src == A.dst) = true := by rw [c5]; exact beq_self_eq_true _
        have HC : Hid (A.src = A.dst) := c5
        clear c5
        go_wp2
        go_ret
        exact ⟨ret_bool (by rw [← HR.out, told_no (fun h => by have := h.2.2 i HLT.out; rw [HO'.out] at this; exact this.1.2.2.2.2.1 HC.out)]), hb1.trans (hB2.mono hgs)⟩
      have c5' : (A.src == A.dst) = false := by rw [beq_eq_false_iff_ne]; exact c5
      by_cases c6 : A.ledger < 0
      · go_wp2
        go_ret
        exact ⟨ret_bool (by rw [← HR.out, told_no (fun h => by have := h.2.2 i HLT.out; rw [HO'.out] at this; omega)]), hb1.trans (hB2.mono hgs)⟩
      by_cases c7 : (4 : Int) ≤ A.ledger
      · go_wp2
        go_ret
        exact ⟨ret_bool (by rw [← HR.out, told_no (fun h => by have := h.2.2 i HLT.out; rw [HO'.out] at this; omega)]), hb1.trans (hB2.mono hgs)⟩
      by_cases c8 : ¬ nameOk A.asset
      · rw [told_no c8] at HNm
        go_wp2_with (go_at_call 36; refine (HNm _).mono ?_; rintro e w0 ⟨rfl, hw0⟩; subst w0)
        go_ret
        exact ⟨ret_bool (by rw [← HR.out, told_no (fun h => by have := h.2.2 i HLT.out; rw [HO'.out] at this; exact c8 this.1.2.2.2.2.2.2.2.1)]), hb1.trans (hB2.mono hgs)⟩
      have c8n : nameOk A.asset := Classical.not_not.1 c8
      rw [told_yes c8n] at HNm
      have HC8 : Hid (nameOk A.asset) := c8n
      clear c8 c8n
      by_cases c9 : A.amount < 1
      · go_wp2_with (go_at_call 36; refine (HNm _).mono ?_; rintro e w0 ⟨rfl, hw0⟩; subst w0)
        go_ret
        exact ⟨ret_bool (by rw [← HR.out, told_no (fun h => by have := h.2.2 i HLT.out; rw [HO'.out] at this; omega)]), hb1.trans (hB2.mono hgs)⟩
      by_cases c10 : (1125899906842624 : Int) < A.amount
      · go_wp2_with (go_at_call 36; refine (HNm _).mono ?_; rintro e w0 ⟨rfl, hw0⟩; subst w0)
        go_ret
        exact ⟨ret_bool (by rw [← HR.out, told_no (fun h => by have := h.2.2 i HLT.out; rw [HO'.out] at this; omega)]), hb1.trans (hB2.mono hgs)⟩
      go_wp2_with (go_at_call 36; refine (HNm _).mono ?_; rintro e w0 ⟨rfl, hw0⟩; subst w0)
      clear q2 d0 d1 d2 d3 d4 hst HNm
      generalize wr.alloc (Obj.cells #[Value.int IntKind.i64 A.src, Value.int IntKind.i64 A.dst, Value.int IntKind.i64 A.ledger, Value.string A.asset, Value.int IntKind.i64 A.amount] 42) = w2 at E0 E1 hB2 ⊢
      generalize wr.heap.size = gp at E0 E1 ⊢
      go_loopw [6] (fun i6 wr => ∃ k : Nat, k ≤ i ∧ i6 = .int .i64 k ∧ Hid (∀ j, j < k → ¬ ((s.arcs.getD j noArc).src = A.src ∧ (s.arcs.getD j noArc).dst = A.dst)) ∧ Still w2 wr) (fun i6 _ => i - (intOf i6).toNat)
      case atStart => exact ⟨0, by omega, rfl, fun j hj => absurd hj (by omega), Still.refl _⟩
      case round =>
        obtain ⟨k, hk, rfl, HK, hst⟩ := hrel
        by_cases hkl : k < i
        · have k1 : (k : Int) < (i : Int) := by omega
          have k2 : (k : Int) < (n : Int) := by omega
          obtain ⟨_, _, _, _, _, d0, d1, _, _, _⟩ := HL1.out.arcs.get k (by rw [HN0.out]; omega)
          replace d0 := hst.cell (cell_on hB2 d0)
          replace d1 := hst.cell (cell_on hB2 d1)
          have q2 := hst.cell (cell_on hB2 Q2.out)
          have e0 := hst.cell E0.out
          have e1 := hst.cell E1.out
          obtain ⟨x, hx⟩ : ∃ x, (s.arcs.getD k noArc).src = x := ⟨_, rfl⟩
          obtain ⟨y, hy⟩ : ∃ y, (s.arcs.getD k noArc).dst = y := ⟨_, rfl⟩
          rw [hx] at d0
          rw [hy] at d1
          have HX : Hid ((s.arcs.getD k noArc).src = x) := hx
          have HY : Hid ((s.arcs.getD k noArc).dst = y) := hy
          clear hx hy
          by_cases hxs : x = A.src
          · have t1 : (x == A.src) = true := by rw [hxs]; exact beq_self_eq_true _
            have HXS : Hid (x = A.src) := hxs
            clear hxs
            by_cases hyd : y = A.dst
            · have t2 : (y == A.dst) = true := by rw [hyd]; exact beq_self_eq_true _
              have HYD : Hid (y = A.dst) := hyd
              clear hyd
              go_wp2
              go_quiet (fail)
              go_wp2
              go_ret
              exact ⟨ret_bool (by rw [← HR.out, told_no (fun h => by have := h.2.2 i HLT.out; rw [HO'.out] at this; exact this.2 k hkl ⟨by rw [HX.out, HXS.out], by rw [HY.out, HYD.out]⟩)]), below_drewN (hst.below (hb1.trans (hB2.mono hgs))) _⟩
            · have t2 : (y == A.dst) = false := by rw [beq_eq_false_iff_ne]; exact hyd
              go_wp2
              go_quiet (fail)
              replace hst := hst.drewN nq
              generalize wr.drewN nq = w3 at hst ⊢
              go_wp2
              go_roundw
              case rel =>
                refine ⟨k + 1, by omega, by go_num, ?_, hst⟩
                intro j hj
                by_cases hjk : j = k
                · subst hjk; rw [HX.out, HY.out]; exact fun h => hyd h.2
                · exact HK.out j (by omega)
              case measure => simp [intOf]; omega
          · have t1 : (x == A.src) = false := by rw [beq_eq_false_iff_ne]; exact hxs
            go_wp2
            go_quiet (fail)
            replace hst := hst.drewN nq
            generalize wr.drewN nq = w3 at hst ⊢
            go_wp2
            go_roundw
            case rel =>
              refine ⟨k + 1, by omega, by go_num, ?_, hst⟩
              intro j hj
              by_cases hjk : j = k
              · subst hjk; rw [HX.out]; exact fun h => hxs h.1
              · exact HK.out j (by omega)
            case measure => simp [intOf]; omega
        · have k1 : ¬ (k : Int) < (i : Int) := by omega
          go_wp2
          go_roundw
          case rel =>
            refine ⟨i + 1, by omega, by go_num, ?_, hst.below hB2⟩
            intro j hj
            by_cases hjk : j = i
            · subst hjk; rw [HO'.out]; exact ⟨⟨by omega, by omega, by omega, by omega, c5, by omega, by omega, HC8.out, by omega, by omega⟩, fun j hj => HK.out j (by omega)⟩
            · exact HO.out j (by omega)
          case measure => simp [intOf]; omega
    · have i1 : ¬ (i : Int) < (n : Int) := by omega
      have HALL : Hid (∀ j, j < s.arcs.length → arcOk s j) := fun j hj => HO.out j (by rw [HN0.out] at hj; omega)
      clear HO
      by_cases hn1 : 1 ≤ n
      · have n1 : (1 : Int) ≤ (n : Int) := by omega
        by_cases hn2 : n ≤ 12
        · have n2 : (n : Int) ≤ 12 := by omega
          go_wp2
          go_ret
          exact ⟨ret_bool (by rw [← HR.out, told_yes ⟨by rw [HN0.out]; exact hn1, by rw [HN0.out]; exact hn2, HALL.out⟩]), hb1.trans (hst.mono hgs)⟩
        · have n2 : ¬ (n : Int) ≤ 12 := by omega
          go_wp2
          go_ret
          exact ⟨ret_bool (by rw [← HR.out, told_no (fun h => by have := h.2.1; rw [HN0.out] at this; omega)]), hb1.trans (hst.mono hgs)⟩
      · have n1 : ¬ (1 : Int) ≤ (n : Int) := by omega
        go_wp2
        go_ret
        exact ⟨ret_bool (by rw [← HR.out, told_no (fun h => by have := h.1; rw [HN0.out] at this; omega)]), hb1.trans (hst.mono hgs)⟩

end Go.Proofs.Ythoimecljfcjmaa

/-
  The document's Check of chapter 4, whole.
-/
namespace Go.Proofs.Ythoimecljfcjmaa
open Go.RowKit

set_option maxRecDepth 10000 in
set_option maxHeartbeats 4000000 in
theorem refcheck_any {w : World} {v : Value} {s : SpecM} (hv : SpecV w v s) : Calls Try.prog 18 #[v] w fun e w' => e = .returned (.bool (told (specOk s))) ∧ Below w.heap.size w w' := by
  obtain ⟨a1, a2, a3, a4, c1, c2, c3, c4, rfl, L⟩ := hv
  obtain ⟨r, hr⟩ : ∃ r, told (specOk s) = r := ⟨_, rfl⟩
  have HR : Hid (told (specOk s) = r) := hr
  rw [hr]
  clear hr
  generalize hg : w.heap.size = g
  have HN := fun W => refname_any s.id W
  have HLd : ∀ W, Lies W a1 a2 a3 a4 s → _ := fun W hW => refleaders_any (w := W) (s := s) ⟨a1, a2, a3, a4, c1, c2, c3, c4, rfl, hW⟩
  have HPa : ∀ W, Lies W a1 a2 a3 a4 s → _ := fun W hW => refparties_any (w := W) (s := s) ⟨a1, a2, a3, a4, c1, c2, c3, c4, rfl, hW⟩
  have HAr : ∀ W, Lies W a1 a2 a3 a4 s → _ := fun W hW => refarcs_any (w := W) (s := s) ⟨a1, a2, a3, a4, c1, c2, c3, c4, rfl, hW⟩
  unfold cells7 at HLd HPa HAr
  go_enter Try.func18, Try.ntmps18
  go_wp2_with ((with_reducible refine wpList_at ?_); refine wpList_boxv (by rfl) 27 (.tmp 0) (by rfl) _ (by rfl) ?_; rw [hg]; intro w1 hg1 hz1 hb1; obtain ⟨q0, q1, q2, q3, q4, q5, q6⟩ := cells7_at hg1)
  have L1 : Lies w1 a1 a2 a3 a4 s := L.below (by rw [hg]; exact hb1)
  have hgs : g ≤ w1.heap.size := by omega
  have HL1 : Hid (Lies w1 a1 a2 a3 a4 s) := L1
  have i5 := L1.start
  have i6 := L1.delta
  unfold In64 at i5 i6
  clear L L1 hg1 hz1
  by_cases p0 : ¬ nameOk s.id
  · have HX := (HN w1)
    rw [told_no p0] at HX
    refine HX.mono ?_
    rintro e w9 ⟨rfl, hw9⟩
    subst w9
    go_wp2
    go_ret
    exact ⟨ret_bool (by rw [← HR.out, told_no (fun h => p0 h.1)]), hb1⟩
  replace p0 := Classical.not_not.1 p0
  have HP0 : Hid (nameOk s.id) := p0
  have HX := (HN w1)
  rw [told_yes p0] at HX
  clear p0
  refine HX.mono ?_
  rintro e w9 ⟨rfl, hw9⟩
  subst w9
  clear HX HN
  go_wp2_with fail
  by_cases p1 : ¬ leadersOk s
  · have HX := (HLd w1 (HL1.out.below (Below.refl _ _)))
    rw [told_no p1] at HX
    refine HX.mono ?_
    rintro e w9 ⟨rfl, hb9⟩
    go_wp2
    go_ret
    exact ⟨ret_bool (by rw [← HR.out, told_no (fun h => p1 h.2.1)]), (hb1).trans (hb9.mono hgs)⟩
  replace p1 := Classical.not_not.1 p1
  have HP1 : Hid (leadersOk s) := p1
  have HX := (HLd w1 (HL1.out.below (Below.refl _ _)))
  rw [told_yes p1] at HX
  clear p1
  refine HX.mono ?_
  rintro e w2 ⟨rfl, hb9⟩
  have hB := hb9
  replace q0 := cell_on hb9 q0
  replace q1 := cell_on hb9 q1
  replace q2 := cell_on hb9 q2
  replace q3 := cell_on hb9 q3
  replace q4 := cell_on hb9 q4
  replace q5 := cell_on hb9 q5
  replace q6 := cell_on hb9 q6
  clear hb9 HX HLd
  go_wp2_with fail
  by_cases p2 : ¬ partiesOk s
  · have HX := (HPa w2 (HL1.out.below hB))
    rw [told_no p2] at HX
    refine HX.mono ?_
    rintro e w9 ⟨rfl, hb9⟩
    go_wp2
    go_ret
    exact ⟨ret_bool (by rw [← HR.out, told_no (fun h => p2 h.2.2.1)]), (hb1.trans (hB.mono hgs)).trans (hb9.mono (Nat.le_trans hgs hB.size))⟩
  replace p2 := Classical.not_not.1 p2
  have HP2 : Hid (partiesOk s) := p2
  have HX := (HPa w2 (HL1.out.below hB))
  rw [told_yes p2] at HX
  clear p2
  refine HX.mono ?_
  rintro e w3 ⟨rfl, hb9⟩
  replace hB := below_then hB hb9
  replace q0 := cell_on hb9 q0
  replace q1 := cell_on hb9 q1
  replace q2 := cell_on hb9 q2
  replace q3 := cell_on hb9 q3
  replace q4 := cell_on hb9 q4
  replace q5 := cell_on hb9 q5
  replace q6 := cell_on hb9 q6
  clear hb9 HX HPa
  go_wp2_with fail
  by_cases p3 : ¬ arcsOk s
  · have HX := (HAr w3 (HL1.out.below hB))
    rw [told_no p3] at HX
    refine HX.mono ?_
    rintro e w9 ⟨rfl, hb9⟩
    go_wp2
    go_ret
    exact ⟨ret_bool (by rw [← HR.out, told_no (fun h => p3 h.2.2.2.1)]), (hb1.trans (hB.mono hgs)).trans (hb9.mono (Nat.le_trans hgs hB.size))⟩
  replace p3 := Classical.not_not.1 p3
  have HP3 : Hid (arcsOk s) := p3
  have HX := (HAr w3 (HL1.out.below hB))
  rw [told_yes p3] at HX
  clear p3
  refine HX.mono ?_
  rintro e w4 ⟨rfl, hb9⟩
  replace hB := below_then hB hb9
  replace q0 := cell_on hb9 q0
  replace q1 := cell_on hb9 q1
  replace q2 := cell_on hb9 q2
  replace q3 := cell_on hb9 q3
  replace q4 := cell_on hb9 q4
  replace q5 := cell_on hb9 q5
  replace q6 := cell_on hb9 q6
  clear hb9 HX HAr
  by_cases x0 : ¬ (0 : Int) ≤ s.start
  · go_wp2
    go_ret
    exact ⟨ret_bool (by rw [← HR.out, told_no (fun h => by have := h.2.2.2.2.1; omega)]), hb1.trans (hB.mono hgs)⟩
  replace x0 := Classical.not_not.1 x0
  by_cases x1 : ¬ s.start ≤ (1099511627776 : Int)
  · go_wp2
    go_ret
    exact ⟨ret_bool (by rw [← HR.out, told_no (fun h => by have := h.2.2.2.2.2.1; omega)]), hb1.trans (hB.mono hgs)⟩
  replace x1 := Classical.not_not.1 x1
  by_cases x2 : ¬ (1 : Int) ≤ s.delta
  · go_wp2
    go_ret
    exact ⟨ret_bool (by rw [← HR.out, told_no (fun h => by have := h.2.2.2.2.2.2.1; omega)]), hb1.trans (hB.mono hgs)⟩
  replace x2 := Classical.not_not.1 x2
  by_cases x3 : ¬ s.delta ≤ (1048576 : Int)
  · go_wp2
    go_ret
    exact ⟨ret_bool (by rw [← HR.out, told_no (fun h => by have := h.2.2.2.2.2.2.2; omega)] <;> exact decide_eq_false (by omega)), hb1.trans (hB.mono hgs)⟩
  replace x3 := Classical.not_not.1 x3
  go_wp2
  go_ret
  exact ⟨ret_bool (by rw [← HR.out, told_yes ⟨HP0.out, HP1.out, HP2.out, HP3.out, x0, x1, x2, x3⟩]), hb1.trans (hB.mono hgs)⟩

end Go.Proofs.Ythoimecljfcjmaa
