/-
  The program's unlike at arcs.
-/
import Derived.Test.YthoimecljfcjmaaZ11
import Derived.Test.YthoimecljfcjmaaSpOwnT
namespace Go.Proofs.Ythoimecljfcjmaa
open Go.RowKit

def arcKey (a : ArcM) : Int × Int := (a.src, a.dst)
theorem arcKey_same {A B : ArcM} (h : arcKey A = arcKey B) : (A.src == B.src && A.dst == B.dst) = true := by
  unfold arcKey at h; injection h with h1 h2; rw [h1, h2]; simp
theorem arcKey_other {A B : ArcM} (h : arcKey A ≠ arcKey B) : (A.src == B.src && A.dst == B.dst) = false := by
  cases e : (A.src == B.src && A.dst == B.dst)
  · rfl
  · rw [Bool.and_eq_true, beq_iff_eq, beq_iff_eq] at e
    exact absurd (by unfold arcKey; rw [e.1, e.2]) h
theorem five_new (w : World) (P : ArcM) : let W := w.alloc (Obj.cells #[Value.int IntKind.i64 P.src, Value.int IntKind.i64 P.dst, Value.int IntKind.i64 P.ledger, Value.string P.asset, Value.int IntKind.i64 P.amount] 42)
    W.cell? ⟨w.heap.size, 0, none⟩ = some (.int .i64 P.src) ∧ W.cell? ⟨w.heap.size, 1, none⟩ = some (.int .i64 P.dst) ∧ W.cell? ⟨w.heap.size, 2, none⟩ = some (.int .i64 P.ledger) ∧ W.cell? ⟨w.heap.size, 3, none⟩ = some (.string P.asset) ∧ W.cell? ⟨w.heap.size, 4, none⟩ = some (.int .i64 P.amount) := by
  refine ⟨?_, ?_, ?_, ?_, ?_⟩ <;> (rw [World.cell?_alloc_new]; rfl)

set_option maxRecDepth 10000 in
set_option maxHeartbeats 2000000 in
theorem unlike_arc {w : World} {a : Option Addr} {c : Nat} {l : List ArcM} (h : Arcs w a l) (hc : l.length ≤ c) (hcm : c ≤ maxLen) :
    Calls Try.prog 85 #[.slice a l.length c, .func (.func 86) #[] #[]] w fun e w' => e = .returned (.bool (told (unlikeOk l.length (fun i => arcKey (l.getD i noArc))))) ∧ Below w.heap.size w w' := by
  obtain ⟨r, hr⟩ : ∃ r, told (unlikeOk l.length (fun i => arcKey (l.getD i noArc))) = r := ⟨_, rfl⟩
  have HR : Hid (told (unlikeOk l.length (fun i => arcKey (l.getD i noArc))) = r) := hr
  rw [hr]
  clear hr
  have HL : Hid (Arcs w a l) := h
  unfold maxLen at hcm
  have HM := mark_arc
  replace HM := hide HM
  clear h
  go_enter Try.func85, Try.ntmps85
  go_wp2
  go_loopw [11] (fun i wr => ∃ k : Nat, k ≤ l.length ∧ i = .int .i64 k ∧ Hid (∀ i, i < k → ∀ j, j < i → arcKey (l.getD j noArc) ≠ arcKey (l.getD i noArc)) ∧ Below w.heap.size w wr) (fun i _ => l.length - (intOf i).toNat)
  case atStart => exact ⟨0, by omega, rfl, fun j hj => absurd hj (by omega), Below.refl _ _⟩
  case round =>
    obtain ⟨i, hi, rfl, HO, hB⟩ := hrel
    by_cases hlt : i < l.length
    · have i1 : (i : Int) < (l.length : Int) := by omega
      obtain ⟨b, o, rfl, hd⟩ := HL.out.2 i hlt
      obtain ⟨P, hP⟩ : ∃ P, l.getD i noArc = P := ⟨_, rfl⟩
      rw [hP] at hd
      have HX : Hid (l.getD i noArc = P) := hP
      clear hP
      have ic : ¬ ((c : Int) < (i : Int)) := by omega
      obtain ⟨u1, u2, u3, u4, u5, d0, d1, d2, d3, d4⟩ := hd.below hB
      clear hd u1 u2 u3 u4 u5
      go_upto_region 4 with fail
      have hE := five_new wr P
      replace hB := hB.alloc hB.size (Obj.cells #[Value.int IntKind.i64 P.src, Value.int IntKind.i64 P.dst, Value.int IntKind.i64 P.ledger, Value.string P.asset, Value.int IntKind.i64 P.amount] 42)
      clear d0 d1 d2 d3 d4
      generalize wr.alloc (Obj.cells #[Value.int IntKind.i64 P.src, Value.int IntKind.i64 P.dst, Value.int IntKind.i64 P.ledger, Value.string P.asset, Value.int IntKind.i64 P.amount] 42) = w3 at hE hB ⊢
      generalize wr.heap.size = gp at hE ⊢
      obtain ⟨e0, e1, e2, e3, e4⟩ := hE
      have HE : Hid (w3.cell? ⟨gp, 0, none⟩ = some (.int .i64 P.src) ∧ w3.cell? ⟨gp, 1, none⟩ = some (.int .i64 P.dst) ∧ w3.cell? ⟨gp, 2, none⟩ = some (.int .i64 P.ledger) ∧ w3.cell? ⟨gp, 3, none⟩ = some (.string P.asset) ∧ w3.cell? ⟨gp, 4, none⟩ = some (.int .i64 P.amount)) := ⟨e0, e1, e2, e3, e4⟩
      clear e0 e1 e2 e3 e4
      go_wp2
      go_loopw [20] (fun k ws => ∃ j : Nat, j ≤ i ∧ k = .int .i64 j ∧ Hid (∀ m, m < j → arcKey (l.getD m noArc) ≠ arcKey P) ∧ Below w3.heap.size w3 ws) (fun k _ => i - (intOf k).toNat)
      case atStart => exact ⟨0, by omega, rfl, fun j hj => absurd hj (by omega), Below.refl _ _⟩
      case round =>
        obtain ⟨j, hj, rfl, HJ, hS⟩ := hrel
        have hBS := hB.trans (hS.mono hB.size)
        by_cases hjt : j < i
        · have j1 : (j : Int) < (i : Int) := by omega
          have hd2 := HL.out.get j (by omega)
          obtain ⟨R, hR⟩ : ∃ R, l.getD j noArc = R := ⟨_, rfl⟩
          rw [hR] at hd2
          have HY : Hid (l.getD j noArc = R) := hR
          clear hR
          obtain ⟨u1, u2, u3, u4, u5, d0, d1, d2, d3, d4⟩ := hd2.below hBS
          clear hd2 u1 u2 u3 u4 u5
          go_upto_region 7 with fail
          have hF := five_new wr R
          replace hS := hS.alloc hS.size (Obj.cells #[Value.int IntKind.i64 R.src, Value.int IntKind.i64 R.dst, Value.int IntKind.i64 R.ledger, Value.string R.asset, Value.int IntKind.i64 R.amount] 42)
          replace hBS := hBS.alloc hBS.size (Obj.cells #[Value.int IntKind.i64 R.src, Value.int IntKind.i64 R.dst, Value.int IntKind.i64 R.ledger, Value.string R.asset, Value.int IntKind.i64 R.amount] 42)
          clear d0 d1 d2 d3 d4
          generalize wr.alloc (Obj.cells #[Value.int IntKind.i64 R.src, Value.int IntKind.i64 R.dst, Value.int IntKind.i64 R.ledger, Value.string R.asset, Value.int IntKind.i64 R.amount] 42) = w4 at hF hS hBS ⊢
          generalize wr.heap.size = gq at hF ⊢
          obtain ⟨f0, f1, f2, f3, f4⟩ := hF
          obtain ⟨e0, e1, e2, e3, e4⟩ := HE.out
          replace e0 := cell_on hS e0
          replace e1 := cell_on hS e1
          replace e2 := cell_on hS e2
          replace e3 := cell_on hS e3
          replace e4 := cell_on hS e4
          by_cases hxy : arcKey R = arcKey P
          · have hxy' : ∀ W, (Op.equalIn 10000 96 (.agg #[.int .i64 R.src, .int .i64 R.dst]) (.agg #[.int .i64 P.src, .int .i64 P.dst])).run Try.prog W = .ok true W := by intro W; rw [run_eql2, arcKey_same hxy]
            go_region_held3 (fun w' => w'.cell? ⟨gq, 0, none⟩ = some (.int .i64 R.src) ∧ w'.cell? ⟨gq, 1, none⟩ = some (.int .i64 R.dst) ∧ w'.cell? ⟨gq, 2, none⟩ = some (.int .i64 R.ledger) ∧ w'.cell? ⟨gq, 3, none⟩ = some (.string R.asset) ∧ w'.cell? ⟨gq, 4, none⟩ = some (.int .i64 R.amount) ∧ w'.cell? ⟨gp, 0, none⟩ = some (.int .i64 P.src) ∧ w'.cell? ⟨gp, 1, none⟩ = some (.int .i64 P.dst) ∧ w'.cell? ⟨gp, 2, none⟩ = some (.int .i64 P.ledger) ∧ w'.cell? ⟨gp, 3, none⟩ = some (.string P.asset) ∧ w'.cell? ⟨gp, 4, none⟩ = some (.int .i64 P.amount)) (first | (exact ⟨f0, f1, f2, f3, f4, e0, e1, e2, e3, e4⟩) | (go_keep; done)) (first | (go_at_call 86; (with_reducible refine (HM.out _ _ _ _ _ _).mono ?_); rintro e w9 ⟨rfl, hb9⟩; (first | (replace hBS := below_then hBS hb9) | (replace hBS := below_then hBS.drew hb9)); replace f0 := cell_on hb9 f0; replace f1 := cell_on hb9 f1; replace f2 := cell_on hb9 f2; replace f3 := cell_on hb9 f3; replace f4 := cell_on hb9 f4; replace e0 := cell_on hb9 e0; replace e1 := cell_on hb9 e1; replace e2 := cell_on hb9 e2; replace e3 := cell_on hb9 e3; replace e4 := cell_on hb9 e4))
            all_goals
              go_wp2
              go_ret
              exact ⟨ret_bool (by rw [← HR.out, told_no (fun h => h i hlt j hjt (by show arcKey (l.getD j noArc) = arcKey (l.getD i noArc); rw [HX.out, HY.out, hxy]))]), hBS⟩
          · have hxy' : ∀ W, (Op.equalIn 10000 96 (.agg #[.int .i64 R.src, .int .i64 R.dst]) (.agg #[.int .i64 P.src, .int .i64 P.dst])).run Try.prog W = .ok false W := by intro W; rw [run_eql2, arcKey_other hxy]
            go_region_held3 (fun w' => w'.cell? ⟨gq, 0, none⟩ = some (.int .i64 R.src) ∧ w'.cell? ⟨gq, 1, none⟩ = some (.int .i64 R.dst) ∧ w'.cell? ⟨gq, 2, none⟩ = some (.int .i64 R.ledger) ∧ w'.cell? ⟨gq, 3, none⟩ = some (.string R.asset) ∧ w'.cell? ⟨gq, 4, none⟩ = some (.int .i64 R.amount) ∧ w'.cell? ⟨gp, 0, none⟩ = some (.int .i64 P.src) ∧ w'.cell? ⟨gp, 1, none⟩ = some (.int .i64 P.dst) ∧ w'.cell? ⟨gp, 2, none⟩ = some (.int .i64 P.ledger) ∧ w'.cell? ⟨gp, 3, none⟩ = some (.string P.asset) ∧ w'.cell? ⟨gp, 4, none⟩ = some (.int .i64 P.amount)) (first | (exact ⟨f0, f1, f2, f3, f4, e0, e1, e2, e3, e4⟩) | (go_keep; done)) (first | (go_at_call 86; (with_reducible refine (HM.out _ _ _ _ _ _).mono ?_); rintro e w9 ⟨rfl, hb9⟩; (first | (replace hS := below_then hS hb9) | (replace hS := below_then hS.drew hb9)); replace f0 := cell_on hb9 f0; replace f1 := cell_on hb9 f1; replace f2 := cell_on hb9 f2; replace f3 := cell_on hb9 f3; replace f4 := cell_on hb9 f4; replace e0 := cell_on hb9 e0; replace e1 := cell_on hb9 e1; replace e2 := cell_on hb9 e2; replace e3 := cell_on hb9 e3; replace e4 := cell_on hb9 e4))
            all_goals
              go_wp2
              go_roundw
              case rel =>
                refine ⟨j + 1, by omega, by go_num, fun m hm => ?_, hS⟩
                by_cases hm' : m < j
                · exact HJ.out m hm'
                · have : m = j := by omega
                  subst this; rw [HY.out]; exact hxy
              case measure => simp [intOf]; omega
        · have j1 : ¬ (j : Int) < (i : Int) := by omega
          have he : j = i := by omega
          go_wp2
          go_roundw
          case rel =>
            refine ⟨i + 1, by omega, by go_num, fun m hm k hk => ?_, hBS⟩
            by_cases hm' : m < i
            · exact HO.out m hm' k hk
            · have : m = i := by omega
              subst this; rw [HX.out]; exact HJ.out k (by omega)
          case measure => simp [intOf]; omega
    · have i1 : ¬ (i : Int) < (l.length : Int) := by omega
      go_wp2
      go_ret
      exact ⟨ret_bool (by rw [← HR.out, told_yes (p := unlikeOk l.length (fun i => arcKey (l.getD i noArc))) (fun m hm k hk => HO.out m (by omega) k hk)]), hB⟩

end Go.Proofs.Ythoimecljfcjmaa

/-
  The program's partiesFit, leadersFit, arcFits, arcsFit.
-/
namespace Go.Proofs.Ythoimecljfcjmaa
open Go.RowKit

/-- The capacities of a swap's slices. -/
def Caps (c1 c2 c3 : Nat) (s : SpecM) : Prop := s.parties.length ≤ c1 ∧ c1 ≤ maxLen ∧ s.arcs.length ≤ c2 ∧ c2 ≤ maxLen ∧ s.leaders.length ≤ c3 ∧ c3 ≤ maxLen
def SpecW (w : World) (v : Value) (s : SpecM) : Prop := ∃ a1 a2 a3 a4 c1 c2 c3 c4, v = .agg (cells7 a1 a2 a3 a4 c1 c2 c3 c4 s) ∧ Lies w a1 a2 a3 a4 s ∧ Caps c1 c2 c3 s
theorem SpecW.toV {w : World} {v : Value} {s : SpecM} (h : SpecW w v s) : SpecV w v s := by
  obtain ⟨a1, a2, a3, a4, c1, c2, c3, c4, h1, h2, _⟩ := h
  exact ⟨a1, a2, a3, a4, c1, c2, c3, c4, h1, h2⟩
theorem SpecW.below {w w' : World} {v : Value} {s : SpecM} (h : SpecW w v s) (hb : Below w.heap.size w w') : SpecW w' v s := by
  obtain ⟨a1, a2, a3, a4, c1, c2, c3, c4, h1, h2, h3⟩ := h
  exact ⟨a1, a2, a3, a4, c1, c2, c3, c4, h1, h2.below hb, h3⟩

def pFit (s : SpecM) : Prop := (∀ i, i < s.parties.length → nameOk (s.parties.getD i noParty).acc ∧ digestsOk (s.parties.getD i noParty).keys s.leaders.length 16) ∧ unlikeOk s.parties.length (fun i => PartyM.acc (s.parties.getD i noParty))
def lFit (s : SpecM) : Prop := (∀ i, i < s.leaders.length → 0 ≤ s.leaders.getD i 0 ∧ s.leaders.getD i 0 < (s.parties.length : Int)) ∧ digestsOk s.locks s.leaders.length 32 ∧ unlikeOk s.leaders.length (fun i => s.leaders.getD i 0)
def aFit (s : SpecM) : Prop := (∀ i, i < s.arcs.length → arcFine s.parties.length (s.arcs.getD i noArc)) ∧ unlikeOk s.arcs.length (fun i => arcKey (s.arcs.getD i noArc))

set_option maxRecDepth 10000 in
set_option maxHeartbeats 2000000 in
theorem pfit_any {w : World} {a1 a2 a3 a4 : Option Addr} {c1 c2 c3 c4 : Nat} {s : SpecM} (L : Lies w a1 a2 a3 a4 s) (C : Caps c1 c2 c3 s) :
    Calls Try.prog 58 #[.agg (cells7 a1 a2 a3 a4 c1 c2 c3 c4 s)] w fun e w' => e = .returned (.bool (told (pFit s))) ∧ Below w.heap.size w w' := by
  obtain ⟨r, hr⟩ : ∃ r, told (pFit s) = r := ⟨_, rfl⟩
  have HR : Hid (told (pFit s) = r) := hr
  rw [hr]
  clear hr
  generalize hg : w.heap.size = g
  have hL1 := L.leaders.2.1
  have hL3 := L.parties.1
  have hC := hide C
  unfold maxLen at hL1 hL3
  go_enter Try.func58, Try.ntmps58
  go_wp2_with ((with_reducible refine wpList_at ?_); refine wpList_boxv (by rfl) 27 (.tmp 0) (by rfl) _ (by rfl) ?_; rw [hg]; intro w1 hg1 hz1 hb1; obtain ⟨q0, q1, q2, q3, q4, q5, q6⟩ := cells7_at hg1)
  have L1 : Lies w1 a1 a2 a3 a4 s := L.below (by rw [hg]; exact hb1)
  have Q1 := hide q1
  have Q3 := hide q3
  have HL1 := hide L1
  have hgs : g ≤ w1.heap.size := by omega
  clear L L1 C hg1 hz1 q0 q1 q2 q3 q4 q5 q6
  go_loopw [8] (fun i wr => ∃ k : Nat, k ≤ s.parties.length ∧ i = .int .i64 k ∧ Hid (∀ j, j < k → nameOk (s.parties.getD j noParty).acc ∧ digestsOk (s.parties.getD j noParty).keys s.leaders.length 16) ∧ Below w1.heap.size w1 wr) (fun i _ => s.parties.length - (intOf i).toNat)
  case atStart => exact ⟨0, by omega, rfl, fun j hj => absurd hj (by omega), Below.refl _ _⟩
  case round =>
    obtain ⟨i, hi, rfl, HO, hB⟩ := hrel
    by_cases hlt : i < s.parties.length
    · have i1 : (i : Int) < (s.parties.length : Int) := by omega
      obtain ⟨b, o, rfl, hd⟩ := HL1.out.parties.2 i hlt
      obtain ⟨P, hP⟩ : ∃ P, s.parties.getD i noParty = P := ⟨_, rfl⟩
      rw [hP] at hd
      have HX : Hid (s.parties.getD i noParty = P) := hP
      clear hP
      obtain ⟨hsz, d0, ka, kc, d1, hks⟩ := hd.below hB
      have HK := hide hks
      clear hd hsz hks
      go_upto_region 4 with fail
      have hE := two_new wr (.string P.acc) (.slice ka P.keys.length kc) 52
      have hB0 := (Below.refl wr.heap.size wr).alloc (Nat.le_refl _) (Obj.cells #[Value.string P.acc, Value.slice ka P.keys.length kc] 52)
      replace hB := hB.alloc hB.size (Obj.cells #[Value.string P.acc, Value.slice ka P.keys.length kc] 52)
      clear d0 d1
      replace HK := hide (HK.out.below hB0)
      clear hB0
      generalize wr.alloc (Obj.cells #[Value.string P.acc, Value.slice ka P.keys.length kc] 52) = w3 at hE hB HK ⊢
      generalize wr.heap.size = gp at hE ⊢
      obtain ⟨e0, e1⟩ := hE
      have q3 := cell_on hB Q3.out
      by_cases hn : nameOk P.acc
      · have HN := isname_any P.acc w3
        rw [told_yes hn] at HN
        have HD := digests_any (c := kc) HK.out s.leaders.length 16 (by unfold maxLen; omega)
        replace HD := hide HD
        have Hn := hide hn
        clear hn
        go_wp2_with fail
        refine HN.mono ?_
        rintro e w0 ⟨rfl, hw0⟩
        subst w0
        clear HN
        go_wp2_with fail
        by_cases hk : digestsOk P.keys s.leaders.length 16
        · have HD' := HD.out
          rw [told_yes hk] at HD'
          have Hk := hide hk
          clear hk
          refine HD'.mono ?_
          rintro e w0 ⟨rfl, hw0⟩
          subst w0
          clear HD'
          go_wp2
          go_roundw
          case rel =>
            refine ⟨i + 1, by omega, by go_num, fun j hj => ?_, hB⟩
            by_cases hj' : j < i
            · exact HO.out j hj'
            · have : j = i := by omega
              subst this; rw [HX.out]; exact ⟨Hn.out, Hk.out⟩
          case measure => simp [intOf]; omega
        · have HD' := HD.out
          rw [told_no hk] at HD'
          have Hk := hide hk
          clear hk
          refine HD'.mono ?_
          rintro e w0 ⟨rfl, hw0⟩
          subst w0
          clear HD'
          go_wp2
          go_ret
          exact ⟨ret_bool (by rw [← HR.out, told_no (fun h => Hk.out (by rw [← HX.out]; exact (h.1 i hlt).2))]), hb1.trans (hB.mono hgs)⟩
      · have HN := isname_any P.acc w3
        rw [told_no hn] at HN
        have Hn := hide hn
        clear hn
        go_wp2_with fail
        refine HN.mono ?_
        rintro e w0 ⟨rfl, hw0⟩
        subst w0
        clear HN
        go_wp2
        go_ret
        exact ⟨ret_bool (by rw [← HR.out, told_no (fun h => Hn.out (by rw [← HX.out]; exact (h.1 i hlt).1))]), hb1.trans (hB.mono hgs)⟩
    · have i1 : ¬ (i : Int) < (s.parties.length : Int) := by omega
      have q1 := cell_on hB Q1.out
      have HU := unlike_party (w := wr) (HL1.out.parties.below hB) hC.out.1 hC.out.2.1
      replace HU := hide HU
      go_wp2_with fail
      refine HU.out.mono ?_
      rintro e w5 ⟨rfl, hb5⟩
      have he : told (unlikeOk s.parties.length fun i => (s.parties.getD i noParty).acc) = r := by
        rw [← HR.out]; exact told_congr ⟨fun h => ⟨fun j hj => HO.out j (by omega), h⟩, fun h => h.2⟩
      rw [he]
      clear HU
      go_wp2
      go_ret
      exact ⟨rfl, (hb1.trans (hB.mono hgs)).trans (hb5.mono (Nat.le_trans hgs hB.size))⟩

set_option maxRecDepth 10000 in
set_option maxHeartbeats 2000000 in
theorem lfit_any {w : World} {a1 a2 a3 a4 : Option Addr} {c1 c2 c3 c4 : Nat} {s : SpecM} (L : Lies w a1 a2 a3 a4 s) (C : Caps c1 c2 c3 s) :
    Calls Try.prog 59 #[.agg (cells7 a1 a2 a3 a4 c1 c2 c3 c4 s)] w fun e w' => e = .returned (.bool (told (lFit s))) ∧ Below w.heap.size w w' := by
  obtain ⟨r, hr⟩ : ∃ r, told (lFit s) = r := ⟨_, rfl⟩
  have HR : Hid (told (lFit s) = r) := hr
  rw [hr]
  clear hr
  generalize hg : w.heap.size = g
  have hL1 := L.leaders.2.1
  have hL2 := L.locks.2.1
  have hL3 := L.parties.1
  have hC := hide C
  have HIP := fun W v => isparty_any (w := W) (a1 := a1) (a2 := a2) (a3 := a3) (a4 := a4) (c1 := c1) (c2 := c2) (c3 := c3) (c4 := c4) (s := s) hL3 v
  unfold cells7 at HIP
  replace HIP := hide HIP
  unfold maxLen at hL1 hL2 hL3
  go_enter Try.func59, Try.ntmps59
  go_wp2_with ((with_reducible refine wpList_at ?_); refine wpList_boxv (by rfl) 27 (.tmp 0) (by rfl) _ (by rfl) ?_; rw [hg]; intro w1 hg1 hz1 hb1; obtain ⟨q0, q1, q2, q3, q4, q5, q6⟩ := cells7_at hg1)
  have L1 : Lies w1 a1 a2 a3 a4 s := L.below (by rw [hg]; exact hb1)
  have HQ : Hid (w1.heap[g]? = some (.cells (cells7 a1 a2 a3 a4 c1 c2 c3 c4 s) 27 (0, 0))) := hg1
  have HL1 := hide L1
  have hgs : g ≤ w1.heap.size := by omega
  have hgl : g < w1.heap.size := by omega
  clear L L1 C hg1 hz1 q0 q1 q2 q3 q4 q5 q6
  go_loopw [8] (fun i wr => ∃ k : Nat, k ≤ s.leaders.length ∧ i = .int .i64 k ∧ Hid (∀ j, j < k → 0 ≤ s.leaders.getD j 0 ∧ s.leaders.getD j 0 < (s.parties.length : Int)) ∧ Below w1.heap.size w1 wr) (fun i _ => s.leaders.length - (intOf i).toNat)
  case atStart => exact ⟨0, by omega, rfl, fun j hj => absurd hj (by omega), Below.refl _ _⟩
  case round =>
    obtain ⟨i, hi, rfl, HO, hB⟩ := hrel
    obtain ⟨q0, q1, q2, q3, q4, q5, q6⟩ := cells7_at ((hB.block g hgl).trans HQ.out)
    by_cases hlt : i < s.leaders.length
    · have i1 : (i : Int) < (s.leaders.length : Int) := by omega
      obtain ⟨b, o, rfl, d⟩ := HL1.out.leaders.at hB i hlt
      obtain ⟨x, hx⟩ : ∃ x, s.leaders.getD i 0 = x := ⟨_, rfl⟩
      rw [hx] at d
      have HX := hide hx
      clear hx
      go_wp2_with fail
      by_cases hp : 0 ≤ x ∧ x < (s.parties.length : Int)
      · have HP := HIP.out wr x
        rw [told_yes hp] at HP
        have Hp := hide hp
        clear hp
        refine HP.mono ?_
        rintro e w2 ⟨rfl, hb2⟩
        clear HP
        replace hB := below_then hB hb2
        clear hb2
        go_wp2
        go_roundw
        case rel =>
          refine ⟨i + 1, by omega, by go_num, fun j hj => ?_, hB⟩
          by_cases hj' : j < i
          · exact HO.out j hj'
          · have : j = i := by omega
            subst this; rw [HX.out]; exact Hp.out
        case measure => simp [intOf]; omega
      · have HP := HIP.out wr x
        rw [told_no hp] at HP
        have Hp := hide hp
        clear hp
        refine HP.mono ?_
        rintro e w2 ⟨rfl, hb2⟩
        clear HP
        replace hB := below_then hB hb2
        clear hb2
        go_wp2
        go_ret
        exact ⟨ret_bool (by rw [← HR.out, told_no (fun h => Hp.out (by rw [← HX.out]; exact h.1 i hlt))]), hb1.trans (hB.mono hgs)⟩
    · have i1 : ¬ (i : Int) < (s.leaders.length : Int) := by omega
      have HD := digests_any (w := wr) (c := c4) (HL1.out.locks.below hB) s.leaders.length 32 (by unfold maxLen; omega)
      have HU := unlike_int (w := wr) (HL1.out.leaders.below hB) hC.out.2.2.2.2.1 hC.out.2.2.2.2.2
      replace HU := hide HU
      replace HD := hide HD
      go_wp2_with fail
      by_cases hk : digestsOk s.locks s.leaders.length 32
      · have HD' := HD.out
        rw [told_yes hk] at HD'
        have Hk := hide hk
        clear hk
        refine HD'.mono ?_
        rintro e w0 ⟨rfl, hw0⟩
        subst w0
        clear HD'
        go_wp2_with fail
        refine HU.out.mono ?_
        rintro e w0 ⟨rfl, hw0⟩
        subst w0
        have he : told (unlikeOk s.leaders.length fun i => s.leaders.getD i 0) = r := by
          rw [← HR.out]; exact told_congr ⟨fun h => ⟨fun j hj => HO.out j (by omega), Hk.out, h⟩, fun h => h.2.2⟩
        rw [he]
        clear HU
        go_wp2
        go_ret
        exact ⟨rfl, hb1.trans (hB.mono hgs)⟩
      · have HD' := HD.out
        rw [told_no hk] at HD'
        have Hk := hide hk
        clear hk
        refine HD'.mono ?_
        rintro e w0 ⟨rfl, hw0⟩
        subst w0
        clear HD'
        go_wp2
        go_ret
        exact ⟨ret_bool (by rw [← HR.out, told_no (fun h => Hk.out h.2.1)]), hb1.trans (hB.mono hgs)⟩

end Go.Proofs.Ythoimecljfcjmaa

/-
  The program's arcFits, arcsFit, Check.
-/
namespace Go.Proofs.Ythoimecljfcjmaa
open Go.RowKit

theorem cells5_at {w : World} {g : Nat} {t : TypeId} {A : ArcM} (h : w.heap[g]? = some (.cells #[Value.int IntKind.i64 A.src, Value.int IntKind.i64 A.dst, Value.int IntKind.i64 A.ledger, Value.string A.asset, Value.int IntKind.i64 A.amount] t (0, 0))) :
    w.cell? ⟨g, 0, none⟩ = some (.int .i64 A.src) ∧ w.cell? ⟨g, 1, none⟩ = some (.int .i64 A.dst) ∧ w.cell? ⟨g, 2, none⟩ = some (.int .i64 A.ledger) ∧ w.cell? ⟨g, 3, none⟩ = some (.string A.asset) ∧ w.cell? ⟨g, 4, none⟩ = some (.int .i64 A.amount) := by
  refine ⟨?_, ?_, ?_, ?_, ?_⟩ <;> (rw [cell_of_row w g _ _ t (0, 0) h]; rfl)
def arcVal (A : ArcM) : Value := .agg #[Value.int IntKind.i64 A.src, Value.int IntKind.i64 A.dst, Value.int IntKind.i64 A.ledger, Value.string A.asset, Value.int IntKind.i64 A.amount]

set_option maxRecDepth 10000 in
set_option maxHeartbeats 2000000 in
theorem arcfits_any {w : World} {a1 a2 a3 a4 : Option Addr} {c1 c2 c3 c4 : Nat} {s : SpecM} (hL3 : s.parties.length ≤ maxLen) (A : ArcM) :
    Calls Try.prog 84 #[.agg (cells7 a1 a2 a3 a4 c1 c2 c3 c4 s), arcVal A] w fun e w' => e = .returned (.bool (told (arcFine s.parties.length A))) ∧ Below w.heap.size w w' := by
  obtain ⟨r, hr⟩ : ∃ r, told (arcFine s.parties.length A) = r := ⟨_, rfl⟩
  have HR : Hid (told (arcFine s.parties.length A) = r) := hr
  rw [hr]
  clear hr
  generalize hg : w.heap.size = g
  have HIP := fun W v => isparty_any (w := W) (a1 := a1) (a2 := a2) (a3 := a3) (a4 := a4) (c1 := c1) (c2 := c2) (c3 := c3) (c4 := c4) (s := s) hL3 v
  unfold cells7 at HIP
  replace HIP := hide HIP
  clear hL3
  unfold arcVal
  go_enter Try.func84, Try.ntmps84
  go_wp2_with ((with_reducible refine wpList_at ?_); refine wpList_boxv (by rfl) 27 (.tmp 0) (by rfl) _ (by rfl) ?_; rw [hg]; intro w1 hg1 hz1 hb1; refine Hid.out ?_)
  unfold Hid
  have hg1' := hide hg1
  clear hg1
  obtain ⟨k, hk⟩ : ∃ k, w1.heap.size = k := ⟨_, rfl⟩
  go_wp2_with ((with_reducible refine wpList_at ?_); refine wpList_boxv (by rfl) 42 (.tmp 1) (by rfl) _ (by rfl) ?_; rw [hk]; intro w2 hg2 hz2 hb2; refine Hid.out ?_)
  unfold Hid
  have hgg := (hb2.block g (by omega)).trans hg1'.out
  have hb : Below g w w2 := hb1.trans (hb2.mono (by omega))
  have HG := hide hgg
  have HE := hide hg2
  have hgk : g < w2.heap.size := by omega
  have hkk : k < w2.heap.size := by omega
  have hgs : g ≤ w2.heap.size := by omega
  have hB := Below.refl w2.heap.size w2
  obtain ⟨q0, q1, q2, q3, q4, q5, q6⟩ := cells7_at hgg
  obtain ⟨e0, e1, e2, e3, e4⟩ := cells5_at hg2
  clear hg1' hgg hg2 hb1 hb2 hz1 hz2 hk hg
  go_wp2_with fail
  by_cases p0 : ¬ (0 ≤ A.src ∧ A.src < (s.parties.length : Int))
  · have HX := (HIP.out w2 A.src)
    rw [told_no p0] at HX
    refine HX.mono ?_
    rintro e w9 ⟨rfl, hb9⟩
    replace hB := below_then hB hb9
    have HZ := hide p0
    clear p0 HX
    go_wp2
    go_ret
    exact ⟨ret_bool (by rw [← HR.out, told_no (fun h => HZ.out (by unfold arcFine at h; exact ⟨h.1, h.2.1⟩))]), hb.trans (hB.mono hgs)⟩
  replace p0 := Classical.not_not.1 p0
  have HX := (HIP.out w2 A.src)
  rw [told_yes p0] at HX
  replace p0 := hide p0
  refine HX.mono ?_
  rintro e w3 ⟨rfl, hb9⟩
  replace hB := below_then hB hb9
  clear HX hb9 q0 q1 q2 q3 q4 q5 q6 e0 e1 e2 e3 e4
  obtain ⟨q0, q1, q2, q3, q4, q5, q6⟩ := cells7_at ((hB.block g hgk).trans HG.out)
  obtain ⟨e0, e1, e2, e3, e4⟩ := cells5_at ((hB.block k hkk).trans HE.out)
  go_wp2_with fail
  by_cases p1 : ¬ (0 ≤ A.dst ∧ A.dst < (s.parties.length : Int))
  · have HX := (HIP.out w3 A.dst)
    rw [told_no p1] at HX
    refine HX.mono ?_
    rintro e w9 ⟨rfl, hb9⟩
    replace hB := below_then hB hb9
    have HZ := hide p1
    clear p1 HX
    go_wp2
    go_ret
    exact ⟨ret_bool (by rw [← HR.out, told_no (fun h => HZ.out (by unfold arcFine at h; exact ⟨h.2.2.1, h.2.2.2.1⟩))]), hb.trans (hB.mono hgs)⟩
  replace p1 := Classical.not_not.1 p1
  have HX := (HIP.out w3 A.dst)
  rw [told_yes p1] at HX
  replace p1 := hide p1
  refine HX.mono ?_
  rintro e w4 ⟨rfl, hb9⟩
  replace hB := below_then hB hb9
  clear HX hb9 q0 q1 q2 q3 q4 q5 q6 e0 e1 e2 e3 e4
  obtain ⟨q0, q1, q2, q3, q4, q5, q6⟩ := cells7_at ((hB.block g hgk).trans HG.out)
  obtain ⟨e0, e1, e2, e3, e4⟩ := cells5_at ((hB.block k hkk).trans HE.out)
  by_cases p2 : A.src = A.dst
  · have p2' : (A.src != A.dst) = false := by rw [bne_eq_false_iff_eq]; exact p2
    have HZ := hide p2
    clear p2
    go_wp2
    go_ret
    exact ⟨ret_bool (by rw [← HR.out, told_no (fun h => h.2.2.2.2.1 HZ.out)]), hb.trans (hB.mono hgs)⟩
  have p2' : (A.src != A.dst) = true := by rw [bne_iff_ne]; exact p2
  replace p2 := hide p2
  go_wp2_with fail
  by_cases p3 : ¬ (0 ≤ A.ledger ∧ A.ledger ≤ 3)
  · have HX := (within_any A.ledger 0 3 w4)
    rw [told_no p3] at HX
    refine HX.mono ?_
    rintro e w9 ⟨rfl, hb9⟩
    subst w9
    have HZ := hide p3
    clear p3 HX
    go_wp2
    go_ret
    exact ⟨ret_bool (by rw [← HR.out, told_no (fun h => HZ.out (by unfold arcFine at h; omega))]), hb.trans (hB.mono hgs)⟩
  replace p3 := Classical.not_not.1 p3
  have HX := (within_any A.ledger 0 3 w4)
  rw [told_yes p3] at HX
  replace p3 := hide p3
  refine HX.mono ?_
  rintro e w9 ⟨rfl, hw9⟩
  subst w9
  clear HX
  go_wp2_with fail
  by_cases p4 : ¬ (nameOk A.asset)
  · have HX := (isname_any A.asset w4)
    rw [told_no p4] at HX
    refine HX.mono ?_
    rintro e w9 ⟨rfl, hb9⟩
    subst w9
    have HZ := hide p4
    clear p4 HX
    go_wp2
    go_ret
    exact ⟨ret_bool (by rw [← HR.out, told_no (fun h => HZ.out (by unfold arcFine at h; exact h.2.2.2.2.2.2.2.1))]), hb.trans (hB.mono hgs)⟩
  replace p4 := Classical.not_not.1 p4
  have HX := (isname_any A.asset w4)
  rw [told_yes p4] at HX
  replace p4 := hide p4
  refine HX.mono ?_
  rintro e w9 ⟨rfl, hw9⟩
  subst w9
  clear HX
  go_wp2_with fail
  by_cases p5 : ¬ (1 ≤ A.amount ∧ A.amount ≤ 1125899906842624)
  · have HX := (within_any A.amount 1 1125899906842624 w4)
    rw [told_no p5] at HX
    refine HX.mono ?_
    rintro e w9 ⟨rfl, hb9⟩
    subst w9
    have HZ := hide p5
    clear p5 HX
    go_wp2
    go_ret
    exact ⟨ret_bool (by rw [← HR.out, told_no (fun h => HZ.out (by unfold arcFine at h; exact ⟨h.2.2.2.2.2.2.2.2.1, h.2.2.2.2.2.2.2.2.2⟩))]), hb.trans (hB.mono hgs)⟩
  replace p5 := Classical.not_not.1 p5
  have HX := (within_any A.amount 1 1125899906842624 w4)
  rw [told_yes p5] at HX
  replace p5 := hide p5
  refine HX.mono ?_
  rintro e w9 ⟨rfl, hw9⟩
  subst w9
  clear HX
  go_wp2
  go_ret
  exact ⟨ret_bool (by rw [← HR.out, told_yes (by unfold arcFine; exact ⟨p0.out.1, p0.out.2, p1.out.1, p1.out.2, p2.out, p3.out.1, by have := p3.out.2; omega, p4.out, p5.out.1, p5.out.2⟩)]), hb.trans (hB.mono hgs)⟩

set_option maxRecDepth 10000 in
set_option maxHeartbeats 2000000 in
theorem afit_any {w : World} {a1 a2 a3 a4 : Option Addr} {c1 c2 c3 c4 : Nat} {s : SpecM} (L : Lies w a1 a2 a3 a4 s) (C : Caps c1 c2 c3 s) :
    Calls Try.prog 60 #[.agg (cells7 a1 a2 a3 a4 c1 c2 c3 c4 s)] w fun e w' => e = .returned (.bool (told (aFit s))) ∧ Below w.heap.size w w' := by
  obtain ⟨r, hr⟩ : ∃ r, told (aFit s) = r := ⟨_, rfl⟩
  have HR : Hid (told (aFit s) = r) := hr
  rw [hr]
  clear hr
  generalize hg : w.heap.size = g
  have hL2 := L.arcs.1
  have hL3 := L.parties.1
  have hC := hide C
  have HAF := fun W A => arcfits_any (w := W) (a1 := a1) (a2 := a2) (a3 := a3) (a4 := a4) (c1 := c1) (c2 := c2) (c3 := c3) (c4 := c4) (s := s) hL3 A
  unfold cells7 arcVal at HAF
  replace HAF := hide HAF
  unfold maxLen at hL2 hL3
  go_enter Try.func60, Try.ntmps60
  go_wp2_with ((with_reducible refine wpList_at ?_); refine wpList_boxv (by rfl) 27 (.tmp 0) (by rfl) _ (by rfl) ?_; rw [hg]; intro w1 hg1 hz1 hb1; obtain ⟨q0, q1, q2, q3, q4, q5, q6⟩ := cells7_at hg1)
  have L1 : Lies w1 a1 a2 a3 a4 s := L.below (by rw [hg]; exact hb1)
  have HQ : Hid (w1.heap[g]? = some (.cells (cells7 a1 a2 a3 a4 c1 c2 c3 c4 s) 27 (0, 0))) := hg1
  have HL1 := hide L1
  have hgs : g ≤ w1.heap.size := by omega
  have hgl : g < w1.heap.size := by omega
  clear L L1 C hg1 hz1 q0 q1 q2 q3 q4 q5 q6
  go_loopw [8] (fun i wr => ∃ k : Nat, k ≤ s.arcs.length ∧ i = .int .i64 k ∧ Hid (∀ j, j < k → arcFine s.parties.length (s.arcs.getD j noArc)) ∧ Below w1.heap.size w1 wr) (fun i _ => s.arcs.length - (intOf i).toNat)
  case atStart => exact ⟨0, by omega, rfl, fun j hj => absurd hj (by omega), Below.refl _ _⟩
  case round =>
    obtain ⟨i, hi, rfl, HO, hB⟩ := hrel
    by_cases hlt : i < s.arcs.length
    · have i1 : (i : Int) < (s.arcs.length : Int) := by omega
      obtain ⟨b, o, rfl, hd⟩ := HL1.out.arcs.2 i hlt
      obtain ⟨P, hP⟩ : ∃ P, s.arcs.getD i noArc = P := ⟨_, rfl⟩
      rw [hP] at hd
      have HX : Hid (s.arcs.getD i noArc = P) := hP
      clear hP
      obtain ⟨u1, u2, u3, u4, u5, d0, d1, d2, d3, d4⟩ := hd.below hB
      clear hd u1 u2 u3 u4 u5
      go_upto_region 4 with fail
      have hE := five_new wr P
      replace hB := hB.alloc hB.size (Obj.cells #[Value.int IntKind.i64 P.src, Value.int IntKind.i64 P.dst, Value.int IntKind.i64 P.ledger, Value.string P.asset, Value.int IntKind.i64 P.amount] 42)
      clear d0 d1 d2 d3 d4
      generalize wr.alloc (Obj.cells #[Value.int IntKind.i64 P.src, Value.int IntKind.i64 P.dst, Value.int IntKind.i64 P.ledger, Value.string P.asset, Value.int IntKind.i64 P.amount] 42) = w3 at hE hB ⊢
      generalize wr.heap.size = gp at hE ⊢
      obtain ⟨e0, e1, e2, e3, e4⟩ := hE
      obtain ⟨q0, q1, q2, q3, q4, q5, q6⟩ := cells7_at ((hB.block g hgl).trans HQ.out)
      go_wp2_with fail
      by_cases hp : arcFine s.parties.length P
      · have HP := HAF.out w3 P
        rw [told_yes hp] at HP
        have Hp := hide hp
        clear hp
        refine HP.mono ?_
        rintro e w4 ⟨rfl, hb4⟩
        clear HP
        replace hB := below_then hB hb4
        clear hb4
        go_wp2
        go_roundw
        case rel =>
          refine ⟨i + 1, by omega, by go_num, fun j hj => ?_, hB⟩
          by_cases hj' : j < i
          · exact HO.out j hj'
          · have : j = i := by omega
            subst this; rw [HX.out]; exact Hp.out
        case measure => simp [intOf]; omega
      · have HP := HAF.out w3 P
        rw [told_no hp] at HP
        have Hp := hide hp
        clear hp
        refine HP.mono ?_
        rintro e w4 ⟨rfl, hb4⟩
        clear HP
        replace hB := below_then hB hb4
        clear hb4
        go_wp2
        go_ret
        exact ⟨ret_bool (by rw [← HR.out, told_no (fun h => Hp.out (by rw [← HX.out]; exact h.1 i hlt))]), hb1.trans (hB.mono hgs)⟩
    · have i1 : ¬ (i : Int) < (s.arcs.length : Int) := by omega
      obtain ⟨q0, q1, q2, q3, q4, q5, q6⟩ := cells7_at ((hB.block g hgl).trans HQ.out)
      have HU := unlike_arc (w := wr) (HL1.out.arcs.below hB) hC.out.2.2.1 hC.out.2.2.2.1
      replace HU := hide HU
      go_wp2_with fail
      refine HU.out.mono ?_
      rintro e w5 ⟨rfl, hb5⟩
      have he : told (unlikeOk s.arcs.length fun i => arcKey (s.arcs.getD i noArc)) = r := by
        rw [← HR.out]; exact told_congr ⟨fun h => ⟨fun j hj => HO.out j (by omega), h⟩, fun h => h.2⟩
      rw [he]
      clear HU
      go_wp2
      go_ret
      exact ⟨rfl, (hb1.trans (hB.mono hgs)).trans (hb5.mono (Nat.le_trans hgs hB.size))⟩

theorem fits_iff (s : SpecM) : (nameOk s.id ∧ (0 ≤ s.start ∧ s.start ≤ 1099511627776) ∧ (1 ≤ s.delta ∧ s.delta ≤ 1048576) ∧ (2 ≤ (s.parties.length : Int) ∧ (s.parties.length : Int) ≤ 6) ∧ (1 ≤ (s.leaders.length : Int) ∧ (s.leaders.length : Int) ≤ 3) ∧ (1 ≤ (s.arcs.length : Int) ∧ (s.arcs.length : Int) ≤ 12) ∧ pFit s ∧ lFit s ∧ aFit s) ↔ specOk s := by
  unfold specOk leadersOk partiesOk arcsOk pFit lFit aFit digestsOk unlikeOk leaderOk partyOk arcOk
  constructor
  · rintro ⟨h1, h2, h3, h4, h5, h6, ⟨p1, p2⟩, ⟨l1, ⟨l2, l3⟩, l4⟩, ⟨r1, r2⟩⟩
    refine ⟨h1, ⟨by omega, by omega, l2, fun i hi => ⟨(l1 i hi).1, (l1 i hi).2, l3 i (by omega), fun k hk => l4 i hi k hk⟩⟩, ⟨by omega, by omega, fun i hi => ⟨(p1 i hi).1, (p1 i hi).2.1, (p1 i hi).2.2, fun k hk => p2 i hi k hk⟩⟩, ⟨by omega, by omega, fun i hi => ⟨r1 i hi, fun k hk e => r2 i hi k hk (Prod.ext e.1 e.2)⟩⟩, h2.1, h2.2, h3.1, h3.2⟩
  · rintro ⟨h1, ⟨l1, l2, l3, l4⟩, ⟨p1, p2, p3⟩, ⟨r1, r2, r3⟩, h2, h3, h4, h5⟩
    refine ⟨h1, ⟨h2, h3⟩, ⟨h4, h5⟩, by omega, by omega, by omega, ⟨fun i hi => ⟨(p3 i hi).1, (p3 i hi).2.1, (p3 i hi).2.2.1⟩, fun i hi k hk => (p3 i hi).2.2.2 k hk⟩, ⟨fun i hi => ⟨(l4 i hi).1, (l4 i hi).2.1⟩, ⟨l3, fun k hk => (l4 k (by omega)).2.2.1⟩, fun i hi k hk => (l4 i hi).2.2.2 k hk⟩, ⟨fun i hi => (r3 i hi).1, fun i hi k hk e => (r3 i hi).2 k hk ?_⟩⟩
    unfold arcKey at e
    injection e with e1 e2
    exact ⟨e1, e2⟩

set_option maxRecDepth 10000 in
set_option maxHeartbeats 4000000 in
theorem check_spec {w : World} {v : Value} {s : SpecM} (hv : SpecW w v s) : Calls Try.prog 32 #[v] w fun e w' => e = .returned (.bool (told (specOk s))) ∧ Below w.heap.size w w' := by
  obtain ⟨a1, a2, a3, a4, c1, c2, c3, c4, rfl, L, C⟩ := hv
  rw [told_congr (fits_iff s).symm]
  obtain ⟨r, hr⟩ : ∃ r, told (nameOk s.id ∧ (0 ≤ s.start ∧ s.start ≤ 1099511627776) ∧ (1 ≤ s.delta ∧ s.delta ≤ 1048576) ∧ (2 ≤ (s.parties.length : Int) ∧ (s.parties.length : Int) ≤ 6) ∧ (1 ≤ (s.leaders.length : Int) ∧ (s.leaders.length : Int) ≤ 3) ∧ (1 ≤ (s.arcs.length : Int) ∧ (s.arcs.length : Int) ≤ 12) ∧ pFit s ∧ lFit s ∧ aFit s) = r := ⟨_, rfl⟩
  have HR := hide hr
  rw [hr]
  clear hr
  generalize hg : w.heap.size = g
  have HPa : ∀ W, Lies W a1 a2 a3 a4 s → _ := fun W hW => pfit_any (w := W) (c4 := c4) hW C
  have HLd : ∀ W, Lies W a1 a2 a3 a4 s → _ := fun W hW => lfit_any (w := W) (c4 := c4) hW C
  have HAr : ∀ W, Lies W a1 a2 a3 a4 s → _ := fun W hW => afit_any (w := W) (c4 := c4) hW C
  unfold cells7 at HLd HPa HAr
  replace HPa := hide HPa
  replace HLd := hide HLd
  replace HAr := hide HAr
  have l1 := L.parties.1
  have l2 := L.arcs.1
  have l3 := L.leaders.2.1
  unfold maxLen at l1 l2 l3
  go_enter Try.func32, Try.ntmps32
  go_wp2_with ((with_reducible refine wpList_at ?_); refine wpList_boxv (by rfl) 27 (.tmp 0) (by rfl) _ (by rfl) ?_; rw [hg]; intro w1 hg1 hz1 hb1; obtain ⟨q0, q1, q2, q3, q4, q5, q6⟩ := cells7_at hg1)
  have L1 : Lies w1 a1 a2 a3 a4 s := L.below (by rw [hg]; exact hb1)
  have HG := hide hg1
  have HL1 := hide L1
  have hgs : g ≤ w1.heap.size := by omega
  have hgk : g < w1.heap.size := by omega
  have hB := Below.refl w1.heap.size w1
  have hb := hb1
  clear L L1 C hg1 hz1 hb1
  by_cases p0 : ¬ (nameOk s.id)
  · have HX := (isname_any s.id w1)
    rw [told_no p0] at HX
    refine HX.mono ?_
    rintro e w9 ⟨rfl, hb9⟩
    subst w9
    have HZ := hide p0
    clear p0 HX
    go_wp2
    go_ret
    exact ⟨ret_bool (by rw [← HR.out, told_no (fun h => HZ.out (by exact h.1))]), hb.trans (hB.mono hgs)⟩
  replace p0 := Classical.not_not.1 p0
  have HX := (isname_any s.id w1)
  rw [told_yes p0] at HX
  replace p0 := hide p0
  refine HX.mono ?_
  rintro e w9 ⟨rfl, hw9⟩
  subst w9
  clear HX
  go_wp2_with fail
  by_cases p1 : ¬ (0 ≤ s.start ∧ s.start ≤ 1099511627776)
  · have HX := (within_any s.start 0 1099511627776 w1)
    rw [told_no p1] at HX
    refine HX.mono ?_
    rintro e w9 ⟨rfl, hb9⟩
    subst w9
    have HZ := hide p1
    clear p1 HX
    go_wp2
    go_ret
    exact ⟨ret_bool (by rw [← HR.out, told_no (fun h => HZ.out (by exact h.2.1))]), hb.trans (hB.mono hgs)⟩
  replace p1 := Classical.not_not.1 p1
  have HX := (within_any s.start 0 1099511627776 w1)
  rw [told_yes p1] at HX
  replace p1 := hide p1
  refine HX.mono ?_
  rintro e w9 ⟨rfl, hw9⟩
  subst w9
  clear HX
  go_wp2_with fail
  by_cases p2 : ¬ (1 ≤ s.delta ∧ s.delta ≤ 1048576)
  · have HX := (within_any s.delta 1 1048576 w1)
    rw [told_no p2] at HX
    refine HX.mono ?_
    rintro e w9 ⟨rfl, hb9⟩
    subst w9
    have HZ := hide p2
    clear p2 HX
    go_wp2
    go_ret
    exact ⟨ret_bool (by rw [← HR.out, told_no (fun h => HZ.out (by exact h.2.2.1))]), hb.trans (hB.mono hgs)⟩
  replace p2 := Classical.not_not.1 p2
  have HX := (within_any s.delta 1 1048576 w1)
  rw [told_yes p2] at HX
  replace p2 := hide p2
  refine HX.mono ?_
  rintro e w9 ⟨rfl, hw9⟩
  subst w9
  clear HX
  go_wp2_with fail
  by_cases p3 : ¬ (2 ≤ (s.parties.length : Int) ∧ (s.parties.length : Int) ≤ 6)
  · have HX := (within_any (s.parties.length : Int) 2 6 w1)
    rw [told_no p3] at HX
    refine HX.mono ?_
    rintro e w9 ⟨rfl, hb9⟩
    subst w9
    have HZ := hide p3
    clear p3 HX
    go_wp2
    go_ret
    exact ⟨ret_bool (by rw [← HR.out, told_no (fun h => HZ.out (by exact h.2.2.2.1))]), hb.trans (hB.mono hgs)⟩
  replace p3 := Classical.not_not.1 p3
  have HX := (within_any (s.parties.length : Int) 2 6 w1)
  rw [told_yes p3] at HX
  replace p3 := hide p3
  refine HX.mono ?_
  rintro e w9 ⟨rfl, hw9⟩
  subst w9
  clear HX
  go_wp2_with fail
  by_cases p4 : ¬ (1 ≤ (s.leaders.length : Int) ∧ (s.leaders.length : Int) ≤ 3)
  · have HX := (within_any (s.leaders.length : Int) 1 3 w1)
    rw [told_no p4] at HX
    refine HX.mono ?_
    rintro e w9 ⟨rfl, hb9⟩
    subst w9
    have HZ := hide p4
    clear p4 HX
    go_wp2
    go_ret
    exact ⟨ret_bool (by rw [← HR.out, told_no (fun h => HZ.out (by exact h.2.2.2.2.1))]), hb.trans (hB.mono hgs)⟩
  replace p4 := Classical.not_not.1 p4
  have HX := (within_any (s.leaders.length : Int) 1 3 w1)
  rw [told_yes p4] at HX
  replace p4 := hide p4
  refine HX.mono ?_
  rintro e w9 ⟨rfl, hw9⟩
  subst w9
  clear HX
  go_wp2_with fail
  by_cases p5 : ¬ (1 ≤ (s.arcs.length : Int) ∧ (s.arcs.length : Int) ≤ 12)
  · have HX := (within_any (s.arcs.length : Int) 1 12 w1)
    rw [told_no p5] at HX
    refine HX.mono ?_
    rintro e w9 ⟨rfl, hb9⟩
    subst w9
    have HZ := hide p5
    clear p5 HX
    go_wp2
    go_ret
    exact ⟨ret_bool (by rw [← HR.out, told_no (fun h => HZ.out (by exact h.2.2.2.2.2.1))]), hb.trans (hB.mono hgs)⟩
  replace p5 := Classical.not_not.1 p5
  have HX := (within_any (s.arcs.length : Int) 1 12 w1)
  rw [told_yes p5] at HX
  replace p5 := hide p5
  refine HX.mono ?_
  rintro e w9 ⟨rfl, hw9⟩
  subst w9
  clear HX
  go_wp2_with fail
  by_cases p6 : ¬ (pFit s)
  · have HX := (HPa.out w1 (HL1.out.below hB))
    rw [told_no p6] at HX
    refine HX.mono ?_
    rintro e w9 ⟨rfl, hb9⟩
    replace hB := below_then hB hb9
    have HZ := hide p6
    clear p6 HX
    go_wp2
    go_ret
    exact ⟨ret_bool (by rw [← HR.out, told_no (fun h => HZ.out (by exact h.2.2.2.2.2.2.1))]), hb.trans (hB.mono hgs)⟩
  replace p6 := Classical.not_not.1 p6
  have HX := (HPa.out w1 (HL1.out.below hB))
  rw [told_yes p6] at HX
  replace p6 := hide p6
  refine HX.mono ?_
  rintro e w2 ⟨rfl, hb9⟩
  replace hB := below_then hB hb9
  clear HX hb9 q0 q1 q2 q3 q4 q5 q6
  obtain ⟨q0, q1, q2, q3, q4, q5, q6⟩ := cells7_at ((hB.block g hgk).trans HG.out)
  go_wp2_with fail
  by_cases p7 : ¬ (lFit s)
  · have HX := (HLd.out w2 (HL1.out.below hB))
    rw [told_no p7] at HX
    refine HX.mono ?_
    rintro e w9 ⟨rfl, hb9⟩
    replace hB := below_then hB hb9
    have HZ := hide p7
    clear p7 HX
    go_wp2
    go_ret
    exact ⟨ret_bool (by rw [← HR.out, told_no (fun h => HZ.out (by exact h.2.2.2.2.2.2.2.1))]), hb.trans (hB.mono hgs)⟩
  replace p7 := Classical.not_not.1 p7
  have HX := (HLd.out w2 (HL1.out.below hB))
  rw [told_yes p7] at HX
  replace p7 := hide p7
  refine HX.mono ?_
  rintro e w3 ⟨rfl, hb9⟩
  replace hB := below_then hB hb9
  clear HX hb9 q0 q1 q2 q3 q4 q5 q6
  obtain ⟨q0, q1, q2, q3, q4, q5, q6⟩ := cells7_at ((hB.block g hgk).trans HG.out)
  go_wp2_with fail
  by_cases p8 : ¬ (aFit s)
  · have HX := (HAr.out w3 (HL1.out.below hB))
    rw [told_no p8] at HX
    refine HX.mono ?_
    rintro e w9 ⟨rfl, hb9⟩
    replace hB := below_then hB hb9
    have HZ := hide p8
    clear p8 HX
    go_wp2
    go_ret
    exact ⟨ret_bool (by rw [← HR.out, told_no (fun h => HZ.out (by exact h.2.2.2.2.2.2.2.2))]), hb.trans (hB.mono hgs)⟩
  replace p8 := Classical.not_not.1 p8
  have HX := (HAr.out w3 (HL1.out.below hB))
  rw [told_yes p8] at HX
  replace p8 := hide p8
  refine HX.mono ?_
  rintro e w4 ⟨rfl, hb9⟩
  replace hB := below_then hB hb9
  clear HX hb9 q0 q1 q2 q3 q4 q5 q6
  obtain ⟨q0, q1, q2, q3, q4, q5, q6⟩ := cells7_at ((hB.block g hgk).trans HG.out)
  go_wp2
  go_ret
  exact ⟨ret_bool (by rw [← HR.out, told_yes ⟨p0.out, p1.out, p2.out, p3.out, p4.out, p5.out, p6.out, p7.out, p8.out⟩]), hb.trans (hB.mono hgs)⟩

end Go.Proofs.Ythoimecljfcjmaa
