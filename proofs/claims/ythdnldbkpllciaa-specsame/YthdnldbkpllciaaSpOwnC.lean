/-
  The program's partiesFit, leadersFit, arcFits, arcsFit.
-/
import Derived.Test.YthdnldbkpllciaaZ22
import Derived.Test.YthdnldbkpllciaaSpOwnX
namespace Go.Proofs.Ythdnldbkpllciaa
open Go.RowKit

/-- The capacities of a swap's slices. -/
def Caps (c1 c2 c3 : Nat) (s : SpecM) : Prop := s.parties.length ≤ c1 ∧ c1 ≤ maxLen ∧ s.arcs.length ≤ c2 ∧ c2 ≤ maxLen ∧ s.leaders.length ≤ c3 ∧ c3 ≤ maxLen
def SpecW (w : World) (v : Value) (s : SpecM) : Prop := ∃ a1 a2 a3 a4 c1 c2 c3 c4, v = .agg (cells7 a1 a2 a3 a4 c1 c2 c3 c4 s) ∧ Lies w a1 a2 a3 a4 s ∧ Caps c1 c2 c3 s
theorem SpecW.toV {w : World} {v : Value} {s : SpecM} (h : SpecW w v s) : SpecV w v s := by
  obtain ⟨a1, a2, a3, a4, c1, c2, c3, c4, h1, h2, _⟩ := h
  exact ⟨a1, a2, a3, a4, c1, c2, c3, c4, h1, h2⟩
theorem SpecW.below {w w' : World} {v : Value} {s : SpecM} (h : SpecW w v s) (hb : Below w.heap.size w w') : SpecW w' v s := by
  obtain ⟨a1, a2, a3, a4, c1, c2, c3, c4, h1, h2, h3⟩ := h
  exact ⟨a1, a2, a3, a4, c1, c2, c3, c4, h1, h2.below hb, h3⟩

def pFit (s : SpecM) : Prop := (∀ i, i < s.parties.length → nameOk (s.parties.getD i noParty).acc ∧ digestsOk (s.parties.getD i noParty).keys s.leaders.length 16) ∧ unlikeOk s.parties.length (fun i => PartyM.acc (s.parties.getD i noParty))
def lFit (s : SpecM) : Prop := (∀ i, i < s.leaders.length → 0 ≤ s.leaders.getD i 0 ∧ s.leaders.getD i 0 < (s.parties.length : Int)) ∧ digestsOk s.locks s.leaders.length 32 ∧ unlikeOk s.leaders.length (fun i => s.leaders.getD i 0)
def aFit (s : SpecM) : Prop := (∀ i, i < s.arcs.length → arcFine s.parties.length (s.arcs.getD i noArc)) ∧ unlikeOk s.arcs.length (fun i => arcKey (s.arcs.getD i noArc))

set_option maxRecDepth 10000 in
set_option maxHeartbeats 2000000 in
theorem pfit_any {w : World} {a1 a2 a3 a4 : Option Addr} {c1 c2 c3 c4 : Nat} {s : SpecM} (L : Lies w a1 a2 a3 a4 s) (C : Caps c1 c2 c3 s) :
    Calls Try.prog 23 #[.agg (cells7 a1 a2 a3 a4 c1 c2 c3 c4 s)] w fun e w' => e = .returned (.bool (told (pFit s))) ∧ Below w.heap.size w w' := by
  obtain ⟨r, hr⟩ : ∃ r, told (pFit s) = r := ⟨_, rfl⟩
  have HR : Hid (told (pFit s) = r) := hr
  rw [hr]
  clear hr
  generalize hg : w.heap.size = g
  have hL1 := L.leaders.2.1
  have hL3 := L.parties.1
  have hC := hide C
  unfold maxLen at hL1 hL3
  go_enter Try.func23, Try.ntmps23
  go_wp2_with ((with_reducible refine wpList_at ?_); refine wpList_boxv (by rfl) 27 (.tmp 0) (by rfl) _ (by rfl) ?_; rw [hg]; intro w1 hg1 hz1 hb1; obtain ⟨q0, q1, q2, q3, q4, q5, q6⟩ := cells7_at hg1)
  have L1 : Lies w1 a1 a2 a3 a4 s := L.below (by rw [hg]; exact hb1)
  have Q1 := hide q1
  have Q3 := hide q3
  have HL1 := hide L1
  have hgs : g ≤ w1.heap.size := by omega
  clear L L1 C hg1 hz1 q0 q1 q2 q3 q4 q5 q6
  go_loopw [8] (fun i wr => ∃ k : Nat, k ≤ s.parties.length ∧ i = .int .i64 k ∧ Hid (∀ j, j < k → nameOk (s.parties.getD j noParty).acc ∧ digestsOk (s.parties.getD j noParty).keys s.leaders.length 16) ∧ Below w1.heap.size w1 wr) (fun i _ => s.parties.length - (intOf i).toNat)
  case atStart => exact ⟨0, by omega, rfl, fun j hj => absurd hj (by omega), Below.refl _ _⟩
  case round =>
    obtain ⟨i, hi, rfl, HO, hB⟩ := hrel
    by_cases hlt : i < s.parties.length
    · have i1 : (i : Int) < (s.parties.length : Int) := by omega
      obtain ⟨b, o, rfl, hd⟩ := HL1.out.parties.2 i hlt
      obtain ⟨P, hP⟩ : ∃ P, s.parties.getD i noParty = P := ⟨_, rfl⟩
      rw [hP] at hd
      have HX : Hid (s.parties.getD i noParty = P) := hP
      clear hP
      obtain ⟨hsz, d0, ka, kc, d1, hks⟩ := hd.below hB
      have HK := hide hks
      clear hd hsz hks
      go_upto_region 4 with fail
      have hE := two_new wr (.string P.acc) (.slice ka P.keys.length kc) 32
      have hB0 := (Below.refl wr.heap.size wr).alloc (Nat.le_refl _) (Obj.cells #[Value.string P.acc, Value.slice ka P.keys.length kc] 32)
      replace hB := hB.alloc hB.size (Obj.cells #[Value.string P.acc, Value.slice ka P.keys.length kc] 32)
      clear d0 d1
      replace HK := hide (HK.out.below hB0)
      clear hB0
      generalize wr.alloc (Obj.cells #[Value.string P.acc, Value.slice ka P.keys.length kc] 32) = w3 at hE hB HK ⊢
      generalize wr.heap.size = gp at hE ⊢
      obtain ⟨e0, e1⟩ := hE
      have q3 := cell_on hB Q3.out
      by_cases hn : nameOk P.acc
      · have HN := isname_any P.acc w3
        rw [told_yes hn] at HN
        have HD := digests_any (c := kc) HK.out s.leaders.length 16 (by unfold maxLen; omega)
        replace HD := hide HD
        have Hn := hide hn
        clear hn
        go_wp2_with fail
        refine HN.mono ?_
        rintro e w0 ⟨rfl, hw0⟩
        subst w0
        clear HN
        go_wp2_with fail
        by_cases hk : digestsOk P.keys s.leaders.length 16
        · have HD' := HD.out
          rw [told_yes hk] at HD'
          have Hk := hide hk
          clear hk
          refine HD'.mono ?_
          rintro e w0 ⟨rfl, hw0⟩
          subst w0
          clear HD'
          go_wp2
          go_roundw
          case rel =>
            refine ⟨i + 1, by omega, by go_num, fun j hj => ?_, hB⟩
            by_cases hj' : j < i
            · exact HO.out j hj'
            · have : j = i := by omega
              subst this; rw [HX.out]; exact ⟨Hn.out, Hk.out⟩
          case measure => simp [intOf]; omega
        · have HD' := HD.out
          rw [told_no hk] at HD'
          have Hk := hide hk
          clear hk
          refine HD'.mono ?_
          rintro e w0 ⟨rfl, hw0⟩
          subst w0
          clear HD'
          go_wp2
          go_ret
          exact ⟨ret_bool (by rw [← HR.out, told_no (fun h => Hk.out (by rw [← HX.out]; exact (h.1 i hlt).2))]), hb1.trans (hB.mono hgs)⟩
      · have HN := isname_any P.acc w3
        rw [told_no hn] at HN
        have Hn := hide hn
        clear hn
        go_wp2_with fail
        refine HN.mono ?_
        rintro e w0 ⟨rfl, hw0⟩
        subst w0
        clear HN
        go_wp2
        go_ret
        exact ⟨ret_bool (by rw [← HR.out, told_no (fun h => Hn.out (by rw [← HX.out]; exact (h.1 i hlt).1))]), hb1.trans (hB.mono hgs)⟩
    · have i1 : ¬ (i : Int) < (s.parties.length : Int) := by omega
      have q1 := cell_on hB Q1.out
      have HU := unlike_party (w := wr) (HL1.out.parties.below hB) hC.out.1 hC.out.2.1
      replace HU := hide HU
      go_wp2_with fail
      refine HU.out.mono ?_
      rintro e w5 ⟨rfl, hb5⟩
      have he : told (unlikeOk s.parties.length fun i => (s.parties.getD i noParty).acc) = r := by
        rw [← HR.out]; exact told_congr ⟨fun h => ⟨fun j hj => HO.out j (by omega), h⟩, fun h => h.2⟩
      rw [he]
      clear HU
      go_wp2
      go_ret
      exact ⟨rfl, (hb1.trans (hB.mono hgs)).trans (hb5.mono (Nat.le_trans hgs hB.size))⟩

set_option maxRecDepth 10000 in
set_option maxHeartbeats 2000000 in
theorem lfit_any {w : World} {a1 a2 a3 a4 : Option Addr} {c1 c2 c3 c4 : Nat} {s : SpecM} (L : Lies w a1 a2 a3 a4 s) (C : Caps c1 c2 c3 s) :
    Calls Try.prog 24 #[.agg (cells7 a1 a2 a3 a4 c1 c2 c3 c4 s)] w fun e w' => e = .returned (.bool (told (lFit s))) ∧ Below w.heap.size w w' := by
  obtain ⟨r, hr⟩ : ∃ r, told (lFit s) = r := ⟨_, rfl⟩
  have HR : Hid (told (lFit s) = r) := hr
  rw [hr]
  clear hr
  generalize hg : w.heap.size = g
  have hL1 := L.leaders.2.1
  have hL2 := L.locks.2.1
  have hL3 := L.parties.1
  have hC := hide C
  have HIP := fun W v => isparty_any (w := W) (a1 := a1) (a2 := a2) (a3 := a3) (a4 := a4) (c1 := c1) (c2 := c2) (c3 := c3) (c4 := c4) (s := s) hL3 v
  unfold cells7 at HIP
  replace HIP := hide HIP
  unfold maxLen at hL1 hL2 hL3
  go_enter Try.func24, Try.ntmps24
  go_wp2_with ((with_reducible refine wpList_at ?_); refine wpList_boxv (by rfl) 27 (.tmp 0) (by rfl) _ (by rfl) ?_; rw [hg]; intro w1 hg1 hz1 hb1; obtain ⟨q0, q1, q2, q3, q4, q5, q6⟩ := cells7_at hg1)
  have L1 : Lies w1 a1 a2 a3 a4 s := L.below (by rw [hg]; exact hb1)
  have HQ : Hid (w1.heap[g]? = some (.cells (cells7 a1 a2 a3 a4 c1 c2 c3 c4 s) 27 (0, 0))) := hg1
  have HL1 := hide L1
  have hgs : g ≤ w1.heap.size := by omega
  have hgl : g < w1.heap.size := by omega
  clear L L1 C hg1 hz1 q0 q1 q2 q3 q4 q5 q6
  go_loopw [8] (fun i wr => ∃ k : Nat, k ≤ s.leaders.length ∧ i = .int .i64 k ∧ Hid (∀ j, j < k → 0 ≤ s.leaders.getD j 0 ∧ s.leaders.getD j 0 < (s.parties.length : Int)) ∧ Below w1.heap.size w1 wr) (fun i _ => s.leaders.length - (intOf i).toNat)
  case atStart => exact ⟨0, by omega, rfl, fun j hj => absurd hj (by omega), Below.refl _ _⟩
  case round =>
    obtain ⟨i, hi, rfl, HO, hB⟩ := hrel
    obtain ⟨q0, q1, q2, q3, q4, q5, q6⟩ := cells7_at ((hB.block g hgl).trans HQ.out)
    by_cases hlt : i < s.leaders.length
    · have i1 : (i : Int) < (s.leaders.length : Int) := by omega
      obtain ⟨b, o, rfl, d⟩ := HL1.out.leaders.at hB i hlt
      obtain ⟨x, hx⟩ : ∃ x, s.leaders.getD i 0 = x := ⟨_, rfl⟩
      rw [hx] at d
      have HX := hide hx
      clear hx
      go_wp2_with fail
      by_cases hp : 0 ≤ x ∧ x < (s.parties.length : Int)
      · have HP := HIP.out wr x
        rw [told_yes hp] at HP
        have Hp := hide hp
        clear hp
        refine HP.mono ?_
        rintro e w2 ⟨rfl, hb2⟩
        clear HP
        replace hB := below_then hB hb2
        clear hb2
        go_wp2
        go_roundw
        case rel =>
          refine ⟨i + 1, by omega, by go_num, fun j hj => ?_, hB⟩
          by_cases hj' : j < i
          · exact HO.out j hj'
          · have : j = i := by omega
            subst this; rw [HX.out]; exact Hp.out
        case measure => simp [intOf]; omega
      · have HP := HIP.out wr x
        rw [told_no hp] at HP
        have Hp := hide hp
        clear hp
        refine HP.mono ?_
        rintro e w2 ⟨rfl, hb2⟩
        clear HP
        replace hB := below_then hB hb2
        clear hb2
        go_wp2
        go_ret
        exact ⟨ret_bool (by rw [← HR.out, told_no (fun h => Hp.out (by rw [← HX.out]; exact h.1 i hlt))]), hb1.trans (hB.mono hgs)⟩
    · have i1 : ¬ (i : Int) < (s.leaders.length : Int) := by omega
      have HD := digests_any (w := wr) (c := c4) (HL1.out.locks.below hB) s.leaders.length 32 (by unfold maxLen; omega)
      have HU := unlike_int (w := wr) (HL1.out.leaders.below hB) hC.out.2.2.2.2.1 hC.out.2.2.2.2.2
      replace HU := hide HU
      replace HD := hide HD
      go_wp2_with fail
      by_cases hk : digestsOk s.locks s.leaders.length 32
      · have HD' := HD.out
        rw [told_yes hk] at HD'
        have Hk := hide hk
        clear hk
        refine HD'.mono ?_
        rintro e w0 ⟨rfl, hw0⟩
        subst w0
        clear HD'
        go_wp2_with fail
        refine HU.out.mono ?_
        rintro e w0 ⟨rfl, hw0⟩
        subst w0
        have he : told (unlikeOk s.leaders.length fun i => s.leaders.getD i 0) = r := by
          rw [← HR.out]; exact told_congr ⟨fun h => ⟨fun j hj => HO.out j (by omega), Hk.out, h⟩, fun h => h.2.2⟩
        rw [he]
        clear HU
        go_wp2
        go_ret
        exact ⟨rfl, hb1.trans (hB.mono hgs)⟩
      · have HD' := HD.out
        rw [told_no hk] at HD'
        have Hk := hide hk
        clear hk
        refine HD'.mono ?_
        rintro e w0 ⟨rfl, hw0⟩
        subst w0
        clear HD'
        go_wp2
        go_ret
        exact ⟨ret_bool (by rw [← HR.out, told_no (fun h => Hk.out h.2.1)]), hb1.trans (hB.mono hgs)⟩

end Go.Proofs.Ythdnldbkpllciaa
