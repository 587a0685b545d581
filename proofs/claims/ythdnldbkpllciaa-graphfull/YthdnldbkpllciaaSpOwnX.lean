/-
  The program's unlike at arcs.
-/
import Derived.Test.YthdnldbkpllciaaZ21
import Derived.Test.YthdnldbkpllciaaSpOwnT
namespace Go.Proofs.Ythdnldbkpllciaa
open Go.RowKit

def arcKey (a : ArcM) : Int × Int := (a.src, a.dst)
theorem arcKey_same {A B : ArcM} (h : arcKey A = arcKey B) : (A.src == B.src && A.dst == B.dst) = true := by
  unfold arcKey at h; injection h with h1 h2; rw [h1, h2]; simp
theorem arcKey_other {A B : ArcM} (h : arcKey A ≠ arcKey B) : (A.src == B.src && A.dst == B.dst) = false := by
  cases e : (A.src == B.src && A.dst == B.dst)
  · rfl
  · rw [Bool.and_eq_true, beq_iff_eq, beq_iff_eq] at e
    exact absurd (by unfold arcKey; rw [e.1, e.2]) h
theorem five_new (w : World) (P : ArcM) : let W := w.alloc (Obj.cells #[Value.int IntKind.i64 P.src, Value.int IntKind.i64 P.dst, Value.int IntKind.i64 P.ledger, Value.string P.asset, Value.int IntKind.i64 P.amount] 34)
    W.cell? ⟨w.heap.size, 0, none⟩ = some (.int .i64 P.src) ∧ W.cell? ⟨w.heap.size, 1, none⟩ = some (.int .i64 P.dst) ∧ W.cell? ⟨w.heap.size, 2, none⟩ = some (.int .i64 P.ledger) ∧ W.cell? ⟨w.heap.size, 3, none⟩ = some (.string P.asset) ∧ W.cell? ⟨w.heap.size, 4, none⟩ = some (.int .i64 P.amount) := by
  refine ⟨?_, ?_, ?_, ?_, ?_⟩ <;> (rw [World.cell?_alloc_new]; rfl)

set_option maxRecDepth 10000 in
set_option maxHeartbeats 2000000 in
theorem unlike_arc {w : World} {a : Option Addr} {c : Nat} {l : List ArcM} (h : Arcs w a l) (hc : l.length ≤ c) (hcm : c ≤ maxLen) :
    Calls Try.prog 53 #[.slice a l.length c, .func (.func 54) #[] #[]] w fun e w' => e = .returned (.bool (told (unlikeOk l.length (fun i => arcKey (l.getD i noArc))))) ∧ Below w.heap.size w w' := by
  obtain ⟨r, hr⟩ : ∃ r, told (unlikeOk l.length (fun i => arcKey (l.getD i noArc))) = r := ⟨_, rfl⟩
  have HR : Hid (told (unlikeOk l.length (fun i => arcKey (l.getD i noArc))) = r) := hr
  rw [hr]
  clear hr
  have HL : Hid (Arcs w a l) := h
  unfold maxLen at hcm
  have HM := mark_arc
  replace HM := hide HM
  clear h
  go_enter Try.func53, Try.ntmps53
  go_wp2
  go_loopw [11] (fun i wr => ∃ k : Nat, k ≤ l.length ∧ i = .int .i64 k ∧ Hid (∀ i, i < k → ∀ j, j < i → arcKey (l.getD j noArc) ≠ arcKey (l.getD i noArc)) ∧ Below w.heap.size w wr) (fun i _ => l.length - (intOf i).toNat)
  case atStart => exact ⟨0, by omega, rfl, fun j hj => absurd hj (by omega), Below.refl _ _⟩
  case round =>
    obtain ⟨i, hi, rfl, HO, hB⟩ := hrel
    by_cases hlt : i < l.length
    · have i1 : (i : Int) < (l.length : Int) := by omega
      obtain ⟨b, o, rfl, hd⟩ := HL.out.2 i hlt
      obtain ⟨P, hP⟩ : ∃ P, l.getD i noArc = P := ⟨_, rfl⟩
      rw [hP] at hd
      have HX : Hid (l.getD i noArc = P) := hP
      clear hP
      have ic : ¬ ((c : Int) < (i : Int)) := by omega
      obtain ⟨u1, u2, u3, u4, u5, d0, d1, d2, d3, d4⟩ := hd.below hB
      clear hd u1 u2 u3 u4 u5
      go_upto_region 4 with fail
      have hE := five_new wr P
      replace hB := hB.alloc hB.size (Obj.cells #[Value.int IntKind.i64 P.src, Value.int IntKind.i64 P.dst, Value.int IntKind.i64 P.ledger, Value.string P.asset, Value.int IntKind.i64 P.amount] 34)
      clear d0 d1 d2 d3 d4
      generalize wr.alloc (Obj.cells #[Value.int IntKind.i64 P.src, Value.int IntKind.i64 P.dst, Value.int IntKind.i64 P.ledger, Value.string P.asset, Value.int IntKind.i64 P.amount] 34) = w3 at hE hB ⊢
      generalize wr.heap.size = gp at hE ⊢
      obtain ⟨e0, e1, e2, e3, e4⟩ := hE
      have HE : Hid (w3.cell? ⟨gp, 0, none⟩ = some (.int .i64 P.src) ∧ w3.cell? ⟨gp, 1, none⟩ = some (.int .i64 P.dst) ∧ w3.cell? ⟨gp, 2, none⟩ = some (.int .i64 P.ledger) ∧ w3.cell? ⟨gp, 3, none⟩ = some (.string P.asset) ∧ w3.cell? ⟨gp, 4, none⟩ = some (.int .i64 P.amount)) := ⟨e0, e1, e2, e3, e4⟩
      clear e0 e1 e2 e3 e4
      go_wp2
      go_loopw [20] (fun k ws => ∃ j : Nat, j ≤ i ∧ k = .int .i64 j ∧ Hid (∀ m, m < j → arcKey (l.getD m noArc) ≠ arcKey P) ∧ Below w3.heap.size w3 ws) (fun k _ => i - (intOf k).toNat)
      case atStart => exact ⟨0, by omega, rfl, fun j hj => absurd hj (by omega), Below.refl _ _⟩
      case round =>
        obtain ⟨j, hj, rfl, HJ, hS⟩ := hrel
        have hBS := hB.trans (hS.mono hB.size)
        by_cases hjt : j < i
        · have j1 : (j : Int) < (i : Int) := by omega
          have hd2 := HL.out.get j (by omega)
          obtain ⟨R, hR⟩ : ∃ R, l.getD j noArc = R := ⟨_, rfl⟩
          rw [hR] at hd2
          have HY : Hid (l.getD j noArc = R) := hR
          clear hR
          obtain ⟨u1, u2, u3, u4, u5, d0, d1, d2, d3, d4⟩ := hd2.below hBS
          clear hd2 u1 u2 u3 u4 u5
          go_upto_region 7 with fail
          have hF := five_new wr R
          replace hS := hS.alloc hS.size (Obj.cells #[Value.int IntKind.i64 R.src, Value.int IntKind.i64 R.dst, Value.int IntKind.i64 R.ledger, Value.string R.asset, Value.int IntKind.i64 R.amount] 34)
          replace hBS := hBS.alloc hBS.size (Obj.cells #[Value.int IntKind.i64 R.src, Value.int IntKind.i64 R.dst, Value.int IntKind.i64 R.ledger, Value.string R.asset, Value.int IntKind.i64 R.amount] 34)
          clear d0 d1 d2 d3 d4
          generalize wr.alloc (Obj.cells #[Value.int IntKind.i64 R.src, Value.int IntKind.i64 R.dst, Value.int IntKind.i64 R.ledger, Value.string R.asset, Value.int IntKind.i64 R.amount] 34) = w4 at hF hS hBS ⊢
          generalize wr.heap.size = gq at hF ⊢
          obtain ⟨f0, f1, f2, f3, f4⟩ := hF
          obtain ⟨e0, e1, e2, e3, e4⟩ := HE.out
          replace e0 := cell_on hS e0
          replace e1 := cell_on hS e1
          replace e2 := cell_on hS e2
          replace e3 := cell_on hS e3
          replace e4 := cell_on hS e4
          by_cases hxy : arcKey R = arcKey P
          · have hxy' : ∀ W, (Op.equalIn 10000 70 (.agg #[.int .i64 R.src, .int .i64 R.dst]) (.agg #[.int .i64 P.src, .int .i64 P.dst])).run Try.prog W = .ok true W := by intro W; rw [run_eql2, arcKey_same hxy]
            go_region_held3 (fun w' => w'.cell? ⟨gq, 0, none⟩ = some (.int .i64 R.src) ∧ w'.cell? ⟨gq, 1, none⟩ = some (.int .i64 R.dst) ∧ w'.cell? ⟨gq, 2, none⟩ = some (.int .i64 R.ledger) ∧ w'.cell? ⟨gq, 3, none⟩ = some (.string R.asset) ∧ w'.cell? ⟨gq, 4, none⟩ = some (.int .i64 R.amount) ∧ w'.cell? ⟨gp, 0, none⟩ = some (.int .i64 P.src) ∧ w'.cell? ⟨gp, 1, none⟩ = some (.int .i64 P.dst) ∧ w'.cell? ⟨gp, 2, none⟩ = some (.int .i64 P.ledger) ∧ w'.cell? ⟨gp, 3, none⟩ = some (.string P.asset) ∧ w'.cell? ⟨gp, 4, none⟩ = some (.int .i64 P.amount)) (first | (exact ⟨f0, f1, f2, f3, f4, e0, e1, e2, e3, e4⟩) | (go_keep; done)) (first | (go_at_call 54; (with_reducible refine (HM.out _ _ _ _ _ _).mono ?_); rintro e w9 ⟨rfl, hb9⟩; (first | (replace hBS := below_then hBS hb9) | (replace hBS := below_then hBS.drew hb9)); replace f0 := cell_on hb9 f0; replace f1 := cell_on hb9 f1; replace f2 := cell_on hb9 f2; replace f3 := cell_on hb9 f3; replace f4 := cell_on hb9 f4; replace e0 := cell_on hb9 e0; replace e1 := cell_on hb9 e1; replace e2 := cell_on hb9 e2; replace e3 := cell_on hb9 e3; replace e4 := cell_on hb9 e4))
            all_goals
              go_wp2
              go_ret
              exact ⟨ret_bool (by rw [← HR.out, told_no (fun h => h i hlt j hjt (by show arcKey (l.getD j noArc) = arcKey (l.getD i noArc); rw [HX.out, HY.out, hxy]))]), hBS⟩
          · have hxy' : ∀ W, (Op.equalIn 10000 70 (.agg #[.int .i64 R.src, .int .i64 R.dst]) (.agg #[.int .i64 P.src, .int .i64 P.dst])).run Try.prog W = .ok false W := by intro W; rw [run_eql2, arcKey_other hxy]
            go_region_held3 (fun w' => w'.cell? ⟨gq, 0, none⟩ = some (.int .i64 R.src) ∧ w'.cell? ⟨gq, 1, none⟩ = some (.int .i64 R.dst) ∧ w'.cell? ⟨gq, 2, none⟩ = some (.int .i64 R.ledger) ∧ w'.cell? ⟨gq, 3, none⟩ = some (.string R.asset) ∧ w'.cell? ⟨gq, 4, none⟩ = some (.int .i64 R.amount) ∧ w'.cell? ⟨gp, 0, none⟩ = some (.int .i64 P.src) ∧ w'.cell? ⟨gp, 1, none⟩ = some (.int .i64 P.dst) ∧ w'.cell? ⟨gp, 2, none⟩ = some (.int .i64 P.ledger) ∧ w'.cell? ⟨gp, 3, none⟩ = some (.string P.asset) ∧ w'.cell? ⟨gp, 4, none⟩ = some (.int .i64 P.amount)) (first | (exact ⟨f0, f1, f2, f3, f4, e0, e1, e2, e3, e4⟩) | (go_keep; done)) (first | (go_at_call 54; (with_reducible refine (HM.out _ _ _ _ _ _).mono ?_); rintro e w9 ⟨rfl, hb9⟩; (first | (replace hS := below_then hS hb9) | (replace hS := below_then hS.drew hb9)); replace f0 := cell_on hb9 f0; replace f1 := cell_on hb9 f1; replace f2 := cell_on hb9 f2; replace f3 := cell_on hb9 f3; replace f4 := cell_on hb9 f4; replace e0 := cell_on hb9 e0; replace e1 := cell_on hb9 e1; replace e2 := cell_on hb9 e2; replace e3 := cell_on hb9 e3; replace e4 := cell_on hb9 e4))
            all_goals
              go_wp2
              go_roundw
              case rel =>
                refine ⟨j + 1, by omega, by go_num, fun m hm => ?_, hS⟩
                by_cases hm' : m < j
                · exact HJ.out m hm'
                · have : m = j := by omega
                  subst this; rw [HY.out]; exact hxy
              case measure => simp [intOf]; omega
        · have j1 : ¬ (j : Int) < (i : Int) := by omega
          have he : j = i := by omega
          go_wp2
          go_roundw
          case rel =>
            refine ⟨i + 1, by omega, by go_num, fun m hm k hk => ?_, hBS⟩
            by_cases hm' : m < i
            · exact HO.out m hm' k hk
            · have : m = i := by omega
              subst this; rw [HX.out]; exact HJ.out k (by omega)
          case measure => simp [intOf]; omega
    · have i1 : ¬ (i : Int) < (l.length : Int) := by omega
      go_wp2
      go_ret
      exact ⟨ret_bool (by rw [← HR.out, told_yes (p := unlikeOk l.length (fun i => arcKey (l.getD i noArc))) (fun m hm k hk => HO.out m (by omega) k hk)]), hB⟩

end Go.Proofs.Ythdnldbkpllciaa
