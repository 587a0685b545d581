/-
  The program's reach: where arcs lead to.
-/
import Derived.Test.YthdnldbkpllciaaGrM
import Derived.Test.YthdnldbkpllciaaZ17
import Derived.Deep.LoopGhost
namespace Go.Proofs.Ythdnldbkpllciaa
open Go.RowKit

theorem own_ints {w : World} {B : Nat} {v : Value} {l : List Int} (h : OwnI w B v l) (hf : Few l) : ∃ a c, v = .slice a l.length c ∧ Ints w a l.length l := by
  obtain ⟨a, c, h1, _, _, h4⟩ := h.ints (by have := hf.len; omega) (fun j hj => by have := hf.2 _ (getD_mem l j 0 hj); unfold In64; omega)
  exact ⟨a, c, h1, h4⟩
theorem hit_cons (v : Int) (C l : List Int) (x : ArcM) (xs : List ArcM) : hitP v C l (x :: xs) = if (x.src = v ∨ x.src ∈ l) ∧ x.dst ∉ C ∧ x.dst ∉ l then some x.dst else hitP v C l xs := rfl

set_option maxRecDepth 10000 in
set_option maxHeartbeats 4000000 in
theorem preach_any {w : World} {a2 : Option Addr} {c2 : Nat} {A : List ArcM} (hv : Arcs w a2 A) (hA : ∀ x ∈ A, 0 ≤ x.dst ∧ x.dst < 6) (v : Int) (o3 : Option Addr) (c3 : Nat) (C : List Int) (hC : Ints w o3 C.length C) :
    Calls Try.prog 35 #[.slice a2 A.length c2, .int .i64 v, .slice o3 C.length c3] w fun e w' => ∃ u, e = .returned u ∧ OwnI w' w.heap.size u (reachP A v C 7 []) ∧ Below w.heap.size w w' := by
  obtain ⟨g, hg⟩ : ∃ g, w.heap.size = g := ⟨_, rfl⟩
  rw [hg]
  obtain ⟨n, hn⟩ : ∃ n, A.length = n := ⟨_, rfl⟩
  have hnm := hv.1
  rw [hn] at hnm ⊢
  unfold maxLen at hnm
  obtain ⟨m, hm⟩ : ∃ m, C.length = m := ⟨_, rfl⟩
  rw [hm] at hC ⊢
  obtain ⟨RR, hRR⟩ : ∃ r, reachP A v C 7 [] = r := ⟨_, rfl⟩
  rw [hRR]
  replace hRR := hide hRR
  replace hA := hide hA
  replace hv := hide hv
  replace hC := hide hC
  replace hn := hide hn
  replace hm := hide hm
  go_enter Try.func35, Try.ntmps35
  go_wp2
  go_step3
  go_wp2
  go_step3
  go_wp2_with fail
  go_loopg [7] 7 (fun gh vl wr => ∃ l : List Int, gh + l.length = 7 ∧ Few l ∧ Hid (RR = reachP A v C gh l) ∧ OwnI wr g vl l ∧ Below g w wr ∧ g ≤ wr.heap.size)
  case atStart => exact ⟨[], by simp, Few.nil, hRR.out.symm, World.ownsRow_nil _ _ _ _, by rw [← hg]; exact Below.refl _ _, by omega⟩
  case round =>
    obtain ⟨l, hgl, hF, HR, hO, hB, hz⟩ := hrel
    cases gk with
    | zero => have := hF.len; omega
    | succ gq =>
      have hl6 := hF.len
      obtain ⟨va, vc, rfl, _⟩ := own_ints hO hF
      have HR2 : Hid (RR = (match hitP v C l A with | none => l | some x => reachP A v C gq (l ++ [x]))) := HR.out
      clear HR hRR
      replace hO := hide hO
      replace hB := hide hB
      replace hF := hide hF
      go_wp2_with fail
      go_loopg [7, 13] n (fun g2 vl i wr => ∃ k : Nat, k + g2 = n ∧ i = .int .i64 k ∧ vl = .slice va l.length vc ∧ Hid (RR = (match hitP v C l (A.drop k) with | none => l | some x => reachP A v C gq (l ++ [x]))) ∧ OwnI wr g (.slice va l.length vc) l ∧ Below g w wr ∧ g ≤ wr.heap.size)
      case atStart => exact ⟨0, by omega, rfl, rfl, HR2.out, hO.out, hB.out, hz⟩
      case round =>
        clear HR2 hO hB hz
        obtain ⟨k, hkg, rfl, rfl, HR, hO, hB, hz⟩ := hrel
        cases gk with
        | zero =>
          have k1 : ¬ (k : Int) < (n : Int) := by omega
          have HE : Hid (RR = l) := by
            have h9 := HR.out
            rw [show k = A.length by rw [hn.out]; omega, List.drop_length] at h9
            exact h9
          replace hO := hide hO
          replace hB := hide hB
          go_wp2
          try rw [Exit.noGoto_ret]
          go_ret
          rw [HE.out]
          exact ⟨_, rfl, hO.out, hB.out⟩
        | succ g2 =>
          have k1 : (k : Int) < (n : Int) := by omega
          have hlt : k < A.length := by rw [hn.out]; omega
          obtain ⟨X, hX⟩ : ∃ X, A.getD k noArc = X := ⟨_, rfl⟩
          have hmem : X ∈ A := by rw [← hX]; exact getD_mem A k noArc hlt
          obtain ⟨x0, x6⟩ := hA.out X hmem
          obtain ⟨b2, o2, rfl, _, _, _, _, _, d0, d1, d2, d3, d4⟩ := (hv.out.below (by rw [hg]; exact hB)).2 k hlt
          have hdrop : A.drop k = X :: A.drop (k + 1) := by
            rw [List.drop_eq_getElem_cons hlt, ← hX, List.getD_eq_getElem?_getD, List.getElem?_eq_getElem hlt]; rfl
          rw [hX] at d0 d1 d2 d3 d4
          have HR' : Hid (RR = (match (if (X.src = v ∨ X.src ∈ l) ∧ X.dst ∉ C ∧ X.dst ∉ l then some X.dst else hitP v C l (A.drop (k + 1))) with | none => l | some x => reachP A v C gq (l ++ [x]))) := by
            have h9 := HR.out
            rw [hdrop, hit_cons] at h9; exact h9
          have hal : Below wr.heap.size wr (wr.alloc (.cells #[.int .i64 X.src, .int .i64 X.dst, .int .i64 X.ledger, .string X.asset, .int .i64 X.amount] 34)) := (Below.refl _ _).alloc (Nat.le_refl _) _
          have hO4 := hide (own_below hO hal)
          have hB4 : Hid (Below g w (wr.alloc (.cells #[.int .i64 X.src, .int .i64 X.dst, .int .i64 X.ledger, .string X.asset, .int .i64 X.amount] 34))) := hB.trans (hal.mono hz)
          have hz4 : g ≤ (wr.alloc (.cells #[.int .i64 X.src, .int .i64 X.dst, .int .i64 X.ledger, .string X.asset, .int .i64 X.amount] 34)).heap.size := Nat.le_trans hz hal.size
          have m0 : (wr.alloc (.cells #[.int .i64 X.src, .int .i64 X.dst, .int .i64 X.ledger, .string X.asset, .int .i64 X.amount] 34)).cell? ⟨wr.heap.size, 0, none⟩ = some (.int .i64 X.src) := by rw [World.cell?_alloc_new]; rfl
          have m1 : (wr.alloc (.cells #[.int .i64 X.src, .int .i64 X.dst, .int .i64 X.ledger, .string X.asset, .int .i64 X.amount] 34)).cell? ⟨wr.heap.size, 1, none⟩ = some (.int .i64 X.dst) := by rw [World.cell?_alloc_new]; rfl
          replace m0 := hide m0
          replace m1 := hide m1
          clear hO hB hz HR hdrop hX hal hmem
          go_upto_region 5 with fail
          clear d0 d1 d2 d3 d4
          generalize (wr.alloc (.cells #[.int .i64 X.src, .int .i64 X.dst, .int .i64 X.ledger, .string X.asset, .int .i64 X.amount] 34)) = w4 at hO4 hB4 hz4 m0 m1 ⊢
          generalize wr.heap.size = gx at m0 m1 ⊢
          replace m0 := m0.out
          replace m1 := m1.out
          have HL4 : Hid (∀ y : Int, Calls Try.prog 39 #[.slice va l.length vc, .int .i64 y] w4 fun e w' => e = .returned (.bool (told (y ∈ l))) ∧ w' = w4) := fun y => by
            obtain ⟨va', vc', hvv, hI⟩ := own_ints hO4.out hF.out
            injection hvv with e1 e2 e3
            subst e1; subst e3
            exact contains_any hI y
          have HC4 : Hid (∀ y : Int, Calls Try.prog 39 #[.slice o3 m c3, .int .i64 y] w4 fun e w' => e = .returned (.bool (told (y ∈ C))) ∧ w' = w4) := fun y => by
            have h9 := contains_any (c := c3) (l := C) (a := o3) (w := w4) (by rw [hm.out]; exact hC.out.below (by rw [hg]; exact hB4.out)) y
            rw [hm.out] at h9; exact h9
          by_cases c1 : X.src = v
          · have c1' : (X.src == v) = true := by rw [c1]; exact beq_self_eq_true _
            have cb := hide c1
            clear c1
            go_wp2_with fail
            refine (HC4.out _).mono ?_
            rintro e w0 ⟨rfl, hw0⟩
            subst w0
            by_cases cC : X.dst ∈ C
            · rw [told_yes cC]
              have HN : Hid (RR = (match hitP v C l (A.drop (k + 1)) with | none => l | some x => reachP A v C gq (l ++ [x]))) := by
                have h9 := HR'.out
                rw [if_neg (fun h => h.2.1 cC)] at h9; exact h9
              clear HR'
              go_wp2
              go_roundg g2
              case measure => omega
              case rel => exact ⟨k + 1, by omega, by go_num, rfl, HN, hO4.out, hB4.out, hz4⟩
            · rw [told_no cC]
              go_wp2_with fail
              refine (HL4.out _).mono ?_
              rintro e w0 ⟨rfl, hw0⟩
              subst w0
              by_cases cL : X.dst ∈ l
              · rw [told_yes cL]
                have HN : Hid (RR = (match hitP v C l (A.drop (k + 1)) with | none => l | some x => reachP A v C gq (l ++ [x]))) := by
                  have h9 := HR'.out
                  rw [if_neg (fun h => h.2.2 cL)] at h9; exact h9
                clear HR'
                go_wp2
                go_roundg g2
                case measure => omega
                case rel => exact ⟨k + 1, by omega, by go_num, rfl, HN, hO4.out, hB4.out, hz4⟩
              · rw [told_no cL]
                have HN : Hid (RR = reachP A v C gq (l ++ [X.dst])) := by
                  have h9 := HR'.out
                  rw [if_pos ⟨.inl cb.out, cC, cL⟩] at h9; exact h9
                have hF' := hide (hF.out.more X.dst x0 x6 cL)
                clear HR'
                go_wp2_with (at_builtin; refine wpList_put1 (st := 24) Try.underlying24 Try.info3 rfl (by decide) (by decide) w4 _ (by rfl) (.tmp 42) (.tmp 45) (by rfl) g _ _ _ (by rfl) hO4.out (by rfl) rfl (by intro u hu; simp at hu; subst hu; rfl) (by omega) hz4 ?_; intro v8 w8 hown8 hg8; obtain ⟨v8a, v8c, rfl⟩ := row_slice hown8)
                go_roundg gq
                case measure => omega
                case rel =>
                  have hlt8 := World.ownsRow.lt hO4.out
                  refine ⟨l ++ [X.dst], by rw [List.length_append, List.length_singleton]; omega, hF'.out, HN, ?_, hB4.out.grown hg8 hz4 (fun k hk => (hlt8 k hk).1), Nat.le_trans hz4 hg8.size⟩
                  unfold OwnI
                  rw [List.length_append, List.map_append]; exact hown8
          · have c1' : (X.src == v) = false := by rw [beq_eq_false_iff_ne]; exact c1
            go_wp2_with fail
            refine (HL4.out _).mono ?_
            rintro e w0 ⟨rfl, hw0⟩
            subst w0
            by_cases cs : X.src ∈ l
            · rw [told_yes cs]
              go_wp2_with fail
              refine (HC4.out _).mono ?_
              rintro e w0 ⟨rfl, hw0⟩
              subst w0
              by_cases cC : X.dst ∈ C
              · rw [told_yes cC]
                have HN : Hid (RR = (match hitP v C l (A.drop (k + 1)) with | none => l | some x => reachP A v C gq (l ++ [x]))) := by
                  have h9 := HR'.out
                  rw [if_neg (fun h => h.2.1 cC)] at h9; exact h9
                clear HR'
                go_wp2
                go_roundg g2
                case measure => omega
                case rel => exact ⟨k + 1, by omega, by go_num, rfl, HN, hO4.out, hB4.out, hz4⟩
              · rw [told_no cC]
                go_wp2_with fail
                refine (HL4.out _).mono ?_
                rintro e w0 ⟨rfl, hw0⟩
                subst w0
                by_cases cL : X.dst ∈ l
                · rw [told_yes cL]
                  have HN : Hid (RR = (match hitP v C l (A.drop (k + 1)) with | none => l | some x => reachP A v C gq (l ++ [x]))) := by
                    have h9 := HR'.out
                    rw [if_neg (fun h => h.2.2 cL)] at h9; exact h9
                  clear HR'
                  go_wp2
                  go_roundg g2
                  case measure => omega
                  case rel => exact ⟨k + 1, by omega, by go_num, rfl, HN, hO4.out, hB4.out, hz4⟩
                · rw [told_no cL]
                  have HN : Hid (RR = reachP A v C gq (l ++ [X.dst])) := by
                    have h9 := HR'.out
                    rw [if_pos ⟨.inr cs, cC, cL⟩] at h9; exact h9
                  have hF' := hide (hF.out.more X.dst x0 x6 cL)
                  clear HR'
                  go_wp2_with (at_builtin; refine wpList_put1 (st := 24) Try.underlying24 Try.info3 rfl (by decide) (by decide) w4 _ (by rfl) (.tmp 42) (.tmp 45) (by rfl) g _ _ _ (by rfl) hO4.out (by rfl) rfl (by intro u hu; simp at hu; subst hu; rfl) (by omega) hz4 ?_; intro v8 w8 hown8 hg8; obtain ⟨v8a, v8c, rfl⟩ := row_slice hown8)
                  go_roundg gq
                  case measure => omega
                  case rel =>
                    have hlt8 := World.ownsRow.lt hO4.out
                    refine ⟨l ++ [X.dst], by rw [List.length_append, List.length_singleton]; omega, hF'.out, HN, ?_, hB4.out.grown hg8 hz4 (fun k hk => (hlt8 k hk).1), Nat.le_trans hz4 hg8.size⟩
                    unfold OwnI
                    rw [List.length_append, List.map_append]; exact hown8
            · rw [told_no cs]
              have HN : Hid (RR = (match hitP v C l (A.drop (k + 1)) with | none => l | some x => reachP A v C gq (l ++ [x]))) := by
                have h9 := HR'.out
                rw [if_neg (fun h => h.1.elim c1 cs)] at h9; exact h9
              clear HR'
              go_wp2
              go_roundg g2
              case measure => omega
              case rel => exact ⟨k + 1, by omega, by go_num, rfl, HN, hO4.out, hB4.out, hz4⟩

end Go.Proofs.Ythdnldbkpllciaa
