/-
  The program's reach: where arcs lead to.
-/
import Derived.Test.YthoimecljfcjmaaGrM
import Derived.Test.YthoimecljfcjmaaZ02
import Derived.Deep.LoopGhost
import Derived.Test.YthoimecljfcjmaaZ25
import Derived.Test.YthoimecljfcjmaaYieldV
import Derived.BigQuiet
import Derived.Deep.QuietTactic
import Derived.Test.YthoimecljfcjmaaGrPath
namespace Go.Proofs.Ythoimecljfcjmaa
open Go.RowKit

theorem own_ints {w : World} {B : Nat} {v : Value} {l : List Int} (h : OwnI w B v l) (hf : Few l) : ∃ a c, v = .slice a l.length c ∧ Ints w a l.length l := by
  obtain ⟨a, c, h1, _, _, h4⟩ := h.ints (by have := hf.len; omega) (fun j hj => by have := hf.2 _ (getD_mem l j 0 hj); unfold In64; omega)
  exact ⟨a, c, h1, h4⟩
theorem hit_cons (v : Int) (C l : List Int) (x : ArcM) (xs : List ArcM) : hitP v C l (x :: xs) = if (x.src = v ∨ x.src ∈ l) ∧ x.dst ∉ C ∧ x.dst ∉ l then some x.dst else hitP v C l xs := rfl

set_option maxRecDepth 10000 in
set_option maxHeartbeats 4000000 in
theorem preach_any {w : World} {a2 : Option Addr} {c2 : Nat} {A : List ArcM} (hv : Arcs w a2 A) (hA : ∀ x ∈ A, 0 ≤ x.dst ∧ x.dst < 6) (v : Int) (o3 : Option Addr) (c3 : Nat) (C : List Int) (hC : Ints w o3 C.length C) :
    Calls Try.prog 64 #[.slice a2 A.length c2, .int .i64 v, .slice o3 C.length c3] w fun e w' => ∃ u, e = .returned u ∧ OwnI w' w.heap.size u (reachP A v C 7 []) ∧ Below w.heap.size w w' := by
  obtain ⟨g, hg⟩ : ∃ g, w.heap.size = g := ⟨_, rfl⟩
  rw [hg]
  obtain ⟨n, hn⟩ : ∃ n, A.length = n := ⟨_, rfl⟩
  have hnm := hv.1
  rw [hn] at hnm ⊢
  unfold maxLen at hnm
  obtain ⟨m, hm⟩ : ∃ m, C.length = m := ⟨_, rfl⟩
  rw [hm] at hC ⊢
  obtain ⟨RR, hRR⟩ : ∃ r, reachP A v C 7 [] = r := ⟨_, rfl⟩
  rw [hRR]
  replace hRR := hide hRR
  replace hA := hide hA
  replace hv := hide hv
  replace hC := hide hC
  replace hn := hide hn
  replace hm := hide hm
  go_enter Try.func64, Try.ntmps64
  go_wp2
  go_step3
  go_wp2
  go_step3
  go_wp2_with fail
  go_loopg [7] 7 (fun gh vl wr => ∃ l : List Int, gh + l.length = 7 ∧ Few l ∧ Hid (RR = reachP A v C gh l) ∧ OwnI wr g vl l ∧ Below g w wr ∧ g ≤ wr.heap.size)
  case atStart => exact ⟨[], by simp, Few.nil, hRR.out.symm, World.ownsRow_nil _ _ _ _, by rw [← hg]; exact Below.refl _ _, by omega⟩
  case round =>
    obtain ⟨l, hgl, hF, HR, hO, hB, hz⟩ := hrel
    cases gk with
    | zero => have := hF.len; omega
    | succ gq =>
      have hl6 := hF.len
      obtain ⟨va, vc, rfl, _⟩ := own_ints hO hF
      have HR2 : Hid (RR = (match hitP v C l A with | none => l | some x => reachP A v C gq (l ++ [x]))) := HR.out
      clear HR hRR
      replace hO := hide hO
      replace hB := hide hB
      replace hF := hide hF
      go_wp2_with fail
      go_loopg [7, 13] n (fun g2 vl i wr => ∃ k : Nat, k + g2 = n ∧ i = .int .i64 k ∧ vl = .slice va l.length vc ∧ Hid (RR = (match hitP v C l (A.drop k) with | none => l | some x => reachP A v C gq (l ++ [x]))) ∧ OwnI wr g (.slice va l.length vc) l ∧ Below g w wr ∧ g ≤ wr.heap.size)
      case atStart => exact ⟨0, by omega, rfl, rfl, HR2.out, hO.out, hB.out, hz⟩
      case round =>
        clear HR2 hO hB hz
        obtain ⟨k, hkg, rfl, rfl, HR, hO, hB, hz⟩ := hrel
        cases gk with
        | zero =>
          have k1 : ¬ (k : Int) < (n : Int) := by omega
          have HE : Hid (RR = l) := by
            have h9 := HR.out
            rw [show k = A.length by rw [hn.out]; omega, List.drop_length] at h9
            exact h9
          replace hO := hide hO
          replace hB := hide hB
          go_wp2
          try rw [Exit.noGoto_ret]
          go_ret
          rw [HE.out]
          exact ⟨_, rfl, hO.out, hB.out⟩
        | succ g2 =>
          have k1 : (k : Int) < (n : Int) := by omega
          have hlt : k < A.length := by rw [hn.out]; omega
          obtain ⟨X, hX⟩ : ∃ X, A.getD k noArc = X := ⟨_, rfl⟩
          have hmem : X ∈ A := by rw [← hX]; exact getD_mem A k noArc hlt
          obtain ⟨x0, x6⟩ := hA.out X hmem
          obtain ⟨b2, o2, rfl, _, _, _, _, _, d0, d1, d2, d3, d4⟩ := (hv.out.below (by rw [hg]; exact hB)).2 k hlt
          have hdrop : A.drop k = X :: A.drop (k + 1) := by
            rw [List.drop_eq_getElem_cons hlt, ← hX, List.getD_eq_getElem?_getD, List.getElem?_eq_getElem hlt]; rfl
          rw [hX] at d0 d1 d2 d3 d4
          have HR' : Hid (RR = (match (if (X.src = v ∨ X.src ∈ l) ∧ X.dst ∉ C ∧ X.dst ∉ l then some X.dst else hitP v C l (A.drop (k + 1))) with | none => l | some x => reachP A v C gq (l ++ [x]))) := by
            have h9 := HR.out
            rw [hdrop, hit_cons] at h9; exact h9
          have hal : Below wr.heap.size wr (wr.alloc (.cells #[.int .i64 X.src, .int .i64 X.dst, .int .i64 X.ledger, .string X.asset, .int .i64 X.amount] 42)) := (Below.refl _ _).alloc (Nat.le_refl _) _
          have hO4 := hide (own_below hO hal)
          have hB4 : Hid (Below g w (wr.alloc (.cells #[.int .i64 X.src, .int .i64 X.dst, .int .i64 X.ledger, .string X.asset, .int .i64 X.amount] 42))) := hB.trans (hal.mono hz)
          have hz4 : g ≤ (wr.alloc (.cells #[.int .i64 X.src, .int .i64 X.dst, .int .i64 X.ledger, .string X.asset, .int .i64 X.amount] 42)).heap.size := Nat.le_trans hz hal.size
          have m0 : (wr.alloc (.cells #[.int .i64 X.src, .int .i64 X.dst, .int .i64 X.ledger, .string X.asset, .int .i64 X.amount] 42)).cell? ⟨wr.heap.size, 0, none⟩ = some (.int .i64 X.src) := by rw [World.cell?_alloc_new]; rfl
          have m1 : (wr.alloc (.cells #[.int .i64 X.src, .int .i64 X.dst, .int .i64 X.ledger, .string X.asset, .int .i64 X.amount] 42)).cell? ⟨wr.heap.size, 1, none⟩ = some (.int .i64 X.dst) := by rw [World.cell?_alloc_new]; rfl
          replace m0 := hide m0
          replace m1 := hide m1
          clear hO hB hz HR hdrop hX hal hmem
          go_upto_region 5 with fail
          clear d0 d1 d2 d3 d4
          generalize (wr.alloc (.cells #[.int .i64 X.src, .int .i64 X.dst, .int .i64 X.ledger, .string X.asset, .int .i64 X.amount] 42)) = w4 at hO4 hB4 hz4 m0 m1 ⊢
          generalize wr.heap.size = gx at m0 m1 ⊢
          replace m0 := m0.out
          replace m1 := m1.out
          have HL4 : Hid (∀ y : Int, Calls Try.prog 65 #[.slice va l.length vc, .int .i64 y] w4 fun e w' => e = .returned (.bool (told (y ∈ l))) ∧ w' = w4) := fun y => by
            obtain ⟨va', vc', hvv, hI⟩ := own_ints hO4.out hF.out
            injection hvv with e1 e2 e3
            subst e1; subst e3
            exact contains_any hI y
          have HC4 : Hid (∀ y : Int, Calls Try.prog 65 #[.slice o3 m c3, .int .i64 y] w4 fun e w' => e = .returned (.bool (told (y ∈ C))) ∧ w' = w4) := fun y => by
            have h9 := contains_any (c := c3) (l := C) (a := o3) (w := w4) (by rw [hm.out]; exact hC.out.below (by rw [hg]; exact hB4.out)) y
            rw [hm.out] at h9; exact h9
          by_cases c1 : X.src = v
          · have c1' : (X.src == v) = true := by rw [c1]; exact beq_self_eq_true _
            have cb := hide c1
            clear c1
            go_wp2_with fail
            refine (HC4.out _).mono ?_
            rintro e w0 ⟨rfl, hw0⟩
            subst w0
            by_cases cC : X.dst ∈ C
            · rw [told_yes cC]
              have HN : Hid (RR = (match hitP v C l (A.drop (k + 1)) with | none => l | some x => reachP A v C gq (l ++ [x]))) := by
                have h9 := HR'.out
                rw [if_neg (fun h => h.2.1 cC)] at h9; exact h9
              clear HR'
              go_wp2
              go_roundg g2
              case measure => omega
              case rel => exact ⟨k + 1, by omega, by go_num, rfl, HN, hO4.out, hB4.out, hz4⟩
            · rw [told_no cC]
              go_wp2_with fail
              refine (HL4.out _).mono ?_
              rintro e w0 ⟨rfl, hw0⟩
              subst w0
              by_cases cL : X.dst ∈ l
              · rw [told_yes cL]
                have HN : Hid (RR = (match hitP v C l (A.drop (k + 1)) with | none => l | some x => reachP A v C gq (l ++ [x]))) := by
                  have h9 := HR'.out
                  rw [if_neg (fun h => h.2.2 cL)] at h9; exact h9
                clear HR'
                go_wp2
                go_roundg g2
                case measure => omega
                case rel => exact ⟨k + 1, by omega, by go_num, rfl, HN, hO4.out, hB4.out, hz4⟩
              · rw [told_no cL]
                have HN : Hid (RR = reachP A v C gq (l ++ [X.dst])) := by
                  have h9 := HR'.out
                  rw [if_pos ⟨.inl cb.out, cC, cL⟩] at h9; exact h9
                have hF' := hide (hF.out.more X.dst x0 x6 cL)
                clear HR'
                go_wp2_with (at_builtin; refine wpList_put1 (st := 22) Try.underlying22 Try.info3 rfl (by decide) (by decide) w4 _ (by rfl) (.tmp 42) (.tmp 45) (by rfl) g _ _ _ (by rfl) hO4.out (by rfl) rfl (by intro u hu; simp at hu; subst hu; rfl) (by omega) hz4 ?_; intro v8 w8 hown8 hg8; obtain ⟨v8a, v8c, rfl⟩ := row_slice hown8)
                go_roundg gq
                case measure => omega
                case rel =>
                  have hlt8 := World.ownsRow.lt hO4.out
                  refine ⟨l ++ [X.dst], by rw [List.length_append, List.length_singleton]; omega, hF'.out, HN, ?_, hB4.out.grown hg8 hz4 (fun k hk => (hlt8 k hk).1), Nat.le_trans hz4 hg8.size⟩
                  unfold OwnI
                  rw [List.length_append, List.map_append]; exact hown8
          · have c1' : (X.src == v) = false := by rw [beq_eq_false_iff_ne]; exact c1
            go_wp2_with fail
            refine (HL4.out _).mono ?_
            rintro e w0 ⟨rfl, hw0⟩
            subst w0
            by_cases cs : X.src ∈ l
            · rw [told_yes cs]
              go_wp2_with fail
              refine (HC4.out _).mono ?_
              rintro e w0 ⟨rfl, hw0⟩
              subst w0
              by_cases cC : X.dst ∈ C
              · rw [told_yes cC]
                have HN : Hid (RR = (match hitP v C l (A.drop (k + 1)) with | none => l | some x => reachP A v C gq (l ++ [x]))) := by
                  have h9 := HR'.out
                  rw [if_neg (fun h => h.2.1 cC)] at h9; exact h9
                clear HR'
                go_wp2
                go_roundg g2
                case measure => omega
                case rel => exact ⟨k + 1, by omega, by go_num, rfl, HN, hO4.out, hB4.out, hz4⟩
              · rw [told_no cC]
                go_wp2_with fail
                refine (HL4.out _).mono ?_
                rintro e w0 ⟨rfl, hw0⟩
                subst w0
                by_cases cL : X.dst ∈ l
                · rw [told_yes cL]
                  have HN : Hid (RR = (match hitP v C l (A.drop (k + 1)) with | none => l | some x => reachP A v C gq (l ++ [x]))) := by
                    have h9 := HR'.out
                    rw [if_neg (fun h => h.2.2 cL)] at h9; exact h9
                  clear HR'
                  go_wp2
                  go_roundg g2
                  case measure => omega
                  case rel => exact ⟨k + 1, by omega, by go_num, rfl, HN, hO4.out, hB4.out, hz4⟩
                · rw [told_no cL]
                  have HN : Hid (RR = reachP A v C gq (l ++ [X.dst])) := by
                    have h9 := HR'.out
                    rw [if_pos ⟨.inr cs, cC, cL⟩] at h9; exact h9
                  have hF' := hide (hF.out.more X.dst x0 x6 cL)
                  clear HR'
                  go_wp2_with (at_builtin; refine wpList_put1 (st := 22) Try.underlying22 Try.info3 rfl (by decide) (by decide) w4 _ (by rfl) (.tmp 42) (.tmp 45) (by rfl) g _ _ _ (by rfl) hO4.out (by rfl) rfl (by intro u hu; simp at hu; subst hu; rfl) (by omega) hz4 ?_; intro v8 w8 hown8 hg8; obtain ⟨v8a, v8c, rfl⟩ := row_slice hown8)
                  go_roundg gq
                  case measure => omega
                  case rel =>
                    have hlt8 := World.ownsRow.lt hO4.out
                    refine ⟨l ++ [X.dst], by rw [List.length_append, List.length_singleton]; omega, hF'.out, HN, ?_, hB4.out.grown hg8 hz4 (fun k hk => (hlt8 k hk).1), Nat.le_trans hz4 hg8.size⟩
                    unfold OwnI
                    rw [List.length_append, List.map_append]; exact hown8
            · rw [told_no cs]
              have HN : Hid (RR = (match hitP v C l (A.drop (k + 1)) with | none => l | some x => reachP A v C gq (l ++ [x]))) := by
                have h9 := HR'.out
                rw [if_neg (fun h => h.1.elim c1 cs)] at h9; exact h9
              clear HR'
              go_wp2
              go_roundg g2
              case measure => omega
              case rel => exact ⟨k + 1, by omega, by go_num, rfl, HN, hO4.out, hB4.out, hz4⟩

end Go.Proofs.Ythoimecljfcjmaa

/-
  Package graph: Strong, Feedback, Valid.
-/
namespace Go.Proofs.Ythoimecljfcjmaa
open Go.RowKit

/-- What Strong, Feedback, Valid tell. -/
def strM (s : SpecM) (h : Decidable (specOk s) := Classical.propDecidable (specOk s)) : Bool := told (specOk s) h && strongP s.parties.length s.arcs
def fbkM (s : SpecM) (h : Decidable (specOk s) := Classical.propDecidable (specOk s)) : Bool := told (specOk s) h && fbP s.parties.length s.arcs s.leaders
def validM (s : SpecM) (h : Decidable (specOk s) := Classical.propDecidable (specOk s)) : Bool := strM s h && fbkM s h
theorem ok_arcs {s : SpecM} (h : specOk s) : ∀ x ∈ s.arcs, (0 ≤ x.src ∧ x.src < (s.parties.length : Int)) ∧ 0 ≤ x.dst ∧ x.dst < (s.parties.length : Int) := fun x hx => by
  obtain ⟨j, hj, rfl⟩ := List.mem_iff_getElem.1 hx
  obtain ⟨_, _, _, ⟨_, _, q3⟩, _⟩ := h
  obtain ⟨⟨i1, i2, i3, i4, _⟩, _⟩ := q3 j hj
  rw [List.getD_eq_getElem?_getD, List.getElem?_eq_getElem hj] at i1 i2 i3 i4
  exact ⟨⟨i1, i2⟩, i3, i4⟩
theorem ok_six {s : SpecM} (h : specOk s) : ∀ x ∈ s.arcs, 0 ≤ x.dst ∧ x.dst < 6 := fun x hx => by
  have h1 := (ok_arcs h x hx).2
  have h2 : s.parties.length ≤ 6 := h.2.2.1.2.1
  omega
theorem strongP_yes (n : Nat) (A : List ArcM) (h : ∀ v, v < n → (reachP A (v : Int) [] 7 []).length = n) : strongP n A = true := by
  unfold strongP
  rw [List.all_eq_true]
  intro v hv
  rw [h v (List.mem_range.1 hv)]; exact beq_self_eq_true _
theorem strongP_no (n : Nat) (A : List ArcM) (v : Nat) (hv : v < n) (h : (reachP A (v : Int) [] 7 []).length ≠ n) : strongP n A = false := by
  unfold strongP
  rw [List.all_eq_false]
  exact ⟨v, List.mem_range.2 hv, by rw [beq_iff_eq]; exact h⟩
theorem fbP_yes (n : Nat) (A : List ArcM) (L : List Int) (h : ∀ v, v < n → (v : Int) ∉ reachP A (v : Int) L 7 []) : fbP n A L = true := by
  unfold fbP
  rw [List.all_eq_true]
  intro v hv
  rw [Bool.not_eq_true', ← Bool.not_eq_true, List.contains_iff_mem]
  exact h v (List.mem_range.1 hv)
theorem fbP_no (n : Nat) (A : List ArcM) (L : List Int) (v : Nat) (hv : v < n) (h : (v : Int) ∈ reachP A (v : Int) L 7 []) : fbP n A L = false := by
  unfold fbP
  rw [List.all_eq_false]
  exact ⟨v, List.mem_range.2 hv, by rw [Bool.not_eq_true', Bool.not_eq_false, List.contains_iff_mem]; exact h⟩

set_option maxRecDepth 10000 in
set_option maxHeartbeats 2000000 in
theorem pstrong_any {w : World} {v : Value} {s : SpecM} (hv : SpecW w v s) : Calls Try.prog 40 #[v] w fun e w' => e = .returned (.bool (strM s)) ∧ Below w.heap.size w w' := by
  obtain ⟨cs, rfl, h7⟩ := hv.seven
  obtain ⟨g, hg⟩ : ∃ g, w.heap.size = g := ⟨_, rfl⟩
  obtain ⟨r, hr⟩ : ∃ r, strM s = r := ⟨_, rfl⟩
  rw [hr]
  replace hr := hide hr
  have HC := fun W (h : Below w.heap.size w W) => check_spec (hv.below h)
  replace HC := hide HC
  go_enter Try.func40, Try.ntmps40
  go_wp2_with (first
    | ((with_reducible refine wpList_at ?_); refine wpList_boxv (by rfl) 27 (.tmp 0) (by rfl) _ (by rfl) ?_; rw [hg]; intro w1 hu1 hz1 hb1; have hx1 : SvAt w1 g cs := hu1; clear hu1)
    | ((with_reducible refine wpList_at ?_); refine wpList_loadV (by rfl) (.tmp 1) (by rfl) _ cs (by rfl) hx1 h7 ?_))
  refine (HC.out _ (by rw [hg]; exact hb1)).mono ?_
  rintro e w2 ⟨rfl, hb2⟩
  have hx2 := hx1.below hb2
  have hB2 : Below g w w2 := hb1.trans (hb2.mono (by omega))
  clear hz1 hx1 HC hb1 hb2
  by_cases hok : specOk s
  · rw [told_yes hok]
    have hrr : strongP s.parties.length s.arcs = r := by rw [← hr.out]; unfold strM; rw [told_yes hok]; rfl
    replace hrr := hide hrr
    have h6 := ok_six hok
    have hn6 : s.parties.length ≤ 6 := hok.2.2.1.2.1
    obtain ⟨a1, a2, a3, a4, k1, k2, k3, k4, hcs, LI, hcap⟩ := hv
    injection hcs with hcs
    have HA : Hid (∀ W, Below g w W → Arcs W a2 s.arcs ∧ Ints W a3 s.leaders.length s.leaders) := fun W hW => ⟨LI.arcs.below (by rw [hg]; exact hW), LI.leaders.below (by rw [hg]; exact hW)⟩
    have HX : ∀ W, SvAt W g cs → W.cell? ⟨g, 1, none⟩ = some (.slice a1 s.parties.length k1) ∧ W.cell? ⟨g, 2, none⟩ = some (.slice a2 s.arcs.length k2) ∧ W.cell? ⟨g, 3, none⟩ = some (.slice a3 s.leaders.length k3) := fun W hW => by
      have h9 : W.heap[g]? = some (.cells (cells7 a1 a2 a3 a4 k1 k2 k3 k4 s) 27 (0, 0)) := by rw [← hcs]; exact hW
      exact ⟨(cells7_at h9).2.1, (cells7_at h9).2.2.1, (cells7_at h9).2.2.2.1⟩
    obtain ⟨c1, c2, c3⟩ := HX _ hx2
    replace HX := hide HX
    replace h6 := hide h6
    clear hcs LI hcap hok
    obtain ⟨n, hn⟩ : ∃ n, s.parties.length = n := ⟨_, rfl⟩
    rw [hn] at c1 hn6 hrr
    replace hn := hide hn
    go_wp2_with fail
    clear c1 c2 c3
    go_loopw [10] (fun i wr => ∃ k : Nat, k ≤ n ∧ i = .int .i64 k ∧ Hid (∀ j, j < k → (reachP s.arcs (j : Int) [] 7 []).length = n) ∧ SvAt wr g cs ∧ Below g w wr) (fun i _ => n - (intOf i).toNat)
    case atStart => exact ⟨0, by omega, rfl, fun j hj => absurd hj (by omega), hx2, hB2⟩
    case round =>
      clear hx2 hB2
      obtain ⟨k, hk, rfl, HD, hx, hB⟩ := hrel
      by_cases hlt : k < n
      · have k1' : (k : Int) < (n : Int) := by omega
        obtain ⟨c1, c2, _⟩ := HX.out _ hx
        rw [hn.out] at c1
        obtain ⟨RL, hRL⟩ : ∃ RL, reachP s.arcs (k : Int) [] 7 [] = RL := ⟨_, rfl⟩
        have hF : Few RL := by rw [← hRL]; exact reachP_few h6.out _ _ 7 [] Few.nil
        have hl6 := hF.len
        obtain ⟨m, hm⟩ : ∃ m, RL.length = m := ⟨_, rfl⟩
        have HP : Hid (∀ W, Below wr.heap.size wr W → Calls Try.prog 64 #[.slice a2 s.arcs.length k2, .int .i64 (k : Int), .slice none 0 0] W fun e w' => ∃ ta tc, e = .returned (.slice ta m tc) ∧ Below W.heap.size W w') := fun W hW => by
          have hWB : Below g w W := hB.trans (hW.mono (by have := hx.lt; omega))
          refine (preach_any (HA.out W hWB).1 h6.out (k : Int) none 0 [] (ints_nil W)).mono ?_
          rintro e w' ⟨u, rfl, hO, hb⟩
          rw [hRL] at hO
          obtain ⟨ta, tc, rfl, _⟩ := own_ints hO hF
          exact ⟨ta, tc, by rw [hm], hb⟩
        rw [hm] at hl6
        replace hRL := hide hRL
        replace hm := hide hm
        clear hF
        by_cases hmn : m = n
        · have t1 : ((m : Int) != (n : Int)) = false := nat_same hmn
          replace hmn := hide hmn
          go_upto_region 6 with fail
          have hRw : Below wr.heap.size wr wr.drew := ⟨rfl, rfl, rfl, Nat.le_refl _, fun _ _ => rfl⟩
          refine wp_region_held_drew (S := fun W => Below wr.heap.size wr W) (by kernel_rfl) hRw (fun hHeld => ?_)
          refine wpAnyH_take (i := 0) (oi := { dst := some 13, op := Op.fieldAddr 27 (Operand.tmp 1) 2, type := 0, pos := "graph.go:18", after := #[], guard := none }) (v := ?_) rfl (by kernel_rfl) (by kernel_rfl) (by kernel_rfl) (fun _ _ _ h => h) (Or.inl ⟨by rfl, ?_⟩) (by assumption) ?_
          rotate_left
          · intro W hSW; first | (go_simp; done) | (go_simp; with_reducible rfl)
          try simp only [Act.put, List.setIfInBounds_toArray, List.set_cons_zero, List.set_cons_succ]
          refine wpAnyH_take (i := 1) (oi := { dst := some 14, op := Op.load 24 (Operand.tmp 13), type := 24, pos := "graph.go:18", after := #[{ on := 0, ground := Ground.data }], guard := none }) (v := ?_) rfl (by kernel_rfl) (by kernel_rfl) (by kernel_rfl) (fun _ _ _ h => h) (Or.inl ⟨by rfl, ?_⟩) (by assumption) ?_
          rotate_left
          · intro W hSW; have z0 := cell_on hSW c1; have z1 := cell_on hSW c2; first | (go_simp; done) | (go_simp; with_reducible rfl)
          try simp only [Act.put, List.setIfInBounds_toArray, List.set_cons_zero, List.set_cons_succ]
          refine wpAnyH_take (i := 2) (oi := { dst := some 15, op := Op.move (Operand.tmp 3), type := 3, pos := "graph.go:18", after := #[], guard := none }) (v := ?_) rfl (by kernel_rfl) (by kernel_rfl) (by kernel_rfl) (fun _ _ _ h => h) (Or.inl ⟨by rfl, ?_⟩) (by assumption) ?_
          rotate_left
          · intro W hSW; first | (go_simp; done) | (go_simp; with_reducible rfl)
          try simp only [Act.put, List.setIfInBounds_toArray, List.set_cons_zero, List.set_cons_succ]
          refine wpAnyH_take (i := 5) (oi := { dst := some 18, op := Op.fieldAddr 27 (Operand.tmp 1) 1, type := 0, pos := "graph.go:18", after := #[], guard := none }) (v := ?_) rfl (by kernel_rfl) (by kernel_rfl) (by kernel_rfl) (fun _ _ _ h => h) (Or.inl ⟨by rfl, ?_⟩) (by assumption) ?_
          rotate_left
          · intro W hSW; first | (go_simp; done) | (go_simp; with_reducible rfl)
          try simp only [Act.put, List.setIfInBounds_toArray, List.set_cons_zero, List.set_cons_succ]
          refine wpAnyH_take (i := 6) (oi := { dst := some 19, op := Op.load 23 (Operand.tmp 18), type := 23, pos := "graph.go:18", after := #[{ on := 5, ground := Ground.data }], guard := none }) (v := ?_) rfl (by kernel_rfl) (by kernel_rfl) (by kernel_rfl) (fun _ _ _ h => h) (Or.inl ⟨by rfl, ?_⟩) (by assumption) ?_
          rotate_left
          · intro W hSW; have z0 := cell_on hSW c1; have z1 := cell_on hSW c2; first | (go_simp; done) | (go_simp; with_reducible rfl)
          try simp only [Act.put, List.setIfInBounds_toArray, List.set_cons_zero, List.set_cons_succ]
          refine wpAnyH_take (i := 7) (oi := { dst := some 20, op := Op.call { callee := Callee.builtin Builtin.len, args := #[Operand.tmp 19], argTypes := #[23] }, type := 3, pos := "graph.go:18", after := #[{ on := 6, ground := Ground.data }], guard := none }) (v := ?_) rfl (by kernel_rfl) (by kernel_rfl) (by kernel_rfl) (fun _ _ _ h => h) (Or.inl ⟨by rfl, ?_⟩) (by assumption) ?_
          rotate_left
          · intro W hSW; first | (go_simp; done) | (go_simp; with_reducible rfl)
          try simp only [Act.put, List.setIfInBounds_toArray, List.set_cons_zero, List.set_cons_succ]
          refine wpAnyH_loneE (T := fun u W => Below wr.heap.size wr W ∧ ∃ a c, u = Value.slice a m c) (i := 3) (oi := { dst := some 16, op := Op.call { callee := Callee.value (Operand.func 64), args := #[Operand.tmp 14, Operand.tmp 15, Operand.const (Value.slice none 0 0)], argTypes := #[24, 3, 22] }, type := 22, pos := "graph.go:18", after := #[{ on := 1, ground := Ground.data }, { on := 2, ground := Ground.data }], guard := none }) (by kernel_rfl) rfl (fun v W h => h.1) ?_ ?_
          · intro K hK
            go_simp
            refine (HP.out _ hRw).mono ?_
            rintro e W2 ⟨ta, tc, rfl, hb⟩
            go_wp2_with fail
            exact hK.out _ _ (⟨below_then hRw hb, ta, tc, rfl⟩)
          intro u3 W9 hu3 hHeld
          clear hRw
          obtain ⟨hRw, ta, tc, rfl⟩ := hu3
          try simp only [Act.put, List.setIfInBounds_toArray, List.set_cons_zero, List.set_cons_succ]
          refine wpAnyH_take (i := 4) (oi := { dst := some 17, op := Op.call { callee := Callee.builtin Builtin.len, args := #[Operand.tmp 16], argTypes := #[22] }, type := 3, pos := "graph.go:18", after := #[{ on := 3, ground := Ground.data }], guard := none }) (v := ?_) rfl (by kernel_rfl) (by kernel_rfl) (by kernel_rfl) (fun _ _ _ h => h) (Or.inl ⟨by rfl, ?_⟩) (by assumption) ?_
          rotate_left
          · intro W hSW; first | (go_simp; done) | (go_simp; with_reducible rfl)
          try simp only [Act.put, List.setIfInBounds_toArray, List.set_cons_zero, List.set_cons_succ]
          refine wpAnyH_take (i := 8) (oi := { dst := some 21, op := Op.binOp BinOp.neq 3 (Operand.tmp 17) (Operand.tmp 20) 3, type := 4, pos := "graph.go:18", after := #[{ on := 4, ground := Ground.data }, { on := 7, ground := Ground.data }], guard := none }) (v := ?_) rfl (by kernel_rfl) (by kernel_rfl) (by kernel_rfl) (fun _ _ _ h => h) (Or.inl ⟨by rfl, ?_⟩) (by assumption) ?_
          rotate_left
          · intro W hSW; first | (go_simp; done) | (go_simp; with_reducible rfl)
          try simp only [Act.put, List.setIfInBounds_toArray, List.set_cons_zero, List.set_cons_succ]
          refine wpAnyH_done (by kernel_rfl) ?_ _
          have hx3 := hx.below hRw
          have hB3 : Below g w W9 := hB.trans (hRw.mono (by have := hx.lt; omega))
          clear hx hB hRw hHeld c1 c2 HP
          go_wp2_with fail
          go_roundw
          case rel => exact ⟨k + 1, by omega, by go_num, fun j hj => by
            by_cases h : j < k
            · exact HD.out j h
            · have : j = k := by omega
              subst this; rw [hRL.out, hm.out, hmn.out], hx3, hB3⟩
          case measure => simp [intOf]; omega
        · have t1 : ((m : Int) != (n : Int)) = true := nat_ne hmn
          have hf : Hid (r = false) := by show _ = _; rw [← hrr.out]; exact strongP_no _ _ k hlt (by rw [hRL.out, hm.out]; exact hmn)
          clear hmn
          go_upto_region 6 with fail
          have hRw : Below wr.heap.size wr wr.drew := ⟨rfl, rfl, rfl, Nat.le_refl _, fun _ _ => rfl⟩
          refine wp_region_held_drew (S := fun W => Below wr.heap.size wr W) (by kernel_rfl) hRw (fun hHeld => ?_)
          refine wpAnyH_take (i := 0) (oi := { dst := some 13, op := Op.fieldAddr 27 (Operand.tmp 1) 2, type := 0, pos := "graph.go:18", after := #[], guard := none }) (v := ?_) rfl (by kernel_rfl) (by kernel_rfl) (by kernel_rfl) (fun _ _ _ h => h) (Or.inl ⟨by rfl, ?_⟩) (by assumption) ?_
          rotate_left
          · intro W hSW; first | (go_simp; done) | (go_simp; with_reducible rfl)
          try simp only [Act.put, List.setIfInBounds_toArray, List.set_cons_zero, List.set_cons_succ]
          refine wpAnyH_take (i := 1) (oi := { dst := some 14, op := Op.load 24 (Operand.tmp 13), type := 24, pos := "graph.go:18", after := #[{ on := 0, ground := Ground.data }], guard := none }) (v := ?_) rfl (by kernel_rfl) (by kernel_rfl) (by kernel_rfl) (fun _ _ _ h => h) (Or.inl ⟨by rfl, ?_⟩) (by assumption) ?_
          rotate_left
          · intro W hSW; have z0 := cell_on hSW c1; have z1 := cell_on hSW c2; first | (go_simp; done) | (go_simp; with_reducible rfl)
          try simp only [Act.put, List.setIfInBounds_toArray, List.set_cons_zero, List.set_cons_succ]
          refine wpAnyH_take (i := 2) (oi := { dst := some 15, op := Op.move (Operand.tmp 3), type := 3, pos := "graph.go:18", after := #[], guard := none }) (v := ?_) rfl (by kernel_rfl) (by kernel_rfl) (by kernel_rfl) (fun _ _ _ h => h) (Or.inl ⟨by rfl, ?_⟩) (by assumption) ?_
          rotate_left
          · intro W hSW; first | (go_simp; done) | (go_simp; with_reducible rfl)
          try simp only [Act.put, List.setIfInBounds_toArray, List.set_cons_zero, List.set_cons_succ]
          refine wpAnyH_take (i := 5) (oi := { dst := some 18, op := Op.fieldAddr 27 (Operand.tmp 1) 1, type := 0, pos := "graph.go:18", after := #[], guard := none }) (v := ?_) rfl (by kernel_rfl) (by kernel_rfl) (by kernel_rfl) (fun _ _ _ h => h) (Or.inl ⟨by rfl, ?_⟩) (by assumption) ?_
          rotate_left
          · intro W hSW; first | (go_simp; done) | (go_simp; with_reducible rfl)
          try simp only [Act.put, List.setIfInBounds_toArray, List.set_cons_zero, List.set_cons_succ]
          refine wpAnyH_take (i := 6) (oi := { dst := some 19, op := Op.load 23 (Operand.tmp 18), type := 23, pos := "graph.go:18", after := #[{ on := 5, ground := Ground.data }], guard := none }) (v := ?_) rfl (by kernel_rfl) (by kernel_rfl) (by kernel_rfl) (fun _ _ _ h => h) (Or.inl ⟨by rfl, ?_⟩) (by assumption) ?_
          rotate_left
          · intro W hSW; have z0 := cell_on hSW c1; have z1 := cell_on hSW c2; first | (go_simp; done) | (go_simp; with_reducible rfl)
          try simp only [Act.put, List.setIfInBounds_toArray, List.set_cons_zero, List.set_cons_succ]
          refine wpAnyH_take (i := 7) (oi := { dst := some 20, op := Op.call { callee := Callee.builtin Builtin.len, args := #[Operand.tmp 19], argTypes := #[23] }, type := 3, pos := "graph.go:18", after := #[{ on := 6, ground := Ground.data }], guard := none }) (v := ?_) rfl (by kernel_rfl) (by kernel_rfl) (by kernel_rfl) (fun _ _ _ h => h) (Or.inl ⟨by rfl, ?_⟩) (by assumption) ?_
          rotate_left
          · intro W hSW; first | (go_simp; done) | (go_simp; with_reducible rfl)
          try simp only [Act.put, List.setIfInBounds_toArray, List.set_cons_zero, List.set_cons_succ]
          refine wpAnyH_loneE (T := fun u W => Below wr.heap.size wr W ∧ ∃ a c, u = Value.slice a m c) (i := 3) (oi := { dst := some 16, op := Op.call { callee := Callee.value (Operand.func 64), args := #[Operand.tmp 14, Operand.tmp 15, Operand.const (Value.slice none 0 0)], argTypes := #[24, 3, 22] }, type := 22, pos := "graph.go:18", after := #[{ on := 1, ground := Ground.data }, { on := 2, ground := Ground.data }], guard := none }) (by kernel_rfl) rfl (fun v W h => h.1) ?_ ?_
          · intro K hK
            go_simp
            refine (HP.out _ hRw).mono ?_
            rintro e W2 ⟨ta, tc, rfl, hb⟩
            go_wp2_with fail
            exact hK.out _ _ (⟨below_then hRw hb, ta, tc, rfl⟩)
          intro u3 W9 hu3 hHeld
          clear hRw
          obtain ⟨hRw, ta, tc, rfl⟩ := hu3
          try simp only [Act.put, List.setIfInBounds_toArray, List.set_cons_zero, List.set_cons_succ]
          refine wpAnyH_take (i := 4) (oi := { dst := some 17, op := Op.call { callee := Callee.builtin Builtin.len, args := #[Operand.tmp 16], argTypes := #[22] }, type := 3, pos := "graph.go:18", after := #[{ on := 3, ground := Ground.data }], guard := none }) (v := ?_) rfl (by kernel_rfl) (by kernel_rfl) (by kernel_rfl) (fun _ _ _ h => h) (Or.inl ⟨by rfl, ?_⟩) (by assumption) ?_
          rotate_left
          · intro W hSW; first | (go_simp; done) | (go_simp; with_reducible rfl)
          try simp only [Act.put, List.setIfInBounds_toArray, List.set_cons_zero, List.set_cons_succ]
          refine wpAnyH_take (i := 8) (oi := { dst := some 21, op := Op.binOp BinOp.neq 3 (Operand.tmp 17) (Operand.tmp 20) 3, type := 4, pos := "graph.go:18", after := #[{ on := 4, ground := Ground.data }, { on := 7, ground := Ground.data }], guard := none }) (v := ?_) rfl (by kernel_rfl) (by kernel_rfl) (by kernel_rfl) (fun _ _ _ h => h) (Or.inl ⟨by rfl, ?_⟩) (by assumption) ?_
          rotate_left
          · intro W hSW; first | (go_simp; done) | (go_simp; with_reducible rfl)
          try simp only [Act.put, List.setIfInBounds_toArray, List.set_cons_zero, List.set_cons_succ]
          refine wpAnyH_done (by kernel_rfl) ?_ _
          have hB3 : Below g w W9 := hB.trans (hRw.mono (by have := hx.lt; omega))
          clear hx hB hRw hHeld c1 c2 HP
          go_wp2
          go_ret
          exact ⟨ret_bool hf.out.symm, by rw [hg]; exact hB3⟩
      · have k1' : ¬ (k : Int) < (n : Int) := by omega
        have hf : Hid (r = true) := by show _ = _; rw [← hrr.out]; exact strongP_yes _ _ (fun v hv => HD.out v (by omega))
        go_wp2
        go_ret
        exact ⟨ret_bool hf.out.symm, hB⟩
  · rw [told_no hok]
    have hf : Hid (r = false) := by show _ = _; rw [← hr.out]; unfold strM; rw [told_no hok]; rfl
    go_wp2
    go_ret
    exact ⟨ret_bool hf.out.symm, by rw [hg]; exact hB2⟩

set_option maxRecDepth 10000 in
set_option maxHeartbeats 2000000 in
theorem pfeedback_any {w : World} {v : Value} {s : SpecM} (hv : SpecW w v s) : Calls Try.prog 41 #[v] w fun e w' => e = .returned (.bool (fbkM s)) ∧ Below w.heap.size w w' := by
  obtain ⟨cs, rfl, h7⟩ := hv.seven
  obtain ⟨g, hg⟩ : ∃ g, w.heap.size = g := ⟨_, rfl⟩
  obtain ⟨r, hr⟩ : ∃ r, fbkM s = r := ⟨_, rfl⟩
  rw [hr]
  replace hr := hide hr
  have HC := fun W (h : Below w.heap.size w W) => check_spec (hv.below h)
  replace HC := hide HC
  go_enter Try.func41, Try.ntmps41
  go_wp2_with (first
    | ((with_reducible refine wpList_at ?_); refine wpList_boxv (by rfl) 27 (.tmp 0) (by rfl) _ (by rfl) ?_; rw [hg]; intro w1 hu1 hz1 hb1; have hx1 : SvAt w1 g cs := hu1; clear hu1)
    | ((with_reducible refine wpList_at ?_); refine wpList_loadV (by rfl) (.tmp 1) (by rfl) _ cs (by rfl) hx1 h7 ?_))
  refine (HC.out _ (by rw [hg]; exact hb1)).mono ?_
  rintro e w2 ⟨rfl, hb2⟩
  have hx2 := hx1.below hb2
  have hB2 : Below g w w2 := hb1.trans (hb2.mono (by omega))
  clear hz1 hx1 HC hb1 hb2
  by_cases hok : specOk s
  · rw [told_yes hok]
    have hrr : fbP s.parties.length s.arcs s.leaders = r := by rw [← hr.out]; unfold fbkM; rw [told_yes hok]; rfl
    replace hrr := hide hrr
    have h6 := ok_six hok
    have hn6 : s.parties.length ≤ 6 := hok.2.2.1.2.1
    obtain ⟨a1, a2, a3, a4, k1, k2, k3, k4, hcs, LI, hcap⟩ := hv
    injection hcs with hcs
    have HA : Hid (∀ W, Below g w W → Arcs W a2 s.arcs ∧ Ints W a3 s.leaders.length s.leaders) := fun W hW => ⟨LI.arcs.below (by rw [hg]; exact hW), LI.leaders.below (by rw [hg]; exact hW)⟩
    have HX : ∀ W, SvAt W g cs → W.cell? ⟨g, 1, none⟩ = some (.slice a1 s.parties.length k1) ∧ W.cell? ⟨g, 2, none⟩ = some (.slice a2 s.arcs.length k2) ∧ W.cell? ⟨g, 3, none⟩ = some (.slice a3 s.leaders.length k3) := fun W hW => by
      have h9 : W.heap[g]? = some (.cells (cells7 a1 a2 a3 a4 k1 k2 k3 k4 s) 27 (0, 0)) := by rw [← hcs]; exact hW
      exact ⟨(cells7_at h9).2.1, (cells7_at h9).2.2.1, (cells7_at h9).2.2.2.1⟩
    obtain ⟨c1, c2, c3⟩ := HX _ hx2
    replace HX := hide HX
    replace h6 := hide h6
    clear hcs LI hcap hok
    obtain ⟨n, hn⟩ : ∃ n, s.parties.length = n := ⟨_, rfl⟩
    rw [hn] at c1 hn6 hrr
    replace hn := hide hn
    go_wp2_with fail
    clear c1 c2 c3
    go_loopw [10] (fun i wr => ∃ k : Nat, k ≤ n ∧ i = .int .i64 k ∧ Hid (∀ j : Nat, j < k → (j : Int) ∉ reachP s.arcs (j : Int) s.leaders 7 []) ∧ SvAt wr g cs ∧ Below g w wr) (fun i _ => n - (intOf i).toNat)
    case atStart => exact ⟨0, by omega, rfl, fun j hj => absurd hj (by omega), hx2, hB2⟩
    case round =>
      clear hx2 hB2
      obtain ⟨k, hk, rfl, HD, hx, hB⟩ := hrel
      by_cases hlt : k < n
      · have k1' : (k : Int) < (n : Int) := by omega
        obtain ⟨c1, c2, c3⟩ := HX.out _ hx
        obtain ⟨RL, hRL⟩ : ∃ RL, reachP s.arcs (k : Int) s.leaders 7 [] = RL := ⟨_, rfl⟩
        have hF : Few RL := by rw [← hRL]; exact reachP_few h6.out _ _ 7 [] Few.nil
        have HP := preach_any (c2 := k2) (HA.out wr hB).1 h6.out (k : Int) a3 k3 s.leaders (HA.out wr hB).2
        rw [hRL] at HP
        replace HP := hide HP
        replace hRL := hide hRL
        replace hF := hide hF
        go_wp2_with fail
        refine HP.out.mono ?_
        rintro e w3 ⟨u, rfl, hO3, hb3⟩
        obtain ⟨ua, uc, rfl, hI3⟩ := own_ints hO3 hF.out
        have HCo := hide (contains_any (c := uc) hI3 (k : Int))
        have hx3 := hx.below hb3
        have hB3 : Below g w w3 := hB.trans (hb3.mono (by have := hx.lt; omega))
        clear hx hB hb3 HP c1 c2 c3 hO3 hI3
        generalize RL.length = m at HCo ⊢
        go_wp2_with fail
        refine HCo.out.mono ?_
        rintro e w0 ⟨rfl, hw0⟩
        subst w0
        by_cases hm : (k : Int) ∈ RL
        · rw [told_yes hm]
          have hf : Hid (r = false) := by show _ = _; rw [← hrr.out]; exact fbP_no _ _ _ k hlt (by rw [hRL.out]; exact hm)
          clear hm HCo
          go_wp2
          go_ret
          exact ⟨ret_bool hf.out.symm, by rw [hg]; exact hB3⟩
        · rw [told_no hm]
          replace hm := hide hm
          clear HCo
          go_wp2_with fail
          go_roundw
          case rel => exact ⟨k + 1, by omega, by go_num, fun j hj => by
            by_cases h : j < k
            · exact HD.out j h
            · have : j = k := by omega
              subst this; rw [hRL.out]; exact hm.out, hx3, hB3⟩
          case measure => simp [intOf]; omega
      · have k1' : ¬ (k : Int) < (n : Int) := by omega
        have hf : Hid (r = true) := by show _ = _; rw [← hrr.out]; exact fbP_yes _ _ _ (fun v hv => HD.out v (by omega))
        go_wp2
        go_ret
        exact ⟨ret_bool hf.out.symm, hB⟩
  · rw [told_no hok]
    have hf : Hid (r = false) := by show _ = _; rw [← hr.out]; unfold fbkM; rw [told_no hok]; rfl
    go_wp2
    go_ret
    exact ⟨ret_bool hf.out.symm, by rw [hg]; exact hB2⟩

set_option maxRecDepth 10000 in
set_option maxHeartbeats 1000000 in
theorem pvalid_any {w : World} {v : Value} {s : SpecM} (hv : SpecW w v s) : Calls Try.prog 19 #[v] w fun e w' => e = .returned (.bool (validM s)) ∧ Below w.heap.size w w' := by
  obtain ⟨cs, rfl, h7⟩ := hv.seven
  obtain ⟨g, hg⟩ : ∃ g, w.heap.size = g := ⟨_, rfl⟩
  have HS := fun W (h : Below w.heap.size w W) => pstrong_any (hv.below h)
  have HF := fun W (h : Below w.heap.size w W) => pfeedback_any (hv.below h)
  unfold validM
  generalize strM s = r1 at HS ⊢
  generalize fbkM s = r2 at HF ⊢
  replace HS := hide HS
  replace HF := hide HF
  clear hv
  go_enter Try.func19, Try.ntmps19
  go_wp2_with (first
    | ((with_reducible refine wpList_at ?_); refine wpList_boxv (by rfl) 27 (.tmp 0) (by rfl) _ (by rfl) ?_; rw [hg]; intro w1 hu1 hz1 hb1; have hx1 : SvAt w1 g cs := hu1; clear hu1)
    | ((with_reducible refine wpList_at ?_); refine wpList_loadV (by rfl) (.tmp 1) (by rfl) _ cs (by rfl) hx1 h7 ?_))
  refine (HS.out _ (by rw [hg]; exact hb1)).mono ?_
  rintro e w2 ⟨rfl, hb2⟩
  have hx2 := hx1.below hb2
  have hB2 : Below g w w2 := hb1.trans (hb2.mono (by omega))
  clear hz1 hx1 HS hb1 hb2
  cases r1 with
  | false =>
    go_wp2
    go_ret
    exact ⟨rfl, by rw [hg]; exact hB2⟩
  | true =>
    go_wp2_with ((with_reducible refine wpList_at ?_); refine wpList_loadV (by rfl) (.tmp 1) (by rfl) _ cs (by rfl) hx2 h7 ?_)
    refine (HF.out _ (by rw [hg]; exact hB2)).mono ?_
    rintro e w3 ⟨rfl, hb3⟩
    go_wp2
    go_ret
    exact ⟨rfl, by rw [hg]; exact hB2.trans (hb3.mono (by have := hx2.lt; omega))⟩

end Go.Proofs.Ythoimecljfcjmaa

/-
  Package graph: places, Enter, Leave.
-/
namespace Go.Proofs.Ythoimecljfcjmaa
open Go.RowKit


/-- The places of the arcs that enter, that leave a party. -/
def entL (A : List ArcM) (v : Int) (k : Nat) : List Int := ((List.range k).filter fun i => (A.getD i noArc).dst == v).map fun (i : Nat) => (i : Int)
def levL (A : List ArcM) (v : Int) (k : Nat) : List Int := ((List.range k).filter fun i => (A.getD i noArc).src == v).map fun (i : Nat) => (i : Int)
theorem ent_yes (A : List ArcM) (v : Int) (k : Nat) (h : (A.getD k noArc).dst = v) : entL A v (k + 1) = entL A v k ++ [(k : Int)] := by
  unfold entL
  rw [List.range_succ, List.filter_append, List.map_append, List.filter_cons_of_pos (by rw [h]; exact beq_self_eq_true _)]; rfl
theorem ent_no (A : List ArcM) (v : Int) (k : Nat) (h : (A.getD k noArc).dst ≠ v) : entL A v (k + 1) = entL A v k := by
  unfold entL
  rw [List.range_succ, List.filter_append, List.map_append, List.filter_cons_of_neg (by rw [beq_iff_eq]; exact h)]; simp
theorem ent_len (A : List ArcM) (v : Int) (k : Nat) : (entL A v k).length ≤ k := by
  unfold entL
  rw [List.length_map]
  exact Nat.le_trans (List.length_filter_le _ _) (by rw [List.length_range]; exact Nat.le_refl _)
theorem ent_in (A : List ArcM) (v : Int) (k : Nat) : ∀ x ∈ entL A v k, 0 ≤ x ∧ x < (k : Int) := by
  intro x hx
  unfold entL at hx
  obtain ⟨i, hi, rfl⟩ := List.mem_map.1 hx
  have := List.mem_range.1 (List.mem_filter.1 hi).1
  omega
theorem lev_yes (A : List ArcM) (v : Int) (k : Nat) (h : (A.getD k noArc).src = v) : levL A v (k + 1) = levL A v k ++ [(k : Int)] := by
  unfold levL
  rw [List.range_succ, List.filter_append, List.map_append, List.filter_cons_of_pos (by rw [h]; exact beq_self_eq_true _)]; rfl
theorem lev_no (A : List ArcM) (v : Int) (k : Nat) (h : (A.getD k noArc).src ≠ v) : levL A v (k + 1) = levL A v k := by
  unfold levL
  rw [List.range_succ, List.filter_append, List.map_append, List.filter_cons_of_neg (by rw [beq_iff_eq]; exact h)]; simp
theorem lev_len (A : List ArcM) (v : Int) (k : Nat) : (levL A v k).length ≤ k := by
  unfold levL
  rw [List.length_map]
  exact Nat.le_trans (List.length_filter_le _ _) (by rw [List.length_range]; exact Nat.le_refl _)
theorem lev_in (A : List ArcM) (v : Int) (k : Nat) : ∀ x ∈ levL A v k, 0 ≤ x ∧ x < (k : Int) := by
  intro x hx
  unfold levL at hx
  obtain ⟨i, hi, rfl⟩ := List.mem_map.1 hx
  have := List.mem_range.1 (List.mem_filter.1 hi).1
  omega

end Go.Proofs.Ythoimecljfcjmaa
