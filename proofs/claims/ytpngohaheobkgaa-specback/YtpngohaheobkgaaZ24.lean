/-
  The program's unlike at parties and arcs.
-/
import Derived.Test.YtpngohaheobkgaaZ23
import Derived.Test.YtpngohaheobkgaaZ18
import Derived.Deep.RegionHeld3
import Derived.Deep.DrawnRows
import Derived.Deep.CutRange
import Derived.Test.YtpngohaheobkgaaZ16
import Derived.Test.YtpngohaheobkgaaZ15
import Derived.Test.YtpngohaheobkgaaZ20
import Derived.Deep.RegionWith
import Derived.Deep.RegionLaw
import Derived.Deep.CutBlock
namespace Go.Proofs.Ytpngohaheobkgaa
open Go.RowKit

theorem two_new (w : World) (x y : Value) (t : TypeId) : (w.alloc (.cells #[x, y] t)).cell? ⟨w.heap.size, 0, none⟩ = some x ∧ (w.alloc (.cells #[x, y] t)).cell? ⟨w.heap.size, 1, none⟩ = some y := by
  constructor <;> (rw [World.cell?_alloc_new]; rfl)

set_option maxRecDepth 10000 in
set_option maxHeartbeats 2000000 in
theorem unlike_party {w : World} {a : Option Addr} {c : Nat} {l : List PartyM} (h : Parties w a l) (hc : l.length ≤ c) (hcm : c ≤ maxLen) :
    Calls Try.prog 75 #[.slice a l.length c, .func (.func 76) #[] #[]] w fun e w' => e = .returned (.bool (told (unlikeOk l.length (fun i => PartyM.acc (l.getD i noParty))))) ∧ Below w.heap.size w w' := by
  obtain ⟨r, hr⟩ : ∃ r, told (unlikeOk l.length (fun i => PartyM.acc (l.getD i noParty))) = r := ⟨_, rfl⟩
  have HR : Hid (told (unlikeOk l.length (fun i => PartyM.acc (l.getD i noParty))) = r) := hr
  rw [hr]
  clear hr
  have HL : Hid (Parties w a l) := h
  unfold maxLen at hcm
  have HM := mark_party
  replace HM := hide HM
  clear h
  go_enter Try.func75, Try.ntmps75
  go_wp2
  go_loopw [11] (fun i wr => ∃ k : Nat, k ≤ l.length ∧ i = .int .i64 k ∧ Hid (∀ i, i < k → ∀ j, j < i → PartyM.acc (l.getD j noParty) ≠ PartyM.acc (l.getD i noParty)) ∧ Below w.heap.size w wr) (fun i _ => l.length - (intOf i).toNat)
  case atStart => exact ⟨0, by omega, rfl, fun j hj => absurd hj (by omega), Below.refl _ _⟩
  case round =>
    obtain ⟨i, hi, rfl, HO, hB⟩ := hrel
    by_cases hlt : i < l.length
    · have i1 : (i : Int) < (l.length : Int) := by omega
      obtain ⟨b, o, rfl, hd⟩ := HL.out.2 i hlt
      obtain ⟨P, hP⟩ : ∃ P, l.getD i noParty = P := ⟨_, rfl⟩
      rw [hP] at hd
      have HX : Hid (l.getD i noParty = P) := hP
      clear hP
      have ic : ¬ ((c : Int) < (i : Int)) := by omega
      obtain ⟨hsz, d0, ka, kc, d1, hks⟩ := hd.below hB
      clear hd hsz hks
      go_upto_region 4 with fail
      have hE := two_new wr (.string P.acc) (.slice ka P.keys.length kc) 40
      replace hB := hB.alloc hB.size (Obj.cells #[Value.string P.acc, Value.slice ka P.keys.length kc] 40)
      clear d0 d1
      generalize wr.alloc (Obj.cells #[Value.string P.acc, Value.slice ka P.keys.length kc] 40) = w3 at hE hB ⊢
      generalize wr.heap.size = gp at hE ⊢
      obtain ⟨e0, e1⟩ := hE
      have HE : Hid (w3.cell? ⟨gp, 0, none⟩ = some (.string P.acc) ∧ w3.cell? ⟨gp, 1, none⟩ = some (.slice ka P.keys.length kc)) := ⟨e0, e1⟩
      clear e0 e1
      go_wp2
      go_loopw [20] (fun k ws => ∃ j : Nat, j ≤ i ∧ k = .int .i64 j ∧ Hid (∀ m, m < j → PartyM.acc (l.getD m noParty) ≠ PartyM.acc P) ∧ Below w3.heap.size w3 ws) (fun k _ => i - (intOf k).toNat)
      case atStart => exact ⟨0, by omega, rfl, fun j hj => absurd hj (by omega), Below.refl _ _⟩
      case round =>
        obtain ⟨j, hj, rfl, HJ, hS⟩ := hrel
        have hBS := hB.trans (hS.mono hB.size)
        by_cases hjt : j < i
        · have j1 : (j : Int) < (i : Int) := by omega
          have hd2 := HL.out.get j (by omega)
          obtain ⟨R, hR⟩ : ∃ R, l.getD j noParty = R := ⟨_, rfl⟩
          rw [hR] at hd2
          have HY : Hid (l.getD j noParty = R) := hR
          clear hR
          obtain ⟨hsz, d0, kb, kd, d1, hks⟩ := hd2.below hBS
          clear hd2 hsz hks
          go_upto_region 7 with fail
          have hF := two_new wr (.string R.acc) (.slice kb R.keys.length kd) 40
          replace hS := hS.alloc hS.size (Obj.cells #[Value.string R.acc, Value.slice kb R.keys.length kd] 40)
          replace hBS := hBS.alloc hBS.size (Obj.cells #[Value.string R.acc, Value.slice kb R.keys.length kd] 40)
          clear d0 d1
          generalize wr.alloc (Obj.cells #[Value.string R.acc, Value.slice kb R.keys.length kd] 40) = w4 at hF hS hBS ⊢
          generalize wr.heap.size = gq at hF ⊢
          obtain ⟨f0, f1⟩ := hF
          obtain ⟨e0, e1⟩ := HE.out
          replace e0 := cell_on hS e0
          replace e1 := cell_on hS e1
          by_cases hxy : PartyM.acc R = PartyM.acc P
          · have hxy' : (R.acc.toList == P.acc.toList) = true := by rw [hxy]; exact beq_self_eq_true _
            go_region_held3 (fun w' => w'.cell? ⟨gq, 0, none⟩ = some (.string R.acc) ∧ w'.cell? ⟨gq, 1, none⟩ = some (.slice kb R.keys.length kd) ∧ w'.cell? ⟨gp, 0, none⟩ = some (.string P.acc) ∧ w'.cell? ⟨gp, 1, none⟩ = some (.slice ka P.keys.length kc)) (first | (exact ⟨f0, f1, e0, e1⟩) | (go_keep; done)) (first | (go_at_call 76; (with_reducible refine (HM.out _ _ _ _ _).mono ?_); rintro e w9 ⟨rfl, hb9⟩; (first | (replace hBS := below_then hBS hb9) | (replace hBS := below_then hBS.drew hb9)); replace f0 := cell_on hb9 f0; replace f1 := cell_on hb9 f1; replace e0 := cell_on hb9 e0; replace e1 := cell_on hb9 e1))
            all_goals
              go_wp2
              go_ret
              exact ⟨ret_bool (by rw [← HR.out, told_no (fun h => h i hlt j hjt (by show PartyM.acc (l.getD j noParty) = PartyM.acc (l.getD i noParty); rw [HX.out, HY.out, hxy]))]), hBS⟩
          · have hxy' : (R.acc.toList == P.acc.toList) = false := by rw [same_list, beq_eq_false_iff_ne]; exact fun e => hxy (ByteArray.ext (Array.toList_inj.1 e))
            go_region_held3 (fun w' => w'.cell? ⟨gq, 0, none⟩ = some (.string R.acc) ∧ w'.cell? ⟨gq, 1, none⟩ = some (.slice kb R.keys.length kd) ∧ w'.cell? ⟨gp, 0, none⟩ = some (.string P.acc) ∧ w'.cell? ⟨gp, 1, none⟩ = some (.slice ka P.keys.length kc)) (first | (exact ⟨f0, f1, e0, e1⟩) | (go_keep; done)) (first | (go_at_call 76; (with_reducible refine (HM.out _ _ _ _ _).mono ?_); rintro e w9 ⟨rfl, hb9⟩; (first | (replace hS := below_then hS hb9) | (replace hS := below_then hS.drew hb9)); replace f0 := cell_on hb9 f0; replace f1 := cell_on hb9 f1; replace e0 := cell_on hb9 e0; replace e1 := cell_on hb9 e1))
            all_goals
              go_wp2
              go_roundw
              case rel =>
                refine ⟨j + 1, by omega, by go_num, fun m hm => ?_, hS⟩
                by_cases hm' : m < j
                · exact HJ.out m hm'
                · have : m = j := by omega
                  subst this; rw [HY.out]; exact hxy
              case measure => simp [intOf]; omega
        · have j1 : ¬ (j : Int) < (i : Int) := by omega
          have he : j = i := by omega
          go_wp2
          go_roundw
          case rel =>
            refine ⟨i + 1, by omega, by go_num, fun m hm k hk => ?_, hBS⟩
            by_cases hm' : m < i
            · exact HO.out m hm' k hk
            · have : m = i := by omega
              subst this; rw [HX.out]; exact HJ.out k (by omega)
          case measure => simp [intOf]; omega
    · have i1 : ¬ (i : Int) < (l.length : Int) := by omega
      go_wp2
      go_ret
      exact ⟨ret_bool (by rw [← HR.out, told_yes (p := unlikeOk l.length (fun i => PartyM.acc (l.getD i noParty))) (fun m hm k hk => HO.out m (by omega) k hk)]), hB⟩

end Go.Proofs.Ytpngohaheobkgaa

/-
  The document's Same of chapter 4: two swaps are one.
-/
namespace Go.Proofs.Ytpngohaheobkgaa
open Go.RowKit

theorem party_eq {p q : PartyM} (h1 : p.acc = q.acc) (h2 : p.keys = q.keys) : p = q := by cases p; cases q; simp_all
theorem arc_eq {p q : ArcM} (h1 : p.src = q.src) (h2 : p.dst = q.dst) (h3 : p.ledger = q.ledger) (h4 : p.asset = q.asset) (h5 : p.amount = q.amount) : p = q := by cases p; cases q; simp_all
theorem spec_eq {s t : SpecM} (h1 : s.id = t.id) (h2 : s.parties = t.parties) (h3 : s.arcs = t.arcs) (h4 : s.leaders = t.leaders) (h5 : s.locks = t.locks) (h6 : s.start = t.start) (h7 : s.delta = t.delta) : s = t := by cases s; cases t; simp_all

theorem arc_new (w : World) (A : ArcM) (h : In64 A.src ∧ In64 A.dst ∧ In64 A.ledger ∧ In64 A.amount ∧ A.asset.size ≤ maxLen) :
    ArcAt (w.alloc (Obj.cells #[Value.int IntKind.i64 A.src, Value.int IntKind.i64 A.dst, Value.int IntKind.i64 A.ledger, Value.string A.asset, Value.int IntKind.i64 A.amount] 42)) w.heap.size 0 A :=
  ⟨h.1, h.2.1, h.2.2.1, h.2.2.2.1, h.2.2.2.2, by rw [World.cell?_alloc_new]; rfl, by rw [World.cell?_alloc_new]; rfl, by rw [World.cell?_alloc_new]; rfl, by rw [World.cell?_alloc_new]; rfl, by rw [World.cell?_alloc_new]; rfl⟩
theorem two_arcs (w : World) (P Q : ArcM) (h : In64 P.src ∧ In64 P.dst ∧ In64 P.ledger ∧ In64 P.amount ∧ P.asset.size ≤ maxLen) (k : In64 Q.src ∧ In64 Q.dst ∧ In64 Q.ledger ∧ In64 Q.amount ∧ Q.asset.size ≤ maxLen) :
    ArcAt ((w.alloc (Obj.cells #[Value.int IntKind.i64 P.src, Value.int IntKind.i64 P.dst, Value.int IntKind.i64 P.ledger, Value.string P.asset, Value.int IntKind.i64 P.amount] 42)).alloc (Obj.cells #[Value.int IntKind.i64 Q.src, Value.int IntKind.i64 Q.dst, Value.int IntKind.i64 Q.ledger, Value.string Q.asset, Value.int IntKind.i64 Q.amount] 42)).drew w.heap.size 0 P
    ∧ ArcAt ((w.alloc (Obj.cells #[Value.int IntKind.i64 P.src, Value.int IntKind.i64 P.dst, Value.int IntKind.i64 P.ledger, Value.string P.asset, Value.int IntKind.i64 P.amount] 42)).alloc (Obj.cells #[Value.int IntKind.i64 Q.src, Value.int IntKind.i64 Q.dst, Value.int IntKind.i64 Q.ledger, Value.string Q.asset, Value.int IntKind.i64 Q.amount] 42)).drew (w.heap.size + 1) 0 Q := by
  have e : w.heap.size + 1 = (w.alloc (Obj.cells #[Value.int IntKind.i64 P.src, Value.int IntKind.i64 P.dst, Value.int IntKind.i64 P.ledger, Value.string P.asset, Value.int IntKind.i64 P.amount] 42)).heap.size := by simp
  refine ⟨((arc_new w P h).below ((Below.refl _ _).alloc (Nat.le_refl _) _)).below (Still.refl _).drew.on, ?_⟩
  rw [e]
  exact (arc_new _ Q k).below (Still.refl _).drew.on

set_option maxRecDepth 10000 in
set_option maxHeartbeats 8000000 in
theorem refsame_any {w : World} {v u : Value} {s t : SpecM} (hv : SpecV w v s) (hu : SpecV w u t) : Calls Try.prog 26 #[v, u] w fun e w' => e = .returned (.bool (told (s = t))) ∧ Below w.heap.size w w' := by
  obtain ⟨a1, a2, a3, a4, c1, c2, c3, c4, rfl, L⟩ := hv
  obtain ⟨b1, b2, b3, b4, k1, k2, k3, k4, rfl, M⟩ := hu
  obtain ⟨r, hr⟩ : ∃ r, told (s = t) = r := ⟨_, rfl⟩
  have HR : Hid (told (s = t) = r) := hr
  rw [hr]
  clear hr
  generalize hg : w.heap.size = g
  have hp1 := L.parties.1
  have hp2 := M.parties.1
  have ha1 := L.arcs.1
  have ha2 := M.arcs.1
  have i5 := L.start
  have i6 := L.delta
  have j5 := M.start
  have j6 := M.delta
  unfold In64 at i5 i6 j5 j6
  unfold maxLen at hp1 hp2 ha1 ha2
  go_enter Try.func26, Try.ntmps26
  go_wp2_with (first
    | ((with_reducible refine wpList_at ?_); refine wpList_boxv (by rfl) 27 (.tmp 0) (by rfl) _ (by rfl) ?_; rw [hg]; intro w1 hg1 hz1 hb1)
    | ((with_reducible refine wpList_at ?_); refine wpList_boxv (by rfl) 27 (.tmp 1) (by rfl) _ (by rfl) ?_; rw [hz1]; intro w2 hg2 hz2 hb2; refine Hid.out ?_))
  unfold Hid
  have hb1' : Below w.heap.size w w1 := by rw [hg]; exact hb1
  have hb2' : Below w1.heap.size w1 w2 := by rw [hz1]; exact hb2
  obtain ⟨q0, q1, q2, q3, q4, q5, q6⟩ := cells7_at hg1
  replace q0 := cell_on hb2' q0
  replace q1 := cell_on hb2' q1
  replace q2 := cell_on hb2' q2
  replace q3 := cell_on hb2' q3
  replace q4 := cell_on hb2' q4
  replace q5 := cell_on hb2' q5
  replace q6 := cell_on hb2' q6
  obtain ⟨p0, p1, p2, p3, p4, p5, p6⟩ := cells7_at hg2
  have HL : Hid (Lies w2 a1 a2 a3 a4 s) := (L.below hb1').below hb2'
  have HM : Hid (Lies w2 b1 b2 b3 b4 t) := (M.below hb1').below hb2'
  have hB2 : Below g w w2 := hb1.trans (hb2.mono (by omega))
  have hgs : g ≤ w2.heap.size := by omega
  generalize hh : g + 1 = h at p0 p1 p2 p3 p4 p5 p6 ⊢
  clear L M hg1 hg2 hz1 hz2 hb1 hb2 hb1' hb2' hh w1
  by_cases e0 : ¬ s.id = t.id
  · have e0t := text_other e0
    go_wp2
    go_ret
    exact ⟨ret_bool (by rw [← HR.out, told_no (fun h => e0 (by rw [h]))]), hB2⟩
  replace e0 := Classical.not_not.1 e0
  have He0 : Hid (s.id = t.id) := e0
  have e0t := text_same e0
  clear e0
  by_cases e1 : ¬ s.parties.length = t.parties.length
  · have e1t := nat_ne e1
    go_wp2
    go_ret
    exact ⟨ret_bool (by rw [← HR.out, told_no (fun h => e1 (by rw [h]))]), hB2⟩
  replace e1 := Classical.not_not.1 e1
  have He1 : Hid (s.parties.length = t.parties.length) := e1
  have e1t := nat_same e1
  clear e1
  by_cases e2 : ¬ s.arcs.length = t.arcs.length
  · have e2t := nat_ne e2
    go_wp2
    go_ret
    exact ⟨ret_bool (by rw [← HR.out, told_no (fun h => e2 (by rw [h]))]), hB2⟩
  replace e2 := Classical.not_not.1 e2
  have He2 : Hid (s.arcs.length = t.arcs.length) := e2
  have e2t := nat_same e2
  clear e2
  have HX := refints_any (c := c3) (d := k3) HL.out.leaders HM.out.leaders
  by_cases e3 : ¬ s.leaders = t.leaders
  · rw [told_no e3] at HX
    go_wp2_with fail
    refine HX.mono ?_
    rintro e w9 ⟨rfl, hd9⟩
    go_wp2
    go_ret
    exact ⟨ret_bool (by rw [← HR.out, told_no (fun h => e3 (by rw [h]))]), hd9.below hB2⟩
  replace e3 := Classical.not_not.1 e3
  have He3 : Hid (s.leaders = t.leaders) := e3
  rw [told_yes e3] at HX
  clear e3
  go_wp2_with fail
  refine HX.mono ?_
  rintro e w3 ⟨rfl, hd9⟩
  replace q0 := hd9.cell q0
  replace q1 := hd9.cell q1
  replace q2 := hd9.cell q2
  replace q3 := hd9.cell q3
  replace q4 := hd9.cell q4
  replace q5 := hd9.cell q5
  replace q6 := hd9.cell q6
  replace p0 := hd9.cell p0
  replace p1 := hd9.cell p1
  replace p2 := hd9.cell p2
  replace p3 := hd9.cell p3
  replace p4 := hd9.cell p4
  replace p5 := hd9.cell p5
  replace p6 := hd9.cell p6
  have hB3 := hd9.on
  clear HX hd9
  go_wp2_with fail
  have HX := reftexts_any (c := c4) (d := k4) (HL.out.locks.below hB3) (HM.out.locks.below hB3)
  by_cases e4 : ¬ s.locks = t.locks
  · rw [told_no e4] at HX
    refine HX.mono ?_
    rintro e w9 ⟨rfl, hd9⟩
    go_wp2
    go_ret
    exact ⟨ret_bool (by rw [← HR.out, told_no (fun h => e4 (by rw [h]))]), hd9.below (hB2.trans (hB3.mono hgs))⟩
  replace e4 := Classical.not_not.1 e4
  have He4 : Hid (s.locks = t.locks) := e4
  rw [told_yes e4] at HX
  clear e4
  refine HX.mono ?_
  rintro e w4 ⟨rfl, hd9⟩
  replace q0 := hd9.cell q0
  replace q1 := hd9.cell q1
  replace q2 := hd9.cell q2
  replace q3 := hd9.cell q3
  replace q4 := hd9.cell q4
  replace q5 := hd9.cell q5
  replace q6 := hd9.cell q6
  replace p0 := hd9.cell p0
  replace p1 := hd9.cell p1
  replace p2 := hd9.cell p2
  replace p3 := hd9.cell p3
  replace p4 := hd9.cell p4
  replace p5 := hd9.cell p5
  replace p6 := hd9.cell p6
  replace hB3 := below_then hB3 hd9.on
  clear HX hd9
  by_cases e5 : ¬ s.start = t.start
  · have e5t := (by rw [bne_iff_ne]; exact e5 : (s.start != t.start) = true)
    go_wp2
    go_ret
    exact ⟨ret_bool (by rw [← HR.out, told_no (fun h => e5 (by rw [h]))]), hB2.trans (hB3.mono hgs)⟩
  replace e5 := Classical.not_not.1 e5
  have He5 : Hid (s.start = t.start) := e5
  have e5t := (by rw [bne_eq_false_iff_eq]; exact e5 : (s.start != t.start) = false)
  clear e5
  by_cases e6 : ¬ s.delta = t.delta
  · have e6t := (by rw [bne_iff_ne]; exact e6 : (s.delta != t.delta) = true)
    go_wp2
    go_ret
    exact ⟨ret_bool (by rw [← HR.out, told_no (fun h => e6 (by rw [h]))]), hB2.trans (hB3.mono hgs)⟩
  replace e6 := Classical.not_not.1 e6
  have He6 : Hid (s.delta = t.delta) := e6
  have e6t := (by rw [bne_eq_false_iff_eq]; exact e6 : (s.delta != t.delta) = false)
  clear e6
  have Q1 : Hid (w4.cell? ⟨g, 1, none⟩ = some (.slice a1 s.parties.length c1)) := q1
  have Q2 : Hid (w4.cell? ⟨g, 2, none⟩ = some (.slice a2 s.arcs.length c2)) := q2
  have P1 : Hid (w4.cell? ⟨h, 1, none⟩ = some (.slice b1 t.parties.length k1)) := p1
  have P2 : Hid (w4.cell? ⟨h, 2, none⟩ = some (.slice b2 t.arcs.length k2)) := p2
  have HL4 : Hid (Lies w4 a1 a2 a3 a4 s) := HL.out.below hB3
  have HM4 : Hid (Lies w4 b1 b2 b3 b4 t) := HM.out.below hB3
  have hB4 : Below g w w4 := hB2.trans (hB3.mono hgs)
  have hg4 : g ≤ w4.heap.size := Nat.le_trans hgs hB3.size
  go_wp2
  clear q0 q1 q2 q3 q4 q5 q6 p0 p1 p2 p3 p4 p5 p6 e0t e1t e2t e5t e6t i5 i6 j5 j6 HL HM hB2 hB3 hgs
  go_loopw [5] (fun i wr => ∃ j : Nat, j ≤ s.parties.length ∧ i = .int .i64 j ∧ Hid (∀ i, i < j → s.parties.getD i noParty = t.parties.getD i noParty) ∧ Drew w4 wr) (fun i _ => s.parties.length - (intOf i).toNat)
  case atStart => exact ⟨0, by omega, rfl, fun j hj => absurd hj (by omega), Drew.refl _⟩
  case round =>
    obtain ⟨j, hj, rfl, HO, hst⟩ := hrel
    have q1 := hst.cell Q1.out
    have p1 := hst.cell P1.out
    by_cases hlt : j < s.parties.length
    · have j1 : (j : Int) < (s.parties.length : Int) := by omega
      have hlt2 : j < t.parties.length := by have := He1.out; omega
      have j2 : (j : Int) < (t.parties.length : Int) := by omega
      obtain ⟨x1, y1, rfl, _, d0, ka, kc, d1, hks⟩ := HL4.out.parties.2 j hlt
      obtain ⟨x2, y2, rfl, _, f0, la, lc, f1, hls⟩ := HM4.out.parties.2 j hlt2
      obtain ⟨P, hP⟩ : ∃ P, s.parties.getD j noParty = P := ⟨_, rfl⟩
      obtain ⟨Q, hQ⟩ : ∃ Q, t.parties.getD j noParty = Q := ⟨_, rfl⟩
      rw [hP] at d0 d1 hks
      rw [hQ] at f0 f1 hls
      have HP : Hid (s.parties.getD j noParty = P) := hP
      have HQ : Hid (t.parties.getD j noParty = Q) := hQ
      clear hP hQ
      replace d0 := hst.cell d0
      replace d1 := hst.cell d1
      replace f0 := hst.cell f0
      replace f1 := hst.cell f1
      have HXK : ∀ n, _ := fun n => reftexts_any (c := kc) (d := lc) (hks.below (hst.drewN n).on) (hls.below (hst.drewN n).on)
      unfold Drew at HXK
      clear hks hls
      by_cases hac : P.acc = Q.acc
      · have t1 := text_same hac
        have HAC : Hid (P.acc = Q.acc) := hac
        clear hac
        by_cases hkk : P.keys = Q.keys
        · rw [told_yes hkk] at HXK
          have HKK : Hid (P.keys = Q.keys) := hkk
          clear hkk
          go_wp2_with fail
          go_quiet ((go_at_call 49; exact Calls.quiet_of (HXK _)))
          replace hst := hst.drewN nq
          clear HXK
          generalize wr.drewN nq = w5 at hst ⊢
          go_wp2
          go_roundw
          case rel =>
            refine ⟨j + 1, by omega, by go_num, ?_, hst⟩
            intro i hi
            by_cases hij : i = j
            · subst hij; rw [HP.out, HQ.out]; exact party_eq HAC.out HKK.out
            · exact HO.out i (by omega)
          case measure => simp [intOf]; omega
        · rw [told_no hkk] at HXK
          go_wp2_with fail
          go_quiet ((go_at_call 49; exact Calls.quiet_of (HXK _)))
          go_wp2
          go_ret
          exact ⟨ret_bool (by rw [← HR.out, told_no (fun h => hkk (by rw [← HP.out, ← HQ.out, h]))]), (hst.drewN _).below hB4⟩
      · have t1 := text_other hac
        clear HXK
        go_wp2_with fail
        go_quiet (fail)
        go_wp2
        go_ret
        exact ⟨ret_bool (by rw [← HR.out, told_no (fun h => hac (by rw [← HP.out, ← HQ.out, h]))]), (hst.drewN _).below hB4⟩
    · have j1 : ¬ (j : Int) < (s.parties.length : Int) := by omega
      have HPP : Hid (s.parties = t.parties) := all_getD noParty He1.out (fun i hi => HO.out i (by omega))
      clear HO
      go_wp2
      clear q1 p1
      have hst2 : Below w4.heap.size w4 wr := hst.on
      clear hst
      go_loopw [6] (fun i wr => ∃ j : Nat, j ≤ s.arcs.length ∧ i = .int .i64 j ∧ Hid (∀ i, i < j → s.arcs.getD i noArc = t.arcs.getD i noArc) ∧ Below w4.heap.size w4 wr) (fun i _ => s.arcs.length - (intOf i).toNat)
      case atStart => exact ⟨0, by omega, rfl, fun j hj => absurd hj (by omega), hst2⟩
      case round =>
        clear hst2 hlt hj j1
        obtain ⟨j6, hj, rfl, HO, hst⟩ := hrel
        have q2 := cell_on hst Q2.out
        have p2 := cell_on hst P2.out
        by_cases hlt : j6 < s.arcs.length
        · have j1 : (j6 : Int) < (s.arcs.length : Int) := by omega
          have hlt2 : j6 < t.arcs.length := by have := He2.out; omega
          have j2 : (j6 : Int) < (t.arcs.length : Int) := by omega
          obtain ⟨x1, y1, rfl, hA⟩ := HL4.out.arcs.2 j6 hlt
          obtain ⟨x2, y2, rfl, hB⟩ := HM4.out.arcs.2 j6 hlt2
          obtain ⟨P, hP⟩ : ∃ P, s.arcs.getD j6 noArc = P := ⟨_, rfl⟩
          obtain ⟨Q, hQ⟩ : ∃ Q, t.arcs.getD j6 noArc = Q := ⟨_, rfl⟩
          rw [hP] at hA
          rw [hQ] at hB
          have HP : Hid (s.arcs.getD j6 noArc = P) := hP
          have HQ : Hid (t.arcs.getD j6 noArc = Q) := hQ
          clear hP hQ
          obtain ⟨u1, u2, u3, u4, u5, d0, d1, d2, d3, d4⟩ := hA.below hst
          obtain ⟨v1, v2, v3, v4, v5, f0, f1, f2, f3, f4⟩ := hB.below hst
          have HU : Hid (In64 P.src ∧ In64 P.dst ∧ In64 P.ledger ∧ In64 P.amount ∧ P.asset.size ≤ maxLen) := ⟨u1, u2, u3, u4, u5⟩
          have HV : Hid (In64 Q.src ∧ In64 Q.dst ∧ In64 Q.ledger ∧ In64 Q.amount ∧ Q.asset.size ≤ maxLen) := ⟨v1, v2, v3, v4, v5⟩
          clear u1 u2 u3 u4 u5 v1 v2 v3 v4 v5 hA hB
          go_wp2_with fail
          go_cut [7, 8] from 98 to 147 (fun x y wx => ∃ g7 g8, x = .pointer (some ⟨g7, 0, none⟩) ∧ y = .pointer (some ⟨g8, 0, none⟩) ∧ ArcAt wx g7 0 P ∧ ArcAt wx g8 0 Q ∧ Below w4.heap.size w4 wx)
          case first =>
            go_region_held3 (fun w' => w'.cell? ⟨g, 2, none⟩ = some (.slice (some ⟨x1, y1, none⟩) s.arcs.length c2) ∧ w'.cell? ⟨h, 2, none⟩ = some (.slice (some ⟨x2, y2, none⟩) t.arcs.length k2)
              ∧ w'.cell? ⟨x1, y1 + j6 * 5, none⟩ = some (.int .i64 P.src) ∧ w'.cell? ⟨x1, y1 + j6 * 5 + 1, none⟩ = some (.int .i64 P.dst) ∧ w'.cell? ⟨x1, y1 + j6 * 5 + 2, none⟩ = some (.int .i64 P.ledger) ∧ w'.cell? ⟨x1, y1 + j6 * 5 + 3, none⟩ = some (.string P.asset) ∧ w'.cell? ⟨x1, y1 + j6 * 5 + 4, none⟩ = some (.int .i64 P.amount)
              ∧ w'.cell? ⟨x2, y2 + j6 * 5, none⟩ = some (.int .i64 Q.src) ∧ w'.cell? ⟨x2, y2 + j6 * 5 + 1, none⟩ = some (.int .i64 Q.dst) ∧ w'.cell? ⟨x2, y2 + j6 * 5 + 2, none⟩ = some (.int .i64 Q.ledger) ∧ w'.cell? ⟨x2, y2 + j6 * 5 + 3, none⟩ = some (.string Q.asset) ∧ w'.cell? ⟨x2, y2 + j6 * 5 + 4, none⟩ = some (.int .i64 Q.amount)) (go_keep) (fail)
            all_goals
              go_wp2_with fail
              go_meet
              case rel =>
                first
                  | exact ⟨_, _, rfl, rfl, (two_arcs wr P Q HU.out HV.out).1, (two_arcs wr P Q HU.out HV.out).2, ((hst.alloc hst.size _).alloc (by simp; have := hst.size; omega) _).drew⟩
                  | exact ⟨_, _, rfl, rfl, (two_arcs wr Q P HV.out HU.out).2, (two_arcs wr Q P HV.out HU.out).1, ((hst.alloc hst.size _).alloc (by simp; have := hst.size; omega) _).drew⟩
          case rest =>
            clear q2 p2 d0 d1 d2 d3 d4 f0 f1 f2 f3 f4 hst HU HV
            obtain ⟨g7, g8, rfl, rfl, ⟨_, _, _, _, _, d0, d1, d2, d3, d4⟩, ⟨_, _, _, _, _, f0, f1, f2, f3, f4⟩, hst⟩ := hcut
            simp only [Nat.zero_add] at d0 d1 d2 d3 d4 f0 f1 f2 f3 f4
            by_cases r0 : ¬ P.src = Q.src
            · have r0t := (by rw [bne_iff_ne]; exact r0 : (P.src != Q.src) = true)
              go_wp2
              go_ret
              exact ⟨ret_bool (by rw [← HR.out, told_no (fun h => r0 (by rw [← HP.out, ← HQ.out, h]))]), hB4.trans (hst.mono hg4)⟩
            replace r0 := Classical.not_not.1 r0
            have Hr0 : Hid (P.src = Q.src) := r0
            have r0t := (by rw [bne_eq_false_iff_eq]; exact r0 : (P.src != Q.src) = false)
            clear r0
            by_cases r1 : ¬ P.dst = Q.dst
            · have r1t := (by rw [bne_iff_ne]; exact r1 : (P.dst != Q.dst) = true)
              go_wp2
              go_ret
              exact ⟨ret_bool (by rw [← HR.out, told_no (fun h => r1 (by rw [← HP.out, ← HQ.out, h]))]), hB4.trans (hst.mono hg4)⟩
            replace r1 := Classical.not_not.1 r1
            have Hr1 : Hid (P.dst = Q.dst) := r1
            have r1t := (by rw [bne_eq_false_iff_eq]; exact r1 : (P.dst != Q.dst) = false)
            clear r1
            by_cases r2 : ¬ P.ledger = Q.ledger
            · have r2t := (by rw [bne_iff_ne]; exact r2 : (P.ledger != Q.ledger) = true)
              go_wp2
              go_ret
              exact ⟨ret_bool (by rw [← HR.out, told_no (fun h => r2 (by rw [← HP.out, ← HQ.out, h]))]), hB4.trans (hst.mono hg4)⟩
            replace r2 := Classical.not_not.1 r2
            have Hr2 : Hid (P.ledger = Q.ledger) := r2
            have r2t := (by rw [bne_eq_false_iff_eq]; exact r2 : (P.ledger != Q.ledger) = false)
            clear r2
            by_cases r3 : ¬ P.asset = Q.asset
            · have r3t := text_other r3
              go_wp2
              go_ret
              exact ⟨ret_bool (by rw [← HR.out, told_no (fun h => r3 (by rw [← HP.out, ← HQ.out, h]))]), hB4.trans (hst.mono hg4)⟩
            replace r3 := Classical.not_not.1 r3
            have Hr3 : Hid (P.asset = Q.asset) := r3
            have r3t := text_same r3
            clear r3
            by_cases r4 : ¬ P.amount = Q.amount
            · have r4t := (by rw [bne_iff_ne]; exact r4 : (P.amount != Q.amount) = true)
              go_wp2
              go_ret
              exact ⟨ret_bool (by rw [← HR.out, told_no (fun h => r4 (by rw [← HP.out, ← HQ.out, h]))]), hB4.trans (hst.mono hg4)⟩
            replace r4 := Classical.not_not.1 r4
            have Hr4 : Hid (P.amount = Q.amount) := r4
            have r4t := (by rw [bne_eq_false_iff_eq]; exact r4 : (P.amount != Q.amount) = false)
            clear r4
            go_wp2
            go_roundw
            case rel =>
              refine ⟨j6 + 1, by omega, by go_num, ?_, hst⟩
              intro i hi
              by_cases hij : i = j6
              · subst hij; rw [HP.out, HQ.out]; exact arc_eq Hr0.out Hr1.out Hr2.out Hr3.out Hr4.out
              · exact HO.out i (by omega)
            case measure => simp [intOf]; omega
        · have j1 : ¬ (j6 : Int) < (s.arcs.length : Int) := by omega
          go_wp2
          go_ret
          exact ⟨ret_bool (by rw [← HR.out, told_yes (spec_eq He0.out HPP.out (all_getD noArc He2.out (fun i hi => HO.out i (by omega))) He3.out He4.out He5.out He6.out)]), hB4.trans (hst.mono hg4)⟩

end Go.Proofs.Ytpngohaheobkgaa

/-
  The document's Read of chapter 4.
-/
namespace Go.Proofs.Ytpngohaheobkgaa
open Go.RowKit
attribute [local go_sem ↓] Go.wp_at_zero Go.wp_at_succ

theorem own_keep {w w' : World} {B g : Nat} {v : Value} {n : Nat} {xs : List Value} {r : List UInt8 × Bool} (h : w.ownsRow B 40 2 v n xs) (hat : At 67 w g r) (hb : But g w w') : w'.ownsRow B 40 2 v n xs := by
  obtain ⟨s, _, hr⟩ := hat
  exact World.ownsRow.kept h hb.grown (row_apart h hr (by decide))
theorem PRow.keep {w w' : World} {B g : Nat} {v : Value} {l : List PartyM} {r : List UInt8 × Bool} (h : PRow w B v l) (hat : At 67 w g r) (hb : But g w w') : PRow w' B v l := by
  obtain ⟨s, _, hr⟩ := hat
  exact h.but hb hr (by decide) (by decide)

theorem keys_keep {w w' : World} {B g : Nat} {l : List PartyM} {ks : List Value} {r : List UInt8 × Bool} (h : ∀ j, j < l.length → OwnS w B (ks.getD j undef) (l.getD j noParty).keys) (hat : At 67 w g r) (hb : But g w w') : ∀ j, j < l.length → OwnS w' B (ks.getD j undef) (l.getD j noParty).keys := by
  obtain ⟨s, _, hr⟩ := hat
  exact fun j hj => (h j hj).but hb hr (by decide)

theorem OwnA.keep {w w' : World} {B g : Nat} {v : Value} {l : List ArcM} {r : List UInt8 × Bool} (h : OwnA w B v l) (hat : At 67 w g r) (hb : But g w w') : OwnA w' B v l := by
  obtain ⟨s, _, hr⟩ := hat
  exact World.ownsRow.kept h hb.grown (row_apart h hr (by decide))
/-- An arc in a block of its own. -/
def AAt (w : World) (g : Nat) (a : ArcM) : Prop := w.heap[g]? = some (.cells (acells a).toArray 42 (0, 0))
theorem AAt.but {w w' : World} {g k : Nat} {a : ArcM} (h : AAt w g a) (hb : But k w w') (hg : g ≠ k) : AAt w' g a := by
  unfold AAt at *
  rw [hb.block g (Array.getElem?_eq_some_iff.1 h).1 hg]; exact h
theorem AAt.cells {w : World} {g : Nat} {a : ArcM} (h : AAt w g a) : w.cell? ⟨g, 0, none⟩ = some (.int .i64 a.src) ∧ w.cell? ⟨g, 1, none⟩ = some (.int .i64 a.dst) ∧ w.cell? ⟨g, 2, none⟩ = some (.int .i64 a.ledger) ∧ w.cell? ⟨g, 3, none⟩ = some (.string a.asset) ∧ w.cell? ⟨g, 4, none⟩ = some (.int .i64 a.amount) := by
  refine ⟨?_, ?_, ?_, ?_, ?_⟩ <;> (rw [cell_of_row w g _ _ _ (0, 0) h]; rfl)
theorem AAt.asset {w : World} {g : Nat} {a : ArcM} (h : AAt w g a) (x : ByteArray) : AAt (w.setCell ⟨g, 3, none⟩ (.string x)) g { a with asset := x } := by
  unfold AAt at *
  rw [setCell_eq_setRow w g 3 _ _ (0, 0) _ h, setRow_heap w g _ _ _ (0, 0) h]; rfl
theorem AAt.amount {w : World} {g : Nat} {a : ArcM} (h : AAt w g a) (x : Int) : AAt (w.setCell ⟨g, 4, none⟩ (.int .i64 x)) g { a with amount := x } := by
  unfold AAt at *
  rw [setCell_eq_setRow w g 4 _ _ (0, 0) _ h, setRow_heap w g _ _ _ (0, 0) h]; rfl
theorem AAt.new (w : World) (a : ArcM) : AAt (w.alloc (.cells (acells a).toArray 42)) w.heap.size a := heap_alloc_new _ _

theorem OwnI.keep {w w' : World} {B g : Nat} {v : Value} {l : List Int} {r : List UInt8 × Bool} (h : OwnI w B v l) (hat : At 67 w g r) (hb : But g w w') : OwnI w' B v l := by
  obtain ⟨s, _, hr⟩ := hat
  exact World.ownsRow.kept h hb.grown (row_apart h hr (by decide))
end Go.Proofs.Ytpngohaheobkgaa
