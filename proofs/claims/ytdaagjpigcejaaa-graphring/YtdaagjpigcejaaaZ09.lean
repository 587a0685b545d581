/-
  The program's unlike at parties and arcs.
-/
import Derived.Test.YtdaagjpigcejaaaSpOwnU
import Derived.Test.YtdaagjpigcejaaaZ00
import Derived.Deep.RegionHeld3
namespace Go.Proofs.Ytdaagjpigcejaaa
open Go.RowKit

theorem two_new (w : World) (x y : Value) (t : TypeId) : (w.alloc (.cells #[x, y] t)).cell? ⟨w.heap.size, 0, none⟩ = some x ∧ (w.alloc (.cells #[x, y] t)).cell? ⟨w.heap.size, 1, none⟩ = some y := by
  constructor <;> (rw [World.cell?_alloc_new]; rfl)

set_option maxRecDepth 10000 in
set_option maxHeartbeats 2000000 in
theorem unlike_party {w : World} {a : Option Addr} {c : Nat} {l : List PartyM} (h : Parties w a l) (hc : l.length ≤ c) (hcm : c ≤ maxLen) :
    Calls Try.prog 64 #[.slice a l.length c, .func (.func 65) #[] #[]] w fun e w' => e = .returned (.bool (told (unlikeOk l.length (fun i => PartyM.acc (l.getD i noParty))))) ∧ Below w.heap.size w w' := by
  obtain ⟨r, hr⟩ : ∃ r, told (unlikeOk l.length (fun i => PartyM.acc (l.getD i noParty))) = r := ⟨_, rfl⟩
  have HR : Hid (told (unlikeOk l.length (fun i => PartyM.acc (l.getD i noParty))) = r) := hr
  rw [hr]
  clear hr
  have HL : Hid (Parties w a l) := h
  unfold maxLen at hcm
  have HM := mark_party
  replace HM := hide HM
  clear h
  go_enter Try.func64, Try.ntmps64
  go_wp2
  go_loopw [11] (fun i wr => ∃ k : Nat, k ≤ l.length ∧ i = .int .i64 k ∧ Hid (∀ i, i < k → ∀ j, j < i → PartyM.acc (l.getD j noParty) ≠ PartyM.acc (l.getD i noParty)) ∧ Below w.heap.size w wr) (fun i _ => l.length - (intOf i).toNat)
  case atStart => exact ⟨0, by omega, rfl, fun j hj => absurd hj (by omega), Below.refl _ _⟩
  case round =>
    obtain ⟨i, hi, rfl, HO, hB⟩ := hrel
    by_cases hlt : i < l.length
    · have i1 : (i : Int) < (l.length : Int) := by omega
      obtain ⟨b, o, rfl, hd⟩ := HL.out.2 i hlt
      obtain ⟨P, hP⟩ : ∃ P, l.getD i noParty = P := ⟨_, rfl⟩
      rw [hP] at hd
      have HX : Hid (l.getD i noParty = P) := hP
      clear hP
      have ic : ¬ ((c : Int) < (i : Int)) := by omega
      obtain ⟨hsz, d0, ka, kc, d1, hks⟩ := hd.below hB
      clear hd hsz hks
      go_upto_region 4 with fail
      have hE := two_new wr (.string P.acc) (.slice ka P.keys.length kc) 37
      replace hB := hB.alloc hB.size (Obj.cells #[Value.string P.acc, Value.slice ka P.keys.length kc] 37)
      clear d0 d1
      generalize wr.alloc (Obj.cells #[Value.string P.acc, Value.slice ka P.keys.length kc] 37) = w3 at hE hB ⊢
      generalize wr.heap.size = gp at hE ⊢
      obtain ⟨e0, e1⟩ := hE
      have HE : Hid (w3.cell? ⟨gp, 0, none⟩ = some (.string P.acc) ∧ w3.cell? ⟨gp, 1, none⟩ = some (.slice ka P.keys.length kc)) := ⟨e0, e1⟩
      clear e0 e1
      go_wp2
      go_loopw [20] (fun k ws => ∃ j : Nat, j ≤ i ∧ k = .int .i64 j ∧ Hid (∀ m, m < j → PartyM.acc (l.getD m noParty) ≠ PartyM.acc P) ∧ Below w3.heap.size w3 ws) (fun k _ => i - (intOf k).toNat)
      case atStart => exact ⟨0, by omega, rfl, fun j hj => absurd hj (by omega), Below.refl _ _⟩
      case round =>
        obtain ⟨j, hj, rfl, HJ, hS⟩ := hrel
        have hBS := hB.trans (hS.mono hB.size)
        by_cases hjt : j < i
        · have j1 : (j : Int) < (i : Int) := by omega
          have hd2 := HL.out.get j (by omega)
          obtain ⟨R, hR⟩ : ∃ R, l.getD j noParty = R := ⟨_, rfl⟩
          rw [hR] at hd2
          have HY : Hid (l.getD j noParty = R) := hR
          clear hR
          obtain ⟨hsz, d0, kb, kd, d1, hks⟩ := hd2.below hBS
          clear hd2 hsz hks
          go_upto_region 7 with fail
          have hF := two_new wr (.string R.acc) (.slice kb R.keys.length kd) 37
          replace hS := hS.alloc hS.size (Obj.cells #[Value.string R.acc, Value.slice kb R.keys.length kd] 37)
          replace hBS := hBS.alloc hBS.size (Obj.cells #[Value.string R.acc, Value.slice kb R.keys.length kd] 37)
          clear d0 d1
          generalize wr.alloc (Obj.cells #[Value.string R.acc, Value.slice kb R.keys.length kd] 37) = w4 at hF hS hBS ⊢
          generalize wr.heap.size = gq at hF ⊢
          obtain ⟨f0, f1⟩ := hF
          obtain ⟨e0, e1⟩ := HE.out
          replace e0 := cell_on hS e0
          replace e1 := cell_on hS e1
          by_cases hxy : PartyM.acc R = PartyM.acc P
          · have hxy' : (R.acc.toList == P.acc.toList) = true := by rw [hxy]; exact beq_self_eq_true _
            go_region_held3 (fun w' => w'.cell? ⟨gq, 0, none⟩ = some (.string R.acc) ∧ w'.cell? ⟨gq, 1, none⟩ = some (.slice kb R.keys.length kd) ∧ w'.cell? ⟨gp, 0, none⟩ = some (.string P.acc) ∧ w'.cell? ⟨gp, 1, none⟩ = some (.slice ka P.keys.length kc)) (first | (exact ⟨f0, f1, e0, e1⟩) | (go_keep; done)) (first | (go_at_call 65; (with_reducible refine (HM.out _ _ _ _ _).mono ?_); rintro e w9 ⟨rfl, hb9⟩; (first | (replace hBS := below_then hBS hb9) | (replace hBS := below_then hBS.drew hb9)); replace f0 := cell_on hb9 f0; replace f1 := cell_on hb9 f1; replace e0 := cell_on hb9 e0; replace e1 := cell_on hb9 e1))
            all_goals
              go_wp2
              go_ret
              exact ⟨ret_bool (by rw [← HR.out, told_no (fun h => h i hlt j hjt (by show PartyM.acc (l.getD j noParty) = PartyM.acc (l.getD i noParty); rw [HX.out, HY.out, hxy]))]), hBS⟩
          · have hxy' : (R.acc.toList == P.acc.toList) = false := by rw [same_list, beq_eq_false_iff_ne]; exact fun e => hxy (ByteArray.ext (Array.toList_inj.1 e))
            go_region_held3 (fun w' => w'.cell? ⟨gq, 0, none⟩ = some (.string R.acc) ∧ w'.cell? ⟨gq, 1, none⟩ = some (.slice kb R.keys.length kd) ∧ w'.cell? ⟨gp, 0, none⟩ = some (.string P.acc) ∧ w'.cell? ⟨gp, 1, none⟩ = some (.slice ka P.keys.length kc)) (first | (exact ⟨f0, f1, e0, e1⟩) | (go_keep; done)) (first | (go_at_call 65; (with_reducible refine (HM.out _ _ _ _ _).mono ?_); rintro e w9 ⟨rfl, hb9⟩; (first | (replace hS := below_then hS hb9) | (replace hS := below_then hS.drew hb9)); replace f0 := cell_on hb9 f0; replace f1 := cell_on hb9 f1; replace e0 := cell_on hb9 e0; replace e1 := cell_on hb9 e1))
            all_goals
              go_wp2
              go_roundw
              case rel =>
                refine ⟨j + 1, by omega, by go_num, fun m hm => ?_, hS⟩
                by_cases hm' : m < j
                · exact HJ.out m hm'
                · have : m = j := by omega
                  subst this; rw [HY.out]; exact hxy
              case measure => simp [intOf]; omega
        · have j1 : ¬ (j : Int) < (i : Int) := by omega
          have he : j = i := by omega
          go_wp2
          go_roundw
          case rel =>
            refine ⟨i + 1, by omega, by go_num, fun m hm k hk => ?_, hBS⟩
            by_cases hm' : m < i
            · exact HO.out m hm' k hk
            · have : m = i := by omega
              subst this; rw [HX.out]; exact HJ.out k (by omega)
          case measure => simp [intOf]; omega
    · have i1 : ¬ (i : Int) < (l.length : Int) := by omega
      go_wp2
      go_ret
      exact ⟨ret_bool (by rw [← HR.out, told_yes (p := unlikeOk l.length (fun i => PartyM.acc (l.getD i noParty))) (fun m hm k hk => HO.out m (by omega) k hk)]), hB⟩

end Go.Proofs.Ytdaagjpigcejaaa

/-
  Two calls of a region that draws its order: whichever comes first.
-/
namespace Go.Proofs.Ytdaagjpigcejaaa
open Go.RowKit

/-- An operation that gives v wherever R holds, and R holds behind it. -/
def Gives (P : Program) (ops : Array Oper) (Q : Exit → Act → World → Prop) (R : World → Prop) (o : Oper) (v : Value) (a : Act) : Prop :=
  ∀ W, R W → ∀ K : Act → World → Prop, Shut (∀ W', R W' → K (a.put o.dst v) W') → if Region.wanted o (yielded ops a.tmps) = true then Oper.wp P o a W K Q else K (a.put o.dst undef) W
theorem wpAnyH_pair {P : Program} {md : Region.Mode} {ops : Array Oper} {Q : Exit → Act → World → Prop} {S R : World → Prop} {i j : Nat} {oi oj : Oper} {vi vj : Value} {fuel : Nat} {listed l2 : Array Bool} {a b : Act} {w : World}
    (hr : Region.ready md ops listed = [i, j]) (hri : Region.ready md ops (listed.setIfInBounds i true) = [j]) (hrj : Region.ready md ops (listed.setIfInBounds j true) = [i])
    (hi : ops[i]? = some oi) (hj : ops[j]? = some oj) (hl1 : (listed.setIfInBounds i true).setIfInBounds j true = l2) (hl2 : (listed.setIfInBounds j true).setIfInBounds i true = l2)
    (hb1 : (a.put oi.dst vi).put oj.dst vj = b) (hb2 : (a.put oj.dst vj).put oi.dst vi = b)
    (hR : R w) (hS : ∀ W, R W → S W) (c1 : Gives P ops Q R oi vi a) (c2 : Gives P ops Q R oj vj (a.put oi.dst vi)) (c3 : Gives P ops Q R oj vj a) (c4 : Gives P ops Q R oi vi (a.put oj.dst vj))
    (h : ∀ W, R W → S W → wpAnyH P md ops Q S fuel l2 b W) : wpAnyH P md ops Q S (fuel + 2) listed a w := by
  refine wpAnyH_ready hr (by simp) (AllReadyH.cons hi (fun K hK => c1 w hR K (fun W hW => hK.out _ _ (hS W hW) (fun _ => ?_))) (AllReadyH.cons hj (fun K hK => c3 w hR K (fun W hW => hK.out _ _ (hS W hW) (fun _ => ?_))) AllReadyH.nil))
  · refine wpAnyH_ready hri (by simp) (AllReadyH.cons hj (fun K hK => c2 W hW K (fun W2 hW2 => hK.out _ _ (hS W2 hW2) (fun hs => ?_))) AllReadyH.nil)
    rw [hl1, hb1]; exact h W2 hW2 hs
  · refine wpAnyH_ready hrj (by simp) (AllReadyH.cons hi (fun K hK => c4 W hW K (fun W2 hW2 => hK.out _ _ (hS W2 hW2) (fun hs => ?_))) AllReadyH.nil)
    rw [hl2, hb2]; exact h W2 hW2 hs
theorem wpAnyH_lone {P : Program} {md : Region.Mode} {ops : Array Oper} {Q : Exit → Act → World → Prop} {S R : World → Prop} {i : Nat} {oi : Oper} {vi : Value} {fuel : Nat} {listed : Array Bool} {a : Act} {w : World}
    (hr : Region.ready md ops listed = [i]) (hi : ops[i]? = some oi) (hR : R w) (hS : ∀ W, R W → S W) (c1 : Gives P ops Q R oi vi a)
    (h : ∀ W, R W → S W → wpAnyH P md ops Q S fuel (listed.setIfInBounds i true) (a.put oi.dst vi) W) : wpAnyH P md ops Q S (fuel + 1) listed a w :=
  wpAnyH_ready hr (by simp) (AllReadyH.cons hi (fun K hK => c1 w hR K (fun W hW => hK.out _ _ (hS W hW) (fun hs => h W hW hs))) AllReadyH.nil)

end Go.Proofs.Ytdaagjpigcejaaa
