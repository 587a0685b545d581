/-
  The program's Bytes of a hashkey.
-/
import Derived.Test.YthoimecljfcjmaaZ02
import Derived.Test.YthoimecljfcjmaaZ09
import Derived.Test.YthoimecljfcjmaaZ01
import Derived.BigQuiet
import Derived.Deep.QuietTactic
import Derived.Deep.RegionHeld3
import Derived.Handy
import Derived.Deep.CutBlock
import Derived.Deep.CutRange
namespace Go.Proofs.Ythoimecljfcjmaa
open Go.RowKit


/-- P7.3: a key as bytes. -/
def hkB (K : HkM) : List UInt8 := num8 K.lock ++ text8 K.secret.data.toList ++ num8 (K.path.length : Int) ++ K.path.flatMap num8 ++ K.sigs.flatMap txt8
/-- A variable of type Hashkey. -/
def HvAt (w : World) (g : Nat) (cs : Array Value) : Prop := w.heap[g]? = some (.cells cs 31 (0, 0))
theorem HvAt.below {B : Nat} {w w' : World} {g : Nat} {cs : Array Value} (h : HvAt w g cs) (hb : Below B w w') (hg : g < B) : HvAt w' g cs := by
  unfold HvAt at *
  rw [hb.block g hg]; exact h
theorem HvAt.lt {w : World} {g : Nat} {cs : Array Value} (h : HvAt w g cs) : g < w.heap.size := (Array.getElem?_eq_some_iff.1 h).1
theorem sizeHk : (Try.prog.info? 31).map (·.size) = some 4 := by kernel_rfl
theorem wpList_loadK {ops : Array Oper} {rest : List Oper} {o : Oper} {a : Act} {w : World} {Q : Exit → Act → World → Prop} (hw : Region.wanted o (yielded ops a.tmps) = true) (x : Operand) (ho : o.op = .load 31 x)
    (g : Nat) (cs : Array Value) (hx : a.eval x = .pointer (some ⟨g, 0, none⟩)) (hg : HvAt w g cs) (h4 : cs.size = 4)
    (h : wpList Try.prog ops Q rest (a.put o.dst (.agg cs)) w) : wpList Try.prog ops Q (o :: rest) a w :=
  wpList_step fun K hK => by
    rw [if_pos hw]
    unfold Oper.wp execOp
    simp only [ho, hx, Instr.loadAt, Instr.sureAddr, Sem.run_bind, Sem.run_pure, Result.andThen_ok, run_loadVar_row w g 31 31 cs (0, 0) (.struct _) hg Try.underlying31 rfl (by rw [h4]; exact sizeHk)]
    exact hK _ _ h

end Go.Proofs.Ythoimecljfcjmaa

/-
  The program's unlike, at numbers, parties, arcs.
-/
namespace Go.Proofs.Ythoimecljfcjmaa
open Go.RowKit

def unlikeOk {α : Type} (n : Nat) (f : Nat → α) : Prop := ∀ i, i < n → ∀ k, k < i → f k ≠ f i

set_option maxHeartbeats 400000 in
theorem mark_int (v : Int) (w : World) : Calls Try.prog 83 #[.int .i64 v] w fun e w' => e = .returned (.int .i64 v) ∧ w' = w := by
  go_enter Try.func83, Try.ntmps83
  go_wp2
  go_ret
  exact ⟨rfl, rfl⟩

set_option maxHeartbeats 400000 in
theorem mark_party (x : ByteArray) (a : Option Addr) (n c : Nat) (w : World) : Calls Try.prog 80 #[.agg #[.string x, .slice a n c]] w fun e w' => e = .returned (.string x) ∧ Below w.heap.size w w' := by
  go_enter Try.func80, Try.ntmps80
  go_wp2
  go_ret
  exact ⟨rfl, (Below.refl _ _).alloc (Nat.le_refl _) _⟩

set_option maxHeartbeats 400000 in
theorem mark_arc (f t l m : Int) (x : ByteArray) (w : World) : Calls Try.prog 86 #[.agg #[.int .i64 f, .int .i64 t, .int .i64 l, .string x, .int .i64 m]] w fun e w' => e = .returned (.agg #[.int .i64 f, .int .i64 t]) ∧ Below w.heap.size w w' := by
  go_enter Try.func86, Try.ntmps86
  go_wp2
  go_returns
  exact ⟨rfl, ((Below.refl _ _).alloc (Nat.le_refl _) _).alloc (by simp) _⟩

set_option maxRecDepth 10000 in
set_option maxHeartbeats 1000000 in
theorem unlike_int {w : World} {a : Option Addr} {c : Nat} {l : List Int} (h : Ints w a l.length l) (hc : l.length ≤ c) (hcm : c ≤ maxLen) :
    Calls Try.prog 82 #[.slice a l.length c, .func (.func 83) #[] #[]] w fun e w' => e = .returned (.bool (told (unlikeOk l.length (fun i => l.getD i 0)))) ∧ w' = w := by
  obtain ⟨r, hr⟩ : ∃ r, told (unlikeOk l.length (fun i => l.getD i 0)) = r := ⟨_, rfl⟩
  have HR : Hid (told (unlikeOk l.length (fun i => l.getD i 0)) = r) := hr
  rw [hr]
  clear hr
  have HL : Hid (Ints w a l.length l) := h
  unfold maxLen at hcm
  have HM : Hid (∀ v W, Calls Try.prog 83 #[.int .i64 v] W fun e w' => e = .returned (.int .i64 v) ∧ w' = W) := fun v W => mark_int v W
  clear h
  go_enter Try.func82, Try.ntmps82
  go_wp2
  go_loopw [11] (fun i wr => ∃ k : Nat, k ≤ l.length ∧ i = .int .i64 k ∧ Hid (∀ i, i < k → ∀ j, j < i → l.getD j 0 ≠ l.getD i 0) ∧ wr = w) (fun i _ => l.length - (intOf i).toNat)
  case atStart => exact ⟨0, by omega, rfl, fun j hj => absurd hj (by omega), rfl⟩
  case round =>
    obtain ⟨i, hi, rfl, HO, rfl⟩ := hrel
    by_cases hlt : i < l.length
    · have i1 : (i : Int) < (l.length : Int) := by omega
      obtain ⟨b, o, rfl, d⟩ := HL.out.2.2.2 i hlt
      obtain ⟨x, hx⟩ : ∃ x, l.getD i 0 = x := ⟨_, rfl⟩
      rw [hx] at d
      have HX : Hid (l.getD i 0 = x) := hx
      clear hx
      have ic : ¬ ((c : Int) < (i : Int)) := by omega
      go_wp2
      go_loopw [20] (fun k ws => ∃ j : Nat, j ≤ i ∧ k = .int .i64 j ∧ Hid (∀ m, m < j → l.getD m 0 ≠ x) ∧ ws = wr) (fun k _ => i - (intOf k).toNat)
      case atStart => exact ⟨0, by omega, rfl, fun j hj => absurd hj (by omega), rfl⟩
      case round =>
        clear d
        obtain ⟨j, hj, rfl, HJ, rfl⟩ := hrel
        by_cases hjt : j < i
        · have j1 : (j : Int) < (i : Int) := by omega
          have d := HL.out.get j (by omega)
          obtain ⟨y, hy⟩ : ∃ y, l.getD j 0 = y := ⟨_, rfl⟩
          rw [hy] at d
          have HY : Hid (l.getD j 0 = y) := hy
          clear hy
          go_wp2_with fail
          refine (HM.out y _).mono ?_
          rintro e w0 ⟨rfl, hw0⟩
          subst w0
          go_wp2_with fail
          refine (HM.out x _).mono ?_
          rintro e w0 ⟨rfl, hw0⟩
          subst w0
          by_cases hxy : y = x
          · have hxy' : (y == x) = true := by rw [beq_iff_eq]; exact hxy
            go_wp2
            go_ret
            exact ⟨ret_bool (by rw [← HR.out, told_no (fun h => h i hlt j hjt (by show l.getD j 0 = l.getD i 0; rw [HX.out, HY.out, hxy]))]), rfl⟩
          · have hxy' : (y == x) = false := by rw [beq_eq_false_iff_ne]; exact hxy
            go_wp2
            go_roundw
            case rel =>
              refine ⟨j + 1, by omega, by go_num, fun m hm => ?_, trivial⟩
              by_cases hm' : m < j
              · exact HJ.out m hm'
              · have : m = j := by omega
                subst this; rw [HY.out]; exact hxy
            case measure => simp [intOf]; omega
        · have j1 : ¬ (j : Int) < (i : Int) := by omega
          have he : j = i := by omega
          go_wp2
          go_roundw
          case rel =>
            refine ⟨i + 1, by omega, by go_num, fun m hm k hk => ?_, trivial⟩
            by_cases hm' : m < i
            · exact HO.out m hm' k hk
            · have : m = i := by omega
              subst this; rw [HX.out]; exact HJ.out k (by omega)
          case measure => simp [intOf]; omega
    · have i1 : ¬ (i : Int) < (l.length : Int) := by omega
      go_wp2
      go_ret
      exact ⟨ret_bool (by rw [← HR.out, told_yes (p := unlikeOk l.length (fun i => l.getD i 0)) (fun m hm k hk => HO.out m (by omega) k hk)]), rfl⟩

end Go.Proofs.Ythoimecljfcjmaa

/-
  The program's unlike at parties and arcs.
-/
namespace Go.Proofs.Ythoimecljfcjmaa
open Go.RowKit

theorem two_new (w : World) (x y : Value) (t : TypeId) : (w.alloc (.cells #[x, y] t)).cell? ⟨w.heap.size, 0, none⟩ = some x ∧ (w.alloc (.cells #[x, y] t)).cell? ⟨w.heap.size, 1, none⟩ = some y := by
  constructor <;> (rw [World.cell?_alloc_new]; rfl)

set_option maxRecDepth 10000 in
set_option maxHeartbeats 2000000 in
theorem unlike_party {w : World} {a : Option Addr} {c : Nat} {l : List PartyM} (h : Parties w a l) (hc : l.length ≤ c) (hcm : c ≤ maxLen) :
    Calls Try.prog 79 #[.slice a l.length c, .func (.func 80) #[] #[]] w fun e w' => e = .returned (.bool (told (unlikeOk l.length (fun i => PartyM.acc (l.getD i noParty))))) ∧ Below w.heap.size w w' := by
  obtain ⟨r, hr⟩ : ∃ r, told (unlikeOk l.length (fun i => PartyM.acc (l.getD i noParty))) = r := ⟨_, rfl⟩
  have HR : Hid (told (unlikeOk l.length (fun i => PartyM.acc (l.getD i noParty))) = r) := hr
  rw [hr]
  clear hr
  have HL : Hid (Parties w a l) := h
  unfold maxLen at hcm
  have HM := mark_party
  replace HM := hide HM
  clear h
  go_enter Try.func79, Try.ntmps79
  go_wp2
  go_loopw [11] (fun i wr => ∃ k : Nat, k ≤ l.length ∧ i = .int .i64 k ∧ Hid (∀ i, i < k → ∀ j, j < i → PartyM.acc (l.getD j noParty) ≠ PartyM.acc (l.getD i noParty)) ∧ Below w.heap.size w wr) (fun i _ => l.length - (intOf i).toNat)
  case atStart => exact ⟨0, by omega, rfl, fun j hj => absurd hj (by omega), Below.refl _ _⟩
  case round =>
    obtain ⟨i, hi, rfl, HO, hB⟩ := hrel
    by_cases hlt : i < l.length
    · have i1 : (i : Int) < (l.length : Int) := by omega
      obtain ⟨b, o, rfl, hd⟩ := HL.out.2 i hlt
      obtain ⟨P, hP⟩ : ∃ P, l.getD i noParty = P := ⟨_, rfl⟩
      rw [hP] at hd
      have HX : Hid (l.getD i noParty = P) := hP
      clear hP
      have ic : ¬ ((c : Int) < (i : Int)) := by omega
      obtain ⟨hsz, d0, ka, kc, d1, hks⟩ := hd.below hB
      clear hd hsz hks
      go_upto_region 4 with fail
      have hE := two_new wr (.string P.acc) (.slice ka P.keys.length kc) 52
      replace hB := hB.alloc hB.size (Obj.cells #[Value.string P.acc, Value.slice ka P.keys.length kc] 52)
      clear d0 d1
      generalize wr.alloc (Obj.cells #[Value.string P.acc, Value.slice ka P.keys.length kc] 52) = w3 at hE hB ⊢
      generalize wr.heap.size = gp at hE ⊢
      obtain ⟨e0, e1⟩ := hE
      have HE : Hid (w3.cell? ⟨gp, 0, none⟩ = some (.string P.acc) ∧ w3.cell? ⟨gp, 1, none⟩ = some (.slice ka P.keys.length kc)) := ⟨e0, e1⟩
      clear e0 e1
      go_wp2
      go_loopw [20] (fun k ws => ∃ j : Nat, j ≤ i ∧ k = .int .i64 j ∧ Hid (∀ m, m < j → PartyM.acc (l.getD m noParty) ≠ PartyM.acc P) ∧ Below w3.heap.size w3 ws) (fun k _ => i - (intOf k).toNat)
      case atStart => exact ⟨0, by omega, rfl, fun j hj => absurd hj (by omega), Below.refl _ _⟩
      case round =>
        obtain ⟨j, hj, rfl, HJ, hS⟩ := hrel
        have hBS := hB.trans (hS.mono hB.size)
        by_cases hjt : j < i
        · have j1 : (j : Int) < (i : Int) := by omega
          have hd2 := HL.out.get j (by omega)
          obtain ⟨R, hR⟩ : ∃ R, l.getD j noParty = R := ⟨_, rfl⟩
          rw [hR] at hd2
          have HY : Hid (l.getD j noParty = R) := hR
          clear hR
          obtain ⟨hsz, d0, kb, kd, d1, hks⟩ := hd2.below hBS
          clear hd2 hsz hks
          go_upto_region 7 with fail
          have hF := two_new wr (.string R.acc) (.slice kb R.keys.length kd) 52
          replace hS := hS.alloc hS.size (Obj.cells #[Value.string R.acc, Value.slice kb R.keys.length kd] 52)
          replace hBS := hBS.alloc hBS.size (Obj.cells #[Value.string R.acc, Value.slice kb R.keys.length kd] 52)
          clear d0 d1
          generalize wr.alloc (Obj.cells #[Value.string R.acc, Value.slice kb R.keys.length kd] 52) = w4 at hF hS hBS ⊢
          generalize wr.heap.size = gq at hF ⊢
          obtain ⟨f0, f1⟩ := hF
          obtain ⟨e0, e1⟩ := HE.out
          replace e0 := cell_on hS e0
          replace e1 := cell_on hS e1
          by_cases hxy : PartyM.acc R = PartyM.acc P
          · have hxy' : (R.acc.toList == P.acc.toList) = true := by rw [hxy]; exact beq_self_eq_true _
            go_region_held3 (fun w' => w'.cell? ⟨gq, 0, none⟩ = some (.string R.acc) ∧ w'.cell? ⟨gq, 1, none⟩ = some (.slice kb R.keys.length kd) ∧ w'.cell? ⟨gp, 0, none⟩ = some (.string P.acc) ∧ w'.cell? ⟨gp, 1, none⟩ = some (.slice ka P.keys.length kc)) (first | (exact ⟨f0, f1, e0, e1⟩) | (go_keep; done)) (first | (go_at_call 80; (with_reducible refine (HM.out _ _ _ _ _).mono ?_); rintro e w9 ⟨rfl, hb9⟩; (first | (replace hBS := below_then hBS hb9) | (replace hBS := below_then hBS.drew hb9)); replace f0 := cell_on hb9 f0; replace f1 := cell_on hb9 f1; replace e0 := cell_on hb9 e0; replace e1 := cell_on hb9 e1))
            all_goals
              go_wp2
              go_ret
              exact ⟨ret_bool (by rw [← HR.out, told_no (fun h => h i hlt j hjt (by show PartyM.acc (l.getD j noParty) = PartyM.acc (l.getD i noParty); rw [HX.out, HY.out, hxy]))]), hBS⟩
          · have hxy' : (R.acc.toList == P.acc.toList) = false := by rw [same_list, beq_eq_false_iff_ne]; exact fun e => hxy (ByteArray.ext (Array.toList_inj.1 e))
            go_region_held3 (fun w' => w'.cell? ⟨gq, 0, none⟩ = some (.string R.acc) ∧ w'.cell? ⟨gq, 1, none⟩ = some (.slice kb R.keys.length kd) ∧ w'.cell? ⟨gp, 0, none⟩ = some (.string P.acc) ∧ w'.cell? ⟨gp, 1, none⟩ = some (.slice ka P.keys.length kc)) (first | (exact ⟨f0, f1, e0, e1⟩) | (go_keep; done)) (first | (go_at_call 80; (with_reducible refine (HM.out _ _ _ _ _).mono ?_); rintro e w9 ⟨rfl, hb9⟩; (first | (replace hS := below_then hS hb9) | (replace hS := below_then hS.drew hb9)); replace f0 := cell_on hb9 f0; replace f1 := cell_on hb9 f1; replace e0 := cell_on hb9 e0; replace e1 := cell_on hb9 e1))
            all_goals
              go_wp2
              go_roundw
              case rel =>
                refine ⟨j + 1, by omega, by go_num, fun m hm => ?_, hS⟩
                by_cases hm' : m < j
                · exact HJ.out m hm'
                · have : m = j := by omega
                  subst this; rw [HY.out]; exact hxy
              case measure => simp [intOf]; omega
        · have j1 : ¬ (j : Int) < (i : Int) := by omega
          have he : j = i := by omega
          go_wp2
          go_roundw
          case rel =>
            refine ⟨i + 1, by omega, by go_num, fun m hm k hk => ?_, hBS⟩
            by_cases hm' : m < i
            · exact HO.out m hm' k hk
            · have : m = i := by omega
              subst this; rw [HX.out]; exact HJ.out k (by omega)
          case measure => simp [intOf]; omega
    · have i1 : ¬ (i : Int) < (l.length : Int) := by omega
      go_wp2
      go_ret
      exact ⟨ret_bool (by rw [← HR.out, told_yes (p := unlikeOk l.length (fun i => PartyM.acc (l.getD i noParty))) (fun m hm k hk => HO.out m (by omega) k hk)]), hB⟩

end Go.Proofs.Ythoimecljfcjmaa
