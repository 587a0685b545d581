/-
  The program's Bytes of a hashkey.
-/
import Derived.Test.YtccaaaifhiigcaaGreatZ02
import Derived.Test.YtccaaaifhiigcaaGreatZ10
import Derived.Test.YtccaaaifhiigcaaGreatZ01
import Derived.BigQuiet
import Derived.Deep.QuietTactic
import Derived.Deep.RegionHeld3
import Derived.Handy
import Derived.Deep.CutBlock
import Derived.Deep.CutRange
namespace Go.Proofs.YtccaaaifhiigcaaGreat
open Go.RowKit

/-- P7.3: a key as bytes. -/
def hkB (K : HkM) : List UInt8 := num8 K.lock ++ text8 K.secret.data.toList ++ num8 (K.path.length : Int) ++ K.path.flatMap num8 ++ K.sigs.flatMap txt8
/-- A variable of type Hashkey. -/
def HvAt (w : World) (g : Nat) (cs : Array Value) : Prop := w.heap[g]? = some (.cells cs 29 (0, 0))
theorem HvAt.below {B : Nat} {w w' : World} {g : Nat} {cs : Array Value} (h : HvAt w g cs) (hb : Below B w w') (hg : g < B) : HvAt w' g cs := by
  unfold HvAt at *
  rw [hb.block g hg]; exact h
theorem HvAt.lt {w : World} {g : Nat} {cs : Array Value} (h : HvAt w g cs) : g < w.heap.size := (Array.getElem?_eq_some_iff.1 h).1
theorem sizeHk : (Tryz.prog.info? 29).map (·.size) = some 4 := by kernel_rfl
theorem wpList_loadK {ops : Array Oper} {rest : List Oper} {o : Oper} {a : Act} {w : World} {Q : Exit → Act → World → Prop} (hw : Region.wanted o (yielded ops a.tmps) = true) (x : Operand) (ho : o.op = .load 29 x)
    (g : Nat) (cs : Array Value) (hx : a.eval x = .pointer (some ⟨g, 0, none⟩)) (hg : HvAt w g cs) (h4 : cs.size = 4)
    (h : wpList Tryz.prog ops Q rest (a.put o.dst (.agg cs)) w) : wpList Tryz.prog ops Q (o :: rest) a w :=
  wpList_step fun K hK => by
    rw [if_pos hw]
    unfold Oper.wp execOp
    simp only [ho, hx, Instr.loadAt, Instr.sureAddr, Sem.run_bind, Sem.run_pure, Result.andThen_ok, run_loadVar_row w g 29 29 cs (0, 0) (.struct _) hg Tryz.underlying29 rfl (by rw [h4]; exact sizeHk)]
    exact hK _ _ h

set_option maxRecDepth 10000 in
set_option maxHeartbeats 4000000 in
theorem hkbytes_any {w : World} {v : Value} {K : HkM} (hv : HkV w v K) (x : ByteArray) (h1 : hkFits K → x = ⟨(hkB K).toArray⟩) (h2 : ¬ hkFits K → x = ⟨#[]⟩) :
    Calls Tryz.prog 17 #[v] w fun e w' => e = .returned (.string x) ∧ Below w.heap.size w w' := by
  have HF := hide (fun W (h : Below w.heap.size w W) => fits_any (hv.below h))
  obtain ⟨pa, sa, pc, sc, rfl, L⟩ := hv
  obtain ⟨g, hg⟩ : ∃ g, w.heap.size = g := ⟨_, rfl⟩
  rw [hg]
  replace L := hide L
  replace h1 := hide h1
  replace h2 := hide h2
  go_enter Tryz.func17, Tryz.ntmps17
  go_wp2_with (first
    | ((with_reducible refine wpList_at ?_); refine wpList_boxv (by rfl) 29 (.tmp 0) (by rfl) _ (by rfl) ?_; rw [hg]; intro w1 hu1 hz1 hb1; have hx1 : HvAt w1 g (hcells pa sa pc sc K) := hu1; clear hu1)
    | ((with_reducible refine wpList_at ?_); refine wpList_loadK (by rfl) (.tmp 1) (by rfl) _ _ (by rfl) hx1 rfl ?_))
  refine (HF.out _ (by rw [hg]; exact hb1)).mono ?_
  rintro e w2 ⟨rfl, hb2⟩
  have hx2 := hx1.below hb2 (by omega)
  have hB2 : Below g w w2 := hb1.trans (hb2.mono (by omega))
  have hs2 : g < w2.heap.size := by have := hb2.size; omega
  clear hz1 hx1 HF hb1 hb2
  by_cases hf : hkFits K
  · rw [told_yes hf]
    have HX := hide (h1.out hf)
    obtain ⟨_, f2, f3, f4, f5, _, f7⟩ := hf
    obtain ⟨b, hb⟩ : ∃ b, w2.heap.size = b := ⟨_, rfl⟩
    have hb1 := hide ((Below.refl w2.heap.size w2).alloc (Nat.le_refl _) (Obj.cells #[.pointer none, .slice none 0 0] 72))
    have hl1 := hide (bld_fresh w2)
    have hs1 : (w2.alloc (Obj.cells #[.pointer none, .slice none 0 0] 72)).heap.size = w2.heap.size + 1 := by simp
    have HQ : Hid (∀ W, Below b w2 W → (W.cell? ⟨g, 0, none⟩ = some (.int .i64 K.lock) ∧ W.cell? ⟨g, 1, none⟩ = some (.string K.secret) ∧ W.cell? ⟨g, 2, none⟩ = some (.slice pa K.path.length pc) ∧ W.cell? ⟨g, 3, none⟩ = some (.slice sa K.sigs.length sc)) ∧ HkL W pa sa pc sc K) := fun W hW => ⟨hcells_at (hx2.below hW (by omega)), L.out.below (by rw [hg]; exact hB2.trans (hW.mono (by omega)))⟩
    have HF7 := hide f7
    clear h1 h2 f7
    obtain ⟨y0, hy0, hz0, HN0⟩ := cnum_ex K.lock
    obtain ⟨y1, hy1, hz1, HN1⟩ := ctext_ex K.secret (by omega)
    obtain ⟨y2, hy2, hz2, HN2⟩ := cnum_ex (K.path.length : Int)
    replace hy0 := hide hy0
    replace hy1 := hide hy1
    replace hy2 := hide hy2
    replace HN0 := hide HN0
    replace HN1 := hide HN1
    obtain ⟨np, hnp⟩ : ∃ n, K.path.length = n := ⟨_, rfl⟩
    obtain ⟨ns, hns⟩ : ∃ n, K.sigs.length = n := ⟨_, rfl⟩
    rw [hnp] at f3 f4 f5 HN2
    rw [hns] at f5
    replace HN2 := hide HN2
    have HNP := hide hnp
    have HNS := hide hns
    rw [hnp, hns] at HQ
    clear hnp hns
    go_upto_region 4 with fail
    generalize w2.alloc (Obj.cells #[.pointer none, .slice none 0 0] 72) = w3 at hb1 hl1 hs1 ⊢
    rw [hb] at hl1 hb1 hs1
    obtain ⟨⟨q0, _, _, _⟩, _⟩ := HQ.out _ hb1.out
    go_wp2_with fail
    refine (HN0.out w3).mono ?_
    rintro e w4 ⟨rfl, hb4⟩
    have hl4 := hide (hl1.out.below hb4)
    have hB4 := hide (hb1.out.trans (hb4.mono (by omega)))
    have hs4 := hb4.size
    clear HN0 hl1 hb1 hb4 q0
    go_wp2_with fail
    refine (bwrite_any y0 hl4.out (by rw [hz0]; simp) (by omega)).mono ?_
    rintro e w5 ⟨rfl, hl5, hb5⟩
    rw [List.nil_append, hy0.out] at hl5
    have hB5 := hide (hB4.out.trans hb5)
    have hs5 : b ≤ w5.heap.size := by have := hb5.size; omega
    replace hl5 := hide hl5
    clear hl4 hB4 hb5 hs4
    obtain ⟨⟨_, q1, _, _⟩, _⟩ := HQ.out _ hB5.out
    go_wp2_with fail
    refine (HN1.out w5).mono ?_
    rintro e w6 ⟨rfl, hb6⟩
    have hl6 := hide (hl5.out.below hb6)
    have hB6 := hide (hB5.out.trans (hb6.mono hs5))
    have hs6 : b ≤ w6.heap.size := Nat.le_trans hs5 hb6.size
    clear HN1 hl5 hB5 hb6 q1 hs5
    go_wp2_with fail
    refine (bwrite_any y1 hl6.out (by rw [hz1, num8_length]; omega) hs6).mono ?_
    rintro e w7 ⟨rfl, hl7, hb7⟩
    rw [hy1.out] at hl7
    have hB7 := hide (hB6.out.trans hb7)
    have hs7 : b ≤ w7.heap.size := Nat.le_trans hs6 hb7.size
    replace hl7 := hide hl7
    clear hl6 hB6 hb7 hs6
    obtain ⟨⟨_, _, q2, _⟩, _⟩ := HQ.out _ hB7.out
    go_wp2_with fail
    refine (HN2.out w7).mono ?_
    rintro e w8 ⟨rfl, hb8⟩
    have hl8 := hide (hl7.out.below hb8)
    have hB8 := hide (hB7.out.trans (hb8.mono hs7))
    have hs8 : b ≤ w8.heap.size := Nat.le_trans hs7 hb8.size
    clear HN2 hl7 hB7 hb8 q2 hs7
    go_wp2_with fail
    refine (bwrite_any y2 hl8.out (by rw [hz2, List.length_append, num8_length, text8_length, len_list]; omega) hs8).mono ?_
    rintro e w9 ⟨rfl, hl9, hb9⟩
    rw [hy2.out] at hl9
    have hB9 := hide (hB8.out.trans hb9)
    replace hl9 := hide hl9
    clear hl8 hB8 hb9 hs8
    obtain ⟨L0, hL0⟩ : ∃ L0, num8 K.lock ++ text8 K.secret.data.toList ++ num8 (K.path.length : Int) = L0 := ⟨_, rfl⟩
    have hL0l : L0.length ≤ 100 := by rw [← hL0, List.length_append, List.length_append, num8_length, text8_length, num8_length, len_list]; omega
    rw [hL0] at hl9
    replace hL0 := hide hL0
    obtain ⟨⟨_, _, q2, _⟩, _⟩ := HQ.out _ hB9.out
    go_wp2_with fail
    clear q2
    go_loopw [27] (fun i wr => ∃ j : Nat, j ≤ np ∧ i = .int .i64 j ∧ Hid (Bld wr b b (L0 ++ (K.path.take j).flatMap num8)) ∧ Hid (Below b w2 wr)) (fun i _ => np - (intOf i).toNat)
    case atStart => exact ⟨0, by omega, rfl, by show Bld _ _ _ _; simpa using hl9.out, hB9⟩
    case round =>
      clear hl9 hB9
      obtain ⟨j, hj, rfl, hl4, hB⟩ := hrel
      have hln : (L0 ++ (K.path.take j).flatMap num8).length ≤ 200 := by
        rw [List.length_append]
        have h9 := flat_le num8 (K.path.take j) 8 (fun x hx => by rw [num8_length]; exact Nat.le_refl _)
        rw [List.length_take] at h9
        omega
      have hw0 : b ≤ wr.heap.size := Nat.le_of_lt hl4.out.lt
      obtain ⟨⟨_, _, _, q3⟩, LL⟩ := HQ.out _ hB.out
      by_cases hlt : j < np
      · have j1 : (j : Int) < (np : Int) := by omega
        obtain ⟨b1, o1, rfl, d1⟩ := LL.path.2.2.2 j (by rw [HNP.out]; exact hlt)
        obtain ⟨y, hy⟩ : ∃ y, K.path.getD j 0 = y := ⟨_, rfl⟩
        rw [hy] at d1
        obtain ⟨x1, hx1, hz1, HN⟩ := cnum_ex y
        have HE := hide (take_flat num8 K.path 0 j (by rw [HNP.out]; exact hlt))
        replace hx1 := hide hx1
        replace HN := hide HN
        replace hy := hide hy
        clear LL q3
        go_wp2_with fail
        refine (HN.out wr).mono ?_
        rintro e w4 ⟨rfl, hb4⟩
        have hl5 := hide (hl4.out.below hb4)
        have hB5 := hide (hB.out.trans (hb4.mono hw0))
        have hs5 : b ≤ w4.heap.size := Nat.le_trans hw0 hb4.size
        clear HN hl4 hB hb4 d1 hw0
        go_wp2_with fail
        refine (bwrite_any x1 hl5.out (by omega) hs5).mono ?_
        rintro e w5 ⟨rfl, hl6, hb6⟩
        have hl7 : Hid (Bld w5 b b (L0 ++ (K.path.take (j + 1)).flatMap num8)) := by
          show Bld _ _ _ _
          rw [HE.out, hy.out, ← List.append_assoc, ← hx1.out]; exact hl6
        have hB7 := hide (hB5.out.trans hb6)
        clear hl5 hB5 hb6 hl6 hs5
        go_wp2_with fail
        go_roundw
        case rel => exact ⟨j + 1, by omega, by go_num, hl7, hB7⟩
        case measure => simp [intOf]; omega
      · have j1 : ¬ (j : Int) < (np : Int) := by omega
        have hjn : K.path.take j = K.path := List.take_of_length_le (by rw [HNP.out]; omega)
        rw [hjn] at hl4 hln
        obtain ⟨L1, hL1⟩ : ∃ L1, L0 ++ K.path.flatMap num8 = L1 := ⟨_, rfl⟩
        rw [hL1] at hl4 hln
        replace hL1 := hide hL1
        clear hjn LL
        go_wp2_with fail
        clear q3
        go_loopw [38] (fun i wr => ∃ j : Nat, j ≤ ns ∧ i = .int .i64 j ∧ Hid (Bld wr b b (L1 ++ (K.sigs.take j).flatMap txt8)) ∧ Hid (Below b w2 wr)) (fun i _ => ns - (intOf i).toNat)
        case atStart => exact ⟨0, by omega, rfl, by show Bld _ _ _ _; simpa using hl4.out, hB⟩
        case round =>
          clear hl4 hB hw0
          obtain ⟨j, hj, rfl, hl4, hB⟩ := hrel
          have hln2 : (L1 ++ (K.sigs.take j).flatMap txt8).length ≤ 10000 := by
            rw [List.length_append]
            have h9 := flat_le txt8 (K.sigs.take j) 520 (fun x hx => by
              obtain ⟨i, hi, e⟩ := List.getElem_of_mem hx
              rw [List.length_take] at hi
              have h2 := HF7.out i (by omega)
              rw [List.getElem_take] at e
              rw [List.getD_eq_getElem?_getD, List.getElem?_eq_getElem (by omega), Option.getD_some, e] at h2
              unfold txt8
              rw [text8_length, len_list, h2]; exact Nat.le_refl _)
            rw [List.length_take] at h9
            have : 520 * min j K.sigs.length ≤ 520 * 6 := Nat.mul_le_mul_left _ (by omega)
            omega
          have hw0 : b ≤ wr.heap.size := Nat.le_of_lt hl4.out.lt
          by_cases hlt : j < ns
          · have j1 : (j : Int) < (ns : Int) := by omega
            obtain ⟨b1, o1, rfl, d1⟩ := (HQ.out _ hB.out).2.sigs.2.2.2 j (by rw [HNS.out]; exact hlt)
            obtain ⟨y, hy⟩ : ∃ y, K.sigs.getD j ByteArray.empty = y := ⟨_, rfl⟩
            have hys : y.size = 512 := by rw [← hy]; exact HF7.out j (by rw [HNS.out]; exact hlt)
            rw [hy] at d1
            obtain ⟨x1, hx1, hz1, HN⟩ := ctext_ex y (by omega)
            have HE := hide (take_flat txt8 K.sigs ByteArray.empty j (by rw [HNS.out]; exact hlt))
            replace hx1 := hide hx1
            replace HN := hide HN
            replace hy := hide hy
            go_wp2_with fail
            refine (HN.out wr).mono ?_
            rintro e w4 ⟨rfl, hb4⟩
            have hl5 := hide (hl4.out.below hb4)
            have hB5 := hide (hB.out.trans (hb4.mono hw0))
            have hs5 : b ≤ w4.heap.size := Nat.le_trans hw0 hb4.size
            clear HN hl4 hB hb4 d1 hw0
            go_wp2_with fail
            refine (bwrite_any x1 hl5.out (by omega) hs5).mono ?_
            rintro e w5 ⟨rfl, hl6, hb6⟩
            have hl7 : Hid (Bld w5 b b (L1 ++ (K.sigs.take (j + 1)).flatMap txt8)) := by
              show Bld _ _ _ _
              rw [HE.out, hy.out, ← List.append_assoc]
              unfold txt8
              rw [← hx1.out]; exact hl6
            have hB7 := hide (hB5.out.trans hb6)
            clear hl5 hB5 hb6 hl6 hs5
            go_wp2_with fail
            go_roundw
            case rel => exact ⟨j + 1, by omega, by go_num, hl7, hB7⟩
            case measure => simp [intOf]; omega
          · have j1 : ¬ (j : Int) < (ns : Int) := by omega
            have hjn : K.sigs.take j = K.sigs := List.take_of_length_le (by rw [HNS.out]; omega)
            rw [hjn] at hl4 hln2
            have hxx : x = ⟨(L1 ++ K.sigs.flatMap txt8).toArray⟩ := by rw [HX.out, ← hL1.out, ← hL0.out]; rfl
            have hne : L1 ++ K.sigs.flatMap txt8 ≠ [] := by
              intro e
              have h9 : (L1 ++ K.sigs.flatMap txt8).length = 0 := by rw [e]; rfl
              rw [List.length_append, ← hL1.out, List.length_append, ← hL0.out, List.length_append, List.length_append, num8_length] at h9
              omega
            have HS := hide (bstring_any hl4.out hne (by omega))
            rw [← hxx] at HS
            clear hjn hxx hne
            go_wp2_with fail
            refine HS.out.mono ?_
            rintro e w4 ⟨rfl, hb4⟩
            go_wp2
            go_ret
            exact ⟨rfl, (hB2.trans (hB.out.mono (by omega))).trans (hb4.mono (by omega))⟩
  · rw [told_no hf]
    have HX := hide (h2.out hf)
    clear h1 h2 hf
    go_wp2
    go_ret
    exact ⟨by rw [HX.out]; rfl, hB2⟩

end Go.Proofs.YtccaaaifhiigcaaGreat

/-
  The program's unlike, at numbers, parties, arcs.
-/
namespace Go.Proofs.YtccaaaifhiigcaaGreat
open Go.RowKit

def unlikeOk {α : Type} (n : Nat) (f : Nat → α) : Prop := ∀ i, i < n → ∀ k, k < i → f k ≠ f i

set_option maxHeartbeats 400000 in
theorem mark_int (v : Int) (w : World) : Calls Tryz.prog 116 #[.int .i64 v] w fun e w' => e = .returned (.int .i64 v) ∧ w' = w := by
  go_enter Tryz.func116, Tryz.ntmps116
  go_wp2
  go_ret
  exact ⟨rfl, rfl⟩

set_option maxHeartbeats 400000 in
theorem mark_party (x : ByteArray) (a : Option Addr) (n c : Nat) (w : World) : Calls Tryz.prog 113 #[.agg #[.string x, .slice a n c]] w fun e w' => e = .returned (.string x) ∧ Below w.heap.size w w' := by
  go_enter Tryz.func113, Tryz.ntmps113
  go_wp2
  go_ret
  exact ⟨rfl, (Below.refl _ _).alloc (Nat.le_refl _) _⟩

set_option maxHeartbeats 400000 in
theorem mark_arc (f t l m : Int) (x : ByteArray) (w : World) : Calls Tryz.prog 119 #[.agg #[.int .i64 f, .int .i64 t, .int .i64 l, .string x, .int .i64 m]] w fun e w' => e = .returned (.agg #[.int .i64 f, .int .i64 t]) ∧ Below w.heap.size w w' := by
  go_enter Tryz.func119, Tryz.ntmps119
  go_wp2
  go_returns
  exact ⟨rfl, ((Below.refl _ _).alloc (Nat.le_refl _) _).alloc (by simp) _⟩

set_option maxRecDepth 10000 in
set_option maxHeartbeats 1000000 in
theorem unlike_int {w : World} {a : Option Addr} {c : Nat} {l : List Int} (h : Ints w a l.length l) (hc : l.length ≤ c) (hcm : c ≤ maxLen) :
    Calls Tryz.prog 115 #[.slice a l.length c, .func (.func 116) #[] #[]] w fun e w' => e = .returned (.bool (told (unlikeOk l.length (fun i => l.getD i 0)))) ∧ w' = w := by
  obtain ⟨r, hr⟩ : ∃ r, told (unlikeOk l.length (fun i => l.getD i 0)) = r := ⟨_, rfl⟩
  have HR : Hid (told (unlikeOk l.length (fun i => l.getD i 0)) = r) := hr
  rw [hr]
  clear hr
  have HL : Hid (Ints w a l.length l) := h
  unfold maxLen at hcm
  have HM : Hid (∀ v W, Calls Tryz.prog 116 #[.int .i64 v] W fun e w' => e = .returned (.int .i64 v) ∧ w' = W) := fun v W => mark_int v W
  clear h
  go_enter Tryz.func115, Tryz.ntmps115
  go_wp2
  go_loopw [11] (fun i wr => ∃ k : Nat, k ≤ l.length ∧ i = .int .i64 k ∧ Hid (∀ i, i < k → ∀ j, j < i → l.getD j 0 ≠ l.getD i 0) ∧ wr = w) (fun i _ => l.length - (intOf i).toNat)
  case atStart => exact ⟨0, by omega, rfl, fun j hj => absurd hj (by omega), rfl⟩
  case round =>
    obtain ⟨i, hi, rfl, HO, rfl⟩ := hrel
    by_cases hlt : i < l.length
    · have i1 : (i : Int) < (l.length : Int) := by omega
      obtain ⟨b, o, rfl, d⟩ := HL.out.2.2.2 i hlt
      obtain ⟨x, hx⟩ : ∃ x, l.getD i 0 = x := ⟨_, rfl⟩
      rw [hx] at d
      have HX : Hid (l.getD i 0 = x) := hx
      clear hx
      have ic : ¬ ((c : Int) < (i : Int)) := by omega
      go_wp2
      go_loopw [20] (fun k ws => ∃ j : Nat, j ≤ i ∧ k = .int .i64 j ∧ Hid (∀ m, m < j → l.getD m 0 ≠ x) ∧ ws = wr) (fun k _ => i - (intOf k).toNat)
      case atStart => exact ⟨0, by omega, rfl, fun j hj => absurd hj (by omega), rfl⟩
      case round =>
        clear d
        obtain ⟨j, hj, rfl, HJ, rfl⟩ := hrel
        by_cases hjt : j < i
        · have j1 : (j : Int) < (i : Int) := by omega
          have d := HL.out.get j (by omega)
          obtain ⟨y, hy⟩ : ∃ y, l.getD j 0 = y := ⟨_, rfl⟩
          rw [hy] at d
          have HY : Hid (l.getD j 0 = y) := hy
          clear hy
          go_wp2_with fail
          refine (HM.out y _).mono ?_
          rintro e w0 ⟨rfl, hw0⟩
          subst w0
          go_wp2_with fail
          refine (HM.out x _).mono ?_
          rintro e w0 ⟨rfl, hw0⟩
          subst w0
          by_cases hxy : y = x
          · have hxy' : (y == x) = true := by rw [beq_iff_eq]; exact hxy
            go_wp2
            go_ret
            exact ⟨ret_bool (by rw [← HR.out, told_no (fun h => h i hlt j hjt (by show l.getD j 0 = l.getD i 0; rw [HX.out, HY.out, hxy]))]), rfl⟩
          · have hxy' : (y == x) = false := by rw [beq_eq_false_iff_ne]; exact hxy
            go_wp2
            go_roundw
            case rel =>
              refine ⟨j + 1, by omega, by go_num, fun m hm => ?_, trivial⟩
              by_cases hm' : m < j
              · exact HJ.out m hm'
              · have : m = j := by omega
                subst this; rw [HY.out]; exact hxy
            case measure => simp [intOf]; omega
        · have j1 : ¬ (j : Int) < (i : Int) := by omega
          have he : j = i := by omega
          go_wp2
          go_roundw
          case rel =>
            refine ⟨i + 1, by omega, by go_num, fun m hm k hk => ?_, trivial⟩
            by_cases hm' : m < i
            · exact HO.out m hm' k hk
            · have : m = i := by omega
              subst this; rw [HX.out]; exact HJ.out k (by omega)
          case measure => simp [intOf]; omega
    · have i1 : ¬ (i : Int) < (l.length : Int) := by omega
      go_wp2
      go_ret
      exact ⟨ret_bool (by rw [← HR.out, told_yes (p := unlikeOk l.length (fun i => l.getD i 0)) (fun m hm k hk => HO.out m (by omega) k hk)]), rfl⟩

end Go.Proofs.YtccaaaifhiigcaaGreat

/-
  The program's unlike at parties and arcs.
-/
namespace Go.Proofs.YtccaaaifhiigcaaGreat
open Go.RowKit

theorem two_new (w : World) (x y : Value) (t : TypeId) : (w.alloc (.cells #[x, y] t)).cell? ⟨w.heap.size, 0, none⟩ = some x ∧ (w.alloc (.cells #[x, y] t)).cell? ⟨w.heap.size, 1, none⟩ = some y := by
  constructor <;> (rw [World.cell?_alloc_new]; rfl)

set_option maxRecDepth 10000 in
set_option maxHeartbeats 2000000 in
theorem unlike_party {w : World} {a : Option Addr} {c : Nat} {l : List PartyM} (h : Parties w a l) (hc : l.length ≤ c) (hcm : c ≤ maxLen) :
    Calls Tryz.prog 112 #[.slice a l.length c, .func (.func 113) #[] #[]] w fun e w' => e = .returned (.bool (told (unlikeOk l.length (fun i => PartyM.acc (l.getD i noParty))))) ∧ Below w.heap.size w w' := by
  obtain ⟨r, hr⟩ : ∃ r, told (unlikeOk l.length (fun i => PartyM.acc (l.getD i noParty))) = r := ⟨_, rfl⟩
  have HR : Hid (told (unlikeOk l.length (fun i => PartyM.acc (l.getD i noParty))) = r) := hr
  rw [hr]
  clear hr
  have HL : Hid (Parties w a l) := h
  unfold maxLen at hcm
  have HM := mark_party
  replace HM := hide HM
  clear h
  go_enter Tryz.func112, Tryz.ntmps112
  go_wp2
  go_loopw [11] (fun i wr => ∃ k : Nat, k ≤ l.length ∧ i = .int .i64 k ∧ Hid (∀ i, i < k → ∀ j, j < i → PartyM.acc (l.getD j noParty) ≠ PartyM.acc (l.getD i noParty)) ∧ Below w.heap.size w wr) (fun i _ => l.length - (intOf i).toNat)
  case atStart => exact ⟨0, by omega, rfl, fun j hj => absurd hj (by omega), Below.refl _ _⟩
  case round =>
    obtain ⟨i, hi, rfl, HO, hB⟩ := hrel
    by_cases hlt : i < l.length
    · have i1 : (i : Int) < (l.length : Int) := by omega
      obtain ⟨b, o, rfl, hd⟩ := HL.out.2 i hlt
      obtain ⟨P, hP⟩ : ∃ P, l.getD i noParty = P := ⟨_, rfl⟩
      rw [hP] at hd
      have HX : Hid (l.getD i noParty = P) := hP
      clear hP
      have ic : ¬ ((c : Int) < (i : Int)) := by omega
      obtain ⟨hsz, d0, ka, kc, d1, hks⟩ := hd.below hB
      clear hd hsz hks
      go_upto_region 4 with fail
      have hE := two_new wr (.string P.acc) (.slice ka P.keys.length kc) 50
      replace hB := hB.alloc hB.size (Obj.cells #[Value.string P.acc, Value.slice ka P.keys.length kc] 50)
      clear d0 d1
      generalize wr.alloc (Obj.cells #[Value.string P.acc, Value.slice ka P.keys.length kc] 50) = w3 at hE hB ⊢
      generalize wr.heap.size = gp at hE ⊢
      obtain ⟨e0, e1⟩ := hE
      have HE : Hid (w3.cell? ⟨gp, 0, none⟩ = some (.string P.acc) ∧ w3.cell? ⟨gp, 1, none⟩ = some (.slice ka P.keys.length kc)) := ⟨e0, e1⟩
      clear e0 e1
      go_wp2
      go_loopw [20] (fun k ws => ∃ j : Nat, j ≤ i ∧ k = .int .i64 j ∧ Hid (∀ m, m < j → PartyM.acc (l.getD m noParty) ≠ PartyM.acc P) ∧ Below w3.heap.size w3 ws) (fun k _ => i - (intOf k).toNat)
      case atStart => exact ⟨0, by omega, rfl, fun j hj => absurd hj (by omega), Below.refl _ _⟩
      case round =>
        obtain ⟨j, hj, rfl, HJ, hS⟩ := hrel
        have hBS := hB.trans (hS.mono hB.size)
        by_cases hjt : j < i
        · have j1 : (j : Int) < (i : Int) := by omega
          have hd2 := HL.out.get j (by omega)
          obtain ⟨R, hR⟩ : ∃ R, l.getD j noParty = R := ⟨_, rfl⟩
          rw [hR] at hd2
          have HY : Hid (l.getD j noParty = R) := hR
          clear hR
          obtain ⟨hsz, d0, kb, kd, d1, hks⟩ := hd2.below hBS
          clear hd2 hsz hks
          go_upto_region 7 with fail
          have hF := two_new wr (.string R.acc) (.slice kb R.keys.length kd) 50
          replace hS := hS.alloc hS.size (Obj.cells #[Value.string R.acc, Value.slice kb R.keys.length kd] 50)
          replace hBS := hBS.alloc hBS.size (Obj.cells #[Value.string R.acc, Value.slice kb R.keys.length kd] 50)
          clear d0 d1
          generalize wr.alloc (Obj.cells #[Value.string R.acc, Value.slice kb R.keys.length kd] 50) = w4 at hF hS hBS ⊢
          generalize wr.heap.size = gq at hF ⊢
          obtain ⟨f0, f1⟩ := hF
          obtain ⟨e0, e1⟩ := HE.out
          replace e0 := cell_on hS e0
          replace e1 := cell_on hS e1
          by_cases hxy : PartyM.acc R = PartyM.acc P
          · have hxy' : (R.acc.toList == P.acc.toList) = true := by rw [hxy]; exact beq_self_eq_true _
            go_region_held3 (fun w' => w'.cell? ⟨gq, 0, none⟩ = some (.string R.acc) ∧ w'.cell? ⟨gq, 1, none⟩ = some (.slice kb R.keys.length kd) ∧ w'.cell? ⟨gp, 0, none⟩ = some (.string P.acc) ∧ w'.cell? ⟨gp, 1, none⟩ = some (.slice ka P.keys.length kc)) (first | (exact ⟨f0, f1, e0, e1⟩) | (go_keep; done)) (first | (go_at_call 113; (with_reducible refine (HM.out _ _ _ _ _).mono ?_); rintro e w9 ⟨rfl, hb9⟩; (first | (replace hBS := below_then hBS hb9) | (replace hBS := below_then hBS.drew hb9)); replace f0 := cell_on hb9 f0; replace f1 := cell_on hb9 f1; replace e0 := cell_on hb9 e0; replace e1 := cell_on hb9 e1))
            all_goals
              go_wp2
              go_ret
              exact ⟨ret_bool (by rw [← HR.out, told_no (fun h => h i hlt j hjt (by show PartyM.acc (l.getD j noParty) = PartyM.acc (l.getD i noParty); rw [HX.out, HY.out, hxy]))]), hBS⟩
          · have hxy' : (R.acc.toList == P.acc.toList) = false := by rw [same_list, beq_eq_false_iff_ne]; exact fun e => hxy (ByteArray.ext (Array.toList_inj.1 e))
            go_region_held3 (fun w' => w'.cell? ⟨gq, 0, none⟩ = some (.string R.acc) ∧ w'.cell? ⟨gq, 1, none⟩ = some (.slice kb R.keys.length kd) ∧ w'.cell? ⟨gp, 0, none⟩ = some (.string P.acc) ∧ w'.cell? ⟨gp, 1, none⟩ = some (.slice ka P.keys.length kc)) (first | (exact ⟨f0, f1, e0, e1⟩) | (go_keep; done)) (first | (go_at_call 113; (with_reducible refine (HM.out _ _ _ _ _).mono ?_); rintro e w9 ⟨rfl, hb9⟩; (first | (replace hS := below_then hS hb9) | (replace hS := below_then hS.drew hb9)); replace f0 := cell_on hb9 f0; replace f1 := cell_on hb9 f1; replace e0 := cell_on hb9 e0; replace e1 := cell_on hb9 e1))
            all_goals
              go_wp2
              go_roundw
              case rel =>
                refine ⟨j + 1, by omega, by go_num, fun m hm => ?_, hS⟩
                by_cases hm' : m < j
                · exact HJ.out m hm'
                · have : m = j := by omega
                  subst this; rw [HY.out]; exact hxy
              case measure => simp [intOf]; omega
        · have j1 : ¬ (j : Int) < (i : Int) := by omega
          have he : j = i := by omega
          go_wp2
          go_roundw
          case rel =>
            refine ⟨i + 1, by omega, by go_num, fun m hm k hk => ?_, hBS⟩
            by_cases hm' : m < i
            · exact HO.out m hm' k hk
            · have : m = i := by omega
              subst this; rw [HX.out]; exact HJ.out k (by omega)
          case measure => simp [intOf]; omega
    · have i1 : ¬ (i : Int) < (l.length : Int) := by omega
      go_wp2
      go_ret
      exact ⟨ret_bool (by rw [← HR.out, told_yes (p := unlikeOk l.length (fun i => PartyM.acc (l.getD i noParty))) (fun m hm k hk => HO.out m (by omega) k hk)]), hB⟩

end Go.Proofs.YtccaaaifhiigcaaGreat
