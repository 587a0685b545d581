/-
  slices.Grow of nothing, slices.Concat of two: at numbers and texts.
-/
import Derived.Test.YthoimecljfcjmaaZ09
import Derived.Test.YthoimecljfcjmaaZ02
import Derived.Lib.AppendZeros
import Derived.Laws.AppendOwnNone
import Derived.Handy
namespace Go.Proofs.Ythoimecljfcjmaa
open Go.RowKit

theorem row_fresh {w : World} {e : TypeId} {size : Nat} (cs : Array Value) (n cap : Nat) (hs : cs.size = cap * size) (hm : cap ≤ maxLen) (hn : n ≤ cap) : (w.alloc (.cells cs e)).ownsRow w.heap.size e size (.slice (some ⟨w.heap.size, 0, none⟩) n cap) n (cs.toList.take (n * size)) := by
  refine ⟨?_, .inr ⟨w.heap.size, cap, cs, rfl, Nat.le_refl _, heap_alloc_new _ _, hn, hm, hs, rfl⟩⟩
  rw [List.length_take, Array.length_toList, hs]
  exact Nat.min_eq_left (Nat.mul_le_mul_right _ hn)
theorem Ints.cellsC {w : World} {b o n : Nat} {l : List Int} (h : Ints w (some ⟨b, o, none⟩) n l) : ∀ j u, (l.map (Value.int .i64))[j]? = some u → w.cell? ((⟨b, o, none⟩ : Addr).add j) = some u := by
  intro j u hu
  have hj : j < l.length := by have := (List.getElem?_eq_some_iff.1 hu).1; rw [List.length_map] at this; exact this
  rw [Go.WideShapes.add_plain, h.get j (by have := h.1; omega)]
  rw [List.getElem?_map, List.getElem?_eq_getElem hj] at hu
  rw [List.getD_eq_getElem?_getD, List.getElem?_eq_getElem hj]
  exact hu
theorem Strs.cellsC {w : World} {b o n : Nat} {l : List ByteArray} (h : Strs w (some ⟨b, o, none⟩) n l) : ∀ j u, (l.map Value.string)[j]? = some u → w.cell? ((⟨b, o, none⟩ : Addr).add j) = some u := by
  intro j u hu
  have hj : j < l.length := by have := (List.getElem?_eq_some_iff.1 hu).1; rw [List.length_map] at this; exact this
  rw [Go.WideShapes.add_plain, h.get j (by have := h.1; omega)]
  rw [List.getElem?_map, List.getElem?_eq_getElem hj] at hu
  rw [List.getD_eq_getElem?_getD, List.getElem?_eq_getElem hj]
  exact hu

set_option maxRecDepth 10000 in
set_option maxHeartbeats 1000000 in
theorem grow_ints (n : Nat) (h1 : 1 ≤ n) (hn : n ≤ 1000) (w : World) : Calls Try.prog 87 #[.slice none 0 0, .int .i64 (n : Int)] w fun e w' => ∃ u, e = .returned u ∧ w'.ownsRow w.heap.size 3 1 u 0 [] ∧ Below w.heap.size w w' := by
  obtain ⟨i0, hi, hz0, hzs, hzb⟩ := info_parts Try.info3
  obtain ⟨cap, hcap⟩ : ∃ cap, grownCap w n 0 3 = cap := ⟨_, rfl⟩
  have hge : n ≤ cap := by rw [← hcap]; exact grownCap_ge w n 0 _
  have hle : cap ≤ maxLen := by rw [← hcap]; exact grownCap_le_maxLen w n 0 _ (by unfold maxLen; omega)
  have hrun := Go.Lib.run_append_nil_zeros (P := Try.prog) w 22 3 22 3 i0 _ .i64 .i64 Try.underlying22 Try.underlying3 hi hz0 n (by omega) (by rw [hzs]; omega) (by omega) (by rw [hzb]; omega)
  rw [hcap] at hrun
  generalize hcs : (Builtin.zeroCells (.int .i64 0 : Value).cells n ++ Builtin.zeroCells (.int .i64 0 : Value).cells (cap - n)) = cs at hrun
  have hsz : cs.size = cap * 1 := by rw [← hcs, Array.size_append, size_zeroCells, size_zeroCells]; show n * 1 + (cap - n) * 1 = cap * 1; omega
  have hrow := row_fresh (w := w.drew) (e := 3) (size := 1) cs 0 cap hsz hle (Nat.zero_le _)
  have hB : Below w.heap.size w (w.drew.alloc (.cells cs 3)) := (show Below w.heap.size w w.drew from ⟨rfl, rfl, rfl, Nat.le_refl _, fun _ _ => rfl⟩).alloc (Nat.le_refl _) _
  unfold maxLen at hle
  have hn0 : 0 < n := by omega
  clear hcs hsz hcap
  replace hrow := hide hrow
  replace hB := hide hB
  replace hrun := hide hrun
  generalize hw1 : w.drew.alloc (.cells cs 3) = w1 at hrow hB hrun
  go_enter Try.func87, Try.ntmps87
  go_wp2_with (at_builtin; refine Go.Lib.wpList_append_run _ rfl _ _ _ _ rfl _ _ rfl rfl _ _ hrun.out ?_)
  go_ret
  exact ⟨_, rfl, hrow.out, hB.out⟩

set_option maxRecDepth 10000 in
set_option maxHeartbeats 2000000 in
theorem concat_ints {w : World} (g : Nat) {a1 a2 : Option Addr} {n1 n2 c1 c2 : Nat} {l1 l2 : List Int} (h1 : Ints w a1 n1 l1) (h2 : Ints w a2 n2 l2) (q0 : w.cell? ⟨g, 0, none⟩ = some (.slice a1 n1 c1)) (q1 : w.cell? ⟨g, 1, none⟩ = some (.slice a2 n2 c2)) (hn1 : 1 ≤ n1) (hn : n1 + n2 ≤ 1000) (hnil : n2 = 0 → a2 = none → c2 = 0) :
    Calls Try.prog 61 #[.slice (some ⟨g, 0, none⟩) 2 2] w fun e w' => ∃ u, e = .returned u ∧ OwnI w' w.heap.size u (l1 ++ l2) ∧ Below w.heap.size w w' := by
  obtain ⟨B, hB⟩ : ∃ B, w.heap.size = B := ⟨_, rfl⟩
  rw [hB]
  obtain ⟨n, hnn⟩ : ∃ n, n1 + n2 = n := ⟨_, rfl⟩
  have hw : IntKind.i64.wrap ((n1 : Int) + (n2 : Int)) = (n : Int) := by rw [IntWalk.i64_in _ (by omega)]; omega
  have hn1' : ¬ (n1 : Int) < 0 := by omega
  have hn' : ¬ (n : Int) < 0 := by omega
  have HG := grow_ints n (by omega) (by omega) w
  rw [hB] at HG
  replace HG := hide HG
  have hl1 := h1.1
  have hl2 := h2.1
  obtain ⟨b1, o1, ha1⟩ : ∃ b o, a1 = some ⟨b, o, none⟩ := by obtain ⟨b, o, h, _⟩ := h1.2.2.2 0 (by omega); exact ⟨b, o, h⟩
  subst ha1
  have X1 : Hid ((∀ W, Below B w W → ∀ j u, (l1.map (Value.int .i64))[j]? = some u → W.cell? ((⟨b1, o1, none⟩ : Addr).add j) = some u) ∧ (l1.map (Value.int .i64)).length = n1 * 1 ∧ (∀ u ∈ l1.map (Value.int .i64), u.oneCell' = true)) := by
    refine ⟨fun W hW j u hu => Ints.cellsC (h1.below (by rw [hB]; exact hW)) j u hu, by rw [List.length_map, hl1, Nat.mul_one], fun u hu => ?_⟩
    obtain ⟨x, _, rfl⟩ := List.mem_map.1 hu
    rfl
  have hlt0 := block_lt_of_cell q0
  have Q : Hid (∀ W, Below B w W → W.cell? ⟨g, 0, none⟩ = some (.slice (some ⟨b1, o1, none⟩) n1 c1) ∧ W.cell? ⟨g, 1, none⟩ = some (.slice a2 n2 c2)) := fun W hW => ⟨cell_on (by rw [hB]; exact hW) q0, cell_on (by rw [hB]; exact hW) q1⟩
  have H2 := hide h2
  have H1 := hide h1
  have HL1 := hide hl1
  have HL2 := hide hl2
  have HNN := hide hnn
  clear h1 h2 hl1 hl2 hnn
  go_enter Try.func61, Try.ntmps61
  go_wp2
  go_loopw [3, 11] (fun sz i wr => ((i = .int .i64 0 ∧ sz = .int .i64 0) ∨ (i = .int .i64 1 ∧ sz = .int .i64 n1) ∨ (i = .int .i64 2 ∧ sz = .int .i64 n)) ∧ wr = w) (fun _ i _ => 2 - (intOf i).toNat)
  case atStart => exact ⟨.inl ⟨rfl, rfl⟩, rfl⟩
  case round =>
    obtain ⟨hor, hwr⟩ := hrel
    subst wr
    rcases hor with ⟨rfl, rfl⟩ | ⟨rfl, rfl⟩ | ⟨rfl, rfl⟩
    · go_wp2
      go_roundw
      case rel => exact ⟨.inr (.inl ⟨by go_num, by go_num⟩), trivial⟩
      case measure => simp [intOf]
    · go_wp2
      go_roundw
      case rel => exact ⟨.inr (.inr ⟨by go_num, by go_num⟩), trivial⟩
      case measure => simp [intOf]
    · go_wp2_with fail
      refine HG.out.mono ?_
      rintro e w2 ⟨u0, rfl, hR0, hb2⟩
      have hz2 : B ≤ w2.heap.size := by have := hb2.size; omega
      obtain ⟨va0, vc0, rfl⟩ := row_slice hR0
      obtain ⟨i0, hi, hz0, hzs, hzb⟩ := info_parts Try.info3
      replace hi := hide hi
      replace hz0 := hide hz0
      replace hzs := hide hzs
      replace hzb := hide hzb
      replace hR0 := hide hR0
      clear q0 q1 HG
      go_wp2_with fail
      go_loopw [6, 27] (fun v i wr => ((i = .int .i64 0 ∧ wr.ownsRow B 3 1 v 0 []) ∨ (i = .int .i64 1 ∧ wr.ownsRow B 3 1 v n1 (l1.map (Value.int .i64))) ∨ (i = .int .i64 2 ∧ wr.ownsRow B 3 1 v n ((l1 ++ l2).map (Value.int .i64)))) ∧ Below B w wr ∧ B ≤ wr.heap.size) (fun _ i _ => 2 - (intOf i).toNat)
      case atStart => exact ⟨.inl ⟨rfl, hR0.out⟩, hb2, hz2⟩
      case round =>
        clear hR0 hb2 hz2
        obtain ⟨hor, hBr, hz⟩ := hrel
        obtain ⟨q0, q1⟩ := Q.out _ hBr
        rcases hor with ⟨rfl, hR⟩ | ⟨rfl, hR⟩ | ⟨rfl, hR⟩
        · have hlt := World.ownsRow.lt hR
          obtain ⟨va, vc, rfl⟩ := row_slice hR
          replace hR := hide hR
          replace hlt := hide hlt
          replace hBr := hide hBr
          go_wp2_with (at_builtin; refine wpList_append_own _ (by rfl) (.tmp 31) (.tmp 32) 22 (by rfl) B 3 i0 _ 1 8 Try.underlying22 hi.out hz0.out hzs.out hzb.out rfl (by decide) _ 0 [] (by rfl) hR.out ⟨b1, o1, none⟩ n1 c1 (l1.map (Value.int .i64)) (by rfl) X1.out.2.1 (X1.out.1 _ hBr.out) X1.out.2.2 (by unfold maxLen; omega) (by omega) hz ?_; intro v9 w9 hown9 hg9 _; obtain ⟨v9a, v9c, rfl⟩ := row_slice hown9)
          go_roundw
          case rel =>
            refine ⟨.inr (.inl ⟨by go_num, ?_⟩), hBr.out.grown hg9 hz (fun k hk => (hlt.out k hk).1), Nat.le_trans hz hg9.size⟩
            rw [Nat.zero_add, List.nil_append] at hown9
            simpa using hown9
          case measure => simp [intOf]
        · have hlt := World.ownsRow.lt hR
          obtain ⟨va, vc, rfl⟩ := row_slice hR
          have hjoin : (l1 ++ l2).map (Value.int .i64) = l1.map (Value.int .i64) ++ l2.map (Value.int .i64) := List.map_append
          replace hR := hide hR
          replace hlt := hide hlt
          replace hBr := hide hBr
          replace hjoin := hide hjoin
          cases a2 with
          | none =>
            have hn20 : n2 = 0 := by
              by_cases h : n2 = 0
              · exact h
              · obtain ⟨b, o, h', _⟩ := H2.out.2.2.2 0 (by omega)
                simp at h'
            have hc20 := hnil hn20 rfl
            subst hn20
            subst hc20
            have hl20 : l2 = [] := List.eq_nil_of_length_eq_zero HL2.out
            have hnn1 : n = n1 := by have := HNN.out; omega
            replace hl20 := hide hl20
            replace hnn1 := hide hnn1
            go_wp2_with (at_builtin; refine wpList_append_own_none (by rfl) (.tmp 31) (.tmp 32) 22 (by rfl) B 3 i0 1 Try.underlying22 hi.out _ _ _ (by rfl) hR.out (by rfl) ?_)
            go_roundw
            case rel =>
              refine ⟨.inr (.inr ⟨by go_num, ?_⟩), hBr.out, hz⟩
              rw [hl20.out, List.append_nil, hnn1.out]
              exact hR.out
            case measure => simp [intOf]
          | some ad =>
            have X2 : Hid ((∀ j u, (l2.map (Value.int .i64))[j]? = some u → wr.cell? (ad.add j) = some u) ∧ (l2.map (Value.int .i64)).length = n2 * 1 ∧ (∀ u ∈ l2.map (Value.int .i64), u.oneCell' = true)) := by
              refine ⟨fun j u hu => ?_, by rw [List.length_map, HL2.out, Nat.mul_one], fun u hu => ?_⟩
              · have hj : j < l2.length := by have := (List.getElem?_eq_some_iff.1 hu).1; rw [List.length_map] at this; exact this
                obtain ⟨b, o, h', _⟩ := H2.out.2.2.2 j (by have := HL2.out; omega)
                injection h' with h'
                subst h'
                exact Ints.cellsC (H2.out.below (by rw [hB]; exact hBr.out)) j u hu
              · obtain ⟨x, _, rfl⟩ := List.mem_map.1 hu
                rfl
            go_wp2_with (at_builtin; refine wpList_append_own _ (by rfl) (.tmp 31) (.tmp 32) 22 (by rfl) B 3 i0 _ 1 8 Try.underlying22 hi.out hz0.out hzs.out hzb.out rfl (by decide) _ n1 _ (by rfl) hR.out ad n2 c2 (l2.map (Value.int .i64)) (by rfl) X2.out.2.1 X2.out.1 X2.out.2.2 (by unfold maxLen; omega) (by omega) hz ?_; intro v9 w9 hown9 hg9 _; obtain ⟨v9a, v9c, rfl⟩ := row_slice hown9)
            go_roundw
            case rel =>
              refine ⟨.inr (.inr ⟨by go_num, ?_⟩), hBr.out.grown hg9 hz (fun k hk => (hlt.out k hk).1), Nat.le_trans hz hg9.size⟩
              rw [hjoin.out, ← HNN.out]
              exact hown9
            case measure => simp [intOf]
        · obtain ⟨va, vc, rfl⟩ := row_slice hR
          replace hR := hide hR
          go_wp2
          go_ret
          refine ⟨_, rfl, ?_, hBr⟩
          unfold OwnI
          rw [List.length_append, HL1.out, HL2.out, HNN.out]
          exact hR.out

set_option maxRecDepth 10000 in
set_option maxHeartbeats 1000000 in
theorem grow_strs (n : Nat) (h1 : 1 ≤ n) (hn : n ≤ 1000) (w : World) : Calls Try.prog 88 #[.slice none 0 0, .int .i64 (n : Int)] w fun e w' => ∃ u, e = .returned u ∧ w'.ownsRow w.heap.size 9 1 u 0 [] ∧ Below w.heap.size w w' := by
  obtain ⟨i0, hi, hz0, hzs, hzb⟩ := info_parts Try.info9
  obtain ⟨cap, hcap⟩ : ∃ cap, grownCap w n 0 9 = cap := ⟨_, rfl⟩
  have hge : n ≤ cap := by rw [← hcap]; exact grownCap_ge w n 0 _
  have hle : cap ≤ maxLen := by rw [← hcap]; exact grownCap_le_maxLen w n 0 _ (by unfold maxLen; omega)
  have hrun := Go.Lib.run_append_nil_zeros (P := Try.prog) w 25 3 25 9 i0 _ .i64 .i64 Try.underlying25 Try.underlying3 hi hz0 n (by omega) (by rw [hzs]; omega) (by omega) (by rw [hzb]; omega)
  rw [hcap] at hrun
  generalize hcs : (Builtin.zeroCells (.string ⟨#[]⟩ : Value).cells n ++ Builtin.zeroCells (.string ⟨#[]⟩ : Value).cells (cap - n)) = cs at hrun
  have hsz : cs.size = cap * 1 := by rw [← hcs, Array.size_append, size_zeroCells, size_zeroCells]; show n * 1 + (cap - n) * 1 = cap * 1; omega
  have hrow := row_fresh (w := w.drew) (e := 9) (size := 1) cs 0 cap hsz hle (Nat.zero_le _)
  have hB : Below w.heap.size w (w.drew.alloc (.cells cs 9)) := (show Below w.heap.size w w.drew from ⟨rfl, rfl, rfl, Nat.le_refl _, fun _ _ => rfl⟩).alloc (Nat.le_refl _) _
  unfold maxLen at hle
  have hn0 : 0 < n := by omega
  clear hcs hsz hcap
  replace hrow := hide hrow
  replace hB := hide hB
  replace hrun := hide hrun
  generalize hw1 : w.drew.alloc (.cells cs 9) = w1 at hrow hB hrun
  go_enter Try.func88, Try.ntmps88
  go_wp2_with (at_builtin; refine Go.Lib.wpList_append_run _ rfl _ _ _ _ rfl _ _ rfl rfl _ _ hrun.out ?_)
  go_ret
  exact ⟨_, rfl, hrow.out, hB.out⟩

set_option maxRecDepth 10000 in
set_option maxHeartbeats 2000000 in
theorem concat_strs {w : World} (g : Nat) {a1 a2 : Option Addr} {n1 n2 c1 c2 : Nat} {l1 l2 : List ByteArray} (h1 : Strs w a1 n1 l1) (h2 : Strs w a2 n2 l2) (q0 : w.cell? ⟨g, 0, none⟩ = some (.slice a1 n1 c1)) (q1 : w.cell? ⟨g, 1, none⟩ = some (.slice a2 n2 c2)) (hn1 : 1 ≤ n1) (hn : n1 + n2 ≤ 1000) (hnil : n2 = 0 → a2 = none → c2 = 0) :
    Calls Try.prog 62 #[.slice (some ⟨g, 0, none⟩) 2 2] w fun e w' => ∃ u, e = .returned u ∧ OwnS w' w.heap.size u (l1 ++ l2) ∧ Below w.heap.size w w' := by
  obtain ⟨B, hB⟩ : ∃ B, w.heap.size = B := ⟨_, rfl⟩
  rw [hB]
  obtain ⟨n, hnn⟩ : ∃ n, n1 + n2 = n := ⟨_, rfl⟩
  have hw : IntKind.i64.wrap ((n1 : Int) + (n2 : Int)) = (n : Int) := by rw [IntWalk.i64_in _ (by omega)]; omega
  have hn1' : ¬ (n1 : Int) < 0 := by omega
  have hn' : ¬ (n : Int) < 0 := by omega
  have HG := grow_strs n (by omega) (by omega) w
  rw [hB] at HG
  replace HG := hide HG
  have hl1 := h1.1
  have hl2 := h2.1
  obtain ⟨b1, o1, ha1⟩ : ∃ b o, a1 = some ⟨b, o, none⟩ := by obtain ⟨b, o, h, _⟩ := h1.2.2.2 0 (by omega); exact ⟨b, o, h⟩
  subst ha1
  have X1 : Hid ((∀ W, Below B w W → ∀ j u, (l1.map Value.string)[j]? = some u → W.cell? ((⟨b1, o1, none⟩ : Addr).add j) = some u) ∧ (l1.map Value.string).length = n1 * 1 ∧ (∀ u ∈ l1.map Value.string, u.oneCell' = true)) := by
    refine ⟨fun W hW j u hu => Strs.cellsC (h1.below (by rw [hB]; exact hW)) j u hu, by rw [List.length_map, hl1, Nat.mul_one], fun u hu => ?_⟩
    obtain ⟨x, _, rfl⟩ := List.mem_map.1 hu
    rfl
  have hlt0 := block_lt_of_cell q0
  have Q : Hid (∀ W, Below B w W → W.cell? ⟨g, 0, none⟩ = some (.slice (some ⟨b1, o1, none⟩) n1 c1) ∧ W.cell? ⟨g, 1, none⟩ = some (.slice a2 n2 c2)) := fun W hW => ⟨cell_on (by rw [hB]; exact hW) q0, cell_on (by rw [hB]; exact hW) q1⟩
  have H2 := hide h2
  have H1 := hide h1
  have HL1 := hide hl1
  have HL2 := hide hl2
  have HNN := hide hnn
  clear h1 h2 hl1 hl2 hnn
  go_enter Try.func62, Try.ntmps62
  go_wp2
  go_loopw [3, 11] (fun sz i wr => ((i = .int .i64 0 ∧ sz = .int .i64 0) ∨ (i = .int .i64 1 ∧ sz = .int .i64 n1) ∨ (i = .int .i64 2 ∧ sz = .int .i64 n)) ∧ wr = w) (fun _ i _ => 2 - (intOf i).toNat)
  case atStart => exact ⟨.inl ⟨rfl, rfl⟩, rfl⟩
  case round =>
    obtain ⟨hor, hwr⟩ := hrel
    subst wr
    rcases hor with ⟨rfl, rfl⟩ | ⟨rfl, rfl⟩ | ⟨rfl, rfl⟩
    · go_wp2
      go_roundw
      case rel => exact ⟨.inr (.inl ⟨by go_num, by go_num⟩), trivial⟩
      case measure => simp [intOf]
    · go_wp2
      go_roundw
      case rel => exact ⟨.inr (.inr ⟨by go_num, by go_num⟩), trivial⟩
      case measure => simp [intOf]
    · go_wp2_with fail
      refine HG.out.mono ?_
      rintro e w2 ⟨u0, rfl, hR0, hb2⟩
      have hz2 : B ≤ w2.heap.size := by have := hb2.size; omega
      obtain ⟨va0, vc0, rfl⟩ := row_slice hR0
      obtain ⟨i0, hi, hz0, hzs, hzb⟩ := info_parts Try.info9
      replace hi := hide hi
      replace hz0 := hide hz0
      replace hzs := hide hzs
      replace hzb := hide hzb
      replace hR0 := hide hR0
      clear q0 q1 HG
      go_wp2_with fail
      go_loopw [6, 27] (fun v i wr => ((i = .int .i64 0 ∧ wr.ownsRow B 9 1 v 0 []) ∨ (i = .int .i64 1 ∧ wr.ownsRow B 9 1 v n1 (l1.map Value.string)) ∨ (i = .int .i64 2 ∧ wr.ownsRow B 9 1 v n ((l1 ++ l2).map Value.string))) ∧ Below B w wr ∧ B ≤ wr.heap.size) (fun _ i _ => 2 - (intOf i).toNat)
      case atStart => exact ⟨.inl ⟨rfl, hR0.out⟩, hb2, hz2⟩
      case round =>
        clear hR0 hb2 hz2
        obtain ⟨hor, hBr, hz⟩ := hrel
        obtain ⟨q0, q1⟩ := Q.out _ hBr
        rcases hor with ⟨rfl, hR⟩ | ⟨rfl, hR⟩ | ⟨rfl, hR⟩
        · have hlt := World.ownsRow.lt hR
          obtain ⟨va, vc, rfl⟩ := row_slice hR
          replace hR := hide hR
          replace hlt := hide hlt
          replace hBr := hide hBr
          go_wp2_with (at_builtin; refine wpList_append_own _ (by rfl) (.tmp 31) (.tmp 32) 25 (by rfl) B 9 i0 _ 1 16 Try.underlying25 hi.out hz0.out hzs.out hzb.out rfl (by decide) _ 0 [] (by rfl) hR.out ⟨b1, o1, none⟩ n1 c1 (l1.map Value.string) (by rfl) X1.out.2.1 (X1.out.1 _ hBr.out) X1.out.2.2 (by unfold maxLen; omega) (by omega) hz ?_; intro v9 w9 hown9 hg9 _; obtain ⟨v9a, v9c, rfl⟩ := row_slice hown9)
          go_roundw
          case rel =>
            refine ⟨.inr (.inl ⟨by go_num, ?_⟩), hBr.out.grown hg9 hz (fun k hk => (hlt.out k hk).1), Nat.le_trans hz hg9.size⟩
            rw [Nat.zero_add, List.nil_append] at hown9
            simpa using hown9
          case measure => simp [intOf]
        · have hlt := World.ownsRow.lt hR
          obtain ⟨va, vc, rfl⟩ := row_slice hR
          have hjoin : (l1 ++ l2).map Value.string = l1.map Value.string ++ l2.map Value.string := List.map_append
          replace hR := hide hR
          replace hlt := hide hlt
          replace hBr := hide hBr
          replace hjoin := hide hjoin
          cases a2 with
          | none =>
            have hn20 : n2 = 0 := by
              by_cases h : n2 = 0
              · exact h
              · obtain ⟨b, o, h', _⟩ := H2.out.2.2.2 0 (by omega)
                simp at h'
            have hc20 := hnil hn20 rfl
            subst hn20
            subst hc20
            have hl20 : l2 = [] := List.eq_nil_of_length_eq_zero HL2.out
            have hnn1 : n = n1 := by have := HNN.out; omega
            replace hl20 := hide hl20
            replace hnn1 := hide hnn1
            go_wp2_with (at_builtin; refine wpList_append_own_none (by rfl) (.tmp 31) (.tmp 32) 25 (by rfl) B 9 i0 1 Try.underlying25 hi.out _ _ _ (by rfl) hR.out (by rfl) ?_)
            go_roundw
            case rel =>
              refine ⟨.inr (.inr ⟨by go_num, ?_⟩), hBr.out, hz⟩
              rw [hl20.out, List.append_nil, hnn1.out]
              exact hR.out
            case measure => simp [intOf]
          | some ad =>
            have X2 : Hid ((∀ j u, (l2.map Value.string)[j]? = some u → wr.cell? (ad.add j) = some u) ∧ (l2.map Value.string).length = n2 * 1 ∧ (∀ u ∈ l2.map Value.string, u.oneCell' = true)) := by
              refine ⟨fun j u hu => ?_, by rw [List.length_map, HL2.out, Nat.mul_one], fun u hu => ?_⟩
              · have hj : j < l2.length := by have := (List.getElem?_eq_some_iff.1 hu).1; rw [List.length_map] at this; exact this
                obtain ⟨b, o, h', _⟩ := H2.out.2.2.2 j (by have := HL2.out; omega)
                injection h' with h'
                subst h'
                exact Strs.cellsC (H2.out.below (by rw [hB]; exact hBr.out)) j u hu
              · obtain ⟨x, _, rfl⟩ := List.mem_map.1 hu
                rfl
            go_wp2_with (at_builtin; refine wpList_append_own _ (by rfl) (.tmp 31) (.tmp 32) 25 (by rfl) B 9 i0 _ 1 16 Try.underlying25 hi.out hz0.out hzs.out hzb.out rfl (by decide) _ n1 _ (by rfl) hR.out ad n2 c2 (l2.map Value.string) (by rfl) X2.out.2.1 X2.out.1 X2.out.2.2 (by unfold maxLen; omega) (by omega) hz ?_; intro v9 w9 hown9 hg9 _; obtain ⟨v9a, v9c, rfl⟩ := row_slice hown9)
            go_roundw
            case rel =>
              refine ⟨.inr (.inr ⟨by go_num, ?_⟩), hBr.out.grown hg9 hz (fun k hk => (hlt.out k hk).1), Nat.le_trans hz hg9.size⟩
              rw [hjoin.out, ← HNN.out]
              exact hown9
            case measure => simp [intOf]
        · obtain ⟨va, vc, rfl⟩ := row_slice hR
          replace hR := hide hR
          go_wp2
          go_ret
          refine ⟨_, rfl, ?_, hBr⟩
          unfold OwnS
          rw [List.length_append, HL1.out, HL2.out, HNN.out]
          exact hR.out

end Go.Proofs.Ythoimecljfcjmaa
