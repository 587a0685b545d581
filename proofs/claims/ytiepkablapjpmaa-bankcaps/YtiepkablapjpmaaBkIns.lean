/-
  slices.Insert of one text into a row of a call's own.
-/
import Derived.Test.YtiepkablapjpmaaBkCmp
import Derived.Test.YtiepkablapjpmaaHkCat
import Derived.Laws.CopyOwn
import Derived.Lib.AppendZerosOnto
import Derived.Lib.Overlaps
import Derived.Deep.RegionLaw
namespace Go.Proofs.Ytiepkablapjpmaa
open Go.RowKit

theorem splice_grow {α : Type} (R L : List α) (n i : Nat) (x : α) (hR : n + 1 ≤ R.length) (hL : L.length = n) (hi : i ≤ n) (ht : R.take i = L.take i) :
    (splice (splice R i [x]) (i + 1) (L.drop i)).take (n + 1) = L.take i ++ [x] ++ L.drop i := by
  have h1 : (R.take i).length = i := by rw [List.length_take]; omega
  have h2 : splice R i [x] = (R.take i ++ [x]) ++ R.drop (i + 1) := by simp [splice]
  have h3 : (R.take i ++ [x]).length = i + 1 := by rw [List.length_append, h1]; rfl
  have h4 : (splice R i [x]).take (i + 1) = R.take i ++ [x] := by
    rw [h2, List.take_append_of_le_length (by omega), List.take_of_length_le (by omega)]
  have h5 : (L.drop i).length = n - i := by rw [List.length_drop, hL]
  unfold splice at *
  rw [h4, ← List.append_assoc, List.take_append_of_le_length (by rw [List.length_append, h3, h5]; omega), List.take_of_length_le (by rw [List.length_append, h3, h5]; omega), ht]
theorem splice_room {α : Type} (R L : List α) (n i : Nat) (x : α) (hR : n + 1 ≤ R.length) (hL : L.length = n) (hi : i ≤ n) (ht : R.take n = L) :
    (splice (splice R (i + 1) (L.drop i)) i [x]).take (n + 1) = L.take i ++ [x] ++ L.drop i := by
  have h5 : (L.drop i).length = n - i := by rw [List.length_drop, hL]
  have h0 : (R.take (i + 1)).length = i + 1 := by rw [List.length_take]; omega
  have h1 : (splice R (i + 1) (L.drop i)).take i = L.take i := by
    unfold splice
    rw [List.take_append_of_le_length (by omega), List.take_take, ← ht, List.take_take]
    congr 1
    omega
  have h2 : (splice R (i + 1) (L.drop i)).drop (i + 1) = L.drop i ++ R.drop (i + 1 + (L.drop i).length) := by
    unfold splice
    rw [List.drop_append, h0, List.drop_of_length_le (by omega), Nat.sub_self, List.drop_zero, List.nil_append]
  have h3 : (L.take i).length = i := by rw [List.length_take]; omega
  have e : splice (splice R (i + 1) (L.drop i)) i [x] = (L.take i ++ [x] ++ L.drop i) ++ R.drop (i + 1 + (L.drop i).length) := by
    show (splice R (i + 1) (L.drop i)).take i ++ ([x] ++ (splice R (i + 1) (L.drop i)).drop (i + 1)) = _
    rw [h1]
    rw [h2]; simp
  rw [e, List.take_append_of_le_length (by simp; omega), List.take_of_length_le (by simp; omega)]

theorem one_cell {w : World} {vb : Nat} {u0 : Value} (h : w.cell? ⟨vb, 0, none⟩ = some u0) : ∀ j u, ([u0] : List Value)[j]? = some u → w.cell? ((⟨vb, 0, none⟩ : Addr).add j) = some u := by
  intro j u hj
  have : j = 0 := by have := (List.getElem?_eq_some_iff.1 hj).1; simp at this; exact this
  subst this
  rw [Go.WideShapes.add_plain]
  simp at hj
  subst hj
  exact h
/-- copy of cells into a row that is known whole: all else stays. -/
theorem step_copyS {ops : Array Oper} {o : Oper} {a : Act} {w : World} {K : Act → World → Prop} {Q : Exit → Act → World → Prop} {E : Prop} (hgd : o.guard = none) (d s : Operand) (st : TypeId)
    (ho : o.op = .call { callee := .builtin .copy, args := #[d, s], argTypes := #[st, st] }) (elem : TypeId) (hu : Try.prog.underlying st = some (.slice elem)) (hsz : (Try.prog.info? elem).map (·.size) = some 1)
    (dp sp : Option Addr) (dLen dCap sLen sCap : Nat) (hd : a.eval d = .slice dp dLen dCap) (hs : a.eval s = .slice sp sLen sCap)
    (g off : Nat) (cur : List Value) (t : TypeId) (hg : w.heap[g]? = some (.cells cur.toArray t (0, 0))) (cs : List Value) (hn : cs.length = Nat.min sLen dLen)
    (hpos : 0 < cs.length → dp = some ⟨g, off, none⟩ ∧ ∃ ad, sp = some ad ∧ ∀ j v, cs[j]? = some v → w.cell? (ad.add j) = some v)
    (hfit : off + cs.length ≤ cur.length) (h1 : ∀ v ∈ cs, v.oneCell' = true)
    (h : ∀ w', Hid (w'.heap[g]? = some (.cells (splice cur off cs).toArray t (0, 0))) → But g w w' → K (a.put o.dst (goInt cs.length)) w') :
    if Region.wanted o (yielded ops a.tmps) = true then Oper.wp Try.prog o a w K Q else E := by
  have hw : Region.wanted o (yielded ops a.tmps) = true := by simp [Region.wanted, hgd]
  rw [if_pos hw]
  by_cases h0 : cs.length = 0
  · obtain rfl : cs = [] := List.eq_nil_of_length_eq_zero h0
    have hrun := run_copy_none (P := Try.prog) w st st o.type elem dp sp dLen dCap sLen sCap hu hsz (by simpa using hn.symm)
    unfold Oper.wp
    simp [execOp, ho, resolve, invoke, builtin, hd, hs, hrun, Result.andThen]
    exact h w (show _ = _ by simpa [splice] using hg) (But.refl _ _)
  · obtain ⟨rfl, ad, rfl, hsrc⟩ := hpos (by omega)
    have hrun := run_copy_row (P := Try.prog) w st st o.type elem g off dLen dCap ad sLen sCap cur.toArray t cs hu hsz hg hn hsrc (by simpa using hfit) h1
    unfold Oper.wp
    simp [execOp, ho, resolve, invoke, builtin, hd, hs, hrun, Result.andThen]
    exact h _ (show _ = _ by simpa [splice] using setRow_heap w g _ _ t _ hg) ⟨rfl, rfl, rfl, by simp [World.setRow], fun k _ hk => setRow_other w g k _ hk⟩
theorem wpList_copyS {ops : Array Oper} {rest : List Oper} {o : Oper} {a : Act} {w : World} {Q : Exit → Act → World → Prop} (hgd : o.guard = none) (d s : Operand) (st : TypeId)
    (ho : o.op = .call { callee := .builtin .copy, args := #[d, s], argTypes := #[st, st] }) (elem : TypeId) (hu : Try.prog.underlying st = some (.slice elem)) (hsz : (Try.prog.info? elem).map (·.size) = some 1)
    (dp sp : Option Addr) (dLen dCap sLen sCap : Nat) (hd : a.eval d = .slice dp dLen dCap) (hs : a.eval s = .slice sp sLen sCap)
    (g off : Nat) (cur : List Value) (t : TypeId) (hg : w.heap[g]? = some (.cells cur.toArray t (0, 0))) (cs : List Value) (hn : cs.length = Nat.min sLen dLen)
    (hpos : 0 < cs.length → dp = some ⟨g, off, none⟩ ∧ ∃ ad, sp = some ad ∧ ∀ j v, cs[j]? = some v → w.cell? (ad.add j) = some v)
    (hfit : off + cs.length ≤ cur.length) (h1 : ∀ v ∈ cs, v.oneCell' = true)
    (h : ∀ w', Hid (w'.heap[g]? = some (.cells (splice cur off cs).toArray t (0, 0))) → But g w w' → wpList Try.prog ops Q rest (a.put o.dst (goInt cs.length)) w') : wpList Try.prog ops Q (o :: rest) a w :=
  wpList_step fun _ hK => step_copyS hgd d s st ho elem hu hsz dp sp dLen dCap sLen sCap hd hs g off cur t hg cs hn hpos hfit h1 (fun w' h2 h3 => hK _ _ (h w' h2 h3))
theorem sizeStringP : (Try.prog.info? 9).map (·.size) = some 1 := by kernel_rfl
theorem sizeOfString : ∀ w, (Go.sizeOf 9).run Try.prog w = .ok 1 w := fun w => by
  obtain ⟨i0, hi, hz0, hz1, hz2⟩ := info_parts Try.info9
  simp [Go.sizeOf, typeInfo, hi, hz1]

set_option maxRecDepth 100000 in
set_option maxHeartbeats 4000000 in
theorem insertT_any {w : World} {B : Nat} {v : Value} {l : List ByteArray} (h : OwnS w B v l) (hB : B ≤ w.heap.size) (i : Nat) (hi : i ≤ l.length) (hlen : l.length ≤ 1000) (x : ByteArray) (vb : Nat) (hvb : w.heap[vb]? = some (.cells #[.string x] 9 (0, 0))) (hne : v.ownBlock ≠ some vb) :
    Calls Try.prog 64 #[v, .int .i64 (i : Int), .slice (some ⟨vb, 0, none⟩) 1 1] w fun e w' => ∃ u, e = .returned u ∧ OwnS w' B u (l.take i ++ [x] ++ l.drop i) ∧ Below B w w' := by
  obtain ⟨n, hn⟩ : ∃ n, l.length = n := ⟨_, rfl⟩
  rw [hn] at hi hlen
  have hlt := World.ownsRow.lt h
  have hx0 : w.cell? ⟨vb, 0, none⟩ = some (.string x) := by rw [cell_of_row w vb 0 _ _ _ hvb]; rfl
  have hres : (l.take i ++ [x] ++ l.drop i).length = n + 1 := by simp; omega
  have hmap : (l.take i ++ [x] ++ l.drop i).map Value.string = (l.map Value.string).take i ++ [Value.string x] ++ (l.map Value.string).drop i := by simp
  unfold OwnS at h ⊢
  rw [hn] at h
  rw [hres, hmap]
  obtain ⟨L, hL⟩ : ∃ L, l.map Value.string = L := ⟨_, rfl⟩
  have h1L : ∀ u ∈ L, u.oneCell' = true := by
    rw [← hL]; intro u hu; obtain ⟨y, _, rfl⟩ := List.mem_map.1 hu; rfl
  have hLn : L.length = n := by rw [← hL, List.length_map, hn]
  rw [hL] at h ⊢
  have hl1 : 0 < [Value.string x].length := by simp
  clear hres hmap hL hn
  obtain ⟨i0, hi0, hz0, hzs, hzb⟩ := info_parts Try.info9
  by_cases hin : i = n
  · -- at the end
    subst hin
    obtain ⟨va, vc, rfl⟩ := row_slice h
    have hvi := World.ownsRow.kept h (below_grown (Below.refl w.heap.size w)) (by cases (Value.slice va i vc).ownBlock <;> simp)
    have hfin : L.take i ++ [Value.string x] ++ L.drop i = L ++ [Value.string x] := by rw [List.take_of_length_le (by omega), List.drop_of_length_le (by omega), List.append_nil]
    rw [hfin]
    have hcap : i ≤ vc := by
      rcases h.2 with ⟨h1, h2⟩ | ⟨g, cap, cur, h1, _, _, h3, _⟩
      · omega
      · injection h1 with _ _ h1; omega
    have hnil : va = none → vc = 0 := own_nil h
    have hsl : (i : Int) ≤ (vc : Int) := by omega
    replace h := hide h
    replace hlt := hide hlt
    clear hfin
    cases va with
    | none =>
      obtain rfl := hnil rfl
      obtain rfl : i = 0 := by omega
      go_enter Try.func64, Try.ntmps64
      go_wp2_with (at_builtin; refine wpList_append_own _ (by rfl) (.tmp 23) (.tmp 24) 23 (by rfl) B 9 i0 _ 1 16 Try.underlying23 hi0 hz0 hzs hzb rfl (by decide) _ 0 L (by rfl) h.out ⟨vb, 0, none⟩ 1 1 [.string x] (by rfl) (by simp) (one_cell hx0) (by intro u hu; simp at hu; subst hu; rfl) (by unfold maxLen; omega) (by omega) hB ?_; intro v9 w9 hown9 hg9 _; obtain ⟨v9a, v9c, rfl⟩ := row_slice hown9)
      go_ret
      exact ⟨_, rfl, hown9, (Below.refl B w).grown hg9 hB (fun k hk => (hlt.out k hk).1)⟩
    | some ad =>
      go_enter Try.func64, Try.ntmps64
      go_wp2_with (at_builtin; refine wpList_append_own _ (by rfl) (.tmp 23) (.tmp 24) 23 (by rfl) B 9 i0 _ 1 16 Try.underlying23 hi0 hz0 hzs hzb rfl (by decide) _ i L (by rfl) h.out ⟨vb, 0, none⟩ 1 1 [.string x] (by rfl) (by simp) (one_cell hx0) (by intro u hu; simp at hu; subst hu; rfl) (by unfold maxLen; omega) (by omega) hB ?_; intro v9 w9 hown9 hg9 _; obtain ⟨v9a, v9c, rfl⟩ := row_slice hown9)
      all_goals (go_ret; exact ⟨_, rfl, hown9, (Below.refl B w).grown hg9 hB (fun k hk => (hlt.out k hk).1)⟩)
  · have hilt : i < n := by omega
    rcases h.2 with ⟨rfl, h0⟩ | ⟨g, c, cur, rfl, hg, hcur, hnc, hcm, hcs, htk⟩
    · omega
    have hz1 : ((i : Int) == (n : Int)) = false := by rw [beq_eq_false_iff_ne]; omega
    have hgv : g ≠ vb := fun e => hne (by rw [e]; rfl)
    rw [Nat.mul_one] at hcs htk
    unfold maxLen at hcm
    have hcl : cur.toList.length = c := by rw [Array.length_toList]; exact hcs
    have hib : (i : Int) ≤ (n : Int) := by omega
    have hcells : ∀ j u, (L.drop i)[j]? = some u → w.cell? ⟨g, i + j, none⟩ = some u := fun j u hj => by
      rw [cell_of_row w g (i + j) _ _ _ hcur, ← Array.getElem?_toList]
      rw [List.getElem?_drop, ← htk, List.getElem?_take] at hj
      split at hj
      · exact hj
      · exact absurd hj (by simp)
    have hdl : (L.drop i).length = n - i := by rw [List.length_drop, hLn]
    have h1D : ∀ u ∈ L.drop i, u.oneCell' = true := fun u hu => h1L u (List.mem_of_mem_drop hu)
    have hw1 : IntKind.i64.wrap ((i : Int) + 1) = ((i + 1 : Nat) : Int) := by rw [IntWalk.i64_in _ (by omega)]; omega
    by_cases hroom : n + 1 ≤ c
    · -- in place
      have hrm : ¬ (c : Int) < (n : Int) + 1 := by omega
      have hov : ∀ (W : World) lb cb, W.heap = w.heap → (callFunc 70 #[.slice (some ⟨vb, 0, none⟩) 1 1, .slice (some ⟨g, i + 1, none⟩) lb cb]).run Try.prog W = .ok (.value (.bool false)) W := fun W lb cb hW => by
        rw [run_callFunc_extern Try.func70 (by kernel_rfl) (by kernel_rfl) (by kernel_rfl) (e := Extern.SlicesOverlaps.overlaps #[23, 23] #[4]) (by kernel_rfl),
          Lib.run_overlaps_apart W 23 4 9 Try.underlying23 1 sizeOfString ⟨vb, 0, none⟩ ⟨g, i + 1, none⟩ 1 1 lb cb (fun e => hgv e.symm) 9 9 1 cur.size
            (by unfold World.shape?; rw [hW, hvb]; rfl) (by unfold World.shape?; rw [hW, hcur]) (by omega) (by unfold World.frozen?; rw [hW, hvb]; rfl) (by unfold World.frozen?; rw [hW, hvb]; rfl)]
        rfl
      have hfin := splice_room cur.toList L n i (.string x) (by rw [Array.length_toList]; omega) hLn (by omega) htk
      obtain ⟨D, hD⟩ : ∃ D, L.drop i = D := ⟨_, rfl⟩
      rw [hD] at hdl h1D hcells
      have hp1 : (0 : Int) ≤ (i : Int) + 1 := by omega
      have hp2 : (i : Int) ≤ (n : Int) + 1 := by omega
      have hci : ¬ (c = i) := by omega
      have hci1 : ¬ (c = i + 1) := by omega
      have hgB : B ≤ g := hg
      replace hov := hide (hov w)
      replace hfin := hide hfin
      replace hD := hide hD
      clear h hlt htk
      go_enter Try.func64, Try.ntmps64
      go_wp2_with (simp only [hov.out _ _ rfl])
      go_region_law (refine step_copyS rfl (.tmp 73) (.tmp 76) 23 rfl 9 Try.underlying23 sizeStringP (some ⟨g, i + 1, none⟩) (some ⟨g, i, none⟩) (n - i) (c - (i + 1)) (n + 1 - i) (c - i) (by simp [Act.eval, Act.put]) (by simp [Act.eval, Act.put]) g (i + 1) cur.toList 9 (by rw [Array.toArray_toList]; exact hcur) D (by rw [hdl]; simp only [Nat.min_def]; split <;> omega) (fun _ => ⟨rfl, _, rfl, fun j u hj => by rw [Go.WideShapes.add_plain]; exact hcells j u hj⟩) (by rw [hcl, hdl]; omega) h1D ?_; intro w4 hg4 hb4)
      all_goals
        have hx4 : w4.cell? ⟨vb, 0, none⟩ = some (.string x) := hb4.cell (fun e => hgv e.symm) hx0
        have hb5 : But g w w4 := (show But g w w.drew from (But.refl g w).drew).trans hb4
        have hl4 : (splice cur.toList (i + 1) D).length = c := by rw [length_splice _ _ _ (by rw [hdl, hcl]; omega), hcl]
        replace hg4 := hide hg4.out
        replace hb5 := hide hb5
        clear hb4
        go_wp2_with ((with_reducible refine wpList_at ?_); refine wpList_copyS (by rfl) (.tmp 80) (.tmp 81) 23 (by rfl) 9 Try.underlying23 sizeStringP (some ⟨g, i, none⟩) (some ⟨vb, 0, none⟩) (n + 1 - i) (c - i) 1 1 (by rfl) (by rfl) g i (splice cur.toList (i + 1) D) 9 hg4.out [.string x] (by rw [List.length_singleton]; exact (Nat.min_eq_left (by omega)).symm) (fun _ => ⟨rfl, _, rfl, one_cell hx4⟩) (by rw [hl4, List.length_singleton]; omega) (by intro u hu; simp at hu; subst hu; rfl) ?_; intro w5 hg5 hb6)
        go_ret
        refine ⟨_, rfl, ⟨by simp [hLn, hdl, hD.out]; omega, .inr ⟨g, c, _, rfl, hgB, hg5.out, hroom, by unfold maxLen; omega, ?_, ?_⟩⟩, (hb5.out.trans hb6).below hgB hB⟩
        · rw [List.size_toArray, length_splice _ _ _ (by rw [hl4]; simp; omega), hl4, Nat.mul_one]
        · rw [List.toList_toArray, Nat.mul_one, ← hD.out]; exact hfin.out
    · -- in a new row
      have hcn : c = n := by omega
      subst hcn
      have hrm : (c : Int) < (c : Int) + 1 := by omega
      obtain ⟨D, hD⟩ : ∃ D, L.drop i = D := ⟨_, rfl⟩
      obtain ⟨G, hG⟩ : ∃ G, grownCap w (c + 1) c 9 = G := ⟨_, rfl⟩
      have hge : c + 1 ≤ G := by rw [← hG]; exact grownCap_ge w (c + 1) c _
      have hle : G ≤ maxLen := by rw [← hG]; exact grownCap_le_maxLen w (c + 1) c _ (by unfold maxLen; omega)
      have hkk : (c : Int) + 1 - (i : Int) = ((c + 1 - i : Nat) : Int) := by omega
      have hik : i + (c + 1 - i) = c + 1 := by omega
      have hold : (Builtin.firstCells i0.size i (.slice (some ⟨g, 0, none⟩) i c)).run Try.prog w.drew = .ok (L.take i).toArray w.drew := by
        rw [hzs]
        exact run_firstCells_some w.drew 1 i ⟨g, 0, none⟩ i c (L.take i) (by rw [List.length_take]; omega) (fun j u hj => by
          rw [Go.WideShapes.add_plain]
          show w.cell? _ = _
          rw [List.getElem?_take] at hj
          split at hj
          · rw [Nat.zero_add, cell_of_row w g j _ _ _ hcur, ← Array.getElem?_toList]
            rw [← htk, List.getElem?_take] at hj
            split at hj
            · exact hj
            · exact absurd hj (by simp)
          · exact absurd hj (by simp))
      obtain ⟨R, hR, hRl, hRt⟩ : ∃ R : Array Value, R = (L.take i).toArray ++ Builtin.zeroCells (Value.string ⟨#[]⟩).cells (c + 1 - i) ++ Builtin.zeroCells (Value.string ⟨#[]⟩).cells (G - (c + 1)) ∧ R.size = G ∧ R.toList.take i = L.take i := by
        have h3 : (L.take i).length = i := by rw [List.length_take]; omega
        refine ⟨_, rfl, ?_, ?_⟩
        · rw [Array.size_append, Array.size_append, size_zeroCells, size_zeroCells, List.size_toArray, h3]
          show i + (c + 1 - i) * 1 + (G - (c + 1)) * 1 = G; omega
        · rw [Array.toList_append, Array.toList_append, List.append_assoc, List.toList_toArray, List.take_append_of_le_length (by omega), List.take_of_length_le (by omega)]
      have hrz : ∀ ty, (Builtin.append_ #[23, 3] ty #[.slice (some ⟨g, 0, none⟩) i c, .int .i64 ((c : Int) + 1 - (i : Int))]).run Try.prog w = .ok (.slice (some ⟨w.heap.size, 0, none⟩) (c + 1) G) (w.drew.alloc (.cells R 9)) := fun ty => by
        have h := Lib.run_append_grow_zeros w 23 3 ty 9 i0 _ .i64 .i64 Try.underlying23 Try.underlying3 hi0 hz0 (some ⟨g, 0, none⟩) i c (L.take i) hold (c + 1 - i) (by omega) (by omega) (by omega) (by omega) (by rw [hzb]; omega) (by rw [hzb, hik]; exact growslice_fits (by omega) (by omega))
        rw [hik, hG] at h
        rw [hkk, hR]
        exact h
      have hfin := splice_grow R.toList L c i (.string x) (by rw [Array.length_toList]; omega) hLn (by omega) hRt
      have hgW : (w.drew.alloc (.cells R 9)).heap[w.heap.size]? = some (.cells R 9 (0, 0)) := heap_alloc_new w.drew _
      have hbW : Below w.heap.size w (w.drew.alloc (.cells R 9)) := (show Below w.heap.size w w.drew from ⟨rfl, rfl, rfl, Nat.le_refl _, fun _ _ => rfl⟩).alloc (Nat.le_refl _) _
      rw [hD] at hdl h1D hcells
      unfold maxLen at hle
      have hRcl : R.toList.length = G := by rw [Array.length_toList]; exact hRl
      have hci : ¬ (c = i) := by omega
      have hGi : ¬ (G = i) := by omega
      have hGi1 : ¬ (G = i + 1) := by omega
      have hp1 : (0 : Int) ≤ (i : Int) + 1 := by omega
      have hp3 : (i : Int) ≤ (c : Int) + 1 := by omega
      obtain ⟨q, hq⟩ : ∃ q, w.heap.size = q := ⟨_, rfl⟩
      rw [hq] at hrz hgW hbW
      generalize w.drew.alloc (.cells R 9) = W1 at hrz hgW hbW
      have hx1 : W1.cell? ⟨vb, 0, none⟩ = some (.string x) := cell_on (by rw [hq]; exact hbW) hx0
      have hcs1 : ∀ j u, D[j]? = some u → W1.cell? ⟨g, i + j, none⟩ = some u := fun j u hj => cell_on (by rw [hq]; exact hbW) (hcells j u hj)
      have hvq : vb < q := by rw [← hq]; exact (Array.getElem?_eq_some_iff.1 hvb).1
      have hgq : g < q := by rw [← hq]; exact (Array.getElem?_eq_some_iff.1 hcur).1
      have hqB : B ≤ q := by rw [← hq]; exact hB
      replace hfin := hide hfin
      replace hD := hide hD
      replace hbW := hide hbW
      replace hgW := hide hgW
      replace hrz := hide hrz
      replace hcs1 := hide hcs1
      replace hq := hide hq
      clear h hlt htk hold hR hRt hkk hG hcells hcur hvb hx0 hik
      go_enter Try.func64, Try.ntmps64
      go_wp2_with (first
        | (at_builtin; refine Lib.wpList_append_run _ rfl _ _ _ _ rfl _ _ rfl rfl _ _ (hrz.out _) ?_)
        | ((with_reducible refine wpList_at ?_); refine wpList_copyS (by rfl) (.tmp 43) (.tmp 44) 23 (by rfl) 9 Try.underlying23 sizeStringP (some ⟨q, i, none⟩) (some ⟨vb, 0, none⟩) (c + 1 - i) (G - i) 1 1 (by rfl) (by rfl) q i R.toList 9 (by rw [Array.toArray_toList]; exact hgW.out) [.string x] (by rw [List.length_singleton]; exact (Nat.min_eq_left (by omega)).symm) (fun _ => ⟨rfl, _, rfl, one_cell hx1⟩) (by rw [hRcl, List.length_singleton]; omega) (by intro u hu; simp at hu; subst hu; rfl) ?_; intro w4 hg4 hb4))
      have hl4 : (splice R.toList i [Value.string x]).length = G := by rw [length_splice _ _ _ (by rw [hRcl, List.length_singleton]; omega), hRcl]
      have hcs4 : ∀ j u, D[j]? = some u → w4.cell? ⟨g, i + j, none⟩ = some u := fun j u hj => hb4.cell (by show g ≠ q; omega) (hcs1.out j u hj)
      replace hg4 := hide hg4.out
      replace hb4 := hide hb4
      go_region_law (refine step_copyS rfl (.tmp 50) (.tmp 53) 23 rfl 9 Try.underlying23 sizeStringP (some ⟨q, i + 1, none⟩) (some ⟨g, i, none⟩) (c - i) (G - (i + 1)) (c - i) (c - i) (by simp [Act.eval, Act.put]) (by simp [Act.eval, Act.put]) q (i + 1) (splice R.toList i [Value.string x]) 9 hg4.out D (by rw [hdl]; exact (Nat.min_self _).symm) (fun _ => ⟨rfl, _, rfl, fun j u hj => by rw [Go.WideShapes.add_plain]; exact hcs4 j u hj⟩) (by rw [hl4]; omega) h1D ?_; intro w5 hg5 hb5)
      all_goals
        replace hg5 := hide hg5.out
        replace hb5 := hide hb5
        go_wp2
        go_ret
        refine ⟨_, rfl, ⟨by simp [hLn, hdl, hD.out]; omega, .inr ⟨q, G, _, rfl, hqB, hg5.out, hge, by unfold maxLen; omega, ?_, ?_⟩⟩, ?_⟩
        · rw [List.size_toArray, length_splice _ _ _ (by rw [hl4]; omega), hl4, Nat.mul_one]
        · rw [List.toList_toArray, Nat.mul_one, ← hD.out]; exact hfin.out
        · have hbq : Below q w w5 := by
            have h4 := hb4.out.below (B := q) (Nat.le_refl _) (by have := hbW.out.size; have := hq.out; omega)
            have h5 := (But.drew (But.refl q w4)).trans hb5.out
            have h6 := h5.below (B := q) (Nat.le_refl _) (by have := hbW.out.size; have := hb4.out.size; have := hq.out; omega)
            exact hbW.out.trans (h4.trans h6)
          exact hbq.mono hqB

end Go.Proofs.Ytiepkablapjpmaa
