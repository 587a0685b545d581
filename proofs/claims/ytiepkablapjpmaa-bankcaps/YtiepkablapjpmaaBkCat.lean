/-
  Funds: slices.Grow of nothing, slices.Concat of three, slices.Clone.
-/
import Derived.Test.YtiepkablapjpmaaBkM
import Derived.Test.YtiepkablapjpmaaHkCat
import Derived.Lib.AppendZeros
import Derived.Laws.AppendOwnNone
import Derived.Lib.SliceRun
import Derived.Handy
namespace Go.Proofs.Ytiepkablapjpmaa
open Go.RowKit

/-- A slice of funds: where it is nil, it is nothing. -/
def FPart (w : World) (a : Option Addr) (n c : Nat) (l : List FundM) : Prop := l.length = n ∧ Funds w a l ∧ (a = none → c = 0)
theorem FPart.below {w w' : World} {a : Option Addr} {n c : Nat} {l : List FundM} (h : FPart w a n c l) (hb : Below w.heap.size w w') : FPart w' a n c l := ⟨h.1, h.2.1.below hb, h.2.2⟩
theorem FPart.nil {w : World} {n c : Nat} {l : List FundM} (h : FPart w none n c l) : n = 0 ∧ c = 0 ∧ l = [] := by
  have hl : l = [] := by
    cases l with
    | nil => rfl
    | cons x l => obtain ⟨b, o, h1, _⟩ := h.2.1 0 (by simp); simp at h1
  exact ⟨by rw [← h.1, hl]; rfl, h.2.2 rfl, hl⟩
theorem FPart.news {w : World} {ad : Addr} {n c : Nat} {l : List FundM} (h : FPart w (some ad) n c l) : ∀ j u, (l.flatMap fcells)[j]? = some u → w.cell? (ad.add j) = some u := by
  cases l with
  | nil => intro j u hu; simp at hu
  | cons x l =>
    obtain ⟨b, o, h1, _⟩ := h.2.1 0 (by simp)
    injection h1 with h1
    subst h1
    exact Funds.cells h.2.1

/-- append of such a slice to a row of a call's own. -/
theorem wpList_appF {ops : Array Oper} {rest : List Oper} {o : Oper} {a : Act} {w : World} {Q : Exit → Act → World → Prop} (hgd : o.guard = none) (s x : Operand)
    (ho : o.op = .call { callee := .builtin .append, args := #[s, x], argTypes := #[24, 24] })
    (B : Nat) (v : Value) (n : Nat) (xs : List Value) (hs : a.eval s = v) (hown : w.ownsRow B 37 3 v n xs) (ap : Option Addr) (m c : Nat) (l : List FundM) (hx : a.eval x = .slice ap m c) (hp : FPart w ap m c l) (hn : n + m ≤ 1000000) (hB : B ≤ w.heap.size)
    (h : ∀ va vc w', w'.ownsRow B 37 3 (.slice va (n + m) vc) (n + m) (xs ++ l.flatMap fcells) → w.grownBy w' v.ownBlock → wpList Try.prog ops Q rest (a.put o.dst (.slice va (n + m) vc)) w') : wpList Try.prog ops Q (o :: rest) a w := by
  obtain ⟨i0, hi, hz0, hz1, hz2⟩ := info_parts Try.info37
  cases ap with
  | none =>
    obtain ⟨rfl, rfl, rfl⟩ := hp.nil
    refine wpList_append_own_none hgd s x 24 ho B 37 i0 3 Try.underlying24 hi _ _ _ hs hown hx ?_
    obtain ⟨va, vc, rfl⟩ := row_slice hown
    refine h va vc w ?_ ⟨rfl, rfl, rfl, Nat.le_refl _, fun _ _ _ => rfl⟩
    simpa using hown
  | some ad =>
    refine wpList_append_own _ hgd s x 24 ho B 37 i0 _ 3 40 Try.underlying24 hi hz0 hz1 hz2 rfl (by decide) v n xs hs hown ad m c (l.flatMap fcells) hx (by rw [fcells_len, hp.1]) hp.news (fcells_one l) (by unfold maxLen; omega) (by omega) hB ?_
    intro v' w' h2 h3 _
    obtain ⟨va, vc, rfl⟩ := row_slice h2
    exact h va vc w' h2 h3

set_option maxRecDepth 10000 in
set_option maxHeartbeats 1000000 in
theorem grow_funds (n : Nat) (hn : n ≤ 1000) (w : World) : Calls Try.prog 63 #[.slice none 0 0, .int .i64 (n : Int)] w fun e w' => ∃ a c, e = .returned (.slice a 0 c) ∧ w'.ownsRow w.heap.size 37 3 (.slice a 0 c) 0 [] ∧ Below w.heap.size w w' := by
  by_cases h1 : n = 0
  · subst h1
    go_enter Try.func63, Try.ntmps63
    go_wp2
    go_ret
    exact ⟨none, 0, rfl, World.ownsRow_nil _ _ _ _, Below.refl _ _⟩
  obtain ⟨i0, hi, hz0, hzs, hzb⟩ := info_parts Try.info37
  obtain ⟨cap, hcap⟩ : ∃ cap, grownCap w n 0 37 = cap := ⟨_, rfl⟩
  have hge : n ≤ cap := by rw [← hcap]; exact grownCap_ge w n 0 _
  have hle : cap ≤ maxLen := by rw [← hcap]; exact grownCap_le_maxLen w n 0 _ (by unfold maxLen; omega)
  have hrun := Go.Lib.run_append_nil_zeros (P := Try.prog) w 24 3 24 37 i0 _ .i64 .i64 Try.underlying24 Try.underlying3 hi hz0 n (by omega) (by rw [hzs]; omega) (by omega) (by rw [hzb]; omega)
  rw [hcap] at hrun
  generalize hcs : (Builtin.zeroCells (.agg #[.string ⟨#[]⟩, .string ⟨#[]⟩, .int .i64 0] : Value).cells n ++ Builtin.zeroCells (.agg #[.string ⟨#[]⟩, .string ⟨#[]⟩, .int .i64 0] : Value).cells (cap - n)) = cs at hrun
  have hsz : cs.size = cap * 3 := by rw [← hcs, Array.size_append, size_zeroCells, size_zeroCells]; show n * 3 + (cap - n) * 3 = cap * 3; omega
  have hrow := row_fresh (w := w.drew) (e := 37) (size := 3) cs 0 cap hsz hle (Nat.zero_le _)
  have hB : Below w.heap.size w (w.drew.alloc (.cells cs 37)) := (show Below w.heap.size w w.drew from ⟨rfl, rfl, rfl, Nat.le_refl _, fun _ _ => rfl⟩).alloc (Nat.le_refl _) _
  unfold maxLen at hle
  have hn0 : 0 < n := by omega
  clear hcs hsz hcap
  replace hrow := hide hrow
  replace hB := hide hB
  replace hrun := hide hrun
  generalize hw1 : w.drew.alloc (.cells cs 37) = w1 at hrow hB hrun
  go_enter Try.func63, Try.ntmps63
  go_wp2_with (at_builtin; refine Go.Lib.wpList_append_run _ rfl _ _ _ _ rfl _ _ rfl rfl _ _ hrun.out ?_)
  go_ret
  exact ⟨_, _, rfl, hrow.out, hB.out⟩

set_option maxRecDepth 10000 in
set_option maxHeartbeats 2000000 in
theorem concat_funds {w : World} (g : Nat) {a1 a2 a3 : Option Addr} {n1 n2 n3 c1 c2 c3 : Nat} {l1 l2 l3 : List FundM} (h1 : FPart w a1 n1 c1 l1) (h2 : FPart w a2 n2 c2 l2) (h3 : FPart w a3 n3 c3 l3)
    (q0 : w.cell? ⟨g, 0, none⟩ = some (.slice a1 n1 c1)) (q1 : w.cell? ⟨g, 1, none⟩ = some (.slice a2 n2 c2)) (q2 : w.cell? ⟨g, 2, none⟩ = some (.slice a3 n3 c3)) (hn : n1 + n2 + n3 ≤ 1000) :
    Calls Try.prog 44 #[.slice (some ⟨g, 0, none⟩) 3 3] w fun e w' => ∃ u, e = .returned u ∧ OwnF w' w.heap.size u (l1 ++ l2 ++ l3) ∧ Below w.heap.size w w' := by
  obtain ⟨B, hB⟩ : ∃ B, w.heap.size = B := ⟨_, rfl⟩
  rw [hB]
  obtain ⟨n12, hn12⟩ : ∃ n, n1 + n2 = n := ⟨_, rfl⟩
  obtain ⟨n, hnn⟩ : ∃ n, n12 + n3 = n := ⟨_, rfl⟩
  have hw : IntKind.i64.wrap ((n1 : Int) + (n2 : Int)) = (n12 : Int) := by rw [IntWalk.i64_in _ (by omega)]; omega
  have hw2 : IntKind.i64.wrap ((n12 : Int) + (n3 : Int)) = (n : Int) := by rw [IntWalk.i64_in _ (by omega)]; omega
  have hn1' : ¬ (n1 : Int) < 0 := by omega
  have hn2' : ¬ (n12 : Int) < 0 := by omega
  have hn' : ¬ (n : Int) < 0 := by omega
  have HG := grow_funds n (by omega) w
  rw [hB] at HG
  replace HG := hide HG
  have Q : Hid (∀ W, Below B w W → (W.cell? ⟨g, 0, none⟩ = some (.slice a1 n1 c1) ∧ W.cell? ⟨g, 1, none⟩ = some (.slice a2 n2 c2) ∧ W.cell? ⟨g, 2, none⟩ = some (.slice a3 n3 c3)) ∧ FPart W a1 n1 c1 l1 ∧ FPart W a2 n2 c2 l2 ∧ FPart W a3 n3 c3 l3) := fun W hW => by
    have hW' : Below w.heap.size w W := by rw [hB]; exact hW
    exact ⟨⟨cell_on hW' q0, cell_on hW' q1, cell_on hW' q2⟩, h1.below hW', h2.below hW', h3.below hW'⟩
  have HL : Hid (l1.length = n1 ∧ l2.length = n2 ∧ l3.length = n3) := ⟨h1.1, h2.1, h3.1⟩
  have HNN := hide hnn
  have HN12 := hide hn12
  have HS : Hid (n1 + n2 + n3 ≤ 1000) := hn
  have hm1 : (n1 : Int) ≤ 1000 := by omega
  have hm2 : (n12 : Int) ≤ 1000 := by omega
  have hm3 : (n : Int) ≤ 1000 := by omega
  clear h1 h2 h3 hnn hn12 hn
  go_enter Try.func44, Try.ntmps44
  go_wp2
  go_loopw [3, 11] (fun sz i wr => ((i = .int .i64 0 ∧ sz = .int .i64 0) ∨ (i = .int .i64 1 ∧ sz = .int .i64 n1) ∨ (i = .int .i64 2 ∧ sz = .int .i64 n12) ∨ (i = .int .i64 3 ∧ sz = .int .i64 n)) ∧ wr = w) (fun _ i _ => 3 - (intOf i).toNat)
  case atStart => exact ⟨.inl ⟨rfl, rfl⟩, rfl⟩
  case round =>
    obtain ⟨hor, hwr⟩ := hrel
    subst wr
    rcases hor with ⟨rfl, rfl⟩ | ⟨rfl, rfl⟩ | ⟨rfl, rfl⟩ | ⟨rfl, rfl⟩
    · go_wp2
      go_roundw
      case rel => exact ⟨.inr (.inl ⟨by go_num, by go_num⟩), trivial⟩
      case measure => simp [intOf]
    · go_wp2
      go_roundw
      case rel => exact ⟨.inr (.inr (.inl ⟨by go_num, by go_num⟩)), trivial⟩
      case measure => simp [intOf]
    · go_wp2
      go_roundw
      case rel => exact ⟨.inr (.inr (.inr ⟨by go_num, by go_num⟩)), trivial⟩
      case measure => simp [intOf]
    · go_wp2_with fail
      refine HG.out.mono ?_
      rintro e w2 ⟨u0, d0, rfl, hR0, hb2⟩
      have hz2 : B ≤ w2.heap.size := by have := hb2.size; omega
      replace hR0 := hide hR0
      clear q0 q1 q2 HG
      go_wp2_with fail
      go_loopw [6, 27] (fun v i wr => ((i = .int .i64 0 ∧ wr.ownsRow B 37 3 v 0 []) ∨ (i = .int .i64 1 ∧ wr.ownsRow B 37 3 v n1 (l1.flatMap fcells)) ∨ (i = .int .i64 2 ∧ wr.ownsRow B 37 3 v n12 ((l1 ++ l2).flatMap fcells)) ∨ (i = .int .i64 3 ∧ wr.ownsRow B 37 3 v n ((l1 ++ l2 ++ l3).flatMap fcells))) ∧ Below B w wr ∧ B ≤ wr.heap.size) (fun _ i _ => 3 - (intOf i).toNat)
      case atStart => exact ⟨.inl ⟨rfl, hR0.out⟩, hb2, hz2⟩
      case round =>
        clear hR0 hb2 hz2
        obtain ⟨hor, hBr, hz⟩ := hrel
        obtain ⟨⟨q0, q1, q2⟩, p1, p2, p3⟩ := Q.out _ hBr
        rcases hor with ⟨rfl, hR⟩ | ⟨rfl, hR⟩ | ⟨rfl, hR⟩ | ⟨rfl, hR⟩
        · have hlt := World.ownsRow.lt hR
          obtain ⟨va, vc, rfl⟩ := row_slice hR
          replace hR := hide hR
          replace hlt := hide hlt
          replace hBr := hide hBr
          replace p1 := hide p1
          clear p2 p3
          go_wp2_with (at_builtin; refine wpList_appF (by rfl) (.tmp 31) (.tmp 32) (by rfl) B _ 0 [] (by rfl) hR.out a1 n1 c1 l1 (by rfl) p1.out (by have := HS.out; omega) hz ?_; intro v9a v9c w9 hown9 hg9)
          go_roundw
          case rel =>
            refine ⟨.inr (.inl ⟨by go_num, ?_⟩), hBr.out.grown hg9 hz (fun k hk => (hlt.out k hk).1), Nat.le_trans hz hg9.size⟩
            rw [Nat.zero_add, List.nil_append] at hown9
            simpa using hown9
          case measure => simp [intOf]
        · have hlt := World.ownsRow.lt hR
          obtain ⟨va, vc, rfl⟩ := row_slice hR
          replace hR := hide hR
          replace hlt := hide hlt
          replace hBr := hide hBr
          replace p2 := hide p2
          clear p1 p3
          go_wp2_with (at_builtin; refine wpList_appF (by rfl) (.tmp 31) (.tmp 32) (by rfl) B _ n1 _ (by rfl) hR.out a2 n2 c2 l2 (by rfl) p2.out (by have := HS.out; omega) hz ?_; intro v9a v9c w9 hown9 hg9)
          go_roundw
          case rel =>
            refine ⟨.inr (.inr (.inl ⟨by go_num, ?_⟩)), hBr.out.grown hg9 hz (fun k hk => (hlt.out k hk).1), Nat.le_trans hz hg9.size⟩
            rw [List.flatMap_append, ← HN12.out]
            exact hown9
          case measure => simp [intOf]
        · have hlt := World.ownsRow.lt hR
          obtain ⟨va, vc, rfl⟩ := row_slice hR
          replace hR := hide hR
          replace hlt := hide hlt
          replace hBr := hide hBr
          replace p3 := hide p3
          clear p1 p2
          go_wp2_with (at_builtin; refine wpList_appF (by rfl) (.tmp 31) (.tmp 32) (by rfl) B _ n12 _ (by rfl) hR.out a3 n3 c3 l3 (by rfl) p3.out (by have := HS.out; have := HN12.out; omega) hz ?_; intro v9a v9c w9 hown9 hg9)
          go_roundw
          case rel =>
            refine ⟨.inr (.inr (.inr ⟨by go_num, ?_⟩)), hBr.out.grown hg9 hz (fun k hk => (hlt.out k hk).1), Nat.le_trans hz hg9.size⟩
            rw [List.flatMap_append (xs := l1 ++ l2), ← HNN.out]
            exact hown9
          case measure => simp [intOf]
        · obtain ⟨va, vc, rfl⟩ := row_slice hR
          replace hR := hide hR
          go_wp2
          go_ret
          refine ⟨_, rfl, ?_, hBr⟩
          unfold OwnF
          rw [List.length_append, List.length_append, HL.out.1, HL.out.2.1, HL.out.2.2, HN12.out, HNN.out]
          exact hR.out

theorem nil_funds : ∀ (w : World) (a : Option Addr) (n c n' c' : Nat), (binOp .eql 24 (.slice a n c) (.slice none n' c')).run Try.prog w = .ok (.bool a.isNone) w := fun w a n c n' c' => Lib.run_eql_slice_nil w _ _ a n c n' c' Try.underlying24

set_option maxRecDepth 10000 in
set_option maxHeartbeats 1000000 in
theorem clone_funds {w : World} {a : Option Addr} {n c : Nat} {l : List FundM} (h : FPart w a n c l) (hn : n ≤ 1000) :
    Calls Try.prog 48 #[.slice a n c] w fun e w' => ∃ u, e = .returned u ∧ OwnF w' w.heap.size u l ∧ Below w.heap.size w w' := by
  have hnil := nil_funds
  cases a with
  | none =>
    obtain ⟨rfl, rfl, rfl⟩ := h.nil
    go_enter Try.func48, Try.ntmps48
    go_wp2
    go_ret
    exact ⟨_, rfl, World.ownsRow_nil _ _ _ _, Below.refl _ _⟩
  | some ad =>
    obtain ⟨B, hB⟩ : ∃ B, w.heap.size = B := ⟨_, rfl⟩
    rw [hB]
    have hal : Below w.heap.size w (w.alloc (.cells #[] 37)) := (Below.refl _ _).alloc (Nat.le_refl _) _
    have hp := h.below hal
    have hrow := row_fresh (w := w) (e := 37) (size := 3) #[] 0 0 (by rfl) (by unfold maxLen; omega) (Nat.le_refl _)
    have hz : B ≤ (w.alloc (.cells #[] 37)).heap.size := by simp [hB]
    have hl := h.1
    rw [hB] at hal hrow
    clear h
    replace hal := hide hal
    replace hp := hide hp
    replace hrow := hide hrow
    replace hl := hide hl
    replace hB := hide hB
    go_enter Try.func48, Try.ntmps48
    go_wp2_with (at_builtin; rw [hB.out]; generalize w.alloc (.cells #[] 37) = w1 at hal hp hrow hz ⊢; have hlt := World.ownsRow.lt hrow.out; refine wpList_appF (by rfl) (.tmp 5) (.tmp 6) (by rfl) B _ 0 _ (by rfl) hrow.out (some ad) n c l (by rfl) hp.out (by omega) hz ?_; intro v9a v9c w9 hown9 hg9)
    go_ret
    refine ⟨_, rfl, ?_, hal.out.grown hg9 hz (fun k hk => (hlt k hk).1)⟩
    unfold OwnF
    rw [hl.out]
    simpa using hown9

end Go.Proofs.Ytiepkablapjpmaa
