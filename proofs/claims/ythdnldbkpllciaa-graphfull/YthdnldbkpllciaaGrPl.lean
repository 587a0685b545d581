/-
  Package graph: places, Enter, Leave.
-/
import Derived.Test.YthdnldbkpllciaaGrPath
import Derived.Test.YthdnldbkpllciaaGrReach
namespace Go.Proofs.Ythdnldbkpllciaa
open Go.RowKit

/-- The places of the arcs that enter, that leave a party. -/
def entL (A : List ArcM) (v : Int) (k : Nat) : List Int := ((List.range k).filter fun i => (A.getD i noArc).dst == v).map fun (i : Nat) => (i : Int)
def levL (A : List ArcM) (v : Int) (k : Nat) : List Int := ((List.range k).filter fun i => (A.getD i noArc).src == v).map fun (i : Nat) => (i : Int)
theorem ent_yes (A : List ArcM) (v : Int) (k : Nat) (h : (A.getD k noArc).dst = v) : entL A v (k + 1) = entL A v k ++ [(k : Int)] := by
  unfold entL
  rw [List.range_succ, List.filter_append, List.map_append, List.filter_cons_of_pos (by rw [h]; exact beq_self_eq_true _)]; rfl
theorem ent_no (A : List ArcM) (v : Int) (k : Nat) (h : (A.getD k noArc).dst ≠ v) : entL A v (k + 1) = entL A v k := by
  unfold entL
  rw [List.range_succ, List.filter_append, List.map_append, List.filter_cons_of_neg (by rw [beq_iff_eq]; exact h)]; simp
theorem ent_len (A : List ArcM) (v : Int) (k : Nat) : (entL A v k).length ≤ k := by
  unfold entL
  rw [List.length_map]
  exact Nat.le_trans (List.length_filter_le _ _) (by rw [List.length_range]; exact Nat.le_refl _)
theorem ent_in (A : List ArcM) (v : Int) (k : Nat) : ∀ x ∈ entL A v k, 0 ≤ x ∧ x < (k : Int) := by
  intro x hx
  unfold entL at hx
  obtain ⟨i, hi, rfl⟩ := List.mem_map.1 hx
  have := List.mem_range.1 (List.mem_filter.1 hi).1
  omega
theorem lev_yes (A : List ArcM) (v : Int) (k : Nat) (h : (A.getD k noArc).src = v) : levL A v (k + 1) = levL A v k ++ [(k : Int)] := by
  unfold levL
  rw [List.range_succ, List.filter_append, List.map_append, List.filter_cons_of_pos (by rw [h]; exact beq_self_eq_true _)]; rfl
theorem lev_no (A : List ArcM) (v : Int) (k : Nat) (h : (A.getD k noArc).src ≠ v) : levL A v (k + 1) = levL A v k := by
  unfold levL
  rw [List.range_succ, List.filter_append, List.map_append, List.filter_cons_of_neg (by rw [beq_iff_eq]; exact h)]; simp
theorem lev_len (A : List ArcM) (v : Int) (k : Nat) : (levL A v k).length ≤ k := by
  unfold levL
  rw [List.length_map]
  exact Nat.le_trans (List.length_filter_le _ _) (by rw [List.length_range]; exact Nat.le_refl _)
theorem lev_in (A : List ArcM) (v : Int) (k : Nat) : ∀ x ∈ levL A v k, 0 ≤ x ∧ x < (k : Int) := by
  intro x hx
  unfold levL at hx
  obtain ⟨i, hi, rfl⟩ := List.mem_map.1 hx
  have := List.mem_range.1 (List.mem_filter.1 hi).1
  omega

set_option maxHeartbeats 400000 in
theorem ent1_any (x : ArcM) (p : Nat) (a : Int) (w : World) (hp : w.cell? ⟨p, 0, none⟩ = some (.int .i64 a)) :
    Calls Try.prog 37 #[.agg #[.int .i64 x.src, .int .i64 x.dst, .int .i64 x.ledger, .string x.asset, .int .i64 x.amount], .pointer (some ⟨p, 0, none⟩)] w fun e w' => e = .returned (.bool (x.dst == a)) ∧ Below w.heap.size w w' := by
  go_enter Try.func37, Try.ntmps37
  go_wp2_with ((with_reducible refine wpList_at ?_); refine wpList_boxv (by rfl) 34 (.tmp 0) (by rfl) (acells5 x) (by rfl) ?_; intro w1 hg1 hz1 hb1; obtain ⟨q0, q1⟩ := arc5_at hg1; replace hp := cell_on hb1 hp; clear hg1)
  go_ret
  exact ⟨rfl, hb1⟩

set_option maxRecDepth 10000 in
set_option maxHeartbeats 2000000 in
theorem entplaces_any {w : World} {v : Value} {s : SpecM} (hv : SpecW w v s) (p : Nat) (a : Int) (hp : w.cell? ⟨p, 0, none⟩ = some (.int .i64 a)) (L : List Int) (h1 : specOk s → L = entL s.arcs a s.arcs.length) (h2 : ¬ specOk s → L = []) :
    Calls Try.prog 36 #[v, .func (.func 37) #[] #[.pointer (some ⟨p, 0, none⟩)]] w fun e w' => ∃ u, e = .returned u ∧ OwnI w' w.heap.size u L ∧ Below w.heap.size w w' := by
  obtain ⟨cs, rfl, h7⟩ := hv.seven
  obtain ⟨g, hg⟩ : ∃ g, w.heap.size = g := ⟨_, rfl⟩
  rw [hg]
  have HC := fun W (h : Below w.heap.size w W) => check_spec (hv.below h)
  replace HC := hide HC
  replace hp := hide hp
  go_enter Try.func36, Try.ntmps36
  go_wp2_with (first
    | ((with_reducible refine wpList_at ?_); refine wpList_boxv (by rfl) 27 (.tmp 0) (by rfl) _ (by rfl) ?_; rw [hg]; intro w1 hu1 hz1 hb1; have hx1 : SvAt w1 g cs := hu1; clear hu1)
    | ((with_reducible refine wpList_at ?_); refine wpList_loadV (by rfl) (.tmp 2) (by rfl) _ cs (by rfl) hx1 h7 ?_))
  refine (HC.out _ (by rw [hg]; exact hb1)).mono ?_
  rintro e w2 ⟨rfl, hb2⟩
  have hx2 := hx1.below hb2
  have hB2 : Below g w w2 := hb1.trans (hb2.mono (by omega))
  clear hz1 hx1 HC hb1 hb2
  by_cases hok : specOk s
  · rw [told_yes hok]
    have HL := hide (h1 hok)
    have hn12 : s.arcs.length ≤ 12 := hok.2.2.2.1.2.1
    obtain ⟨a1, a2, a3, a4, k1, k2, k3, k4, hcs, LI, hcap⟩ := hv
    injection hcs with hcs
    have HA : Hid (∀ W, Below g w W → Arcs W a2 s.arcs) := fun W hW => LI.arcs.below (by rw [hg]; exact hW)
    have c2 : w2.cell? ⟨g, 2, none⟩ = some (.slice a2 s.arcs.length k2) := by
      have h9 : w2.heap[g]? = some (.cells (cells7 a1 a2 a3 a4 k1 k2 k3 k4 s) 27 (0, 0)) := by rw [← hcs]; exact hx2
      exact (cells7_at h9).2.2.1
    have hgs := hx2.lt
    clear hcs LI hcap hok h1 h2
    obtain ⟨n, hn⟩ : ∃ n, s.arcs.length = n := ⟨_, rfl⟩
    rw [hn] at c2 hn12 HL
    replace hn := hide hn
    go_wp2_with fail
    clear c2
    go_loopw [5, 14] (fun vl i wr => ∃ k : Nat, k ≤ n ∧ i = .int .i64 k ∧ OwnI wr g vl (entL s.arcs a k) ∧ Below g w wr ∧ g ≤ wr.heap.size) (fun _ i _ => n - (intOf i).toNat)
    case atStart => exact ⟨0, by omega, rfl, World.ownsRow_nil _ _ _ _, hB2, by omega⟩
    case round =>
      clear hx2 hB2 hgs
      obtain ⟨k, hk, rfl, hO, hB, hz⟩ := hrel
      obtain ⟨va, vc, rfl⟩ := row_slice hO
      have hlen := ent_len s.arcs a k
      by_cases hlt : k < n
      · have k1' : (k : Int) < (n : Int) := by omega
        obtain ⟨X, hX⟩ : ∃ X, s.arcs.getD k noArc = X := ⟨_, rfl⟩
        obtain ⟨b2, o2, rfl, _, _, _, _, _, d0, d1, d2, d3, d4⟩ := (HA.out wr hB).2 k (by rw [hn.out]; exact hlt)
        rw [hX] at d0 d1 d2 d3 d4
        have hal : Below wr.heap.size wr (wr.alloc (.cells #[.int .i64 X.src, .int .i64 X.dst, .int .i64 X.ledger, .string X.asset, .int .i64 X.amount] 34)) := (Below.refl _ _).alloc (Nat.le_refl _) _
        have hO4 := hide (own_below hO hal)
        have hB4 : Hid (Below g w (wr.alloc (.cells #[.int .i64 X.src, .int .i64 X.dst, .int .i64 X.ledger, .string X.asset, .int .i64 X.amount] 34))) := hB.trans (hal.mono hz)
        have hz4 : g ≤ (wr.alloc (.cells #[.int .i64 X.src, .int .i64 X.dst, .int .i64 X.ledger, .string X.asset, .int .i64 X.amount] 34)).heap.size := Nat.le_trans hz hal.size
        have hm5 : (wr.alloc (.cells #[.int .i64 X.src, .int .i64 X.dst, .int .i64 X.ledger, .string X.asset, .int .i64 X.amount] 34)).heap[wr.heap.size]? = some (.cells (acells5 X) 34 (0, 0)) := heap_alloc_new _ _
        replace hm5 := hide hm5
        replace hX := hide hX
        clear hO hB hz hal
        go_upto_region 7 with fail
        clear d0 d1 d2 d3 d4
        generalize wr.alloc (.cells #[.int .i64 X.src, .int .i64 X.dst, .int .i64 X.ledger, .string X.asset, .int .i64 X.amount] 34) = w4 at hO4 hB4 hz4 hm5 ⊢
        generalize wr.heap.size = gx at hm5 ⊢
        have m : ∀ j, w4.cell? ⟨gx, j, none⟩ = (acells5 X)[j]? := fun j => cell_of_row w4 gx j _ _ (0, 0) hm5.out
        have m0 : w4.cell? ⟨gx, 0, none⟩ = some (.int .i64 X.src) := m 0
        have m1 : w4.cell? ⟨gx, 1, none⟩ = some (.int .i64 X.dst) := m 1
        have m2 : w4.cell? ⟨gx, 2, none⟩ = some (.int .i64 X.ledger) := m 2
        have m3 : w4.cell? ⟨gx, 3, none⟩ = some (.string X.asset) := m 3
        have m4 : w4.cell? ⟨gx, 4, none⟩ = some (.int .i64 X.amount) := m 4
        have HE := hide (ent1_any X p a w4 (cell_on (by rw [hg]; exact hB4.out) hp.out))
        clear m hm5
        go_wp2_with fail
        refine HE.out.mono ?_
        rintro e w5 ⟨rfl, hb5⟩
        have hO5 := hide (own_below hO4.out hb5)
        have hB5 := hide (hB4.out.trans (hb5.mono hz4))
        have hz5 : g ≤ w5.heap.size := Nat.le_trans hz4 hb5.size
        clear m0 m1 m2 m3 m4 HE hb5 hO4 hB4 hz4
        by_cases hx : X.dst = a
        · rw [show (X.dst == a) = true by rw [hx]; exact beq_self_eq_true _]
          have HN := hide (ent_yes s.arcs a k (by rw [hX.out]; exact hx))
          clear hx
          go_wp2_with (at_builtin; refine wpList_put1 (st := 24) Try.underlying24 Try.info3 rfl (by decide) (by decide) w5 _ (by rfl) (.tmp 22) (.tmp 24) (by rfl) g _ _ _ (by rfl) hO5.out (by rfl) rfl (by intro u hu; simp at hu; subst hu; rfl) (by omega) hz5 ?_; intro v8 w8 hown8 hg8; obtain ⟨v8a, v8c, rfl⟩ := row_slice hown8)
          go_roundw
          case rel =>
            have hlt8 := World.ownsRow.lt hO5.out
            refine ⟨k + 1, by omega, by go_num, ?_, hB5.out.grown hg8 hz5 (fun k hk => (hlt8 k hk).1), Nat.le_trans hz5 hg8.size⟩
            rw [HN.out]
            unfold OwnI
            rw [List.length_append, List.map_append]; exact hown8
          case measure => simp [intOf]; omega
        · rw [show (X.dst == a) = false by rw [beq_eq_false_iff_ne]; exact hx]
          have HN := hide (ent_no s.arcs a k (by rw [hX.out]; exact hx))
          clear hx
          go_wp2_with fail
          go_roundw
          case rel => exact ⟨k + 1, by omega, by go_num, by rw [HN.out]; exact hO5.out, hB5.out, hz5⟩
          case measure => simp [intOf]; omega
      · have k1' : ¬ (k : Int) < (n : Int) := by omega
        have hkn : k = n := by omega
        rw [hkn, ← HL.out] at hO
        replace hO := hide hO
        rw [hkn, ← HL.out]
        go_wp2
        go_ret
        exact ⟨_, rfl, hO.out, hB⟩
  · rw [told_no hok]
    have HZ := hide (h2 hok)
    clear h1 h2 hok
    go_wp2
    go_ret
    refine ⟨_, rfl, ?_, hB2⟩
    rw [HZ.out]
    exact World.ownsRow_nil _ _ _ _

set_option maxRecDepth 10000 in
set_option maxHeartbeats 400000 in
theorem pent_any {w : World} {v : Value} {s : SpecM} (hv : SpecW w v s) (a : Int) (L : List Int) (h1 : specOk s → L = entL s.arcs a s.arcs.length) (h2 : ¬ specOk s → L = []) :
    Calls Try.prog 15 #[v, .int .i64 a] w fun e w' => ∃ u, e = .returned u ∧ OwnI w' w.heap.size u L ∧ Below w.heap.size w w' := by
  obtain ⟨cs, rfl, h7⟩ := hv.seven
  obtain ⟨g, hg⟩ : ∃ g, w.heap.size = g := ⟨_, rfl⟩
  rw [hg]
  have HP : Hid (∀ W p, Below w.heap.size w W → W.cell? ⟨p, 0, none⟩ = some (.int .i64 a) → Calls Try.prog 36 #[.agg cs, .func (.func 37) #[] #[.pointer (some ⟨p, 0, none⟩)]] W fun e w' => ∃ u, e = .returned u ∧ OwnI w' W.heap.size u L ∧ Below W.heap.size W w') := fun W p hW hp => entplaces_any (hv.below hW) p a hp L h1 h2
  clear hv h1 h2
  go_enter Try.func15, Try.ntmps15
  go_wp2_with (first
    | ((with_reducible refine wpList_at ?_); refine wpList_boxv (by rfl) 27 (.tmp 0) (by rfl) _ (by rfl) ?_; rw [hg]; intro w1 hu1 hz1 hb1; have hx1 : SvAt w1 g cs := hu1; clear hu1; have hx2 := (fun o => hx1.below ((Below.refl _ _).alloc (Nat.le_refl _) o)))
    | ((with_reducible refine wpList_at ?_); refine wpList_loadV (by rfl) (.tmp 2) (by rfl) _ cs (by rfl) (hx2 _) h7 ?_))
  refine (HP.out _ _ (by rw [hg]; exact hb1.alloc (by omega) _) (by rw [← hz1, World.cell?_alloc_new]; rfl)).mono ?_
  rintro e w4 ⟨u, rfl, hO4, hb4⟩
  obtain ⟨ua, uc, rfl⟩ := row_slice hO4
  go_wp2
  go_ret
  have hs : g ≤ (w1.alloc (Obj.cells #[Value.int IntKind.i64 a] 3)).heap.size := by simp; omega
  exact ⟨_, rfl, base_row hO4 hs, (hb1.alloc (by omega) _).trans (hb4.mono hs)⟩

set_option maxHeartbeats 400000 in
theorem lev1_any (x : ArcM) (p : Nat) (a : Int) (w : World) (hp : w.cell? ⟨p, 0, none⟩ = some (.int .i64 a)) :
    Calls Try.prog 40 #[.agg #[.int .i64 x.src, .int .i64 x.dst, .int .i64 x.ledger, .string x.asset, .int .i64 x.amount], .pointer (some ⟨p, 0, none⟩)] w fun e w' => e = .returned (.bool (x.src == a)) ∧ Below w.heap.size w w' := by
  go_enter Try.func40, Try.ntmps40
  go_wp2_with ((with_reducible refine wpList_at ?_); refine wpList_boxv (by rfl) 34 (.tmp 0) (by rfl) (acells5 x) (by rfl) ?_; intro w1 hg1 hz1 hb1; obtain ⟨q0, q1⟩ := arc5_at hg1; replace hp := cell_on hb1 hp; clear hg1)
  go_ret
  exact ⟨rfl, hb1⟩

set_option maxRecDepth 10000 in
set_option maxHeartbeats 2000000 in
theorem levplaces_any {w : World} {v : Value} {s : SpecM} (hv : SpecW w v s) (p : Nat) (a : Int) (hp : w.cell? ⟨p, 0, none⟩ = some (.int .i64 a)) (L : List Int) (h1 : specOk s → L = levL s.arcs a s.arcs.length) (h2 : ¬ specOk s → L = []) :
    Calls Try.prog 36 #[v, .func (.func 40) #[] #[.pointer (some ⟨p, 0, none⟩)]] w fun e w' => ∃ u, e = .returned u ∧ OwnI w' w.heap.size u L ∧ Below w.heap.size w w' := by
  obtain ⟨cs, rfl, h7⟩ := hv.seven
  obtain ⟨g, hg⟩ : ∃ g, w.heap.size = g := ⟨_, rfl⟩
  rw [hg]
  have HC := fun W (h : Below w.heap.size w W) => check_spec (hv.below h)
  replace HC := hide HC
  replace hp := hide hp
  go_enter Try.func36, Try.ntmps36
  go_wp2_with (first
    | ((with_reducible refine wpList_at ?_); refine wpList_boxv (by rfl) 27 (.tmp 0) (by rfl) _ (by rfl) ?_; rw [hg]; intro w1 hu1 hz1 hb1; have hx1 : SvAt w1 g cs := hu1; clear hu1)
    | ((with_reducible refine wpList_at ?_); refine wpList_loadV (by rfl) (.tmp 2) (by rfl) _ cs (by rfl) hx1 h7 ?_))
  refine (HC.out _ (by rw [hg]; exact hb1)).mono ?_
  rintro e w2 ⟨rfl, hb2⟩
  have hx2 := hx1.below hb2
  have hB2 : Below g w w2 := hb1.trans (hb2.mono (by omega))
  clear hz1 hx1 HC hb1 hb2
  by_cases hok : specOk s
  · rw [told_yes hok]
    have HL := hide (h1 hok)
    have hn12 : s.arcs.length ≤ 12 := hok.2.2.2.1.2.1
    obtain ⟨a1, a2, a3, a4, k1, k2, k3, k4, hcs, LI, hcap⟩ := hv
    injection hcs with hcs
    have HA : Hid (∀ W, Below g w W → Arcs W a2 s.arcs) := fun W hW => LI.arcs.below (by rw [hg]; exact hW)
    have c2 : w2.cell? ⟨g, 2, none⟩ = some (.slice a2 s.arcs.length k2) := by
      have h9 : w2.heap[g]? = some (.cells (cells7 a1 a2 a3 a4 k1 k2 k3 k4 s) 27 (0, 0)) := by rw [← hcs]; exact hx2
      exact (cells7_at h9).2.2.1
    have hgs := hx2.lt
    clear hcs LI hcap hok h1 h2
    obtain ⟨n, hn⟩ : ∃ n, s.arcs.length = n := ⟨_, rfl⟩
    rw [hn] at c2 hn12 HL
    replace hn := hide hn
    go_wp2_with fail
    clear c2
    go_loopw [5, 14] (fun vl i wr => ∃ k : Nat, k ≤ n ∧ i = .int .i64 k ∧ OwnI wr g vl (levL s.arcs a k) ∧ Below g w wr ∧ g ≤ wr.heap.size) (fun _ i _ => n - (intOf i).toNat)
    case atStart => exact ⟨0, by omega, rfl, World.ownsRow_nil _ _ _ _, hB2, by omega⟩
    case round =>
      clear hx2 hB2 hgs
      obtain ⟨k, hk, rfl, hO, hB, hz⟩ := hrel
      obtain ⟨va, vc, rfl⟩ := row_slice hO
      have hlen := lev_len s.arcs a k
      by_cases hlt : k < n
      · have k1' : (k : Int) < (n : Int) := by omega
        obtain ⟨X, hX⟩ : ∃ X, s.arcs.getD k noArc = X := ⟨_, rfl⟩
        obtain ⟨b2, o2, rfl, _, _, _, _, _, d0, d1, d2, d3, d4⟩ := (HA.out wr hB).2 k (by rw [hn.out]; exact hlt)
        rw [hX] at d0 d1 d2 d3 d4
        have hal : Below wr.heap.size wr (wr.alloc (.cells #[.int .i64 X.src, .int .i64 X.dst, .int .i64 X.ledger, .string X.asset, .int .i64 X.amount] 34)) := (Below.refl _ _).alloc (Nat.le_refl _) _
        have hO4 := hide (own_below hO hal)
        have hB4 : Hid (Below g w (wr.alloc (.cells #[.int .i64 X.src, .int .i64 X.dst, .int .i64 X.ledger, .string X.asset, .int .i64 X.amount] 34))) := hB.trans (hal.mono hz)
        have hz4 : g ≤ (wr.alloc (.cells #[.int .i64 X.src, .int .i64 X.dst, .int .i64 X.ledger, .string X.asset, .int .i64 X.amount] 34)).heap.size := Nat.le_trans hz hal.size
        have hm5 : (wr.alloc (.cells #[.int .i64 X.src, .int .i64 X.dst, .int .i64 X.ledger, .string X.asset, .int .i64 X.amount] 34)).heap[wr.heap.size]? = some (.cells (acells5 X) 34 (0, 0)) := heap_alloc_new _ _
        replace hm5 := hide hm5
        replace hX := hide hX
        clear hO hB hz hal
        go_upto_region 7 with fail
        clear d0 d1 d2 d3 d4
        generalize wr.alloc (.cells #[.int .i64 X.src, .int .i64 X.dst, .int .i64 X.ledger, .string X.asset, .int .i64 X.amount] 34) = w4 at hO4 hB4 hz4 hm5 ⊢
        generalize wr.heap.size = gx at hm5 ⊢
        have m : ∀ j, w4.cell? ⟨gx, j, none⟩ = (acells5 X)[j]? := fun j => cell_of_row w4 gx j _ _ (0, 0) hm5.out
        have m0 : w4.cell? ⟨gx, 0, none⟩ = some (.int .i64 X.src) := m 0
        have m1 : w4.cell? ⟨gx, 1, none⟩ = some (.int .i64 X.dst) := m 1
        have m2 : w4.cell? ⟨gx, 2, none⟩ = some (.int .i64 X.ledger) := m 2
        have m3 : w4.cell? ⟨gx, 3, none⟩ = some (.string X.asset) := m 3
        have m4 : w4.cell? ⟨gx, 4, none⟩ = some (.int .i64 X.amount) := m 4
        have HE := hide (lev1_any X p a w4 (cell_on (by rw [hg]; exact hB4.out) hp.out))
        clear m hm5
        go_wp2_with fail
        refine HE.out.mono ?_
        rintro e w5 ⟨rfl, hb5⟩
        have hO5 := hide (own_below hO4.out hb5)
        have hB5 := hide (hB4.out.trans (hb5.mono hz4))
        have hz5 : g ≤ w5.heap.size := Nat.le_trans hz4 hb5.size
        clear m0 m1 m2 m3 m4 HE hb5 hO4 hB4 hz4
        by_cases hx : X.src = a
        · rw [show (X.src == a) = true by rw [hx]; exact beq_self_eq_true _]
          have HN := hide (lev_yes s.arcs a k (by rw [hX.out]; exact hx))
          clear hx
          go_wp2_with (at_builtin; refine wpList_put1 (st := 24) Try.underlying24 Try.info3 rfl (by decide) (by decide) w5 _ (by rfl) (.tmp 22) (.tmp 24) (by rfl) g _ _ _ (by rfl) hO5.out (by rfl) rfl (by intro u hu; simp at hu; subst hu; rfl) (by omega) hz5 ?_; intro v8 w8 hown8 hg8; obtain ⟨v8a, v8c, rfl⟩ := row_slice hown8)
          go_roundw
          case rel =>
            have hlt8 := World.ownsRow.lt hO5.out
            refine ⟨k + 1, by omega, by go_num, ?_, hB5.out.grown hg8 hz5 (fun k hk => (hlt8 k hk).1), Nat.le_trans hz5 hg8.size⟩
            rw [HN.out]
            unfold OwnI
            rw [List.length_append, List.map_append]; exact hown8
          case measure => simp [intOf]; omega
        · rw [show (X.src == a) = false by rw [beq_eq_false_iff_ne]; exact hx]
          have HN := hide (lev_no s.arcs a k (by rw [hX.out]; exact hx))
          clear hx
          go_wp2_with fail
          go_roundw
          case rel => exact ⟨k + 1, by omega, by go_num, by rw [HN.out]; exact hO5.out, hB5.out, hz5⟩
          case measure => simp [intOf]; omega
      · have k1' : ¬ (k : Int) < (n : Int) := by omega
        have hkn : k = n := by omega
        rw [hkn, ← HL.out] at hO
        replace hO := hide hO
        rw [hkn, ← HL.out]
        go_wp2
        go_ret
        exact ⟨_, rfl, hO.out, hB⟩
  · rw [told_no hok]
    have HZ := hide (h2 hok)
    clear h1 h2 hok
    go_wp2
    go_ret
    refine ⟨_, rfl, ?_, hB2⟩
    rw [HZ.out]
    exact World.ownsRow_nil _ _ _ _

set_option maxRecDepth 10000 in
set_option maxHeartbeats 400000 in
theorem plev_any {w : World} {v : Value} {s : SpecM} (hv : SpecW w v s) (a : Int) (L : List Int) (h1 : specOk s → L = levL s.arcs a s.arcs.length) (h2 : ¬ specOk s → L = []) :
    Calls Try.prog 18 #[v, .int .i64 a] w fun e w' => ∃ u, e = .returned u ∧ OwnI w' w.heap.size u L ∧ Below w.heap.size w w' := by
  obtain ⟨cs, rfl, h7⟩ := hv.seven
  obtain ⟨g, hg⟩ : ∃ g, w.heap.size = g := ⟨_, rfl⟩
  rw [hg]
  have HP : Hid (∀ W p, Below w.heap.size w W → W.cell? ⟨p, 0, none⟩ = some (.int .i64 a) → Calls Try.prog 36 #[.agg cs, .func (.func 40) #[] #[.pointer (some ⟨p, 0, none⟩)]] W fun e w' => ∃ u, e = .returned u ∧ OwnI w' W.heap.size u L ∧ Below W.heap.size W w') := fun W p hW hp => levplaces_any (hv.below hW) p a hp L h1 h2
  clear hv h1 h2
  go_enter Try.func18, Try.ntmps18
  go_wp2_with (first
    | ((with_reducible refine wpList_at ?_); refine wpList_boxv (by rfl) 27 (.tmp 0) (by rfl) _ (by rfl) ?_; rw [hg]; intro w1 hu1 hz1 hb1; have hx1 : SvAt w1 g cs := hu1; clear hu1; have hx2 := (fun o => hx1.below ((Below.refl _ _).alloc (Nat.le_refl _) o)))
    | ((with_reducible refine wpList_at ?_); refine wpList_loadV (by rfl) (.tmp 2) (by rfl) _ cs (by rfl) (hx2 _) h7 ?_))
  refine (HP.out _ _ (by rw [hg]; exact hb1.alloc (by omega) _) (by rw [← hz1, World.cell?_alloc_new]; rfl)).mono ?_
  rintro e w4 ⟨u, rfl, hO4, hb4⟩
  obtain ⟨ua, uc, rfl⟩ := row_slice hO4
  go_wp2
  go_ret
  have hs : g ≤ (w1.alloc (Obj.cells #[Value.int IntKind.i64 a] 3)).heap.size := by simp; omega
  exact ⟨_, rfl, base_row hO4 hs, (hb1.alloc (by omega) _).trans (hb4.mono hs)⟩

end Go.Proofs.Ythdnldbkpllciaa
