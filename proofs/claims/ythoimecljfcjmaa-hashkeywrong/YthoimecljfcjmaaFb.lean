/-
  Chapter 5's own answer: reach.
-/
import Derived.Test.YthoimecljfcjmaaZ10
import Derived.Test.YthoimecljfcjmaaArc
import Derived.Test.YthoimecljfcjmaaZ26
import Derived.BigQuiet
import Derived.Deep.QuietTactic
namespace Go.Proofs.Ythoimecljfcjmaa
open Go.RowKit
attribute [local go_sem ↓] Go.wp_at_zero Go.wp_at_succ

theorem nat_of (x : Int) (h : 0 ≤ x) : ∃ n : Nat, x = (n : Int) := ⟨x.toNat, by omega⟩
theorem take_mem_more (L : List Int) (j : Nat) (hj : j < L.length) (x : Int) : x ∈ L.take (j + 1) ↔ x ∈ L.take j ∨ x = L.getD j 0 := by
  rw [List.take_add_one, List.getElem?_eq_getElem hj, List.mem_append, List.getD_eq_getElem?_getD, List.getElem?_eq_getElem hj]; simp

/-- How it stands behind the first loop. -/
def RSt (w : World) (g : Nat) (cs : Array Value) (L l : List Int) (vl : Value) (W : World) : Prop := BRow W (g + 1) (fun x => x ∈ L) ∧ BRow W (g + 2) (fun x => x ∈ l.tail) ∧ OwnI W (g + 3) vl l ∧ W.heap[g]? = some (.cells cs 27 (0, 0)) ∧ Below g w W ∧ g + 4 ≤ W.heap.size
theorem RSt.below {w : World} {g : Nat} {cs : Array Value} {L l : List Int} {vl : Value} {W W' : World} (h : RSt w g cs L l vl W) (hd : Below W.heap.size W W') : RSt w g cs L l vl W' := by
  obtain ⟨h1, h2, h3, h4, h5, h6⟩ := h
  exact ⟨h1.below hd, h2.below hd, own_below h3 hd, by rw [hd.block g (by omega)]; exact h4, h5.trans (hd.mono (by omega)), Nat.le_trans h6 hd.size⟩
theorem RSt.drewN {w : World} {g : Nat} {cs : Array Value} {L l : List Int} {vl : Value} {W : World} (h : RSt w g cs L l vl W) (n : Nat) : RSt w g cs L l vl (W.drewN n) := h.below ((Still.refl W).drewN n).on
/-- One more party is known. -/
theorem RSt.more {w : World} {g : Nat} {cs : Array Value} {L l : List Int} {vl v' : Value} {W W' : World} {x : Nat} (h : RSt w g cs L l vl W) (hK : Known l) (hx : x < 6) (hO : W'.ownsRow (g + 3) 3 1 v' (l.length + 1) (l.map (Value.int .i64) ++ [Value.int .i64 (x : Int)])) (hg : (W.setCell ⟨g + 2, x, none⟩ (.bool true)).grownBy W' vl.ownBlock) : RSt w g cs L (l ++ [(x : Int)]) v' W' := by
  obtain ⟨h1, h2, h3, h4, h5, h6⟩ := h
  have hlt := World.ownsRow.lt h3
  have hset := But.setCell W (g + 2) x (.bool true)
  have ne : ∀ k, k < g + 3 → some k ≠ vl.ownBlock := fun k hk e => by have := (hlt k e.symm).1; omega
  refine ⟨(h1.but hset (by omega)).grown hg (ne _ (by omega)), ((h2.set x hx).grown hg (ne _ (by omega))).congr (fun y _ _ => by rw [tail_more hK]; exact or_comm), ?_, ?_, ?_, ?_⟩
  · unfold OwnI; rw [List.length_append, List.map_append]; exact hO
  · rw [hg.block g (by have := hset.size; omega) (ne _ (by omega)), hset.block g (by omega) (by omega)]; exact h4
  · have h8 := h5.setCell (p := ⟨g + 2, x, none⟩) (by show g ≤ g + 2; omega) (.bool true)
    exact h8.grown hg (by have := hset.size; omega) (fun k hk => by have := (hlt k hk).1; omega)
  · have := hset.size; have := hg.size; omega

set_option maxRecDepth 10000 in
set_option maxHeartbeats 4000000 in
theorem reach_any {w : World} {v : Value} {s : SpecM} (hv : SpecV w v s) (hA : ∀ j, j < s.arcs.length → 0 ≤ (s.arcs.getD j noArc).dst ∧ (s.arcs.getD j noArc).dst < 6) (hA20 : s.arcs.length ≤ 20) (a b : Nat) (ha : a < 6) (hb : b < 6)
    (o3 : Option Addr) (c3 : Nat) (L : List Int) (hL : Ints w o3 L.length L) (hL6 : ∀ x ∈ L, 0 ≤ x ∧ x < 6) (hLn : L.length ≤ 100) :
    Calls Try.prog 75 #[v, .int .i64 (a : Int), .int .i64 (b : Int), .slice o3 L.length c3] w fun e w' => e = .returned (.bool (reachR s.arcs (a : Int) (b : Int) L)) ∧ Below w.heap.size w w' := by
  obtain ⟨a1, a2, a3, a4, k1, k2, k3, k4, rfl, LI⟩ := hv
  obtain ⟨g, hg⟩ : ∃ g, w.heap.size = g := ⟨_, rfl⟩
  obtain ⟨RR, hRR⟩ : ∃ r, reachR s.arcs (a : Int) (b : Int) L = r := ⟨_, rfl⟩
  rw [hRR]
  replace hRR := hide hRR
  go_enter Try.func75, Try.ntmps75
  go_upto_region 2 with ((with_reducible refine wpList_at ?_); refine wpList_boxv (by rfl) 27 (.tmp 0) (by rfl) _ (by rfl) ?_; rw [hg]; intro w1 hg1 hz1 hb1)
  have hI2 := BRow.new w1
  rw [hz1] at hI2
  have hal : Below w1.heap.size w1 (w1.alloc (.cells #[.bool false, .bool false, .bool false, .bool false, .bool false, .bool false] 108)) := (Below.refl _ _).alloc (Nat.le_refl _) _
  have hX2 : (w1.alloc (.cells #[.bool false, .bool false, .bool false, .bool false, .bool false, .bool false] 108)).heap[g]? = some (.cells (cells7 a1 a2 a3 a4 k1 k2 k3 k4 s) 27 (0, 0)) := by rw [hal.block g (by omega)]; exact hg1
  have hB2 : Below g w (w1.alloc (.cells #[.bool false, .bool false, .bool false, .bool false, .bool false, .bool false] 108)) := hb1.trans (hal.mono (by omega))
  have hz2 : (w1.alloc (.cells #[.bool false, .bool false, .bool false, .bool false, .bool false, .bool false] 108)).heap.size = g + 2 := by simp [hz1]
  generalize w1.alloc (.cells #[.bool false, .bool false, .bool false, .bool false, .bool false, .bool false] 108) = w2 at hI2 hX2 hB2 hz2 ⊢
  clear hal hg1 hz1 hb1 w1
  have LA : Hid (Arcs w a2 s.arcs) := LI.arcs
  have HL : Hid (Ints w o3 L.length L) := hL
  clear LI hL
  go_wp2_with fail
  go_loopw [10] (fun i wr => ∃ j : Nat, j ≤ L.length ∧ i = .int .i64 j ∧ BRow wr (g + 1) (fun x => x ∈ L.take j) ∧ wr.heap[g]? = some (.cells (cells7 a1 a2 a3 a4 k1 k2 k3 k4 s) 27 (0, 0)) ∧ Below g w wr ∧ wr.heap.size = g + 2) (fun i _ => L.length - (intOf i).toNat)
  case atStart => exact ⟨0, by omega, rfl, hI2.congr (fun x _ _ => by simp), hX2, hB2, hz2⟩
  case round =>
    clear hI2 hX2 hB2 hz2
    obtain ⟨j, hj, rfl, hI, hX, hB, hz⟩ := hrel
    by_cases hlt : j < L.length
    · have j1 : (j : Int) < (L.length : Int) := by omega
      obtain ⟨bb, oo, rfl, d⟩ := HL.out.at (by rw [hg]; exact hB) j hlt
      obtain ⟨x0, x6⟩ := hL6 _ (getD_mem L j 0 hlt)
      obtain ⟨x, hx⟩ := nat_of _ x0
      rw [hx] at d x6
      have x6' : x < 6 := by omega
      obtain ⟨e1, e2⟩ := hI.get x x6'
      have hI' := hI.set x x6'
      have hset := But.setCell w x x (.bool true)
      have hX' : (wr.setCell ⟨g + 1, x, none⟩ (.bool true)).heap[g]? = some (.cells (cells7 a1 a2 a3 a4 k1 k2 k3 k4 s) 27 (0, 0)) := by rw [(But.setCell wr (g + 1) x (.bool true)).block g (Array.getElem?_eq_some_iff.1 hX).1 (by omega)]; exact hX
      have hB' := hB.setCell (p := ⟨g + 1, x, none⟩) (by show g ≤ g + 1; omega) (.bool true)
      have hz' : (wr.setCell ⟨g + 1, x, none⟩ (.bool true)).heap.size = g + 2 := by simp [World.setCell, hz]
      replace hI' := hide hI'
      replace hX' := hide hX'
      replace hB' := hide hB'
      replace hz' := hide hz'
      replace hx := hide hx
      clear hI hX hB hz hset x0
      go_wp2_with fail
      go_roundw
      case rel => exact ⟨j + 1, by omega, by go_num, hI'.out.congr (fun y _ _ => by rw [take_mem_more L j hlt, hx.out]), hX'.out, hB'.out, hz'.out⟩
      case measure => simp [intOf]; omega
    · have j1 : ¬ (j : Int) < (L.length : Int) := by omega
      have hjl : j = L.length := by omega
      have hI2 : BRow wr (g + 1) (fun x => x ∈ L) := hI.congr (fun x _ _ => by rw [hjl, List.take_length])
      obtain ⟨e1, _⟩ := hI2.get a ha
      obtain ⟨e2, _⟩ := hI2.get b hb
      clear hI
      by_cases ca : (a : Int) ∈ L
      · rw [told_yes ca] at e1
        have hf : RR = false := by rw [← hRR.out]; unfold reachR; rw [if_pos (.inl ca)]
        clear ca
        go_wp2
        go_ret
        exact ⟨rfl, hB⟩
      by_cases cb : (b : Int) ∈ L
      · rw [told_no ca] at e1
        rw [told_yes cb] at e2
        have hf : RR = false := by rw [← hRR.out]; unfold reachR; rw [if_pos (.inr cb)]
        clear ca cb
        go_wp2
        go_ret
        exact ⟨rfl, hB⟩
      rw [told_no ca] at e1
      rw [told_no cb] at e2
      have HR : Hid (RR = outerR s.arcs L (b : Int) 9 0 [(a : Int)]) := by
        show _ = _
        rw [← hRR.out]; unfold reachR; rw [if_neg (fun h => h.elim ca cb)]
      clear ca cb
      go_upto_region 10 with fail
      clear e1 e2
      have hal : Below wr.heap.size wr (wr.alloc (.cells #[.bool false, .bool false, .bool false, .bool false, .bool false, .bool false] 108)) := (Below.refl _ _).alloc (Nat.le_refl _) _
      have hal2 : Below wr.heap.size wr ((wr.alloc (.cells #[.bool false, .bool false, .bool false, .bool false, .bool false, .bool false] 108)).alloc (.cells #[Value.int .i64 (a : Int)] 3)) := hal.alloc (by simp) _
      have hI3 := hI2.below hal2
      have hS3 : BRow ((wr.alloc (.cells #[.bool false, .bool false, .bool false, .bool false, .bool false, .bool false] 108)).alloc (.cells #[Value.int .i64 (a : Int)] 3)) (g + 2) (fun x => x ∈ [(a : Int)].tail) := by
        have h9 := BRow.new wr
        rw [hz] at h9
        exact (h9.below ((Below.refl _ _).alloc (Nat.le_refl _) _)).congr (fun x _ _ => by simp)
      have hO3 : OwnI ((wr.alloc (.cells #[.bool false, .bool false, .bool false, .bool false, .bool false, .bool false] 108)).alloc (.cells #[Value.int .i64 (a : Int)] 3)) (g + 3) (.slice (some ⟨g + 2 + 1, 0, none⟩) 1 1) [(a : Int)] := by
        have hz' : (wr.alloc (.cells #[.bool false, .bool false, .bool false, .bool false, .bool false, .bool false] 108)).heap.size = g + 2 + 1 := by simp [hz]
        have h9 := World.ownsRow_lit (base := g + 3) (e := 3) (size := 1) (wr.alloc (.cells #[.bool false, .bool false, .bool false, .bool false, .bool false, .bool false] 108)) #[Value.int .i64 (a : Int)] 1 (by omega) (by unfold maxLen; omega) (by simp)
        rw [hz'] at h9
        exact h9
      have hX3 : (((wr.alloc (.cells #[.bool false, .bool false, .bool false, .bool false, .bool false, .bool false] 108)).alloc (.cells #[Value.int .i64 (a : Int)] 3))).heap[g]? = some (.cells (cells7 a1 a2 a3 a4 k1 k2 k3 k4 s) 27 (0, 0)) := by rw [hal2.block g (by omega)]; exact hX
      have hB3 : Below g w ((wr.alloc (.cells #[.bool false, .bool false, .bool false, .bool false, .bool false, .bool false] 108)).alloc (.cells #[Value.int .i64 (a : Int)] 3)) := hB.trans (hal2.mono (by omega))
      have hz3 : (((wr.alloc (.cells #[.bool false, .bool false, .bool false, .bool false, .bool false, .bool false] 108)).alloc (.cells #[Value.int .i64 (a : Int)] 3))).heap.size = g + 4 := by simp [hz]
      generalize ((wr.alloc (.cells #[.bool false, .bool false, .bool false, .bool false, .bool false, .bool false] 108)).alloc (.cells #[Value.int .i64 (a : Int)] 3)) = w3 at hI3 hS3 hO3 hX3 hB3 hz3 ⊢
      clear hal hal2 hI2 hX hB hz
      have HK := Known.one (a : Int) (by omega) (by omega)
      generalize Value.slice (some ⟨g + 2 + 1, 0, none⟩) 1 1 = v0 at hO3 ⊢
      generalize hl0 : [(a : Int)] = l0 at hS3 hO3 HR HK
      clear hl0 hjl hlt j1
      go_wp2_with fail
      go_loopw [12, 13] (fun vl i wr => ∃ (q : Nat) (l : List Int), i = .int .i64 q ∧ q ≤ l.length ∧ Known l ∧ Hid (RR = outerR s.arcs L (b : Int) (9 - q) q l) ∧ BRow wr (g + 1) (fun x => x ∈ L) ∧ BRow wr (g + 2) (fun x => x ∈ l.tail) ∧ OwnI wr (g + 3) vl l ∧ wr.heap[g]? = some (.cells (cells7 a1 a2 a3 a4 k1 k2 k3 k4 s) 27 (0, 0)) ∧ Below g w wr ∧ g + 4 ≤ wr.heap.size) (fun _ i _ => 8 - (intOf i).toNat)
      case atStart => exact ⟨0, l0, rfl, Nat.zero_le _, HK, HR, hI3, hS3, hO3, hX3, hB3, by omega⟩
      case round =>
        clear HK HR hI3 hS3 hO3 hX3 hB3 hz3
        obtain ⟨q, l, rfl, hq, hK, HR, hI, hS, hO, hX, hB, hz⟩ := hrel
        have hlen := hK.len
        obtain ⟨va, vc, rfl⟩ := row_slice hO
        by_cases hlt : q < l.length
        · have q1 : (q : Int) < (l.length : Int) := by omega
          obtain ⟨n, hn⟩ : ∃ n, 9 - q = n + 1 := ⟨8 - q, by omega⟩
          have HR2 : Hid (RR = (match innerR L (b : Int) (l.getD q 0) s.arcs l with | none => true | some l' => outerR s.arcs L (b : Int) n (q + 1) l')) := by
            have h9 := HR.out
            rw [hn, outerR, if_pos hlt] at h9
            exact h9
          have hn' : 9 - (q + 1) = n := by omega
          obtain ⟨u, hu⟩ : ∃ u, l.getD q 0 = u := ⟨_, rfl⟩
          rw [hu] at HR2
          clear HR hn
          replace hn' := hide hn'
          go_wp2_with fail
          go_loopw [12, 14] (fun vl i wr => ∃ (k : Nat) (l : List Int), i = .int .i64 k ∧ k ≤ s.arcs.length ∧ q < l.length ∧ l.getD q 0 = u ∧ Known l ∧ Hid (RR = (match innerR L (b : Int) u (s.arcs.drop k) l with | none => true | some l' => outerR s.arcs L (b : Int) n (q + 1) l')) ∧ BRow wr (g + 1) (fun x => x ∈ L) ∧ BRow wr (g + 2) (fun x => x ∈ l.tail) ∧ OwnI wr (g + 3) vl l ∧ wr.heap[g]? = some (.cells (cells7 a1 a2 a3 a4 k1 k2 k3 k4 s) 27 (0, 0)) ∧ Below g w wr ∧ g + 4 ≤ wr.heap.size) (fun _ i _ => s.arcs.length - (intOf i).toNat)
          case atStart => exact ⟨0, l, rfl, Nat.zero_le _, hlt, hu, hK, HR2, hI, hS, hO, hX, hB, hz⟩
          case round =>
            clear hlt hu hK HR2 hI hS hO hX hB hz hlen q1 hq
            obtain ⟨k, l, rfl, hk, hq, hu, hK, HR, hI, hS, hO, hX, hB, hz⟩ := hrel
            have hlen := hK.len
            obtain ⟨va, vc, rfl⟩ := row_slice hO
            have c2 : wr.cell? ⟨g, 2, none⟩ = some (.slice a2 s.arcs.length k2) := (cells7_at hX).2.2.1
            by_cases hlt : k < s.arcs.length
            · have k1 : (k : Int) < (s.arcs.length : Int) := by omega
              obtain ⟨X, hX'⟩ : ∃ X, s.arcs.getD k noArc = X := ⟨_, rfl⟩
              have hR : RSt w g _ L l (.slice va l.length vc) wr := ⟨hI, hS, hO, hX, hB, hz⟩
              obtain ⟨b2, o2, rfl, _, _, _, _, _, d0, d1, d2, d3, d4⟩ := (LA.out.below (by rw [hg]; exact hB)).2 k hlt
              obtain ⟨x0, x6⟩ := hA k hlt
              have hdrop : s.arcs.drop k = X :: s.arcs.drop (k + 1) := by
                rw [List.drop_eq_getElem_cons hlt, ← hX', List.getD_eq_getElem?_getD, List.getElem?_eq_getElem hlt]; rfl
              rw [hX'] at d0 d1 d2 d3 d4 x0 x6
              obtain ⟨xd, hxd⟩ := nat_of _ x0
              rw [hxd] at d1 x6
              have xd6 : xd < 6 := by omega
              have HR' : Hid (RR = (match innerR L (b : Int) u (X :: s.arcs.drop (k + 1)) l with | none => true | some l' => outerR s.arcs L (b : Int) n (q + 1) l')) := by
                have h9 := HR.out; rw [hdrop] at h9; exact h9
              have hR4 := hide (hR.below (W' := wr.alloc (.cells #[.int .i64 X.src, .int .i64 (xd : Int), .int .i64 X.ledger, .string X.asset, .int .i64 X.amount] 42)) ((Below.refl _ _).alloc (Nat.le_refl _) _))
              have m0 : (wr.alloc (.cells #[.int .i64 X.src, .int .i64 (xd : Int), .int .i64 X.ledger, .string X.asset, .int .i64 X.amount] 42)).cell? ⟨wr.heap.size, 0, none⟩ = some (.int .i64 X.src) := by rw [World.cell?_alloc_new]; rfl
              have m1 : (wr.alloc (.cells #[.int .i64 X.src, .int .i64 (xd : Int), .int .i64 X.ledger, .string X.asset, .int .i64 X.amount] 42)).cell? ⟨wr.heap.size, 1, none⟩ = some (.int .i64 (xd : Int)) := by rw [World.cell?_alloc_new]; rfl
              replace m0 := hide m0
              replace m1 := hide m1
              replace hxd := hide hxd
              replace hu := hide hu
              clear hI hS hO hX hB hz HR hdrop hX' hR x0
              go_upto_region 17 with fail
              clear c2 d0 d1 d2 d3 d4
              generalize wr.alloc (.cells #[.int .i64 X.src, .int .i64 (xd : Int), .int .i64 X.ledger, .string X.asset, .int .i64 X.amount] 42) = w4 at hR4 m0 m1 ⊢
              generalize wr.heap.size = gx at m0 m1 ⊢
              replace m0 := m0.out
              replace m1 := m1.out
              obtain ⟨hI4, hS4, hO4, hX4, hB4, hz4⟩ := hR4.out
              obtain ⟨i1, _⟩ := hI4.get xd xd6
              obtain ⟨gl, hgl, _, hcl⟩ : ∃ gl, va = some ⟨gl, 0, none⟩ ∧ g + 3 ≤ gl ∧ ∀ j, j < l.length * 1 → w4.cell? ⟨gl, j, none⟩ = (l.map (Value.int .i64))[j]? := by
                obtain ⟨a', c', hv, _, _, hx⟩ := row_at hO4
                injection hv with hv _ _
                subst hv
                exact hx (by omega)
              subst hgl
              have cl : w4.cell? ⟨gl, q, none⟩ = some (.int .i64 u) := by
                rw [hcl q (by omega), List.getElem?_map, List.getElem?_eq_getElem hq, ← hu.out, List.getD_eq_getElem?_getD, List.getElem?_eq_getElem hq]; rfl
              have q1 : (q : Int) < (l.length : Int) := by omega
              clear hcl hI4 hS4 hO4 hX4 hB4 hz4
              by_cases c1 : X.src = u
              · have c1' : (X.src != u) = false := by rw [bne_eq_false_iff_eq]; exact c1
                by_cases cI : (xd : Int) ∈ L
                · have HN : Hid (RR = (match innerR L (b : Int) u (s.arcs.drop (k + 1)) l with | none => true | some l' => outerR s.arcs L (b : Int) n (q + 1) l')) := by
                    have h9 := HR'.out
                    rw [innerR, if_pos (.inr (by rw [hxd.out]; exact cI))] at h9
                    exact h9
                  rw [told_yes cI] at i1
                  clear c1 cI HR'
                  go_quiet (fail)
                  have hR6 := hide (hR4.out.drewN nq)
                  generalize w4.drewN nq = w6 at hR6 ⊢
                  clear m0 m1 i1 cl hR4
                  go_wp2_with fail
                  go_roundw
                  case rel => obtain ⟨y1, y2, y3, y4, y5, y6⟩ := hR6.out; exact ⟨k + 1, l, by go_num, by omega, hq, hu.out, hK, HN, y1, y2, y3, y4, y5, y6⟩
                  case measure => simp [intOf]; omega
                · rw [told_no cI] at i1
                  have hcond : ¬ (X.src ≠ u ∨ X.dst ∈ L) := fun h => h.elim (fun h => h c1) (fun h => cI (by rw [← hxd.out]; exact h))
                  replace c1 := hide c1
                  replace cI := hide cI
                  go_quiet (fail)
                  have hR6 := hide (hR4.out.drewN nq)
                  have m1' : (w4.drewN nq).cell? ⟨gx, 1, none⟩ = some (.int .i64 (xd : Int)) := m1
                  generalize w4.drewN nq = w6 at hR6 m1' ⊢
                  clear m0 m1 i1 cl hR4
                  by_cases cb : (xd : Int) = (b : Int)
                  · have cb' : ((xd : Int) == (b : Int)) = true := by rw [cb]; exact beq_self_eq_true _
                    have hf : Hid (RR = true) := by
                      have h9 := HR'.out
                      rw [innerR, if_neg hcond, if_pos (by rw [hxd.out]; exact cb)] at h9
                      exact h9
                    clear cb hcond
                    go_wp2
                    go_ret
                    exact ⟨ret_bool hf.out.symm, by rw [hg]; exact hR6.out.2.2.2.2.1⟩
                  · have cb' : ((xd : Int) == (b : Int)) = false := by rw [beq_eq_false_iff_ne]; exact cb
                    obtain ⟨s1, s2⟩ := hR6.out.2.1.get xd xd6
                    by_cases cs : (xd : Int) ∈ l.tail
                    · have HN : Hid (RR = (match innerR L (b : Int) u (s.arcs.drop (k + 1)) l with | none => true | some l' => outerR s.arcs L (b : Int) n (q + 1) l')) := by
                        have h9 := HR'.out
                        rw [innerR, if_neg hcond, if_neg (by rw [hxd.out]; exact cb), if_pos (by rw [hxd.out]; exact cs)] at h9
                        exact h9
                      rw [told_yes cs] at s1
                      clear cb hcond cs HR'
                      go_wp2_with fail
                      go_roundw
                      case rel => obtain ⟨y1, y2, y3, y4, y5, y6⟩ := hR6.out; exact ⟨k + 1, l, by go_num, by omega, hq, hu.out, hK, HN, y1, y2, y3, y4, y5, y6⟩
                      case measure => simp [intOf]; omega
                    · have HN : Hid (RR = (match innerR L (b : Int) u (s.arcs.drop (k + 1)) (l ++ [(xd : Int)]) with | none => true | some l' => outerR s.arcs L (b : Int) n (q + 1) l')) := by
                        have h9 := HR'.out
                        rw [innerR, if_neg hcond, if_neg (by rw [hxd.out]; exact cb), if_neg (by rw [hxd.out]; exact cs), hxd.out] at h9
                        exact h9
                      rw [told_no cs] at s1
                      have hK' := hide (hK.more (xd : Int) (by omega) (by omega) cs)
                      have hO6 := hR6.out.2.2.1
                      have hO7 : Hid ((w6.setCell ⟨g + 2, xd, none⟩ (.bool true)).ownsRow (g + 3) 3 1 (.slice (some ⟨gl, 0, none⟩) l.length vc) l.length (l.map (Value.int .i64))) := World.ownsRow.kept hO6 (But.setCell w6 (g + 2) xd (.bool true)).grown (.inr (by have := (World.ownsRow.lt hO6 gl rfl).1; show some gl ≠ some (g + 2); intro e; injection e with e; omega))
                      have hz7 : g + 3 ≤ (w6.setCell ⟨g + 2, xd, none⟩ (.bool true)).heap.size := by have := hR6.out.2.2.2.2.2; simp [World.setCell]; omega
                      have hne : gx ≠ g + 2 := fun e => by
                        obtain ⟨z0, z1, z2, z3, z4, z5, hzz, _⟩ := hR6.out.2.1
                        rw [e, cell_of_row w6 (g + 2) 1 _ _ _ hzz] at m1'
                        simp at m1'
                      have m1'' : (w6.setCell ⟨g + 2, xd, none⟩ (.bool true)).cell? ⟨gx, 1, none⟩ = some (.int .i64 (xd : Int)) := (But.setCell w6 (g + 2) xd (.bool true)).cell hne m1'
                      clear hO6 hcond cb cs HR' hne
                      go_upto_region 22 with fail
                      clear s1 s2 m1'
                      generalize hw7 : w6.setCell ⟨g + 2, xd, none⟩ (.bool true) = w7 at hO7 hz7 m1'' ⊢
                      replace hw7 := hide hw7
                      go_wp2_with (at_builtin; refine wpList_put1 (st := 22) Try.underlying22 Try.info3 rfl (by decide) (by decide) w7 _ (by rfl) (.tmp 80) (.tmp 83) (by rfl) (g + 3) _ _ _ (by rfl) hO7.out (by rfl) rfl (by intro u hu; simp at hu; subst hu; rfl) (by omega) hz7 ?_; intro v8 w8 hown8 hg8; obtain ⟨v8a, v8c, rfl⟩ := row_slice hown8)
                      go_roundw
                      case rel =>
                        have h9 := hR6.out.more hK xd6 hown8 (by rw [hw7.out]; exact hg8)
                        obtain ⟨y1, y2, y3, y4, y5, y6⟩ := h9
                        exact ⟨k + 1, l ++ [(xd : Int)], by go_num, by omega, by simp; omega, by rw [← hu.out]; simp [List.getD_eq_getElem?_getD, List.getElem?_append, hq], hK'.out, HN, y1, y2, y3, y4, y5, y6⟩
                      case measure => simp [intOf]; omega
              · have c1' : (X.src != u) = true := by rw [bne_iff_ne]; exact c1
                have HN : Hid (RR = (match innerR L (b : Int) u (s.arcs.drop (k + 1)) l with | none => true | some l' => outerR s.arcs L (b : Int) n (q + 1) l')) := by
                  have h9 := HR'.out
                  rw [innerR, if_pos (.inl c1)] at h9
                  exact h9
                clear c1 HR'
                go_quiet (fail)
                have hR6 := hide (hR4.out.drewN nq)
                generalize w4.drewN nq = w6 at hR6 ⊢
                clear m0 m1 i1 cl hR4
                go_wp2_with fail
                go_roundw
                case rel => obtain ⟨y1, y2, y3, y4, y5, y6⟩ := hR6.out; exact ⟨k + 1, l, by go_num, by omega, hq, hu.out, hK, HN, y1, y2, y3, y4, y5, y6⟩
                case measure => simp [intOf]; omega
            · have k1 : ¬ (k : Int) < (s.arcs.length : Int) := by omega
              have hkl : k = s.arcs.length := by omega
              have HR3 : Hid (RR = outerR s.arcs L (b : Int) (9 - (q + 1)) (q + 1) l) := by
                have h9 := HR.out
                rw [hkl, List.drop_length, innerR] at h9
                rw [hn'.out]; exact h9
              replace hI := hide hI
              replace hS := hide hS
              replace hO := hide hO
              replace hX := hide hX
              replace hB := hide hB
              go_wp2_with fail
              go_roundw
              case rel => exact ⟨q + 1, l, by go_num, by omega, hK, HR3, hI.out, hS.out, hO.out, hX.out, hB.out, hz⟩
              case measure => simp [intOf]; omega
        · have q1 : ¬ (q : Int) < (l.length : Int) := by omega
          have hf : RR = false := by
            have h9 := HR.out
            rw [show 9 - q = (8 - q) + 1 by omega, outerR, if_neg hlt] at h9
            exact h9
          replace hf := hide hf
          replace hO := hide hO
          go_wp2
          go_ret
          exact ⟨ret_bool hf.out.symm, hB⟩

end Go.Proofs.Ythoimecljfcjmaa
