/-
  The walk of GraphRing.
-/
import Derived.Test.YtdaagjpigcejaaaGrWake
import Derived.Test.YtdaagjpigcejaaaZ43
import Derived.Test.YtdaagjpigcejaaaZ00
namespace Go.Proofs.Ytdaagjpigcejaaa
open Go.RowKit

/-- Round a ring of k, from a on, m of them. -/
def rpath (a k : Nat) : Nat → List Int
  | 0 => []
  | m + 1 => rpath a k m ++ [(((a + m) % k : Nat) : Int)]
theorem rpath_len (a k m : Nat) : (rpath a k m).length = m := by
  induction m with
  | zero => rfl
  | succ m ih => rw [rpath, List.length_append, ih]; rfl
theorem rpath_in (a k m : Nat) (hk : 0 < k) (hk6 : k ≤ 6) : ∀ x ∈ rpath a k m, 0 ≤ x ∧ x < 6 := by
  induction m with
  | zero => intro x hx; simp [rpath] at hx
  | succ m ih =>
    intro x hx
    rw [rpath] at hx
    rcases List.mem_append.1 hx with h | h
    · exact ih x h
    · rw [List.mem_singleton] at h
      subst h
      have := Nat.mod_lt (a + m) hk
      generalize (a + m) % k = q at this ⊢
      omega
theorem ring_paths : ∀ j, j < 5 → ∀ a, a < 2 + j → ∀ m, m < 2 + j → (pathB (2 + j) (arcsP (2 + j) 0 2) (rpath a (2 + j) (1 + m)) = true ∧ pathB (2 + j) (arcsP (2 + j) 0 2) (rpath a (2 + j) (1 + m) ++ [(rpath a (2 + j) (1 + m)).getD 0 0]) = false ∧ pathB (2 + j) (arcsP (2 + j) 0 2) (rpath a (2 + j) (1 + m) ++ [(((a + (1 + m)) % (2 + j) : Nat) : Int)]) = decide (1 + m < 2 + j)) := by decide +kernel
theorem ring_less : ∀ j, j < 5 → (pathB (2 + j) (arcsP (2 + j) 0 2) [] = false ∧ pathB (2 + j) (arcsP (2 + j) 0 2) [-1] = false ∧ strongP (2 + j) ((arcsP (2 + j) 0 2).drop 1) = false ∧ fbP (2 + j) ((arcsP (2 + j) 0 2).drop 1) [0] = true ∧ (arcsP (2 + j) 0 2).length = 2 + j) := by decide +kernel
theorem ring_fine (j : Nat) (hj : j < 5) : arcsFine (2 + j) ((arcsP (2 + j) 0 2).drop 1) := by
  have : j = 0 ∨ j = 1 ∨ j = 2 ∨ j = 3 ∨ j = 4 := by omega
  rcases this with rfl | rfl | rfl | rfl | rfl <;> exact @of_decide_eq_true _ (arcsFineDec _ _) (by decide +kernel)
theorem below_thenB {B : Nat} {w a b : World} (h : Below B w a) (k : Below a.heap.size a b) (hB : B ≤ a.heap.size) : Below B w b := h.trans (k.mono hB)
theorem mod_nat (x k : Nat) : Int.tmod (x : Int) (k : Int) = ((x % k : Nat) : Int) := by rw [Int.tmod_eq_emod_of_nonneg (by omega)]; exact (Int.natCast_emod x k).symm

set_option maxRecDepth 10000 in
set_option maxHeartbeats 4000000 in
theorem gring_any (a0 a1' a2' : Int) (_h0 : (Lit.int .i64 a0).wf = true) (_h1 : (Lit.int .i64 a1').wf = true) (_h2 : (Lit.int .i64 a2').wf = true) (w : World) : Calls Try.prog 3 #[.int .i64 a0, .int .i64 a1', .int .i64 a2'] w fun e w' => e = .returned (.bool true) ∧ Below w.heap.size w w' := by
  obtain ⟨j, hj, HP0⟩ := place_ex a0 5 (by omega) (by omega)
  obtain ⟨k, hk⟩ : ∃ k, 2 + j = k := ⟨_, rfl⟩
  have hk2 : 2 ≤ k := by omega
  have hk6 : k ≤ 6 := by omega
  obtain ⟨a, ha, HP1⟩ := place_ex a1' (k : Int) (by omega) (by omega)
  obtain ⟨m', hm', HP2⟩ := place_ex a2' (k : Int) (by omega) (by omega)
  obtain ⟨m, hm⟩ : ∃ m, 1 + m' = m := ⟨_, rfl⟩
  obtain ⟨S, hS, hok⟩ : ∃ S, S = ringM k 5 6 ∧ specOk S := ⟨_, rfl, ring_ok k hk2 hk6 _ _ (by omega) (by omega) (by omega) (by omega)⟩
  have HR : ∀ W, Calls Try.prog 9 #[.int .i64 (k : Int), .int .i64 5, .int .i64 6] W fun e w' => ∃ v, e = .returned v ∧ OwnSpec w' W.heap.size v S ∧ Below W.heap.size W w' := fun W => by rw [hS]; exact ring_any k (by omega) hk6 5 6 W
  have hsane := SaneS.of_ok hok
  have hnp : S.parties.length = k := by rw [hS, ring_np5]
  have hA : S.arcs = arcsP k 0 2 := by rw [hS]; rfl
  have hL : S.leaders = [0] := by rw [hS]; rfl
  obtain ⟨p1, p2, p3⟩ := ring_paths j (by omega) a (by omega) m' (by omega)
  obtain ⟨p4, p5, p6, p7, p8⟩ := ring_less j (by omega)
  have hfine := ring_fine j (by omega)
  rw [hk, hm] at p1 p2 p3
  rw [hk] at p4 p5 p6 p7 p8 hfine
  obtain ⟨y0, hy0⟩ : ∃ y, (rpath a k m).getD 0 0 = y := ⟨_, rfl⟩
  obtain ⟨y1, hy1⟩ : ∃ y, (a + m) % k = y := ⟨_, rfl⟩
  rw [hy0] at p2
  rw [hy1] at p3
  obtain ⟨T, hTd, hTok⟩ : ∃ T : SpecM, T = { S with arcs := S.arcs.drop 1 } ∧ specOk T := ⟨_, rfl, by
    rw [hS]
    exact keyed_ok ringId k 1 _ [0] 5 6 (by unfold nameOk; decide) hk2 hk6 hfine rfl (by omega) (by omega) (fun i hi => by
      have hi0 : i = 0 := by omega
      subst hi0
      exact ⟨by simp, by simp; omega, fun k hk => absurd hk (by omega)⟩) (by omega) (by omega) (by omega) (by omega)⟩
  have r6 : strM T = false := by rw [strong_reckoned hTok, hTd]; show strongP S.parties.length (S.arcs.drop 1) = false; rw [hnp, hA]; exact p6
  have r7 : fbkM T = true := by rw [fb_reckoned hTok, hTd]; show fbP S.parties.length (S.arcs.drop 1) S.leaders = true; rw [hnp, hA, hL]; exact p7
  have HPath : ∀ (l : List Int) (r : Bool), pathB k (arcsP k 0 2) l = r → ∀ W v al cl, SpecW W v S → Ints W al l.length l → l.length ≤ cl → cl ≤ maxLen → Calls Try.prog 10 #[v, .slice al l.length cl] W fun e w' => e = .returned (.bool r) ∧ Below W.heap.size W w' := fun l r hr W v al cl hv hI h1 h2 => by
    have h9 := ppath_any hv hI h1 h2
    rw [path_reckoned hok, hnp, hA, hr] at h9; exact h9
  have HPa := HPath _ _ p1
  have HPb := HPath _ _ p2
  have HPc := HPath _ _ p3
  have HPd := HPath _ _ p4
  have HPe := HPath _ _ p5
  rw [rpath_len] at HPa
  rw [List.length_append, rpath_len] at HPb HPc
  have hna : S.arcs.length = k := by rw [hA]; exact p8
  have hrin := rpath_in a k m (by omega) hk6
  have hrl := rpath_len a k m
  have hm1 : 1 ≤ m := by omega
  have hm7 : m ≤ 6 := by omega
  have HTs : Hid (∀ W v, SpecW W v T → Calls Try.prog 11 #[v] W fun e w' => e = .returned (.bool false) ∧ Below W.heap.size W w') := fun W v hv => by have h9 := pstrong_any hv; rw [r6] at h9; exact h9
  have HTf : Hid (∀ W v, SpecW W v T → Calls Try.prog 12 #[v] W fun e w' => e = .returned (.bool true) ∧ Below W.heap.size W w') := fun W v hv => by have h9 := pfeedback_any hv; rw [r7] at h9; exact h9
  have HAW : Hid (∀ W, Calls Try.prog 13 #[] W fun e w' => e = .returned (.bool true) ∧ Below W.heap.size W w') := awake5_any
  have hk' : (2 : Int) + (j : Int) = (k : Int) := by omega
  have hmm : (1 : Int) + (m' : Int) = (m : Int) := by omega
  clear HPath p1 p2 p3 p4 p5 p6 p7 p8 r6 r7 hS hA hL hnp hfine _h0 _h1 _h2
  replace HR := hide HR
  replace HP0 := hide HP0
  replace HP1 := hide HP1
  replace HP2 := hide HP2
  replace HPa := hide HPa
  replace HPb := hide HPb
  replace HPc := hide HPc
  replace HPd := hide HPd
  replace HPe := hide HPe
  replace hok := hide hok
  replace hTd := hide hTd
  replace hrin := hide hrin
  replace hy0 := hide hy0
  replace hy1 := hide hy1
  replace hk := hide hk
  replace hm := hide hm
  replace hTok := hide hTok
  replace hrl := hide hrl
  obtain ⟨g0, hg0⟩ : ∃ g, w.heap.size = g := ⟨_, rfl⟩
  rw [hg0]
  go_enter Try.func3, Try.ntmps3
  go_wp2_with fail
  refine (HP0.out _).mono ?_
  rintro e w0 ⟨rfl, hw0⟩
  subst w0
  go_wp2_with fail
  refine (HR.out _).mono ?_
  rintro e w1 ⟨v, rfl, hO1, hb1⟩
  rw [hg0] at hb1
  have hW1 := hO1.wide hsane
  have hWcs := hW1
  obtain ⟨a1, a2, a3, a4, k1, k2, k3, k4, hv, LI, CA⟩ := hWcs
  subst hv
  clear HR hO1 HP0
  have h7 : Seven (cells7 a1 a2 a3 a4 k1 k2 k3 k4 S) := by
    refine ⟨rfl, fun u hu => ?_⟩
    simp [cells7] at hu
    rcases hu with rfl | rfl | rfl | rfl | rfl | rfl | rfl <;> rfl
  go_wp2_with ((with_reducible refine wpList_at ?_); refine wpList_varS (by rfl) (by rfl) (by rfl) (.tmp 8) (.tmp 18) (by rfl) _ (by rfl) (by rfl) h7 ?_; intro w2 hv2 hz2 hb2)
  obtain ⟨g, hg⟩ : ∃ g, w1.heap.size = g := ⟨_, rfl⟩
  have HW : Hid (∀ W, Below g w1 W → SpecW W (.agg (cells7 a1 a2 a3 a4 k1 k2 k3 k4 S)) S) := fun W hW => hW1.below (by rw [hg]; exact hW)
  have HLI : Hid (∀ W, Below g w1 W → Lies W a1 a2 a3 a4 S) := fun W hW => LI.below (by rw [hg]; exact hW)
  rw [hg] at hv2 hz2 hb2 ⊢
  have hgg : g0 ≤ g := by have := hb1.size; omega
  clear LI hW1
  refine (HP1.out _).mono ?_
  rintro e w0 ⟨rfl, hw0⟩
  subst w0
  go_wp2_with fail
  refine (HP2.out _).mono ?_
  rintro e w0 ⟨rfl, hw0⟩
  subst w0
  clear HP1 HP2
  go_wp2_with fail
  go_loopw [11, 12] (fun vl i wr => ∃ n : Nat, n ≤ m ∧ i = .int .i64 n ∧ OwnI wr (g + 1) vl (rpath a k n) ∧ SvAt wr g (cells7 a1 a2 a3 a4 k1 k2 k3 k4 S) ∧ Below g w1 wr ∧ g + 1 ≤ wr.heap.size) (fun _ i _ => m - (intOf i).toNat)
  case atStart => exact ⟨0, by omega, rfl, World.ownsRow_nil _ _ _ _, hv2, hb2, by omega⟩
  case round =>
    clear hv2 hb2 hz2
    obtain ⟨n, hn, rfl, hO, hx, hB, hz⟩ := hrel
    have hO' := hO
    unfold OwnI at hO'
    rw [rpath_len] at hO'
    obtain ⟨va, vc, rfl⟩ := row_slice hO'
    by_cases hlt : n < m
    · have n1 : (n : Int) < (m : Int) := by omega
      obtain ⟨y, hy⟩ : ∃ y : Nat, (a + n) % k = y := ⟨_, rfl⟩
      have hw0 : IntKind.i64.wrap ((a : Int) + (n : Int)) = ((a + n : Nat) : Int) := by rw [wrap_i64 (by omega) (by omega)]; omega
      have hk0 : ¬ k = 0 := by omega
      obtain ⟨z, hz0⟩ : ∃ z : Nat, a + n = z := ⟨_, rfl⟩
      rw [hz0] at hw0
      have hzm : Int.tmod (z : Int) (k : Int) = (y : Int) := by rw [mod_nat, ← hz0, hy]
      have hy6 : y < 6 := by have := Nat.mod_lt (a + n) (show 0 < k by omega); omega
      have hwz : IntKind.i64.wrap (Int.tmod (z : Int) (k : Int)) = (y : Int) := by rw [hzm, wrap_i64 (by omega) (by omega)]
      have hwz' : IntKind.i64.wrap (y : Int) = (y : Int) := wrap_i64 (by omega) (by omega)
      replace hO' := hide hO'
      have hx' := hide hx
      have hB' := hide hB
      replace hy := hide hy
      replace hz0 := hide hz0
      clear hO hx hB
      go_wp2_with (at_builtin; refine wpList_put1 (st := 25) Try.underlying25 Try.info3 rfl (by decide) (by decide) wr _ (by rfl) (.tmp 31) (.tmp 37) (by rfl) (g + 1) _ _ _ (by rfl) hO'.out (by rfl) rfl (by intro u hu; simp at hu; subst hu; rfl) (by omega) hz ?_; intro v8 w8 hown8 hg8; obtain ⟨v8a, v8c, rfl⟩ := row_slice hown8)
      go_roundw
      case rel =>
        have hlt8 := World.ownsRow.lt hO'.out
        have hne : some g ≠ Value.ownBlock (.slice va n vc) := fun e => by have := (hlt8 g e.symm).1; omega
        have hx8 : SvAt w8 g (cells7 a1 a2 a3 a4 k1 k2 k3 k4 S) := by have h9 := hx'.out; unfold SvAt at h9 ⊢; rw [hg8.block g (Array.getElem?_eq_some_iff.1 h9).1 hne]; exact h9
        refine ⟨n + 1, by omega, by go_num, ?_, hx8, hB'.out.grown hg8 (by omega) (fun k hk => by have := (hlt8 k hk).1; omega), Nat.le_trans hz hg8.size⟩
        rw [rpath, hy.out]
        unfold OwnI
        rw [List.length_append, rpath_len, List.map_append]; exact hown8
      case measure => simp [intOf]; omega
    · have n1 : ¬ (n : Int) < (m : Int) := by omega
      have hnm : n = m := by omega
      have HO : Hid (OwnI wr (g + 1) (.slice va n vc) (rpath a k m)) := by rw [← hnm]; exact hO
      have hgw := hx.lt
      clear hO hO'
      go_upto_region 10 with (first
        | ((with_reducible refine wpList_at ?_); refine wpList_loadV (by rfl) (.tmp 8) (by rfl) _ _ (by rfl) hx h7 ?_)
        | ((with_reducible refine wpList_at ?_); refine wpList_varS (by rfl) (by rfl) (by rfl) (.tmp 13) (.tmp 39) (by rfl) _ (by rfl) (by rfl) h7 ?_; intro w6 hv6 hz6 hb6))
      obtain ⟨gt, hgt⟩ : ∃ gt, wr.heap.size = gt := ⟨_, rfl⟩
      rw [hgt] at hv6 hz6 hgw ⊢
      have hx6 := hx.below hb6
      have hB6 : Below g w1 w6 := hB.trans (hb6.mono (by omega))
      have hO6 := hide (own_below HO.out hb6)
      have c2 : w6.cell? ⟨g, 2, none⟩ = some (.slice a2 k k2) := by have h9 := (cells7_at hx6).2.2.1; rw [hna] at h9; exact h9
      obtain ⟨e1, e2, ek2, ek2m, ek3, ek3m⟩ := CA
      rw [hna] at ek2
      have hLies6 := HLI.out w6 hB6
      obtain ⟨b2, o2, ha2⟩ : ∃ b o, a2 = some ⟨b, o, none⟩ := by obtain ⟨b, o, h, _⟩ := hLies6.arcs.2 0 (by rw [hna]; omega); exact ⟨b, o, h⟩
      subst ha2
      have hk21 : ¬ k2 = 1 := by omega
      have hk22 : 1 ≤ k := by omega
      have hT6 : SAt w6 gt S.id (.slice a1 S.parties.length k1) (.slice (some ⟨b2, o2, none⟩) k k2) (.slice a3 S.leaders.length k3) (.slice a4 S.locks.length k4) S.start S.delta := by have h9 := hv6; rw [← hna]; exact h9
      have q2 := hT6.cells.2.2.1
      have f2 := hT6.frozen 2
      have hT7 := hide (hT6.set2 (.slice (some ⟨b2, o2 + 5, none⟩) (k - 1) (k2 - 1)))
      have hset := But.setCell w6 gt 2 (.slice (some ⟨b2, o2 + 5, none⟩) (k - 1) (k2 - 1))
      have hx7 := hide (hx6.but hset (by omega))
      have hB7 := hide (hB6.setCell (p := ⟨gt, 2, none⟩) (by show g ≤ gt; omega) (.slice (some ⟨b2, o2 + 5, none⟩) (k - 1) (k2 - 1)))
      have hO7 : Hid (OwnI (w6.setCell ⟨gt, 2, none⟩ (.slice (some ⟨b2, o2 + 5, none⟩) (k - 1) (k2 - 1))) (g + 1) (.slice va n vc) (rpath a k m)) := World.ownsRow.kept hO6.out hset.grown (row_apart hO6.out hT6 (by decide))
      have hz7 : (w6.setCell ⟨gt, 2, none⟩ (.slice (some ⟨b2, o2 + 5, none⟩) (k - 1) (k2 - 1))).heap.size = gt + 1 := by simp [World.setCell, hz6]
      clear hx hB hb6 hset hT6 hv6 hO6 hx6 hB6 HO hLies6
      go_upto_region 11 with fail
      clear c2 q2 f2
      generalize w6.setCell ⟨gt, 2, none⟩ (.slice (some ⟨b2, o2 + 5, none⟩) (k - 1) (k2 - 1)) = w7 at hT7 hx7 hB7 hO7 hz7 ⊢
      have hx7 := hx7.out
      have hB7 := hB7.out
      have hAr := (HLI.out w7 hB7).arcs.drop 1
      rw [Nat.one_mul] at hAr
      have hWT : SpecW w7 (.agg (scells S.id (.slice a1 S.parties.length k1) (.slice (some ⟨b2, o2 + 5, none⟩) (k - 1) (k2 - 1)) (.slice a3 S.leaders.length k3) (.slice a4 S.locks.length k4) S.start S.delta)) T := by
        rw [hTd.out]
        have hL7 := HLI.out w7 hB7
        exact ⟨a1, some ⟨b2, o2 + 5, none⟩, a3, a4, k1, k2 - 1, k3, k4, by show _ = Value.agg (cells7 _ _ _ _ _ _ _ _ _); unfold cells7 scells; rw [show (SpecM.arcs { S with arcs := S.arcs.drop 1 }).length = k - 1 by show (S.arcs.drop 1).length = k - 1; rw [List.length_drop, hna]], ⟨hL7.id, hL7.parties, hAr, hL7.leaders, hL7.locks, hL7.start, hL7.delta⟩, e1, e2, by show (S.arcs.drop 1).length ≤ k2 - 1; rw [List.length_drop, hna]; omega, by have := ek2m; omega, ek3, ek3m⟩
      have hvT : SvAt w7 gt (scells S.id (.slice a1 S.parties.length k1) (.slice (some ⟨b2, o2 + 5, none⟩) (k - 1) (k2 - 1)) (.slice a3 S.leaders.length k3) (.slice a4 S.locks.length k4) S.start S.delta) := hT7.out
      have h7T : Seven (scells S.id (.slice a1 S.parties.length k1) (.slice (some ⟨b2, o2 + 5, none⟩) (k - 1) (k2 - 1)) (.slice a3 S.leaders.length k3) (.slice a4 S.locks.length k4) S.start S.delta) := ⟨rfl, fun u hu => by simp [scells] at hu; rcases hu with rfl | rfl | rfl | rfl | rfl | rfl | rfl <;> rfl⟩
      generalize scells S.id (.slice a1 S.parties.length k1) (.slice (some ⟨b2, o2 + 5, none⟩) (k - 1) (k2 - 1)) (.slice a3 S.leaders.length k3) (.slice a4 S.locks.length k4) S.start S.delta = csT at hWT hvT h7T
      have hWS := HW.out w7 hB7
      have hBw : Below g0 w w7 := hb1.trans (hB7.mono hgg)
      obtain ⟨la, lc, hla, hlc1, hlc2, hIl⟩ := hO7.out.ints (by rw [hrl.out]; omega) (fun j hj => by have := hrin.out _ (getD_mem _ j 0 hj); unfold In64; omega)
      injection hla with hla1 hla2 hla3
      subst hla1
      subst hla3
      have hnm' : n = m := hnm
      subst hnm'
      rw [hrl.out] at hlc1 hIl
      obtain ⟨bl, ol, hbl, dl⟩ := hIl.2.2.2 0 (by omega)
      subst hbl
      rw [hy0.out] at dl
      have dl : w7.cell? ⟨bl, ol, none⟩ = some (.int .i64 y0) := dl
      have hIc := hIl.cells
      have hone := ints_one (rpath a k n)
      have hmapl : ((rpath a k n).map (Value.int .i64)).length = n * 1 := by rw [List.length_map, hrl.out, Nat.mul_one]
      have hyn : 0 ≤ y0 ∧ y0 < 6 := by rw [← hy0.out]; exact hrin.out _ (getD_mem _ 0 0 (by rw [hrl.out]; omega))
      have hy16 : y1 < 6 := by rw [← hy1.out]; have := Nat.mod_lt (a + n) (show 0 < k by omega); omega
      generalize hxs : (rpath a k n).map (Value.int .i64) = xs at hIc hone hmapl
      obtain ⟨B, hBs⟩ : ∃ B, w7.heap.size = B := ⟨_, rfl⟩
      have XL : Hid ((∀ j u, xs[j]? = some u → w7.cell? ((⟨bl, ol, none⟩ : Addr).add j) = some u) ∧ xs.length = n * 1 ∧ ∀ u ∈ xs, u.oneCell' = true) := ⟨hIc, hmapl, hone⟩
      have hxs' := hide hxs
      have H1 : Hid (∀ W, Below B w7 W → Calls Try.prog 10 #[.agg (cells7 a1 (some ⟨b2, o2, none⟩) a3 a4 k1 k2 k3 k4 S), .slice (some ⟨bl, ol, none⟩) n vc] W fun e w' => e = .returned (.bool true) ∧ Below W.heap.size W w') := fun W hW => HPa.out W _ _ _ (hWS.below (by rw [hBs]; exact hW)) (hIl.below (by rw [hBs]; exact hW)) hlc1 hlc2
      have HQ : ∀ (y : Int), 0 ≤ y → y < 6 → ∀ W u, W.ownsRow B 3 1 u (n + 1) (xs ++ [.int .i64 y]) → ∃ ua uc, u = .slice ua (n + 1) uc ∧ Ints W ua (n + 1) (rpath a k n ++ [y]) ∧ n + 1 ≤ uc ∧ uc ≤ maxLen := fun y y0 y6 W u hu => by
        have h8 : OwnI W B u (rpath a k n ++ [y]) := by
          unfold OwnI
          rw [List.length_append, hrl.out, List.map_append, hxs]; exact hu
        obtain ⟨ua, uc, r1, r2, r3, r4⟩ := h8.ints (by rw [List.length_append, hrl.out]; simp; omega) (fun j hj => by
          have hm := getD_mem (rpath a k n ++ [y]) j 0 hj
          unfold In64
          rcases List.mem_append.1 hm with h | h
          · have := hrin.out _ h; omega
          · simp only [List.mem_singleton] at h; omega)
        rw [List.length_append, hrl.out] at r1 r2 r4
        exact ⟨ua, uc, r1, r4, r2, r3⟩
      have H2 : Hid (∀ W u, Below B w7 W → W.ownsRow B 3 1 u (n + 1) (xs ++ [.int .i64 y0]) → Calls Try.prog 10 #[.agg (cells7 a1 (some ⟨b2, o2, none⟩) a3 a4 k1 k2 k3 k4 S), u] W fun e w' => e = .returned (.bool false) ∧ Below W.heap.size W w') := fun W u hW hu => by
        obtain ⟨ua, uc, r1, r2, r3, r4⟩ := HQ y0 hyn.1 hyn.2 W u hu
        rw [r1]; exact HPb.out W _ _ _ (hWS.below (by rw [hBs]; exact hW)) r2 r3 r4
      have H3 : Hid (∀ W u, Below B w7 W → W.ownsRow B 3 1 u (n + 1) (xs ++ [.int .i64 (y1 : Int)]) → Calls Try.prog 10 #[.agg (cells7 a1 (some ⟨b2, o2, none⟩) a3 a4 k1 k2 k3 k4 S), u] W fun e w' => e = .returned (.bool (decide (n < k))) ∧ Below W.heap.size W w') := fun W u hW hu => by
        obtain ⟨ua, uc, r1, r2, r3, r4⟩ := HQ (y1 : Int) (by omega) (by omega) W u hu
        rw [r1]; exact HPc.out W _ _ _ (hWS.below (by rw [hBs]; exact hW)) r2 r3 r4
      have H4 : Hid (∀ W, Below B w7 W → Calls Try.prog 10 #[.agg (cells7 a1 (some ⟨b2, o2, none⟩) a3 a4 k1 k2 k3 k4 S), .slice none 0 0] W fun e w' => e = .returned (.bool false) ∧ Below W.heap.size W w') := fun W hW => HPd.out W _ none 0 (hWS.below (by rw [hBs]; exact hW)) (ints_nil W) (Nat.le_refl _) (by unfold maxLen; omega)
      have H5 : Hid (∀ W gb, Below B w7 W → W.heap[gb]? = some (.cells #[.int .i64 (-1)] 3 (0, 0)) → Calls Try.prog 10 #[.agg (cells7 a1 (some ⟨b2, o2, none⟩) a3 a4 k1 k2 k3 k4 S), .slice (some ⟨gb, 0, none⟩) 1 1] W fun e w' => e = .returned (.bool false) ∧ Below W.heap.size W w') := fun W gb hW hb => HPe.out W _ (some ⟨gb, 0, none⟩) 1 (hWS.below (by rw [hBs]; exact hW)) ⟨rfl, by unfold maxLen; simp, fun j hj => by
          have : j = 0 := by simp at hj; omega
          subst this; decide, fun j hj => by
          have : j = 0 := by simp at hj; omega
          subst this; exact ⟨gb, 0, rfl, by rw [cell_of_row W gb _ _ _ (0, 0) hb]; rfl⟩⟩ (by simp) (by unfold maxLen; omega)
      have H6 : Hid (∀ W, Below B w7 W → Calls Try.prog 11 #[.agg csT] W fun e w' => e = .returned (.bool false) ∧ Below W.heap.size W w') := fun W hW => HTs.out W _ (hWT.below (by rw [hBs]; exact hW))
      have H7 : Hid (∀ W, Below B w7 W → Calls Try.prog 12 #[.agg csT] W fun e w' => e = .returned (.bool true) ∧ Below W.heap.size W w') := fun W hW => HTf.out W _ (hWT.below (by rw [hBs]; exact hW))
      have HX : Hid (∀ W, Below B w7 W → SvAt W g (cells7 a1 (some ⟨b2, o2, none⟩) a3 a4 k1 k2 k3 k4 S) ∧ SvAt W gt csT ∧ W.cell? ⟨bl, ol, none⟩ = some (.int .i64 y0)) := fun W hW => ⟨hx7.below (by rw [hBs]; exact hW), hvT.below (by rw [hBs]; exact hW), cell_on (by rw [hBs]; exact hW) dl⟩
      have HXL : Hid (∀ W, Below B w7 W → ∀ j u, xs[j]? = some u → W.cell? ((⟨bl, ol, none⟩ : Addr).add j) = some u) := fun W hW j u hu => cell_on (by rw [hBs]; exact hW) (hIc j u hu)
      have hwy : IntKind.i64.wrap ((a : Int) + (n : Int)) = ((a + n : Nat) : Int) := by rw [wrap_i64 (by omega) (by omega)]; omega
      obtain ⟨z, hzz⟩ : ∃ z : Nat, a + n = z := ⟨_, rfl⟩
      rw [hzz] at hwy
      have hzm : Int.tmod (z : Int) (k : Int) = (y1 : Int) := by rw [mod_nat, ← hzz, hy1.out]
      have hwz : IntKind.i64.wrap (Int.tmod (z : Int) (k : Int)) = (y1 : Int) := by rw [hzm, wrap_i64 (by omega) (by omega)]
      have hk0 : ¬ k = 0 := by omega
      have hn0 : 0 < n := by omega
      replace hzz := hide hzz
      have hRB : Below B w7 w7.drew := ⟨rfl, rfl, rfl, Nat.le_refl _, fun _ _ => rfl⟩
      have hg0B : g0 ≤ B := by have := hBw.size; omega
      replace hBs := hide hBs
      clear hWT hWS hIl hIc hone hmapl hxs hO7 hT7 hAr HQ hnm hrin hk' hmm hj ha hm' hn hna hg hgt hg0 hsane hz7 hz6 hk21 hk22 e1 e2 ek2 ek2m ek3 ek3m hlc1 hlc2 hgw hgg hb1 hz dl hk2 hk6 hla2 hlt n1
      have hRw : Below w7.heap.size w7 w7.drew := ⟨rfl, rfl, rfl, Nat.le_refl _, fun _ _ => rfl⟩
      refine wp_region_held_drew (S := fun W => Below B w7 W) (by kernel_rfl) (hRB) (fun hHeld => ?_)
      refine wpAnyH_take (i := 0) (oi := { dst := some 44, op := Op.load 28 (Operand.tmp 8), type := 28, pos := "law.go:59", after := #[], guard := none }) (v := .agg (cells7 a1 (some ⟨b2, o2, none⟩) a3 a4 k1 k2 k3 k4 S)) rfl (by kernel_rfl) (by kernel_rfl) (by kernel_rfl) (fun _ _ _ h => h) (yields_loadV (by rfl) (.tmp 8) (by rfl) _ (cells7 a1 (some ⟨b2, o2, none⟩) a3 a4 k1 k2 k3 k4 S) (by rfl) h7 (fun W hW => (HX.out W hW).1)) (by assumption) ?_
      try simp only [Act.put, List.setIfInBounds_toArray, List.set_cons_zero, List.set_cons_succ]
      refine wpAnyH_take (i := 1) (oi := { dst := some 45, op := Op.move (Operand.tmp 11), type := 25, pos := "law.go:59", after := #[], guard := none }) (v := ?_) rfl (by kernel_rfl) (by kernel_rfl) (by kernel_rfl) (fun _ _ _ h => h) (Or.inl ⟨by rfl, ?_⟩) (by assumption) ?_
      rotate_left
      · intro W hSW; first | (go_simp; done) | (go_simp; with_reducible rfl)
      try simp only [Act.put, List.setIfInBounds_toArray, List.set_cons_zero, List.set_cons_succ]
      refine wpAnyH_loneE (T := fun v W => v = Value.bool true ∧ Below B w7 W) (i := 2) (oi := { dst := some 46, op := Op.call { callee := Callee.value (Operand.func 10), args := #[Operand.tmp 44, Operand.tmp 45], argTypes := #[28, 25] }, type := 4, pos := "law.go:59", after := #[{ on := 0, ground := Ground.data }, { on := 1, ground := Ground.data }], guard := none }) (by kernel_rfl) rfl (fun v W h => h.2) ?_ ?_
      · intro K hK
        go_simp
        refine (H1.out _ hRB).mono ?_
        rintro e W2 ⟨rfl, hb⟩
        go_wp2_with fail
        exact hK.out _ _ (⟨rfl, below_thenB hRB hb (by have := hRB.size; have := hBs.out; omega)⟩)
      intro t9 W9 ht9 hHeld
      clear hRB
      obtain ⟨rfl, hRB⟩ := ht9
      try simp only [Act.put, List.setIfInBounds_toArray, List.set_cons_zero, List.set_cons_succ]
      refine wpAnyH_take (i := 3) (oi := { dst := some 47, op := Op.move (Operand.tmp 46), type := 4, pos := "law.go:59", after := #[{ on := 2, ground := Ground.data }, { on := 2, ground := Ground.chain }], guard := none }) (v := ?_) rfl (by kernel_rfl) (by kernel_rfl) (by kernel_rfl) (fun _ _ _ h => h) (Or.inl ⟨by rfl, ?_⟩) (by assumption) ?_
      rotate_left
      · intro W hSW; first | (go_simp; done) | (go_simp; with_reducible rfl)
      try simp only [Act.put, List.setIfInBounds_toArray, List.set_cons_zero, List.set_cons_succ]
      refine wpAnyH_take (i := 4) (oi := { dst := some 48, op := Op.load 28 (Operand.tmp 8), type := 28, pos := "law.go:59", after := #[{ on := 3, ground := Ground.guard }], guard := some (3, true) }) (v := .agg (cells7 a1 (some ⟨b2, o2, none⟩) a3 a4 k1 k2 k3 k4 S)) rfl (by kernel_rfl) (by kernel_rfl) (by kernel_rfl) (fun _ _ _ h => h) (yields_loadV (by rfl) (.tmp 8) (by rfl) _ (cells7 a1 (some ⟨b2, o2, none⟩) a3 a4 k1 k2 k3 k4 S) (by rfl) h7 (fun W hW => (HX.out W hW).1)) (by assumption) ?_
      try simp only [Act.put, List.setIfInBounds_toArray, List.set_cons_zero, List.set_cons_succ]
      refine wpAnyH_take (i := 5) (oi := { dst := some 49, op := Op.move (Operand.tmp 11), type := 25, pos := "law.go:59", after := #[{ on := 3, ground := Ground.guard }], guard := some (3, true) }) (v := ?_) rfl (by kernel_rfl) (by kernel_rfl) (by kernel_rfl) (fun _ _ _ h => h) (Or.inl ⟨by rfl, ?_⟩) (by assumption) ?_
      rotate_left
      · intro W hSW; first | (go_simp; done) | (go_simp; with_reducible rfl)
      try simp only [Act.put, List.setIfInBounds_toArray, List.set_cons_zero, List.set_cons_succ]
      refine wpAnyH_take (i := 7) (oi := { dst := some 51, op := Op.move (Operand.tmp 11), type := 25, pos := "law.go:59", after := #[{ on := 3, ground := Ground.guard }], guard := some (3, true) }) (v := ?_) rfl (by kernel_rfl) (by kernel_rfl) (by kernel_rfl) (fun _ _ _ h => h) (Or.inl ⟨by rfl, ?_⟩) (by assumption) ?_
      rotate_left
      · intro W hSW; first | (go_simp; done) | (go_simp; with_reducible rfl)
      try simp only [Act.put, List.setIfInBounds_toArray, List.set_cons_zero, List.set_cons_succ]
      refine wpAnyH_take (i := 8) (oi := { dst := some 52, op := Op.indexAddr 25 (Operand.tmp 51) (Operand.const (Value.int IntKind.i64 0)), type := 0, pos := "law.go:59", after := #[{ on := 7, ground := Ground.data }, { on := 3, ground := Ground.guard }], guard := some (3, true) }) (v := ?_) rfl (by kernel_rfl) (by kernel_rfl) (by kernel_rfl) (fun _ _ _ h => h) (Or.inl ⟨by rfl, ?_⟩) (by assumption) ?_
      rotate_left
      · intro W hSW; first | (go_simp; done) | (go_simp; with_reducible rfl)
      try simp only [Act.put, List.setIfInBounds_toArray, List.set_cons_zero, List.set_cons_succ]
      refine wpAnyH_take (i := 9) (oi := { dst := some 53, op := Op.load 3 (Operand.tmp 52), type := 3, pos := "law.go:59", after := #[{ on := 8, ground := Ground.data }, { on := 3, ground := Ground.guard }], guard := some (3, true) }) (v := ?_) rfl (by kernel_rfl) (by kernel_rfl) (by kernel_rfl) (fun _ _ _ h => h) (Or.inl ⟨by rfl, ?_⟩) (by assumption) ?_
      rotate_left
      · intro W hSW; have z0 := (HX.out W hSW).2.2; first | (go_simp; done) | (go_simp; with_reducible rfl)
      try simp only [Act.put, List.setIfInBounds_toArray, List.set_cons_zero, List.set_cons_succ]
      refine wpAnyH_pairE (T := fun v u W => Below B w7 W ∧ W.ownsRow B 3 1 v n xs ∧ ∃ gb, u = .slice (some ⟨gb, 0, none⟩) 1 1 ∧ W.heap[gb]? = some (.cells #[.int .i64 y0] 3)) (T1 := fun v W => Below B w7 W ∧ W.ownsRow B 3 1 v n xs) (T2 := fun u W => Below B w7 W ∧ ∃ gb, u = .slice (some ⟨gb, 0, none⟩) 1 1 ∧ W.heap[gb]? = some (.cells #[.int .i64 y0] 3)) (i := 6) (j := 10) (oi := { dst := some 50, op := Op.call { callee := Callee.builtin Builtin.append, args := #[Operand.const (Value.slice none 0 0), Operand.tmp 49], argTypes := #[25, 25] }, type := 25, pos := "law.go:59", after := #[{ on := 5, ground := Ground.data }, { on := 3, ground := Ground.chain }, { on := 3, ground := Ground.guard }], guard := some (3, true) }) (oj := { dst := some 54, op := Op.buildSlice 25 1 #[(0, Operand.tmp 53)], type := 25, pos := "law.go:59", after := #[{ on := 9, ground := Ground.data }, { on := 3, ground := Ground.guard }], guard := some (3, true) }) (by kernel_rfl) (by kernel_rfl) (by kernel_rfl) rfl rfl rfl rfl (fun _ _ => rfl) (fun v W h => h.1) (fun v W h => h.1) (fun v u W h => h.1) ?_ ?_ ?_ ?_ ?_
      · intro K hK
        refine step_app (st := 25) Try.underlying25 Try.info3 rfl (by decide) (by decide) _ (by rfl) (.const (.slice none 0 0)) (.tmp 49) (by rfl) B _ 0 [] (by rfl) (World.ownsRow_nil _ _ _ _) ⟨bl, ol, none⟩ n vc xs (by rfl) XL.out.2.1 (HXL.out _ hRB) XL.out.2.2 (by omega) (by have := hRB.size; have := hBs.out; omega) ?_
        intro v' w' h1 h2
        rw [Nat.zero_add, List.nil_append] at h1
        have hb9 : Below B w7 w' := hRB.grown h2 (by have := hRB.size; have := hBs.out; omega) (fun k hk => by simp [Value.ownBlock] at hk)
        exact hK.out _ _ ⟨hb9, h1⟩
      · intro v W hT K hK
        obtain ⟨hb8, h8⟩ := hT
        go_simp
        exact hK.out _ _ ⟨hb8.alloc (by have := hb8.size; have := hBs.out; omega) _, h8.alloc _, _, rfl, heap_alloc_new _ _⟩
      · intro K hK
        go_simp
        exact hK.out _ _ ⟨hRB.alloc (by have := hRB.size; have := hBs.out; omega) _, _, rfl, heap_alloc_new _ _⟩
      · intro v W hT K hK
        obtain ⟨hb8, gb, rfl, h8⟩ := hT
        refine step_app (st := 25) Try.underlying25 Try.info3 rfl (by decide) (by decide) _ (by rfl) (.const (.slice none 0 0)) (.tmp 49) (by rfl) B _ 0 [] (by rfl) (World.ownsRow_nil _ _ _ _) ⟨bl, ol, none⟩ n vc xs (by rfl) XL.out.2.1 (HXL.out _ hb8) XL.out.2.2 (by omega) (by have := hb8.size; have := hBs.out; omega) ?_
        intro v' w' h1 h2
        rw [Nat.zero_add, List.nil_append] at h1
        have hb9 : Below B w7 w' := hb8.grown h2 (by have := hb8.size; have := hBs.out; omega) (fun k hk => by simp [Value.ownBlock] at hk)
        exact hK.out _ _ ⟨hb9, h1, gb, rfl, by rw [h2.block gb (Array.getElem?_eq_some_iff.1 h8).1 (by simp [Value.ownBlock])]; exact h8⟩
      intro va ua W9 ha hHeld
      clear hRB
      obtain ⟨hRB, hOa, gba, rfl, hga⟩ := ha
      obtain ⟨vaa, vca, rfl⟩ := row_slice hOa
      have hlta := World.ownsRow.lt hOa
      try simp only [Act.put, List.setIfInBounds_toArray, List.set_cons_zero, List.set_cons_succ]
      refine wpAnyH_loneE (T := fun v W => Below B w7 W ∧ W.ownsRow B 3 1 v (n + 1) (xs ++ [.int .i64 y0])) (i := 11) (oi := { dst := some 55, op := Op.call { callee := Callee.builtin Builtin.append, args := #[Operand.tmp 50, Operand.tmp 54], argTypes := #[25, 25] }, type := 25, pos := "law.go:59", after := #[{ on := 6, ground := Ground.data }, { on := 10, ground := Ground.data }, { on := 6, ground := Ground.chain }, { on := 3, ground := Ground.guard }], guard := some (3, true) }) (by kernel_rfl) rfl (fun v W h => h.1) ?_ ?_
      · intro K hK
        refine step_app (st := 25) Try.underlying25 Try.info3 rfl (by decide) (by decide) _ (by rfl) (.tmp 50) (.tmp 54) (by rfl) B _ n xs (by rfl) hOa ⟨gba, 0, none⟩ 1 1 [.int .i64 y0] (by rfl) rfl (fun j u hj => by have hj0 : j = 0 := (by have := (List.getElem?_eq_some_iff.1 hj).1; simp at this; exact this); subst hj0; rw [Go.WideShapes.add_plain, cell_of_row _ gba _ _ _ (0, 0) hga]; simpa using hj) (by intro u hu; simp at hu; subst hu; rfl) (by omega) (by have := hRB.size; have := hBs.out; omega) ?_
        intro v' w' h1 h2
        exact hK.out _ _ ⟨hRB.grown h2 (by have := hRB.size; have := hBs.out; omega) (fun k hk => (hlta k hk).1), h1⟩
      intro xa W9 hxa hHeld
      clear hRB hOa hga hlta
      obtain ⟨hRB, hOa⟩ := hxa
      obtain ⟨vaa, vca, rfl⟩ := row_slice hOa
      try simp only [Act.put, List.setIfInBounds_toArray, List.set_cons_zero, List.set_cons_succ]
      refine wpAnyH_loneE (T := fun v W => v = Value.bool false ∧ Below B w7 W) (i := 12) (oi := { dst := some 56, op := Op.call { callee := Callee.value (Operand.func 10), args := #[Operand.tmp 48, Operand.tmp 55], argTypes := #[28, 25] }, type := 4, pos := "law.go:59", after := #[{ on := 4, ground := Ground.data }, { on := 11, ground := Ground.data }, { on := 11, ground := Ground.chain }, { on := 3, ground := Ground.guard }], guard := some (3, true) }) (by kernel_rfl) rfl (fun v W h => h.2) ?_ ?_
      · intro K hK
        go_simp
        refine (H2.out _ _ hRB hOa).mono ?_
        rintro e W2 ⟨rfl, hb⟩
        go_wp2_with fail
        exact hK.out _ _ (⟨rfl, below_thenB hRB hb (by have := hRB.size; have := hBs.out; omega)⟩)
      intro t9 W9 ht9 hHeld
      clear hRB hOa
      obtain ⟨rfl, hRB⟩ := ht9
      try simp only [Act.put, List.setIfInBounds_toArray, List.set_cons_zero, List.set_cons_succ]
      refine wpAnyH_take (i := 13) (oi := { dst := some 57, op := Op.unOp UnOp.not 4 (Operand.tmp 56), type := 4, pos := "law.go:59", after := #[{ on := 12, ground := Ground.data }, { on := 3, ground := Ground.guard }], guard := some (3, true) }) (v := ?_) rfl (by kernel_rfl) (by kernel_rfl) (by kernel_rfl) (fun _ _ _ h => h) (Or.inl ⟨by rfl, ?_⟩) (by assumption) ?_
      rotate_left
      · intro W hSW; first | (go_simp; done) | (go_simp; with_reducible rfl)
      try simp only [Act.put, List.setIfInBounds_toArray, List.set_cons_zero, List.set_cons_succ]
      refine wpAnyH_take (i := 14) (oi := { dst := some 58, op := Op.pick (Operand.tmp 47) (Operand.tmp 57) (Operand.const (Value.bool false)), type := 4, pos := "law.go:59", after := #[{ on := 3, ground := Ground.data }, { on := 13, ground := Ground.data }], guard := none }) (v := ?_) rfl (by kernel_rfl) (by kernel_rfl) (by kernel_rfl) (fun _ _ _ h => h) (Or.inl ⟨by rfl, ?_⟩) (by assumption) ?_
      rotate_left
      · intro W hSW; first | (go_simp; done) | (go_simp; with_reducible rfl)
      try simp only [Act.put, List.setIfInBounds_toArray, List.set_cons_zero, List.set_cons_succ]
      refine wpAnyH_take (i := 15) (oi := { dst := some 59, op := Op.move (Operand.tmp 58), type := 4, pos := "law.go:59", after := #[{ on := 14, ground := Ground.data }, { on := 12, ground := Ground.chain }], guard := none }) (v := ?_) rfl (by kernel_rfl) (by kernel_rfl) (by kernel_rfl) (fun _ _ _ h => h) (Or.inl ⟨by rfl, ?_⟩) (by assumption) ?_
      rotate_left
      · intro W hSW; first | (go_simp; done) | (go_simp; with_reducible rfl)
      try simp only [Act.put, List.setIfInBounds_toArray, List.set_cons_zero, List.set_cons_succ]
      refine wpAnyH_take (i := 16) (oi := { dst := some 60, op := Op.load 28 (Operand.tmp 8), type := 28, pos := "law.go:59", after := #[{ on := 15, ground := Ground.guard }], guard := some (15, true) }) (v := .agg (cells7 a1 (some ⟨b2, o2, none⟩) a3 a4 k1 k2 k3 k4 S)) rfl (by kernel_rfl) (by kernel_rfl) (by kernel_rfl) (fun _ _ _ h => h) (yields_loadV (by rfl) (.tmp 8) (by rfl) _ (cells7 a1 (some ⟨b2, o2, none⟩) a3 a4 k1 k2 k3 k4 S) (by rfl) h7 (fun W hW => (HX.out W hW).1)) (by assumption) ?_
      try simp only [Act.put, List.setIfInBounds_toArray, List.set_cons_zero, List.set_cons_succ]
      refine wpAnyH_take (i := 17) (oi := { dst := some 61, op := Op.move (Operand.tmp 11), type := 25, pos := "law.go:59", after := #[{ on := 15, ground := Ground.guard }], guard := some (15, true) }) (v := ?_) rfl (by kernel_rfl) (by kernel_rfl) (by kernel_rfl) (fun _ _ _ h => h) (Or.inl ⟨by rfl, ?_⟩) (by assumption) ?_
      rotate_left
      · intro W hSW; first | (go_simp; done) | (go_simp; with_reducible rfl)
      try simp only [Act.put, List.setIfInBounds_toArray, List.set_cons_zero, List.set_cons_succ]
      refine wpAnyH_take (i := 19) (oi := { dst := some 63, op := Op.move (Operand.tmp 9), type := 3, pos := "law.go:59", after := #[{ on := 15, ground := Ground.guard }], guard := some (15, true) }) (v := ?_) rfl (by kernel_rfl) (by kernel_rfl) (by kernel_rfl) (fun _ _ _ h => h) (Or.inl ⟨by rfl, ?_⟩) (by assumption) ?_
      rotate_left
      · intro W hSW; first | (go_simp; done) | (go_simp; with_reducible rfl)
      try simp only [Act.put, List.setIfInBounds_toArray, List.set_cons_zero, List.set_cons_succ]
      refine wpAnyH_take (i := 20) (oi := { dst := some 64, op := Op.move (Operand.tmp 10), type := 3, pos := "law.go:59", after := #[{ on := 15, ground := Ground.guard }], guard := some (15, true) }) (v := ?_) rfl (by kernel_rfl) (by kernel_rfl) (by kernel_rfl) (fun _ _ _ h => h) (Or.inl ⟨by rfl, ?_⟩) (by assumption) ?_
      rotate_left
      · intro W hSW; first | (go_simp; done) | (go_simp; with_reducible rfl)
      try simp only [Act.put, List.setIfInBounds_toArray, List.set_cons_zero, List.set_cons_succ]
      refine wpAnyH_take (i := 21) (oi := { dst := some 65, op := Op.binOp BinOp.add 3 (Operand.tmp 63) (Operand.tmp 64) 3, type := 3, pos := "law.go:59", after := #[{ on := 19, ground := Ground.data }, { on := 20, ground := Ground.data }, { on := 15, ground := Ground.guard }], guard := some (15, true) }) (v := ?_) rfl (by kernel_rfl) (by kernel_rfl) (by kernel_rfl) (fun _ _ _ h => h) (Or.inl ⟨by rfl, ?_⟩) (by assumption) ?_
      rotate_left
      · intro W hSW; first | (go_simp; done) | (go_simp; with_reducible rfl)
      try simp only [Act.put, List.setIfInBounds_toArray, List.set_cons_zero, List.set_cons_succ]
      refine wpAnyH_take (i := 22) (oi := { dst := some 66, op := Op.move (Operand.tmp 7), type := 3, pos := "law.go:59", after := #[{ on := 15, ground := Ground.guard }], guard := some (15, true) }) (v := ?_) rfl (by kernel_rfl) (by kernel_rfl) (by kernel_rfl) (fun _ _ _ h => h) (Or.inl ⟨by rfl, ?_⟩) (by assumption) ?_
      rotate_left
      · intro W hSW; first | (go_simp; done) | (go_simp; with_reducible rfl)
      try simp only [Act.put, List.setIfInBounds_toArray, List.set_cons_zero, List.set_cons_succ]
      refine wpAnyH_take (i := 23) (oi := { dst := some 67, op := Op.binOp BinOp.rem 3 (Operand.tmp 65) (Operand.tmp 66) 3, type := 3, pos := "law.go:59", after := #[{ on := 21, ground := Ground.data }, { on := 22, ground := Ground.data }, { on := 15, ground := Ground.guard }], guard := some (15, true) }) (v := .int .i64 (y1 : Int)) rfl (by kernel_rfl) (by kernel_rfl) (by kernel_rfl) (fun _ _ _ h => h) (Or.inl ⟨by rfl, ?_⟩) (by assumption) ?_
      · intro W hSW; first | (go_simp; done) | (go_simp; with_reducible rfl)
      try simp only [Act.put, List.setIfInBounds_toArray, List.set_cons_zero, List.set_cons_succ]
      refine wpAnyH_take (i := 27) (oi := { dst := some 71, op := Op.move (Operand.tmp 10), type := 3, pos := "law.go:59", after := #[{ on := 15, ground := Ground.guard }], guard := some (15, true) }) (v := ?_) rfl (by kernel_rfl) (by kernel_rfl) (by kernel_rfl) (fun _ _ _ h => h) (Or.inl ⟨by rfl, ?_⟩) (by assumption) ?_
      rotate_left
      · intro W hSW; first | (go_simp; done) | (go_simp; with_reducible rfl)
      try simp only [Act.put, List.setIfInBounds_toArray, List.set_cons_zero, List.set_cons_succ]
      refine wpAnyH_take (i := 28) (oi := { dst := some 72, op := Op.move (Operand.tmp 7), type := 3, pos := "law.go:59", after := #[{ on := 15, ground := Ground.guard }], guard := some (15, true) }) (v := ?_) rfl (by kernel_rfl) (by kernel_rfl) (by kernel_rfl) (fun _ _ _ h => h) (Or.inl ⟨by rfl, ?_⟩) (by assumption) ?_
      rotate_left
      · intro W hSW; first | (go_simp; done) | (go_simp; with_reducible rfl)
      try simp only [Act.put, List.setIfInBounds_toArray, List.set_cons_zero, List.set_cons_succ]
      refine wpAnyH_take (i := 29) (oi := { dst := some 73, op := Op.binOp BinOp.lss 3 (Operand.tmp 71) (Operand.tmp 72) 3, type := 4, pos := "law.go:59", after := #[{ on := 27, ground := Ground.data }, { on := 28, ground := Ground.data }, { on := 15, ground := Ground.guard }], guard := some (15, true) }) (v := .bool (decide (n < k))) rfl (by kernel_rfl) (by kernel_rfl) (by kernel_rfl) (fun _ _ _ h => h) (Or.inl ⟨by rfl, ?_⟩) (by assumption) ?_
      · intro W hSW; first | (go_simp; done) | (go_simp; with_reducible rfl)
      try simp only [Act.put, List.setIfInBounds_toArray, List.set_cons_zero, List.set_cons_succ]
      refine wpAnyH_pairE (T := fun v u W => Below B w7 W ∧ W.ownsRow B 3 1 v n xs ∧ ∃ gb, u = .slice (some ⟨gb, 0, none⟩) 1 1 ∧ W.heap[gb]? = some (.cells #[.int .i64 (y1 : Int)] 3)) (T1 := fun v W => Below B w7 W ∧ W.ownsRow B 3 1 v n xs) (T2 := fun u W => Below B w7 W ∧ ∃ gb, u = .slice (some ⟨gb, 0, none⟩) 1 1 ∧ W.heap[gb]? = some (.cells #[.int .i64 (y1 : Int)] 3)) (i := 18) (j := 24) (oi := { dst := some 62, op := Op.call { callee := Callee.builtin Builtin.append, args := #[Operand.const (Value.slice none 0 0), Operand.tmp 61], argTypes := #[25, 25] }, type := 25, pos := "law.go:59", after := #[{ on := 17, ground := Ground.data }, { on := 15, ground := Ground.chain }, { on := 15, ground := Ground.guard }], guard := some (15, true) }) (oj := { dst := some 68, op := Op.buildSlice 25 1 #[(0, Operand.tmp 67)], type := 25, pos := "law.go:59", after := #[{ on := 23, ground := Ground.data }, { on := 15, ground := Ground.guard }], guard := some (15, true) }) (by kernel_rfl) (by kernel_rfl) (by kernel_rfl) rfl rfl rfl rfl (fun _ _ => rfl) (fun v W h => h.1) (fun v W h => h.1) (fun v u W h => h.1) ?_ ?_ ?_ ?_ ?_
      · intro K hK
        refine step_app (st := 25) Try.underlying25 Try.info3 rfl (by decide) (by decide) _ (by rfl) (.const (.slice none 0 0)) (.tmp 61) (by rfl) B _ 0 [] (by rfl) (World.ownsRow_nil _ _ _ _) ⟨bl, ol, none⟩ n vc xs (by rfl) XL.out.2.1 (HXL.out _ hRB) XL.out.2.2 (by omega) (by have := hRB.size; have := hBs.out; omega) ?_
        intro v' w' h1 h2
        rw [Nat.zero_add, List.nil_append] at h1
        have hb9 : Below B w7 w' := hRB.grown h2 (by have := hRB.size; have := hBs.out; omega) (fun k hk => by simp [Value.ownBlock] at hk)
        exact hK.out _ _ ⟨hb9, h1⟩
      · intro v W hT K hK
        obtain ⟨hb8, h8⟩ := hT
        go_simp
        exact hK.out _ _ ⟨hb8.alloc (by have := hb8.size; have := hBs.out; omega) _, h8.alloc _, _, rfl, heap_alloc_new _ _⟩
      · intro K hK
        go_simp
        exact hK.out _ _ ⟨hRB.alloc (by have := hRB.size; have := hBs.out; omega) _, _, rfl, heap_alloc_new _ _⟩
      · intro v W hT K hK
        obtain ⟨hb8, gb, rfl, h8⟩ := hT
        refine step_app (st := 25) Try.underlying25 Try.info3 rfl (by decide) (by decide) _ (by rfl) (.const (.slice none 0 0)) (.tmp 61) (by rfl) B _ 0 [] (by rfl) (World.ownsRow_nil _ _ _ _) ⟨bl, ol, none⟩ n vc xs (by rfl) XL.out.2.1 (HXL.out _ hb8) XL.out.2.2 (by omega) (by have := hb8.size; have := hBs.out; omega) ?_
        intro v' w' h1 h2
        rw [Nat.zero_add, List.nil_append] at h1
        have hb9 : Below B w7 w' := hb8.grown h2 (by have := hb8.size; have := hBs.out; omega) (fun k hk => by simp [Value.ownBlock] at hk)
        exact hK.out _ _ ⟨hb9, h1, gb, rfl, by rw [h2.block gb (Array.getElem?_eq_some_iff.1 h8).1 (by simp [Value.ownBlock])]; exact h8⟩
      intro vb ub W9 hb hHeld
      clear hRB
      obtain ⟨hRB, hOb, gbb, rfl, hgb⟩ := hb
      obtain ⟨vab, vcb, rfl⟩ := row_slice hOb
      have hltb := World.ownsRow.lt hOb
      try simp only [Act.put, List.setIfInBounds_toArray, List.set_cons_zero, List.set_cons_succ]
      refine wpAnyH_loneE (T := fun v W => Below B w7 W ∧ W.ownsRow B 3 1 v (n + 1) (xs ++ [.int .i64 (y1 : Int)])) (i := 25) (oi := { dst := some 69, op := Op.call { callee := Callee.builtin Builtin.append, args := #[Operand.tmp 62, Operand.tmp 68], argTypes := #[25, 25] }, type := 25, pos := "law.go:59", after := #[{ on := 18, ground := Ground.data }, { on := 24, ground := Ground.data }, { on := 18, ground := Ground.chain }, { on := 15, ground := Ground.guard }], guard := some (15, true) }) (by kernel_rfl) rfl (fun v W h => h.1) ?_ ?_
      · intro K hK
        refine step_app (st := 25) Try.underlying25 Try.info3 rfl (by decide) (by decide) _ (by rfl) (.tmp 62) (.tmp 68) (by rfl) B _ n xs (by rfl) hOb ⟨gbb, 0, none⟩ 1 1 [.int .i64 (y1 : Int)] (by rfl) rfl (fun j u hj => by have hj0 : j = 0 := (by have := (List.getElem?_eq_some_iff.1 hj).1; simp at this; exact this); subst hj0; rw [Go.WideShapes.add_plain, cell_of_row _ gbb _ _ _ (0, 0) hgb]; simpa using hj) (by intro u hu; simp at hu; subst hu; rfl) (by omega) (by have := hRB.size; have := hBs.out; omega) ?_
        intro v' w' h1 h2
        exact hK.out _ _ ⟨hRB.grown h2 (by have := hRB.size; have := hBs.out; omega) (fun k hk => (hltb k hk).1), h1⟩
      intro xb W9 hxb hHeld
      clear hRB hOb hgb hltb
      obtain ⟨hRB, hOb⟩ := hxb
      obtain ⟨vab, vcb, rfl⟩ := row_slice hOb
      try simp only [Act.put, List.setIfInBounds_toArray, List.set_cons_zero, List.set_cons_succ]
      refine wpAnyH_loneE (T := fun v W => v = Value.bool (decide (n < k)) ∧ Below B w7 W) (i := 26) (oi := { dst := some 70, op := Op.call { callee := Callee.value (Operand.func 10), args := #[Operand.tmp 60, Operand.tmp 69], argTypes := #[28, 25] }, type := 4, pos := "law.go:59", after := #[{ on := 16, ground := Ground.data }, { on := 25, ground := Ground.data }, { on := 25, ground := Ground.chain }, { on := 15, ground := Ground.guard }], guard := some (15, true) }) (by kernel_rfl) rfl (fun v W h => h.2) ?_ ?_
      · intro K hK
        go_simp
        refine (H3.out _ _ hRB hOb).mono ?_
        rintro e W2 ⟨rfl, hb⟩
        go_wp2_with fail
        exact hK.out _ _ (⟨rfl, below_thenB hRB hb (by have := hRB.size; have := hBs.out; omega)⟩)
      intro t9 W9 ht9 hHeld
      clear hRB hOb
      obtain ⟨rfl, hRB⟩ := ht9
      try simp only [Act.put, List.setIfInBounds_toArray, List.set_cons_zero, List.set_cons_succ]
      refine wpAnyH_take (i := 30) (oi := { dst := some 74, op := Op.binOp BinOp.eql 4 (Operand.tmp 70) (Operand.tmp 73) 4, type := 4, pos := "law.go:59", after := #[{ on := 26, ground := Ground.data }, { on := 29, ground := Ground.data }, { on := 15, ground := Ground.guard }], guard := some (15, true) }) (v := .bool true) rfl (by kernel_rfl) (by kernel_rfl) (by kernel_rfl) (fun _ _ _ h => h) (Or.inl ⟨by rfl, ?_⟩) (by assumption) ?_
      · intro W hSW; first | (go_simp; done) | (go_simp; with_reducible rfl)
      try simp only [Act.put, List.setIfInBounds_toArray, List.set_cons_zero, List.set_cons_succ]
      refine wpAnyH_take (i := 31) (oi := { dst := some 75, op := Op.pick (Operand.tmp 59) (Operand.tmp 74) (Operand.const (Value.bool false)), type := 4, pos := "law.go:59", after := #[{ on := 15, ground := Ground.data }, { on := 30, ground := Ground.data }], guard := none }) (v := ?_) rfl (by kernel_rfl) (by kernel_rfl) (by kernel_rfl) (fun _ _ _ h => h) (Or.inl ⟨by rfl, ?_⟩) (by assumption) ?_
      rotate_left
      · intro W hSW; first | (go_simp; done) | (go_simp; with_reducible rfl)
      try simp only [Act.put, List.setIfInBounds_toArray, List.set_cons_zero, List.set_cons_succ]
      refine wpAnyH_take (i := 32) (oi := { dst := some 76, op := Op.move (Operand.tmp 75), type := 4, pos := "law.go:59", after := #[{ on := 31, ground := Ground.data }, { on := 26, ground := Ground.chain }], guard := none }) (v := ?_) rfl (by kernel_rfl) (by kernel_rfl) (by kernel_rfl) (fun _ _ _ h => h) (Or.inl ⟨by rfl, ?_⟩) (by assumption) ?_
      rotate_left
      · intro W hSW; first | (go_simp; done) | (go_simp; with_reducible rfl)
      try simp only [Act.put, List.setIfInBounds_toArray, List.set_cons_zero, List.set_cons_succ]
      refine wpAnyH_take (i := 33) (oi := { dst := some 77, op := Op.load 28 (Operand.tmp 8), type := 28, pos := "law.go:59", after := #[{ on := 32, ground := Ground.guard }], guard := some (32, true) }) (v := .agg (cells7 a1 (some ⟨b2, o2, none⟩) a3 a4 k1 k2 k3 k4 S)) rfl (by kernel_rfl) (by kernel_rfl) (by kernel_rfl) (fun _ _ _ h => h) (yields_loadV (by rfl) (.tmp 8) (by rfl) _ (cells7 a1 (some ⟨b2, o2, none⟩) a3 a4 k1 k2 k3 k4 S) (by rfl) h7 (fun W hW => (HX.out W hW).1)) (by assumption) ?_
      try simp only [Act.put, List.setIfInBounds_toArray, List.set_cons_zero, List.set_cons_succ]
      refine wpAnyH_loneE (T := fun v W => v = Value.bool false ∧ Below B w7 W) (i := 34) (oi := { dst := some 78, op := Op.call { callee := Callee.value (Operand.func 10), args := #[Operand.tmp 77, Operand.const (Value.slice none 0 0)], argTypes := #[28, 25] }, type := 4, pos := "law.go:59", after := #[{ on := 33, ground := Ground.data }, { on := 32, ground := Ground.chain }, { on := 32, ground := Ground.guard }], guard := some (32, true) }) (by kernel_rfl) rfl (fun v W h => h.2) ?_ ?_
      · intro K hK
        go_simp
        refine (H4.out _ hRB).mono ?_
        rintro e W2 ⟨rfl, hb⟩
        go_wp2_with fail
        exact hK.out _ _ (⟨rfl, below_thenB hRB hb (by have := hRB.size; have := hBs.out; omega)⟩)
      intro t9 W9 ht9 hHeld
      clear hRB
      obtain ⟨rfl, hRB⟩ := ht9
      try simp only [Act.put, List.setIfInBounds_toArray, List.set_cons_zero, List.set_cons_succ]
      refine wpAnyH_take (i := 35) (oi := { dst := some 79, op := Op.unOp UnOp.not 4 (Operand.tmp 78), type := 4, pos := "law.go:59", after := #[{ on := 34, ground := Ground.data }, { on := 32, ground := Ground.guard }], guard := some (32, true) }) (v := ?_) rfl (by kernel_rfl) (by kernel_rfl) (by kernel_rfl) (fun _ _ _ h => h) (Or.inl ⟨by rfl, ?_⟩) (by assumption) ?_
      rotate_left
      · intro W hSW; first | (go_simp; done) | (go_simp; with_reducible rfl)
      try simp only [Act.put, List.setIfInBounds_toArray, List.set_cons_zero, List.set_cons_succ]
      refine wpAnyH_take (i := 36) (oi := { dst := some 80, op := Op.pick (Operand.tmp 76) (Operand.tmp 79) (Operand.const (Value.bool false)), type := 4, pos := "law.go:59", after := #[{ on := 32, ground := Ground.data }, { on := 35, ground := Ground.data }], guard := none }) (v := ?_) rfl (by kernel_rfl) (by kernel_rfl) (by kernel_rfl) (fun _ _ _ h => h) (Or.inl ⟨by rfl, ?_⟩) (by assumption) ?_
      rotate_left
      · intro W hSW; first | (go_simp; done) | (go_simp; with_reducible rfl)
      try simp only [Act.put, List.setIfInBounds_toArray, List.set_cons_zero, List.set_cons_succ]
      refine wpAnyH_take (i := 37) (oi := { dst := some 81, op := Op.move (Operand.tmp 80), type := 4, pos := "law.go:59", after := #[{ on := 36, ground := Ground.data }, { on := 34, ground := Ground.chain }], guard := none }) (v := ?_) rfl (by kernel_rfl) (by kernel_rfl) (by kernel_rfl) (fun _ _ _ h => h) (Or.inl ⟨by rfl, ?_⟩) (by assumption) ?_
      rotate_left
      · intro W hSW; first | (go_simp; done) | (go_simp; with_reducible rfl)
      try simp only [Act.put, List.setIfInBounds_toArray, List.set_cons_zero, List.set_cons_succ]
      refine wpAnyH_take (i := 38) (oi := { dst := some 82, op := Op.load 28 (Operand.tmp 8), type := 28, pos := "law.go:59", after := #[{ on := 37, ground := Ground.guard }], guard := some (37, true) }) (v := .agg (cells7 a1 (some ⟨b2, o2, none⟩) a3 a4 k1 k2 k3 k4 S)) rfl (by kernel_rfl) (by kernel_rfl) (by kernel_rfl) (fun _ _ _ h => h) (yields_loadV (by rfl) (.tmp 8) (by rfl) _ (cells7 a1 (some ⟨b2, o2, none⟩) a3 a4 k1 k2 k3 k4 S) (by rfl) h7 (fun W hW => (HX.out W hW).1)) (by assumption) ?_
      try simp only [Act.put, List.setIfInBounds_toArray, List.set_cons_zero, List.set_cons_succ]
      refine wpAnyH_loneE (T := fun u W => Below B w7 W ∧ ∃ gb, u = .slice (some ⟨gb, 0, none⟩) 1 1 ∧ W.heap[gb]? = some (.cells #[.int .i64 (-1)] 3)) (i := 39) (oi := { dst := some 83, op := Op.buildSlice 25 1 #[(0, Operand.const (Value.int IntKind.i64 (-1)))], type := 25, pos := "law.go:59", after := #[{ on := 37, ground := Ground.guard }], guard := some (37, true) }) (by kernel_rfl) rfl (fun v W h => h.1) ?_ ?_
      · intro K hK
        go_simp
        exact hK.out _ _ ⟨hRB.alloc (by have := hRB.size; have := hBs.out; omega) _, _, rfl, heap_alloc_new _ _⟩
      intro x9 W9 hx9 hHeld
      clear hRB
      obtain ⟨hRB, gb9, rfl, hg9⟩ := hx9
      try simp only [Act.put, List.setIfInBounds_toArray, List.set_cons_zero, List.set_cons_succ]
      refine wpAnyH_loneE (T := fun v W => v = Value.bool false ∧ Below B w7 W) (i := 40) (oi := { dst := some 84, op := Op.call { callee := Callee.value (Operand.func 10), args := #[Operand.tmp 82, Operand.tmp 83], argTypes := #[28, 25] }, type := 4, pos := "law.go:59", after := #[{ on := 38, ground := Ground.data }, { on := 39, ground := Ground.data }, { on := 37, ground := Ground.chain }, { on := 37, ground := Ground.guard }], guard := some (37, true) }) (by kernel_rfl) rfl (fun v W h => h.2) ?_ ?_
      · intro K hK
        go_simp
        refine (H5.out _ _ hRB hg9).mono ?_
        rintro e W2 ⟨rfl, hb⟩
        go_wp2_with fail
        exact hK.out _ _ (⟨rfl, below_thenB hRB hb (by have := hRB.size; have := hBs.out; omega)⟩)
      intro t9 W9 ht9 hHeld
      clear hRB hg9
      obtain ⟨rfl, hRB⟩ := ht9
      try simp only [Act.put, List.setIfInBounds_toArray, List.set_cons_zero, List.set_cons_succ]
      refine wpAnyH_take (i := 41) (oi := { dst := some 85, op := Op.unOp UnOp.not 4 (Operand.tmp 84), type := 4, pos := "law.go:59", after := #[{ on := 40, ground := Ground.data }, { on := 37, ground := Ground.guard }], guard := some (37, true) }) (v := ?_) rfl (by kernel_rfl) (by kernel_rfl) (by kernel_rfl) (fun _ _ _ h => h) (Or.inl ⟨by rfl, ?_⟩) (by assumption) ?_
      rotate_left
      · intro W hSW; first | (go_simp; done) | (go_simp; with_reducible rfl)
      try simp only [Act.put, List.setIfInBounds_toArray, List.set_cons_zero, List.set_cons_succ]
      refine wpAnyH_take (i := 42) (oi := { dst := some 86, op := Op.pick (Operand.tmp 81) (Operand.tmp 85) (Operand.const (Value.bool false)), type := 4, pos := "law.go:59", after := #[{ on := 37, ground := Ground.data }, { on := 41, ground := Ground.data }], guard := none }) (v := ?_) rfl (by kernel_rfl) (by kernel_rfl) (by kernel_rfl) (fun _ _ _ h => h) (Or.inl ⟨by rfl, ?_⟩) (by assumption) ?_
      rotate_left
      · intro W hSW; first | (go_simp; done) | (go_simp; with_reducible rfl)
      try simp only [Act.put, List.setIfInBounds_toArray, List.set_cons_zero, List.set_cons_succ]
      refine wpAnyH_take (i := 43) (oi := { dst := some 87, op := Op.move (Operand.tmp 86), type := 4, pos := "law.go:59", after := #[{ on := 42, ground := Ground.data }, { on := 40, ground := Ground.chain }], guard := none }) (v := ?_) rfl (by kernel_rfl) (by kernel_rfl) (by kernel_rfl) (fun _ _ _ h => h) (Or.inl ⟨by rfl, ?_⟩) (by assumption) ?_
      rotate_left
      · intro W hSW; first | (go_simp; done) | (go_simp; with_reducible rfl)
      try simp only [Act.put, List.setIfInBounds_toArray, List.set_cons_zero, List.set_cons_succ]
      refine wpAnyH_take (i := 44) (oi := { dst := some 88, op := Op.load 28 (Operand.tmp 13), type := 28, pos := "law.go:59", after := #[{ on := 43, ground := Ground.guard }], guard := some (43, true) }) (v := .agg csT) rfl (by kernel_rfl) (by kernel_rfl) (by kernel_rfl) (fun _ _ _ h => h) (yields_loadV (by rfl) (.tmp 13) (by rfl) _ csT (by rfl) h7T (fun W hW => (HX.out W hW).2.1)) (by assumption) ?_
      try simp only [Act.put, List.setIfInBounds_toArray, List.set_cons_zero, List.set_cons_succ]
      refine wpAnyH_loneE (T := fun v W => v = Value.bool false ∧ Below B w7 W) (i := 45) (oi := { dst := some 89, op := Op.call { callee := Callee.value (Operand.func 11), args := #[Operand.tmp 88], argTypes := #[28] }, type := 4, pos := "law.go:59", after := #[{ on := 44, ground := Ground.data }, { on := 43, ground := Ground.chain }, { on := 43, ground := Ground.guard }], guard := some (43, true) }) (by kernel_rfl) rfl (fun v W h => h.2) ?_ ?_
      · intro K hK
        go_simp
        refine (H6.out _ hRB).mono ?_
        rintro e W2 ⟨rfl, hb⟩
        go_wp2_with fail
        exact hK.out _ _ (⟨rfl, below_thenB hRB hb (by have := hRB.size; have := hBs.out; omega)⟩)
      intro t9 W9 ht9 hHeld
      clear hRB
      obtain ⟨rfl, hRB⟩ := ht9
      try simp only [Act.put, List.setIfInBounds_toArray, List.set_cons_zero, List.set_cons_succ]
      refine wpAnyH_take (i := 46) (oi := { dst := some 90, op := Op.unOp UnOp.not 4 (Operand.tmp 89), type := 4, pos := "law.go:59", after := #[{ on := 45, ground := Ground.data }, { on := 43, ground := Ground.guard }], guard := some (43, true) }) (v := ?_) rfl (by kernel_rfl) (by kernel_rfl) (by kernel_rfl) (fun _ _ _ h => h) (Or.inl ⟨by rfl, ?_⟩) (by assumption) ?_
      rotate_left
      · intro W hSW; first | (go_simp; done) | (go_simp; with_reducible rfl)
      try simp only [Act.put, List.setIfInBounds_toArray, List.set_cons_zero, List.set_cons_succ]
      refine wpAnyH_take (i := 47) (oi := { dst := some 91, op := Op.pick (Operand.tmp 87) (Operand.tmp 90) (Operand.const (Value.bool false)), type := 4, pos := "law.go:59", after := #[{ on := 43, ground := Ground.data }, { on := 46, ground := Ground.data }], guard := none }) (v := ?_) rfl (by kernel_rfl) (by kernel_rfl) (by kernel_rfl) (fun _ _ _ h => h) (Or.inl ⟨by rfl, ?_⟩) (by assumption) ?_
      rotate_left
      · intro W hSW; first | (go_simp; done) | (go_simp; with_reducible rfl)
      try simp only [Act.put, List.setIfInBounds_toArray, List.set_cons_zero, List.set_cons_succ]
      refine wpAnyH_take (i := 48) (oi := { dst := some 92, op := Op.move (Operand.tmp 91), type := 4, pos := "law.go:59", after := #[{ on := 47, ground := Ground.data }, { on := 45, ground := Ground.chain }], guard := none }) (v := ?_) rfl (by kernel_rfl) (by kernel_rfl) (by kernel_rfl) (fun _ _ _ h => h) (Or.inl ⟨by rfl, ?_⟩) (by assumption) ?_
      rotate_left
      · intro W hSW; first | (go_simp; done) | (go_simp; with_reducible rfl)
      try simp only [Act.put, List.setIfInBounds_toArray, List.set_cons_zero, List.set_cons_succ]
      refine wpAnyH_take (i := 49) (oi := { dst := some 93, op := Op.load 28 (Operand.tmp 13), type := 28, pos := "law.go:59", after := #[{ on := 48, ground := Ground.guard }], guard := some (48, true) }) (v := .agg csT) rfl (by kernel_rfl) (by kernel_rfl) (by kernel_rfl) (fun _ _ _ h => h) (yields_loadV (by rfl) (.tmp 13) (by rfl) _ csT (by rfl) h7T (fun W hW => (HX.out W hW).2.1)) (by assumption) ?_
      try simp only [Act.put, List.setIfInBounds_toArray, List.set_cons_zero, List.set_cons_succ]
      refine wpAnyH_loneE (T := fun v W => v = Value.bool true ∧ Below B w7 W) (i := 50) (oi := { dst := some 94, op := Op.call { callee := Callee.value (Operand.func 12), args := #[Operand.tmp 93], argTypes := #[28] }, type := 4, pos := "law.go:59", after := #[{ on := 49, ground := Ground.data }, { on := 48, ground := Ground.chain }, { on := 48, ground := Ground.guard }], guard := some (48, true) }) (by kernel_rfl) rfl (fun v W h => h.2) ?_ ?_
      · intro K hK
        go_simp
        refine (H7.out _ hRB).mono ?_
        rintro e W2 ⟨rfl, hb⟩
        go_wp2_with fail
        exact hK.out _ _ (⟨rfl, below_thenB hRB hb (by have := hRB.size; have := hBs.out; omega)⟩)
      intro t9 W9 ht9 hHeld
      clear hRB
      obtain ⟨rfl, hRB⟩ := ht9
      try simp only [Act.put, List.setIfInBounds_toArray, List.set_cons_zero, List.set_cons_succ]
      refine wpAnyH_take (i := 51) (oi := { dst := some 95, op := Op.pick (Operand.tmp 92) (Operand.tmp 94) (Operand.const (Value.bool false)), type := 4, pos := "law.go:59", after := #[{ on := 48, ground := Ground.data }, { on := 50, ground := Ground.data }], guard := none }) (v := ?_) rfl (by kernel_rfl) (by kernel_rfl) (by kernel_rfl) (fun _ _ _ h => h) (Or.inl ⟨by rfl, ?_⟩) (by assumption) ?_
      rotate_left
      · intro W hSW; first | (go_simp; done) | (go_simp; with_reducible rfl)
      try simp only [Act.put, List.setIfInBounds_toArray, List.set_cons_zero, List.set_cons_succ]
      refine wpAnyH_take (i := 52) (oi := { dst := some 96, op := Op.move (Operand.tmp 95), type := 4, pos := "law.go:59", after := #[{ on := 51, ground := Ground.data }, { on := 50, ground := Ground.chain }], guard := none }) (v := ?_) rfl (by kernel_rfl) (by kernel_rfl) (by kernel_rfl) (fun _ _ _ h => h) (Or.inl ⟨by rfl, ?_⟩) (by assumption) ?_
      rotate_left
      · intro W hSW; first | (go_simp; done) | (go_simp; with_reducible rfl)
      try simp only [Act.put, List.setIfInBounds_toArray, List.set_cons_zero, List.set_cons_succ]
      refine wpAnyH_loneE (T := fun v W => v = Value.bool true ∧ Below B w7 W) (i := 53) (oi := { dst := some 97, op := Op.call { callee := Callee.value (Operand.func 13), args := #[], argTypes := #[] }, type := 4, pos := "law.go:59", after := #[{ on := 52, ground := Ground.chain }, { on := 52, ground := Ground.guard }], guard := some (52, true) }) (by kernel_rfl) rfl (fun v W h => h.2) ?_ ?_
      · intro K hK
        go_simp
        refine (HAW.out _).mono ?_
        rintro e W2 ⟨rfl, hb⟩
        go_wp2_with fail
        exact hK.out _ _ (⟨rfl, below_thenB hRB hb (by have := hRB.size; have := hBs.out; omega)⟩)
      intro t9 W9 ht9 hHeld
      clear hRB
      obtain ⟨rfl, hRB⟩ := ht9
      try simp only [Act.put, List.setIfInBounds_toArray, List.set_cons_zero, List.set_cons_succ]
      refine wpAnyH_take (i := 54) (oi := { dst := some 98, op := Op.pick (Operand.tmp 96) (Operand.tmp 97) (Operand.const (Value.bool false)), type := 4, pos := "law.go:59", after := #[{ on := 52, ground := Ground.data }, { on := 53, ground := Ground.data }], guard := none }) (v := ?_) rfl (by kernel_rfl) (by kernel_rfl) (by kernel_rfl) (fun _ _ _ h => h) (Or.inl ⟨by rfl, ?_⟩) (by assumption) ?_
      rotate_left
      · intro W hSW; first | (go_simp; done) | (go_simp; with_reducible rfl)
      try simp only [Act.put, List.setIfInBounds_toArray, List.set_cons_zero, List.set_cons_succ]
      refine wpAnyH_take (i := 55) (oi := { dst := some 6, op := Op.assign (Operand.tmp 98), type := 4, pos := "law.go:59", after := #[{ on := 54, ground := Ground.data }, { on := 53, ground := Ground.chain }, { on := 0, ground := Ground.phase }, { on := 1, ground := Ground.phase }, { on := 2, ground := Ground.phase }, { on := 3, ground := Ground.phase }, { on := 4, ground := Ground.phase }, { on := 5, ground := Ground.phase }, { on := 6, ground := Ground.phase }, { on := 7, ground := Ground.phase }, { on := 8, ground := Ground.phase }, { on := 9, ground := Ground.phase }, { on := 10, ground := Ground.phase }, { on := 11, ground := Ground.phase }, { on := 12, ground := Ground.phase }, { on := 13, ground := Ground.phase }, { on := 14, ground := Ground.phase }, { on := 15, ground := Ground.phase }, { on := 16, ground := Ground.phase }, { on := 17, ground := Ground.phase }, { on := 18, ground := Ground.phase }, { on := 19, ground := Ground.phase }, { on := 20, ground := Ground.phase }, { on := 21, ground := Ground.phase }, { on := 22, ground := Ground.phase }, { on := 23, ground := Ground.phase }, { on := 24, ground := Ground.phase }, { on := 25, ground := Ground.phase }, { on := 26, ground := Ground.phase }, { on := 27, ground := Ground.phase }, { on := 28, ground := Ground.phase }, { on := 29, ground := Ground.phase }, { on := 30, ground := Ground.phase }, { on := 31, ground := Ground.phase }, { on := 32, ground := Ground.phase }, { on := 33, ground := Ground.phase }, { on := 34, ground := Ground.phase }, { on := 35, ground := Ground.phase }, { on := 36, ground := Ground.phase }, { on := 37, ground := Ground.phase }, { on := 38, ground := Ground.phase }, { on := 39, ground := Ground.phase }, { on := 40, ground := Ground.phase }, { on := 41, ground := Ground.phase }, { on := 42, ground := Ground.phase }, { on := 43, ground := Ground.phase }, { on := 44, ground := Ground.phase }, { on := 45, ground := Ground.phase }, { on := 46, ground := Ground.phase }, { on := 47, ground := Ground.phase }, { on := 48, ground := Ground.phase }, { on := 49, ground := Ground.phase }, { on := 50, ground := Ground.phase }, { on := 51, ground := Ground.phase }, { on := 52, ground := Ground.phase }, { on := 53, ground := Ground.phase }, { on := 54, ground := Ground.phase }], guard := none }) (v := ?_) rfl (by kernel_rfl) (by kernel_rfl) (by kernel_rfl) (fun _ _ _ h => h) (Or.inl ⟨by rfl, ?_⟩) (by assumption) ?_
      rotate_left
      · intro W hSW; first | (go_simp; done) | (go_simp; with_reducible rfl)
      try simp only [Act.put, List.setIfInBounds_toArray, List.set_cons_zero, List.set_cons_succ]
      refine wpAnyH_done (by kernel_rfl) ?_ _
      go_wp2
      go_ret
      exact ⟨rfl, hBw.trans (hRB.mono hg0B)⟩

end Go.Proofs.Ytdaagjpigcejaaa
