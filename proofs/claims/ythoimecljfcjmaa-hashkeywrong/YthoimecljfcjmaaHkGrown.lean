/-
  handsellaw07.grown: keys by numbers.
-/
import Derived.Test.YthoimecljfcjmaaHkRp
import Derived.Test.YthoimecljfcjmaaZ36
import Derived.Test.YthoimecljfcjmaaZ40
import Derived.Test.YthoimecljfcjmaaGrRefP
import Derived.Test.YthoimecljfcjmaaZ00
namespace Go.Proofs.Ythoimecljfcjmaa
open Go.RowKit

theorem path_one {s : SpecM} (hok : specOk s) (x : Int) (hx : 0 ≤ x ∧ x < (s.parties.length : Int)) : pathOk s [x] := by
  refine ⟨hok, Nat.le_refl _, fun i hi => ?_⟩
  have hi' : i < 1 := hi
  obtain rfl : i = 0 := by omega
  exact ⟨hx, fun k hk => absurd hk (by omega), fun h => absurd h (by omega)⟩
theorem ent_lt {A : List ArcM} {v : Int} {n r : Nat} (h : r < (entL A v n).length) : ∃ a : Nat, a < n ∧ (entL A v n).getD r 0 = (a : Int) := by
  have h1 := getD_mem (entL A v n) r 0 h
  unfold entL at h1 ⊢
  obtain ⟨i, hi, he⟩ := List.mem_map.1 h1
  exact ⟨i, List.mem_range.1 ((List.mem_filter.1 hi).1), he.symm⟩

set_option maxRecDepth 10000 in
set_option maxHeartbeats 1000000 in
theorem grown_any {w : World} {v : Value} {s : SpecM} (hv : SpecW w v s) (hbs : BySeeds s) (lk : Nat) (hlk : lk < s.leaders.length) {al : Option Addr} {n cl : Nat} {l : List Int} (hl : Ints w al n l) :
    Calls Try.prog 6 #[v, .int .i64 (lk : Int), .slice al n cl] w fun e w' => ∃ u, e = .returned u ∧ ∃ K, HkO w' w.heap.size u K ∧ GrownK s K ∧ pathOk s K.path ∧ K.lock = (lk : Int) ∧ K.path.length ≤ 7 ∧ Below w.heap.size w w' := by
  obtain ⟨cs, rfl, h7⟩ := hv.seven
  obtain ⟨g, hg⟩ : ∃ g, w.heap.size = g := ⟨_, rfl⟩
  rw [hg]
  have hok := hbs.ok
  have hm6 := hok.2.2.1.2.1
  have hl3 := hok.2.1.2.1
  have hle := (hok.2.1.2.2.2 lk hlk)
  obtain ⟨p, hp⟩ : ∃ p : Nat, s.leaders.getD lk 0 = (p : Int) := ⟨(s.leaders.getD lk 0).toNat, by have := hle.1; omega⟩
  have hpn : p < s.parties.length := by have := hle.2.1; rw [hp] at this; omega
  obtain ⟨sec, hsec, hsz, HSec⟩ := secret_ex lk (by omega)
  replace HSec := hide HSec
  obtain ⟨sd, hsd⟩ : ∃ sd, sd = mkSeed p := ⟨_, rfl⟩
  have HSd : Hid (∀ W, Calls Try.prog 15 #[.int .i64 (p : Int)] W fun e w' => e = .returned (.string sd) ∧ w' = W) := fun W => by rw [hsd]; exact seed_call p (by omega) W
  obtain ⟨K0, hK0⟩ : ∃ K, K = signedM ⟨(lk : Int), sec, [], []⟩ (p : Int) sd := ⟨_, rfl⟩
  have hG0 : Hid (GrownK s K0 ∧ pathOk s K0.path ∧ K0.lock = (lk : Int) ∧ K0.path.length = 0 + 1) := by
    have hp1 : K0.path = [(p : Int)] := by rw [hK0]; rfl
    refine ⟨by rw [hK0, hsd]; exact GrownK.made hbs lk hlk sec (mkSeed p) hsec p hp rfl, by rw [hp1]; exact path_one hok _ ⟨by omega, by omega⟩, by rw [hK0]; rfl, by rw [hp1]; rfl⟩
  have HMk : Hid (∀ W, Below g w W → Calls Try.prog 13 #[.agg cs, .int .i64 (lk : Int), .string sec, .string sd] W fun e w' => ∃ u, e = .returned u ∧ HkO w' W.heap.size u K0 ∧ Below W.heap.size W w') := fun W hW => by
    refine make_any (hv.below (by rw [hg]; exact hW)) (lk : Int) sec sd (by unfold In64; omega) (by omega) (by rw [hsd, mkSeed_size]; omega) K0 (fun _ => ?_) (fun h => absurd ⟨hok, by omega, by rw [hok.2.1.2.2.1]; omega⟩ h)
    rw [hK0, Int.toNat_natCast, hp]
  obtain ⟨a1, a2, a3, a4, k1, k2, k3, k4, hcs, LI, hcap⟩ := hv
  have hv' : SpecW w (.agg cs) s := ⟨a1, a2, a3, a4, k1, k2, k3, k4, hcs, LI, hcap⟩
  injection hcs with hcs
  have HX : Hid (∀ W, SvAt W g cs → W.cell? ⟨g, 2, none⟩ = some (.slice a2 s.arcs.length k2) ∧ W.cell? ⟨g, 3, none⟩ = some (.slice a3 s.leaders.length k3)) := fun W hW => by
    have h9 : W.heap[g]? = some (.cells (cells7 a1 a2 a3 a4 k1 k2 k3 k4 s) 27 (0, 0)) := by rw [← hcs]; exact hW
    exact ⟨(cells7_at h9).2.2.1, (cells7_at h9).2.2.2.1⟩
  have HLI : Hid (∀ W, Below g w W → Lies W a1 a2 a3 a4 s) := fun W hW => LI.below (by rw [hg]; exact hW)
  have HSW : Hid (∀ W, Below g w W → SpecW W (.agg cs) s) := fun W hW => hv'.below (by rw [hg]; exact hW)
  have HST : Hid (∀ W, Below g w W → Ints W al n l) := fun W hW => hl.below (by rw [hg]; exact hW)
  have hnm := hl.2.1
  unfold maxLen at hnm
  obtain ⟨nl, hnl⟩ : ∃ n, s.leaders.length = n := ⟨_, rfl⟩
  have hlkn : lk < nl := by omega
  have hl3' : nl ≤ 3 := by omega
  replace hbs := hide hbs
  replace hlk := hide hlk
  have hnl' := hide hnl
  replace hp := hide hp
  replace hok := hide hok
  have hz0 : ∀ w1 : World, HvAt (w1.alloc (.cells #[.int .i64 0, .string ⟨#[]⟩, .slice none 0 0, .slice none 0 0] 31)) w1.heap.size Z4 := fun w1 => heap_alloc_new _ _
  replace hz0 := hide hz0
  clear hcs LI hcap hv' hl hle hl3 hsec hsd hK0 hnl
  go_enter Try.func6, Try.ntmps6
  go_upto_region 1 with ((with_reducible refine wpList_at ?_); refine wpList_boxv (by rfl) 27 (.tmp 0) (by rfl) _ (by rfl) ?_; rw [hg]; intro w1 hu1 hz1 hb1; have hx1 : SvAt w1 g cs := hu1; clear hu1)
  have hR2 := hz0.out w1
  have hal : Below w1.heap.size w1 (w1.alloc (.cells #[.int .i64 0, .string ⟨#[]⟩, .slice none 0 0, .slice none 0 0] 31)) := (Below.refl _ _).alloc (Nat.le_refl _) _
  have hx3 := hx1.below hal
  have hB3 : Below g w (w1.alloc (.cells #[.int .i64 0, .string ⟨#[]⟩, .slice none 0 0, .slice none 0 0] 31)) := hb1.trans (hal.mono (by omega))
  have hs3 : (w1.alloc (.cells #[.int .i64 0, .string ⟨#[]⟩, .slice none 0 0, .slice none 0 0] 31)).heap.size = g + 2 := by simp [hz1]
  rw [hz1] at hR2
  clear hal hx1 hb1 hz0
  try rw [hz1]
  clear hz1
  generalize w1.alloc (.cells #[.int .i64 0, .string ⟨#[]⟩, .slice none 0 0, .slice none 0 0] 31) = w3 at hR2 hx3 hB3 hs3 ⊢
  obtain ⟨B, hBe⟩ : ∃ B, w3.heap.size = B := ⟨_, rfl⟩
  have hB := hide hBe
  have hgB : Hid (B = g + 2) := by show _ = _; omega
  have hgW := hide hB3
  have HMk0 := HMk
  have HMk : Hid (∀ W, Below B w3 W → Calls Try.prog 13 #[.agg cs, .int .i64 (lk : Int), .string sec, .string sd] W fun e w' => ∃ u, e = .returned u ∧ HkO w' W.heap.size u K0 ∧ Below W.heap.size W w') := fun W hW => HMk0.out W (hgW.out.trans (hW.mono (by have := hgB.out; omega)))
  have HSv : Hid (∀ W, Below B w3 W → SvAt W g cs) := fun W hW => hx3.below (by rw [hB.out]; exact hW)
  have HSp : Hid (∀ W, Below B w3 W → SpecW W (.agg cs) s) := fun W hW => HSW.out W (hgW.out.trans (hW.mono (by have := hgB.out; omega)))
  have HL9 : Hid (∀ W, Below B w3 W → Lies W a1 a2 a3 a4 s) := fun W hW => HLI.out W (hgW.out.trans (hW.mono (by have := hgB.out; omega)))
  have HS9 : Hid (∀ W, Below B w3 W → Ints W al n l) := fun W hW => HST.out W (hgW.out.trans (hW.mono (by have := hgB.out; omega)))
  have hZ : Hid (∀ W, Below B w3 W → HvAt W (g + 1) Z4) := fun W hW => hR2.below hW (by have := hgB.out; omega)
  obtain ⟨q2, q3⟩ := HX.out _ hx3
  obtain ⟨b3, o3, hb3, d3⟩ := (HLI.out w3 hB3).leaders.2.2.2 lk hlk.out
  subst hb3
  rw [hp.out] at d3
  rw [hnl'.out] at q3
  clear hB3 hs3 hBe HMk0 HSW HLI HST hR2 q2
  have hRw : Below w3.heap.size w3 w3.drew := ⟨rfl, rfl, rfl, Nat.le_refl _, fun _ _ => rfl⟩
  refine wp_region_held_drew (S := fun W => Below w3.heap.size w3 W) (by kernel_rfl) hRw (fun hHeld => ?_)
  refine wpAnyH_take (i := 0) (oi := { dst := some 11, op := Op.load 27 (Operand.tmp 3), type := 27, pos := "law.go:33", after := #[], guard := none }) (v := .agg cs) rfl (by kernel_rfl) (by kernel_rfl) (by kernel_rfl) (fun _ _ _ h => h) (yields_loadV (by rfl) (.tmp 3) (by rfl) _ cs (by rfl) h7 (fun W hW => hx3.below hW)) (by assumption) ?_
  try simp only [Act.put, pA, pB, pC]
  refine wpAnyH_take (i := 1) (oi := { dst := some 12, op := Op.move (Operand.tmp 1), type := 3, pos := "law.go:33", after := #[], guard := none }) (v := ?_) rfl (by kernel_rfl) (by kernel_rfl) (by kernel_rfl) (fun _ _ _ h => h) (Or.inl ⟨by rfl, ?_⟩) (by assumption) ?_
  rotate_left
  · intro W hSW; first | (go_simp; done) | (go_simp; with_reducible rfl)
  try simp only [Act.put, pA, pB, pC]
  refine wpAnyH_take (i := 2) (oi := { dst := some 13, op := Op.move (Operand.tmp 1), type := 3, pos := "law.go:33", after := #[], guard := none }) (v := ?_) rfl (by kernel_rfl) (by kernel_rfl) (by kernel_rfl) (fun _ _ _ h => h) (Or.inl ⟨by rfl, ?_⟩) (by assumption) ?_
  rotate_left
  · intro W hSW; first | (go_simp; done) | (go_simp; with_reducible rfl)
  try simp only [Act.put, pA, pB, pC]
  refine wpAnyH_take (i := 4) (oi := { dst := some 15, op := Op.fieldAddr 27 (Operand.tmp 3) 3, type := 0, pos := "law.go:33", after := #[], guard := none }) (v := ?_) rfl (by kernel_rfl) (by kernel_rfl) (by kernel_rfl) (fun _ _ _ h => h) (Or.inl ⟨by rfl, ?_⟩) (by assumption) ?_
  rotate_left
  · intro W hSW; first | (go_simp; done) | (go_simp; with_reducible rfl)
  try simp only [Act.put, pA, pB, pC]
  refine wpAnyH_take (i := 5) (oi := { dst := some 16, op := Op.load 22 (Operand.tmp 15), type := 22, pos := "law.go:33", after := #[{ on := 4, ground := Ground.data }], guard := none }) (v := ?_) rfl (by kernel_rfl) (by kernel_rfl) (by kernel_rfl) (fun _ _ _ h => h) (Or.inl ⟨by rfl, ?_⟩) (by assumption) ?_
  rotate_left
  · intro W hSW; have z0 := cell_on hSW q3; have z1 := cell_on hSW d3; first | (go_simp; done) | (go_simp; with_reducible rfl)
  try simp only [Act.put, pA, pB, pC]
  refine wpAnyH_take (i := 6) (oi := { dst := some 17, op := Op.move (Operand.tmp 1), type := 3, pos := "law.go:33", after := #[], guard := none }) (v := ?_) rfl (by kernel_rfl) (by kernel_rfl) (by kernel_rfl) (fun _ _ _ h => h) (Or.inl ⟨by rfl, ?_⟩) (by assumption) ?_
  rotate_left
  · intro W hSW; first | (go_simp; done) | (go_simp; with_reducible rfl)
  try simp only [Act.put, pA, pB, pC]
  refine wpAnyH_take (i := 7) (oi := { dst := some 18, op := Op.indexAddr 22 (Operand.tmp 16) (Operand.tmp 17), type := 0, pos := "law.go:33", after := #[{ on := 5, ground := Ground.data }, { on := 6, ground := Ground.data }], guard := none }) (v := ?_) rfl (by kernel_rfl) (by kernel_rfl) (by kernel_rfl) (fun _ _ _ h => h) (Or.inl ⟨by rfl, ?_⟩) (by assumption) ?_
  rotate_left
  · intro W hSW; first | (go_simp; done) | (go_simp; with_reducible rfl)
  try simp only [Act.put, pA, pB, pC]
  refine wpAnyH_take (i := 8) (oi := { dst := some 19, op := Op.load 3 (Operand.tmp 18), type := 3, pos := "law.go:33", after := #[{ on := 7, ground := Ground.data }], guard := none }) (v := .int .i64 (p : Int)) rfl (by kernel_rfl) (by kernel_rfl) (by kernel_rfl) (fun _ _ _ h => h) (Or.inl ⟨by rfl, ?_⟩) (by assumption) ?_
  · intro W hSW; have z0 := cell_on hSW q3; have z1 := cell_on hSW d3; first | (go_simp; done) | (go_simp; with_reducible rfl)
  try simp only [Act.put, pA, pB, pC]
  refine wpAnyH_c3a (R := fun W => Below B w3 W) (R' := fun p W => Below B w3 W ∧ ∃ gk, B ≤ gk ∧ p = Value.pointer (some ⟨gk, 0, none⟩) ∧ HvAt W gk Z4) (T := fun u W => Below B w3 W ∧ HkO W B u K0) (T' := fun p u W => Below B w3 W ∧ HkO W B u K0 ∧ ∃ gk, B ≤ gk ∧ p = Value.pointer (some ⟨gk, 0, none⟩) ∧ HvAt W gk Z4) (i1 := 3) (i2 := 9) (i3 := 10) (k := 11) (o1 := { dst := some 14, op := Op.call { callee := Callee.value (Operand.func 14), args := #[Operand.tmp 13], argTypes := #[3] }, type := 9, pos := "law.go:33", after := #[{ on := 2, ground := Ground.data }], guard := none }) (o2 := { dst := some 20, op := Op.call { callee := Callee.value (Operand.func 15), args := #[Operand.tmp 19], argTypes := #[3] }, type := 9, pos := "law.go:33", after := #[{ on := 8, ground := Ground.data }, { on := 3, ground := Ground.chain }], guard := none }) (o3 := { dst := some 21, op := Op.call { callee := Callee.value (Operand.func 13), args := #[Operand.tmp 11, Operand.tmp 12, Operand.tmp 14, Operand.tmp 20], argTypes := #[27, 3, 9, 9] }, type := 31, pos := "law.go:33", after := #[{ on := 0, ground := Ground.data }, { on := 1, ground := Ground.data }, { on := 3, ground := Ground.data }, { on := 9, ground := Ground.data }, { on := 9, ground := Ground.chain }], guard := none }) (ok := { dst := some 7, op := Op.alloc 31, type := 0, pos := "law.go:33", after := #[], guard := none }) (v1 := .string sec) (v2 := .string sd) (by kernel_rfl) (by kernel_rfl) (by kernel_rfl) (by kernel_rfl) (by kernel_rfl) (by kernel_rfl) (by kernel_rfl) rfl rfl rfl rfl rfl rfl rfl rfl rfl rfl rfl rfl rfl rfl (fun _ => rfl) (fun _ => rfl) (fun _ _ => rfl) (hB.out ▸ hRw) (fun W h => hB.out ▸ h) (fun p W h => hB.out ▸ h.1) (fun u W h => hB.out ▸ h.1) (fun p u W h => hB.out ▸ h.1) ?_ ?_ ?_ ?_ ?_ ?_ (gives_allocK rfl rfl (fun W hW W1 hv9 hb => ⟨below_then3 hB.out hW hb, W.heap.size, le_of_below hW hB.out, rfl, hv9⟩)) (fun u => gives_allocK rfl rfl (fun W hW W1 hv9 hb => ⟨below_then3 hB.out hW.1 hb, hW.2.below hb, W.heap.size, le_of_below hW.1 hB.out, rfl, hv9⟩)) ?_
  · intro W hW K hK
    go_simp
    refine (HSec.out W).mono ?_
    rintro e W2 ⟨rfl, hw0⟩
    subst hw0
    go_wp2_with fail
    exact hK.out _ hW
  · intro p W hW K hK
    go_simp
    refine (HSec.out W).mono ?_
    rintro e W2 ⟨rfl, hw0⟩
    subst hw0
    go_wp2_with fail
    exact hK.out _ hW
  · intro W hW K hK
    go_simp
    refine (HSd.out W).mono ?_
    rintro e W2 ⟨rfl, hw0⟩
    subst hw0
    go_wp2_with fail
    exact hK.out _ hW
  · intro p W hW K hK
    go_simp
    refine (HSd.out W).mono ?_
    rintro e W2 ⟨rfl, hw0⟩
    subst hw0
    go_wp2_with fail
    exact hK.out _ hW
  · intro W hW K hK
    go_simp
    refine (HMk.out W hW).mono ?_
    rintro e W2 ⟨u, rfl, hO, hb⟩
    go_wp2_with fail
    exact hK.out _ _ ⟨below_then3 hB.out hW hb, hO.base (le_of_below hW hB.out)⟩
  · intro p W hW K hK
    obtain ⟨hW1, gk, hgk, rfl, hv9⟩ := hW
    go_simp
    refine (HMk.out W hW1).mono ?_
    rintro e W2 ⟨u, rfl, hO, hb⟩
    go_wp2_with fail
    exact hK.out _ _ ⟨below_then3 hB.out hW1 hb, hO.base (le_of_below hW1 hB.out), gk, hgk, rfl, hv9.below hb hv9.lt⟩
  intro p4 u4 W9 hT4 hHeld
  clear hRw
  obtain ⟨hB4, hO4, gk, hgk, rfl, hv4⟩ := hT4
  obtain ⟨csk, rfl, hc4, hc41⟩ := hO4.four
  try simp only [Act.put, pA, pB, pC]
  refine wpAnyH_loneE (T := fun _ W => Below B w3 W ∧ HkO W B (.agg csk) K0 ∧ HvAt W gk csk) (i := 12) (oi := { dst := none, op := Op.store 31 (Operand.tmp 7) (Operand.tmp 21), type := 0, pos := "law.go:33", after := #[{ on := 11, ground := Ground.data }, { on := 10, ground := Ground.data }, { on := 10, ground := Ground.chain }, { on := 0, ground := Ground.phase }, { on := 1, ground := Ground.phase }, { on := 2, ground := Ground.phase }, { on := 3, ground := Ground.phase }, { on := 4, ground := Ground.phase }, { on := 5, ground := Ground.phase }, { on := 6, ground := Ground.phase }, { on := 7, ground := Ground.phase }, { on := 8, ground := Ground.phase }, { on := 9, ground := Ground.phase }, { on := 10, ground := Ground.phase }, { on := 11, ground := Ground.phase }], guard := none }) (by kernel_rfl) rfl (fun u W h => hB.out ▸ h.1) ?_ ?_
  · intro K hK
    refine step_storeH _ (by rfl) (.tmp 7) (.tmp 21) (by rfl) gk csk _ (by rfl) (by rfl) hv4 hc4 rfl hc41 ?_
    intro w8 hv8 hbt8
    exact hK.out undef _ ⟨below_but3 hB.out hB4 hbt8 hgk, hO4.but hbt8 hv4, hv8⟩
  intro u5 W9 hu5 hHeld
  clear hB4 hO4 hv4
  obtain ⟨hB5, hO5, hv5⟩ := hu5
  try simp only [Act.put]
  refine wpAnyH_done (by kernel_rfl) ?_ _
  clear hHeld HMk HSec HSd q3 d3 hx3
  go_wp2
  go_loopw [8] (fun i wr => ∃ (j : Nat) (ck : Array Value) (K : HkM), j ≤ 6 ∧ i = .int .i64 j ∧ Hid (HvAt wr gk ck) ∧ Hid (HkO wr B (.agg ck) K) ∧ Hid (GrownK s K ∧ pathOk s K.path ∧ K.lock = (lk : Int) ∧ K.path.length = j + 1) ∧ Hid (Below B w3 wr)) (fun i _ => 7 - (intOf i).toNat)
  case atStart => exact ⟨0, csk, K0, by omega, rfl, hv5, hO5, hG0, hB5⟩
  case round =>
    clear hv5 hO5 hG0 hB5
    obtain ⟨j, ck, K, hj, rfl, hvk, hO, hG, hBl⟩ := hrel
    have HKS : Hid (HkSane K) := hG.out.1.sane hok.out (by have := hG.out.2.2.2; omega)
    obtain ⟨pa, sa, pc, sc, hck⟩ := hO.out.cells HKS.out
    injection hck with hck
    subst hck
    have hlen : Hid (K.path.length = j + 1) := hG.out.2.2.2
    have y2 := (hcells_at hvk.out).2.2.1
    rw [hlen.out] at y2
    have hpc := (hO.out.lies HKS.out).pc2
    by_cases hjn : j < n
    · have j1 : (j : Int) < (n : Int) := by omega
      by_cases hj6 : j < 6
      · have j2 : (j : Int) < 6 := by omega
        have L := hO.out.lies HKS.out
        obtain ⟨b0, o0, hpa, c0⟩ := L.path.2.2.2 0 (by rw [hlen.out]; omega)
        subst hpa
        obtain ⟨x0, hx0⟩ : ∃ x : Nat, K.path.getD 0 0 = (x : Int) := ⟨(K.path.getD 0 0).toNat, by have := hG.out.1.rng 0 (by rw [hlen.out]; omega); omega⟩
        have c0 : wr.cell? ⟨b0, o0, none⟩ = some (.int .i64 (x0 : Int)) := by rw [← hx0]; exact c0
        obtain ⟨L5, hL5⟩ : ∃ L, L = entL s.arcs (x0 : Int) s.arcs.length := ⟨_, rfl⟩
        have hS5 : Below B w3 wr.drew ∧ HvAt wr.drew gk (hcells (some ⟨b0, o0, none⟩) sa pc sc K) ∧ HkO wr.drew B (.agg (hcells (some ⟨b0, o0, none⟩) sa pc sc K)) K ∧ wr.drew.cell? ⟨b0, o0, none⟩ = some (.int .i64 (x0 : Int)) := ⟨hBl.out.trans ⟨rfl, rfl, rfl, Nat.le_refl _, fun _ _ => rfl⟩, hvk.out, hO.out, c0⟩
        have HL5 := hide hL5
        have HLe : Hid (specOk s → L5 = entL s.arcs (x0 : Int) s.arcs.length) := fun _ => HL5.out
        have HLn : Hid (¬ specOk s → L5 = []) := fun h => absurd hok.out h
        clear L hL5 hx0 hvk hO hBl c0
        go_upto_region 5 with fail
        have hRw : Below wr.heap.size wr wr.drew := ⟨rfl, rfl, rfl, Nat.le_refl _, fun _ _ => rfl⟩
        refine wp_region_held_drew (S := fun W => Below B w3 W ∧ HvAt W gk (hcells (some ⟨b0, o0, none⟩) sa pc sc K) ∧ HkO W B (.agg (hcells (some ⟨b0, o0, none⟩) sa pc sc K)) K ∧ W.cell? ⟨b0, o0, none⟩ = some (.int .i64 (x0 : Int))) (by kernel_rfl) (hS5) (fun hHeld => ?_)
        refine wpAnyH_take (i := 0) (oi := { dst := some 38, op := Op.load 27 (Operand.tmp 3), type := 27, pos := "law.go:35", after := #[], guard := none }) (v := .agg cs) rfl (by kernel_rfl) (by kernel_rfl) (by kernel_rfl) (fun _ _ _ h => h) (yields_loadV (by rfl) (.tmp 3) (by rfl) _ cs (by rfl) h7 (fun W hW => HSv.out W hW.1)) (by assumption) ?_
        try simp only [Act.put, pA, pB, pC]
        refine wpAnyH_take (i := 1) (oi := { dst := some 39, op := Op.fieldAddr 31 (Operand.tmp 7) 2, type := 0, pos := "law.go:35", after := #[], guard := none }) (v := ?_) rfl (by kernel_rfl) (by kernel_rfl) (by kernel_rfl) (fun _ _ _ h => h) (Or.inl ⟨by rfl, ?_⟩) (by assumption) ?_
        rotate_left
        · intro W hSW; first | (go_simp; done) | (go_simp; with_reducible rfl)
        try simp only [Act.put, pA, pB, pC]
        refine wpAnyH_take (i := 2) (oi := { dst := some 40, op := Op.load 22 (Operand.tmp 39), type := 22, pos := "law.go:35", after := #[{ on := 1, ground := Ground.data }], guard := none }) (v := ?_) rfl (by kernel_rfl) (by kernel_rfl) (by kernel_rfl) (fun _ _ _ h => h) (Or.inl ⟨by rfl, ?_⟩) (by assumption) ?_
        rotate_left
        · intro W hSW; have z0 := (hcells_at hSW.2.1).2.2.1; rw [hlen.out] at z0; have z1 := hSW.2.2.2; first | (go_simp; done) | (go_simp; with_reducible rfl)
        try simp only [Act.put, pA, pB, pC]
        refine wpAnyH_take (i := 3) (oi := { dst := some 41, op := Op.indexAddr 22 (Operand.tmp 40) (Operand.const (Value.int IntKind.i64 0)), type := 0, pos := "law.go:35", after := #[{ on := 2, ground := Ground.data }], guard := none }) (v := ?_) rfl (by kernel_rfl) (by kernel_rfl) (by kernel_rfl) (fun _ _ _ h => h) (Or.inl ⟨by rfl, ?_⟩) (by assumption) ?_
        rotate_left
        · intro W hSW; first | (go_simp; done) | (go_simp; with_reducible rfl)
        try simp only [Act.put, pA, pB, pC]
        refine wpAnyH_take (i := 4) (oi := { dst := some 42, op := Op.load 3 (Operand.tmp 41), type := 3, pos := "law.go:35", after := #[{ on := 3, ground := Ground.data }], guard := none }) (v := ?_) rfl (by kernel_rfl) (by kernel_rfl) (by kernel_rfl) (fun _ _ _ h => h) (Or.inl ⟨by rfl, ?_⟩) (by assumption) ?_
        rotate_left
        · intro W hSW; have z0 := (hcells_at hSW.2.1).2.2.1; rw [hlen.out] at z0; have z1 := hSW.2.2.2; first | (go_simp; done) | (go_simp; with_reducible rfl)
        try simp only [Act.put, pA, pB, pC]
        refine wpAnyH_loneE (T := fun u W => Below B w3 W ∧ HvAt W gk (hcells (some ⟨b0, o0, none⟩) sa pc sc K) ∧ HkO W B (.agg (hcells (some ⟨b0, o0, none⟩) sa pc sc K)) K ∧ W.cell? ⟨b0, o0, none⟩ = some (.int .i64 (x0 : Int)) ∧ OwnI W B u L5) (i := 5) (oi := { dst := some 43, op := Op.call { callee := Callee.value (Operand.func 7), args := #[Operand.tmp 38, Operand.tmp 42], argTypes := #[27, 3] }, type := 22, pos := "law.go:35", after := #[{ on := 0, ground := Ground.data }, { on := 4, ground := Ground.data }], guard := none }) (by kernel_rfl) rfl (fun u W h => ⟨h.1, h.2.1, h.2.2.1, h.2.2.2.1⟩) ?_ ?_
        · intro K hK
          go_simp
          refine (rent_any (HSp.out _ hS5.1) (x0 : Int) L5 HLe.out HLn.out).mono ?_
          rintro e W2 ⟨u, rfl, hI9, hb9⟩
          go_wp2_with fail
          exact hK.out _ _ (⟨below_then3 hB.out hS5.1 hb9, hS5.2.1.below hb9 hS5.2.1.lt, hS5.2.2.1.below hb9, cell_on hb9 hS5.2.2.2, base_rowK hI9 (le_of_below hS5.1 hB.out)⟩)
        intro u5 w6 hu5 hHeld
        clear hS5
        obtain ⟨hB6, hv6, hO6, c6, hI6⟩ := hu5
        obtain ⟨ai, ci, rfl⟩ := row_slice hI6
        try simp only [Act.put, pA, pB, pC]
        refine wpAnyH_take (i := 6) (oi := { dst := some 9, op := Op.assign (Operand.tmp 43), type := 22, pos := "law.go:35", after := #[{ on := 5, ground := Ground.data }, { on := 5, ground := Ground.chain }, { on := 0, ground := Ground.phase }, { on := 1, ground := Ground.phase }, { on := 2, ground := Ground.phase }, { on := 3, ground := Ground.phase }, { on := 4, ground := Ground.phase }, { on := 5, ground := Ground.phase }], guard := none }) (v := ?_) rfl (by kernel_rfl) (by kernel_rfl) (by kernel_rfl) (fun _ _ _ h => h) (Or.inl ⟨by rfl, ?_⟩) (by assumption) ?_
        rotate_left
        · intro W hSW; first | (go_simp; done) | (go_simp; with_reducible rfl)
        try simp only [Act.put, pA, pB, pC]
        refine wpAnyH_done (by kernel_rfl) ?_ _
        clear hHeld
        have hs6 := HSv.out _ hB6
        have hL12 : L5.length ≤ 12 := by
          rw [HL5.out]
          unfold entL
          rw [List.length_map]
          have h1 := List.length_filter_le (fun i => (s.arcs.getD i noArc).dst == (x0 : Int)) (List.range s.arcs.length)
          rw [List.length_range] at h1
          have := hok.out.2.2.2.1.2.1
          omega
        obtain ⟨ai', ci', he, _, _, LI6⟩ := hI6.ints (by omega) (fun q hq => by
          have e5 := HL5.out
          rw [e5] at hq ⊢
          obtain ⟨ar, har, hav⟩ := ent_lt hq
          rw [hav]
          have := hok.out.2.2.2.1.2.1
          exact ⟨by omega, by omega⟩)
        injection he with he1 _ he3
        subst he1
        subst he3
        obtain ⟨m5, hm5⟩ : ∃ m, L5.length = m := ⟨_, rfl⟩
        rw [hm5] at hL12 LI6 ⊢
        have HM5 := hide hm5
        clear hm5 hI6
        by_cases hL0 : m5 = 0
        · have t6 : ((m5 : Int) == 0) = true := by rw [hL0]; rfl
          have hL0' := hide hL0
          clear hL0
          have hZt := hZ.out _ hB6
          go_wp2_with (first | ((with_reducible refine wpList_at ?_); refine wpList_loadK (by rfl) (.tmp 7) (by rfl) _ _ (by rfl) hv6 rfl ?_) | ((with_reducible refine wpList_at ?_); refine wpList_storeH (by rfl) (.tmp 6) (.tmp 76) (by rfl) (g + 1) (hcells (some ⟨b0, o0, none⟩) sa pc sc K) _ (by rfl) (by rfl) hZt rfl rfl (by intro u hu; simp [hcells] at hu; rcases hu with rfl | rfl | rfl | rfl <;> rfl) ?_; intro w12 hv12 hbt12))
          refine bodyPost_ret (v := .agg _) (results_one (fn := Try.f6) Try.results6 _ _ (g + 1) 31 _ (0, 0) _ (by rfl) hv12 Try.underlying31 sizeHk) rfl ?_
          exact ⟨_, rfl, K, (hO6.but hbt12 hZt).base (by have := hgB.out; omega), hG.out.1, hG.out.2.1, hG.out.2.2.1, by have := hG.out.2.2.2; omega, (hgW.out.trans (hB6.mono (by have := hgB.out; omega))).trans (hbt12.below (by omega) (by have := (hB6).size; have := hB.out; have := hgB.out; omega))⟩
        have t6 : ((m5 : Int) == 0) = false := by rw [beq_eq_false_iff_ne]; omega
        obtain ⟨r, hr, HP0⟩ := place_ex (l.getD j 0) (m5 : Int) (by omega) (by omega)
        have hrm : r < m5 := by omega
        obtain ⟨bs, os, hal, ds⟩ := (HS9.out w6 hB6).2.2.2 j hjn
        subst hal
        obtain ⟨sj, hsj⟩ : ∃ x, l.getD j 0 = x := ⟨_, rfl⟩
        rw [hsj] at ds HP0
        have HPl : Hid (∀ W, Calls Try.prog 5 #[.int .i64 sj, .int .i64 (m5 : Int)] W fun e w' => e = .returned (.int .i64 (r : Int)) ∧ Below W.heap.size W w') := fun W => (HP0 W).mono (by rintro e w' ⟨h1, h2⟩; rw [h2]; exact ⟨h1, Below.refl _ _⟩)
        obtain ⟨bi, oi, hai, di⟩ := LI6.2.2.2 r hrm
        subst hai
        obtain ⟨ar, har, hav⟩ := ent_lt (A := s.arcs) (v := (x0 : Int)) (n := s.arcs.length) (r := r) (by rw [← HL5.out, HM5.out]; exact hrm)
        rw [← HL5.out] at hav
        rw [hav] at di
        obtain ⟨ba, oa, hba, hAa⟩ := (HL9.out w6 hB6).arcs.2 ar har
        subst hba
        have da := hAa.2.2.2.2.2.1
        have hfine := ((hok.out.2.2.2.1.2.2 ar har).1)
        obtain ⟨vn, hvn⟩ : ∃ x : Nat, (s.arcs.getD ar noArc).src = (x : Int) := ⟨(s.arcs.getD ar noArc).src.toNat, by have := hfine.1; omega⟩
        have hvnp : vn < s.parties.length := by have := hfine.2.1; rw [hvn] at this; omega
        rw [hvn] at da
        have qa := (HX.out w6 hs6).1
        obtain ⟨na, hna⟩ : ∃ n, s.arcs.length = n := ⟨_, rfl⟩
        rw [hna] at qa har
        have hna12 : na ≤ 12 := by rw [← hna]; exact hok.out.2.2.2.1.2.1
        clear hsj HP0 hav hAa hfine hvn hna LI6 hm6
        go_upto_region 7 with fail
        have hRw : Below w6.heap.size w6 w6.drew := ⟨rfl, rfl, rfl, Nat.le_refl _, fun _ _ => rfl⟩
        refine wp_region_held_drew (S := fun W => Below w6.heap.size w6 W) (by kernel_rfl) hRw (fun hHeld => ?_)
        refine wpAnyH_take (i := 0) (oi := { dst := some 47, op := Op.fieldAddr 27 (Operand.tmp 3) 2, type := 0, pos := "law.go:39", after := #[], guard := none }) (v := ?_) rfl (by kernel_rfl) (by kernel_rfl) (by kernel_rfl) (fun _ _ _ h => h) (Or.inl ⟨by rfl, ?_⟩) (by assumption) ?_
        rotate_left
        · intro W hSW; first | (go_simp; done) | (go_simp; with_reducible rfl)
        try simp only [Act.put, pA, pB, pC]
        refine wpAnyH_take (i := 1) (oi := { dst := some 48, op := Op.load 24 (Operand.tmp 47), type := 24, pos := "law.go:39", after := #[{ on := 0, ground := Ground.data }], guard := none }) (v := ?_) rfl (by kernel_rfl) (by kernel_rfl) (by kernel_rfl) (fun _ _ _ h => h) (Or.inl ⟨by rfl, ?_⟩) (by assumption) ?_
        rotate_left
        · intro W hSW; have z0 := cell_on hSW qa; have z1 := cell_on hSW ds; have z2 := cell_on hSW di; have z3 := cell_on hSW da; first | (go_simp; done) | (go_simp; with_reducible rfl)
        try simp only [Act.put, pA, pB, pC]
        refine wpAnyH_take (i := 2) (oi := { dst := some 49, op := Op.move (Operand.tmp 9), type := 22, pos := "law.go:39", after := #[], guard := none }) (v := ?_) rfl (by kernel_rfl) (by kernel_rfl) (by kernel_rfl) (fun _ _ _ h => h) (Or.inl ⟨by rfl, ?_⟩) (by assumption) ?_
        rotate_left
        · intro W hSW; first | (go_simp; done) | (go_simp; with_reducible rfl)
        try simp only [Act.put, pA, pB, pC]
        refine wpAnyH_take (i := 3) (oi := { dst := some 50, op := Op.move (Operand.tmp 2), type := 22, pos := "law.go:39", after := #[], guard := none }) (v := ?_) rfl (by kernel_rfl) (by kernel_rfl) (by kernel_rfl) (fun _ _ _ h => h) (Or.inl ⟨by rfl, ?_⟩) (by assumption) ?_
        rotate_left
        · intro W hSW; first | (go_simp; done) | (go_simp; with_reducible rfl)
        try simp only [Act.put, pA, pB, pC]
        refine wpAnyH_take (i := 4) (oi := { dst := some 51, op := Op.move (Operand.tmp 8), type := 3, pos := "law.go:39", after := #[], guard := none }) (v := ?_) rfl (by kernel_rfl) (by kernel_rfl) (by kernel_rfl) (fun _ _ _ h => h) (Or.inl ⟨by rfl, ?_⟩) (by assumption) ?_
        rotate_left
        · intro W hSW; first | (go_simp; done) | (go_simp; with_reducible rfl)
        try simp only [Act.put, pA, pB, pC]
        refine wpAnyH_take (i := 5) (oi := { dst := some 52, op := Op.indexAddr 22 (Operand.tmp 50) (Operand.tmp 51), type := 0, pos := "law.go:39", after := #[{ on := 3, ground := Ground.data }, { on := 4, ground := Ground.data }], guard := none }) (v := ?_) rfl (by kernel_rfl) (by kernel_rfl) (by kernel_rfl) (fun _ _ _ h => h) (Or.inl ⟨by rfl, ?_⟩) (by assumption) ?_
        rotate_left
        · intro W hSW; first | (go_simp; done) | (go_simp; with_reducible rfl)
        try simp only [Act.put, pA, pB, pC]
        refine wpAnyH_take (i := 6) (oi := { dst := some 53, op := Op.load 3 (Operand.tmp 52), type := 3, pos := "law.go:39", after := #[{ on := 5, ground := Ground.data }], guard := none }) (v := .int .i64 sj) rfl (by kernel_rfl) (by kernel_rfl) (by kernel_rfl) (fun _ _ _ h => h) (Or.inl ⟨by rfl, ?_⟩) (by assumption) ?_
        · intro W hSW; have z0 := cell_on hSW qa; have z1 := cell_on hSW ds; have z2 := cell_on hSW di; have z3 := cell_on hSW da; first | (go_simp; done) | (go_simp; with_reducible rfl)
        try simp only [Act.put, pA, pB, pC]
        refine wpAnyH_take (i := 7) (oi := { dst := some 54, op := Op.move (Operand.tmp 9), type := 22, pos := "law.go:39", after := #[], guard := none }) (v := ?_) rfl (by kernel_rfl) (by kernel_rfl) (by kernel_rfl) (fun _ _ _ h => h) (Or.inl ⟨by rfl, ?_⟩) (by assumption) ?_
        rotate_left
        · intro W hSW; first | (go_simp; done) | (go_simp; with_reducible rfl)
        try simp only [Act.put, pA, pB, pC]
        refine wpAnyH_take (i := 8) (oi := { dst := some 55, op := Op.call { callee := Callee.builtin Builtin.len, args := #[Operand.tmp 54], argTypes := #[22] }, type := 3, pos := "law.go:39", after := #[{ on := 7, ground := Ground.data }], guard := none }) (v := ?_) rfl (by kernel_rfl) (by kernel_rfl) (by kernel_rfl) (fun _ _ _ h => h) (Or.inl ⟨by rfl, ?_⟩) (by assumption) ?_
        rotate_left
        · intro W hSW; first | (go_simp; done) | (go_simp; with_reducible rfl)
        try simp only [Act.put, pA, pB, pC]
        refine wpAnyH_lone (R := fun W => Below w6.heap.size w6 W) (i := 9) (oi := { dst := some 56, op := Op.call { callee := Callee.value (Operand.func 5), args := #[Operand.tmp 53, Operand.tmp 55], argTypes := #[3, 3] }, type := 3, pos := "law.go:39", after := #[{ on := 6, ground := Ground.data }, { on := 8, ground := Ground.data }], guard := none }) (vi := .int .i64 (r : Int)) (by kernel_rfl) rfl hRw (fun _ h => h) ?_ ?_
        · intro W hW K hK
          go_simp
          refine (HPl.out W).mono ?_
          rintro e W2 ⟨rfl, hb⟩
          go_wp2_with fail
          exact hK.out _ (below_then hW hb)
        clear hRw hHeld
        intro w7 hRw hHeld
        try simp only [Act.put, pA, pB, pC]
        refine wpAnyH_take (i := 10) (oi := { dst := some 57, op := Op.indexAddr 22 (Operand.tmp 49) (Operand.tmp 56), type := 0, pos := "law.go:39", after := #[{ on := 2, ground := Ground.data }, { on := 9, ground := Ground.data }], guard := none }) (v := ?_) rfl (by kernel_rfl) (by kernel_rfl) (by kernel_rfl) (fun _ _ _ h => h) (Or.inl ⟨by rfl, ?_⟩) (by assumption) ?_
        rotate_left
        · intro W hSW; first | (go_simp; done) | (go_simp; with_reducible rfl)
        try simp only [Act.put, pA, pB, pC]
        refine wpAnyH_take (i := 11) (oi := { dst := some 58, op := Op.load 3 (Operand.tmp 57), type := 3, pos := "law.go:39", after := #[{ on := 10, ground := Ground.data }], guard := none }) (v := .int .i64 (ar : Int)) rfl (by kernel_rfl) (by kernel_rfl) (by kernel_rfl) (fun _ _ _ h => h) (Or.inl ⟨by rfl, ?_⟩) (by assumption) ?_
        · intro W hSW; have z0 := cell_on hSW qa; have z1 := cell_on hSW ds; have z2 := cell_on hSW di; have z3 := cell_on hSW da; first | (go_simp; done) | (go_simp; with_reducible rfl)
        try simp only [Act.put, pA, pB, pC]
        refine wpAnyH_take (i := 12) (oi := { dst := some 59, op := Op.indexAddr 24 (Operand.tmp 48) (Operand.tmp 58), type := 0, pos := "law.go:39", after := #[{ on := 1, ground := Ground.data }, { on := 11, ground := Ground.data }], guard := none }) (v := ?_) rfl (by kernel_rfl) (by kernel_rfl) (by kernel_rfl) (fun _ _ _ h => h) (Or.inl ⟨by rfl, ?_⟩) (by assumption) ?_
        rotate_left
        · intro W hSW; first | (go_simp; done) | (go_simp; with_reducible rfl)
        try simp only [Act.put, pA, pB, pC]
        refine wpAnyH_take (i := 13) (oi := { dst := some 60, op := Op.fieldAddr 42 (Operand.tmp 59) 0, type := 0, pos := "law.go:39", after := #[{ on := 12, ground := Ground.data }], guard := none }) (v := ?_) rfl (by kernel_rfl) (by kernel_rfl) (by kernel_rfl) (fun _ _ _ h => h) (Or.inl ⟨by rfl, ?_⟩) (by assumption) ?_
        rotate_left
        · intro W hSW; first | (go_simp; done) | (go_simp; with_reducible rfl)
        try simp only [Act.put, pA, pB, pC]
        refine wpAnyH_take (i := 14) (oi := { dst := some 61, op := Op.load 3 (Operand.tmp 60), type := 3, pos := "law.go:39", after := #[{ on := 13, ground := Ground.data }], guard := none }) (v := .int .i64 (vn : Int)) rfl (by kernel_rfl) (by kernel_rfl) (by kernel_rfl) (fun _ _ _ h => h) (Or.inl ⟨by rfl, ?_⟩) (by assumption) ?_
        · intro W hSW; have z0 := cell_on hSW qa; have z1 := cell_on hSW ds; have z2 := cell_on hSW di; have z3 := cell_on hSW da; first | (go_simp; done) | (go_simp; with_reducible rfl)
        try simp only [Act.put, pA, pB, pC]
        refine wpAnyH_take (i := 15) (oi := { dst := some 10, op := Op.assign (Operand.tmp 61), type := 3, pos := "law.go:39", after := #[{ on := 14, ground := Ground.data }, { on := 9, ground := Ground.chain }, { on := 0, ground := Ground.phase }, { on := 1, ground := Ground.phase }, { on := 2, ground := Ground.phase }, { on := 3, ground := Ground.phase }, { on := 4, ground := Ground.phase }, { on := 5, ground := Ground.phase }, { on := 6, ground := Ground.phase }, { on := 7, ground := Ground.phase }, { on := 8, ground := Ground.phase }, { on := 9, ground := Ground.phase }, { on := 10, ground := Ground.phase }, { on := 11, ground := Ground.phase }, { on := 12, ground := Ground.phase }, { on := 13, ground := Ground.phase }, { on := 14, ground := Ground.phase }], guard := none }) (v := ?_) rfl (by kernel_rfl) (by kernel_rfl) (by kernel_rfl) (fun _ _ _ h => h) (Or.inl ⟨by rfl, ?_⟩) (by assumption) ?_
        rotate_left
        · intro W hSW; first | (go_simp; done) | (go_simp; with_reducible rfl)
        try simp only [Act.put, pA, pB, pC]
        refine wpAnyH_done (by kernel_rfl) ?_ _
        have hB7 := below_then3 hB.out hB6 hRw
        have hv7 := hv6.below hRw hv6.lt
        have hO7 := hO6.below hRw
        have hs7 := HSv.out _ hB7
        have y7 := (hcells_at hv7).2.2.1
        rw [hlen.out] at y7
        clear hRw hHeld hv6 hO6 hB6 qa ds di da hs6 HPl
        obtain ⟨tb, htb⟩ : ∃ tb, told (pathOk s ((vn : Int) :: K.path)) = tb := ⟨_, rfl⟩
        have HTB := hide htb
        clear htb
        have HR64 : Hid (∀ q, q < ((vn : Int) :: K.path).length → In64 (((vn : Int) :: K.path).getD q 0)) := fun q hq => by
          have hm6 := hok.out.2.2.1.2.1
          cases q with
          | zero => exact ⟨by show -9223372036854775808 ≤ (vn : Int); omega, by show (vn : Int) ≤ 9223372036854775807; omega⟩
          | succ q => exact HKS.out.pa q (by have : q + 1 < K.path.length + 1 := hq; omega)
        obtain ⟨pl, hpl⟩ : ∃ pl, K.path.map (Value.int .i64) = pl := ⟨_, rfl⟩
        have HPL : Hid (pl.length = (j + 1) * 1) := by show _ = _; rw [← hpl, List.length_map, hlen.out, Nat.mul_one]
        have HNW : Hid (∀ W, Below w7.heap.size w7 W → (∀ q u, pl[q]? = some u → W.cell? ((⟨b0, o0, none⟩ : Addr).add q) = some u) ∧ ∀ u ∈ pl, u.oneCell' = true) := fun W hW => by
          have h9 := ((hO7.below hW).lies HKS.out).path.news
          rw [hpl] at h9
          exact ⟨h9.1, h9.2.2⟩
        have HF : Hid (∀ W u, W.ownsRow w7.heap.size 3 1 u (1 + (j + 1)) ([.int .i64 (vn : Int)] ++ pl) → OwnI W B u ((vn : Int) :: K.path)) := fun W u h => by
          have e9 : 1 + (j + 1) = ((vn : Int) :: K.path).length := by rw [List.length_cons, hlen.out]; omega
          rw [e9, ← hpl] at h
          exact base_rowK h (le_of_below hB7 hB.out)
        clear hpl
        go_upto_region 8 with fail
        have hRw : Below w7.heap.size w7 w7.drew := ⟨rfl, rfl, rfl, Nat.le_refl _, fun _ _ => rfl⟩
        refine wp_region_held_drew (S := fun W => Below w7.heap.size w7 W) (by kernel_rfl) hRw (fun hHeld => ?_)
        refine wpAnyH_take (i := 0) (oi := { dst := some 62, op := Op.load 27 (Operand.tmp 3), type := 27, pos := "law.go:40", after := #[], guard := none }) (v := .agg cs) rfl (by kernel_rfl) (by kernel_rfl) (by kernel_rfl) (fun _ _ _ h => h) (yields_loadV (by rfl) (.tmp 3) (by rfl) _ cs (by rfl) h7 (fun W hW => hs7.below hW)) (by assumption) ?_
        try simp only [Act.put, pA, pB, pC]
        refine wpAnyH_take (i := 1) (oi := { dst := some 63, op := Op.move (Operand.tmp 10), type := 3, pos := "law.go:40", after := #[], guard := none }) (v := ?_) rfl (by kernel_rfl) (by kernel_rfl) (by kernel_rfl) (fun _ _ _ h => h) (Or.inl ⟨by rfl, ?_⟩) (by assumption) ?_
        rotate_left
        · intro W hSW; first | (go_simp; done) | (go_simp; with_reducible rfl)
        try simp only [Act.put, pA, pB, pC]
        refine wpAnyH_take (i := 3) (oi := { dst := some 65, op := Op.fieldAddr 31 (Operand.tmp 7) 2, type := 0, pos := "law.go:40", after := #[], guard := none }) (v := ?_) rfl (by kernel_rfl) (by kernel_rfl) (by kernel_rfl) (fun _ _ _ h => h) (Or.inl ⟨by rfl, ?_⟩) (by assumption) ?_
        rotate_left
        · intro W hSW; first | (go_simp; done) | (go_simp; with_reducible rfl)
        try simp only [Act.put, pA, pB, pC]
        refine wpAnyH_take (i := 4) (oi := { dst := some 66, op := Op.load 22 (Operand.tmp 65), type := 22, pos := "law.go:40", after := #[{ on := 3, ground := Ground.data }], guard := none }) (v := ?_) rfl (by kernel_rfl) (by kernel_rfl) (by kernel_rfl) (fun _ _ _ h => h) (Or.inl ⟨by rfl, ?_⟩) (by assumption) ?_
        rotate_left
        · intro W hSW; have z0 := cell_on hSW y7; first | (go_simp; done) | (go_simp; with_reducible rfl)
        try simp only [Act.put, pA, pB, pC]
        refine wpAnyH_loneE (T := fun u W => Below w7.heap.size w7 W ∧ ∃ hb, u = Value.slice (some ⟨hb, 0, none⟩) 1 1 ∧ OwnI W w7.heap.size (.slice (some ⟨hb, 0, none⟩) 1 1) [(vn : Int)]) (i := 2) (oi := { dst := some 64, op := Op.buildSlice 22 1 #[(0, Operand.tmp 63)], type := 22, pos := "law.go:40", after := #[{ on := 1, ground := Ground.data }], guard := none }) (by kernel_rfl) rfl (fun u W h => h.1) ?_ ?_
        · intro K hK
          go_simp
          have hal : Below w7.heap.size w7 (w7.alloc (.cells #[.int .i64 (vn : Int)] 3)) := (Below.refl _ _).alloc (Nat.le_refl _) _
          have hn9 : (w7.alloc (.cells #[.int .i64 (vn : Int)] 3)).ownsRow w7.heap.size 3 1 (.slice (some ⟨w7.heap.size, 0, none⟩) 1 1) 1 [.int .i64 (vn : Int)] := row_fresh (w := w7) (e := 3) (size := 1) #[.int .i64 (vn : Int)] 1 1 rfl (by unfold maxLen; omega) (Nat.le_refl _)
          exact hK.out _ _ ⟨hal.trans ⟨rfl, rfl, rfl, Nat.le_refl _, fun _ _ => rfl⟩, _, rfl, hn9⟩
        intro u2 w8 hx2 hHeld
        clear hRw
        obtain ⟨hx2, hb2, rfl, hI2⟩ := hx2
        try simp only [Act.put, pA, pB, pC]
        refine wpAnyH_loneE (T := fun u W => Below w7.heap.size w7 W ∧ OwnI W B u ((vn : Int) :: K.path)) (i := 5) (oi := { dst := some 67, op := Op.call { callee := Callee.builtin Builtin.append, args := #[Operand.tmp 64, Operand.tmp 66], argTypes := #[22, 22] }, type := 22, pos := "law.go:40", after := #[{ on := 2, ground := Ground.data }, { on := 4, ground := Ground.data }], guard := none }) (by kernel_rfl) rfl (fun u W h => h.1) ?_ ?_
        · intro K hK
          have hlt2 := World.ownsRow.lt hI2
          refine step_appR (st := 22) Try.underlying22 Try.info3 rfl (by decide) (by decide) _ (by rfl) (.tmp 64) (.tmp 66) (by rfl) w7.heap.size _ 1 [.int .i64 (vn : Int)] (by rfl) hI2 ⟨b0, o0, none⟩ (j + 1) pc pl (by rfl) HPL.out (HNW.out _ hx2).1 (HNW.out _ hx2).2 (by omega) hx2.size ?_
          intro v9 w9 ho9 hg9
          exact hK.out _ _ ⟨hx2.grown hg9 hx2.size (fun q hq => (hlt2 q hq).1), HF.out _ _ ho9⟩
        intro u5 w8 hx5 hHeld
        clear hx2 hI2
        obtain ⟨hx5, hI5⟩ := hx5
        obtain ⟨ap, cp, hup, _, _, HI5⟩ := hI5.ints (by show K.path.length + 1 ≤ 1000; have := hlen.out; omega) HR64.out
        subst hup
        try simp only [Act.put, pA, pB, pC]
        refine wpAnyH_loneE (T := fun u W => u = Value.bool tb ∧ Below w7.heap.size w7 W) (i := 6) (oi := { dst := some 68, op := Op.call { callee := Callee.value (Operand.func 16), args := #[Operand.tmp 62, Operand.tmp 67], argTypes := #[27, 22] }, type := 4, pos := "law.go:40", after := #[{ on := 0, ground := Ground.data }, { on := 5, ground := Ground.data }, { on := 5, ground := Ground.chain }], guard := none }) (by kernel_rfl) rfl (fun u W h => h.2) ?_ ?_
        · intro K hK
          go_simp
          refine (rpath_any (HSp.out _ (below_then3 hB.out hB7 hx5)) HI5).mono ?_
          rintro e W2 ⟨rfl, hb9⟩
          go_wp2_with fail
          exact hK.out _ _ (⟨by rw [HTB.out], below_then hx5 hb9⟩)
        intro u6 w8 hx6 hHeld
        clear hx5 HI5
        obtain ⟨rfl, hx6⟩ := hx6
        try simp only [Act.put, pA, pB, pC]
        refine wpAnyH_take (i := 7) (oi := { dst := some 69, op := Op.unOp UnOp.not 4 (Operand.tmp 68), type := 4, pos := "law.go:40", after := #[{ on := 6, ground := Ground.data }], guard := none }) (v := ?_) rfl (by kernel_rfl) (by kernel_rfl) (by kernel_rfl) (fun _ _ _ h => h) (Or.inl ⟨by rfl, ?_⟩) (by assumption) ?_
        rotate_left
        · intro W hSW; first | (go_simp; done) | (go_simp; with_reducible rfl)
        try simp only [Act.put, pA, pB, pC]
        refine wpAnyH_done (by kernel_rfl) ?_ _
        clear hHeld
        have hB8 := below_then3 hB.out hB7 hx6
        have hv8 := hv7.below hx6 hv7.lt
        have hO8 := hO7.below hx6
        clear hx6 hv7 hO7 hB7 hs7 y7
        by_cases hpt : pathOk s ((vn : Int) :: K.path)
        · have htt : tb = true := by rw [← HTB.out, told_yes hpt]
          subst htt
          have hpt' := hide hpt
          clear hpt
          obtain ⟨K1, hK1⟩ : ∃ K1, K1 = signedM K (vn : Int) (mkSeed vn) := ⟨_, rfl⟩
          have hG1 : Hid (GrownK s K1 ∧ pathOk s K1.path ∧ K1.lock = (lk : Int) ∧ K1.path.length = j + 1 + 1) := by
            rw [hK1]
            exact ⟨GrownK.next hbs.out hG.out.1 vn hvnp _ rfl, hpt'.out, hG.out.2.2.1, by show K.path.length + 1 = _; rw [hlen.out]⟩
          have HSeed : Hid (∀ W, Calls Try.prog 15 #[.int .i64 (vn : Int)] W fun e w' => e = .returned (.string (mkSeed vn)) ∧ w' = W) := fun W => seed_call vn (by have := hok.out.2.2.1.2.1; omega) W
          have HEx3 : Hid (∀ W, Below B w3 W → HkO W B (.agg (hcells (some ⟨b0, o0, none⟩) sa pc sc K)) K → Calls Try.prog 17 #[.agg cs, .agg (hcells (some ⟨b0, o0, none⟩) sa pc sc K), .int .i64 (vn : Int), .string (mkSeed vn)] W fun e w' => ∃ u, e = .returned u ∧ HkO w' W.heap.size u K1 ∧ Below W.heap.size W w') := fun W hW hO => by
            have hm6 := hok.out.2.2.1.2.1
            have hg := hG.out.1
            have hl := hlen.out
            exact extend_any (HSp.out W hW) (hO.lies HKS.out) _ ⟨by omega, by omega⟩ (mkSeed vn) (by rw [mkSeed_size]; omega) (by rw [hg.sec7]; omega) (by omega) (by rw [hg.len]; omega) (fun q hq => by rw [hg.sz q hq]; omega) _ (fun _ => hK1) (fun h => absurd ⟨hok.out, ⟨by omega, by omega⟩, by omega, by rw [hg.len]; omega, hg.lk.1, by rw [hok.out.2.1.2.2.1]; exact hg.lk.2⟩ h)
          have hBd : Hid (Below B w3 w8.drew) := hB8.trans ⟨rfl, rfl, rfl, Nat.le_refl _, fun _ _ => rfl⟩
          clear hK1
          go_upto_region 9 with fail
          have hRw : Below w8.heap.size w8 w8.drew := ⟨rfl, rfl, rfl, Nat.le_refl _, fun _ _ => rfl⟩
          refine wp_region_held_drew (S := fun W => Below B w3 W) (by kernel_rfl) (hBd.out) (fun hHeld => ?_)
          refine wpAnyH_take (i := 0) (oi := { dst := some 70, op := Op.load 27 (Operand.tmp 3), type := 27, pos := "law.go:43", after := #[], guard := none }) (v := .agg cs) rfl (by kernel_rfl) (by kernel_rfl) (by kernel_rfl) (fun _ _ _ h => h) (yields_loadV (by rfl) (.tmp 3) (by rfl) _ cs (by rfl) h7 (fun W hW => HSv.out W hW)) (by assumption) ?_
          try simp only [Act.put, pA, pB, pC]
          refine wpAnyH_take (i := 2) (oi := { dst := some 72, op := Op.move (Operand.tmp 10), type := 3, pos := "law.go:43", after := #[], guard := none }) (v := ?_) rfl (by kernel_rfl) (by kernel_rfl) (by kernel_rfl) (fun _ _ _ h => h) (Or.inl ⟨by rfl, ?_⟩) (by assumption) ?_
          rotate_left
          · intro W hSW; first | (go_simp; done) | (go_simp; with_reducible rfl)
          try simp only [Act.put, pA, pB, pC]
          refine wpAnyH_take (i := 3) (oi := { dst := some 73, op := Op.move (Operand.tmp 10), type := 3, pos := "law.go:43", after := #[], guard := none }) (v := ?_) rfl (by kernel_rfl) (by kernel_rfl) (by kernel_rfl) (fun _ _ _ h => h) (Or.inl ⟨by rfl, ?_⟩) (by assumption) ?_
          rotate_left
          · intro W hSW; first | (go_simp; done) | (go_simp; with_reducible rfl)
          try simp only [Act.put, pA, pB, pC]
          refine wpAnyH_pair (R := fun W => Below B w3 W ∧ HvAt W gk (hcells (some ⟨b0, o0, none⟩) sa pc sc K) ∧ HkO W B (.agg (hcells (some ⟨b0, o0, none⟩) sa pc sc K)) K) (i := 1) (j := 4) (oi := { dst := some 71, op := Op.load 31 (Operand.tmp 7), type := 31, pos := "law.go:43", after := #[], guard := none }) (oj := { dst := some 74, op := Op.call { callee := Callee.value (Operand.func 15), args := #[Operand.tmp 73], argTypes := #[3] }, type := 9, pos := "law.go:43", after := #[{ on := 3, ground := Ground.data }], guard := none }) (vi := .agg (hcells (some ⟨b0, o0, none⟩) sa pc sc K)) (vj := .string (mkSeed vn)) (by kernel_rfl) (by kernel_rfl) (by kernel_rfl) rfl rfl rfl rfl rfl rfl (⟨hBd.out, hv8, hO8⟩) (fun W h => h.1) ?_ ?_ ?_ ?_ ?_
          · intro W hW K hK
            exact gives_loadK (by rfl) (.tmp 7) (by rfl) gk _ (by rfl) rfl (fun W h => h.2.1) W hW K hK
          · intro W hW K hK
            go_simp
            refine (HSeed.out W).mono ?_
            rintro e W2 ⟨rfl, hw0⟩
            subst hw0
            go_wp2_with fail
            exact hK.out _ hW
          · intro W hW K hK
            go_simp
            refine (HSeed.out W).mono ?_
            rintro e W2 ⟨rfl, hw0⟩
            subst hw0
            go_wp2_with fail
            exact hK.out _ hW
          · intro W hW K hK
            exact gives_loadK (by rfl) (.tmp 7) (by rfl) gk _ (by rfl) rfl (fun W h => h.2.1) W hW K hK
          intro w10 hx hHeld
          try simp only [Act.put, pA, pB, pC]
          refine wpAnyH_loneE (T := fun u W => Below B w3 W ∧ HkO W B u K1 ∧ HvAt W gk (hcells (some ⟨b0, o0, none⟩) sa pc sc K)) (i := 5) (oi := { dst := some 75, op := Op.call { callee := Callee.value (Operand.func 17), args := #[Operand.tmp 70, Operand.tmp 71, Operand.tmp 72, Operand.tmp 74], argTypes := #[27, 31, 3, 9] }, type := 31, pos := "law.go:43", after := #[{ on := 0, ground := Ground.data }, { on := 1, ground := Ground.data }, { on := 2, ground := Ground.data }, { on := 4, ground := Ground.data }, { on := 4, ground := Ground.chain }], guard := none }) (by kernel_rfl) rfl (fun u W h => h.1) ?_ ?_
          · intro K hK
            go_simp
            refine (HEx3.out _ hx.1 hx.2.2).mono ?_
            rintro e W2 ⟨u, rfl, hO9, hb9⟩
            go_wp2_with fail
            exact hK.out _ _ (⟨below_then3 hB.out hx.1 hb9, hO9.base (le_of_below hx.1 hB.out), hx.2.1.below hb9 hx.2.1.lt⟩)
          intro u5 w10 hT5 hHeld
          clear hx
          obtain ⟨hB5, hO5, hv5⟩ := hT5
          obtain ⟨csn, rfl, hc4, hc41⟩ := hO5.four
          try simp only [Act.put, pA, pB, pC]
          refine wpAnyH_loneE (T := fun _ W => Below B w3 W ∧ HkO W B (.agg csn) K1 ∧ HvAt W gk csn) (i := 6) (oi := { dst := none, op := Op.store 31 (Operand.tmp 7) (Operand.tmp 75), type := 0, pos := "law.go:43", after := #[{ on := 5, ground := Ground.data }, { on := 5, ground := Ground.chain }, { on := 0, ground := Ground.phase }, { on := 1, ground := Ground.phase }, { on := 2, ground := Ground.phase }, { on := 3, ground := Ground.phase }, { on := 4, ground := Ground.phase }, { on := 5, ground := Ground.phase }], guard := none }) (by kernel_rfl) rfl (fun u W h => h.1) ?_ ?_
          · intro K hK
            refine step_storeH _ (by rfl) (.tmp 7) (.tmp 75) (by rfl) gk csn _ (by rfl) (by rfl) hv5 hc4 rfl hc41 ?_
            intro w8 hv8 hbt8
            exact hK.out undef _ ⟨below_but3 hB.out hB5 hbt8 hgk, hO5.but hbt8 hv5, hv8⟩
          intro u6 w10 hu6 hHeld
          clear hB5 hO5 hv5
          obtain ⟨hB6, hO6, hv6⟩ := hu6
          try simp only [Act.put]
          refine wpAnyH_done (by kernel_rfl) ?_ _
          clear hHeld
          go_wp2
          go_roundw
          case rel => exact ⟨j + 1, csn, K1, by omega, by go_num, hv6, hO6, hG1, hB6⟩
          case measure => simp [intOf]; omega
        · have htt : tb = false := by rw [← HTB.out, told_no hpt]
          subst htt
          clear hpt
          have hZt := hZ.out _ hB8
          go_wp2_with (first | ((with_reducible refine wpList_at ?_); refine wpList_loadK (by rfl) (.tmp 7) (by rfl) _ _ (by rfl) hv8 rfl ?_) | ((with_reducible refine wpList_at ?_); refine wpList_storeH (by rfl) (.tmp 6) (.tmp 76) (by rfl) (g + 1) (hcells (some ⟨b0, o0, none⟩) sa pc sc K) _ (by rfl) (by rfl) hZt rfl rfl (by intro u hu; simp [hcells] at hu; rcases hu with rfl | rfl | rfl | rfl <;> rfl) ?_; intro w12 hv12 hbt12))
          refine bodyPost_ret (v := .agg _) (results_one (fn := Try.f6) Try.results6 _ _ (g + 1) 31 _ (0, 0) _ (by rfl) hv12 Try.underlying31 sizeHk) rfl ?_
          exact ⟨_, rfl, K, (hO8.but hbt12 hZt).base (by have := hgB.out; omega), hG.out.1, hG.out.2.1, hG.out.2.2.1, by have := hG.out.2.2.2; omega, (hgW.out.trans (hB8.mono (by have := hgB.out; omega))).trans (hbt12.below (by omega) (by have := (hB8).size; have := hB.out; have := hgB.out; omega))⟩
      · have j2 : ¬ (j : Int) < 6 := by omega
        have hZt := hZ.out _ hBl.out
        go_wp2_with (first | ((with_reducible refine wpList_at ?_); refine wpList_loadK (by rfl) (.tmp 7) (by rfl) _ _ (by rfl) hvk.out rfl ?_) | ((with_reducible refine wpList_at ?_); refine wpList_storeH (by rfl) (.tmp 6) (.tmp 76) (by rfl) (g + 1) (hcells pa sa pc sc K) _ (by rfl) (by rfl) hZt rfl rfl (by intro u hu; simp [hcells] at hu; rcases hu with rfl | rfl | rfl | rfl <;> rfl) ?_; intro w12 hv12 hbt12))
        refine bodyPost_ret (v := .agg _) (results_one (fn := Try.f6) Try.results6 _ _ (g + 1) 31 _ (0, 0) _ (by rfl) hv12 Try.underlying31 sizeHk) rfl ?_
        exact ⟨_, rfl, K, (hO.out.but hbt12 hZt).base (by have := hgB.out; omega), hG.out.1, hG.out.2.1, hG.out.2.2.1, by have := hG.out.2.2.2; omega, (hgW.out.trans (hBl.out.mono (by have := hgB.out; omega))).trans (hbt12.below (by omega) (by have := (hBl.out).size; have := hB.out; have := hgB.out; omega))⟩
    · have j1 : ¬ (j : Int) < (n : Int) := by omega
      have hZt := hZ.out _ hBl.out
      go_wp2_with (first | ((with_reducible refine wpList_at ?_); refine wpList_loadK (by rfl) (.tmp 7) (by rfl) _ _ (by rfl) hvk.out rfl ?_) | ((with_reducible refine wpList_at ?_); refine wpList_storeH (by rfl) (.tmp 6) (.tmp 76) (by rfl) (g + 1) (hcells pa sa pc sc K) _ (by rfl) (by rfl) hZt rfl rfl (by intro u hu; simp [hcells] at hu; rcases hu with rfl | rfl | rfl | rfl <;> rfl) ?_; intro w12 hv12 hbt12))
      refine bodyPost_ret (v := .agg _) (results_one (fn := Try.f6) Try.results6 _ _ (g + 1) 31 _ (0, 0) _ (by rfl) hv12 Try.underlying31 sizeHk) rfl ?_
      exact ⟨_, rfl, K, (hO.out.but hbt12 hZt).base (by have := hgB.out; omega), hG.out.1, hG.out.2.1, hG.out.2.2.1, by have := hG.out.2.2.2; omega, (hgW.out.trans (hBl.out.mono (by have := hgB.out; omega))).trans (hbt12.below (by omega) (by have := (hBl.out).size; have := hB.out; have := hgB.out; omega))⟩

end Go.Proofs.Ythoimecljfcjmaa
