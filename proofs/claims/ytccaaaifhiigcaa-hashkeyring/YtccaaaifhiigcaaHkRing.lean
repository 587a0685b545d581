/-
  The walk of HashkeyRing.
-/
import Derived.Test.YtccaaaifhiigcaaHkRp
import Derived.Test.YtccaaaifhiigcaaZ41
import Derived.Test.YtccaaaifhiigcaaZ00
namespace Go.Proofs.Ytccaaaifhiigcaa
open Go.RowKit

theorem ring_back (k j : Nat) (k2 : 2 ≤ k) (k6 : k ≤ 6) (hj : j < k) : ((k - j) % k + k - 1) % k = k - 1 - j := by
  have : k = 2 ∨ k = 3 ∨ k = 4 ∨ k = 5 ∨ k = 6 := by omega
  rcases this with rfl | rfl | rfl | rfl | rfl <;> omega
theorem mod_natK (x k : Nat) : Int.tmod (x : Int) (k : Int) = ((x % k : Nat) : Int) := by rw [Int.tmod_eq_emod_of_nonneg (by omega)]; exact (Int.natCast_emod x k).symm

set_option maxRecDepth 10000 in
set_option maxHeartbeats 1000000 in
theorem hkring_any (n : Int) (_w1 : (Lit.int .i64 n).wf = true) (w : World) : Calls Try.prog 4 #[.int .i64 n] w fun e w' => e = .returned (.bool true) ∧ Below w.heap.size w w' := by
  clear _w1
  obtain ⟨q, hq, HPn⟩ := place_ex n 5 (by decide) (by decide)
  obtain ⟨k, hk⟩ : ∃ k : Nat, 2 + (q : Int) = (k : Int) := ⟨2 + q, by omega⟩
  have k2 : 2 ≤ k := by omega
  have k6 : k ≤ 6 := by omega
  obtain ⟨S, hS⟩ : ∃ S, S = ringM k 5 6 := ⟨_, rfl⟩
  have hbs : BySeeds S := by rw [hS]; exact ring_seeds k k2 k6 5 6 (by omega) (by omega) (by omega) (by omega)
  have hok := hbs.ok
  have HR : Hid (∀ W, Calls Try.prog 6 #[.int .i64 (k : Int), .int .i64 5, .int .i64 6] W fun e w' => ∃ v, e = .returned v ∧ OwnSpec w' W.heap.size v S ∧ Below W.heap.size W w') := fun W => by rw [hS]; exact ring_any k (by omega) k6 5 6 W
  have hsane := SaneS.of_ok hok
  have hn : S.parties.length = k := by rw [hS, ring_np5]
  have hA : S.arcs = arcsP k 0 2 := by rw [hS]; rfl
  have hna : S.arcs.length = k := by rw [hA]; exact (ring_arcs k k2 k6).2
  have hL : S.leaders = [0] := by rw [hS]; rfl
  have hK : S.locks.length = 1 := by rw [hok.2.1.2.2.1, hL]; rfl
  obtain ⟨hval, hpk, hring⟩ := ring_facts hok k k2 k6 hn hA hL
  obtain ⟨sec, hsec, hsz, HSec⟩ := secret_ex 0 (by omega)
  replace HSec := hide HSec
  obtain ⟨sd, hsd⟩ : ∃ sd, sd = mkSeed 0 := ⟨_, rfl⟩
  have HSd : Hid (∀ W, Calls Try.prog 9 #[.int .i64 0] W fun e w' => e = .returned (.string sd) ∧ w' = W) := fun W => by rw [hsd]; exact seed_call 0 (by omega) W
  have HG : Hid (∀ i, i ≤ k → GrownK S (KP k sec i)) := fun i hi => KP_grown hbs k hn (by omega) hL sec hsec i hi
  have HKS : Hid (∀ i, i ≤ k → HkSane (KP k sec i)) := fun i hi => (HG.out i hi).sane hok (by rw [KP_path, rp_len]; omega)
  obtain ⟨K0, hK0⟩ : ∃ K, K = KP k sec 0 := ⟨_, rfl⟩
  have HMk : Hid (∀ W v, SpecW W v S → Calls Try.prog 7 #[v, .int .i64 0, .string sec, .string sd] W fun e w' => ∃ u, e = .returned u ∧ HkO w' W.heap.size u K0 ∧ Below W.heap.size W w') := fun W v hv => by
    refine make_any hv 0 sec sd (by unfold In64; omega) (by omega) (by rw [hsd, mkSeed_size]; omega) K0 (fun _ => ?_) (fun h => absurd ⟨hok, by omega, by rw [hK]; omega⟩ h)
    rw [hK0, hL, hsd]; rfl
  have HCk : Hid (∀ (i a p : Nat) W v pa sa pc sc, i < k → a < k → (k - i) % k = p → SpecW W v S → HkL W pa sa pc sc (KP k sec i) → Calls Try.prog 13 #[v, .int .i64 (a : Int), .agg (hcells pa sa pc sc (KP k sec i))] W fun e w' => e = .returned (.bool (decide ((a + 1) % k = p))) ∧ Below W.heap.size W w') := fun i a p W v pa sa pc sc hi ha hp hv L => by
    refine check_grown hv hbs (HG.out i (by omega)) hval (by rw [KP_path, rp_len]; omega) L (a : Int) _ ?_
    rw [decide_eq_true_eq, KP_path, (hring i hi).2.1, Int.toNat_natCast, (hring a ha).2.2, hna, hp]
    constructor
    · intro h; exact ⟨⟨by omega, by omega⟩, (hring i hi).1, by rw [h]⟩
    · rintro ⟨_, _, h⟩; omega
  have HCe : Hid (∀ W v pa sa pc sc, SpecW W v S → HkL W pa sa pc sc (KP k sec k) → Calls Try.prog 13 #[v, .int .i64 ((k - 1 : Nat) : Int), .agg (hcells pa sa pc sc (KP k sec k))] W fun e w' => e = .returned (.bool false) ∧ Below W.heap.size W w') := fun W v pa sa pc sc hv L => by
    refine check_grown hv hbs (HG.out k (by omega)) hval (by rw [KP_path, rp_len]; omega) L _ false ⟨fun h => Bool.noConfusion h, fun h => absurd h.2.1 (by rw [KP_path]; exact hpk)⟩
  have HEx : Hid (∀ (i : Nat) W v pa sa pc sc, i < k → SpecW W v S → HkL W pa sa pc sc (KP k sec i) → Calls Try.prog 14 #[v, .agg (hcells pa sa pc sc (KP k sec i)), .int .i64 ((k - 1 - i : Nat) : Int), .string (mkSeed (k - 1 - i))] W fun e w' => ∃ u, e = .returned u ∧ HkO w' W.heap.size u (KP k sec (i + 1)) ∧ Below W.heap.size W w') := fun i W v pa sa pc sc hi hv L => by
    have hg := HG.out i (by omega)
    have hp1 : (KP k sec i).path.length = i + 1 := by rw [KP_path, rp_len]
    have hs1 : (KP k sec i).sigs.length = i + 1 := by rw [hg.len, hp1]
    have hl0 := KP_lock k sec i
    exact extend_any hv L _ ⟨by omega, by omega⟩ (mkSeed (k - 1 - i)) (by rw [mkSeed_size]; omega) (by rw [hg.sec7]; omega) (by omega) (by omega) (fun j hj => by rw [hg.sz j hj]; omega) _ (fun _ => rfl) (fun h => absurd ⟨hok, ⟨by omega, by rw [hn]; omega⟩, by omega, by omega, by rw [hl0]; omega, by rw [hl0, hK]; omega⟩ h)
  have HRG : Hid (∀ i, i < k → (rp k i).getD 0 0 = (((k - i) % k : Nat) : Int)) := fun i hi => (hring i hi).2.1
  replace HPn := hide HPn
  have hk' := hide hk
  have HK0 := hide hK0
  clear hS hbs hok hn hA hna hL hK hval hpk hring hsec hsz hsd hK0 hk
  go_enter Try.func4, Try.ntmps4
  go_wp2_with fail
  refine (HPn.out _).mono ?_
  rintro e w0 ⟨rfl, hw0⟩
  subst w0
  go_wp2_with fail
  rw [hk'.out]
  refine (HR.out _).mono ?_
  rintro e w1 ⟨v, rfl, hO1, hb1⟩
  have hW1 := hO1.wide hsane
  obtain ⟨cs, rfl, h7⟩ := hW1.seven
  clear hO1 HR hsane HPn hk'
  go_upto_region 3 with ((with_reducible refine wpList_at ?_); refine wpList_varS (by rfl) (by rfl) (by rfl) (.tmp 4) (.tmp 14) (by rfl) cs (by rfl) (by rfl) h7 ?_; intro w2 hv2 hz2 hb2)
  have hW2 := hW1.below hb2
  have hB2 := below_then hb1 hb2
  have hs2 : w.heap.size ≤ w2.heap.size := hB2.size
  clear hb1 hb2 hW1
  obtain ⟨B, hBe⟩ : ∃ B, w2.heap.size = B := ⟨_, rfl⟩
  have hB := hide hBe
  have HSp : Hid (∀ W, Below B w2 W → SpecW W (.agg cs) S) := fun W hW => hW2.below (by rw [hB.out]; exact hW)
  have HSv : Hid (∀ W, Below B w2 W → SvAt W w1.heap.size cs) := fun W hW => hv2.below (by rw [hB.out]; exact hW)
  have hg1B : w1.heap.size < B := by have := hv2.lt; omega
  generalize w1.heap.size = g1 at hv2 hz2 HSv hg1B ⊢
  clear hBe hz2
  have hRw : Below w2.heap.size w2 w2.drew := ⟨rfl, rfl, rfl, Nat.le_refl _, fun _ _ => rfl⟩
  refine wp_region_held_drew (S := fun W => Below w2.heap.size w2 W) (by kernel_rfl) hRw (fun hHeld => ?_)
  refine wpAnyH_take (i := 0) (oi := { dst := some 15, op := Op.load 27 (Operand.tmp 4), type := 27, pos := "outright.go:13", after := #[], guard := none }) (v := .agg cs) rfl (by kernel_rfl) (by kernel_rfl) (by kernel_rfl) (fun _ _ _ h => h) (yields_loadV (by rfl) (.tmp 4) (by rfl) _ cs (by rfl) h7 (fun W hW => hv2.below hW)) (by assumption) ?_
  try simp only [Act.put, List.setIfInBounds_toArray, List.set_cons_zero, List.set_cons_succ]
  refine wpAnyH_c3a (R := fun W => Below B w2 W) (R' := fun p W => Below B w2 W ∧ ∃ gk, B ≤ gk ∧ p = Value.pointer (some ⟨gk, 0, none⟩) ∧ HvAt W gk Z4) (T := fun u W => Below B w2 W ∧ HkO W B u K0) (T' := fun p u W => Below B w2 W ∧ HkO W B u K0 ∧ ∃ gk, B ≤ gk ∧ p = Value.pointer (some ⟨gk, 0, none⟩) ∧ HvAt W gk Z4) (i1 := 1) (i2 := 2) (i3 := 3) (k := 4) (o1 := { dst := some 16, op := Op.call { callee := Callee.value (Operand.func 8), args := #[Operand.const (Value.int IntKind.i64 0)], argTypes := #[3] }, type := 9, pos := "outright.go:13", after := #[], guard := none }) (o2 := { dst := some 17, op := Op.call { callee := Callee.value (Operand.func 9), args := #[Operand.const (Value.int IntKind.i64 0)], argTypes := #[3] }, type := 9, pos := "outright.go:13", after := #[{ on := 1, ground := Ground.chain }], guard := none }) (o3 := { dst := some 18, op := Op.call { callee := Callee.value (Operand.func 7), args := #[Operand.tmp 15, Operand.const (Value.int IntKind.i64 0), Operand.tmp 16, Operand.tmp 17], argTypes := #[27, 3, 9, 9] }, type := 30, pos := "outright.go:13", after := #[{ on := 0, ground := Ground.data }, { on := 1, ground := Ground.data }, { on := 2, ground := Ground.data }, { on := 2, ground := Ground.chain }], guard := none }) (ok := { dst := some 5, op := Op.alloc 30, type := 0, pos := "outright.go:13", after := #[], guard := none }) (v1 := .string sec) (v2 := .string sd) (by kernel_rfl) (by kernel_rfl) (by kernel_rfl) (by kernel_rfl) (by kernel_rfl) (by kernel_rfl) (by kernel_rfl) rfl rfl rfl rfl rfl rfl rfl rfl rfl rfl rfl rfl rfl rfl (fun _ => rfl) (fun _ => rfl) (fun _ _ => rfl) (hB.out ▸ hRw) (fun W h => hB.out ▸ h) (fun p W h => hB.out ▸ h.1) (fun u W h => hB.out ▸ h.1) (fun p u W h => hB.out ▸ h.1) ?_ ?_ ?_ ?_ ?_ ?_ (gives_allocK rfl rfl (fun W hW W1 hv9 hb => ⟨below_then3 hB.out hW hb, W.heap.size, le_of_below hW hB.out, rfl, hv9⟩)) (fun u => gives_allocK rfl rfl (fun W hW W1 hv9 hb => ⟨below_then3 hB.out hW.1 hb, hW.2.below hb, W.heap.size, le_of_below hW.1 hB.out, rfl, hv9⟩)) ?_
  · intro W hW K hK
    go_simp
    refine (HSec.out W).mono ?_
    rintro e W2 ⟨rfl, hw0⟩
    subst hw0
    go_wp2_with fail
    exact hK.out _ hW
  · intro p W hW K hK
    go_simp
    refine (HSec.out W).mono ?_
    rintro e W2 ⟨rfl, hw0⟩
    subst hw0
    go_wp2_with fail
    exact hK.out _ hW
  · intro W hW K hK
    go_simp
    refine (HSd.out W).mono ?_
    rintro e W2 ⟨rfl, hw0⟩
    subst hw0
    go_wp2_with fail
    exact hK.out _ hW
  · intro p W hW K hK
    go_simp
    refine (HSd.out W).mono ?_
    rintro e W2 ⟨rfl, hw0⟩
    subst hw0
    go_wp2_with fail
    exact hK.out _ hW
  · intro W hW K hK
    go_simp
    refine (HMk.out W _ (HSp.out W hW)).mono ?_
    rintro e W2 ⟨u, rfl, hO, hb⟩
    go_wp2_with fail
    exact hK.out _ _ ⟨below_then3 hB.out hW hb, hO.base (le_of_below hW hB.out)⟩
  · intro p W hW K hK
    obtain ⟨hW1, gk, hgk, rfl, hv9⟩ := hW
    go_simp
    refine (HMk.out W _ (HSp.out W hW1)).mono ?_
    rintro e W2 ⟨u, rfl, hO, hb⟩
    go_wp2_with fail
    exact hK.out _ _ ⟨below_then3 hB.out hW1 hb, hO.base (le_of_below hW1 hB.out), gk, hgk, rfl, hv9.below hb hv9.lt⟩
  intro p4 u4 W9 hT4 hHeld
  clear hRw
  obtain ⟨hB4, hO4, gk, hgk, rfl, hv4⟩ := hT4
  obtain ⟨csk, rfl, hc4, hc41⟩ := hO4.four
  try simp only [Act.put, List.setIfInBounds_toArray, List.set_cons_zero, List.set_cons_succ]
  refine wpAnyH_loneE (T := fun _ W => Below B w2 W ∧ HkO W B (.agg csk) K0 ∧ HvAt W gk csk) (i := 5) (oi := { dst := none, op := Op.store 30 (Operand.tmp 5) (Operand.tmp 18), type := 0, pos := "outright.go:13", after := #[{ on := 4, ground := Ground.data }, { on := 3, ground := Ground.data }, { on := 3, ground := Ground.chain }, { on := 0, ground := Ground.phase }, { on := 1, ground := Ground.phase }, { on := 2, ground := Ground.phase }, { on := 3, ground := Ground.phase }, { on := 4, ground := Ground.phase }], guard := none }) (by kernel_rfl) rfl (fun u W h => hB.out ▸ h.1) ?_ ?_
  · intro K hK
    refine step_storeH _ (by rfl) (.tmp 5) (.tmp 18) (by rfl) gk csk _ (by rfl) (by rfl) hv4 hc4 rfl hc41 ?_
    intro w8 hv8 hbt8
    exact hK.out undef _ ⟨below_but3 hB.out hB4 hbt8 hgk, hO4.but hbt8 hv4, hv8⟩
  intro u5 W9 hu5 hHeld
  clear hB4 hO4 hv4
  obtain ⟨hB5, hO5, hv5⟩ := hu5
  try simp only [Act.put]
  refine wpAnyH_done (by kernel_rfl) ?_ _
  clear hHeld HMk hv2 hW2 HSec HSd
  go_wp2
  go_loopw [6] (fun i wr => ∃ (j : Nat) (ck : Array Value), j ≤ k ∧ i = .int .i64 j ∧ Hid (HvAt wr gk ck) ∧ Hid (HkO wr B (.agg ck) (KP k sec j)) ∧ Hid (Below B w2 wr)) (fun i _ => k - (intOf i).toNat)
  case atStart => exact ⟨0, csk, by omega, rfl, hv5, HK0.out ▸ hO5, hB5⟩
  case round =>
    clear hv5 hO5 hB5
    obtain ⟨j, ck, hj, rfl, hv, hO, hBl⟩ := hrel
    obtain ⟨pa, sa, pc, sc, hck⟩ := hO.out.cells (HKS.out j hj)
    injection hck with hck
    subst hck
    have L := hO.out.lies (HKS.out j hj)
    have y2 := (hcells_at hv.out).2.2.1
    rw [KP_path, rp_len] at y2
    have hwB := hB.out
    by_cases hlt : j < k
    · have j1 : (j : Int) < (k : Int) := by omega
      obtain ⟨p, hp⟩ : ∃ p : Nat, (k - j) % k = p := ⟨_, rfl⟩
      have hpk : p < k := by rw [← hp]; exact Nat.mod_lt _ (by omega)
      have hw7 : Int.tmod ((k : Int) - (j : Int)) (k : Int) = (p : Int) := by rw [show ((k : Int) - (j : Int)) = ((k - j : Nat) : Int) by omega, mod_natK, hp]
      obtain ⟨b0, o0, hpa, c0⟩ := L.path.2.2.2 0 (by rw [KP_path, rp_len]; omega)
      subst hpa
      have c0 : wr.cell? ⟨b0, o0, none⟩ = some (.int .i64 ((KP k sec j).path.getD 0 0)) := c0
      rw [KP_path, HRG.out j hlt, hp] at c0
      have HP := hide hp
      have hle : ((j + 1 : Nat) : Int) = (j : Int) + 1 := by omega
      clear hp
      replace L := hide L
      obtain ⟨qn, hqn⟩ : ∃ qn : Nat, k - 1 - j = qn := ⟨_, rfl⟩
      have hw15 : Int.tmod ((p : Int) + (k : Int) - 1) (k : Int) = (qn : Int) := by
        rw [show ((p : Int) + (k : Int) - 1) = ((p + k - 1 : Nat) : Int) by omega, mod_natK, ← HP.out, ring_back k j k2 k6 hlt, hqn]
      have hqk : qn < k := by omega
      have HQ := hide hqn
      clear hqn
      go_wp2_with fail
      go_loopw [8] (fun a wr => ∃ (x : Nat), x ≤ k ∧ a = .int .i64 x ∧ Hid (HvAt wr gk (hcells (some ⟨b0, o0, none⟩) sa pc sc (KP k sec j))) ∧ Hid (HkO wr B (.agg (hcells (some ⟨b0, o0, none⟩) sa pc sc (KP k sec j))) (KP k sec j)) ∧ Hid (Below B w2 wr)) (fun a _ => k - (intOf a).toNat)
      case atStart => exact ⟨0, by omega, rfl, hv, hO, hBl⟩
      case round =>
        clear hv hO hBl L y2 c0
        obtain ⟨x, hx, rfl, hvi, hOi, hBi⟩ := hrel
        by_cases hxl : x < k
        · have x1 : (x : Int) < (k : Int) := by omega
          obtain ⟨z, hz⟩ : ∃ z : Nat, x + 1 = z := ⟨_, rfl⟩
          obtain ⟨y, hy⟩ : ∃ y : Nat, z % k = y := ⟨_, rfl⟩
          obtain ⟨b, hb⟩ : ∃ b, decide ((x + 1) % k = p) = b := ⟨_, rfl⟩
          have hwA : IntKind.i64.wrap ((x : Int) + 1) = (z : Int) := by rw [wrap_i64 (by omega) (by omega)]; omega
          have hyk : y < k := by rw [← hy]; exact Nat.mod_lt _ (by omega)
          have hzm : Int.tmod (z : Int) (k : Int) = (y : Int) := by rw [mod_natK, hy]
          have hwz : IntKind.i64.wrap (Int.tmod (z : Int) (k : Int)) = (y : Int) := by rw [hzm, wrap_i64 (by omega) (by omega)]
          have hk0 : ¬ k = 0 := by omega
          have heq : ((y : Int) == (p : Int)) = b := by
            rw [← hb, hz, hy, Bool.eq_iff_iff, beq_iff_eq, decide_eq_true_eq]; omega
          have hbb : (b != b) = false := by cases b <;> rfl
          have H3 : Hid (∀ W, Below wr.heap.size wr W → Calls Try.prog 13 #[.agg cs, .int .i64 (x : Int), .agg (hcells (some ⟨b0, o0, none⟩) sa pc sc (KP k sec j))] W fun e w' => e = .returned (.bool b) ∧ Below W.heap.size W w') := fun W hW => by
            rw [← hb]
            exact HCk.out j x p W _ _ _ _ _ hlt hxl HP.out (HSp.out W (below_then3 hB.out hBi.out hW)) ((hOi.out.below hW).lies (HKS.out j (by omega)))
          have hvs : SvAt wr g1 cs := HSv.out wr hBi.out
          have hBi2 := hBi.out
          have HZ := hide hz
          clear hb hy hz
          go_upto_region 13 with fail
          have hRw : Below wr.heap.size wr wr.drew := ⟨rfl, rfl, rfl, Nat.le_refl _, fun _ _ => rfl⟩
          refine wp_region_held_drew (S := fun W => Below wr.heap.size wr W) (by kernel_rfl) hRw (fun hHeld => ?_)
          refine wpAnyH_take (i := 0) (oi := { dst := some 48, op := Op.load 27 (Operand.tmp 4), type := 27, pos := "outright.go:20", after := #[], guard := none }) (v := .agg cs) rfl (by kernel_rfl) (by kernel_rfl) (by kernel_rfl) (fun _ _ _ h => h) (yields_loadV (by rfl) (.tmp 4) (by rfl) _ cs (by rfl) h7 (fun W hW => hvs.below hW)) (by assumption) ?_
          try simp only [Act.put, List.setIfInBounds_toArray, List.set_cons_zero, List.set_cons_succ]
          refine wpAnyH_take (i := 1) (oi := { dst := some 49, op := Op.move (Operand.tmp 8), type := 3, pos := "outright.go:20", after := #[], guard := none }) (v := ?_) rfl (by kernel_rfl) (by kernel_rfl) (by kernel_rfl) (fun _ _ _ h => h) (Or.inl ⟨by rfl, ?_⟩) (by assumption) ?_
          rotate_left
          · intro W hSW; first | (go_simp; done) | (go_simp; with_reducible rfl)
          try simp only [Act.put, List.setIfInBounds_toArray, List.set_cons_zero, List.set_cons_succ]
          refine wpAnyH_take (i := 2) (oi := { dst := some 50, op := Op.load 30 (Operand.tmp 5), type := 30, pos := "outright.go:20", after := #[], guard := none }) (v := .agg (hcells (some ⟨b0, o0, none⟩) sa pc sc (KP k sec j))) rfl (by kernel_rfl) (by kernel_rfl) (by kernel_rfl) (fun _ _ _ h => h) (yields_loadK (by rfl) (.tmp 5) (by rfl) _ (hcells (some ⟨b0, o0, none⟩) sa pc sc (KP k sec j)) (by rfl) rfl (fun W hW => hvi.out.below hW hvi.out.lt)) (by assumption) ?_
          try simp only [Act.put, List.setIfInBounds_toArray, List.set_cons_zero, List.set_cons_succ]
          refine wpAnyH_take (i := 4) (oi := { dst := some 52, op := Op.move (Operand.tmp 8), type := 3, pos := "outright.go:20", after := #[], guard := none }) (v := ?_) rfl (by kernel_rfl) (by kernel_rfl) (by kernel_rfl) (fun _ _ _ h => h) (Or.inl ⟨by rfl, ?_⟩) (by assumption) ?_
          rotate_left
          · intro W hSW; first | (go_simp; done) | (go_simp; with_reducible rfl)
          try simp only [Act.put, List.setIfInBounds_toArray, List.set_cons_zero, List.set_cons_succ]
          refine wpAnyH_take (i := 5) (oi := { dst := some 53, op := Op.binOp BinOp.add 3 (Operand.tmp 52) (Operand.const (Value.int IntKind.i64 1)) 3, type := 3, pos := "outright.go:20", after := #[{ on := 4, ground := Ground.data }], guard := none }) (v := .int .i64 (z : Int)) rfl (by kernel_rfl) (by kernel_rfl) (by kernel_rfl) (fun _ _ _ h => h) (Or.inl ⟨by rfl, ?_⟩) (by assumption) ?_
          · intro W hSW; first | (go_simp; done) | (go_simp; with_reducible rfl)
          try simp only [Act.put, List.setIfInBounds_toArray, List.set_cons_zero, List.set_cons_succ]
          refine wpAnyH_take (i := 6) (oi := { dst := some 54, op := Op.move (Operand.tmp 3), type := 3, pos := "outright.go:20", after := #[], guard := none }) (v := ?_) rfl (by kernel_rfl) (by kernel_rfl) (by kernel_rfl) (fun _ _ _ h => h) (Or.inl ⟨by rfl, ?_⟩) (by assumption) ?_
          rotate_left
          · intro W hSW; first | (go_simp; done) | (go_simp; with_reducible rfl)
          try simp only [Act.put, List.setIfInBounds_toArray, List.set_cons_zero, List.set_cons_succ]
          refine wpAnyH_take (i := 7) (oi := { dst := some 55, op := Op.binOp BinOp.rem 3 (Operand.tmp 53) (Operand.tmp 54) 3, type := 3, pos := "outright.go:20", after := #[{ on := 5, ground := Ground.data }, { on := 6, ground := Ground.data }], guard := none }) (v := .int .i64 (y : Int)) rfl (by kernel_rfl) (by kernel_rfl) (by kernel_rfl) (fun _ _ _ h => h) (Or.inl ⟨by rfl, ?_⟩) (by assumption) ?_
          · intro W hSW; first | (go_simp; done) | (go_simp; with_reducible rfl)
          try simp only [Act.put, List.setIfInBounds_toArray, List.set_cons_zero, List.set_cons_succ]
          refine wpAnyH_take (i := 8) (oi := { dst := some 56, op := Op.move (Operand.tmp 7), type := 3, pos := "outright.go:20", after := #[], guard := none }) (v := ?_) rfl (by kernel_rfl) (by kernel_rfl) (by kernel_rfl) (fun _ _ _ h => h) (Or.inl ⟨by rfl, ?_⟩) (by assumption) ?_
          rotate_left
          · intro W hSW; first | (go_simp; done) | (go_simp; with_reducible rfl)
          try simp only [Act.put, List.setIfInBounds_toArray, List.set_cons_zero, List.set_cons_succ]
          refine wpAnyH_take (i := 9) (oi := { dst := some 57, op := Op.binOp BinOp.eql 3 (Operand.tmp 55) (Operand.tmp 56) 3, type := 4, pos := "outright.go:20", after := #[{ on := 7, ground := Ground.data }, { on := 8, ground := Ground.data }], guard := none }) (v := .bool b) rfl (by kernel_rfl) (by kernel_rfl) (by kernel_rfl) (fun _ _ _ h => h) (Or.inl ⟨by rfl, ?_⟩) (by assumption) ?_
          · intro W hSW; first | (go_simp; done) | (go_simp; with_reducible rfl)
          try simp only [Act.put, List.setIfInBounds_toArray, List.set_cons_zero, List.set_cons_succ]
          refine wpAnyH_lone (R := fun W => Below wr.heap.size wr W) (i := 3) (oi := { dst := some 51, op := Op.call { callee := Callee.value (Operand.func 13), args := #[Operand.tmp 48, Operand.tmp 49, Operand.tmp 50], argTypes := #[27, 3, 30] }, type := 4, pos := "outright.go:20", after := #[{ on := 0, ground := Ground.data }, { on := 1, ground := Ground.data }, { on := 2, ground := Ground.data }], guard := none }) (vi := .bool b) (by kernel_rfl) rfl hRw (fun _ h => h) ?_ ?_
          · intro W hW K hK
            go_simp
            refine (H3.out W hW).mono ?_
            rintro e W2 ⟨rfl, hb⟩
            go_wp2_with fail
            exact hK.out _ (below_then hW hb)
          clear hRw hHeld
          intro W9 hRw hHeld
          try simp only [Act.put, List.setIfInBounds_toArray, List.set_cons_zero, List.set_cons_succ]
          refine wpAnyH_take (i := 10) (oi := { dst := some 58, op := Op.binOp BinOp.neq 4 (Operand.tmp 51) (Operand.tmp 57) 4, type := 4, pos := "outright.go:20", after := #[{ on := 3, ground := Ground.data }, { on := 9, ground := Ground.data }], guard := none }) (v := .bool false) rfl (by kernel_rfl) (by kernel_rfl) (by kernel_rfl) (fun _ _ _ h => h) (Or.inl ⟨by rfl, ?_⟩) (by assumption) ?_
          · intro W hSW; first | (go_simp; done) | (go_simp; with_reducible rfl)
          try simp only [Act.put, List.setIfInBounds_toArray, List.set_cons_zero, List.set_cons_succ]
          refine wpAnyH_done (by kernel_rfl) ?_ _
          have hO9 := hOi.out.below hRw
          have hv9 := hvi.out.below hRw hvi.out.lt
          have hB9 := below_then3 hB.out hBi2 hRw
          clear hRw hHeld
          go_wp2
          go_roundw
          case rel => exact ⟨z, by have := HZ.out; omega, by first | rfl | go_num, hv9, hO9, hB9⟩
          case measure => have := HZ.out; simp [intOf]; omega
        · have x1 : ¬ (x : Int) < (k : Int) := by omega
          have HSeed : Hid (∀ W, Calls Try.prog 9 #[.int .i64 (qn : Int)] W fun e w' => e = .returned (.string (mkSeed qn)) ∧ w' = W) := fun W => seed_call qn (by omega) W
          have HEx3 : Hid (∀ W v, SpecW W v S → HkL W (some ⟨b0, o0, none⟩) sa pc sc (KP k sec j) → Calls Try.prog 14 #[v, .agg (hcells (some ⟨b0, o0, none⟩) sa pc sc (KP k sec j)), .int .i64 (qn : Int), .string (mkSeed qn)] W fun e w' => ∃ u, e = .returned u ∧ HkO w' W.heap.size u (KP k sec (j + 1)) ∧ Below W.heap.size W w') := fun W v hv L => by
            have h9 := HEx.out j W v _ _ _ _ hlt hv L
            rw [HQ.out] at h9
            exact h9
          have hBd : Hid (Below B w2 wr.drew) := hBi.out.trans ⟨rfl, rfl, rfl, Nat.le_refl _, fun _ _ => rfl⟩
          go_upto_region 16 with fail
          have hRw : Below wr.heap.size wr wr.drew := ⟨rfl, rfl, rfl, Nat.le_refl _, fun _ _ => rfl⟩
          refine wp_region_held_drew (S := fun W => Below B w2 W) (by kernel_rfl) (hBd.out) (fun hHeld => ?_)
          refine wpAnyH_take (i := 0) (oi := { dst := some 65, op := Op.load 27 (Operand.tmp 4), type := 27, pos := "outright.go:25", after := #[], guard := none }) (v := .agg cs) rfl (by kernel_rfl) (by kernel_rfl) (by kernel_rfl) (fun _ _ _ h => h) (yields_loadV (by rfl) (.tmp 4) (by rfl) _ cs (by rfl) h7 (fun W hW => HSv.out W hW)) (by assumption) ?_
          try simp only [Act.put, List.setIfInBounds_toArray, List.set_cons_zero, List.set_cons_succ]
          refine wpAnyH_take (i := 2) (oi := { dst := some 67, op := Op.move (Operand.tmp 9), type := 3, pos := "outright.go:25", after := #[], guard := none }) (v := ?_) rfl (by kernel_rfl) (by kernel_rfl) (by kernel_rfl) (fun _ _ _ h => h) (Or.inl ⟨by rfl, ?_⟩) (by assumption) ?_
          rotate_left
          · intro W hSW; first | (go_simp; done) | (go_simp; with_reducible rfl)
          try simp only [Act.put, List.setIfInBounds_toArray, List.set_cons_zero, List.set_cons_succ]
          refine wpAnyH_take (i := 3) (oi := { dst := some 68, op := Op.move (Operand.tmp 9), type := 3, pos := "outright.go:25", after := #[], guard := none }) (v := ?_) rfl (by kernel_rfl) (by kernel_rfl) (by kernel_rfl) (fun _ _ _ h => h) (Or.inl ⟨by rfl, ?_⟩) (by assumption) ?_
          rotate_left
          · intro W hSW; first | (go_simp; done) | (go_simp; with_reducible rfl)
          try simp only [Act.put, List.setIfInBounds_toArray, List.set_cons_zero, List.set_cons_succ]
          refine wpAnyH_pair (R := fun W => Below B w2 W ∧ HvAt W gk (hcells (some ⟨b0, o0, none⟩) sa pc sc (KP k sec j)) ∧ HkO W B (.agg (hcells (some ⟨b0, o0, none⟩) sa pc sc (KP k sec j))) (KP k sec j)) (i := 1) (j := 4) (oi := { dst := some 66, op := Op.load 30 (Operand.tmp 5), type := 30, pos := "outright.go:25", after := #[], guard := none }) (oj := { dst := some 69, op := Op.call { callee := Callee.value (Operand.func 9), args := #[Operand.tmp 68], argTypes := #[3] }, type := 9, pos := "outright.go:25", after := #[{ on := 3, ground := Ground.data }], guard := none }) (vi := .agg (hcells (some ⟨b0, o0, none⟩) sa pc sc (KP k sec j))) (vj := .string (mkSeed qn)) (by kernel_rfl) (by kernel_rfl) (by kernel_rfl) rfl rfl rfl rfl rfl rfl (⟨hBd.out, hvi.out, hOi.out⟩) (fun W h => h.1) ?_ ?_ ?_ ?_ ?_
          · intro W hW K hK
            exact gives_loadK (by rfl) (.tmp 5) (by rfl) gk _ (by rfl) rfl (fun W h => h.2.1) W hW K hK
          · intro W hW K hK
            go_simp
            refine (HSeed.out W).mono ?_
            rintro e W2 ⟨rfl, hw0⟩
            subst hw0
            go_wp2_with fail
            exact hK.out _ hW
          · intro W hW K hK
            go_simp
            refine (HSeed.out W).mono ?_
            rintro e W2 ⟨rfl, hw0⟩
            subst hw0
            go_wp2_with fail
            exact hK.out _ hW
          · intro W hW K hK
            exact gives_loadK (by rfl) (.tmp 5) (by rfl) gk _ (by rfl) rfl (fun W h => h.2.1) W hW K hK
          intro W9 hx hHeld
          have hx2 := hx.2.2.lies (HKS.out j (by omega))
          try simp only [Act.put, List.setIfInBounds_toArray, List.set_cons_zero, List.set_cons_succ]
          refine wpAnyH_loneE (T := fun u W => Below B w2 W ∧ HkO W B u (KP k sec (j + 1)) ∧ HvAt W gk (hcells (some ⟨b0, o0, none⟩) sa pc sc (KP k sec j))) (i := 5) (oi := { dst := some 70, op := Op.call { callee := Callee.value (Operand.func 14), args := #[Operand.tmp 65, Operand.tmp 66, Operand.tmp 67, Operand.tmp 69], argTypes := #[27, 30, 3, 9] }, type := 30, pos := "outright.go:25", after := #[{ on := 0, ground := Ground.data }, { on := 1, ground := Ground.data }, { on := 2, ground := Ground.data }, { on := 4, ground := Ground.data }, { on := 4, ground := Ground.chain }], guard := none }) (by kernel_rfl) rfl (fun u W h => h.1) ?_ ?_
          · intro K hK
            go_simp
            refine (HEx3.out _ _ (HSp.out _ hx.1) hx2).mono ?_
            rintro e W2 ⟨u, rfl, hO9, hb9⟩
            go_wp2_with fail
            exact hK.out _ _ (⟨below_then3 hB.out hx.1 hb9, hO9.base (le_of_below hx.1 hB.out), hx.2.1.below hb9 hx.2.1.lt⟩)
          intro u5 W9 hT5 hHeld
          clear hx hx2
          obtain ⟨hB5, hO5, hv5⟩ := hT5
          obtain ⟨csn, rfl, hc4, hc41⟩ := hO5.four
          try simp only [Act.put, List.setIfInBounds_toArray, List.set_cons_zero, List.set_cons_succ]
          refine wpAnyH_loneE (T := fun _ W => Below B w2 W ∧ HkO W B (.agg csn) (KP k sec (j + 1)) ∧ HvAt W gk csn) (i := 6) (oi := { dst := none, op := Op.store 30 (Operand.tmp 5) (Operand.tmp 70), type := 0, pos := "outright.go:25", after := #[{ on := 5, ground := Ground.data }, { on := 5, ground := Ground.chain }, { on := 0, ground := Ground.phase }, { on := 1, ground := Ground.phase }, { on := 2, ground := Ground.phase }, { on := 3, ground := Ground.phase }, { on := 4, ground := Ground.phase }, { on := 5, ground := Ground.phase }], guard := none }) (by kernel_rfl) rfl (fun u W h => h.1) ?_ ?_
          · intro K hK
            refine step_storeH _ (by rfl) (.tmp 5) (.tmp 70) (by rfl) gk csn _ (by rfl) (by rfl) hv5 hc4 rfl hc41 ?_
            intro w8 hv8 hbt8
            exact hK.out undef _ ⟨below_but3 hB.out hB5 hbt8 hgk, hO5.but hbt8 hv5, hv8⟩
          intro u6 W9 hu6 hHeld
          clear hB5 hO5 hv5
          obtain ⟨hB6, hO6, hv6⟩ := hu6
          try simp only [Act.put]
          refine wpAnyH_done (by kernel_rfl) ?_ _
          clear hHeld
          go_wp2
          go_roundw
          case rel => exact ⟨j + 1, csn, by omega, by go_num, hv6, hO6, hB6⟩
          case measure => simp [intOf]; omega
    · have j1 : ¬ (j : Int) < (k : Int) := by omega
      have hje : j = k := by omega
      have hwk : ((k - 1 : Nat) : Int) = (k : Int) - 1 := by omega
      have HCe2 : Hid (∀ W v, SpecW W v S → HkL W pa sa pc sc (KP k sec j) → Calls Try.prog 13 #[v, .int .i64 ((k : Int) - 1), .agg (hcells pa sa pc sc (KP k sec j))] W fun e w' => e = .returned (.bool false) ∧ Below W.heap.size W w') := fun W v hv L => by
        rw [hje] at L ⊢
        have h9 := HCe.out W v pa sa pc sc hv L
        rw [hwk] at h9
        exact h9
      have hWr := HSp.out _ hBl.out
      have hSr := HSv.out _ hBl.out
      have hv' := hv.out
      have hBr := hB2.trans (hBl.out.mono (by omega))
      replace L := hide L
      clear hv hO hBl HCk HCe HEx HRG HSp HSv hwk
      have HJ := hide hje
      clear hje
      rw [show (j + 1 : Nat) = k + 1 by have := HJ.out; omega] at y2
      go_wp2_with (first | ((with_reducible refine wpList_at ?_); refine wpList_loadV (by rfl) (.tmp 4) (by rfl) _ cs (by rfl) hSr h7 ?_) | ((with_reducible refine wpList_at ?_); refine wpList_loadK (by rfl) (.tmp 5) (by rfl) _ _ (by rfl) hv' rfl ?_))
      refine (HCe2.out _ _ hWr L.out).mono ?_
      rintro e w3 ⟨rfl, hb3⟩
      have hB3 := below_then hBr hb3
      clear hWr hSr hv' L hBr hb3 y2
      go_wp2_with fail
      refine (awake7_any _).mono ?_
      rintro e w4 ⟨rfl, hb4⟩
      go_wp2
      go_ret
      exact ⟨rfl, below_then hB3 hb4⟩

end Go.Proofs.Ytccaaaifhiigcaa
