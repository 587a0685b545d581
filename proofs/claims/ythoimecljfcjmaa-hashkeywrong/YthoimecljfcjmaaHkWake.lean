/-
  Chapter 7's own example (awake).
-/
import Derived.Test.YthoimecljfcjmaaZ43
import Derived.Test.YthoimecljfcjmaaHkCk
import Derived.Test.YthoimecljfcjmaaZ45
import Derived.Test.YthoimecljfcjmaaZ00
namespace Go.Proofs.Ythoimecljfcjmaa
open Go.RowKit

def otherB : ByteArray := ⟨#[111, 116, 104, 101, 114]⟩
/-- Check of a key that was grown. -/
theorem check_grown {w : World} {v : Value} {s : SpecM} (hv : SpecW w v s) (hb : BySeeds s) {K : HkM} (hk : GrownK s K) (hval : validM s = true) (hp : K.path.length ≤ 100) {pa sa : Option Addr} {pc sc : Nat} (L : HkL w pa sa pc sc K) (arc : Int) (r : Bool)
    (h : r = true ↔ ((0 ≤ arc ∧ arc < (s.arcs.length : Int)) ∧ pathOk s K.path ∧ K.path.getD 0 0 = (s.arcs.getD arc.toNat noArc).dst)) :
    Calls Try.prog 8 #[v, .int .i64 arc, .agg (hcells pa sa pc sc K)] w fun e w' => e = .returned (.bool r) ∧ Below w.heap.size w w' := by
  have h9 := hkcheck_any hv arc L hp (fun j hj => by rw [hk.sz j hj]; omega) (by rw [hk.sec7]; omega)
  have e : told (hkOpens s arc K) = r := by rw [Bool.eq_iff_iff, told_iff, h, opens_grown hb hk hval]
  rw [e] at h9
  exact h9
theorem check_other {w : World} {v : Value} {s : SpecM} (hv : SpecW w v s) (hb : BySeeds s) {K : HkM} (hk : GrownK s K) (hl : K.lock = 0) (hp : K.path.length ≤ 100) {pa sa : Option Addr} {pc sc : Nat} (L : HkL w pa sa pc sc ⟨K.lock, otherB, K.path, K.sigs⟩) (arc : Int) :
    Calls Try.prog 8 #[v, .int .i64 arc, .agg (hcells pa sa pc sc ⟨K.lock, otherB, K.path, K.sigs⟩)] w fun e w' => e = .returned (.bool false) ∧ Below w.heap.size w w' := by
  have h9 := hkcheck_any hv arc L hp (fun j hj => by have := hk.sz j hj; show (K.sigs.getD j ByteArray.empty).size ≤ 1000; omega) (by show (5 : Nat) ≤ 1000000; omega)
  rw [told_no (opens_secret hb (K := K) otherB (by rw [hl]; exact other_lock) arc)] at h9
  exact h9
theorem HkL.secretTo {w : World} {pa sa : Option Addr} {pc sc : Nat} {K : HkM} (h : HkL w pa sa pc sc K) (x : ByteArray) (hx : x.size ≤ maxLen) : HkL w pa sa pc sc ⟨K.lock, x, K.path, K.sigs⟩ := ⟨h.lock, hx, h.path, h.sigs, h.pc1, h.pc2, h.sc1, h.sc2, h.pn, h.sn⟩

set_option maxRecDepth 10000 in
set_option maxHeartbeats 4000000 in
theorem awake7_any (w : World) : Calls Try.prog 10 #[] w fun e w' => e = .returned (.bool true) ∧ Below w.heap.size w w' := by
  obtain ⟨S, hS⟩ : ∃ S, S = ringM 2 5 6 := ⟨_, rfl⟩
  have hbs : BySeeds S := by rw [hS]; exact ring_seeds 2 (by omega) (by omega) 5 6 (by omega) (by omega) (by omega) (by omega)
  have hok := hbs.ok
  have HR : ∀ W, Calls Try.prog 27 #[.int .i64 2, .int .i64 5, .int .i64 6] W fun e w' => ∃ v, e = .returned v ∧ OwnSpec w' W.heap.size v S ∧ Below W.heap.size W w' := fun W => by rw [hS]; exact ring_any 2 (by omega) (by omega) 5 6 W
  have hsane := SaneS.of_ok hok
  have hn : S.parties.length = 2 := by rw [hS, ring_np5]
  have hA : S.arcs = arcsP 2 0 2 := by rw [hS]; rfl
  have hL : S.leaders = [0] := by rw [hS]; rfl
  have hK : S.locks.length = 1 := by rw [hok.2.1.2.2.1, hL]; rfl
  have hval : validM S = true := by rw [valid_reckoned hok, hn, hA, hL]; decide +kernel
  obtain ⟨sec, hsec, hsz, HSec⟩ := secret_ex 0 (by omega)
  obtain ⟨sd, hsd, hdz, HSd⟩ := seed_ex 0 (by omega)
  replace HSec := hide HSec
  replace HSd := hide HSd
  obtain ⟨K0, hK0⟩ : ∃ K, K = signedM ⟨0, sec, [], []⟩ 0 sd := ⟨_, rfl⟩
  have hG : GrownK S K0 := by rw [hK0]; exact GrownK.made hbs 0 (by rw [hL]; simp) sec sd hsec 0 (by rw [hL]; rfl) hsd
  have hpath : K0.path = [0] := by rw [hK0]; rfl
  have hlock : K0.lock = 0 := by rw [hK0]; rfl
  have hp100 : K0.path.length ≤ 100 := by rw [hpath]; simp
  have hks := hG.sane hok hp100
  have hp0 : pathOk S K0.path := (told_iff _).1 (by rw [path_reckoned hok, hn, hA, hpath]; decide +kernel)
  have HMk : Hid (∀ W v, SpecW W v S → Calls Try.prog 13 #[v, .int .i64 0, .string sec, .string sd] W fun e w' => ∃ u, e = .returned u ∧ HkO w' W.heap.size u K0 ∧ Below W.heap.size W w') := fun W v hv => by
    refine make_any hv 0 sec sd (by unfold In64; omega) (by omega) (by omega) K0 (fun _ => ?_) (fun h => absurd ⟨hok, by omega, by rw [hK]; omega⟩ h)
    rw [hK0, hL]; rfl
  have HMk5 : Hid (∀ W v, SpecW W v S → Calls Try.prog 13 #[v, .int .i64 5, .string ⟨#[]⟩, .string ⟨#[]⟩] W fun e w' => ∃ up us, e = .returned (.agg #[.int .i64 0, .string ⟨#[]⟩, up, us]) ∧ (∃ a c, up = .slice a 0 c) ∧ Below W.heap.size W w') := fun W v hv => by
    refine (make_any hv 5 ⟨#[]⟩ ⟨#[]⟩ (by unfold In64; omega) (by decide) (by decide) noHk (fun h => absurd h.2.2 (by rw [hK]; omega)) (fun _ => rfl)).mono ?_
    rintro e w' ⟨u, rfl, ⟨up, us, rfl, hp, hs⟩, hb⟩
    obtain ⟨a, c, hu⟩ := row_slice hp
    exact ⟨up, us, rfl, ⟨a, c, hu⟩, hb⟩
  have HC1 : Hid (∀ W v pa sa pc sc, SpecW W v S → HkL W pa sa pc sc K0 → Calls Try.prog 8 #[v, .int .i64 1, .agg (hcells pa sa pc sc K0)] W fun e w' => e = .returned (.bool true) ∧ Below W.heap.size W w') := fun W v pa sa pc sc hv L =>
    check_grown hv hbs hG hval hp100 L 1 true ⟨fun _ => ⟨⟨by omega, by rw [hA]; decide +kernel⟩, hp0, by rw [hpath, hA]; decide +kernel⟩, fun _ => rfl⟩
  have HC2 : Hid (∀ (arc : Int) W v pa sa pc sc, SpecW W v S → HkL W pa sa pc sc K0 → Calls Try.prog 8 #[v, .int .i64 arc, .agg (hcells pa sa pc sc ⟨K0.lock, otherB, K0.path, K0.sigs⟩)] W fun e w' => e = .returned (.bool false) ∧ Below W.heap.size W w') := fun arc W v pa sa pc sc hv L =>
    check_other hv hbs hG hlock hp100 (L.secretTo otherB (by decide)) arc
  replace hks := hide hks
  clear hS hbs hok hn hA hL hK hval hsec hsz hsd hdz hK0 hG hpath hlock hp100 hp0
  go_enter Try.func10, Try.ntmps10
  go_wp2_with fail
  refine (HR _).mono ?_
  rintro e w1 ⟨v, rfl, hO1, hb1⟩
  have hW1 := hO1.wide hsane
  obtain ⟨cs, rfl, h7⟩ := hW1.seven
  clear hO1 HR hsane
  go_upto_region 2 with ((with_reducible refine wpList_at ?_); refine wpList_varS (by rfl) (by rfl) (by rfl) (.tmp 1) (.tmp 4) (by rfl) cs (by rfl) (by rfl) h7 ?_; intro w2 hv2 hz2 hb2)
  have hW2 := hW1.below hb2
  have hB2 := below_then hb1 hb2
  have hs2 : w.heap.size ≤ w2.heap.size := hB2.size
  clear hb1 hb2 hW1
  obtain ⟨B, hBe⟩ : ∃ B, w2.heap.size = B := ⟨_, rfl⟩
  have hB := hide hBe
  have HSp : Hid (∀ W, Below B w2 W → SpecW W (.agg cs) S) := fun W hW => hW2.below (by rw [hB.out]; exact hW)
  generalize w1.heap.size = g1 at hv2 hz2 ⊢
  clear hBe hz2
  have hRw : Below w2.heap.size w2 w2.drew := ⟨rfl, rfl, rfl, Nat.le_refl _, fun _ _ => rfl⟩
  refine wp_region_held_drew (S := fun W => Below w2.heap.size w2 W) (by kernel_rfl) hRw (fun hHeld => ?_)
  refine wpAnyH_take (i := 0) (oi := { dst := some 5, op := Op.load 27 (Operand.tmp 1), type := 27, pos := "law.go:15", after := #[], guard := none }) (v := .agg cs) rfl (by kernel_rfl) (by kernel_rfl) (by kernel_rfl) (fun _ _ _ h => h) (yields_loadV (by rfl) (.tmp 1) (by rfl) _ cs (by rfl) h7 (fun W hW => hv2.below hW)) (by assumption) ?_
  try simp only [Act.put, List.setIfInBounds_toArray, List.set_cons_zero, List.set_cons_succ]
  refine wpAnyH_c3a (R := fun W => Below B w2 W) (R' := fun p W => Below B w2 W ∧ ∃ gk, B ≤ gk ∧ p = Value.pointer (some ⟨gk, 0, none⟩) ∧ HvAt W gk Z4) (T := fun u W => Below B w2 W ∧ HkO W B u K0) (T' := fun p u W => Below B w2 W ∧ HkO W B u K0 ∧ ∃ gk, B ≤ gk ∧ p = Value.pointer (some ⟨gk, 0, none⟩) ∧ HvAt W gk Z4) (i1 := 1) (i2 := 2) (i3 := 3) (k := 4) (o1 := { dst := some 6, op := Op.call { callee := Callee.value (Operand.func 14), args := #[Operand.const (Value.int IntKind.i64 0)], argTypes := #[3] }, type := 9, pos := "law.go:15", after := #[], guard := none }) (o2 := { dst := some 7, op := Op.call { callee := Callee.value (Operand.func 15), args := #[Operand.const (Value.int IntKind.i64 0)], argTypes := #[3] }, type := 9, pos := "law.go:15", after := #[{ on := 1, ground := Ground.chain }], guard := none }) (o3 := { dst := some 8, op := Op.call { callee := Callee.value (Operand.func 13), args := #[Operand.tmp 5, Operand.const (Value.int IntKind.i64 0), Operand.tmp 6, Operand.tmp 7], argTypes := #[27, 3, 9, 9] }, type := 31, pos := "law.go:15", after := #[{ on := 0, ground := Ground.data }, { on := 1, ground := Ground.data }, { on := 2, ground := Ground.data }, { on := 2, ground := Ground.chain }], guard := none }) (ok := { dst := some 2, op := Op.alloc 31, type := 0, pos := "law.go:15", after := #[], guard := none }) (v1 := .string sec) (v2 := .string sd) (by kernel_rfl) (by kernel_rfl) (by kernel_rfl) (by kernel_rfl) (by kernel_rfl) (by kernel_rfl) (by kernel_rfl) rfl rfl rfl rfl rfl rfl rfl rfl rfl rfl rfl rfl rfl rfl (fun _ => rfl) (fun _ => rfl) (fun _ _ => rfl) (hB.out ▸ hRw) (fun W h => hB.out ▸ h) (fun p W h => hB.out ▸ h.1) (fun u W h => hB.out ▸ h.1) (fun p u W h => hB.out ▸ h.1) ?_ ?_ ?_ ?_ ?_ ?_ (gives_allocK rfl rfl (fun W hW W1 hv9 hb => ⟨below_then3 hB.out hW hb, W.heap.size, le_of_below hW hB.out, rfl, hv9⟩)) (fun u => gives_allocK rfl rfl (fun W hW W1 hv9 hb => ⟨below_then3 hB.out hW.1 hb, hW.2.below hb, W.heap.size, le_of_below hW.1 hB.out, rfl, hv9⟩)) ?_
  · intro W hW K hK
    go_simp
    refine (HSec.out W).mono ?_
    rintro e W2 ⟨rfl, hw0⟩
    subst hw0
    go_wp2_with fail
    exact hK.out _ hW
  · intro p W hW K hK
    go_simp
    refine (HSec.out W).mono ?_
    rintro e W2 ⟨rfl, hw0⟩
    subst hw0
    go_wp2_with fail
    exact hK.out _ hW
  · intro W hW K hK
    go_simp
    refine (HSd.out W).mono ?_
    rintro e W2 ⟨rfl, hw0⟩
    subst hw0
    go_wp2_with fail
    exact hK.out _ hW
  · intro p W hW K hK
    go_simp
    refine (HSd.out W).mono ?_
    rintro e W2 ⟨rfl, hw0⟩
    subst hw0
    go_wp2_with fail
    exact hK.out _ hW
  · intro W hW K hK
    go_simp
    refine (HMk.out W _ (HSp.out W hW)).mono ?_
    rintro e W2 ⟨u, rfl, hO, hb⟩
    go_wp2_with fail
    exact hK.out _ _ ⟨below_then3 hB.out hW hb, hO.base (le_of_below hW hB.out)⟩
  · intro p W hW K hK
    obtain ⟨hW1, gk, hgk, rfl, hv9⟩ := hW
    go_simp
    refine (HMk.out W _ (HSp.out W hW1)).mono ?_
    rintro e W2 ⟨u, rfl, hO, hb⟩
    go_wp2_with fail
    exact hK.out _ _ ⟨below_then3 hB.out hW1 hb, hO.base (le_of_below hW1 hB.out), gk, hgk, rfl, hv9.below hb hv9.lt⟩
  intro p4 u4 W9 hT4 hHeld
  clear hRw
  obtain ⟨hB4, hO4, gk, hgk, rfl, hv4⟩ := hT4
  obtain ⟨csk, rfl, hc4, hc41⟩ := hO4.four
  try simp only [Act.put, List.setIfInBounds_toArray, List.set_cons_zero, List.set_cons_succ]
  refine wpAnyH_loneE (T := fun _ W => Below B w2 W ∧ HkO W B (.agg csk) K0 ∧ HvAt W gk csk) (i := 5) (oi := { dst := none, op := Op.store 31 (Operand.tmp 2) (Operand.tmp 8), type := 0, pos := "law.go:15", after := #[{ on := 4, ground := Ground.data }, { on := 3, ground := Ground.data }, { on := 3, ground := Ground.chain }, { on := 0, ground := Ground.phase }, { on := 1, ground := Ground.phase }, { on := 2, ground := Ground.phase }, { on := 3, ground := Ground.phase }, { on := 4, ground := Ground.phase }], guard := none }) (by kernel_rfl) rfl (fun u W h => hB.out ▸ h.1) ?_ ?_
  · intro K hK
    refine step_storeH _ (by rfl) (.tmp 2) (.tmp 8) (by rfl) gk csk _ (by rfl) (by rfl) hv4 hc4 rfl hc41 ?_
    intro w8 hv8 hbt8
    exact hK.out undef _ ⟨below_but3 hB.out hB4 hbt8 hgk, hO4.but hbt8 hv4, hv8⟩
  intro u5 W9 hu5 hHeld
  clear hB4 hO4 hv4
  obtain ⟨hB5, hO5, hv5⟩ := hu5
  try simp only [Act.put]
  refine wpAnyH_done (by kernel_rfl) ?_ _
  clear hHeld HMk
  obtain ⟨pa, sa, pc, sc, hcsk⟩ := hO5.cells hks.out
  injection hcsk with hcsk
  subst hcsk
  have L5 := hO5.lies hks.out
  have hW5 := HSp.out _ hB5
  have hv25 : SvAt _ g1 cs := hv2.below (by rw [hB.out]; exact hB5)
  have hBw : Below w.heap.size w W9 := hB2.trans (hB5.mono (by have := hB.out; omega))
  have hgk5 : w.heap.size ≤ gk := by have := hB.out; omega
  have hgg : g1 ≠ gk := by have h8 := hv2.lt; have := hB.out; omega
  have HSq : Hid (∀ W, Below B w2 W → SpecW W (.agg cs) S) := HSp
  clear hW2 hB2 HSp hv2
  go_wp2_with (first | ((with_reducible refine wpList_at ?_); refine wpList_loadV (by rfl) (.tmp 1) (by rfl) _ cs (by rfl) hv25 h7 ?_) | ((with_reducible refine wpList_at ?_); refine wpList_loadK (by rfl) (.tmp 2) (by rfl) _ _ (by rfl) hv5 rfl ?_))
  refine (HC1.out _ _ _ _ _ _ hW5 L5).mono ?_
  rintro e w6 ⟨rfl, hb6⟩
  have hO6 := hO5.below hb6
  have hv26 := hv25.below hb6
  have hv6 := hv5.below hb6 hv5.lt
  have hB6 := hBw.trans (hb6.mono hBw.size)
  have hB26 := below_then3 hB.out hB5 hb6
  clear hW5 L5 hv25 hv5 hBw hb6 HC1 hO5 hB5
  go_wp2_with ((with_reducible refine wpList_at ?_); refine wpList_fieldK (by rfl) 9 (.tmp 12) _ (by rfl) gk 1 (.string otherB) _ (hcells pa sa pc sc ⟨K0.lock, otherB, K0.path, K0.sigs⟩) (by rfl) (by rfl) rfl sizeStr rfl hv6 rfl (by omega) (by rfl) ?_; intro w7 hv7 hz7 hb7; refine Hid.out ?_)
  unfold Hid
  have hO7 := hO6.but hb7 hv6
  have L7 := hO7.lies hks.out
  have hv27 := hv26.but hb7 hgg
  have hB7 := below_but3 rfl hB6 hb7 hgk5
  have hW7 := HSq.out _ (below_but3 hB.out hB26 hb7 hgk)
  clear hO6 hO7 hv26 hv6 hB6 hB26 HSq
  go_wp2_with (first | ((with_reducible refine wpList_at ?_); refine wpList_loadV (by rfl) (.tmp 1) (by rfl) _ cs (by rfl) hv27 h7 ?_) | ((with_reducible refine wpList_at ?_); refine wpList_loadK (by rfl) (.tmp 2) (by rfl) _ _ (by rfl) hv7 rfl ?_))
  refine (HC2.out 1 _ _ _ _ _ _ hW7 L7).mono ?_
  rintro e w8 ⟨rfl, hb8⟩
  have hW8 := hW7.below hb8
  have L8 := L7.below hb8
  have hv28 := hv27.below hb8
  have hv8 := hv7.below hb8 hv7.lt
  have hB8 := below_then hB7 hb8
  clear hW7 L7 hv27 hv7 hB7 hb8
  go_wp2_with (first | ((with_reducible refine wpList_at ?_); refine wpList_loadV (by rfl) (.tmp 1) (by rfl) _ cs (by rfl) hv28 h7 ?_) | ((with_reducible refine wpList_at ?_); refine wpList_loadK (by rfl) (.tmp 2) (by rfl) _ _ (by rfl) hv8 rfl ?_))
  refine (HC2.out 0 _ _ _ _ _ _ hW8 L8).mono ?_
  rintro e w10 ⟨rfl, hb10⟩
  have hW10 := hW8.below hb10
  have hv210 := hv28.below hb10
  have hB10 := below_then hB8 hb10
  clear hW8 L8 hv28 hv8 hB8 hb10 HC2
  go_wp2_with (((with_reducible refine wpList_at ?_); refine wpList_loadV (by rfl) (.tmp 1) (by rfl) _ cs (by rfl) hv210 h7 ?_))
  refine (HMk5.out _ _ hW10).mono ?_
  rintro e w11 ⟨up, us, rfl, ⟨ua, uc, rfl⟩, hb11⟩
  have hB11 := below_then hB10 hb11
  clear hW10 hv210 hB10 hb11 HMk5
  have hfd : ∀ W : World, (Instr.field 31 (.agg #[.int .i64 0, .string ⟨#[]⟩, .slice ua 0 uc, us]) 2).run Try.prog W = .ok (.slice ua 0 uc) W := fun _ => by kernel_rfl
  go_wp2
  go_ret
  exact ⟨rfl, hB11⟩

end Go.Proofs.Ythoimecljfcjmaa
