/-
  The walk of HashkeyNone.
-/
import Derived.Test.YtccaaaifhiigcaaHkWake
import Derived.Test.YtccaaaifhiigcaaZ41
import Derived.Test.YtccaaaifhiigcaaZ00
namespace Go.Proofs.Ytccaaaifhiigcaa
open Go.RowKit

theorem sizeInts : (Try.prog.info? 24).map (·.size) = some 1 := by kernel_rfl
theorem sizeStrs : (Try.prog.info? 25).map (·.size) = some 1 := by kernel_rfl
theorem sizeInt : (Try.prog.info? 3).map (·.size) = some 1 := by kernel_rfl
theorem bytes_none {w : World} {v : Value} {K : HkM} (hv : HkV w v K) (h : ¬ hkFits K) : Calls Try.prog 10 #[v] w fun e w' => e = .returned (.string ⟨#[]⟩) ∧ Below w.heap.size w w' :=
  hkbytes_any hv ⟨#[]⟩ (fun h9 => absurd h9 h) (fun _ => rfl)
theorem ownI_but {w w' : World} {B g : Nat} {u : Value} {l : List Int} {cs : Array Value} (h : OwnI w B u l) (hb : But g w w') (hg : HvAt w g cs) : OwnI w' B u l := World.ownsRow.kept h hb.grown (row_apart h hg (by decide))
theorem ownS_but {w w' : World} {B g : Nat} {u : Value} {l : List ByteArray} {cs : Array Value} (h : OwnS w B u l) (hb : But g w w') (hg : HvAt w g cs) : OwnS w' B u l := World.ownsRow.kept h hb.grown (row_apart h hg (by decide))
theorem HkO.two {w : World} {B : Nat} {K : HkM} {pa sa : Option Addr} {pc sc : Nat} (h : HkO w B (.agg (hcells pa sa pc sc K)) K) : OwnI w B (.slice pa K.path.length pc) K.path ∧ OwnS w B (.slice sa K.sigs.length sc) K.sigs := by
  obtain ⟨up, us, he, h1, h2⟩ := h
  injection he with he
  simp only [hcells] at he
  injection he with he
  injection he with _ he
  injection he with _ he
  injection he with h3 he
  injection he with h4 _
  subst h3 h4
  exact ⟨h1, h2⟩

set_option maxRecDepth 10000 in
set_option maxHeartbeats 8000000 in
theorem hknone_any (how n : Int) (_w1 : (Lit.int .i64 how).wf = true) (_w2 : (Lit.int .i64 n).wf = true) (w : World) : Calls Try.prog 3 #[.int .i64 how, .int .i64 n] w fun e w' => e = .returned (.bool true) ∧ Below w.heap.size w w' := by
  clear _w1 _w2
  obtain ⟨S, hS⟩ : ∃ S, S = ringM 2 5 6 := ⟨_, rfl⟩
  have hbs : BySeeds S := by rw [hS]; exact ring_seeds 2 (by omega) (by omega) 5 6 (by omega) (by omega) (by omega) (by omega)
  have hok := hbs.ok
  have HR : ∀ W, Calls Try.prog 6 #[.int .i64 2, .int .i64 5, .int .i64 6] W fun e w' => ∃ v, e = .returned v ∧ OwnSpec w' W.heap.size v S ∧ Below W.heap.size W w' := fun W => by rw [hS]; exact ring_any 2 (by omega) (by omega) 5 6 W
  have hsane := SaneS.of_ok hok
  have hL : S.leaders = [0] := by rw [hS]; rfl
  have hK : S.locks.length = 1 := by rw [hok.2.1.2.2.1, hL]; rfl
  obtain ⟨sec, hsec, hsz, HSec⟩ := secret_ex 0 (by omega)
  obtain ⟨sd, hsd, hdz, HSd⟩ := seed_ex 0 (by omega)
  replace HSec := hide HSec
  replace HSd := hide HSd
  obtain ⟨K0, hK0⟩ : ∃ K, K = signedM ⟨0, sec, [], []⟩ 0 sd := ⟨_, rfl⟩
  have hG : GrownK S K0 := by rw [hK0]; exact GrownK.made hbs 0 (by rw [hL]; simp) sec sd hsec 0 (by rw [hL]; rfl) hsd
  have hpath : K0.path = [0] := by rw [hK0]; rfl
  have hsigs : ∃ x : ByteArray, x.size = 512 ∧ K0.sigs = [x] := ⟨_, sigM_size _ _ _, by rw [hK0]; rfl⟩
  have hlock : K0.lock = 0 := by rw [hK0]; rfl
  have hks := hG.sane hok (by rw [hpath]; simp)
  have hsec7 := hG.sec7
  have HMk : Hid (∀ W v, SpecW W v S → Calls Try.prog 7 #[v, .int .i64 0, .string sec, .string sd] W fun e w' => ∃ u, e = .returned u ∧ HkO w' W.heap.size u K0 ∧ Below W.heap.size W w') := fun W v hv => by
    refine make_any hv 0 sec sd (by unfold In64; omega) (by omega) (by omega) K0 (fun _ => ?_) (fun h => absurd ⟨hok, by omega, by rw [hK]; omega⟩ h)
    rw [hK0, hL]; rfl
  have HB0 : Hid (∃ x : ByteArray, (x.size : Int) = 559 ∧ ∀ W v, HkV W v K0 → Calls Try.prog 10 #[v] W fun e w' => e = .returned (.string x) ∧ Below W.heap.size W w') := by
    obtain ⟨x, hx, hxs⟩ := hsigs
    have hf : hkFits K0 := by
      refine ⟨by rw [hlock]; omega, by omega, by rw [hpath]; simp, by rw [hpath]; simp, by rw [hpath, hxs]; rfl, fun j hj => ?_, fun j hj => ?_⟩
      · rw [hpath] at hj ⊢
        obtain rfl : j = 0 := by have : j < 1 := hj; omega
        exact ⟨by simp, by simp⟩
      · rw [hxs] at hj ⊢
        obtain rfl : j = 0 := by have : j < 1 := hj; omega
        exact hx
    have hl : (hkB K0).length = 559 := by
      have h1 : K0.secret.data.toList.length = 7 := by rw [Array.length_toList]; exact hsec7
      have h2 : x.data.toList.length = 512 := by rw [Array.length_toList]; exact hx
      unfold hkB
      rw [hpath, hxs]
      simp only [List.length_append, num8_length, text8_length, List.flatMap_cons, List.flatMap_nil, List.length_nil, h1, txt8, h2]
    exact ⟨⟨(hkB K0).toArray⟩, by rw [mk_size, hl]; rfl, fun W v hv => hkbytes_any hv _ (fun _ => rfl) (fun h => absurd hf h)⟩
  obtain ⟨x0, hx0, HBy0⟩ := HB0.out
  replace HBy0 := hide HBy0
  obtain ⟨k, hk, HPn⟩ := place_ex n 100 (by decide) (by decide)
  obtain ⟨q, hq, HPq⟩ := place_ex how 7 (by decide) (by decide)
  obtain ⟨m, hm⟩ : ∃ m : Nat, 1 + (k : Int) = (m : Int) := ⟨1 + k, by omega⟩
  have hm1 : (1 : Int) ≤ (m : Int) := by omega
  have hm2 : (m : Int) ≤ 100 := by omega
  have hm' := hide hm
  replace HPn := hide HPn
  replace HPq := hide HPq
  replace hks := hide hks
  replace hpath := hide hpath
  replace hsigs := hide hsigs
  replace hlock := hide hlock
  clear hS hbs hok hL hK hsec hsz hsd hdz hK0 hG HB0 hm
  go_enter Try.func3, Try.ntmps3
  go_wp2_with fail
  refine (HR _).mono ?_
  rintro e w1 ⟨v, rfl, hO1, hb1⟩
  have hW1 := hO1.wide hsane
  obtain ⟨cs, rfl, h7⟩ := hW1.seven
  clear hO1 HR hsane
  go_upto_region 2 with ((with_reducible refine wpList_at ?_); refine wpList_varS (by rfl) (by rfl) (by rfl) (.tmp 5) (.tmp 8) (by rfl) cs (by rfl) (by rfl) h7 ?_; intro w2 hv2 hz2 hb2)
  have hW2 := hW1.below hb2
  have hB2 := below_then hb1 hb2
  have hs2 : w.heap.size ≤ w2.heap.size := hB2.size
  clear hb1 hb2 hW1
  obtain ⟨B, hBe⟩ : ∃ B, w2.heap.size = B := ⟨_, rfl⟩
  have hB := hide hBe
  have HSp : Hid (∀ W, Below B w2 W → SpecW W (.agg cs) S) := fun W hW => hW2.below (by rw [hB.out]; exact hW)
  generalize w1.heap.size = g1 at hv2 hz2 ⊢
  clear hBe hz2
  have hRw : Below w2.heap.size w2 w2.drew := ⟨rfl, rfl, rfl, Nat.le_refl _, fun _ _ => rfl⟩
  refine wp_region_held_drew (S := fun W => Below w2.heap.size w2 W) (by kernel_rfl) hRw (fun hHeld => ?_)
  refine wpAnyH_take (i := 0) (oi := { dst := some 9, op := Op.load 27 (Operand.tmp 5), type := 27, pos := "outright.go:33", after := #[], guard := none }) (v := .agg cs) rfl (by kernel_rfl) (by kernel_rfl) (by kernel_rfl) (fun _ _ _ h => h) (yields_loadV (by rfl) (.tmp 5) (by rfl) _ cs (by rfl) h7 (fun W hW => hv2.below hW)) (by assumption) ?_
  try simp only [Act.put, List.setIfInBounds_toArray, List.set_cons_zero, List.set_cons_succ]
  refine wpAnyH_c3a (R := fun W => Below B w2 W) (R' := fun p W => Below B w2 W ∧ ∃ gk, B ≤ gk ∧ p = Value.pointer (some ⟨gk, 0, none⟩) ∧ HvAt W gk Z4) (T := fun u W => Below B w2 W ∧ HkO W B u K0) (T' := fun p u W => Below B w2 W ∧ HkO W B u K0 ∧ ∃ gk, B ≤ gk ∧ p = Value.pointer (some ⟨gk, 0, none⟩) ∧ HvAt W gk Z4) (i1 := 1) (i2 := 2) (i3 := 3) (k := 4) (o1 := { dst := some 10, op := Op.call { callee := Callee.value (Operand.func 8), args := #[Operand.const (Value.int IntKind.i64 0)], argTypes := #[3] }, type := 9, pos := "outright.go:33", after := #[], guard := none }) (o2 := { dst := some 11, op := Op.call { callee := Callee.value (Operand.func 9), args := #[Operand.const (Value.int IntKind.i64 0)], argTypes := #[3] }, type := 9, pos := "outright.go:33", after := #[{ on := 1, ground := Ground.chain }], guard := none }) (o3 := { dst := some 12, op := Op.call { callee := Callee.value (Operand.func 7), args := #[Operand.tmp 9, Operand.const (Value.int IntKind.i64 0), Operand.tmp 10, Operand.tmp 11], argTypes := #[27, 3, 9, 9] }, type := 30, pos := "outright.go:33", after := #[{ on := 0, ground := Ground.data }, { on := 1, ground := Ground.data }, { on := 2, ground := Ground.data }, { on := 2, ground := Ground.chain }], guard := none }) (ok := { dst := some 6, op := Op.alloc 30, type := 0, pos := "outright.go:33", after := #[], guard := none }) (v1 := .string sec) (v2 := .string sd) (by kernel_rfl) (by kernel_rfl) (by kernel_rfl) (by kernel_rfl) (by kernel_rfl) (by kernel_rfl) (by kernel_rfl) rfl rfl rfl rfl rfl rfl rfl rfl rfl rfl rfl rfl rfl rfl (fun _ => rfl) (fun _ => rfl) (fun _ _ => rfl) (hB.out ▸ hRw) (fun W h => hB.out ▸ h) (fun p W h => hB.out ▸ h.1) (fun u W h => hB.out ▸ h.1) (fun p u W h => hB.out ▸ h.1) ?_ ?_ ?_ ?_ ?_ ?_ (gives_allocK rfl rfl (fun W hW W1 hv9 hb => ⟨below_then3 hB.out hW hb, W.heap.size, le_of_below hW hB.out, rfl, hv9⟩)) (fun u => gives_allocK rfl rfl (fun W hW W1 hv9 hb => ⟨below_then3 hB.out hW.1 hb, hW.2.below hb, W.heap.size, le_of_below hW.1 hB.out, rfl, hv9⟩)) ?_
  · intro W hW K hK
    go_simp
    refine (HSec.out W).mono ?_
    rintro e W2 ⟨rfl, hw0⟩
    subst hw0
    go_wp2_with fail
    exact hK.out _ hW
  · intro p W hW K hK
    go_simp
    refine (HSec.out W).mono ?_
    rintro e W2 ⟨rfl, hw0⟩
    subst hw0
    go_wp2_with fail
    exact hK.out _ hW
  · intro W hW K hK
    go_simp
    refine (HSd.out W).mono ?_
    rintro e W2 ⟨rfl, hw0⟩
    subst hw0
    go_wp2_with fail
    exact hK.out _ hW
  · intro p W hW K hK
    go_simp
    refine (HSd.out W).mono ?_
    rintro e W2 ⟨rfl, hw0⟩
    subst hw0
    go_wp2_with fail
    exact hK.out _ hW
  · intro W hW K hK
    go_simp
    refine (HMk.out W _ (HSp.out W hW)).mono ?_
    rintro e W2 ⟨u, rfl, hO, hb⟩
    go_wp2_with fail
    exact hK.out _ _ ⟨below_then3 hB.out hW hb, hO.base (le_of_below hW hB.out)⟩
  · intro p W hW K hK
    obtain ⟨hW1, gk, hgk, rfl, hv9⟩ := hW
    go_simp
    refine (HMk.out W _ (HSp.out W hW1)).mono ?_
    rintro e W2 ⟨u, rfl, hO, hb⟩
    go_wp2_with fail
    exact hK.out _ _ ⟨below_then3 hB.out hW1 hb, hO.base (le_of_below hW1 hB.out), gk, hgk, rfl, hv9.below hb hv9.lt⟩
  intro p4 u4 W9 hT4 hHeld
  clear hRw
  obtain ⟨hB4, hO4, gk, hgk, rfl, hv4⟩ := hT4
  obtain ⟨csk, rfl, hc4, hc41⟩ := hO4.four
  try simp only [Act.put, List.setIfInBounds_toArray, List.set_cons_zero, List.set_cons_succ]
  refine wpAnyH_loneE (T := fun _ W => Below B w2 W ∧ HkO W B (.agg csk) K0 ∧ HvAt W gk csk) (i := 5) (oi := { dst := none, op := Op.store 30 (Operand.tmp 6) (Operand.tmp 12), type := 0, pos := "outright.go:33", after := #[{ on := 4, ground := Ground.data }, { on := 3, ground := Ground.data }, { on := 3, ground := Ground.chain }, { on := 0, ground := Ground.phase }, { on := 1, ground := Ground.phase }, { on := 2, ground := Ground.phase }, { on := 3, ground := Ground.phase }, { on := 4, ground := Ground.phase }], guard := none }) (by kernel_rfl) rfl (fun u W h => hB.out ▸ h.1) ?_ ?_
  · intro K hK
    refine step_storeH _ (by rfl) (.tmp 6) (.tmp 12) (by rfl) gk csk _ (by rfl) (by rfl) hv4 hc4 rfl hc41 ?_
    intro w8 hv8 hbt8
    exact hK.out undef _ ⟨below_but3 hB.out hB4 hbt8 hgk, hO4.but hbt8 hv4, hv8⟩
  intro u5 W9 hu5 hHeld
  clear hB4 hO4 hv4
  obtain ⟨hB5, hO5, hv5⟩ := hu5
  try simp only [Act.put]
  refine wpAnyH_done (by kernel_rfl) ?_ _
  clear hHeld HMk HSp hv2 hW2
  obtain ⟨pa, sa, pc, sc, hcsk⟩ := hO5.cells hks.out
  injection hcsk with hcsk
  subst hcsk
  have hBw : Below w.heap.size w W9 := hB2.trans (hB5.mono (by have := hB.out; omega))
  have hgk5 : w.heap.size ≤ gk := by have := hB.out; omega
  clear hB2
  go_wp2_with ((with_reducible refine wpList_at ?_); refine wpList_loadK (by rfl) (.tmp 6) (by rfl) _ _ (by rfl) hv5 rfl ?_)
  refine (HBy0.out _ _ (hO5.wide hks.out)).mono ?_
  rintro e w6 ⟨rfl, hb6⟩
  have hv6 := hv5.below hb6 hv5.lt
  have hB6 := hBw.trans (hb6.mono hBw.size)
  obtain ⟨hP6, hQ6⟩ := (hO5.below hb6).two
  have hB26 := below_then3 hB.out hB5 hb6
  clear hv5 hBw hb6 HBy0 hO5 hB5
  have hsz6 := hB6.size
  go_wp2_with fail
  refine (HPn.out _).mono ?_
  rintro e w0 ⟨rfl, hw0⟩
  subst w0
  go_wp2_with fail
  rw [hm'.out]
  refine (HPq.out _).mono ?_
  rintro e w0 ⟨rfl, hw0⟩
  subst w0
  clear HPn HPq hm' hk
  have hq7 : q = 0 ∨ q = 1 ∨ q = 2 ∨ q = 3 ∨ q = 4 ∨ q = 5 ∨ q = 6 := by omega
  clear hq
  rcases hq7 with rfl | rfl | rfl | rfl | rfl | rfl | rfl
  · go_wp2_with (first | ((with_reducible refine wpList_at ?_); refine wpList_fieldK (by rfl) 3 (.tmp 32) (.tmp 31) (by rfl) gk 0 (.int .i64 (2 + (m : Int))) _ (hcells pa sa pc sc ⟨2 + (m : Int), K0.secret, K0.path, K0.sigs⟩) (by rfl) (by rfl) rfl sizeInt rfl hv6 rfl (by omega) (by rfl) ?_; intro w8 hv8 hz8 hb8) | ((with_reducible refine wpList_at ?_); refine wpList_loadK (by rfl) (.tmp 6) (by rfl) _ _ (by rfl) hv8 rfl ?_))
    have hV8 : HkV w8 (.agg (hcells pa sa pc sc ⟨2 + (m : Int), K0.secret, K0.path, K0.sigs⟩)) ⟨2 + (m : Int), K0.secret, K0.path, K0.sigs⟩ := HkO.wide (B := B) ⟨_, _, rfl, ownI_but hP6 hb8 hv6, ownS_but hQ6 hb8 hv6⟩ ⟨⟨by show -9223372036854775808 ≤ 2 + (m : Int); omega, by show 2 + (m : Int) ≤ 9223372036854775807; omega⟩, hks.out.secret, hks.out.np, hks.out.pa, hks.out.ns, hks.out.si⟩
    have hnf : ¬ hkFits ⟨2 + (m : Int), K0.secret, K0.path, K0.sigs⟩ := fun h => by have h9 : 0 ≤ 2 + (m : Int) ∧ 2 + (m : Int) < 3 := h.1; omega
    have hB8 := below_but3 rfl hB6 hb8 hgk5
    clear hv6 hP6 hQ6 hB6 hb8
    refine (bytes_none hV8 hnf).mono ?_
    rintro e wU ⟨rfl, hbU⟩
    have hBU := below_then hB8 hbU
    clear hv8 hV8 hnf hB8
    go_wp2_with fail
    refine (awake7_any _).mono ?_
    rintro e wV ⟨rfl, hbV⟩
    go_wp2
    go_ret
    exact ⟨rfl, below_then hBU hbV⟩
  · go_wp2_with (first | ((with_reducible refine wpList_at ?_); refine wpList_fieldK (by rfl) 3 (.tmp 37) (.tmp 36) (by rfl) gk 0 (.int .i64 (-(m : Int))) _ (hcells pa sa pc sc ⟨-(m : Int), K0.secret, K0.path, K0.sigs⟩) (by rfl) (by rfl) rfl sizeInt rfl hv6 rfl (by omega) (by rfl) ?_; intro w8 hv8 hz8 hb8) | ((with_reducible refine wpList_at ?_); refine wpList_loadK (by rfl) (.tmp 6) (by rfl) _ _ (by rfl) hv8 rfl ?_))
    have hV8 : HkV w8 (.agg (hcells pa sa pc sc ⟨-(m : Int), K0.secret, K0.path, K0.sigs⟩)) ⟨-(m : Int), K0.secret, K0.path, K0.sigs⟩ := HkO.wide (B := B) ⟨_, _, rfl, ownI_but hP6 hb8 hv6, ownS_but hQ6 hb8 hv6⟩ ⟨⟨by show -9223372036854775808 ≤ -(m : Int); omega, by show -(m : Int) ≤ 9223372036854775807; omega⟩, hks.out.secret, hks.out.np, hks.out.pa, hks.out.ns, hks.out.si⟩
    have hnf : ¬ hkFits ⟨-(m : Int), K0.secret, K0.path, K0.sigs⟩ := fun h => by have h9 : 0 ≤ -(m : Int) ∧ -(m : Int) < 3 := h.1; omega
    have hB8 := below_but3 rfl hB6 hb8 hgk5
    clear hv6 hP6 hQ6 hB6 hb8
    refine (bytes_none hV8 hnf).mono ?_
    rintro e wU ⟨rfl, hbU⟩
    have hBU := below_then hB8 hbU
    clear hv8 hV8 hnf hB8
    go_wp2_with fail
    refine (awake7_any _).mono ?_
    rintro e wV ⟨rfl, hbV⟩
    go_wp2
    go_ret
    exact ⟨rfl, below_then hBU hbV⟩
  · obtain ⟨z, hz⟩ : ∃ z : Nat, (64 : Int) + (m : Int) = (z : Int) := ⟨64 + m, by omega⟩
    have hz64 : 65 ≤ z ∧ z ≤ 164 := by omega
    have hzp := hide hz
    clear hz
    go_wp2_with (first
      | (at_make; rw [hzp.out]; refine wpList_zeros (by rfl) _ _ (by rfl) w6.heap.size z (by rfl) (by rfl) (by omega) (Nat.le_refl _) ?_; intro v7 w7 hown7 hb7)
      | ((with_reducible refine wpList_at ?_); refine wpList_said (by rfl) (.tmp 42) (by rfl) w6.heap.size _ _ (by rfl) hown7 ?_; have hv7 := hv6.below hb7 hv6.lt)
      | ((with_reducible refine wpList_at ?_); refine wpList_fieldK (by rfl) 9 (.tmp 44) (.tmp 43) (by rfl) gk 1 (.string ⟨(List.replicate z 0).toArray⟩) _ (hcells pa sa pc sc ⟨K0.lock, ⟨(List.replicate z 0).toArray⟩, K0.path, K0.sigs⟩) (by rfl) (by rfl) rfl sizeStr rfl hv7 rfl (by omega) (by rfl) ?_; intro w8 hv8 hz8 hb8)
      | ((with_reducible refine wpList_at ?_); refine wpList_loadK (by rfl) (.tmp 6) (by rfl) _ _ (by rfl) hv8 rfl ?_))
    have hP7 := own_belowK hP6 hb7
    have hQ7 := own_belowK hQ6 hb7
    have hV8 : HkV w8 (.agg (hcells pa sa pc sc ⟨K0.lock, ⟨(List.replicate z 0).toArray⟩, K0.path, K0.sigs⟩)) ⟨K0.lock, ⟨(List.replicate z 0).toArray⟩, K0.path, K0.sigs⟩ := HkO.wide (B := B) ⟨_, _, rfl, ownI_but hP7 hb8 hv7, ownS_but hQ7 hb8 hv7⟩ ⟨hks.out.lock, by show ByteArray.size ⟨(List.replicate z 0).toArray⟩ ≤ 1000; rw [mk_size, List.length_replicate]; omega, hks.out.np, hks.out.pa, hks.out.ns, hks.out.si⟩
    have hnf : ¬ hkFits ⟨K0.lock, ⟨(List.replicate z 0).toArray⟩, K0.path, K0.sigs⟩ := fun h => by have h9 : ByteArray.size ⟨(List.replicate z 0).toArray⟩ ≤ 64 := h.2.1; rw [mk_size, List.length_replicate] at h9; omega
    have hB7 := below_then hB6 hb7
    have hB8 := below_but3 rfl hB7 hb8 hgk5
    clear hv6 hP6 hQ6 hB6 hb8 hP7 hQ7 hB7 hb7 hown7 hv7
    refine (bytes_none hV8 hnf).mono ?_
    rintro e wU ⟨rfl, hbU⟩
    have hBU := below_then hB8 hbU
    clear hv8 hV8 hnf hB8
    go_wp2_with fail
    refine (awake7_any _).mono ?_
    rintro e wV ⟨rfl, hbV⟩
    go_wp2
    go_ret
    exact ⟨rfl, below_then hBU hbV⟩
  · go_wp2_with (first | ((with_reducible refine wpList_at ?_); refine wpList_fieldK (by rfl) 24 (.tmp 47) _ (by rfl) gk 2 (.slice none 0 0) _ (hcells none sa 0 sc ⟨K0.lock, K0.secret, [], K0.sigs⟩) (by rfl) (by rfl) rfl sizeInts rfl hv6 rfl (by omega) (by rfl) ?_; intro w8 hv8 hz8 hb8) | ((with_reducible refine wpList_at ?_); refine wpList_loadK (by rfl) (.tmp 6) (by rfl) _ _ (by rfl) hv8 rfl ?_))
    have hV8 : HkV w8 (.agg (hcells none sa 0 sc ⟨K0.lock, K0.secret, [], K0.sigs⟩)) ⟨K0.lock, K0.secret, [], K0.sigs⟩ := HkO.wide (B := B) ⟨_, _, rfl, World.ownsRow_nil _ _ _ _, ownS_but hQ6 hb8 hv6⟩ ⟨hks.out.lock, hks.out.secret, by show 0 ≤ 1000; omega, fun j hj => absurd hj (by show ¬ j < 0; omega), hks.out.ns, hks.out.si⟩
    have hnf : ¬ hkFits ⟨K0.lock, K0.secret, [], K0.sigs⟩ := fun h => by have h9 : 0 < 0 := h.2.2.1; omega
    have hB8 := below_but3 rfl hB6 hb8 hgk5
    clear hv6 hP6 hQ6 hB6 hb8
    refine (bytes_none hV8 hnf).mono ?_
    rintro e wU ⟨rfl, hbU⟩
    have hBU := below_then hB8 hbU
    clear hv8 hV8 hnf hB8
    go_wp2_with fail
    refine (awake7_any _).mono ?_
    rintro e wV ⟨rfl, hbV⟩
    go_wp2
    go_ret
    exact ⟨rfl, below_then hBU hbV⟩
  · have hv7 : ∀ o, HvAt (w6.alloc o) gk (hcells pa sa pc sc K0) := fun o => hv6.below ((Below.refl _ _).alloc (Nat.le_refl _) _) hv6.lt
    obtain ⟨h6, hh6⟩ : ∃ z, w6.heap.size = z := ⟨_, rfl⟩
    have hh := hide hh6
    go_wp2_with (first | ((with_reducible refine wpList_at ?_); refine wpList_fieldK (by rfl) 24 (.tmp 53) (.tmp 52) (by rfl) gk 2 (.slice (some ⟨h6, 0, none⟩) 1 1) _ (hcells (some ⟨h6, 0, none⟩) sa 1 sc ⟨K0.lock, K0.secret, [(5 : Int) + (m : Int)], K0.sigs⟩) (by rfl) (by rfl) rfl sizeInts rfl (hv7 _) rfl (by omega) (by rfl) ?_; intro w8 hv8 hz8 hb8) | ((with_reducible refine wpList_at ?_); refine wpList_loadK (by rfl) (.tmp 6) (by rfl) _ _ (by rfl) hv8 rfl ?_))
    clear hh6
    have hal : Below w6.heap.size w6 (w6.alloc (.cells #[.int .i64 (5 + (m : Int))] 3)) := (Below.refl _ _).alloc (Nat.le_refl _) _
    have hN : OwnI (w6.alloc (.cells #[.int .i64 (5 + (m : Int))] 3)) B (.slice (some ⟨h6, 0, none⟩) 1 1) [(5 : Int) + (m : Int)] := by
      rw [← hh.out]
      exact base_rowK (row_fresh (w := w6) #[.int .i64 (5 + (m : Int))] 1 1 rfl (by unfold maxLen; omega) (Nat.le_refl _)) (by have := hB26.size; have := hB.out; omega)
    have hV8 : HkV w8 (.agg (hcells (some ⟨h6, 0, none⟩) sa 1 sc ⟨K0.lock, K0.secret, [(5 : Int) + (m : Int)], K0.sigs⟩)) ⟨K0.lock, K0.secret, [(5 : Int) + (m : Int)], K0.sigs⟩ := HkO.wide (B := B) ⟨_, _, rfl, ownI_but hN hb8 (hv7 _), ownS_but (own_belowK hQ6 hal) hb8 (hv7 _)⟩ ⟨hks.out.lock, hks.out.secret, by show 1 ≤ 1000; omega, fun j hj => by have h9 : j < 1 := hj; obtain rfl : j = 0 := (by omega); exact ⟨by show -9223372036854775808 ≤ (5 : Int) + (m : Int); omega, by show (5 : Int) + (m : Int) ≤ 9223372036854775807; omega⟩, hks.out.ns, hks.out.si⟩
    have hnf : ¬ hkFits ⟨K0.lock, K0.secret, [(5 : Int) + (m : Int)], K0.sigs⟩ := fun h => by have h9 := h.2.2.2.2.2.1 0 (by show 0 < 1; omega); have h10 : (5 : Int) + (m : Int) < 6 := h9.2; omega
    have hB8 := below_but3 rfl (below_then hB6 hal) hb8 hgk5
    clear hv6 hP6 hQ6 hB6 hb8 hv7 hal hN
    refine (bytes_none hV8 hnf).mono ?_
    rintro e wU ⟨rfl, hbU⟩
    have hBU := below_then hB8 hbU
    clear hv8 hV8 hnf hB8
    go_wp2_with fail
    refine (awake7_any _).mono ?_
    rintro e wV ⟨rfl, hbV⟩
    go_wp2
    go_ret
    exact ⟨rfl, below_then hBU hbV⟩
  · obtain ⟨Bx, hBx⟩ : ∃ z, w6.heap.size = z := ⟨_, rfl⟩
    obtain ⟨x, hx, hxs⟩ := hsigs.out
    have L6 : HkL w6 pa sa pc sc K0 := HkO.lies (B := B) ⟨_, _, rfl, hP6, hQ6⟩ hks.out
    obtain ⟨b1, o1, ha1, _⟩ := L6.sigs.2.2.2 0 (by rw [hxs]; exact Nat.zero_lt_one)
    obtain ⟨ad, had⟩ : ∃ ad, sa = some ad := ⟨_, ha1⟩
    subst had
    have c6' := (hcells_at hv6).2.2.2
    have hn6 := L6.sigs.news
    have hn7 : Hid (∀ W, Below Bx w6 W → Strs W (some ad) K0.sigs.length K0.sigs) := fun W hW => L6.sigs.below (by rw [hBx]; exact hW)
    have hQ7 : Hid (∀ W, Below Bx w6 W → OwnS W B (.slice (some ad) K0.sigs.length sc) K0.sigs) := fun W hW => own_belowK hQ6 (by rw [hBx]; exact hW)
    have hP7 : Hid (∀ W, Below Bx w6 W → OwnI W B (.slice pa K0.path.length pc) K0.path) := fun W hW => own_belowK hP6 (by rw [hBx]; exact hW)
    have hns2 : K0.sigs.length = 1 := by rw [hxs]; rfl
    obtain ⟨ns, hns⟩ : ∃ n, K0.sigs.length = n := ⟨_, rfl⟩
    rw [hns] at c6' hn6 hn7 hQ7 hns2
    have hgkB : gk < Bx := by have := hv6.lt; omega
    have c6 : w6.drew.cell? ⟨gk, 3, none⟩ = some (.slice (some ad) ns sc) := c6'
    have f6 : w6.drew.frozen? ⟨gk, 3, none⟩ = false := frozen_of_row w6 gk 3 _ _ hv6
    have hn6d : (∀ j u, (K0.sigs.map Value.string)[j]? = some u → w6.drew.cell? (ad.add j) = some u) ∧ (K0.sigs.map Value.string).length = ns * 1 ∧ ∀ u ∈ K0.sigs.map Value.string, u.oneCell' = true := hn6
    have hz6 : Bx ≤ w6.drew.heap.size := by show Bx ≤ w6.heap.size; omega
    have hb6d : Below Bx w6 w6.drew := ⟨rfl, rfl, rfl, Nat.le_refl _, fun _ _ => rfl⟩
    have hns' := hide hns
    have hns2' : ns ≤ 10 := by omega
    replace hn6d := hide hn6d
    replace hxs := hide hxs
    replace hns2 := hide hns2
    replace hBx := hide hBx
    replace hb6d := hide hb6d
    clear L6 ha1 hn6 c6' hns
    go_upto_region 19 with fail
    go_region_law (first
      | (refine step_appR (st := 25) Try.underlying25 Try.info9 rfl (by decide) (by decide) w6.drew (by rfl) _ (.tmp 57) (by rfl) Bx _ 0 [] (by rfl) (World.ownsRow_nil _ _ _ _) ad ns sc (K0.sigs.map Value.string) (by rfl) hn6d.out.2.1 hn6d.out.1 hn6d.out.2.2 (by omega) hz6 ?_; intro v7 w7 hown7 hg7; rw [Nat.zero_add, List.nil_append] at hown7; obtain ⟨va7, vc7, rfl⟩ := row_slice hown7; have hb67 := hb6d.out.grown hg7 hz6 (fun j hj => by cases hj); have hne7 : some gk ≠ Value.ownBlock (.slice none 0 0) := (fun e => by cases e); have c7 := hg7.cell c6 hne7; have f7 := grown_frozen hg7 hne7 c6 f6; have hz7 : Bx ≤ w7.heap.size := Nat.le_trans hz6 hg7.size; have hn7d := (hns'.out ▸ (hn7.out _ hb67) : Strs w7 (some ad) K0.sigs.length K0.sigs).news; rw [hns'.out] at hn7d; replace hn7d := hide hn7d; have hown7p := hide hown7; clear hown7)
      | (refine step_appR (st := 25) Try.underlying25 Try.info9 rfl (by decide) (by decide) w7 (by rfl) (.tmp 58) (.tmp 60) (by rfl) Bx _ ns (K0.sigs.map Value.string) (by rfl) hown7p.out ad ns sc (K0.sigs.map Value.string) (by rfl) hn7d.out.2.1 hn7d.out.1 hn7d.out.2.2 (by omega) hz7 ?_; intro v8 w9 hown8 hg8; obtain ⟨va8, vc8, rfl⟩ := row_slice hown8; have hb69 := hb67.grown hg8 hz7 (fun j hj => (World.ownsRow.lt hown7p.out j hj).1); have hne8 : some gk ≠ Value.ownBlock (.slice va7 ns vc7) := (fun e => by have := (World.ownsRow.lt hown7p.out gk e.symm).1; omega); have c8 := hg8.cell c7 hne8; have f8 := grown_frozen hg8 hne8 c7 f7))
    all_goals
      have hv9 := hv6.below hb69 hgkB
      have hset := But.setCell w9 gk 3 (.slice va8 (ns + ns) vc8)
      have hvS : HvAt (w9.setCell ⟨gk, 3, none⟩ (.slice va8 (ns + ns) vc8)) gk #[.int .i64 K0.lock, .string K0.secret, .slice pa K0.path.length pc, .slice va8 (ns + ns) vc8] := by
        unfold HvAt at *
        rw [setCell_eq_setRow w9 gk 3 _ _ (0, 0) _ hv9, setRow_heap w9 gk _ _ _ (0, 0) hv9]; rfl
      have hlen : (K0.sigs ++ K0.sigs).length = ns + ns := by rw [List.length_append, hns'.out]
      have hS8 : OwnS w9 B (.slice va8 (ns + ns) vc8) (K0.sigs ++ K0.sigs) := by
        unfold OwnS
        rw [hlen, List.map_append]
        exact base_rowK hown8 (by have := hBx.out; have := hB26.size; have := hB.out; omega)
      have hV8 : HkV (w9.setCell ⟨gk, 3, none⟩ (.slice va8 (ns + ns) vc8)) (.agg #[.int .i64 K0.lock, .string K0.secret, .slice pa K0.path.length pc, .slice va8 (ns + ns) vc8]) ⟨K0.lock, K0.secret, K0.path, K0.sigs ++ K0.sigs⟩ := HkO.wide (B := B) ⟨_, _, rfl, ownI_but (hP7.out _ hb69) hset hv9, ownS_but hS8 hset hv9⟩ ⟨hks.out.lock, hks.out.secret, hks.out.np, hks.out.pa, by rw [hlen]; omega, fun j hj => by
        have h9 : j < ns + ns := by rw [← hlen]; exact hj
        have h8 := hks.out.si 0 (by rw [hns'.out]; have := hns2.out; omega)
        have h7 : j = 0 ∨ j = 1 := by have := hns2.out; omega
        rw [hxs.out] at h8 ⊢
        rcases h7 with rfl | rfl <;> exact h8⟩
      have hnf : ¬ hkFits ⟨K0.lock, K0.secret, K0.path, K0.sigs ++ K0.sigs⟩ := fun h => by have h9 : (K0.sigs ++ K0.sigs).length = K0.path.length := h.2.2.2.2.1; rw [hlen, hns2.out, hpath.out] at h9; exact absurd h9 (by decide)
      have hB8 := below_but3 rfl (hB6.trans ((hBx.out ▸ hb69 : Below w6.heap.size w6 w9).mono hsz6)) hset hgk5
      generalize (w9.setCell ⟨gk, 3, none⟩ (.slice va8 (ns + ns) vc8)) = w8 at hvS hV8 hB8 ⊢
      clear hv6 hP6 hQ6 hB6 hset hS8 hown8 hg8 hv9 c6 c7 c8 f6 f7 f8 hown7p hn6d hn7 hQ7 hP7
      go_wp2_with ((with_reducible refine wpList_at ?_); refine wpList_loadK (by rfl) (.tmp 6) (by rfl) _ _ (by rfl) hvS rfl ?_)
      refine (bytes_none hV8 hnf).mono ?_
      rintro e wU ⟨rfl, hbU⟩
      have hBU := below_then hB8 hbU
      clear hvS hV8 hnf hB8
      go_wp2_with fail
      refine (awake7_any _).mono ?_
      rintro e wV ⟨rfl, hbV⟩
      go_wp2
      go_ret
      exact ⟨rfl, below_then hBU hbV⟩
  · obtain ⟨z, hz⟩ : ∃ z : Nat, (512 : Int) + (m : Int) = (z : Int) := ⟨512 + m, by omega⟩
    have hz64 : 513 ≤ z ∧ z ≤ 612 := by omega
    have hzp := hide hz
    clear hz
    go_wp2_with (first
      | (at_make; rw [hzp.out]; refine wpList_zeros (by rfl) _ _ (by rfl) w6.heap.size z (by rfl) (by rfl) (by omega) (Nat.le_refl _) ?_; intro v7 w7 hown7 hb7)
      | ((with_reducible refine wpList_at ?_); refine wpList_said (by rfl) (.tmp 24) (by rfl) w6.heap.size _ _ (by rfl) hown7 ?_; refine Hid.out ?_))
    unfold Hid
    have hv67 := hv6.below hb7 hv6.lt
    have hv7 : ∀ o, HvAt (w7.alloc o) gk (hcells pa sa pc sc K0) := fun o => hv67.below ((Below.refl _ _).alloc (Nat.le_refl _) _) hv67.lt
    have hP7 := own_belowK hP6 hb7
    have hQ7 := own_belowK hQ6 hb7
    have hB7 := below_then hB6 hb7
    have hB27 := below_then3 hB.out hB26 hb7
    obtain ⟨h6, hh6⟩ : ∃ z, w7.heap.size = z := ⟨_, rfl⟩
    have hh := hide hh6
    go_wp2_with (first | ((with_reducible refine wpList_at ?_); refine wpList_fieldK (by rfl) 25 (.tmp 27) (.tmp 26) (by rfl) gk 3 (.slice (some ⟨h6, 0, none⟩) 1 1) _ (hcells pa (some ⟨h6, 0, none⟩) pc 1 ⟨K0.lock, K0.secret, K0.path, [⟨(List.replicate z 0).toArray⟩]⟩) (by rfl) (by rfl) rfl sizeStrs rfl (hv7 _) rfl (by omega) (by rfl) ?_; intro w8 hv8 hz8 hb8) | ((with_reducible refine wpList_at ?_); refine wpList_loadK (by rfl) (.tmp 6) (by rfl) _ _ (by rfl) hv8 rfl ?_))
    clear hh6
    have hal : Below w7.heap.size w7 (w7.alloc (.cells #[.string ⟨(List.replicate z 0).toArray⟩] 9)) := (Below.refl _ _).alloc (Nat.le_refl _) _
    have hN : OwnS (w7.alloc (.cells #[.string ⟨(List.replicate z 0).toArray⟩] 9)) B (.slice (some ⟨h6, 0, none⟩) 1 1) [⟨(List.replicate z 0).toArray⟩] := by
      rw [← hh.out]
      exact base_rowK (row_fresh (w := w7) #[.string ⟨(List.replicate z 0).toArray⟩] 1 1 rfl (by unfold maxLen; omega) (Nat.le_refl _)) (by have := hB27.size; have := hB.out; omega)
    have hV8 : HkV w8 (.agg (hcells pa (some ⟨h6, 0, none⟩) pc 1 ⟨K0.lock, K0.secret, K0.path, [⟨(List.replicate z 0).toArray⟩]⟩)) ⟨K0.lock, K0.secret, K0.path, [⟨(List.replicate z 0).toArray⟩]⟩ := HkO.wide (B := B) ⟨_, _, rfl, ownI_but (own_belowK hP7 hal) hb8 (hv7 _), ownS_but hN hb8 (hv7 _)⟩ ⟨hks.out.lock, hks.out.secret, hks.out.np, hks.out.pa, by show 1 ≤ 1000; omega, fun j hj => by have h9 : j < 1 := hj; obtain rfl : j = 0 := (by omega); show ByteArray.size ⟨(List.replicate z 0).toArray⟩ ≤ 1000; rw [mk_size, List.length_replicate]; omega⟩
    have hnf : ¬ hkFits ⟨K0.lock, K0.secret, K0.path, [⟨(List.replicate z 0).toArray⟩]⟩ := fun h => by have h9 : ByteArray.size ⟨(List.replicate z 0).toArray⟩ = 512 := h.2.2.2.2.2.2 0 (by show 0 < 1; omega); rw [mk_size, List.length_replicate] at h9; omega
    have hB8 := below_but3 rfl (below_then hB7 hal) hb8 hgk5
    clear hv6 hP6 hQ6 hB6 hb8 hv7 hal hN hP7 hQ7 hB7 hB27 hv67 hb7 hown7
    refine (bytes_none hV8 hnf).mono ?_
    rintro e wU ⟨rfl, hbU⟩
    have hBU := below_then hB8 hbU
    clear hv8 hV8 hnf hB8
    go_wp2_with fail
    refine (awake7_any _).mono ?_
    rintro e wV ⟨rfl, hbV⟩
    go_wp2
    go_ret
    exact ⟨rfl, below_then hBU hbV⟩

end Go.Proofs.Ytccaaaifhiigcaa
