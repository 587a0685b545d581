/-
  The walk of SpecBack.
-/
import Derived.Test.YtpngohaheobkgaaZ49
import Derived.Test.YtpngohaheobkgaaSpecV
import Derived.Test.YtpngohaheobkgaaZ44
import Derived.Test.YtpngohaheobkgaaSpRead2
import Derived.Test.YtpngohaheobkgaaZ20
import Derived.Test.YtpngohaheobkgaaZ24
import Derived.Deep.RegionWith
import Derived.Deep.RegionHeld3
import Derived.Deep.CutRange
namespace Go.Proofs.Ytpngohaheobkgaa
open Go.RowKit
attribute [local go_sem ↓] Go.wp_at_zero Go.wp_at_succ

theorem turned8 (a b : Nat) (ha : a < 256) (hb : b < 256) : bits .xor .u8 (a : Int) (b : Int) = ((UInt8.ofNat (a ^^^ b)).toNat : Int) := by
  have := Nat.xor_lt_two_pow (n := 8) ha hb
  rw [u8_xor_nat a b ha hb, UInt8.toNat_ofNat']; omega

set_option maxRecDepth 10000 in
set_option maxHeartbeats 4000000 in
theorem back_any (a0 a1 a2 : Int) (_h0 : (Lit.int .i64 a0).wf = true) (_h1 : (Lit.int .i64 a1).wf = true) (_h2 : (Lit.int .i64 a2).wf = true) (w : World) : Calls Try.prog 6 #[.int .i64 a0, .int .i64 a1, .int .i64 a2] w fun e w' => e = .returned (.bool true) ∧ Below w.heap.size w w' := by
  obtain ⟨S, hNum, HR⟩ := spec_num a0
  have hok := hNum.ok
  obtain ⟨z0, z1⟩ := spec_range S hok
  have hsane := SaneS.of_ok hok
  clear hNum _h0 _h1 _h2
  obtain ⟨x, hx⟩ : ∃ x : ByteArray, x = ⟨(specB S).toArray⟩ := ⟨_, rfl⟩
  have hxd : x.data.toList = specB S := by rw [hx]
  have hxs : x.size = (specB S).length := by rw [hx, mk_size]
  rw [← hxs] at z0 z1
  obtain ⟨i, hi, HPa⟩ := place_ex a1 (x.size : Int) (by omega) (by omega)
  obtain ⟨r, hr, HPb⟩ := place_ex a2 255 (by omega) (by omega)
  have hix : i < x.size := by omega
  have HD : ∀ W, Calls Try.prog 25 #[.string x] W fun e w' => ∃ v, e = .returned (.tuple #[v, .int .i64 0]) ∧ SpecW w' v S ∧ Below W.heap.size W w' := fun W => by rw [hx]; exact back_read hok (by omega) W
  have HY : ∀ W v, SpecW W v S → Calls Try.prog 21 #[v] W fun e w' => e = .returned (.string x) ∧ Below W.heap.size W w' := fun W v hv => by rw [hx]; exact bytes_yes hv hok
  have HC : ∀ W v, SpecW W v S → Calls Try.prog 24 #[v] W fun e w' => e = .returned (.bool true) ∧ Below W.heap.size W w' := fun W v hv => by have h9 := check_spec hv; rw [told_yes hok] at h9; exact h9
  have HCut : ∀ W, Calls Try.prog 25 #[.string (x.extract 0 i)] W fun e w' => ∃ v, e = .returned (.tuple #[v, .int .i64 2]) ∧ SpecW w' v noSpec ∧ Below W.heap.size W w' := fun W => by
    have h8 : ¬ acc (x.extract 0 i).data.toList := by
      rw [extract_list, hxd, List.drop_zero, Nat.sub_zero]
      exact cut_bad S hok i (by omega)
    have h9 := read_any (x.extract 0 i) (by rw [ByteArray.size_extract]; omega) W false (told_no h8)
    exact h9
  have HSame : ∀ W u v M, SpecW W u M → SpecW W v M → Calls Try.prog 26 #[u, v] W fun e w' => e = .returned (.bool true) ∧ Below W.heap.size W w' := fun W u v M hu hv => by have h9 := refsame_any hu.toV hv.toV; rw [told_yes rfl] at h9; exact h9
  have hlen : ¬ (x.size : Int) < 100 := by omega
  clear hok hx hxs
  replace HR := hide HR
  replace HD := hide HD
  replace HY := hide HY
  replace HC := hide HC
  replace HCut := hide HCut
  replace HSame := hide HSame
  replace HPa := hide HPa
  replace HPb := hide HPb
  replace hxd := hide hxd
  go_enter Try.func6, Try.ntmps6
  go_wp2_with fail
  refine (HR.out _).mono ?_
  rintro e w1 ⟨v, rfl, hO1, hb1⟩
  have hW1 := hO1.wide hsane
  obtain ⟨cs, rfl, h7⟩ := hW1.seven
  clear hO1 HR
  go_wp2_with (first
    | ((with_reducible refine wpList_at ?_); refine wpList_varS (by rfl) (by rfl) (by rfl) (.tmp 7) (.tmp 19) (by rfl) cs (by rfl) (by rfl) h7 ?_; intro w2 hv2 hz2 hb2)
    | ((with_reducible refine wpList_at ?_); refine wpList_loadV (by rfl) (.tmp 7) (by rfl) _ cs (by rfl) hv2 h7 ?_))
  have hW2 := hW1.below hb2
  have hB2 := below_then hb1 hb2
  generalize w1.heap.size = g1 at hv2 hz2 ⊢
  refine (HY.out _ _ hW2).mono ?_
  rintro e w3 ⟨rfl, hb3⟩
  have hB3 := below_then hB2 hb3
  go_wp2_with fail
  refine (HD.out _).mono ?_
  rintro e w4 ⟨v2, rfl, hX4, hb4⟩
  have hB4 := below_then hB3 hb4
  have hW4 := (hW2.below hb3).below hb4
  have hv4 := (hv2.below hb3).below hb4
  obtain ⟨cs2, rfl, h72⟩ := hX4.seven
  clear hW2 hv2 hz2 HD HY hb1 hb2 hb3 hb4 hB2 hB3 hW1
  go_wp2_with (first
    | ((with_reducible refine wpList_at ?_); refine wpList_varS (by rfl) (by rfl) (by rfl) (.tmp 9) (.tmp 25) (by rfl) cs2 (by rfl) (by rfl) h72 ?_; intro w5 hv5 hz5 hb5; have hu5 := hv4.below hb5)
    | ((with_reducible refine wpList_at ?_); refine wpList_loadV (by rfl) (.tmp 7) (by rfl) _ cs (by rfl) hu5 h7 ?_))
  have hB5 := below_then hB4 hb5
  have hW5 := hW4.below hb5
  have hX5 := hX4.below hb5
  clear hW4 hX4 hv4 hB4
  generalize w4.heap.size = g2 at hv5 hz5 ⊢
  refine (HC.out _ _ hW5).mono ?_
  rintro e w6 ⟨rfl, hb6⟩
  have hB6 := below_then hB5 hb6
  have hW6 := hW5.below hb6
  have hX6 := hX5.below hb6
  have hu6 := hu5.below hb6
  have hv6 := hv5.below hb6
  clear hW5 hX5 hu5 hv5 hB5 hb5 hb6 HC hz5
  go_wp2_with (first
    | ((with_reducible refine wpList_at ?_); refine wpList_loadV (by rfl) (.tmp 7) (by rfl) _ cs (by rfl) hu6 h7 ?_)
    | ((with_reducible refine wpList_at ?_); refine wpList_loadV (by rfl) (.tmp 9) (by rfl) _ cs2 (by rfl) hv6 h72 ?_))
  refine (HSame.out _ _ _ _ hW6 hX6).mono ?_
  rintro e w7 ⟨rfl, hb7⟩
  have hB7 := below_then hB6 hb7
  clear hW6 hX6 hu6 hv6 hB6 hb7
  go_wp2_with (refine wpList_bytes (by rfl) (.tmp 45) (by rfl) x (by rfl) ?_; intro v8 w8 hold8 hb8; rw [hxd.out] at hold8; refine Hid.out ?_)
  unfold Hid
  have hlS : (specB S).length = x.size := by rw [← hxd.out, len_list]
  obtain ⟨g, c, rfl, hgB, hby⟩ := ByteW.of_hold hold8 (by omega)
  have hB8 := below_then hB7 hb8
  have hgw : w.heap.size ≤ g := by have := hB7.size; omega
  rw [hlS]
  obtain ⟨L, hL⟩ : ∃ L, specB S = L := ⟨_, rfl⟩
  rw [hL] at hby hlS
  clear hold8 hb8 hgB hB7
  have hil : i < L.length := by omega
  have ci := hby.get i hil
  have fi := hby.2.2 i hil
  have hx8 := L[i].toNat_lt
  obtain ⟨y, hy⟩ : ∃ y, y = L[i].toNat := ⟨_, rfl⟩
  rw [← hy] at ci hx8
  clear hy
  replace hby := hide hby
  replace hlS := hide hlS
  replace hL := hide hL
  replace hil := hide hil
  have hir : i < x.size := hix
  have i0 : (0 : Int) ≤ (i : Int) := by omega
  have ix : (i : Int) < (x.size : Int) := by omega
  replace hix := hide hix
  go_wp2_with fail
  go_cut [] from 47 to 59 (fun wx => ∃ b : UInt8, ByteW wx g (L.set i b) ∧ Below w.heap.size w wx)
  case first =>
    go_region_with (first
      | (go_at_call 22; with_reducible refine (HPa.out _).mono ?_; rintro e w9 ⟨rfl, hw9⟩; subst w9)
      | (go_at_call 22; with_reducible refine (HPb.out _).mono ?_; rintro e w9 ⟨rfl, hw9⟩; subst w9))
    all_goals
      go_wp2_with fail
      go_meet
      case rel =>
        have hw : IntKind.u8.wrap (IntKind.i64.wrap (1 + (r : Int))) = ((1 + r : Nat) : Int) := by rw [IntWalk.i64_in _ (by omega), IntKind.wrap_u8]; omega
        rw [hw]
        exact ⟨_, hby.out.set i hil.out _ _ (turned8 y (1 + r) hx8 (by omega)), (hB8.setCell hgw _).drew⟩
  case rest =>
    obtain ⟨b, hbW, hB⟩ := hcut
    clear hB8 ci fi hby hx8
    obtain ⟨t, ht⟩ : ∃ t : ByteArray, t = ⟨(L.set i b).toArray⟩ := ⟨_, rfl⟩
    have hl2 : (L.set i b).length = x.size := by rw [List.length_set]; exact hlS.out
    have hts : t.size ≤ 3000 := by rw [ht, mk_size, hl2]; exact z1
    obtain ⟨M, kk, HRa, HRb⟩ := reads_letter refread_any t hts
    have HRUN : Hid (∀ w', ByteW w' g (L.set i b) → (convert 48 9 (.slice (some ⟨g, 0, none⟩) x.size c)).run Try.prog w' = .ok (.string t) w') := by
      exact (show ∀ w', _ → _ by intro w' h; rw [ht, ← hl2]; exact h.run c)
    clear ht hl2
    generalize L.set i b = L2 at hbW HRUN
    replace HRa := hide HRa
    replace HRb := hide HRb
    have run1 := HRUN.out _ hbW
    go_wp2_with fail
    refine (HRa.out _).mono ?_
    rintro e w10 ⟨u1, rfl, hM1, hb10⟩
    obtain ⟨c1, rfl, h71⟩ := hM1.seven
    have hW10 := hbW.below hb10
    have hB10 := below_then hB hb10
    clear run1 hbW hB hb10 HRa
    go_wp2_with (first
      | ((with_reducible refine wpList_at ?_); refine wpList_varS (by rfl) (by rfl) (by rfl) (.tmp 12) (.tmp 64) (by rfl) c1 (by rfl) (by rfl) h71 ?_; intro w11 hv11 hz11 hb11; have run2 := HRUN.out _ (hW10.below hb11)))
    have hB11 := below_then hB10 hb11
    have hW11 := hW10.below hb11
    have hM11 := hM1.below hb11
    generalize w10.heap.size = g3 at hv11 hz11 ⊢
    clear hM1 hW10 hB10 hb11 hz11
    refine (HRb.out _).mono ?_
    rintro e w12 ⟨u2, rfl, hM2, hb12⟩
    obtain ⟨c2, rfl, h72'⟩ := hM2.seven
    have hB12 := below_then hB11 hb12
    have hM12 := hM11.below hb12
    have hv12 := hv11.below hb12
    clear run2 hB11 hM11 hv11 HRb hW11 hb12
    go_wp2_with (first
      | ((with_reducible refine wpList_at ?_); refine wpList_varS (by rfl) (by rfl) (by rfl) (.tmp 14) (.tmp 70) (by rfl) c2 (by rfl) (by rfl) h72' ?_; intro w13 hv13 hz13 hb13))
    have hB13 := below_then hB12 hb13
    have hM13 := hM12.below hb13
    have hN13 := hM2.below hb13
    have hu13 := hv12.below hb13
    generalize w12.heap.size = g4 at hv13 hz13 ⊢
    clear hB12 hM12 hM2 hv12 hb13 hz13
    refine (HPa.out _).mono ?_
    rintro e w0 ⟨rfl, hw0⟩
    subst w0
    go_wp2_with fail
    refine (HCut.out _).mono ?_
    rintro e w14 ⟨u3, rfl, hM3, hb14⟩
    obtain ⟨c3, rfl, h73⟩ := hM3.seven
    have hB14 := below_then hB13 hb14
    have hM14 := hM13.below hb14
    have hN14 := hN13.below hb14
    have hu14 := hu13.below hb14
    have hv14 := hv13.below hb14
    clear hB13 hM13 hN13 hu13 hv13 hb14 HCut HPa HPb hM3
    go_wp2_with (first
      | ((with_reducible refine wpList_at ?_); refine wpList_varS (by rfl) (by rfl) (by rfl) (.tmp 16) (.tmp 80) (by rfl) c3 (by rfl) (by rfl) h73 ?_; intro w15 hv15 hz15 hb15; have hu15 := hu14.below hb15; have hw15 := hv14.below hb15)
      | ((with_reducible refine wpList_at ?_); refine wpList_loadV (by rfl) (.tmp 12) (by rfl) _ c1 (by rfl) hu15 h71 ?_)
      | ((with_reducible refine wpList_at ?_); refine wpList_loadV (by rfl) (.tmp 14) (by rfl) _ c2 (by rfl) hw15 h72' ?_))
    have hB15 := below_then hB14 hb15
    refine (HSame.out _ _ _ _ (hM14.below hb15) (hN14.below hb15)).mono ?_
    rintro e w16 ⟨rfl, hb16⟩
    have hB16 := below_then hB15 hb16
    clear hu14 hv14 hM14 hN14 hB14 hB15 hb15 hb16 hv15 hu15 hw15 hz15 HSame
    go_wp2_with fail
    refine (awake4_any _).mono ?_
    rintro e w17 ⟨rfl, hb17⟩
    have hB17 := below_then hB16 hb17
    go_wp2
    go_ret
    exact ⟨rfl, hB17⟩

end Go.Proofs.Ytpngohaheobkgaa
