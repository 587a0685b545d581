/-
  The program's sameParty, slices.EqualFunc at parties, Same.
-/
import Derived.Test.YtpngohaheobkgaaSpSa
import Derived.Test.YtpngohaheobkgaaZ31
import Derived.Test.YtpngohaheobkgaaSpOwnC
namespace Go.Proofs.Ytpngohaheobkgaa
open Go.RowKit

theorem party_same {p q : PartyM} (h1 : p.acc = q.acc) (h2 : p.keys = q.keys) : p = q := by cases p; cases q; simp_all
theorem spec_same {s t : SpecM} (h1 : s.id = t.id) (h2 : s.parties = t.parties) (h3 : s.arcs = t.arcs) (h4 : s.leaders = t.leaders) (h5 : s.locks = t.locks) (h6 : s.start = t.start) (h7 : s.delta = t.delta) : s = t := by cases s; cases t; simp_all

set_option maxRecDepth 10000 in
set_option maxHeartbeats 1000000 in
theorem sameparty_any {w : World} (p q : PartyM) (ka kb : Option Addr) (kc kd : Nat) (hp : Strs w ka p.keys.length p.keys) (hq : Strs w kb q.keys.length q.keys) :
    Calls Try.prog 38 #[.agg #[.string p.acc, .slice ka p.keys.length kc], .agg #[.string q.acc, .slice kb q.keys.length kd]] w fun e w' => e = .returned (.bool (told (p = q))) ∧ Below w.heap.size w w' := by
  obtain ⟨r, hr⟩ : ∃ r, told (p = q) = r := ⟨_, rfl⟩
  have HR := hide hr
  rw [hr]
  clear hr
  have hE := two_new w (.string p.acc) (.slice ka p.keys.length kc) 40
  have hB1 := (Below.refl w.heap.size w).alloc (Nat.le_refl _) (Obj.cells #[Value.string p.acc, Value.slice ka p.keys.length kc] 40)
  have hz1 : (w.alloc (Obj.cells #[Value.string p.acc, Value.slice ka p.keys.length kc] 40)).heap.size = w.heap.size + 1 := by simp
  have hF := two_new (w.alloc (Obj.cells #[Value.string p.acc, Value.slice ka p.keys.length kc] 40)) (.string q.acc) (.slice kb q.keys.length kd) 40
  have hB2 := (Below.refl (w.alloc (Obj.cells #[Value.string p.acc, Value.slice ka p.keys.length kc] 40)).heap.size (w.alloc (Obj.cells #[Value.string p.acc, Value.slice ka p.keys.length kc] 40))).alloc (Nat.le_refl _) (Obj.cells #[Value.string q.acc, Value.slice kb q.keys.length kd] 40)
  replace hE : _ ∧ _ := ⟨cell_on hB2 hE.1, cell_on hB2 hE.2⟩
  have hB := hB1.trans (hB2.mono (by rw [hz1]; omega))
  rw [hz1] at hF
  have HT := eqtexts_any (c := kc) (d := kd) (hp.below hB) (hq.below hB)
  replace HT := hide HT
  replace hE := hide hE
  replace hF := hide hF
  replace hB := hide hB
  clear hB1 hB2 hz1 hp hq
  by_cases ha : p.acc = q.acc
  · have ha' := text_same ha
    have HA := hide ha
    clear ha
    go_enter Try.func38, Try.ntmps38
    go_upto_region 1 with fail
    generalize (w.alloc (Obj.cells #[Value.string p.acc, Value.slice ka p.keys.length kc] 40)).alloc (Obj.cells #[Value.string q.acc, Value.slice kb q.keys.length kd] 40) = w1 at hE hF hB HT ⊢
    obtain ⟨e0, e1⟩ := hE.out
    obtain ⟨f0, f1⟩ := hF.out
    go_wp2_with fail
    refine HT.out.mono ?_
    rintro e w2 ⟨rfl, hd2⟩
    have he : told (p.keys = q.keys) = r := by
      rw [← HR.out]; exact told_congr ⟨fun h => party_same HA.out h, fun h => by rw [h]⟩
    rw [he]
    have hB2 := hd2.below hB.out
    clear hd2 HT
    go_wp2
    go_ret
    exact ⟨rfl, hB2⟩
  · have ha' := text_other ha
    have HA := hide ha
    clear ha
    go_enter Try.func38, Try.ntmps38
    go_upto_region 1 with fail
    generalize (w.alloc (Obj.cells #[Value.string p.acc, Value.slice ka p.keys.length kc] 40)).alloc (Obj.cells #[Value.string q.acc, Value.slice kb q.keys.length kd] 40) = w1 at hE hF hB HT ⊢
    obtain ⟨e0, e1⟩ := hE.out
    obtain ⟨f0, f1⟩ := hF.out
    go_wp2
    go_ret
    exact ⟨ret_bool (by rw [← HR.out, told_no (fun h => HA.out (by rw [h]))]), hB.out⟩

set_option maxRecDepth 10000 in
set_option maxHeartbeats 1000000 in
theorem eqparties_any {w : World} {a b : Option Addr} {c d : Nat} {l k : List PartyM} (ha : Parties w a l) (hb : Parties w b k) :
    Calls Try.prog 37 #[.slice a l.length c, .slice b k.length d, .func (.func 38) #[] #[]] w fun e w' => e = .returned (.bool (told (l = k))) ∧ Below w.heap.size w w' := by
  obtain ⟨r, hr⟩ : ∃ r, told (l = k) = r := ⟨_, rfl⟩
  have HR : Hid (told (l = k) = r) := hr
  rw [hr]
  clear hr
  have hl1 := ha.1
  have hl2 := hb.1
  unfold maxLen at hl1 hl2
  by_cases hne : l.length ≠ k.length
  · have n1 := nat_ne hne
    go_enter Try.func37, Try.ntmps37
    go_wp2
    go_ret
    exact ⟨ret_bool (by rw [← HR.out, told_no (fun h => hne (by rw [h]))]), Below.refl _ _⟩
  have hn : l.length = k.length := by omega
  have HN : Hid (l.length = k.length) := hn
  have n1 := nat_same hn
  have HA := hide ha
  have HB := hide hb
  generalize hln : l.length = n at *
  generalize hkn : k.length = m at *
  have HLN : Hid (l.length = n) := hln
  have HKN : Hid (k.length = m) := hkn
  clear hne hn hln hkn ha hb
  go_enter Try.func37, Try.ntmps37
  go_wp2
  go_loopw [17] (fun i wr => ∃ j : Nat, j ≤ n ∧ i = .int .i64 j ∧ Hid (∀ i, i < j → l.getD i noParty = k.getD i noParty) ∧ Hid (Below w.heap.size w wr)) (fun i _ => n - (intOf i).toNat)
  case atStart => exact ⟨0, by omega, rfl, fun j hj => absurd hj (by omega), Below.refl _ _⟩
  case round =>
    obtain ⟨j, hj, rfl, HO, hst⟩ := hrel
    by_cases hlt : j < n
    · have j1 : (j : Int) < (n : Int) := by omega
      have j2 : (j : Int) < (m : Int) := by have := HN.out; omega
      obtain ⟨b1, o1, rfl, hd1⟩ := HA.out.2 j (by rw [HLN.out]; exact hlt)
      obtain ⟨b2, o2, rfl, hd2⟩ := HB.out.2 j (by rw [HKN.out]; omega)
      replace hd1 := hd1.below hst.out
      replace hd2 := hd2.below hst.out
      obtain ⟨P, hx⟩ : ∃ x, l.getD j noParty = x := ⟨_, rfl⟩
      obtain ⟨R, hy⟩ : ∃ y, k.getD j noParty = y := ⟨_, rfl⟩
      rw [hx] at hd1
      rw [hy] at hd2
      have HX := hide hx
      have HY := hide hy
      clear hx hy
      obtain ⟨_, d0, ka, kc, d1, hk1⟩ := hd1
      obtain ⟨_, e0, kb, kd, e1, hk2⟩ := hd2
      have hB1 := (Below.refl wr.heap.size wr).alloc (Nat.le_refl _) (Obj.cells #[Value.string P.acc, Value.slice ka P.keys.length kc] 40)
      have hE := two_new wr (.string P.acc) (.slice ka P.keys.length kc) 40
      have hz1 : (wr.alloc (Obj.cells #[Value.string P.acc, Value.slice ka P.keys.length kc] 40)).heap.size = wr.heap.size + 1 := by simp
      have g0 := cell_on hB1 e0
      have g1 := cell_on hB1 e1
      have HK1 := hide (hk1.below hB1)
      have HK2 := hide (hk2.below hB1)
      have hst1 := hide (hst.out.trans (hB1.mono hst.out.size))
      replace hE := hide hE
      clear hk1 hk2 hB1 hst e0 e1
      go_upto_region 6 with fail
      generalize wr.alloc (Obj.cells #[Value.string P.acc, Value.slice ka P.keys.length kc] 40) = w1 at hE g0 g1 HK1 HK2 hst1 hz1 ⊢
      clear d0 d1
      have hB2 := (Below.refl w1.heap.size w1).alloc (Nat.le_refl _) (Obj.cells #[Value.string R.acc, Value.slice kb R.keys.length kd] 40)
      have hF := two_new w1 (.string R.acc) (.slice kb R.keys.length kd) 40
      have hE2 := hide (show _ ∧ _ from ⟨cell_on hB2 hE.out.1, cell_on hB2 hE.out.2⟩)
      have HK3 := hide (HK1.out.below hB2)
      have HK4 := hide (HK2.out.below hB2)
      have hst2 := hide (hst1.out.trans (hB2.mono hst1.out.size))
      rw [hz1] at hF
      replace hF := hide hF
      clear hE HK1 HK2 hst1 hB2
      go_upto_region 7 with fail
      generalize w1.alloc (Obj.cells #[Value.string R.acc, Value.slice kb R.keys.length kd] 40) = w2 at hF hE2 HK3 HK4 hst2 ⊢
      clear g0 g1 hz1
      have HS := hide (sameparty_any P R ka kb kc kd HK3.out HK4.out)
      obtain ⟨e0, e1⟩ := hE2.out
      obtain ⟨f0, f1⟩ := hF.out
      go_wp2_with fail
      by_cases hxy : P = R
      · have HS' := HS.out
        rw [told_yes hxy] at HS'
        have HXY := hide hxy
        clear hxy HS
        refine HS'.mono ?_
        rintro e w3 ⟨rfl, hb3⟩
        have hst3 := hide (hst2.out.trans (hb3.mono hst2.out.size))
        clear HS' hb3 hst2
        go_wp2
        go_roundw
        case rel =>
          refine ⟨j + 1, by omega, by go_num, ?_, hst3⟩
          intro i hi
          by_cases hij : i = j
          · subst hij; rw [HX.out, HY.out, HXY.out]
          · exact HO.out i (by omega)
        case measure => simp [intOf]; omega
      · have HS' := HS.out
        rw [told_no hxy] at HS'
        have HXY := hide hxy
        clear hxy HS
        refine HS'.mono ?_
        rintro e w3 ⟨rfl, hb3⟩
        have hst3 := hide (hst2.out.trans (hb3.mono hst2.out.size))
        clear HS' hb3 hst2
        go_wp2
        go_ret
        exact ⟨ret_bool (by rw [← HR.out, told_no (fun h => HXY.out (by rw [← HX.out, ← HY.out, h]))]), hst3.out⟩
    · have j1 : ¬ (j : Int) < (n : Int) := by omega
      go_wp2
      go_ret
      exact ⟨ret_bool (by rw [← HR.out, told_yes (all_getD noParty (by rw [HLN.out, HKN.out]; exact HN.out) (fun i hi => HO.out i (by rw [HLN.out] at hi; omega)))]), hst.out⟩

end Go.Proofs.Ytpngohaheobkgaa
