/-
  slices.Equal at arcs.
-/
import Derived.Test.YthdnldbkpllciaaZ17
import Derived.Test.YthdnldbkpllciaaSpOwnT
import Derived.Test.YthdnldbkpllciaaZ21
import Derived.Test.YthdnldbkpllciaaZ24
namespace Go.Proofs.Ythdnldbkpllciaa
open Go.RowKit

def arcSame (P Q : ArcM) : Bool := P.src == Q.src && (P.dst == Q.dst && (P.ledger == Q.ledger && (P.asset.toList == Q.asset.toList && P.amount == Q.amount)))
theorem part_str (cs : Array Value) (i : Nat) (v : Value) (h : cs[i]? = some v) (w : World) : (part 9 cs i).run Try.prog w = .ok v w := by
  unfold part
  simp [Sem.run_bind, Try.isAgg9, h]
theorem run_eqArc (P Q : ArcM) (w : World) : (Op.equalIn 10000 34 (.agg #[.int .i64 P.src, .int .i64 P.dst, .int .i64 P.ledger, .string P.asset, .int .i64 P.amount]) (.agg #[.int .i64 Q.src, .int .i64 Q.dst, .int .i64 Q.ledger, .string Q.asset, .int .i64 Q.amount])).run Try.prog w = .ok (arcSame P Q) w := by
  show (Op.equalIn (9999 + 1) 34 (.agg #[.int .i64 P.src, .int .i64 P.dst, .int .i64 P.ledger, .string P.asset, .int .i64 P.amount]) (.agg #[.int .i64 Q.src, .int .i64 Q.dst, .int .i64 Q.ledger, .string Q.asset, .int .i64 Q.amount])).run Try.prog w = _
  have e1 : ∀ x y : Int, ∀ w, (Op.equalIn 9999 3 (.int .i64 x) (.int .i64 y)).run Try.prog w = .ok (x == y) w := fun x y w => run_equalIn_int w 9998 3 .i64 .i64 x y Try.underlying3
  have e2 : ∀ x y : ByteArray, ∀ w, (Op.equalIn 9999 9 (.string x) (.string y)).run Try.prog w = .ok (x.toList == y.toList) w := fun x y w => run_equalIn_string w 9998 9 x y Try.underlying9
  rw [run_equalIn_struct w 9999 34 _ _ (by kernel_rfl) (by kernel_rfl)]
  unfold Program.fieldsOf arcSame
  rw [Try.underlying34]
  have p0 := fun (C : ArcM) => part_int #[.int .i64 C.src, .int .i64 C.dst, .int .i64 C.ledger, .string C.asset, .int .i64 C.amount] 0 _ rfl
  have p1 := fun (C : ArcM) => part_int #[.int .i64 C.src, .int .i64 C.dst, .int .i64 C.ledger, .string C.asset, .int .i64 C.amount] 1 _ rfl
  have p2 := fun (C : ArcM) => part_int #[.int .i64 C.src, .int .i64 C.dst, .int .i64 C.ledger, .string C.asset, .int .i64 C.amount] 2 _ rfl
  have p3 := fun (C : ArcM) => part_str #[.int .i64 C.src, .int .i64 C.dst, .int .i64 C.ledger, .string C.asset, .int .i64 C.amount] 3 _ rfl
  have p4 := fun (C : ArcM) => part_int #[.int .i64 C.src, .int .i64 C.dst, .int .i64 C.ledger, .string C.asset, .int .i64 C.amount] 4 _ rfl
  cases h0 : (P.src == Q.src) <;> cases h1 : (P.dst == Q.dst) <;> cases h2 : (P.ledger == Q.ledger) <;> cases h3 : (P.asset.toList == Q.asset.toList) <;> cases h4 : (P.amount == Q.amount) <;> simp [Op.eqFields, p0, p1, p2, p3, p4, e1, e2, h0, h1, h2, h3, h4]
theorem run_eqArc_yes {P Q : ArcM} (h : P = Q) (w : World) : (Op.equalIn 10000 34 (.agg #[.int .i64 P.src, .int .i64 P.dst, .int .i64 P.ledger, .string P.asset, .int .i64 P.amount]) (.agg #[.int .i64 Q.src, .int .i64 Q.dst, .int .i64 Q.ledger, .string Q.asset, .int .i64 Q.amount])).run Try.prog w = .ok true w := by
  rw [run_eqArc, h]; unfold arcSame; simp
theorem run_eqArc_no {P Q : ArcM} (h : P ≠ Q) (w : World) : (Op.equalIn 10000 34 (.agg #[.int .i64 P.src, .int .i64 P.dst, .int .i64 P.ledger, .string P.asset, .int .i64 P.amount]) (.agg #[.int .i64 Q.src, .int .i64 Q.dst, .int .i64 Q.ledger, .string Q.asset, .int .i64 Q.amount])).run Try.prog w = .ok false w := by
  rw [run_eqArc]
  cases e : arcSame P Q
  · rfl
  · unfold arcSame at e
    simp only [Bool.and_eq_true, beq_iff_eq] at e
    obtain ⟨h1, h2, h3, h4, h5⟩ := e
    refine absurd ?_ h
    cases P; cases Q
    simp only at h1 h2 h3 h4 h5
    rw [ByteArray.toList_eq, ByteArray.toList_eq] at h4
    have := ByteArray.ext (Array.toList_inj.1 h4)
    simp_all

set_option maxRecDepth 10000 in
set_option maxHeartbeats 1000000 in
theorem eqarcs_any {w : World} {a b : Option Addr} {c d : Nat} {l k : List ArcM} (ha : Arcs w a l) (hb : Arcs w b k) :
    Calls Try.prog 30 #[.slice a l.length c, .slice b k.length d] w fun e w' => e = .returned (.bool (told (l = k))) ∧ Drew w w' := by
  obtain ⟨r, hr⟩ : ∃ r, told (l = k) = r := ⟨_, rfl⟩
  have HR : Hid (told (l = k) = r) := hr
  rw [hr]
  clear hr
  have hl1 := ha.1
  have hl2 := hb.1
  unfold maxLen at hl1 hl2
  by_cases hne : l.length ≠ k.length
  · have n1 := nat_ne hne
    go_enter Try.func30, Try.ntmps30
    go_wp2
    go_ret
    exact ⟨ret_bool (by rw [← HR.out, told_no (fun h => hne (by rw [h]))]), Drew.refl _⟩
  have hn : l.length = k.length := by omega
  have HN : Hid (l.length = k.length) := hn
  have n1 := nat_same hn
  generalize hln : l.length = n at *
  generalize hkn : k.length = m at *
  have HLN : Hid (l.length = n) := hln
  have HKN : Hid (k.length = m) := hkn
  have HA : Hid (Arcs w a l) := ha
  have HB : Hid (Arcs w b k) := hb
  clear hne hn hln hkn ha hb
  go_enter Try.func30, Try.ntmps30
  go_wp2
  go_loopw [13] (fun i wr => ∃ j : Nat, j ≤ n ∧ i = .int .i64 j ∧ Hid (∀ i, i < j → l.getD i noArc = k.getD i noArc) ∧ Drew w wr) (fun i _ => n - (intOf i).toNat)
  case atStart => exact ⟨0, by omega, rfl, fun j hj => absurd hj (by omega), Drew.refl _⟩
  case round =>
    obtain ⟨j, hj, rfl, HO, hst⟩ := hrel
    by_cases hlt : j < n
    · have j1 : (j : Int) < (n : Int) := by omega
      have j2 : (j : Int) < (m : Int) := by have := HN.out; omega
      obtain ⟨b1, o1, rfl, hd1⟩ := HA.out.2 j (by rw [HLN.out]; exact hlt)
      obtain ⟨b2, o2, rfl, hd2⟩ := HB.out.2 j (by rw [HKN.out]; omega)
      replace hd1 := hd1.below hst.on
      replace hd2 := hd2.below hst.on
      obtain ⟨x, hx⟩ : ∃ x, l.getD j noArc = x := ⟨_, rfl⟩
      obtain ⟨y, hy⟩ : ∃ y, k.getD j noArc = y := ⟨_, rfl⟩
      rw [hx] at hd1
      rw [hy] at hd2
      have HX : Hid (l.getD j noArc = x) := hx
      have HY : Hid (k.getD j noArc = y) := hy
      clear hx hy
      obtain ⟨u1, u2, u3, u4, u5, d0, d1, d2, d3, d4⟩ := hd1
      obtain ⟨v1, v2, v3, v4, v5, e0, e1, e2, e3, e4⟩ := hd2
      clear u1 u2 u3 u4 u5 v1 v2 v3 v4 v5
      by_cases hxy : x = y
      · have t : ∀ W, (Op.equalIn 10000 34 (.agg #[.int .i64 x.src, .int .i64 x.dst, .int .i64 x.ledger, .string x.asset, .int .i64 x.amount]) (.agg #[.int .i64 y.src, .int .i64 y.dst, .int .i64 y.ledger, .string y.asset, .int .i64 y.amount])).run Try.prog W = .ok true W := fun W => run_eqArc_yes hxy W
        have HXY : Hid (x = y) := hxy
        clear hxy
        go_wp2
        go_quiet (fail)
        replace hst := hst.drewN nq
        generalize wr.drewN nq = w3 at hst ⊢
        go_wp2
        go_roundw
        case rel =>
          refine ⟨j + 1, by omega, by go_num, ?_, hst⟩
          intro i hi
          by_cases hij : i = j
          · subst hij; rw [HX.out, HY.out, HXY.out]
          · exact HO.out i (by omega)
        case measure => simp [intOf]; omega
      · have t : ∀ W, (Op.equalIn 10000 34 (.agg #[.int .i64 x.src, .int .i64 x.dst, .int .i64 x.ledger, .string x.asset, .int .i64 x.amount]) (.agg #[.int .i64 y.src, .int .i64 y.dst, .int .i64 y.ledger, .string y.asset, .int .i64 y.amount])).run Try.prog W = .ok false W := fun W => run_eqArc_no hxy W
        go_wp2
        go_quiet (fail)
        go_wp2
        go_ret
        exact ⟨ret_bool (by rw [← HR.out, told_no (fun h => hxy (by rw [← HX.out, ← HY.out, h]))]), hst.drewN _⟩
    · have j1 : ¬ (j : Int) < (n : Int) := by omega
      go_wp2
      go_ret
      exact ⟨ret_bool (by rw [← HR.out, told_yes (all_getD noArc (by rw [HLN.out, HKN.out]; exact HN.out) (fun i hi => HO.out i (by rw [HLN.out] at hi; omega)))]), hst⟩


end Go.Proofs.Ythdnldbkpllciaa

/-
  The program's sameParty, slices.EqualFunc at parties, Same.
-/
namespace Go.Proofs.Ythdnldbkpllciaa
open Go.RowKit

theorem party_same {p q : PartyM} (h1 : p.acc = q.acc) (h2 : p.keys = q.keys) : p = q := by cases p; cases q; simp_all
theorem spec_same {s t : SpecM} (h1 : s.id = t.id) (h2 : s.parties = t.parties) (h3 : s.arcs = t.arcs) (h4 : s.leaders = t.leaders) (h5 : s.locks = t.locks) (h6 : s.start = t.start) (h7 : s.delta = t.delta) : s = t := by cases s; cases t; simp_all

set_option maxRecDepth 10000 in
set_option maxHeartbeats 1000000 in
theorem sameparty_any {w : World} (p q : PartyM) (ka kb : Option Addr) (kc kd : Nat) (hp : Strs w ka p.keys.length p.keys) (hq : Strs w kb q.keys.length q.keys) :
    Calls Try.prog 29 #[.agg #[.string p.acc, .slice ka p.keys.length kc], .agg #[.string q.acc, .slice kb q.keys.length kd]] w fun e w' => e = .returned (.bool (told (p = q))) ∧ Below w.heap.size w w' := by
  obtain ⟨r, hr⟩ : ∃ r, told (p = q) = r := ⟨_, rfl⟩
  have HR := hide hr
  rw [hr]
  clear hr
  have hE := two_new w (.string p.acc) (.slice ka p.keys.length kc) 32
  have hB1 := (Below.refl w.heap.size w).alloc (Nat.le_refl _) (Obj.cells #[Value.string p.acc, Value.slice ka p.keys.length kc] 32)
  have hz1 : (w.alloc (Obj.cells #[Value.string p.acc, Value.slice ka p.keys.length kc] 32)).heap.size = w.heap.size + 1 := by simp
  have hF := two_new (w.alloc (Obj.cells #[Value.string p.acc, Value.slice ka p.keys.length kc] 32)) (.string q.acc) (.slice kb q.keys.length kd) 32
  have hB2 := (Below.refl (w.alloc (Obj.cells #[Value.string p.acc, Value.slice ka p.keys.length kc] 32)).heap.size (w.alloc (Obj.cells #[Value.string p.acc, Value.slice ka p.keys.length kc] 32))).alloc (Nat.le_refl _) (Obj.cells #[Value.string q.acc, Value.slice kb q.keys.length kd] 32)
  replace hE : _ ∧ _ := ⟨cell_on hB2 hE.1, cell_on hB2 hE.2⟩
  have hB := hB1.trans (hB2.mono (by rw [hz1]; omega))
  rw [hz1] at hF
  have HT := eqtexts_any (c := kc) (d := kd) (hp.below hB) (hq.below hB)
  replace HT := hide HT
  replace hE := hide hE
  replace hF := hide hF
  replace hB := hide hB
  clear hB1 hB2 hz1 hp hq
  by_cases ha : p.acc = q.acc
  · have ha' := text_same ha
    have HA := hide ha
    clear ha
    go_enter Try.func29, Try.ntmps29
    go_upto_region 1 with fail
    generalize (w.alloc (Obj.cells #[Value.string p.acc, Value.slice ka p.keys.length kc] 32)).alloc (Obj.cells #[Value.string q.acc, Value.slice kb q.keys.length kd] 32) = w1 at hE hF hB HT ⊢
    obtain ⟨e0, e1⟩ := hE.out
    obtain ⟨f0, f1⟩ := hF.out
    go_wp2_with fail
    refine HT.out.mono ?_
    rintro e w2 ⟨rfl, hd2⟩
    have he : told (p.keys = q.keys) = r := by
      rw [← HR.out]; exact told_congr ⟨fun h => party_same HA.out h, fun h => by rw [h]⟩
    rw [he]
    have hB2 := hd2.below hB.out
    clear hd2 HT
    go_wp2
    go_ret
    exact ⟨rfl, hB2⟩
  · have ha' := text_other ha
    have HA := hide ha
    clear ha
    go_enter Try.func29, Try.ntmps29
    go_upto_region 1 with fail
    generalize (w.alloc (Obj.cells #[Value.string p.acc, Value.slice ka p.keys.length kc] 32)).alloc (Obj.cells #[Value.string q.acc, Value.slice kb q.keys.length kd] 32) = w1 at hE hF hB HT ⊢
    obtain ⟨e0, e1⟩ := hE.out
    obtain ⟨f0, f1⟩ := hF.out
    go_wp2
    go_ret
    exact ⟨ret_bool (by rw [← HR.out, told_no (fun h => HA.out (by rw [h]))]), hB.out⟩

set_option maxRecDepth 10000 in
set_option maxHeartbeats 1000000 in
theorem eqparties_any {w : World} {a b : Option Addr} {c d : Nat} {l k : List PartyM} (ha : Parties w a l) (hb : Parties w b k) :
    Calls Try.prog 28 #[.slice a l.length c, .slice b k.length d, .func (.func 29) #[] #[]] w fun e w' => e = .returned (.bool (told (l = k))) ∧ Below w.heap.size w w' := by
  obtain ⟨r, hr⟩ : ∃ r, told (l = k) = r := ⟨_, rfl⟩
  have HR : Hid (told (l = k) = r) := hr
  rw [hr]
  clear hr
  have hl1 := ha.1
  have hl2 := hb.1
  unfold maxLen at hl1 hl2
  by_cases hne : l.length ≠ k.length
  · have n1 := nat_ne hne
    go_enter Try.func28, Try.ntmps28
    go_wp2
    go_ret
    exact ⟨ret_bool (by rw [← HR.out, told_no (fun h => hne (by rw [h]))]), Below.refl _ _⟩
  have hn : l.length = k.length := by omega
  have HN : Hid (l.length = k.length) := hn
  have n1 := nat_same hn
  have HA := hide ha
  have HB := hide hb
  generalize hln : l.length = n at *
  generalize hkn : k.length = m at *
  have HLN : Hid (l.length = n) := hln
  have HKN : Hid (k.length = m) := hkn
  clear hne hn hln hkn ha hb
  go_enter Try.func28, Try.ntmps28
  go_wp2
  go_loopw [17] (fun i wr => ∃ j : Nat, j ≤ n ∧ i = .int .i64 j ∧ Hid (∀ i, i < j → l.getD i noParty = k.getD i noParty) ∧ Hid (Below w.heap.size w wr)) (fun i _ => n - (intOf i).toNat)
  case atStart => exact ⟨0, by omega, rfl, fun j hj => absurd hj (by omega), Below.refl _ _⟩
  case round =>
    obtain ⟨j, hj, rfl, HO, hst⟩ := hrel
    by_cases hlt : j < n
    · have j1 : (j : Int) < (n : Int) := by omega
      have j2 : (j : Int) < (m : Int) := by have := HN.out; omega
      obtain ⟨b1, o1, rfl, hd1⟩ := HA.out.2 j (by rw [HLN.out]; exact hlt)
      obtain ⟨b2, o2, rfl, hd2⟩ := HB.out.2 j (by rw [HKN.out]; omega)
      replace hd1 := hd1.below hst.out
      replace hd2 := hd2.below hst.out
      obtain ⟨P, hx⟩ : ∃ x, l.getD j noParty = x := ⟨_, rfl⟩
      obtain ⟨R, hy⟩ : ∃ y, k.getD j noParty = y := ⟨_, rfl⟩
      rw [hx] at hd1
      rw [hy] at hd2
      have HX := hide hx
      have HY := hide hy
      clear hx hy
      obtain ⟨_, d0, ka, kc, d1, hk1⟩ := hd1
      obtain ⟨_, e0, kb, kd, e1, hk2⟩ := hd2
      have hB1 := (Below.refl wr.heap.size wr).alloc (Nat.le_refl _) (Obj.cells #[Value.string P.acc, Value.slice ka P.keys.length kc] 32)
      have hE := two_new wr (.string P.acc) (.slice ka P.keys.length kc) 32
      have hz1 : (wr.alloc (Obj.cells #[Value.string P.acc, Value.slice ka P.keys.length kc] 32)).heap.size = wr.heap.size + 1 := by simp
      have g0 := cell_on hB1 e0
      have g1 := cell_on hB1 e1
      have HK1 := hide (hk1.below hB1)
      have HK2 := hide (hk2.below hB1)
      have hst1 := hide (hst.out.trans (hB1.mono hst.out.size))
      replace hE := hide hE
      clear hk1 hk2 hB1 hst e0 e1
      go_upto_region 6 with fail
      generalize wr.alloc (Obj.cells #[Value.string P.acc, Value.slice ka P.keys.length kc] 32) = w1 at hE g0 g1 HK1 HK2 hst1 hz1 ⊢
      clear d0 d1
      have hB2 := (Below.refl w1.heap.size w1).alloc (Nat.le_refl _) (Obj.cells #[Value.string R.acc, Value.slice kb R.keys.length kd] 32)
      have hF := two_new w1 (.string R.acc) (.slice kb R.keys.length kd) 32
      have hE2 := hide (show _ ∧ _ from ⟨cell_on hB2 hE.out.1, cell_on hB2 hE.out.2⟩)
      have HK3 := hide (HK1.out.below hB2)
      have HK4 := hide (HK2.out.below hB2)
      have hst2 := hide (hst1.out.trans (hB2.mono hst1.out.size))
      rw [hz1] at hF
      replace hF := hide hF
      clear hE HK1 HK2 hst1 hB2
      go_upto_region 7 with fail
      generalize w1.alloc (Obj.cells #[Value.string R.acc, Value.slice kb R.keys.length kd] 32) = w2 at hF hE2 HK3 HK4 hst2 ⊢
      clear g0 g1 hz1
      have HS := hide (sameparty_any P R ka kb kc kd HK3.out HK4.out)
      obtain ⟨e0, e1⟩ := hE2.out
      obtain ⟨f0, f1⟩ := hF.out
      go_wp2_with fail
      by_cases hxy : P = R
      · have HS' := HS.out
        rw [told_yes hxy] at HS'
        have HXY := hide hxy
        clear hxy HS
        refine HS'.mono ?_
        rintro e w3 ⟨rfl, hb3⟩
        have hst3 := hide (hst2.out.trans (hb3.mono hst2.out.size))
        clear HS' hb3 hst2
        go_wp2
        go_roundw
        case rel =>
          refine ⟨j + 1, by omega, by go_num, ?_, hst3⟩
          intro i hi
          by_cases hij : i = j
          · subst hij; rw [HX.out, HY.out, HXY.out]
          · exact HO.out i (by omega)
        case measure => simp [intOf]; omega
      · have HS' := HS.out
        rw [told_no hxy] at HS'
        have HXY := hide hxy
        clear hxy HS
        refine HS'.mono ?_
        rintro e w3 ⟨rfl, hb3⟩
        have hst3 := hide (hst2.out.trans (hb3.mono hst2.out.size))
        clear HS' hb3 hst2
        go_wp2
        go_ret
        exact ⟨ret_bool (by rw [← HR.out, told_no (fun h => HXY.out (by rw [← HX.out, ← HY.out, h]))]), hst3.out⟩
    · have j1 : ¬ (j : Int) < (n : Int) := by omega
      go_wp2
      go_ret
      exact ⟨ret_bool (by rw [← HR.out, told_yes (all_getD noParty (by rw [HLN.out, HKN.out]; exact HN.out) (fun i hi => HO.out i (by rw [HLN.out] at hi; omega)))]), hst.out⟩

end Go.Proofs.Ythdnldbkpllciaa

/-
  The program's Same.
-/
namespace Go.Proofs.Ythdnldbkpllciaa
open Go.RowKit

set_option maxRecDepth 10000 in
set_option maxHeartbeats 4000000 in
theorem same_any {w : World} {v u : Value} {s t : SpecM} (hv : SpecV w v s) (hu : SpecV w u t) : Calls Try.prog 11 #[v, u] w fun e w' => e = .returned (.bool (told (s = t))) ∧ Below w.heap.size w w' := by
  obtain ⟨a1, a2, a3, a4, c1, c2, c3, c4, rfl, L⟩ := hv
  obtain ⟨b1, b2, b3, b4, d1, d2, d3, d4, rfl, M⟩ := hu
  obtain ⟨r, hr⟩ : ∃ r, told (s = t) = r := ⟨_, rfl⟩
  have HR := hide hr
  rw [hr]
  clear hr
  generalize hg : w.heap.size = g
  have HP := fun W (hW : Below w.heap.size w W) => eqparties_any (c := c1) (d := d1) (L.parties.below hW) (M.parties.below hW)
  have HA := fun W (hW : Below w.heap.size w W) => eqarcs_any (c := c2) (d := d2) (L.arcs.below hW) (M.arcs.below hW)
  have HI := fun W (hW : Below w.heap.size w W) => eqints_any (c := c3) (d := d3) (L.leaders.below hW) (M.leaders.below hW)
  have HT := fun W (hW : Below w.heap.size w W) => eqtexts_any (c := c4) (d := d4) (L.locks.below hW) (M.locks.below hW)
  replace HP := hide HP
  replace HA := hide HA
  replace HI := hide HI
  replace HT := hide HT
  clear L M
  go_enter Try.func11, Try.ntmps11
  go_wp2_with ((with_reducible refine wpList_at ?_); refine wpList_boxv (by rfl) 27 (.tmp 0) (by rfl) _ (by rfl) ?_; rw [hg]; intro w1 hg1 hz1 hb1; refine Hid.out ?_)
  unfold Hid
  have hg1' := hide hg1
  clear hg1
  obtain ⟨k, hk⟩ : ∃ k, w1.heap.size = k := ⟨_, rfl⟩
  go_wp2_with ((with_reducible refine wpList_at ?_); refine wpList_boxv (by rfl) 27 (.tmp 1) (by rfl) _ (by rfl) ?_; rw [hk]; intro w2 hg2 hz2 hb2; refine Hid.out ?_)
  unfold Hid
  have hgg := (hb2.block g (by omega)).trans hg1'.out
  have hB : Below w.heap.size w w2 := by rw [hg]; exact hb1.trans (hb2.mono (by omega))
  have HG := hide hgg
  have HE := hide hg2
  have hgk : g < w2.heap.size := by omega
  have hkk : k < w2.heap.size := by omega
  have hS := hide (Below.refl w2.heap.size w2)
  obtain ⟨q0, q1, q2, q3, q4, q5, q6⟩ := cells7_at hgg
  obtain ⟨e0, e1, e2, e3, e4, e5, e6⟩ := cells7_at hg2
  have hB' := hide hB
  clear hg1' hgg hg2 hb1 hb2 hz1 hz2 hk hB
  by_cases p0 : ¬ s.id = t.id
  · have t9 := text_other p0
    have HZ := hide p0
    clear p0
    go_wp2
    go_ret
    exact ⟨ret_bool (by rw [← HR.out, told_no (fun h => HZ.out (by rw [h]))]), by rw [← hg]; exact hB'.out⟩
  replace p0 := Classical.not_not.1 p0
  have tp0 := text_same p0
  replace p0 := hide p0
  by_cases p1 : ¬ s.start = t.start
  · have t9 := (show (s.start == t.start) = false by rw [beq_eq_false_iff_ne]; exact p1)
    have HZ := hide p1
    clear p1
    go_wp2
    go_ret
    exact ⟨ret_bool (by rw [← HR.out, told_no (fun h => HZ.out (by rw [h]))]), by rw [← hg]; exact hB'.out⟩
  replace p1 := Classical.not_not.1 p1
  have tp1 := (show (s.start == t.start) = true by rw [beq_iff_eq]; exact p1)
  replace p1 := hide p1
  by_cases p2 : ¬ s.delta = t.delta
  · have t9 := (show (s.delta == t.delta) = false by rw [beq_eq_false_iff_ne]; exact p2)
    have HZ := hide p2
    clear p2
    go_wp2
    go_ret
    exact ⟨ret_bool (by rw [← HR.out, told_no (fun h => HZ.out (by rw [h]))]), by rw [← hg]; exact hB'.out⟩
  replace p2 := Classical.not_not.1 p2
  have tp2 := (show (s.delta == t.delta) = true by rw [beq_iff_eq]; exact p2)
  replace p2 := hide p2
  go_wp2_with fail
  by_cases p3 : ¬ s.parties = t.parties
  · have HX := (HP.out w2 hB'.out)
    rw [told_no p3] at HX
    refine HX.mono ?_
    rintro e w9 ⟨rfl, hb9⟩
    replace hB' := hide (below_then hB'.out hb9)
    have HZ := hide p3
    clear p3 HX hb9
    go_wp2
    go_ret
    exact ⟨ret_bool (by rw [← HR.out, told_no (fun h => HZ.out (by rw [h]))]), by rw [← hg]; exact hB'.out⟩
  replace p3 := Classical.not_not.1 p3
  have HX := (HP.out w2 hB'.out)
  rw [told_yes p3] at HX
  replace p3 := hide p3
  refine HX.mono ?_
  rintro e w3 ⟨rfl, hb9⟩
  replace hB' := hide (below_then hB'.out hb9)
  have hS2 := hide (below_then hS.out hb9)
  clear HX hb9 hS q0 q1 q2 q3 q4 q5 q6 e0 e1 e2 e3 e4 e5 e6
  have hS := hS2
  clear hS2
  obtain ⟨q0, q1, q2, q3, q4, q5, q6⟩ := cells7_at ((hS.out.block g hgk).trans HG.out)
  obtain ⟨e0, e1, e2, e3, e4, e5, e6⟩ := cells7_at ((hS.out.block k hkk).trans HE.out)
  go_wp2_with fail
  by_cases p4 : ¬ s.arcs = t.arcs
  · have HX := (HA.out w3 hB'.out)
    rw [told_no p4] at HX
    refine HX.mono ?_
    rintro e w9 ⟨rfl, hb9⟩
    replace hB' := hide (below_then hB'.out (hb9.on))
    have HZ := hide p4
    clear p4 HX hb9
    go_wp2
    go_ret
    exact ⟨ret_bool (by rw [← HR.out, told_no (fun h => HZ.out (by rw [h]))]), by rw [← hg]; exact hB'.out⟩
  replace p4 := Classical.not_not.1 p4
  have HX := (HA.out w3 hB'.out)
  rw [told_yes p4] at HX
  replace p4 := hide p4
  refine HX.mono ?_
  rintro e w4 ⟨rfl, hb9⟩
  replace hB' := hide (below_then hB'.out (hb9.on))
  have hS2 := hide (below_then hS.out (hb9.on))
  clear HX hb9 hS q0 q1 q2 q3 q4 q5 q6 e0 e1 e2 e3 e4 e5 e6
  have hS := hS2
  clear hS2
  obtain ⟨q0, q1, q2, q3, q4, q5, q6⟩ := cells7_at ((hS.out.block g hgk).trans HG.out)
  obtain ⟨e0, e1, e2, e3, e4, e5, e6⟩ := cells7_at ((hS.out.block k hkk).trans HE.out)
  go_wp2_with fail
  by_cases p5 : ¬ s.leaders = t.leaders
  · have HX := (HI.out w4 hB'.out)
    rw [told_no p5] at HX
    refine HX.mono ?_
    rintro e w9 ⟨rfl, hb9⟩
    replace hB' := hide (below_then hB'.out (hb9.on))
    have HZ := hide p5
    clear p5 HX hb9
    go_wp2
    go_ret
    exact ⟨ret_bool (by rw [← HR.out, told_no (fun h => HZ.out (by rw [h]))]), by rw [← hg]; exact hB'.out⟩
  replace p5 := Classical.not_not.1 p5
  have HX := (HI.out w4 hB'.out)
  rw [told_yes p5] at HX
  replace p5 := hide p5
  refine HX.mono ?_
  rintro e w5 ⟨rfl, hb9⟩
  replace hB' := hide (below_then hB'.out (hb9.on))
  have hS2 := hide (below_then hS.out (hb9.on))
  clear HX hb9 hS q0 q1 q2 q3 q4 q5 q6 e0 e1 e2 e3 e4 e5 e6
  have hS := hS2
  clear hS2
  obtain ⟨q0, q1, q2, q3, q4, q5, q6⟩ := cells7_at ((hS.out.block g hgk).trans HG.out)
  obtain ⟨e0, e1, e2, e3, e4, e5, e6⟩ := cells7_at ((hS.out.block k hkk).trans HE.out)
  go_wp2_with fail
  by_cases p6 : ¬ s.locks = t.locks
  · have HX := (HT.out w5 hB'.out)
    rw [told_no p6] at HX
    refine HX.mono ?_
    rintro e w9 ⟨rfl, hb9⟩
    replace hB' := hide (below_then hB'.out (hb9.on))
    have HZ := hide p6
    clear p6 HX hb9
    go_wp2
    go_ret
    exact ⟨ret_bool (by rw [← HR.out, told_no (fun h => HZ.out (by rw [h]))]), by rw [← hg]; exact hB'.out⟩
  replace p6 := Classical.not_not.1 p6
  have HX := (HT.out w5 hB'.out)
  rw [told_yes p6] at HX
  replace p6 := hide p6
  refine HX.mono ?_
  rintro e w6 ⟨rfl, hb9⟩
  replace hB' := hide (below_then hB'.out (hb9.on))
  clear HX hb9
  go_wp2
  go_ret
  exact ⟨ret_bool (by rw [← HR.out, told_yes (spec_same p0.out p3.out p4.out p5.out p6.out p1.out p2.out)]), by rw [← hg]; exact hB'.out⟩

end Go.Proofs.Ythdnldbkpllciaa
