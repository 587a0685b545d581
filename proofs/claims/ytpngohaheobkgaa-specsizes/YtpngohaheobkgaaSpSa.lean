/-
  slices.Equal at arcs.
-/
import Derived.Test.YtpngohaheobkgaaSpS
import Derived.Test.YtpngohaheobkgaaSpOwnT
namespace Go.Proofs.Ytpngohaheobkgaa
open Go.RowKit

def arcSame (P Q : ArcM) : Bool := P.src == Q.src && (P.dst == Q.dst && (P.ledger == Q.ledger && (P.asset.toList == Q.asset.toList && P.amount == Q.amount)))
theorem part_str (cs : Array Value) (i : Nat) (v : Value) (h : cs[i]? = some v) (w : World) : (part 9 cs i).run Try.prog w = .ok v w := by
  unfold part
  simp [Sem.run_bind, Try.isAgg9, h]
theorem run_eqArc (P Q : ArcM) (w : World) : (Op.equalIn 10000 42 (.agg #[.int .i64 P.src, .int .i64 P.dst, .int .i64 P.ledger, .string P.asset, .int .i64 P.amount]) (.agg #[.int .i64 Q.src, .int .i64 Q.dst, .int .i64 Q.ledger, .string Q.asset, .int .i64 Q.amount])).run Try.prog w = .ok (arcSame P Q) w := by
  show (Op.equalIn (9999 + 1) 42 (.agg #[.int .i64 P.src, .int .i64 P.dst, .int .i64 P.ledger, .string P.asset, .int .i64 P.amount]) (.agg #[.int .i64 Q.src, .int .i64 Q.dst, .int .i64 Q.ledger, .string Q.asset, .int .i64 Q.amount])).run Try.prog w = _
  have e1 : ∀ x y : Int, ∀ w, (Op.equalIn 9999 3 (.int .i64 x) (.int .i64 y)).run Try.prog w = .ok (x == y) w := fun x y w => run_equalIn_int w 9998 3 .i64 .i64 x y Try.underlying3
  have e2 : ∀ x y : ByteArray, ∀ w, (Op.equalIn 9999 9 (.string x) (.string y)).run Try.prog w = .ok (x.toList == y.toList) w := fun x y w => run_equalIn_string w 9998 9 x y Try.underlying9
  rw [run_equalIn_struct w 9999 42 _ _ (by kernel_rfl) (by kernel_rfl)]
  unfold Program.fieldsOf arcSame
  rw [Try.underlying42]
  have p0 := fun (C : ArcM) => part_int #[.int .i64 C.src, .int .i64 C.dst, .int .i64 C.ledger, .string C.asset, .int .i64 C.amount] 0 _ rfl
  have p1 := fun (C : ArcM) => part_int #[.int .i64 C.src, .int .i64 C.dst, .int .i64 C.ledger, .string C.asset, .int .i64 C.amount] 1 _ rfl
  have p2 := fun (C : ArcM) => part_int #[.int .i64 C.src, .int .i64 C.dst, .int .i64 C.ledger, .string C.asset, .int .i64 C.amount] 2 _ rfl
  have p3 := fun (C : ArcM) => part_str #[.int .i64 C.src, .int .i64 C.dst, .int .i64 C.ledger, .string C.asset, .int .i64 C.amount] 3 _ rfl
  have p4 := fun (C : ArcM) => part_int #[.int .i64 C.src, .int .i64 C.dst, .int .i64 C.ledger, .string C.asset, .int .i64 C.amount] 4 _ rfl
  cases h0 : (P.src == Q.src) <;> cases h1 : (P.dst == Q.dst) <;> cases h2 : (P.ledger == Q.ledger) <;> cases h3 : (P.asset.toList == Q.asset.toList) <;> cases h4 : (P.amount == Q.amount) <;> simp [Op.eqFields, p0, p1, p2, p3, p4, e1, e2, h0, h1, h2, h3, h4]
theorem run_eqArc_yes {P Q : ArcM} (h : P = Q) (w : World) : (Op.equalIn 10000 42 (.agg #[.int .i64 P.src, .int .i64 P.dst, .int .i64 P.ledger, .string P.asset, .int .i64 P.amount]) (.agg #[.int .i64 Q.src, .int .i64 Q.dst, .int .i64 Q.ledger, .string Q.asset, .int .i64 Q.amount])).run Try.prog w = .ok true w := by
  rw [run_eqArc, h]; unfold arcSame; simp
theorem run_eqArc_no {P Q : ArcM} (h : P ≠ Q) (w : World) : (Op.equalIn 10000 42 (.agg #[.int .i64 P.src, .int .i64 P.dst, .int .i64 P.ledger, .string P.asset, .int .i64 P.amount]) (.agg #[.int .i64 Q.src, .int .i64 Q.dst, .int .i64 Q.ledger, .string Q.asset, .int .i64 Q.amount])).run Try.prog w = .ok false w := by
  rw [run_eqArc]
  cases e : arcSame P Q
  · rfl
  · unfold arcSame at e
    simp only [Bool.and_eq_true, beq_iff_eq] at e
    obtain ⟨h1, h2, h3, h4, h5⟩ := e
    refine absurd ?_ h
    cases P; cases Q
    simp only at h1 h2 h3 h4 h5
    rw [ByteArray.toList_eq, ByteArray.toList_eq] at h4
    have := ByteArray.ext (Array.toList_inj.1 h4)
    simp_all

set_option maxRecDepth 10000 in
set_option maxHeartbeats 1000000 in
theorem eqarcs_any {w : World} {a b : Option Addr} {c d : Nat} {l k : List ArcM} (ha : Arcs w a l) (hb : Arcs w b k) :
    Calls Try.prog 39 #[.slice a l.length c, .slice b k.length d] w fun e w' => e = .returned (.bool (told (l = k))) ∧ Drew w w' := by
  obtain ⟨r, hr⟩ : ∃ r, told (l = k) = r := ⟨_, rfl⟩
  have HR : Hid (told (l = k) = r) := hr
  rw [hr]
  clear hr
  have hl1 := ha.1
  have hl2 := hb.1
  unfold maxLen at hl1 hl2
  by_cases hne : l.length ≠ k.length
  · have n1 := nat_ne hne
    go_enter Try.func39, Try.ntmps39
    go_wp2
    go_ret
    exact ⟨ret_bool (by rw [← HR.out, told_no (fun h => hne (by rw [h]))]), Drew.refl _⟩
  have hn : l.length = k.length := by omega
  have HN : Hid (l.length = k.length) := hn
  have n1 := nat_same hn
  generalize hln : l.length = n at *
  generalize hkn : k.length = m at *
  have HLN : Hid (l.length = n) := hln
  have HKN : Hid (k.length = m) := hkn
  have HA : Hid (Arcs w a l) := ha
  have HB : Hid (Arcs w b k) := hb
  clear hne hn hln hkn ha hb
  go_enter Try.func39, Try.ntmps39
  go_wp2
  go_loopw [13] (fun i wr => ∃ j : Nat, j ≤ n ∧ i = .int .i64 j ∧ Hid (∀ i, i < j → l.getD i noArc = k.getD i noArc) ∧ Drew w wr) (fun i _ => n - (intOf i).toNat)
  case atStart => exact ⟨0, by omega, rfl, fun j hj => absurd hj (by omega), Drew.refl _⟩
  case round =>
    obtain ⟨j, hj, rfl, HO, hst⟩ := hrel
    by_cases hlt : j < n
    · have j1 : (j : Int) < (n : Int) := by omega
      have j2 : (j : Int) < (m : Int) := by have := HN.out; omega
      obtain ⟨b1, o1, rfl, hd1⟩ := HA.out.2 j (by rw [HLN.out]; exact hlt)
      obtain ⟨b2, o2, rfl, hd2⟩ := HB.out.2 j (by rw [HKN.out]; omega)
      replace hd1 := hd1.below hst.on
      replace hd2 := hd2.below hst.on
      obtain ⟨x, hx⟩ : ∃ x, l.getD j noArc = x := ⟨_, rfl⟩
      obtain ⟨y, hy⟩ : ∃ y, k.getD j noArc = y := ⟨_, rfl⟩
      rw [hx] at hd1
      rw [hy] at hd2
      have HX : Hid (l.getD j noArc = x) := hx
      have HY : Hid (k.getD j noArc = y) := hy
      clear hx hy
      obtain ⟨u1, u2, u3, u4, u5, d0, d1, d2, d3, d4⟩ := hd1
      obtain ⟨v1, v2, v3, v4, v5, e0, e1, e2, e3, e4⟩ := hd2
      clear u1 u2 u3 u4 u5 v1 v2 v3 v4 v5
      by_cases hxy : x = y
      · have t : ∀ W, (Op.equalIn 10000 42 (.agg #[.int .i64 x.src, .int .i64 x.dst, .int .i64 x.ledger, .string x.asset, .int .i64 x.amount]) (.agg #[.int .i64 y.src, .int .i64 y.dst, .int .i64 y.ledger, .string y.asset, .int .i64 y.amount])).run Try.prog W = .ok true W := fun W => run_eqArc_yes hxy W
        have HXY : Hid (x = y) := hxy
        clear hxy
        go_wp2
        go_quiet (fail)
        replace hst := hst.drewN nq
        generalize wr.drewN nq = w3 at hst ⊢
        go_wp2
        go_roundw
        case rel =>
          refine ⟨j + 1, by omega, by go_num, ?_, hst⟩
          intro i hi
          by_cases hij : i = j
          · subst hij; rw [HX.out, HY.out, HXY.out]
          · exact HO.out i (by omega)
        case measure => simp [intOf]; omega
      · have t : ∀ W, (Op.equalIn 10000 42 (.agg #[.int .i64 x.src, .int .i64 x.dst, .int .i64 x.ledger, .string x.asset, .int .i64 x.amount]) (.agg #[.int .i64 y.src, .int .i64 y.dst, .int .i64 y.ledger, .string y.asset, .int .i64 y.amount])).run Try.prog W = .ok false W := fun W => run_eqArc_no hxy W
        go_wp2
        go_quiet (fail)
        go_wp2
        go_ret
        exact ⟨ret_bool (by rw [← HR.out, told_no (fun h => hxy (by rw [← HX.out, ← HY.out, h]))]), hst.drewN _⟩
    · have j1 : ¬ (j : Int) < (n : Int) := by omega
      go_wp2
      go_ret
      exact ⟨ret_bool (by rw [← HR.out, told_yes (all_getD noArc (by rw [HLN.out, HKN.out]; exact HN.out) (fun i hi => HO.out i (by rw [HLN.out] at hi; omega)))]), hst⟩


end Go.Proofs.Ytpngohaheobkgaa
