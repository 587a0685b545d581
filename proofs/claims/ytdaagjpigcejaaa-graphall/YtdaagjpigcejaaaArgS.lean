/-
  Swaps among the arguments: what a walk is told of them.
-/
import Derived.Test.YtdaagjpigcejaaaSpOwnC
import Derived.WalkKit
import Derived.ProofKit
import Derived.OpenShut
import Derived.ChangeOld
import Derived.SliceStrings
import Derived.Deep.Slices
namespace Go.Proofs.Ytdaagjpigcejaaa
open Go.RowKit Go.ChangeShapes Go.WideShapes

theorem cells_string : Try.prog.cellsOf 9 = 1 := by kernel_rfl
theorem cells_int : Try.prog.cellsOf 3 = 1 := by kernel_rfl
theorem cells_party : Try.prog.cellsOf 37 = 2 := by kernel_rfl
theorem cells_arc : Try.prog.cellsOf 35 = 5 := by kernel_rfl
theorem cells_spec : Try.prog.cellsOf 28 = 7 := by kernel_rfl
theorem cells_strs : Try.prog.cellsOf 26 = 1 := by kernel_rfl
theorem cells_ints : Try.prog.cellsOf 25 = 1 := by kernel_rfl
theorem cells_parties : Try.prog.cellsOf 23 = 1 := by kernel_rfl
theorem cells_arcs : Try.prog.cellsOf 24 = 1 := by kernel_rfl

theorem list2 {cs : List Value} (h : cs.length = 2) : ∃ c0 c1, cs = [c0, c1] :=
  match cs, h with
  | [c0, c1], _ => ⟨c0, c1, rfl⟩
theorem list5 {cs : List Value} (h : cs.length = 5) : ∃ c0 c1 c2 c3 c4, cs = [c0, c1, c2, c3, c4] :=
  match cs, h with
  | [c0, c1, c2, c3, c4], _ => ⟨c0, c1, c2, c3, c4, rfl⟩
theorem list7 {cs : List Value} (h : cs.length = 7) : ∃ c0 c1 c2 c3 c4 c5 c6, cs = [c0, c1, c2, c3, c4, c5, c6] :=
  match cs, h with
  | [c0, c1, c2, c3, c4, c5, c6], _ => ⟨c0, c1, c2, c3, c4, c5, c6, rfl⟩
section
variable {H : Type} {enc : TypeId × Value → H} {W : World} {base : Nat} {sp : Nat → Bool} {held : Bool} {fuel : Nat} {cs : List Value} {x : DataW H × List MemPlace}
theorem strs_arg (h : DataW.trod enc Try.prog W base sp held fuel 26 cs = some x) : ∃ a c l, cs = [.slice a (List.length l) c] ∧ l.length ≤ c ∧ c ≤ maxLen ∧ Strs W a l.length l := by
  rcases open_strings Try.underlying26 Try.underlying9 cells_string h with ⟨rfl, _⟩ | ⟨y, n, c, zs, rfl, _, hl, hm, hz, _, hcell, hwz⟩
  · exact ⟨none, 0, [], rfl, Nat.le_refl _, Nat.zero_le _, strs_nil W⟩
  · have hz' : n ≤ zs.length := by rw [hz]; split <;> omega
    have hz2 : zs.length ≤ c := by rw [hz]; split <;> omega
    have hlen : (zs.take n).length = n := by rw [List.length_take]; omega
    refine ⟨some y, c, zs.take n, by rw [hlen], by rw [hlen]; exact hl, hm, ?_⟩
    rw [hlen]
    exact strs_row (c := zs.length) hz' (Nat.le_trans hz2 hm) rfl hcell hwz
theorem ints_arg (h : DataW.trod enc Try.prog W base sp held fuel 25 cs = some x) : ∃ a c l, cs = [.slice a (List.length l) c] ∧ l.length ≤ c ∧ c ≤ maxLen ∧ Ints W a l.length l := by
  rcases open_ints Try.underlying25 Try.underlying3 cells_int h with ⟨rfl, _⟩ | ⟨y, n, c, zs, rfl, _, hl, hm, hz, _, hcell, hwz⟩
  · exact ⟨none, 0, [], rfl, Nat.le_refl _, Nat.zero_le _, ints_nil W⟩
  · have hz' : n ≤ zs.length := by rw [hz]; split <;> omega
    have hz2 : zs.length ≤ c := by rw [hz]; split <;> omega
    have hlen : (zs.take n).length = n := by rw [List.length_take]; omega
    refine ⟨some y, c, zs.take n, by rw [hlen], by rw [hlen]; exact hl, hm, ?_⟩
    rw [hlen]
    exact ints_row (c := zs.length) hz' (Nat.le_trans hz2 hm) rfl hcell hwz
theorem string_arg (h : DataW.trod enc Try.prog W base sp held fuel 9 cs = some x) : ∃ s : ByteArray, cs = [.string s] ∧ s.size ≤ maxLen := by
  obtain ⟨s, h1, _, h2⟩ := DataW.trod_string Try.underlying9 h
  exact ⟨s, h1, h2⟩
theorem int_arg (h : DataW.trod enc Try.prog W base sp held fuel 3 cs = some x) : ∃ n : Int, cs = [.int .i64 n] ∧ In64 n := by
  obtain ⟨n, h1, _, h2⟩ := DataW.trod_int Try.underlying3 h
  exact ⟨n, h1, wf_i64 h2⟩
theorem field_some {xs : List (DataW H × List MemPlace)} {n i : Nat} (h : i < xs.length) {y : Option (DataW H × List MemPlace)} (hy : y = xs[i]?) (_hn : xs.length = n) : ∃ z, y = some z := by
  rw [hy, List.getElem?_eq_getElem h]; exact ⟨_, rfl⟩
theorem party_arg (h : DataW.trod enc Try.prog W base sp held fuel 37 cs = some x) : ∃ (p : PartyM) (ka : Option Addr) (kc : Nat), cs = [.string p.acc, .slice ka p.keys.length kc] ∧ p.acc.size ≤ maxLen ∧ Strs W ka p.keys.length p.keys := by
  obtain ⟨xs, n, _, _, hl, hxs, hf⟩ := DataW.trod_struct Try.underlying37 h
  rw [cells_party] at hl
  obtain ⟨c0, c1, rfl⟩ := list2 hl
  have f0 : DataW.trod enc Try.prog W base sp held n 9 (([c0, c1].drop 0).take (Try.prog.cellsOf 9)) = xs[0]? := hf 0 _ rfl
  rw [cells_string] at f0
  obtain ⟨z0, e0⟩ := field_some (by rw [hxs]; decide) f0 rfl
  have f1 : DataW.trod enc Try.prog W base sp held n 26 (([c0, c1].drop 1).take (Try.prog.cellsOf 26)) = xs[1]? := hf 1 _ rfl
  rw [cells_strs] at f1
  obtain ⟨z1, e1⟩ := field_some (by rw [hxs]; decide) f1 rfl
  obtain ⟨s, hs, hsz⟩ := string_arg e0
  obtain ⟨a, c, l, hk, _, _, hst⟩ := strs_arg e1
  simp at hs hk
  refine ⟨⟨s, l⟩, a, c, ?_, hsz, hst⟩
  rw [hs, hk]
theorem arc_arg (h : DataW.trod enc Try.prog W base sp held fuel 35 cs = some x) : ∃ a : ArcM, cs = [.int .i64 a.src, .int .i64 a.dst, .int .i64 a.ledger, .string a.asset, .int .i64 a.amount] ∧ In64 a.src ∧ In64 a.dst ∧ In64 a.ledger ∧ In64 a.amount ∧ a.asset.size ≤ maxLen := by
  obtain ⟨xs, n, _, _, hl, hxs, hf⟩ := DataW.trod_struct Try.underlying35 h
  rw [cells_arc] at hl
  obtain ⟨c0, c1, c2, c3, c4, rfl⟩ := list5 hl
  have f0 : DataW.trod enc Try.prog W base sp held n 3 (([c0, c1, c2, c3, c4].drop 0).take (Try.prog.cellsOf 3)) = xs[0]? := hf 0 _ rfl
  rw [cells_int] at f0
  obtain ⟨z0, e0⟩ := field_some (by rw [hxs]; decide) f0 rfl
  have f1 : DataW.trod enc Try.prog W base sp held n 3 (([c0, c1, c2, c3, c4].drop 1).take (Try.prog.cellsOf 3)) = xs[1]? := hf 1 _ rfl
  rw [cells_int] at f1
  obtain ⟨z1, e1⟩ := field_some (by rw [hxs]; decide) f1 rfl
  have f2 : DataW.trod enc Try.prog W base sp held n 3 (([c0, c1, c2, c3, c4].drop 2).take (Try.prog.cellsOf 3)) = xs[2]? := hf 2 _ rfl
  rw [cells_int] at f2
  obtain ⟨z2, e2⟩ := field_some (by rw [hxs]; decide) f2 rfl
  have f3 : DataW.trod enc Try.prog W base sp held n 9 (([c0, c1, c2, c3, c4].drop 3).take (Try.prog.cellsOf 9)) = xs[3]? := hf 3 _ rfl
  rw [cells_string] at f3
  obtain ⟨z3, e3⟩ := field_some (by rw [hxs]; decide) f3 rfl
  have f4 : DataW.trod enc Try.prog W base sp held n 3 (([c0, c1, c2, c3, c4].drop 4).take (Try.prog.cellsOf 3)) = xs[4]? := hf 4 _ rfl
  rw [cells_int] at f4
  obtain ⟨z4, e4⟩ := field_some (by rw [hxs]; decide) f4 rfl
  obtain ⟨a, ha, ia⟩ := int_arg e0
  obtain ⟨b, hb, ib⟩ := int_arg e1
  obtain ⟨c, hc, ic⟩ := int_arg e2
  obtain ⟨d, hd, id⟩ := string_arg e3
  obtain ⟨f, hf', jf⟩ := int_arg e4
  simp at ha hb hc hd hf'
  refine ⟨⟨a, b, c, d, f⟩, ?_, ia, ib, ic, jf, id⟩
  rw [ha, hb, hc, hd, hf']
theorem range_get {α : Type} (f : Nat → α) (n j : Nat) (d : α) (h : j < n) : ((List.range n).map f).getD j d = f j := by
  simp [List.getD_eq_getElem?_getD, List.getElem?_range h]
set_option maxRecDepth 10000 in
theorem parties_arg (h : DataW.trod enc Try.prog W base sp held fuel 23 cs = some x) : ∃ a c l, cs = [.slice a (List.length l) c] ∧ l.length ≤ c ∧ c ≤ maxLen ∧ Parties W a l := by
  rcases Go.Deep.open_slice Try.underlying23 h with ⟨rfl, _⟩ | ⟨a, len, cap, m, n, D, Pl, rfl, hb, hl, hm, hmm, _, hx⟩
  · exact ⟨none, 0, [], rfl, Nat.le_refl _, Nat.zero_le _, Nat.zero_le _, fun j hj => absurd hj (by simp)⟩
  · have hlm : len ≤ m := by rw [hmm]; split <;> omega
    have hq : ∀ i, i < len → ∃ p : PartyM, ∃ b o, a = ⟨b, o, none⟩ ∧ PartyAt W b (o + i * 2) p := fun i hi => by
      obtain ⟨cs', h1, h2⟩ := hx i (by omega)
      rw [cells_party] at h1
      obtain ⟨p, ka, kc, rfl, hp, hk⟩ := party_arg h2
      obtain ⟨_, _, hc⟩ := World.cells?_some h1
      have c0 := hc 0 (by omega)
      have c1 := hc 1 (by omega)
      obtain ⟨b, o, spot⟩ := a
      have hspot : spot = none := by
        obtain ⟨cs0, g1, g2⟩ := hx 0 (by omega)
        rw [cells_party] at g1
        obtain ⟨_, g3, g4⟩ := World.cells?_some g1
        have g5 := g4 0 (by omega)
        rw [List.getElem?_eq_getElem (by omega)] at g5
        simpa [Addr.add] using World.cell?_spot g5
      subst hspot
      refine ⟨p, b, o, rfl, hp, ?_, ka, kc, ?_, hk⟩
      · have e : ((⟨b, o, none⟩ : Addr).add (i * 2)).add 0 = ⟨b, o + i * 2, none⟩ := by rw [Go.WideShapes.add_plain, Go.WideShapes.add_plain]; rfl
        rw [← e]; exact c0
      · have e : ((⟨b, o, none⟩ : Addr).add (i * 2)).add 1 = ⟨b, o + i * 2 + 1, none⟩ := by rw [Go.WideShapes.add_plain, Go.WideShapes.add_plain]
        rw [← e]; exact c1
    obtain ⟨f, hf⟩ := @Go.Deep.choose_lt PartyM ⟨noParty⟩ _ _ hq
    refine ⟨some a, cap, (List.range len).map f, by simp, by simpa using hl, hm, by simp; omega, fun j hj => ?_⟩
    have hj' : j < len := by simpa using hj
    obtain ⟨b, o, rfl, hp⟩ := hf j hj'
    exact ⟨b, o, rfl, by rw [range_get _ _ _ _ hj']; exact hp⟩
set_option maxRecDepth 10000 in
theorem arcs_arg (h : DataW.trod enc Try.prog W base sp held fuel 24 cs = some x) : ∃ a c l, cs = [.slice a (List.length l) c] ∧ l.length ≤ c ∧ c ≤ maxLen ∧ Arcs W a l := by
  rcases Go.Deep.open_slice Try.underlying24 h with ⟨rfl, _⟩ | ⟨a, len, cap, m, n, D, Pl, rfl, hb, hl, hm, hmm, _, hx⟩
  · exact ⟨none, 0, [], rfl, Nat.le_refl _, Nat.zero_le _, Nat.zero_le _, fun j hj => absurd hj (by simp)⟩
  · have hlm : len ≤ m := by rw [hmm]; split <;> omega
    have hq : ∀ i, i < len → ∃ p : ArcM, ∃ b o, a = ⟨b, o, none⟩ ∧ ArcAt W b (o + i * 5) p := fun i hi => by
      obtain ⟨cs', h1, h2⟩ := hx i (by omega)
      rw [cells_arc] at h1
      obtain ⟨p, rfl, i1, i2, i3, i4, i5⟩ := arc_arg h2
      obtain ⟨_, _, hc⟩ := World.cells?_some h1
      have c0 := hc 0 (by omega)
      have c1 := hc 1 (by omega)
      have c2 := hc 2 (by omega)
      have c3 := hc 3 (by omega)
      have c4 := hc 4 (by omega)
      obtain ⟨b, o, spot⟩ := a
      have hspot : spot = none := by
        obtain ⟨cs0, g1, g2⟩ := hx 0 (by omega)
        rw [cells_arc] at g1
        obtain ⟨_, g3, g4⟩ := World.cells?_some g1
        have g5 := g4 0 (by omega)
        rw [List.getElem?_eq_getElem (by omega)] at g5
        simpa [Addr.add] using World.cell?_spot g5
      subst hspot
      have e : ∀ k, ((⟨b, o, none⟩ : Addr).add (i * 5)).add k = ⟨b, o + i * 5 + k, none⟩ := fun k => by rw [Go.WideShapes.add_plain, Go.WideShapes.add_plain]
      rw [e] at c0 c1 c2 c3 c4
      exact ⟨p, b, o, rfl, i1, i2, i3, i4, i5, c0, c1, c2, c3, c4⟩
    obtain ⟨f, hf⟩ := @Go.Deep.choose_lt ArcM ⟨noArc⟩ _ _ hq
    refine ⟨some a, cap, (List.range len).map f, by simp, by simpa using hl, hm, by simp; omega, fun j hj => ?_⟩
    have hj' : j < len := by simpa using hj
    obtain ⟨b, o, rfl, hp⟩ := hf j hj'
    exact ⟨b, o, rfl, by rw [range_get _ _ _ _ hj']; exact hp⟩
theorem spec_cells (h : DataW.trod enc Try.prog W base sp held fuel 28 cs = some x) : ∃ s, SpecW W (.agg cs.toArray) s := by
  obtain ⟨xs, n, _, _, hl, hxs, hf⟩ := DataW.trod_struct Try.underlying28 h
  rw [cells_spec] at hl
  obtain ⟨c0, c1, c2, c3, c4, c5, c6, rfl⟩ := list7 hl
  have f0 : DataW.trod enc Try.prog W base sp held n 9 (([c0, c1, c2, c3, c4, c5, c6].drop 0).take (Try.prog.cellsOf 9)) = xs[0]? := hf 0 _ rfl
  rw [cells_string] at f0
  obtain ⟨z0, e0⟩ := field_some (by rw [hxs]; decide) f0 rfl
  have f1 : DataW.trod enc Try.prog W base sp held n 23 (([c0, c1, c2, c3, c4, c5, c6].drop 1).take (Try.prog.cellsOf 23)) = xs[1]? := hf 1 _ rfl
  rw [cells_parties] at f1
  obtain ⟨z1, e1⟩ := field_some (by rw [hxs]; decide) f1 rfl
  have f2 : DataW.trod enc Try.prog W base sp held n 24 (([c0, c1, c2, c3, c4, c5, c6].drop 2).take (Try.prog.cellsOf 24)) = xs[2]? := hf 2 _ rfl
  rw [cells_arcs] at f2
  obtain ⟨z2, e2⟩ := field_some (by rw [hxs]; decide) f2 rfl
  have f3 : DataW.trod enc Try.prog W base sp held n 25 (([c0, c1, c2, c3, c4, c5, c6].drop 3).take (Try.prog.cellsOf 25)) = xs[3]? := hf 3 _ rfl
  rw [cells_ints] at f3
  obtain ⟨z3, e3⟩ := field_some (by rw [hxs]; decide) f3 rfl
  have f4 : DataW.trod enc Try.prog W base sp held n 26 (([c0, c1, c2, c3, c4, c5, c6].drop 4).take (Try.prog.cellsOf 26)) = xs[4]? := hf 4 _ rfl
  rw [cells_strs] at f4
  obtain ⟨z4, e4⟩ := field_some (by rw [hxs]; decide) f4 rfl
  have f5 : DataW.trod enc Try.prog W base sp held n 3 (([c0, c1, c2, c3, c4, c5, c6].drop 5).take (Try.prog.cellsOf 3)) = xs[5]? := hf 5 _ rfl
  rw [cells_int] at f5
  obtain ⟨z5, e5⟩ := field_some (by rw [hxs]; decide) f5 rfl
  have f6 : DataW.trod enc Try.prog W base sp held n 3 (([c0, c1, c2, c3, c4, c5, c6].drop 6).take (Try.prog.cellsOf 3)) = xs[6]? := hf 6 _ rfl
  rw [cells_int] at f6
  obtain ⟨z6, e6⟩ := field_some (by rw [hxs]; decide) f6 rfl
  obtain ⟨s, h0, i0⟩ := string_arg e0
  obtain ⟨a1, k1, P, h1, p1, q1, L1⟩ := parties_arg e1
  obtain ⟨a2, k2, A, h2, p2, q2, L2⟩ := arcs_arg e2
  obtain ⟨a3, k3, l, h3, p3, q3, L3⟩ := ints_arg e3
  obtain ⟨a4, k4, t, h4, p4, q4, L4⟩ := strs_arg e4
  obtain ⟨st, h5, i5⟩ := int_arg e5
  obtain ⟨de, h6, i6⟩ := int_arg e6
  simp at h0 h1 h2 h3 h4 h5 h6
  subst h0 h1 h2 h3 h4 h5 h6
  exact ⟨⟨s, P, A, l, t, st, de⟩, a1, a2, a3, a4, k1, k2, k3, k4, rfl, ⟨i0, L1, L2, L3, L4, i5, i6⟩, p1, q1, p2, q2, p3, q3⟩
end
set_option maxRecDepth 10000 in
/-- A swap among the arguments. -/
theorem spec_arg {H : Type} {enc : TypeId × Value → H} {W : World} {base : Nat} {sp : Nat → Bool} {held : Bool} {r : Reach} {b0 : Nat} {v : Value} {d : DataW H} {ps : List MemPlace} (hval : Value.okWide Try.prog W r b0 28 v) (h : DataW.Trod enc Try.prog W base sp held 28 v d ps) : ∃ s, SpecW W v s := by
  obtain ⟨cs, rfl, _⟩ := okWide_struct Try.underlying28 hval
  obtain ⟨fuel, hf⟩ := h
  obtain ⟨s, hs⟩ := spec_cells hf
  have e : (Value.agg cs).cells.toList.toArray = cs := by show cs.toList.toArray = cs; simp
  rw [e] at hs
  exact ⟨s, hs⟩

end Go.Proofs.Ytdaagjpigcejaaa
