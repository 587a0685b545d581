/-
  The walk of WhenNone.
-/
import Derived.Test.YtidhcnecmelkbabWhLaw
import Derived.Test.YtidhcnecmelkbabZ11
import Derived.Test.YtidhcnecmelkbabYieldV
import Derived.BigQuiet
import Derived.Deep.QuietTactic
namespace Go.Proofs.Ytidhcnecmelkbab
open Go.RowKit

/-- A swap with other cells of its own: as SpecW. -/
theorem wide_set {w : World} {a1 a2 a3 a4 : Option Addr} {c1 c2 c3 c4 : Nat} {s : SpecM} (L : Lies w a1 a2 a3 a4 s) (C : Caps c1 c2 c3 s) (id : ByteArray) (st de : Int) (hid : id.size ≤ maxLen) (hst : In64 st) (hde : In64 de) :
    SpecW w (.agg #[.string id, .slice a1 s.parties.length c1, .slice a2 s.arcs.length c2, .slice a3 s.leaders.length c3, .slice a4 s.locks.length c4, .int .i64 st, .int .i64 de]) { s with id := id, start := st, delta := de } :=
  ⟨a1, a2, a3, a4, c1, c2, c3, c4, rfl, ⟨hid, L.parties, L.arcs, L.leaders, L.locks, hst, hde⟩, C⟩
theorem wide_noarcs {w : World} {a1 a2 a3 a4 : Option Addr} {c1 c2 c3 c4 : Nat} {s : SpecM} (L : Lies w a1 a2 a3 a4 s) (C : Caps c1 c2 c3 s) :
    SpecW w (.agg #[.string s.id, .slice a1 s.parties.length c1, .slice none 0 0, .slice a3 s.leaders.length c3, .slice a4 s.locks.length c4, .int .i64 s.start, .int .i64 s.delta]) { s with arcs := [] } := by
  refine ⟨a1, none, a3, a4, c1, 0, c3, c4, rfl, ⟨L.id, L.parties, ⟨by simp, fun j hj => absurd hj (by simp)⟩, L.leaders, L.locks, L.start, L.delta⟩, ?_⟩
  obtain ⟨h1, h2, h3, h4, h5, h6⟩ := C
  exact ⟨h1, h2, by simp, by simp, h5, h6⟩
/-- One cell of a swap in a variable is written. -/
theorem wpList_setV {ops : Array Oper} {rest : List Oper} {o : Oper} {a : Act} {w : World} {Q : Exit → Act → World → Prop} (hgd : o.guard = none) (ty : TypeId) (x y : Operand) (ho : o.op = .store ty x y)
    (g off : Nat) (v : Value) (l : List Value) (hx : a.eval x = .pointer (some ⟨g, off, none⟩)) (hy : a.eval y = v) (hv : v.cells = #[v]) (hi : (Try.prog.info? ty).map (·.size) = some 1) (hg : SvAt w g l.toArray) (hoff : off + 1 ≤ l.length) (h1 : v.oneCell' = true)
    (h : ∀ w1, SvAt w1 g (l.take off ++ [v] ++ l.drop (off + 1)).toArray → w1.heap.size = w.heap.size → But g w w1 → wpList Try.prog ops Q rest (a.put o.dst undef) w1) : wpList Try.prog ops Q (o :: rest) a w :=
  wpList_splice hgd ty x y ho g off #[v] v hx hy hv 28 l hg hi hoff (by intro u hu; simp at hu; subst hu; exact h1) (fun w1 hc hz hb => h w1 hc hz hb)

set_option maxRecDepth 10000 in
set_option maxHeartbeats 4000000 in
theorem none_any (a0 a1 a2 : Int) (_h0 : (Lit.int .i64 a0).wf = true) (_h1 : (Lit.int .i64 a1).wf = true) (_h2 : (Lit.int .i64 a2).wf = true) (w : World) : Calls Try.prog 8 #[.int .i64 a0, .int .i64 a1, .int .i64 a2] w fun e w' => e = .returned (.bool true) ∧ Below w.heap.size w w' := by
  obtain ⟨j, hj, HP0⟩ := place_ex a0 5 (by omega) (by omega)
  obtain ⟨h, hh, HP1⟩ := place_ex a1 5 (by omega) (by omega)
  obtain ⟨S, hS, hok⟩ : ∃ S, S = ringM (2 + j) 5 6 ∧ specOk S := ⟨_, rfl, ring_ok (2 + j) (by omega) (by omega) _ _ (by omega) (by omega) (by omega) (by omega)⟩
  have HR : ∀ W, Calls Try.prog 10 #[.int .i64 (2 + (j : Int)), .int .i64 5, .int .i64 6] W fun e w' => ∃ v, e = .returned v ∧ OwnSpec w' W.heap.size v S ∧ Below W.heap.size W w' := fun W => by
    rw [hS]; have := ring_any (2 + j) (by omega) (by omega) 5 6 W; push_cast at this; exact this
  have hsane := SaneS.of_ok hok
  have hn : S.parties.length = 2 + j := by rw [hS, ring_np]
  have hE : 5 + 12 * (2 + (j : Int)) = endM S := by unfold endM; rw [hn, hS]; show _ = (5 : Int) + 2 * ((2 + j : Nat) : Int) * 6; push_cast; omega
  have HEnd : Hid (∀ W v, SpecW W v S → Calls Try.prog 25 #[v] W fun e w' => e = .returned (.int .i64 (5 + 12 * (2 + (j : Int)))) ∧ Below W.heap.size W w') := fun W v hv => when_end hv (by omega) _ (fun _ => hE) (fun h => absurd hok h)
  clear hS hE _h0 _h1 _h2
  obtain ⟨q, hq⟩ : ∃ q, 5 + 12 * (2 + (j : Int)) = q := ⟨_, rfl⟩
  rw [hq] at HEnd
  replace HR := hide HR
  replace HP1 := hide HP1
  replace hok := hide hok
  obtain ⟨g0, hg0⟩ : ∃ g, w.heap.size = g := ⟨_, rfl⟩
  go_enter Try.func8, Try.ntmps8
  go_wp2_with fail
  refine (HP0 _).mono ?_
  rintro e w0 ⟨rfl, hw0⟩
  subst w0
  go_wp2_with fail
  refine (HR.out _).mono ?_
  rintro e w1 ⟨v, rfl, hO1, hb1⟩
  have hW1 := hO1.wide hsane
  obtain ⟨a1', a2', a3', a4', c1, c2, c3, c4, hv, LI, CA⟩ := hW1
  subst hv
  clear hO1 HR HP0
  go_upto_region 2 with ((with_reducible refine wpList_at ?_); refine wpList_varS (by rfl) (by rfl) (by rfl) (.tmp 7) (.tmp 11) (by rfl) _ (by rfl) (by rfl) (cells7_seven ..) ?_; intro w2 hv2 hz2 hb2)
  have hB2 : Below g0 w w2 := by rw [← hg0]; exact below_then hb1 hb2
  have L2 := LI.below hb2
  have HLI := hide LI
  have hb12 := hide hb2
  obtain ⟨g, hg⟩ : ∃ g, w1.heap.size = g := ⟨_, rfl⟩
  rw [hg] at hv2 hz2 ⊢
  have hgg : g0 ≤ g := by have := hb1.size; omega
  obtain ⟨x0, x1, x2, x3, x4, x5, x6⟩ := cells7_at hv2
  have HE1 : Hid (∀ W, Below w2.heap.size w2 W → Calls Try.prog 25 #[.agg (cells7 a1' a2' a3' a4' c1 c2 c3 c4 S)] W fun e w' => e = .returned (.int .i64 q) ∧ Below W.heap.size W w') := fun W hW => HEnd.out W _ ⟨_, _, _, _, _, _, _, _, rfl, L2.below hW, CA⟩
  have hl7 := cells7_seven a1' a2' a3' a4' c1 c2 c3 c4 S
  have HG1 := hide hg
  clear HEnd LI hb1 hb2 hg x0 x2 x3 x4 x5 x6
  have hnp : S.parties.length ≤ 1000 := by omega
  obtain ⟨m, hm⟩ : ∃ m, S.parties.length = m := ⟨_, rfl⟩
  have hw1 : IntKind.i64.wrap (12 * (m : Int)) = 12 * (m : Int) := wrap_i64 (by omega) (by omega)
  have hw2 : IntKind.i64.wrap (5 + 12 * (m : Int)) = q := by rw [wrap_i64 (by omega) (by omega)]; omega
  rw [hm] at x1
  have hRw : Below w2.heap.size w2 w2.drew := ⟨rfl, rfl, rfl, Nat.le_refl _, fun _ _ => rfl⟩
  refine wp_region_held_drew (S := fun W => Below w2.heap.size w2 W) (by kernel_rfl) hRw (fun hHeld => ?_)
  refine wpAnyH_take (i := 0) (oi := { dst := some 12, op := Op.load 28 (Operand.tmp 7), type := 28, pos := "outright.go:12", after := #[], guard := none }) (v := .agg (cells7 a1' a2' a3' a4' c1 c2 c3 c4 S)) rfl (by kernel_rfl) (by kernel_rfl) (by kernel_rfl) (fun _ _ _ h => h) (yields_loadV (by rfl) (.tmp 7) (by rfl) _ (cells7 a1' a2' a3' a4' c1 c2 c3 c4 S) (by rfl) hl7 (fun W hW => hv2.below hW)) (by assumption) ?_
  try simp only [Act.put, List.setIfInBounds_toArray, List.set_cons_zero, List.set_cons_succ]
  refine wpAnyH_take (i := 2) (oi := { dst := some 14, op := Op.fieldAddr 28 (Operand.tmp 7) 1, type := 0, pos := "outright.go:12", after := #[], guard := none }) (v := ?_) rfl (by kernel_rfl) (by kernel_rfl) (by kernel_rfl) (fun _ _ _ h => h) (Or.inl ⟨by rfl, ?_⟩) (by assumption) ?_
  rotate_left
  · intro W hSW; first | (go_simp; done) | (go_simp; with_reducible rfl)
  try simp only [Act.put, List.setIfInBounds_toArray, List.set_cons_zero, List.set_cons_succ]
  refine wpAnyH_take (i := 3) (oi := { dst := some 15, op := Op.load 23 (Operand.tmp 14), type := 23, pos := "outright.go:12", after := #[{ on := 2, ground := Ground.data }], guard := none }) (v := ?_) rfl (by kernel_rfl) (by kernel_rfl) (by kernel_rfl) (fun _ _ _ h => h) (Or.inl ⟨by rfl, ?_⟩) (by assumption) ?_
  rotate_left
  · intro W hSW; have z0 := cell_on hSW x1; first | (go_simp; done) | (go_simp; with_reducible rfl)
  try simp only [Act.put, List.setIfInBounds_toArray, List.set_cons_zero, List.set_cons_succ]
  refine wpAnyH_take (i := 4) (oi := { dst := some 16, op := Op.call { callee := Callee.builtin Builtin.len, args := #[Operand.tmp 15], argTypes := #[23] }, type := 3, pos := "outright.go:12", after := #[{ on := 3, ground := Ground.data }], guard := none }) (v := ?_) rfl (by kernel_rfl) (by kernel_rfl) (by kernel_rfl) (fun _ _ _ h => h) (Or.inl ⟨by rfl, ?_⟩) (by assumption) ?_
  rotate_left
  · intro W hSW; first | (go_simp; done) | (go_simp; with_reducible rfl)
  try simp only [Act.put, List.setIfInBounds_toArray, List.set_cons_zero, List.set_cons_succ]
  refine wpAnyH_take (i := 5) (oi := { dst := some 17, op := Op.binOp BinOp.mul 3 (Operand.const (Value.int IntKind.i64 12)) (Operand.tmp 16) 3, type := 3, pos := "outright.go:12", after := #[{ on := 4, ground := Ground.data }], guard := none }) (v := ?_) rfl (by kernel_rfl) (by kernel_rfl) (by kernel_rfl) (fun _ _ _ h => h) (Or.inl ⟨by rfl, ?_⟩) (by assumption) ?_
  rotate_left
  · intro W hSW; first | (go_simp; done) | (go_simp; with_reducible rfl)
  try simp only [Act.put, List.setIfInBounds_toArray, List.set_cons_zero, List.set_cons_succ]
  refine wpAnyH_take (i := 6) (oi := { dst := some 18, op := Op.binOp BinOp.add 3 (Operand.const (Value.int IntKind.i64 5)) (Operand.tmp 17) 3, type := 3, pos := "outright.go:12", after := #[{ on := 5, ground := Ground.data }], guard := none }) (v := ?_) rfl (by kernel_rfl) (by kernel_rfl) (by kernel_rfl) (fun _ _ _ h => h) (Or.inl ⟨by rfl, ?_⟩) (by assumption) ?_
  rotate_left
  · intro W hSW; first | (go_simp; done) | (go_simp; with_reducible rfl)
  try simp only [Act.put, List.setIfInBounds_toArray, List.set_cons_zero, List.set_cons_succ]
  refine wpAnyH_lone (R := fun W => Below w2.heap.size w2 W) (i := 1) (oi := { dst := some 13, op := Op.call { callee := Callee.value (Operand.func 25), args := #[Operand.tmp 12], argTypes := #[28] }, type := 3, pos := "outright.go:12", after := #[{ on := 0, ground := Ground.data }], guard := none }) (vi := .int .i64 q) (by kernel_rfl) rfl hRw (fun _ h => h) ?_ ?_
  · intro W hW K hK
    go_simp
    refine (HE1.out W hW).mono ?_
    rintro e W2 ⟨rfl, hb⟩
    go_wp2_with fail
    exact hK.out _ (below_then hW hb)
  clear hRw hHeld
  intro W9 hRw hHeld
  try simp only [Act.put, List.setIfInBounds_toArray, List.set_cons_zero, List.set_cons_succ]
  refine wpAnyH_take (i := 7) (oi := { dst := some 19, op := Op.binOp BinOp.neq 3 (Operand.tmp 13) (Operand.tmp 18) 3, type := 4, pos := "outright.go:12", after := #[{ on := 1, ground := Ground.data }, { on := 6, ground := Ground.data }], guard := none }) (v := ?_) rfl (by kernel_rfl) (by kernel_rfl) (by kernel_rfl) (fun _ _ _ h => h) (Or.inl ⟨by rfl, ?_⟩) (by assumption) ?_
  rotate_left
  · intro W hSW; first | (go_simp; done) | (go_simp; with_reducible rfl)
  try simp only [Act.put, List.setIfInBounds_toArray, List.set_cons_zero, List.set_cons_succ]
  refine wpAnyH_done (by kernel_rfl) ?_ _
  have hq0 : (q != q) = false := by simp
  have hx9 := hv2.below hRw
  have hB19 : Hid (Below g w1 W9) := by have h8 := hb12.out; rw [HG1.out] at h8; exact h8.trans (hRw.mono (by have := hv2.lt; omega))
  have hB9 : Below g0 w W9 := hB2.trans (hRw.mono (by have := hv2.lt; omega))
  clear hRw hHeld hv2 L2 hB2 x1 hw1 hw2 HE1 hz2 hm hq
  have HAW : Hid (∀ W, Calls Try.prog 20 #[] W fun e w' => e = .returned (.bool true) ∧ Below W.heap.size W w') := awake6_any
  have hsane' := hide hsane
  clear hsane
  go_wp2_with fail
  refine (HP1.out _).mono ?_
  rintro e w0 ⟨rfl, hw0⟩
  subst w0
  clear HP1
  have hv9 : SvAt W9 g [Value.string S.id, .slice a1' S.parties.length c1, .slice a2' S.arcs.length c2, .slice a3' S.leaders.length c3, .slice a4' S.locks.length c4, .int .i64 S.start, .int .i64 S.delta].toArray := hx9
  clear hx9
  have hcase : h = 0 ∨ h = 1 ∨ h = 2 ∨ h = 3 ∨ h = 4 := by omega
  rcases hcase with rfl | rfl | rfl | rfl | rfl
  · go_wp2_with ((with_reducible refine wpList_at ?_); refine wpList_setV (by rfl) 3 (.tmp 25) (.const (.int .i64 0)) (by rfl) g 6 (Value.int .i64 0) [Value.string S.id, .slice a1' S.parties.length c1, .slice a2' S.arcs.length c2, .slice a3' S.leaders.length c3, .slice a4' S.locks.length c4, .int .i64 S.start, .int .i64 S.delta] (by rfl) (by rfl) (by rfl) (by kernel_rfl) hv9 (by simp) (by rfl) ?_; intro w5 hv5 hz5 hb5; refine Hid.out ?_)
    unfold Hid
    have hv5 : SvAt w5 g #[.string S.id, .slice a1' S.parties.length c1, .slice a2' S.arcs.length c2, .slice a3' S.leaders.length c3, .slice a4' S.locks.length c4, .int .i64 S.start, .int .i64 0] := hv5
    have h75 : Seven #[.string S.id, .slice a1' S.parties.length c1, .slice a2' S.arcs.length c2, .slice a3' S.leaders.length c3, .slice a4' S.locks.length c4, .int .i64 S.start, .int .i64 0] := ⟨rfl, fun u hu => by simp at hu; rcases hu with rfl | rfl | rfl | rfl | rfl | rfl | rfl <;> rfl⟩
    have L9 := HLI.out.below (w' := w5) (by rw [HG1.out]; exact hB19.out.trans (hb5.below (Nat.le_refl _) (by have := hv9.lt; omega)))
    have hWW : SpecW w5 (.agg #[.string S.id, .slice a1' S.parties.length c1, .slice a2' S.arcs.length c2, .slice a3' S.leaders.length c3, .slice a4' S.locks.length c4, .int .i64 S.start, .int .i64 0]) _ := wide_set L9 CA S.id S.start 0 L9.id L9.start (by unfold In64; omega)
    generalize (#[.string S.id, .slice a1' S.parties.length c1, .slice a2' S.arcs.length c2, .slice a3' S.leaders.length c3, .slice a4' S.locks.length c4, .int .i64 S.start, .int .i64 0] : Array Value) = cs at hv5 h75 hWW
    have hW5 : SpecW w5 (.agg cs) ({ S with id := S.id, start := S.start, delta := 0 }) := hWW
    have hnp5 : ({ S with id := S.id, start := S.start, delta := 0 }).parties.length ≤ 1000 := hnp
    have hbad : ¬ specOk ({ S with id := S.id, start := S.start, delta := 0 }) := fun h => by have : (1 : Int) ≤ 0 := h.2.2.2.2.2.2.1; omega
    generalize ({ S with id := S.id, start := S.start, delta := 0 }) = S5 at hW5 hbad hnp5
    have hB5 : Below g0 w w5 := hB9.trans (hb5.below hgg (by have := hv9.lt; omega))
    have HA1 : Hid (∀ W, Below w5.heap.size w5 W → Calls Try.prog 25 #[.agg cs] W fun e w' => e = .returned (.int .i64 0) ∧ Below W.heap.size W w') := fun W hW => when_end (hW5.below hW) hnp5 0 (fun h => absurd h hbad) (fun _ => rfl)
    have HA2 : Hid (∀ W, Below w5.heap.size w5 W → Calls Try.prog 23 #[.agg cs] W fun e w' => e = .returned (.int .i64 0) ∧ Below W.heap.size W w') := fun W hW => when_last (hW5.below hW) 0 (fun h => absurd h hbad) (fun _ => rfl)
    have HA3 : Hid (∀ W, Below w5.heap.size w5 W → Calls Try.prog 21 #[.agg cs, .int .i64 a2] W fun e w' => e = .returned (.int .i64 0) ∧ Below W.heap.size W w') := fun W hW => when_dead (hW5.below hW) a2 0 (fun h => absurd h hbad) (fun _ => rfl)
    have HA4 : Hid (∀ W, Below w5.heap.size w5 W → Calls Try.prog 28 #[.agg cs] W fun e w' => ∃ a c, e = .returned (.slice a 0 c) ∧ Ints w' a 0 [] ∧ Below W.heap.size W w') := fun W hW => when_table (hW5.below hW) [] (fun h => absurd h hbad) (fun _ => rfl)
    clear hW5 hWW hbad hnp5 hv9 hB9 hb5 L9
    have hR0 := Below.refl w5.heap.size w5
    go_wp2_with ((with_reducible refine wpList_at ?_); refine wpList_loadV (by rfl) (.tmp 7) (by rfl) _ cs (by rfl) hv5 h75 ?_)
    refine (HA1.out _ hR0).mono ?_
    rintro e w6 ⟨rfl, hb6⟩
    have hR6 := below_then hR0 hb6
    have hv6 := hv5.below hR6
    clear hb6 HA1
    go_wp2_with ((with_reducible refine wpList_at ?_); refine wpList_loadV (by rfl) (.tmp 7) (by rfl) _ cs (by rfl) hv6 h75 ?_)
    refine (HA2.out _ hR6).mono ?_
    rintro e w7 ⟨rfl, hb7⟩
    have hR7 := below_then hR6 hb7
    have hv7 := hv5.below hR7
    clear hb7 hv6 hR6 HA2
    go_wp2_with ((with_reducible refine wpList_at ?_); refine wpList_loadV (by rfl) (.tmp 7) (by rfl) _ cs (by rfl) hv7 h75 ?_)
    refine (HA3.out _ hR7).mono ?_
    rintro e w8 ⟨rfl, hb8⟩
    have hR8 := below_then hR7 hb8
    have hv8 := hv5.below hR8
    clear hb8 hv7 hR7 HA3
    go_wp2_with ((with_reducible refine wpList_at ?_); refine wpList_loadV (by rfl) (.tmp 7) (by rfl) _ cs (by rfl) hv8 h75 ?_)
    refine (HA4.out _ hR8).mono ?_
    rintro e w10 ⟨ta, tc, rfl, hI10, hb10⟩
    have hR10 := below_then hR8 hb10
    clear hb10 hv8 hR8 HA4 hI10
    go_wp2_with fail
    refine (HAW.out _).mono ?_
    rintro e w11 ⟨rfl, hb11⟩
    have hR11 := below_then hR10 hb11
    go_wp2
    go_ret
    exact ⟨rfl, by rw [hg0]; exact hB5.trans (hR11.mono (by have := hv5.lt; omega))⟩
  · go_wp2_with ((with_reducible refine wpList_at ?_); refine wpList_setV (by rfl) 3 (.tmp 28) (.const (.int .i64 (-1))) (by rfl) g 5 (Value.int .i64 (-1)) [Value.string S.id, .slice a1' S.parties.length c1, .slice a2' S.arcs.length c2, .slice a3' S.leaders.length c3, .slice a4' S.locks.length c4, .int .i64 S.start, .int .i64 S.delta] (by rfl) (by rfl) (by rfl) (by kernel_rfl) hv9 (by simp) (by rfl) ?_; intro w5 hv5 hz5 hb5; refine Hid.out ?_)
    unfold Hid
    have hv5 : SvAt w5 g #[.string S.id, .slice a1' S.parties.length c1, .slice a2' S.arcs.length c2, .slice a3' S.leaders.length c3, .slice a4' S.locks.length c4, .int .i64 (-1), .int .i64 S.delta] := hv5
    have h75 : Seven #[.string S.id, .slice a1' S.parties.length c1, .slice a2' S.arcs.length c2, .slice a3' S.leaders.length c3, .slice a4' S.locks.length c4, .int .i64 (-1), .int .i64 S.delta] := ⟨rfl, fun u hu => by simp at hu; rcases hu with rfl | rfl | rfl | rfl | rfl | rfl | rfl <;> rfl⟩
    have L9 := HLI.out.below (w' := w5) (by rw [HG1.out]; exact hB19.out.trans (hb5.below (Nat.le_refl _) (by have := hv9.lt; omega)))
    have hWW : SpecW w5 (.agg #[.string S.id, .slice a1' S.parties.length c1, .slice a2' S.arcs.length c2, .slice a3' S.leaders.length c3, .slice a4' S.locks.length c4, .int .i64 (-1), .int .i64 S.delta]) _ := wide_set L9 CA S.id (-1) S.delta L9.id (by unfold In64; omega) L9.delta
    generalize (#[.string S.id, .slice a1' S.parties.length c1, .slice a2' S.arcs.length c2, .slice a3' S.leaders.length c3, .slice a4' S.locks.length c4, .int .i64 (-1), .int .i64 S.delta] : Array Value) = cs at hv5 h75 hWW
    have hW5 : SpecW w5 (.agg cs) ({ S with id := S.id, start := -1, delta := S.delta }) := hWW
    have hnp5 : ({ S with id := S.id, start := -1, delta := S.delta }).parties.length ≤ 1000 := hnp
    have hbad : ¬ specOk ({ S with id := S.id, start := -1, delta := S.delta }) := fun h => by have : (0 : Int) ≤ -1 := h.2.2.2.2.1; omega
    generalize ({ S with id := S.id, start := -1, delta := S.delta }) = S5 at hW5 hbad hnp5
    have hB5 : Below g0 w w5 := hB9.trans (hb5.below hgg (by have := hv9.lt; omega))
    have HA1 : Hid (∀ W, Below w5.heap.size w5 W → Calls Try.prog 25 #[.agg cs] W fun e w' => e = .returned (.int .i64 0) ∧ Below W.heap.size W w') := fun W hW => when_end (hW5.below hW) hnp5 0 (fun h => absurd h hbad) (fun _ => rfl)
    have HA2 : Hid (∀ W, Below w5.heap.size w5 W → Calls Try.prog 23 #[.agg cs] W fun e w' => e = .returned (.int .i64 0) ∧ Below W.heap.size W w') := fun W hW => when_last (hW5.below hW) 0 (fun h => absurd h hbad) (fun _ => rfl)
    have HA3 : Hid (∀ W, Below w5.heap.size w5 W → Calls Try.prog 21 #[.agg cs, .int .i64 a2] W fun e w' => e = .returned (.int .i64 0) ∧ Below W.heap.size W w') := fun W hW => when_dead (hW5.below hW) a2 0 (fun h => absurd h hbad) (fun _ => rfl)
    have HA4 : Hid (∀ W, Below w5.heap.size w5 W → Calls Try.prog 28 #[.agg cs] W fun e w' => ∃ a c, e = .returned (.slice a 0 c) ∧ Ints w' a 0 [] ∧ Below W.heap.size W w') := fun W hW => when_table (hW5.below hW) [] (fun h => absurd h hbad) (fun _ => rfl)
    clear hW5 hWW hbad hnp5 hv9 hB9 hb5 L9
    have hR0 := Below.refl w5.heap.size w5
    go_wp2_with ((with_reducible refine wpList_at ?_); refine wpList_loadV (by rfl) (.tmp 7) (by rfl) _ cs (by rfl) hv5 h75 ?_)
    refine (HA1.out _ hR0).mono ?_
    rintro e w6 ⟨rfl, hb6⟩
    have hR6 := below_then hR0 hb6
    have hv6 := hv5.below hR6
    clear hb6 HA1
    go_wp2_with ((with_reducible refine wpList_at ?_); refine wpList_loadV (by rfl) (.tmp 7) (by rfl) _ cs (by rfl) hv6 h75 ?_)
    refine (HA2.out _ hR6).mono ?_
    rintro e w7 ⟨rfl, hb7⟩
    have hR7 := below_then hR6 hb7
    have hv7 := hv5.below hR7
    clear hb7 hv6 hR6 HA2
    go_wp2_with ((with_reducible refine wpList_at ?_); refine wpList_loadV (by rfl) (.tmp 7) (by rfl) _ cs (by rfl) hv7 h75 ?_)
    refine (HA3.out _ hR7).mono ?_
    rintro e w8 ⟨rfl, hb8⟩
    have hR8 := below_then hR7 hb8
    have hv8 := hv5.below hR8
    clear hb8 hv7 hR7 HA3
    go_wp2_with ((with_reducible refine wpList_at ?_); refine wpList_loadV (by rfl) (.tmp 7) (by rfl) _ cs (by rfl) hv8 h75 ?_)
    refine (HA4.out _ hR8).mono ?_
    rintro e w10 ⟨ta, tc, rfl, hI10, hb10⟩
    have hR10 := below_then hR8 hb10
    clear hb10 hv8 hR8 HA4 hI10
    go_wp2_with fail
    refine (HAW.out _).mono ?_
    rintro e w11 ⟨rfl, hb11⟩
    have hR11 := below_then hR10 hb11
    go_wp2
    go_ret
    exact ⟨rfl, by rw [hg0]; exact hB5.trans (hR11.mono (by have := hv5.lt; omega))⟩
  · go_wp2_with ((with_reducible refine wpList_at ?_); refine wpList_setV (by rfl) 9 (.tmp 31) (.const (.string ⟨#[]⟩)) (by rfl) g 0 (Value.string ⟨#[]⟩) [Value.string S.id, .slice a1' S.parties.length c1, .slice a2' S.arcs.length c2, .slice a3' S.leaders.length c3, .slice a4' S.locks.length c4, .int .i64 S.start, .int .i64 S.delta] (by rfl) (by rfl) (by rfl) (by kernel_rfl) hv9 (by simp) (by rfl) ?_; intro w5 hv5 hz5 hb5; refine Hid.out ?_)
    unfold Hid
    have hv5 : SvAt w5 g #[.string ⟨#[]⟩, .slice a1' S.parties.length c1, .slice a2' S.arcs.length c2, .slice a3' S.leaders.length c3, .slice a4' S.locks.length c4, .int .i64 S.start, .int .i64 S.delta] := hv5
    have h75 : Seven #[.string ⟨#[]⟩, .slice a1' S.parties.length c1, .slice a2' S.arcs.length c2, .slice a3' S.leaders.length c3, .slice a4' S.locks.length c4, .int .i64 S.start, .int .i64 S.delta] := ⟨rfl, fun u hu => by simp at hu; rcases hu with rfl | rfl | rfl | rfl | rfl | rfl | rfl <;> rfl⟩
    have L9 := HLI.out.below (w' := w5) (by rw [HG1.out]; exact hB19.out.trans (hb5.below (Nat.le_refl _) (by have := hv9.lt; omega)))
    have hWW : SpecW w5 (.agg #[.string ⟨#[]⟩, .slice a1' S.parties.length c1, .slice a2' S.arcs.length c2, .slice a3' S.leaders.length c3, .slice a4' S.locks.length c4, .int .i64 S.start, .int .i64 S.delta]) _ := wide_set L9 CA ⟨#[]⟩ S.start S.delta (by decide) L9.start L9.delta
    generalize (#[.string ⟨#[]⟩, .slice a1' S.parties.length c1, .slice a2' S.arcs.length c2, .slice a3' S.leaders.length c3, .slice a4' S.locks.length c4, .int .i64 S.start, .int .i64 S.delta] : Array Value) = cs at hv5 h75 hWW
    have hW5 : SpecW w5 (.agg cs) ({ S with id := ⟨#[]⟩, start := S.start, delta := S.delta }) := hWW
    have hnp5 : ({ S with id := ⟨#[]⟩, start := S.start, delta := S.delta }).parties.length ≤ 1000 := hnp
    have hbad : ¬ specOk ({ S with id := ⟨#[]⟩, start := S.start, delta := S.delta }) := fun h => by have : 1 ≤ (0 : Nat) := h.1.1; omega
    generalize ({ S with id := ⟨#[]⟩, start := S.start, delta := S.delta }) = S5 at hW5 hbad hnp5
    have hB5 : Below g0 w w5 := hB9.trans (hb5.below hgg (by have := hv9.lt; omega))
    have HA1 : Hid (∀ W, Below w5.heap.size w5 W → Calls Try.prog 25 #[.agg cs] W fun e w' => e = .returned (.int .i64 0) ∧ Below W.heap.size W w') := fun W hW => when_end (hW5.below hW) hnp5 0 (fun h => absurd h hbad) (fun _ => rfl)
    have HA2 : Hid (∀ W, Below w5.heap.size w5 W → Calls Try.prog 23 #[.agg cs] W fun e w' => e = .returned (.int .i64 0) ∧ Below W.heap.size W w') := fun W hW => when_last (hW5.below hW) 0 (fun h => absurd h hbad) (fun _ => rfl)
    have HA3 : Hid (∀ W, Below w5.heap.size w5 W → Calls Try.prog 21 #[.agg cs, .int .i64 a2] W fun e w' => e = .returned (.int .i64 0) ∧ Below W.heap.size W w') := fun W hW => when_dead (hW5.below hW) a2 0 (fun h => absurd h hbad) (fun _ => rfl)
    have HA4 : Hid (∀ W, Below w5.heap.size w5 W → Calls Try.prog 28 #[.agg cs] W fun e w' => ∃ a c, e = .returned (.slice a 0 c) ∧ Ints w' a 0 [] ∧ Below W.heap.size W w') := fun W hW => when_table (hW5.below hW) [] (fun h => absurd h hbad) (fun _ => rfl)
    clear hW5 hWW hbad hnp5 hv9 hB9 hb5 L9
    have hR0 := Below.refl w5.heap.size w5
    go_wp2_with ((with_reducible refine wpList_at ?_); refine wpList_loadV (by rfl) (.tmp 7) (by rfl) _ cs (by rfl) hv5 h75 ?_)
    refine (HA1.out _ hR0).mono ?_
    rintro e w6 ⟨rfl, hb6⟩
    have hR6 := below_then hR0 hb6
    have hv6 := hv5.below hR6
    clear hb6 HA1
    go_wp2_with ((with_reducible refine wpList_at ?_); refine wpList_loadV (by rfl) (.tmp 7) (by rfl) _ cs (by rfl) hv6 h75 ?_)
    refine (HA2.out _ hR6).mono ?_
    rintro e w7 ⟨rfl, hb7⟩
    have hR7 := below_then hR6 hb7
    have hv7 := hv5.below hR7
    clear hb7 hv6 hR6 HA2
    go_wp2_with ((with_reducible refine wpList_at ?_); refine wpList_loadV (by rfl) (.tmp 7) (by rfl) _ cs (by rfl) hv7 h75 ?_)
    refine (HA3.out _ hR7).mono ?_
    rintro e w8 ⟨rfl, hb8⟩
    have hR8 := below_then hR7 hb8
    have hv8 := hv5.below hR8
    clear hb8 hv7 hR7 HA3
    go_wp2_with ((with_reducible refine wpList_at ?_); refine wpList_loadV (by rfl) (.tmp 7) (by rfl) _ cs (by rfl) hv8 h75 ?_)
    refine (HA4.out _ hR8).mono ?_
    rintro e w10 ⟨ta, tc, rfl, hI10, hb10⟩
    have hR10 := below_then hR8 hb10
    clear hb10 hv8 hR8 HA4 hI10
    go_wp2_with fail
    refine (HAW.out _).mono ?_
    rintro e w11 ⟨rfl, hb11⟩
    have hR11 := below_then hR10 hb11
    go_wp2
    go_ret
    exact ⟨rfl, by rw [hg0]; exact hB5.trans (hR11.mono (by have := hv5.lt; omega))⟩
  · go_wp2_with ((with_reducible refine wpList_at ?_); refine wpList_setV (by rfl) 24 (.tmp 34) (.const (.slice none 0 0)) (by rfl) g 2 (Value.slice none 0 0) [Value.string S.id, .slice a1' S.parties.length c1, .slice a2' S.arcs.length c2, .slice a3' S.leaders.length c3, .slice a4' S.locks.length c4, .int .i64 S.start, .int .i64 S.delta] (by rfl) (by rfl) (by rfl) (by kernel_rfl) hv9 (by simp) (by rfl) ?_; intro w5 hv5 hz5 hb5; refine Hid.out ?_)
    unfold Hid
    have hv5 : SvAt w5 g #[.string S.id, .slice a1' S.parties.length c1, .slice none 0 0, .slice a3' S.leaders.length c3, .slice a4' S.locks.length c4, .int .i64 S.start, .int .i64 S.delta] := hv5
    have h75 : Seven #[.string S.id, .slice a1' S.parties.length c1, .slice none 0 0, .slice a3' S.leaders.length c3, .slice a4' S.locks.length c4, .int .i64 S.start, .int .i64 S.delta] := ⟨rfl, fun u hu => by simp at hu; rcases hu with rfl | rfl | rfl | rfl | rfl | rfl | rfl <;> rfl⟩
    have L9 := HLI.out.below (w' := w5) (by rw [HG1.out]; exact hB19.out.trans (hb5.below (Nat.le_refl _) (by have := hv9.lt; omega)))
    have hWW : SpecW w5 (.agg #[.string S.id, .slice a1' S.parties.length c1, .slice none 0 0, .slice a3' S.leaders.length c3, .slice a4' S.locks.length c4, .int .i64 S.start, .int .i64 S.delta]) _ := wide_noarcs L9 CA
    generalize (#[.string S.id, .slice a1' S.parties.length c1, .slice none 0 0, .slice a3' S.leaders.length c3, .slice a4' S.locks.length c4, .int .i64 S.start, .int .i64 S.delta] : Array Value) = cs at hv5 h75 hWW
    have hW5 : SpecW w5 (.agg cs) ({ S with arcs := [] }) := hWW
    have hnp5 : ({ S with arcs := [] }).parties.length ≤ 1000 := hnp
    have hbad : ¬ specOk ({ S with arcs := [] }) := fun h => by have : 1 ≤ (0 : Nat) := h.2.2.2.1.1; omega
    generalize ({ S with arcs := [] }) = S5 at hW5 hbad hnp5
    have hB5 : Below g0 w w5 := hB9.trans (hb5.below hgg (by have := hv9.lt; omega))
    have HA1 : Hid (∀ W, Below w5.heap.size w5 W → Calls Try.prog 25 #[.agg cs] W fun e w' => e = .returned (.int .i64 0) ∧ Below W.heap.size W w') := fun W hW => when_end (hW5.below hW) hnp5 0 (fun h => absurd h hbad) (fun _ => rfl)
    have HA2 : Hid (∀ W, Below w5.heap.size w5 W → Calls Try.prog 23 #[.agg cs] W fun e w' => e = .returned (.int .i64 0) ∧ Below W.heap.size W w') := fun W hW => when_last (hW5.below hW) 0 (fun h => absurd h hbad) (fun _ => rfl)
    have HA3 : Hid (∀ W, Below w5.heap.size w5 W → Calls Try.prog 21 #[.agg cs, .int .i64 a2] W fun e w' => e = .returned (.int .i64 0) ∧ Below W.heap.size W w') := fun W hW => when_dead (hW5.below hW) a2 0 (fun h => absurd h hbad) (fun _ => rfl)
    have HA4 : Hid (∀ W, Below w5.heap.size w5 W → Calls Try.prog 28 #[.agg cs] W fun e w' => ∃ a c, e = .returned (.slice a 0 c) ∧ Ints w' a 0 [] ∧ Below W.heap.size W w') := fun W hW => when_table (hW5.below hW) [] (fun h => absurd h hbad) (fun _ => rfl)
    clear hW5 hWW hbad hnp5 hv9 hB9 hb5 L9
    have hR0 := Below.refl w5.heap.size w5
    go_wp2_with ((with_reducible refine wpList_at ?_); refine wpList_loadV (by rfl) (.tmp 7) (by rfl) _ cs (by rfl) hv5 h75 ?_)
    refine (HA1.out _ hR0).mono ?_
    rintro e w6 ⟨rfl, hb6⟩
    have hR6 := below_then hR0 hb6
    have hv6 := hv5.below hR6
    clear hb6 HA1
    go_wp2_with ((with_reducible refine wpList_at ?_); refine wpList_loadV (by rfl) (.tmp 7) (by rfl) _ cs (by rfl) hv6 h75 ?_)
    refine (HA2.out _ hR6).mono ?_
    rintro e w7 ⟨rfl, hb7⟩
    have hR7 := below_then hR6 hb7
    have hv7 := hv5.below hR7
    clear hb7 hv6 hR6 HA2
    go_wp2_with ((with_reducible refine wpList_at ?_); refine wpList_loadV (by rfl) (.tmp 7) (by rfl) _ cs (by rfl) hv7 h75 ?_)
    refine (HA3.out _ hR7).mono ?_
    rintro e w8 ⟨rfl, hb8⟩
    have hR8 := below_then hR7 hb8
    have hv8 := hv5.below hR8
    clear hb8 hv7 hR7 HA3
    go_wp2_with ((with_reducible refine wpList_at ?_); refine wpList_loadV (by rfl) (.tmp 7) (by rfl) _ cs (by rfl) hv8 h75 ?_)
    refine (HA4.out _ hR8).mono ?_
    rintro e w10 ⟨ta, tc, rfl, hI10, hb10⟩
    have hR10 := below_then hR8 hb10
    clear hb10 hv8 hR8 HA4 hI10
    go_wp2_with fail
    refine (HAW.out _).mono ?_
    rintro e w11 ⟨rfl, hb11⟩
    have hR11 := below_then hR10 hb11
    go_wp2
    go_ret
    exact ⟨rfl, by rw [hg0]; exact hB5.trans (hR11.mono (by have := hv5.lt; omega))⟩
  · go_wp2_with ((with_reducible refine wpList_at ?_); refine wpList_setV (by rfl) 3 (.tmp 22) (.const (.int .i64 1048577)) (by rfl) g 6 (Value.int .i64 1048577) [Value.string S.id, .slice a1' S.parties.length c1, .slice a2' S.arcs.length c2, .slice a3' S.leaders.length c3, .slice a4' S.locks.length c4, .int .i64 S.start, .int .i64 S.delta] (by rfl) (by rfl) (by rfl) (by kernel_rfl) hv9 (by simp) (by rfl) ?_; intro w5 hv5 hz5 hb5; refine Hid.out ?_)
    unfold Hid
    have hv5 : SvAt w5 g #[.string S.id, .slice a1' S.parties.length c1, .slice a2' S.arcs.length c2, .slice a3' S.leaders.length c3, .slice a4' S.locks.length c4, .int .i64 S.start, .int .i64 1048577] := hv5
    have h75 : Seven #[.string S.id, .slice a1' S.parties.length c1, .slice a2' S.arcs.length c2, .slice a3' S.leaders.length c3, .slice a4' S.locks.length c4, .int .i64 S.start, .int .i64 1048577] := ⟨rfl, fun u hu => by simp at hu; rcases hu with rfl | rfl | rfl | rfl | rfl | rfl | rfl <;> rfl⟩
    have L9 := HLI.out.below (w' := w5) (by rw [HG1.out]; exact hB19.out.trans (hb5.below (Nat.le_refl _) (by have := hv9.lt; omega)))
    have hWW : SpecW w5 (.agg #[.string S.id, .slice a1' S.parties.length c1, .slice a2' S.arcs.length c2, .slice a3' S.leaders.length c3, .slice a4' S.locks.length c4, .int .i64 S.start, .int .i64 1048577]) _ := wide_set L9 CA S.id S.start 1048577 L9.id L9.start (by unfold In64; omega)
    generalize (#[.string S.id, .slice a1' S.parties.length c1, .slice a2' S.arcs.length c2, .slice a3' S.leaders.length c3, .slice a4' S.locks.length c4, .int .i64 S.start, .int .i64 1048577] : Array Value) = cs at hv5 h75 hWW
    have hW5 : SpecW w5 (.agg cs) ({ S with id := S.id, start := S.start, delta := 1048577 }) := hWW
    have hnp5 : ({ S with id := S.id, start := S.start, delta := 1048577 }).parties.length ≤ 1000 := hnp
    have hbad : ¬ specOk ({ S with id := S.id, start := S.start, delta := 1048577 }) := fun h => by have : (1048577 : Int) ≤ 1048576 := h.2.2.2.2.2.2.2; omega
    generalize ({ S with id := S.id, start := S.start, delta := 1048577 }) = S5 at hW5 hbad hnp5
    have hB5 : Below g0 w w5 := hB9.trans (hb5.below hgg (by have := hv9.lt; omega))
    have HA1 : Hid (∀ W, Below w5.heap.size w5 W → Calls Try.prog 25 #[.agg cs] W fun e w' => e = .returned (.int .i64 0) ∧ Below W.heap.size W w') := fun W hW => when_end (hW5.below hW) hnp5 0 (fun h => absurd h hbad) (fun _ => rfl)
    have HA2 : Hid (∀ W, Below w5.heap.size w5 W → Calls Try.prog 23 #[.agg cs] W fun e w' => e = .returned (.int .i64 0) ∧ Below W.heap.size W w') := fun W hW => when_last (hW5.below hW) 0 (fun h => absurd h hbad) (fun _ => rfl)
    have HA3 : Hid (∀ W, Below w5.heap.size w5 W → Calls Try.prog 21 #[.agg cs, .int .i64 a2] W fun e w' => e = .returned (.int .i64 0) ∧ Below W.heap.size W w') := fun W hW => when_dead (hW5.below hW) a2 0 (fun h => absurd h hbad) (fun _ => rfl)
    have HA4 : Hid (∀ W, Below w5.heap.size w5 W → Calls Try.prog 28 #[.agg cs] W fun e w' => ∃ a c, e = .returned (.slice a 0 c) ∧ Ints w' a 0 [] ∧ Below W.heap.size W w') := fun W hW => when_table (hW5.below hW) [] (fun h => absurd h hbad) (fun _ => rfl)
    clear hW5 hWW hbad hnp5 hv9 hB9 hb5 L9
    have hR0 := Below.refl w5.heap.size w5
    go_wp2_with ((with_reducible refine wpList_at ?_); refine wpList_loadV (by rfl) (.tmp 7) (by rfl) _ cs (by rfl) hv5 h75 ?_)
    refine (HA1.out _ hR0).mono ?_
    rintro e w6 ⟨rfl, hb6⟩
    have hR6 := below_then hR0 hb6
    have hv6 := hv5.below hR6
    clear hb6 HA1
    go_wp2_with ((with_reducible refine wpList_at ?_); refine wpList_loadV (by rfl) (.tmp 7) (by rfl) _ cs (by rfl) hv6 h75 ?_)
    refine (HA2.out _ hR6).mono ?_
    rintro e w7 ⟨rfl, hb7⟩
    have hR7 := below_then hR6 hb7
    have hv7 := hv5.below hR7
    clear hb7 hv6 hR6 HA2
    go_wp2_with ((with_reducible refine wpList_at ?_); refine wpList_loadV (by rfl) (.tmp 7) (by rfl) _ cs (by rfl) hv7 h75 ?_)
    refine (HA3.out _ hR7).mono ?_
    rintro e w8 ⟨rfl, hb8⟩
    have hR8 := below_then hR7 hb8
    have hv8 := hv5.below hR8
    clear hb8 hv7 hR7 HA3
    go_wp2_with ((with_reducible refine wpList_at ?_); refine wpList_loadV (by rfl) (.tmp 7) (by rfl) _ cs (by rfl) hv8 h75 ?_)
    refine (HA4.out _ hR8).mono ?_
    rintro e w10 ⟨ta, tc, rfl, hI10, hb10⟩
    have hR10 := below_then hR8 hb10
    clear hb10 hv8 hR8 HA4 hI10
    go_wp2_with fail
    refine (HAW.out _).mono ?_
    rintro e w11 ⟨rfl, hb11⟩
    have hR11 := below_then hR10 hb11
    go_wp2
    go_ret
    exact ⟨rfl, by rw [hg0]; exact hB5.trans (hR11.mono (by have := hv5.lt; omega))⟩

end Go.Proofs.Ytidhcnecmelkbab
