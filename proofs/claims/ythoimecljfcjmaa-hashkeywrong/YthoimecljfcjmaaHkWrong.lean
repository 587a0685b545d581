/-
  The walk of HashkeyWrong.
-/
import Derived.Test.YthoimecljfcjmaaHkGrown
import Derived.Test.YthoimecljfcjmaaZ45
import Derived.Test.YthoimecljfcjmaaHkRCk
import Derived.Test.YthoimecljfcjmaaHkWake
import Derived.Test.YthoimecljfcjmaaHkCk
import Derived.Test.YthoimecljfcjmaaZ40
import Derived.Test.YthoimecljfcjmaaZ39
import Derived.Test.YthoimecljfcjmaaZ20
import Derived.Deep.CutBlock
import Derived.Handy
namespace Go.Proofs.Ythoimecljfcjmaa
open Go.RowKit

theorem wpList_varHW {ops : Array Oper} {rest : List Oper} {o1 o2 : Oper} {a : Act} {w : World} {Q : Exit → Act → World → Prop} (hg1 : o1.guard = none) (hg2 : o2.guard = none) (ho1 : o1.op = .alloc 31) (x y : Operand) (ho2 : o2.op = .store 31 x y)
    (cs : Array Value) (hx : (a.put o1.dst (.pointer (some ⟨w.heap.size, 0, none⟩))).eval x = .pointer (some ⟨w.heap.size, 0, none⟩)) (hy : (a.put o1.dst (.pointer (some ⟨w.heap.size, 0, none⟩))).eval y = .agg cs) (h4 : cs.size = 4) (h1 : ∀ u ∈ cs.toList, u.oneCell' = true)
    (h : ∀ w1, HvAt w1 w.heap.size cs → w1.heap.size = w.heap.size + 1 → Below w.heap.size w w1 → wpList Try.prog ops Q rest ((a.put o1.dst (.pointer (some ⟨w.heap.size, 0, none⟩))).put o2.dst undef) w1) :
    wpList Try.prog ops Q (o1 :: o2 :: rest) a w :=
  wpList_plain hg1 fun _ hK => by
    have hr : (Instr.alloc 31 true (.tuple #[])).run Try.prog w = .ok (.pointer (some ⟨w.heap.size, 0, none⟩)) (w.alloc (.cells Z4 31)) := by
      have hz : (Try.prog.info? 31).map (fun i => (i.zero, i.size)) = some (some (.agg #[Value.int IntKind.i64 0, Value.string ⟨#[]⟩, Value.slice none 0 0, Value.slice none 0 0]), 4) := by kernel_rfl
      simp [Instr.alloc, (zero_of_info hz).1 w, go_sem, Value.cells, Z4]
    unfold Oper.wp execOp
    simp only [ho1, Sem.run_bind, hr, Result.andThen_ok]
    refine hK _ _ ?_
    refine wpList_splice hg2 31 x y ho2 w.heap.size 0 cs _ hx hy rfl 31 Z4.toList (heap_alloc_new _ _) (by rw [h4]; exact sizeHk) (by rw [h4]; simp [Z4]) h1 ?_
    intro w1 hc hz hb
    have hal : Below w.heap.size w (w.alloc (.cells Z4 31)) := (Below.refl _ _).alloc (Nat.le_refl _) _
    refine h w1 ?_ (by rw [hz]; simp) (hal.trans (hb.below (Nat.le_refl _) hal.size))
    unfold Cells at hc
    unfold HvAt
    rw [hc, h4]; simp [Z4]
theorem turnedW (a : Nat) (ha : a < 256) : bits .xor .u8 (a : Int) 1 = ((UInt8.ofNat (a ^^^ 1)).toNat : Int) := by
  have := Nat.xor_lt_two_pow (n := 8) ha (show 1 < 2 ^ 8 by decide)
  have h := u8_xor_nat a 1 ha (by decide)
  have e : ((1 : Nat) : Int) = 1 := rfl
  rw [e] at h
  rw [h, UInt8.toNat_ofNat']; omega

set_option maxRecDepth 10000 in
set_option maxHeartbeats 4000000 in
theorem hkwrong_any (v0 v1 : Int) (al : Option Addr) (n cl : Nat) (l : List Int) (v3 : Int) (_w0 : (Lit.int .i64 v0).wf = true) (_w1 : (Lit.int .i64 v1).wf = true) (_w3 : (Lit.int .i64 v3).wf = true) (w : World) (hl : Ints w al n l) : Calls Try.prog 3 #[.int .i64 v0, .int .i64 v1, .slice al n cl, .int .i64 v3] w fun e w' => e = .returned (.bool true) ∧ Below w.heap.size w w' := by
  clear _w0 _w1 _w3
  obtain ⟨S, hS, HS⟩ := spec_good v0
  have hok := hS.num.ok
  have hbs := num_seedsW hS.num
  have hring := hS.ring
  have hsane := SaneS.of_ok hok
  have hnl := hok.2.1.1
  have hnp := hok.2.2.1.1
  have hnp6 := hok.2.2.1.2.1
  have hll := hok.2.1.2.2.1
  obtain ⟨lk, hlk, HPl⟩ := place_ex v1 (S.leaders.length : Int) (by omega) (by have := hok.2.1.2.1; omega)
  obtain ⟨h, hh, HPh⟩ := place_ex v3 7 (by omega) (by omega)
  obtain ⟨ib, hib, HPb⟩ := place_ex (wrap64 (v3.tdiv 7)) 512 (by omega) (by omega)
  have hlkn : lk < S.leaders.length := by omega
  have HAW : Hid (∀ W, Calls Try.prog 10 #[] W fun e w' => e = .returned (.bool true) ∧ Below W.heap.size W w') := awake7_any
  replace HS := hide HS
  replace HPl := hide HPl
  replace HPh := hide HPh
  replace HPb := hide HPb
  have hL := hide hl
  have hok' := hide hok
  have hbs' := hide hbs
  replace hring := hide hring
  replace hll := hide hll
  clear hS hok hbs hl hlk
  obtain ⟨g0, hg0⟩ : ∃ g, w.heap.size = g := ⟨_, rfl⟩
  rw [hg0]
  go_enter Try.func3, Try.ntmps3
  go_wp2_with fail
  refine (HS.out _).mono ?_
  rintro e w1 ⟨u, rfl, hO1, hb1⟩
  rw [hg0] at hb1
  have hW1 := hO1.wide hsane
  obtain ⟨a1, a2, a3, a4, k1, k2, k3, k4, rfl, LI, hcap⟩ := hW1
  have hW1 : SpecW w1 (.agg (cells7 a1 a2 a3 a4 k1 k2 k3 k4 S)) S := ⟨a1, a2, a3, a4, k1, k2, k3, k4, rfl, LI, hcap⟩
  obtain ⟨cs, hcs⟩ : ∃ cs, (cells7 a1 a2 a3 a4 k1 k2 k3 k4 S) = cs := ⟨_, rfl⟩
  have h7 : Seven cs := by rw [← hcs]; obtain ⟨cs, he, h⟩ := hW1.seven; injection he with he; rw [he]; exact h
  rw [hcs] at hW1 ⊢
  clear hO1 HS hsane LI hcap
  go_upto_region 2 with ((with_reducible refine wpList_at ?_); refine wpList_varS (by rfl) (by rfl) (by rfl) (.tmp 9) (.tmp 17) (by rfl) cs (by rfl) (by rfl) h7 ?_; intro w2 hv2 hz2 hb2)
  have hW2 := hW1.below hb2
  have hB2 : Below g0 w w2 := hb1.trans (hb2.mono (by have := hb1.size; omega))
  obtain ⟨gs, hgs⟩ : ∃ g, w1.heap.size = g := ⟨_, rfl⟩
  have hgs0 : g0 ≤ gs := by have := hb1.size; omega
  rw [hgs] at hv2 hz2
  try rw [hgs]
  clear hb1 hb2 hW1 hgs
  have hv2c : SvAt w2 gs (cells7 a1 a2 a3 a4 k1 k2 k3 k4 S) := by rw [hcs]; exact hv2
  have q3 := (cells7_at hv2c).2.2.2.1
  clear hv2c
  go_wp2_with fail
  refine (HPl.out _).mono ?_
  rintro e w0 ⟨rfl, hw0⟩
  subst w0
  clear HPl q3
  have HGr := hide (grown_any hW2 hbs'.out lk hlkn (cl := cl) (hL.out.below (by rw [hg0]; exact hB2)))
  go_wp2_with ((with_reducible refine wpList_at ?_); refine wpList_loadV (by rfl) (.tmp 9) (by rfl) _ cs (by rfl) hv2 h7 ?_)
  refine HGr.out.mono ?_
  rintro e w3 ⟨u, rfl, K, hO3, hG, hpath, hlock, hlen7, hb3⟩
  have hks := hG.sane hok'.out (by omega)
  obtain ⟨pa, sa, pc, sc, rfl⟩ := hO3.cells hks
  have hv3 := hv2.below hb3
  have hW3 := hW2.below hb3
  have hB3 : Below g0 w w3 := hB2.trans (hb3.mono (by have := hv2.lt; omega))
  clear HGr hv2 hW2 hB2 hb3 hz2
  go_upto_region 4 with ((with_reducible refine wpList_at ?_); refine wpList_varHW (by rfl) (by rfl) (by rfl) (.tmp 11) (.tmp 26) (by rfl) (hcells pa sa pc sc K) (by rfl) (by rfl) rfl (by intro u hu; simp [hcells] at hu; rcases hu with rfl | rfl | rfl | rfl <;> rfl) ?_; intro w4 hk4 hz4 hb4)
  have hv4 := hv3.below hb4
  have hW4 := hW3.below hb4
  have hO4 := hO3.below hb4
  obtain ⟨gk, hgk⟩ : ∃ g, w3.heap.size = g := ⟨_, rfl⟩
  have hgk0 : g0 ≤ gk := by have := hv3.lt; omega
  have hBk4 : Below gk w3 w4 := by rw [← hgk]; exact hb4
  have HW3 : Hid (∀ W, Below gk w3 W → SpecW W (.agg cs) S) := fun W hW => hW3.below (by rw [hgk]; exact hW)
  have HS3 : Hid (∀ W, Below gk w3 W → SvAt W gs cs) := fun W hW => hv3.below (by rw [hgk]; exact hW)
  have hz3 : w3.heap.size = gk := hgk
  replace hz3 := hide hz3
  replace hB3 := hide hB3
  rw [hgk] at hk4 hz4
  try rw [hgk]
  clear hv3 hW3 hb4 hO3 hz4 hgk
  -- the facts of the key
  have hne := hG.ne
  obtain ⟨np, hnpe⟩ : ∃ n, K.path.length = n := ⟨_, rfl⟩
  have hsl : K.sigs.length = np := by rw [hG.len, hnpe]
  have hnp7 : np ≤ 7 := by omega
  obtain ⟨np1, hnp1⟩ : ∃ m, np = m + 1 := ⟨np - 1, by omega⟩
  obtain ⟨up, us, hkc, hOp, hOs⟩ := hO4
  have hkc2 : hcells pa sa pc sc K = kcells K up us := by injection hkc
  rw [hkc2] at hk4
  clear hkc hkc2
  unfold OwnI at hOp
  unfold OwnS at hOs
  rw [hnpe] at hOp
  rw [hsl] at hOs
  obtain ⟨b1, c1, rfl, hc1, hc1m⟩ := own_form hOp (by omega)
  obtain ⟨b2, c2, rfl, hc2, hc2m⟩ := own_form hOs (by omega)
  obtain ⟨x0, hx0⟩ : ∃ x, K.path.getD 0 0 = x := ⟨_, rfl⟩
  have y2 : w4.cell? ⟨gk, 2, none⟩ = some (.slice (some ⟨b1, 0, none⟩) np c1) := by unfold HvAt at hk4; rw [cell_of_row w4 gk _ _ _ (0, 0) hk4]; rfl
  have y3 : w4.cell? ⟨gk, 3, none⟩ = some (.slice (some ⟨b2, 0, none⟩) np c2) := by unfold HvAt at hk4; rw [cell_of_row w4 gk _ _ _ (0, 0) hk4]; rfl
  have d0 := World.ownsRow.cellAt hOp 0 (by omega)
  rw [List.getElem?_map, List.getElem?_eq_getElem (show 0 < K.path.length by omega), show K.path[0] = x0 by rw [← hx0, List.getD_eq_getElem?_getD, List.getElem?_eq_getElem (show 0 < K.path.length by omega)]; rfl] at d0
  have d0 : w4.cell? ⟨b1, 0, none⟩ = some (.int .i64 x0) := d0
  have t0 : ((np : Int) == 0) = false := by rw [beq_eq_false_iff_ne]; omega
  have tn : ((np : Int) != (np : Int)) = false := by simp
  have hn0 : 0 < np := by omega
  obtain ⟨xn, hxn⟩ : ∃ xn : Nat, x0 = (xn : Int) ∧ xn < S.parties.length := ⟨x0.toNat, by have h9 := hG.rng 0 (by omega); rw [hx0] at h9; omega⟩
  obtain ⟨hxn, hxn2⟩ := hxn
  obtain ⟨nE, hnE⟩ : ∃ m, (entL S.arcs x0 S.arcs.length).length = m := ⟨_, rfl⟩
  have hnE0 : 0 < nE := by have h9 := ent_someW hring.out xn hxn2; rw [← hxn, hnE] at h9; omega
  obtain ⟨ar, har⟩ : ∃ a, (entL S.arcs x0 S.arcs.length).getD 0 0 = a := ⟨_, rfl⟩
  have HEn : Hid (∀ W, Below w4.heap.size w4 W → Calls Try.prog 7 #[.agg cs, .int .i64 x0] W fun e w' => ∃ b c, e = .returned (.slice (some ⟨b, 0, none⟩) nE c) ∧ w'.cell? ⟨b, 0, none⟩ = some (.int .i64 ar) ∧ Below W.heap.size W w') := fun W hW => by
    refine (rent_any (hW4.below hW) x0 _ (fun _ => rfl) (fun h => absurd hok'.out h)).mono ?_
    rintro e w' ⟨u, rfl, hO, hb⟩
    unfold OwnI at hO
    rw [hnE] at hO
    obtain ⟨b, c, rfl, _, _⟩ := own_form hO hnE0
    have h9 := World.ownsRow.cellAt hO 0 (by omega)
    have h8 : 0 < (entL S.arcs x0 S.arcs.length).length := by rw [hnE]; exact hnE0
    rw [List.getElem?_map, List.getElem?_eq_getElem h8, show (entL S.arcs x0 S.arcs.length)[0] = ar by rw [← har, List.getD_eq_getElem?_getD, List.getElem?_eq_getElem h8]; rfl] at h9
    exact ⟨b, c, rfl, h9, hb⟩
  have HV := hide hk4
  replace hOp := hide hOp
  replace hOs := hide hOs
  have HG := hide hG
  replace hpath := hide hpath
  replace hlock := hide hlock
  replace hks := hide hks
  replace hnpe := hide hnpe
  replace hsl := hide hsl
  replace hnp1 := hide hnp1
  replace hx0 := hide hx0
  replace hxn := hide hxn
  replace hnE := hide hnE
  replace har := hide har
  clear hG hk4 hne hring
  go_upto_region 6 with fail
  have HS1 : Below w4.heap.size w4 w4.drew := ⟨rfl, rfl, rfl, Nat.le_refl _, fun _ _ => rfl⟩
  refine wp_region_M 5 (fun W => Below w4.heap.size w4 W) 5 (fun _ => True) (by kernel_rfl) ?_
  refine wpAnyM_take (i := 0) (oi := { dst := some 40, op := Op.load 27 (Operand.tmp 9), type := 27, pos := "law.go:73", after := #[], guard := none }) (v := .agg cs) rfl (by kernel_rfl) (by kernel_rfl) (by kernel_rfl) (fun _ _ _ h => h) (by decide) (by decide) (by kernel_rfl) (by kernel_rfl) (by kernel_rfl) (yields_loadV (by rfl) (.tmp 9) (by rfl) _ cs (by rfl) h7 (fun W hW => hv4.below hW)) HS1 (fun _ => trivial) ?_
  try simp only [Act.put, List.setIfInBounds_toArray, List.set_cons_zero, List.set_cons_succ]
  refine wpAnyM_pure (i := 1) (oi := { dst := some 41, op := Op.fieldAddr 31 (Operand.tmp 11) 2, type := 0, pos := "law.go:73", after := #[], guard := none }) (v := ?_) rfl (by kernel_rfl) (by kernel_rfl) (by kernel_rfl) (fun _ _ _ h => h) (by decide) (by decide) (Or.inl ⟨by rfl, ?_⟩) (fun _ => HS1) (fun _ => trivial) ?_
  rotate_left
  · intro W hSW; first | (go_simp; done) | (go_simp; with_reducible rfl)
  try simp only [Act.put, List.setIfInBounds_toArray, List.set_cons_zero, List.set_cons_succ]
  refine wpAnyM_take (i := 2) (oi := { dst := some 42, op := Op.load 22 (Operand.tmp 41), type := 22, pos := "law.go:73", after := #[{ on := 1, ground := Ground.data }], guard := none }) (v := ?_) rfl (by kernel_rfl) (by kernel_rfl) (by kernel_rfl) (fun _ _ _ h => h) (by decide) (by decide) (by kernel_rfl) (by kernel_rfl) (by kernel_rfl) (Or.inl ⟨by rfl, ?_⟩) HS1 (fun _ => trivial) ?_
  rotate_left
  · intro W hSW; have z := cell_on hSW y2; first | (go_simp; done) | (go_simp; with_reducible rfl)
  try simp only [Act.put, List.setIfInBounds_toArray, List.set_cons_zero, List.set_cons_succ]
  refine wpAnyM_pure (i := 3) (oi := { dst := some 43, op := Op.indexAddr 22 (Operand.tmp 42) (Operand.const (Value.int IntKind.i64 0)), type := 0, pos := "law.go:73", after := #[{ on := 2, ground := Ground.data }], guard := none }) (v := ?_) rfl (by kernel_rfl) (by kernel_rfl) (by kernel_rfl) (fun _ _ _ h => h) (by decide) (by decide) (Or.inl ⟨by rfl, ?_⟩) (fun _ => HS1) (fun _ => trivial) ?_
  rotate_left
  · intro W hSW; first | (go_simp; done) | (go_simp; with_reducible rfl)
  try simp only [Act.put, List.setIfInBounds_toArray, List.set_cons_zero, List.set_cons_succ]
  refine wpAnyM_take (i := 4) (oi := { dst := some 44, op := Op.load 3 (Operand.tmp 43), type := 3, pos := "law.go:73", after := #[{ on := 3, ground := Ground.data }], guard := none }) (v := ?_) rfl (by kernel_rfl) (by kernel_rfl) (by kernel_rfl) (fun _ _ _ h => h) (by decide) (by decide) (by kernel_rfl) (by kernel_rfl) (by kernel_rfl) (Or.inl ⟨by rfl, ?_⟩) HS1 (fun _ => trivial) ?_
  rotate_left
  · intro W hSW; have z := cell_on hSW d0; first | (go_simp; done) | (go_simp; with_reducible rfl)
  try simp only [Act.put, List.setIfInBounds_toArray, List.set_cons_zero, List.set_cons_succ]
  refine wpAnyM_lone (T := fun v W => ∃ b c, v = .slice (some ⟨b, 0, none⟩) nE c ∧ W.cell? ⟨b, 0, none⟩ = some (.int .i64 ar) ∧ Below w4.heap.size w4 W) (i := 5) (oi := { dst := some 45, op := Op.call { callee := Callee.value (Operand.func 7), args := #[Operand.tmp 40, Operand.tmp 44], argTypes := #[27, 3] }, type := 22, pos := "law.go:73", after := #[{ on := 0, ground := Ground.data }, { on := 4, ground := Ground.data }], guard := none }) (by kernel_rfl) rfl ?_ (fun _ _ _ h => gone (by kernel_rfl) h) (fun _ _ _ _ => trivial) ?_
  · intro Kc hK
    go_simp
    refine (HEn.out _ HS1).mono ?_
    rintro e W2 ⟨b, c, rfl, hc, hb⟩
    go_wp2_with fail
    exact hK.out _ _ ⟨b, c, rfl, hc, below_then HS1 hb⟩
  intro v5 Wa h5
  obtain ⟨bE, cE, rfl, z5, hB5⟩ := h5
  clear HS1
  try simp only [Act.put, List.setIfInBounds_toArray, List.set_cons_zero, List.set_cons_succ]
  refine wpAnyM_pure (i := 6) (oi := { dst := some 46, op := Op.indexAddr 22 (Operand.tmp 45) (Operand.const (Value.int IntKind.i64 0)), type := 0, pos := "law.go:73", after := #[{ on := 5, ground := Ground.data }], guard := none }) (v := ?_) rfl (by kernel_rfl) (by kernel_rfl) (by kernel_rfl) (fun _ _ _ h => h) (by decide) (by decide) (Or.inl ⟨by rfl, ?_⟩) (fun h => gone (by kernel_rfl) h) (fun _ => trivial) ?_
  rotate_left
  · intro W hSW; first | (go_simp; done) | (go_simp; with_reducible rfl)
  try simp only [Act.put, List.setIfInBounds_toArray, List.set_cons_zero, List.set_cons_succ]
  refine wpAnyM_lone (T := fun v W => v = .int .i64 ar ∧ W = Wa) (i := 7) (oi := { dst := some 47, op := Op.load 3 (Operand.tmp 46), type := 3, pos := "law.go:73", after := #[{ on := 6, ground := Ground.data }], guard := none }) (by kernel_rfl) rfl ?_ (fun _ _ _ h => gone (by kernel_rfl) h) (fun _ _ _ _ => trivial) ?_
  · intro Kc hK
    go_simp
    exact hK.out _ _ ⟨rfl, rfl⟩
  intro v7 Wb h7b
  obtain ⟨rfl, rfl⟩ := h7b
  try simp only [Act.put, List.setIfInBounds_toArray, List.set_cons_zero, List.set_cons_succ]
  refine wpAnyM_pure (i := 8) (oi := { dst := some 12, op := Op.assign (Operand.tmp 47), type := 3, pos := "law.go:73", after := #[{ on := 7, ground := Ground.data }, { on := 5, ground := Ground.chain }, { on := 0, ground := Ground.phase }, { on := 1, ground := Ground.phase }, { on := 2, ground := Ground.phase }, { on := 3, ground := Ground.phase }, { on := 4, ground := Ground.phase }, { on := 5, ground := Ground.phase }, { on := 6, ground := Ground.phase }, { on := 7, ground := Ground.phase }], guard := none }) (v := ?_) rfl (by kernel_rfl) (by kernel_rfl) (by kernel_rfl) (fun _ _ _ h => h) (by decide) (by decide) (Or.inl ⟨by rfl, ?_⟩) (fun h => gone (by kernel_rfl) h) (fun _ => trivial) ?_
  rotate_left
  · intro W hSW; first | (go_simp; done) | (go_simp; with_reducible rfl)
  try simp only [Act.put, List.setIfInBounds_toArray, List.set_cons_zero, List.set_cons_succ]
  refine wpAnyM_done (by kernel_rfl) ?_ _
  clear z5 HEn
  have hOp5 : Hid (Wb.ownsRow w2.heap.size 3 1 (.slice (some ⟨b1, 0, none⟩) np c1) np (K.path.map (Value.int .i64))) := own_below hOp.out hB5
  have hOs5 : Hid (Wb.ownsRow w2.heap.size 9 1 (.slice (some ⟨b2, 0, none⟩) np c2) np (K.sigs.map Value.string)) := own_below hOs.out hB5
  have HV5 : Hid (HvAt Wb gk (kcells K (.slice (some ⟨b1, 0, none⟩) np c1) (.slice (some ⟨b2, 0, none⟩) np c2))) := HV.out.below hB5 HV.out.lt
  have hBk5 : Below gk w3 Wb := hBk4.trans (hB5.mono (by have := hBk4.size; have := hz3.out; omega))
  have y2 := cell_on hB5 y2
  have y3 := cell_on hB5 y3
  clear hB5 hOp hOs HV hv4 hW4 hBk4 d0
  have X1 : Hid ((∀ j u, (K.path.map (Value.int .i64))[j]? = some u → Wb.cell? ((⟨b1, 0, none⟩ : Addr).add j) = some u) ∧ (K.path.map (Value.int .i64)).length = np * 1 ∧ ∀ u ∈ K.path.map (Value.int .i64), u.oneCell' = true) := ⟨World.ownsRow.cells hOp5.out rfl, by simp [hnpe.out], fun u hu => by obtain ⟨x, _, rfl⟩ := List.mem_map.1 hu; rfl⟩
  have X2 : Hid ((∀ j u, (K.sigs.map Value.string)[j]? = some u → Wb.cell? ((⟨b2, 0, none⟩ : Addr).add j) = some u) ∧ (K.sigs.map Value.string).length = np * 1 ∧ ∀ u ∈ K.sigs.map Value.string, u.oneCell' = true) := ⟨World.ownsRow.cells hOs5.out rfl, by simp [hsl.out], fun u hu => by obtain ⟨x, _, rfl⟩ := List.mem_map.1 hu; rfl⟩
  go_upto_region 7 with fail
  have HS1 : Below Wb.heap.size Wb Wb.drew := ⟨rfl, rfl, rfl, Nat.le_refl _, fun _ _ => rfl⟩
  refine wp_region_M 7 (fun W => Below Wb.heap.size Wb W) 7 (fun _ => True) (by kernel_rfl) ?_
  refine wpAnyM_pure (i := 0) (oi := { dst := some 48, op := Op.fieldAddr 31 (Operand.tmp 11) 2, type := 0, pos := "law.go:74", after := #[], guard := none }) (v := ?_) rfl (by kernel_rfl) (by kernel_rfl) (by kernel_rfl) (fun _ _ _ h => h) (by decide) (by decide) (Or.inl ⟨by rfl, ?_⟩) (fun _ => HS1) (fun _ => trivial) ?_
  rotate_left
  · intro W hSW; first | (go_simp; done) | (go_simp; with_reducible rfl)
  try simp only [Act.put, List.setIfInBounds_toArray, List.set_cons_zero, List.set_cons_succ]
  refine wpAnyM_take (i := 1) (oi := { dst := some 49, op := Op.load 22 (Operand.tmp 48), type := 22, pos := "law.go:74", after := #[{ on := 0, ground := Ground.data }], guard := none }) (v := ?_) rfl (by kernel_rfl) (by kernel_rfl) (by kernel_rfl) (fun _ _ _ h => h) (by decide) (by decide) (by kernel_rfl) (by kernel_rfl) (by kernel_rfl) (Or.inl ⟨by rfl, ?_⟩) HS1 (fun _ => trivial) ?_
  rotate_left
  · intro W hSW; have z := cell_on hSW y2; first | (go_simp; done) | (go_simp; with_reducible rfl)
  try simp only [Act.put, List.setIfInBounds_toArray, List.set_cons_zero, List.set_cons_succ]
  refine wpAnyM_pure (i := 3) (oi := { dst := some 51, op := Op.fieldAddr 31 (Operand.tmp 11) 3, type := 0, pos := "law.go:74", after := #[], guard := none }) (v := ?_) rfl (by kernel_rfl) (by kernel_rfl) (by kernel_rfl) (fun _ _ _ h => h) (by decide) (by decide) (Or.inl ⟨by rfl, ?_⟩) (fun _ => HS1) (fun _ => trivial) ?_
  rotate_left
  · intro W hSW; first | (go_simp; done) | (go_simp; with_reducible rfl)
  try simp only [Act.put, List.setIfInBounds_toArray, List.set_cons_zero, List.set_cons_succ]
  refine wpAnyM_take (i := 4) (oi := { dst := some 52, op := Op.load 25 (Operand.tmp 51), type := 25, pos := "law.go:74", after := #[{ on := 3, ground := Ground.data }], guard := none }) (v := ?_) rfl (by kernel_rfl) (by kernel_rfl) (by kernel_rfl) (fun _ _ _ h => h) (by decide) (by decide) (by kernel_rfl) (by kernel_rfl) (by kernel_rfl) (Or.inl ⟨by rfl, ?_⟩) HS1 (fun _ => trivial) ?_
  rotate_left
  · intro W hSW; have z := cell_on hSW y3; first | (go_simp; done) | (go_simp; with_reducible rfl)
  try simp only [Act.put, List.setIfInBounds_toArray, List.set_cons_zero, List.set_cons_succ]
  refine wpAnyM_lone (T := fun u W => W.ownsRow Wb.heap.size 3 1 u np (K.path.map (Value.int .i64)) ∧ Below Wb.heap.size Wb W) (i := 2) (oi := { dst := some 50, op := Op.call { callee := Callee.builtin Builtin.append, args := #[Operand.const (Value.slice none 0 0), Operand.tmp 49], argTypes := #[22, 22] }, type := 22, pos := "law.go:74", after := #[{ on := 1, ground := Ground.data }], guard := none }) (by kernel_rfl) rfl ?_ (fun v W hT _ => hT.2) (fun _ _ _ _ => trivial) ?_
  · intro Kc hK
    refine step_appR (st := 22) Try.underlying22 Try.info3 rfl (by decide) (by decide) _ (by rfl) (.const (.slice none 0 0)) (.tmp 49) (by rfl) Wb.heap.size _ 0 [] (by rfl) (World.ownsRow_nil _ _ _ _) ⟨b1, 0, none⟩ np c1 (K.path.map (Value.int .i64)) (by rfl) X1.out.2.1 (fun j u hj => X1.out.1 j u hj) X1.out.2.2 (by omega) (Nat.le_refl _) ?_
    intro v' w' h1 h2
    rw [Nat.zero_add, List.nil_append] at h1
    exact hK.out _ _ ⟨h1, HS1.grown h2 (Nat.le_refl _) (fun k hk => by simp [Value.ownBlock] at hk)⟩
  intro u1 Wc hu1
  have HS1 : (fun W => Below Wb.heap.size Wb W) Wc := (fun v W hT => hT.2) u1 Wc hu1
  try simp only [Act.put, List.setIfInBounds_toArray, List.set_cons_zero, List.set_cons_succ]
  refine wpAnyM_pure (i := 6) (oi := { dst := some 54, op := Op.fieldAddr 31 (Operand.tmp 11) 2, type := 0, pos := "law.go:74", after := #[{ on := 0, ground := Ground.phase }, { on := 1, ground := Ground.phase }, { on := 2, ground := Ground.phase }, { on := 3, ground := Ground.phase }, { on := 4, ground := Ground.phase }, { on := 5, ground := Ground.textOnly Departure.lateStoresUnsure }], guard := none }) (v := ?_) rfl (by kernel_rfl) (by kernel_rfl) (by kernel_rfl) (fun _ _ _ h => h) (by decide) (by decide) (Or.inl ⟨by rfl, ?_⟩) (fun _ => HS1) (fun _ => trivial) ?_
  rotate_left
  · intro W hSW; first | (go_simp; done) | (go_simp; with_reducible rfl)
  try simp only [Act.put, List.setIfInBounds_toArray, List.set_cons_zero, List.set_cons_succ]
  refine wpAnyM_lone (T := fun u W => W.ownsRow Wb.heap.size 9 1 u np (K.sigs.map Value.string) ∧ W.ownsRow Wb.heap.size 3 1 u1 np (K.path.map (Value.int .i64)) ∧ Below Wb.heap.size Wb W) (i := 5) (oi := { dst := some 53, op := Op.call { callee := Callee.builtin Builtin.append, args := #[Operand.const (Value.slice none 0 0), Operand.tmp 52], argTypes := #[25, 25] }, type := 25, pos := "law.go:74", after := #[{ on := 4, ground := Ground.data }, { on := 2, ground := Ground.chain }], guard := none }) (by kernel_rfl) rfl ?_ (fun v W hT _ => hT.2.2) (fun _ _ _ _ => trivial) ?_
  · intro Kc hK
    refine step_appR (st := 25) Try.underlying25 Try.info9 rfl (by decide) (by decide) _ (by rfl) (.const (.slice none 0 0)) (.tmp 52) (by rfl) Wb.heap.size _ 0 [] (by rfl) (World.ownsRow_nil _ _ _ _) ⟨b2, 0, none⟩ np c2 (K.sigs.map Value.string) (by rfl) X2.out.2.1 (fun j u hj => cell_on hu1.2 (X2.out.1 j u hj)) X2.out.2.2 (by omega) hu1.2.size ?_
    intro v' w' h1 h2
    rw [Nat.zero_add, List.nil_append] at h1
    exact hK.out _ _ ⟨h1, World.ownsRow.kept hu1.1 h2 (by cases u1.ownBlock <;> simp [Value.ownBlock]), hu1.2.grown h2 hu1.2.size (fun k hk => by simp [Value.ownBlock] at hk)⟩
  intro u2 Wd hu2
  have HS1 : (fun W => Below Wb.heap.size Wb W) Wd := (fun v W hT => hT.2.2) u2 Wd hu2
  have hvd : HvAt Wd gk _ := HV5.out.below hu2.2.2 HV5.out.lt
  have qd : Wd.cell? ⟨gk, 2, none⟩ = some (.slice (some ⟨b1, 0, none⟩) np c1) := by unfold HvAt at hvd; rw [cell_of_row Wd gk _ _ _ (0, 0) hvd]; rfl
  have fd : Wd.frozen? ⟨gk, 2, none⟩ = false := frozen_of_row Wd gk 2 _ _ hvd
  obtain ⟨p1, q1, hua⟩ := row_slice hu2.2.1
  obtain ⟨p2, q2, hub⟩ := row_slice hu2.1
  subst hua hub
  try simp only [Act.put, List.setIfInBounds_toArray, List.set_cons_zero, List.set_cons_succ]
  refine wpAnyM_lone (T := fun _ W => HvAt W gk (kcells K (.slice p1 np q1) (.slice (some ⟨b2, 0, none⟩) np c2)) ∧ W.ownsRow Wb.heap.size 3 1 (.slice p1 np q1) np (K.path.map (Value.int .i64)) ∧ W.ownsRow Wb.heap.size 9 1 (.slice p2 np q2) np (K.sigs.map Value.string) ∧ Wb.grownBy W (some gk)) (i := 7) (oi := { dst := none, op := Op.store 22 (Operand.tmp 54) (Operand.tmp 50), type := 0, pos := "law.go:74", after := #[{ on := 6, ground := Ground.data }, { on := 2, ground := Ground.data }, { on := 5, ground := Ground.chain }, { on := 0, ground := Ground.phase }, { on := 1, ground := Ground.phase }, { on := 2, ground := Ground.phase }, { on := 3, ground := Ground.phase }, { on := 4, ground := Ground.phase }, { on := 5, ground := Ground.textOnly Departure.lateStoresUnsure }], guard := none }) (by kernel_rfl) rfl ?_ (fun _ _ _ h => gone (by kernel_rfl) h) (fun _ _ _ _ => trivial) ?_
  · intro Kc hK
    go_simp
    exact hK.out undef _ ⟨hvd.set (i := 2) _, World.ownsRow.kept hu2.2.1 (But.setCell _ _ _ _).grown (row_apart hu2.2.1 hvd (by decide)), World.ownsRow.kept hu2.1 (But.setCell _ _ _ _).grown (row_apart hu2.1 hvd (by decide)), grownW (bgR hu2.2.2) (But.setCell _ _ _ _).grown⟩
  intro u3 We hu3
  clear hu1 hu2 hvd qd fd HS1
  have qd : We.cell? ⟨gk, 3, none⟩ = some (.slice (some ⟨b2, 0, none⟩) np c2) := by have h9 := hu3.1; unfold HvAt at h9; rw [cell_of_row We gk _ _ _ (0, 0) h9]; rfl
  have fd : We.frozen? ⟨gk, 3, none⟩ = false := frozen_of_row We gk 3 _ _ hu3.1
  try simp only [Act.put]
  refine wpAnyM_pure (i := 8) (oi := { dst := some 55, op := Op.fieldAddr 31 (Operand.tmp 11) 3, type := 0, pos := "law.go:74", after := #[{ on := 0, ground := Ground.phase }, { on := 1, ground := Ground.phase }, { on := 2, ground := Ground.phase }, { on := 3, ground := Ground.phase }, { on := 4, ground := Ground.phase }, { on := 5, ground := Ground.phase }, { on := 6, ground := Ground.phase }, { on := 7, ground := Ground.phase }], guard := none }) (v := ?_) rfl (by kernel_rfl) (by kernel_rfl) (by kernel_rfl) (fun _ _ _ h => h) (by decide) (by decide) (Or.inl ⟨by rfl, ?_⟩) (fun h => gone (by kernel_rfl) h) (fun _ => trivial) ?_
  rotate_left
  · intro W hSW; first | (go_simp; done) | (go_simp; with_reducible rfl)
  try simp only [Act.put, List.setIfInBounds_toArray, List.set_cons_zero, List.set_cons_succ]
  refine wpAnyM_lone (T := fun _ W => HvAt W gk (kcells K (.slice p1 np q1) (.slice p2 np q2)) ∧ W.ownsRow Wb.heap.size 3 1 (.slice p1 np q1) np (K.path.map (Value.int .i64)) ∧ W.ownsRow Wb.heap.size 9 1 (.slice p2 np q2) np (K.sigs.map Value.string) ∧ Wb.grownBy W (some gk)) (i := 9) (oi := { dst := none, op := Op.store 25 (Operand.tmp 55) (Operand.tmp 53), type := 0, pos := "law.go:74", after := #[{ on := 8, ground := Ground.data }, { on := 5, ground := Ground.data }, { on := 7, ground := Ground.chain }, { on := 0, ground := Ground.phase }, { on := 1, ground := Ground.phase }, { on := 2, ground := Ground.phase }, { on := 3, ground := Ground.phase }, { on := 4, ground := Ground.phase }, { on := 5, ground := Ground.phase }, { on := 6, ground := Ground.phase }, { on := 7, ground := Ground.phase }], guard := none }) (by kernel_rfl) rfl ?_ (fun _ _ _ h => gone (by kernel_rfl) h) (fun _ _ _ _ => trivial) ?_
  · intro Kc hK
    go_simp
    exact hK.out undef _ ⟨hu3.1.set (i := 3) _, World.ownsRow.kept hu3.2.1 (But.setCell _ _ _ _).grown (row_apart hu3.2.1 hu3.1 (by decide)), World.ownsRow.kept hu3.2.2.1 (But.setCell _ _ _ _).grown (row_apart hu3.2.2.1 hu3.1 (by decide)), grownW hu3.2.2.2 (But.setCell _ _ _ _).grown⟩
  intro u4 w6 hu4
  clear qd fd hu3
  try simp only [Act.put]
  refine wpAnyM_done (by kernel_rfl) ?_ _
  obtain ⟨hv6, hp6, hs6, hg6⟩ := hu4
  obtain ⟨B, hBd⟩ : ∃ B, Wb.heap.size = B := ⟨_, rfl⟩
  rw [hBd] at hp6 hs6
  have hgkB : gk < B := by rw [← hBd]; exact HV5.out.lt
  have hBk6 : Below gk w3 w6 := hBk5.grown hg6 (by have := hBk5.size; have := hz3.out; omega) (fun k hk => by injection hk with hk; omega)
  have hvs6 := HS3.out w6 hBk6
  have hvs6c : SvAt w6 gs (cells7 a1 a2 a3 a4 k1 k2 k3 k4 S) := by rw [hcs]; exact hvs6
  obtain ⟨_, g1c, _, g3c, _⟩ := cells7_at hvs6c
  clear hvs6c
  obtain ⟨e1, f1, hq1, hf1⟩ := own_form hp6 hn0
  injection hq1 with hq1 _ hq1'
  subst hq1 hq1'
  obtain ⟨e2, f2, hq2, hf2⟩ := own_form hs6 hn0
  injection hq2 with hq2 _ hq2'
  subst hq2 hq2'
  have hO6 : Hid (KOwn w6 gk B (.slice (some ⟨e1, 0, none⟩) np q1) (.slice (some ⟨e2, 0, none⟩) np q2) K) := ⟨hv6, by unfold OwnI; rw [hnpe.out]; exact hp6, by unfold OwnS; rw [hsl.out]; exact hs6⟩
  have zc : ∀ i, w6.cell? ⟨gk, i, none⟩ = (kcells K (.slice (some ⟨e1, 0, none⟩) np q1) (.slice (some ⟨e2, 0, none⟩) np q2))[i]? := fun i => cell_of_row w6 gk i _ _ (0, 0) hv6
  have z0 : w6.cell? ⟨gk, 0, none⟩ = some (.int .i64 K.lock) := zc 0
  have z1 : w6.cell? ⟨gk, 1, none⟩ = some (.string K.secret) := zc 1
  have z2 : w6.cell? ⟨gk, 2, none⟩ = some (.slice (some ⟨e1, 0, none⟩) np q1) := zc 2
  have z3 : w6.cell? ⟨gk, 3, none⟩ = some (.slice (some ⟨e2, 0, none⟩) np q2) := zc 3
  have zf : ∀ i, w6.frozen? ⟨gk, i, none⟩ = false := fun i => frozen_of_row w6 gk i _ _ hv6
  have hB1 : B ≤ e1 := (World.ownsRow.lt hp6 e1 rfl).1
  have hB2 : B ≤ e2 := (World.ownsRow.lt hs6 e2 rfl).1
  obtain ⟨xl, hxl⟩ : ∃ x, K.path.getD np1 0 = x := ⟨_, rfl⟩
  obtain ⟨s0, hs0⟩ : ∃ x, K.sigs.getD 0 ByteArray.empty = x := ⟨_, rfl⟩
  have xp := World.ownsRow.cellAt hp6 np1 (by have := hnp1.out; omega)
  have hl1 : np1 < K.path.length := by have := hnpe.out; have := hnp1.out; omega
  rw [List.getElem?_map, List.getElem?_eq_getElem hl1, show K.path[np1] = xl by rw [← hxl, List.getD_eq_getElem?_getD, List.getElem?_eq_getElem hl1]; rfl] at xp
  have xp : w6.cell? ⟨e1, np1, none⟩ = some (.int .i64 xl) := xp
  have xs := World.ownsRow.cellAt hs6 0 (by omega)
  have hl2 : 0 < K.sigs.length := by have := hsl.out; omega
  rw [List.getElem?_map, List.getElem?_eq_getElem hl2, show K.sigs[0] = s0 by rw [← hs0, List.getD_eq_getElem?_getD, List.getElem?_eq_getElem hl2]; rfl] at xs
  have xs : w6.cell? ⟨e2, 0, none⟩ = some (.string s0) := xs
  have fp := World.ownsRow.frozenAt hp6
  have fs := World.ownsRow.frozenAt hs6
  have s512 : s0.size = 512 := by rw [← hs0]; exact HG.out.sz 0 hl2
  have sec7 : K.secret.size = 7 := HG.out.sec7
  have hrl := HG.out.rng np1 hl1
  rw [hxl] at hrl
  have hlast : Hid (xl = S.leaders.getD K.lock.toNat 0) := by have h9 := HG.out.last; rw [hnpe.out, hnp1.out, Nat.add_sub_cancel, hxl] at h9; exact h9
  have hgs2 : gs < gk := by rw [← hz3.out]; have h9 := HS3.out w3 (Below.refl _ _); exact h9.lt
  have ngs : gs ≠ gk := by omega
  clear zc hp6 hs6 hv6 hg6 HV5 X1 X2 hOp5 hOs5 hBk5 hBd y2 y3
  replace s512 := hide s512
  replace sec7 := hide sec7
  replace hl1 := hide hl1
  replace hl2 := hide hl2
  replace hxl := hide hxl
  replace hs0 := hide hs0
  replace hf1 := hide hf1
  replace hf2 := hide hf2
  replace hvs6 := hide hvs6
  go_upto_block 0 with fail
  refine (HPh.out _).mono ?_
  rintro e w0 ⟨rfl, hw0⟩
  subst w0
  go_upto_block 0 with fail
  clear HPh
  go_cut [13] from 14 to 133 (fun sv wx => ∃ sure, sv = .bool sure ∧ WrongK S ar gs gk gk cs w3 sure wx)
  case first =>
    have hcase : h = 0 ∨ h = 1 ∨ h = 2 ∨ h = 3 ∨ h = 4 ∨ h = 5 ∨ h = 6 := by omega
    rcases hcase with rfl | rfl | rfl | rfl | rfl | rfl | rfl
    · clear g1c g3c xp xs z0 z2 z3
      have sz1 : ¬ 9223372036854775807 < K.secret.size + 1 := by have := sec7.out; omega
      have sz2 : ¬ 9223372036854775807 < K.secret.size + (⟨#[120]⟩ : ByteArray).size := by have := sec7.out; show ¬ 9223372036854775807 < K.secret.size + 1; omega
      go_wp2_with fail
      go_meet
      case rel =>
        have hk9 := hO6.out.re (But.setCell w6 gk 1 (.string (K.secret ++ ⟨#[120]⟩))) K.lock (K.secret ++ ⟨#[120]⟩) (hO6.out.hv.set (i := 1) _)
        exact ⟨false, rfl, hk9.wrong ⟨hks.out.lock, by show (K.secret ++ ⟨#[120]⟩).size ≤ 1000; rw [ByteArray.size_append]; have := sec7.out; show K.secret.size + 1 ≤ 1000; omega, hks.out.np, hks.out.pa, hks.out.ns, hks.out.si⟩ (by show K.path.length ≤ 100; have := hnpe.out; omega) (fun h => absurd h (by decide)) (hvs6.out.but (But.setCell _ gk 1 _) (by omega)) (hBk6.setCell (p := ⟨gk, 1, none⟩) (by show gk ≤ gk; omega) _)⟩
    · clear g1c xp xs z1 z2 z3
      go_wp2_with fail
      go_meet
      case rel =>
        have hk9 := hO6.out.re (But.setCell w6 gk 0 (.int .i64 (S.leaders.length : Int))) (S.leaders.length : Int) K.secret (hO6.out.hv.set (i := 0) _)
        exact ⟨true, rfl, hk9.wrong ⟨by show In64 (S.leaders.length : Int); have := hok'.out.2.1.2.1; exact ⟨by omega, by omega⟩, hks.out.secret, hks.out.np, hks.out.pa, hks.out.ns, hks.out.si⟩ (by show K.path.length ≤ 100; have := hnpe.out; omega) (fun _ ho => by have h9 := ho.2.2.1.2; have h8 : (S.leaders.length : Int) < (S.locks.length : Int) := h9; have := hll.out; omega) (hvs6.out.but (But.setCell _ gk 0 _) (by omega)) (hBk6.setCell (p := ⟨gk, 0, none⟩) (by show gk ≤ gk; omega) _)⟩
    · clear g1c g3c xp xs z0 z1 z3
      have nk1 : ¬ (np : Int) < 1 := by omega
      have nk2 : ((np : Int) ≤ (q1 : Int)) := by have := hf1.out.1; omega
      obtain ⟨ad, had⟩ : ∃ ad : Option Addr, (if q1 = 1 then (some ⟨e1, 0, none⟩ : Option Addr) else some ⟨e1, 1, none⟩) = ad := ⟨_, rfl⟩
      have Had := hide had
      go_wp2_with fail
      go_meet
      case rel =>
        exact ⟨true, rfl, hO6.out.cutPath hks.out (by rw [hsl.out, hnpe.out]) (by omega) (by omega) hf1.out ad Had.out (But.setCell w6 gk 2 _) (hO6.out.hv.set (i := 2) _) (hvs6.out.but (But.setCell _ gk 2 _) (by omega)) (hBk6.setCell (p := ⟨gk, 2, none⟩) (by show gk ≤ gk; omega) _)⟩
    · clear g1c g3c xp xs z0 z1 z2
      have nk1 : ¬ (np : Int) < 1 := by omega
      have nk2 : ((np : Int) ≤ (q2 : Int)) := by have := hf2.out.1; omega
      obtain ⟨ad, had⟩ : ∃ ad : Option Addr, (if q2 = 1 then (some ⟨e2, 0, none⟩ : Option Addr) else some ⟨e2, 1, none⟩) = ad := ⟨_, rfl⟩
      have Had := hide had
      go_wp2_with fail
      go_meet
      case rel =>
        exact ⟨true, rfl, hO6.out.cutSigs hks.out (by rw [hsl.out, hnpe.out]) (by omega) (by omega) hf2.out ad Had.out (But.setCell w6 gk 3 _) (hO6.out.hv.set (i := 3) _) (hvs6.out.but (But.setCell _ gk 3 _) (by omega)) (hBk6.setCell (p := ⟨gk, 3, none⟩) (by show gk ≤ gk; omega) _)⟩
    · clear g1c g3c xp z0 z1 z2
      have s512I : (1 : Int) ≤ (s0.size : Int) := by have := s512.out; omega
      have s512J : 1 ≤ s0.size := by have := s512.out; omega
      go_upto_region 23 with fail
      have HS1 : Below w6.heap.size w6 w6.drew := ⟨rfl, rfl, rfl, Nat.le_refl _, fun _ _ => rfl⟩
      refine wp_region_M 8 (fun W => Below w6.heap.size w6 W) 8 (fun _ => True) (by kernel_rfl) ?_
      refine wpAnyM_pure (i := 0) (oi := { dst := some 104, op := Op.fieldAddr 31 (Operand.tmp 11) 3, type := 0, pos := "law.go:87", after := #[], guard := none }) (v := ?_) rfl (by kernel_rfl) (by kernel_rfl) (by kernel_rfl) (fun _ _ _ h => h) (by decide) (by decide) (Or.inl ⟨by rfl, ?_⟩) (fun _ => HS1) (fun _ => trivial) ?_
      rotate_left
      · intro W hSW; first | (go_simp; done) | (go_simp; with_reducible rfl)
      try simp only [Act.put, List.setIfInBounds_toArray, List.set_cons_zero, List.set_cons_succ]
      refine wpAnyM_take (i := 1) (oi := { dst := some 105, op := Op.load 25 (Operand.tmp 104), type := 25, pos := "law.go:87", after := #[{ on := 0, ground := Ground.data }], guard := none }) (v := ?_) rfl (by kernel_rfl) (by kernel_rfl) (by kernel_rfl) (fun _ _ _ h => h) (by decide) (by decide) (by kernel_rfl) (by kernel_rfl) (by kernel_rfl) (Or.inl ⟨by rfl, ?_⟩) HS1 (fun _ => trivial) ?_
      rotate_left
      · intro W hSW; have z := cell_on hSW z3; first | (go_simp; done) | (go_simp; with_reducible rfl)
      try simp only [Act.put, List.setIfInBounds_toArray, List.set_cons_zero, List.set_cons_succ]
      refine wpAnyM_pure (i := 2) (oi := { dst := some 106, op := Op.fieldAddr 31 (Operand.tmp 11) 3, type := 0, pos := "law.go:87", after := #[], guard := none }) (v := ?_) rfl (by kernel_rfl) (by kernel_rfl) (by kernel_rfl) (fun _ _ _ h => h) (by decide) (by decide) (Or.inl ⟨by rfl, ?_⟩) (fun _ => HS1) (fun _ => trivial) ?_
      rotate_left
      · intro W hSW; first | (go_simp; done) | (go_simp; with_reducible rfl)
      try simp only [Act.put, List.setIfInBounds_toArray, List.set_cons_zero, List.set_cons_succ]
      refine wpAnyM_take (i := 3) (oi := { dst := some 107, op := Op.load 25 (Operand.tmp 106), type := 25, pos := "law.go:87", after := #[{ on := 2, ground := Ground.data }], guard := none }) (v := ?_) rfl (by kernel_rfl) (by kernel_rfl) (by kernel_rfl) (fun _ _ _ h => h) (by decide) (by decide) (by kernel_rfl) (by kernel_rfl) (by kernel_rfl) (Or.inl ⟨by rfl, ?_⟩) HS1 (fun _ => trivial) ?_
      rotate_left
      · intro W hSW; have z := cell_on hSW z3; first | (go_simp; done) | (go_simp; with_reducible rfl)
      try simp only [Act.put, List.setIfInBounds_toArray, List.set_cons_zero, List.set_cons_succ]
      refine wpAnyM_pure (i := 4) (oi := { dst := some 108, op := Op.indexAddr 25 (Operand.tmp 107) (Operand.const (Value.int IntKind.i64 0)), type := 0, pos := "law.go:87", after := #[{ on := 3, ground := Ground.data }], guard := none }) (v := ?_) rfl (by kernel_rfl) (by kernel_rfl) (by kernel_rfl) (fun _ _ _ h => h) (by decide) (by decide) (Or.inl ⟨by rfl, ?_⟩) (fun _ => HS1) (fun _ => trivial) ?_
      rotate_left
      · intro W hSW; first | (go_simp; done) | (go_simp; with_reducible rfl)
      try simp only [Act.put, List.setIfInBounds_toArray, List.set_cons_zero, List.set_cons_succ]
      refine wpAnyM_take (i := 5) (oi := { dst := some 109, op := Op.load 9 (Operand.tmp 108), type := 9, pos := "law.go:87", after := #[{ on := 4, ground := Ground.data }], guard := none }) (v := ?_) rfl (by kernel_rfl) (by kernel_rfl) (by kernel_rfl) (fun _ _ _ h => h) (by decide) (by decide) (by kernel_rfl) (by kernel_rfl) (by kernel_rfl) (Or.inl ⟨by rfl, ?_⟩) HS1 (fun _ => trivial) ?_
      rotate_left
      · intro W hSW; have z := cell_on hSW xs; first | (go_simp; done) | (go_simp; with_reducible rfl)
      try simp only [Act.put, List.setIfInBounds_toArray, List.set_cons_zero, List.set_cons_succ]
      refine wpAnyM_pure (i := 6) (oi := { dst := some 110, op := Op.slice 9 (Operand.tmp 109) (some (Operand.const (Value.int IntKind.i64 1))) none none, type := 9, pos := "law.go:87", after := #[{ on := 5, ground := Ground.data }], guard := none }) (v := ?_) rfl (by kernel_rfl) (by kernel_rfl) (by kernel_rfl) (fun _ _ _ h => h) (by decide) (by decide) (Or.inl ⟨by rfl, ?_⟩) (fun _ => HS1) (fun _ => trivial) ?_
      rotate_left
      · intro W hSW; first | (go_simp; done) | (go_simp; with_reducible rfl)
      try simp only [Act.put, List.setIfInBounds_toArray, List.set_cons_zero, List.set_cons_succ]
      refine wpAnyM_pure (i := 7) (oi := { dst := some 111, op := Op.indexAddr 25 (Operand.tmp 105) (Operand.const (Value.int IntKind.i64 0)), type := 0, pos := "law.go:87", after := #[{ on := 1, ground := Ground.data }, { on := 0, ground := Ground.phase }, { on := 1, ground := Ground.phase }, { on := 2, ground := Ground.phase }, { on := 3, ground := Ground.phase }, { on := 4, ground := Ground.phase }, { on := 5, ground := Ground.phase }, { on := 6, ground := Ground.phase }], guard := none }) (v := ?_) rfl (by kernel_rfl) (by kernel_rfl) (by kernel_rfl) (fun _ _ _ h => h) (by decide) (by decide) (Or.inl ⟨by rfl, ?_⟩) (fun _ => HS1) (fun _ => trivial) ?_
      rotate_left
      · intro W hSW; first | (go_simp; done) | (go_simp; with_reducible rfl)
      try simp only [Act.put, List.setIfInBounds_toArray, List.set_cons_zero, List.set_cons_succ]
      refine wpAnyM_lone (T := fun _ W => ∃ x : ByteArray, x.size = 511 ∧ W = w6.drew.setCell ⟨e2, 0, none⟩ (.string x)) (i := 8) (oi := { dst := none, op := Op.store 9 (Operand.tmp 111) (Operand.tmp 110), type := 0, pos := "law.go:87", after := #[{ on := 7, ground := Ground.data }, { on := 6, ground := Ground.data }, { on := 0, ground := Ground.phase }, { on := 1, ground := Ground.phase }, { on := 2, ground := Ground.phase }, { on := 3, ground := Ground.phase }, { on := 4, ground := Ground.phase }, { on := 5, ground := Ground.phase }, { on := 6, ground := Ground.phase }], guard := none }) (by kernel_rfl) rfl ?_ (fun _ _ _ h => gone (by kernel_rfl) h) (fun _ _ _ _ => trivial) ?_
      · intro Kc hK
        go_simp
        exact hK.out undef _ ⟨_, by rw [ByteArray.size_extract]; have := s512.out; omega, rfl⟩
      intro v9 W9 h9
      obtain ⟨x9, hx9, h9⟩ := h9
      subst h9
      try simp only [Act.put]
      refine wpAnyM_done (by kernel_rfl) ?_ _
      have hOD : KOwn w6.drew gk B _ _ K := ⟨hO6.out.hv, hO6.out.pa, hO6.out.si⟩
      have hBD : Below gk w3 w6.drew := ⟨hBk6.os, hBk6.tape, hBk6.output, hBk6.size, hBk6.block⟩
      have hSD : SvAt w6.drew gs cs := hvs6.out
      go_wp2_with fail
      go_meet
      case rel =>
        have hg9 : (K.sigs.set 0 x9).getD 0 ByteArray.empty = x9 := by rw [List.getD_eq_getElem?_getD, List.getElem?_set_self hl2.out]; rfl
        exact ⟨true, rfl, (hOD.sig x9).wrong ⟨hks.out.lock, hks.out.secret, hks.out.np, hks.out.pa, by show (K.sigs.set 0 x9).length ≤ 1000; rw [List.length_set]; exact hks.out.ns, getD_allW (fun k : ByteArray => k.size ≤ 1000) _ _ (fun k hk => by rcases List.mem_or_eq_of_mem_set hk with h1 | h1; (obtain ⟨j, hj, rfl⟩ := List.mem_iff_getElem.1 h1; have h2 := hks.out.si j hj; rwa [List.getD_eq_getElem?_getD, List.getElem?_eq_getElem hj] at h2); (rw [h1]; omega))⟩ (by show K.path.length ≤ 100; have := hnpe.out; omega) (fun _ ho => ver_size (by show 0 < (K.sigs.set 0 x9).length; rw [List.length_set]; exact hl2.out) (by show ((K.sigs.set 0 x9).getD 0 ByteArray.empty).size ≠ 512; rw [hg9]; omega) (ho.2.2.2.2.2.2.2 0 (by show 0 < K.path.length; have := hl1.out; omega))) (hSD.but (But.setCell _ e2 0 _) (by omega)) (hBD.setCell (p := ⟨e2, 0, none⟩) (by show gk ≤ e2; omega) _)⟩
    · clear g3c xs z0 z1 z3
      obtain ⟨pn, hpn⟩ : ∃ n, S.parties.length = n := ⟨_, rfl⟩
      rw [hpn] at g1c hrl hnp hnp6
      obtain ⟨xl1, hxl1⟩ : ∃ x, xl + 1 = x := ⟨_, rfl⟩
      obtain ⟨xr, hxr⟩ : ∃ x, Int.tmod xl1 (pn : Int) = x := ⟨_, rfl⟩
      have hxrl : xr ≠ xl ∧ 0 ≤ xr ∧ xr < 6 := by
        rw [← hxr, Int.tmod_eq_emod_of_nonneg (by omega), ← hxl1]
        have m1 := Int.emod_nonneg (xl + 1) (show (pn : Int) ≠ 0 by omega)
        have m2 := Int.emod_lt_of_pos (xl + 1) (show (0 : Int) < (pn : Int) by omega)
        refine ⟨fun e => ?_, m1, by omega⟩
        by_cases h9 : xl + 1 < (pn : Int)
        · rw [Int.emod_eq_of_lt (by omega) h9] at e; omega
        · have h8 : xl + 1 = (pn : Int) := by omega
          rw [h8, Int.emod_self] at e; omega
      have hwp : IntKind.i64.wrap ((np : Int) - 1) = (np1 : Int) := by rw [wrap_i64 (by omega) (by omega)]; have := hnp1.out; omega
      have hwx : IntKind.i64.wrap (xl + 1) = xl1 := by rw [wrap_i64 (by omega) (by omega)]; exact hxl1
      have hwr : IntKind.i64.wrap xr = xr := wrap_i64 (by omega) (by omega)
      have hp0 : ¬ pn = 0 := by omega
      have hnn : np1 < np := by have := hnp1.out; omega
      replace hxl1 := hide hxl1
      replace hxrl := hide hxrl
      replace hpn := hide hpn
      go_upto_region 25 with fail
      have HS1 : Below w6.heap.size w6 w6.drew := ⟨rfl, rfl, rfl, Nat.le_refl _, fun _ _ => rfl⟩
      refine wp_region_M 20 (fun W => Below w6.heap.size w6 W) 20 (fun _ => True) (by kernel_rfl) ?_
      refine wpAnyM_pure (i := 0) (oi := { dst := some 114, op := Op.fieldAddr 31 (Operand.tmp 11) 2, type := 0, pos := "law.go:89", after := #[], guard := none }) (v := ?_) rfl (by kernel_rfl) (by kernel_rfl) (by kernel_rfl) (fun _ _ _ h => h) (by decide) (by decide) (Or.inl ⟨by rfl, ?_⟩) (fun _ => HS1) (fun _ => trivial) ?_
      rotate_left
      · intro W hSW; first | (go_simp; done) | (go_simp; with_reducible rfl)
      try simp only [Act.put, List.setIfInBounds_toArray, List.set_cons_zero, List.set_cons_succ]
      refine wpAnyM_take (i := 1) (oi := { dst := some 115, op := Op.load 22 (Operand.tmp 114), type := 22, pos := "law.go:89", after := #[{ on := 0, ground := Ground.data }], guard := none }) (v := ?_) rfl (by kernel_rfl) (by kernel_rfl) (by kernel_rfl) (fun _ _ _ h => h) (by decide) (by decide) (by kernel_rfl) (by kernel_rfl) (by kernel_rfl) (Or.inl ⟨by rfl, ?_⟩) HS1 (fun _ => trivial) ?_
      rotate_left
      · intro W hSW; have z := cell_on hSW z2; first | (go_simp; done) | (go_simp; with_reducible rfl)
      try simp only [Act.put, List.setIfInBounds_toArray, List.set_cons_zero, List.set_cons_succ]
      refine wpAnyM_pure (i := 2) (oi := { dst := some 116, op := Op.fieldAddr 31 (Operand.tmp 11) 2, type := 0, pos := "law.go:89", after := #[], guard := none }) (v := ?_) rfl (by kernel_rfl) (by kernel_rfl) (by kernel_rfl) (fun _ _ _ h => h) (by decide) (by decide) (Or.inl ⟨by rfl, ?_⟩) (fun _ => HS1) (fun _ => trivial) ?_
      rotate_left
      · intro W hSW; first | (go_simp; done) | (go_simp; with_reducible rfl)
      try simp only [Act.put, List.setIfInBounds_toArray, List.set_cons_zero, List.set_cons_succ]
      refine wpAnyM_take (i := 3) (oi := { dst := some 117, op := Op.load 22 (Operand.tmp 116), type := 22, pos := "law.go:89", after := #[{ on := 2, ground := Ground.data }], guard := none }) (v := ?_) rfl (by kernel_rfl) (by kernel_rfl) (by kernel_rfl) (fun _ _ _ h => h) (by decide) (by decide) (by kernel_rfl) (by kernel_rfl) (by kernel_rfl) (Or.inl ⟨by rfl, ?_⟩) HS1 (fun _ => trivial) ?_
      rotate_left
      · intro W hSW; have z := cell_on hSW z2; first | (go_simp; done) | (go_simp; with_reducible rfl)
      try simp only [Act.put, List.setIfInBounds_toArray, List.set_cons_zero, List.set_cons_succ]
      refine wpAnyM_pure (i := 4) (oi := { dst := some 118, op := Op.call { callee := Callee.builtin Builtin.len, args := #[Operand.tmp 117], argTypes := #[22] }, type := 3, pos := "law.go:89", after := #[{ on := 3, ground := Ground.data }], guard := none }) (v := ?_) rfl (by kernel_rfl) (by kernel_rfl) (by kernel_rfl) (fun _ _ _ h => h) (by decide) (by decide) (Or.inl ⟨by rfl, ?_⟩) (fun _ => HS1) (fun _ => trivial) ?_
      rotate_left
      · intro W hSW; first | (go_simp; done) | (go_simp; with_reducible rfl)
      try simp only [Act.put, List.setIfInBounds_toArray, List.set_cons_zero, List.set_cons_succ]
      refine wpAnyM_pure (i := 5) (oi := { dst := some 119, op := Op.binOp BinOp.sub 3 (Operand.tmp 118) (Operand.const (Value.int IntKind.i64 1)) 3, type := 3, pos := "law.go:89", after := #[{ on := 4, ground := Ground.data }], guard := none }) (v := .int .i64 (np1 : Int)) rfl (by kernel_rfl) (by kernel_rfl) (by kernel_rfl) (fun _ _ _ h => h) (by decide) (by decide) (Or.inl ⟨by rfl, ?_⟩) (fun _ => HS1) (fun _ => trivial) ?_
      · intro W hSW; first | (go_simp; done) | (go_simp; with_reducible rfl)
      try simp only [Act.put, List.setIfInBounds_toArray, List.set_cons_zero, List.set_cons_succ]
      refine wpAnyM_pure (i := 6) (oi := { dst := some 120, op := Op.fieldAddr 31 (Operand.tmp 11) 2, type := 0, pos := "law.go:89", after := #[], guard := none }) (v := ?_) rfl (by kernel_rfl) (by kernel_rfl) (by kernel_rfl) (fun _ _ _ h => h) (by decide) (by decide) (Or.inl ⟨by rfl, ?_⟩) (fun _ => HS1) (fun _ => trivial) ?_
      rotate_left
      · intro W hSW; first | (go_simp; done) | (go_simp; with_reducible rfl)
      try simp only [Act.put, List.setIfInBounds_toArray, List.set_cons_zero, List.set_cons_succ]
      refine wpAnyM_take (i := 7) (oi := { dst := some 121, op := Op.load 22 (Operand.tmp 120), type := 22, pos := "law.go:89", after := #[{ on := 6, ground := Ground.data }], guard := none }) (v := ?_) rfl (by kernel_rfl) (by kernel_rfl) (by kernel_rfl) (fun _ _ _ h => h) (by decide) (by decide) (by kernel_rfl) (by kernel_rfl) (by kernel_rfl) (Or.inl ⟨by rfl, ?_⟩) HS1 (fun _ => trivial) ?_
      rotate_left
      · intro W hSW; have z := cell_on hSW z2; first | (go_simp; done) | (go_simp; with_reducible rfl)
      try simp only [Act.put, List.setIfInBounds_toArray, List.set_cons_zero, List.set_cons_succ]
      refine wpAnyM_pure (i := 8) (oi := { dst := some 122, op := Op.fieldAddr 31 (Operand.tmp 11) 2, type := 0, pos := "law.go:89", after := #[], guard := none }) (v := ?_) rfl (by kernel_rfl) (by kernel_rfl) (by kernel_rfl) (fun _ _ _ h => h) (by decide) (by decide) (Or.inl ⟨by rfl, ?_⟩) (fun _ => HS1) (fun _ => trivial) ?_
      rotate_left
      · intro W hSW; first | (go_simp; done) | (go_simp; with_reducible rfl)
      try simp only [Act.put, List.setIfInBounds_toArray, List.set_cons_zero, List.set_cons_succ]
      refine wpAnyM_take (i := 9) (oi := { dst := some 123, op := Op.load 22 (Operand.tmp 122), type := 22, pos := "law.go:89", after := #[{ on := 8, ground := Ground.data }], guard := none }) (v := ?_) rfl (by kernel_rfl) (by kernel_rfl) (by kernel_rfl) (fun _ _ _ h => h) (by decide) (by decide) (by kernel_rfl) (by kernel_rfl) (by kernel_rfl) (Or.inl ⟨by rfl, ?_⟩) HS1 (fun _ => trivial) ?_
      rotate_left
      · intro W hSW; have z := cell_on hSW z2; first | (go_simp; done) | (go_simp; with_reducible rfl)
      try simp only [Act.put, List.setIfInBounds_toArray, List.set_cons_zero, List.set_cons_succ]
      refine wpAnyM_pure (i := 10) (oi := { dst := some 124, op := Op.call { callee := Callee.builtin Builtin.len, args := #[Operand.tmp 123], argTypes := #[22] }, type := 3, pos := "law.go:89", after := #[{ on := 9, ground := Ground.data }], guard := none }) (v := ?_) rfl (by kernel_rfl) (by kernel_rfl) (by kernel_rfl) (fun _ _ _ h => h) (by decide) (by decide) (Or.inl ⟨by rfl, ?_⟩) (fun _ => HS1) (fun _ => trivial) ?_
      rotate_left
      · intro W hSW; first | (go_simp; done) | (go_simp; with_reducible rfl)
      try simp only [Act.put, List.setIfInBounds_toArray, List.set_cons_zero, List.set_cons_succ]
      refine wpAnyM_pure (i := 11) (oi := { dst := some 125, op := Op.binOp BinOp.sub 3 (Operand.tmp 124) (Operand.const (Value.int IntKind.i64 1)) 3, type := 3, pos := "law.go:89", after := #[{ on := 10, ground := Ground.data }], guard := none }) (v := .int .i64 (np1 : Int)) rfl (by kernel_rfl) (by kernel_rfl) (by kernel_rfl) (fun _ _ _ h => h) (by decide) (by decide) (Or.inl ⟨by rfl, ?_⟩) (fun _ => HS1) (fun _ => trivial) ?_
      · intro W hSW; first | (go_simp; done) | (go_simp; with_reducible rfl)
      try simp only [Act.put, List.setIfInBounds_toArray, List.set_cons_zero, List.set_cons_succ]
      refine wpAnyM_pure (i := 12) (oi := { dst := some 126, op := Op.indexAddr 22 (Operand.tmp 121) (Operand.tmp 125), type := 0, pos := "law.go:89", after := #[{ on := 7, ground := Ground.data }, { on := 11, ground := Ground.data }], guard := none }) (v := ?_) rfl (by kernel_rfl) (by kernel_rfl) (by kernel_rfl) (fun _ _ _ h => h) (by decide) (by decide) (Or.inl ⟨by rfl, ?_⟩) (fun _ => HS1) (fun _ => trivial) ?_
      rotate_left
      · intro W hSW; first | (go_simp; done) | (go_simp; with_reducible rfl)
      try simp only [Act.put, List.setIfInBounds_toArray, List.set_cons_zero, List.set_cons_succ]
      refine wpAnyM_take (i := 13) (oi := { dst := some 127, op := Op.load 3 (Operand.tmp 126), type := 3, pos := "law.go:89", after := #[{ on := 12, ground := Ground.data }], guard := none }) (v := ?_) rfl (by kernel_rfl) (by kernel_rfl) (by kernel_rfl) (fun _ _ _ h => h) (by decide) (by decide) (by kernel_rfl) (by kernel_rfl) (by kernel_rfl) (Or.inl ⟨by rfl, ?_⟩) HS1 (fun _ => trivial) ?_
      rotate_left
      · intro W hSW; have z := cell_on hSW xp; first | (go_simp; done) | (go_simp; with_reducible rfl)
      try simp only [Act.put, List.setIfInBounds_toArray, List.set_cons_zero, List.set_cons_succ]
      refine wpAnyM_pure (i := 14) (oi := { dst := some 128, op := Op.binOp BinOp.add 3 (Operand.tmp 127) (Operand.const (Value.int IntKind.i64 1)) 3, type := 3, pos := "law.go:89", after := #[{ on := 13, ground := Ground.data }], guard := none }) (v := .int .i64 xl1) rfl (by kernel_rfl) (by kernel_rfl) (by kernel_rfl) (fun _ _ _ h => h) (by decide) (by decide) (Or.inl ⟨by rfl, ?_⟩) (fun _ => HS1) (fun _ => trivial) ?_
      · intro W hSW; first | (go_simp; done) | (go_simp; with_reducible rfl)
      try simp only [Act.put, List.setIfInBounds_toArray, List.set_cons_zero, List.set_cons_succ]
      refine wpAnyM_pure (i := 15) (oi := { dst := some 129, op := Op.fieldAddr 27 (Operand.tmp 9) 1, type := 0, pos := "law.go:89", after := #[], guard := none }) (v := ?_) rfl (by kernel_rfl) (by kernel_rfl) (by kernel_rfl) (fun _ _ _ h => h) (by decide) (by decide) (Or.inl ⟨by rfl, ?_⟩) (fun _ => HS1) (fun _ => trivial) ?_
      rotate_left
      · intro W hSW; first | (go_simp; done) | (go_simp; with_reducible rfl)
      try simp only [Act.put, List.setIfInBounds_toArray, List.set_cons_zero, List.set_cons_succ]
      refine wpAnyM_take (i := 16) (oi := { dst := some 130, op := Op.load 23 (Operand.tmp 129), type := 23, pos := "law.go:89", after := #[{ on := 15, ground := Ground.data }], guard := none }) (v := ?_) rfl (by kernel_rfl) (by kernel_rfl) (by kernel_rfl) (fun _ _ _ h => h) (by decide) (by decide) (by kernel_rfl) (by kernel_rfl) (by kernel_rfl) (Or.inl ⟨by rfl, ?_⟩) HS1 (fun _ => trivial) ?_
      rotate_left
      · intro W hSW; have z := cell_on hSW g1c; first | (go_simp; done) | (go_simp; with_reducible rfl)
      try simp only [Act.put, List.setIfInBounds_toArray, List.set_cons_zero, List.set_cons_succ]
      refine wpAnyM_pure (i := 17) (oi := { dst := some 131, op := Op.call { callee := Callee.builtin Builtin.len, args := #[Operand.tmp 130], argTypes := #[23] }, type := 3, pos := "law.go:89", after := #[{ on := 16, ground := Ground.data }], guard := none }) (v := ?_) rfl (by kernel_rfl) (by kernel_rfl) (by kernel_rfl) (fun _ _ _ h => h) (by decide) (by decide) (Or.inl ⟨by rfl, ?_⟩) (fun _ => HS1) (fun _ => trivial) ?_
      rotate_left
      · intro W hSW; first | (go_simp; done) | (go_simp; with_reducible rfl)
      try simp only [Act.put, List.setIfInBounds_toArray, List.set_cons_zero, List.set_cons_succ]
      refine wpAnyM_pure (i := 18) (oi := { dst := some 132, op := Op.binOp BinOp.rem 3 (Operand.tmp 128) (Operand.tmp 131) 3, type := 3, pos := "law.go:89", after := #[{ on := 14, ground := Ground.data }, { on := 17, ground := Ground.data }], guard := none }) (v := .int .i64 xr) rfl (by kernel_rfl) (by kernel_rfl) (by kernel_rfl) (fun _ _ _ h => h) (by decide) (by decide) (Or.inl ⟨by rfl, ?_⟩) (fun _ => HS1) (fun _ => trivial) ?_
      · intro W hSW; first | (go_simp; done) | (go_simp; with_reducible rfl)
      try simp only [Act.put, List.setIfInBounds_toArray, List.set_cons_zero, List.set_cons_succ]
      refine wpAnyM_pure (i := 19) (oi := { dst := some 133, op := Op.indexAddr 22 (Operand.tmp 115) (Operand.tmp 119), type := 0, pos := "law.go:89", after := #[{ on := 1, ground := Ground.data }, { on := 5, ground := Ground.data }, { on := 0, ground := Ground.phase }, { on := 1, ground := Ground.phase }, { on := 2, ground := Ground.phase }, { on := 3, ground := Ground.phase }, { on := 4, ground := Ground.phase }, { on := 5, ground := Ground.phase }, { on := 6, ground := Ground.phase }, { on := 7, ground := Ground.phase }, { on := 8, ground := Ground.phase }, { on := 9, ground := Ground.phase }, { on := 10, ground := Ground.phase }, { on := 11, ground := Ground.phase }, { on := 12, ground := Ground.phase }, { on := 13, ground := Ground.phase }, { on := 14, ground := Ground.phase }, { on := 15, ground := Ground.phase }, { on := 16, ground := Ground.phase }, { on := 17, ground := Ground.phase }, { on := 18, ground := Ground.phase }], guard := none }) (v := ?_) rfl (by kernel_rfl) (by kernel_rfl) (by kernel_rfl) (fun _ _ _ h => h) (by decide) (by decide) (Or.inl ⟨by rfl, ?_⟩) (fun _ => HS1) (fun _ => trivial) ?_
      rotate_left
      · intro W hSW; first | (go_simp; done) | (go_simp; with_reducible rfl)
      try simp only [Act.put, List.setIfInBounds_toArray, List.set_cons_zero, List.set_cons_succ]
      refine wpAnyM_lone (T := fun _ W => W = w6.drew.setCell ⟨e1, np1, none⟩ (.int .i64 xr)) (i := 20) (oi := { dst := none, op := Op.store 3 (Operand.tmp 133) (Operand.tmp 132), type := 0, pos := "law.go:89", after := #[{ on := 19, ground := Ground.data }, { on := 18, ground := Ground.data }, { on := 0, ground := Ground.phase }, { on := 1, ground := Ground.phase }, { on := 2, ground := Ground.phase }, { on := 3, ground := Ground.phase }, { on := 4, ground := Ground.phase }, { on := 5, ground := Ground.phase }, { on := 6, ground := Ground.phase }, { on := 7, ground := Ground.phase }, { on := 8, ground := Ground.phase }, { on := 9, ground := Ground.phase }, { on := 10, ground := Ground.phase }, { on := 11, ground := Ground.phase }, { on := 12, ground := Ground.phase }, { on := 13, ground := Ground.phase }, { on := 14, ground := Ground.phase }, { on := 15, ground := Ground.phase }, { on := 16, ground := Ground.phase }, { on := 17, ground := Ground.phase }, { on := 18, ground := Ground.phase }], guard := none }) (by kernel_rfl) rfl ?_ (fun _ _ _ h => gone (by kernel_rfl) h) (fun _ _ _ _ => trivial) ?_
      · intro Kc hK
        go_simp
        exact hK.out undef _ rfl
      intro v9 W9 h9
      subst h9
      try simp only [Act.put]
      refine wpAnyM_done (by kernel_rfl) ?_ _
      have hOD : KOwn w6.drew gk B _ _ K := ⟨hO6.out.hv, hO6.out.pa, hO6.out.si⟩
      have hBD : Below gk w3 w6.drew := ⟨hBk6.os, hBk6.tape, hBk6.output, hBk6.size, hBk6.block⟩
      have hSD : SvAt w6.drew gs cs := hvs6.out
      go_wp2_with fail
      go_meet
      case rel =>
        have hg9 : (K.path.set np1 xr).getD (K.path.length - 1) 0 = xr := by rw [show K.path.length - 1 = np1 by have := hnpe.out; have := hnp1.out; omega, List.getD_eq_getElem?_getD, List.getElem?_set_self hl1.out]; rfl
        exact ⟨true, rfl, (hOD.way np1 xr).wrong ⟨hks.out.lock, hks.out.secret, by show (K.path.set np1 xr).length ≤ 1000; rw [List.length_set]; exact hks.out.np, getD_allW In64 _ _ (fun k hk => by rcases List.mem_or_eq_of_mem_set hk with h1 | h1; (obtain ⟨j, hj, rfl⟩ := List.mem_iff_getElem.1 h1; have h2 := hks.out.pa j hj; rwa [List.getD_eq_getElem?_getD, List.getElem?_eq_getElem hj] at h2); (rw [h1]; have := hxrl.out; exact ⟨by omega, by omega⟩)), hks.out.ns, hks.out.si⟩ (by show (K.path.set np1 xr).length ≤ 100; rw [List.length_set]; have := hnpe.out; omega) (fun _ ho => by have h9 := ho.2.2.2.2.2.1.2.2; have h8 : (K.path.set np1 xr).getD ((K.path.set np1 xr).length - 1) 0 = S.leaders.getD K.lock.toNat 0 := h9; rw [List.length_set, hg9, ← hlast.out] at h8; exact hxrl.out.1 h8) (hSD.but (But.setCell _ e1 np1 _) (by omega)) (hBD.setCell (p := ⟨e1, np1, none⟩) (by show gk ≤ e1; omega) _)⟩
    · clear g1c g3c xp z0 z1 z2
      obtain ⟨L, hLs⟩ : ∃ L, s0.data.toList = L := ⟨_, rfl⟩
      have hL5 : L.length = 512 := by rw [← hLs, len_list]; exact s512.out
      replace hLs := hide hLs
      go_wp2_with (refine wpList_bytes (by rfl) (.tmp 61) (by rfl) s0 (by rfl) ?_; intro v8 w8 hold8 hb8; rw [hLs.out] at hold8; refine Hid.out ?_)
      unfold Hid
      obtain ⟨gb, c, rfl, hgB, hby⟩ := ByteW.of_hold hold8 (by omega)
      have hil : ib < L.length := by omega
      have ci := hby.get ib hil
      have fi := hby.2.2 ib hil
      have hx8 := L[ib].toNat_lt
      obtain ⟨y, hy⟩ : ∃ y, y = L[ib].toNat := ⟨_, rfl⟩
      rw [← hy] at ci hx8
      clear hy hold8
      have hty := turnedW y hx8
      have hby9 := hide (hby.set ib hil _ _ hty)
      have hB9 := hide (hb8.setCell (p := ⟨gb, ib, none⟩) hgB (.int .u8 (bits .xor .u8 (y : Int) 1)))
      rw [hL5]
      have i5 : (ib : Int) < 512 := hib
      replace hil := hide hil
      replace hL5 := hide hL5
      replace hby := hide hby
      replace hty := hide hty
      go_wp2_with fail
      refine (HPb.out _).mono ?_
      rintro e w0 ⟨rfl, hw0⟩
      subst w0
      go_upto_region 12 with fail
      clear ci fi hb8 hby
      generalize w8.setCell ⟨gb, ib, none⟩ (.int .u8 (bits .xor .u8 (y : Int) 1)) = w9 at hby9 hB9 ⊢
      obtain ⟨x9, hx9⟩ : ∃ x : ByteArray, x = ⟨(L.set ib (UInt8.ofNat (y ^^^ 1))).toArray⟩ := ⟨_, rfl⟩
      have hl9 : (L.set ib (UInt8.ofNat (y ^^^ 1))).length = 512 := by rw [List.length_set]; exact hL5.out
      have hs9 : x9.size = 512 := by rw [hx9, mk_size]; exact hl9
      have run1 := hby9.out.run c
      rw [hl9, ← hx9] at run1
      have z39 := cell_on hB9.out z3
      have xs9 := cell_on hB9.out xs
      have f9 : w9.frozen? ⟨e2, 0, none⟩ = false := by rw [World.frozen?_of_block (w := w6) (hB9.out.block e2 (block_lt_of_cell xs))]; exact fs 0
      clear z3 xs
      replace hx9 := hide hx9
      replace hs9 := hide hs9
      replace hl9 := hide hl9
      go_wp2_with fail
      go_meet
      case rel =>
        have hO9 : KOwn w9 gk B _ _ K := ⟨hO6.out.hv.below hB9.out hO6.out.hv.lt, own_belowK hO6.out.pa hB9.out, own_belowK hO6.out.si hB9.out⟩
        have hBk9 : Below gk w3 w9 := hBk6.trans (hB9.out.mono (by have := hBk6.size; have := hz3.out; omega))
        exact ⟨false, rfl, (hO9.sig x9).wrong ⟨hks.out.lock, hks.out.secret, hks.out.np, hks.out.pa, by show (K.sigs.set 0 x9).length ≤ 1000; rw [List.length_set]; exact hks.out.ns, getD_allW (fun k : ByteArray => k.size ≤ 1000) _ _ (fun k hk => by rcases List.mem_or_eq_of_mem_set hk with h1 | h1; (obtain ⟨j, hj, rfl⟩ := List.mem_iff_getElem.1 h1; have h2 := hks.out.si j hj; rwa [List.getD_eq_getElem?_getD, List.getElem?_eq_getElem hj] at h2); (rw [h1, hs9.out]; omega))⟩ (by show K.path.length ≤ 100; have := hnpe.out; omega) (fun h => absurd h (by decide)) ((HS3.out w9 hBk9).but (But.setCell _ e2 0 _) (by omega)) (hBk9.setCell (p := ⟨e2, 0, none⟩) (by show gk ≤ e2; omega) _)⟩
  case rest =>
    clear z0 z1 z2 z3 xp xs g1c g3c zf fp fs hO6 hvs6 hBk6 hlast s512 sec7 hl1 hl2 hxl hs0 hf1 hf2 hks HG hpath hlock hok' hbs' hll hnp hnp6 hrl hB1 hB2 HPb HS3 hh
    obtain ⟨sure, rfl, K', pa', sa', pc', sc', hk, HL', hp', hz', hsec', hsure, hvs, hB⟩ := hcut
    have hW := HW3.out wc hB
    obtain ⟨t, ht⟩ : ∃ t, told (hkOpens S ar K') = t := ⟨_, rfl⟩
    have hst : sure = true → t = false := fun h9 => by rw [← ht]; exact told_no (hsure h9)
    have HC : Hid (∀ W, Below wc.heap.size wc W → Calls Try.prog 8 #[.agg cs, .int .i64 ar, .agg (hcells pa' sa' pc' sc' K')] W fun e w' => e = .returned (.bool t) ∧ Below W.heap.size W w') := fun W hW9 => by have h9 := hkcheck_any (hW.below hW9) ar (HL'.below hW9) hp' hz' hsec'; rw [ht] at h9; exact h9
    have HD : Hid (∀ W, Below wc.heap.size wc W → Calls Try.prog 9 #[.agg cs, .int .i64 ar, .agg (hcells pa' sa' pc' sc' K')] W fun e w' => e = .returned (.bool t) ∧ Below W.heap.size W w') := fun W hW9 => by have h9 := rhkcheck_any (hW.below hW9) ar (HL'.below hW9) hp' hz' hsec'; rw [ht] at h9; exact h9
    clear hW ht hsure HL' hz' hsec' hp' HW3
    have hR0 := Below.refl wc.heap.size wc
    go_wp2_with (first
      | ((with_reducible refine wpList_at ?_); refine wpList_loadV (by rfl) (.tmp 9) (by rfl) _ cs (by rfl) hvs h7 ?_)
      | ((with_reducible refine wpList_at ?_); refine wpList_loadK (by rfl) (.tmp 11) (by rfl) _ _ (by rfl) hk rfl ?_))
    refine (HC.out _ hR0).mono ?_
    rintro e w7 ⟨rfl, hb7⟩
    have hv7 := hvs.below hb7
    have hk7 := hk.below hb7 hk.lt
    clear HC
    rcases hsu : sure with _ | _ <;> rcases htt : t with _ | _
    all_goals first
      | (exfalso; have h9 := hst hsu; rw [htt] at h9; cases h9; done)
      | skip
    all_goals
      subst hsu htt
      clear hst
      go_wp2_with (first
        | ((with_reducible refine wpList_at ?_); refine wpList_loadV (by rfl) (.tmp 9) (by rfl) _ cs (by rfl) hv7 h7 ?_)
        | ((with_reducible refine wpList_at ?_); refine wpList_loadK (by rfl) (.tmp 11) (by rfl) _ _ (by rfl) hk7 rfl ?_))
      refine (HD.out _ hb7).mono ?_
      rintro e w8 ⟨rfl, hb8⟩
      go_wp2_with fail
      refine (HAW.out _).mono ?_
      rintro e w9 ⟨rfl, hb9⟩
      have hb79 := below_then (below_then hb7 hb8) hb9
      go_wp2
      go_ret
      exact ⟨rfl, hB3.out.trans ((hB.trans (hb79.mono (by have := hvs.lt; have := hk.lt; omega))).mono hgk0)⟩

end Go.Proofs.Ythoimecljfcjmaa
