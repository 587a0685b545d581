/-
  A key's bytes are read as it; paths are short; swaps by numbers have the statements' keys; a key in a variable.
-/
import Derived.Test.YtccaaaifhiigcaaGreatHkSa
import Derived.Test.YtccaaaifhiigcaaGreatHkWake
import Derived.Test.YtccaaaifhiigcaaGreatZ35
import Derived.Test.YtccaaaifhiigcaaGreatZ32
import Derived.Test.YtccaaaifhiigcaaGreatHkGrown
import Derived.Test.YtccaaaifhiigcaaGreatNumV
namespace Go.Proofs.YtccaaaifhiigcaaGreat
open Go.RowKit

theorem key_back (K : HkM) (h : hkFits K) : rdK (hkB K) = K ∧ rdKE (hkB K) = ([], false) := by
  obtain ⟨⟨h0, h1⟩, h2, h3, h4, h5, h6, h7⟩ := h
  obtain ⟨tp, htp⟩ : ∃ t, t = K.path.flatMap num8 ++ (K.sigs.flatMap txt8 ++ []) := ⟨_, rfl⟩
  have hp6 : ∀ x ∈ K.path, 0 ≤ x ∧ x < 6 := mem_eachD 0 h6
  have hs5 : ∀ x ∈ K.sigs, x.size = 512 := mem_eachD ByteArray.empty h7
  have e0 : hkB K = num8 K.lock ++ (text8 K.secret.data.toList ++ (num8 (K.path.length : Int) ++ tp)) := by
    rw [htp]; unfold hkB; simp only [List.append_assoc, List.append_nil]
  have e1 : kR1 (hkB K) = (text8 K.secret.data.toList ++ (num8 (K.path.length : Int) ++ tp), false) := by
    unfold kR1; rw [e0, numS_of]
  have hsz : (K.secret.data.toList.length : Int) ≤ 64 := by rw [Array.length_toList]; have : K.secret.data.size = K.secret.size := rfl; omega
  have e2 : kR2 (hkB K) = (num8 (K.path.length : Int) ++ tp, false) := by
    unfold kR2; rw [e1, txtS_of _ _ _ _ hsz (by omega)]
  have e3 : kR3 (hkB K) = (tp, false) := by
    unfold kR3; rw [e2, cntS_of _ _ _ _ (by omega) (by omega)]
  have e4 : kN (hkB K) = K.path.length := by
    unfold kN; rw [e2]; show (cntV (num8 (K.path.length : Int) ++ tp) 6).toNat = _
    rw [cntV_of _ _ _ (by omega) (by omega)]; rfl
  have i1 := items_flat num1 numS num8 K.path (fun x hx t b => numV_of x (by have := hp6 x hx; omega) (by have := hp6 x hx; omega) t) (fun x _ t b => numS_of x t b) (K.sigs.flatMap txt8 ++ []) false
  have i2 := items_flat sig1 sigS txt8 K.sigs (fun x hx t b => (txt_back 512 (by omega) x (by rw [hs5 x hx]; omega) t b).1) (fun x hx t b => (txt_back 512 (by omega) x (by rw [hs5 x hx]; omega) t b).2) [] false
  have e5 : kR4 (hkB K) = (K.sigs.flatMap txt8 ++ [], false) := by
    unfold kR4; rw [e3, e4, htp]; exact i1.2
  constructor
  · unfold rdK
    rw [e3, e4, e5, htp, i1.1, ← h5, i2.1, e0, numV_of _ (by omega) (by omega), ← e0, e1, txtV_of _ _ _ _ hsz (by omega), mk_data]
  · unfold rdKE
    rw [e4, e5, ← h5]; exact i2.2
theorem len_drop (a : Int) (l : List Int) (h : l.Pairwise (fun x y => x ≠ y)) : l.length ≤ (l.filter (fun x => x != a)).length + 1 := by
  induction l with
  | nil => simp
  | cons x t ih =>
    rw [List.pairwise_cons] at h
    by_cases hx : x = a
    · have : t.filter (fun x => x != a) = t := List.filter_eq_self.2 (fun y hy => by rw [bne_iff_ne]; exact fun e => h.1 y hy (by rw [hx, e]))
      rw [List.filter_cons_of_neg (by rw [hx]; simp), this]; simp
    · rw [List.filter_cons_of_pos (by rw [bne_iff_ne]; exact hx)]
      have := ih h.2
      simp; omega
theorem few_apart (n : Nat) (l : List Int) (h : l.Pairwise (fun x y => x ≠ y)) (hl : ∀ x ∈ l, 0 ≤ x ∧ x < (n : Int)) : l.length ≤ n := by
  induction n generalizing l with
  | zero =>
    cases l with
    | nil => simp
    | cons x t => have := hl x (by simp); omega
  | succ n ih =>
    have h1 := len_drop (n : Int) l h
    have h2 := ih (l.filter (fun x => x != (n : Int))) (h.filter _) (fun x hx => by
      have h3 := List.mem_filter.1 hx
      have h4 := hl x h3.1
      have h5 : x ≠ (n : Int) := by rw [← bne_iff_ne]; exact h3.2
      omega)
    omega
theorem path_len {s : SpecM} {l : List Int} (h : pathOk s l) : l.length ≤ s.parties.length := by
  refine few_apart _ l ?_ (mem_eachD 0 (fun j hj => (h.2.2 j hj).1))
  rw [List.pairwise_iff_getElem]
  intro i j hi hj hij
  have h9 := (h.2.2 j hj).2.1 i hij
  rw [List.getD_eq_getElem?_getD, List.getD_eq_getElem?_getD, List.getElem?_eq_getElem hi, List.getElem?_eq_getElem hj] at h9
  exact h9
theorem grown_fits {s : SpecM} (hok : specOk s) {K : HkM} (hk : GrownK s K) (hp : pathOk s K.path) : hkFits K := by
  have h6 := hok.2.2.1.2.1
  have h3 := hok.2.1.2.1
  have hl := path_len hp
  have hlk := hk.lk
  refine ⟨by omega, by rw [hk.sec7]; omega, hk.ne, by omega, hk.len, fun j hj => ?_, hk.sz⟩
  have := hk.rng j hj
  omega
theorem num_seeds {S : SpecM} (h : NumSpec S) : BySeeds S := by
  have hok := h.ok
  obtain ⟨n, A, L, st, de, rfl, _⟩ := h
  refine ⟨hok, fun i hi k hk => ?_, fun k hk => locksL_get _ _ hk⟩
  have hi' : i < (accs n).length := by have h9 : i < (withKeys (accs n) L.length).length := hi; rw [withKeys_len] at h9; exact h9
  show ((withKeys (accs n) L.length).getD i noParty).keys.getD k ByteArray.empty = _
  rw [withKeys_keys _ _ _ hi']
  exact keysL_get _ _ _ hk

/-- 'var x Hashkey = v'. -/
theorem wpList_varH {ops : Array Oper} {rest : List Oper} {o1 o2 : Oper} {a : Act} {w : World} {Q : Exit → Act → World → Prop} (hg1 : o1.guard = none) (hg2 : o2.guard = none) (ho1 : o1.op = .alloc 29) (x y : Operand) (ho2 : o2.op = .store 29 x y)
    (cs : Array Value) (hx : (a.put o1.dst (.pointer (some ⟨w.heap.size, 0, none⟩))).eval x = .pointer (some ⟨w.heap.size, 0, none⟩)) (hy : (a.put o1.dst (.pointer (some ⟨w.heap.size, 0, none⟩))).eval y = .agg cs) (h4 : cs.size = 4) (h1 : ∀ u ∈ cs.toList, u.oneCell' = true)
    (h : ∀ w1, HvAt w1 w.heap.size cs → w1.heap.size = w.heap.size + 1 → Below w.heap.size w w1 → wpList Tryz.prog ops Q rest ((a.put o1.dst (.pointer (some ⟨w.heap.size, 0, none⟩))).put o2.dst undef) w1) :
    wpList Tryz.prog ops Q (o1 :: o2 :: rest) a w :=
  wpList_plain hg1 fun _ hK => by
    have hr : (Instr.alloc 29 true (.tuple #[])).run Tryz.prog w = .ok (.pointer (some ⟨w.heap.size, 0, none⟩)) (w.alloc (.cells Z4 29)) := by
      have hz : (Tryz.prog.info? 29).map (fun i => (i.zero, i.size)) = some (some (.agg #[Value.int IntKind.i64 0, Value.string ⟨#[]⟩, Value.slice none 0 0, Value.slice none 0 0]), 4) := by kernel_rfl
      simp [Instr.alloc, (zero_of_info hz).1 w, go_sem, Value.cells, Z4]
    unfold Oper.wp execOp
    simp only [ho1, Sem.run_bind, hr, Result.andThen_ok]
    refine hK _ _ ?_
    refine wpList_splice hg2 29 x y ho2 w.heap.size 0 cs _ hx hy rfl 29 Z4.toList (heap_alloc_new _ _) (by rw [h4]; exact sizeHk) (by rw [h4]; simp [Z4]) h1 ?_
    intro w1 hc hz hb
    refine h w1 ?_ (by rw [hz]; simp) ?_
    · unfold Cells at hc
      unfold HvAt
      rw [hc, h4]; simp [Z4]
    · have hal : Below w.heap.size w (w.alloc (.cells Z4 29)) := (Below.refl _ _).alloc (Nat.le_refl _) _
      exact hal.trans (hb.below (Nat.le_refl _) hal.size)

end Go.Proofs.YtccaaaifhiigcaaGreat

/-
  The walk of HashkeyOpens.
-/
namespace Go.Proofs.YtccaaaifhiigcaaGreat
open Go.RowKit

theorem flatK_le {α : Type} (f : α → List UInt8) (c : Nat) (l : List α) (h : ∀ x ∈ l, (f x).length ≤ c) : (l.flatMap f).length ≤ c * l.length := by
  induction l with
  | nil => simp
  | cons x t ih =>
    have h1 := h x (by simp)
    have h2 := ih (fun y hy => h y (by simp [hy]))
    rw [List.flatMap_cons, List.length_append, List.length_cons, Nat.mul_add]
    omega
theorem hkB_len (K : HkM) (h : hkFits K) : (hkB K).length ≤ 100000 := by
  obtain ⟨_, h2, h3, h4, h5, h6, h7⟩ := h
  have e1 := flatK_le num8 8 K.path (fun x _ => by rw [num8_length]; omega)
  have e2 := flatK_le txt8 520 K.sigs (fun x hx => by
    have h9 : x.size = 512 := mem_eachD (p := fun x => x.size = 512) ByteArray.empty h7 x hx
    unfold txt8
    rw [text8_length, Array.length_toList]
    have : x.data.size = x.size := rfl
    omega)
  have e3 : K.secret.data.toList.length = K.secret.size := by rw [Array.length_toList]; rfl
  unfold hkB
  simp only [List.length_append, num8_length, text8_length]
  omega
theorem spec_lies {w : World} {a1 a2 a3 a4 : Option Addr} {k1 k2 k3 k4 : Nat} {S : SpecM} (h : SpecW w (.agg (cells7 a1 a2 a3 a4 k1 k2 k3 k4 S)) S) : Lies w a1 a2 a3 a4 S := by
  obtain ⟨b1, b2, b3, b4, c1, c2, c3, c4, he, L, _⟩ := h
  injection he with he
  simp only [cells7] at he
  injection he with he
  injection he with _ he
  injection he with h1 he
  injection he with h2 he
  injection he with h3 he
  injection he with h4 _
  injection h1 with h1 _ _
  injection h2 with h2 _ _
  injection h3 with h3 _ _
  injection h4 with h4 _ _
  subst h1 h2 h3 h4
  exact L

set_option maxRecDepth 10000 in
set_option maxHeartbeats 1000000 in
theorem hkopens_any (v0 v1 : Int) (al : Option Addr) (n cl : Nat) (l : List Int) (_w0 : (Lit.int .i64 v0).wf = true) (_w1 : (Lit.int .i64 v1).wf = true) (w : World) (hl : Ints w al n l) : Calls Tryz.prog 4 #[.int .i64 v0, .int .i64 v1, .slice al n cl] w fun e w' => e = .returned (.bool true) ∧ Below w.heap.size w w' := by
  clear _w0 _w1
  obtain ⟨S, hS, HS⟩ := spec_good v0
  have hok := hS.num.ok
  have hbs := num_seeds hS.num
  have hval := hS.valid
  have hsane := SaneS.of_ok hok
  have hnl := hok.2.1.1
  have hnl' := hok.2.1.2.1
  have hna12 := hok.2.2.2.1.2.1
  obtain ⟨lk, hlk, HPl⟩ := place_ex v1 (S.leaders.length : Int) (by omega) (by omega)
  have hlkn : lk < S.leaders.length := by omega
  replace HS := hide HS
  replace HPl := hide HPl
  have hL := hide hl
  have hok' := hide hok
  have hbs' := hide hbs
  have hval' := hide hval
  clear hS hok hbs hval hl hlk
  go_enter Tryz.func4, Tryz.ntmps4
  go_wp2_with fail
  refine (HS.out _).mono ?_
  rintro e w1 ⟨u, rfl, hO1, hb1⟩
  have hW1 := hO1.wide hsane
  obtain ⟨a1, a2, a3, a4, k1, k2, k3, k4, rfl, LI, hcap⟩ := hW1
  have hW1 : SpecW w1 (.agg (cells7 a1 a2 a3 a4 k1 k2 k3 k4 S)) S := ⟨a1, a2, a3, a4, k1, k2, k3, k4, rfl, LI, hcap⟩
  have h7 : Seven (cells7 a1 a2 a3 a4 k1 k2 k3 k4 S) := by obtain ⟨cs, he, h⟩ := hW1.seven; injection he with he; rw [he]; exact h
  clear hO1 HS hsane LI hcap
  go_upto_region 2 with ((with_reducible refine wpList_at ?_); refine wpList_varS (by rfl) (by rfl) (by rfl) (.tmp 7) (.tmp 14) (by rfl) (cells7 a1 a2 a3 a4 k1 k2 k3 k4 S) (by rfl) (by rfl) h7 ?_; intro w2 hv2 hz2 hb2)
  have hW2 := hW1.below hb2
  have hB2 := below_then hb1 hb2
  clear hb1 hb2 hW1
  generalize w1.heap.size = g1 at hv2 hz2 ⊢
  have q3 := (cells7_at hv2).2.2.2.1
  obtain ⟨nl, hnle⟩ : ∃ n, S.leaders.length = n := ⟨_, rfl⟩
  rw [hnle] at q3 HPl
  have HNL := hide hnle
  have hnl3 : nl ≤ 3 := by omega
  have hlk3 : lk < nl := by omega
  clear hnle hnl hnl'
  go_wp2_with fail
  refine (HPl.out _).mono ?_
  rintro e w0 ⟨rfl, hw0⟩
  subst w0
  clear HPl q3
  have HGr := hide (grown_any hW2 hbs'.out lk hlkn (cl := cl) (hL.out.below hB2))
  go_wp2_with ((with_reducible refine wpList_at ?_); refine wpList_loadV (by rfl) (.tmp 7) (by rfl) _ (cells7 a1 a2 a3 a4 k1 k2 k3 k4 S) (by rfl) hv2 h7 ?_)
  refine HGr.out.mono ?_
  rintro e w3 ⟨u, rfl, K, hO3, hG, hpath, hlock, hlen7, hb3⟩
  have hks := hG.sane hok'.out (by omega)
  obtain ⟨pa, sa, pc, sc, rfl⟩ := hO3.cells hks
  have hv3 := hv2.below hb3
  have hW3 := hW2.below hb3
  have hB3 := below_then hB2 hb3
  have hs3 : w.heap.size ≤ w3.heap.size := hB3.size
  clear HGr hv2 hW2 hB2 hb3 hz2
  go_upto_region 4 with ((with_reducible refine wpList_at ?_); refine wpList_varH (by rfl) (by rfl) (by rfl) (.tmp 9) (.tmp 23) (by rfl) (hcells pa sa pc sc K) (by rfl) (by rfl) rfl (by intro u hu; simp [hcells] at hu; rcases hu with rfl | rfl | rfl | rfl <;> rfl) ?_; intro w4 hk4 hz4 hb4)
  have hv4 : SvAt w4 g1 (cells7 a1 a2 a3 a4 k1 k2 k3 k4 S) := hv3.below hb4
  have hW4 := hW3.below hb4
  have hO4 := hO3.below hb4
  have hB4 := below_then hB3 hb4
  clear hv3 hW3 hB3 hb4 hO3
  obtain ⟨g2, hg2⟩ : ∃ g2, w3.heap.size = g2 := ⟨_, rfl⟩
  rw [hg2] at hk4 hz4 hs3 ⊢
  clear hg2
  -- the facts of the swap and the key
  have L4 := hO4.lies hks
  have hne := hG.ne
  obtain ⟨b0, o0, hpa, d0⟩ := L4.path.2.2.2 0 hne
  subst hpa
  obtain ⟨np, hnp⟩ : ∃ n, K.path.length = n := ⟨_, rfl⟩
  obtain ⟨np1, hnp1⟩ : ∃ m, np = m + 1 := ⟨np - 1, by omega⟩
  have hnp7 : np1 ≤ 6 := by omega
  have hsl : K.sigs.length = np := by rw [hG.len, hnp]
  obtain ⟨bl, ol, hbl, dl⟩ := L4.path.2.2.2 np1 (by omega)
  injection hbl with hbl
  injection hbl with hbl1 hbl2 _
  subst hbl1 hbl2
  obtain ⟨x0, hx0⟩ : ∃ x, K.path.getD 0 0 = x := ⟨_, rfl⟩
  obtain ⟨x1, hx1⟩ : ∃ x, S.leaders.getD lk 0 = x := ⟨_, rfl⟩
  have hlast : K.path.getD np1 0 = x1 := by
    have h9 := hG.last
    rw [hnp, hlock, Int.toNat_natCast, hx1, hnp1, Nat.add_sub_cancel] at h9
    exact h9
  rw [hlast] at dl
  have d0 : w4.cell? ⟨b0, o0, none⟩ = some (.int .i64 (K.path.getD 0 0)) := d0
  rw [hx0] at d0
  have q3 := (cells7_at hv4).2.2.2.1
  obtain ⟨b3, o3, hb3, d3⟩ := (spec_lies hW4).leaders.2.2.2 lk hlkn
  rw [hx1] at d3
  rw [HNL.out, hb3] at q3
  clear hb3
  obtain ⟨_, _, y2, y3⟩ := hcells_at hk4
  rw [hnp] at y2
  rw [hsl] at y3
  have hnpe : K.path.length = np := hnp
  have hnp' := hide hnpe
  have t0 : ((np : Int) == 0) = false := by rw [beq_eq_false_iff_ne]; omega
  have tn : ((np : Int) != (np : Int)) = false := by simp
  have hwp : IntKind.i64.wrap ((np : Int) - 1) = (np1 : Int) := by rw [wrap_i64 (by omega) (by omega)]; omega
  have hnn : np1 < np := by omega
  have hn0 : 0 < np := by omega
  have HNP1 := hide hnp1
  have hb0 : (x1 != x1) = false := by simp
  have HP4 : Hid (∀ W, Below w4.heap.size w4 W → Calls Tryz.prog 23 #[.agg (cells7 a1 a2 a3 a4 k1 k2 k3 k4 S), .slice (some ⟨b0, o0, none⟩) np pc] W fun e w' => e = .returned (.bool true) ∧ Below W.heap.size W w') := fun W hW => by
    have h9 := rpath_any (cl := pc) (hW4.below hW) (L4.path.below hW)
    rw [told_yes hpath, hnpe] at h9
    exact h9
  have HG := hide hG
  have HPA := hide hpath
  have HLK := hide hlock
  have hks' := hide hks
  have HX0 := hide hx0
  clear hG hpath hlock hks hx0 hx1 hnpe hnp hnp1 hsl hlast hlen7 hne
  replace L4 := hide L4
  have hRw : Below w4.heap.size w4 w4.drew := ⟨rfl, rfl, rfl, Nat.le_refl _, fun _ _ => rfl⟩
  refine wp_region_held_drew (S := fun W => Below w4.heap.size w4 W) (by kernel_rfl) hRw (fun hHeld => ?_)
  refine wpAnyH_take (i := 0) (oi := { dst := some 24, op := Op.fieldAddr 29 (Operand.tmp 9) 2, type := 0, pos := "law.go:53", after := #[], guard := none }) (v := ?_) rfl (by kernel_rfl) (by kernel_rfl) (by kernel_rfl) (fun _ _ _ h => h) (Or.inl ⟨by rfl, ?_⟩) (by assumption) ?_
  rotate_left
  · intro W hSW; first | (go_simp; done) | (go_simp; with_reducible rfl)
  try simp only [Act.put, List.setIfInBounds_toArray, List.set_cons_zero, List.set_cons_succ]
  refine wpAnyH_take (i := 1) (oi := { dst := some 25, op := Op.load 24 (Operand.tmp 24), type := 24, pos := "law.go:53", after := #[{ on := 0, ground := Ground.data }], guard := none }) (v := ?_) rfl (by kernel_rfl) (by kernel_rfl) (by kernel_rfl) (fun _ _ _ h => h) (Or.inl ⟨by rfl, ?_⟩) (by assumption) ?_
  rotate_left
  · intro W hSW; have z0 := cell_on hSW q3; have z1 := cell_on hSW y2; have z2 := cell_on hSW y3; have z3 := cell_on hSW d3; have z4 := cell_on hSW dl; first | (go_simp; done) | (go_simp; with_reducible rfl)
  try simp only [Act.put, List.setIfInBounds_toArray, List.set_cons_zero, List.set_cons_succ]
  refine wpAnyH_take (i := 2) (oi := { dst := some 26, op := Op.call { callee := Callee.builtin Builtin.len, args := #[Operand.tmp 25], argTypes := #[24] }, type := 3, pos := "law.go:53", after := #[{ on := 1, ground := Ground.data }], guard := none }) (v := ?_) rfl (by kernel_rfl) (by kernel_rfl) (by kernel_rfl) (fun _ _ _ h => h) (Or.inl ⟨by rfl, ?_⟩) (by assumption) ?_
  rotate_left
  · intro W hSW; first | (go_simp; done) | (go_simp; with_reducible rfl)
  try simp only [Act.put, List.setIfInBounds_toArray, List.set_cons_zero, List.set_cons_succ]
  refine wpAnyH_take (i := 3) (oi := { dst := some 27, op := Op.binOp BinOp.eql 3 (Operand.tmp 26) (Operand.const (Value.int IntKind.i64 0)) 3, type := 4, pos := "law.go:53", after := #[{ on := 2, ground := Ground.data }], guard := none }) (v := .bool false) rfl (by kernel_rfl) (by kernel_rfl) (by kernel_rfl) (fun _ _ _ h => h) (Or.inl ⟨by rfl, ?_⟩) (by assumption) ?_
  · intro W hSW; first | (go_simp; done) | (go_simp; with_reducible rfl)
  try simp only [Act.put, List.setIfInBounds_toArray, List.set_cons_zero, List.set_cons_succ]
  refine wpAnyH_take (i := 4) (oi := { dst := some 28, op := Op.move (Operand.tmp 27), type := 4, pos := "law.go:53", after := #[{ on := 3, ground := Ground.data }], guard := none }) (v := ?_) rfl (by kernel_rfl) (by kernel_rfl) (by kernel_rfl) (fun _ _ _ h => h) (Or.inl ⟨by rfl, ?_⟩) (by assumption) ?_
  rotate_left
  · intro W hSW; first | (go_simp; done) | (go_simp; with_reducible rfl)
  try simp only [Act.put, List.setIfInBounds_toArray, List.set_cons_zero, List.set_cons_succ]
  refine wpAnyH_take (i := 5) (oi := { dst := some 29, op := Op.fieldAddr 29 (Operand.tmp 9) 2, type := 0, pos := "law.go:53", after := #[{ on := 4, ground := Ground.guard }], guard := some (4, false) }) (v := ?_) rfl (by kernel_rfl) (by kernel_rfl) (by kernel_rfl) (fun _ _ _ h => h) (Or.inl ⟨by rfl, ?_⟩) (by assumption) ?_
  rotate_left
  · intro W hSW; first | (go_simp; done) | (go_simp; with_reducible rfl)
  try simp only [Act.put, List.setIfInBounds_toArray, List.set_cons_zero, List.set_cons_succ]
  refine wpAnyH_take (i := 6) (oi := { dst := some 30, op := Op.load 24 (Operand.tmp 29), type := 24, pos := "law.go:53", after := #[{ on := 5, ground := Ground.data }, { on := 4, ground := Ground.guard }], guard := some (4, false) }) (v := ?_) rfl (by kernel_rfl) (by kernel_rfl) (by kernel_rfl) (fun _ _ _ h => h) (Or.inl ⟨by rfl, ?_⟩) (by assumption) ?_
  rotate_left
  · intro W hSW; have z0 := cell_on hSW q3; have z1 := cell_on hSW y2; have z2 := cell_on hSW y3; have z3 := cell_on hSW d3; have z4 := cell_on hSW dl; first | (go_simp; done) | (go_simp; with_reducible rfl)
  try simp only [Act.put, List.setIfInBounds_toArray, List.set_cons_zero, List.set_cons_succ]
  refine wpAnyH_take (i := 7) (oi := { dst := some 31, op := Op.call { callee := Callee.builtin Builtin.len, args := #[Operand.tmp 30], argTypes := #[24] }, type := 3, pos := "law.go:53", after := #[{ on := 6, ground := Ground.data }, { on := 4, ground := Ground.guard }], guard := some (4, false) }) (v := ?_) rfl (by kernel_rfl) (by kernel_rfl) (by kernel_rfl) (fun _ _ _ h => h) (Or.inl ⟨by rfl, ?_⟩) (by assumption) ?_
  rotate_left
  · intro W hSW; first | (go_simp; done) | (go_simp; with_reducible rfl)
  try simp only [Act.put, List.setIfInBounds_toArray, List.set_cons_zero, List.set_cons_succ]
  refine wpAnyH_take (i := 8) (oi := { dst := some 32, op := Op.fieldAddr 29 (Operand.tmp 9) 3, type := 0, pos := "law.go:53", after := #[{ on := 4, ground := Ground.guard }], guard := some (4, false) }) (v := ?_) rfl (by kernel_rfl) (by kernel_rfl) (by kernel_rfl) (fun _ _ _ h => h) (Or.inl ⟨by rfl, ?_⟩) (by assumption) ?_
  rotate_left
  · intro W hSW; first | (go_simp; done) | (go_simp; with_reducible rfl)
  try simp only [Act.put, List.setIfInBounds_toArray, List.set_cons_zero, List.set_cons_succ]
  refine wpAnyH_take (i := 9) (oi := { dst := some 33, op := Op.load 25 (Operand.tmp 32), type := 25, pos := "law.go:53", after := #[{ on := 8, ground := Ground.data }, { on := 4, ground := Ground.guard }], guard := some (4, false) }) (v := ?_) rfl (by kernel_rfl) (by kernel_rfl) (by kernel_rfl) (fun _ _ _ h => h) (Or.inl ⟨by rfl, ?_⟩) (by assumption) ?_
  rotate_left
  · intro W hSW; have z0 := cell_on hSW q3; have z1 := cell_on hSW y2; have z2 := cell_on hSW y3; have z3 := cell_on hSW d3; have z4 := cell_on hSW dl; first | (go_simp; done) | (go_simp; with_reducible rfl)
  try simp only [Act.put, List.setIfInBounds_toArray, List.set_cons_zero, List.set_cons_succ]
  refine wpAnyH_take (i := 10) (oi := { dst := some 34, op := Op.call { callee := Callee.builtin Builtin.len, args := #[Operand.tmp 33], argTypes := #[25] }, type := 3, pos := "law.go:53", after := #[{ on := 9, ground := Ground.data }, { on := 4, ground := Ground.guard }], guard := some (4, false) }) (v := ?_) rfl (by kernel_rfl) (by kernel_rfl) (by kernel_rfl) (fun _ _ _ h => h) (Or.inl ⟨by rfl, ?_⟩) (by assumption) ?_
  rotate_left
  · intro W hSW; first | (go_simp; done) | (go_simp; with_reducible rfl)
  try simp only [Act.put, List.setIfInBounds_toArray, List.set_cons_zero, List.set_cons_succ]
  refine wpAnyH_take (i := 11) (oi := { dst := some 35, op := Op.binOp BinOp.neq 3 (Operand.tmp 31) (Operand.tmp 34) 3, type := 4, pos := "law.go:53", after := #[{ on := 7, ground := Ground.data }, { on := 10, ground := Ground.data }, { on := 4, ground := Ground.guard }], guard := some (4, false) }) (v := .bool false) rfl (by kernel_rfl) (by kernel_rfl) (by kernel_rfl) (fun _ _ _ h => h) (Or.inl ⟨by rfl, ?_⟩) (by assumption) ?_
  · intro W hSW; first | (go_simp; done) | (go_simp; with_reducible rfl)
  try simp only [Act.put, List.setIfInBounds_toArray, List.set_cons_zero, List.set_cons_succ]
  refine wpAnyH_take (i := 12) (oi := { dst := some 36, op := Op.pick (Operand.tmp 28) (Operand.const (Value.bool true)) (Operand.tmp 35), type := 4, pos := "law.go:53", after := #[{ on := 4, ground := Ground.data }, { on := 11, ground := Ground.data }], guard := none }) (v := .bool false) rfl (by kernel_rfl) (by kernel_rfl) (by kernel_rfl) (fun _ _ _ h => h) (Or.inl ⟨by rfl, ?_⟩) (by assumption) ?_
  · intro W hSW; first | (go_simp; done) | (go_simp; with_reducible rfl)
  try simp only [Act.put, List.setIfInBounds_toArray, List.set_cons_zero, List.set_cons_succ]
  refine wpAnyH_take (i := 13) (oi := { dst := some 37, op := Op.move (Operand.tmp 36), type := 4, pos := "law.go:53", after := #[{ on := 12, ground := Ground.data }, { on := 4, ground := Ground.chain }], guard := none }) (v := ?_) rfl (by kernel_rfl) (by kernel_rfl) (by kernel_rfl) (fun _ _ _ h => h) (Or.inl ⟨by rfl, ?_⟩) (by assumption) ?_
  rotate_left
  · intro W hSW; first | (go_simp; done) | (go_simp; with_reducible rfl)
  try simp only [Act.put, List.setIfInBounds_toArray, List.set_cons_zero, List.set_cons_succ]
  refine wpAnyH_take (i := 14) (oi := { dst := some 38, op := Op.fieldAddr 29 (Operand.tmp 9) 2, type := 0, pos := "law.go:53", after := #[{ on := 13, ground := Ground.guard }], guard := some (13, false) }) (v := ?_) rfl (by kernel_rfl) (by kernel_rfl) (by kernel_rfl) (fun _ _ _ h => h) (Or.inl ⟨by rfl, ?_⟩) (by assumption) ?_
  rotate_left
  · intro W hSW; first | (go_simp; done) | (go_simp; with_reducible rfl)
  try simp only [Act.put, List.setIfInBounds_toArray, List.set_cons_zero, List.set_cons_succ]
  refine wpAnyH_take (i := 15) (oi := { dst := some 39, op := Op.load 24 (Operand.tmp 38), type := 24, pos := "law.go:53", after := #[{ on := 14, ground := Ground.data }, { on := 13, ground := Ground.guard }], guard := some (13, false) }) (v := ?_) rfl (by kernel_rfl) (by kernel_rfl) (by kernel_rfl) (fun _ _ _ h => h) (Or.inl ⟨by rfl, ?_⟩) (by assumption) ?_
  rotate_left
  · intro W hSW; have z0 := cell_on hSW q3; have z1 := cell_on hSW y2; have z2 := cell_on hSW y3; have z3 := cell_on hSW d3; have z4 := cell_on hSW dl; first | (go_simp; done) | (go_simp; with_reducible rfl)
  try simp only [Act.put, List.setIfInBounds_toArray, List.set_cons_zero, List.set_cons_succ]
  refine wpAnyH_take (i := 16) (oi := { dst := some 40, op := Op.fieldAddr 29 (Operand.tmp 9) 2, type := 0, pos := "law.go:53", after := #[{ on := 13, ground := Ground.guard }], guard := some (13, false) }) (v := ?_) rfl (by kernel_rfl) (by kernel_rfl) (by kernel_rfl) (fun _ _ _ h => h) (Or.inl ⟨by rfl, ?_⟩) (by assumption) ?_
  rotate_left
  · intro W hSW; first | (go_simp; done) | (go_simp; with_reducible rfl)
  try simp only [Act.put, List.setIfInBounds_toArray, List.set_cons_zero, List.set_cons_succ]
  refine wpAnyH_take (i := 17) (oi := { dst := some 41, op := Op.load 24 (Operand.tmp 40), type := 24, pos := "law.go:53", after := #[{ on := 16, ground := Ground.data }, { on := 13, ground := Ground.guard }], guard := some (13, false) }) (v := ?_) rfl (by kernel_rfl) (by kernel_rfl) (by kernel_rfl) (fun _ _ _ h => h) (Or.inl ⟨by rfl, ?_⟩) (by assumption) ?_
  rotate_left
  · intro W hSW; have z0 := cell_on hSW q3; have z1 := cell_on hSW y2; have z2 := cell_on hSW y3; have z3 := cell_on hSW d3; have z4 := cell_on hSW dl; first | (go_simp; done) | (go_simp; with_reducible rfl)
  try simp only [Act.put, List.setIfInBounds_toArray, List.set_cons_zero, List.set_cons_succ]
  refine wpAnyH_take (i := 18) (oi := { dst := some 42, op := Op.call { callee := Callee.builtin Builtin.len, args := #[Operand.tmp 41], argTypes := #[24] }, type := 3, pos := "law.go:53", after := #[{ on := 17, ground := Ground.data }, { on := 13, ground := Ground.guard }], guard := some (13, false) }) (v := ?_) rfl (by kernel_rfl) (by kernel_rfl) (by kernel_rfl) (fun _ _ _ h => h) (Or.inl ⟨by rfl, ?_⟩) (by assumption) ?_
  rotate_left
  · intro W hSW; first | (go_simp; done) | (go_simp; with_reducible rfl)
  try simp only [Act.put, List.setIfInBounds_toArray, List.set_cons_zero, List.set_cons_succ]
  refine wpAnyH_take (i := 19) (oi := { dst := some 43, op := Op.binOp BinOp.sub 3 (Operand.tmp 42) (Operand.const (Value.int IntKind.i64 1)) 3, type := 3, pos := "law.go:53", after := #[{ on := 18, ground := Ground.data }, { on := 13, ground := Ground.guard }], guard := some (13, false) }) (v := .int .i64 (np1 : Int)) rfl (by kernel_rfl) (by kernel_rfl) (by kernel_rfl) (fun _ _ _ h => h) (Or.inl ⟨by rfl, ?_⟩) (by assumption) ?_
  · intro W hSW; first | (go_simp; done) | (go_simp; with_reducible rfl)
  try simp only [Act.put, List.setIfInBounds_toArray, List.set_cons_zero, List.set_cons_succ]
  refine wpAnyH_take (i := 20) (oi := { dst := some 44, op := Op.indexAddr 24 (Operand.tmp 39) (Operand.tmp 43), type := 0, pos := "law.go:53", after := #[{ on := 15, ground := Ground.data }, { on := 19, ground := Ground.data }, { on := 13, ground := Ground.guard }], guard := some (13, false) }) (v := ?_) rfl (by kernel_rfl) (by kernel_rfl) (by kernel_rfl) (fun _ _ _ h => h) (Or.inl ⟨by rfl, ?_⟩) (by assumption) ?_
  rotate_left
  · intro W hSW; first | (go_simp; done) | (go_simp; with_reducible rfl)
  try simp only [Act.put, List.setIfInBounds_toArray, List.set_cons_zero, List.set_cons_succ]
  refine wpAnyH_take (i := 21) (oi := { dst := some 45, op := Op.load 3 (Operand.tmp 44), type := 3, pos := "law.go:53", after := #[{ on := 20, ground := Ground.data }, { on := 13, ground := Ground.guard }], guard := some (13, false) }) (v := .int .i64 x1) rfl (by kernel_rfl) (by kernel_rfl) (by kernel_rfl) (fun _ _ _ h => h) (Or.inl ⟨by rfl, ?_⟩) (by assumption) ?_
  · intro W hSW; have z0 := cell_on hSW q3; have z1 := cell_on hSW y2; have z2 := cell_on hSW y3; have z3 := cell_on hSW d3; have z4 := cell_on hSW dl; first | (go_simp; done) | (go_simp; with_reducible rfl)
  try simp only [Act.put, List.setIfInBounds_toArray, List.set_cons_zero, List.set_cons_succ]
  refine wpAnyH_take (i := 22) (oi := { dst := some 46, op := Op.fieldAddr 27 (Operand.tmp 7) 3, type := 0, pos := "law.go:53", after := #[{ on := 13, ground := Ground.guard }], guard := some (13, false) }) (v := ?_) rfl (by kernel_rfl) (by kernel_rfl) (by kernel_rfl) (fun _ _ _ h => h) (Or.inl ⟨by rfl, ?_⟩) (by assumption) ?_
  rotate_left
  · intro W hSW; first | (go_simp; done) | (go_simp; with_reducible rfl)
  try simp only [Act.put, List.setIfInBounds_toArray, List.set_cons_zero, List.set_cons_succ]
  refine wpAnyH_take (i := 23) (oi := { dst := some 47, op := Op.load 24 (Operand.tmp 46), type := 24, pos := "law.go:53", after := #[{ on := 22, ground := Ground.data }, { on := 13, ground := Ground.guard }], guard := some (13, false) }) (v := ?_) rfl (by kernel_rfl) (by kernel_rfl) (by kernel_rfl) (fun _ _ _ h => h) (Or.inl ⟨by rfl, ?_⟩) (by assumption) ?_
  rotate_left
  · intro W hSW; have z0 := cell_on hSW q3; have z1 := cell_on hSW y2; have z2 := cell_on hSW y3; have z3 := cell_on hSW d3; have z4 := cell_on hSW dl; first | (go_simp; done) | (go_simp; with_reducible rfl)
  try simp only [Act.put, List.setIfInBounds_toArray, List.set_cons_zero, List.set_cons_succ]
  refine wpAnyH_take (i := 24) (oi := { dst := some 48, op := Op.move (Operand.tmp 8), type := 3, pos := "law.go:53", after := #[{ on := 13, ground := Ground.guard }], guard := some (13, false) }) (v := ?_) rfl (by kernel_rfl) (by kernel_rfl) (by kernel_rfl) (fun _ _ _ h => h) (Or.inl ⟨by rfl, ?_⟩) (by assumption) ?_
  rotate_left
  · intro W hSW; first | (go_simp; done) | (go_simp; with_reducible rfl)
  try simp only [Act.put, List.setIfInBounds_toArray, List.set_cons_zero, List.set_cons_succ]
  refine wpAnyH_take (i := 25) (oi := { dst := some 49, op := Op.indexAddr 24 (Operand.tmp 47) (Operand.tmp 48), type := 0, pos := "law.go:53", after := #[{ on := 23, ground := Ground.data }, { on := 24, ground := Ground.data }, { on := 13, ground := Ground.guard }], guard := some (13, false) }) (v := ?_) rfl (by kernel_rfl) (by kernel_rfl) (by kernel_rfl) (fun _ _ _ h => h) (Or.inl ⟨by rfl, ?_⟩) (by assumption) ?_
  rotate_left
  · intro W hSW; first | (go_simp; done) | (go_simp; with_reducible rfl)
  try simp only [Act.put, List.setIfInBounds_toArray, List.set_cons_zero, List.set_cons_succ]
  refine wpAnyH_take (i := 26) (oi := { dst := some 50, op := Op.load 3 (Operand.tmp 49), type := 3, pos := "law.go:53", after := #[{ on := 25, ground := Ground.data }, { on := 13, ground := Ground.guard }], guard := some (13, false) }) (v := .int .i64 x1) rfl (by kernel_rfl) (by kernel_rfl) (by kernel_rfl) (fun _ _ _ h => h) (Or.inl ⟨by rfl, ?_⟩) (by assumption) ?_
  · intro W hSW; have z0 := cell_on hSW q3; have z1 := cell_on hSW y2; have z2 := cell_on hSW y3; have z3 := cell_on hSW d3; have z4 := cell_on hSW dl; first | (go_simp; done) | (go_simp; with_reducible rfl)
  try simp only [Act.put, List.setIfInBounds_toArray, List.set_cons_zero, List.set_cons_succ]
  refine wpAnyH_take (i := 27) (oi := { dst := some 51, op := Op.binOp BinOp.neq 3 (Operand.tmp 45) (Operand.tmp 50) 3, type := 4, pos := "law.go:53", after := #[{ on := 21, ground := Ground.data }, { on := 26, ground := Ground.data }, { on := 13, ground := Ground.guard }], guard := some (13, false) }) (v := .bool false) rfl (by kernel_rfl) (by kernel_rfl) (by kernel_rfl) (fun _ _ _ h => h) (Or.inl ⟨by rfl, ?_⟩) (by assumption) ?_
  · intro W hSW; first | (go_simp; done) | (go_simp; with_reducible rfl)
  try simp only [Act.put, List.setIfInBounds_toArray, List.set_cons_zero, List.set_cons_succ]
  refine wpAnyH_take (i := 28) (oi := { dst := some 52, op := Op.pick (Operand.tmp 37) (Operand.const (Value.bool true)) (Operand.tmp 51), type := 4, pos := "law.go:53", after := #[{ on := 13, ground := Ground.data }, { on := 27, ground := Ground.data }], guard := none }) (v := .bool false) rfl (by kernel_rfl) (by kernel_rfl) (by kernel_rfl) (fun _ _ _ h => h) (Or.inl ⟨by rfl, ?_⟩) (by assumption) ?_
  · intro W hSW; first | (go_simp; done) | (go_simp; with_reducible rfl)
  try simp only [Act.put, List.setIfInBounds_toArray, List.set_cons_zero, List.set_cons_succ]
  refine wpAnyH_take (i := 29) (oi := { dst := some 53, op := Op.move (Operand.tmp 52), type := 4, pos := "law.go:53", after := #[{ on := 28, ground := Ground.data }, { on := 13, ground := Ground.chain }], guard := none }) (v := ?_) rfl (by kernel_rfl) (by kernel_rfl) (by kernel_rfl) (fun _ _ _ h => h) (Or.inl ⟨by rfl, ?_⟩) (by assumption) ?_
  rotate_left
  · intro W hSW; first | (go_simp; done) | (go_simp; with_reducible rfl)
  try simp only [Act.put, List.setIfInBounds_toArray, List.set_cons_zero, List.set_cons_succ]
  refine wpAnyH_take (i := 30) (oi := { dst := some 54, op := Op.load 27 (Operand.tmp 7), type := 27, pos := "law.go:53", after := #[{ on := 29, ground := Ground.guard }], guard := some (29, false) }) (v := .agg (cells7 a1 a2 a3 a4 k1 k2 k3 k4 S)) rfl (by kernel_rfl) (by kernel_rfl) (by kernel_rfl) (fun _ _ _ h => h) (yields_loadV (by rfl) (.tmp 7) (by rfl) _ (cells7 a1 a2 a3 a4 k1 k2 k3 k4 S) (by rfl) h7 (fun W hW => hv4.below hW)) (by assumption) ?_
  try simp only [Act.put, List.setIfInBounds_toArray, List.set_cons_zero, List.set_cons_succ]
  refine wpAnyH_take (i := 31) (oi := { dst := some 55, op := Op.fieldAddr 29 (Operand.tmp 9) 2, type := 0, pos := "law.go:53", after := #[{ on := 29, ground := Ground.guard }], guard := some (29, false) }) (v := ?_) rfl (by kernel_rfl) (by kernel_rfl) (by kernel_rfl) (fun _ _ _ h => h) (Or.inl ⟨by rfl, ?_⟩) (by assumption) ?_
  rotate_left
  · intro W hSW; first | (go_simp; done) | (go_simp; with_reducible rfl)
  try simp only [Act.put, List.setIfInBounds_toArray, List.set_cons_zero, List.set_cons_succ]
  refine wpAnyH_take (i := 32) (oi := { dst := some 56, op := Op.load 24 (Operand.tmp 55), type := 24, pos := "law.go:53", after := #[{ on := 31, ground := Ground.data }, { on := 29, ground := Ground.guard }], guard := some (29, false) }) (v := ?_) rfl (by kernel_rfl) (by kernel_rfl) (by kernel_rfl) (fun _ _ _ h => h) (Or.inl ⟨by rfl, ?_⟩) (by assumption) ?_
  rotate_left
  · intro W hSW; have z0 := cell_on hSW q3; have z1 := cell_on hSW y2; have z2 := cell_on hSW y3; have z3 := cell_on hSW d3; have z4 := cell_on hSW dl; first | (go_simp; done) | (go_simp; with_reducible rfl)
  try simp only [Act.put, List.setIfInBounds_toArray, List.set_cons_zero, List.set_cons_succ]
  refine wpAnyH_lone (R := fun W => Below w4.heap.size w4 W) (i := 33) (oi := { dst := some 57, op := Op.call { callee := Callee.value (Operand.func 23), args := #[Operand.tmp 54, Operand.tmp 56], argTypes := #[27, 24] }, type := 4, pos := "law.go:53", after := #[{ on := 30, ground := Ground.data }, { on := 32, ground := Ground.data }, { on := 29, ground := Ground.chain }, { on := 29, ground := Ground.guard }], guard := some (29, false) }) (vi := .bool true) (by kernel_rfl) rfl hRw (fun _ h => h) ?_ ?_
  · intro W hW K hK
    go_simp
    refine (HP4.out W hW).mono ?_
    rintro e W2 ⟨rfl, hb⟩
    go_wp2_with fail
    exact hK.out _ (below_then hW hb)
  clear hRw hHeld
  intro W9 hRw hHeld
  try simp only [Act.put, List.setIfInBounds_toArray, List.set_cons_zero, List.set_cons_succ]
  refine wpAnyH_take (i := 34) (oi := { dst := some 58, op := Op.unOp UnOp.not 4 (Operand.tmp 57), type := 4, pos := "law.go:53", after := #[{ on := 33, ground := Ground.data }, { on := 29, ground := Ground.guard }], guard := some (29, false) }) (v := .bool false) rfl (by kernel_rfl) (by kernel_rfl) (by kernel_rfl) (fun _ _ _ h => h) (Or.inl ⟨by rfl, ?_⟩) (by assumption) ?_
  · intro W hSW; first | (go_simp; done) | (go_simp; with_reducible rfl)
  try simp only [Act.put, List.setIfInBounds_toArray, List.set_cons_zero, List.set_cons_succ]
  refine wpAnyH_take (i := 35) (oi := { dst := some 59, op := Op.pick (Operand.tmp 53) (Operand.const (Value.bool true)) (Operand.tmp 58), type := 4, pos := "law.go:53", after := #[{ on := 29, ground := Ground.data }, { on := 34, ground := Ground.data }], guard := none }) (v := .bool false) rfl (by kernel_rfl) (by kernel_rfl) (by kernel_rfl) (fun _ _ _ h => h) (Or.inl ⟨by rfl, ?_⟩) (by assumption) ?_
  · intro W hSW; first | (go_simp; done) | (go_simp; with_reducible rfl)
  try simp only [Act.put, List.setIfInBounds_toArray, List.set_cons_zero, List.set_cons_succ]
  refine wpAnyH_done (by kernel_rfl) ?_ _
  have hv9 : SvAt W9 g1 (cells7 a1 a2 a3 a4 k1 k2 k3 k4 S) := hv4.below hRw
  have hW9 := hW4.below hRw
  have hK9 := hk4.below hRw hk4.lt
  have hO9 := hO4.below hRw
  have hB9 := below_then hB4 hRw
  have d9 := cell_on hRw d0
  clear hRw hHeld HP4 d3 dl q3 y3 y2 d0 hwp hnn hb0 t0 tn hv4 hW4 hk4 hO4 hB4 L4
  obtain ⟨B, hBe⟩ : ∃ B, W9.heap.size = B := ⟨_, rfl⟩
  have hB := hide hBe
  have HSv : Hid (∀ W, Below B W9 W → SvAt W g1 (cells7 a1 a2 a3 a4 k1 k2 k3 k4 S)) := fun W hW => hv9.below (by rw [hB.out]; exact hW)
  have HKv : Hid (∀ W, Below B W9 W → HvAt W g2 (hcells (some ⟨b0, o0, none⟩) sa pc sc K)) := fun W hW => hK9.below hW (by have := hK9.lt; omega)
  have HSp : Hid (∀ W, Below B W9 W → SpecW W (.agg (cells7 a1 a2 a3 a4 k1 k2 k3 k4 S)) S) := fun W hW => hW9.below (by rw [hB.out]; exact hW)
  have HO : Hid (∀ W, Below B W9 W → HkL W (some ⟨b0, o0, none⟩) sa pc sc K) := fun W hW => (hO9.below (by rw [hB.out]; exact hW)).lies hks'.out
  have HD : Hid (∀ W, Below B W9 W → W.cell? ⟨b0, o0, none⟩ = some (.int .i64 x0)) := fun W hW => cell_on (by rw [hB.out]; exact hW) d9
  have hBs : Hid (w.heap.size ≤ B) := by show _ ≤ _; rw [← hB.out]; exact hB9.size
  have hBw := hide hB9
  obtain ⟨na, hnae⟩ : ∃ n, S.arcs.length = n := ⟨_, rfl⟩
  rw [hnae] at hna12
  have HNA := hide hnae
  clear hv9 hW9 hK9 hO9 hB9 d9 hBe hnae
  have hst : Hid (Below B W9 W9) := Below.refl _ _
  go_wp2
  go_loopw [10] (fun a wr => ∃ (x : Nat), x ≤ na ∧ a = .int .i64 x ∧ Hid (Below B W9 wr)) (fun a _ => na - (intOf a).toNat)
  case atStart => exact ⟨0, by omega, rfl, hst⟩
  case round =>
    clear hst
    obtain ⟨x, hx, rfl, hBr⟩ := hrel
    have hvs := HSv.out wr hBr.out
    have hk9 := HKv.out wr hBr.out
    have q2 := (cells7_at hvs).2.2.1
    rw [HNA.out] at q2
    by_cases hxl : x < na
    · have xlt : (x : Int) < (na : Int) := by omega
      obtain ⟨ba, oa, hba, hAa⟩ := (spec_lies (HSp.out wr hBr.out)).arcs.2 x (by rw [HNA.out]; exact hxl)
      have da := hAa.2.2.2.2.2.2.1
      obtain ⟨xd, hxd⟩ : ∃ xd, (S.arcs.getD x noArc).dst = xd := ⟨_, rfl⟩
      rw [hxd] at da
      rw [hba] at q2
      obtain ⟨_, _, y2, _⟩ := hcells_at hk9
      rw [hnp'.out] at y2
      have d0 := HD.out wr hBr.out
      obtain ⟨bb, hbb⟩ : ∃ bb, (xd == x0) = bb := ⟨_, rfl⟩
      have hneq : (bb != bb) = false := by cases bb <;> rfl
      have H3 : Hid (∀ W, Below wr.heap.size wr W → Calls Tryz.prog 15 #[.agg (cells7 a1 a2 a3 a4 k1 k2 k3 k4 S), .int .i64 (x : Int), .agg (hcells (some ⟨b0, o0, none⟩) sa pc sc K)] W fun e w' => e = .returned (.bool bb) ∧ Below W.heap.size W w') := fun W hW => by
        refine check_grown ((HSp.out wr hBr.out).below hW) hbs'.out HG.out hval'.out (by rw [hnp'.out]; have := HNP1.out; omega) ((HO.out wr hBr.out).below hW) (x : Int) bb ?_
        rw [← hbb, beq_iff_eq, HX0.out, Int.toNat_natCast, hxd, HNA.out]
        constructor
        · intro h; exact ⟨⟨by omega, xlt⟩, HPA.out, h.symm⟩
        · rintro ⟨_, _, h⟩; exact h.symm
      have hBr2 := hBr.out
      clear hba hAa hxd
      go_upto_region 9 with fail
      have hRw : Below wr.heap.size wr wr.drew := ⟨rfl, rfl, rfl, Nat.le_refl _, fun _ _ => rfl⟩
      refine wp_region_held_drew (S := fun W => Below wr.heap.size wr W) (by kernel_rfl) hRw (fun hHeld => ?_)
      refine wpAnyH_take (i := 0) (oi := { dst := some 67, op := Op.load 27 (Operand.tmp 7), type := 27, pos := "law.go:57", after := #[], guard := none }) (v := .agg (cells7 a1 a2 a3 a4 k1 k2 k3 k4 S)) rfl (by kernel_rfl) (by kernel_rfl) (by kernel_rfl) (fun _ _ _ h => h) (yields_loadV (by rfl) (.tmp 7) (by rfl) _ (cells7 a1 a2 a3 a4 k1 k2 k3 k4 S) (by rfl) h7 (fun W hW => hvs.below hW)) (by assumption) ?_
      try simp only [Act.put, List.setIfInBounds_toArray, List.set_cons_zero, List.set_cons_succ]
      refine wpAnyH_take (i := 1) (oi := { dst := some 68, op := Op.move (Operand.tmp 10), type := 3, pos := "law.go:57", after := #[], guard := none }) (v := ?_) rfl (by kernel_rfl) (by kernel_rfl) (by kernel_rfl) (fun _ _ _ h => h) (Or.inl ⟨by rfl, ?_⟩) (by assumption) ?_
      rotate_left
      · intro W hSW; first | (go_simp; done) | (go_simp; with_reducible rfl)
      try simp only [Act.put, List.setIfInBounds_toArray, List.set_cons_zero, List.set_cons_succ]
      refine wpAnyH_take (i := 2) (oi := { dst := some 69, op := Op.load 29 (Operand.tmp 9), type := 29, pos := "law.go:57", after := #[], guard := none }) (v := .agg (hcells (some ⟨b0, o0, none⟩) sa pc sc K)) rfl (by kernel_rfl) (by kernel_rfl) (by kernel_rfl) (fun _ _ _ h => h) (yields_loadK (by rfl) (.tmp 9) (by rfl) _ (hcells (some ⟨b0, o0, none⟩) sa pc sc K) (by rfl) rfl (fun W hW => hk9.below hW hk9.lt)) (by assumption) ?_
      try simp only [Act.put, List.setIfInBounds_toArray, List.set_cons_zero, List.set_cons_succ]
      refine wpAnyH_take (i := 4) (oi := { dst := some 71, op := Op.fieldAddr 27 (Operand.tmp 7) 2, type := 0, pos := "law.go:57", after := #[], guard := none }) (v := ?_) rfl (by kernel_rfl) (by kernel_rfl) (by kernel_rfl) (fun _ _ _ h => h) (Or.inl ⟨by rfl, ?_⟩) (by assumption) ?_
      rotate_left
      · intro W hSW; first | (go_simp; done) | (go_simp; with_reducible rfl)
      try simp only [Act.put, List.setIfInBounds_toArray, List.set_cons_zero, List.set_cons_succ]
      refine wpAnyH_take (i := 5) (oi := { dst := some 72, op := Op.load 23 (Operand.tmp 71), type := 23, pos := "law.go:57", after := #[{ on := 4, ground := Ground.data }], guard := none }) (v := ?_) rfl (by kernel_rfl) (by kernel_rfl) (by kernel_rfl) (fun _ _ _ h => h) (Or.inl ⟨by rfl, ?_⟩) (by assumption) ?_
      rotate_left
      · intro W hSW; have z0 := cell_on hSW q2; have z1 := cell_on hSW y2; have z2 := cell_on hSW da; have z3 := cell_on hSW d0; first | (go_simp; done) | (go_simp; with_reducible rfl)
      try simp only [Act.put, List.setIfInBounds_toArray, List.set_cons_zero, List.set_cons_succ]
      refine wpAnyH_take (i := 6) (oi := { dst := some 73, op := Op.move (Operand.tmp 10), type := 3, pos := "law.go:57", after := #[], guard := none }) (v := ?_) rfl (by kernel_rfl) (by kernel_rfl) (by kernel_rfl) (fun _ _ _ h => h) (Or.inl ⟨by rfl, ?_⟩) (by assumption) ?_
      rotate_left
      · intro W hSW; first | (go_simp; done) | (go_simp; with_reducible rfl)
      try simp only [Act.put, List.setIfInBounds_toArray, List.set_cons_zero, List.set_cons_succ]
      refine wpAnyH_take (i := 7) (oi := { dst := some 74, op := Op.indexAddr 23 (Operand.tmp 72) (Operand.tmp 73), type := 0, pos := "law.go:57", after := #[{ on := 5, ground := Ground.data }, { on := 6, ground := Ground.data }], guard := none }) (v := ?_) rfl (by kernel_rfl) (by kernel_rfl) (by kernel_rfl) (fun _ _ _ h => h) (Or.inl ⟨by rfl, ?_⟩) (by assumption) ?_
      rotate_left
      · intro W hSW; first | (go_simp; done) | (go_simp; with_reducible rfl)
      try simp only [Act.put, List.setIfInBounds_toArray, List.set_cons_zero, List.set_cons_succ]
      refine wpAnyH_take (i := 8) (oi := { dst := some 75, op := Op.fieldAddr 47 (Operand.tmp 74) 1, type := 0, pos := "law.go:57", after := #[{ on := 7, ground := Ground.data }], guard := none }) (v := ?_) rfl (by kernel_rfl) (by kernel_rfl) (by kernel_rfl) (fun _ _ _ h => h) (Or.inl ⟨by rfl, ?_⟩) (by assumption) ?_
      rotate_left
      · intro W hSW; first | (go_simp; done) | (go_simp; with_reducible rfl)
      try simp only [Act.put, List.setIfInBounds_toArray, List.set_cons_zero, List.set_cons_succ]
      refine wpAnyH_take (i := 9) (oi := { dst := some 76, op := Op.load 3 (Operand.tmp 75), type := 3, pos := "law.go:57", after := #[{ on := 8, ground := Ground.data }], guard := none }) (v := .int .i64 xd) rfl (by kernel_rfl) (by kernel_rfl) (by kernel_rfl) (fun _ _ _ h => h) (Or.inl ⟨by rfl, ?_⟩) (by assumption) ?_
      · intro W hSW; have z0 := cell_on hSW q2; have z1 := cell_on hSW y2; have z2 := cell_on hSW da; have z3 := cell_on hSW d0; first | (go_simp; done) | (go_simp; with_reducible rfl)
      try simp only [Act.put, List.setIfInBounds_toArray, List.set_cons_zero, List.set_cons_succ]
      refine wpAnyH_take (i := 10) (oi := { dst := some 77, op := Op.fieldAddr 29 (Operand.tmp 9) 2, type := 0, pos := "law.go:57", after := #[], guard := none }) (v := ?_) rfl (by kernel_rfl) (by kernel_rfl) (by kernel_rfl) (fun _ _ _ h => h) (Or.inl ⟨by rfl, ?_⟩) (by assumption) ?_
      rotate_left
      · intro W hSW; first | (go_simp; done) | (go_simp; with_reducible rfl)
      try simp only [Act.put, List.setIfInBounds_toArray, List.set_cons_zero, List.set_cons_succ]
      refine wpAnyH_take (i := 11) (oi := { dst := some 78, op := Op.load 24 (Operand.tmp 77), type := 24, pos := "law.go:57", after := #[{ on := 10, ground := Ground.data }], guard := none }) (v := ?_) rfl (by kernel_rfl) (by kernel_rfl) (by kernel_rfl) (fun _ _ _ h => h) (Or.inl ⟨by rfl, ?_⟩) (by assumption) ?_
      rotate_left
      · intro W hSW; have z0 := cell_on hSW q2; have z1 := cell_on hSW y2; have z2 := cell_on hSW da; have z3 := cell_on hSW d0; first | (go_simp; done) | (go_simp; with_reducible rfl)
      try simp only [Act.put, List.setIfInBounds_toArray, List.set_cons_zero, List.set_cons_succ]
      refine wpAnyH_take (i := 12) (oi := { dst := some 79, op := Op.indexAddr 24 (Operand.tmp 78) (Operand.const (Value.int IntKind.i64 0)), type := 0, pos := "law.go:57", after := #[{ on := 11, ground := Ground.data }], guard := none }) (v := ?_) rfl (by kernel_rfl) (by kernel_rfl) (by kernel_rfl) (fun _ _ _ h => h) (Or.inl ⟨by rfl, ?_⟩) (by assumption) ?_
      rotate_left
      · intro W hSW; first | (go_simp; done) | (go_simp; with_reducible rfl)
      try simp only [Act.put, List.setIfInBounds_toArray, List.set_cons_zero, List.set_cons_succ]
      refine wpAnyH_take (i := 13) (oi := { dst := some 80, op := Op.load 3 (Operand.tmp 79), type := 3, pos := "law.go:57", after := #[{ on := 12, ground := Ground.data }], guard := none }) (v := .int .i64 x0) rfl (by kernel_rfl) (by kernel_rfl) (by kernel_rfl) (fun _ _ _ h => h) (Or.inl ⟨by rfl, ?_⟩) (by assumption) ?_
      · intro W hSW; have z0 := cell_on hSW q2; have z1 := cell_on hSW y2; have z2 := cell_on hSW da; have z3 := cell_on hSW d0; first | (go_simp; done) | (go_simp; with_reducible rfl)
      try simp only [Act.put, List.setIfInBounds_toArray, List.set_cons_zero, List.set_cons_succ]
      refine wpAnyH_take (i := 14) (oi := { dst := some 81, op := Op.binOp BinOp.eql 3 (Operand.tmp 76) (Operand.tmp 80) 3, type := 4, pos := "law.go:57", after := #[{ on := 9, ground := Ground.data }, { on := 13, ground := Ground.data }], guard := none }) (v := .bool bb) rfl (by kernel_rfl) (by kernel_rfl) (by kernel_rfl) (fun _ _ _ h => h) (Or.inl ⟨by rfl, ?_⟩) (by assumption) ?_
      · intro W hSW; first | (go_simp; done) | (go_simp; with_reducible rfl)
      try simp only [Act.put, List.setIfInBounds_toArray, List.set_cons_zero, List.set_cons_succ]
      refine wpAnyH_lone (R := fun W => Below wr.heap.size wr W) (i := 3) (oi := { dst := some 70, op := Op.call { callee := Callee.value (Operand.func 15), args := #[Operand.tmp 67, Operand.tmp 68, Operand.tmp 69], argTypes := #[27, 3, 29] }, type := 4, pos := "law.go:57", after := #[{ on := 0, ground := Ground.data }, { on := 1, ground := Ground.data }, { on := 2, ground := Ground.data }], guard := none }) (vi := .bool bb) (by kernel_rfl) rfl hRw (fun _ h => h) ?_ ?_
      · intro W hW K hK
        go_simp
        refine (H3.out W hW).mono ?_
        rintro e W2 ⟨rfl, hb⟩
        go_wp2_with fail
        exact hK.out _ (below_then hW hb)
      clear hRw hHeld
      intro W9 hRw hHeld
      try simp only [Act.put, List.setIfInBounds_toArray, List.set_cons_zero, List.set_cons_succ]
      refine wpAnyH_take (i := 15) (oi := { dst := some 82, op := Op.binOp BinOp.neq 4 (Operand.tmp 70) (Operand.tmp 81) 4, type := 4, pos := "law.go:57", after := #[{ on := 3, ground := Ground.data }, { on := 14, ground := Ground.data }], guard := none }) (v := .bool false) rfl (by kernel_rfl) (by kernel_rfl) (by kernel_rfl) (fun _ _ _ h => h) (Or.inl ⟨by rfl, ?_⟩) (by assumption) ?_
      · intro W hSW; first | (go_simp; done) | (go_simp; with_reducible rfl)
      try simp only [Act.put, List.setIfInBounds_toArray, List.set_cons_zero, List.set_cons_succ]
      refine wpAnyH_done (by kernel_rfl) ?_ _
      have hB10 := below_then3 hB.out hBr2 hRw
      clear hRw hHeld
      go_wp2
      go_roundw
      case rel => exact ⟨x + 1, by omega, by go_num, hB10⟩
      case measure => simp [intOf]; omega
    · have xlt : ¬ (x : Int) < (na : Int) := by omega
      have hxe : x = na := by omega
      have HXE := hide hxe
      clear hxe
      have hfit := grown_fits hok'.out HG.out HPA.out
      obtain ⟨bx, hbx⟩ : ∃ bx : ByteArray, bx = ⟨(hkB K).toArray⟩ := ⟨_, rfl⟩
      have hbl : bx.data.toList = hkB K := by rw [hbx]
      have hbz : bx.size ≤ 1099511627776 := by
        have h9 := hkB_len K hfit
        rw [← hbl, Array.length_toList] at h9
        have : bx.data.size = bx.size := rfl
        omega
      have HBy : Hid (∀ W v, HkV W v K → Calls Tryz.prog 17 #[v] W fun e w' => e = .returned (.string bx) ∧ Below W.heap.size W w') := fun W v hv => hkbytes_any hv bx (fun _ => hbx) (fun h => absurd hfit h)
      have HRd : Hid (∀ W, Calls Tryz.prog 8 #[.string bx] W fun e w' => ∃ u, e = .returned (.tuple #[u, .int .i64 0]) ∧ HkO w' W.heap.size u K ∧ Below W.heap.size W w') := fun W => by
        have hkb := key_back K hfit
        have h9 := hkread_any bx hbz W true (told_yes (by rw [hbl]; unfold accK; rw [hkb.1]; exact ⟨hkb.2, hfit⟩))
        rw [hbl] at h9
        simp only [cond_true, hkb.1] at h9
        exact h9
      have HNo : Hid (∀ (a : Int) W, ¬ (0 ≤ a ∧ a < (na : Int)) → SpecW W (.agg (cells7 a1 a2 a3 a4 k1 k2 k3 k4 S)) S → HkL W (some ⟨b0, o0, none⟩) sa pc sc K → Calls Tryz.prog 15 #[.agg (cells7 a1 a2 a3 a4 k1 k2 k3 k4 S), .int .i64 a, .agg (hcells (some ⟨b0, o0, none⟩) sa pc sc K)] W fun e w' => e = .returned (.bool false) ∧ Below W.heap.size W w') := fun a W ha hv L =>
        check_grown hv hbs'.out HG.out hval'.out (by rw [hnp'.out]; have := HNP1.out; omega) L a false ⟨fun h => Bool.noConfusion h, fun h => absurd (by rw [← HNA.out]; exact h.1) ha⟩
      clear hfit hbx hbl hbz
      have L9 := HO.out wr hBr.out
      have hV9 : HkV wr (.agg (hcells (some ⟨b0, o0, none⟩) sa pc sc K)) K := ⟨_, _, _, _, rfl, L9⟩
      have hW9 := HSp.out wr hBr.out
      have hBr9 := hBw.out.trans (hBr.out.mono hBs.out)
      have hsz9 : w.heap.size ≤ wr.heap.size := hBr9.size
      clear hBr HSv HKv HD
      go_wp2_with ((with_reducible refine wpList_at ?_); refine wpList_loadK (by rfl) (.tmp 9) (by rfl) _ _ (by rfl) hk9 rfl ?_)
      refine (HBy.out _ _ hV9).mono ?_
      rintro e w10 ⟨rfl, hb10⟩
      have hv10 := hvs.below hb10
      have hk10 := hk9.below hb10 hk9.lt
      have hW10 := hW9.below hb10
      have L10 := L9.below hb10
      have hB10 := below_then hBr9 hb10
      clear hvs hk9 hW9 L9 hV9 hBr9 hb10 HBy q2
      go_wp2_with fail
      refine (HRd.out _).mono ?_
      rintro e w11 ⟨u, rfl, hO11, hb11⟩
      obtain ⟨pu, su, ku, lu, rfl⟩ := hO11.cells hks'.out
      have hv11 := hv10.below hb11
      have hk11 := hk10.below hb11 hk10.lt
      have hW11 := hW10.below hb11
      have L11 := L10.below hb11
      have hB11 := below_then hB10 hb11
      have M11 := hO11.lies hks'.out
      clear hv10 hk10 hW10 L10 hB10 hb11 HRd hO11
      go_upto_region 12 with ((with_reducible refine wpList_at ?_); refine wpList_varH (by rfl) (by rfl) (by rfl) (.tmp 11) (.tmp 87) (by rfl) (hcells pu su ku lu K) (by rfl) (by rfl) rfl (by intro u hu; simp [hcells] at hu; rcases hu with rfl | rfl | rfl | rfl <;> rfl) ?_; intro w12 hu12 hz12 hb12)
      have hv12 : SvAt w12 g1 (cells7 a1 a2 a3 a4 k1 k2 k3 k4 S) := hv11.below hb12
      have hk12 := hk11.below hb12 hk11.lt
      have hW12 := hW11.below hb12
      have L12 := L11.below hb12
      have M12 := M11.below hb12
      have hB12 := below_then hB11 hb12
      clear hv11 hk11 hW11 L11 hB11 hb12 M11 hz12
      generalize w11.heap.size = g3 at hu12 ⊢
      have HSm := hksame_any M12 L12
      rw [told_yes rfl] at HSm
      replace HSm := hide HSm
      replace L12 := hide L12
      go_wp2_with (first | ((with_reducible refine wpList_at ?_); refine wpList_loadK (by rfl) (.tmp 11) (by rfl) _ _ (by rfl) hu12 rfl ?_) | ((with_reducible refine wpList_at ?_); refine wpList_loadK (by rfl) (.tmp 9) (by rfl) _ _ (by rfl) hk12 rfl ?_))
      refine HSm.out.mono ?_
      rintro e w13 ⟨rfl, hb13⟩
      have hv13 := hv12.below hb13
      have hk13 := hk12.below hb13 hk12.lt
      have hW13 := hW12.below hb13
      have L13 := hide (L12.out.below hb13)
      have hB13 := below_then hB12 hb13
      clear hv12 hk12 hW12 L12 hB12 hb13 HSm hu12 M12
      go_wp2_with (first | ((with_reducible refine wpList_at ?_); refine wpList_loadV (by rfl) (.tmp 7) (by rfl) _ (cells7 a1 a2 a3 a4 k1 k2 k3 k4 S) (by rfl) hv13 h7 ?_) | ((with_reducible refine wpList_at ?_); refine wpList_loadK (by rfl) (.tmp 9) (by rfl) _ _ (by rfl) hk13 rfl ?_))
      refine (HNo.out (-1) _ (by omega) hW13 L13.out).mono ?_
      rintro e w14 ⟨rfl, hb14⟩
      have hv14 := hv13.below hb14
      have hk14 := hk13.below hb14 hk13.lt
      have hW14 := hW13.below hb14
      have L14 := hide (L13.out.below hb14)
      have hB14 := below_then hB13 hb14
      have q2 := (cells7_at hv14).2.2.1
      rw [HNA.out] at q2
      clear hv13 hk13 hW13 L13 hB13 hb14
      go_wp2_with (first | ((with_reducible refine wpList_at ?_); refine wpList_loadV (by rfl) (.tmp 7) (by rfl) _ (cells7 a1 a2 a3 a4 k1 k2 k3 k4 S) (by rfl) hv14 h7 ?_) | ((with_reducible refine wpList_at ?_); refine wpList_loadK (by rfl) (.tmp 9) (by rfl) _ _ (by rfl) hk14 rfl ?_))
      refine (HNo.out (na : Int) _ (by omega) hW14 L14.out).mono ?_
      rintro e w15 ⟨rfl, hb15⟩
      have hB15 := below_then hB14 hb15
      clear hv14 hk14 hW14 L14 hB14 hb15 q2 HNo
      go_wp2_with fail
      refine (awake7_any _).mono ?_
      rintro e w16 ⟨rfl, hb16⟩
      go_wp2
      go_ret
      exact ⟨rfl, below_then hB15 hb16⟩

end Go.Proofs.YtccaaaifhiigcaaGreat
