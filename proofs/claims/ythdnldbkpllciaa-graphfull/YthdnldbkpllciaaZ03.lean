/-
  The document's block: 64 bytes into the eight words.
-/
import Derived.Test.YthdnldbkpllciaaZ02
import Derived.BigQuiet
import Derived.Deep.QuietTactic
import Derived.Deep.RegionHeld3
import Derived.BigRegion
namespace Go.Proofs.Ythdnldbkpllciaa
open Go.RowKit

/-- What the block's walk knows of memory. -/
structure BlkAt (w : World) (g : Nat) (h m : List (BitVec 32)) (n : Nat) (wr : World) : Prop where
  head : Row wr w.heap.size 85 h
  res : Row wr (w.heap.size + 1) 85 (zeros 8)
  words : Row wr (w.heap.size + 1 + 1) 108 m
  consts : Row wr g 108 KK
  far : w.heap.size + 3 ≤ g
  size : wr.heap.size = n
  below : Below w.heap.size w wr
theorem BlkAt.drewN {w : World} {g : Nat} {h m : List (BitVec 32)} {n : Nat} {wr : World} (A : BlkAt w g h m n wr) (k : Nat) : BlkAt w g h m n (wr.drewN k) :=
  ⟨A.head, A.res, A.words, A.consts, A.far, A.size, ⟨A.below.os, A.below.tape, A.below.output, A.below.size, A.below.block⟩⟩
theorem BlkAt.drew {w : World} {g : Nat} {h m : List (BitVec 32)} {n : Nat} {wr : World} (A : BlkAt w g h m n wr) : BlkAt w g h m n wr.drew :=
  ⟨A.head, A.res, A.words, A.consts, A.far, A.size, A.below.drew⟩
theorem BlkAt.set {w : World} {g : Nat} {h m : List (BitVec 32)} {n : Nat} {wr : World} (A : BlkAt w g h m n wr) (j : Nat) (x : Int) (y : BitVec 32) (hx : x = (y.toNat : Int)) :
    BlkAt w g h (m.set j y) n (wr.setCell ⟨w.heap.size + 1 + 1, j, none⟩ (.int .u32 x)) := by
  subst hx
  have hf := A.far
  exact ⟨A.head.but (But.setCell _ _ _ _) (by omega), A.res.but (But.setCell _ _ _ _) (by omega), A.words.set j y, A.consts.but (But.setCell _ _ _ _) (by omega), A.far, by rw [← A.size]; simp [World.setCell], A.below.setCell (by show w.heap.size ≤ w.heap.size + 1 + 1; omega) _⟩

theorem ssig0_row (x : BitVec 32) : bits BinOp.xor IntKind.u32 (bits BinOp.xor IntKind.u32 ((rotr x 7).toNat : Int) ((rotr x 18).toNat : Int)) ((x.toNat : Int) / 8) = ((ssig0 x).toNat : Int) := by
  rw [bv_shr3, bv_xor, bv_xor]; rfl
theorem ssig1_row (x : BitVec 32) : bits BinOp.xor IntKind.u32 (bits BinOp.xor IntKind.u32 ((rotr x 17).toNat : Int) ((rotr x 19).toNat : Int)) ((x.toNat : Int) / 1024) = ((ssig1 x).toNat : Int) := by
  rw [bv_shr10, bv_xor, bv_xor]; rfl
theorem bsig1_row (x : BitVec 32) : bits BinOp.xor IntKind.u32 (bits BinOp.xor IntKind.u32 ((rotr x 6).toNat : Int) ((rotr x 11).toNat : Int)) ((rotr x 25).toNat : Int) = ((bsig1 x).toNat : Int) := by
  rw [bv_xor, bv_xor]; rfl
theorem bsig0_row (x : BitVec 32) : bits BinOp.xor IntKind.u32 (bits BinOp.xor IntKind.u32 ((rotr x 2).toNat : Int) ((rotr x 13).toNat : Int)) ((rotr x 22).toNat : Int) = ((bsig0 x).toNat : Int) := by
  rw [bv_xor, bv_xor]; rfl
theorem chs_row (x y z : BitVec 32) : bits BinOp.xor IntKind.u32 (bits BinOp.and IntKind.u32 (x.toNat : Int) (y.toNat : Int)) (bits BinOp.and IntKind.u32 (bits BinOp.xor IntKind.u32 4294967295 (x.toNat : Int)) (z.toNat : Int)) = ((chs x y z).toNat : Int) := by
  rw [bv_not, bv_and, bv_and, bv_xor]; rfl
theorem maj_row (x y z : BitVec 32) : bits BinOp.xor IntKind.u32 (bits BinOp.xor IntKind.u32 (bits BinOp.and IntKind.u32 (x.toNat : Int) (y.toNat : Int)) (bits BinOp.and IntKind.u32 (x.toNat : Int) (z.toNat : Int))) (bits BinOp.and IntKind.u32 (y.toNat : Int) (z.toNat : Int)) = ((maj x y z).toNat : Int) := by
  rw [bv_and, bv_and, bv_and, bv_xor, bv_xor]; rfl
theorem num4 (x y z u : BitVec 32) : ((x.toNat : Int) + (y.toNat : Int) + (z.toNat : Int) + (u.toNat : Int)) % 4294967296 = ((x + y + z + u).toNat : Int) := by
  simp only [BitVec.toNat_add]; omega

/-- A guard: the goal is a list of operations. -/

theorem num3 (x y z : BitVec 32) : ((x.toNat : Int) + ((y.toNat : Int) + (z.toNat : Int))) % 4294967296 = ((x + (y + z)).toNat : Int) := by
  simp only [BitVec.toNat_add]; omega
theorem tee_row (S : St) (k m : BitVec 32) : (((S.h.toNat : Int) + ((bsig1 S.e).toNat : Int) + ((chs S.e S.f S.g).toNat : Int) + (k.toNat : Int)) % 4294967296 + (m.toNat : Int)) % 4294967296 = ((tee S k m).toNat : Int) := by
  simp only [tee, BitVec.toNat_add]; omega
theorem num5 (S : St) (k m : BitVec 32) : ((S.h.toNat : Int) + ((bsig1 S.e).toNat : Int) + ((chs S.e S.f S.g).toNat : Int) + (k.toNat : Int) + (m.toNat : Int)) % 4294967296 = ((tee S k m).toNat : Int) := by
  simp only [tee, BitVec.toNat_add]; omega
/-- The same with the rounds' eight words beside it. -/
structure VAt (w : World) (g : Nat) (h m v : List (BitVec 32)) (wr : World) : Prop where
  at' : BlkAt w g h m (g + 1 + 1) wr
  vs : Row wr (g + 1) 85 v
theorem VAt.drewN {w : World} {g : Nat} {h m v : List (BitVec 32)} {wr : World} (A : VAt w g h m v wr) (k : Nat) : VAt w g h m v (wr.drewN k) := ⟨A.at'.drewN k, A.vs⟩
theorem VAt.set {w : World} {g : Nat} {h m v : List (BitVec 32)} {wr : World} (A : VAt w g h m v wr) (j : Nat) (x : Int) (y : BitVec 32) (hx : x = (y.toNat : Int)) :
    VAt w g h m (v.set j y) (wr.setCell ⟨g + 1, j, none⟩ (.int .u32 x)) := by
  subst hx
  have hf := A.at'.far
  refine ⟨⟨A.at'.head.but (But.setCell _ _ _ _) (by omega), A.at'.res.but (But.setCell _ _ _ _) (by omega), A.at'.words.but (But.setCell _ _ _ _) (by omega), A.at'.consts.but (But.setCell _ _ _ _) (by omega), hf, ?_, A.at'.below.setCell (by show w.heap.size ≤ g + 1; omega) _⟩, A.vs.set j y⟩
  rw [← A.at'.size]; simp [World.setCell]

set_option maxRecDepth 10000 in
set_option maxHeartbeats 2000000 in
theorem block_any (H : St) (s : ByteArray) (hs : s.size = 64) (w : World) :
    Calls Try.prog 68 #[.agg (cw H.list).toArray, .string s] w fun e w' => e = .returned (.agg (cw (comp H (sch s.data.toList 64)).list).toArray) ∧ Below w.heap.size w w' := by
  go_enter Try.func68, Try.ntmps68
  iterate 3 go_step
  refine wpList_boxed (P := Try.prog) (by rfl) 85 (.tmp 0) (by rfl) H.list (by rfl) ?_
  intro w1 hr1 hs1 hb1
  refine wpList_new (P := Try.prog) (by rfl) 85 (by rfl) (zeros 8) 8 Try.info85 ?_
  intro w2 hr2 hs2 hb2
  iterate 5 (first | go_values | go_skip | go_guarded | go_step)
  refine wpList_new (P := Try.prog) (by rfl) 108 (by rfl) (zeros 64) 64 Try.info108 ?_
  intro w3 hr3 hs3 hb3
  go_wp2_with fail
  refine (table_any _).mono ?_
  rintro e w4 ⟨rfl, hb4⟩
  simp only []
  rename_i hK
  refine hK _ _ ?_
  refine wpList_new (P := Try.prog) (by rfl) 108 (by rfl) (zeros 64) 64 Try.info108 ?_
  intro w5 hr5 hs5 hb5
  refine wpList_put (P := Try.prog) (by rfl) 108 (.tmp 6) (.tmp 18) (by rfl) w4.heap.size KK (zeros 64) (by rfl) (by rfl) 108 hr5 (by rw [KK_length]; exact Try.size108) (by rw [KK_length, zeros_length]) ?_
  intro w6 hr6 hs6 hb6
  go_wp2_with fail
  obtain ⟨g, hg⟩ : ∃ g, g = w4.heap.size := ⟨_, rfl⟩
  have A0 : BlkAt w g H.list (half s.data.toList 0) (g + 1) w6 := by
    have z4 := hb4.size
    have e2 : Row w4 w1.heap.size 85 (zeros 8) := (hr2.below hb3).below hb4
    have e1 : Row w4 w.heap.size 85 H.list := ((hr1.below hb2).below hb3).below hb4
    have e3 : Row w4 w2.heap.size 108 (zeros 64) := hr3.below hb4
    rw [hs1] at e2
    rw [hs2, hs1] at e3
    have f1 := (e1.below hb5).but hb6 (by omega)
    have f2 := (e2.below hb5).but hb6 (by omega)
    have f3 := (e3.below hb5).but hb6 (by omega)
    have f : Below w.heap.size w w4 := ((hb1.trans (hb2.mono (by omega))).trans (hb3.mono (by omega))).trans (hb4.mono (by omega))
    exact ⟨f1, f2, f3, by rw [hg]; exact hr6, by omega, by omega, (f.trans (hb5.mono (by omega))).trans (hb6.below (by omega) (by omega))⟩
  rw [← hg]
  clear hr1 hs1 hb1 hr2 hs2 hb2 hr3 hs3 hb3 hb4 hr5 hs5 hb5 hr6 hs6 hb6 hK hg
  go_loopw [7] (fun i wr => ∃ k : Nat, k ≤ 16 ∧ i = .int .i64 k ∧ BlkAt w g H.list (half s.data.toList k) (g + 1) wr) (fun i _ => 16 - (intOf i).toNat)
  case atStart => exact ⟨0, by omega, rfl, A0⟩
  case round =>
    clear A0
    obtain ⟨k, hk, rfl, A⟩ := hrel
    by_cases hlt : k < 16
    · have hfz := A.words.frozen k
      obtain ⟨u, hu⟩ : ∃ u, wr.cell? ⟨w.heap.size + 1 + 1, k, none⟩ = some u := ⟨_, A.words.cell k _ (List.getElem?_eq_getElem (by rw [half_length _ _ (by omega)]; omega))⟩
      have hle : 64 ≤ s.size := by omega
      have b0 : (4 * (k : Int)) < (s.size : Int) := by omega
      have b1 : (4 * (k : Int) + 1) < (s.size : Int) := by omega
      have b2 : (4 * (k : Int) + 2) < (s.size : Int) := by omega
      have b3 : (4 * (k : Int) + 3) < (s.size : Int) := by omega
      have c0 : (0 : Int) ≤ 4 * (k : Int) := by omega
      have c1 : (0 : Int) ≤ 4 * (k : Int) + 1 := by omega
      have c2 : (0 : Int) ≤ 4 * (k : Int) + 2 := by omega
      have c3 : (0 : Int) ≤ 4 * (k : Int) + 3 := by omega
      clear hs
      go_wp2
      go_region
      go_wp2
      go_roundw
      case rel =>
        have R := (A.set k _ _ (word_row s k (by omega) (by omega) (by omega) (by omega))).drew
        rw [half_set _ _ (by omega) _ (by rw [if_pos hlt])] at R
        exact ⟨k + 1, by omega, by go_num, R⟩
      case measure => simp [intOf]; omega
    · have hk16 : k = 16 := by omega
      rw [hk16] at A
      clear hk16
      go_wp2
      generalize Value.bool (decide ((k : Int) < 16)) = vb1
      go_loopw [8] (fun i wr => ∃ k : Nat, 16 ≤ k ∧ k ≤ 64 ∧ i = .int .i64 k ∧ BlkAt w g H.list (half s.data.toList k) (g + 1) wr) (fun i _ => 64 - (intOf i).toNat)
      case atStart => exact ⟨16, by omega, by omega, rfl, A⟩
      case round =>
        clear A hk hlt hs
        obtain ⟨j, hj1, hj2, rfl, A⟩ := hrel
        by_cases hlt : j < 64
        · have k0 : (0 : Int) ≤ (j : Int) := by omega
          have k64 : (j : Int) < 64 := by omega
          obtain ⟨a15, f15⟩ : ∃ a, a = j - 15 := ⟨_, rfl⟩
          obtain ⟨a2, f2⟩ : ∃ a, a = j - 2 := ⟨_, rfl⟩
          have v15 : IntKind.i64.wrap ((j : Int) - 15) = (a15 : Int) := (IntWalk.i64_in _ (by omega)).trans (by omega)
          have v2 : IntKind.i64.wrap ((j : Int) - 2) = (a2 : Int) := (IntWalk.i64_in _ (by omega)).trans (by omega)
          have l15 : (a15 : Int) < 64 := by omega
          have l2 : (a2 : Int) < 64 := by omega
          obtain ⟨x16, e16⟩ : ∃ x, x = (sch s.data.toList j).getD (j - 16) 0 := ⟨_, rfl⟩
          obtain ⟨x15, e15⟩ : ∃ x, x = (sch s.data.toList j).getD (j - 15) 0 := ⟨_, rfl⟩
          obtain ⟨x7, e7⟩ : ∃ x, x = (sch s.data.toList j).getD (j - 7) 0 := ⟨_, rfl⟩
          obtain ⟨x2, e2⟩ : ∃ x, x = (sch s.data.toList j).getD (j - 2) 0 := ⟨_, rfl⟩
          have G : Hid ((half s.data.toList j)[j - 16]? = some x16 ∧ (half s.data.toList j)[a15]? = some x15 ∧ (half s.data.toList j)[j - 7]? = some x7 ∧ (half s.data.toList j)[a2]? = some x2) :=
            (show _ ∧ _ from ⟨by rw [half_get _ _ _ (by omega), e16], by rw [f15, half_get _ _ _ (by omega), e15], by rw [half_get _ _ _ (by omega), e7], by rw [f2, half_get _ _ _ (by omega), e2]⟩)
          have E : Hid (x16 + ssig0 x15 + x7 + ssig1 x2 = nextW (sch s.data.toList j)) := by
            exact (show _ = _ by rw [nextW, sch_length, e16, e15, e7, e2])
          clear e16 e15 e7 e2 f15 f2
          have c15 := A.words.cell a15 x15 G.out.2.1
          go_wp2
          go_quiet ((go_at_call 89; exact Calls.quiet_of_same (turn_at _ _ (by decide) (by decide) _)))
          replace A := A.drewN nq
          clear c15
          generalize wr.drewN nq = w1' at A ⊢
          have c2 := A.words.cell a2 x2 G.out.2.2.2
          go_wp2
          go_quiet ((go_at_call 89; exact Calls.quiet_of_same (turn_at _ _ (by decide) (by decide) _)))
          replace A := A.drewN nq
          clear c2 v15 v2 l15 l2
          generalize w1'.drewN nq = w2' at A ⊢
          have c16 := A.words.cell (j - 16) x16 G.out.1
          have c7 := A.words.cell (j - 7) x7 G.out.2.2.1
          have hfz := A.words.frozen j
          obtain ⟨u, hu⟩ : ∃ u, w2'.cell? ⟨w.heap.size + 1 + 1, j, none⟩ = some u := ⟨_, A.words.cell j _ (List.getElem?_eq_getElem (by rw [half_length _ _ (by omega)]; omega))⟩
          go_wp2
          go_region
          go_wp2
          go_roundw
          case rel =>
            rw [ssig0_row, ssig1_row, num4, E.out]
            have R := (A.set j _ (nextW (sch s.data.toList j)) rfl).drew
            rw [half_set _ _ (by omega) _ (by rw [if_neg (by omega)])] at R
            exact ⟨j + 1, by omega, by omega, by go_num, R⟩
          case measure => simp [intOf]; omega
        · have hk64 : j = 64 := by omega
          rw [hk64, half_full] at A
          clear hk64
          have c0 : wr.cell? ⟨w.heap.size, 0, none⟩ = some (.int .u32 (H.a.toNat : Int)) := A.head.cell 0 _ rfl
          have c1 : wr.cell? ⟨w.heap.size, 1, none⟩ = some (.int .u32 (H.b.toNat : Int)) := A.head.cell 1 _ rfl
          have c2 : wr.cell? ⟨w.heap.size, 2, none⟩ = some (.int .u32 (H.c.toNat : Int)) := A.head.cell 2 _ rfl
          have c3 : wr.cell? ⟨w.heap.size, 3, none⟩ = some (.int .u32 (H.d.toNat : Int)) := A.head.cell 3 _ rfl
          have c4 : wr.cell? ⟨w.heap.size, 4, none⟩ = some (.int .u32 (H.e.toNat : Int)) := A.head.cell 4 _ rfl
          have c5 : wr.cell? ⟨w.heap.size, 5, none⟩ = some (.int .u32 (H.f.toNat : Int)) := A.head.cell 5 _ rfl
          have c6 : wr.cell? ⟨w.heap.size, 6, none⟩ = some (.int .u32 (H.g.toNat : Int)) := A.head.cell 6 _ rfl
          have c7 : wr.cell? ⟨w.heap.size, 7, none⟩ = some (.int .u32 (H.h.toNat : Int)) := A.head.cell 7 _ rfl
          have hsz := A.size
          go_wp2
          have A1 : VAt w g H.list (sch s.data.toList 64) H.list (wr.alloc (Obj.cells #[Value.int IntKind.u32 H.a.toNat, Value.int IntKind.u32 H.b.toNat, Value.int IntKind.u32 H.c.toNat, Value.int IntKind.u32 H.d.toNat, Value.int IntKind.u32 H.e.toNat, Value.int IntKind.u32 H.f.toNat, Value.int IntKind.u32 H.g.toNat, Value.int IntKind.u32 H.h.toNat] 85)) := by
            have hb : Below wr.heap.size wr (wr.alloc (Obj.cells #[Value.int IntKind.u32 H.a.toNat, Value.int IntKind.u32 H.b.toNat, Value.int IntKind.u32 H.c.toNat, Value.int IntKind.u32 H.d.toNat, Value.int IntKind.u32 H.e.toNat, Value.int IntKind.u32 H.f.toNat, Value.int IntKind.u32 H.g.toNat, Value.int IntKind.u32 H.h.toNat] 85)) := (Below.refl _ _).alloc (Nat.le_refl _) _
            have hf := A.far
            refine ⟨⟨A.head.below hb, A.res.below hb, A.words.below hb, A.consts.below hb, hf, by simp [hsz], A.below.trans (hb.mono (by omega))⟩, ?_⟩
            rw [← hsz]; exact heap_alloc_new _ _
          generalize wr.alloc (Obj.cells #[Value.int IntKind.u32 H.a.toNat, Value.int IntKind.u32 H.b.toNat, Value.int IntKind.u32 H.c.toNat, Value.int IntKind.u32 H.d.toNat, Value.int IntKind.u32 H.e.toNat, Value.int IntKind.u32 H.f.toNat, Value.int IntKind.u32 H.g.toNat, Value.int IntKind.u32 H.h.toNat] 85) = w7 at A1 ⊢
          generalize Value.bool (decide ((j : Int) < 64)) = vb2
          clear c0 c1 c2 c3 c4 c5 c6 c7 hsz A hlt hj1 hj2
          obtain ⟨m, hm⟩ : ∃ m, m = sch s.data.toList 64 := ⟨_, rfl⟩
          have hml : m.length = 64 := by rw [hm, sch_length]
          rw [← hm] at A1
          have HM : Hid (m = sch s.data.toList 64) := hm
          have HML : Hid (m.length = 64) := hml
          clear hm hml
          go_loopw [12] (fun i wr => ∃ k : Nat, k ≤ 64 ∧ i = .int .i64 k ∧ VAt w g H.list m (rounds m H k).list wr) (fun i _ => 64 - (intOf i).toNat)
          case atStart => exact ⟨0, by omega, rfl, A1⟩
          case round =>
            clear A1
            obtain ⟨n, hn, rfl, A⟩ := hrel
            by_cases hlt : n < 64
            · obtain ⟨S, hS⟩ : ∃ S, S = rounds m H n := ⟨_, rfl⟩
              rw [← hS] at A
              obtain ⟨kk, hkk⟩ : ∃ x, x = KK.getD n 0 := ⟨_, rfl⟩
              obtain ⟨mm, hmm⟩ : ∃ x, x = m.getD n 0 := ⟨_, rfl⟩
              have hkk' : KK[n]? = some kk := by rw [hkk, List.getD_eq_getElem?_getD, List.getElem?_eq_getElem (by rw [KK_length]; exact hlt)]; rfl
              have hmm' : m[n]? = some mm := by rw [hmm, List.getD_eq_getElem?_getD, List.getElem?_eq_getElem (by rw [HML.out]; exact hlt)]; rfl
              have HK : Hid (KK[n]? = some kk ∧ m[n]? = some mm) := ⟨hkk', hmm'⟩
              have ES : Hid (rnd S kk mm = rounds m H (n + 1)) := by rw [hS, hkk, hmm]; exact (rfl : rnd _ _ _ = rounds m H (n + 1))
              clear hS hkk hmm hkk' hmm'
              have n0 : (0 : Int) ≤ (n : Int) := by omega
              have n64 : (n : Int) < 64 := by omega
              have sg : IntKind.u32.signed = false := rfl
              have mx : IntKind.u32.max = 4294967295 := rfl
              have d4 : wr.cell? ⟨g + 1, 4, none⟩ = some (.int .u32 (S.e.toNat : Int)) := A.vs.cell 4 _ rfl
              go_wp2
              go_quiet ((go_at_call 89; exact Calls.quiet_of_same (turn_at _ _ (by decide) (by decide) _)))
              replace A := A.drewN nq
              clear d4
              generalize wr.drewN nq = x1 at A ⊢
              have d4 : x1.cell? ⟨g + 1, 4, none⟩ = some (.int .u32 (S.e.toNat : Int)) := A.vs.cell 4 _ rfl
              have d5 : x1.cell? ⟨g + 1, 5, none⟩ = some (.int .u32 (S.f.toNat : Int)) := A.vs.cell 5 _ rfl
              have d6 : x1.cell? ⟨g + 1, 6, none⟩ = some (.int .u32 (S.g.toNat : Int)) := A.vs.cell 6 _ rfl
              have d7 : x1.cell? ⟨g + 1, 7, none⟩ = some (.int .u32 (S.h.toNat : Int)) := A.vs.cell 7 _ rfl
              have ck := A.at'.consts.cell n kk HK.out.1
              have cm := A.at'.words.cell n mm HK.out.2
              go_wp2
              rw [bsig1_row]
              go_quiet (fail)
              replace A := A.drewN nq
              clear d4 d5 d6 d7 ck cm
              generalize x1.drewN nq = x2 at A ⊢
              have d0 : x2.cell? ⟨g + 1, 0, none⟩ = some (.int .u32 (S.a.toNat : Int)) := A.vs.cell 0 _ rfl
              go_wp2
              rw [chs_row, tee_row]
              go_quiet ((go_at_call 89; exact Calls.quiet_of_same (turn_at _ _ (by decide) (by decide) _)))
              replace A := A.drewN nq
              clear d0
              generalize x2.drewN nq = x3 at A ⊢
              have d0 : x3.cell? ⟨g + 1, 0, none⟩ = some (.int .u32 (S.a.toNat : Int)) := A.vs.cell 0 _ rfl
              have d1 : x3.cell? ⟨g + 1, 1, none⟩ = some (.int .u32 (S.b.toNat : Int)) := A.vs.cell 1 _ rfl
              have d2 : x3.cell? ⟨g + 1, 2, none⟩ = some (.int .u32 (S.c.toNat : Int)) := A.vs.cell 2 _ rfl
              have d3 : x3.cell? ⟨g + 1, 3, none⟩ = some (.int .u32 (S.d.toNat : Int)) := A.vs.cell 3 _ rfl
              have d4 : x3.cell? ⟨g + 1, 4, none⟩ = some (.int .u32 (S.e.toNat : Int)) := A.vs.cell 4 _ rfl
              have d5 : x3.cell? ⟨g + 1, 5, none⟩ = some (.int .u32 (S.f.toNat : Int)) := A.vs.cell 5 _ rfl
              have d6 : x3.cell? ⟨g + 1, 6, none⟩ = some (.int .u32 (S.g.toNat : Int)) := A.vs.cell 6 _ rfl
              have d7 : x3.cell? ⟨g + 1, 7, none⟩ = some (.int .u32 (S.h.toNat : Int)) := A.vs.cell 7 _ rfl
              have z0 := A.vs.frozen (w := x3) 0
              have z1 := A.vs.frozen (w := x3) 1
              have z2 := A.vs.frozen (w := x3) 2
              have z3 := A.vs.frozen (w := x3) 3
              have z4 := A.vs.frozen (w := x3) 4
              have z5 := A.vs.frozen (w := x3) 5
              have z6 := A.vs.frozen (w := x3) 6
              have z7 := A.vs.frozen (w := x3) 7
              go_wp2
              rw [bsig0_row, maj_row, num3, num2]
              go_roundw
              case rel =>
                have R := (((((((A.set 0 _ (tee S kk mm + (bsig0 S.a + maj S.a S.b S.c)) rfl).set 1 _ S.a rfl).set 2 _ S.b rfl).set 3 _ S.c rfl).set 4 _ (S.d + tee S kk mm) rfl).set 5 _ S.e rfl).set 6 _ S.f rfl).set 7 _ S.g rfl
                have R2 : VAt w g H.list m (rnd S kk mm).list _ := R
                rw [ES.out] at R2
                exact ⟨n + 1, by omega, by go_num, R2⟩
              case measure => simp [intOf]; omega
            · have hn64 : n = 64 := by omega
              rw [hn64] at A
              clear hn64
              obtain ⟨V, hV⟩ : ∃ V, V = rounds m H 64 := ⟨_, rfl⟩
              rw [← hV] at A
              have EV : Hid (comp H (sch s.data.toList 64) = plus H V) := by rw [hV, HM.out]; exact (rfl : comp H (sch s.data.toList 64) = plus H (rounds (sch s.data.toList 64) H 64))
              clear hV
              have hfar := A.at'.far
              go_wp2
              generalize Value.bool (decide ((n : Int) < 64)) = vb3
              go_loopw [17] (fun i wr => ∃ n : Nat, n ≤ 8 ∧ i = .int .i64 n ∧ Row wr w.heap.size 85 (summed H V n) ∧ Row wr (g + 1) 85 V.list ∧ Row wr (w.heap.size + 1) 85 (zeros 8) ∧ Below w.heap.size w wr) (fun i _ => 8 - (intOf i).toNat)
              case atStart => exact ⟨0, by omega, rfl, A.at'.head, A.vs, A.at'.res, A.at'.below⟩
              case round =>
                clear A hlt hn
                obtain ⟨n, hn, rfl, hrow, hv, hres, hb⟩ := hrel
                by_cases hlt : n < 8
                · have ch := hrow.cell n _ (summed_get H V n hlt)
                  have cv := hv.cell n _ (list_get V n hlt)
                  have fz := hrow.frozen n
                  have n0 : (0 : Int) ≤ (n : Int) := by omega
                  have n8 : (n : Int) < 8 := by omega
                  go_wp2
                  go_region
                  go_wp2
                  go_roundw
                  case rel =>
                    rw [num2]
                    refine ⟨n + 1, by omega, by go_num, ?_, (hv.but (But.setCell wr _ n _) (by omega)).drew, (hres.but (But.setCell wr _ n _) (by omega)).drew, (hb.setCell (Nat.le_refl _) _).drew⟩
                    rw [← summed_set H V n hlt]
                    exact (hrow.set n _).drew
                  case measure => simp [intOf]; omega
                · have hn8 : n = 8 := by omega
                  rw [hn8, summed_full] at hrow
                  clear hn8
                  have c0 : wr.cell? ⟨w.heap.size, 0, none⟩ = some (.int .u32 ((H.a + V.a).toNat : Int)) := hrow.cell 0 _ rfl
                  have c1 : wr.cell? ⟨w.heap.size, 1, none⟩ = some (.int .u32 ((H.b + V.b).toNat : Int)) := hrow.cell 1 _ rfl
                  have c2 : wr.cell? ⟨w.heap.size, 2, none⟩ = some (.int .u32 ((H.c + V.c).toNat : Int)) := hrow.cell 2 _ rfl
                  have c3 : wr.cell? ⟨w.heap.size, 3, none⟩ = some (.int .u32 ((H.d + V.d).toNat : Int)) := hrow.cell 3 _ rfl
                  have c4 : wr.cell? ⟨w.heap.size, 4, none⟩ = some (.int .u32 ((H.e + V.e).toNat : Int)) := hrow.cell 4 _ rfl
                  have c5 : wr.cell? ⟨w.heap.size, 5, none⟩ = some (.int .u32 ((H.f + V.f).toNat : Int)) := hrow.cell 5 _ rfl
                  have c6 : wr.cell? ⟨w.heap.size, 6, none⟩ = some (.int .u32 ((H.g + V.g).toNat : Int)) := hrow.cell 6 _ rfl
                  have c7 : wr.cell? ⟨w.heap.size, 7, none⟩ = some (.int .u32 ((H.h + V.h).toNat : Int)) := hrow.cell 7 _ rfl
                  have e0 := hres.cell 0 0 rfl
                  have z0 := hres.frozen 0
                  have e1 := hres.cell 1 0 rfl
                  have z1 := hres.frozen 1
                  have e2 := hres.cell 2 0 rfl
                  have z2 := hres.frozen 2
                  have e3 := hres.cell 3 0 rfl
                  have z3 := hres.frozen 3
                  have e4 := hres.cell 4 0 rfl
                  have z4 := hres.frozen 4
                  have e5 := hres.cell 5 0 rfl
                  have z5 := hres.frozen 5
                  have e6 := hres.cell 6 0 rfl
                  have z6 := hres.frozen 6
                  have e7 := hres.cell 7 0 rfl
                  have z7 := hres.frozen 7
                  go_wp2
                  have R := (((((((hres.set 0 (H.a + V.a)).set 1 (H.b + V.b)).set 2 (H.c + V.c)).set 3 (H.d + V.d)).set 4 (H.e + V.e)).set 5 (H.f + V.f)).set 6 (H.g + V.g)).set 7 (H.h + V.h)
                  simp only [num2]
                  have R2 : Row _ (w.heap.size + 1) 85 (plus H V).list := R
                  refine bodyPost_ret (v := .agg (cw (plus H V).list).toArray) (results_cell_row (fn := Try.f68) Try.results68 _ _ (w.heap.size + 1) 85 _ (0, 0) _ (by rfl) R2 Try.underlying85 rfl (by rw [cw_size]; exact Try.size85)) rfl ⟨by rw [EV.out], ?_⟩
                  have l1 : w.heap.size ≤ w.heap.size + 1 := by omega
                  exact (((((((hb.setCell l1 _).setCell l1 _).setCell l1 _).setCell l1 _).setCell l1 _).setCell l1 _).setCell l1 _).setCell l1 _

end Go.Proofs.Ythdnldbkpllciaa

/-
  Package sha's mix: the rounds of one block.
-/
namespace Go.Proofs.Ythdnldbkpllciaa
open Go.RowKit

end Go.Proofs.Ythdnldbkpllciaa

/-
  Package sha's schedule: the words of a block's rounds.
-/
namespace Go.Proofs.Ythdnldbkpllciaa
open Go.RowKit

end Go.Proofs.Ythdnldbkpllciaa
