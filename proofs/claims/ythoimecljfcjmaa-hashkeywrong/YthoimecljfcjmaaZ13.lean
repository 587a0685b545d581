/-
  The document's block: 64 bytes into the eight words.
-/
import Derived.Test.YthoimecljfcjmaaZ06
import Derived.BigQuiet
import Derived.Deep.QuietTactic
import Derived.Deep.RegionHeld3
import Derived.BigRegion
namespace Go.Proofs.Ythoimecljfcjmaa
open Go.RowKit

/-- What the block's walk knows of memory. -/
structure BlkAt (w : World) (g : Nat) (h m : List (BitVec 32)) (n : Nat) (wr : World) : Prop where
  head : Row wr w.heap.size 61 h
  res : Row wr (w.heap.size + 1) 61 (zeros 8)
  words : Row wr (w.heap.size + 1 + 1) 63 m
  consts : Row wr g 63 KK
  far : w.heap.size + 3 ≤ g
  size : wr.heap.size = n
  below : Below w.heap.size w wr
theorem BlkAt.drewN {w : World} {g : Nat} {h m : List (BitVec 32)} {n : Nat} {wr : World} (A : BlkAt w g h m n wr) (k : Nat) : BlkAt w g h m n (wr.drewN k) :=
  ⟨A.head, A.res, A.words, A.consts, A.far, A.size, ⟨A.below.os, A.below.tape, A.below.output, A.below.size, A.below.block⟩⟩
theorem BlkAt.drew {w : World} {g : Nat} {h m : List (BitVec 32)} {n : Nat} {wr : World} (A : BlkAt w g h m n wr) : BlkAt w g h m n wr.drew :=
  ⟨A.head, A.res, A.words, A.consts, A.far, A.size, A.below.drew⟩
theorem BlkAt.set {w : World} {g : Nat} {h m : List (BitVec 32)} {n : Nat} {wr : World} (A : BlkAt w g h m n wr) (j : Nat) (x : Int) (y : BitVec 32) (hx : x = (y.toNat : Int)) :
    BlkAt w g h (m.set j y) n (wr.setCell ⟨w.heap.size + 1 + 1, j, none⟩ (.int .u32 x)) := by
  subst hx
  have hf := A.far
  exact ⟨A.head.but (But.setCell _ _ _ _) (by omega), A.res.but (But.setCell _ _ _ _) (by omega), A.words.set j y, A.consts.but (But.setCell _ _ _ _) (by omega), A.far, by rw [← A.size]; simp [World.setCell], A.below.setCell (by show w.heap.size ≤ w.heap.size + 1 + 1; omega) _⟩

theorem ssig0_row (x : BitVec 32) : bits BinOp.xor IntKind.u32 (bits BinOp.xor IntKind.u32 ((rotr x 7).toNat : Int) ((rotr x 18).toNat : Int)) ((x.toNat : Int) / 8) = ((ssig0 x).toNat : Int) := by
  rw [bv_shr3, bv_xor, bv_xor]; rfl
theorem ssig1_row (x : BitVec 32) : bits BinOp.xor IntKind.u32 (bits BinOp.xor IntKind.u32 ((rotr x 17).toNat : Int) ((rotr x 19).toNat : Int)) ((x.toNat : Int) / 1024) = ((ssig1 x).toNat : Int) := by
  rw [bv_shr10, bv_xor, bv_xor]; rfl
theorem bsig1_row (x : BitVec 32) : bits BinOp.xor IntKind.u32 (bits BinOp.xor IntKind.u32 ((rotr x 6).toNat : Int) ((rotr x 11).toNat : Int)) ((rotr x 25).toNat : Int) = ((bsig1 x).toNat : Int) := by
  rw [bv_xor, bv_xor]; rfl
theorem bsig0_row (x : BitVec 32) : bits BinOp.xor IntKind.u32 (bits BinOp.xor IntKind.u32 ((rotr x 2).toNat : Int) ((rotr x 13).toNat : Int)) ((rotr x 22).toNat : Int) = ((bsig0 x).toNat : Int) := by
  rw [bv_xor, bv_xor]; rfl
theorem chs_row (x y z : BitVec 32) : bits BinOp.xor IntKind.u32 (bits BinOp.and IntKind.u32 (x.toNat : Int) (y.toNat : Int)) (bits BinOp.and IntKind.u32 (bits BinOp.xor IntKind.u32 4294967295 (x.toNat : Int)) (z.toNat : Int)) = ((chs x y z).toNat : Int) := by
  rw [bv_not, bv_and, bv_and, bv_xor]; rfl
theorem maj_row (x y z : BitVec 32) : bits BinOp.xor IntKind.u32 (bits BinOp.xor IntKind.u32 (bits BinOp.and IntKind.u32 (x.toNat : Int) (y.toNat : Int)) (bits BinOp.and IntKind.u32 (x.toNat : Int) (z.toNat : Int))) (bits BinOp.and IntKind.u32 (y.toNat : Int) (z.toNat : Int)) = ((maj x y z).toNat : Int) := by
  rw [bv_and, bv_and, bv_and, bv_xor, bv_xor]; rfl
theorem num4 (x y z u : BitVec 32) : ((x.toNat : Int) + (y.toNat : Int) + (z.toNat : Int) + (u.toNat : Int)) % 4294967296 = ((x + y + z + u).toNat : Int) := by
  simp only [BitVec.toNat_add]; omega

/-- A guard: the goal is a list of operations. -/

theorem num3 (x y z : BitVec 32) : ((x.toNat : Int) + ((y.toNat : Int) + (z.toNat : Int))) % 4294967296 = ((x + (y + z)).toNat : Int) := by
  simp only [BitVec.toNat_add]; omega
theorem tee_row (S : St) (k m : BitVec 32) : (((S.h.toNat : Int) + ((bsig1 S.e).toNat : Int) + ((chs S.e S.f S.g).toNat : Int) + (k.toNat : Int)) % 4294967296 + (m.toNat : Int)) % 4294967296 = ((tee S k m).toNat : Int) := by
  simp only [tee, BitVec.toNat_add]; omega
theorem num5 (S : St) (k m : BitVec 32) : ((S.h.toNat : Int) + ((bsig1 S.e).toNat : Int) + ((chs S.e S.f S.g).toNat : Int) + (k.toNat : Int) + (m.toNat : Int)) % 4294967296 = ((tee S k m).toNat : Int) := by
  simp only [tee, BitVec.toNat_add]; omega
/-- The same with the rounds' eight words beside it. -/
structure VAt (w : World) (g : Nat) (h m v : List (BitVec 32)) (wr : World) : Prop where
  at' : BlkAt w g h m (g + 1 + 1) wr
  vs : Row wr (g + 1) 61 v
theorem VAt.drewN {w : World} {g : Nat} {h m v : List (BitVec 32)} {wr : World} (A : VAt w g h m v wr) (k : Nat) : VAt w g h m v (wr.drewN k) := ⟨A.at'.drewN k, A.vs⟩
theorem VAt.set {w : World} {g : Nat} {h m v : List (BitVec 32)} {wr : World} (A : VAt w g h m v wr) (j : Nat) (x : Int) (y : BitVec 32) (hx : x = (y.toNat : Int)) :
    VAt w g h m (v.set j y) (wr.setCell ⟨g + 1, j, none⟩ (.int .u32 x)) := by
  subst hx
  have hf := A.at'.far
  refine ⟨⟨A.at'.head.but (But.setCell _ _ _ _) (by omega), A.at'.res.but (But.setCell _ _ _ _) (by omega), A.at'.words.but (But.setCell _ _ _ _) (by omega), A.at'.consts.but (But.setCell _ _ _ _) (by omega), hf, ?_, A.at'.below.setCell (by show w.heap.size ≤ g + 1; omega) _⟩, A.vs.set j y⟩
  rw [← A.at'.size]; simp [World.setCell]

set_option maxRecDepth 10000 in
set_option maxHeartbeats 2000000 in
theorem block_any (H : St) (s : ByteArray) (hs : s.size = 64) (w : World) :
    Calls Try.prog 52 #[.agg (cw H.list).toArray, .string s] w fun e w' => e = .returned (.agg (cw (comp H (sch s.data.toList 64)).list).toArray) ∧ Below w.heap.size w w' := by
  go_enter Try.func52, Try.ntmps52
  iterate 3 go_step
  refine wpList_boxed (P := Try.prog) (by rfl) 61 (.tmp 0) (by rfl) H.list (by rfl) ?_
  intro w1 hr1 hs1 hb1
  refine wpList_new (P := Try.prog) (by rfl) 61 (by rfl) (zeros 8) 8 Try.info61 ?_
  intro w2 hr2 hs2 hb2
  iterate 5 (first | go_values | go_skip | go_guarded | go_step)
  refine wpList_new (P := Try.prog) (by rfl) 63 (by rfl) (zeros 64) 64 Try.info63 ?_
  intro w3 hr3 hs3 hb3
  go_wp2_with fail
  refine (table_any _).mono ?_
  rintro e w4 ⟨rfl, hb4⟩
  simp only []
  rename_i hK
  refine hK _ _ ?_
  refine wpList_new (P := Try.prog) (by rfl) 63 (by rfl) (zeros 64) 64 Try.info63 ?_
  intro w5 hr5 hs5 hb5
  refine wpList_put (P := Try.prog) (by rfl) 63 (.tmp 6) (.tmp 18) (by rfl) w4.heap.size KK (zeros 64) (by rfl) (by rfl) 63 hr5 (by rw [KK_length]; exact Try.size63) (by rw [KK_length, zeros_length]) ?_
  intro w6 hr6 hs6 hb6
  go_wp2_with fail
  obtain ⟨g, hg⟩ : ∃ g, g = w4.heap.size := ⟨_, rfl⟩
  have A0 : BlkAt w g H.list (half s.data.toList 0) (g + 1) w6 := by
    have z4 := hb4.size
    have e2 : Row w4 w1.heap.size 61 (zeros 8) := (hr2.below hb3).below hb4
    have e1 : Row w4 w.heap.size 61 H.list := ((hr1.below hb2).below hb3).below hb4
    have e3 : Row w4 w2.heap.size 63 (zeros 64) := hr3.below hb4
    rw [hs1] at e2
    rw [hs2, hs1] at e3
    have f1 := (e1.below hb5).but hb6 (by omega)
    have f2 := (e2.below hb5).but hb6 (by omega)
    have f3 := (e3.below hb5).but hb6 (by omega)
    have f : Below w.heap.size w w4 := ((hb1.trans (hb2.mono (by omega))).trans (hb3.mono (by omega))).trans (hb4.mono (by omega))
    exact ⟨f1, f2, f3, by rw [hg]; exact hr6, by omega, by omega, (f.trans (hb5.mono (by omega))).trans (hb6.below (by omega) (by omega))⟩
  rw [← hg]
  clear hr1 hs1 hb1 hr2 hs2 hb2 hr3 hs3 hb3 hb4 hr5 hs5 hb5 hr6 hs6 hb6 hK hg
  go_loopw [7] (fun i wr => ∃ k : Nat, k ≤ 16 ∧ i = .int .i64 k ∧ BlkAt w g H.list (half s.data.toList k) (g + 1) wr) (fun i _ => 16 - (intOf i).toNat)
  case atStart => exact ⟨0, by omega, rfl, A0⟩
  case round =>
    clear A0
    obtain ⟨k, hk, rfl, A⟩ := hrel
    by_cases hlt : k < 16
    · have hfz := A.words.frozen k
      obtain ⟨u, hu⟩ : ∃ u, wr.cell? ⟨w.heap.size + 1 + 1, k, none⟩ = some u := ⟨_, A.words.cell k _ (List.getElem?_eq_getElem (by rw [half_length _ _ (by omega)]; omega))⟩
      have hle : 64 ≤ s.size := by omega
      have b0 : (4 * (k : Int)) < (s.size : Int) := by omega
      have b1 : (4 * (k : Int) + 1) < (s.size : Int) := by omega
      have b2 : (4 * (k : Int) + 2) < (s.size : Int) := by omega
      have b3 : (4 * (k : Int) + 3) < (s.size : Int) := by omega
      have c0 : (0 : Int) ≤ 4 * (k : Int) := by omega
      have c1 : (0 : Int) ≤ 4 * (k : Int) + 1 := by omega
      have c2 : (0 : Int) ≤ 4 * (k : Int) + 2 := by omega
      have c3 : (0 : Int) ≤ 4 * (k : Int) + 3 := by omega
      clear hs
      go_wp2
      go_region
      go_wp2
      go_roundw
      case rel =>
        have R := (A.set k _ _ (word_row s k (by omega) (by omega) (by omega) (by omega))).drew
        rw [half_set _ _ (by omega) _ (by rw [if_pos hlt])] at R
        exact ⟨k + 1, by omega, by go_num, R⟩
      case measure => simp [intOf]; omega
    · have hk16 : k = 16 := by omega
      rw [hk16] at A
      clear hk16
      go_wp2
      generalize Value.bool (decide ((k : Int) < 16)) = vb1
      go_loopw [8] (fun i wr => ∃ k : Nat, 16 ≤ k ∧ k ≤ 64 ∧ i = .int .i64 k ∧ BlkAt w g H.list (half s.data.toList k) (g + 1) wr) (fun i _ => 64 - (intOf i).toNat)
      case atStart => exact ⟨16, by omega, by omega, rfl, A⟩
      case round =>
        clear A hk hlt hs
        obtain ⟨j, hj1, hj2, rfl, A⟩ := hrel
        by_cases hlt : j < 64
        · have k0 : (0 : Int) ≤ (j : Int) := by omega
          have k64 : (j : Int) < 64 := by omega
          obtain ⟨a15, f15⟩ : ∃ a, a = j - 15 := ⟨_, rfl⟩
          obtain ⟨a2, f2⟩ : ∃ a, a = j - 2 := ⟨_, rfl⟩
          have v15 : IntKind.i64.wrap ((j : Int) - 15) = (a15 : Int) := (IntWalk.i64_in _ (by omega)).trans (by omega)
          have v2 : IntKind.i64.wrap ((j : Int) - 2) = (a2 : Int) := (IntWalk.i64_in _ (by omega)).trans (by omega)
          have l15 : (a15 : Int) < 64 := by omega
          have l2 : (a2 : Int) < 64 := by omega
          obtain ⟨x16, e16⟩ : ∃ x, x = (sch s.data.toList j).getD (j - 16) 0 := ⟨_, rfl⟩
          obtain ⟨x15, e15⟩ : ∃ x, x = (sch s.data.toList j).getD (j - 15) 0 := ⟨_, rfl⟩
          obtain ⟨x7, e7⟩ : ∃ x, x = (sch s.data.toList j).getD (j - 7) 0 := ⟨_, rfl⟩
          obtain ⟨x2, e2⟩ : ∃ x, x = (sch s.data.toList j).getD (j - 2) 0 := ⟨_, rfl⟩
          have G : Hid ((half s.data.toList j)[j - 16]? = some x16 ∧ (half s.data.toList j)[a15]? = some x15 ∧ (half s.data.toList j)[j - 7]? = some x7 ∧ (half s.data.toList j)[a2]? = some x2) :=
            (show _ ∧ _ from ⟨by rw [half_get _ _ _ (by omega), e16], by rw [f15, half_get _ _ _ (by omega), e15], by rw [half_get _ _ _ (by omega), e7], by rw [f2, half_get _ _ _ (by omega), e2]⟩)
          have E : Hid (x16 + ssig0 x15 + x7 + ssig1 x2 = nextW (sch s.data.toList j)) := by
            exact (show _ = _ by rw [nextW, sch_length, e16, e15, e7, e2])
          clear e16 e15 e7 e2 f15 f2
          have c15 := A.words.cell a15 x15 G.out.2.1
          go_wp2
          go_quiet ((go_at_call 77; exact Calls.quiet_of_same (turn_at _ _ (by decide) (by decide) _)))
          replace A := A.drewN nq
          clear c15
          generalize wr.drewN nq = w1' at A ⊢
          have c2 := A.words.cell a2 x2 G.out.2.2.2
          go_wp2
          go_quiet ((go_at_call 77; exact Calls.quiet_of_same (turn_at _ _ (by decide) (by decide) _)))
          replace A := A.drewN nq
          clear c2 v15 v2 l15 l2
          generalize w1'.drewN nq = w2' at A ⊢
          have c16 := A.words.cell (j - 16) x16 G.out.1
          have c7 := A.words.cell (j - 7) x7 G.out.2.2.1
          have hfz := A.words.frozen j
          obtain ⟨u, hu⟩ : ∃ u, w2'.cell? ⟨w.heap.size + 1 + 1, j, none⟩ = some u := ⟨_, A.words.cell j _ (List.getElem?_eq_getElem (by rw [half_length _ _ (by omega)]; omega))⟩
          go_wp2
          go_region
          go_wp2
          go_roundw
          case rel =>
            rw [ssig0_row, ssig1_row, num4, E.out]
            have R := (A.set j _ (nextW (sch s.data.toList j)) rfl).drew
            rw [half_set _ _ (by omega) _ (by rw [if_neg (by omega)])] at R
            exact ⟨j + 1, by omega, by omega, by go_num, R⟩
          case measure => simp [intOf]; omega
        · have hk64 : j = 64 := by omega
          rw [hk64, half_full] at A
          clear hk64
          have c0 : wr.cell? ⟨w.heap.size, 0, none⟩ = some (.int .u32 (H.a.toNat : Int)) := A.head.cell 0 _ rfl
          have c1 : wr.cell? ⟨w.heap.size, 1, none⟩ = some (.int .u32 (H.b.toNat : Int)) := A.head.cell 1 _ rfl
          have c2 : wr.cell? ⟨w.heap.size, 2, none⟩ = some (.int .u32 (H.c.toNat : Int)) := A.head.cell 2 _ rfl
          have c3 : wr.cell? ⟨w.heap.size, 3, none⟩ = some (.int .u32 (H.d.toNat : Int)) := A.head.cell 3 _ rfl
          have c4 : wr.cell? ⟨w.heap.size, 4, none⟩ = some (.int .u32 (H.e.toNat : Int)) := A.head.cell 4 _ rfl
          have c5 : wr.cell? ⟨w.heap.size, 5, none⟩ = some (.int .u32 (H.f.toNat : Int)) := A.head.cell 5 _ rfl
          have c6 : wr.cell? ⟨w.heap.size, 6, none⟩ = some (.int .u32 (H.g.toNat : Int)) := A.head.cell 6 _ rfl
          have c7 : wr.cell? ⟨w.heap.size, 7, none⟩ = some (.int .u32 (H.h.toNat : Int)) := A.head.cell 7 _ rfl
          have hsz := A.size
          go_wp2
          have A1 : VAt w g H.list (sch s.data.toList 64) H.list (wr.alloc (Obj.cells #[Value.int IntKind.u32 H.a.toNat, Value.int IntKind.u32 H.b.toNat, Value.int IntKind.u32 H.c.toNat, Value.int IntKind.u32 H.d.toNat, Value.int IntKind.u32 H.e.toNat, Value.int IntKind.u32 H.f.toNat, Value.int IntKind.u32 H.g.toNat, Value.int IntKind.u32 H.h.toNat] 61)) := by
            have hb : Below wr.heap.size wr (wr.alloc (Obj.cells #[Value.int IntKind.u32 H.a.toNat, Value.int IntKind.u32 H.b.toNat, Value.int IntKind.u32 H.c.toNat, Value.int IntKind.u32 H.d.toNat, Value.int IntKind.u32 H.e.toNat, Value.int IntKind.u32 H.f.toNat, Value.int IntKind.u32 H.g.toNat, Value.int IntKind.u32 H.h.toNat] 61)) := (Below.refl _ _).alloc (Nat.le_refl _) _
            have hf := A.far
            refine ⟨⟨A.head.below hb, A.res.below hb, A.words.below hb, A.consts.below hb, hf, by simp [hsz], A.below.trans (hb.mono (by omega))⟩, ?_⟩
            rw [← hsz]; exact heap_alloc_new _ _
          generalize wr.alloc (Obj.cells #[Value.int IntKind.u32 H.a.toNat, Value.int IntKind.u32 H.b.toNat, Value.int IntKind.u32 H.c.toNat, Value.int IntKind.u32 H.d.toNat, Value.int IntKind.u32 H.e.toNat, Value.int IntKind.u32 H.f.toNat, Value.int IntKind.u32 H.g.toNat, Value.int IntKind.u32 H.h.toNat] 61) = w7 at A1 ⊢
          generalize Value.bool (decide ((j : Int) < 64)) = vb2
          clear c0 c1 c2 c3 c4 c5 c6 c7 hsz A hlt hj1 hj2
          obtain ⟨m, hm⟩ : ∃ m, m = sch s.data.toList 64 := ⟨_, rfl⟩
          have hml : m.length = 64 := by rw [hm, sch_length]
          rw [← hm] at A1
          have HM : Hid (m = sch s.data.toList 64) := hm
          have HML : Hid (m.length = 64) := hml
          clear hm hml
          go_loopw [12] (fun i wr => ∃ k : Nat, k ≤ 64 ∧ i = .int .i64 k ∧ VAt w g H.list m (rounds m H k).list wr) (fun i _ => 64 - (intOf i).toNat)
          case atStart => exact ⟨0, by omega, rfl, A1⟩
          case round =>
            clear A1
            obtain ⟨n, hn, rfl, A⟩ := hrel
            by_cases hlt : n < 64
            · obtain ⟨S, hS⟩ : ∃ S, S = rounds m H n := ⟨_, rfl⟩
              rw [← hS] at A
              obtain ⟨kk, hkk⟩ : ∃ x, x = KK.getD n 0 := ⟨_, rfl⟩
              obtain ⟨mm, hmm⟩ : ∃ x, x = m.getD n 0 := ⟨_, rfl⟩
              have hkk' : KK[n]? = some kk := by rw [hkk, List.getD_eq_getElem?_getD, List.getElem?_eq_getElem (by rw [KK_length]; exact hlt)]; rfl
              have hmm' : m[n]? = some mm := by rw [hmm, List.getD_eq_getElem?_getD, List.getElem?_eq_getElem (by rw [HML.out]; exact hlt)]; rfl
              have HK : Hid (KK[n]? = some kk ∧ m[n]? = some mm) := ⟨hkk', hmm'⟩
              have ES : Hid (rnd S kk mm = rounds m H (n + 1)) := by rw [hS, hkk, hmm]; exact (rfl : rnd _ _ _ = rounds m H (n + 1))
              clear hS hkk hmm hkk' hmm'
              have n0 : (0 : Int) ≤ (n : Int) := by omega
              have n64 : (n : Int) < 64 := by omega
              have sg : IntKind.u32.signed = false := rfl
              have mx : IntKind.u32.max = 4294967295 := rfl
              have d4 : wr.cell? ⟨g + 1, 4, none⟩ = some (.int .u32 (S.e.toNat : Int)) := A.vs.cell 4 _ rfl
              go_wp2
              go_quiet ((go_at_call 77; exact Calls.quiet_of_same (turn_at _ _ (by decide) (by decide) _)))
              replace A := A.drewN nq
              clear d4
              generalize wr.drewN nq = x1 at A ⊢
              have d4 : x1.cell? ⟨g + 1, 4, none⟩ = some (.int .u32 (S.e.toNat : Int)) := A.vs.cell 4 _ rfl
              have d5 : x1.cell? ⟨g + 1, 5, none⟩ = some (.int .u32 (S.f.toNat : Int)) := A.vs.cell 5 _ rfl
              have d6 : x1.cell? ⟨g + 1, 6, none⟩ = some (.int .u32 (S.g.toNat : Int)) := A.vs.cell 6 _ rfl
              have d7 : x1.cell? ⟨g + 1, 7, none⟩ = some (.int .u32 (S.h.toNat : Int)) := A.vs.cell 7 _ rfl
              have ck := A.at'.consts.cell n kk HK.out.1
              have cm := A.at'.words.cell n mm HK.out.2
              go_wp2
              rw [bsig1_row]
              go_quiet (fail)
              replace A := A.drewN nq
              clear d4 d5 d6 d7 ck cm
              generalize x1.drewN nq = x2 at A ⊢
              have d0 : x2.cell? ⟨g + 1, 0, none⟩ = some (.int .u32 (S.a.toNat : Int)) := A.vs.cell 0 _ rfl
              go_wp2
              rw [chs_row, tee_row]
              go_quiet ((go_at_call 77; exact Calls.quiet_of_same (turn_at _ _ (by decide) (by decide) _)))
              replace A := A.drewN nq
              clear d0
              generalize x2.drewN nq = x3 at A ⊢
              have d0 : x3.cell? ⟨g + 1, 0, none⟩ = some (.int .u32 (S.a.toNat : Int)) := A.vs.cell 0 _ rfl
              have d1 : x3.cell? ⟨g + 1, 1, none⟩ = some (.int .u32 (S.b.toNat : Int)) := A.vs.cell 1 _ rfl
              have d2 : x3.cell? ⟨g + 1, 2, none⟩ = some (.int .u32 (S.c.toNat : Int)) := A.vs.cell 2 _ rfl
              have d3 : x3.cell? ⟨g + 1, 3, none⟩ = some (.int .u32 (S.d.toNat : Int)) := A.vs.cell 3 _ rfl
              have d4 : x3.cell? ⟨g + 1, 4, none⟩ = some (.int .u32 (S.e.toNat : Int)) := A.vs.cell 4 _ rfl
              have d5 : x3.cell? ⟨g + 1, 5, none⟩ = some (.int .u32 (S.f.toNat : Int)) := A.vs.cell 5 _ rfl
              have d6 : x3.cell? ⟨g + 1, 6, none⟩ = some (.int .u32 (S.g.toNat : Int)) := A.vs.cell 6 _ rfl
              have d7 : x3.cell? ⟨g + 1, 7, none⟩ = some (.int .u32 (S.h.toNat : Int)) := A.vs.cell 7 _ rfl
              have z0 := A.vs.frozen (w := x3) 0
              have z1 := A.vs.frozen (w := x3) 1
              have z2 := A.vs.frozen (w := x3) 2
              have z3 := A.vs.frozen (w := x3) 3
              have z4 := A.vs.frozen (w := x3) 4
              have z5 := A.vs.frozen (w := x3) 5
              have z6 := A.vs.frozen (w := x3) 6
              have z7 := A.vs.frozen (w := x3) 7
              go_wp2
              rw [bsig0_row, maj_row, num3, num2]
              go_roundw
              case rel =>
                have R := (((((((A.set 0 _ (tee S kk mm + (bsig0 S.a + maj S.a S.b S.c)) rfl).set 1 _ S.a rfl).set 2 _ S.b rfl).set 3 _ S.c rfl).set 4 _ (S.d + tee S kk mm) rfl).set 5 _ S.e rfl).set 6 _ S.f rfl).set 7 _ S.g rfl
                have R2 : VAt w g H.list m (rnd S kk mm).list _ := R
                rw [ES.out] at R2
                exact ⟨n + 1, by omega, by go_num, R2⟩
              case measure => simp [intOf]; omega
            · have hn64 : n = 64 := by omega
              rw [hn64] at A
              clear hn64
              obtain ⟨V, hV⟩ : ∃ V, V = rounds m H 64 := ⟨_, rfl⟩
              rw [← hV] at A
              have EV : Hid (comp H (sch s.data.toList 64) = plus H V) := by rw [hV, HM.out]; exact (rfl : comp H (sch s.data.toList 64) = plus H (rounds (sch s.data.toList 64) H 64))
              clear hV
              have hfar := A.at'.far
              go_wp2
              generalize Value.bool (decide ((n : Int) < 64)) = vb3
              go_loopw [17] (fun i wr => ∃ n : Nat, n ≤ 8 ∧ i = .int .i64 n ∧ Row wr w.heap.size 61 (summed H V n) ∧ Row wr (g + 1) 61 V.list ∧ Row wr (w.heap.size + 1) 61 (zeros 8) ∧ Below w.heap.size w wr) (fun i _ => 8 - (intOf i).toNat)
              case atStart => exact ⟨0, by omega, rfl, A.at'.head, A.vs, A.at'.res, A.at'.below⟩
              case round =>
                clear A hlt hn
                obtain ⟨n, hn, rfl, hrow, hv, hres, hb⟩ := hrel
                by_cases hlt : n < 8
                · have ch := hrow.cell n _ (summed_get H V n hlt)
                  have cv := hv.cell n _ (list_get V n hlt)
                  have fz := hrow.frozen n
                  have n0 : (0 : Int) ≤ (n : Int) := by omega
                  have n8 : (n : Int) < 8 := by omega
                  go_wp2
                  go_region
                  go_wp2
                  go_roundw
                  case rel =>
                    rw [num2]
                    refine ⟨n + 1, by omega, by go_num, ?_, (hv.but (But.setCell wr _ n _) (by omega)).drew, (hres.but (But.setCell wr _ n _) (by omega)).drew, (hb.setCell (Nat.le_refl _) _).drew⟩
                    rw [← summed_set H V n hlt]
                    exact (hrow.set n _).drew
                  case measure => simp [intOf]; omega
                · have hn8 : n = 8 := by omega
                  rw [hn8, summed_full] at hrow
                  clear hn8
                  have c0 : wr.cell? ⟨w.heap.size, 0, none⟩ = some (.int .u32 ((H.a + V.a).toNat : Int)) := hrow.cell 0 _ rfl
                  have c1 : wr.cell? ⟨w.heap.size, 1, none⟩ = some (.int .u32 ((H.b + V.b).toNat : Int)) := hrow.cell 1 _ rfl
                  have c2 : wr.cell? ⟨w.heap.size, 2, none⟩ = some (.int .u32 ((H.c + V.c).toNat : Int)) := hrow.cell 2 _ rfl
                  have c3 : wr.cell? ⟨w.heap.size, 3, none⟩ = some (.int .u32 ((H.d + V.d).toNat : Int)) := hrow.cell 3 _ rfl
                  have c4 : wr.cell? ⟨w.heap.size, 4, none⟩ = some (.int .u32 ((H.e + V.e).toNat : Int)) := hrow.cell 4 _ rfl
                  have c5 : wr.cell? ⟨w.heap.size, 5, none⟩ = some (.int .u32 ((H.f + V.f).toNat : Int)) := hrow.cell 5 _ rfl
                  have c6 : wr.cell? ⟨w.heap.size, 6, none⟩ = some (.int .u32 ((H.g + V.g).toNat : Int)) := hrow.cell 6 _ rfl
                  have c7 : wr.cell? ⟨w.heap.size, 7, none⟩ = some (.int .u32 ((H.h + V.h).toNat : Int)) := hrow.cell 7 _ rfl
                  have e0 := hres.cell 0 0 rfl
                  have z0 := hres.frozen 0
                  have e1 := hres.cell 1 0 rfl
                  have z1 := hres.frozen 1
                  have e2 := hres.cell 2 0 rfl
                  have z2 := hres.frozen 2
                  have e3 := hres.cell 3 0 rfl
                  have z3 := hres.frozen 3
                  have e4 := hres.cell 4 0 rfl
                  have z4 := hres.frozen 4
                  have e5 := hres.cell 5 0 rfl
                  have z5 := hres.frozen 5
                  have e6 := hres.cell 6 0 rfl
                  have z6 := hres.frozen 6
                  have e7 := hres.cell 7 0 rfl
                  have z7 := hres.frozen 7
                  go_wp2
                  have R := (((((((hres.set 0 (H.a + V.a)).set 1 (H.b + V.b)).set 2 (H.c + V.c)).set 3 (H.d + V.d)).set 4 (H.e + V.e)).set 5 (H.f + V.f)).set 6 (H.g + V.g)).set 7 (H.h + V.h)
                  simp only [num2]
                  have R2 : Row _ (w.heap.size + 1) 61 (plus H V).list := R
                  refine bodyPost_ret (v := .agg (cw (plus H V).list).toArray) (results_cell_row (fn := Try.f52) Try.results52 _ _ (w.heap.size + 1) 61 _ (0, 0) _ (by rfl) R2 Try.underlying61 rfl (by rw [cw_size]; exact Try.size61)) rfl ⟨by rw [EV.out], ?_⟩
                  have l1 : w.heap.size ≤ w.heap.size + 1 := by omega
                  exact (((((((hb.setCell l1 _).setCell l1 _).setCell l1 _).setCell l1 _).setCell l1 _).setCell l1 _).setCell l1 _).setCell l1 _

end Go.Proofs.Ythoimecljfcjmaa

/-
  Package sha's mix: the rounds of one block.
-/
namespace Go.Proofs.Ythoimecljfcjmaa
open Go.RowKit

set_option maxRecDepth 10000 in
set_option maxHeartbeats 2000000 in
theorem mix_any (gw gc : Nat) (H : St) (m : List (BitVec 32)) (hm : m.length = 64) (w : World) (hgw : Row w gw 61 H.list) (hgc : Row w gc 63 KK) :
    Calls Try.prog 66 #[.pointer (some ⟨gw, 0, none⟩), .pointer (some ⟨gc, 0, none⟩), .agg (cw m).toArray] w fun e w' =>
      e = .returned (.tuple #[]) ∧ Row w' gw 61 (comp H m).list ∧ But gw w w' := by
  have hM : Hid (m.length = 64) := hm
  clear hm
  have lw := hgw.lt
  have lc := hgc.lt
  go_enter Try.func66, Try.ntmps66
  go_wp2_with (first
    | (refine wpList_boxed (P := Try.prog) (by rfl) 63 (.tmp 2) (by rfl) m (by rfl) ?_; intro w1 hr1 hs1 hb1; have hgw1 := hgw.below hb1; have hgc1 := hgc.below hb1)
    | (refine wpList_get (P := Try.prog) (by rfl) 61 (.tmp 19) (by rfl) gw _ (by rfl) 61 _ _ hgw1 Try.underlying61 Try.size61 ?_)
    | (refine wpList_new (P := Try.prog) (by rfl) 61 (by rfl) (zeros 8) 8 Try.info61 ?_; intro w2 hr2 hs2 hb2)
    | (refine wpList_put (P := Try.prog) (by rfl) 61 (.tmp 6) (.tmp 20) (by rfl) w1.heap.size H.list (zeros 8) (by rfl) (by rfl) 61 hr2 Try.size61 rfl ?_; intro w3 hr3 hs3 hb3))
  rw [hs1] at hr3 hb3
  have hB : Below w.heap.size w w3 := (hb1.trans (hb2.mono (by omega))).trans (hb3.below (by omega) (by omega))
  have hM3 : Row w3 w.heap.size 63 m := (hr1.below hb2).but hb3 (by omega)
  have hS3 : w3.heap.size = w.heap.size + 2 := by omega
  clear hr1 hs1 hb1 hgw1 hgc1 hr2 hs2 hb2 hs3 hb3
  go_loopw [21] (fun i wr => ∃ k : Nat, k ≤ 64 ∧ i = .int .i64 k ∧ MixAt w gc m (turned k (rounds m H k)) wr)
    (fun i _ => 64 - (intOf i).toNat)
  case atStart => exact ⟨0, by omega, rfl, hr3, hM3, hgc.below hB, hS3, hB⟩
  case round =>
    clear hr3 hM3 hS3 hB
    obtain ⟨k, hk, rfl, A⟩ := hrel
    by_cases hlt : k < 64
    · obtain ⟨S, hS⟩ : ∃ S, S = rounds m H k := ⟨_, rfl⟩
      rw [← hS] at A
      obtain ⟨kk, hkk⟩ : ∃ x, x = KK.getD k 0 := ⟨_, rfl⟩
      obtain ⟨mm, hmm⟩ : ∃ x, x = m.getD k 0 := ⟨_, rfl⟩
      have hkk' : KK[k]? = some kk := by rw [hkk, List.getD_eq_getElem?_getD, List.getElem?_eq_getElem (by rw [KK_length]; exact hlt)]; rfl
      have hmm' : m[k]? = some mm := by rw [hmm, List.getD_eq_getElem?_getD, List.getElem?_eq_getElem (by rw [hM.out]; exact hlt)]; rfl
      have HK : Hid (KK[k]? = some kk ∧ m[k]? = some mm) := ⟨hkk', hmm'⟩
      have ES : Hid (rnd S kk mm = rounds m H (k + 1)) := by rw [hS, hkk, hmm]; exact (rfl : rnd _ _ _ = rounds m H (k + 1))
      clear hS hkk hmm hkk' hmm'
      have k0 : (0 : Int) ≤ (k : Int) := by omega
      have k64 : (k : Int) < 64 := by omega
      obtain ⟨p0, G0, v0, l0, u0⟩ := place8 k 0 hlt (by decide)
      obtain ⟨p1, G1, v1, l1, u1⟩ := place8 k 1 hlt (by decide)
      obtain ⟨p2, G2, v2, l2, u2⟩ := place8 k 2 hlt (by decide)
      obtain ⟨p3, G3, v3, l3, u3⟩ := place8 k 3 hlt (by decide)
      obtain ⟨p4, G4, v4, l4, u4⟩ := place8 k 4 hlt (by decide)
      obtain ⟨p5, G5, v5, l5, u5⟩ := place8 k 5 hlt (by decide)
      obtain ⟨p6, G6, v6, l6, u6⟩ := place8 k 6 hlt (by decide)
      obtain ⟨p7, G7, v7, l7, u7⟩ := place8 k 7 hlt (by decide)
      rw [show ((0 : Nat) : Int) = 0 from rfl, Int.zero_sub] at v0 u0
      rw [show ((1 : Nat) : Int) = 1 from rfl] at v1 u1
      rw [show ((2 : Nat) : Int) = 2 from rfl] at v2 u2
      rw [show ((3 : Nat) : Int) = 3 from rfl] at v3 u3
      rw [show ((4 : Nat) : Int) = 4 from rfl] at v4 u4
      rw [show ((5 : Nat) : Int) = 5 from rfl] at v5 u5
      rw [show ((6 : Nat) : Int) = 6 from rfl] at v6 u6
      rw [show ((7 : Nat) : Int) = 7 from rfl] at v7 u7
      have c0 : wr.cell? ⟨w.heap.size + 1, p0, none⟩ = some (.int .u32 (S.a.toNat : Int)) := A.row.cell p0 _ (turned_get k 0 p0 S G0.out.1 G0.out.2)
      have c1 : wr.cell? ⟨w.heap.size + 1, p1, none⟩ = some (.int .u32 (S.b.toNat : Int)) := A.row.cell p1 _ (turned_get k 1 p1 S G1.out.1 G1.out.2)
      have c2 : wr.cell? ⟨w.heap.size + 1, p2, none⟩ = some (.int .u32 (S.c.toNat : Int)) := A.row.cell p2 _ (turned_get k 2 p2 S G2.out.1 G2.out.2)
      have c3 : wr.cell? ⟨w.heap.size + 1, p3, none⟩ = some (.int .u32 (S.d.toNat : Int)) := A.row.cell p3 _ (turned_get k 3 p3 S G3.out.1 G3.out.2)
      go_wp2
      go_quiet (fail)
      replace A := A.drewN nq
      clear c0 c1 c2 c3
      generalize wr.drewN nq = w1 at A ⊢
      have c4 : w1.cell? ⟨w.heap.size + 1, p4, none⟩ = some (.int .u32 (S.e.toNat : Int)) := A.row.cell p4 _ (turned_get k 4 p4 S G4.out.1 G4.out.2)
      have c5 : w1.cell? ⟨w.heap.size + 1, p5, none⟩ = some (.int .u32 (S.f.toNat : Int)) := A.row.cell p5 _ (turned_get k 5 p5 S G5.out.1 G5.out.2)
      have c6 : w1.cell? ⟨w.heap.size + 1, p6, none⟩ = some (.int .u32 (S.g.toNat : Int)) := A.row.cell p6 _ (turned_get k 6 p6 S G6.out.1 G6.out.2)
      have c7 : w1.cell? ⟨w.heap.size + 1, p7, none⟩ = some (.int .u32 (S.h.toNat : Int)) := A.row.cell p7 _ (turned_get k 7 p7 S G7.out.1 G7.out.2)
      go_wp2
      go_quiet (fail)
      replace A := A.drewN nq
      clear c4 c5 c6 c7
      generalize w1.drewN nq = w2 at A ⊢
      have ckk := A.consts.cell k kk HK.out.1
      have cmm := A.words.cell k mm HK.out.2
      go_wp2
      go_quiet ((first | (go_at_call 92; exact Calls.quiet_of_same (bsig1_any _ _)) | (go_at_call 93; exact Calls.quiet_of_same (chs_any _ _ _ _))))
      replace A := A.drewN nq
      clear ckk cmm
      generalize w2.drewN nq = w4 at A ⊢
      have c3 : w4.cell? ⟨w.heap.size + 1, p3, none⟩ = some (.int .u32 (S.d.toNat : Int)) := A.row.cell p3 _ (turned_get k 3 p3 S G3.out.1 G3.out.2)
      have c7 : w4.cell? ⟨w.heap.size + 1, p7, none⟩ = some (.int .u32 (S.h.toNat : Int)) := A.row.cell p7 _ (turned_get k 7 p7 S G7.out.1 G7.out.2)
      have n37 : ¬ p3 = p7 := by have := G3.out.2; have := G7.out.2; omega
      have fz3 := A.row.frozen p3
      have fz7 := A.row.frozen p7
      go_wp2_with (first
        | (go_at_call 94; refine (bsig0_any _ _).mono ?_; rintro e w' ⟨rfl, rfl⟩)
        | (go_at_call 95; refine (maj_any _ _ _ _).mono ?_; rintro e w' ⟨rfl, rfl⟩))
      go_roundw
      case rel =>
        have A2 := (A.set lc p3 _ _ (num6 S.d S.h (bsig1 S.e) (chs S.e S.f S.g) kk mm)).set lc p7 _ _ (num7 S.h (bsig1 S.e) (chs S.e S.f S.g) kk mm (bsig0 S.a) (maj S.a S.b S.c))
        have E : ((turned k S).set p3 (S.d + tee S kk mm)).set p7 (S.h + bsig1 S.e + chs S.e S.f S.g + kk + mm + bsig0 S.a + maj S.a S.b S.c) = turned (k + 1) (rnd S kk mm) :=
          turned_step k p3 p7 S kk mm _ G3.out.1 G7.out.1 G3.out.2 G7.out.2 rfl
        have A3 : MixAt w gc m (turned (k + 1) (rnd S kk mm)) _ := E ▸ A2
        rw [ES.out] at A3
        exact ⟨k + 1, by omega, by go_num, A3⟩
      case measure => simp [intOf]; omega
    · have hk64 : k = 64 := by omega
      rw [hk64, turned_full] at A
      clear hk64
      obtain ⟨V, hV⟩ : ∃ V, V = rounds m H 64 := ⟨_, rfl⟩
      rw [← hV] at A
      have EV : Hid (comp H m = plus H V) := by rw [hV]; exact (rfl : comp H m = plus H (rounds m H 64))
      clear hV
      go_wp2
      go_loopw [104] (fun i wr => ∃ n : Nat, n ≤ 8 ∧ i = .int .i64 n ∧ Row wr gw 61 (summed H V n) ∧ Row wr (w.heap.size + 1) 61 V.list ∧ But gw w wr)
        (fun i _ => 8 - (intOf i).toNat)
      case atStart => exact ⟨0, by omega, rfl, hgw.below A.below, A.row, But.of_below A.below⟩
      case round =>
        clear A hk hlt
        obtain ⟨n, hn, rfl, hrow, hv, hb⟩ := hrel
        by_cases hlt : n < 8
        · have ch := hrow.cell n _ (summed_get H V n hlt)
          have cv := hv.cell n _ (list_get V n hlt)
          have fz := hrow.frozen n
          have n0 : (0 : Int) ≤ (n : Int) := by omega
          have n8 : (n : Int) < 8 := by omega
          go_wp2
          go_region
          go_wp2
          go_roundw
          case rel =>
            rw [num2]
            refine ⟨n + 1, by omega, by go_num, ?_, (hv.but (But.setCell wr gw n _) (by omega)).drew, (hb.trans (But.setCell wr gw n _)).drew⟩
            rw [← summed_set H V n hlt]
            exact (hrow.set n _).drew
          case measure => simp [intOf]; omega
        · have hn8 : n = 8 := by omega
          rw [hn8, summed_full] at hrow
          clear hn8
          go_wp2
          go_end0
          exact ⟨rfl, by rw [EV.out]; exact hrow, hb⟩

end Go.Proofs.Ythoimecljfcjmaa

/-
  Package sha's schedule: the words of a block's rounds.
-/
namespace Go.Proofs.Ythoimecljfcjmaa
open Go.RowKit

set_option maxRecDepth 10000 in
set_option maxHeartbeats 1000000 in
theorem sched_any (s : ByteArray) (hs : s.size = 64) (w : World) :
    Calls Try.prog 67 #[.string s] w fun e w' => e = .returned (.agg (cw (sch s.data.toList 64)).toArray) ∧ Below w.heap.size w w' := by
  go_enter Try.func67, Try.ntmps67
  go_wp2_with (first
    | (have hx1 := hr1; clear hx1; refine wpList_new (P := Try.prog) (by rfl) 63 (by rfl) (zeros 64) 64 Try.info63 ?_; intro w2 hr2 hs2 hb2)
    | (refine wpList_new (P := Try.prog) (by rfl) 63 (by rfl) (zeros 64) 64 Try.info63 ?_; intro w1 hr1 hs1 hb1))
  rw [hs1] at hr2 hs2 hb2
  have hr1' := hr1.below (by rw [hs1]; exact hb2)
  have hb := hb1.trans (hb2.mono (B' := w.heap.size) (by omega))
  clear hb1 hb2 hr1 hs1 w1
  go_loopw [6] (fun i wr => ∃ k : Nat, k ≤ 16 ∧ i = .int .i64 k ∧ Row wr (w.heap.size + 1) 63 (half s.data.toList k) ∧ Row wr w.heap.size 63 (zeros 64) ∧ wr.heap.size = w.heap.size + 2 ∧ Below w.heap.size w wr)
    (fun i _ => 16 - (intOf i).toNat)
  case atStart => exact ⟨0, by omega, rfl, hr2, hr1', hs2, hb⟩
  case round =>
    obtain ⟨k, hk, rfl, hrow, hres, hsz, hbl⟩ := hrel
    by_cases hlt : k < 16
    · have hfz := hrow.frozen k
      obtain ⟨u, hu⟩ : ∃ u, wr.cell? ⟨w.heap.size + 1, k, none⟩ = some u := ⟨_, hrow.cell k _ (List.getElem?_eq_getElem (by rw [half_length _ _ (by omega)]; omega))⟩
      have hle : 64 ≤ s.size := by omega
      have b0 : (4 * (k : Int)) < (s.size : Int) := by omega
      have b1 : (4 * (k : Int) + 1) < (s.size : Int) := by omega
      have b2 : (4 * (k : Int) + 2) < (s.size : Int) := by omega
      have b3 : (4 * (k : Int) + 3) < (s.size : Int) := by omega
      have c0 : (0 : Int) ≤ 4 * (k : Int) := by omega
      have c1 : (0 : Int) ≤ 4 * (k : Int) + 1 := by omega
      have c2 : (0 : Int) ≤ 4 * (k : Int) + 2 := by omega
      have c3 : (0 : Int) ≤ 4 * (k : Int) + 3 := by omega
      clear hr2 hr1' hs2 hb hs
      go_wp2
      go_region
      go_wp2
      go_roundw
      case rel =>
        have R := step_row (k := k) (word_row s k (by omega) (by omega) (by omega) (by omega)) hrow hres (by omega) hsz hbl (by omega)
        rw [half_set _ _ (by omega) _ (by rw [if_pos hlt])] at R
        exact ⟨k + 1, by omega, by go_num, R.1, R.2.1, R.2.2.1, R.2.2.2⟩
      case measure => simp [intOf]; omega
    · have hk16 : k = 16 := by omega
      rw [hk16] at hrow
      clear hr2 hr1' hs2 hb hk16
      go_wp2
      go_loopw [5] (fun i wr => ∃ k : Nat, 16 ≤ k ∧ k ≤ 64 ∧ i = .int .i64 k ∧ Row wr (w.heap.size + 1) 63 (half s.data.toList k) ∧ Row wr w.heap.size 63 (zeros 64) ∧ wr.heap.size = w.heap.size + 2 ∧ Below w.heap.size w wr)
        (fun i _ => 64 - (intOf i).toNat)
      case atStart => exact ⟨16, by omega, by omega, rfl, hrow, hres, hsz, hbl⟩
      case round =>
        clear hrow hres hsz hbl hk hlt
        obtain ⟨k, hk1, hk2, rfl, hrow, hres, hsz, hbl⟩ := hrel
        by_cases hlt : k < 64
        · have hfz := hrow.frozen k
          obtain ⟨u, hu⟩ : ∃ u, wr.cell? ⟨w.heap.size + 1, k, none⟩ = some u := ⟨_, hrow.cell k _ (List.getElem?_eq_getElem (by rw [half_length _ _ (by omega)]; omega))⟩
          obtain ⟨a16, f16⟩ : ∃ a, a = k - 16 := ⟨_, rfl⟩
          obtain ⟨x16, e16⟩ : ∃ x, x = (sch s.data.toList k).getD (k - 16) 0 := ⟨_, rfl⟩
          obtain ⟨a15, f15⟩ : ∃ a, a = k - 15 := ⟨_, rfl⟩
          obtain ⟨x15, e15⟩ : ∃ x, x = (sch s.data.toList k).getD (k - 15) 0 := ⟨_, rfl⟩
          obtain ⟨a7, f7⟩ : ∃ a, a = k - 7 := ⟨_, rfl⟩
          obtain ⟨x7, e7⟩ : ∃ x, x = (sch s.data.toList k).getD (k - 7) 0 := ⟨_, rfl⟩
          obtain ⟨a2, f2⟩ : ∃ a, a = k - 2 := ⟨_, rfl⟩
          obtain ⟨x2, e2⟩ : ∃ x, x = (sch s.data.toList k).getD (k - 2) 0 := ⟨_, rfl⟩
          have c16 := hrow.cell a16 x16 (by rw [half_get _ _ _ (by omega), e16, f16])
          have v16 : IntKind.i64.wrap ((k : Int) - 16) = (a16 : Int) := (IntWalk.i64_in _ (by omega)).trans (by omega)
          have j16 : (a16 : Int) < 64 := by omega
          have n16 : ¬ k = a16 := by omega
          have c15 := hrow.cell a15 x15 (by rw [half_get _ _ _ (by omega), e15, f15])
          have v15 : IntKind.i64.wrap ((k : Int) - 15) = (a15 : Int) := (IntWalk.i64_in _ (by omega)).trans (by omega)
          have j15 : (a15 : Int) < 64 := by omega
          have n15 : ¬ k = a15 := by omega
          have c7 := hrow.cell a7 x7 (by rw [half_get _ _ _ (by omega), e7, f7])
          have v7 : IntKind.i64.wrap ((k : Int) - 7) = (a7 : Int) := (IntWalk.i64_in _ (by omega)).trans (by omega)
          have j7 : (a7 : Int) < 64 := by omega
          have n7 : ¬ k = a7 := by omega
          have c2 := hrow.cell a2 x2 (by rw [half_get _ _ _ (by omega), e2, f2])
          have v2 : IntKind.i64.wrap ((k : Int) - 2) = (a2 : Int) := (IntWalk.i64_in _ (by omega)).trans (by omega)
          have j2 : (a2 : Int) < 64 := by omega
          have n2 : ¬ k = a2 := by omega
          have E : Hid (x16 + ssig0 x15 + x7 + ssig1 x2 = nextW (sch s.data.toList k)) := by
            exact (show _ = _ by rw [nextW, sch_length, e16, e15, e7, e2])
          clear e16 e15 e7 e2 f16 f15 f7 f2
          have j0 : (k : Int) < 64 := by omega
          go_wp2
          go_region_held3 (fun w' => w'.cell? ⟨w.heap.size + 1, a16, none⟩ = some (.int .u32 (x16.toNat : Int)) ∧ w'.cell? ⟨w.heap.size + 1, a15, none⟩ = some (.int .u32 (x15.toNat : Int))
              ∧ w'.cell? ⟨w.heap.size + 1, a7, none⟩ = some (.int .u32 (x7.toNat : Int)) ∧ w'.cell? ⟨w.heap.size + 1, a2, none⟩ = some (.int .u32 (x2.toNat : Int))) (first | (go_keep; done) | (refine ⟨?_, ?_, ?_, ?_⟩ <;> (rw [cell_set_ne _ _ _ _ _ (by omega)]; assumption)))
            (first | (go_at_call 96; refine (ssig0_any x15 _).mono ?_; rintro e w' ⟨rfl, rfl⟩) | (go_at_call 97; refine (ssig1_any x2 _).mono ?_; rintro e w' ⟨rfl, rfl⟩))
          go_wp2
          go_roundw
          case rel =>
            have R := step_row (k := k) ((bv_add4 x16 (ssig0 x15) x7 (ssig1 x2)).trans (by rw [E.out])) hrow hres (by omega) hsz hbl (by omega)
            rw [half_set _ _ (by omega) _ (by rw [if_neg (by omega)])] at R
            exact ⟨k + 1, by omega, by omega, by go_num, R.1, R.2.1, R.2.2.1, R.2.2.2⟩
          case measure => simp [intOf]; omega
        · have hk64 : k = 64 := by omega
          rw [hk64, half_full] at hrow
          clear hk64
          go_wp2_with (first
            | (refine wpList_get (P := Try.prog) (by rfl) 63 (.tmp 3) (by rfl) (w.heap.size + 1) _ (by rfl) 63 _ _ hrow Try.underlying63 (by rw [sch_length]; exact Try.size63) ?_)
            | (refine wpList_put (P := Try.prog) (by rfl) 63 (.tmp 2) (.tmp 68) (by rfl) w.heap.size (sch s.data.toList 64) (zeros 64) (by rfl) (by rfl) 63 hres (by rw [sch_length]; exact Try.size63) (by rw [sch_length, zeros_length]) ?_; intro w5 hr5 hs5 hb5))
          exact bodyPost_ret (v := .agg (cw (sch s.data.toList 64)).toArray) (results_cell_row (fn := Try.f67) Try.results67 _ _ w.heap.size 63 _ (0, 0) _ (by rfl) hr5 Try.underlying63 rfl (by rw [cw_size, sch_length]; exact Try.size63)) rfl
            ⟨rfl, hbl.trans (hb5.below (Nat.le_refl _) (by omega))⟩

end Go.Proofs.Ythoimecljfcjmaa

/-
  Package sha's mixBlocks.
-/
namespace Go.Proofs.Ythoimecljfcjmaa
open Go.RowKit

/-- The i-th block of 64 bytes. -/
def blk (l : List UInt8) (i : Nat) : List UInt8 := (l.drop (64 * i)).take 64
/-- So many blocks are mixed in. -/
def comps (H : St) (l : List UInt8) : Nat → St
  | 0 => H
  | n + 1 => comp (comps H l n) (sch (blk l n) 64)

theorem extract_size (s : ByteArray) (a b : Nat) (h1 : a ≤ b) (h2 : b ≤ s.size) : (s.extract a b).size = b - a := by
  rw [ByteArray.size_extract]; omega

set_option maxRecDepth 10000 in
set_option maxHeartbeats 1000000 in
theorem blocks_any (gw gc q : Nat) (H : St) (s : ByteArray) (hs : s.size = 64 * q) (hq : q ≤ 1099511627776) (w : World) (hgw : Row w gw 61 H.list) (hgc : Row w gc 63 KK) (hne : gc ≠ gw) :
    Calls Try.prog 44 #[.pointer (some ⟨gw, 0, none⟩), .pointer (some ⟨gc, 0, none⟩), .string s] w fun e w' =>
      e = .returned (.tuple #[]) ∧ Row w' gw 61 (comps H s.data.toList q).list ∧ But gw w w' := by
  have HS : Hid (s.size = 64 * q) := hs
  have h1 : (s.size : Int) ≤ 64 * (q : Int) := by omega
  have h2 : 64 * (q : Int) ≤ (s.size : Int) := by omega
  clear hs
  go_enter Try.func44, Try.ntmps44
  go_wp2
  go_loopw [6] (fun i wr => ∃ k : Nat, k ≤ q ∧ i = .int .i64 (64 * (k : Int)) ∧ Row wr gw 61 (comps H s.data.toList k).list ∧ But gw w wr) (fun i _ => 64 * q - (intOf i).toNat)
  case atStart => exact ⟨0, by omega, rfl, hgw, But.refl _ _⟩
  case round =>
    obtain ⟨k, hk, rfl, hrow, hb⟩ := hrel
    by_cases hlt : k < q
    · have b0 : (0 : Int) ≤ 64 * (k : Int) := by omega
      have b1 : 64 * (k : Int) + 64 ≤ (s.size : Int) := by omega
      have b2 : 64 * (k : Int) ≤ 64 * (k : Int) + 64 := by omega
      have b3 : 64 * (k : Int) < (s.size : Int) := by omega
      have hz : (s.extract (64 * k) (64 * k + 64)).size = 64 := by rw [extract_size _ _ _ (by omega) (by omega)]; omega
      have hgc1 := hgc.but hb hne
      have HZ : Hid ((s.extract (64 * k) (64 * k + 64)).size = 64) := hz
      clear hz
      go_wp2_with (first
        | (go_at_call 67; refine (sched_any _ HZ.out _).mono ?_; rintro e w1 ⟨rfl, hb1⟩; have row1 := hrow.below hb1; have gc1 := hgc1.below hb1)
        | (go_at_call 66; refine (mix_any gw gc _ _ (sch_length _ _) _ row1 gc1).mono ?_; rintro e w2 ⟨rfl, row2, but2⟩))
      go_roundw
      case rel =>
        exact ⟨k + 1, by omega, by go_num, row2, (hb.trans (But.of_below hb1)).trans but2⟩
      case measure => simp [intOf]; omega
    · have hkq : k = q := by omega
      rw [hkq] at hrow
      clear hkq
      go_wp2
      go_end0
      exact ⟨rfl, hrow, hb⟩

end Go.Proofs.Ythoimecljfcjmaa
