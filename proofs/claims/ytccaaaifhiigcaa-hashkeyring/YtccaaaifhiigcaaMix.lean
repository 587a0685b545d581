/-
  Package sha's mix: the rounds of one block.
-/
import Derived.Test.YtccaaaifhiigcaaZ09
import Derived.BigQuiet
import Derived.Deep.QuietTactic
import Derived.Deep.RegionHeld3
import Derived.BigRegion
namespace Go.Proofs.Ytccaaaifhiigcaa
open Go.RowKit

set_option maxRecDepth 10000 in
set_option maxHeartbeats 2000000 in
theorem mix_any (gw gc : Nat) (H : St) (m : List (BitVec 32)) (hm : m.length = 64) (w : World) (hgw : Row w gw 80 H.list) (hgc : Row w gc 82 KK) :
    Calls Try.prog 98 #[.pointer (some ⟨gw, 0, none⟩), .pointer (some ⟨gc, 0, none⟩), .agg (cw m).toArray] w fun e w' =>
      e = .returned (.tuple #[]) ∧ Row w' gw 80 (comp H m).list ∧ But gw w w' := by
  have hM : Hid (m.length = 64) := hm
  clear hm
  have lw := hgw.lt
  have lc := hgc.lt
  go_enter Try.func98, Try.ntmps98
  go_wp2_with (first
    | (refine wpList_boxed (P := Try.prog) (by rfl) 82 (.tmp 2) (by rfl) m (by rfl) ?_; intro w1 hr1 hs1 hb1; have hgw1 := hgw.below hb1; have hgc1 := hgc.below hb1)
    | (refine wpList_get (P := Try.prog) (by rfl) 80 (.tmp 19) (by rfl) gw _ (by rfl) 80 _ _ hgw1 Try.underlying80 Try.size80 ?_)
    | (refine wpList_new (P := Try.prog) (by rfl) 80 (by rfl) (zeros 8) 8 Try.info80 ?_; intro w2 hr2 hs2 hb2)
    | (refine wpList_put (P := Try.prog) (by rfl) 80 (.tmp 6) (.tmp 20) (by rfl) w1.heap.size H.list (zeros 8) (by rfl) (by rfl) 80 hr2 Try.size80 rfl ?_; intro w3 hr3 hs3 hb3))
  rw [hs1] at hr3 hb3
  have hB : Below w.heap.size w w3 := (hb1.trans (hb2.mono (by omega))).trans (hb3.below (by omega) (by omega))
  have hM3 : Row w3 w.heap.size 82 m := (hr1.below hb2).but hb3 (by omega)
  have hS3 : w3.heap.size = w.heap.size + 2 := by omega
  clear hr1 hs1 hb1 hgw1 hgc1 hr2 hs2 hb2 hs3 hb3
  go_loopw [21] (fun i wr => ∃ k : Nat, k ≤ 64 ∧ i = .int .i64 k ∧ MixAt w gc m (turned k (rounds m H k)) wr)
    (fun i _ => 64 - (intOf i).toNat)
  case atStart => exact ⟨0, by omega, rfl, hr3, hM3, hgc.below hB, hS3, hB⟩
  case round =>
    clear hr3 hM3 hS3 hB
    obtain ⟨k, hk, rfl, A⟩ := hrel
    by_cases hlt : k < 64
    · obtain ⟨S, hS⟩ : ∃ S, S = rounds m H k := ⟨_, rfl⟩
      rw [← hS] at A
      obtain ⟨kk, hkk⟩ : ∃ x, x = KK.getD k 0 := ⟨_, rfl⟩
      obtain ⟨mm, hmm⟩ : ∃ x, x = m.getD k 0 := ⟨_, rfl⟩
      have hkk' : KK[k]? = some kk := by rw [hkk, List.getD_eq_getElem?_getD, List.getElem?_eq_getElem (by rw [KK_length]; exact hlt)]; rfl
      have hmm' : m[k]? = some mm := by rw [hmm, List.getD_eq_getElem?_getD, List.getElem?_eq_getElem (by rw [hM.out]; exact hlt)]; rfl
      have HK : Hid (KK[k]? = some kk ∧ m[k]? = some mm) := ⟨hkk', hmm'⟩
      have ES : Hid (rnd S kk mm = rounds m H (k + 1)) := by rw [hS, hkk, hmm]; exact (rfl : rnd _ _ _ = rounds m H (k + 1))
      clear hS hkk hmm hkk' hmm'
      have k0 : (0 : Int) ≤ (k : Int) := by omega
      have k64 : (k : Int) < 64 := by omega
      obtain ⟨p0, G0, v0, l0, u0⟩ := place8 k 0 hlt (by decide)
      obtain ⟨p1, G1, v1, l1, u1⟩ := place8 k 1 hlt (by decide)
      obtain ⟨p2, G2, v2, l2, u2⟩ := place8 k 2 hlt (by decide)
      obtain ⟨p3, G3, v3, l3, u3⟩ := place8 k 3 hlt (by decide)
      obtain ⟨p4, G4, v4, l4, u4⟩ := place8 k 4 hlt (by decide)
      obtain ⟨p5, G5, v5, l5, u5⟩ := place8 k 5 hlt (by decide)
      obtain ⟨p6, G6, v6, l6, u6⟩ := place8 k 6 hlt (by decide)
      obtain ⟨p7, G7, v7, l7, u7⟩ := place8 k 7 hlt (by decide)
      rw [show ((0 : Nat) : Int) = 0 from rfl, Int.zero_sub] at v0 u0
      rw [show ((1 : Nat) : Int) = 1 from rfl] at v1 u1
      rw [show ((2 : Nat) : Int) = 2 from rfl] at v2 u2
      rw [show ((3 : Nat) : Int) = 3 from rfl] at v3 u3
      rw [show ((4 : Nat) : Int) = 4 from rfl] at v4 u4
      rw [show ((5 : Nat) : Int) = 5 from rfl] at v5 u5
      rw [show ((6 : Nat) : Int) = 6 from rfl] at v6 u6
      rw [show ((7 : Nat) : Int) = 7 from rfl] at v7 u7
      have c0 : wr.cell? ⟨w.heap.size + 1, p0, none⟩ = some (.int .u32 (S.a.toNat : Int)) := A.row.cell p0 _ (turned_get k 0 p0 S G0.out.1 G0.out.2)
      have c1 : wr.cell? ⟨w.heap.size + 1, p1, none⟩ = some (.int .u32 (S.b.toNat : Int)) := A.row.cell p1 _ (turned_get k 1 p1 S G1.out.1 G1.out.2)
      have c2 : wr.cell? ⟨w.heap.size + 1, p2, none⟩ = some (.int .u32 (S.c.toNat : Int)) := A.row.cell p2 _ (turned_get k 2 p2 S G2.out.1 G2.out.2)
      have c3 : wr.cell? ⟨w.heap.size + 1, p3, none⟩ = some (.int .u32 (S.d.toNat : Int)) := A.row.cell p3 _ (turned_get k 3 p3 S G3.out.1 G3.out.2)
      go_wp2
      go_quiet (fail)
      replace A := A.drewN nq
      clear c0 c1 c2 c3
      generalize wr.drewN nq = w1 at A ⊢
      have c4 : w1.cell? ⟨w.heap.size + 1, p4, none⟩ = some (.int .u32 (S.e.toNat : Int)) := A.row.cell p4 _ (turned_get k 4 p4 S G4.out.1 G4.out.2)
      have c5 : w1.cell? ⟨w.heap.size + 1, p5, none⟩ = some (.int .u32 (S.f.toNat : Int)) := A.row.cell p5 _ (turned_get k 5 p5 S G5.out.1 G5.out.2)
      have c6 : w1.cell? ⟨w.heap.size + 1, p6, none⟩ = some (.int .u32 (S.g.toNat : Int)) := A.row.cell p6 _ (turned_get k 6 p6 S G6.out.1 G6.out.2)
      have c7 : w1.cell? ⟨w.heap.size + 1, p7, none⟩ = some (.int .u32 (S.h.toNat : Int)) := A.row.cell p7 _ (turned_get k 7 p7 S G7.out.1 G7.out.2)
      go_wp2
      go_quiet (fail)
      replace A := A.drewN nq
      clear c4 c5 c6 c7
      generalize w1.drewN nq = w2 at A ⊢
      have ckk := A.consts.cell k kk HK.out.1
      have cmm := A.words.cell k mm HK.out.2
      go_wp2
      go_quiet ((first | (go_at_call 109; exact Calls.quiet_of_same (bsig1_any _ _)) | (go_at_call 110; exact Calls.quiet_of_same (chs_any _ _ _ _))))
      replace A := A.drewN nq
      clear ckk cmm
      generalize w2.drewN nq = w4 at A ⊢
      have c3 : w4.cell? ⟨w.heap.size + 1, p3, none⟩ = some (.int .u32 (S.d.toNat : Int)) := A.row.cell p3 _ (turned_get k 3 p3 S G3.out.1 G3.out.2)
      have c7 : w4.cell? ⟨w.heap.size + 1, p7, none⟩ = some (.int .u32 (S.h.toNat : Int)) := A.row.cell p7 _ (turned_get k 7 p7 S G7.out.1 G7.out.2)
      have n37 : ¬ p3 = p7 := by have := G3.out.2; have := G7.out.2; omega
      have fz3 := A.row.frozen p3
      have fz7 := A.row.frozen p7
      go_wp2_with (first
        | (go_at_call 111; refine (bsig0_any _ _).mono ?_; rintro e w' ⟨rfl, rfl⟩)
        | (go_at_call 112; refine (maj_any _ _ _ _).mono ?_; rintro e w' ⟨rfl, rfl⟩))
      go_roundw
      case rel =>
        have A2 := (A.set lc p3 _ _ (num6 S.d S.h (bsig1 S.e) (chs S.e S.f S.g) kk mm)).set lc p7 _ _ (num7 S.h (bsig1 S.e) (chs S.e S.f S.g) kk mm (bsig0 S.a) (maj S.a S.b S.c))
        have E : ((turned k S).set p3 (S.d + tee S kk mm)).set p7 (S.h + bsig1 S.e + chs S.e S.f S.g + kk + mm + bsig0 S.a + maj S.a S.b S.c) = turned (k + 1) (rnd S kk mm) :=
          turned_step k p3 p7 S kk mm _ G3.out.1 G7.out.1 G3.out.2 G7.out.2 rfl
        have A3 : MixAt w gc m (turned (k + 1) (rnd S kk mm)) _ := E ▸ A2
        rw [ES.out] at A3
        exact ⟨k + 1, by omega, by go_num, A3⟩
      case measure => simp [intOf]; omega
    · have hk64 : k = 64 := by omega
      rw [hk64, turned_full] at A
      clear hk64
      obtain ⟨V, hV⟩ : ∃ V, V = rounds m H 64 := ⟨_, rfl⟩
      rw [← hV] at A
      have EV : Hid (comp H m = plus H V) := by rw [hV]; exact (rfl : comp H m = plus H (rounds m H 64))
      clear hV
      go_wp2
      go_loopw [104] (fun i wr => ∃ n : Nat, n ≤ 8 ∧ i = .int .i64 n ∧ Row wr gw 80 (summed H V n) ∧ Row wr (w.heap.size + 1) 80 V.list ∧ But gw w wr)
        (fun i _ => 8 - (intOf i).toNat)
      case atStart => exact ⟨0, by omega, rfl, hgw.below A.below, A.row, But.of_below A.below⟩
      case round =>
        clear A hk hlt
        obtain ⟨n, hn, rfl, hrow, hv, hb⟩ := hrel
        by_cases hlt : n < 8
        · have ch := hrow.cell n _ (summed_get H V n hlt)
          have cv := hv.cell n _ (list_get V n hlt)
          have fz := hrow.frozen n
          have n0 : (0 : Int) ≤ (n : Int) := by omega
          have n8 : (n : Int) < 8 := by omega
          go_wp2
          go_region
          go_wp2
          go_roundw
          case rel =>
            rw [num2]
            refine ⟨n + 1, by omega, by go_num, ?_, (hv.but (But.setCell wr gw n _) (by omega)).drew, (hb.trans (But.setCell wr gw n _)).drew⟩
            rw [← summed_set H V n hlt]
            exact (hrow.set n _).drew
          case measure => simp [intOf]; omega
        · have hn8 : n = 8 := by omega
          rw [hn8, summed_full] at hrow
          clear hn8
          go_wp2
          go_end0
          exact ⟨rfl, by rw [EV.out]; exact hrow, hb⟩

end Go.Proofs.Ytccaaaifhiigcaa
