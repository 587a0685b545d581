/-
  Package sha's schedule: the words of a block's rounds.
-/
import Derived.Test.YtccaaaifhiigcaaZ09
import Derived.BigQuiet
import Derived.Deep.QuietTactic
import Derived.Deep.RegionHeld3
import Derived.BigRegion
import Derived.Test.YtccaaaifhiigcaaMix
namespace Go.Proofs.Ytccaaaifhiigcaa
open Go.RowKit

set_option maxRecDepth 10000 in
set_option maxHeartbeats 1000000 in
theorem sched_any (s : ByteArray) (hs : s.size = 64) (w : World) :
    Calls Try.prog 99 #[.string s] w fun e w' => e = .returned (.agg (cw (sch s.data.toList 64)).toArray) ∧ Below w.heap.size w w' := by
  go_enter Try.func99, Try.ntmps99
  go_wp2_with (first
    | (have hx1 := hr1; clear hx1; refine wpList_new (P := Try.prog) (by rfl) 82 (by rfl) (zeros 64) 64 Try.info82 ?_; intro w2 hr2 hs2 hb2)
    | (refine wpList_new (P := Try.prog) (by rfl) 82 (by rfl) (zeros 64) 64 Try.info82 ?_; intro w1 hr1 hs1 hb1))
  rw [hs1] at hr2 hs2 hb2
  have hr1' := hr1.below (by rw [hs1]; exact hb2)
  have hb := hb1.trans (hb2.mono (B' := w.heap.size) (by omega))
  clear hb1 hb2 hr1 hs1 w1
  go_loopw [6] (fun i wr => ∃ k : Nat, k ≤ 16 ∧ i = .int .i64 k ∧ Row wr (w.heap.size + 1) 82 (half s.data.toList k) ∧ Row wr w.heap.size 82 (zeros 64) ∧ wr.heap.size = w.heap.size + 2 ∧ Below w.heap.size w wr)
    (fun i _ => 16 - (intOf i).toNat)
  case atStart => exact ⟨0, by omega, rfl, hr2, hr1', hs2, hb⟩
  case round =>
    obtain ⟨k, hk, rfl, hrow, hres, hsz, hbl⟩ := hrel
    by_cases hlt : k < 16
    · have hfz := hrow.frozen k
      obtain ⟨u, hu⟩ : ∃ u, wr.cell? ⟨w.heap.size + 1, k, none⟩ = some u := ⟨_, hrow.cell k _ (List.getElem?_eq_getElem (by rw [half_length _ _ (by omega)]; omega))⟩
      have hle : 64 ≤ s.size := by omega
      have b0 : (4 * (k : Int)) < (s.size : Int) := by omega
      have b1 : (4 * (k : Int) + 1) < (s.size : Int) := by omega
      have b2 : (4 * (k : Int) + 2) < (s.size : Int) := by omega
      have b3 : (4 * (k : Int) + 3) < (s.size : Int) := by omega
      have c0 : (0 : Int) ≤ 4 * (k : Int) := by omega
      have c1 : (0 : Int) ≤ 4 * (k : Int) + 1 := by omega
      have c2 : (0 : Int) ≤ 4 * (k : Int) + 2 := by omega
      have c3 : (0 : Int) ≤ 4 * (k : Int) + 3 := by omega
      clear hr2 hr1' hs2 hb hs
      go_wp2
      go_region
      go_wp2
      go_roundw
      case rel =>
        have R := step_row (k := k) (word_row s k (by omega) (by omega) (by omega) (by omega)) hrow hres (by omega) hsz hbl (by omega)
        rw [half_set _ _ (by omega) _ (by rw [if_pos hlt])] at R
        exact ⟨k + 1, by omega, by go_num, R.1, R.2.1, R.2.2.1, R.2.2.2⟩
      case measure => simp [intOf]; omega
    · have hk16 : k = 16 := by omega
      rw [hk16] at hrow
      clear hr2 hr1' hs2 hb hk16
      go_wp2
      go_loopw [5] (fun i wr => ∃ k : Nat, 16 ≤ k ∧ k ≤ 64 ∧ i = .int .i64 k ∧ Row wr (w.heap.size + 1) 82 (half s.data.toList k) ∧ Row wr w.heap.size 82 (zeros 64) ∧ wr.heap.size = w.heap.size + 2 ∧ Below w.heap.size w wr)
        (fun i _ => 64 - (intOf i).toNat)
      case atStart => exact ⟨16, by omega, by omega, rfl, hrow, hres, hsz, hbl⟩
      case round =>
        clear hrow hres hsz hbl hk hlt
        obtain ⟨k, hk1, hk2, rfl, hrow, hres, hsz, hbl⟩ := hrel
        by_cases hlt : k < 64
        · have hfz := hrow.frozen k
          obtain ⟨u, hu⟩ : ∃ u, wr.cell? ⟨w.heap.size + 1, k, none⟩ = some u := ⟨_, hrow.cell k _ (List.getElem?_eq_getElem (by rw [half_length _ _ (by omega)]; omega))⟩
          obtain ⟨a16, f16⟩ : ∃ a, a = k - 16 := ⟨_, rfl⟩
          obtain ⟨x16, e16⟩ : ∃ x, x = (sch s.data.toList k).getD (k - 16) 0 := ⟨_, rfl⟩
          obtain ⟨a15, f15⟩ : ∃ a, a = k - 15 := ⟨_, rfl⟩
          obtain ⟨x15, e15⟩ : ∃ x, x = (sch s.data.toList k).getD (k - 15) 0 := ⟨_, rfl⟩
          obtain ⟨a7, f7⟩ : ∃ a, a = k - 7 := ⟨_, rfl⟩
          obtain ⟨x7, e7⟩ : ∃ x, x = (sch s.data.toList k).getD (k - 7) 0 := ⟨_, rfl⟩
          obtain ⟨a2, f2⟩ : ∃ a, a = k - 2 := ⟨_, rfl⟩
          obtain ⟨x2, e2⟩ : ∃ x, x = (sch s.data.toList k).getD (k - 2) 0 := ⟨_, rfl⟩
          have c16 := hrow.cell a16 x16 (by rw [half_get _ _ _ (by omega), e16, f16])
          have v16 : IntKind.i64.wrap ((k : Int) - 16) = (a16 : Int) := (IntWalk.i64_in _ (by omega)).trans (by omega)
          have j16 : (a16 : Int) < 64 := by omega
          have n16 : ¬ k = a16 := by omega
          have c15 := hrow.cell a15 x15 (by rw [half_get _ _ _ (by omega), e15, f15])
          have v15 : IntKind.i64.wrap ((k : Int) - 15) = (a15 : Int) := (IntWalk.i64_in _ (by omega)).trans (by omega)
          have j15 : (a15 : Int) < 64 := by omega
          have n15 : ¬ k = a15 := by omega
          have c7 := hrow.cell a7 x7 (by rw [half_get _ _ _ (by omega), e7, f7])
          have v7 : IntKind.i64.wrap ((k : Int) - 7) = (a7 : Int) := (IntWalk.i64_in _ (by omega)).trans (by omega)
          have j7 : (a7 : Int) < 64 := by omega
          have n7 : ¬ k = a7 := by omega
          have c2 := hrow.cell a2 x2 (by rw [half_get _ _ _ (by omega), e2, f2])
          have v2 : IntKind.i64.wrap ((k : Int) - 2) = (a2 : Int) := (IntWalk.i64_in _ (by omega)).trans (by omega)
          have j2 : (a2 : Int) < 64 := by omega
          have n2 : ¬ k = a2 := by omega
          have E : Hid (x16 + ssig0 x15 + x7 + ssig1 x2 = nextW (sch s.data.toList k)) := by
            exact (show _ = _ by rw [nextW, sch_length, e16, e15, e7, e2])
          clear e16 e15 e7 e2 f16 f15 f7 f2
          have j0 : (k : Int) < 64 := by omega
          go_wp2
          go_region_held3 (fun w' => w'.cell? ⟨w.heap.size + 1, a16, none⟩ = some (.int .u32 (x16.toNat : Int)) ∧ w'.cell? ⟨w.heap.size + 1, a15, none⟩ = some (.int .u32 (x15.toNat : Int))
              ∧ w'.cell? ⟨w.heap.size + 1, a7, none⟩ = some (.int .u32 (x7.toNat : Int)) ∧ w'.cell? ⟨w.heap.size + 1, a2, none⟩ = some (.int .u32 (x2.toNat : Int))) (first | (go_keep; done) | (refine ⟨?_, ?_, ?_, ?_⟩ <;> (rw [cell_set_ne _ _ _ _ _ (by omega)]; assumption)))
            (first | (go_at_call 113; refine (ssig0_any x15 _).mono ?_; rintro e w' ⟨rfl, rfl⟩) | (go_at_call 114; refine (ssig1_any x2 _).mono ?_; rintro e w' ⟨rfl, rfl⟩))
          go_wp2
          go_roundw
          case rel =>
            have R := step_row (k := k) ((bv_add4 x16 (ssig0 x15) x7 (ssig1 x2)).trans (by rw [E.out])) hrow hres (by omega) hsz hbl (by omega)
            rw [half_set _ _ (by omega) _ (by rw [if_neg (by omega)])] at R
            exact ⟨k + 1, by omega, by omega, by go_num, R.1, R.2.1, R.2.2.1, R.2.2.2⟩
          case measure => simp [intOf]; omega
        · have hk64 : k = 64 := by omega
          rw [hk64, half_full] at hrow
          clear hk64
          go_wp2_with (first
            | (refine wpList_get (P := Try.prog) (by rfl) 82 (.tmp 3) (by rfl) (w.heap.size + 1) _ (by rfl) 82 _ _ hrow Try.underlying82 (by rw [sch_length]; exact Try.size82) ?_)
            | (refine wpList_put (P := Try.prog) (by rfl) 82 (.tmp 2) (.tmp 68) (by rfl) w.heap.size (sch s.data.toList 64) (zeros 64) (by rfl) (by rfl) 82 hres (by rw [sch_length]; exact Try.size82) (by rw [sch_length, zeros_length]) ?_; intro w5 hr5 hs5 hb5))
          exact bodyPost_ret (v := .agg (cw (sch s.data.toList 64)).toArray) (results_cell_row (fn := Try.f99) Try.results99 _ _ w.heap.size 82 _ (0, 0) _ (by rfl) hr5 Try.underlying82 rfl (by rw [cw_size, sch_length]; exact Try.size82)) rfl
            ⟨rfl, hbl.trans (hb5.below (Nat.le_refl _) (by omega))⟩

end Go.Proofs.Ytccaaaifhiigcaa

/-
  Package sha's mixBlocks.
-/
namespace Go.Proofs.Ytccaaaifhiigcaa
open Go.RowKit

/-- The i-th block of 64 bytes. -/
def blk (l : List UInt8) (i : Nat) : List UInt8 := (l.drop (64 * i)).take 64
/-- So many blocks are mixed in. -/
def comps (H : St) (l : List UInt8) : Nat → St
  | 0 => H
  | n + 1 => comp (comps H l n) (sch (blk l n) 64)

theorem extract_size (s : ByteArray) (a b : Nat) (h1 : a ≤ b) (h2 : b ≤ s.size) : (s.extract a b).size = b - a := by
  rw [ByteArray.size_extract]; omega

set_option maxRecDepth 10000 in
set_option maxHeartbeats 1000000 in
theorem blocks_any (gw gc q : Nat) (H : St) (s : ByteArray) (hs : s.size = 64 * q) (hq : q ≤ 1099511627776) (w : World) (hgw : Row w gw 80 H.list) (hgc : Row w gc 82 KK) (hne : gc ≠ gw) :
    Calls Try.prog 60 #[.pointer (some ⟨gw, 0, none⟩), .pointer (some ⟨gc, 0, none⟩), .string s] w fun e w' =>
      e = .returned (.tuple #[]) ∧ Row w' gw 80 (comps H s.data.toList q).list ∧ But gw w w' := by
  have HS : Hid (s.size = 64 * q) := hs
  have h1 : (s.size : Int) ≤ 64 * (q : Int) := by omega
  have h2 : 64 * (q : Int) ≤ (s.size : Int) := by omega
  clear hs
  go_enter Try.func60, Try.ntmps60
  go_wp2
  go_loopw [6] (fun i wr => ∃ k : Nat, k ≤ q ∧ i = .int .i64 (64 * (k : Int)) ∧ Row wr gw 80 (comps H s.data.toList k).list ∧ But gw w wr) (fun i _ => 64 * q - (intOf i).toNat)
  case atStart => exact ⟨0, by omega, rfl, hgw, But.refl _ _⟩
  case round =>
    obtain ⟨k, hk, rfl, hrow, hb⟩ := hrel
    by_cases hlt : k < q
    · have b0 : (0 : Int) ≤ 64 * (k : Int) := by omega
      have b1 : 64 * (k : Int) + 64 ≤ (s.size : Int) := by omega
      have b2 : 64 * (k : Int) ≤ 64 * (k : Int) + 64 := by omega
      have b3 : 64 * (k : Int) < (s.size : Int) := by omega
      have hz : (s.extract (64 * k) (64 * k + 64)).size = 64 := by rw [extract_size _ _ _ (by omega) (by omega)]; omega
      have hgc1 := hgc.but hb hne
      have HZ : Hid ((s.extract (64 * k) (64 * k + 64)).size = 64) := hz
      clear hz
      go_wp2_with (first
        | (go_at_call 99; refine (sched_any _ HZ.out _).mono ?_; rintro e w1 ⟨rfl, hb1⟩; have row1 := hrow.below hb1; have gc1 := hgc1.below hb1)
        | (go_at_call 98; refine (mix_any gw gc _ _ (sch_length _ _) _ row1 gc1).mono ?_; rintro e w2 ⟨rfl, row2, but2⟩))
      go_roundw
      case rel =>
        exact ⟨k + 1, by omega, by go_num, row2, (hb.trans (But.of_below hb1)).trans but2⟩
      case measure => simp [intOf]; omega
    · have hkq : k = q := by omega
      rw [hkq] at hrow
      clear hkq
      go_wp2
      go_end0
      exact ⟨rfl, hrow, hb⟩

end Go.Proofs.Ytccaaaifhiigcaa
