/-
  Package sha's mixBlocks.
-/
import Derived.Test.YtobgkmecdllbiaaMix
import Derived.Test.YtobgkmecdllbiaaSch
namespace Go.Proofs.Ytobgkmecdllbiaa
open Go.RowKit

/-- The i-th block of 64 bytes. -/
def blk (l : List UInt8) (i : Nat) : List UInt8 := (l.drop (64 * i)).take 64
/-- So many blocks are mixed in. -/
def comps (H : St) (l : List UInt8) : Nat → St
  | 0 => H
  | n + 1 => comp (comps H l n) (sch (blk l n) 64)

theorem extract_list (s : ByteArray) (a b : Nat) : (s.extract a b).data.toList = (s.data.toList.drop a).take (b - a) := by
  rw [ByteArray.data_extract, Array.toList_extract]
theorem extract_size (s : ByteArray) (a b : Nat) (h1 : a ≤ b) (h2 : b ≤ s.size) : (s.extract a b).size = b - a := by
  rw [ByteArray.size_extract]; omega

set_option maxRecDepth 10000 in
set_option maxHeartbeats 1000000 in
theorem blocks_any (gw gc q : Nat) (H : St) (s : ByteArray) (hs : s.size = 64 * q) (hq : q ≤ 1099511627776) (w : World) (hgw : Row w gw 42 H.list) (hgc : Row w gc 44 KK) (hne : gc ≠ gw) :
    Calls Try.prog 30 #[.pointer (some ⟨gw, 0, none⟩), .pointer (some ⟨gc, 0, none⟩), .string s] w fun e w' =>
      e = .returned (.tuple #[]) ∧ Row w' gw 42 (comps H s.data.toList q).list ∧ But gw w w' := by
  have HS : Hid (s.size = 64 * q) := hs
  have h1 : (s.size : Int) ≤ 64 * (q : Int) := by omega
  have h2 : 64 * (q : Int) ≤ (s.size : Int) := by omega
  clear hs
  go_enter Try.func30, Try.ntmps30
  go_wp2
  go_loopw [6] (fun i wr => ∃ k : Nat, k ≤ q ∧ i = .int .i64 (64 * (k : Int)) ∧ Row wr gw 42 (comps H s.data.toList k).list ∧ But gw w wr) (fun i _ => 64 * q - (intOf i).toNat)
  case atStart => exact ⟨0, by omega, rfl, hgw, But.refl _ _⟩
  case round =>
    obtain ⟨k, hk, rfl, hrow, hb⟩ := hrel
    by_cases hlt : k < q
    · have b0 : (0 : Int) ≤ 64 * (k : Int) := by omega
      have b1 : 64 * (k : Int) + 64 ≤ (s.size : Int) := by omega
      have b2 : 64 * (k : Int) ≤ 64 * (k : Int) + 64 := by omega
      have b3 : 64 * (k : Int) < (s.size : Int) := by omega
      have hz : (s.extract (64 * k) (64 * k + 64)).size = 64 := by rw [extract_size _ _ _ (by omega) (by omega)]; omega
      have hgc1 := hgc.but hb hne
      have HZ : Hid ((s.extract (64 * k) (64 * k + 64)).size = 64) := hz
      clear hz
      go_wp2_with (first
        | (go_at_call 36; refine (sched_any _ HZ.out _).mono ?_; rintro e w1 ⟨rfl, hb1⟩; have row1 := hrow.below hb1; have gc1 := hgc1.below hb1)
        | (go_at_call 35; refine (mix_any gw gc _ _ (sch_length _ _) _ row1 gc1).mono ?_; rintro e w2 ⟨rfl, row2, but2⟩))
      go_roundw
      case rel =>
        exact ⟨k + 1, by omega, by go_num, row2, (hb.trans (But.of_below hb1)).trans but2⟩
      case measure => simp [intOf]; omega
    · have hkq : k = q := by omega
      rw [hkq] at hrow
      clear hkq
      go_wp2
      go_end0
      exact ⟨rfl, hrow, hb⟩

end Go.Proofs.Ytobgkmecdllbiaa
