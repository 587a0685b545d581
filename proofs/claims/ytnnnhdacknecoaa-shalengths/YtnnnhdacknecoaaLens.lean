/-
  The walk of ShaLengths.
-/
import Derived.Test.YtnnnhdacknecoaaAll
import Derived.Test.YtnnnhdacknecoaaPlace
import Derived.Laws.OwnMore
import Derived.OpenShut
namespace Go.Proofs.Ytnnnhdacknecoaa
open Go.RowKit
attribute [local go_sem ↓] Go.wp_at_zero Go.wp_at_succ

/-- What ShaLengths writes, the first i of k. -/
def fill (c : UInt8) (k i : Nat) : List UInt8 := (List.range i).map (fun j => c + UInt8.ofNat (j % 3)) ++ List.replicate (k - i) 0
theorem fill_length (c : UInt8) (k i : Nat) (h : i ≤ k) : (fill c k i).length = k := by simp [fill]; omega
theorem fill_set (c : UInt8) (k i : Nat) (h : i < k) : (fill c k i).set i (c + UInt8.ofNat (i % 3)) = fill c k (i + 1) := by
  have e : List.replicate (k - i) (0 : UInt8) = 0 :: List.replicate (k - (i + 1)) 0 := by
    rw [show k - i = (k - (i + 1)) + 1 by omega, List.replicate_succ]
  simp [fill, e, List.range_succ]
theorem fill_get (c : UInt8) (k i : Nat) (h : i < k) : (cb (fill c k i))[i]? = some (.int .u8 0) := by
  have e : List.replicate (k - i) (0 : UInt8) = 0 :: List.replicate (k - (i + 1)) 0 := by
    rw [show k - i = (k - (i + 1)) + 1 by omega, List.replicate_succ]
  simp [cb, fill, e]
theorem made_fill (c : UInt8) (k : Nat) : (madeCells (Value.int .u8 0).cells (k * 1)).toList = cb (fill c k 0) := by
  rw [Nat.mul_one]
  apply List.ext_getElem?
  intro j
  by_cases hj : j < k
  · simp [madeCells, Value.cells, fill, cb, hj, Nat.mod_one]
  · simp [madeCells, Value.cells, fill, cb, hj]

/-- A slice of k bytes over a block of its own. -/
def Full (w : World) (B g k : Nat) (l : List UInt8) : Prop := w.ownsRow B 5 1 (.slice (some ⟨g, 0, none⟩) k k) k (cb l)
theorem Full.own {w : World} {B g k : Nat} {l : List UInt8} (h : Full w B g k l) (hl : l.length = k) : Own w B (.slice (some ⟨g, 0, none⟩) k k) l := by
  unfold Own; rw [hl]; exact h
theorem cb_set (l : List UInt8) (j : Nat) (x : UInt8) (n : Int) (hn : n = (x.toNat : Int)) : (cb l).set j (.int .u8 n) = cb (l.set j x) := by
  subst hn; simp [cb, List.map_set]
theorem byte_sum (c : UInt8) (i : Nat) : (((c + UInt8.ofNat (i % 3)).toNat : Nat) : Int) = ((c.toNat : Int) + (i : Int) % 3) % 256 := by
  rw [UInt8.toNat_add, UInt8.toNat_ofNat']; omega

set_option maxRecDepth 10000 in
set_option maxHeartbeats 1000000 in
theorem lens_any (n c : Int) (_wn : (Lit.int .i64 n).wf = true) (wc : (Lit.int .u8 c).wf = true) (w : World) :
    Calls Try.prog 5 #[.int .i64 n, .int .u8 c] w fun e w' => e = .returned (.bool true) ∧ Below w.heap.size w w' := by
  obtain ⟨c0, c1⟩ := bounds_u8 wc
  obtain ⟨b, hb⟩ : ∃ b : UInt8, c = (b.toNat : Int) := ⟨UInt8.ofNat c.toNat, by rw [byte_mod]; omega⟩
  subst hb
  clear wc c0 c1
  obtain ⟨i0, hi, hz0, hz1, hz2⟩ := info_parts Try.info5
  go_enter Try.func5, Try.ntmps5
  go_wp2_with (first
    | (go_at_call 15; refine (place_any n 300 (by omega) (by omega) _).mono ?_; rintro e w1 ⟨k, hk, rfl, hw⟩; replace hw := hw.symm; subst hw)
    | (at_make; refine wpList_make_full _ (by rfl) _ _ 26 (by rfl) w.heap.size 5 i0 (.int .u8 0) 1 Try.underlying26 hi hz0 hz1 .i64 .i64 _ _ k (by rfl) (by rfl) rfl rfl (by rw [hz2]; omega) (by unfold maxLen; omega) (Nat.le_refl _) ?_; intro w2 hown2 hgrow2))
  have hz := made_fill b k
  have F0 : Full w2 w.heap.size w.heap.size k (fill b k 0) := by unfold Full; rw [← hz]; exact hown2
  have B0 : Below w.heap.size w w2 := (Below.refl _ _).grown hgrow2 (Nat.le_refl _) (fun j hj => by cases hj)
  clear hz hown2 hgrow2 hi hz0 hz1 hz2
  go_loopw [7] (fun i wr => ∃ j : Nat, j ≤ k ∧ i = .int .i64 j ∧ Full wr w.heap.size w.heap.size k (fill b k j) ∧ Below w.heap.size w wr) (fun i _ => k - (intOf i).toNat)
  case atStart => exact ⟨0, by omega, rfl, F0, B0⟩
  case round =>
    clear F0 B0
    obtain ⟨j, hj, rfl, F, hb⟩ := hrel
    by_cases hlt : j < k
    · have cj := World.ownsRow.cellAt F j (by omega)
      have fj := World.ownsRow.frozenAt F j
      have hget := fill_get b k j hlt
      rw [hget] at cj
      have j0 : (0 : Int) ≤ (j : Int) := by omega
      have j1 : (j : Int) < (k : Int) := by omega
      clear hget
      go_wp2
      go_roundw
      case rel =>
        have R := World.ownsRow.stored F j (Value.int IntKind.u8 (((b.toNat : Int) + (j : Int) % 3) % 256))
        rw [cb_set _ _ _ _ (byte_sum b j).symm, fill_set b k j hlt] at R
        exact ⟨j + 1, by omega, by go_num, R.1, hb.setCell (Nat.le_refl _) _⟩
      case measure => simp [intOf]; omega
    · have hjk : j = k := by omega
      rw [hjk] at F
      clear hjk
      obtain ⟨t, ht⟩ : ∃ t : ByteArray, t = ⟨(fill b k k).toArray⟩ := ⟨_, rfl⟩
      have hts : t.size ≤ 3000 := by rw [ht]; show (fill b k k).toArray.size ≤ 3000; rw [List.size_toArray, fill_length _ _ _ (Nat.le_refl _)]; omega
      have hown := F.own (fill_length b k k (Nat.le_refl _))
      have hrun : (convert 26 9 (.slice (some ⟨w.heap.size, 0, none⟩) k k)).run Try.prog wr = .ok (.string t) wr := by rw [ht]; exact run_said hown
      have HRUN : Hid (∀ w', Own w' w.heap.size (.slice (some ⟨w.heap.size, 0, none⟩) k k) (fill b k k) → (convert 26 9 (.slice (some ⟨w.heap.size, 0, none⟩) k k)).run Try.prog w' = .ok (.string t) w') := by
        exact (show ∀ w', _ → _ by intro w' h; rw [ht]; exact run_said h)
      obtain ⟨h, d, sh, HX, HRX, HS, HRS, HH, zd, ed⟩ := letters_all t hts
      clear HX HRX HH zd ed ht
      go_wp2
      go_region_held3 (fun w' => (convert 26 9 (.slice (some ⟨w.heap.size, 0, none⟩) k k)).run Try.prog w' = .ok (.string t) w') (first | (exact HRUN.out _ (hown.drew)) | (exact HRUN.out _ (hown.drew.below hb2)) | (exact HRUN.out _ ((hown.drew.below hb2).below hb3)) | (exact HRUN.out _ (((hown.drew.below hb2).below hb3).below hb4)) | go_keep)
        (first | (go_at_call 10; refine (HS _).mono ?_; rintro e w2 ⟨rfl, hb2⟩) | (go_at_call 11; refine (HRS _).mono ?_; rintro e w3 ⟨rfl, hb3⟩) | (go_at_call 9; refine (awake_any _).mono ?_; rintro e w4 ⟨rfl, hb4⟩))
      all_goals
        go_wp2
        go_ret
        have z1 := hb.size
        have z2 : wr.heap.size ≤ w2.heap.size := hb2.size
        have z3 := hb3.size
        exact ⟨rfl, ((hb.drew.trans (hb2.mono z1)).trans (hb3.mono (by omega))).trans (hb4.mono (by omega))⟩

end Go.Proofs.Ytnnnhdacknecoaa
