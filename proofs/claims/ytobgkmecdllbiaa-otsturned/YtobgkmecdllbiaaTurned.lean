/-
  The walk of OtsTurned.
-/
import Derived.Test.YtobgkmecdllbiaaVerifies
import Derived.Test.YtobgkmecdllbiaaOtsAny
import Derived.Deep.RegionWith
import Derived.Deep.RegionHeld3
import Derived.Deep.DrawnRows
import Derived.Deep.CutRange
namespace Go.Proofs.Ytobgkmecdllbiaa
open Go.RowKit
attribute [local go_sem ↓] Go.wp_at_zero Go.wp_at_succ

/-- The slice at the block g holds the bytes l; they may be written. -/
def Bytes (w : World) (g : Nat) (l : List UInt8) : Prop := g < w.heap.size ∧ (∀ j u, (cb l)[j]? = some u → w.cell? ⟨g, j, none⟩ = some u) ∧ (∀ j, j < l.length → w.frozen? ⟨g, j, none⟩ = false)
theorem Bytes.below {w w' : World} {g : Nat} {l : List UInt8} (h : Bytes w g l) (k : Below w.heap.size w w') : Bytes w' g l :=
  ⟨Nat.lt_of_lt_of_le h.1 k.size, fun j u hj => by rw [k.cell h.1]; exact h.2.1 j u hj, fun j hj => by rw [k.frozen h.1]; exact h.2.2 j hj⟩
theorem Bytes.drew {w : World} {g : Nat} {l : List UInt8} (h : Bytes w g l) : Bytes w.drew g l := h
theorem Bytes.of_hold {w : World} {B : Nat} {v : Value} {l : List UInt8} (h : Hold w B v l) (hl : 0 < l.length) : ∃ g c, v = .slice (some ⟨g, 0, none⟩) l.length c ∧ B ≤ g ∧ Bytes w g l := by
  obtain ⟨g, c, hv, hB, hc, h1, h2⟩ := h
  have h0 := h1 0 _ (List.getElem?_eq_getElem (by rw [cb_length]; exact hl))
  exact ⟨g, c, hv, hB, World.block_lt_of_cell? w _ h0, h1, fun j hj => (h2 j (by omega)).2⟩
theorem Bytes.get {w : World} {g : Nat} {l : List UInt8} (h : Bytes w g l) (i : Nat) (hi : i < l.length) : w.cell? ⟨g, i, none⟩ = some (.int .u8 (l[i].toNat : Int)) :=
  h.2.1 i _ (by simp [cb, hi])
theorem Bytes.set {w : World} {g : Nat} {l : List UInt8} (h : Bytes w g l) (i : Nat) (hi : i < l.length) (x : UInt8) (n : Int) (hn : n = (x.toNat : Int)) : Bytes (w.setCell ⟨g, i, none⟩ (.int .u8 n)) g (l.set i x) := by
  subst hn
  refine ⟨by simp only [World.setCell, Array.size_modify]; exact h.1, fun j u hj => ?_, fun j hj => ?_⟩
  · by_cases e : i = j
    · subst e
      rw [World.cell?_setCell_same' w _ _ (by rw [h.get i hi]; rfl)]
      simpa [cb, hi] using hj
    · rw [World.cell?_setCell_other w _ _ _ (fun q => e (by injection q))]
      refine h.2.1 j u ?_
      simpa [cb, List.getElem?_set_ne e] using hj
  · rw [World.frozen?_setCell]
    exact h.2.2 j (by simpa using hj)
theorem Bytes.run {w : World} {g : Nat} {l : List UInt8} (h : Bytes w g l) (c : Nat) : (convert 30 9 (.slice (some ⟨g, 0, none⟩) l.length c)).run Try.prog w = .ok (.string ⟨l.toArray⟩) w :=
  run_convert_bytes_back (P := Try.prog) w 30 9 5 ⟨g, 0, none⟩ c l Try.underlying30 Try.underlying5 Try.underlying9 (fun j hj => by
    rw [show (⟨g, 0, none⟩ : Addr).add j = ⟨g, j, none⟩ by unfold Addr.add; split <;> simp_all]
    exact h.2.1 j _ (by simp [cb, hj]))

theorem turned_byte (a b : Nat) (ha : a < 256) (hb : b < 256) : bits .xor .u8 (a : Int) (b : Int) = ((UInt8.ofNat (a ^^^ b)).toNat : Int) := by
  have := Nat.xor_lt_two_pow (n := 8) ha hb
  rw [u8_xor_nat a b ha hb, UInt8.toNat_ofNat']; omega

set_option maxRecDepth 10000 in
set_option maxHeartbeats 1000000 in
theorem turned_in (s : ByteArray) (key : Int) (m : ByteArray) (at' by' : Int) (hs : s.size ≤ 200) (hm : m.size ≤ 500) (w : World) :
    Calls Try.prog 5 #[.string s, .int .i64 key, .string m, .int .i64 at', .int .i64 by'] w fun e w' => e = .returned (.bool true) ∧ Below w.heap.size w w' := by
  have hsi : ¬ (200 : Int) < (s.size : Int) := by omega
  have hmi : ¬ (500 : Int) < (m.size : Int) := by omega
  go_enter Try.func5, Try.ntmps5
  go_wp2_with (go_at_call 17; refine (place_any key 256 (by decide) (by decide) _).mono ?_; rintro e w0 ⟨k, hk, rfl, hw0⟩; subst w0)
  have MP := makes_of (fun w => public_any s k (by omega) (by omega) w)
  have MS := makes_of (fun w => sign_any s m k (by omega) (by omega) (by omega) w)
  have HL := signOf_length s.data.toList k m.data.toList
  have VT : Tells 15 #[.string ⟨(publicOf s.data.toList k).toArray⟩, .string m, .string ⟨(signOf s.data.toList k m.data.toList).toArray⟩] true := by
    have := verify_any ⟨(publicOf s.data.toList k).toArray⟩ m ⟨(signOf s.data.toList k m.data.toList).toArray⟩ (by omega) (by rw [mk_size, HL])
    rw [verify_sign] at this
    exact this
  generalize signOf s.data.toList k m.data.toList = L at MS HL VT
  generalize (ByteArray.mk (publicOf s.data.toList k).toArray) = p at MP VT
  obtain ⟨g0, hg0⟩ : ∃ g : ByteArray, g = ⟨L.toArray⟩ := ⟨_, rfl⟩
  rw [← hg0] at MS VT
  have hgl : g0.data.toList = L := by rw [hg0]
  clear hg0
  refine (MP _).mono ?_
  rintro e w1 ⟨rfl, hb1⟩
  go_wp2_with fail
  refine (MS _).mono ?_
  rintro e w2 ⟨rfl, hb2⟩
  go_wp2_with (refine wpList_bytes (by rfl) (.tmp 32) (by rfl) g0 (by rfl) ?_; intro v3 w3 hold3 hb3; rw [hgl] at hold3; obtain ⟨g, c, rfl, hgB, hby⟩ := Bytes.of_hold hold3 (by omega); rw [HL])
  clear hold3
  refine (place_any at' 512 (by decide) (by decide) _).mono ?_
  rintro e w4 ⟨i, hi, rfl, hw4⟩
  subst w4
  have hB3 : Below w.heap.size w w3 := below_then (below_then hb1 hb2) hb3
  have hgw : w.heap.size ≤ g := by have z1 := hb1.size; have z2 := hb2.size; omega
  clear hb1 hb2 hb3 hgB
  have i0 : (0 : Int) ≤ (i : Int) := by omega
  have hil : i < L.length := by omega
  have ci := hby.get i hil
  have fi := hby.2.2 i hil
  have hx8 := L[i].toNat_lt
  obtain ⟨y, hy⟩ : ∃ y, y = L[i].toNat := ⟨_, rfl⟩
  rw [← hy] at ci hx8
  clear hy
  have HBy : Hid (Bytes w3 g L) := hby
  have HL' : Hid (L.length = 512) := HL
  have HG : Hid (g0.data.toList = L) := hgl
  clear hby HL hgl hil
  go_wp2_with fail
  go_cut [] from 41 to 52 (fun wx => ∃ x : UInt8, Bytes wx g (L.set i x) ∧ Below w.heap.size w wx)
  case first =>
    go_region_with (go_at_call 17; refine (place_any by' 255 (by decide) (by decide) _).mono ?_; rintro e w5 ⟨r, hr, rfl, hw5⟩; subst w5)
    all_goals
      go_wp2_with fail
      go_meet
      case rel =>
        have hw : IntKind.u8.wrap (IntKind.i64.wrap (1 + (r : Int))) = ((1 + r : Nat) : Int) := by rw [IntWalk.i64_in _ (by omega), IntKind.wrap_u8]; omega
        rw [hw]
        exact ⟨_, HBy.out.set i (by rw [HL'.out]; omega) _ _ (turned_byte y (1 + r) hx8 (by omega)), (hB3.setCell hgw _).drew⟩
  case rest =>
    obtain ⟨x, hby, hB⟩ := hcut
    clear hB3 ci fi HBy HG hx8
    obtain ⟨t, ht⟩ : ∃ t : ByteArray, t = ⟨(L.set i x).toArray⟩ := ⟨_, rfl⟩
    have hl2 : (L.set i x).length = 512 := by rw [List.length_set]; exact HL'.out
    obtain ⟨b, hv1, hv2⟩ := two_verifies p m t (by omega)
    have HRUN : Hid (∀ w', Bytes w' g (L.set i x) → (convert 30 9 (.slice (some ⟨g, 0, none⟩) 512 c)).run Try.prog w' = .ok (.string t) w') := by
      exact (show ∀ w', _ → _ by intro w' h; rw [ht, ← hl2]; exact h.run c)
    clear ht hl2
    unfold Tells at hv1 hv2 VT
    unfold Makes at MS
    clear MP HL'
    generalize L.set i x = L2 at hby HRUN
    go_wp2_with fail
    go_region_held3 (fun w' => (convert 30 9 (.slice (some ⟨g, 0, none⟩) 512 c)).run Try.prog w' = .ok (.string t) w') (first | (exact HRUN.out _ (hby.drew)) | (exact HRUN.out _ (hby.drew.below hb2)) | (exact HRUN.out _ ((hby.drew.below hb2).below hb3)) | (exact HRUN.out _ (((hby.drew.below hb2).below hb3).below hb4)) | (exact HRUN.out _ ((((hby.drew.below hb2).below hb3).below hb4).below hb5)) | (exact HRUN.out _ (((((hby.drew.below hb2).below hb3).below hb4).below hb5).below hb6)) | go_keep)
      (first | (go_at_call 15; with_reducible refine (hv1 _).mono ?_; rintro e w2 ⟨rfl, hb2⟩) | (go_at_call 16; with_reducible refine (hv2 _).mono ?_; rintro e w3 ⟨rfl, hb3⟩) | (go_at_call 13; with_reducible refine (MS _).mono ?_; rintro e w4 ⟨rfl, hb4⟩) | (go_at_call 15; with_reducible refine (VT _).mono ?_; rintro e w5 ⟨rfl, hb5⟩) | (go_at_call 8; refine (awake_any _).mono ?_; rintro e w6 ⟨rfl, hb6⟩))
    all_goals
      go_wp2
      go_ret
      exact ⟨rfl, below_then (below_then (below_then (below_then (below_then hB.drew hb2) hb3) hb4) hb5) hb6⟩

set_option maxRecDepth 10000 in
set_option maxHeartbeats 400000 in
theorem turned_any (s : ByteArray) (key : Int) (m : ByteArray) (at' by' : Int) (hsm : s.size ≤ maxLen) (_ : (Lit.int .i64 key).wf = true) (hmm : m.size ≤ maxLen) (_ : (Lit.int .i64 at').wf = true) (_ : (Lit.int .i64 by').wf = true) (w : World) :
    Calls Try.prog 5 #[.string s, .int .i64 key, .string m, .int .i64 at', .int .i64 by'] w fun e w' => e = .returned (.bool true) ∧ Below w.heap.size w w' := by
  unfold maxLen at hsm hmm
  by_cases hbig : 200 < s.size
  · have hbig' : (200 : Int) < (s.size : Int) := by omega
    go_enter Try.func5, Try.ntmps5
    go_wp2_with (go_at_call 8; refine (awake_any _).mono ?_; rintro e w1 ⟨rfl, hb1⟩)
    go_ret
    exact ⟨rfl, hb1⟩
  have hsi : ¬ (200 : Int) < (s.size : Int) := by omega
  by_cases hbig2 : 500 < m.size
  · have hbig' : (500 : Int) < (m.size : Int) := by omega
    go_enter Try.func5, Try.ntmps5
    go_wp2_with (go_at_call 8; refine (awake_any _).mono ?_; rintro e w1 ⟨rfl, hb1⟩)
    go_ret
    exact ⟨rfl, hb1⟩
  exact turned_in s key m at' by' (by omega) (by omega) w

end Go.Proofs.Ytobgkmecdllbiaa
