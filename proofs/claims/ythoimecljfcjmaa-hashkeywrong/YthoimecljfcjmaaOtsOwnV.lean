/-
  Package ots: Verify.
-/
import Derived.Test.YthoimecljfcjmaaOtsOwn
import Derived.Test.YthoimecljfcjmaaZ23
import Derived.Laws.EntriesVeiled
namespace Go.Proofs.Ythoimecljfcjmaa
open Go.RowKit
attribute [local go_sem ↓] Go.wp_at_zero Go.wp_at_succ

/-- What a part of a signature comes to, for each bit. -/
def came (d sig : List UInt8) (i b : Nat) : List UInt8 := if b = bitOf d i then short (fore sig i) else hind sig i
theorem came_length (d sig : List UInt8) (h : sig.length = 512) (i b : Nat) (hi : i < 16) : (came d sig i b).length = 16 := by
  unfold came
  split
  · exact short_length _
  · unfold hind; rw [List.length_take, List.length_drop]; omega
theorem joined_came (d sig : List UInt8) (n : Nat) : joined (came d sig) n = back d sig n := by
  induction n with
  | zero => rfl
  | succ n ih =>
    have hb := bitOf_lt d n
    rw [joined, back, ih]
    unfold came
    by_cases h0 : bitOf d n = 0
    · rw [h0, if_pos rfl, if_neg (by omega), if_pos rfl, List.append_assoc]
    · have h1 : bitOf d n = 1 := by omega
      rw [h1, if_neg (by omega), if_pos rfl, if_neg (by omega), List.append_assoc]

theorem pair_fore (s : ByteArray) (i : Nat) : ((s.extract (i * 32) ((i + 1) * 32)).extract 0 16).data.toList = fore s.data.toList i := by
  rw [extract_list, extract_list]; unfold fore
  rw [List.drop_zero, List.take_take, show min (16 - 0) ((i + 1) * 32 - i * 32) = 16 by omega, Nat.mul_comm]
theorem pair_hind (s : ByteArray) (i : Nat) (hi : i < 16) : ((s.extract (i * 32) ((i + 1) * 32)).extract 16 (min ((i + 1) * 32) 512 - i * 32)).data.toList = hind s.data.toList i := by
  rw [extract_list, extract_list]; unfold hind
  rw [List.drop_take, List.drop_drop, List.take_take, show min (min ((i + 1) * 32) 512 - i * 32 - 16) ((i + 1) * 32 - i * 32 - 16) = 16 by omega, Nat.mul_comm]

set_option maxRecDepth 10000 in
set_option maxHeartbeats 1000000 in
theorem verfn_any (s d : ByteArray) (i b B C E : Nat) (hs : s.size = 512) (hd : d.size = 32) (hi : i < 16) (w : World)
    (h1 : w.cell? ⟨B, 0, none⟩ = some (.string s)) (h2 : w.cell? ⟨C, 0, none⟩ = some (.func (.func 100) #[] #[.pointer (some ⟨E, 0, none⟩)])) (h3 : w.cell? ⟨E, 0, none⟩ = some (.string d)) :
    Calls Try.prog 73 #[.int .i64 i, .int .i64 b, .pointer (some ⟨B, 0, none⟩), .pointer (some ⟨C, 0, none⟩)] w fun e w' => ∃ x : ByteArray, x.data.toList = came d.data.toList s.data.toList i b ∧ e = .returned (.string x) ∧ Below w.heap.size w w' := by
  have i0 : (0 : Int) ≤ (i : Int) * 32 := by omega
  have i1 : (i : Int) * 32 ≤ ((i : Int) + 1) * 32 := by omega
  have i2 : ((i : Int) + 1) * 32 ≤ (s.size : Int) := by omega
  have i3 : ((i : Int) + 1) * 32 ≤ 512 := by omega
  obtain ⟨c, hcd⟩ : ∃ c, c = bitOf d.data.toList i := ⟨_, rfl⟩
  have hc2 : c < 2 := hcd ▸ bitOf_lt _ _
  have HBt := bitfn_any d i E hd hi w h3
  rw [← hcd] at HBt
  have HC : Hid (c = bitOf d.data.toList i) := hcd
  clear hcd
  by_cases hbc : b = c
  · subst hbc
    go_enter Try.func73, Try.ntmps73
    go_wp2_with (go_at_call 100; refine HBt.mono ?_; rintro e w1 ⟨rfl, hw1⟩; subst w1)
    refine (myshort_any _ (by rw [← len_list, pair_fore]; unfold fore; rw [List.length_take]; omega) _).mono ?_
    rintro e w2 ⟨x, hx, rfl, hb2⟩
    rw [pair_fore] at hx
    have HX : Hid (x.data.toList = short (fore s.data.toList i)) := hx
    clear hx
    go_wp2
    go_ret
    exact ⟨x, by unfold came; rw [if_pos HC.out, HX.out], rfl, hb2⟩
  · have hbi : ¬ ((b : Int) = (c : Int)) := by omega
    go_enter Try.func73, Try.ntmps73
    go_wp2_with (go_at_call 100; refine HBt.mono ?_; rintro e w1 ⟨rfl, hw1⟩; subst w1)
    go_ret
    exact ⟨_, by unfold came; rw [← HC.out, if_neg hbc]; exact pair_hind s i hi, rfl, Below.refl _ _⟩

set_option maxHeartbeats 400000 in
theorem verify_none (p m s : ByteArray) (hs : s.size ≠ 512) (w : World) :
    Calls Try.prog 49 #[.string p, .string m, .string s] w fun e w' => e = .returned (.bool false) ∧ Below w.heap.size w w' := by
  have h1 : ¬ ((s.size : Int) = 512) := by omega
  go_enter Try.func49, Try.ntmps49
  go_wp2
  go_ret
  exact ⟨rfl, (Below.refl _ _).alloc (Nat.le_refl _) _⟩

set_option maxRecDepth 10000 in
set_option maxHeartbeats 1000000 in
theorem verify_any (p m s : ByteArray) (hm : m.size ≤ 1000000) (hs : s.size = 512) (w : World) :
    Calls Try.prog 49 #[.string p, .string m, .string s] w fun e w' => e = .returned (.bool (verifyOf p.data.toList m.data.toList s.data.toList)) ∧ Below w.heap.size w w' := by
  have hsi : (s.size : Int) = 512 := by omega
  go_enter Try.func49, Try.ntmps49
  go_wp2_with (go_at_call 71; refine (bitsOf_any m hm _).mono ?_; rintro e w0 ⟨E, d, hd, rfl, hc0, hE0, hb0⟩; have hd1 : d.size = 32 := size_of d _ _ hd (digest_length _); have HD : Hid (d.data.toList = digest m.data.toList) := hd; clear hd)
  obtain ⟨W, hW⟩ : ∃ W, W = w0.alloc (Obj.cells #[Value.func (Fn.func 100) #[] #[Value.pointer (some ⟨E, 0, none⟩)]] 84) := ⟨_, rfl⟩
  have z0 : w.heap.size < w0.heap.size := by have := hb0.size; simp at this; omega
  have z : W.heap.size = w0.heap.size + 1 := by rw [hW]; simp
  have c1 : W.cell? ⟨w.heap.size, 0, none⟩ = some (.string s) := by
    rw [hW, World.cell?_alloc_lt _ _ _ z0, hb0.cell (by simp), World.cell?_alloc_new]; rfl
  have c2 : W.cell? ⟨w0.heap.size, 0, none⟩ = some (.func (.func 100) #[] #[.pointer (some ⟨E, 0, none⟩)]) := by
    rw [hW, World.cell?_alloc_new]; rfl
  have c3 : W.cell? ⟨E, 0, none⟩ = some (.string d) := by
    rw [hW, World.cell?_alloc_lt _ _ _ hE0]; exact hc0
  have hB : Below w.heap.size w W := by
    rw [hW]
    exact (((Below.refl w.heap.size w).alloc (Nat.le_refl _) _).trans (hb0.mono (by simp))).alloc (by omega) _
  rw [← hW]
  clear hW hc0 hb0
  refine (publicfn_any 73 _ _ (came d.data.toList s.data.toList) (fun i b hi _ => came_length _ _ (by rw [len_list, hs]) i b hi) W (enters_of Try.func73 (by kernel_rfl) rfl)
    (fun i b W' hi _ hbw => verfn_any s d i b _ _ E hs hd1 hi W' (by rw [hbw.cell (show w.heap.size < W.heap.size by omega)]; exact c1) (by rw [hbw.cell (show w0.heap.size < W.heap.size by omega)]; exact c2) (by rw [hbw.cell (show E < W.heap.size by omega)]; exact c3))).mono ?_
  rintro e w1 ⟨x, hx, rfl, hb1⟩
  rw [joined_came, HD.out] at hx
  have HV : Hid (verifyOf p.data.toList m.data.toList s.data.toList = (p.toList == x.toList)) := by
    show verifyOf p.data.toList m.data.toList s.data.toList = (p.toList == x.toList)
    rw [same_list, hx, Bool.beq_comm]
    unfold verifyOf
    rw [len_list, hs]; rfl
  clear hx c1 c2 c3
  go_wp2
  go_ret
  exact ⟨by rw [HV.out]; rfl, below_then hB hb1⟩

end Go.Proofs.Ythoimecljfcjmaa
