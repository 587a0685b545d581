/-
  Package when: Table. Chapter 6's own answer.
-/
import Derived.Test.YtpngohaheobkgaaZ40
namespace Go.Proofs.Ytpngohaheobkgaa
open Go.RowKit

theorem splice_next' {α : Type} (done rest : List α) (new : List α) (off m : Nat) (ho : off = done.length) (hm : m = new.length) : (done ++ rest).take off ++ new ++ (done ++ rest).drop (off + m) = done ++ new ++ rest.drop m := by
  subst ho
  rw [List.take_left', List.drop_append, List.drop_of_length_le (by omega)]
  · simp
  · rfl
theorem cells_ints6 {w : World} {g : Nat} {l : List Int} (h : Cells w g 3 (l.map (Value.int .i64))) (hn : l.length ≤ 1000) (hl : ∀ j, j < l.length → In64 (l.getD j 0)) : Ints w (some ⟨g, 0, none⟩) l.length l := by
  refine ⟨rfl, Nat.le_trans hn (by unfold maxLen; omega), hl, fun j hj => ⟨g, 0, rfl, ?_⟩⟩
  rw [Nat.zero_add, h.at j, List.getElem?_map, List.getElem?_eq_getElem hj, List.getD_eq_getElem?_getD, List.getElem?_eq_getElem hj]; rfl

set_option maxRecDepth 10000 in
set_option maxHeartbeats 2000000 in
theorem deadlines_any {w : World} {a1 a2 a3 a4 : Option Addr} {c1 c2 c3 c4 : Nat} {s : SpecM} (T : Timely s) :
    Calls Try.prog 34 #[.agg (cells7 a1 a2 a3 a4 c1 c2 c3 c4 s), .int .i64 (s.parties.length : Int)] w fun e w' => ∃ g, e = .returned (.slice (some ⟨g, 0, none⟩) s.parties.length s.parties.length) ∧ Cells w' g 3 ((tableL s).map (Value.int .i64)) ∧ Below w.heap.size w w' := by
  have HI := fun W k => deadline_any (w := W) (a1 := a1) (a2 := a2) (a3 := a3) (a4 := a4) (c1 := c1) (c2 := c2) (c3 := c3) (c4 := c4) T k
  have h7 := cells7_seven a1 a2 a3 a4 c1 c2 c3 c4 s
  have n6 := T.n6
  obtain ⟨n, hn⟩ : ∃ n, s.parties.length = n := ⟨_, rfl⟩
  have htl : Hid (∀ j, j < n → (tableL s).take (j + 1) = (tableL s).take j ++ [deadM s ((j : Int) + 1)]) := fun j hj => by
    have h1 : j < (tableL s).length := by rw [tableL_len, hn]; exact hj
    rw [List.take_add_one, List.getElem?_eq_getElem h1]
    have h2 := tableL_get s j (by rw [hn]; exact hj)
    rw [List.getD_eq_getElem?_getD, List.getElem?_eq_getElem h1] at h2
    simp at h2
    simp [h2]
  have hll : Hid ((tableL s).length = n) := by show _ = _; rw [tableL_len, hn]
  rw [hn] at n6 ⊢
  generalize cells7 a1 a2 a3 a4 c1 c2 c3 c4 s = cs at HI h7 ⊢
  generalize tableL s = L at htl hll ⊢
  obtain ⟨g, hg⟩ : ∃ g, w.heap.size = g := ⟨_, rfl⟩
  clear T hn
  replace HI := hide HI
  go_enter Try.func34, Try.ntmps34
  go_wp2_with (first
    | ((with_reducible refine wpList_at ?_); refine wpList_boxv (by rfl) 53 (.tmp 0) (by rfl) _ (by rfl) ?_; rw [hg]; intro w1 hg1 hz1 hb1; have ht1 : TvAt w1 g cs := hg1; clear hg1)
    | ((with_reducible refine wpList_at ?_); refine wpList_made (st := 24) Try.underlying24 Try.info3 (by decide) (by rfl) (.tmp 7) (.tmp 7) (by rfl) n (by rfl) (by rfl) (by omega) ?_; rw [hz1]; intro w2 M hM hM2 hz2 hb2; refine Hid.out ?_))
  unfold Hid
  have ht2 : TvAt w2 g cs := ht1.below (by rw [hz1]; exact hb2)
  have hB2 : Below g w w2 := hb1.trans (hb2.mono (by omega))
  have HM := hide hM2
  have HN := hide hM
  clear hM2 hM ht1 hb1 hb2 hz1 hz2
  go_wp2
  go_loopw [11] (fun i wr => ∃ (j : Nat) (rest : List Value), j ≤ n ∧ i = .int .i64 j ∧ Hid (rest.length = (n - j) * 1) ∧ Hid (Cells wr (g + 1) 3 (List.map (Value.int .i64) (L.take j) ++ rest)) ∧ Hid (TvAt wr g cs) ∧ Hid (Below g w wr)) (fun i _ => n - (intOf i).toNat)
  case atStart => exact ⟨0, M, by omega, rfl, by show _ = _; rw [HN.out]; simp, HM, ht2, hB2⟩
  case round =>
    clear HM HN ht2 hB2
    obtain ⟨j, rest, hj, rfl, HR, HC, hat, hB⟩ := hrel
    by_cases hlt : j < n
    · have j1 : (j : Int) < (n : Int) := by omega
      obtain ⟨x, hx⟩ : ∃ x, deadM s ((j : Int) + 1) = x := ⟨_, rfl⟩
      have HG := HI.out wr ((j : Int) + 1)
      have HX := hide hx
      rw [hx] at HG
      replace HG := hide HG
      clear hx
      go_wp2_with ((with_reducible refine wpList_at ?_); refine wpList_loadT (by rfl) (.tmp 2) (by rfl) _ _ (by rfl) hat.out h7 ?_)
      refine HG.out.mono ?_
      rintro e w3 ⟨rfl, hb3⟩
      have HC3 := hide (HC.out.below hb3)
      have hat3 := hide (hat.out.below hb3)
      have hB3 : Hid (Below g w w3) := hB.out.trans (hb3.mono (by have := hat.out.lt; omega))
      have HOFF : Hid ((List.map (Value.int .i64) (L.take j)).length = j) := by show _ = _; rw [List.length_map, List.length_take, hll.out]; omega
      clear HG HC hat hB hb3
      go_wp2_with ((with_reducible refine wpList_at ?_); refine wpList_splice (by rfl) 3 (.tmp 20) (.tmp 19) (by rfl) (g + 1) j #[Value.int .i64 x] (Value.int .i64 x) (by rfl) (by rfl) (by rfl) 3 _ HC3.out (by kernel_rfl) (by rw [List.length_append, HR.out, HOFF.out]; simp; omega) (by intro u hu; simp at hu; subst hu; rfl) ?_; intro w4 hc4 hz4 hb6; refine Hid.out ?_)
      unfold Hid
      have HC4 : Hid (Cells w4 (g + 1) 3 (List.map (Value.int .i64) (L.take (j + 1)) ++ rest.drop 1)) := by
        have h5 := hc4
        rw [splice_next' _ _ _ _ _ HOFF.out.symm (by rfl)] at h5
        show Cells _ _ _ _
        rw [htl.out j hlt, List.map_append, HX.out]
        exact h5
      have hat4 := hide (hat3.out.but hb6 (by omega))
      have hB4 : Hid (Below g w w4) := hB3.out.trans (hb6.below (by omega) (by have := hat3.out.lt; omega))
      clear hc4 hz4 hb6 HC3 hat3 hB3
      go_wp2_with fail
      go_roundw
      case rel => exact ⟨j + 1, rest.drop 1, by omega, by go_num, by show _ = _; rw [List.length_drop, HR.out]; omega, HC4, hat4, hB4⟩
      case measure => simp [intOf]; omega
    · have j1 : ¬ (j : Int) < (n : Int) := by omega
      have hjn : j = n := by omega
      have HC5 : Hid (Cells wr (g + 1) 3 (L.map (Value.int .i64))) := by
        show Cells _ _ _ _
        have h5 := HC.out
        have h6 : rest = [] := List.eq_nil_of_length_eq_zero (by rw [HR.out]; omega)
        rw [h6, List.append_nil, List.take_of_length_le (by rw [hll.out]; omega)] at h5
        exact h5
      go_wp2
      go_ret
      exact ⟨g + 1, rfl, HC5.out, hB.out⟩

end Go.Proofs.Ytpngohaheobkgaa
