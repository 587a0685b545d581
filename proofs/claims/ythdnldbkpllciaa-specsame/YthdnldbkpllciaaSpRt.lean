/-
  The program's Read.
-/
import Derived.Test.YthdnldbkpllciaaSpRs
import Derived.Test.YthdnldbkpllciaaSpOwnD
namespace Go.Proofs.Ythdnldbkpllciaa
open Go.RowKit

/-- The bytes are a swap's. -/
def acc (l : List UInt8) : Prop := rdE l = ([], false) ∧ specOk (rdM l)
def zero7 : List Value := [.string ⟨#[]⟩, .slice none 0 0, .slice none 0 0, .slice none 0 0, .slice none 0 0, .int .i64 0, .int .i64 0]
theorem cells7_one (a1 a2 a3 a4 : Option Addr) (c1 c2 c3 c4 : Nat) (s : SpecM) : ∀ u ∈ (cells7 a1 a2 a3 a4 c1 c2 c3 c4 s).toList, u.oneCell' = true := by
  intro u hu
  simp only [cells7, List.mem_cons, List.not_mem_nil, or_false] at hu
  rcases hu with rfl | rfl | rfl | rfl | rfl | rfl | rfl <;> rfl

set_option maxRecDepth 10000 in
set_option maxHeartbeats 2000000 in
theorem read_any (x : ByteArray) (hx : x.size ≤ 1099511627776) (w : World) (b : Bool) (hb : told (acc x.data.toList) = b) :
    Calls Try.prog 27 #[.string x] w fun e w' => ∃ v, e = .returned (.tuple #[v, .int .i64 (bif b then 0 else 2)]) ∧ SpecW w' v (bif b then rdM x.data.toList else noSpec) ∧ Below w.heap.size w w' := by
  obtain ⟨l, hlx⟩ : ∃ l, x.data.toList = l := ⟨_, rfl⟩
  have HR := read0_any x hx
  rw [hlx] at hb HR ⊢
  unfold acc at hb
  obtain ⟨s, hs⟩ : ∃ s, rdM l = s := ⟨_, rfl⟩
  obtain ⟨ok, hok⟩ : ∃ ok, told (rdE l = ([], false)) = ok := ⟨_, rfl⟩
  rw [hs, hok] at HR
  have HSane := hide (rdM_sane l)
  rw [hs] at HSane
  rw [hs] at hb ⊢
  have HB : Hid (b = (ok && told (specOk s))) := by
    show _ = _
    rw [← hb, ← hok]
    by_cases h1 : rdE l = ([], false)
    · by_cases h2 : specOk s
      · rw [told_yes (And.intro h1 h2), told_yes h1, told_yes h2]; rfl
      · rw [told_no (fun h => h2 h.2), told_yes h1, told_no h2]; rfl
    · rw [told_no (fun h => h1 h.1), told_no h1]; rfl
  replace HR := hide HR
  clear hs hok hb hlx hx
  have hB1 := hide ((Below.refl w.heap.size w).alloc (Nat.le_refl _) (Obj.cells #[.string ⟨#[]⟩, .slice none 0 0, .slice none 0 0, .slice none 0 0, .slice none 0 0, .int .i64 0, .int .i64 0] 27))
  have hc1 := hide (show Cells (w.alloc (Obj.cells #[.string ⟨#[]⟩, .slice none 0 0, .slice none 0 0, .slice none 0 0, .slice none 0 0, .int .i64 0, .int .i64 0] 27)) w.heap.size 27 zero7 from heap_alloc_new _ _)
  have hz1 : (w.alloc (Obj.cells #[.string ⟨#[]⟩, .slice none 0 0, .slice none 0 0, .slice none 0 0, .slice none 0 0, .int .i64 0, .int .i64 0] 27)).heap.size = w.heap.size + 1 := by simp
  go_enter Try.func27, Try.ntmps27
  go_upto_region 1 with fail
  generalize w.alloc (Obj.cells #[.string ⟨#[]⟩, .slice none 0 0, .slice none 0 0, .slice none 0 0, .slice none 0 0, .int .i64 0, .int .i64 0] 27) = w1 at hB1 hc1 hz1 ⊢
  obtain ⟨g, hgg⟩ : ∃ g, w.heap.size = g := ⟨_, rfl⟩
  rw [hgg] at hB1 hc1 hz1 ⊢
  go_wp2_with fail
  refine (HR.out w1).mono ?_
  rintro e w2 ⟨v, rfl, hw2, hb2⟩
  have HV := hide hw2
  obtain ⟨a1, a2, a3, a4, c1, c2, c3, c4, rfl, L, C⟩ := hw2.spec HSane.out
  have hc2 := hide (hc1.out.below hb2)
  have hB2 := hide (hB1.out.trans (hb2.mono (by omega)))
  have hz2 := hb2.size
  have HL := hide L
  have HC := hide C
  clear HR hB1 hc1 hb2 L C hw2
  have hg1 : g < w1.heap.size := by omega
  unfold cells7
  go_upto_region 2 with fail
  have hB3 := (Below.refl w2.heap.size w2).alloc (Nat.le_refl _) (Obj.cells #[.string s.id, .slice a1 s.parties.length c1, .slice a2 s.arcs.length c2, .slice a3 s.leaders.length c3, .slice a4 s.locks.length c4, .int .i64 s.start, .int .i64 s.delta] 27)
  have hg3 : (w2.alloc (Obj.cells #[.string s.id, .slice a1 s.parties.length c1, .slice a2 s.arcs.length c2, .slice a3 s.leaders.length c3, .slice a4 s.locks.length c4, .int .i64 s.start, .int .i64 s.delta] 27)).heap[w2.heap.size]? = some (.cells (cells7 a1 a2 a3 a4 c1 c2 c3 c4 s) 27 (0, 0)) := heap_alloc_new _ _
  have hc3 := hide (hc2.out.below hB3)
  have hB4 := hide (hB2.out.trans (hB3.mono (by omega)))
  have HL3 := hide (HL.out.below hB3)
  have HV3 := hide (HV.out.below hB3)
  have hz3 := hB3.size
  clear hB3 hc2 hB2 HL HV
  generalize w2.alloc (Obj.cells #[.string s.id, .slice a1 s.parties.length c1, .slice a2 s.arcs.length c2, .slice a3 s.leaders.length c3, .slice a4 s.locks.length c4, .int .i64 s.start, .int .i64 s.delta] 27) = w3 at hg3 hc3 hB4 HL3 hz3 HV3 ⊢
  obtain ⟨q, hq⟩ : ∃ q, w2.heap.size = q := ⟨_, rfl⟩
  rw [hq] at hg3 hz3 hz2 ⊢
  obtain ⟨q0, q1, q2, q3, q4, q5, q6⟩ := cells7_at hg3
  have HG := hide hg3
  have hgq : q ≠ g := by omega
  have hql := (Array.getElem?_eq_some_iff.1 hg3).1
  clear hg3 hq
  cases hok : ok
  · have hbf : b = false := by rw [HB.out, hok]; rfl
    subst hbf
    go_upto_region 3 with fail
    clear q0 q1 q2 q3 q4 q5 q6
    go_wp2_with ((with_reducible refine wpList_at ?_); refine wpList_splice (by rfl) 27 (.tmp 2) (.tmp 18) (by rfl) g 0 zero7.toArray _ (by rfl) (by rfl) (by rfl) 27 _ hc3.out sizeSpec (by decide) (by intro u hu; simp [zero7] at hu; rcases hu with rfl | rfl | rfl <;> rfl) ?_; intro w5 hc5 hz5 hb5; refine Hid.out ?_)
    unfold Hid
    have hc5' := hide hc5
    have hB5 := hide (hB4.out.trans (hb5.below (Nat.le_refl _) (by omega)))
    clear hc5 hb5 hc3 hB4
    go_wp2
    refine bodyPost_ret (v := .tuple #[.agg zero7.toArray, .int .i64 2]) (results_two (fn := Try.f27) Try.results27 _ _ g 27 _ (0, 0) _ _ (by rfl) (by rfl) hc5'.out Try.underlying27 sizeSpec) rfl ?_
    exact ⟨_, rfl, no_spec _, by rw [hgg]; exact hB5.out⟩
  · have HCk := check_spec (w := w3) (s := s) ⟨a1, a2, a3, a4, c1, c2, c3, c4, rfl, HL3.out, HC.out⟩
    have hbc : b = told (specOk s) := by rw [HB.out, hok]; rfl
    rw [← hbc] at HCk
    unfold cells7 at HCk
    replace HCk := hide HCk
    clear hbc
    go_wp2_with fail
    refine HCk.out.mono ?_
    rintro e w4 ⟨rfl, hb4⟩
    replace q0 := cell_on hb4 q0
    replace q1 := cell_on hb4 q1
    replace q2 := cell_on hb4 q2
    replace q3 := cell_on hb4 q3
    replace q4 := cell_on hb4 q4
    replace q5 := cell_on hb4 q5
    replace q6 := cell_on hb4 q6
    have hc4 := hide (hc3.out.below hb4)
    have hB5 := hide (hB4.out.trans (hb4.mono (by omega)))
    have HV4 := hide (HV3.out.below hb4)
    have hz4 := hb4.size
    clear HCk hb4 hc3 hB4 HL3 HV3
    cases b
    · go_upto_region 3 with fail
      clear q0 q1 q2 q3 q4 q5 q6
      go_wp2_with ((with_reducible refine wpList_at ?_); refine wpList_splice (by rfl) 27 (.tmp 2) (.tmp 18) (by rfl) g 0 zero7.toArray _ (by rfl) (by rfl) (by rfl) 27 _ hc4.out sizeSpec (by decide) (by intro u hu; simp [zero7] at hu; rcases hu with rfl | rfl | rfl <;> rfl) ?_; intro w5 hc5 hz5 hb5; refine Hid.out ?_)
      unfold Hid
      have hc5' := hide hc5
      have hB6 := hide (hB5.out.trans (hb5.below (Nat.le_refl _) (by omega)))
      clear hc5 hb5 hc4 hB5
      go_wp2
      refine bodyPost_ret (v := .tuple #[.agg zero7.toArray, .int .i64 2]) (results_two (fn := Try.f27) Try.results27 _ _ g 27 _ (0, 0) _ _ (by rfl) (by rfl) hc5'.out Try.underlying27 sizeSpec) rfl ?_
      exact ⟨_, rfl, no_spec _, by rw [hgg]; exact hB6.out⟩
    · go_wp2_with ((with_reducible refine wpList_at ?_); refine wpList_splice (by rfl) 27 (.tmp 2) (.tmp 19) (by rfl) g 0 (cells7 a1 a2 a3 a4 c1 c2 c3 c4 s) _ (by rfl) (by rfl) (by rfl) 27 _ hc4.out sizeSpec (by show 0 + 7 ≤ 7; omega) (cells7_one _ _ _ _ _ _ _ _ _) ?_; intro w5 hc5 hz5 hb5; refine Hid.out ?_)
      unfold Hid
      have hc5' := hide hc5
      have hB6 := hide (hB5.out.trans (hb5.below (Nat.le_refl _) (by omega)))
      have HS := hide ((HV4.out.but hb5 hg1).spec HSane.out)
      clear hc5 hb5 hc4 hB5
      go_wp2
      refine bodyPost_ret (v := .tuple #[.agg (cells7 a1 a2 a3 a4 c1 c2 c3 c4 s), .int .i64 0]) (results_two (fn := Try.f27) Try.results27 _ _ g 27 _ (0, 0) _ _ (by rfl) (by rfl) hc5'.out Try.underlying27 sizeSpec) rfl ?_
      exact ⟨_, rfl, HS.out, by rw [hgg]; exact hB6.out⟩

end Go.Proofs.Ythdnldbkpllciaa
