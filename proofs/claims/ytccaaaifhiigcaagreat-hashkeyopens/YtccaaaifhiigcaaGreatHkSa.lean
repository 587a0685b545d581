/-
  Package hashkey: Read, Same.
-/
import Derived.Test.YtccaaaifhiigcaaGreatZ49
import Derived.Test.YtccaaaifhiigcaaGreatZ03
namespace Go.Proofs.YtccaaaifhiigcaaGreat
open Go.RowKit

/-- The bytes are a key's. -/
def accK (l : List UInt8) : Prop := rdKE l = ([], false) ∧ hkFits (rdK l)
theorem itemsL_each {α : Type} (f : (List UInt8 × Bool) → α) (g : (List UInt8 × Bool) → (List UInt8 × Bool)) (P : α → Prop) (h : ∀ r, P (f r)) (n : Nat) (r : List UInt8 × Bool) (d : α) : ∀ j, j < (itemsL f g n r).length → P ((itemsL f g n r).getD j d) := by
  induction n generalizing r with
  | zero => intro j hj; exact absurd hj (by simp [itemsL])
  | succ n ih =>
    intro j hj
    rw [itemsL_snoc] at hj ⊢
    rw [List.getD_eq_getElem?_getD, List.getElem?_append]
    by_cases hlt : j < (itemsL f g n r).length
    · rw [if_pos hlt]
      have h9 := ih r j hlt
      rw [List.getD_eq_getElem?_getD] at h9
      exact h9
    · rw [if_neg hlt]
      have : j - (itemsL f g n r).length = 0 := by rw [List.length_append] at hj; simp at hj; omega
      rw [this]
      exact h _
theorem rdK_sane (l : List UInt8) : HkSane (rdK l) := by
  have hn : kN l ≤ 6 := by unfold kN; have := cntV_le (kR2 l).1 6 (by omega); omega
  refine ⟨numV_range l, ?_, ?_, ?_, ?_, ?_⟩
  · exact Nat.le_trans (mk_len (kR1 l) 64) (by omega)
  · show (itemsL num1 numS (kN l) (kR3 l)).length ≤ 1000
    rw [itemsL_length]; omega
  · exact itemsL_each num1 numS (fun x => In64 x) (fun r => numV_range r.1) _ _ 0
  · show (itemsL sig1 sigS (kN l) (kR4 l)).length ≤ 1000
    rw [itemsL_length]; omega
  · exact itemsL_each sig1 sigS (fun x => x.size ≤ 1000) (fun r => Nat.le_trans (mk_len r 512) (by omega)) _ _ ByteArray.empty
theorem z4_one : ∀ u ∈ Z4.toList, u.oneCell' = true := by
  intro u hu
  simp [Z4] at hu
  rcases hu with rfl | rfl | rfl <;> rfl

set_option maxRecDepth 10000 in
set_option maxHeartbeats 1000000 in
theorem hkread_any (x : ByteArray) (hx : x.size ≤ 1099511627776) (w : World) (b : Bool) (hb : told (accK x.data.toList) = b) :
    Calls Tryz.prog 8 #[.string x] w fun e w' => ∃ u, e = .returned (.tuple #[u, .int .i64 (bif b then 0 else 2)]) ∧ HkO w' w.heap.size u (bif b then rdK x.data.toList else noHk) ∧ Below w.heap.size w w' := by
  obtain ⟨l, hlx⟩ : ∃ l, x.data.toList = l := ⟨_, rfl⟩
  have HR := hkread0_any x hx
  rw [hlx] at hb HR ⊢
  unfold accK at hb
  have HSane := hide (rdK_sane l)
  obtain ⟨K, hK⟩ : ∃ K, rdK l = K := ⟨_, rfl⟩
  obtain ⟨ok, hok⟩ : ∃ ok, told (rdKE l = ([], false)) = ok := ⟨_, rfl⟩
  rw [hK, hok] at HR
  rw [hK] at HSane
  rw [hK] at hb ⊢
  have HB : Hid (b = (ok && told (hkFits K))) := by
    show _ = _
    rw [← hb, ← hok]
    by_cases h1 : rdKE l = ([], false)
    · by_cases h2 : hkFits K
      · rw [told_yes (And.intro h1 h2), told_yes h1, told_yes h2]; rfl
      · rw [told_no (fun h => h2 h.2), told_yes h1, told_no h2]; rfl
    · rw [told_no (fun h => h1 h.1), told_no h1]; rfl
  replace HR := hide HR
  clear hK hok hb hlx hx
  have hB1 := (Below.refl w.heap.size w).alloc (Nat.le_refl _) (Obj.cells #[.int .i64 0, .string ⟨#[]⟩, .slice none 0 0, .slice none 0 0] 29)
  have hc1 : HvAt (w.alloc (Obj.cells #[.int .i64 0, .string ⟨#[]⟩, .slice none 0 0, .slice none 0 0] 29)) w.heap.size Z4 := heap_alloc_new _ _
  have hz1 : (w.alloc (Obj.cells #[.int .i64 0, .string ⟨#[]⟩, .slice none 0 0, .slice none 0 0] 29)).heap.size = w.heap.size + 1 := by simp
  replace hB1 := hide hB1
  replace hc1 := hide hc1
  go_enter Tryz.func8, Tryz.ntmps8
  go_upto_region 1 with fail
  generalize w.alloc (Obj.cells #[.int .i64 0, .string ⟨#[]⟩, .slice none 0 0, .slice none 0 0] 29) = w1 at hB1 hc1 hz1 ⊢
  obtain ⟨g, hgg⟩ : ∃ g, w.heap.size = g := ⟨_, rfl⟩
  rw [hgg] at hB1 hc1 hz1 ⊢
  go_wp2_with fail
  refine (HR.out w1).mono ?_
  rintro e w2 ⟨u, rfl, hO, hb2⟩
  obtain ⟨pa, sa, pc, sc, rfl⟩ := hO.cells HSane.out
  have hc2 := hide (hc1.out.below hb2 (by omega))
  have hB2 := hide (hB1.out.trans (hb2.mono (by omega)))
  have hz2 := hb2.size
  have HO2 := hide hO
  clear HR hB1 hc1 hb2 hO
  unfold hcells
  go_upto_region 2 with fail
  have hB3 := (Below.refl w2.heap.size w2).alloc (Nat.le_refl _) (Obj.cells #[.int .i64 K.lock, .string K.secret, .slice pa K.path.length pc, .slice sa K.sigs.length sc] 29)
  have hg3 : HvAt (w2.alloc (Obj.cells #[.int .i64 K.lock, .string K.secret, .slice pa K.path.length pc, .slice sa K.sigs.length sc] 29)) w2.heap.size (hcells pa sa pc sc K) := heap_alloc_new _ _
  have hc3 := hide (hc2.out.below hB3 (by omega))
  have hB4 := hide (hB2.out.trans (hB3.mono (by omega)))
  have HO3 := hide (HO2.out.below hB3)
  have hz3 : (w2.alloc (Obj.cells #[.int .i64 K.lock, .string K.secret, .slice pa K.path.length pc, .slice sa K.sigs.length sc] 29)).heap.size = w2.heap.size + 1 := by simp
  clear hB3 hc2 hB2 HO2
  generalize w2.alloc (Obj.cells #[.int .i64 K.lock, .string K.secret, .slice pa K.path.length pc, .slice sa K.sigs.length sc] 29) = w3 at hg3 hc3 hB4 HO3 hz3 ⊢
  obtain ⟨q, hq⟩ : ∃ q, w2.heap.size = q := ⟨_, rfl⟩
  rw [hq] at hg3 hz3 hz2 ⊢
  have hgq : g ≠ q := by omega
  have hql : g < q := by omega
  clear hq
  cases hok : ok
  · go_upto_region 3 with fail
    have hbf : b = false := by rw [HB.out, hok]; rfl
    subst hbf
    go_wp2_with ((with_reducible refine wpList_at ?_); refine wpList_storeH (by rfl) (.tmp 2) (.tmp 18) (by rfl) g Z4 _ (by rfl) (by rfl) hc3.out rfl rfl z4_one ?_; intro w5 hv5 hbt5; refine Hid.out ?_)
    unfold Hid
    have hv5p := hide hv5
    have hbtp := hide hbt5
    clear hv5 hbt5
    go_wp2
    refine bodyPost_ret (v := .tuple #[.agg Z4, .int .i64 2]) (results_two (fn := Tryz.f8) Tryz.results8 _ _ g 29 _ (0, 0) _ _ (by rfl) (by rfl) hv5p.out Tryz.underlying29 sizeHk) rfl ?_
    exact ⟨_, rfl, hko_none _ _, by rw [hgg]; exact hB4.out.trans (hbtp.out.below (by omega) (by have := hc3.out.lt; omega))⟩
  · have HCk := fits_any (w := w3) (K := K) (HO3.out.wide HSane.out)
    have hbc : b = told (hkFits K) := by rw [HB.out, hok]; rfl
    rw [← hbc] at HCk
    replace HCk := hide HCk
    clear hbc HB
    go_wp2_with ((with_reducible refine wpList_at ?_); refine wpList_loadK (by rfl) (.tmp 4) (by rfl) _ _ (by rfl) hg3 rfl ?_)
    refine HCk.out.mono ?_
    rintro e w4 ⟨rfl, hb4⟩
    have hg4 := hg3.below hb4 hg3.lt
    have hc4 := hide (hc3.out.below hb4 hc3.out.lt)
    have hB5 := hide (hB4.out.trans (hb4.mono (by omega)))
    have HO4 := hide (HO3.out.below hb4)
    clear HCk hb4 hc3 hB4 HO3 hg3
    cases b
    · go_upto_region 3 with fail
      go_wp2_with ((with_reducible refine wpList_at ?_); refine wpList_storeH (by rfl) (.tmp 2) (.tmp 18) (by rfl) g Z4 _ (by rfl) (by rfl) hc4.out rfl rfl z4_one ?_; intro w5 hv5 hbt5; refine Hid.out ?_)
      unfold Hid
      have hv5p := hide hv5
      have hbtp := hide hbt5
      clear hv5 hbt5
      go_wp2
      refine bodyPost_ret (v := .tuple #[.agg Z4, .int .i64 2]) (results_two (fn := Tryz.f8) Tryz.results8 _ _ g 29 _ (0, 0) _ _ (by rfl) (by rfl) hv5p.out Tryz.underlying29 sizeHk) rfl ?_
      exact ⟨_, rfl, hko_none _ _, by rw [hgg]; exact hB5.out.trans (hbtp.out.below (by omega) (by have := hc4.out.lt; omega))⟩
    · go_upto_region 4 with fail
      go_wp2_with (first
        | ((with_reducible refine wpList_at ?_); refine wpList_loadK (by rfl) (.tmp 4) (by rfl) _ _ (by rfl) hg4 rfl ?_)
        | ((with_reducible refine wpList_at ?_); refine wpList_storeH (by rfl) (.tmp 2) (.tmp 19) (by rfl) g (hcells pa sa pc sc K) _ (by rfl) (by rfl) hc4.out rfl rfl (by intro u hu; simp [hcells] at hu; rcases hu with rfl | rfl | rfl | rfl <;> rfl) ?_; intro w5 hv5 hbt5; refine Hid.out ?_))
      unfold Hid
      have hv5p := hide hv5
      have hbtp := hide hbt5
      clear hv5 hbt5
      go_wp2
      refine bodyPost_ret (v := .tuple #[.agg (hcells pa sa pc sc K), .int .i64 0]) (results_two (fn := Tryz.f8) Tryz.results8 _ _ g 29 _ (0, 0) _ _ (by rfl) (by rfl) hv5p.out Tryz.underlying29 sizeHk) rfl ?_
      exact ⟨_, rfl, by rw [hgg]; exact (HO4.out.but hbtp.out hc4.out).base (by omega), by rw [hgg]; exact hB5.out.trans (hbtp.out.below (by omega) (by have := hc4.out.lt; omega))⟩

set_option maxRecDepth 10000 in
set_option maxHeartbeats 1000000 in
theorem hksame_any {w : World} {pa sa pb sb : Option Addr} {pc sc pd sd : Nat} {K M : HkM} (L : HkL w pa sa pc sc K) (R : HkL w pb sb pd sd M) :
    Calls Tryz.prog 19 #[.agg (hcells pa sa pc sc K), .agg (hcells pb sb pd sd M)] w fun e w' => e = .returned (.bool (told (K = M))) ∧ Below w.heap.size w w' := by
  obtain ⟨r, hr⟩ : ∃ r, told (K = M) = r := ⟨_, rfl⟩
  rw [hr]
  have hno : Hid (¬ (K = M) → r = false) := fun h => by rw [← hr, told_no h]
  have hyes : Hid (K = M → r = true) := fun h => by rw [← hr, told_yes h]
  clear hr
  obtain ⟨g, hg⟩ : ∃ g, w.heap.size = g := ⟨_, rfl⟩
  rw [hg]
  have HI := hide (fun W (hW : Below g w W) => eqints_any (c := pc) (d := pd) (L.path.below (by rw [hg]; exact hW)) (R.path.below (by rw [hg]; exact hW)))
  have HT := hide (fun W (hW : Below g w W) => eqtexts_any (c := sc) (d := sd) (L.sigs.below (by rw [hg]; exact hW)) (R.sigs.below (by rw [hg]; exact hW)))
  have m1 := L.path.2.1
  have m2 := L.sigs.2.1
  have m3 := R.path.2.1
  have m4 := R.sigs.2.1
  unfold maxLen at m1 m2 m3 m4
  clear L R
  go_enter Tryz.func19, Tryz.ntmps19
  go_upto_region 1 with (first
    | ((with_reducible refine wpList_at ?_); refine wpList_boxv (by rfl) 29 (.tmp 0) (by rfl) _ (by rfl) ?_; rw [hg]; intro w1 hu1 hz1 hb1; have hx1 : HvAt w1 g (hcells pa sa pc sc K) := hu1; clear hu1)
    | ((with_reducible refine wpList_at ?_); refine wpList_boxv (by rfl) 29 (.tmp 1) (by rfl) _ (by rfl) ?_; rw [hz1]; intro w2 hu2 hz2 hb2; have hy2 : HvAt w2 (g + 1) (hcells pb sb pd sd M) := hu2; clear hu2))
  have hx2 := hx1.below hb2 (by omega)
  have hB2 : Below g w w2 := hb1.trans (hb2.mono (by omega))
  have hs2 : g ≤ w2.heap.size := by omega
  obtain ⟨x0, x1, x2, x3⟩ := hcells_at hx2
  obtain ⟨y0, y1, y2, y3⟩ := hcells_at hy2
  clear hx1 hx2 hy2 hb1 hb2 hz1 hz2
  by_cases c0 : K.lock = M.lock
  · have t0 : (K.lock == M.lock) = true := by rw [c0]; exact beq_self_eq_true _
    have c0' := hide c0
    clear c0
    by_cases c1 : K.secret = M.secret
    · have t1 : (K.secret.toList == M.secret.toList) = true := by rw [c1]; exact beq_self_eq_true _
      have c1' := hide c1
      clear c1
      go_wp2_with ((with_reducible refine wpList_at ?_); refine wpList_same (by rfl) (.tmp 12) (.tmp 14) (by rfl) _ _ (by rfl) (by rfl) true t1 ?_)
      refine (HI.out _ hB2).mono ?_
      rintro e w3 ⟨rfl, hd3⟩
      have hb3 : Below w2.heap.size w2 w3 := by obtain ⟨nd, h⟩ := hd3; rw [h]; exact below_drewN (Below.refl _ _) nd
      clear hd3
      have hB3 : Below g w w3 := hB2.trans (hb3.mono hs2)
      replace x3 := cell_on hb3 x3
      replace y3 := cell_on hb3 y3
      have hs3 : g ≤ w3.heap.size := by have := hb3.size; omega
      clear x0 x1 x2 y0 y1 y2 hb3 HI hB2
      by_cases c2 : K.path = M.path
      · rw [told_yes c2]
        have c2' := hide c2
        clear c2
        go_wp2_with fail
        refine (HT.out _ hB3).mono ?_
        rintro e w4 ⟨rfl, hd4⟩
        have hb4 : Below w3.heap.size w3 w4 := by obtain ⟨nd, h⟩ := hd4; rw [h]; exact below_drewN (Below.refl _ _) nd
        clear hd4
        have hB4 : Below g w w4 := hB3.trans (hb4.mono hs3)
        by_cases c3 : K.sigs = M.sigs
        · rw [told_yes c3]
          have hf : Hid (r = true) := hyes.out (by cases K; cases M; simp only [HkM.mk.injEq]; exact ⟨c0'.out, c1'.out, c2'.out, c3⟩)
          clear c3
          go_wp2
          go_ret
          exact ⟨ret_bool hf.out.symm, hB4⟩
        · rw [told_no c3]
          have hf : Hid (r = false) := hno.out (fun h => c3 (by rw [h]))
          clear c3
          go_wp2
          go_ret
          exact ⟨ret_bool hf.out.symm, hB4⟩
      · rw [told_no c2]
        have hf : Hid (r = false) := hno.out (fun h => c2 (by rw [h]))
        clear c2
        go_wp2
        go_ret
        exact ⟨ret_bool hf.out.symm, hB3⟩
    · have t1 : (K.secret.toList == M.secret.toList) = false := by
        rw [same_list, beq_eq_false_iff_ne]
        exact fun e => c1 (ByteArray.ext (Array.toList_inj.1 e))
      have hf : Hid (r = false) := hno.out (fun h => c1 (by rw [h]))
      clear c1
      go_wp2_with ((with_reducible refine wpList_at ?_); refine wpList_same (by rfl) (.tmp 12) (.tmp 14) (by rfl) _ _ (by rfl) (by rfl) false t1 ?_)
      go_ret
      exact ⟨ret_bool hf.out.symm, hB2⟩
  · have t0 : (K.lock == M.lock) = false := by rw [beq_eq_false_iff_ne]; exact c0
    have hf : Hid (r = false) := hno.out (fun h => c0 (by rw [h]))
    clear c0
    go_wp2
    go_ret
    exact ⟨ret_bool hf.out.symm, hB2⟩

end Go.Proofs.YtccaaaifhiigcaaGreat
