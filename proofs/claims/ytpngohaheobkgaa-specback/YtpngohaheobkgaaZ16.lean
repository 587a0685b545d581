/-
  Chapter 5's own answer, on plain data: where arcs lead, and whether nothing goes round without some parties.
-/
import Derived.Test.YtpngohaheobkgaaZ15
import Derived.Test.YtpngohaheobkgaaZ03
import Derived.Test.YtpngohaheobkgaaSpRows
import Derived.Test.YtpngohaheobkgaaZ14
namespace Go.Proofs.Ytpngohaheobkgaa
open Go.RowKit

/-- The arcs of one party: 'none': b is reached; else the parties that are known now. -/
def innerR (out : List Int) (b u : Int) : List ArcM → List Int → Option (List Int)
  | [], l => some l
  | x :: xs, l => if x.src ≠ u ∨ x.dst ∈ out then innerR out b u xs l else if x.dst = b then none else if x.dst ∈ l.tail then innerR out b u xs l else innerR out b u xs (l ++ [x.dst])
def outerR (A : List ArcM) (out : List Int) (b : Int) : Nat → Nat → List Int → Bool
  | 0, _, _ => false
  | n + 1, i, l => if i < l.length then (match innerR out b (l.getD i 0) A l with | none => true | some l' => outerR A out b n (i + 1) l') else false
def reachR (A : List ArcM) (a b : Int) (out : List Int) : Bool := if a ∈ out ∨ b ∈ out then false else outerR A out b 9 0 [a]
def fbR (n : Nat) (A : List ArcM) (L : List Int) : Bool := (List.range n).all fun a => !reachR A (a : Int) (a : Int) L
/-- A party, then parties that are unlike, all below six. -/
def Known (l : List Int) : Prop := 1 ≤ l.length ∧ (∀ x ∈ l, 0 ≤ x ∧ x < 6) ∧ l.tail.Nodup
theorem few_below (n : Nat) (l : List Int) (h : ∀ x ∈ l, 0 ≤ x ∧ x < (n : Int)) (hn : l.Nodup) : l.length ≤ n := by
  induction n generalizing l with
  | zero =>
    cases l with
    | nil => exact Nat.zero_le _
    | cons x l => have := h x List.mem_cons_self; omega
  | succ n ih =>
    by_cases hm : (n : Int) ∈ l
    · have h1 := ih (l.erase (n : Int)) (fun x hx => by
        have hx' := (List.Nodup.mem_erase_iff hn).1 hx
        have := h x hx'.2
        have hne := hx'.1
        omega) (hn.erase _)
      rw [List.length_erase_of_mem hm] at h1
      omega
    · exact Nat.le_succ_of_le (ih l (fun x hx => by
        have := h x hx
        have hne : x ≠ (n : Int) := fun e => hm (e ▸ hx)
        omega) hn)
theorem Known.len {l : List Int} (h : Known l) : l.length ≤ 7 := by
  have := few_below 6 l.tail (fun x hx => h.2.1 x (List.mem_of_mem_tail hx)) h.2.2
  rw [List.length_tail] at this; omega
theorem Known.one (a : Int) (h0 : 0 ≤ a) (h6 : a < 6) : Known [a] := ⟨by simp, fun x hx => by simp at hx; subst hx; exact ⟨h0, h6⟩, by simp⟩
theorem Known.more {l : List Int} (h : Known l) (x : Int) (h0 : 0 ≤ x) (h6 : x < 6) (hx : x ∉ l.tail) : Known (l ++ [x]) := by
  obtain ⟨h1, h2, h3⟩ := h
  refine ⟨by simp, fun y hy => ?_, ?_⟩
  · rcases List.mem_append.1 hy with hy | hy
    · exact h2 y hy
    · simp at hy; subst hy; exact ⟨h0, h6⟩
  · rw [List.tail_append_of_ne_nil (by intro e; rw [e] at h1; simp at h1), List.nodup_append]
    refine ⟨h3, by simp, fun a ha b hb => ?_⟩
    simp at hb; subst hb
    exact fun e => hx (e ▸ ha)
theorem tail_more {l : List Int} (h : Known l) (x y : Int) : y ∈ (l ++ [x]).tail ↔ y = x ∨ y ∈ l.tail := by
  rw [List.tail_append_of_ne_nil (by intro e; have := h.1; rw [e] at this; simp at this), List.mem_append]
  simp [or_comm]

/-- An array of six bools in a block of its own. -/
def BRow (w : World) (g : Nat) (f : Int → Prop) : Prop := ∃ b0 b1 b2 b3 b4 b5 : Bool, w.heap[g]? = some (.cells #[.bool b0, .bool b1, .bool b2, .bool b3, .bool b4, .bool b5] 122 (0, 0)) ∧ b0 = told (f 0) ∧ b1 = told (f 1) ∧ b2 = told (f 2) ∧ b3 = told (f 3) ∧ b4 = told (f 4) ∧ b5 = told (f 5)
theorem BRow.but {w w' : World} {g k : Nat} {f : Int → Prop} (h : BRow w g f) (hb : But k w w') (hg : g ≠ k) : BRow w' g f := by
  obtain ⟨b0, b1, b2, b3, b4, b5, h, r⟩ := h
  exact ⟨b0, b1, b2, b3, b4, b5, by rw [hb.block g (Array.getElem?_eq_some_iff.1 h).1 hg]; exact h, r⟩
theorem BRow.below {w w' : World} {g : Nat} {f : Int → Prop} (h : BRow w g f) (hb : Below w.heap.size w w') : BRow w' g f := by
  obtain ⟨b0, b1, b2, b3, b4, b5, h, r⟩ := h
  exact ⟨b0, b1, b2, b3, b4, b5, by rw [hb.block g (Array.getElem?_eq_some_iff.1 h).1]; exact h, r⟩
theorem BRow.grown {w w' : World} {g : Nat} {row : Option Nat} {f : Int → Prop} (h : BRow w g f) (hb : w.grownBy w' row) (hg : some g ≠ row) : BRow w' g f := by
  obtain ⟨b0, b1, b2, b3, b4, b5, h, r⟩ := h
  exact ⟨b0, b1, b2, b3, b4, b5, by rw [hb.block g (Array.getElem?_eq_some_iff.1 h).1 hg]; exact h, r⟩
theorem BRow.lt {w : World} {g : Nat} {f : Int → Prop} (h : BRow w g f) : g < w.heap.size := by
  obtain ⟨b0, b1, b2, b3, b4, b5, h, r⟩ := h
  exact (Array.getElem?_eq_some_iff.1 h).1
theorem BRow.congr {w : World} {g : Nat} {f h : Int → Prop} (k : BRow w g f) (e : ∀ x, 0 ≤ x → x < 6 → (f x ↔ h x)) : BRow w g h := by
  obtain ⟨b0, b1, b2, b3, b4, b5, r, r0, r1, r2, r3, r4, r5⟩ := k
  have q : ∀ x, 0 ≤ x → x < 6 → told (f x) = told (h x) := fun x h0 h6 => by
    by_cases hf : f x
    · rw [told_yes hf, told_yes ((e x h0 h6).1 hf)]
    · rw [told_no hf, told_no (fun hh => hf ((e x h0 h6).2 hh))]
  exact ⟨b0, b1, b2, b3, b4, b5, r, r0.trans (q 0 (by omega) (by omega)), r1.trans (q 1 (by omega) (by omega)), r2.trans (q 2 (by omega) (by omega)), r3.trans (q 3 (by omega) (by omega)), r4.trans (q 4 (by omega) (by omega)), r5.trans (q 5 (by omega) (by omega))⟩
theorem BRow.get {w : World} {g : Nat} {f : Int → Prop} (h : BRow w g f) (v : Nat) (hv : v < 6) : w.cell? ⟨g, v, none⟩ = some (.bool (told (f (v : Int)))) ∧ w.frozen? ⟨g, v, none⟩ = false := by
  obtain ⟨b0, b1, b2, b3, b4, b5, r, r0, r1, r2, r3, r4, r5⟩ := h
  refine ⟨?_, frozen_of_row w g v _ _ r⟩
  rw [cell_of_row w g v _ _ (0, 0) r]
  have : v = 0 ∨ v = 1 ∨ v = 2 ∨ v = 3 ∨ v = 4 ∨ v = 5 := by omega
  rcases this with rfl | rfl | rfl | rfl | rfl | rfl
  · rw [r0]; rfl
  · rw [r1]; rfl
  · rw [r2]; rfl
  · rw [r3]; rfl
  · rw [r4]; rfl
  · rw [r5]; rfl
theorem told_or {p q : Prop} : told (p ∨ q) = (told p || told q) := by
  by_cases hp : p <;> by_cases hq : q <;> simp [told_yes, told_no, hp, hq]
theorem BRow.set {w : World} {g : Nat} {f : Int → Prop} (h : BRow w g f) (v : Nat) (hv : v < 6) : BRow (w.setCell ⟨g, v, none⟩ (.bool true)) g (fun x => f x ∨ x = (v : Int)) := by
  obtain ⟨b0, b1, b2, b3, b4, b5, r, r0, r1, r2, r3, r4, r5⟩ := h
  have hw := setCell_eq_setRow w g v _ _ (0, 0) (.bool true) r
  have hh := setRow_heap w g _ (#[.bool b0, .bool b1, .bool b2, .bool b3, .bool b4, .bool b5].setIfInBounds v (.bool true)) _ (0, 0) r
  have : v = 0 ∨ v = 1 ∨ v = 2 ∨ v = 3 ∨ v = 4 ∨ v = 5 := by omega
  have no : ∀ (p : Prop) (q : Prop), ¬ q → told p = told (p ∨ q) := fun p q hq => by by_cases hp : p <;> simp [told_yes, told_no, hp, hq]
  have ye : ∀ (p : Prop) (q : Prop), q → true = told (p ∨ q) := fun p q hq => (told_yes (.inr hq)).symm
  rcases this with rfl | rfl | rfl | rfl | rfl | rfl
  · exact ⟨true, b1, b2, b3, b4, b5, by rw [hw]; exact hh, ye _ _ rfl, r1.trans (no _ _ (by omega)), r2.trans (no _ _ (by omega)), r3.trans (no _ _ (by omega)), r4.trans (no _ _ (by omega)), r5.trans (no _ _ (by omega))⟩
  · exact ⟨b0, true, b2, b3, b4, b5, by rw [hw]; exact hh, r0.trans (no _ _ (by omega)), ye _ _ rfl, r2.trans (no _ _ (by omega)), r3.trans (no _ _ (by omega)), r4.trans (no _ _ (by omega)), r5.trans (no _ _ (by omega))⟩
  · exact ⟨b0, b1, true, b3, b4, b5, by rw [hw]; exact hh, r0.trans (no _ _ (by omega)), r1.trans (no _ _ (by omega)), ye _ _ rfl, r3.trans (no _ _ (by omega)), r4.trans (no _ _ (by omega)), r5.trans (no _ _ (by omega))⟩
  · exact ⟨b0, b1, b2, true, b4, b5, by rw [hw]; exact hh, r0.trans (no _ _ (by omega)), r1.trans (no _ _ (by omega)), r2.trans (no _ _ (by omega)), ye _ _ rfl, r4.trans (no _ _ (by omega)), r5.trans (no _ _ (by omega))⟩
  · exact ⟨b0, b1, b2, b3, true, b5, by rw [hw]; exact hh, r0.trans (no _ _ (by omega)), r1.trans (no _ _ (by omega)), r2.trans (no _ _ (by omega)), r3.trans (no _ _ (by omega)), ye _ _ rfl, r5.trans (no _ _ (by omega))⟩
  · exact ⟨b0, b1, b2, b3, b4, true, by rw [hw]; exact hh, r0.trans (no _ _ (by omega)), r1.trans (no _ _ (by omega)), r2.trans (no _ _ (by omega)), r3.trans (no _ _ (by omega)), r4.trans (no _ _ (by omega)), ye _ _ rfl⟩
theorem BRow.new (w : World) : BRow (w.alloc (.cells #[.bool false, .bool false, .bool false, .bool false, .bool false, .bool false] 122)) w.heap.size (fun _ => False) :=
  ⟨false, false, false, false, false, false, heap_alloc_new _ _, (told_no not_false).symm, (told_no not_false).symm, (told_no not_false).symm, (told_no not_false).symm, (told_no not_false).symm, (told_no not_false).symm⟩

end Go.Proofs.Ytpngohaheobkgaa

/-
  The document's readTexts of chapter 4, Done of chapter 3.
-/
namespace Go.Proofs.Ytpngohaheobkgaa
open Go.RowKit

set_option maxHeartbeats 400000 in
theorem refdone_any {t : TypeId} {w : World} {b : Nat} {r : List UInt8 × Bool} (h : At t w b r) :
    Calls Try.prog 54 #[.pointer (some ⟨b, 0, none⟩)] w fun e w' => e = .returned (.bool (told (r = ([], false)))) ∧ w' = w := by
  obtain ⟨l, bad⟩ := r
  obtain ⟨s, hs, hr⟩ := h
  have r0 := hr.rest
  have r1 := hr.isbad
  obtain ⟨q, hq⟩ : ∃ q, told ((l, bad) = (([], false) : List UInt8 × Bool)) = q := ⟨_, rfl⟩
  have HQ : Hid (told ((l, bad) = (([], false) : List UInt8 × Bool)) = q) := hq
  have HS : Hid (s.data.toList = l) := hs
  rw [hq]
  clear hq hs hr
  cases bad
  · by_cases hl : s = ⟨#[]⟩
    · have t1 : (s.toList == ByteArray.toList ⟨#[]⟩) = true := by rw [hl]; exact beq_self_eq_true _
      have HE : Hid (s = ⟨#[]⟩) := hl
      clear hl
      go_enter Try.func54, Try.ntmps54
      go_wp2_with ((with_reducible refine wpList_at ?_); refine wpList_same (by rfl) (.tmp 12) _ (by rfl) s _ (by rfl) (by rfl) true t1 ?_)
      go_ret
      exact ⟨ret_bool (by rw [← HQ.out, told_yes (by rw [← HS.out, HE.out])]), rfl⟩
    · have t1 : (s.toList == ByteArray.toList ⟨#[]⟩) = false := by
        rw [same_list, beq_eq_false_iff_ne]
        exact fun e => hl (ByteArray.ext (Array.toList_inj.1 e))
      go_enter Try.func54, Try.ntmps54
      go_wp2_with ((with_reducible refine wpList_at ?_); refine wpList_same (by rfl) (.tmp 12) _ (by rfl) s _ (by rfl) (by rfl) false t1 ?_)
      go_ret
      exact ⟨ret_bool (by rw [← HQ.out, told_no (fun e => hl (ByteArray.ext (Array.toList_inj.1 (HS.out.trans (congrArg Prod.fst e)))))]), rfl⟩
  · go_enter Try.func54, Try.ntmps54
    go_wp2
    go_ret
    exact ⟨ret_bool (by rw [← HQ.out, told_no (fun e => by have := congrArg Prod.snd e; exact Bool.noConfusion this)]), rfl⟩

set_option maxRecDepth 10000 in
set_option maxHeartbeats 2000000 in
theorem refreadtexts_any {w : World} {b : Nat} {r : List UInt8 × Bool} (m sz : Int) (hm0 : 0 ≤ m) (hm : m ≤ 1000) (hf : Fine r) (h : At 67 w b r) :
    Calls Try.prog 52 #[.pointer (some ⟨b, 0, none⟩), .int .i64 m, .int .i64 sz] w fun e w' => ∃ v l, e = .returned v ∧ OwnS w' w.heap.size v l ∧ l.map (·.data.toList) = (rdTexts r m sz).1 ∧ At 67 w' b (rdTexts r m sz).2 ∧ Fine (rdTexts r m sz).2 ∧ But b w w' := by
  have HC := refcount_any m hf h
  have hbl := h.lt
  clear h
  have hv0 := (cntV_range r.1 m).1
  have hvm := cntV_le r.1 m hm0
  have hf1 := fine_cnt r m hf
  obtain ⟨n, hn⟩ := Int.eq_ofNat_of_zero_le hv0
  have HM : Hid (rdTexts r m sz = textsL sz n (cntS r m)) := by
    show _ = _
    unfold rdTexts; rw [hn]; rfl
  rw [hn] at HC hvm
  generalize cntS r m = r1 at HC hf1 HM
  generalize rdTexts r m sz = res at HM ⊢
  clear hf hv0 hn
  go_enter Try.func52, Try.ntmps52
  go_wp2_with fail
  refine HC.mono ?_
  rintro e w1 ⟨rfl, hr1, hb1, hz1⟩
  clear HC
  go_wp2
  go_loopw [7, 9] (fun v i wr => ∃ (j : Nat) (l : List ByteArray) (rc : List UInt8 × Bool), j ≤ n ∧ i = .int .i64 j ∧ l.length ≤ j ∧ OwnS wr w.heap.size v l ∧ Hid (res.1 = l.map (·.data.toList) ++ (textsL sz (n - j) rc).1 ∧ res.2 = (textsL sz (n - j) rc).2) ∧ At 67 wr b rc ∧ Fine rc ∧ But b w wr) (fun _ i _ => n - (intOf i).toNat)
  case atStart => exact ⟨0, [], r1, by omega, rfl, by simp, World.ownsRow_nil _ _ _ _, ⟨by rw [HM.out]; simp, by rw [HM.out]; rfl⟩, hr1, hf1, hb1⟩
  case round =>
    clear hr1 hb1 hz1 hf1 HM
    obtain ⟨j, l, rc, hj, rfl, hlj, hown, HI, hat, hfc, hbut⟩ := hrel
    obtain ⟨s, hs, hrd⟩ := hat
    have r1' := hrd.isbad
    by_cases hlt : j < n
    · have j1 : (j : Int) < (n : Int) := by omega
      by_cases hbad : rc.2 = true
      · have HB : Hid (rc.2 = true) := hbad
        rw [hbad] at r1'
        have HA : Hid (At 67 wr b rc) := ⟨s, hs, hrd⟩
        clear hbad hs hrd
        go_wp2
        go_ret
        refine ⟨u7, l, rfl, hown, ?_, ?_, ?_, hbut⟩
        · rw [HI.out.1, textsL_bad _ _ _ HB.out]; simp
        · rw [HI.out.2, textsL_bad _ _ _ HB.out]; exact HA.out
        · rw [HI.out.2, textsL_bad _ _ _ HB.out]; exact hfc
      · have hbad' : rc.2 = false := by cases e : rc.2; rfl; exact absurd e hbad
        rw [hbad'] at r1'
        have HT := reftext_any (t := 67) (w := wr) (b := b) (r := rc) sz hfc ⟨s, hs, hrd⟩
        have HI2 : Hid (res.1 = (l ++ [(⟨(txtV rc sz).toArray⟩ : ByteArray)]).map (·.data.toList) ++ (textsL sz (n - (j + 1)) (txtS rc sz)).1 ∧ res.2 = (textsL sz (n - (j + 1)) (txtS rc sz)).2) := by
          have e : n - j = (n - (j + 1)) + 1 := by omega
          have := HI.out
          rw [e, textsL_go _ _ _ hbad'] at this
          exact ⟨by rw [this.1]; simp, this.2⟩
        have hft := fine_txt rc sz hfc
        have HHB : Hid (wr.heap[b]? = some (.cells #[.string s, .bool rc.2] 67 (0, 0))) := hrd
        clear hs hrd HI hbad hbad' hfc
        generalize (⟨(txtV rc sz).toArray⟩ : ByteArray) = x at HT HI2
        generalize txtS rc sz = rc2 at HT HI2 hft
        go_wp2_with fail
        refine HT.mono ?_
        rintro e w2 ⟨rfl, hr2, hb2⟩
        have hown2 := hown.but hb2 HHB.out (by decide)
        have hbut2 := hbut.trans hb2
        clear HT hown hbut hb2 r1'
        go_wp2_with (at_builtin; refine wpList_put1 (st := 25) Try.underlying25 Try.info9 rfl (by decide) (by decide) w2 _ (by rfl) (.tmp 25) (.tmp 29) (by rfl) w.heap.size _ _ _ (by rfl) hown2 (by rfl) rfl (by intro u hu; simp at hu; subst hu; rfl) (by omega) hbut2.size ?_; intro v4 w4 hown4 hg4)
        go_roundw
        case rel =>
          have hne : some b ≠ Value.ownBlock u7 := by
            intro e
            have := (World.ownsRow.lt hown2 b e.symm).1
            omega
          have hat4 : At 67 w4 b rc2 := by
            obtain ⟨s2, hs2, hrd2⟩ := hr2
            exact ⟨s2, hs2, by unfold Rd at *; rw [hg4.block b (Array.getElem?_eq_some_iff.1 hrd2).1 hne]; exact hrd2⟩
          refine ⟨j + 1, l ++ [x], rc2, by omega, by go_num, by simp; omega, ?_, HI2.out, hat4, hft, ?_⟩
          · unfold OwnS; rw [List.length_append, List.map_append]; exact hown4
          · refine ⟨hg4.os.trans hbut2.os, hg4.tape.trans hbut2.tape, hg4.output.trans hbut2.output, Nat.le_trans hbut2.size hg4.size, fun k hk hkb => ?_⟩
            rw [hg4.block k (Nat.lt_of_lt_of_le hk hbut2.size) (fun e => by have := (World.ownsRow.lt hown2 k e.symm).1; omega)]
            exact hbut2.block k hk hkb
        case measure => simp [intOf]; omega
    · have j1 : ¬ (j : Int) < (n : Int) := by omega
      have e0 : n - j = 0 := by omega
      have HA : Hid (At 67 wr b rc) := ⟨s, hs, hrd⟩
      rw [e0] at HI
      clear hs hrd
      go_wp2
      go_ret
      refine ⟨u7, rfl, l, hown, ?_, ?_, ?_, hbut⟩
      · rw [HI.out.1]; simp [textsL]
      · rw [HI.out.2]; exact HA.out
      · rw [HI.out.2]; exact hfc

end Go.Proofs.Ytpngohaheobkgaa
