/-
  The program's writeParty, writeArc, and writeList at them.
-/
import Derived.Test.YthdnldbkpllciaaSpW
import Derived.Test.YthdnldbkpllciaaZ21
import Derived.Test.YthdnldbkpllciaaSpOwnX
import Derived.Test.YthdnldbkpllciaaZ24
namespace Go.Proofs.Ythdnldbkpllciaa
open Go.RowKit

def partyFits (p : PartyM) : Prop := p.acc.size ≤ 1000 ∧ p.keys.length ≤ 8 ∧ ∀ j, j < p.keys.length → (p.keys.getD j ByteArray.empty).size ≤ 1000
theorem arcB_length (a : ArcM) : (arcB a).length = 40 + a.asset.size := by
  unfold arcB; simp only [List.length_append, num8_length, text8_length, len_list]; omega
theorem partyB_le (p : PartyM) (h : partyFits p) : (partyB p).length ≤ 9100 := by
  unfold partyB
  have h1 := textsB_le p.keys 1000 h.2.2
  rw [List.length_append, text8_length, len_list]
  have h2 : 1008 * p.keys.length ≤ 1008 * 8 := Nat.mul_le_mul_left _ h.2.1
  have := h.1
  omega

theorem wkeys_ex {w : World} {a : Option Addr} {c : Nat} {l : List ByteArray} (h : Strs w a l.length l) (hl : l.length ≤ 1000) (hm : ∀ j, j < l.length → (l.getD j ByteArray.empty).size ≤ 1000) : Calls Try.prog 62 #[.slice a l.length c, .func (.func 55) #[] #[]] w fun e w' => e = .returned (.string ⟨(textsB l).toArray⟩) ∧ Below w.heap.size w w' := wlist_str h hl hm

set_option maxRecDepth 10000 in
set_option maxHeartbeats 1000000 in
theorem wparty_any {w : World} (p : PartyM) (ka : Option Addr) (kc : Nat) (h : partyFits p) (hk : Strs w ka p.keys.length p.keys) :
    Calls Try.prog 57 #[.agg #[.string p.acc, .slice ka p.keys.length kc]] w fun e w' => e = .returned (.string ⟨(partyB p).toArray⟩) ∧ Below w.heap.size w w' := by
  obtain ⟨y1, hy1, hz1, HY1⟩ := ctext_ex p.acc (by have := h.1; omega)
  obtain ⟨y2, hy2⟩ : ∃ y2 : ByteArray, y2 = ⟨(textsB p.keys).toArray⟩ := ⟨_, rfl⟩
  have hz2 : y2.size ≤ 9000 := by
    rw [hy2, mk_size]
    have h1 := textsB_le p.keys 1000 h.2.2
    have h2 : 1008 * p.keys.length ≤ 1008 * 8 := Nat.mul_le_mul_left _ h.2.1
    omega
  have HY2 : ∀ W, Below w.heap.size w W → Calls Try.prog 62 #[.slice ka p.keys.length kc, .func (.func 55) #[] #[]] W fun e w' => e = .returned (.string y2) ∧ Below W.heap.size W w' := by
    intro W hW; rw [hy2]; exact wkeys_ex (hk.below hW) (by have := h.2.1; omega) h.2.2
  have HE : Hid (y1 ++ y2 = ⟨(partyB p).toArray⟩) := by
    show _ = _
    refine bytes_of _ _ ?_
    rw [add_list, hy1, hy2]; rfl
  have sm1 : ¬ 9223372036854775807 < y1.size + y2.size := by have := h.1; omega
  replace HY1 := hide HY1
  replace HY2 := hide HY2
  have hE := two_new w (.string p.acc) (.slice ka p.keys.length kc) 32
  have hB := (Below.refl w.heap.size w).alloc (Nat.le_refl _) (Obj.cells #[Value.string p.acc, Value.slice ka p.keys.length kc] 32)
  clear hy1 hy2 hz1 hz2 h hk
  go_enter Try.func57, Try.ntmps57
  go_upto_region 1 with fail
  generalize w.alloc (Obj.cells #[Value.string p.acc, Value.slice ka p.keys.length kc] 32) = w1 at hE hB ⊢
  obtain ⟨g, hg⟩ : ∃ g, w.heap.size = g := ⟨_, rfl⟩
  rw [hg] at hE ⊢
  obtain ⟨e0, e1⟩ := hE
  go_region_held3 (fun w' => w'.cell? ⟨g, 0, none⟩ = some (.string p.acc) ∧ w'.cell? ⟨g, 1, none⟩ = some (.slice ka p.keys.length kc)) (first | (exact ⟨e0, e1⟩) | (go_keep; done)) (first | (go_at_call 55; (with_reducible refine (HY1.out _).mono ?_); rintro e w9 ⟨rfl, hb9⟩; (first | (replace hB := hB.trans (hb9.mono hB.size)) | (replace hB := hB.drew.trans (hb9.mono hB.size))); replace e0 := cell_on hb9 e0; replace e1 := cell_on hb9 e1) | (go_at_call 62; (with_reducible refine (HY2.out _ hB).mono ?_); rintro e w9 ⟨rfl, hb9⟩; (first | (replace hB := hB.trans (hb9.mono hB.size)) | (replace hB := hB.drew.trans (hb9.mono hB.size))); replace e0 := cell_on hb9 e0; replace e1 := cell_on hb9 e1))
  all_goals
    go_wp2
    go_ret
    rw [HE.out]
    exact ⟨rfl, hB⟩
theorem wparty_ex {w : World} (p : PartyM) (ka : Option Addr) (kc : Nat) (h : partyFits p) (hk : Strs w ka p.keys.length p.keys) : ∃ y : ByteArray, y.data.toList = partyB p ∧ y.size ≤ 9100 ∧
    Calls Try.prog 57 #[.agg #[.string p.acc, .slice ka p.keys.length kc]] w fun e w' => e = .returned (.string y) ∧ Below w.heap.size w w' :=
  ⟨⟨(partyB p).toArray⟩, rfl, by rw [mk_size]; exact partyB_le p h, wparty_any p ka kc h hk⟩

set_option maxRecDepth 10000 in
set_option maxHeartbeats 1000000 in
theorem warc_any {w : World} (P : ArcM) (h : P.asset.size ≤ 1000) :
    Calls Try.prog 59 #[.agg #[Value.int IntKind.i64 P.src, Value.int IntKind.i64 P.dst, Value.int IntKind.i64 P.ledger, Value.string P.asset, Value.int IntKind.i64 P.amount]] w fun e w' => e = .returned (.string ⟨(arcB P).toArray⟩) ∧ Below w.heap.size w w' := by
  obtain ⟨y1, hy1, hz1, HY1⟩ := cnum_ex P.src
  obtain ⟨y2, hy2, hz2, HY2⟩ := cnum_ex P.dst
  obtain ⟨y3, hy3, hz3, HY3⟩ := cnum_ex P.ledger
  obtain ⟨y4, hy4, hz4, HY4⟩ := ctext_ex P.asset (by omega)
  obtain ⟨y5, hy5, hz5, HY5⟩ := cnum_ex P.amount
  have HE : Hid (y1 ++ y2 ++ y3 ++ y4 ++ y5 = ⟨(arcB P).toArray⟩) := by
    show _ = _
    refine bytes_of _ _ ?_
    rw [add_list, add_list, add_list, add_list, hy1, hy2, hy3, hy4, hy5]; rfl
  have sm1 : ¬ 9223372036854775807 < y1.size + y2.size := by omega
  have sm2 : ¬ 9223372036854775807 < y1.size + y2.size + y3.size := by omega
  have sm3 : ¬ 9223372036854775807 < y1.size + y2.size + y3.size + y4.size := by omega
  have sm4 : ¬ 9223372036854775807 < y1.size + y2.size + y3.size + y4.size + y5.size := by omega
  replace HY1 := hide HY1
  replace HY2 := hide HY2
  replace HY3 := hide HY3
  replace HY4 := hide HY4
  replace HY5 := hide HY5
  have hE := five_new w P
  have hB := (Below.refl w.heap.size w).alloc (Nat.le_refl _) (Obj.cells #[Value.int IntKind.i64 P.src, Value.int IntKind.i64 P.dst, Value.int IntKind.i64 P.ledger, Value.string P.asset, Value.int IntKind.i64 P.amount] 34)
  clear hy1 hy2 hy3 hy4 hy5 hz1 hz2 hz3 hz4 hz5 h
  go_enter Try.func59, Try.ntmps59
  go_upto_region 1 with fail
  generalize w.alloc (Obj.cells #[Value.int IntKind.i64 P.src, Value.int IntKind.i64 P.dst, Value.int IntKind.i64 P.ledger, Value.string P.asset, Value.int IntKind.i64 P.amount] 34) = w1 at hE hB ⊢
  obtain ⟨g, hg⟩ : ∃ g, w.heap.size = g := ⟨_, rfl⟩
  rw [hg] at hE ⊢
  obtain ⟨e0, e1, e2, e3, e4⟩ := hE
  go_region_held3 (fun w' => w'.cell? ⟨g, 0, none⟩ = some (.int .i64 P.src) ∧ w'.cell? ⟨g, 1, none⟩ = some (.int .i64 P.dst) ∧ w'.cell? ⟨g, 2, none⟩ = some (.int .i64 P.ledger) ∧ w'.cell? ⟨g, 3, none⟩ = some (.string P.asset) ∧ w'.cell? ⟨g, 4, none⟩ = some (.int .i64 P.amount)) (first | (exact ⟨e0, e1, e2, e3, e4⟩) | (go_keep; done)) (first | (go_at_call 61; (with_reducible refine (HY1.out _).mono ?_); rintro e w9 ⟨rfl, hb9⟩; (first | (replace hB := hB.trans (hb9.mono hB.size)) | (replace hB := hB.drew.trans (hb9.mono hB.size))); replace e0 := cell_on hb9 e0; replace e1 := cell_on hb9 e1; replace e2 := cell_on hb9 e2; replace e3 := cell_on hb9 e3; replace e4 := cell_on hb9 e4) | (go_at_call 61; (with_reducible refine (HY2.out _).mono ?_); rintro e w9 ⟨rfl, hb9⟩; (first | (replace hB := hB.trans (hb9.mono hB.size)) | (replace hB := hB.drew.trans (hb9.mono hB.size))); replace e0 := cell_on hb9 e0; replace e1 := cell_on hb9 e1; replace e2 := cell_on hb9 e2; replace e3 := cell_on hb9 e3; replace e4 := cell_on hb9 e4) | (go_at_call 61; (with_reducible refine (HY3.out _).mono ?_); rintro e w9 ⟨rfl, hb9⟩; (first | (replace hB := hB.trans (hb9.mono hB.size)) | (replace hB := hB.drew.trans (hb9.mono hB.size))); replace e0 := cell_on hb9 e0; replace e1 := cell_on hb9 e1; replace e2 := cell_on hb9 e2; replace e3 := cell_on hb9 e3; replace e4 := cell_on hb9 e4) | (go_at_call 61; (with_reducible refine (HY5.out _).mono ?_); rintro e w9 ⟨rfl, hb9⟩; (first | (replace hB := hB.trans (hb9.mono hB.size)) | (replace hB := hB.drew.trans (hb9.mono hB.size))); replace e0 := cell_on hb9 e0; replace e1 := cell_on hb9 e1; replace e2 := cell_on hb9 e2; replace e3 := cell_on hb9 e3; replace e4 := cell_on hb9 e4) | (go_at_call 55; (with_reducible refine (HY4.out _).mono ?_); rintro e w9 ⟨rfl, hb9⟩; (first | (replace hB := hB.trans (hb9.mono hB.size)) | (replace hB := hB.drew.trans (hb9.mono hB.size))); replace e0 := cell_on hb9 e0; replace e1 := cell_on hb9 e1; replace e2 := cell_on hb9 e2; replace e3 := cell_on hb9 e3; replace e4 := cell_on hb9 e4))
  all_goals
    go_wp2
    go_ret
    rw [HE.out]
    exact ⟨rfl, hB⟩
theorem warc_ex {w : World} (P : ArcM) (h : P.asset.size ≤ 1000) : ∃ y : ByteArray, y.data.toList = arcB P ∧ y.size ≤ 1040 ∧
    Calls Try.prog 59 #[.agg #[Value.int IntKind.i64 P.src, Value.int IntKind.i64 P.dst, Value.int IntKind.i64 P.ledger, Value.string P.asset, Value.int IntKind.i64 P.amount]] w fun e w' => e = .returned (.string y) ∧ Below w.heap.size w w' :=
  ⟨⟨(arcB P).toArray⟩, rfl, by rw [mk_size, arcB_length]; omega, warc_any P h⟩

set_option maxRecDepth 10000 in
set_option maxHeartbeats 2000000 in
theorem wlist_party {w : World} {a : Option Addr} {c : Nat} {l : List PartyM} (h : Parties w a l) (hl : l.length ≤ 1000) (hm : ∀ j, j < l.length → partyFits (l.getD j noParty)) :
    Calls Try.prog 56 #[.slice a l.length c, .func (.func 57) #[] #[]] w fun e w' => e = .returned (.string ⟨(num8 (l.length : Int) ++ l.flatMap partyB).toArray⟩) ∧ Below w.heap.size w w' := by
  have HL := hide h
  have HM := hide hm
  clear h hm
  obtain ⟨y0, hy0, hz0, HN⟩ := cnum_ex (l.length : Int)
  have HY0 := hide hy0
  replace HN := hide HN
  clear hy0
  have hb1 := (Below.refl w.heap.size w).alloc (Nat.le_refl _) (Obj.cells #[.pointer none, .slice none 0 0] 90)
  have hl1 := bld_fresh w
  have hs1 : (w.alloc (Obj.cells #[.pointer none, .slice none 0 0] 90)).heap.size = w.heap.size + 1 := by simp
  replace hb1 := hide hb1
  replace hl1 := hide hl1
  go_enter Try.func56, Try.ntmps56
  go_upto_region 2 with fail
  generalize w.alloc (Obj.cells #[.pointer none, .slice none 0 0] 90) = w1 at hb1 hl1 hs1 ⊢
  obtain ⟨b, hb⟩ : ∃ b, w.heap.size = b := ⟨_, rfl⟩
  rw [hb] at hl1 hb1 hs1 ⊢
  go_wp2_with fail
  refine (HN.out w1).mono ?_
  rintro e w2 ⟨rfl, hb2⟩
  have hl2 := hide (hl1.out.below hb2)
  have hB2 := hide (hb1.out.trans (hb2.mono (by omega)))
  have hs2 := hb2.size
  clear HN hl1 hb1 hb2
  go_wp2_with fail
  refine (bwrite_any y0 hl2.out (by rw [hz0]; simp) (by omega)).mono ?_
  rintro e w3 ⟨rfl, hl3, hb3⟩
  rw [List.nil_append, HY0.out] at hl3
  have hB3 := hide (hB2.out.trans hb3)
  replace hl3 := hide hl3
  clear hl2 hB2 hb3 HY0
  go_wp2
  go_loopw [14] (fun i wr => ∃ j : Nat, j ≤ l.length ∧ i = .int .i64 j ∧ Hid (Bld wr b b (num8 (l.length : Int) ++ (l.take j).flatMap partyB)) ∧ Hid (Below b w wr)) (fun i _ => l.length - (intOf i).toNat)
  case atStart => exact ⟨0, by omega, rfl, by show Bld _ _ _ _; simpa using hl3.out, hB3⟩
  case round =>
    clear hl3 hB3
    obtain ⟨j, hj, rfl, hl4, hB⟩ := hrel
    have hln : (num8 (l.length : Int) ++ (l.take j).flatMap partyB).length ≤ 8 + 10000 * l.length := by
      rw [List.length_append, num8_length]
      have h1 := flat_le partyB (l.take j) 10000 (fun x hx => by
        obtain ⟨i, hi, e⟩ := List.getElem_of_mem hx
        rw [List.length_take] at hi
        have h2 := HM.out i (by omega)
        rw [List.getElem_take] at e
        rw [List.getD_eq_getElem?_getD, List.getElem?_eq_getElem (by omega), Option.getD_some, e] at h2
        have := partyB_le _ h2; omega)
      rw [List.length_take] at h1
      have : 10000 * min j l.length ≤ 10000 * l.length := Nat.mul_le_mul_left _ (by omega)
      omega
    have HLN := hide hln
    clear hln
    have hw0 : b ≤ wr.heap.size := Nat.le_of_lt hl4.out.lt
    have hBw := hide (show Below w.heap.size w wr by rw [hb]; exact hB.out)
    by_cases hlt : j < l.length
    · have j1 : (j : Int) < (l.length : Int) := by omega
      obtain ⟨ba, oa, rfl, hd⟩ := HL.out.2 j hlt
      obtain ⟨P, hP⟩ : ∃ P, l.getD j noParty = P := ⟨_, rfl⟩
      have hm9 := HM.out j hlt
      rw [hP] at hd hm9
      have HP := hide hP
      clear hP
      obtain ⟨hsz, d0, ka, kc, d1, hks⟩ := hd.below hBw.out
      have HK := hide hks
      clear hd hsz hks
      have hm9' := hide hm9
      clear hm9
      go_upto_region 6 with fail
      have hE := two_new wr (.string P.acc) (.slice ka P.keys.length kc) 32
      have hB0 := (Below.refl wr.heap.size wr).alloc (Nat.le_refl _) (Obj.cells #[Value.string P.acc, Value.slice ka P.keys.length kc] 32)
      have hl4b := hide (hl4.out.below hB0)
      have hBb := hide (hB.out.trans (hB0.mono hw0))
      have hw1 := hB0.size
      have hK := hide (HK.out.below hB0)
      clear d0 d1 HK hl4 hB hB0 hBw
      generalize wr.alloc (Obj.cells #[Value.string P.acc, Value.slice ka P.keys.length kc] 32) = w4 at hE hl4b hBb hw1 hK ⊢
      generalize hgp : wr.heap.size = gp at hE hw1 hw0 ⊢
      obtain ⟨y, hy, hz, HG⟩ := wparty_ex (w := w4) P ka kc hm9'.out hK.out
      obtain ⟨e0, e1⟩ := hE
      have HY : Hid (y.data.toList = partyB P) := hy
      replace HG := hide HG
      clear hy hm9'
      go_wp2_with fail
      refine (HG.out).mono ?_
      rintro e w5 ⟨rfl, hb5⟩
      have hl5 := hide (hl4b.out.below hb5)
      have hB5 := hide (hBb.out.trans (hb5.mono (by omega)))
      have hs5 : b ≤ w5.heap.size := Nat.le_trans (by omega) hb5.size
      clear HG hl4b hBb hb5
      go_wp2_with fail
      refine (bwrite_any y hl5.out (by have := HLN.out;  omega) hs5).mono ?_
      rintro e w6 ⟨rfl, hl6, hb6⟩
      rw [List.append_assoc, HY.out, ← HP.out, ← take_flat partyB l noParty j hlt] at hl6
      have hB6 := hide (hB5.out.trans hb6)
      replace hl6 := hide hl6
      clear hl5 hB5 hb6
      go_wp2
      go_roundw
      case rel => exact ⟨j + 1, by omega, by go_num, hl6, hB6⟩
      case measure => simp [intOf]; omega
    · have j1 : ¬ (j : Int) < (l.length : Int) := by omega
      have he : (l.take j) = l := List.take_of_length_le (by omega)
      rw [he] at hl4 HLN
      go_wp2_with fail
      refine (bstring_any hl4.out (fun e => by have := congrArg List.length e; rw [List.length_append, num8_length] at this; simp at this) (by have := HLN.out; omega)).mono ?_
      rintro e w6 ⟨rfl, hb6⟩
      have hB6 := hide (hB.out.trans hb6)
      clear hl4 hB hb6
      go_wp2
      go_ret
      exact ⟨rfl, by rw [hb]; exact hB6.out⟩

set_option maxRecDepth 10000 in
set_option maxHeartbeats 2000000 in
theorem wlist_arc {w : World} {a : Option Addr} {c : Nat} {l : List ArcM} (h : Arcs w a l) (hl : l.length ≤ 1000) (hm : ∀ j, j < l.length → (l.getD j noArc).asset.size ≤ 1000) :
    Calls Try.prog 58 #[.slice a l.length c, .func (.func 59) #[] #[]] w fun e w' => e = .returned (.string ⟨(num8 (l.length : Int) ++ l.flatMap arcB).toArray⟩) ∧ Below w.heap.size w w' := by
  have HL := hide h
  have HM := hide hm
  clear h hm
  obtain ⟨y0, hy0, hz0, HN⟩ := cnum_ex (l.length : Int)
  have HY0 := hide hy0
  replace HN := hide HN
  clear hy0
  have hb1 := (Below.refl w.heap.size w).alloc (Nat.le_refl _) (Obj.cells #[.pointer none, .slice none 0 0] 90)
  have hl1 := bld_fresh w
  have hs1 : (w.alloc (Obj.cells #[.pointer none, .slice none 0 0] 90)).heap.size = w.heap.size + 1 := by simp
  replace hb1 := hide hb1
  replace hl1 := hide hl1
  go_enter Try.func58, Try.ntmps58
  go_upto_region 2 with fail
  generalize w.alloc (Obj.cells #[.pointer none, .slice none 0 0] 90) = w1 at hb1 hl1 hs1 ⊢
  obtain ⟨b, hb⟩ : ∃ b, w.heap.size = b := ⟨_, rfl⟩
  rw [hb] at hl1 hb1 hs1 ⊢
  go_wp2_with fail
  refine (HN.out w1).mono ?_
  rintro e w2 ⟨rfl, hb2⟩
  have hl2 := hide (hl1.out.below hb2)
  have hB2 := hide (hb1.out.trans (hb2.mono (by omega)))
  have hs2 := hb2.size
  clear HN hl1 hb1 hb2
  go_wp2_with fail
  refine (bwrite_any y0 hl2.out (by rw [hz0]; simp) (by omega)).mono ?_
  rintro e w3 ⟨rfl, hl3, hb3⟩
  rw [List.nil_append, HY0.out] at hl3
  have hB3 := hide (hB2.out.trans hb3)
  replace hl3 := hide hl3
  clear hl2 hB2 hb3 HY0
  go_wp2
  go_loopw [14] (fun i wr => ∃ j : Nat, j ≤ l.length ∧ i = .int .i64 j ∧ Hid (Bld wr b b (num8 (l.length : Int) ++ (l.take j).flatMap arcB)) ∧ Hid (Below b w wr)) (fun i _ => l.length - (intOf i).toNat)
  case atStart => exact ⟨0, by omega, rfl, by show Bld _ _ _ _; simpa using hl3.out, hB3⟩
  case round =>
    clear hl3 hB3
    obtain ⟨j, hj, rfl, hl4, hB⟩ := hrel
    have hln : (num8 (l.length : Int) ++ (l.take j).flatMap arcB).length ≤ 8 + 10000 * l.length := by
      rw [List.length_append, num8_length]
      have h1 := flat_le arcB (l.take j) 10000 (fun x hx => by
        obtain ⟨i, hi, e⟩ := List.getElem_of_mem hx
        rw [List.length_take] at hi
        have h2 := HM.out i (by omega)
        rw [List.getElem_take] at e
        rw [List.getD_eq_getElem?_getD, List.getElem?_eq_getElem (by omega), Option.getD_some, e] at h2
        have := arcB_length x; omega)
      rw [List.length_take] at h1
      have : 10000 * min j l.length ≤ 10000 * l.length := Nat.mul_le_mul_left _ (by omega)
      omega
    have HLN := hide hln
    clear hln
    have hw0 : b ≤ wr.heap.size := Nat.le_of_lt hl4.out.lt
    have hBw := hide (show Below w.heap.size w wr by rw [hb]; exact hB.out)
    by_cases hlt : j < l.length
    · have j1 : (j : Int) < (l.length : Int) := by omega
      obtain ⟨ba, oa, rfl, hd⟩ := HL.out.2 j hlt
      obtain ⟨P, hP⟩ : ∃ P, l.getD j noArc = P := ⟨_, rfl⟩
      have hm9 := HM.out j hlt
      rw [hP] at hd hm9
      have HP := hide hP
      clear hP
      obtain ⟨u1, u2, u3, u4, u5, d0, d1, d2, d3, d4⟩ := hd.below hBw.out
      have HK := hide (Below.refl wr.heap.size wr)
      clear hd u1 u2 u3 u4 u5
      have hm9' := hide hm9
      clear hm9
      go_upto_region 6 with fail
      have hE := five_new wr P
      have hB0 := (Below.refl wr.heap.size wr).alloc (Nat.le_refl _) (Obj.cells #[Value.int IntKind.i64 P.src, Value.int IntKind.i64 P.dst, Value.int IntKind.i64 P.ledger, Value.string P.asset, Value.int IntKind.i64 P.amount] 34)
      have hl4b := hide (hl4.out.below hB0)
      have hBb := hide (hB.out.trans (hB0.mono hw0))
      have hw1 := hB0.size
      clear d0 d1 d2 d3 d4 HK hl4 hB hB0 hBw
      generalize wr.alloc (Obj.cells #[Value.int IntKind.i64 P.src, Value.int IntKind.i64 P.dst, Value.int IntKind.i64 P.ledger, Value.string P.asset, Value.int IntKind.i64 P.amount] 34) = w4 at hE hl4b hBb hw1 ⊢
      generalize hgp : wr.heap.size = gp at hE hw1 hw0 ⊢
      obtain ⟨y, hy, hz, HG⟩ := warc_ex (w := w4) P hm9'.out
      obtain ⟨e0, e1, e2, e3, e4⟩ := hE
      have HY : Hid (y.data.toList = arcB P) := hy
      replace HG := hide HG
      clear hy hm9'
      go_wp2_with fail
      refine (HG.out).mono ?_
      rintro e w5 ⟨rfl, hb5⟩
      have hl5 := hide (hl4b.out.below hb5)
      have hB5 := hide (hBb.out.trans (hb5.mono (by omega)))
      have hs5 : b ≤ w5.heap.size := Nat.le_trans (by omega) hb5.size
      clear HG hl4b hBb hb5
      go_wp2_with fail
      refine (bwrite_any y hl5.out (by have := HLN.out;  omega) hs5).mono ?_
      rintro e w6 ⟨rfl, hl6, hb6⟩
      rw [List.append_assoc, HY.out, ← HP.out, ← take_flat arcB l noArc j hlt] at hl6
      have hB6 := hide (hB5.out.trans hb6)
      replace hl6 := hide hl6
      clear hl5 hB5 hb6
      go_wp2
      go_roundw
      case rel => exact ⟨j + 1, by omega, by go_num, hl6, hB6⟩
      case measure => simp [intOf]; omega
    · have j1 : ¬ (j : Int) < (l.length : Int) := by omega
      have he : (l.take j) = l := List.take_of_length_le (by omega)
      rw [he] at hl4 HLN
      go_wp2_with fail
      refine (bstring_any hl4.out (fun e => by have := congrArg List.length e; rw [List.length_append, num8_length] at this; simp at this) (by have := HLN.out; omega)).mono ?_
      rintro e w6 ⟨rfl, hb6⟩
      have hB6 := hide (hB.out.trans hb6)
      clear hl4 hB hb6
      go_wp2
      go_ret
      exact ⟨rfl, by rw [hb]; exact hB6.out⟩

end Go.Proofs.Ythdnldbkpllciaa

/-
  The program's write and Bytes.
-/
namespace Go.Proofs.Ythdnldbkpllciaa
open Go.RowKit

theorem spec_party {s : SpecM} (h : specOk s) (j : Nat) (hj : j < s.parties.length) : partyFits (s.parties.getD j noParty) := by
  obtain ⟨_, ⟨_, l2, _⟩, ⟨_, _, p3⟩, _⟩ := h
  obtain ⟨⟨_, k1⟩, k2, k3, _⟩ := p3 j hj
  exact ⟨by omega, by omega, fun i hi => by rw [k3 i hi]; omega⟩
theorem spec_arc {s : SpecM} (h : specOk s) (j : Nat) (hj : j < s.arcs.length) : (s.arcs.getD j noArc).asset.size ≤ 1000 := by
  obtain ⟨_, _, _, ⟨_, _, p3⟩, _⟩ := h
  obtain ⟨⟨_, _, _, _, _, _, _, ⟨_, k⟩, _⟩, _⟩ := p3 j hj
  omega
theorem spec_lock {s : SpecM} (h : specOk s) (j : Nat) (hj : j < s.locks.length) : (s.locks.getD j ByteArray.empty).size ≤ 1000 := by
  obtain ⟨_, ⟨_, _, l3, l4⟩, _⟩ := h
  obtain ⟨_, _, k, _⟩ := l4 j (by omega)
  omega
theorem getD_of {α : Type} {l : List α} {x d : α} (h : x ∈ l) : ∃ j, j < l.length ∧ l.getD j d = x := by
  obtain ⟨j, hj, e⟩ := List.getElem_of_mem h
  exact ⟨j, hj, by rw [List.getD_eq_getElem?_getD, List.getElem?_eq_getElem hj]; exact e⟩

set_option maxRecDepth 10000 in
set_option maxHeartbeats 4000000 in
theorem write_any {w : World} {a1 a2 a3 a4 : Option Addr} {c1 c2 c3 c4 : Nat} {s : SpecM} (L : Lies w a1 a2 a3 a4 s) (hok : specOk s) :
    Calls Try.prog 26 #[.agg (cells7 a1 a2 a3 a4 c1 c2 c3 c4 s)] w fun e w' => e = .returned (.string ⟨(specB s).toArray⟩) ∧ Below w.heap.size w w' := by
  have n1 : s.parties.length ≤ 6 := hok.2.2.1.2.1
  have n2 : s.arcs.length ≤ 12 := hok.2.2.2.1.2.1
  have n3 : s.leaders.length ≤ 3 := hok.2.1.2.1
  have n4 : s.locks.length ≤ 3 := by have := hok.2.1.2.2.1; omega
  have n0 : s.id.size ≤ 16 := hok.1.2
  obtain ⟨y1, hy1, hz1, HY1⟩ := ctext_ex s.id (by omega)
  obtain ⟨y2, hy2⟩ : ∃ y : ByteArray, y = ⟨(num8 (s.parties.length : Int) ++ s.parties.flatMap partyB).toArray⟩ := ⟨_, rfl⟩
  obtain ⟨y3, hy3⟩ : ∃ y : ByteArray, y = ⟨(num8 (s.arcs.length : Int) ++ s.arcs.flatMap arcB).toArray⟩ := ⟨_, rfl⟩
  obtain ⟨y4, hy4⟩ : ∃ y : ByteArray, y = ⟨(num8 (s.leaders.length : Int) ++ s.leaders.flatMap num8).toArray⟩ := ⟨_, rfl⟩
  obtain ⟨y5, hy5⟩ : ∃ y : ByteArray, y = ⟨(num8 (s.locks.length : Int) ++ s.locks.flatMap txt8).toArray⟩ := ⟨_, rfl⟩
  obtain ⟨y6, hy6, hz6, HY6⟩ := cnum_ex s.start
  obtain ⟨y7, hy7, hz7, HY7⟩ := cnum_ex s.delta
  have hz2 : y2.size ≤ 100000 := by
    rw [hy2, mk_size, List.length_append, num8_length]
    have := flat_le partyB s.parties 9100 (fun x hx => by
      obtain ⟨j, hj, e⟩ := getD_of (d := noParty) hx
      rw [← e]; exact partyB_le _ (spec_party hok j hj))
    omega
  have hz3 : y3.size ≤ 100000 := by
    rw [hy3, mk_size, List.length_append, num8_length]
    have := flat_le arcB s.arcs 1040 (fun x hx => by
      obtain ⟨j, hj, e⟩ := getD_of (d := noArc) hx
      have := spec_arc hok j hj
      rw [← e, arcB_length]; omega)
    omega
  have hz4 : y4.size ≤ 100000 := by
    rw [hy4, mk_size]
    have := numsB_length s.leaders
    unfold numsB at this
    omega
  have hz5 : y5.size ≤ 100000 := by
    rw [hy5, mk_size]
    have := textsB_le s.locks 1000 (fun j hj => spec_lock hok j hj)
    unfold textsB at this
    show (num8 (s.locks.length : Int) ++ s.locks.flatMap (fun t : ByteArray => text8 t.data.toList)).length ≤ 100000
    omega
  have HE : Hid (y1 ++ y2 ++ y3 ++ y4 ++ y5 ++ y6 ++ y7 = ⟨(specB s).toArray⟩) := by
    show _ = _
    refine bytes_of _ _ ?_
    rw [add_list, add_list, add_list, add_list, add_list, add_list, hy1, hy2, hy3, hy4, hy5, hy6, hy7]
    unfold specB numsB textsB
    show _ ++ (num8 (s.parties.length : Int) ++ s.parties.flatMap partyB) ++ (num8 (s.arcs.length : Int) ++ s.arcs.flatMap arcB) ++ (num8 (s.leaders.length : Int) ++ s.leaders.flatMap num8) ++ (num8 (s.locks.length : Int) ++ s.locks.flatMap txt8) ++ _ ++ _ = _
    unfold txt8
    simp only [List.append_assoc]
  have HY2 : ∀ W, Below w.heap.size w W → Calls Try.prog 56 #[.slice a1 s.parties.length c1, .func (.func 57) #[] #[]] W fun e w' => e = .returned (.string y2) ∧ Below W.heap.size W w' := by
    intro W hW; rw [hy2]; exact wlist_party (L.parties.below hW) (by omega) (fun j hj => spec_party hok j hj)
  have HY3 : ∀ W, Below w.heap.size w W → Calls Try.prog 58 #[.slice a2 s.arcs.length c2, .func (.func 59) #[] #[]] W fun e w' => e = .returned (.string y3) ∧ Below W.heap.size W w' := by
    intro W hW; rw [hy3]; exact wlist_arc (L.arcs.below hW) (by omega) (fun j hj => spec_arc hok j hj)
  have HY4 : ∀ W, Below w.heap.size w W → Calls Try.prog 60 #[.slice a3 s.leaders.length c3, .func (.func 61) #[] #[]] W fun e w' => e = .returned (.string y4) ∧ Below W.heap.size W w' := by
    intro W hW; rw [hy4]; exact wlist_int (L.leaders.below hW) (by omega) (fun j hj => Int.le_refl _)
  have HY5 : ∀ W, Below w.heap.size w W → Calls Try.prog 62 #[.slice a4 s.locks.length c4, .func (.func 55) #[] #[]] W fun e w' => e = .returned (.string y5) ∧ Below W.heap.size W w' := by
    intro W hW; rw [hy5]; exact wlist_str (L.locks.below hW) (by omega) (fun j hj => spec_lock hok j hj)
  have sm1 : ¬ 9223372036854775807 < y1.size + y2.size := by omega
  have sm2 : ¬ 9223372036854775807 < y1.size + y2.size + y3.size := by omega
  have sm3 : ¬ 9223372036854775807 < y1.size + y2.size + y3.size + y4.size := by omega
  have sm4 : ¬ 9223372036854775807 < y1.size + y2.size + y3.size + y4.size + y5.size := by omega
  have sm5 : ¬ 9223372036854775807 < y1.size + y2.size + y3.size + y4.size + y5.size + y6.size := by omega
  have sm6 : ¬ 9223372036854775807 < y1.size + y2.size + y3.size + y4.size + y5.size + y6.size + y7.size := by omega
  replace HY1 := hide HY1
  replace HY2 := hide HY2
  replace HY3 := hide HY3
  replace HY4 := hide HY4
  replace HY5 := hide HY5
  replace HY6 := hide HY6
  replace HY7 := hide HY7
  generalize hg : w.heap.size = g
  clear hy1 hy2 hy3 hy4 hy5 hy6 hy7 hz1 hz2 hz3 hz4 hz5 hz6 hz7 n0 n1 n2 n3 n4 hok L
  go_enter Try.func26, Try.ntmps26
  go_wp2_with ((with_reducible refine wpList_at ?_); refine wpList_boxv (by rfl) 27 (.tmp 0) (by rfl) _ (by rfl) ?_; rw [hg]; intro w1 hg1 hz1 hb1; obtain ⟨q0, q1, q2, q3, q4, q5, q6⟩ := cells7_at hg1)
  have hB : Below w.heap.size w w1 := by rw [hg]; exact hb1
  clear hg1 hz1 hb1
  go_region_held3 (fun w' => w'.cell? ⟨g, 0, none⟩ = some (.string s.id) ∧ w'.cell? ⟨g, 1, none⟩ = some (.slice a1 s.parties.length c1) ∧ w'.cell? ⟨g, 2, none⟩ = some (.slice a2 s.arcs.length c2) ∧ w'.cell? ⟨g, 3, none⟩ = some (.slice a3 s.leaders.length c3) ∧ w'.cell? ⟨g, 4, none⟩ = some (.slice a4 s.locks.length c4) ∧ w'.cell? ⟨g, 5, none⟩ = some (.int .i64 s.start) ∧ w'.cell? ⟨g, 6, none⟩ = some (.int .i64 s.delta)) (first | (exact ⟨q0, q1, q2, q3, q4, q5, q6⟩) | (go_keep; done)) (first | (go_at_call 55; (with_reducible refine (HY1.out _).mono ?_); rintro e w9 ⟨rfl, hb9⟩; (first | (replace hB := hB.trans (hb9.mono hB.size)) | (replace hB := hB.drew.trans (hb9.mono hB.size))); replace q0 := cell_on hb9 q0; replace q1 := cell_on hb9 q1; replace q2 := cell_on hb9 q2; replace q3 := cell_on hb9 q3; replace q4 := cell_on hb9 q4; replace q5 := cell_on hb9 q5; replace q6 := cell_on hb9 q6) | (go_at_call 56; (with_reducible refine (HY2.out _ hB).mono ?_); rintro e w9 ⟨rfl, hb9⟩; (first | (replace hB := hB.trans (hb9.mono hB.size)) | (replace hB := hB.drew.trans (hb9.mono hB.size))); replace q0 := cell_on hb9 q0; replace q1 := cell_on hb9 q1; replace q2 := cell_on hb9 q2; replace q3 := cell_on hb9 q3; replace q4 := cell_on hb9 q4; replace q5 := cell_on hb9 q5; replace q6 := cell_on hb9 q6) | (go_at_call 58; (with_reducible refine (HY3.out _ hB).mono ?_); rintro e w9 ⟨rfl, hb9⟩; (first | (replace hB := hB.trans (hb9.mono hB.size)) | (replace hB := hB.drew.trans (hb9.mono hB.size))); replace q0 := cell_on hb9 q0; replace q1 := cell_on hb9 q1; replace q2 := cell_on hb9 q2; replace q3 := cell_on hb9 q3; replace q4 := cell_on hb9 q4; replace q5 := cell_on hb9 q5; replace q6 := cell_on hb9 q6) | (go_at_call 60; (with_reducible refine (HY4.out _ hB).mono ?_); rintro e w9 ⟨rfl, hb9⟩; (first | (replace hB := hB.trans (hb9.mono hB.size)) | (replace hB := hB.drew.trans (hb9.mono hB.size))); replace q0 := cell_on hb9 q0; replace q1 := cell_on hb9 q1; replace q2 := cell_on hb9 q2; replace q3 := cell_on hb9 q3; replace q4 := cell_on hb9 q4; replace q5 := cell_on hb9 q5; replace q6 := cell_on hb9 q6) | (go_at_call 62; (with_reducible refine (HY5.out _ hB).mono ?_); rintro e w9 ⟨rfl, hb9⟩; (first | (replace hB := hB.trans (hb9.mono hB.size)) | (replace hB := hB.drew.trans (hb9.mono hB.size))); replace q0 := cell_on hb9 q0; replace q1 := cell_on hb9 q1; replace q2 := cell_on hb9 q2; replace q3 := cell_on hb9 q3; replace q4 := cell_on hb9 q4; replace q5 := cell_on hb9 q5; replace q6 := cell_on hb9 q6) | (go_at_call 61; (with_reducible refine (HY6.out _).mono ?_); rintro e w9 ⟨rfl, hb9⟩; (first | (replace hB := hB.trans (hb9.mono hB.size)) | (replace hB := hB.drew.trans (hb9.mono hB.size))); replace q0 := cell_on hb9 q0; replace q1 := cell_on hb9 q1; replace q2 := cell_on hb9 q2; replace q3 := cell_on hb9 q3; replace q4 := cell_on hb9 q4; replace q5 := cell_on hb9 q5; replace q6 := cell_on hb9 q6) | (go_at_call 61; (with_reducible refine (HY7.out _).mono ?_); rintro e w9 ⟨rfl, hb9⟩; (first | (replace hB := hB.trans (hb9.mono hB.size)) | (replace hB := hB.drew.trans (hb9.mono hB.size))); replace q0 := cell_on hb9 q0; replace q1 := cell_on hb9 q1; replace q2 := cell_on hb9 q2; replace q3 := cell_on hb9 q3; replace q4 := cell_on hb9 q4; replace q5 := cell_on hb9 q5; replace q6 := cell_on hb9 q6))
  all_goals
    go_wp2
    go_ret
    rw [HE.out]
    rw [hg] at hB
    exact ⟨rfl, hB⟩

set_option maxRecDepth 10000 in
set_option maxHeartbeats 1000000 in
theorem bytes_yes {w : World} {v : Value} {s : SpecM} (hv : SpecW w v s) (hok : specOk s) : Calls Try.prog 9 #[v] w fun e w' => e = .returned (.string ⟨(specB s).toArray⟩) ∧ Below w.heap.size w w' := by
  have HC : ∀ W, Below w.heap.size w W → Calls Try.prog 7 #[v] W fun e w' => e = .returned (.bool true) ∧ Below W.heap.size W w' := fun W hW => by
    have := check_spec (hv.below hW); rw [told_yes hok] at this; exact this
  obtain ⟨a1, a2, a3, a4, c1, c2, c3, c4, rfl, L, C⟩ := hv
  have HW := fun W (hW : Below w.heap.size w W) => write_any (c1 := c1) (c2 := c2) (c3 := c3) (c4 := c4) (L.below hW) hok
  generalize (⟨(specB s).toArray⟩ : ByteArray) = y at HW ⊢
  generalize hg : w.heap.size = g
  unfold cells7 at HC HW
  replace HC := hide HC
  replace HW := hide HW
  clear L C hok
  go_enter Try.func9, Try.ntmps9
  go_wp2_with ((with_reducible refine wpList_at ?_); refine wpList_boxv (by rfl) 27 (.tmp 0) (by rfl) _ (by rfl) ?_; rw [hg]; intro w1 hg1 hz1 hb1; obtain ⟨q0, q1, q2, q3, q4, q5, q6⟩ := cells7_at hg1)
  have hB : Below w.heap.size w w1 := by rw [hg]; exact hb1
  clear hg1 hz1 hb1
  refine (HC.out w1 hB).mono ?_
  rintro e w2 ⟨rfl, hb2⟩
  replace hB := below_then hB hb2
  replace q0 := cell_on hb2 q0
  replace q1 := cell_on hb2 q1
  replace q2 := cell_on hb2 q2
  replace q3 := cell_on hb2 q3
  replace q4 := cell_on hb2 q4
  replace q5 := cell_on hb2 q5
  replace q6 := cell_on hb2 q6
  clear hb2 HC
  go_wp2_with fail
  refine (HW.out w2 hB).mono ?_
  rintro e w3 ⟨rfl, hb3⟩
  replace hB := below_then hB hb3
  clear hb3 HW
  go_wp2
  go_ret
  rw [hg] at hB
  exact ⟨rfl, hB⟩

set_option maxRecDepth 10000 in
set_option maxHeartbeats 1000000 in
theorem bytes_no {w : World} {v : Value} {s : SpecM} (hv : SpecW w v s) (hok : ¬ specOk s) : Calls Try.prog 9 #[v] w fun e w' => e = .returned (.string ⟨#[]⟩) ∧ Below w.heap.size w w' := by
  have HC : ∀ W, Below w.heap.size w W → Calls Try.prog 7 #[v] W fun e w' => e = .returned (.bool false) ∧ Below W.heap.size W w' := fun W hW => by
    have := check_spec (hv.below hW); rw [told_no hok] at this; exact this
  obtain ⟨a1, a2, a3, a4, c1, c2, c3, c4, rfl, L, C⟩ := hv
  generalize hg : w.heap.size = g
  unfold cells7 at HC
  replace HC := hide HC
  clear L C hok
  go_enter Try.func9, Try.ntmps9
  go_wp2_with ((with_reducible refine wpList_at ?_); refine wpList_boxv (by rfl) 27 (.tmp 0) (by rfl) _ (by rfl) ?_; rw [hg]; intro w1 hg1 hz1 hb1; obtain ⟨q0, q1, q2, q3, q4, q5, q6⟩ := cells7_at hg1)
  have hB : Below w.heap.size w w1 := by rw [hg]; exact hb1
  clear hg1 hz1 hb1
  refine (HC.out w1 hB).mono ?_
  rintro e w2 ⟨rfl, hb2⟩
  replace hB := below_then hB hb2
  clear hb2 HC
  go_wp2
  go_ret
  rw [hg] at hB
  exact ⟨rfl, hB⟩

end Go.Proofs.Ythdnldbkpllciaa
