/-
  Chapter 4's own example (awake).
-/
import Derived.Test.YtpngohaheobkgaaZ30
import Derived.Test.YtpngohaheobkgaaSpRt
import Derived.Test.YtpngohaheobkgaaSpWb
import Derived.Test.YtpngohaheobkgaaZ29
import Derived.Test.YtpngohaheobkgaaZ41
import Derived.Test.YtpngohaheobkgaaZ00
import Derived.Test.YtpngohaheobkgaaZ04
import Derived.Test.YtpngohaheobkgaaZ12
import Derived.Test.YtpngohaheobkgaaZ24
import Derived.Test.YtpngohaheobkgaaZ20
namespace Go.Proofs.Ytpngohaheobkgaa
open Go.RowKit

theorem noSpec_bad : ¬ specOk noSpec := fun h => by have : 1 ≤ (0 : Nat) := h.1.1; omega
theorem no_acc : ¬ acc [] := fun h => by have := h.2.1.1; revert this; decide
/-- A swap that may be: its bytes are read as it. -/
theorem back_read {s : SpecM} (hok : specOk s) (hl : (specB s).length ≤ 1099511627776) (w : World) : Calls Try.prog 25 #[.string ⟨(specB s).toArray⟩] w fun e w' => ∃ v, e = .returned (.tuple #[v, .int .i64 0]) ∧ SpecW w' v s ∧ Below w.heap.size w w' := by
  obtain ⟨h1, h2⟩ := read_back s hok
  have := read_any ⟨(specB s).toArray⟩ (by rw [mk_size]; exact hl) w true (told_yes ⟨h2, by show specOk (rdM (specB s)); rw [h1]; exact hok⟩)
  refine this.mono ?_
  rintro e w' ⟨v, he, hv, hb⟩
  exact ⟨v, he, by have : rdM (specB s) = s := h1; rw [show ((⟨(specB s).toArray⟩ : ByteArray).data.toList) = specB s from rfl] at hv; simp only [cond_true] at hv; rw [this] at hv; exact hv, hb⟩
theorem read_none (w : World) : Calls Try.prog 25 #[.string ⟨#[]⟩] w fun e w' => ∃ v, e = .returned (.tuple #[v, .int .i64 2]) ∧ SpecW w' v noSpec ∧ Below w.heap.size w w' :=
  read_any ⟨#[]⟩ (by decide) w false (told_no no_acc)
theorem check_none (w : World) : Calls Try.prog 24 #[.agg #[.string ⟨#[]⟩, .slice none 0 0, .slice none 0 0, .slice none 0 0, .slice none 0 0, .int .i64 0, .int .i64 0]] w fun e w' => e = .returned (.bool false) ∧ Below w.heap.size w w' := by
  have := check_spec (no_spec w); rw [told_no noSpec_bad] at this; exact this
theorem flat_len {α : Type} (f : α → List UInt8) (l : List α) (m : Nat) (h : ∀ x ∈ l, (f x).length = m) : (l.flatMap f).length = l.length * m := by
  induction l with
  | nil => simp
  | cons x l ih =>
    rw [List.flatMap_cons, List.length_append, ih (fun y hy => h y (List.mem_cons_of_mem _ hy)), h x List.mem_cons_self, List.length_cons, Nat.succ_mul]; omega
theorem arcs_assets (l : List ArcM) (b g : Nat) : ∀ x ∈ l.mapIdx (deck b g), x.asset.size = 4 := by
  intro x hx
  obtain ⟨i, hi, rfl⟩ := List.mem_mapIdx.1 hx
  unfold deck
  simp only
  split <;> rfl
theorem ring_bytes (n : Nat) (h2 : 2 ≤ n) (h6 : n ≤ 6) (st de : Int) : (specB (ringM n st de)).length = 8 + 4 + 8 + n * 46 + 8 + n * 44 + 8 + 8 + 8 + 8 + 32 + 16 := by
  unfold specB ringM
  simp only [List.length_append, text8_length, num8_length, numsB, textsB]
  rw [flat_len partyB _ 46, flat_len arcB _ 44, withKeys_len, accs_len, (ring_arcs n h2 h6).2]
  · have e1 : (locksL 1).flatMap (fun t => text8 t.data.toList) = text8 (lockOf 0).data.toList := by simp [locksL]
    have e2 : (lockOf 0).data.toList.length = 32 := by rw [len_list]; exact lockOf_size 0
    have e3 : ringId.data.toList.length = 4 := rfl
    rw [e1, text8_length, e2, e3]
    simp [num8_length]
  · intro x hx
    have h4 : x.asset.size = 4 := arcs_assets _ _ _ x hx
    unfold arcB
    simp only [List.length_append, num8_length, text8_length]
    rw [len_list, h4]
  · intro x hx
    obtain ⟨i, hi, rfl⟩ := List.mem_mapIdx.1 hx
    have hn : i < n := by rw [accs_len] at hi; exact hi
    have ha : ((accs n)[i]).acc = accB i := by
      have := accs_acc n i hn
      rw [List.getD_eq_getElem?_getD, List.getElem?_eq_getElem hi] at this; exact this
    unfold partyB
    simp only [List.length_append, text8_length, textsB, num8_length]
    have e1 : (keysL i 1).flatMap (fun t => text8 t.data.toList) = text8 (keyOf i 0).data.toList := by simp [keysL]
    rw [e1, text8_length, len_list, len_list, ha, accB_size, keyOf_size]

set_option maxRecDepth 10000 in
set_option maxHeartbeats 2000000 in
theorem awake4_any (w : World) : Calls Try.prog 23 #[] w fun e w' => e = .returned (.bool true) ∧ Below w.heap.size w w' := by
  obtain ⟨S, hS, hok, hlen⟩ : ∃ S, S = ringM 2 5 6 ∧ specOk S ∧ (specB S).length ≤ 1099511627776 := ⟨_, rfl, ring_ok 2 (by omega) (by omega) 5 6 (by omega) (by omega) (by omega) (by omega), by rw [ring_bytes 2 (by omega) (by omega)]; omega⟩
  have HR : ∀ W, Calls Try.prog 28 #[.int .i64 2, .int .i64 5, .int .i64 6] W fun e w' => ∃ v, e = .returned v ∧ OwnSpec w' W.heap.size v S ∧ Below W.heap.size W w' := fun W => by rw [hS]; exact ring_any 2 (by omega) (by omega) 5 6 W
  have HC : told (specOk S) = true := told_yes hok
  have hsane := SaneS.of_ok hok
  clear hS
  obtain ⟨g, hg⟩ : ∃ g, w.heap.size = g := ⟨_, rfl⟩
  replace HC := hide HC
  replace hok := hide hok
  replace hlen := hide hlen
  go_enter Try.func23, Try.ntmps23
  go_wp2_with fail
  refine (HR _).mono ?_
  rintro e w1 ⟨v, rfl, hO1, hb1⟩
  have hW1 := hO1.wide hsane
  obtain ⟨cs, rfl, h7⟩ := hW1.seven
  clear hO1 HR
  go_wp2_with (first
    | ((with_reducible refine wpList_at ?_); refine wpList_varS (by rfl) (by rfl) (by rfl) (.tmp 1) (.tmp 6) (by rfl) cs (by rfl) (by rfl) h7 ?_; intro w2 hv2 hz2 hb2)
    | ((with_reducible refine wpList_at ?_); refine wpList_loadV (by rfl) (.tmp 1) (by rfl) _ cs (by rfl) hv2 h7 ?_))
  have hW2 := hW1.below hb2
  have hB2 := below_then hb1 hb2
  obtain ⟨x, hx⟩ : ∃ x : ByteArray, x = ⟨(specB S).toArray⟩ := ⟨_, rfl⟩
  have HY := bytes_yes hW2 hok.out
  have HD : ∀ W, Calls Try.prog 25 #[.string x] W fun e w' => ∃ v, e = .returned (.tuple #[v, .int .i64 0]) ∧ SpecW w' v S ∧ Below W.heap.size W w' := fun W => by rw [hx]; exact back_read hok.out hlen.out W
  rw [← hx] at HY
  clear hx
  generalize w1.heap.size = g1 at hv2 hz2 ⊢
  refine HY.mono ?_
  rintro e w3 ⟨rfl, hb3⟩
  have hB3 := below_then hB2 hb3
  clear HY hW1
  go_wp2_with fail
  refine (HD _).mono ?_
  rintro e w4 ⟨v2, rfl, hX4, hb4⟩
  have hB4 := below_then hB3 hb4
  have hW4 := (hW2.below hb3).below hb4
  have hv4 := (hv2.below hb3).below hb4
  obtain ⟨cs2, rfl, h72⟩ := hX4.seven
  clear hW2 hv2 hz2 HD hb1 hb2 hb3 hb4 hB2 hB3
  go_wp2_with ((with_reducible refine wpList_at ?_); refine wpList_varS (by rfl) (by rfl) (by rfl) (.tmp 2) (.tmp 11) (by rfl) cs2 (by rfl) (by rfl) h72 ?_; intro w5 hv5 hz5 hb5)
  have hB5 := below_then hB4 hb5
  have hW5 := hW4.below hb5
  have hX5 := hX4.below hb5
  have hu5 := hv4.below hb5
  clear hW4 hX4 hv4 hB4
  generalize w4.heap.size = g2 at hv5 hz5 ⊢
  refine (read_none _).mono ?_
  rintro e w6 ⟨v3, rfl, hN6, hb6⟩
  have hB6 := below_then hB5 hb6
  have hW6 := hW5.below hb6
  have hX6 := hX5.below hb6
  have hu6 := hu5.below hb6
  have hv6 := hv5.below hb6
  obtain ⟨cs3, rfl, h73⟩ := hN6.seven
  clear hW5 hX5 hu5 hv5 hB5 hb5 hb6
  go_wp2_with (first
    | ((with_reducible refine wpList_at ?_); refine wpList_varS (by rfl) (by rfl) (by rfl) (.tmp 4) (.tmp 15) (by rfl) cs3 (by rfl) (by rfl) h73 ?_; intro w7 hv7 hz7 hb7; have hu7 := hu6.below hb7)
    | ((with_reducible refine wpList_at ?_); refine wpList_loadV (by rfl) (.tmp 1) (by rfl) _ cs (by rfl) hu7 h7 ?_))
  have hB7 := below_then hB6 hb7
  have hW7 := hW6.below hb7
  have hX7 := hX6.below hb7
  have hq7 := hv6.below hb7
  clear hW6 hX6 hu6 hv6 hB6 hb7 hN6 hv7
  have HK := check_spec hW7
  rw [HC.out] at HK
  refine HK.mono ?_
  rintro e w8 ⟨rfl, hb8⟩
  have hB8 := below_then hB7 hb8
  have hW8 := hW7.below hb8
  have hX8 := hX7.below hb8
  have hu8 := hu7.below hb8
  have hq8 := hq7.below hb8
  clear hW7 hX7 hu7 hq7 hB7 hb8 HK
  go_wp2_with (first
    | ((with_reducible refine wpList_at ?_); refine wpList_loadV (by rfl) (.tmp 1) (by rfl) _ cs (by rfl) hu8 h7 ?_)
    | ((with_reducible refine wpList_at ?_); refine wpList_loadV (by rfl) (.tmp 2) (by rfl) _ cs2 (by rfl) hq8 h72 ?_))
  have HE := same_any hW8.toV hX8.toV
  rw [told_yes (rfl : S = S)] at HE
  refine HE.mono ?_
  rintro e w9 ⟨rfl, hb9⟩
  have hB9 := below_then hB8 hb9
  clear hW8 hX8 hu8 hq8 hB8 hb9 HE
  go_wp2_with fail
  refine (check_none _).mono ?_
  rintro e w10 ⟨rfl, hb10⟩
  have hB10 := below_then hB9 hb10
  go_wp2
  go_ret
  exact ⟨rfl, hB10⟩

end Go.Proofs.Ytpngohaheobkgaa

/-
  The walk of SpecAll.
-/
namespace Go.Proofs.Ytpngohaheobkgaa
open Go.RowKit

attribute [local go_sem ↓] Go.wp_at_zero Go.wp_at_succ

/-- What the document reads is what the program reads. -/
theorem ref_acc (l : List UInt8) : told (refE l = ([], false) ∧ specOk (refM l)) = told (acc l) := by
  obtain ⟨h1, h2⟩ := ref_same l
  cases hb : (rdE l).2
  · obtain ⟨e1, e2⟩ := h1 hb
    rw [e1, e2]; rfl
  · have h3 := h2 hb
    rw [told_no (fun h => by rw [h.1] at h3; exact Bool.noConfusion h3), told_no (fun h => by have h4 := h.1; rw [h4] at hb; exact Bool.noConfusion hb)]
theorem ref_mod (l : List UInt8) (h : acc l) : refM l = rdM l := ((ref_same l).1 (by rw [h.1])).1

def RefReads : Prop := ∀ (b : ByteArray) (w : World) (ok : Bool), told (refE b.data.toList = ([], false) ∧ specOk (refM b.data.toList)) = ok →
  Calls Try.prog 27 #[.string b] w fun e w' => ∃ v, e = .returned (.tuple #[v, .int .i64 (bif ok then 0 else 2)]) ∧ SpecW w' v (bif ok then refM b.data.toList else noSpec) ∧ Below w.heap.size w w'
/-- Both read the same. -/
theorem reads_letter (HREF : RefReads) (s : ByteArray) (hs : s.size ≤ 3000) : ∃ (M : SpecM) (k : Int), (∀ W, Calls Try.prog 25 #[.string s] W fun e w' => ∃ v, e = .returned (.tuple #[v, .int .i64 k]) ∧ SpecW w' v M ∧ Below W.heap.size W w')
    ∧ ∀ W, Calls Try.prog 27 #[.string s] W fun e w' => ∃ v, e = .returned (.tuple #[v, .int .i64 k]) ∧ SpecW w' v M ∧ Below W.heap.size W w' := by
  have hs' : s.size ≤ 1099511627776 := by omega
  by_cases h : acc s.data.toList
  · refine ⟨rdM s.data.toList, 0, fun W => read_any s hs' W true (told_yes h), fun W => ?_⟩
    have := HREF s W true (by rw [ref_acc, told_yes h])
    simp only [cond_true, ref_mod _ h] at this
    exact this
  · exact ⟨noSpec, 2, fun W => read_any s hs' W false (told_no h), fun W => HREF s W false (by rw [ref_acc, told_no h])⟩

/-- A swap in a variable, read in a region that draws its order. -/
theorem yields_loadV {ops : Array Oper} {o : Oper} {a : Act} {S : World → Prop} (hw : Region.wanted o (yielded ops a.tmps) = true) (x : Operand) (ho : o.op = .load 27 x) (g : Nat) (cs : Array Value) (hx : a.eval x = .pointer (some ⟨g, 0, none⟩)) (h7 : Seven cs) (hS : ∀ W, S W → SvAt W g cs) : YieldsIf Try.prog ops S o (.agg cs) a :=
  .inl ⟨hw, fun W hW => by
    unfold execOp
    simp only [ho, hx, Instr.loadAt, Instr.sureAddr, Sem.run_bind, Sem.run_pure, Result.andThen_ok, run_loadVar_row W g 27 27 cs (0, 0) (.struct _) (hS W hW) Try.underlying27 rfl (by rw [h7.1]; exact sizeSpecK)]⟩

end Go.Proofs.Ytpngohaheobkgaa
