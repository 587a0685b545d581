/-
  The document's Same of chapter 4: numbers, texts.
-/
import Derived.Test.YtccaaaifhiigcaaGreatZ01
import Derived.BigQuiet
import Derived.Deep.QuietTactic
namespace Go.Proofs.YtccaaaifhiigcaaGreat
open Go.RowKit

theorem all_getD {α : Type} (d : α) {l k : List α} (hl : l.length = k.length) (h : ∀ j, j < l.length → l.getD j d = k.getD j d) : l = k := by
  apply List.ext_getElem hl
  intro j h1 h2
  have := h j h1
  rw [List.getD_eq_getElem?_getD, List.getD_eq_getElem?_getD, List.getElem?_eq_getElem h1, List.getElem?_eq_getElem h2] at this
  exact this
theorem neq_list (a b : ByteArray) : (a.toList != b.toList) = !(a.data.toList == b.data.toList) := by
  rw [bne, same_list]
theorem text_same {a b : ByteArray} (h : a = b) : (a.toList == b.toList) = true := by rw [h]; exact beq_self_eq_true _
theorem text_other {a b : ByteArray} (h : a ≠ b) : (a.toList == b.toList) = false := by
  rw [same_list, beq_eq_false_iff_ne]
  exact fun e => h (ByteArray.ext (Array.toList_inj.1 e))
theorem text_nsame {a b : ByteArray} (h : a = b) : (a.toList != b.toList) = false := by rw [bne, text_same h]; rfl
theorem text_nother {a b : ByteArray} (h : a ≠ b) : (a.toList != b.toList) = true := by rw [bne, text_other h]; rfl

set_option maxRecDepth 10000 in
set_option maxHeartbeats 1000000 in
theorem refints_any {w : World} {a b : Option Addr} {c d : Nat} {l k : List Int} (ha : Ints w a l.length l) (hb : Ints w b k.length k) :
    Calls Tryz.prog 34 #[.slice a l.length c, .slice b k.length d] w fun e w' => e = .returned (.bool (told (l = k))) ∧ Drew w w' := by
  obtain ⟨r, hr⟩ : ∃ r, told (l = k) = r := ⟨_, rfl⟩
  have HR : Hid (told (l = k) = r) := hr
  rw [hr]
  clear hr
  have hl1 := ha.2.1
  have hl2 := hb.2.1
  unfold maxLen at hl1 hl2
  by_cases hne : l.length ≠ k.length
  · have n1 := nat_ne hne
    go_enter Tryz.func34, Tryz.ntmps34
    go_wp2
    go_ret
    exact ⟨ret_bool (by rw [← HR.out, told_no (fun h => hne (by rw [h]))]), Drew.refl _⟩
  have hn : l.length = k.length := by omega
  have HN : Hid (l.length = k.length) := hn
  have n1 := nat_same hn
  generalize hln : l.length = n at *
  generalize hkn : k.length = m at *
  have HLN : Hid (l.length = n) := hln
  have HKN : Hid (k.length = m) := hkn
  have HA : Hid (Ints w a n l) := ha
  have HB : Hid (Ints w b m k) := hb
  clear hne hn hln hkn ha hb
  go_enter Tryz.func34, Tryz.ntmps34
  go_wp2
  go_loopw [5] (fun i wr => ∃ j : Nat, j ≤ n ∧ i = .int .i64 j ∧ Hid (∀ i, i < j → l.getD i 0 = k.getD i 0) ∧ Drew w wr) (fun i _ => n - (intOf i).toNat)
  case atStart => exact ⟨0, by omega, rfl, fun j hj => absurd hj (by omega), Drew.refl _⟩
  case round =>
    obtain ⟨j, hj, rfl, HO, hst⟩ := hrel
    by_cases hlt : j < n
    · have j1 : (j : Int) < (n : Int) := by omega
      have j2 : (j : Int) < (m : Int) := by have := HN.out; omega
      obtain ⟨b1, o1, rfl, d1⟩ := HA.out.2.2.2 j hlt
      obtain ⟨b2, o2, rfl, d2⟩ := HB.out.2.2.2 j (by omega)
      replace d1 := hst.cell d1
      replace d2 := hst.cell d2
      obtain ⟨x, hx⟩ : ∃ x, l.getD j 0 = x := ⟨_, rfl⟩
      obtain ⟨y, hy⟩ : ∃ y, k.getD j 0 = y := ⟨_, rfl⟩
      rw [hx] at d1
      rw [hy] at d2
      have HX : Hid (l.getD j 0 = x) := hx
      have HY : Hid (k.getD j 0 = y) := hy
      clear hx hy
      by_cases hxy : x = y
      · have t : (x != y) = false := by rw [bne_eq_false_iff_eq]; exact hxy
        have HXY : Hid (x = y) := hxy
        clear hxy
        go_wp2
        go_quiet (fail)
        replace hst := hst.drewN nq
        generalize wr.drewN nq = w3 at hst ⊢
        go_wp2
        go_roundw
        case rel =>
          refine ⟨j + 1, by omega, by go_num, ?_, hst⟩
          intro i hi
          by_cases hij : i = j
          · subst hij; rw [HX.out, HY.out, HXY.out]
          · exact HO.out i (by omega)
        case measure => simp [intOf]; omega
      · have t : (x != y) = true := by rw [bne_iff_ne]; exact hxy
        go_wp2
        go_quiet (fail)
        go_wp2
        go_ret
        exact ⟨ret_bool (by rw [← HR.out, told_no (fun h => hxy (by rw [← HX.out, ← HY.out, h]))]), hst.drewN _⟩
    · have j1 : ¬ (j : Int) < (n : Int) := by omega
      go_wp2
      go_ret
      exact ⟨ret_bool (by rw [← HR.out, told_yes (all_getD 0 (by rw [HLN.out, HKN.out]; exact HN.out) (fun i hi => HO.out i (by rw [HLN.out] at hi; omega)))]), hst⟩

set_option maxRecDepth 10000 in
set_option maxHeartbeats 1000000 in
theorem reftexts_any {w : World} {a b : Option Addr} {c d : Nat} {l k : List ByteArray} (ha : Strs w a l.length l) (hb : Strs w b k.length k) :
    Calls Tryz.prog 35 #[.slice a l.length c, .slice b k.length d] w fun e w' => e = .returned (.bool (told (l = k))) ∧ Drew w w' := by
  obtain ⟨r, hr⟩ : ∃ r, told (l = k) = r := ⟨_, rfl⟩
  have HR : Hid (told (l = k) = r) := hr
  rw [hr]
  clear hr
  have hl1 := ha.2.1
  have hl2 := hb.2.1
  unfold maxLen at hl1 hl2
  by_cases hne : l.length ≠ k.length
  · have n1 := nat_ne hne
    go_enter Tryz.func35, Tryz.ntmps35
    go_wp2
    go_ret
    exact ⟨ret_bool (by rw [← HR.out, told_no (fun h => hne (by rw [h]))]), Drew.refl _⟩
  have hn : l.length = k.length := by omega
  have HN : Hid (l.length = k.length) := hn
  have n1 := nat_same hn
  generalize hln : l.length = n at *
  generalize hkn : k.length = m at *
  have HLN : Hid (l.length = n) := hln
  have HKN : Hid (k.length = m) := hkn
  have HA : Hid (Strs w a n l) := ha
  have HB : Hid (Strs w b m k) := hb
  clear hne hn hln hkn ha hb
  go_enter Tryz.func35, Tryz.ntmps35
  go_wp2
  go_loopw [5] (fun i wr => ∃ j : Nat, j ≤ n ∧ i = .int .i64 j ∧ Hid (∀ i, i < j → l.getD i ByteArray.empty = k.getD i ByteArray.empty) ∧ Drew w wr) (fun i _ => n - (intOf i).toNat)
  case atStart => exact ⟨0, by omega, rfl, fun j hj => absurd hj (by omega), Drew.refl _⟩
  case round =>
    obtain ⟨j, hj, rfl, HO, hst⟩ := hrel
    by_cases hlt : j < n
    · have j1 : (j : Int) < (n : Int) := by omega
      have j2 : (j : Int) < (m : Int) := by have := HN.out; omega
      obtain ⟨b1, o1, rfl, d1⟩ := HA.out.2.2.2 j hlt
      obtain ⟨b2, o2, rfl, d2⟩ := HB.out.2.2.2 j (by omega)
      replace d1 := hst.cell d1
      replace d2 := hst.cell d2
      obtain ⟨x, hx⟩ : ∃ x, l.getD j ByteArray.empty = x := ⟨_, rfl⟩
      obtain ⟨y, hy⟩ : ∃ y, k.getD j ByteArray.empty = y := ⟨_, rfl⟩
      rw [hx] at d1
      rw [hy] at d2
      have HX : Hid (l.getD j ByteArray.empty = x) := hx
      have HY : Hid (k.getD j ByteArray.empty = y) := hy
      clear hx hy
      by_cases hxy : x = y
      · have t : (x.toList == y.toList) = true := text_same hxy
        have HXY : Hid (x = y) := hxy
        clear hxy
        go_wp2
        go_quiet (fail)
        replace hst := hst.drewN nq
        generalize wr.drewN nq = w3 at hst ⊢
        go_wp2
        go_roundw
        case rel =>
          refine ⟨j + 1, by omega, by go_num, ?_, hst⟩
          intro i hi
          by_cases hij : i = j
          · subst hij; rw [HX.out, HY.out, HXY.out]
          · exact HO.out i (by omega)
        case measure => simp [intOf]; omega
      · have t : (x.toList == y.toList) = false := text_other hxy
        go_wp2
        go_quiet (fail)
        go_wp2
        go_ret
        exact ⟨ret_bool (by rw [← HR.out, told_no (fun h => hxy (by rw [← HX.out, ← HY.out, h]))]), hst.drewN _⟩
    · have j1 : ¬ (j : Int) < (n : Int) := by omega
      go_wp2
      go_ret
      exact ⟨ret_bool (by rw [← HR.out, told_yes (all_getD ByteArray.empty (by rw [HLN.out, HKN.out]; exact HN.out) (fun i hi => HO.out i (by rw [HLN.out] at hi; omega)))]), hst⟩

end Go.Proofs.YtccaaaifhiigcaaGreat

/-
  Hashkeys: plain data, and what memory holds of them; below, and whether one fits.
-/
namespace Go.Proofs.YtccaaaifhiigcaaGreat
open Go.RowKit

structure HkM where
  lock : Int
  secret : ByteArray
  path : List Int
  sigs : List ByteArray
def noHk : HkM := ⟨0, ⟨#[]⟩, [], []⟩
def hcells (pa sa : Option Addr) (pc sc : Nat) (K : HkM) : Array Value := #[.int .i64 K.lock, .string K.secret, .slice pa K.path.length pc, .slice sa K.sigs.length sc]
/-- What the four cells of a key lead to. -/
structure HkL (w : World) (pa sa : Option Addr) (pc sc : Nat) (K : HkM) : Prop where
  lock : In64 K.lock
  secret : K.secret.size ≤ maxLen
  path : Ints w pa K.path.length K.path
  sigs : Strs w sa K.sigs.length K.sigs
  pc1 : K.path.length ≤ pc
  pc2 : pc ≤ maxLen
  sc1 : K.sigs.length ≤ sc
  sc2 : sc ≤ maxLen
  pn : pa = none → pc = 0
  sn : sa = none → sc = 0
/-- The value v is the key K. -/
def HkV (w : World) (v : Value) (K : HkM) : Prop := ∃ pa sa pc sc, v = .agg (hcells pa sa pc sc K) ∧ HkL w pa sa pc sc K
theorem HkL.below {w w' : World} {pa sa : Option Addr} {pc sc : Nat} {K : HkM} (h : HkL w pa sa pc sc K) (hb : Below w.heap.size w w') : HkL w' pa sa pc sc K :=
  ⟨h.lock, h.secret, h.path.below hb, h.sigs.below hb, h.pc1, h.pc2, h.sc1, h.sc2, h.pn, h.sn⟩
theorem HkV.below {w w' : World} {v : Value} {K : HkM} (h : HkV w v K) (hb : Below w.heap.size w w') : HkV w' v K := by
  obtain ⟨pa, sa, pc, sc, h1, h2⟩ := h
  exact ⟨pa, sa, pc, sc, h1, h2.below hb⟩
theorem hcells_at {w : World} {g : Nat} {t : TypeId} {pa sa : Option Addr} {pc sc : Nat} {K : HkM} (h : w.heap[g]? = some (.cells (hcells pa sa pc sc K) t (0, 0))) :
    w.cell? ⟨g, 0, none⟩ = some (.int .i64 K.lock) ∧ w.cell? ⟨g, 1, none⟩ = some (.string K.secret) ∧ w.cell? ⟨g, 2, none⟩ = some (.slice pa K.path.length pc) ∧ w.cell? ⟨g, 3, none⟩ = some (.slice sa K.sigs.length sc) := by
  refine ⟨?_, ?_, ?_, ?_⟩ <;> (rw [cell_of_row w g _ _ t (0, 0) h]; rfl)
/-- What P7.3 asks. -/
def hkFits (K : HkM) : Prop := (0 ≤ K.lock ∧ K.lock < 3) ∧ K.secret.size ≤ 64 ∧ 0 < K.path.length ∧ K.path.length ≤ 6 ∧ K.sigs.length = K.path.length ∧ (∀ j, j < K.path.length → 0 ≤ K.path.getD j 0 ∧ K.path.getD j 0 < 6) ∧ ∀ j, j < K.sigs.length → (K.sigs.getD j ByteArray.empty).size = 512

set_option maxHeartbeats 400000 in
theorem hbelow_any (v b : Int) (w : World) : Calls Tryz.prog 37 #[.int .i64 v, .int .i64 b] w fun e w' => e = .returned (.bool (told (0 ≤ v ∧ v < b))) ∧ w' = w := by
  obtain ⟨r, hr⟩ : ∃ r, told (0 ≤ v ∧ v < b) = r := ⟨_, rfl⟩
  rw [hr]
  replace hr := hide hr
  by_cases h1 : 0 ≤ v
  · by_cases h2 : v < b
    · have hf : Hid (r = true) := by show _ = _; rw [← hr.out, told_yes ⟨h1, h2⟩]
      go_enter Tryz.func37, Tryz.ntmps37
      go_wp2
      go_ret
      exact ⟨ret_bool hf.out.symm, rfl⟩
    · have hf : Hid (r = false) := by show _ = _; rw [← hr.out, told_no (fun h => h2 h.2)]
      go_enter Tryz.func37, Tryz.ntmps37
      go_wp2
      go_ret
      exact ⟨ret_bool hf.out.symm, rfl⟩
  · have hf : Hid (r = false) := by show _ = _; rw [← hr.out, told_no (fun h => h1 h.1)]
    go_enter Tryz.func37, Tryz.ntmps37
    go_wp2
    go_ret
    exact ⟨ret_bool hf.out.symm, rfl⟩

set_option maxHeartbeats 400000 in
theorem fits1_any (v : Int) (w : World) : Calls Tryz.prog 70 #[.int .i64 v] w fun e w' => e = .returned (.bool (!told (0 ≤ v ∧ v < 6))) ∧ w' = w := by
  have HB := hide (hbelow_any v 6)
  go_enter Tryz.func70, Tryz.ntmps70
  go_wp2_with fail
  refine (HB.out _).mono ?_
  rintro e w0 ⟨rfl, hw0⟩
  subst w0
  go_wp2
  go_ret
  exact ⟨rfl, rfl⟩

set_option maxHeartbeats 400000 in
theorem fits2_any (x : ByteArray) (w : World) : Calls Tryz.prog 72 #[.string x] w fun e w' => e = .returned (.bool (!told (x.size = 512))) ∧ w' = w := by
  obtain ⟨r, hr⟩ : ∃ r, (!told (x.size = 512)) = r := ⟨_, rfl⟩
  rw [hr]
  replace hr := hide hr
  by_cases h : x.size = 512
  · have t : ((x.size : Int) != 512) = false := by rw [h]; rfl
    have hf : Hid (r = false) := by show _ = _; rw [← hr.out, told_yes h]; rfl
    clear h
    go_enter Tryz.func72, Tryz.ntmps72
    go_wp2
    go_ret
    exact ⟨ret_bool hf.out.symm, rfl⟩
  · have t : ((x.size : Int) != 512) = true := by rw [bne_iff_ne]; omega
    have hf : Hid (r = true) := by show _ = _; rw [← hr.out, told_no h]; rfl
    clear h
    go_enter Tryz.func72, Tryz.ntmps72
    go_wp2
    go_ret
    exact ⟨ret_bool hf.out.symm, rfl⟩

set_option maxRecDepth 10000 in
set_option maxHeartbeats 1000000 in
theorem hidx_ints {w : World} {a : Option Addr} {c : Nat} {l : List Int} (h : Ints w a l.length l) (A : Prop) (hA : A ↔ ∀ j, j < l.length → (0 ≤ l.getD j 0 ∧ l.getD j 0 < 6)) :
    Calls Tryz.prog 109 #[.slice a l.length c, .func (.func 70) #[] #[]] w fun e w' => ∃ r : Int, e = .returned (.int .i64 r) ∧ (0 ≤ r ↔ ¬ A) ∧ w' = w := by
  obtain ⟨n, hn⟩ : ∃ n, l.length = n := ⟨_, rfl⟩
  rw [hn] at h hA ⊢
  replace hA := hide hA
  have hnm := h.2.1
  unfold maxLen at hnm
  replace h := hide h
  replace hn := hide hn
  have HF := hide fits1_any
  go_enter Tryz.func109, Tryz.ntmps109
  go_wp2
  go_loopw [8] (fun i wr => ∃ j : Nat, j ≤ n ∧ i = .int .i64 j ∧ Hid (∀ j', j' < j → (0 ≤ l.getD j' 0 ∧ l.getD j' 0 < 6)) ∧ wr = w) (fun i _ => n - (intOf i).toNat)
  case atStart => exact ⟨0, by omega, rfl, fun j hj => absurd hj (by omega), rfl⟩
  case round =>
    obtain ⟨j, hj, rfl, HO, hwr⟩ := hrel
    subst wr
    by_cases hlt : j < n
    · have j1 : (j : Int) < (n : Int) := by omega
      obtain ⟨b1, o1, rfl, d1⟩ := h.out.2.2.2 j hlt
      obtain ⟨y, hy⟩ : ∃ y, l.getD j 0 = y := ⟨_, rfl⟩
      rw [hy] at d1
      replace hy := hide hy
      go_wp2_with fail
      refine (HF.out y w).mono ?_
      rintro e w0 ⟨rfl, hw0⟩
      subst w0
      by_cases hx : 0 ≤ y ∧ y < 6
      · rw [told_yes hx]
        replace hx := hide hx
        go_wp2
        go_roundw
        case rel =>
          refine ⟨j + 1, by omega, by go_num, fun i hi => ?_, trivial⟩
          by_cases hij : i = j
          · subst hij; rw [hy.out]; exact hx.out
          · exact HO.out i (by omega)
        case measure => simp [intOf]; omega
      · rw [told_no hx]
        have hno : Hid (¬ A) := fun k => hx (by have := hA.out.1 k j hlt; rw [hy.out] at this; exact this)
        clear hx
        go_wp2
        go_ret
        exact ⟨_, rfl, ⟨fun _ => hno.out, fun _ => by omega⟩, rfl⟩
    · have j1 : ¬ (j : Int) < (n : Int) := by omega
      have hyes : Hid A := hA.out.2 (fun i hi => HO.out i (by omega))
      go_wp2
      go_ret
      exact ⟨_, rfl, ⟨fun k => absurd k (by omega), fun k => absurd hyes.out k⟩, rfl⟩

set_option maxRecDepth 10000 in
set_option maxHeartbeats 400000 in
theorem hcont_ints {w : World} {a : Option Addr} {c : Nat} {l : List Int} (h : Ints w a l.length l) :
    Calls Tryz.prog 69 #[.slice a l.length c, .func (.func 70) #[] #[]] w fun e w' => e = .returned (.bool (!told (∀ j, j < l.length → (0 ≤ l.getD j 0 ∧ l.getD j 0 < 6)))) ∧ w' = w := by
  obtain ⟨A, hA⟩ : ∃ A : Prop, A ↔ ∀ j, j < l.length → (0 ≤ l.getD j 0 ∧ l.getD j 0 < 6) := ⟨_, Iff.rfl⟩
  have HI := hidx_ints (c := c) h A hA
  obtain ⟨t, ht⟩ : ∃ t, told (∀ j, j < l.length → (0 ≤ l.getD j 0 ∧ l.getD j 0 < 6)) = t := ⟨_, rfl⟩
  rw [ht]
  have HT : Hid (∀ r : Int, (0 ≤ r ↔ ¬ A) → decide (0 ≤ r) = !t) := fun r hr => by
    rw [← ht]
    by_cases k : A
    · rw [told_yes (hA.1 k)]; exact decide_eq_false (fun e => hr.1 e k)
    · rw [told_no (fun h => k (hA.2 h))]; exact decide_eq_true (hr.2 k)
  clear ht hA
  generalize l.length = n at HI HT ⊢
  replace HI := hide HI
  go_enter Tryz.func69, Tryz.ntmps69
  go_wp2_with fail
  refine HI.out.mono ?_
  rintro e w0 ⟨r, rfl, hr, hw0⟩
  subst w0
  replace hr := hide hr
  go_wp2
  go_ret
  exact ⟨ret_bool (HT.out r hr.out), rfl⟩

set_option maxRecDepth 10000 in
set_option maxHeartbeats 1000000 in
theorem hidx_strs {w : World} {a : Option Addr} {c : Nat} {l : List ByteArray} (h : Strs w a l.length l) (A : Prop) (hA : A ↔ ∀ j, j < l.length → (l.getD j ByteArray.empty).size = 512) :
    Calls Tryz.prog 110 #[.slice a l.length c, .func (.func 72) #[] #[]] w fun e w' => ∃ r : Int, e = .returned (.int .i64 r) ∧ (0 ≤ r ↔ ¬ A) ∧ w' = w := by
  obtain ⟨n, hn⟩ : ∃ n, l.length = n := ⟨_, rfl⟩
  rw [hn] at h hA ⊢
  replace hA := hide hA
  have hnm := h.2.1
  unfold maxLen at hnm
  replace h := hide h
  replace hn := hide hn
  have HF := hide fits2_any
  go_enter Tryz.func110, Tryz.ntmps110
  go_wp2
  go_loopw [8] (fun i wr => ∃ j : Nat, j ≤ n ∧ i = .int .i64 j ∧ Hid (∀ j', j' < j → (l.getD j' ByteArray.empty).size = 512) ∧ wr = w) (fun i _ => n - (intOf i).toNat)
  case atStart => exact ⟨0, by omega, rfl, fun j hj => absurd hj (by omega), rfl⟩
  case round =>
    obtain ⟨j, hj, rfl, HO, hwr⟩ := hrel
    subst wr
    by_cases hlt : j < n
    · have j1 : (j : Int) < (n : Int) := by omega
      obtain ⟨b1, o1, rfl, d1⟩ := h.out.2.2.2 j hlt
      obtain ⟨y, hy⟩ : ∃ y, l.getD j ByteArray.empty = y := ⟨_, rfl⟩
      rw [hy] at d1
      replace hy := hide hy
      go_wp2_with fail
      refine (HF.out y w).mono ?_
      rintro e w0 ⟨rfl, hw0⟩
      subst w0
      by_cases hx : y.size = 512
      · rw [told_yes hx]
        replace hx := hide hx
        go_wp2
        go_roundw
        case rel =>
          refine ⟨j + 1, by omega, by go_num, fun i hi => ?_, trivial⟩
          by_cases hij : i = j
          · subst hij; rw [hy.out]; exact hx.out
          · exact HO.out i (by omega)
        case measure => simp [intOf]; omega
      · rw [told_no hx]
        have hno : Hid (¬ A) := fun k => hx (by have := hA.out.1 k j hlt; rw [hy.out] at this; exact this)
        clear hx
        go_wp2
        go_ret
        exact ⟨_, rfl, ⟨fun _ => hno.out, fun _ => by omega⟩, rfl⟩
    · have j1 : ¬ (j : Int) < (n : Int) := by omega
      have hyes : Hid A := hA.out.2 (fun i hi => HO.out i (by omega))
      go_wp2
      go_ret
      exact ⟨_, rfl, ⟨fun k => absurd k (by omega), fun k => absurd hyes.out k⟩, rfl⟩

set_option maxRecDepth 10000 in
set_option maxHeartbeats 400000 in
theorem hcont_strs {w : World} {a : Option Addr} {c : Nat} {l : List ByteArray} (h : Strs w a l.length l) :
    Calls Tryz.prog 71 #[.slice a l.length c, .func (.func 72) #[] #[]] w fun e w' => e = .returned (.bool (!told (∀ j, j < l.length → (l.getD j ByteArray.empty).size = 512))) ∧ w' = w := by
  obtain ⟨A, hA⟩ : ∃ A : Prop, A ↔ ∀ j, j < l.length → (l.getD j ByteArray.empty).size = 512 := ⟨_, Iff.rfl⟩
  have HI := hidx_strs (c := c) h A hA
  obtain ⟨t, ht⟩ : ∃ t, told (∀ j, j < l.length → (l.getD j ByteArray.empty).size = 512) = t := ⟨_, rfl⟩
  rw [ht]
  have HT : Hid (∀ r : Int, (0 ≤ r ↔ ¬ A) → decide (0 ≤ r) = !t) := fun r hr => by
    rw [← ht]
    by_cases k : A
    · rw [told_yes (hA.1 k)]; exact decide_eq_false (fun e => hr.1 e k)
    · rw [told_no (fun h => k (hA.2 h))]; exact decide_eq_true (hr.2 k)
  clear ht hA
  generalize l.length = n at HI HT ⊢
  replace HI := hide HI
  go_enter Tryz.func71, Tryz.ntmps71
  go_wp2_with fail
  refine HI.out.mono ?_
  rintro e w0 ⟨r, rfl, hr, hw0⟩
  subst w0
  replace hr := hide hr
  go_wp2
  go_ret
  exact ⟨ret_bool (HT.out r hr.out), rfl⟩

set_option maxRecDepth 10000 in
set_option maxHeartbeats 1000000 in
theorem fits_any {w : World} {v : Value} {K : HkM} (hv : HkV w v K) : Calls Tryz.prog 28 #[v] w fun e w' => e = .returned (.bool (told (hkFits K))) ∧ Below w.heap.size w w' := by
  obtain ⟨pa, sa, pc, sc, rfl, L⟩ := hv
  obtain ⟨g, hg⟩ : ∃ g, w.heap.size = g := ⟨_, rfl⟩
  rw [hg]
  obtain ⟨r, hr⟩ : ∃ r, told (hkFits K) = r := ⟨_, rfl⟩
  rw [hr]
  replace hr := hide hr
  have HP : Hid (∀ W, Below g w W → Calls Tryz.prog 69 #[.slice pa K.path.length pc, .func (.func 70) #[] #[]] W fun e w' => e = .returned (.bool (!told (∀ j, j < K.path.length → (0 ≤ K.path.getD j 0 ∧ K.path.getD j 0 < 6)))) ∧ w' = W) := fun W hW => hcont_ints (L.path.below (by rw [hg]; exact hW))
  have HS : Hid (∀ W, Below g w W → Calls Tryz.prog 71 #[.slice sa K.sigs.length sc, .func (.func 72) #[] #[]] W fun e w' => e = .returned (.bool (!told (∀ j, j < K.sigs.length → (K.sigs.getD j ByteArray.empty).size = 512))) ∧ w' = W) := fun W hW => hcont_strs (L.sigs.below (by rw [hg]; exact hW))
  have HB : Hid (∀ W, Calls Tryz.prog 37 #[.int .i64 K.lock, .int .i64 3] W fun e w' => e = .returned (.bool (told (0 ≤ K.lock ∧ K.lock < 3))) ∧ w' = W) := fun W => hbelow_any _ _ W
  have m1 := L.secret
  have m2 := L.path.2.1
  have m3 := L.sigs.2.1
  unfold maxLen at m1 m2 m3
  clear L
  obtain ⟨np, hnp⟩ : ∃ n, K.path.length = n := ⟨_, rfl⟩
  obtain ⟨ns, hns⟩ : ∃ n, K.sigs.length = n := ⟨_, rfl⟩
  obtain ⟨zs, hzs⟩ : ∃ n, K.secret.size = n := ⟨_, rfl⟩
  have hno : Hid (¬ hkFits K → r = false) := fun h => by rw [← hr.out, told_no h]
  have hyes : Hid (hkFits K → r = true) := fun h => by rw [← hr.out, told_yes h]
  clear hr
  have HNP := hide hnp
  have HNS := hide hns
  have HZS := hide hzs
  rw [hnp] at m2 HP
  rw [hns] at m3 HS
  rw [hzs] at m1
  go_enter Tryz.func28, Tryz.ntmps28
  go_wp2_with ((with_reducible refine wpList_at ?_); refine wpList_boxv (by rfl) 29 (.tmp 0) (by rfl) _ (by rfl) ?_; rw [hg]; intro w1 hu1 hz1 hb1; obtain ⟨q0, q1, q2, q3⟩ := hcells_at hu1; rw [hnp] at q2; rw [hns] at q3; clear hu1)
  clear hnp hns
  refine (HB.out _).mono ?_
  rintro e w0 ⟨rfl, hw0⟩
  subst w0
  by_cases c1 : 0 ≤ K.lock ∧ K.lock < 3
  · rw [told_yes c1]
    replace c1 := hide c1
    by_cases c2 : zs ≤ 64
    · by_cases c3 : 0 < np
      · by_cases c4 : np ≤ 6
        · by_cases c5 : ns = np
          · have t5 : ((ns : Int) == (np : Int)) = true := by rw [c5]; exact beq_self_eq_true _
            have HP1 := hide (HP.out w1 hb1)
            have HS1 := hide (HS.out w1 hb1)
            have c5' := hide c5
            clear c5
            go_wp2_with fail
            refine HP1.out.mono ?_
            rintro e w0 ⟨rfl, hw0⟩
            subst w0
            clear HP1
            by_cases c6 : ∀ j, j < np → (0 ≤ K.path.getD j 0 ∧ K.path.getD j 0 < 6)
            · rw [told_yes c6]
              replace c6 := hide c6
              go_wp2_with fail
              refine HS1.out.mono ?_
              rintro e w0 ⟨rfl, hw0⟩
              subst w0
              clear HS1
              by_cases c7 : ∀ j, j < ns → (K.sigs.getD j ByteArray.empty).size = 512
              · rw [told_yes c7]
                have hf : Hid (r = true) := hyes.out ⟨c1.out, by rw [HZS.out]; exact c2, by rw [HNP.out]; exact c3, by rw [HNP.out]; exact c4, by rw [HNS.out, HNP.out]; exact c5'.out, by rw [HNP.out]; exact c6.out, by rw [HNS.out]; exact c7⟩
                clear c7
                go_wp2
                go_ret
                exact ⟨ret_bool hf.out.symm, hb1⟩
              · rw [told_no c7]
                have hf : Hid (r = false) := hno.out (fun k => c7 (by have := k.2.2.2.2.2.2; rw [HNS.out] at this; exact this))
                clear c7
                go_wp2
                go_ret
                exact ⟨ret_bool hf.out.symm, hb1⟩
            · rw [told_no c6]
              have hf : Hid (r = false) := hno.out (fun k => c6 (by have := k.2.2.2.2.2.1; rw [HNP.out] at this; exact this))
              clear c6
              go_wp2
              go_ret
              exact ⟨ret_bool hf.out.symm, hb1⟩
          · have t5 : ((ns : Int) == (np : Int)) = false := by rw [beq_eq_false_iff_ne]; omega
            have hf : Hid (r = false) := hno.out (fun k => c5 (by have := k.2.2.2.2.1; rw [HNS.out, HNP.out] at this; exact this))
            clear c5
            go_wp2
            go_ret
            exact ⟨ret_bool hf.out.symm, hb1⟩
        · have hf : Hid (r = false) := hno.out (fun k => c4 (by have := k.2.2.2.1; rw [HNP.out] at this; exact this))
          have t4 : ¬ (np : Int) ≤ 6 := by omega
          go_wp2
          go_ret
          exact ⟨ret_bool hf.out.symm, hb1⟩
      · have hf : Hid (r = false) := hno.out (fun k => c3 (by have := k.2.2.1; rw [HNP.out] at this; exact this))
        have t3 : ¬ (0 : Int) < (np : Int) := by omega
        go_wp2
        go_ret
        exact ⟨ret_bool hf.out.symm, hb1⟩
    · have hf : Hid (r = false) := hno.out (fun k => c2 (by have := k.2.1; rw [HZS.out] at this; exact this))
      have t2 : ¬ (zs : Int) ≤ 64 := by omega
      go_wp2
      go_ret
      exact ⟨ret_bool hf.out.symm, hb1⟩
  · rw [told_no c1]
    have hf : Hid (r = false) := hno.out (fun k => c1 k.1)
    clear c1
    go_wp2
    go_ret
    exact ⟨ret_bool hf.out.symm, hb1⟩

end Go.Proofs.YtccaaaifhiigcaaGreat

/-
  slices.Index and slices.Contains at numbers.
-/
namespace Go.Proofs.YtccaaaifhiigcaaGreat
open Go.RowKit

theorem mem_getD {l : List Int} {x : Int} : x ∈ l ↔ ∃ j, j < l.length ∧ l.getD j 0 = x := by
  constructor
  · intro h
    obtain ⟨j, hj, rfl⟩ := List.mem_iff_getElem.1 h
    exact ⟨j, hj, by rw [List.getD_eq_getElem?_getD, List.getElem?_eq_getElem hj]; rfl⟩
  · rintro ⟨j, hj, rfl⟩
    exact getD_mem l j 0 hj

set_option maxRecDepth 10000 in
set_option maxHeartbeats 1000000 in
theorem index_any {w : World} {a : Option Addr} {c : Nat} {l : List Int} (ha : Ints w a l.length l) (x : Int) :
    Calls Tryz.prog 141 #[.slice a l.length c, .int .i64 x] w fun e w' => ∃ r : Int, e = .returned (.int .i64 r) ∧ (0 ≤ r ↔ x ∈ l) ∧ w' = w := by
  obtain ⟨n, hn⟩ : ∃ n, l.length = n := ⟨_, rfl⟩
  rw [hn] at ha ⊢
  have hl1 := ha.2.1
  unfold maxLen at hl1
  replace ha := hide ha
  replace hn := hide hn
  go_enter Tryz.func141, Tryz.ntmps141
  go_wp2
  go_loopw [8] (fun i wr => ∃ j : Nat, j ≤ n ∧ i = .int .i64 j ∧ Hid (∀ i, i < j → l.getD i 0 ≠ x) ∧ wr = w) (fun i _ => n - (intOf i).toNat)
  case atStart => exact ⟨0, by omega, rfl, fun j hj => absurd hj (by omega), rfl⟩
  case round =>
    obtain ⟨j, hj, rfl, HO, rfl⟩ := hrel
    by_cases hlt : j < n
    · have j1 : (j : Int) < (n : Int) := by omega
      obtain ⟨b1, o1, rfl, d1⟩ := ha.out.2.2.2 j hlt
      obtain ⟨y, hy⟩ : ∃ y, l.getD j 0 = y := ⟨_, rfl⟩
      rw [hy] at d1
      replace hy := hide hy
      by_cases hxy : x = y
      · have t : (x == y) = true := by rw [hxy]; exact beq_self_eq_true _
        have HM : Hid (x ∈ l) := mem_getD.2 ⟨j, by rw [hn.out]; exact hlt, by rw [hy.out, hxy]⟩
        clear hxy
        go_wp2
        go_ret
        exact ⟨_, rfl, ⟨fun _ => HM.out, fun _ => by omega⟩, rfl⟩
      · have t : (x == y) = false := by rw [beq_eq_false_iff_ne]; exact hxy
        replace hxy := hide hxy
        go_wp2
        go_roundw
        case rel =>
          refine ⟨j + 1, by omega, by go_num, fun i hi => ?_, trivial⟩
          by_cases hij : i = j
          · subst hij; rw [hy.out]; exact fun e => hxy.out e.symm
          · exact HO.out i (by omega)
        case measure => simp [intOf]; omega
    · have j1 : ¬ (j : Int) < (n : Int) := by omega
      go_wp2
      go_ret
      exact ⟨_, rfl, ⟨fun h => absurd h (by omega), fun h => by
        obtain ⟨i, hi, hx⟩ := mem_getD.1 h
        exact absurd hx (HO.out i (by rw [hn.out] at hi; omega))⟩, rfl⟩

set_option maxRecDepth 10000 in
set_option maxHeartbeats 400000 in
theorem contains_any {w : World} {a : Option Addr} {c : Nat} {l : List Int} (ha : Ints w a l.length l) (x : Int) :
    Calls Tryz.prog 128 #[.slice a l.length c, .int .i64 x] w fun e w' => e = .returned (.bool (told (x ∈ l))) ∧ w' = w := by
  have HI := index_any (c := c) ha x
  generalize l.length = n at HI ⊢
  replace HI := hide HI
  obtain ⟨t, ht⟩ : ∃ t, told (x ∈ l) = t := ⟨_, rfl⟩
  rw [ht]
  replace ht := hide ht
  go_enter Tryz.func128, Tryz.ntmps128
  go_wp2_with fail
  refine HI.out.mono ?_
  rintro e w0 ⟨r, rfl, hr, hw0⟩
  subst w0
  replace hr := hide hr
  go_wp2
  go_ret
  refine ⟨ret_bool ?_, rfl⟩
  rw [← ht.out]
  by_cases h : x ∈ l
  · rw [told_yes h]; exact decide_eq_true (hr.out.2 h)
  · rw [told_no h]; exact decide_eq_false (fun e => h (hr.out.1 e))

end Go.Proofs.YtccaaaifhiigcaaGreat

/-
  The document's Check of chapter 4: names, leaders.
-/
namespace Go.Proofs.YtccaaaifhiigcaaGreat
open Go.RowKit

set_option maxHeartbeats 400000 in
theorem refname_any (s : ByteArray) (w : World) : Calls Tryz.prog 83 #[.string s] w fun e w' => e = .returned (.bool (told (nameOk s))) ∧ w' = w := by
  obtain ⟨r, hr⟩ : ∃ r, told (nameOk s) = r := ⟨_, rfl⟩
  have HR : Hid (told (1 ≤ s.size ∧ s.size ≤ 16) = r) := hr
  rw [hr]
  clear hr
  by_cases h1 : 1 ≤ s.size
  · have h1' : (1 : Int) ≤ (s.size : Int) := by omega
    by_cases h2 : s.size ≤ 16
    · have h2' : (s.size : Int) ≤ 16 := by omega
      go_enter Tryz.func83, Tryz.ntmps83
      go_wp2
      go_ret
      exact ⟨ret_bool (by rw [← HR.out, told_yes ⟨h1, h2⟩]), rfl⟩
    · have h2' : ¬ (s.size : Int) ≤ 16 := by omega
      go_enter Tryz.func83, Tryz.ntmps83
      go_wp2
      go_ret
      exact ⟨ret_bool (by rw [← HR.out, told_no (fun h => h2 h.2)]), rfl⟩
  · have h1' : ¬ (1 : Int) ≤ (s.size : Int) := by omega
    go_enter Tryz.func83, Tryz.ntmps83
    go_wp2
    go_ret
    exact ⟨ret_bool (by rw [← HR.out, told_no (fun h => h1 h.1)]), rfl⟩

set_option maxRecDepth 10000 in
set_option maxHeartbeats 1000000 in
theorem refleaders_any {w : World} {v : Value} {s : SpecM} (hv : SpecV w v s) : Calls Tryz.prog 84 #[v] w fun e w' => e = .returned (.bool (told (leadersOk s))) ∧ Below w.heap.size w w' := by
  obtain ⟨a1, a2, a3, a4, c1, c2, c3, c4, rfl, L⟩ := hv
  obtain ⟨r, hr⟩ : ∃ r, told (leadersOk s) = r := ⟨_, rfl⟩
  have HR : Hid (told (leadersOk s) = r) := hr
  rw [hr]
  clear hr
  generalize hg : w.heap.size = g
  have hL1 := L.leaders.2.1
  have hL2 := L.locks.2.1
  have hL3 := L.parties.1
  unfold maxLen at hL1 hL2 hL3
  by_cases h1 : s.leaders.length < 1
  · have h1' : (s.leaders.length : Int) < 1 := by omega
    go_enter Tryz.func84, Tryz.ntmps84
    go_wp2_with ((with_reducible refine wpList_at ?_); refine wpList_boxv (by rfl) 27 (.tmp 0) (by rfl) _ (by rfl) ?_; rw [hg]; intro w1 hg1 hz1 hb1; obtain ⟨q0, q1, q2, q3, q4, q5, q6⟩ := cells7_at hg1)
    go_ret
    exact ⟨ret_bool (by rw [← HR.out, told_no (fun h => by have := h.1; omega)]), hb1⟩
  have h1' : ¬ (s.leaders.length : Int) < 1 := by omega
  by_cases h2 : 3 < s.leaders.length
  · have h2' : (3 : Int) < (s.leaders.length : Int) := by omega
    go_enter Tryz.func84, Tryz.ntmps84
    go_wp2_with ((with_reducible refine wpList_at ?_); refine wpList_boxv (by rfl) 27 (.tmp 0) (by rfl) _ (by rfl) ?_; rw [hg]; intro w1 hg1 hz1 hb1; obtain ⟨q0, q1, q2, q3, q4, q5, q6⟩ := cells7_at hg1)
    go_ret
    exact ⟨ret_bool (by rw [← HR.out, told_no (fun h => by have := h.2.1; omega)]), hb1⟩
  have h2' : ¬ (3 : Int) < (s.leaders.length : Int) := by omega
  by_cases h3 : s.locks.length ≠ s.leaders.length
  · have h3' : ((s.locks.length : Int) != (s.leaders.length : Int)) = true := nat_ne h3
    go_enter Tryz.func84, Tryz.ntmps84
    go_wp2_with ((with_reducible refine wpList_at ?_); refine wpList_boxv (by rfl) 27 (.tmp 0) (by rfl) _ (by rfl) ?_; rw [hg]; intro w1 hg1 hz1 hb1; obtain ⟨q0, q1, q2, q3, q4, q5, q6⟩ := cells7_at hg1)
    go_ret
    exact ⟨ret_bool (by rw [← HR.out, told_no (fun h => h3 h.2.2.1)]), hb1⟩
  have h3e : s.locks.length = s.leaders.length := by omega
  have h3' : ((s.locks.length : Int) != (s.leaders.length : Int)) = false := nat_same h3e
  go_enter Tryz.func84, Tryz.ntmps84
  go_wp2_with ((with_reducible refine wpList_at ?_); refine wpList_boxv (by rfl) 27 (.tmp 0) (by rfl) _ (by rfl) ?_; rw [hg]; intro w1 hg1 hz1 hb1; obtain ⟨q0, q1, q2, q3, q4, q5, q6⟩ := cells7_at hg1)
  have L1 : Lies w1 a1 a2 a3 a4 s := L.below (by rw [hg]; exact hb1)
  have Q1 : Hid (w1.cell? ⟨g, 1, none⟩ = some (.slice a1 s.parties.length c1)) := q1
  have Q3 : Hid (w1.cell? ⟨g, 3, none⟩ = some (.slice a3 s.leaders.length c3)) := q3
  have Q4 : Hid (w1.cell? ⟨g, 4, none⟩ = some (.slice a4 s.locks.length c4)) := q4
  have HL1 : Hid (Lies w1 a1 a2 a3 a4 s) := L1
  clear L L1 hg1 hz1 q0 q1 q2 q3 q4 q5 q6
  go_loopw [4] (fun i wr => ∃ k : Nat, k ≤ s.leaders.length ∧ i = .int .i64 k ∧ Hid (∀ j, j < k → leaderOk s j) ∧ Still w1 wr) (fun i _ => s.leaders.length - (intOf i).toNat)
  case atStart => exact ⟨0, by omega, rfl, fun j hj => absurd hj (by omega), Still.refl _⟩
  case round =>
    obtain ⟨i, hi, rfl, HO, hst⟩ := hrel
    by_cases hlt : i < s.leaders.length
    · have i1 : (i : Int) < (s.leaders.length : Int) := by omega
      obtain ⟨b3, o3, rfl, d3⟩ := HL1.out.leaders.2.2.2 i hlt
      obtain ⟨b4, o4, rfl, d4⟩ := HL1.out.locks.2.2.2 i (by omega)
      have HO' : Hid (leaderOk s i = (0 ≤ s.leaders.getD i 0 ∧ s.leaders.getD i 0 < (s.parties.length : Int) ∧ (s.locks.getD i ByteArray.empty).size = 32 ∧ ∀ k, k < i → s.leaders.getD k 0 ≠ s.leaders.getD i 0)) := (rfl : _ = _)
      generalize hx : s.leaders.getD i 0 = x at d3 HO'
      generalize ht : s.locks.getD i ByteArray.empty = t at d4 HO'
      have i4 : (i : Int) < (s.locks.length : Int) := by omega
      have D3 : Hid (w1.cell? ⟨b3, o3 + i, none⟩ = some (.int .i64 x)) := d3
      replace d3 := hst.cell d3
      replace d4 := hst.cell d4
      have q1 := hst.cell Q1.out
      have q3 := hst.cell Q3.out
      have q4 := hst.cell Q4.out
      clear hx ht
      by_cases x0 : x < 0
      · go_wp2
        go_quiet (fail)
        go_wp2
        go_ret
        exact ⟨ret_bool (by rw [← HR.out, told_no (fun h => by have := h.2.2.2 i hlt; rw [HO'.out] at this; omega)]), below_drewN (hst.below hb1) _⟩
      have x0' : decide (x < 0) = false := decide_eq_false x0
      by_cases x1 : (s.parties.length : Int) ≤ x
      · go_wp2
        go_quiet (fail)
        go_wp2
        go_ret
        exact ⟨ret_bool (by rw [← HR.out, told_no (fun h => by have := h.2.2.2 i hlt; rw [HO'.out] at this; omega)]), below_drewN (hst.below hb1) _⟩
      have x1' : decide ((s.parties.length : Int) ≤ x) = false := decide_eq_false x1
      by_cases x2 : t.size ≠ 32
      · have x2' : ((t.size : Int) != 32) = true := by rw [bne_iff_ne]; omega
        go_wp2
        go_quiet (fail)
        go_wp2
        go_ret
        exact ⟨ret_bool (by rw [← HR.out, told_no (fun h => by have := h.2.2.2 i hlt; rw [HO'.out] at this; exact x2 this.2.2.1)]), below_drewN (hst.below hb1) _⟩
      have x2' : ((t.size : Int) != 32) = false := by rw [bne_eq_false_iff_eq]; omega
      go_wp2
      go_quiet (fail)
      replace hst := hst.drewN nq
      generalize wr.drewN nq = w2 at hst ⊢
      clear q1 q3 q4 d3 d4 x2' x1' x0'
      go_wp2
      go_loopw [5] (fun i5 wr => ∃ k : Nat, k ≤ i ∧ i5 = .int .i64 k ∧ Hid (∀ j, j < k → s.leaders.getD j 0 ≠ x) ∧ Still w1 wr) (fun i5 _ => i - (intOf i5).toNat)
      case atStart => exact ⟨0, by omega, rfl, fun j hj => absurd hj (by omega), hst⟩
      case round =>
        clear hst
        obtain ⟨k, hk, rfl, HK, hst⟩ := hrel
        by_cases hkl : k < i
        · have k1 : (k : Int) < (i : Int) := by omega
          have k2 : (k : Int) < (s.leaders.length : Int) := by omega
          have dk := hst.cell (HL1.out.leaders.get k (by omega))
          have d3 := hst.cell D3.out
          have q3 := hst.cell Q3.out
          generalize hy : s.leaders.getD k 0 = y at dk
          have HY : Hid (s.leaders.getD k 0 = y) := hy
          clear hy
          by_cases hxy : y = x
          · have e : (y == x) = true := by rw [hxy]; exact beq_self_eq_true _
            have HXY : Hid (y = x) := hxy
            clear hxy
            go_wp2
            go_quiet (fail)
            go_wp2
            go_ret
            exact ⟨ret_bool (by rw [← HR.out, told_no (fun h => by have := h.2.2.2 i hlt; rw [HO'.out] at this; exact this.2.2.2 k hkl (by rw [HY.out, HXY.out]))]), below_drewN (hst.below hb1) _⟩
          · have e : (y == x) = false := by rw [beq_eq_false_iff_ne]; exact hxy
            go_wp2
            go_quiet (fail)
            replace hst := hst.drewN nq
            generalize wr.drewN nq = w3 at hst ⊢
            go_wp2
            go_roundw
            case rel =>
              refine ⟨k + 1, by omega, by go_num, ?_, hst⟩
              intro j hj
              by_cases hjk : j = k
              · subst hjk; rw [HY.out]; exact hxy
              · exact HK.out j (by omega)
            case measure => simp [intOf]; omega
        · have k1 : ¬ (k : Int) < (i : Int) := by omega
          go_wp2
          go_roundw
          case rel =>
            refine ⟨i + 1, by omega, by go_num, ?_, hst⟩
            intro j hj
            by_cases hjk : j = i
            · subst hjk; rw [HO'.out]; exact ⟨by omega, by omega, by omega, fun j hj => HK.out j (by omega)⟩
            · exact HO.out j (by omega)
          case measure => simp [intOf]; omega
    · have i1 : ¬ (i : Int) < (s.leaders.length : Int) := by omega
      go_wp2
      go_ret
      exact ⟨ret_bool (by rw [← HR.out, told_yes ⟨by omega, by omega, by omega, fun j hj => HO.out j (by omega)⟩]), hst.below hb1⟩

end Go.Proofs.YtccaaaifhiigcaaGreat
