/-
  The document's Same of chapter 4: numbers, texts.
-/
import Derived.Test.YtccaaaifhiigcaaZ01
import Derived.BigQuiet
import Derived.Deep.QuietTactic
namespace Go.Proofs.Ytccaaaifhiigcaa
open Go.RowKit


theorem all_getD {α : Type} (d : α) {l k : List α} (hl : l.length = k.length) (h : ∀ j, j < l.length → l.getD j d = k.getD j d) : l = k := by
  apply List.ext_getElem hl
  intro j h1 h2
  have := h j h1
  rw [List.getD_eq_getElem?_getD, List.getD_eq_getElem?_getD, List.getElem?_eq_getElem h1, List.getElem?_eq_getElem h2] at this
  exact this
theorem neq_list (a b : ByteArray) : (a.toList != b.toList) = !(a.data.toList == b.data.toList) := by
  rw [bne, same_list]
theorem text_same {a b : ByteArray} (h : a = b) : (a.toList == b.toList) = true := by rw [h]; exact beq_self_eq_true _
theorem text_other {a b : ByteArray} (h : a ≠ b) : (a.toList == b.toList) = false := by
  rw [same_list, beq_eq_false_iff_ne]
  exact fun e => h (ByteArray.ext (Array.toList_inj.1 e))
theorem text_nsame {a b : ByteArray} (h : a = b) : (a.toList != b.toList) = false := by rw [bne, text_same h]; rfl
theorem text_nother {a b : ByteArray} (h : a ≠ b) : (a.toList != b.toList) = true := by rw [bne, text_other h]; rfl

end Go.Proofs.Ytccaaaifhiigcaa

/-
  Hashkeys: plain data, and what memory holds of them; below, and whether one fits.
-/
namespace Go.Proofs.Ytccaaaifhiigcaa
open Go.RowKit

structure HkM where
  lock : Int
  secret : ByteArray
  path : List Int
  sigs : List ByteArray
def noHk : HkM := ⟨0, ⟨#[]⟩, [], []⟩
def hcells (pa sa : Option Addr) (pc sc : Nat) (K : HkM) : Array Value := #[.int .i64 K.lock, .string K.secret, .slice pa K.path.length pc, .slice sa K.sigs.length sc]
/-- What the four cells of a key lead to. -/
structure HkL (w : World) (pa sa : Option Addr) (pc sc : Nat) (K : HkM) : Prop where
  lock : In64 K.lock
  secret : K.secret.size ≤ maxLen
  path : Ints w pa K.path.length K.path
  sigs : Strs w sa K.sigs.length K.sigs
  pc1 : K.path.length ≤ pc
  pc2 : pc ≤ maxLen
  sc1 : K.sigs.length ≤ sc
  sc2 : sc ≤ maxLen
  pn : pa = none → pc = 0
  sn : sa = none → sc = 0
/-- The value v is the key K. -/
def HkV (w : World) (v : Value) (K : HkM) : Prop := ∃ pa sa pc sc, v = .agg (hcells pa sa pc sc K) ∧ HkL w pa sa pc sc K
theorem HkL.below {w w' : World} {pa sa : Option Addr} {pc sc : Nat} {K : HkM} (h : HkL w pa sa pc sc K) (hb : Below w.heap.size w w') : HkL w' pa sa pc sc K :=
  ⟨h.lock, h.secret, h.path.below hb, h.sigs.below hb, h.pc1, h.pc2, h.sc1, h.sc2, h.pn, h.sn⟩
theorem HkV.below {w w' : World} {v : Value} {K : HkM} (h : HkV w v K) (hb : Below w.heap.size w w') : HkV w' v K := by
  obtain ⟨pa, sa, pc, sc, h1, h2⟩ := h
  exact ⟨pa, sa, pc, sc, h1, h2.below hb⟩
theorem hcells_at {w : World} {g : Nat} {t : TypeId} {pa sa : Option Addr} {pc sc : Nat} {K : HkM} (h : w.heap[g]? = some (.cells (hcells pa sa pc sc K) t (0, 0))) :
    w.cell? ⟨g, 0, none⟩ = some (.int .i64 K.lock) ∧ w.cell? ⟨g, 1, none⟩ = some (.string K.secret) ∧ w.cell? ⟨g, 2, none⟩ = some (.slice pa K.path.length pc) ∧ w.cell? ⟨g, 3, none⟩ = some (.slice sa K.sigs.length sc) := by
  refine ⟨?_, ?_, ?_, ?_⟩ <;> (rw [cell_of_row w g _ _ t (0, 0) h]; rfl)
/-- What P7.3 asks. -/
def hkFits (K : HkM) : Prop := (0 ≤ K.lock ∧ K.lock < 3) ∧ K.secret.size ≤ 64 ∧ 0 < K.path.length ∧ K.path.length ≤ 6 ∧ K.sigs.length = K.path.length ∧ (∀ j, j < K.path.length → 0 ≤ K.path.getD j 0 ∧ K.path.getD j 0 < 6) ∧ ∀ j, j < K.sigs.length → (K.sigs.getD j ByteArray.empty).size = 512

set_option maxHeartbeats 400000 in
theorem hbelow_any (v b : Int) (w : World) : Calls Try.prog 23 #[.int .i64 v, .int .i64 b] w fun e w' => e = .returned (.bool (told (0 ≤ v ∧ v < b))) ∧ w' = w := by
  obtain ⟨r, hr⟩ : ∃ r, told (0 ≤ v ∧ v < b) = r := ⟨_, rfl⟩
  rw [hr]
  replace hr := hide hr
  by_cases h1 : 0 ≤ v
  · by_cases h2 : v < b
    · have hf : Hid (r = true) := by show _ = _; rw [← hr.out, told_yes ⟨h1, h2⟩]
      go_enter Try.func23, Try.ntmps23
      go_wp2
      go_ret
      exact ⟨ret_bool hf.out.symm, rfl⟩
    · have hf : Hid (r = false) := by show _ = _; rw [← hr.out, told_no (fun h => h2 h.2)]
      go_enter Try.func23, Try.ntmps23
      go_wp2
      go_ret
      exact ⟨ret_bool hf.out.symm, rfl⟩
  · have hf : Hid (r = false) := by show _ = _; rw [← hr.out, told_no (fun h => h1 h.1)]
    go_enter Try.func23, Try.ntmps23
    go_wp2
    go_ret
    exact ⟨ret_bool hf.out.symm, rfl⟩

set_option maxHeartbeats 400000 in
theorem fits1_any (v : Int) (w : World) : Calls Try.prog 52 #[.int .i64 v] w fun e w' => e = .returned (.bool (!told (0 ≤ v ∧ v < 6))) ∧ w' = w := by
  have HB := hide (hbelow_any v 6)
  go_enter Try.func52, Try.ntmps52
  go_wp2_with fail
  refine (HB.out _).mono ?_
  rintro e w0 ⟨rfl, hw0⟩
  subst w0
  go_wp2
  go_ret
  exact ⟨rfl, rfl⟩

set_option maxHeartbeats 400000 in
theorem fits2_any (x : ByteArray) (w : World) : Calls Try.prog 54 #[.string x] w fun e w' => e = .returned (.bool (!told (x.size = 512))) ∧ w' = w := by
  obtain ⟨r, hr⟩ : ∃ r, (!told (x.size = 512)) = r := ⟨_, rfl⟩
  rw [hr]
  replace hr := hide hr
  by_cases h : x.size = 512
  · have t : ((x.size : Int) != 512) = false := by rw [h]; rfl
    have hf : Hid (r = false) := by show _ = _; rw [← hr.out, told_yes h]; rfl
    clear h
    go_enter Try.func54, Try.ntmps54
    go_wp2
    go_ret
    exact ⟨ret_bool hf.out.symm, rfl⟩
  · have t : ((x.size : Int) != 512) = true := by rw [bne_iff_ne]; omega
    have hf : Hid (r = true) := by show _ = _; rw [← hr.out, told_no h]; rfl
    clear h
    go_enter Try.func54, Try.ntmps54
    go_wp2
    go_ret
    exact ⟨ret_bool hf.out.symm, rfl⟩

set_option maxRecDepth 10000 in
set_option maxHeartbeats 1000000 in
theorem hidx_ints {w : World} {a : Option Addr} {c : Nat} {l : List Int} (h : Ints w a l.length l) (A : Prop) (hA : A ↔ ∀ j, j < l.length → (0 ≤ l.getD j 0 ∧ l.getD j 0 < 6)) :
    Calls Try.prog 93 #[.slice a l.length c, .func (.func 52) #[] #[]] w fun e w' => ∃ r : Int, e = .returned (.int .i64 r) ∧ (0 ≤ r ↔ ¬ A) ∧ w' = w := by
  obtain ⟨n, hn⟩ : ∃ n, l.length = n := ⟨_, rfl⟩
  rw [hn] at h hA ⊢
  replace hA := hide hA
  have hnm := h.2.1
  unfold maxLen at hnm
  replace h := hide h
  replace hn := hide hn
  have HF := hide fits1_any
  go_enter Try.func93, Try.ntmps93
  go_wp2
  go_loopw [8] (fun i wr => ∃ j : Nat, j ≤ n ∧ i = .int .i64 j ∧ Hid (∀ j', j' < j → (0 ≤ l.getD j' 0 ∧ l.getD j' 0 < 6)) ∧ wr = w) (fun i _ => n - (intOf i).toNat)
  case atStart => exact ⟨0, by omega, rfl, fun j hj => absurd hj (by omega), rfl⟩
  case round =>
    obtain ⟨j, hj, rfl, HO, hwr⟩ := hrel
    subst wr
    by_cases hlt : j < n
    · have j1 : (j : Int) < (n : Int) := by omega
      obtain ⟨b1, o1, rfl, d1⟩ := h.out.2.2.2 j hlt
      obtain ⟨y, hy⟩ : ∃ y, l.getD j 0 = y := ⟨_, rfl⟩
      rw [hy] at d1
      replace hy := hide hy
      go_wp2_with fail
      refine (HF.out y w).mono ?_
      rintro e w0 ⟨rfl, hw0⟩
      subst w0
      by_cases hx : 0 ≤ y ∧ y < 6
      · rw [told_yes hx]
        replace hx := hide hx
        go_wp2
        go_roundw
        case rel =>
          refine ⟨j + 1, by omega, by go_num, fun i hi => ?_, trivial⟩
          by_cases hij : i = j
          · subst hij; rw [hy.out]; exact hx.out
          · exact HO.out i (by omega)
        case measure => simp [intOf]; omega
      · rw [told_no hx]
        have hno : Hid (¬ A) := fun k => hx (by have := hA.out.1 k j hlt; rw [hy.out] at this; exact this)
        clear hx
        go_wp2
        go_ret
        exact ⟨_, rfl, ⟨fun _ => hno.out, fun _ => by omega⟩, rfl⟩
    · have j1 : ¬ (j : Int) < (n : Int) := by omega
      have hyes : Hid A := hA.out.2 (fun i hi => HO.out i (by omega))
      go_wp2
      go_ret
      exact ⟨_, rfl, ⟨fun k => absurd k (by omega), fun k => absurd hyes.out k⟩, rfl⟩

set_option maxRecDepth 10000 in
set_option maxHeartbeats 400000 in
theorem hcont_ints {w : World} {a : Option Addr} {c : Nat} {l : List Int} (h : Ints w a l.length l) :
    Calls Try.prog 51 #[.slice a l.length c, .func (.func 52) #[] #[]] w fun e w' => e = .returned (.bool (!told (∀ j, j < l.length → (0 ≤ l.getD j 0 ∧ l.getD j 0 < 6)))) ∧ w' = w := by
  obtain ⟨A, hA⟩ : ∃ A : Prop, A ↔ ∀ j, j < l.length → (0 ≤ l.getD j 0 ∧ l.getD j 0 < 6) := ⟨_, Iff.rfl⟩
  have HI := hidx_ints (c := c) h A hA
  obtain ⟨t, ht⟩ : ∃ t, told (∀ j, j < l.length → (0 ≤ l.getD j 0 ∧ l.getD j 0 < 6)) = t := ⟨_, rfl⟩
  rw [ht]
  have HT : Hid (∀ r : Int, (0 ≤ r ↔ ¬ A) → decide (0 ≤ r) = !t) := fun r hr => by
    rw [← ht]
    by_cases k : A
    · rw [told_yes (hA.1 k)]; exact decide_eq_false (fun e => hr.1 e k)
    · rw [told_no (fun h => k (hA.2 h))]; exact decide_eq_true (hr.2 k)
  clear ht hA
  generalize l.length = n at HI HT ⊢
  replace HI := hide HI
  go_enter Try.func51, Try.ntmps51
  go_wp2_with fail
  refine HI.out.mono ?_
  rintro e w0 ⟨r, rfl, hr, hw0⟩
  subst w0
  replace hr := hide hr
  go_wp2
  go_ret
  exact ⟨ret_bool (HT.out r hr.out), rfl⟩

set_option maxRecDepth 10000 in
set_option maxHeartbeats 1000000 in
theorem hidx_strs {w : World} {a : Option Addr} {c : Nat} {l : List ByteArray} (h : Strs w a l.length l) (A : Prop) (hA : A ↔ ∀ j, j < l.length → (l.getD j ByteArray.empty).size = 512) :
    Calls Try.prog 94 #[.slice a l.length c, .func (.func 54) #[] #[]] w fun e w' => ∃ r : Int, e = .returned (.int .i64 r) ∧ (0 ≤ r ↔ ¬ A) ∧ w' = w := by
  obtain ⟨n, hn⟩ : ∃ n, l.length = n := ⟨_, rfl⟩
  rw [hn] at h hA ⊢
  replace hA := hide hA
  have hnm := h.2.1
  unfold maxLen at hnm
  replace h := hide h
  replace hn := hide hn
  have HF := hide fits2_any
  go_enter Try.func94, Try.ntmps94
  go_wp2
  go_loopw [8] (fun i wr => ∃ j : Nat, j ≤ n ∧ i = .int .i64 j ∧ Hid (∀ j', j' < j → (l.getD j' ByteArray.empty).size = 512) ∧ wr = w) (fun i _ => n - (intOf i).toNat)
  case atStart => exact ⟨0, by omega, rfl, fun j hj => absurd hj (by omega), rfl⟩
  case round =>
    obtain ⟨j, hj, rfl, HO, hwr⟩ := hrel
    subst wr
    by_cases hlt : j < n
    · have j1 : (j : Int) < (n : Int) := by omega
      obtain ⟨b1, o1, rfl, d1⟩ := h.out.2.2.2 j hlt
      obtain ⟨y, hy⟩ : ∃ y, l.getD j ByteArray.empty = y := ⟨_, rfl⟩
      rw [hy] at d1
      replace hy := hide hy
      go_wp2_with fail
      refine (HF.out y w).mono ?_
      rintro e w0 ⟨rfl, hw0⟩
      subst w0
      by_cases hx : y.size = 512
      · rw [told_yes hx]
        replace hx := hide hx
        go_wp2
        go_roundw
        case rel =>
          refine ⟨j + 1, by omega, by go_num, fun i hi => ?_, trivial⟩
          by_cases hij : i = j
          · subst hij; rw [hy.out]; exact hx.out
          · exact HO.out i (by omega)
        case measure => simp [intOf]; omega
      · rw [told_no hx]
        have hno : Hid (¬ A) := fun k => hx (by have := hA.out.1 k j hlt; rw [hy.out] at this; exact this)
        clear hx
        go_wp2
        go_ret
        exact ⟨_, rfl, ⟨fun _ => hno.out, fun _ => by omega⟩, rfl⟩
    · have j1 : ¬ (j : Int) < (n : Int) := by omega
      have hyes : Hid A := hA.out.2 (fun i hi => HO.out i (by omega))
      go_wp2
      go_ret
      exact ⟨_, rfl, ⟨fun k => absurd k (by omega), fun k => absurd hyes.out k⟩, rfl⟩

set_option maxRecDepth 10000 in
set_option maxHeartbeats 400000 in
theorem hcont_strs {w : World} {a : Option Addr} {c : Nat} {l : List ByteArray} (h : Strs w a l.length l) :
    Calls Try.prog 53 #[.slice a l.length c, .func (.func 54) #[] #[]] w fun e w' => e = .returned (.bool (!told (∀ j, j < l.length → (l.getD j ByteArray.empty).size = 512))) ∧ w' = w := by
  obtain ⟨A, hA⟩ : ∃ A : Prop, A ↔ ∀ j, j < l.length → (l.getD j ByteArray.empty).size = 512 := ⟨_, Iff.rfl⟩
  have HI := hidx_strs (c := c) h A hA
  obtain ⟨t, ht⟩ : ∃ t, told (∀ j, j < l.length → (l.getD j ByteArray.empty).size = 512) = t := ⟨_, rfl⟩
  rw [ht]
  have HT : Hid (∀ r : Int, (0 ≤ r ↔ ¬ A) → decide (0 ≤ r) = !t) := fun r hr => by
    rw [← ht]
    by_cases k : A
    · rw [told_yes (hA.1 k)]; exact decide_eq_false (fun e => hr.1 e k)
    · rw [told_no (fun h => k (hA.2 h))]; exact decide_eq_true (hr.2 k)
  clear ht hA
  generalize l.length = n at HI HT ⊢
  replace HI := hide HI
  go_enter Try.func53, Try.ntmps53
  go_wp2_with fail
  refine HI.out.mono ?_
  rintro e w0 ⟨r, rfl, hr, hw0⟩
  subst w0
  replace hr := hide hr
  go_wp2
  go_ret
  exact ⟨ret_bool (HT.out r hr.out), rfl⟩

set_option maxRecDepth 10000 in
set_option maxHeartbeats 1000000 in
theorem fits_any {w : World} {v : Value} {K : HkM} (hv : HkV w v K) : Calls Try.prog 26 #[v] w fun e w' => e = .returned (.bool (told (hkFits K))) ∧ Below w.heap.size w w' := by
  obtain ⟨pa, sa, pc, sc, rfl, L⟩ := hv
  obtain ⟨g, hg⟩ : ∃ g, w.heap.size = g := ⟨_, rfl⟩
  rw [hg]
  obtain ⟨r, hr⟩ : ∃ r, told (hkFits K) = r := ⟨_, rfl⟩
  rw [hr]
  replace hr := hide hr
  have HP : Hid (∀ W, Below g w W → Calls Try.prog 51 #[.slice pa K.path.length pc, .func (.func 52) #[] #[]] W fun e w' => e = .returned (.bool (!told (∀ j, j < K.path.length → (0 ≤ K.path.getD j 0 ∧ K.path.getD j 0 < 6)))) ∧ w' = W) := fun W hW => hcont_ints (L.path.below (by rw [hg]; exact hW))
  have HS : Hid (∀ W, Below g w W → Calls Try.prog 53 #[.slice sa K.sigs.length sc, .func (.func 54) #[] #[]] W fun e w' => e = .returned (.bool (!told (∀ j, j < K.sigs.length → (K.sigs.getD j ByteArray.empty).size = 512))) ∧ w' = W) := fun W hW => hcont_strs (L.sigs.below (by rw [hg]; exact hW))
  have HB : Hid (∀ W, Calls Try.prog 23 #[.int .i64 K.lock, .int .i64 3] W fun e w' => e = .returned (.bool (told (0 ≤ K.lock ∧ K.lock < 3))) ∧ w' = W) := fun W => hbelow_any _ _ W
  have m1 := L.secret
  have m2 := L.path.2.1
  have m3 := L.sigs.2.1
  unfold maxLen at m1 m2 m3
  clear L
  obtain ⟨np, hnp⟩ : ∃ n, K.path.length = n := ⟨_, rfl⟩
  obtain ⟨ns, hns⟩ : ∃ n, K.sigs.length = n := ⟨_, rfl⟩
  obtain ⟨zs, hzs⟩ : ∃ n, K.secret.size = n := ⟨_, rfl⟩
  have hno : Hid (¬ hkFits K → r = false) := fun h => by rw [← hr.out, told_no h]
  have hyes : Hid (hkFits K → r = true) := fun h => by rw [← hr.out, told_yes h]
  clear hr
  have HNP := hide hnp
  have HNS := hide hns
  have HZS := hide hzs
  rw [hnp] at m2 HP
  rw [hns] at m3 HS
  rw [hzs] at m1
  go_enter Try.func26, Try.ntmps26
  go_wp2_with ((with_reducible refine wpList_at ?_); refine wpList_boxv (by rfl) 30 (.tmp 0) (by rfl) _ (by rfl) ?_; rw [hg]; intro w1 hu1 hz1 hb1; obtain ⟨q0, q1, q2, q3⟩ := hcells_at hu1; rw [hnp] at q2; rw [hns] at q3; clear hu1)
  clear hnp hns
  refine (HB.out _).mono ?_
  rintro e w0 ⟨rfl, hw0⟩
  subst w0
  by_cases c1 : 0 ≤ K.lock ∧ K.lock < 3
  · rw [told_yes c1]
    replace c1 := hide c1
    by_cases c2 : zs ≤ 64
    · by_cases c3 : 0 < np
      · by_cases c4 : np ≤ 6
        · by_cases c5 : ns = np
          · have t5 : ((ns : Int) == (np : Int)) = true := by rw [c5]; exact beq_self_eq_true _
            have HP1 := hide (HP.out w1 hb1)
            have HS1 := hide (HS.out w1 hb1)
            have c5' := hide c5
            clear c5
            go_wp2_with fail
            refine HP1.out.mono ?_
            rintro e w0 ⟨rfl, hw0⟩
            subst w0
            clear HP1
            by_cases c6 : ∀ j, j < np → (0 ≤ K.path.getD j 0 ∧ K.path.getD j 0 < 6)
            · rw [told_yes c6]
              replace c6 := hide c6
              go_wp2_with fail
              refine HS1.out.mono ?_
              rintro e w0 ⟨rfl, hw0⟩
              subst w0
              clear HS1
              by_cases c7 : ∀ j, j < ns → (K.sigs.getD j ByteArray.empty).size = 512
              · rw [told_yes c7]
                have hf : Hid (r = true) := hyes.out ⟨c1.out, by rw [HZS.out]; exact c2, by rw [HNP.out]; exact c3, by rw [HNP.out]; exact c4, by rw [HNS.out, HNP.out]; exact c5'.out, by rw [HNP.out]; exact c6.out, by rw [HNS.out]; exact c7⟩
                clear c7
                go_wp2
                go_ret
                exact ⟨ret_bool hf.out.symm, hb1⟩
              · rw [told_no c7]
                have hf : Hid (r = false) := hno.out (fun k => c7 (by have := k.2.2.2.2.2.2; rw [HNS.out] at this; exact this))
                clear c7
                go_wp2
                go_ret
                exact ⟨ret_bool hf.out.symm, hb1⟩
            · rw [told_no c6]
              have hf : Hid (r = false) := hno.out (fun k => c6 (by have := k.2.2.2.2.2.1; rw [HNP.out] at this; exact this))
              clear c6
              go_wp2
              go_ret
              exact ⟨ret_bool hf.out.symm, hb1⟩
          · have t5 : ((ns : Int) == (np : Int)) = false := by rw [beq_eq_false_iff_ne]; omega
            have hf : Hid (r = false) := hno.out (fun k => c5 (by have := k.2.2.2.2.1; rw [HNS.out, HNP.out] at this; exact this))
            clear c5
            go_wp2
            go_ret
            exact ⟨ret_bool hf.out.symm, hb1⟩
        · have hf : Hid (r = false) := hno.out (fun k => c4 (by have := k.2.2.2.1; rw [HNP.out] at this; exact this))
          have t4 : ¬ (np : Int) ≤ 6 := by omega
          go_wp2
          go_ret
          exact ⟨ret_bool hf.out.symm, hb1⟩
      · have hf : Hid (r = false) := hno.out (fun k => c3 (by have := k.2.2.1; rw [HNP.out] at this; exact this))
        have t3 : ¬ (0 : Int) < (np : Int) := by omega
        go_wp2
        go_ret
        exact ⟨ret_bool hf.out.symm, hb1⟩
    · have hf : Hid (r = false) := hno.out (fun k => c2 (by have := k.2.1; rw [HZS.out] at this; exact this))
      have t2 : ¬ (zs : Int) ≤ 64 := by omega
      go_wp2
      go_ret
      exact ⟨ret_bool hf.out.symm, hb1⟩
  · rw [told_no c1]
    have hf : Hid (r = false) := hno.out (fun k => c1 k.1)
    clear c1
    go_wp2
    go_ret
    exact ⟨ret_bool hf.out.symm, hb1⟩

end Go.Proofs.Ytccaaaifhiigcaa

/-
  slices.Index and slices.Contains at numbers.
-/
namespace Go.Proofs.Ytccaaaifhiigcaa
open Go.RowKit

theorem mem_getD {l : List Int} {x : Int} : x ∈ l ↔ ∃ j, j < l.length ∧ l.getD j 0 = x := by
  constructor
  · intro h
    obtain ⟨j, hj, rfl⟩ := List.mem_iff_getElem.1 h
    exact ⟨j, hj, by rw [List.getD_eq_getElem?_getD, List.getElem?_eq_getElem hj]; rfl⟩
  · rintro ⟨j, hj, rfl⟩
    exact getD_mem l j 0 hj

set_option maxRecDepth 10000 in
set_option maxHeartbeats 1000000 in
theorem index_any {w : World} {a : Option Addr} {c : Nat} {l : List Int} (ha : Ints w a l.length l) (x : Int) :
    Calls Try.prog 108 #[.slice a l.length c, .int .i64 x] w fun e w' => ∃ r : Int, e = .returned (.int .i64 r) ∧ (0 ≤ r ↔ x ∈ l) ∧ w' = w := by
  obtain ⟨n, hn⟩ : ∃ n, l.length = n := ⟨_, rfl⟩
  rw [hn] at ha ⊢
  have hl1 := ha.2.1
  unfold maxLen at hl1
  replace ha := hide ha
  replace hn := hide hn
  go_enter Try.func108, Try.ntmps108
  go_wp2
  go_loopw [8] (fun i wr => ∃ j : Nat, j ≤ n ∧ i = .int .i64 j ∧ Hid (∀ i, i < j → l.getD i 0 ≠ x) ∧ wr = w) (fun i _ => n - (intOf i).toNat)
  case atStart => exact ⟨0, by omega, rfl, fun j hj => absurd hj (by omega), rfl⟩
  case round =>
    obtain ⟨j, hj, rfl, HO, rfl⟩ := hrel
    by_cases hlt : j < n
    · have j1 : (j : Int) < (n : Int) := by omega
      obtain ⟨b1, o1, rfl, d1⟩ := ha.out.2.2.2 j hlt
      obtain ⟨y, hy⟩ : ∃ y, l.getD j 0 = y := ⟨_, rfl⟩
      rw [hy] at d1
      replace hy := hide hy
      by_cases hxy : x = y
      · have t : (x == y) = true := by rw [hxy]; exact beq_self_eq_true _
        have HM : Hid (x ∈ l) := mem_getD.2 ⟨j, by rw [hn.out]; exact hlt, by rw [hy.out, hxy]⟩
        clear hxy
        go_wp2
        go_ret
        exact ⟨_, rfl, ⟨fun _ => HM.out, fun _ => by omega⟩, rfl⟩
      · have t : (x == y) = false := by rw [beq_eq_false_iff_ne]; exact hxy
        replace hxy := hide hxy
        go_wp2
        go_roundw
        case rel =>
          refine ⟨j + 1, by omega, by go_num, fun i hi => ?_, trivial⟩
          by_cases hij : i = j
          · subst hij; rw [hy.out]; exact fun e => hxy.out e.symm
          · exact HO.out i (by omega)
        case measure => simp [intOf]; omega
    · have j1 : ¬ (j : Int) < (n : Int) := by omega
      go_wp2
      go_ret
      exact ⟨_, rfl, ⟨fun h => absurd h (by omega), fun h => by
        obtain ⟨i, hi, hx⟩ := mem_getD.1 h
        exact absurd hx (HO.out i (by rw [hn.out] at hi; omega))⟩, rfl⟩

set_option maxRecDepth 10000 in
set_option maxHeartbeats 400000 in
theorem contains_any {w : World} {a : Option Addr} {c : Nat} {l : List Int} (ha : Ints w a l.length l) (x : Int) :
    Calls Try.prog 97 #[.slice a l.length c, .int .i64 x] w fun e w' => e = .returned (.bool (told (x ∈ l))) ∧ w' = w := by
  have HI := index_any (c := c) ha x
  generalize l.length = n at HI ⊢
  replace HI := hide HI
  obtain ⟨t, ht⟩ : ∃ t, told (x ∈ l) = t := ⟨_, rfl⟩
  rw [ht]
  replace ht := hide ht
  go_enter Try.func97, Try.ntmps97
  go_wp2_with fail
  refine HI.out.mono ?_
  rintro e w0 ⟨r, rfl, hr, hw0⟩
  subst w0
  replace hr := hide hr
  go_wp2
  go_ret
  refine ⟨ret_bool ?_, rfl⟩
  rw [← ht.out]
  by_cases h : x ∈ l
  · rw [told_yes h]; exact decide_eq_true (hr.out.2 h)
  · rw [told_no h]; exact decide_eq_false (fun e => h (hr.out.1 e))

end Go.Proofs.Ytccaaaifhiigcaa
