/-
  Package hashkey: chain, signed, Make.
-/
import Derived.Test.YthoimecljfcjmaaZ11
import Derived.Test.YthoimecljfcjmaaHkCat
import Derived.Test.YthoimecljfcjmaaOtsOwn
import Derived.Test.YthoimecljfcjmaaYieldV
import Derived.Test.YthoimecljfcjmaaZ20
import Derived.Test.YthoimecljfcjmaaGrPath
import Derived.Test.YthoimecljfcjmaaZ25
import Derived.Test.YthoimecljfcjmaaZ26
namespace Go.Proofs.Ythoimecljfcjmaa
open Go.RowKit

/-- A key's texts by their places. -/
def textAt (K : HkM) (i : Nat) : ByteArray := if i < K.sigs.length then K.sigs.getD i ByteArray.empty else K.secret
def sigM (seed : ByteArray) (k : Nat) (m : ByteArray) : ByteArray := ⟨(signOf seed.data.toList k m.data.toList).toArray⟩
/-- A key, a party further. -/
def signedM (K : HkM) (v : Int) (seed : ByteArray) : HkM := ⟨K.lock, K.secret, v :: K.path, sigM seed K.lock.toNat (textAt K 0) :: K.sigs⟩
theorem sigM_size (seed : ByteArray) (k : Nat) (m : ByteArray) : (sigM seed k m).size = 512 := by
  unfold sigM
  rw [mk_size, signOf_length]

theorem HvAt.but {w w' : World} {g k : Nat} {cs : Array Value} (h : HvAt w g cs) (hb : But k w w') (hg : g ≠ k) : HvAt w' g cs := by
  unfold HvAt at *
  rw [hb.block g (Array.getElem?_eq_some_iff.1 h).1 hg]; exact h
theorem base_rowK {w : World} {B C : Nat} {e : TypeId} {size : Nat} {v : Value} {n : Nat} {xs : List Value} (h : w.ownsRow B e size v n xs) (hB : C ≤ B) : w.ownsRow C e size v n xs := by
  obtain ⟨h0, ⟨rfl, h1⟩ | ⟨g, cap, cur, hv, hb, hr⟩⟩ := h
  · exact ⟨h0, .inl ⟨rfl, h1⟩⟩
  · exact ⟨h0, .inr ⟨g, cap, cur, hv, Nat.le_trans hB hb, hr⟩⟩
theorem own_belowK {w w' : World} {B : Nat} {e : TypeId} {size : Nat} {v : Value} {n : Nat} {xs : List Value} (h : w.ownsRow B e size v n xs) (k : Below w.heap.size w w') : w'.ownsRow B e size v n xs := World.ownsRow.kept h (below_grown k) (by cases v.ownBlock <;> simp)

set_option maxHeartbeats 400000 in
theorem chain1_any {w : World} {pa sa : Option Addr} {pc sc : Nat} {K : HkM} (g : Nat) (hx : HvAt w g (hcells pa sa pc sc K)) (L : HkL w pa sa pc sc K) (i : Nat) (_hi : i ≤ 1000) :
    Calls Try.prog 70 #[.int .i64 (i : Int), .pointer (some ⟨g, 0, none⟩)] w fun e w' => e = .returned (.string (textAt K i)) ∧ w' = w := by
  obtain ⟨_, q1, _, q3⟩ := hcells_at hx
  have m3 := L.sigs.2.1
  unfold maxLen at m3
  obtain ⟨x, hxt⟩ : ∃ x, textAt K i = x := ⟨_, rfl⟩
  rw [hxt]
  obtain ⟨ns, hns⟩ : ∃ n, K.sigs.length = n := ⟨_, rfl⟩
  by_cases hlt : i < ns
  · have i1 : (i : Int) < (ns : Int) := by omega
    obtain ⟨b1, o1, rfl, d1⟩ := L.sigs.2.2.2 i (by rw [hns]; exact hlt)
    have hxe : K.sigs.getD i ByteArray.empty = x := by rw [← hxt]; unfold textAt; rw [if_pos (by rw [hns]; exact hlt)]
    rw [hxe] at d1
    rw [hns] at q3 m3
    clear L hx hxt hxe
    replace hns := hide hns
    go_enter Try.func70, Try.ntmps70
    go_wp2
    go_ret
    exact ⟨rfl, rfl⟩
  · have i1 : ¬ (i : Int) < (ns : Int) := by omega
    have hxe : K.secret = x := by rw [← hxt]; unfold textAt; rw [if_neg (by rw [hns]; exact hlt)]
    rw [hxe] at q1
    rw [hns] at q3 m3
    clear L hx hxt hxe
    replace hns := hide hns
    go_enter Try.func70, Try.ntmps70
    go_wp2
    go_ret
    exact ⟨rfl, rfl⟩

set_option maxHeartbeats 400000 in
theorem chain_any {w : World} {cs : Array Value} :
    Calls Try.prog 48 #[.agg cs] w fun e w' => ∃ g, e = .returned (.func (.func 70) #[] #[.pointer (some ⟨g, 0, none⟩)]) ∧ HvAt w' g cs ∧ Below w.heap.size w w' := by
  go_enter Try.func48, Try.ntmps48
  go_wp2_with ((with_reducible refine wpList_at ?_); refine wpList_boxv (by rfl) 31 (.tmp 0) (by rfl) _ (by rfl) ?_; intro w1 hu1 hz1 hb1; have hx1 : HvAt w1 w.heap.size cs := hu1; clear hu1)
  go_ret
  exact ⟨_, rfl, hx1, hb1⟩

/-- A key whose rows are a call's own. -/
def HkO (w : World) (B : Nat) (u : Value) (K : HkM) : Prop := ∃ up us, u = .agg #[.int .i64 K.lock, .string K.secret, up, us] ∧ OwnI w B up K.path ∧ OwnS w B us K.sigs
structure HkSane (K : HkM) : Prop where
  lock : In64 K.lock
  secret : K.secret.size ≤ 1000
  np : K.path.length ≤ 1000
  pa : ∀ j, j < K.path.length → In64 (K.path.getD j 0)
  ns : K.sigs.length ≤ 1000
  si : ∀ j, j < K.sigs.length → (K.sigs.getD j ByteArray.empty).size ≤ 1000
theorem own_cap {w : World} {B : Nat} {e : TypeId} {size : Nat} {a : Option Addr} {n c : Nat} {xs : List Value} (h : w.ownsRow B e size (.slice a n c) n xs) : a = none → c = 0 := by
  intro ha
  subst ha
  rcases h.2 with ⟨h1, _⟩ | ⟨g, cap, cur, h1, _⟩
  · injection h1
  · injection h1 with h1; simp at h1
theorem HkO.wide {w : World} {B : Nat} {u : Value} {K : HkM} (h : HkO w B u K) (hs : HkSane K) : HkV w u K := by
  obtain ⟨up, us, rfl, h1, h2⟩ := h
  obtain ⟨a, c, rfl, i1, i2, hI⟩ := h1.ints hs.np hs.pa
  obtain ⟨a', c', rfl, k1, k2, hK⟩ := h2.strs hs.ns hs.si
  exact ⟨a, a', c, c', rfl, ⟨hs.lock, by have := hs.secret; unfold maxLen; omega, hI, hK, i1, i2, k1, k2, own_cap h1, own_cap h2⟩⟩
theorem HkO.below {w w' : World} {B : Nat} {u : Value} {K : HkM} (h : HkO w B u K) (hb : Below w.heap.size w w') : HkO w' B u K := by
  obtain ⟨up, us, rfl, h1, h2⟩ := h
  exact ⟨up, us, rfl, own_belowK h1 hb, own_belowK h2 hb⟩
theorem HkO.but {w w' : World} {B g : Nat} {u : Value} {K : HkM} {cs : Array Value} (h : HkO w B u K) (hb : But g w w') (hg : HvAt w g cs) : HkO w' B u K := by
  obtain ⟨up, us, rfl, h1, h2⟩ := h
  exact ⟨up, us, rfl, World.ownsRow.kept h1 hb.grown (row_apart h1 hg (by decide)), World.ownsRow.kept h2 hb.grown (row_apart h2 hg (by decide))⟩
theorem HkO.base {w : World} {B C : Nat} {u : Value} {K : HkM} (h : HkO w B u K) (hB : C ≤ B) : HkO w C u K := by
  obtain ⟨up, us, rfl, h1, h2⟩ := h
  exact ⟨up, us, rfl, base_rowK h1 hB, base_rowK h2 hB⟩
theorem HkO.four {w : World} {B : Nat} {u : Value} {K : HkM} (h : HkO w B u K) : ∃ cs, u = .agg cs ∧ cs.size = 4 ∧ ∀ x ∈ cs.toList, x.oneCell' = true := by
  obtain ⟨up, us, rfl, h1, h2⟩ := h
  obtain ⟨a, c, rfl⟩ := row_slice h1
  obtain ⟨a', c', rfl⟩ := row_slice h2
  refine ⟨_, rfl, rfl, fun x hx => ?_⟩
  simp at hx
  rcases hx with rfl | rfl | rfl | rfl <;> rfl
theorem hko_none (w : World) (B : Nat) : HkO w B (.agg #[.int .i64 0, .string ⟨#[]⟩, .slice none 0 0, .slice none 0 0]) noHk := ⟨_, _, rfl, World.ownsRow_nil _ _ _ _, World.ownsRow_nil _ _ _ _⟩

/-- A key is written into a variable, in a region that draws its order. -/
theorem step_storeH {ops : Array Oper} {o : Oper} {a : Act} {K : Act → World → Prop} {Q : Exit → Act → World → Prop} {E : Prop} (w : World) (hw : Region.wanted o (yielded ops a.tmps) = true) (x y : Operand) (ho : o.op = .store 31 x y)
    (g : Nat) (cs old : Array Value) (hx : a.eval x = .pointer (some ⟨g, 0, none⟩)) (hy : a.eval y = .agg cs) (hg : HvAt w g old) (h4 : cs.size = 4) (h4' : old.size = 4) (h1 : ∀ u ∈ cs.toList, u.oneCell' = true)
    (h : ∀ w1, HvAt w1 g cs → But g w w1 → K (a.put o.dst undef) w1) : if Region.wanted o (yielded ops a.tmps) = true then Oper.wp Try.prog o a w K Q else E := by
  rw [if_pos hw]
  have hs := run_storeCells_at (P := Try.prog) g 0 31 cs.toList 0 old w hg (by simp [h4, h4']) h1
  have hst : (storeVar 31 ⟨g, 0, none⟩ (.agg cs)).run Try.prog w = .ok () (w.setRow g cs) := by
    have hi := sizeHk
    cases hq : Try.prog.info? 31 with
    | none => simp [hq] at hi
    | some i =>
      have hsz : i.size = 4 := by simpa [hq] using hi
      have hd : old.toList.drop (0 + cs.toList.length) = [] := List.drop_eq_nil_of_le (by simp [h4, h4'])
      simp only [Nat.add_zero, hd, List.take_zero, List.nil_append, List.append_nil, Array.toArray_toList] at hs
      simp [storeVar, sizeOf, typeInfo, hq, Value.cells, hsz, h4, hs]
  unfold Oper.wp execOp
  simp only [ho, hx, hy, Instr.storeAt, Instr.sureAddr, Sem.run_bind, Sem.run_pure, Result.andThen_ok, hst]
  exact h _ (setRow_heap w g old cs _ (0, 0) hg) ⟨rfl, rfl, rfl, by simp, fun k _ hk => setRow_other w g k _ hk⟩

set_option maxRecDepth 10000 in
set_option maxHeartbeats 4000000 in
theorem signed_any {w : World} {pa sa : Option Addr} {pc sc : Nat} {K : HkM} (L : HkL w pa sa pc sc K) (v : Int) (hv : In64 v) (seed : ByteArray) (hseed : seed.size ≤ 1000) (hlock : 0 ≤ K.lock ∧ K.lock ≤ 255) (hsec : K.secret.size ≤ 1000) (hp : K.path.length ≤ 100) (hs : K.sigs.length ≤ 100) (hz : ∀ j, j < K.sigs.length → (K.sigs.getD j ByteArray.empty).size ≤ 1000) :
    Calls Try.prog 33 #[.agg (hcells pa sa pc sc K), .int .i64 v, .string seed] w fun e w' => ∃ u, e = .returned u ∧ HkO w' w.heap.size u (signedM K v seed) ∧ Below w.heap.size w w' := by
  obtain ⟨g, hg⟩ : ∃ g, w.heap.size = g := ⟨_, rfl⟩
  rw [hg]
  obtain ⟨lk, hlk⟩ : ∃ n : Nat, K.lock = (n : Int) := ⟨K.lock.toNat, by omega⟩
  have hlk2 : K.lock.toNat = lk := by omega
  obtain ⟨txt, htxt⟩ : ∃ x, textAt K 0 = x := ⟨_, rfl⟩
  have htz : txt.size ≤ 1000 := by
    rw [← htxt]
    unfold textAt
    split
    · rename_i h; exact hz 0 h
    · exact hsec
  obtain ⟨sig, hsig⟩ : ∃ x, sigM seed lk txt = x := ⟨_, rfl⟩
  have hsz : sig.size = 512 := by rw [← hsig]; exact sigM_size _ _ _
  have HM : Hid (signedM K v seed = ⟨K.lock, K.secret, v :: K.path, sig :: K.sigs⟩) := by show _ = _; unfold signedM; rw [hlk2, htxt, hsig]
  have HS : Hid (∀ W, Calls Try.prog 63 #[.string seed, .int .i64 K.lock, .string txt] W fun e w' => e = .returned (.string sig) ∧ Below W.heap.size W w') := fun W => by
    rw [hlk]
    refine (sign_any seed txt lk (by omega) (by omega) (by omega) W).mono ?_
    rintro e w' ⟨x, hx, rfl, hb⟩
    exact ⟨by rw [← hsig]; unfold sigM; rw [← hx], hb⟩
  have HT : Hid (∀ W g', HvAt W g' (hcells pa sa pc sc K) → Below g w W → Calls Try.prog 70 #[.int .i64 0, .pointer (some ⟨g', 0, none⟩)] W fun e w' => e = .returned (.string txt) ∧ w' = W) := fun W g' hx hW => by
    have h9 := chain1_any g' hx (L.below (by rw [hg]; exact hW)) 0 (by omega)
    rw [htxt] at h9
    exact h9
  have HL : Hid (∀ W, Below g w W → HkL W pa sa pc sc K) := fun W hW => L.below (by rw [hg]; exact hW)
  have hV := hide hv
  clear hlk hlk2 htxt hsig hz hv L
  have hz0 : ∀ w1 : World, HvAt (w1.alloc (.cells #[.int .i64 0, .string ⟨#[]⟩, .slice none 0 0, .slice none 0 0] 31)) w1.heap.size #[.int .i64 0, .string ⟨#[]⟩, .slice none 0 0, .slice none 0 0] := fun w1 => heap_alloc_new _ _
  replace hz0 := hide hz0
  go_enter Try.func33, Try.ntmps33
  go_upto_region 1 with ((with_reducible refine wpList_at ?_); refine wpList_boxv (by rfl) 31 (.tmp 0) (by rfl) _ (by rfl) ?_; rw [hg]; intro w1 hu1 hz1 hb1; have hx1 : HvAt w1 g (hcells pa sa pc sc K) := hu1; clear hu1)
  have hR2 := hz0.out w1
  have hal : Below w1.heap.size w1 (w1.alloc (.cells #[.int .i64 0, .string ⟨#[]⟩, .slice none 0 0, .slice none 0 0] 31)) := (Below.refl _ _).alloc (Nat.le_refl _) _
  have hx2 := hx1.below hal (by omega)
  have hB2 : Below g w (w1.alloc (.cells #[.int .i64 0, .string ⟨#[]⟩, .slice none 0 0, .slice none 0 0] 31)) := hb1.trans (hal.mono (by omega))
  have hs2 : (w1.alloc (.cells #[.int .i64 0, .string ⟨#[]⟩, .slice none 0 0, .slice none 0 0] 31)).heap.size = g + 2 := by simp [hz1]
  rw [hz1] at hR2
  clear hal hx1 hb1
  generalize w1.alloc (.cells #[.int .i64 0, .string ⟨#[]⟩, .slice none 0 0, .slice none 0 0] 31) = w2 at hR2 hx2 hB2 hs2 ⊢
  go_wp2_with ((with_reducible refine wpList_at ?_); refine wpList_loadK (by rfl) (.tmp 3) (by rfl) _ _ (by rfl) hx2 rfl ?_)
  refine (chain_any).mono ?_
  rintro e w4 ⟨gk, rfl, hK4, hb4⟩
  have hx4 := hx2.below hb4 (by omega)
  have hR4 := hR2.below hb4 (by omega)
  have hB4 : Below g w w4 := hB2.trans (hb4.mono (by omega))
  obtain ⟨B, hBs⟩ : ∃ B, w4.heap.size = B := ⟨_, rfl⟩
  have hB2' : g + 2 ≤ B := by have := hb4.size; omega
  have hgk : gk < B := by rw [← hBs]; exact hK4.lt
  clear hx2 hR2 hB2 hb4 hz1 hs2
  have H9 : Hid (∀ W gb gc, Below B w4 W → W.heap[gb]? = some (.cells #[.int .i64 v] 3 (0, 0)) → W.heap[gc]? = some (.cells #[.slice (some ⟨gb, 0, none⟩) 1 1, .slice pa K.path.length pc] 22 (0, 0)) → Calls Try.prog 61 #[.slice (some ⟨gc, 0, none⟩) 2 2] W fun e w' => ∃ u, e = .returned u ∧ OwnI w' B u (v :: K.path) ∧ Below W.heap.size W w') := fun W gb gc hW hgb hgc => by
    have hWg : Below g w W := hB4.trans (hW.mono (by omega))
    have hLW := HL.out W hWg
    have h1 : Ints W (some ⟨gb, 0, none⟩) 1 [v] := ⟨rfl, by unfold maxLen; omega, fun j hj => by
        have : j = 0 := by omega
        subst this; exact hV.out, fun j hj => by
        have : j = 0 := by omega
        subst this; exact ⟨gb, 0, rfl, by rw [cell_of_row W gb _ _ _ (0, 0) hgb]; rfl⟩⟩
    refine (concat_ints gc h1 hLW.path (by rw [cell_of_row W gc _ _ _ (0, 0) hgc]; rfl) (by rw [cell_of_row W gc _ _ _ (0, 0) hgc]; rfl) (Nat.le_refl _) (by omega) (fun _ h => hLW.pn h)).mono ?_
    rintro e w' ⟨u, rfl, hO, hb⟩
    exact ⟨u, rfl, base_rowK hO (by have := hW.size; omega), hb⟩
  have H20 : Hid (∀ W gb gc, Below B w4 W → W.heap[gb]? = some (.cells #[.string sig] 9 (0, 0)) → W.heap[gc]? = some (.cells #[.slice (some ⟨gb, 0, none⟩) 1 1, .slice sa K.sigs.length sc] 25 (0, 0)) → Calls Try.prog 62 #[.slice (some ⟨gc, 0, none⟩) 2 2] W fun e w' => ∃ u, e = .returned u ∧ OwnS w' B u (sig :: K.sigs) ∧ Below W.heap.size W w') := fun W gb gc hW hgb hgc => by
    have hWg : Below g w W := hB4.trans (hW.mono (by omega))
    have hLW := HL.out W hWg
    have h1 : Strs W (some ⟨gb, 0, none⟩) 1 [sig] := ⟨rfl, by unfold maxLen; omega, fun j hj => by
        have : j = 0 := by omega
        subst this; show sig.size ≤ maxLen; unfold maxLen; omega, fun j hj => by
        have : j = 0 := by omega
        subst this; exact ⟨gb, 0, rfl, by rw [cell_of_row W gb _ _ _ (0, 0) hgb]; rfl⟩⟩
    refine (concat_strs gc h1 hLW.sigs (by rw [cell_of_row W gc _ _ _ (0, 0) hgc]; rfl) (by rw [cell_of_row W gc _ _ _ (0, 0) hgc]; rfl) (Nat.le_refl _) (by omega) (fun _ h => hLW.sn h)).mono ?_
    rintro e w' ⟨u, rfl, hO, hb⟩
    exact ⟨u, rfl, base_rowK hO (by have := hW.size; omega), hb⟩
  have HX : Hid (∀ W, Below B w4 W → HvAt W g (hcells pa sa pc sc K) ∧ HvAt W gk (hcells pa sa pc sc K) ∧ HvAt W (g + 1) #[.int .i64 0, .string ⟨#[]⟩, .slice none 0 0, .slice none 0 0]) := fun W hW => ⟨hx4.below hW (by omega), hK4.below hW hgk, hR4.below hW (by omega)⟩
  have H14 : Hid (∀ W, Below B w4 W → Calls Try.prog 70 #[.int .i64 0, .pointer (some ⟨gk, 0, none⟩)] W fun e w' => e = .returned (.string txt) ∧ w' = W) := fun W hW => HT.out W gk (HX.out W hW).2.1 (hB4.trans (hW.mono (by omega)))
  have hRB : Below B w4 w4.drew := ⟨rfl, rfl, rfl, Nat.le_refl _, fun _ _ => rfl⟩
  have hB4' := hide hB4
  replace hBs := hide hBs
  obtain ⟨np, hnp⟩ : ∃ n, K.path.length = n := ⟨_, rfl⟩
  obtain ⟨ns, hns⟩ : ∃ n, K.sigs.length = n := ⟨_, rfl⟩
  have HNP := hide hnp
  have HNS := hide hns
  have HC : Hid (∀ W, HvAt W g (hcells pa sa pc sc K) → W.cell? ⟨g, 0, none⟩ = some (.int .i64 K.lock) ∧ W.cell? ⟨g, 1, none⟩ = some (.string K.secret) ∧ W.cell? ⟨g, 2, none⟩ = some (.slice pa np pc) ∧ W.cell? ⟨g, 3, none⟩ = some (.slice sa ns sc)) := fun W hW => by
    rw [← hnp, ← hns]; exact hcells_at hW
  rw [hnp] at H9
  rw [hns] at H20
  clear hnp hns hx4 hR4 hK4 hB4 HT HL
  obtain ⟨P1, hP1⟩ : ∃ P1, v :: K.path = P1 := ⟨_, rfl⟩
  obtain ⟨S1, hS1⟩ : ∃ S1, sig :: K.sigs = S1 := ⟨_, rfl⟩
  rw [hP1] at H9
  rw [hS1] at H20
  replace hP1 := hide hP1
  replace hS1 := hide hS1
  have hs4 : Hid (B ≤ w4.heap.size) := by show B ≤ _; have := hBs.out; omega
  go_upto_region 2 with fail
  have hRw : Below w4.heap.size w4 w4.drew := ⟨rfl, rfl, rfl, Nat.le_refl _, fun _ _ => rfl⟩
  refine wp_region_held_drew (S := fun W => HvAt W g (hcells pa sa pc sc K)) (by kernel_rfl) ((HX.out _ hRB).1) (fun hHeld => ?_)
  refine wpAnyH_take (i := 0) (oi := { dst := some 10, op := Op.fieldAddr 31 (Operand.tmp 3) 0, type := 0, pos := "hashkey.go:55", after := #[], guard := none }) (v := ?_) rfl (by kernel_rfl) (by kernel_rfl) (by kernel_rfl) (fun _ _ _ h => h) (Or.inl ⟨by rfl, ?_⟩) (by assumption) ?_
  rotate_left
  · intro W hSW; first | (go_simp; done) | (go_simp; with_reducible rfl)
  try simp only [Act.put, List.setIfInBounds_toArray, List.set_cons_zero, List.set_cons_succ]
  refine wpAnyH_take (i := 1) (oi := { dst := some 11, op := Op.load 3 (Operand.tmp 10), type := 3, pos := "hashkey.go:55", after := #[{ on := 0, ground := Ground.data }], guard := none }) (v := ?_) rfl (by kernel_rfl) (by kernel_rfl) (by kernel_rfl) (fun _ _ _ h => h) (Or.inl ⟨by rfl, ?_⟩) (by assumption) ?_
  rotate_left
  · intro W hSW; have z := HC.out W hSW; have z0 := z.1; have z1 := z.2.1; have z2 := z.2.2.1; have z3 := z.2.2.2; clear z; first | (go_simp; done) | (go_simp; with_reducible rfl)
  try simp only [Act.put, List.setIfInBounds_toArray, List.set_cons_zero, List.set_cons_succ]
  refine wpAnyH_take (i := 2) (oi := { dst := some 12, op := Op.fieldAddr 31 (Operand.tmp 3) 1, type := 0, pos := "hashkey.go:55", after := #[], guard := none }) (v := ?_) rfl (by kernel_rfl) (by kernel_rfl) (by kernel_rfl) (fun _ _ _ h => h) (Or.inl ⟨by rfl, ?_⟩) (by assumption) ?_
  rotate_left
  · intro W hSW; first | (go_simp; done) | (go_simp; with_reducible rfl)
  try simp only [Act.put, List.setIfInBounds_toArray, List.set_cons_zero, List.set_cons_succ]
  refine wpAnyH_take (i := 3) (oi := { dst := some 13, op := Op.load 9 (Operand.tmp 12), type := 9, pos := "hashkey.go:55", after := #[{ on := 2, ground := Ground.data }], guard := none }) (v := ?_) rfl (by kernel_rfl) (by kernel_rfl) (by kernel_rfl) (fun _ _ _ h => h) (Or.inl ⟨by rfl, ?_⟩) (by assumption) ?_
  rotate_left
  · intro W hSW; have z := HC.out W hSW; have z0 := z.1; have z1 := z.2.1; have z2 := z.2.2.1; have z3 := z.2.2.2; clear z; first | (go_simp; done) | (go_simp; with_reducible rfl)
  try simp only [Act.put, List.setIfInBounds_toArray, List.set_cons_zero, List.set_cons_succ]
  refine wpAnyH_take (i := 4) (oi := { dst := some 14, op := Op.move (Operand.tmp 1), type := 3, pos := "hashkey.go:55", after := #[], guard := none }) (v := ?_) rfl (by kernel_rfl) (by kernel_rfl) (by kernel_rfl) (fun _ _ _ h => h) (Or.inl ⟨by rfl, ?_⟩) (by assumption) ?_
  rotate_left
  · intro W hSW; first | (go_simp; done) | (go_simp; with_reducible rfl)
  try simp only [Act.put, List.setIfInBounds_toArray, List.set_cons_zero, List.set_cons_succ]
  refine wpAnyH_take (i := 6) (oi := { dst := some 16, op := Op.fieldAddr 31 (Operand.tmp 3) 2, type := 0, pos := "hashkey.go:55", after := #[], guard := none }) (v := ?_) rfl (by kernel_rfl) (by kernel_rfl) (by kernel_rfl) (fun _ _ _ h => h) (Or.inl ⟨by rfl, ?_⟩) (by assumption) ?_
  rotate_left
  · intro W hSW; first | (go_simp; done) | (go_simp; with_reducible rfl)
  try simp only [Act.put, List.setIfInBounds_toArray, List.set_cons_zero, List.set_cons_succ]
  refine wpAnyH_take (i := 7) (oi := { dst := some 17, op := Op.load 22 (Operand.tmp 16), type := 22, pos := "hashkey.go:55", after := #[{ on := 6, ground := Ground.data }], guard := none }) (v := ?_) rfl (by kernel_rfl) (by kernel_rfl) (by kernel_rfl) (fun _ _ _ h => h) (Or.inl ⟨by rfl, ?_⟩) (by assumption) ?_
  rotate_left
  · intro W hSW; have z := HC.out W hSW; have z0 := z.1; have z1 := z.2.1; have z2 := z.2.2.1; have z3 := z.2.2.2; clear z; first | (go_simp; done) | (go_simp; with_reducible rfl)
  try simp only [Act.put, List.setIfInBounds_toArray, List.set_cons_zero, List.set_cons_succ]
  refine wpAnyH_take (i := 10) (oi := { dst := some 20, op := Op.move (Operand.tmp 2), type := 9, pos := "hashkey.go:55", after := #[], guard := none }) (v := ?_) rfl (by kernel_rfl) (by kernel_rfl) (by kernel_rfl) (fun _ _ _ h => h) (Or.inl ⟨by rfl, ?_⟩) (by assumption) ?_
  rotate_left
  · intro W hSW; first | (go_simp; done) | (go_simp; with_reducible rfl)
  try simp only [Act.put, List.setIfInBounds_toArray, List.set_cons_zero, List.set_cons_succ]
  refine wpAnyH_take (i := 11) (oi := { dst := some 21, op := Op.fieldAddr 31 (Operand.tmp 3) 0, type := 0, pos := "hashkey.go:55", after := #[], guard := none }) (v := ?_) rfl (by kernel_rfl) (by kernel_rfl) (by kernel_rfl) (fun _ _ _ h => h) (Or.inl ⟨by rfl, ?_⟩) (by assumption) ?_
  rotate_left
  · intro W hSW; first | (go_simp; done) | (go_simp; with_reducible rfl)
  try simp only [Act.put, List.setIfInBounds_toArray, List.set_cons_zero, List.set_cons_succ]
  refine wpAnyH_take (i := 12) (oi := { dst := some 22, op := Op.load 3 (Operand.tmp 21), type := 3, pos := "hashkey.go:55", after := #[{ on := 11, ground := Ground.data }], guard := none }) (v := ?_) rfl (by kernel_rfl) (by kernel_rfl) (by kernel_rfl) (fun _ _ _ h => h) (Or.inl ⟨by rfl, ?_⟩) (by assumption) ?_
  rotate_left
  · intro W hSW; have z := HC.out W hSW; have z0 := z.1; have z1 := z.2.1; have z2 := z.2.2.1; have z3 := z.2.2.2; clear z; first | (go_simp; done) | (go_simp; with_reducible rfl)
  try simp only [Act.put, List.setIfInBounds_toArray, List.set_cons_zero, List.set_cons_succ]
  refine wpAnyH_take (i := 13) (oi := { dst := some 23, op := Op.move (Operand.tmp 7), type := 40, pos := "hashkey.go:55", after := #[], guard := none }) (v := ?_) rfl (by kernel_rfl) (by kernel_rfl) (by kernel_rfl) (fun _ _ _ h => h) (Or.inl ⟨by rfl, ?_⟩) (by assumption) ?_
  rotate_left
  · intro W hSW; first | (go_simp; done) | (go_simp; with_reducible rfl)
  try simp only [Act.put, List.setIfInBounds_toArray, List.set_cons_zero, List.set_cons_succ]
  refine wpAnyH_take (i := 17) (oi := { dst := some 27, op := Op.fieldAddr 31 (Operand.tmp 3) 3, type := 0, pos := "hashkey.go:55", after := #[], guard := none }) (v := ?_) rfl (by kernel_rfl) (by kernel_rfl) (by kernel_rfl) (fun _ _ _ h => h) (Or.inl ⟨by rfl, ?_⟩) (by assumption) ?_
  rotate_left
  · intro W hSW; first | (go_simp; done) | (go_simp; with_reducible rfl)
  try simp only [Act.put, List.setIfInBounds_toArray, List.set_cons_zero, List.set_cons_succ]
  refine wpAnyH_take (i := 18) (oi := { dst := some 28, op := Op.load 25 (Operand.tmp 27), type := 25, pos := "hashkey.go:55", after := #[{ on := 17, ground := Ground.data }], guard := none }) (v := ?_) rfl (by kernel_rfl) (by kernel_rfl) (by kernel_rfl) (fun _ _ _ h => h) (Or.inl ⟨by rfl, ?_⟩) (by assumption) ?_
  rotate_left
  · intro W hSW; have z := HC.out W hSW; have z0 := z.1; have z1 := z.2.1; have z2 := z.2.2.1; have z3 := z.2.2.2; clear z; first | (go_simp; done) | (go_simp; with_reducible rfl)
  try simp only [Act.put, List.setIfInBounds_toArray, List.set_cons_zero, List.set_cons_succ]
  refine wpAnyH_loneE (T := fun u W => Below B w4 W ∧ ∃ gb, u = .slice (some ⟨gb, 0, none⟩) 1 1 ∧ W.heap[gb]? = some (.cells #[.int .i64 v] 3)) (i := 5) (oi := { dst := some 15, op := Op.buildSlice 22 1 #[(0, Operand.tmp 14)], type := 22, pos := "hashkey.go:55", after := #[{ on := 4, ground := Ground.data }], guard := none }) (by kernel_rfl) rfl (fun u W h => (HX.out W h.1).1) ?_ ?_
  · intro K hK
    go_simp
    exact hK.out _ _ ⟨hRB.alloc (by have := hRB.size; have := hs4.out; omega) _, _, rfl, heap_alloc_new _ _⟩
  intro u5 W9 hu5 hHeld
  clear hRB
  obtain ⟨hRB, gb, rfl, hgb⟩ := hu5
  try simp only [Act.put, List.setIfInBounds_toArray, List.set_cons_zero, List.set_cons_succ]
  refine wpAnyH_loneE (T := fun u W => Below B w4 W ∧ W.heap[gb]? = some (.cells #[.int .i64 v] 3) ∧ ∃ gc, u = .slice (some ⟨gc, 0, none⟩) 2 2 ∧ W.heap[gc]? = some (.cells #[.slice (some ⟨gb, 0, none⟩) 1 1, .slice pa np pc] 22)) (i := 8) (oi := { dst := some 18, op := Op.buildSlice 98 2 #[(0, Operand.tmp 15), (1, Operand.tmp 17)], type := 98, pos := "hashkey.go:55", after := #[{ on := 5, ground := Ground.data }, { on := 7, ground := Ground.data }], guard := none }) (by kernel_rfl) rfl (fun u W h => (HX.out W h.1).1) ?_ ?_
  · intro K hK
    go_simp
    exact hK.out _ _ ⟨hRB.alloc (by have := hRB.size; have := hs4.out; omega) _, by rw [Below.heap_alloc _ _ gb (Array.getElem?_eq_some_iff.1 hgb).1]; exact hgb, _, rfl, heap_alloc_new _ _⟩
  intro u8 W9 hu8 hHeld
  clear hRB hgb
  obtain ⟨hRB, hgb, gc, rfl, hgc⟩ := hu8
  try simp only [Act.put, List.setIfInBounds_toArray, List.set_cons_zero, List.set_cons_succ]
  refine wpAnyH_loneE (T := fun u W => Below B w4 W ∧ OwnI W B u P1) (i := 9) (oi := { dst := some 19, op := Op.call { callee := Callee.value (Operand.func 61), args := #[Operand.tmp 18], argTypes := #[98] }, type := 22, pos := "hashkey.go:58", after := #[{ on := 8, ground := Ground.data }], guard := none }) (by kernel_rfl) rfl (fun u W h => (HX.out W h.1).1) ?_ ?_
  · intro K hK
    go_simp
    refine (H9.out _ _ _ hRB hgb hgc).mono ?_
    rintro e W2 ⟨u0, rfl, hO0, hb0⟩
    go_wp2_with fail
    exact hK.out _ _ (⟨hRB.trans (hb0.mono (by have := hRB.size; have := hs4.out; omega)), hO0⟩)
  intro up W9 hup hHeld
  clear hRB hgb hgc
  obtain ⟨hRB, hOp⟩ := hup
  obtain ⟨pa', pc', rfl⟩ := row_slice hOp
  try simp only [Act.put, List.setIfInBounds_toArray, List.set_cons_zero, List.set_cons_succ]
  refine wpAnyH_loneE (T := fun x W => x = Value.string txt ∧ Below B w4 W ∧ OwnI W B (.slice pa' P1.length pc') P1) (i := 14) (oi := { dst := some 24, op := Op.call { callee := Callee.value (Operand.tmp 23), args := #[Operand.const (Value.int IntKind.i64 0)], argTypes := #[3] }, type := 9, pos := "hashkey.go:59", after := #[{ on := 13, ground := Ground.data }, { on := 9, ground := Ground.chain }], guard := none }) (by kernel_rfl) rfl (fun u W h => (HX.out W h.2.1).1) ?_ ?_
  · intro K hK
    go_simp
    refine (H14.out _ hRB).mono ?_
    rintro e W2 ⟨rfl, hw0⟩
    go_wp2_with fail
    exact hK.out _ _ (⟨rfl, hw0 ▸ hRB, hw0 ▸ hOp⟩)
  intro x14 W9 hx14 hHeld
  clear hRB hOp
  obtain ⟨rfl, hRB, hOp⟩ := hx14
  try simp only [Act.put, List.setIfInBounds_toArray, List.set_cons_zero, List.set_cons_succ]
  refine wpAnyH_loneE (T := fun x W => x = Value.string sig ∧ Below B w4 W ∧ OwnI W B (.slice pa' P1.length pc') P1) (i := 15) (oi := { dst := some 25, op := Op.call { callee := Callee.value (Operand.func 63), args := #[Operand.tmp 20, Operand.tmp 22, Operand.tmp 24], argTypes := #[9, 3, 9] }, type := 9, pos := "hashkey.go:59", after := #[{ on := 10, ground := Ground.data }, { on := 12, ground := Ground.data }, { on := 14, ground := Ground.data }, { on := 14, ground := Ground.chain }], guard := none }) (by kernel_rfl) rfl (fun u W h => (HX.out W h.2.1).1) ?_ ?_
  · intro K hK
    go_simp
    refine (HS.out _).mono ?_
    rintro e W2 ⟨rfl, hb0⟩
    go_wp2_with fail
    exact hK.out _ _ (⟨rfl, hRB.trans (hb0.mono (by have := hRB.size; have := hs4.out; omega)), own_belowK hOp hb0⟩)
  intro x15 W9 hx15 hHeld
  clear hRB hOp
  obtain ⟨rfl, hRB, hOp⟩ := hx15
  try simp only [Act.put, List.setIfInBounds_toArray, List.set_cons_zero, List.set_cons_succ]
  refine wpAnyH_loneE (T := fun u W => Below B w4 W ∧ OwnI W B (.slice pa' P1.length pc') P1 ∧ ∃ gb, u = .slice (some ⟨gb, 0, none⟩) 1 1 ∧ W.heap[gb]? = some (.cells #[.string sig] 9)) (i := 16) (oi := { dst := some 26, op := Op.buildSlice 25 1 #[(0, Operand.tmp 25)], type := 25, pos := "hashkey.go:55", after := #[{ on := 15, ground := Ground.data }], guard := none }) (by kernel_rfl) rfl (fun u W h => (HX.out W h.1).1) ?_ ?_
  · intro K hK
    go_simp
    exact hK.out _ _ ⟨hRB.alloc (by have := hRB.size; have := hs4.out; omega) _, World.ownsRow.alloc hOp _, _, rfl, heap_alloc_new _ _⟩
  intro u16 W9 hu16 hHeld
  clear hRB hOp
  obtain ⟨hRB, hOp, gd, rfl, hgd⟩ := hu16
  try simp only [Act.put, List.setIfInBounds_toArray, List.set_cons_zero, List.set_cons_succ]
  refine wpAnyH_loneE (T := fun u W => Below B w4 W ∧ OwnI W B (.slice pa' P1.length pc') P1 ∧ W.heap[gd]? = some (.cells #[.string sig] 9) ∧ ∃ gc, u = .slice (some ⟨gc, 0, none⟩) 2 2 ∧ W.heap[gc]? = some (.cells #[.slice (some ⟨gd, 0, none⟩) 1 1, .slice sa ns sc] 25)) (i := 19) (oi := { dst := some 29, op := Op.buildSlice 100 2 #[(0, Operand.tmp 26), (1, Operand.tmp 28)], type := 100, pos := "hashkey.go:55", after := #[{ on := 16, ground := Ground.data }, { on := 18, ground := Ground.data }], guard := none }) (by kernel_rfl) rfl (fun u W h => (HX.out W h.1).1) ?_ ?_
  · intro K hK
    go_simp
    exact hK.out _ _ ⟨hRB.alloc (by have := hRB.size; have := hs4.out; omega) _, World.ownsRow.alloc hOp _, by rw [Below.heap_alloc _ _ gd (Array.getElem?_eq_some_iff.1 hgd).1]; exact hgd, _, rfl, heap_alloc_new _ _⟩
  intro u19 W9 hu19 hHeld
  clear hRB hOp hgd
  obtain ⟨hRB, hOp, hgd, ge, rfl, hge⟩ := hu19
  try simp only [Act.put, List.setIfInBounds_toArray, List.set_cons_zero, List.set_cons_succ]
  refine wpAnyH_loneE (T := fun u W => Below B w4 W ∧ OwnI W B (.slice pa' P1.length pc') P1 ∧ OwnS W B u S1) (i := 20) (oi := { dst := some 30, op := Op.call { callee := Callee.value (Operand.func 62), args := #[Operand.tmp 29], argTypes := #[100] }, type := 25, pos := "hashkey.go:59", after := #[{ on := 19, ground := Ground.data }, { on := 15, ground := Ground.chain }], guard := none }) (by kernel_rfl) rfl (fun u W h => (HX.out W h.1).1) ?_ ?_
  · intro K hK
    go_simp
    refine (H20.out _ _ _ hRB hgd hge).mono ?_
    rintro e W2 ⟨u0, rfl, hO0, hb0⟩
    go_wp2_with fail
    exact hK.out _ _ (⟨hRB.trans (hb0.mono (by have := hRB.size; have := hs4.out; omega)), own_belowK hOp hb0, hO0⟩)
  intro us W9 hus hHeld
  clear hRB hOp hgd hge
  obtain ⟨hRB, hOp, hOs⟩ := hus
  obtain ⟨sa', sc', rfl⟩ := row_slice hOs
  try simp only [Act.put, List.setIfInBounds_toArray, List.set_cons_zero, List.set_cons_succ]
  refine wpAnyH_take (i := 21) (oi := { dst := some 31, op := Op.build 31 #[(0, Operand.tmp 11), (1, Operand.tmp 13), (2, Operand.tmp 19), (3, Operand.tmp 30)], type := 31, pos := "hashkey.go:55", after := #[{ on := 1, ground := Ground.data }, { on := 3, ground := Ground.data }, { on := 9, ground := Ground.data }, { on := 20, ground := Ground.data }], guard := none }) (v := ?_) rfl (by kernel_rfl) (by kernel_rfl) (by kernel_rfl) (fun _ _ _ h => h) (Or.inl ⟨by rfl, ?_⟩) (by assumption) ?_
  rotate_left
  · intro W hSW; first | (go_simp; done) | (go_simp; with_reducible rfl)
  try simp only [Act.put, List.setIfInBounds_toArray, List.set_cons_zero, List.set_cons_succ]
  refine wpAnyH_loneE (T := fun _ W => HvAt W (g + 1) #[.int .i64 K.lock, .string K.secret, .slice pa' P1.length pc', .slice sa' S1.length sc'] ∧ OwnI W B (.slice pa' P1.length pc') P1 ∧ OwnS W B (.slice sa' S1.length sc') S1 ∧ ∃ W0, Below B w4 W0 ∧ But (g + 1) W0 W) (i := 22) (oi := { dst := none, op := Op.store 31 (Operand.tmp 6) (Operand.tmp 31), type := 0, pos := "hashkey.go:55", after := #[{ on := 21, ground := Ground.data }, { on := 20, ground := Ground.chain }, { on := 0, ground := Ground.phase }, { on := 1, ground := Ground.phase }, { on := 2, ground := Ground.phase }, { on := 3, ground := Ground.phase }, { on := 4, ground := Ground.phase }, { on := 5, ground := Ground.phase }, { on := 6, ground := Ground.phase }, { on := 7, ground := Ground.phase }, { on := 8, ground := Ground.phase }, { on := 9, ground := Ground.phase }, { on := 10, ground := Ground.phase }, { on := 11, ground := Ground.phase }, { on := 12, ground := Ground.phase }, { on := 13, ground := Ground.phase }, { on := 14, ground := Ground.phase }, { on := 15, ground := Ground.phase }, { on := 16, ground := Ground.phase }, { on := 17, ground := Ground.phase }, { on := 18, ground := Ground.phase }, { on := 19, ground := Ground.phase }, { on := 20, ground := Ground.phase }, { on := 21, ground := Ground.phase }], guard := none }) (by kernel_rfl) rfl (fun _ W h => by obtain ⟨_, _, _, W0, hb0, hbt⟩ := h; exact HvAt.but (HX.out W0 hb0).1 hbt (by omega)) ?_ ?_
  · intro K hK
    refine step_storeH _ (by rfl) (.tmp 6) (.tmp 31) (by rfl) (g + 1) _ _ (by rfl) (by rfl) (HX.out _ hRB).2.2 rfl rfl (by intro u hu; simp at hu; rcases hu with rfl | rfl | rfl | rfl <;> rfl) ?_
    intro w8 hv8 hbt8
    exact hK.out undef _ ⟨hv8, World.ownsRow.kept hOp hbt8.grown (row_apart hOp (HX.out _ hRB).2.2 (by decide)), World.ownsRow.kept hOs hbt8.grown (row_apart hOs (HX.out _ hRB).2.2 (by decide)), _, hRB, hbt8⟩
  intro u22 W9 hu22 hHeld
  clear hRB hOp hOs
  try simp only [Act.put]
  refine wpAnyH_done (by kernel_rfl) ?_ _
  obtain ⟨hv9, hOp, hOs, W0, hb0, hbt⟩ := hu22
  go_wp2_with fail
  refine bodyPost_ret (v := .agg _) (results_one (fn := Try.f33) Try.results33 _ _ (g + 1) 31 _ (0, 0) _ (by rfl) hv9 Try.underlying31 sizeHk) rfl ?_
  refine ⟨_, rfl, ?_, ?_⟩
  · rw [HM.out]
    refine ⟨_, _, rfl, ?_, ?_⟩
    · show OwnI W9 g _ (v :: K.path)
      rw [hP1.out]; exact base_rowK hOp (by omega)
    · show OwnS W9 g _ (sig :: K.sigs)
      rw [hS1.out]; exact base_rowK hOs (by omega)
  · exact (hB4'.out.trans (hb0.mono (by omega))).trans (hbt.below (by omega) (by have := hb0.size; have := hs4.out; omega))

end Go.Proofs.Ythoimecljfcjmaa

/-
  Package hashkey: Make, leads.
-/
namespace Go.Proofs.Ythoimecljfcjmaa
open Go.RowKit

theorem wpList_storeH {ops : Array Oper} {rest : List Oper} {o : Oper} {a : Act} {w : World} {Q : Exit → Act → World → Prop} (hw : Region.wanted o (yielded ops a.tmps) = true) (x y : Operand) (ho : o.op = .store 31 x y)
    (g : Nat) (cs old : Array Value) (hx : a.eval x = .pointer (some ⟨g, 0, none⟩)) (hy : a.eval y = .agg cs) (hg : HvAt w g old) (h4 : cs.size = 4) (h4' : old.size = 4) (h1 : ∀ u ∈ cs.toList, u.oneCell' = true)
    (h : ∀ w1, HvAt w1 g cs → But g w w1 → wpList Try.prog ops Q rest (a.put o.dst undef) w1) : wpList Try.prog ops Q (o :: rest) a w :=
  wpList_step fun _ hK => step_storeH w hw x y ho g cs old hx hy hg h4 h4' h1 (fun w1 h2 h3 => hK _ _ (h w1 h2 h3))
theorem noHk_lies (w : World) (lock : Int) (hl : In64 lock) (secret : ByteArray) (hs : secret.size ≤ maxLen) : HkL w none none 0 0 ⟨lock, secret, [], []⟩ :=
  ⟨hl, hs, ints_nil w, strs_nil w, Nat.le_refl _, by unfold maxLen; omega, Nat.le_refl _, by unfold maxLen; omega, fun _ => rfl, fun _ => rfl⟩

set_option maxRecDepth 10000 in
set_option maxHeartbeats 2000000 in
theorem leads_any {w : World} {v : Value} {s : SpecM} (hv : SpecW w v s) {al : Option Addr} {cl : Nat} {l : List Int} (hl : Ints w al l.length l) (hcl : l.length ≤ cl) (hcm : cl ≤ maxLen) (a b : Int) :
    Calls Try.prog 22 #[v, .slice al l.length cl, .int .i64 a, .int .i64 b] w fun e w' => e = .returned (.bool (told (pathOk s l ∧ l.getD 0 0 = a ∧ l.getD (l.length - 1) 0 = b))) ∧ Below w.heap.size w w' := by
  obtain ⟨cs, rfl, h7⟩ := hv.seven
  obtain ⟨g, hg⟩ : ∃ g, w.heap.size = g := ⟨_, rfl⟩
  rw [hg]
  obtain ⟨r, hr⟩ : ∃ r, told (pathOk s l ∧ l.getD 0 0 = a ∧ l.getD (l.length - 1) 0 = b) = r := ⟨_, rfl⟩
  rw [hr]
  have hno : Hid (¬ (pathOk s l ∧ l.getD 0 0 = a ∧ l.getD (l.length - 1) 0 = b) → r = false) := fun h => by rw [← hr, told_no h]
  have hyes : Hid ((pathOk s l ∧ l.getD 0 0 = a ∧ l.getD (l.length - 1) 0 = b) → r = true) := fun h => by rw [← hr, told_yes h]
  clear hr
  have HP : Hid (∀ W, Below g w W → Calls Try.prog 47 #[.agg cs, .slice al l.length cl] W fun e w' => e = .returned (.bool (told (pathOk s l))) ∧ Below W.heap.size W w') := fun W hW => ppath_any (hv.below (by rw [hg]; exact hW)) (hl.below (by rw [hg]; exact hW)) hcl hcm
  obtain ⟨n, hn⟩ : ∃ n, l.length = n := ⟨_, rfl⟩
  rw [hn] at hl HP hcl ⊢
  have hnm := hl.2.1
  unfold maxLen at hnm hcm
  replace hn := hide hn
  replace hl := hide hl
  clear hv
  go_enter Try.func22, Try.ntmps22
  go_wp2_with (first
    | ((with_reducible refine wpList_at ?_); refine wpList_boxv (by rfl) 27 (.tmp 0) (by rfl) _ (by rfl) ?_; rw [hg]; intro w1 hu1 hz1 hb1; have hx1 : SvAt w1 g cs := hu1; clear hu1)
    | ((with_reducible refine wpList_at ?_); refine wpList_loadV (by rfl) (.tmp 4) (by rfl) _ cs (by rfl) hx1 h7 ?_))
  refine (HP.out _ hb1).mono ?_
  rintro e w2 ⟨rfl, hb2⟩
  have hB2 : Below g w w2 := hb1.trans (hb2.mono (by omega))
  clear hx1 hb2 HP hz1
  by_cases hp : pathOk s l
  · rw [told_yes hp]
    have hn1 : 1 ≤ n := by have := hp.2.1; rw [hn.out] at this; exact this
    replace hp := hide hp
    obtain ⟨b1, o1, hb, d0⟩ := (hl.out.below (w' := w2) (by rw [hg]; exact hB2)).2.2.2 0 (by omega)
    subst hb
    have d0 : w2.cell? ⟨b1, o1, none⟩ = some (.int .i64 (l.getD 0 0)) := d0
    have d1 := (hl.out.below (w' := w2) (by rw [hg]; exact hB2)).get (n - 1) (by omega)
    obtain ⟨x, hx⟩ : ∃ x, l.getD 0 0 = x := ⟨_, rfl⟩
    obtain ⟨y, hy⟩ : ∃ y, l.getD (n - 1) 0 = y := ⟨_, rfl⟩
    rw [hx] at d0
    rw [hy] at d1
    obtain ⟨m, hm⟩ : ∃ m, n - 1 = m := ⟨_, rfl⟩
    rw [hm] at d1
    have hw0 : IntKind.i64.wrap ((n : Int) - 1) = (m : Int) := by rw [IntWalk.i64_in _ (by omega)]; omega
    have hmn : m < n := by omega
    have hn0 : 0 < n := by omega
    replace hx := hide hx
    replace hy := hide hy
    replace hm := hide hm
    by_cases c1 : x = a
    · have t1 : (x == a) = true := by rw [c1]; exact beq_self_eq_true _
      by_cases c2 : y = b
      · have t2 : (y == b) = true := by rw [c2]; exact beq_self_eq_true _
        have hf : Hid (r = true) := hyes.out ⟨hp.out, by rw [hx.out]; exact c1, by rw [hn.out, hy.out]; exact c2⟩
        clear c1 c2
        go_wp2
        go_ret
        exact ⟨ret_bool hf.out.symm, hB2⟩
      · have t2 : (y == b) = false := by rw [beq_eq_false_iff_ne]; exact c2
        have hf : Hid (r = false) := hno.out (fun h => c2 (by have := h.2.2; rw [hn.out, hy.out] at this; exact this))
        clear c1 c2
        go_wp2
        go_ret
        exact ⟨ret_bool hf.out.symm, hB2⟩
    · have t1 : (x == a) = false := by rw [beq_eq_false_iff_ne]; exact c1
      have hf : Hid (r = false) := hno.out (fun h => c1 (by have := h.2.1; rw [hx.out] at this; exact this))
      clear c1
      go_wp2
      go_ret
      exact ⟨ret_bool hf.out.symm, hB2⟩
  · rw [told_no hp]
    have hf : Hid (r = false) := hno.out (fun h => hp h.1)
    clear hp
    go_wp2
    go_ret
    exact ⟨ret_bool hf.out.symm, hB2⟩

set_option maxRecDepth 10000 in
set_option maxHeartbeats 2000000 in
theorem make_any {w : World} {v : Value} {s : SpecM} (hv : SpecW w v s) (lock : Int) (secret seed : ByteArray) (hl64 : In64 lock) (hsec : secret.size ≤ 1000) (hseed : seed.size ≤ 1000) (R : HkM)
    (h1 : specOk s ∧ 0 ≤ lock ∧ lock < (s.locks.length : Int) → R = signedM ⟨lock, secret, [], []⟩ (s.leaders.getD lock.toNat 0) seed) (h2 : ¬ (specOk s ∧ 0 ≤ lock ∧ lock < (s.locks.length : Int)) → R = noHk) :
    Calls Try.prog 13 #[v, .int .i64 lock, .string secret, .string seed] w fun e w' => ∃ u, e = .returned u ∧ HkO w' w.heap.size u R ∧ Below w.heap.size w w' := by
  obtain ⟨cs, rfl, h7⟩ := hv.seven
  obtain ⟨g, hg⟩ : ∃ g, w.heap.size = g := ⟨_, rfl⟩
  rw [hg]
  have HC : Hid (∀ W, Below g w W → Calls Try.prog 32 #[.agg cs] W fun e w' => e = .returned (.bool (told (specOk s))) ∧ Below W.heap.size W w') := fun W hW => check_spec (hv.below (by rw [hg]; exact hW))
  have HB : Hid (∀ n : Int, ∀ W, Calls Try.prog 20 #[.int .i64 lock, .int .i64 n] W fun e w' => e = .returned (.bool (told (0 ≤ lock ∧ lock < n))) ∧ w' = W) := fun n W => hbelow_any lock n W
  obtain ⟨a1, a2, a3, a4, k1, k2, k3, k4, hcs, LI, hcap⟩ := hv
  injection hcs with hcs
  have HX : Hid (∀ W, SvAt W g cs → W.cell? ⟨g, 3, none⟩ = some (.slice a3 s.leaders.length k3) ∧ W.cell? ⟨g, 4, none⟩ = some (.slice a4 s.locks.length k4)) := fun W hW => by
    have h9 : W.heap[g]? = some (.cells (cells7 a1 a2 a3 a4 k1 k2 k3 k4 s) 27 (0, 0)) := by rw [← hcs]; exact hW
    exact ⟨(cells7_at h9).2.2.2.1, (cells7_at h9).2.2.2.2.1⟩
  have HLd : Hid (∀ W, Below g w W → Ints W a3 s.leaders.length s.leaders) := fun W hW => LI.leaders.below (by rw [hg]; exact hW)
  have hm4 := LI.locks.2.1
  have hm3 := LI.leaders.2.1
  unfold maxLen at hm4 hm3
  clear hcs LI hcap
  replace h1 := hide h1
  replace h2 := hide h2
  have hz0 : ∀ w1 : World, HvAt (w1.alloc (.cells #[.int .i64 0, .string ⟨#[]⟩, .slice none 0 0, .slice none 0 0] 31)) w1.heap.size #[.int .i64 0, .string ⟨#[]⟩, .slice none 0 0, .slice none 0 0] := fun w1 => heap_alloc_new _ _
  replace hz0 := hide hz0
  go_enter Try.func13, Try.ntmps13
  go_upto_region 1 with ((with_reducible refine wpList_at ?_); refine wpList_boxv (by rfl) 27 (.tmp 0) (by rfl) _ (by rfl) ?_; rw [hg]; intro w1 hu1 hz1 hb1; have hx1 : SvAt w1 g cs := hu1; clear hu1)
  have hR2 := hz0.out w1
  have hal : Below w1.heap.size w1 (w1.alloc (.cells #[.int .i64 0, .string ⟨#[]⟩, .slice none 0 0, .slice none 0 0] 31)) := (Below.refl _ _).alloc (Nat.le_refl _) _
  have hx2 := hx1.below hal
  have hB2 : Below g w (w1.alloc (.cells #[.int .i64 0, .string ⟨#[]⟩, .slice none 0 0, .slice none 0 0] 31)) := hb1.trans (hal.mono (by omega))
  have hs2 : (w1.alloc (.cells #[.int .i64 0, .string ⟨#[]⟩, .slice none 0 0, .slice none 0 0] 31)).heap.size = g + 2 := by simp [hz1]
  rw [hz1] at hR2
  clear hal hx1 hb1
  generalize w1.alloc (.cells #[.int .i64 0, .string ⟨#[]⟩, .slice none 0 0, .slice none 0 0] 31) = w2 at hR2 hx2 hB2 hs2 ⊢
  go_wp2_with ((with_reducible refine wpList_at ?_); refine wpList_loadV (by rfl) (.tmp 4) (by rfl) _ cs (by rfl) hx2 h7 ?_)
  refine (HC.out _ hB2).mono ?_
  rintro e w3 ⟨rfl, hb3⟩
  have hx3 := hx2.below hb3
  have hR3 := hR2.below hb3 (by omega)
  have hB3 : Below g w w3 := hB2.trans (hb3.mono (by omega))
  have hs3 : g + 2 ≤ w3.heap.size := by have := hb3.size; omega
  obtain ⟨q3, q4⟩ := HX.out _ hx3
  clear hx2 hR2 hB2 hb3 hs2 HC hz1
  by_cases hok : specOk s
  · rw [told_yes hok]
    have hll : s.locks.length = s.leaders.length := hok.2.1.2.2.1
    replace hok := hide hok
    obtain ⟨nk, hnk⟩ : ∃ n, s.locks.length = n := ⟨_, rfl⟩
    obtain ⟨nl, hnl⟩ : ∃ n, s.leaders.length = n := ⟨_, rfl⟩
    rw [hnk] at q4 hm4 hll
    rw [hnl] at q3 hm3 hll
    have HB3 := hide (HB.out (nk : Int) w3)
    replace hll := hide hll
    have HNK := hide hnk
    have HNL := hide hnl
    clear hnk hnl
    go_wp2_with fail
    refine HB3.out.mono ?_
    rintro e w0 ⟨rfl, hw0⟩
    subst w0
    clear HB3 HB
    by_cases hb : 0 ≤ lock ∧ lock < (nk : Int)
    · rw [told_yes hb]
      obtain ⟨lk, hlk⟩ : ∃ n : Nat, lock = (n : Int) := ⟨lock.toNat, by omega⟩
      subst hlk
      have hlt : lk < nl := by have := hll.out; omega
      have hR : R = signedM ⟨(lk : Int), secret, [], []⟩ (s.leaders.getD lk 0) seed := h1.out ⟨hok.out, hb.1, by rw [HNK.out]; exact hb.2⟩
      obtain ⟨b3, o3, hb3, d3⟩ := (HLd.out w3 hB3).2.2.2 lk (by rw [HNL.out]; exact hlt)
      subst hb3
      obtain ⟨x, hx⟩ : ∃ x, s.leaders.getD lk 0 = x := ⟨_, rfl⟩
      have hx64 : In64 x := by rw [← hx]; exact (HLd.out w3 hB3).2.2.1 lk (by rw [HNL.out]; exact hlt)
      rw [hx] at d3 hR
      have hk3 : lk ≤ 2 := by have := hok.out.2.1.2.1; rw [HNL.out] at this; omega
      have HS : Hid (Calls Try.prog 33 #[.agg #[.int .i64 (lk : Int), .string secret, .slice none 0 0, .slice none 0 0], .int .i64 x, .string seed] w3 fun e w' => ∃ u, e = .returned u ∧ HkO w' w3.heap.size u R ∧ Below w3.heap.size w3 w') := by
        rw [hR]
        exact signed_any (K := ⟨(lk : Int), secret, [], []⟩) (noHk_lies w3 _ hl64 secret (by unfold maxLen; omega)) x hx64 seed hseed ⟨by show (0 : Int) ≤ (lk : Int); omega, by show (lk : Int) ≤ 255; omega⟩ hsec (by simp) (by simp) (fun j hj => absurd hj (by simp))
      clear hR hx hx64
      replace hb := hide hb
      have hlk0 : (lk : Int) < (nl : Int) := by omega
      clear q4
      go_wp2_with fail
      refine HS.out.mono ?_
      rintro e w4 ⟨u, rfl, hV4, hb4⟩
      obtain ⟨c4, rfl, h4, h41⟩ := hV4.four
      have hR4 := hR3.below hb4 (by omega)
      have hB4 : Below g w w4 := hB3.trans (hb4.mono (by omega))
      have hs4 := hb4.size
      go_wp2_with ((with_reducible refine wpList_at ?_); refine wpList_storeH (by rfl) (.tmp 8) (.tmp 30) (by rfl) (g + 1) c4 _ (by rfl) (by rfl) hR4 h4 rfl h41 ?_; intro w5 hv5 hbt5)
      refine bodyPost_ret (v := .agg _) (results_one (fn := Try.f13) Try.results13 _ _ (g + 1) 31 _ (0, 0) _ (by rfl) hv5 Try.underlying31 (by rw [h4]; exact sizeHk)) rfl ?_
      exact ⟨_, rfl, (hV4.but hbt5 hR4).base (by omega), hB4.trans (hbt5.below (by omega) (by omega))⟩
    · rw [told_no hb]
      have hR : Hid (R = noHk) := h2.out (fun h => hb ⟨h.2.1, by rw [← HNK.out]; exact h.2.2⟩)
      clear hb
      go_wp2_with ((with_reducible refine wpList_at ?_); refine wpList_storeH (by rfl) (.tmp 8) (.tmp 20) (by rfl) (g + 1) #[.int .i64 0, .string ⟨#[]⟩, .slice none 0 0, .slice none 0 0] _ (by rfl) (by rfl) hR3 rfl rfl (by intro u hu; simp at hu; rcases hu with rfl | rfl | rfl <;> rfl) ?_; intro w5 hv5 hbt5)
      refine bodyPost_ret (v := .agg _) (results_one (fn := Try.f13) Try.results13 _ _ (g + 1) 31 _ (0, 0) _ (by rfl) hv5 Try.underlying31 sizeHk) rfl ?_
      exact ⟨_, rfl, by rw [hR.out]; exact hko_none _ _, hB3.trans (hbt5.below (by omega) (by omega))⟩
  · rw [told_no hok]
    have hR : Hid (R = noHk) := h2.out (fun h => hok h.1)
    clear hok q3 q4
    go_wp2_with ((with_reducible refine wpList_at ?_); refine wpList_storeH (by rfl) (.tmp 8) (.tmp 20) (by rfl) (g + 1) #[.int .i64 0, .string ⟨#[]⟩, .slice none 0 0, .slice none 0 0] _ (by rfl) (by rfl) hR3 rfl rfl (by intro u hu; simp at hu; rcases hu with rfl | rfl | rfl <;> rfl) ?_; intro w5 hv5 hbt5)
    refine bodyPost_ret (v := .agg _) (results_one (fn := Try.f13) Try.results13 _ _ (g + 1) 31 _ (0, 0) _ (by rfl) hv5 Try.underlying31 sizeHk) rfl ?_
    exact ⟨_, rfl, by rw [hR.out]; exact hko_none _ _, hB3.trans (hbt5.below (by omega) (by omega))⟩

end Go.Proofs.Ythoimecljfcjmaa
