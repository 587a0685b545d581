/-
  Texts: slices.Concat of two, the first of which may be nothing.
-/
import Derived.Test.YtiepkablapjpmaaBkWith
namespace Go.Proofs.Ytiepkablapjpmaa
open Go.RowKit

def SPart (w : World) (a : Option Addr) (n c : Nat) (l : List ByteArray) : Prop := Strs w a n l ∧ (a = none → c = 0)
theorem SPart.below {w w' : World} {a : Option Addr} {n c : Nat} {l : List ByteArray} (h : SPart w a n c l) (hb : Below w.heap.size w w') : SPart w' a n c l := ⟨h.1.below hb, h.2⟩
theorem SPart.nil {w : World} {n c : Nat} {l : List ByteArray} (h : SPart w none n c l) : n = 0 ∧ c = 0 ∧ l = [] := by
  have hl : l = [] := by
    cases l with
    | nil => rfl
    | cons x l => obtain ⟨b, o, h1, _⟩ := h.1.2.2.2 0 (by rw [← h.1.1]; simp); simp at h1
  exact ⟨by rw [← h.1.1, hl]; rfl, h.2 rfl, hl⟩
theorem SPart.news {w : World} {ad : Addr} {n c : Nat} {l : List ByteArray} (h : SPart w (some ad) n c l) : ∀ j u, (l.map Value.string)[j]? = some u → w.cell? (ad.add j) = some u := by
  cases l with
  | nil => intro j u hu; simp at hu
  | cons x l =>
    obtain ⟨b, o, h1, _⟩ := h.1.2.2.2 0 (by rw [← h.1.1]; simp)
    injection h1 with h1
    subst h1
    exact Strs.cellsC h.1
theorem wpList_appS {ops : Array Oper} {rest : List Oper} {o : Oper} {a : Act} {w : World} {Q : Exit → Act → World → Prop} (hgd : o.guard = none) (s x : Operand)
    (ho : o.op = .call { callee := .builtin .append, args := #[s, x], argTypes := #[23, 23] })
    (B : Nat) (v : Value) (n : Nat) (xs : List Value) (hs : a.eval s = v) (hown : w.ownsRow B 9 1 v n xs) (ap : Option Addr) (m c : Nat) (l : List ByteArray) (hx : a.eval x = .slice ap m c) (hp : SPart w ap m c l) (hn : n + m ≤ 1000000) (hB : B ≤ w.heap.size)
    (h : ∀ va vc w', w'.ownsRow B 9 1 (.slice va (n + m) vc) (n + m) (xs ++ l.map Value.string) → w.grownBy w' v.ownBlock → wpList Try.prog ops Q rest (a.put o.dst (.slice va (n + m) vc)) w') : wpList Try.prog ops Q (o :: rest) a w := by
  obtain ⟨i0, hi, hz0, hz1, hz2⟩ := info_parts Try.info9
  cases ap with
  | none =>
    obtain ⟨rfl, rfl, rfl⟩ := hp.nil
    refine wpList_append_own_none hgd s x 23 ho B 9 i0 1 Try.underlying23 hi _ _ _ hs hown hx ?_
    obtain ⟨va, vc, rfl⟩ := row_slice hown
    refine h va vc w ?_ ⟨rfl, rfl, rfl, Nat.le_refl _, fun _ _ _ => rfl⟩
    simpa using hown
  | some ad =>
    refine wpList_append_own _ hgd s x 23 ho B 9 i0 _ 1 16 Try.underlying23 hi hz0 hz1 hz2 rfl (by decide) v n xs hs hown ad m c (l.map Value.string) hx (by rw [List.length_map, hp.1.1, Nat.mul_one]) hp.news (by intro u hu; obtain ⟨y, _, rfl⟩ := List.mem_map.1 hu; rfl) (by unfold maxLen; omega) (by omega) hB ?_
    intro v' w' h2 h3 _
    obtain ⟨va, vc, rfl⟩ := row_slice h2
    exact h va vc w' h2 h3

set_option maxRecDepth 10000 in
set_option maxHeartbeats 2000000 in
theorem concat2_strs {w : World} (g : Nat) {a1 a2 : Option Addr} {n1 n2 c1 c2 : Nat} {l1 l2 : List ByteArray} (h1 : SPart w a1 n1 c1 l1) (h2 : SPart w a2 n2 c2 l2)
    (q0 : w.cell? ⟨g, 0, none⟩ = some (.slice a1 n1 c1)) (q1 : w.cell? ⟨g, 1, none⟩ = some (.slice a2 n2 c2)) (hn2 : 1 ≤ n2) (hn : n1 + n2 ≤ 1000) :
    Calls Try.prog 24 #[.slice (some ⟨g, 0, none⟩) 2 2] w fun e w' => ∃ u, e = .returned u ∧ OwnS w' w.heap.size u (l1 ++ l2) ∧ Below w.heap.size w w' := by
  obtain ⟨B, hB⟩ : ∃ B, w.heap.size = B := ⟨_, rfl⟩
  rw [hB]
  obtain ⟨n, hnn⟩ : ∃ n, n1 + n2 = n := ⟨_, rfl⟩
  have hw : IntKind.i64.wrap ((n1 : Int) + (n2 : Int)) = (n : Int) := by rw [IntWalk.i64_in _ (by omega)]; omega
  have hn1' : ¬ (n1 : Int) < 0 := by omega
  have hn' : ¬ (n : Int) < 0 := by omega
  have HG := grow_strs n (by omega) (by omega) w
  rw [hB] at HG
  replace HG := hide HG
  have Q : Hid (∀ W, Below B w W → (W.cell? ⟨g, 0, none⟩ = some (.slice a1 n1 c1) ∧ W.cell? ⟨g, 1, none⟩ = some (.slice a2 n2 c2)) ∧ SPart W a1 n1 c1 l1 ∧ SPart W a2 n2 c2 l2) := fun W hW => by
    have hW' : Below w.heap.size w W := by rw [hB]; exact hW
    exact ⟨⟨cell_on hW' q0, cell_on hW' q1⟩, h1.below hW', h2.below hW'⟩
  have HL : Hid (l1.length = n1 ∧ l2.length = n2) := ⟨h1.1.1, h2.1.1⟩
  have HNN := hide hnn
  have HS : Hid (n1 + n2 ≤ 1000) := hn
  have hm1 : (n1 : Int) ≤ 1000 := by omega
  have hm3 : (n : Int) ≤ 1000 := by omega
  clear h1 h2 hnn hn
  go_enter Try.func24, Try.ntmps24
  go_wp2
  go_loopw [3, 11] (fun sz i wr => ((i = .int .i64 0 ∧ sz = .int .i64 0) ∨ (i = .int .i64 1 ∧ sz = .int .i64 n1) ∨ (i = .int .i64 2 ∧ sz = .int .i64 n)) ∧ wr = w) (fun _ i _ => 2 - (intOf i).toNat)
  case atStart => exact ⟨.inl ⟨rfl, rfl⟩, rfl⟩
  case round =>
    obtain ⟨hor, hwr⟩ := hrel
    subst wr
    rcases hor with ⟨rfl, rfl⟩ | ⟨rfl, rfl⟩ | ⟨rfl, rfl⟩
    · go_wp2
      go_roundw
      case rel => exact ⟨.inr (.inl ⟨by go_num, by go_num⟩), trivial⟩
      case measure => simp [intOf]
    · go_wp2
      go_roundw
      case rel => exact ⟨.inr (.inr ⟨by go_num, by go_num⟩), trivial⟩
      case measure => simp [intOf]
    · go_wp2_with fail
      refine HG.out.mono ?_
      rintro e w2 ⟨u0, rfl, hR0, hb2⟩
      have hz2 : B ≤ w2.heap.size := by have := hb2.size; omega
      obtain ⟨va0, vc0, rfl⟩ := row_slice hR0
      replace hR0 := hide hR0
      clear q0 q1 HG
      go_wp2_with fail
      go_loopw [6, 27] (fun v i wr => ((i = .int .i64 0 ∧ wr.ownsRow B 9 1 v 0 []) ∨ (i = .int .i64 1 ∧ wr.ownsRow B 9 1 v n1 (l1.map Value.string)) ∨ (i = .int .i64 2 ∧ wr.ownsRow B 9 1 v n ((l1 ++ l2).map Value.string))) ∧ Below B w wr ∧ B ≤ wr.heap.size) (fun _ i _ => 2 - (intOf i).toNat)
      case atStart => exact ⟨.inl ⟨rfl, hR0.out⟩, hb2, hz2⟩
      case round =>
        clear hR0 hb2 hz2
        obtain ⟨hor, hBr, hz⟩ := hrel
        obtain ⟨⟨q0, q1⟩, p1, p2⟩ := Q.out _ hBr
        rcases hor with ⟨rfl, hR⟩ | ⟨rfl, hR⟩ | ⟨rfl, hR⟩
        · have hlt := World.ownsRow.lt hR
          obtain ⟨va, vc, rfl⟩ := row_slice hR
          replace hR := hide hR
          replace hlt := hide hlt
          replace hBr := hide hBr
          replace p1 := hide p1
          clear p2
          go_wp2_with (at_builtin; refine wpList_appS (by rfl) (.tmp 31) (.tmp 32) (by rfl) B _ 0 [] (by rfl) hR.out a1 n1 c1 l1 (by rfl) p1.out (by have := HS.out; omega) hz ?_; intro v9a v9c w9 hown9 hg9)
          go_roundw
          case rel =>
            refine ⟨.inr (.inl ⟨by go_num, ?_⟩), hBr.out.grown hg9 hz (fun k hk => (hlt.out k hk).1), Nat.le_trans hz hg9.size⟩
            rw [Nat.zero_add, List.nil_append] at hown9
            simpa using hown9
          case measure => simp [intOf]
        · have hlt := World.ownsRow.lt hR
          obtain ⟨va, vc, rfl⟩ := row_slice hR
          replace hR := hide hR
          replace hlt := hide hlt
          replace hBr := hide hBr
          replace p2 := hide p2
          clear p1
          go_wp2_with (at_builtin; refine wpList_appS (by rfl) (.tmp 31) (.tmp 32) (by rfl) B _ n1 _ (by rfl) hR.out a2 n2 c2 l2 (by rfl) p2.out (by have := HS.out; omega) hz ?_; intro v9a v9c w9 hown9 hg9)
          go_roundw
          case rel =>
            refine ⟨.inr (.inr ⟨by go_num, ?_⟩), hBr.out.grown hg9 hz (fun k hk => (hlt.out k hk).1), Nat.le_trans hz hg9.size⟩
            rw [List.map_append, ← HNN.out]
            exact hown9
          case measure => simp [intOf]
        · obtain ⟨va, vc, rfl⟩ := row_slice hR
          replace hR := hide hR
          go_wp2
          go_ret
          refine ⟨_, rfl, ?_, hBr⟩
          unfold OwnS
          rw [List.length_append, HL.out.1, HL.out.2, HNN.out]
          exact hR.out

/-- No text among these cells. -/
def NoText (cs : Array Value) : Prop := ∀ (i : Nat) (x : ByteArray), cs[i]? ≠ some (.string x)
theorem noText_b (aa fa : Option Addr) (ac fc : Nat) (M : BookM) : NoText (bcells aa fa ac fc M) := by
  intro i x
  match i with
  | 0 => simp [bcells]
  | 1 => simp [bcells]
  | 2 => simp [bcells]
  | 3 => simp [bcells]
  | 4 => simp [bcells]
  | n + 5 => simp [bcells]
theorem noText_z : NoText bzero := by
  intro i x
  match i with
  | 0 => simp [bzero]
  | 1 => simp [bzero]
  | 2 => simp [bzero]
  | 3 => simp [bzero]
  | 4 => simp [bzero]
  | n + 5 => simp [bzero]
theorem text_apart {w : World} {t : TypeId} {g : Nat} {cs : Array Value} (h : VAt w t g cs) (hn : NoText cs) {b o : Nat} {x : ByteArray} (hc : w.cell? ⟨b, o, none⟩ = some (.string x)) : b ≠ g := by
  intro e
  subst e
  rw [h.cell] at hc
  exact hn o x hc
/-- A book that lies in memory is as it was where a variable of another book is written. -/
theorem BookV.but {w w' : World} {v : Value} {M : BookM} {t : TypeId} {g : Nat} {cs : Array Value} (h : BookV w v M) (hg : VAt w t g cs) (hn : NoText cs) (hb : But g w w') : BookV w' v M := by
  obtain ⟨aa, fa, ac, fc, h1, L⟩ := h
  refine ⟨aa, fa, ac, fc, h1, ⟨⟨L.accs.1, L.accs.2.1, L.accs.2.2.1, fun j hj => ?_⟩, fun j hj => ?_, L.acap, L.fcap, L.anil, L.fnil, L.fform, L.aform⟩⟩
  · obtain ⟨b, o, h2, h3⟩ := L.accs.2.2.2 j hj
    exact ⟨b, o, h2, hb.cell (text_apart hg hn h3) h3⟩
  · obtain ⟨b, o, h2, h3, h4, h5⟩ := L.funds j hj
    have hne := text_apart hg hn h3
    exact ⟨b, o, h2, hb.cell hne h3, hb.cell hne h4, hb.cell hne h5⟩

end Go.Proofs.Ytiepkablapjpmaa
