/-
  append in a region that draws its order; rows of arcs, numbers as cells.
-/
import Derived.Test.YtdaagjpigcejaaaSpRowP
import Derived.Test.YtdaagjpigcejaaaGrPath
import Derived.Test.YtdaagjpigcejaaaZ09
import Derived.Test.YtdaagjpigcejaaaYieldV
namespace Go.Proofs.Ytdaagjpigcejaaa
open Go.RowKit

/-- append of a row to a row of a call's own, in a region that draws its order. -/
theorem step_app {st e : TypeId} {size bytes : Nat} {z : Value} (ht : Try.prog.underlying st = some (.slice e)) (hinfo : (Try.prog.info? e).map (fun i => (i.zero, i.size, i.bytes)) = some (some z, size, bytes)) (hzs : z.cells.size = size) (hsz : 0 < size) (hby : bytes ≤ 100)
    {ops : Array Oper} {o : Oper} {a : Act} {K : Act → World → Prop} {Q : Exit → Act → World → Prop} {E : Prop} (w : World) (hw : Region.wanted o (yielded ops a.tmps) = true) (s x : Operand)
    (ho : o.op = .call { callee := .builtin .append, args := #[s, x], argTypes := #[st, st] })
    (B : Nat) (v : Value) (n : Nat) (xs : List Value) (hs : a.eval s = v) (hown : w.ownsRow B e size v n xs) (ad : Addr) (m c : Nat) (news : List Value) (hx : a.eval x = .slice (some ad) m c)
    (hl : news.length = m * size) (hnews : ∀ j u, news[j]? = some u → w.cell? (ad.add j) = some u) (h1 : ∀ u ∈ news, u.oneCell' = true) (hn : n + m ≤ 1000000) (hB : B ≤ w.heap.size)
    (h : ∀ v' w', w'.ownsRow B e size v' (n + m) (xs ++ news) → w.grownBy w' v.ownBlock → K (a.put o.dst v') w') :
    if Region.wanted o (yielded ops a.tmps) = true then Oper.wp Try.prog o a w K Q else E := by
  obtain ⟨i0, hi, hz0, hz1, hz2⟩ := info_parts hinfo
  rw [if_pos hw]
  exact wp_append_own w s x st ho B e i0 z size bytes ht hi hz0 hz1 hz2 hzs hsz v n xs hs hown ad m c news hx hl hnews h1 (by unfold maxLen; omega) (by have : (n + m) * bytes ≤ (n + m) * 100 := Nat.mul_le_mul_left _ hby; omega) hB (fun v' w' h2 h3 _ => h v' w' h2 h3)
theorem acells_len (l : List ArcM) : (l.flatMap acells).length = l.length * 5 := by
  induction l with
  | nil => rfl
  | cons x l ih => rw [List.flatMap_cons, List.length_append, ih]; simp [acells]; omega
theorem acells_one (l : List ArcM) : ∀ u ∈ l.flatMap acells, u.oneCell' = true := by
  intro u hu
  obtain ⟨x, _, hx⟩ := List.mem_flatMap.1 hu
  simp [acells] at hx
  rcases hx with rfl | rfl | rfl | rfl | rfl <;> rfl
theorem Arcs.cells {w : World} {b o : Nat} {l : List ArcM} (h : Arcs w (some ⟨b, o, none⟩) l) : ∀ j u, (l.flatMap acells)[j]? = some u → w.cell? ((⟨b, o, none⟩ : Addr).add j) = some u := by
  intro j u hu
  have hj : j < l.length * 5 := by rw [← acells_len]; exact (List.getElem?_eq_some_iff.1 hu).1
  obtain ⟨_, _, _, _, _, d0, d1, d2, d3, d4⟩ := h.get (j / 5) (by omega)
  rw [Go.WideShapes.add_plain]
  have hc : ∀ i, i < 5 → (l.flatMap acells)[j / 5 * 5 + i]? = (acells (l.getD (j / 5) noArc))[i]? := fun i hi => acells_at l (j / 5) (by omega) i hi
  have : j % 5 = 0 ∨ j % 5 = 1 ∨ j % 5 = 2 ∨ j % 5 = 3 ∨ j % 5 = 4 := by omega
  rcases this with e | e | e | e | e
  · rw [show j = j / 5 * 5 + 0 by omega, hc 0 (by omega)] at hu
    rw [show o + j = o + j / 5 * 5 by omega, d0]; exact hu
  · rw [show j = j / 5 * 5 + 1 by omega, hc 1 (by omega)] at hu
    rw [show o + j = o + j / 5 * 5 + 1 by omega, d1]; exact hu
  · rw [show j = j / 5 * 5 + 2 by omega, hc 2 (by omega)] at hu
    rw [show o + j = o + j / 5 * 5 + 2 by omega, d2]; exact hu
  · rw [show j = j / 5 * 5 + 3 by omega, hc 3 (by omega)] at hu
    rw [show o + j = o + j / 5 * 5 + 3 by omega, d3]; exact hu
  · rw [show j = j / 5 * 5 + 4 by omega, hc 4 (by omega)] at hu
    rw [show o + j = o + j / 5 * 5 + 4 by omega, d4]; exact hu
theorem Arcs.take {w : World} {a : Option Addr} {l : List ArcM} (h : Arcs w a l) (k : Nat) : Arcs w a (l.take k) := by
  refine ⟨by have := h.1; rw [List.length_take]; omega, fun j hj => ?_⟩
  rw [List.length_take] at hj
  rw [take_getD _ _ _ _ (by omega)]
  exact h.2 j (by omega)
theorem Arcs.drop {w : World} {b o : Nat} {l : List ArcM} (h : Arcs w (some ⟨b, o, none⟩) l) (k : Nat) : Arcs w (some ⟨b, o + k * 5, none⟩) (l.drop k) := by
  refine ⟨by have := h.1; rw [List.length_drop]; omega, fun j hj => ⟨b, o + k * 5, rfl, ?_⟩⟩
  rw [List.length_drop] at hj
  have h9 := h.get (k + j) (by omega)
  rw [show o + k * 5 + j * 5 = o + (k + j) * 5 by omega, show (l.drop k).getD j noArc = l.getD (k + j) noArc by rw [List.getD_eq_getElem?_getD, List.getElem?_drop, List.getD_eq_getElem?_getD]]
  exact h9
/-- The rest of a slice of arcs: where it lies. -/
theorem Arcs.rest {w : World} {b o : Nat} {l : List ArcM} (h : Arcs w (some ⟨b, o, none⟩) l) (q c : Nat) (hq : q ≤ l.length) (hc : l.length ≤ c) :
    ∃ ad, (if c = q then (some ⟨b, o, none⟩ : Option Addr) else some ⟨b, o + q * 5, none⟩) = some ad ∧ Arcs w (some ad) (l.drop q) ∧ ∀ j u, ((l.drop q).flatMap acells)[j]? = some u → w.cell? (ad.add j) = some u := by
  by_cases e : c = q
  · rw [if_pos e]
    have h0 : l.drop q = [] := List.drop_eq_nil_of_le (by omega)
    rw [h0]
    exact ⟨_, rfl, ⟨Nat.zero_le _, fun j hj => absurd hj (by simp)⟩, fun j u hu => by simp at hu⟩
  · rw [if_neg e]
    exact ⟨⟨b, o + q * 5, none⟩, rfl, h.drop q, (h.drop q).cells⟩
theorem Ints.cells {w : World} {b o n : Nat} {l : List Int} (h : Ints w (some ⟨b, o, none⟩) n l) : ∀ j u, (l.map (Value.int .i64))[j]? = some u → w.cell? ((⟨b, o, none⟩ : Addr).add j) = some u := by
  intro j u hu
  have hj : j < l.length := by have := (List.getElem?_eq_some_iff.1 hu).1; rw [List.length_map] at this; exact this
  rw [Go.WideShapes.add_plain, h.get j (by have := h.1; omega)]
  rw [List.getElem?_map, List.getElem?_eq_getElem hj] at hu
  rw [List.getD_eq_getElem?_getD, List.getElem?_eq_getElem hj]
  exact hu
theorem ints_one (l : List Int) : ∀ u ∈ l.map (Value.int .i64), u.oneCell' = true := by
  intro u hu
  obtain ⟨x, _, rfl⟩ := List.mem_map.1 hu
  rfl

end Go.Proofs.Ytdaagjpigcejaaa

/-
  Two operations of a region that draws its order, whichever comes first, whose values are not known ahead.
-/
namespace Go.Proofs.Ytdaagjpigcejaaa
open Go.RowKit

theorem wpAnyH_pairE {P : Program} {md : Region.Mode} {ops : Array Oper} {Q : Exit → Act → World → Prop} {S : World → Prop} {T : Value → Value → World → Prop} {T1 T2 : Value → World → Prop} {i j : Nat} {oi oj : Oper} {fuel : Nat} {listed l2 : Array Bool} {a : Act} {w : World}
    (hr : Region.ready md ops listed = [i, j]) (hri : Region.ready md ops (listed.setIfInBounds i true) = [j]) (hrj : Region.ready md ops (listed.setIfInBounds j true) = [i])
    (hi : ops[i]? = some oi) (hj : ops[j]? = some oj) (hl1 : (listed.setIfInBounds i true).setIfInBounds j true = l2) (hl2 : (listed.setIfInBounds j true).setIfInBounds i true = l2)
    (hput : ∀ v u, (a.put oj.dst u).put oi.dst v = (a.put oi.dst v).put oj.dst u)
    (hS1 : ∀ v W, T1 v W → S W) (hS2 : ∀ u W, T2 u W → S W) (hS : ∀ v u W, T v u W → S W)
    (c1 : ∀ K : Act → World → Prop, Shut (∀ v W', T1 v W' → K (a.put oi.dst v) W') → if Region.wanted oi (yielded ops a.tmps) = true then Oper.wp P oi a w K Q else K (a.put oi.dst undef) w)
    (c2 : ∀ v W, T1 v W → ∀ K : Act → World → Prop, Shut (∀ u W', T v u W' → K ((a.put oi.dst v).put oj.dst u) W') → if Region.wanted oj (yielded ops (a.put oi.dst v).tmps) = true then Oper.wp P oj (a.put oi.dst v) W K Q else K ((a.put oi.dst v).put oj.dst undef) W)
    (c3 : ∀ K : Act → World → Prop, Shut (∀ u W', T2 u W' → K (a.put oj.dst u) W') → if Region.wanted oj (yielded ops a.tmps) = true then Oper.wp P oj a w K Q else K (a.put oj.dst undef) w)
    (c4 : ∀ u W, T2 u W → ∀ K : Act → World → Prop, Shut (∀ v W', T v u W' → K ((a.put oj.dst u).put oi.dst v) W') → if Region.wanted oi (yielded ops (a.put oj.dst u).tmps) = true then Oper.wp P oi (a.put oj.dst u) W K Q else K ((a.put oj.dst u).put oi.dst undef) W)
    (h : ∀ v u W, T v u W → S W → wpAnyH P md ops Q S fuel l2 ((a.put oi.dst v).put oj.dst u) W) : wpAnyH P md ops Q S (fuel + 2) listed a w := by
  refine wpAnyH_ready hr (by simp) (AllReadyH.cons hi (fun K hK => c1 K (fun v W hW => hK.out _ _ (hS1 v W hW) (fun _ => ?_))) (AllReadyH.cons hj (fun K hK => c3 K (fun u W hW => hK.out _ _ (hS2 u W hW) (fun _ => ?_))) AllReadyH.nil))
  · refine wpAnyH_ready hri (by simp) (AllReadyH.cons hj (fun K hK => c2 v W hW K (fun u W2 hW2 => hK.out _ _ (hS v u W2 hW2) (fun hs => ?_))) AllReadyH.nil)
    rw [hl1]; exact h v u W2 hW2 hs
  · refine wpAnyH_ready hrj (by simp) (AllReadyH.cons hi (fun K hK => c4 u W hW K (fun v W2 hW2 => hK.out _ _ (hS v u W2 hW2) (fun hs => ?_))) AllReadyH.nil)
    rw [hl2, hput]; exact h v u W2 hW2 hs

end Go.Proofs.Ytdaagjpigcejaaa
