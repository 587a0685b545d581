/-
  A hashkey in a variable: made, written, one field of it written.
-/
import Derived.Test.YtccaaaifhiigcaaGreatZ42
import Derived.Test.YtccaaaifhiigcaaGreatZ33
import Derived.Test.YtccaaaifhiigcaaGreatZ10
import Derived.Test.YtccaaaifhiigcaaGreatYieldV
namespace Go.Proofs.YtccaaaifhiigcaaGreat
open Go.RowKit

theorem le_of_below {B : Nat} {w W : World} (h : Below B w W) (hB : w.heap.size = B) : B ≤ W.heap.size := by have := h.size; omega
theorem below_then3 {B : Nat} {w W W2 : World} (hB : w.heap.size = B) (h : Below B w W) (k : Below W.heap.size W W2) : Below B w W2 := h.trans (k.mono (le_of_below h hB))
theorem below_but3 {B g : Nat} {w W W2 : World} (hB : w.heap.size = B) (h : Below B w W) (k : But g W W2) (hg : B ≤ g) : Below B w W2 := h.trans (k.below hg (le_of_below h hB))
def Z4 : Array Value := #[.int .i64 0, .string ⟨#[]⟩, .slice none 0 0, .slice none 0 0]
/-- 'var x Hashkey' in a region that draws its order. -/
theorem gives_allocK {ops : Array Oper} {Q : Exit → Act → World → Prop} {R : World → Prop} {R' : Value → World → Prop} {o : Oper} (hg : o.guard = none) (ho : o.op = .alloc 29)
    (h : ∀ W, R W → ∀ W1, HvAt W1 W.heap.size Z4 → Below W.heap.size W W1 → R' (.pointer (some ⟨W.heap.size, 0, none⟩)) W1) : ∀ b, GivesE Tryz.prog ops Q R R' o b := by
  intro b W hW K hK
  have hr : (Instr.alloc 29 true (.tuple #[])).run Tryz.prog W = .ok (.pointer (some ⟨W.heap.size, 0, none⟩)) (W.alloc (.cells Z4 29)) := by
    have hz : (Tryz.prog.info? 29).map (fun i => (i.zero, i.size)) = some (some (.agg #[Value.int IntKind.i64 0, Value.string ⟨#[]⟩, Value.slice none 0 0, Value.slice none 0 0]), 4) := by kernel_rfl
    simp [Instr.alloc, (zero_of_info hz).1 W, go_sem, Value.cells, Z4]
  have hw : Region.wanted o (yielded ops b.tmps) = true := by unfold Region.wanted; rw [hg]
  rw [if_pos hw]
  unfold Oper.wp execOp
  simp only [ho, Sem.run_bind, hr, Result.andThen_ok]
  exact hK.out _ _ (h W hW _ (heap_alloc_new _ _) ((Below.refl _ _).alloc (Nat.le_refl _) _))
theorem sizeStr : (Tryz.prog.info? 9).map (·.size) = some 1 := by kernel_rfl
/-- A field of it is written. -/
theorem wpList_fieldK {ops : Array Oper} {rest : List Oper} {o : Oper} {a : Act} {w : World} {Q : Exit → Act → World → Prop} (hgd : o.guard = none) (ty : TypeId) (x y : Operand) (ho : o.op = .store ty x y)
    (g off : Nat) (v : Value) (cs cs' : Array Value) (hx : a.eval x = .pointer (some ⟨g, off, none⟩)) (hy : a.eval y = v) (hv : v.cells = #[v]) (hi : (Tryz.prog.info? ty).map (·.size) = some 1) (h1 : v.oneCell' = true)
    (hg : HvAt w g cs) (h4 : cs.size = 4) (hoff : off < 4) (hcs : cs' = (cs.toList.take off ++ [v] ++ cs.toList.drop (off + 1)).toArray)
    (h : ∀ w1, HvAt w1 g cs' → w1.heap.size = w.heap.size → But g w w1 → wpList Tryz.prog ops Q rest (a.put o.dst undef) w1) : wpList Tryz.prog ops Q (o :: rest) a w := by
  refine wpList_splice hgd ty x y ho g off #[v] v hx hy hv 29 cs.toList (by unfold Cells; rw [Array.toArray_toList]; exact hg) hi (by simp [h4]; omega) (by intro u hu; simp at hu; subst hu; exact h1) ?_
  intro w1 hc hz hb
  refine h w1 ?_ hz hb
  rw [hcs]
  exact hc
theorem GrownK.sane {s : SpecM} {K : HkM} (hk : GrownK s K) (hok : specOk s) (hp : K.path.length ≤ 100) : HkSane K := by
  have h6 := hok.2.2.1.2.1
  have h3 := hok.2.1.2.1
  refine ⟨⟨by have := hk.lk; omega, by have := hk.lk; omega⟩, by rw [hk.sec7]; omega, by omega, fun j hj => ?_, by rw [hk.len]; omega, fun j hj => by rw [hk.sz j hj]; omega⟩
  have := hk.rng j hj
  exact ⟨by omega, by omega⟩
/-- The rows of a key that lies in a variable. -/
theorem HkO.lies {w : World} {B : Nat} {K : HkM} {pa sa : Option Addr} {pc sc : Nat} (h : HkO w B (.agg (hcells pa sa pc sc K)) K) (hs : HkSane K) : HkL w pa sa pc sc K := by
  obtain ⟨pa', sa', pc', sc', he, L⟩ := h.wide hs
  injection he with he
  simp only [hcells] at he
  injection he with he
  injection he with _ he
  injection he with _ he
  injection he with h1 he
  injection he with h2 _
  injection h1 with h3 _ h4
  injection h2 with h5 _ h6
  subst h3 h4 h5 h6
  exact L
theorem HkO.cells {w : World} {B : Nat} {u : Value} {K : HkM} (h : HkO w B u K) (hs : HkSane K) : ∃ pa sa pc sc, u = .agg (hcells pa sa pc sc K) := by
  obtain ⟨pa, sa, pc, sc, he, _⟩ := h.wide hs
  exact ⟨pa, sa, pc, sc, he⟩

end Go.Proofs.YtccaaaifhiigcaaGreat
