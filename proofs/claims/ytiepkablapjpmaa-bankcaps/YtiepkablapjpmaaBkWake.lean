/-
  handsellaw09's own awake.
-/
import Derived.Test.YtiepkablapjpmaaBkMove
import Derived.Test.YtiepkablapjpmaaBkOpen
namespace Go.Proofs.Ytiepkablapjpmaa
open Go.RowKit

/-- Five cells of a book. -/
structure Five (cs : Array Value) : Prop where
  size : cs.size = 5
  one : ∀ u ∈ cs.toList, u.oneCell' = true
  noText : NoText cs
theorem Five.info {cs : Array Value} (h : Five cs) : (Try.prog.info? 27).map (·.size) = some cs.size := by rw [h.size]; exact sizeBook
theorem five_zero : Five bzero := ⟨rfl, by intro u hu; simp [bzero] at hu; rcases hu with rfl | rfl <;> rfl, noText_z⟩
theorem BookV.five {w : World} {v : Value} {M : BookM} (h : BookV w v M) : ∃ cs, v = .agg cs ∧ Five cs ∧ BookV w (.agg cs) M := by
  obtain ⟨aa, fa, ac, fc, rfl, L⟩ := h
  exact ⟨_, rfl, ⟨rfl, bcells_one _ _ _ _ _, noText_b _ _ _ _ _⟩, aa, fa, ac, fc, rfl, L⟩
theorem BookV.reads {w w' : World} {cs : Array Value} {M : BookM} {t : TypeId} {g : Nat} (h : BookV w (.agg cs) M) (hv : VAt w' t g cs) : ∃ aa fa ac fc, w'.cell? ⟨g, 0, none⟩ = some (.int .i64 M.number) ∧ w'.cell? ⟨g, 2, none⟩ = some (.slice aa M.accs.length ac) ∧ w'.cell? ⟨g, 3, none⟩ = some (.slice fa M.funds.length fc) ∧ BLies w aa fa ac fc M := by
  obtain ⟨aa, fa, ac, fc, he, L⟩ := h
  injection he with he
  subst he
  obtain ⟨q0, _, q2, q3, _⟩ := bcells_at hv
  exact ⟨aa, fa, ac, fc, q0, q2, q3, L⟩
def tA : ByteArray := ⟨#[97]⟩
def tGold : ByteArray := ⟨#[103, 111, 108, 100]⟩
def wk1 : BookM := ⟨1, [tA], []⟩
def wk2 : BookM := ⟨1, [tA], [⟨tA, tGold, 5⟩]⟩
theorem wk_open : openE (newM 1) tA = 0 ∧ openM (newM 1) tA = wk1 := ⟨by kernel_rfl, by kernel_rfl⟩
theorem wk_give : giveE wk1 tA tGold 5 = 0 ∧ giveM wk1 tA tGold 5 = wk2 := ⟨by kernel_rfl, by kernel_rfl⟩
theorem wk_take : takeE wk2 tA tGold 6 = 6 ∧ takeM wk2 tA tGold 6 = wk2 := ⟨by kernel_rfl, by kernel_rfl⟩
theorem wk_bal : balE wk2 tA tGold = 0 ∧ balM wk2 tA tGold = 5 := ⟨by kernel_rfl, by kernel_rfl⟩
theorem wk_total : totalL wk2.funds tGold = 5 := by kernel_rfl
theorem wk_ok0 : BookOk (newM 1) 0 := new_ok 1
theorem wk_ok1 : BookOk wk1 0 := by rw [← wk_open.2]; exact open_ok wk_ok0 tA
theorem wk_ok2 : BookOk wk2 1 := by rw [← wk_give.2]; exact give_ok wk_ok1 tA tGold 5

set_option maxRecDepth 10000 in
set_option maxHeartbeats 4000000 in
theorem awake9_any (w : World) : Calls Try.prog 14 #[] w fun e w' => e = .returned (.bool true) ∧ Below w.heap.size w w' := by
  obtain ⟨g, hg⟩ : ∃ g, w.heap.size = g := ⟨_, rfl⟩
  rw [hg]
  have HNew : Hid (∀ W, Calls Try.prog 8 #[.int .i64 1] W fun e w' => ∃ u, e = .returned u ∧ BookV w' u (newM 1) ∧ Below W.heap.size W w') := new_any 1
  have HOpen : Hid (∀ W u, BookV W u (newM 1) → Calls Try.prog 9 #[u, .string ⟨#[97]⟩] W fun e w' => ∃ u, e = .returned (.tuple #[u, .int .i64 0]) ∧ BookV w' u wk1 ∧ Below W.heap.size W w') := fun W u hu => by
    have h := open_any hu wk_ok0 tA
    rw [wk_open.1, wk_open.2] at h; exact h
  have HGive : Hid (∀ W u, BookV W u wk1 → Calls Try.prog 13 #[u, .string ⟨#[97]⟩, .string ⟨#[103, 111, 108, 100]⟩, .int .i64 5] W fun e w' => ∃ u, e = .returned (.tuple #[u, .int .i64 0]) ∧ BookV w' u wk2 ∧ Below W.heap.size W w') := fun W u hu => by
    have h := give_any hu wk_ok1 (by omega) tA tGold 5
    rw [wk_give.1, wk_give.2] at h; exact h
  have HTake : Hid (∀ W u, BookV W u wk2 → Calls Try.prog 12 #[u, .string ⟨#[97]⟩, .string ⟨#[103, 111, 108, 100]⟩, .int .i64 6] W fun e w' => ∃ u, e = .returned (.tuple #[u, .int .i64 6]) ∧ BookV w' u wk2 ∧ Below W.heap.size W w') := fun W u hu => by
    have h := take_any hu wk_ok2 (by omega) tA tGold 6
    rw [wk_take.1, wk_take.2] at h; exact h
  have HBal : Hid (∀ W u, BookV W u wk2 → Calls Try.prog 11 #[u, .string ⟨#[97]⟩, .string ⟨#[103, 111, 108, 100]⟩] W fun e w' => e = .returned (.tuple #[.int .i64 5, .int .i64 0]) ∧ Below W.heap.size W w') := fun W u hu => by
    have h := balance_any hu wk_ok2 (by omega) tA tGold
    rw [wk_bal.1, wk_bal.2] at h; exact h
  have HTot : Hid (∀ W u, BookV W u wk2 → Calls Try.prog 17 #[u, .string ⟨#[103, 111, 108, 100]⟩] W fun e w' => e = .returned (.int .i64 5) ∧ Below W.heap.size W w') := fun W u hu => by
    have h := total_any hu wk_ok2 (by omega) tGold
    rw [wk_total] at h; exact h
  go_enter Try.func14, Try.ntmps14
  go_wp2_with fail
  refine (HNew.out _).mono ?_
  rintro e w1 ⟨u1, rfl, hU1, hb1⟩
  rw [hg] at hb1
  go_wp2_with fail
  refine (HOpen.out _ _ hU1).mono ?_
  rintro e w2 ⟨u2, rfl, hU2, hb2⟩
  have hs1 : g ≤ w1.heap.size := by have := hb1.size; omega
  have hB2 : Below g w w2 := hb1.trans (hb2.mono hs1)
  obtain ⟨c2, rfl, f2, hU2⟩ := hU2.five
  obtain ⟨p, hp⟩ : ∃ p, w2.heap.size = p := ⟨_, rfl⟩
  have hgp : g ≤ p := by have := hB2.size; omega
  clear hU1 hb1 hb2 hs1 HNew HOpen
  go_upto_region 2 with (first
    | ((with_reducible refine wpList_at ?_); refine wpList_allocG (by rfl) 27 (by rfl) 5 _ zeroBook ?_; rw [hp]; intro w3 hv3 hz3 hb3)
    | ((with_reducible refine wpList_at ?_); refine wpList_wholeG (by rfl) 27 (.tmp 1) (.tmp 12) (by rfl) p bzero c2 (by rfl) (by rfl) hv3 f2.info f2.size f2.one ?_; intro w4 hv4 hz4 hb4))
  have hU4 : BookV w4 (.agg c2) wk1 := (hU2.below (by rw [hp]; exact hb3)).but hv3 noText_z hb4
  have hB4 : Below g w w4 := hB2.trans ((hb3.mono hgp).trans (hb4.below hgp (by omega)))
  have hs4 : p + 1 ≤ w4.heap.size := by omega
  clear hU2 hv3 hb3 hb4 hB2 hz3 hz4 hp
  go_wp2_with ((with_reducible refine wpList_at ?_); refine wpList_loadG (by rfl) 27 (.tmp 1) (by rfl) _ Try.underlying27 p c2 (by rfl) hv4 f2.info ?_)
  refine (HGive.out _ _ hU4).mono ?_
  rintro e w5 ⟨u5, rfl, hU5, hb5⟩
  have hv5 := hv4.on hb5
  have hU45 := hU4.below hb5
  have hB5 : Below g w w5 := hB4.trans (hb5.mono (by omega))
  obtain ⟨c5, rfl, f5, hU5⟩ := hU5.five
  obtain ⟨q, hq⟩ : ∃ q, w5.heap.size = q := ⟨_, rfl⟩
  have hgq : p + 1 ≤ q := by have := hb5.size; omega
  clear hU4 hv4 hb5 hB4 hs4 HGive
  go_upto_region 3 with (first
    | ((with_reducible refine wpList_at ?_); refine wpList_allocG (by rfl) 27 (by rfl) 5 _ zeroBook ?_; rw [hq]; intro w6 hv6 hz6 hb6)
    | ((with_reducible refine wpList_at ?_); refine wpList_wholeG (by rfl) 27 (.tmp 3) (.tmp 17) (by rfl) q bzero c5 (by rfl) (by rfl) hv6 f5.info f5.size f5.one ?_; intro w7 hv7 hz7 hb7))
  have hU7 : BookV w7 (.agg c5) wk2 := (hU5.below (by rw [hq]; exact hb6)).but hv6 noText_z hb7
  have hU47 : BookV w7 (.agg c2) wk1 := (hU45.below (by rw [hq]; exact hb6)).but hv6 noText_z hb7
  have hbt7 : Below q w5 w7 := hb6.trans (hb7.below (Nat.le_refl _) (by omega))
  have hp7 := hv5.below hbt7 (by omega)
  have hB7 : Below g w w7 := hB5.trans (hbt7.mono (by omega))
  have hs7 : q + 1 ≤ w7.heap.size := by omega
  clear hU5 hU45 hv6 hb6 hb7 hbt7 hv5 hB5 hz6 hz7 hq
  go_wp2_with ((with_reducible refine wpList_at ?_); refine wpList_loadG (by rfl) 27 (.tmp 3) (by rfl) _ Try.underlying27 q c5 (by rfl) hv7 f5.info ?_)
  refine (HTake.out _ _ hU7).mono ?_
  rintro e w8 ⟨u8, rfl, hU8, hb8⟩
  have hv8 := hv7.on hb8
  have hp8 := hp7.on hb8
  have hU58 := hU7.below hb8
  have hU28 := hU47.below hb8
  have hB8 : Below g w w8 := hB7.trans (hb8.mono (by omega))
  obtain ⟨c8, rfl, f8, _⟩ := hU8.five
  obtain ⟨r, hr⟩ : ∃ r, w8.heap.size = r := ⟨_, rfl⟩
  have hgr : q + 1 ≤ r := by have := hb8.size; omega
  clear hU7 hU47 hv7 hp7 hb8 hB7 hs7 HTake hU8
  go_upto_region 4 with (first
    | ((with_reducible refine wpList_at ?_); refine wpList_allocG (by rfl) 27 (by rfl) 5 _ zeroBook ?_; rw [hr]; intro w9 hv9 hz9 hb9)
    | ((with_reducible refine wpList_at ?_); refine wpList_wholeG (by rfl) 27 (.tmp 5) (.tmp 22) (by rfl) r bzero c8 (by rfl) (by rfl) hv9 f8.info f8.size f8.one ?_; intro w10 hv10 hz10 hb10))
  have hbt10 : Below r w8 w10 := hb9.trans (hb10.below (Nat.le_refl _) (by omega))
  have hU10 : BookV w10 (.agg c5) wk2 := hU58.below (by rw [hr]; exact hbt10)
  have hU210 : BookV w10 (.agg c2) wk1 := hU28.below (by rw [hr]; exact hbt10)
  have hq10 := hv8.below hbt10 (by omega)
  have hp10 := hp8.below hbt10 (by omega)
  have hB10 : Below g w w10 := hB8.trans (hbt10.mono (by omega))
  have hs10 : r + 1 ≤ w10.heap.size := by omega
  clear hU58 hU28 hv9 hb9 hb10 hbt10 hv8 hp8 hB8 hz9 hz10 hv10 hr f8
  go_wp2_with ((with_reducible refine wpList_at ?_); refine wpList_loadG (by rfl) 27 (.tmp 3) (by rfl) _ Try.underlying27 q c5 (by rfl) hq10 f5.info ?_)
  refine (HBal.out _ _ hU10).mono ?_
  rintro e w11 ⟨rfl, hb11⟩
  have hq11 := hq10.on hb11
  have hp11 := hp10.on hb11
  have hU11 := hU10.below hb11
  have hU211 := hU210.below hb11
  have hB11 : Below g w w11 := hB10.trans (hb11.mono (by omega))
  have hs11 : g ≤ w11.heap.size := by have := hb11.size; omega
  obtain ⟨aa, fa, ac, fc, k0, _, k3, _⟩ := hU211.reads hp11
  have k0 : w11.cell? ⟨p, 0, none⟩ = some (.int .i64 1) := k0
  have k3 : w11.cell? ⟨p, 3, none⟩ = some (.slice fa 0 fc) := k3
  clear hU10 hU210 hq10 hp10 hb11 hB10 hs10 HBal hU211
  go_wp2_with ((with_reducible refine wpList_at ?_); refine wpList_loadG (by rfl) 27 (.tmp 3) (by rfl) _ Try.underlying27 q c5 (by rfl) hq11 f5.info ?_)
  refine (HTot.out _ _ hU11).mono ?_
  rintro e w12 ⟨rfl, hb12⟩
  have hB12 : Below g w w12 := hB11.trans (hb12.mono hs11)
  clear hb12 hB11 hU11 hq11 hp11
  go_wp2
  go_ret
  exact ⟨rfl, hB12⟩

end Go.Proofs.Ytiepkablapjpmaa
