/-
  Package hashkey: Make, leads.
-/
import Derived.Test.YtccaaaifhiigcaaHkSig
import Derived.Test.YtccaaaifhiigcaaGrPath
import Derived.Test.YtccaaaifhiigcaaSpOwnD
import Derived.Test.YtccaaaifhiigcaaZ33
namespace Go.Proofs.Ytccaaaifhiigcaa
open Go.RowKit

theorem wpList_storeH {ops : Array Oper} {rest : List Oper} {o : Oper} {a : Act} {w : World} {Q : Exit → Act → World → Prop} (hw : Region.wanted o (yielded ops a.tmps) = true) (x y : Operand) (ho : o.op = .store 30 x y)
    (g : Nat) (cs old : Array Value) (hx : a.eval x = .pointer (some ⟨g, 0, none⟩)) (hy : a.eval y = .agg cs) (hg : HvAt w g old) (h4 : cs.size = 4) (h4' : old.size = 4) (h1 : ∀ u ∈ cs.toList, u.oneCell' = true)
    (h : ∀ w1, HvAt w1 g cs → But g w w1 → wpList Try.prog ops Q rest (a.put o.dst undef) w1) : wpList Try.prog ops Q (o :: rest) a w :=
  wpList_step fun _ hK => step_storeH w hw x y ho g cs old hx hy hg h4 h4' h1 (fun w1 h2 h3 => hK _ _ (h w1 h2 h3))
theorem noHk_lies (w : World) (lock : Int) (hl : In64 lock) (secret : ByteArray) (hs : secret.size ≤ maxLen) : HkL w none none 0 0 ⟨lock, secret, [], []⟩ :=
  ⟨hl, hs, ints_nil w, strs_nil w, Nat.le_refl _, by unfold maxLen; omega, Nat.le_refl _, by unfold maxLen; omega, fun _ => rfl, fun _ => rfl⟩

set_option maxRecDepth 10000 in
set_option maxHeartbeats 2000000 in
theorem leads_any {w : World} {v : Value} {s : SpecM} (hv : SpecW w v s) {al : Option Addr} {cl : Nat} {l : List Int} (hl : Ints w al l.length l) (hcl : l.length ≤ cl) (hcm : cl ≤ maxLen) (a b : Int) :
    Calls Try.prog 33 #[v, .slice al l.length cl, .int .i64 a, .int .i64 b] w fun e w' => e = .returned (.bool (told (pathOk s l ∧ l.getD 0 0 = a ∧ l.getD (l.length - 1) 0 = b))) ∧ Below w.heap.size w w' := by
  obtain ⟨cs, rfl, h7⟩ := hv.seven
  obtain ⟨g, hg⟩ : ∃ g, w.heap.size = g := ⟨_, rfl⟩
  rw [hg]
  obtain ⟨r, hr⟩ : ∃ r, told (pathOk s l ∧ l.getD 0 0 = a ∧ l.getD (l.length - 1) 0 = b) = r := ⟨_, rfl⟩
  rw [hr]
  have hno : Hid (¬ (pathOk s l ∧ l.getD 0 0 = a ∧ l.getD (l.length - 1) 0 = b) → r = false) := fun h => by rw [← hr, told_no h]
  have hyes : Hid ((pathOk s l ∧ l.getD 0 0 = a ∧ l.getD (l.length - 1) 0 = b) → r = true) := fun h => by rw [← hr, told_yes h]
  clear hr
  have HP : Hid (∀ W, Below g w W → Calls Try.prog 63 #[.agg cs, .slice al l.length cl] W fun e w' => e = .returned (.bool (told (pathOk s l))) ∧ Below W.heap.size W w') := fun W hW => ppath_any (hv.below (by rw [hg]; exact hW)) (hl.below (by rw [hg]; exact hW)) hcl hcm
  obtain ⟨n, hn⟩ : ∃ n, l.length = n := ⟨_, rfl⟩
  rw [hn] at hl HP hcl ⊢
  have hnm := hl.2.1
  unfold maxLen at hnm hcm
  replace hn := hide hn
  replace hl := hide hl
  clear hv
  go_enter Try.func33, Try.ntmps33
  go_wp2_with (first
    | ((with_reducible refine wpList_at ?_); refine wpList_boxv (by rfl) 27 (.tmp 0) (by rfl) _ (by rfl) ?_; rw [hg]; intro w1 hu1 hz1 hb1; have hx1 : SvAt w1 g cs := hu1; clear hu1)
    | ((with_reducible refine wpList_at ?_); refine wpList_loadV (by rfl) (.tmp 4) (by rfl) _ cs (by rfl) hx1 h7 ?_))
  refine (HP.out _ hb1).mono ?_
  rintro e w2 ⟨rfl, hb2⟩
  have hB2 : Below g w w2 := hb1.trans (hb2.mono (by omega))
  clear hx1 hb2 HP hz1
  by_cases hp : pathOk s l
  · rw [told_yes hp]
    have hn1 : 1 ≤ n := by have := hp.2.1; rw [hn.out] at this; exact this
    replace hp := hide hp
    obtain ⟨b1, o1, hb, d0⟩ := (hl.out.below (w' := w2) (by rw [hg]; exact hB2)).2.2.2 0 (by omega)
    subst hb
    have d0 : w2.cell? ⟨b1, o1, none⟩ = some (.int .i64 (l.getD 0 0)) := d0
    have d1 := (hl.out.below (w' := w2) (by rw [hg]; exact hB2)).get (n - 1) (by omega)
    obtain ⟨x, hx⟩ : ∃ x, l.getD 0 0 = x := ⟨_, rfl⟩
    obtain ⟨y, hy⟩ : ∃ y, l.getD (n - 1) 0 = y := ⟨_, rfl⟩
    rw [hx] at d0
    rw [hy] at d1
    obtain ⟨m, hm⟩ : ∃ m, n - 1 = m := ⟨_, rfl⟩
    rw [hm] at d1
    have hw0 : IntKind.i64.wrap ((n : Int) - 1) = (m : Int) := by rw [IntWalk.i64_in _ (by omega)]; omega
    have hmn : m < n := by omega
    have hn0 : 0 < n := by omega
    replace hx := hide hx
    replace hy := hide hy
    replace hm := hide hm
    by_cases c1 : x = a
    · have t1 : (x == a) = true := by rw [c1]; exact beq_self_eq_true _
      by_cases c2 : y = b
      · have t2 : (y == b) = true := by rw [c2]; exact beq_self_eq_true _
        have hf : Hid (r = true) := hyes.out ⟨hp.out, by rw [hx.out]; exact c1, by rw [hn.out, hy.out]; exact c2⟩
        clear c1 c2
        go_wp2
        go_ret
        exact ⟨ret_bool hf.out.symm, hB2⟩
      · have t2 : (y == b) = false := by rw [beq_eq_false_iff_ne]; exact c2
        have hf : Hid (r = false) := hno.out (fun h => c2 (by have := h.2.2; rw [hn.out, hy.out] at this; exact this))
        clear c1 c2
        go_wp2
        go_ret
        exact ⟨ret_bool hf.out.symm, hB2⟩
    · have t1 : (x == a) = false := by rw [beq_eq_false_iff_ne]; exact c1
      have hf : Hid (r = false) := hno.out (fun h => c1 (by have := h.2.1; rw [hx.out] at this; exact this))
      clear c1
      go_wp2
      go_ret
      exact ⟨ret_bool hf.out.symm, hB2⟩
  · rw [told_no hp]
    have hf : Hid (r = false) := hno.out (fun h => hp h.1)
    clear hp
    go_wp2
    go_ret
    exact ⟨ret_bool hf.out.symm, hB2⟩

set_option maxRecDepth 10000 in
set_option maxHeartbeats 2000000 in
theorem make_any {w : World} {v : Value} {s : SpecM} (hv : SpecW w v s) (lock : Int) (secret seed : ByteArray) (hl64 : In64 lock) (hsec : secret.size ≤ 1000) (hseed : seed.size ≤ 1000) (R : HkM)
    (h1 : specOk s ∧ 0 ≤ lock ∧ lock < (s.locks.length : Int) → R = signedM ⟨lock, secret, [], []⟩ (s.leaders.getD lock.toNat 0) seed) (h2 : ¬ (specOk s ∧ 0 ≤ lock ∧ lock < (s.locks.length : Int)) → R = noHk) :
    Calls Try.prog 7 #[v, .int .i64 lock, .string secret, .string seed] w fun e w' => ∃ u, e = .returned u ∧ HkO w' w.heap.size u R ∧ Below w.heap.size w w' := by
  obtain ⟨cs, rfl, h7⟩ := hv.seven
  obtain ⟨g, hg⟩ : ∃ g, w.heap.size = g := ⟨_, rfl⟩
  rw [hg]
  have HC : Hid (∀ W, Below g w W → Calls Try.prog 22 #[.agg cs] W fun e w' => e = .returned (.bool (told (specOk s))) ∧ Below W.heap.size W w') := fun W hW => check_spec (hv.below (by rw [hg]; exact hW))
  have HB : Hid (∀ n : Int, ∀ W, Calls Try.prog 23 #[.int .i64 lock, .int .i64 n] W fun e w' => e = .returned (.bool (told (0 ≤ lock ∧ lock < n))) ∧ w' = W) := fun n W => hbelow_any lock n W
  obtain ⟨a1, a2, a3, a4, k1, k2, k3, k4, hcs, LI, hcap⟩ := hv
  injection hcs with hcs
  have HX : Hid (∀ W, SvAt W g cs → W.cell? ⟨g, 3, none⟩ = some (.slice a3 s.leaders.length k3) ∧ W.cell? ⟨g, 4, none⟩ = some (.slice a4 s.locks.length k4)) := fun W hW => by
    have h9 : W.heap[g]? = some (.cells (cells7 a1 a2 a3 a4 k1 k2 k3 k4 s) 27 (0, 0)) := by rw [← hcs]; exact hW
    exact ⟨(cells7_at h9).2.2.2.1, (cells7_at h9).2.2.2.2.1⟩
  have HLd : Hid (∀ W, Below g w W → Ints W a3 s.leaders.length s.leaders) := fun W hW => LI.leaders.below (by rw [hg]; exact hW)
  have hm4 := LI.locks.2.1
  have hm3 := LI.leaders.2.1
  unfold maxLen at hm4 hm3
  clear hcs LI hcap
  replace h1 := hide h1
  replace h2 := hide h2
  have hz0 : ∀ w1 : World, HvAt (w1.alloc (.cells #[.int .i64 0, .string ⟨#[]⟩, .slice none 0 0, .slice none 0 0] 30)) w1.heap.size #[.int .i64 0, .string ⟨#[]⟩, .slice none 0 0, .slice none 0 0] := fun w1 => heap_alloc_new _ _
  replace hz0 := hide hz0
  go_enter Try.func7, Try.ntmps7
  go_upto_region 1 with ((with_reducible refine wpList_at ?_); refine wpList_boxv (by rfl) 27 (.tmp 0) (by rfl) _ (by rfl) ?_; rw [hg]; intro w1 hu1 hz1 hb1; have hx1 : SvAt w1 g cs := hu1; clear hu1)
  have hR2 := hz0.out w1
  have hal : Below w1.heap.size w1 (w1.alloc (.cells #[.int .i64 0, .string ⟨#[]⟩, .slice none 0 0, .slice none 0 0] 30)) := (Below.refl _ _).alloc (Nat.le_refl _) _
  have hx2 := hx1.below hal
  have hB2 : Below g w (w1.alloc (.cells #[.int .i64 0, .string ⟨#[]⟩, .slice none 0 0, .slice none 0 0] 30)) := hb1.trans (hal.mono (by omega))
  have hs2 : (w1.alloc (.cells #[.int .i64 0, .string ⟨#[]⟩, .slice none 0 0, .slice none 0 0] 30)).heap.size = g + 2 := by simp [hz1]
  rw [hz1] at hR2
  clear hal hx1 hb1
  generalize w1.alloc (.cells #[.int .i64 0, .string ⟨#[]⟩, .slice none 0 0, .slice none 0 0] 30) = w2 at hR2 hx2 hB2 hs2 ⊢
  go_wp2_with ((with_reducible refine wpList_at ?_); refine wpList_loadV (by rfl) (.tmp 4) (by rfl) _ cs (by rfl) hx2 h7 ?_)
  refine (HC.out _ hB2).mono ?_
  rintro e w3 ⟨rfl, hb3⟩
  have hx3 := hx2.below hb3
  have hR3 := hR2.below hb3 (by omega)
  have hB3 : Below g w w3 := hB2.trans (hb3.mono (by omega))
  have hs3 : g + 2 ≤ w3.heap.size := by have := hb3.size; omega
  obtain ⟨q3, q4⟩ := HX.out _ hx3
  clear hx2 hR2 hB2 hb3 hs2 HC hz1
  by_cases hok : specOk s
  · rw [told_yes hok]
    have hll : s.locks.length = s.leaders.length := hok.2.1.2.2.1
    replace hok := hide hok
    obtain ⟨nk, hnk⟩ : ∃ n, s.locks.length = n := ⟨_, rfl⟩
    obtain ⟨nl, hnl⟩ : ∃ n, s.leaders.length = n := ⟨_, rfl⟩
    rw [hnk] at q4 hm4 hll
    rw [hnl] at q3 hm3 hll
    have HB3 := hide (HB.out (nk : Int) w3)
    replace hll := hide hll
    have HNK := hide hnk
    have HNL := hide hnl
    clear hnk hnl
    go_wp2_with fail
    refine HB3.out.mono ?_
    rintro e w0 ⟨rfl, hw0⟩
    subst w0
    clear HB3 HB
    by_cases hb : 0 ≤ lock ∧ lock < (nk : Int)
    · rw [told_yes hb]
      obtain ⟨lk, hlk⟩ : ∃ n : Nat, lock = (n : Int) := ⟨lock.toNat, by omega⟩
      subst hlk
      have hlt : lk < nl := by have := hll.out; omega
      have hR : R = signedM ⟨(lk : Int), secret, [], []⟩ (s.leaders.getD lk 0) seed := h1.out ⟨hok.out, hb.1, by rw [HNK.out]; exact hb.2⟩
      obtain ⟨b3, o3, hb3, d3⟩ := (HLd.out w3 hB3).2.2.2 lk (by rw [HNL.out]; exact hlt)
      subst hb3
      obtain ⟨x, hx⟩ : ∃ x, s.leaders.getD lk 0 = x := ⟨_, rfl⟩
      have hx64 : In64 x := by rw [← hx]; exact (HLd.out w3 hB3).2.2.1 lk (by rw [HNL.out]; exact hlt)
      rw [hx] at d3 hR
      have hk3 : lk ≤ 2 := by have := hok.out.2.1.2.1; rw [HNL.out] at this; omega
      have HS : Hid (Calls Try.prog 24 #[.agg #[.int .i64 (lk : Int), .string secret, .slice none 0 0, .slice none 0 0], .int .i64 x, .string seed] w3 fun e w' => ∃ u, e = .returned u ∧ HkO w' w3.heap.size u R ∧ Below w3.heap.size w3 w') := by
        rw [hR]
        exact signed_any (K := ⟨(lk : Int), secret, [], []⟩) (noHk_lies w3 _ hl64 secret (by unfold maxLen; omega)) x hx64 seed hseed ⟨by show (0 : Int) ≤ (lk : Int); omega, by show (lk : Int) ≤ 255; omega⟩ hsec (by simp) (by simp) (fun j hj => absurd hj (by simp))
      clear hR hx hx64
      replace hb := hide hb
      have hlk0 : (lk : Int) < (nl : Int) := by omega
      clear q4
      go_wp2_with fail
      refine HS.out.mono ?_
      rintro e w4 ⟨u, rfl, hV4, hb4⟩
      obtain ⟨c4, rfl, h4, h41⟩ := hV4.four
      have hR4 := hR3.below hb4 (by omega)
      have hB4 : Below g w w4 := hB3.trans (hb4.mono (by omega))
      have hs4 := hb4.size
      go_wp2_with ((with_reducible refine wpList_at ?_); refine wpList_storeH (by rfl) (.tmp 8) (.tmp 30) (by rfl) (g + 1) c4 _ (by rfl) (by rfl) hR4 h4 rfl h41 ?_; intro w5 hv5 hbt5)
      refine bodyPost_ret (v := .agg _) (results_one (fn := Try.f7) Try.results7 _ _ (g + 1) 30 _ (0, 0) _ (by rfl) hv5 Try.underlying30 (by rw [h4]; exact sizeHk)) rfl ?_
      exact ⟨_, rfl, (hV4.but hbt5 hR4).base (by omega), hB4.trans (hbt5.below (by omega) (by omega))⟩
    · rw [told_no hb]
      have hR : Hid (R = noHk) := h2.out (fun h => hb ⟨h.2.1, by rw [← HNK.out]; exact h.2.2⟩)
      clear hb
      go_wp2_with ((with_reducible refine wpList_at ?_); refine wpList_storeH (by rfl) (.tmp 8) (.tmp 20) (by rfl) (g + 1) #[.int .i64 0, .string ⟨#[]⟩, .slice none 0 0, .slice none 0 0] _ (by rfl) (by rfl) hR3 rfl rfl (by intro u hu; simp at hu; rcases hu with rfl | rfl | rfl <;> rfl) ?_; intro w5 hv5 hbt5)
      refine bodyPost_ret (v := .agg _) (results_one (fn := Try.f7) Try.results7 _ _ (g + 1) 30 _ (0, 0) _ (by rfl) hv5 Try.underlying30 sizeHk) rfl ?_
      exact ⟨_, rfl, by rw [hR.out]; exact hko_none _ _, hB3.trans (hbt5.below (by omega) (by omega))⟩
  · rw [told_no hok]
    have hR : Hid (R = noHk) := h2.out (fun h => hok h.1)
    clear hok q3 q4
    go_wp2_with ((with_reducible refine wpList_at ?_); refine wpList_storeH (by rfl) (.tmp 8) (.tmp 20) (by rfl) (g + 1) #[.int .i64 0, .string ⟨#[]⟩, .slice none 0 0, .slice none 0 0] _ (by rfl) (by rfl) hR3 rfl rfl (by intro u hu; simp at hu; rcases hu with rfl | rfl | rfl <;> rfl) ?_; intro w5 hv5 hbt5)
    refine bodyPost_ret (v := .agg _) (results_one (fn := Try.f7) Try.results7 _ _ (g + 1) 30 _ (0, 0) _ (by rfl) hv5 Try.underlying30 sizeHk) rfl ?_
    exact ⟨_, rfl, by rw [hR.out]; exact hko_none _ _, hB3.trans (hbt5.below (by omega) (by omega))⟩

end Go.Proofs.Ytccaaaifhiigcaa
