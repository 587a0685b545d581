/-
  Package bank: a book in which an account has so much more, or less.
-/
import Derived.Test.YtiepkablapjpmaaBkFn2
namespace Go.Proofs.Ytiepkablapjpmaa
open Go.RowKit

theorem FPart.low {w : World} {a : Option Addr} {n c : Nat} {l : List FundM} (h : FPart w a n c l) (i : Nat) (hi : i ≤ n) : FPart w a i c (l.take i) :=
  ⟨by rw [List.length_take, h.1]; omega, h.2.1.take i, h.2.2⟩
theorem FPart.high {w : World} {b o n c : Nat} {l : List FundM} (h : FPart w (some ⟨b, o, none⟩) n c l) (i d : Nat) : FPart w (some ⟨b, o + i * 3, none⟩) (n - i) d (l.drop i) :=
  ⟨by rw [List.length_drop, h.1], Funds.drop h.2.1 i, fun e => by simp at e⟩
theorem FPart.rest {w : World} {b o n c : Nat} {l : List FundM} (h : FPart w (some ⟨b, o, none⟩) n c l) (i d o' n' : Nat) (p : Prop) [Decidable p] (base : Addr) (ho : o' = o + i * 3) (hn' : n' = n - i) (hp : p → n ≤ i) :
    ∃ ad, (if p then (some base : Option Addr) else some ⟨b, o', none⟩) = some ad ∧ FPart w (some ad) n' d (l.drop i) := by
  have h1 := h.high i d
  by_cases hq : p
  · rw [if_pos hq]
    have h0 : l.drop i = [] := List.drop_eq_nil_of_le (by rw [h.1]; exact hp hq)
    refine ⟨base, rfl, ?_⟩
    rw [h0]
    exact ⟨by rw [hn']; have := hp hq; simp; omega, funds_nil _ _, fun e => by simp at e⟩
  · rw [if_neg hq, ho, hn']
    exact ⟨_, rfl, h1⟩
theorem FPart.empty (w : World) (a : Addr) (c : Nat) : FPart w (some a) 0 c [] := ⟨rfl, funds_nil _ _, fun e => by simp at e⟩
theorem FPart.none (w : World) : FPart w none 0 0 [] := ⟨rfl, funds_nil _ _, fun _ => rfl⟩

set_option maxRecDepth 10000 in
set_option maxHeartbeats 4000000 in
theorem with_any {w : World} {v : Value} {M : BookM} {k : Nat} (hv : BookV w v M) (hok : BookOk M k) (hk : k ≤ 500) (a s : ByteArray) (n m : Int) (hm : amtOf M.funds a s + n = m) (hn0 : -1125899906842624 ≤ n) (hn1 : n ≤ 1125899906842624) :
    Calls Try.prog 27 #[v, .string a, .string s, .int .i64 n] w fun e w' => ∃ u, e = .returned u ∧ BookV w' u (putM M a s m) ∧ Below w.heap.size w w' := by
  have hlen := hok.len
  have hab := amtOf_bounds hok.pos a s
  have hsum := hok.sum
  obtain ⟨aa, fa, ac, fc, rfl, L⟩ := hv
  obtain ⟨g, hg⟩ : ∃ g, w.heap.size = g := ⟨_, rfl⟩
  rw [hg]
  have HFi : Hid (∀ W, Below g w W → Calls Try.prog 25 #[.slice fa M.funds.length fc, .string a, .string s] W fun e w' => ∃ i : Nat, e = .returned (.tuple #[.int .i64 (i : Int), .bool (decide (i < M.funds.length ∧ cmpK (M.funds.getD i noFund) a s = 0))]) ∧ Stands M.funds a s i ∧ Below W.heap.size W w') := fun W hW => find_any (L.below (by rw [hg]; exact hW)).funds (by omega) hok.rise a s
  have HF : Hid (∀ W, Below g w W → FPart W fa M.funds.length fc M.funds) := fun W hW => (L.below (by rw [hg]; exact hW)).part
  have HLA : Hid (∀ W, Below g w W → Strs W aa M.accs.length M.accs) := fun W hW => (L.below (by rw [hg]; exact hW)).accs
  have HCA : Hid ((M.accs.length ≤ ac ∧ ac ≤ maxLen) ∧ (aa = none → ac = 0) ∧ ∀ ad, aa = some ad → ∃ b o, ad = ⟨b, o, none⟩) := ⟨L.acap, L.anil, L.aform⟩
  have HFF := hide L.fform
  have hfc := L.fcap
  have hrise := hide hok.rise
  have hposl := hide hok.pos
  unfold maxLen at hfc
  clear hok L
  go_enter Try.func27, Try.ntmps27
  go_upto_region 1 with (first
    | ((with_reducible refine wpList_at ?_); refine wpList_boxv (by rfl) 27 (.tmp 0) (by rfl) _ (by rfl) ?_; rw [hg]; intro w1 hu1 hz1 hb1)
    | ((with_reducible refine wpList_at ?_); refine wpList_allocG (by rfl) 27 (by rfl) 5 _ zeroBook ?_; rw [hz1]; intro w2 hv2 hz2 hb2))
  have hx2 : VAt w2 27 g (bcells aa fa ac fc M) := VAt.below (w := w1) hu1 hb2 (by omega)
  have hB2 : Below g w w2 := hb1.trans (hb2.mono (by omega))
  have hs2 : g + 2 ≤ w2.heap.size := by omega
  clear hu1 hb1 hb2 hz1 hz2
  obtain ⟨_, _, _, q3, _⟩ := bcells_at hx2
  replace hx2 := hide hx2
  replace hv2 := hide hv2
  go_wp2_with fail
  refine (HFi.out _ hB2).mono ?_
  rintro e w3 ⟨i, rfl, hS, hb3⟩
  have hB3 : Below g w w3 := hB2.trans (hb3.mono (by omega))
  have hx3 := hx2.out.below hb3 (by omega)
  have hv3 := hv2.out.below hb3 (by omega)
  have hs3 : g + 2 ≤ w3.heap.size := by have := hb3.size; omega
  obtain ⟨_, _, _, q3, _⟩ := bcells_at hx3
  have hP := HF.out _ hB3
  have hle := hS.le
  clear hx2 hv2 hB2 hs2 hb3 HFi
  replace hx3 := hide hx3
  replace hv3 := hide hv3
  have hdec : (i < M.funds.length ∧ cmpK (M.funds.getD i noFund) a s = 0) ∨ ¬ (i < M.funds.length ∧ cmpK (M.funds.getD i noFund) a s = 0) := Classical.em _
  rcases hdec with c3 | c3
  · rw [decide_eq_true c3]
    obtain ⟨he, hput⟩ := hS.put_old hrise.out c3.1 c3.2 m
    have hin := getD_in M.funds noFund c3.1
    obtain ⟨b1, o1, rfl, d0, d1, d2⟩ := hP.2.1 i c3.1
    have hy0 : 1 ≤ (M.funds.getD i noFund).amt := hposl.out _ hin
    rw [he] at hm hab
    have hp1 := hide (hP.low i (by omega))
    have hp3 := hide (fun d o' n' (p : Prop) (_ : Decidable p) base ho hn' hp => hP.rest (i + 1) d o' n' p base ho hn' hp)
    obtain ⟨y, hy⟩ : ∃ y, (M.funds.getD i noFund).amt = y := ⟨_, rfl⟩
    rw [hy] at d2 hy0 hm hab
    have hm2 : n + y = m := by omega
    have hlt := c3.1
    have HPut := hide hput
    obtain ⟨nl, hnl⟩ : ∃ nl, M.funds.length = nl := ⟨_, rfl⟩
    rw [hnl] at q3 hfc hlt hle hlen hp3 HF ⊢
    replace hnl := hide hnl
    have hi2 : (i : Int) < (nl : Int) := by omega
    have hi3 : (i : Int) ≤ (nl : Int) := by omega
    have hfci : ¬ (fc = i) := by omega
    have hn1' : (1 : Int) ≤ (nl : Int) - (i : Int) := by omega
    have hym : y ≤ 562949953421312000 := by omega
    clear c3 hput hS hin hP hy he hrise hposl hsum d0 d1 hm hab
    go_upto_region 6 with fail
    obtain ⟨a3, ha3, hp3⟩ := hp3.out (fc - i - 1) (o1 + i * 3 + 3) (nl - i - 1) (fc - i = 1) _ ⟨b1, o1 + i * 3, none⟩ (by omega) (by omega) (fun h => by omega)
    rw [ha3]
    have hn3 : i + 1 + (nl - i - 1) ≤ 600 := by omega
    generalize nl - i - 1 = n3 at hp3 hn3 ⊢
    generalize fc - i - 1 = c3 at hp3 hn3 ⊢
    generalize M.funds.drop (i + 1) = l3 at hp3 HPut
    replace hp3 := hide hp3
    have hi3' : (i : Int) ≤ (nl : Int) := by omega
    have hfin : i ≤ fc ∧ fc ≤ 9223372036854775807 := by omega
    have hnl2 : nl ≤ 1000 := by omega
    generalize M.funds.take i = l1 at hp1 HPut
    clear d2 ha3 hn1' hi2 hi3 hm2 hym hy0 hlt hfci hle hlen hn0 hn1
    by_cases c0 : m = 0
    · have t0 : (m != 0) = false := by rw [c0]; rfl
      have hnf : newF a s m = [] := by unfold newF; rw [if_pos c0]
      have hp2 := hide (FPart.none w3)
      clear c0
      go_upto_region 9 with fail
      have hal9 : Below w3.heap.size w3 (w3.alloc (.cells #[.slice (some ⟨b1, o1, none⟩) i fc, .slice none 0 0, .slice (some a3) n3 c3] 24)) := (Below.refl _ _).alloc (Nat.le_refl _) _
      obtain ⟨_, _, _, q3, _⟩ := bcells_at hx3.out
      go_wp2_with fail
      refine (concat_funds (w := w3.alloc (.cells #[.slice (some ⟨b1, o1, none⟩) i fc, .slice none 0 0, .slice (some a3) n3 c3] 24)) w3.heap.size (hp1.out.below hal9) (hp2.out.below hal9) (hp3.out.below hal9) (by rw [World.cell?_alloc_new]; rfl) (by rw [World.cell?_alloc_new]; rfl) (by rw [World.cell?_alloc_new]; rfl) (by omega)).mono ?_
      rintro e w6 ⟨u, rfl, hO, hb6⟩
      have hcat : l1 ++ [] ++ l3 = (putM M a s m).funds := by rw [← hnf]; exact HPut.out.symm
      rw [hcat] at hO
      obtain ⟨fa6, fc6, rfl, _⟩ := hO.funds
      have hb9 : Below w3.heap.size w3 w6 := hal9.trans (hb6.mono (by simp))
      have hx6 := hx3.out.on hb9
      have hv6 := hv3.out.on hb9
      have hB6 : Below g w w6 := hB3.trans (hb9.mono (by omega))
      have hs6 : g + 2 ≤ w6.heap.size := by have := hb9.size; omega
      obtain ⟨cs6, hcs6⟩ : ∃ cs6, cs6 = bcells aa fa6 ac fc6 (putM M a s m) := ⟨_, rfl⟩
      have hcs6' : cs6 = ((bcells aa (some ⟨b1, o1, none⟩) ac fc M).toList.take 3 ++ [Value.slice fa6 (putM M a s m).funds.length fc6] ++ (bcells aa (some ⟨b1, o1, none⟩) ac fc M).toList.drop (3 + 1)).toArray := by rw [hcs6]; rfl
      have hsz6 : cs6.size = 5 := by rw [hcs6]; rfl
      have h16 : ∀ u ∈ cs6.toList, u.oneCell' = true := by rw [hcs6]; exact bcells_one _ _ _ _ _
      have hsb6 : (Try.prog.info? 27).map (·.size) = some cs6.size := by rw [hsz6]; exact sizeBook
      generalize hPl : (putM M a s m).funds.length = pl at hcs6' ⊢
      rw [hPl] at hO
      replace hO := hide hO
      replace hPl := hide hPl
      replace hcs6 := hide hcs6
      replace hcs6' := hide hcs6'
      replace hx6 := hide hx6
      replace hv6 := hide hv6
      replace hB6 := hide hB6
      clear hcat hnf hal9 hb6 hb9 hx3 hv3 hB3 hs3 hp1 hp2 hp3 q3
      go_wp2_with (first
        | ((with_reducible refine wpList_at ?_); refine wpList_storeG (by rfl) 24 (.tmp 51) (.tmp 50) (by rfl) 27 g 3 #[.slice fa6 pl fc6] (.slice fa6 pl fc6) (bcells aa (some ⟨b1, o1, none⟩) ac fc M) cs6 (by rfl) (by rfl) rfl hx6.out sizeFunds (by show 3 + 1 ≤ 5; omega) (by intro u hu; simp at hu; subst hu; rfl) hcs6'.out ?_; intro w7 hx7 hz7 hb7; have hv7 := hv6.out.but hb7 (by omega))
        | ((with_reducible refine wpList_at ?_); refine wpList_loadG (by rfl) 27 (.tmp 4) (by rfl) _ Try.underlying27 g cs6 (by rfl) hx7 hsb6 ?_)
        | ((with_reducible refine wpList_at ?_); refine wpList_wholeG (by rfl) 27 (.tmp 8) (.tmp 52) (by rfl) (g + 1) bzero cs6 (by rfl) (by rfl) hv7 hsb6 hsz6 h16 ?_; intro w8 hv8 hz8 hb8))
      refine bodyPost_ret (v := .agg cs6) (results_cell (fn := Try.f27) Try.results27 _ _ (g + 1) cs6 _ (by rfl) hv8 Try.underlying27 hsb6) rfl ?_
      have hO8 := (hO.out.but hb7 hx6.out (by decide)).but hb8 hv7 (by decide)
      have hB8 : Below g w w8 := (hB6.out.trans (hb7.below (Nat.le_refl _) (by omega))).trans (hb8.below (by omega) (by omega))
      obtain ⟨fa8, fc8, he8, k1, k2, k3, k4, k5⟩ := hO8.funds
      injection he8 with e1 e2 e3
      subst e1 e3
      rw [hcs6.out]
      exact ⟨_, rfl, ⟨aa, fa6, ac, fc6, rfl, ⟨HLA.out _ hB8, k4, HCA.out.1, ⟨k1, k2⟩, HCA.out.2.1, k3, k5, HCA.out.2.2⟩⟩, hB8⟩
    · have t0 : (m != 0) = true := by rw [bne_iff_ne]; exact c0
      have hnf : newF a s m = [⟨a, s, m⟩] := by unfold newF; rw [if_neg c0]
      clear c0
      have hal : Below w3.heap.size w3 (w3.alloc (.cells #[.string a, .string s, .int .i64 m] 37)) := (Below.refl _ _).alloc (Nat.le_refl _) _
      have hp2 : Hid (FPart (w3.alloc (.cells #[.string a, .string s, .int .i64 m] 37)) (some ⟨w3.heap.size, 0, none⟩) 1 1 [⟨a, s, m⟩]) := by
        refine ⟨rfl, fun j hj => ?_, fun e => by simp at e⟩
        obtain rfl : j = 0 := by have : j < 1 := hj; omega
        exact ⟨_, _, rfl, by rw [World.cell?_alloc_new]; rfl, by rw [World.cell?_alloc_new]; rfl, by rw [World.cell?_alloc_new]; rfl⟩
      have hp1 := hide (hp1.out.below hal)
      have hp3 := hide (hp3.out.below hal)
      have hx3 := hide (hx3.out.on hal)
      have hv3 := hide (hv3.out.on hal)
      have hB3 : Below g w (w3.alloc (.cells #[.string a, .string s, .int .i64 m] 37)) := hB3.trans (hal.mono (by omega))
      have hs3 : g + 2 ≤ (w3.alloc (.cells #[.string a, .string s, .int .i64 m] 37)).heap.size := by simp; omega
      clear hal
      go_upto_region 9 with fail
      generalize w3.alloc (.cells #[.string a, .string s, .int .i64 m] 37) = w4 at hp1 hp2 hp3 hx3 hv3 hB3 hs3 ⊢
      generalize w3.heap.size = z3 at hp2 ⊢
      have hal9 : Below w4.heap.size w4 (w4.alloc (.cells #[.slice (some ⟨b1, o1, none⟩) i fc, .slice (some ⟨z3, 0, none⟩) 1 1, .slice (some a3) n3 c3] 24)) := (Below.refl _ _).alloc (Nat.le_refl _) _
      obtain ⟨_, _, _, q3, _⟩ := bcells_at hx3.out
      go_wp2_with fail
      refine (concat_funds (w := w4.alloc (.cells #[.slice (some ⟨b1, o1, none⟩) i fc, .slice (some ⟨z3, 0, none⟩) 1 1, .slice (some a3) n3 c3] 24)) w4.heap.size (hp1.out.below hal9) (hp2.out.below hal9) (hp3.out.below hal9) (by rw [World.cell?_alloc_new]; rfl) (by rw [World.cell?_alloc_new]; rfl) (by rw [World.cell?_alloc_new]; rfl) (by omega)).mono ?_
      rintro e w6 ⟨u, rfl, hO, hb6⟩
      have hcat : l1 ++ [⟨a, s, m⟩] ++ l3 = (putM M a s m).funds := by rw [← hnf]; exact HPut.out.symm
      rw [hcat] at hO
      obtain ⟨fa6, fc6, rfl, _⟩ := hO.funds
      have hb9 : Below w4.heap.size w4 w6 := hal9.trans (hb6.mono (by simp))
      have hx6 := hx3.out.on hb9
      have hv6 := hv3.out.on hb9
      have hB6 : Below g w w6 := hB3.trans (hb9.mono (by omega))
      have hs6 : g + 2 ≤ w6.heap.size := by have := hb9.size; omega
      obtain ⟨cs6, hcs6⟩ : ∃ cs6, cs6 = bcells aa fa6 ac fc6 (putM M a s m) := ⟨_, rfl⟩
      have hcs6' : cs6 = ((bcells aa (some ⟨b1, o1, none⟩) ac fc M).toList.take 3 ++ [Value.slice fa6 (putM M a s m).funds.length fc6] ++ (bcells aa (some ⟨b1, o1, none⟩) ac fc M).toList.drop (3 + 1)).toArray := by rw [hcs6]; rfl
      have hsz6 : cs6.size = 5 := by rw [hcs6]; rfl
      have h16 : ∀ u ∈ cs6.toList, u.oneCell' = true := by rw [hcs6]; exact bcells_one _ _ _ _ _
      have hsb6 : (Try.prog.info? 27).map (·.size) = some cs6.size := by rw [hsz6]; exact sizeBook
      generalize hPl : (putM M a s m).funds.length = pl at hcs6' ⊢
      rw [hPl] at hO
      replace hO := hide hO
      replace hPl := hide hPl
      replace hcs6 := hide hcs6
      replace hcs6' := hide hcs6'
      replace hx6 := hide hx6
      replace hv6 := hide hv6
      replace hB6 := hide hB6
      clear hcat hnf hal9 hb6 hb9 hx3 hv3 hB3 hs3 hp1 hp2 hp3 q3
      go_wp2_with (first
        | ((with_reducible refine wpList_at ?_); refine wpList_storeG (by rfl) 24 (.tmp 51) (.tmp 50) (by rfl) 27 g 3 #[.slice fa6 pl fc6] (.slice fa6 pl fc6) (bcells aa (some ⟨b1, o1, none⟩) ac fc M) cs6 (by rfl) (by rfl) rfl hx6.out sizeFunds (by show 3 + 1 ≤ 5; omega) (by intro u hu; simp at hu; subst hu; rfl) hcs6'.out ?_; intro w7 hx7 hz7 hb7; have hv7 := hv6.out.but hb7 (by omega))
        | ((with_reducible refine wpList_at ?_); refine wpList_loadG (by rfl) 27 (.tmp 4) (by rfl) _ Try.underlying27 g cs6 (by rfl) hx7 hsb6 ?_)
        | ((with_reducible refine wpList_at ?_); refine wpList_wholeG (by rfl) 27 (.tmp 8) (.tmp 52) (by rfl) (g + 1) bzero cs6 (by rfl) (by rfl) hv7 hsb6 hsz6 h16 ?_; intro w8 hv8 hz8 hb8))
      refine bodyPost_ret (v := .agg cs6) (results_cell (fn := Try.f27) Try.results27 _ _ (g + 1) cs6 _ (by rfl) hv8 Try.underlying27 hsb6) rfl ?_
      have hO8 := (hO.out.but hb7 hx6.out (by decide)).but hb8 hv7 (by decide)
      have hB8 : Below g w w8 := (hB6.out.trans (hb7.below (Nat.le_refl _) (by omega))).trans (hb8.below (by omega) (by omega))
      obtain ⟨fa8, fc8, he8, k1, k2, k3, k4, k5⟩ := hO8.funds
      injection he8 with e1 e2 e3
      subst e1 e3
      rw [hcs6.out]
      exact ⟨_, rfl, ⟨aa, fa6, ac, fc6, rfl, ⟨HLA.out _ hB8, k4, HCA.out.1, ⟨k1, k2⟩, HCA.out.2.1, k3, k5, HCA.out.2.2⟩⟩, hB8⟩
  · rw [decide_eq_false c3]
    obtain ⟨he, hput⟩ := hS.put_new hrise.out (by by_cases h : i = M.funds.length; exact .inl h; exact .inr (fun hz => c3 ⟨by omega, hz⟩)) m
    have hmn : n = m := by rw [he] at hm; omega
    subst hmn
    have HPut := hide hput
    have hp1 := hide (hP.low i (by omega))
    cases fa with
    | none =>
      obtain ⟨h1, h2, h3⟩ := hP.nil
      subst h2
      have hi0 : i = 0 := by omega
      subst hi0
      obtain ⟨nl, hnl⟩ : ∃ nl, M.funds.length = nl := ⟨_, rfl⟩
      rw [hnl] at q3 HF h1 ⊢
      subst h1
      have hp3 : Hid (FPart w3 none 0 0 (M.funds.drop 0)) := by rw [h3]; exact FPart.none w3
      replace hnl := hide hnl
      clear c3 hput hS hP hrise hposl hsum hm hab he hn0 hn1 h3
      go_upto_region 6 with fail
      generalize M.funds.drop 0 = l3 at hp3 HPut
      generalize M.funds.take 0 = l1 at hp1 HPut
      by_cases c0 : n = 0
      · have t0 : (n != 0) = false := by rw [c0]; rfl
        have hnf : newF a s n = [] := by unfold newF; rw [if_pos c0]
        have hp2 := hide (FPart.none w3)
        clear c0
        go_upto_region 9 with fail
        have hal9 : Below w3.heap.size w3 (w3.alloc (.cells #[.slice none 0 0, .slice none 0 0, .slice none 0 0] 24)) := (Below.refl _ _).alloc (Nat.le_refl _) _
        obtain ⟨_, _, _, q3, _⟩ := bcells_at hx3.out
        go_wp2_with fail
        refine (concat_funds (w := w3.alloc (.cells #[.slice none 0 0, .slice none 0 0, .slice none 0 0] 24)) w3.heap.size (hp1.out.below hal9) (hp2.out.below hal9) (hp3.out.below hal9) (by rw [World.cell?_alloc_new]; rfl) (by rw [World.cell?_alloc_new]; rfl) (by rw [World.cell?_alloc_new]; rfl) (by omega)).mono ?_
        rintro e w6 ⟨u, rfl, hO, hb6⟩
        have hcat : l1 ++ [] ++ l3 = (putM M a s n).funds := by rw [← hnf]; exact HPut.out.symm
        rw [hcat] at hO
        obtain ⟨fa6, fc6, rfl, _⟩ := hO.funds
        have hb9 : Below w3.heap.size w3 w6 := hal9.trans (hb6.mono (by simp))
        have hx6 := hx3.out.on hb9
        have hv6 := hv3.out.on hb9
        have hB6 : Below g w w6 := hB3.trans (hb9.mono (by omega))
        have hs6 : g + 2 ≤ w6.heap.size := by have := hb9.size; omega
        obtain ⟨cs6, hcs6⟩ : ∃ cs6, cs6 = bcells aa fa6 ac fc6 (putM M a s n) := ⟨_, rfl⟩
        have hcs6' : cs6 = ((bcells aa none ac 0 M).toList.take 3 ++ [Value.slice fa6 (putM M a s n).funds.length fc6] ++ (bcells aa none ac 0 M).toList.drop (3 + 1)).toArray := by rw [hcs6]; rfl
        have hsz6 : cs6.size = 5 := by rw [hcs6]; rfl
        have h16 : ∀ u ∈ cs6.toList, u.oneCell' = true := by rw [hcs6]; exact bcells_one _ _ _ _ _
        have hsb6 : (Try.prog.info? 27).map (·.size) = some cs6.size := by rw [hsz6]; exact sizeBook
        generalize hPl : (putM M a s n).funds.length = pl at hcs6' ⊢
        rw [hPl] at hO
        replace hO := hide hO
        replace hPl := hide hPl
        replace hcs6 := hide hcs6
        replace hcs6' := hide hcs6'
        replace hx6 := hide hx6
        replace hv6 := hide hv6
        replace hB6 := hide hB6
        clear hcat hnf hal9 hb6 hb9 hx3 hv3 hB3 hs3 hp1 hp2 hp3 q3
        go_wp2_with (first
          | ((with_reducible refine wpList_at ?_); refine wpList_storeG (by rfl) 24 (.tmp 51) (.tmp 50) (by rfl) 27 g 3 #[.slice fa6 pl fc6] (.slice fa6 pl fc6) (bcells aa none ac 0 M) cs6 (by rfl) (by rfl) rfl hx6.out sizeFunds (by show 3 + 1 ≤ 5; omega) (by intro u hu; simp at hu; subst hu; rfl) hcs6'.out ?_; intro w7 hx7 hz7 hb7; have hv7 := hv6.out.but hb7 (by omega))
          | ((with_reducible refine wpList_at ?_); refine wpList_loadG (by rfl) 27 (.tmp 4) (by rfl) _ Try.underlying27 g cs6 (by rfl) hx7 hsb6 ?_)
          | ((with_reducible refine wpList_at ?_); refine wpList_wholeG (by rfl) 27 (.tmp 8) (.tmp 52) (by rfl) (g + 1) bzero cs6 (by rfl) (by rfl) hv7 hsb6 hsz6 h16 ?_; intro w8 hv8 hz8 hb8))
        refine bodyPost_ret (v := .agg cs6) (results_cell (fn := Try.f27) Try.results27 _ _ (g + 1) cs6 _ (by rfl) hv8 Try.underlying27 hsb6) rfl ?_
        have hO8 := (hO.out.but hb7 hx6.out (by decide)).but hb8 hv7 (by decide)
        have hB8 : Below g w w8 := (hB6.out.trans (hb7.below (Nat.le_refl _) (by omega))).trans (hb8.below (by omega) (by omega))
        obtain ⟨fa8, fc8, he8, k1, k2, k3, k4, k5⟩ := hO8.funds
        injection he8 with e1 e2 e3
        subst e1 e3
        rw [hcs6.out]
        exact ⟨_, rfl, ⟨aa, fa6, ac, fc6, rfl, ⟨HLA.out _ hB8, k4, HCA.out.1, ⟨k1, k2⟩, HCA.out.2.1, k3, k5, HCA.out.2.2⟩⟩, hB8⟩
      · have t0 : (n != 0) = true := by rw [bne_iff_ne]; exact c0
        have hnf : newF a s n = [⟨a, s, n⟩] := by unfold newF; rw [if_neg c0]
        clear c0
        have hal : Below w3.heap.size w3 (w3.alloc (.cells #[.string a, .string s, .int .i64 n] 37)) := (Below.refl _ _).alloc (Nat.le_refl _) _
        have hp2 : Hid (FPart (w3.alloc (.cells #[.string a, .string s, .int .i64 n] 37)) (some ⟨w3.heap.size, 0, none⟩) 1 1 [⟨a, s, n⟩]) := by
          refine ⟨rfl, fun j hj => ?_, fun e => by simp at e⟩
          obtain rfl : j = 0 := by have : j < 1 := hj; omega
          exact ⟨_, _, rfl, by rw [World.cell?_alloc_new]; rfl, by rw [World.cell?_alloc_new]; rfl, by rw [World.cell?_alloc_new]; rfl⟩
        have hp1 := hide (hp1.out.below hal)
        have hp3 := hide (hp3.out.below hal)
        have hx3 := hide (hx3.out.on hal)
        have hv3 := hide (hv3.out.on hal)
        have hB3 : Below g w (w3.alloc (.cells #[.string a, .string s, .int .i64 n] 37)) := hB3.trans (hal.mono (by omega))
        have hs3 : g + 2 ≤ (w3.alloc (.cells #[.string a, .string s, .int .i64 n] 37)).heap.size := by simp; omega
        clear hal
        go_upto_region 9 with fail
        generalize w3.alloc (.cells #[.string a, .string s, .int .i64 n] 37) = w4 at hp1 hp2 hp3 hx3 hv3 hB3 hs3 ⊢
        generalize w3.heap.size = z3 at hp2 ⊢
        have hal9 : Below w4.heap.size w4 (w4.alloc (.cells #[.slice none 0 0, .slice (some ⟨z3, 0, none⟩) 1 1, .slice none 0 0] 24)) := (Below.refl _ _).alloc (Nat.le_refl _) _
        obtain ⟨_, _, _, q3, _⟩ := bcells_at hx3.out
        go_wp2_with fail
        refine (concat_funds (w := w4.alloc (.cells #[.slice none 0 0, .slice (some ⟨z3, 0, none⟩) 1 1, .slice none 0 0] 24)) w4.heap.size (hp1.out.below hal9) (hp2.out.below hal9) (hp3.out.below hal9) (by rw [World.cell?_alloc_new]; rfl) (by rw [World.cell?_alloc_new]; rfl) (by rw [World.cell?_alloc_new]; rfl) (by omega)).mono ?_
        rintro e w6 ⟨u, rfl, hO, hb6⟩
        have hcat : l1 ++ [⟨a, s, n⟩] ++ l3 = (putM M a s n).funds := by rw [← hnf]; exact HPut.out.symm
        rw [hcat] at hO
        obtain ⟨fa6, fc6, rfl, _⟩ := hO.funds
        have hb9 : Below w4.heap.size w4 w6 := hal9.trans (hb6.mono (by simp))
        have hx6 := hx3.out.on hb9
        have hv6 := hv3.out.on hb9
        have hB6 : Below g w w6 := hB3.trans (hb9.mono (by omega))
        have hs6 : g + 2 ≤ w6.heap.size := by have := hb9.size; omega
        obtain ⟨cs6, hcs6⟩ : ∃ cs6, cs6 = bcells aa fa6 ac fc6 (putM M a s n) := ⟨_, rfl⟩
        have hcs6' : cs6 = ((bcells aa none ac 0 M).toList.take 3 ++ [Value.slice fa6 (putM M a s n).funds.length fc6] ++ (bcells aa none ac 0 M).toList.drop (3 + 1)).toArray := by rw [hcs6]; rfl
        have hsz6 : cs6.size = 5 := by rw [hcs6]; rfl
        have h16 : ∀ u ∈ cs6.toList, u.oneCell' = true := by rw [hcs6]; exact bcells_one _ _ _ _ _
        have hsb6 : (Try.prog.info? 27).map (·.size) = some cs6.size := by rw [hsz6]; exact sizeBook
        generalize hPl : (putM M a s n).funds.length = pl at hcs6' ⊢
        rw [hPl] at hO
        replace hO := hide hO
        replace hPl := hide hPl
        replace hcs6 := hide hcs6
        replace hcs6' := hide hcs6'
        replace hx6 := hide hx6
        replace hv6 := hide hv6
        replace hB6 := hide hB6
        clear hcat hnf hal9 hb6 hb9 hx3 hv3 hB3 hs3 hp1 hp2 hp3 q3
        go_wp2_with (first
          | ((with_reducible refine wpList_at ?_); refine wpList_storeG (by rfl) 24 (.tmp 51) (.tmp 50) (by rfl) 27 g 3 #[.slice fa6 pl fc6] (.slice fa6 pl fc6) (bcells aa none ac 0 M) cs6 (by rfl) (by rfl) rfl hx6.out sizeFunds (by show 3 + 1 ≤ 5; omega) (by intro u hu; simp at hu; subst hu; rfl) hcs6'.out ?_; intro w7 hx7 hz7 hb7; have hv7 := hv6.out.but hb7 (by omega))
          | ((with_reducible refine wpList_at ?_); refine wpList_loadG (by rfl) 27 (.tmp 4) (by rfl) _ Try.underlying27 g cs6 (by rfl) hx7 hsb6 ?_)
          | ((with_reducible refine wpList_at ?_); refine wpList_wholeG (by rfl) 27 (.tmp 8) (.tmp 52) (by rfl) (g + 1) bzero cs6 (by rfl) (by rfl) hv7 hsb6 hsz6 h16 ?_; intro w8 hv8 hz8 hb8))
        refine bodyPost_ret (v := .agg cs6) (results_cell (fn := Try.f27) Try.results27 _ _ (g + 1) cs6 _ (by rfl) hv8 Try.underlying27 hsb6) rfl ?_
        have hO8 := (hO.out.but hb7 hx6.out (by decide)).but hb8 hv7 (by decide)
        have hB8 : Below g w w8 := (hB6.out.trans (hb7.below (Nat.le_refl _) (by omega))).trans (hb8.below (by omega) (by omega))
        obtain ⟨fa8, fc8, he8, k1, k2, k3, k4, k5⟩ := hO8.funds
        injection he8 with e1 e2 e3
        subst e1 e3
        rw [hcs6.out]
        exact ⟨_, rfl, ⟨aa, fa6, ac, fc6, rfl, ⟨HLA.out _ hB8, k4, HCA.out.1, ⟨k1, k2⟩, HCA.out.2.1, k3, k5, HCA.out.2.2⟩⟩, hB8⟩
    | some ad =>
      obtain ⟨b1, o1, rfl⟩ := HFF.out ad rfl
      obtain ⟨nl, hnl⟩ : ∃ nl, M.funds.length = nl := ⟨_, rfl⟩
      rw [hnl] at q3 HF hP hfc hle hlen ⊢
      obtain ⟨a3, ha3, hp3⟩ := hP.rest i (fc - i) (o1 + i * 3) (nl - i) (fc = i) ⟨b1, o1, none⟩ rfl rfl (fun h => by omega)
      have hi3 : (i : Int) ≤ (nl : Int) := by omega
      replace hnl := hide hnl
      replace hp3 := hide hp3
      clear c3 hput hS hP hrise hposl hsum hm hab he hn0 hn1
      go_upto_region 6 with fail
      have hn3 : i + (nl - i) ≤ 600 := by omega
      generalize nl - i = n3 at hp3 hn3 ⊢
      generalize fc - i = c3 at hp3 hn3 ⊢
      have hfin : i ≤ fc ∧ fc ≤ 9223372036854775807 := by omega
      generalize M.funds.drop i = l3 at hp3 HPut
      generalize M.funds.take i = l1 at hp1 HPut
      clear ha3
      by_cases c0 : n = 0
      · have t0 : (n != 0) = false := by rw [c0]; rfl
        have hnf : newF a s n = [] := by unfold newF; rw [if_pos c0]
        have hp2 := hide (FPart.none w3)
        clear c0
        go_upto_region 9 with fail
        have hal9 : Below w3.heap.size w3 (w3.alloc (.cells #[.slice (some ⟨b1, o1, none⟩) i fc, .slice none 0 0, .slice (some a3) n3 c3] 24)) := (Below.refl _ _).alloc (Nat.le_refl _) _
        obtain ⟨_, _, _, q3, _⟩ := bcells_at hx3.out
        go_wp2_with fail
        refine (concat_funds (w := w3.alloc (.cells #[.slice (some ⟨b1, o1, none⟩) i fc, .slice none 0 0, .slice (some a3) n3 c3] 24)) w3.heap.size (hp1.out.below hal9) (hp2.out.below hal9) (hp3.out.below hal9) (by rw [World.cell?_alloc_new]; rfl) (by rw [World.cell?_alloc_new]; rfl) (by rw [World.cell?_alloc_new]; rfl) (by omega)).mono ?_
        rintro e w6 ⟨u, rfl, hO, hb6⟩
        have hcat : l1 ++ [] ++ l3 = (putM M a s n).funds := by rw [← hnf]; exact HPut.out.symm
        rw [hcat] at hO
        obtain ⟨fa6, fc6, rfl, _⟩ := hO.funds
        have hb9 : Below w3.heap.size w3 w6 := hal9.trans (hb6.mono (by simp))
        have hx6 := hx3.out.on hb9
        have hv6 := hv3.out.on hb9
        have hB6 : Below g w w6 := hB3.trans (hb9.mono (by omega))
        have hs6 : g + 2 ≤ w6.heap.size := by have := hb9.size; omega
        obtain ⟨cs6, hcs6⟩ : ∃ cs6, cs6 = bcells aa fa6 ac fc6 (putM M a s n) := ⟨_, rfl⟩
        have hcs6' : cs6 = ((bcells aa (some ⟨b1, o1, none⟩) ac fc M).toList.take 3 ++ [Value.slice fa6 (putM M a s n).funds.length fc6] ++ (bcells aa (some ⟨b1, o1, none⟩) ac fc M).toList.drop (3 + 1)).toArray := by rw [hcs6]; rfl
        have hsz6 : cs6.size = 5 := by rw [hcs6]; rfl
        have h16 : ∀ u ∈ cs6.toList, u.oneCell' = true := by rw [hcs6]; exact bcells_one _ _ _ _ _
        have hsb6 : (Try.prog.info? 27).map (·.size) = some cs6.size := by rw [hsz6]; exact sizeBook
        generalize hPl : (putM M a s n).funds.length = pl at hcs6' ⊢
        rw [hPl] at hO
        replace hO := hide hO
        replace hPl := hide hPl
        replace hcs6 := hide hcs6
        replace hcs6' := hide hcs6'
        replace hx6 := hide hx6
        replace hv6 := hide hv6
        replace hB6 := hide hB6
        clear hcat hnf hal9 hb6 hb9 hx3 hv3 hB3 hs3 hp1 hp2 hp3 q3
        go_wp2_with (first
          | ((with_reducible refine wpList_at ?_); refine wpList_storeG (by rfl) 24 (.tmp 51) (.tmp 50) (by rfl) 27 g 3 #[.slice fa6 pl fc6] (.slice fa6 pl fc6) (bcells aa (some ⟨b1, o1, none⟩) ac fc M) cs6 (by rfl) (by rfl) rfl hx6.out sizeFunds (by show 3 + 1 ≤ 5; omega) (by intro u hu; simp at hu; subst hu; rfl) hcs6'.out ?_; intro w7 hx7 hz7 hb7; have hv7 := hv6.out.but hb7 (by omega))
          | ((with_reducible refine wpList_at ?_); refine wpList_loadG (by rfl) 27 (.tmp 4) (by rfl) _ Try.underlying27 g cs6 (by rfl) hx7 hsb6 ?_)
          | ((with_reducible refine wpList_at ?_); refine wpList_wholeG (by rfl) 27 (.tmp 8) (.tmp 52) (by rfl) (g + 1) bzero cs6 (by rfl) (by rfl) hv7 hsb6 hsz6 h16 ?_; intro w8 hv8 hz8 hb8))
        refine bodyPost_ret (v := .agg cs6) (results_cell (fn := Try.f27) Try.results27 _ _ (g + 1) cs6 _ (by rfl) hv8 Try.underlying27 hsb6) rfl ?_
        have hO8 := (hO.out.but hb7 hx6.out (by decide)).but hb8 hv7 (by decide)
        have hB8 : Below g w w8 := (hB6.out.trans (hb7.below (Nat.le_refl _) (by omega))).trans (hb8.below (by omega) (by omega))
        obtain ⟨fa8, fc8, he8, k1, k2, k3, k4, k5⟩ := hO8.funds
        injection he8 with e1 e2 e3
        subst e1 e3
        rw [hcs6.out]
        exact ⟨_, rfl, ⟨aa, fa6, ac, fc6, rfl, ⟨HLA.out _ hB8, k4, HCA.out.1, ⟨k1, k2⟩, HCA.out.2.1, k3, k5, HCA.out.2.2⟩⟩, hB8⟩
      · have t0 : (n != 0) = true := by rw [bne_iff_ne]; exact c0
        have hnf : newF a s n = [⟨a, s, n⟩] := by unfold newF; rw [if_neg c0]
        clear c0
        have hal : Below w3.heap.size w3 (w3.alloc (.cells #[.string a, .string s, .int .i64 n] 37)) := (Below.refl _ _).alloc (Nat.le_refl _) _
        have hp2 : Hid (FPart (w3.alloc (.cells #[.string a, .string s, .int .i64 n] 37)) (some ⟨w3.heap.size, 0, none⟩) 1 1 [⟨a, s, n⟩]) := by
          refine ⟨rfl, fun j hj => ?_, fun e => by simp at e⟩
          obtain rfl : j = 0 := by have : j < 1 := hj; omega
          exact ⟨_, _, rfl, by rw [World.cell?_alloc_new]; rfl, by rw [World.cell?_alloc_new]; rfl, by rw [World.cell?_alloc_new]; rfl⟩
        have hp1 := hide (hp1.out.below hal)
        have hp3 := hide (hp3.out.below hal)
        have hx3 := hide (hx3.out.on hal)
        have hv3 := hide (hv3.out.on hal)
        have hB3 : Below g w (w3.alloc (.cells #[.string a, .string s, .int .i64 n] 37)) := hB3.trans (hal.mono (by omega))
        have hs3 : g + 2 ≤ (w3.alloc (.cells #[.string a, .string s, .int .i64 n] 37)).heap.size := by simp; omega
        clear hal
        go_upto_region 9 with fail
        generalize w3.alloc (.cells #[.string a, .string s, .int .i64 n] 37) = w4 at hp1 hp2 hp3 hx3 hv3 hB3 hs3 ⊢
        generalize w3.heap.size = z3 at hp2 ⊢
        have hal9 : Below w4.heap.size w4 (w4.alloc (.cells #[.slice (some ⟨b1, o1, none⟩) i fc, .slice (some ⟨z3, 0, none⟩) 1 1, .slice (some a3) n3 c3] 24)) := (Below.refl _ _).alloc (Nat.le_refl _) _
        obtain ⟨_, _, _, q3, _⟩ := bcells_at hx3.out
        go_wp2_with fail
        refine (concat_funds (w := w4.alloc (.cells #[.slice (some ⟨b1, o1, none⟩) i fc, .slice (some ⟨z3, 0, none⟩) 1 1, .slice (some a3) n3 c3] 24)) w4.heap.size (hp1.out.below hal9) (hp2.out.below hal9) (hp3.out.below hal9) (by rw [World.cell?_alloc_new]; rfl) (by rw [World.cell?_alloc_new]; rfl) (by rw [World.cell?_alloc_new]; rfl) (by omega)).mono ?_
        rintro e w6 ⟨u, rfl, hO, hb6⟩
        have hcat : l1 ++ [⟨a, s, n⟩] ++ l3 = (putM M a s n).funds := by rw [← hnf]; exact HPut.out.symm
        rw [hcat] at hO
        obtain ⟨fa6, fc6, rfl, _⟩ := hO.funds
        have hb9 : Below w4.heap.size w4 w6 := hal9.trans (hb6.mono (by simp))
        have hx6 := hx3.out.on hb9
        have hv6 := hv3.out.on hb9
        have hB6 : Below g w w6 := hB3.trans (hb9.mono (by omega))
        have hs6 : g + 2 ≤ w6.heap.size := by have := hb9.size; omega
        obtain ⟨cs6, hcs6⟩ : ∃ cs6, cs6 = bcells aa fa6 ac fc6 (putM M a s n) := ⟨_, rfl⟩
        have hcs6' : cs6 = ((bcells aa (some ⟨b1, o1, none⟩) ac fc M).toList.take 3 ++ [Value.slice fa6 (putM M a s n).funds.length fc6] ++ (bcells aa (some ⟨b1, o1, none⟩) ac fc M).toList.drop (3 + 1)).toArray := by rw [hcs6]; rfl
        have hsz6 : cs6.size = 5 := by rw [hcs6]; rfl
        have h16 : ∀ u ∈ cs6.toList, u.oneCell' = true := by rw [hcs6]; exact bcells_one _ _ _ _ _
        have hsb6 : (Try.prog.info? 27).map (·.size) = some cs6.size := by rw [hsz6]; exact sizeBook
        generalize hPl : (putM M a s n).funds.length = pl at hcs6' ⊢
        rw [hPl] at hO
        replace hO := hide hO
        replace hPl := hide hPl
        replace hcs6 := hide hcs6
        replace hcs6' := hide hcs6'
        replace hx6 := hide hx6
        replace hv6 := hide hv6
        replace hB6 := hide hB6
        clear hcat hnf hal9 hb6 hb9 hx3 hv3 hB3 hs3 hp1 hp2 hp3 q3
        go_wp2_with (first
          | ((with_reducible refine wpList_at ?_); refine wpList_storeG (by rfl) 24 (.tmp 51) (.tmp 50) (by rfl) 27 g 3 #[.slice fa6 pl fc6] (.slice fa6 pl fc6) (bcells aa (some ⟨b1, o1, none⟩) ac fc M) cs6 (by rfl) (by rfl) rfl hx6.out sizeFunds (by show 3 + 1 ≤ 5; omega) (by intro u hu; simp at hu; subst hu; rfl) hcs6'.out ?_; intro w7 hx7 hz7 hb7; have hv7 := hv6.out.but hb7 (by omega))
          | ((with_reducible refine wpList_at ?_); refine wpList_loadG (by rfl) 27 (.tmp 4) (by rfl) _ Try.underlying27 g cs6 (by rfl) hx7 hsb6 ?_)
          | ((with_reducible refine wpList_at ?_); refine wpList_wholeG (by rfl) 27 (.tmp 8) (.tmp 52) (by rfl) (g + 1) bzero cs6 (by rfl) (by rfl) hv7 hsb6 hsz6 h16 ?_; intro w8 hv8 hz8 hb8))
        refine bodyPost_ret (v := .agg cs6) (results_cell (fn := Try.f27) Try.results27 _ _ (g + 1) cs6 _ (by rfl) hv8 Try.underlying27 hsb6) rfl ?_
        have hO8 := (hO.out.but hb7 hx6.out (by decide)).but hb8 hv7 (by decide)
        have hB8 : Below g w w8 := (hB6.out.trans (hb7.below (Nat.le_refl _) (by omega))).trans (hb8.below (by omega) (by omega))
        obtain ⟨fa8, fc8, he8, k1, k2, k3, k4, k5⟩ := hO8.funds
        injection he8 with e1 e2 e3
        subst e1 e3
        rw [hcs6.out]
        exact ⟨_, rfl, ⟨aa, fa6, ac, fc6, rfl, ⟨HLA.out _ hB8, k4, HCA.out.1, ⟨k1, k2⟩, HCA.out.2.1, k3, k5, HCA.out.2.2⟩⟩, hB8⟩

end Go.Proofs.Ytiepkablapjpmaa
