/-
  Package bank: the assets that there are, room for one more, what an account has.
-/
import Derived.Test.YtiepkablapjpmaaBkFn
namespace Go.Proofs.Ytiepkablapjpmaa
open Go.RowKit

theorem StandsT.insert {P : List ByteArray} {x : ByteArray} {i : Nat} (h : StandsT P x i) (hr : RisingT P) (hn : inL x P = false) : RisingT (P.take i ++ [x] ++ P.drop i) := by
  have hall : ∀ j, i ≤ j → j < P.length → 0 < cmpT (P.getD j ByteArray.empty) x := fun j hj hl => by
    have h1 := h.hi j hj hl
    have h2 : cmpT (P.getD j ByteArray.empty) x ≠ 0 := fun hz => by
      have : inL x P = true := (inL_iff _ _).2 (memT_getD.2 ⟨j, hl, (cmpT_zero _ _).1 hz⟩)
      rw [hn] at this; exact Bool.noConfusion this
    omega
  have h1 := take_all (P := fun y => cmpT y x < 0) h.le h.lo
  have h2 := drop_all (l := P) (i := i) (d := ByteArray.empty) (P := fun y => 0 < cmpT y x) hall
  have hP : (P.take i ++ P.drop i).Pairwise fun a b => cmpT a b < 0 := by rw [List.take_append_drop]; exact hr
  rw [List.pairwise_append] at hP
  unfold RisingT
  rw [List.append_assoc, List.pairwise_append]
  refine ⟨hP.1, ?_, fun a ha b hb => ?_⟩
  · rw [List.singleton_append, List.pairwise_cons]
    exact ⟨fun b hb => by have := h2 b hb; have e := cmpT_back b x; omega, hP.2.1⟩
  · rw [List.singleton_append] at hb
    rcases List.mem_cons.1 hb with rfl | hb
    · exact h1 a ha
    · exact hP.2.2 a ha b hb
theorem insert_perm {P R : List ByteArray} (h : P.Perm R) (x : ByteArray) (i : Nat) : (P.take i ++ [x] ++ P.drop i).Perm (R ++ [x]) := by
  have h1 : (P.take i ++ [x] ++ P.drop i).Perm (x :: P) := by
    rw [List.append_assoc, List.singleton_append]
    have h9 : (P.take i ++ x :: P.drop i).Perm (x :: (P.take i ++ P.drop i)) := List.perm_middle
    rw [List.take_append_drop] at h9
    exact h9
  have h2 : (R ++ [x]).Perm (x :: R) := List.perm_append_singleton x R
  exact h1.trans ((h.cons x).trans h2.symm)
theorem perm_in {P R : List ByteArray} (h : P.Perm R) (x : ByteArray) : inL x P = inL x R := by
  rw [Bool.eq_iff_iff, inL_iff, inL_iff]; exact h.mem_iff

set_option maxRecDepth 10000 in
set_option maxHeartbeats 2000000 in
theorem assets_any {w : World} {v : Value} {M : BookM} {k : Nat} (hv : BookV w v M) (hok : BookOk M k) (hk : k ≤ 500) : Calls Try.prog 45 #[v] w fun e w' => ∃ u P, e = .returned u ∧ OwnS w' w.heap.size u P ∧ RisingT P ∧ P.Perm (assetsL M.funds) ∧ P.length ≤ 500 ∧ (∀ x ∈ P, x.size ≤ 1000) ∧ Below w.heap.size w w' := by
  have hlen := hok.len
  have HS : Hid (∀ W, Below w.heap.size w W → Calls Try.prog 29 #[v] W fun e w' => ∃ u, e = .returned u ∧ OwnF w' W.heap.size u M.funds ∧ Below W.heap.size W w') := fun W hW => stock_any (hv.below hW) (by omega)
  obtain ⟨aa, fa, ac, fc, rfl, L⟩ := hv
  obtain ⟨g, hg⟩ : ∃ g, w.heap.size = g := ⟨_, rfl⟩
  rw [hg] at HS ⊢
  obtain ⟨l, hl⟩ : ∃ l, M.funds = l := ⟨_, rfl⟩
  have hass : Hid (∀ f ∈ l, f.asset.size ≤ 1000) := by show ∀ f ∈ l, _; rw [← hl]; intro f hf; have := (hok.ass f hf).2; omega
  rw [hl] at HS hlen ⊢
  obtain ⟨n, hn⟩ : ∃ n, l.length = n := ⟨_, rfl⟩
  rw [hn] at hlen
  replace hn := hide hn
  clear L hok hl
  go_enter Try.func45, Try.ntmps45
  go_wp2_with (first
    | ((with_reducible refine wpList_at ?_); refine wpList_boxv (by rfl) 27 (.tmp 0) (by rfl) _ (by rfl) ?_; rw [hg]; intro w1 hu1 hz1 hb1; have hx1 : VAt w1 27 g (bcells aa fa ac fc M) := hu1; clear hu1)
    | ((with_reducible refine wpList_at ?_); refine wpList_loadG (by rfl) 27 (.tmp 1) (by rfl) _ Try.underlying27 g (bcells aa fa ac fc M) (by rfl) hx1 sizeBook ?_))
  refine (HS.out _ hb1).mono ?_
  rintro e w2 ⟨u, rfl, hO, hb2⟩
  obtain ⟨ua, uc, rfl, hcap, hcm, _, hF, _⟩ := hO.funds
  have hB2 : Below g w w2 := hb1.trans (hb2.mono (by omega))
  obtain ⟨q, hq⟩ : ∃ q, w2.heap.size = q := ⟨_, rfl⟩
  have hgq : g ≤ q := by have := hb2.size; omega
  have HF : Hid (∀ W, Below q w2 W → Funds W ua l) := fun W hW => hF.below (by rw [hq]; exact hW)
  rw [hn.out] at hcap ⊢
  clear hx1 HS hO hb1 hb2 hz1 hF
  replace hB2 := hide hB2
  replace hq := hide hq
  go_wp2_with fail
  go_loopw [3, 11] (fun x i wr => ∃ (j : Nat) (P : List ByteArray), j ≤ n ∧ i = .int .i64 j ∧ OwnS wr q x P ∧ Hid (RisingT P ∧ P.Perm (assetsL (l.take j)) ∧ ∀ y ∈ P, y.size ≤ 1000) ∧ P.length ≤ j ∧ Below q w2 wr) (fun _ i _ => n - (intOf i).toNat)
  case atStart => exact ⟨0, [], by omega, rfl, World.ownsRow_nil _ _ _ _, ⟨List.Pairwise.nil, List.Perm.refl _, fun y hy => absurd hy (by simp)⟩, Nat.le_refl _, Below.refl _ _⟩
  case round =>
    obtain ⟨j, P, hj, rfl, hO, HP, hPl, hst⟩ := hrel
    have hqr : q ≤ wr.heap.size := by have := hst.size; have := hq.out; omega
    obtain ⟨va, vc, rfl⟩ := hO.slice
    by_cases hlt : j < n
    · have j1 : (j : Int) < (n : Int) := by omega
      obtain ⟨b1, o1, rfl, d0, d1, d2⟩ := HF.out wr hst j (by rw [hn.out]; exact hlt)
      have hin := getD_in l noFund (j := j) (by rw [hn.out]; exact hlt)
      have hsucc := takeD_succ l noFund (j := j) (by rw [hn.out]; exact hlt)
      obtain ⟨f, hf⟩ : ∃ f, l.getD j noFund = f := ⟨_, rfl⟩
      rw [hf] at d0 d1 d2 hin hsucc
      have hfz : Hid (f.asset.size ≤ 1000) := hass.out f hin
      have hnext : Hid (assetsL (l.take (j + 1)) = bif inL f.asset (assetsL (l.take j)) then assetsL (l.take j) else assetsL (l.take j) ++ [f.asset]) := by
        show _ = _
        rw [hsucc, assetsL_snoc]
      clear hin hsucc hf
      replace hst := hide hst
      replace hO := hide hO
      have hcell : Hid (∀ W : World, VAt W 37 wr.heap.size #[.string f.acc, .string f.asset, .int .i64 f.amt] → W.cell? ⟨wr.heap.size, 1, none⟩ = some (.string f.asset)) := fun W hW => by rw [hW.cell]; rfl
      go_upto_region 5 with (first
        | ((with_reducible refine wpList_at ?_); refine wpList_allocG (by rfl) 37 (by rfl) 3 _ zeroFund ?_; intro w4 hv4 hz4 hb4)
        | ((with_reducible refine wpList_at ?_); refine wpList_wholeG (by rfl) 37 (.tmp 5) (.tmp 14) (by rfl) wr.heap.size _ #[.string f.acc, .string f.asset, .int .i64 f.amt] (by rfl) (by rfl) hv4 sizeFund (by rfl) (by intro u hu; simp at hu; rcases hu with rfl | rfl | rfl <;> rfl) ?_; intro w5 hv5 hz5 hb5))
      have c1 := hcell.out _ hv5
      have hbl5 : Below wr.heap.size wr w5 := hb4.trans (hb5.below (Nat.le_refl _) (by omega))
      have hst5 : Below q w2 w5 := hst.out.trans (hbl5.mono hqr)
      have hO5 : OwnS w5 q (.slice va P.length vc) P := hO.out.below hbl5
      have hq5 : q ≤ w5.heap.size := by have := hbl5.size; omega
      obtain ⟨va', vc', he, hcap5, hcm5, hS5⟩ := hO5.strs (by omega) (fun i hi => HP.out.2.2 _ (getD_mem _ _ _ hi))
      injection he with he1 _ he2
      subst he1 he2
      have HSr : Hid (Calls Try.prog 46 #[.slice va P.length vc, .string f.asset, .func (.func 47) #[] #[]] w5 fun e w' => ∃ i : Nat, e = .returned (.tuple #[.int .i64 (i : Int), .bool (inL f.asset P)]) ∧ StandsT P f.asset i ∧ Drew w5 w') := searchT_any hS5 (by omega) HP.out.1 f.asset
      have hgv : Hid (g ≤ wr.heap.size) := by have := hgq; show g ≤ _; omega
      obtain ⟨p, hp⟩ : ∃ p, P.length = p := ⟨_, rfl⟩
      rw [hp] at hPl hcap5 HSr hO5 ⊢
      replace hp := hide hp
      replace hv5 := hide hv5
      replace hst5 := hide hst5
      replace hO5 := hide hO5
      clear hcell hv4 hb4 hb5 d0 d1 d2 hS5 hO hbl5 hst
      cases hin : inL f.asset P with
      | true =>
        rw [hin] at HSr
        replace hin := hide hin
        go_wp2_with fail
        refine HSr.out.mono ?_
        rintro e w6 ⟨i, rfl, hS, hd⟩
        replace hS := hide hS
        have hst6 : Below q w2 w6 := hd.below hst5.out
        have hO6 : OwnS w6 q (.slice va P.length vc) P := by rw [hp.out]; exact hO5.out.below hd.on
        rw [hp.out] at hO6
        replace hO6 := hide hO6
        replace hst6 := hide hst6
        clear HSr hd
        go_wp2
        go_roundw
        case rel => exact ⟨j + 1, P, by omega, by go_num, hO6.out, ⟨HP.out.1, by rw [hnext.out, ← perm_in HP.out.2.1, hin.out]; exact HP.out.2.1, HP.out.2.2⟩, by have := hp.out; omega, hst6.out⟩
        case measure => simp [intOf]; omega
      | false =>
        rw [hin] at HSr
        replace hin := hide hin
        go_wp2_with fail
        refine HSr.out.mono ?_
        rintro e w6 ⟨i, rfl, hS, hd⟩
        have hip : i ≤ p := by have := hS.le; have := hp.out; omega
        replace hS := hide hS
        have hst6 : Below q w2 w6 := hd.below hst5.out
        have hO6 : OwnS w6 q (.slice va p vc) P := hO5.out.below hd.on
        have c6 := hd.cell c1
        have hq6 : q ≤ w6.heap.size := by have := hst6.size; have := hq.out; omega
        have hO7 : OwnS (w6.alloc (.cells #[.string f.asset] 9)) q (.slice va p vc) P := World.ownsRow.alloc hO6 _
        have hv7 : (w6.alloc (.cells #[.string f.asset] 9)).heap[w6.heap.size]? = some (.cells #[.string f.asset] 9 (0, 0)) := heap_alloc_new _ _
        have hst7 : Below q w2 (w6.alloc (.cells #[.string f.asset] 9)) := hst6.alloc hq6 _
        have hne7 : (Value.slice va p vc).ownBlock ≠ some w6.heap.size := fun e => by have := (World.ownsRow.lt hO6 _ e).2; omega
        have hq7 : q ≤ (w6.alloc (.cells #[.string f.asset] 9)).heap.size := by simp; omega
        replace hO7 := hide hO7
        replace hst7 := hide hst7
        replace hv7 := hide hv7
        clear HSr hd hO6 hst6
        go_wp2_with fail
        refine (insertT_any hO7.out hq7 i (by have := hp.out; omega) (by have := hp.out; omega) f.asset _ hv7.out hne7).mono ?_
        rintro e w8 ⟨u, rfl, hO8, hb8⟩
        have hst8 : Below q w2 w8 := hst7.out.trans hb8
        replace hO8 := hide hO8
        replace hst8 := hide hst8
        have hP8l : (P.take i ++ [f.asset] ++ P.drop i).length = p + 1 := by have := hp.out; simp; omega
        have hP8 : Hid (RisingT (P.take i ++ [f.asset] ++ P.drop i) ∧ (P.take i ++ [f.asset] ++ P.drop i).Perm (assetsL (l.take (j + 1))) ∧ ∀ y ∈ P.take i ++ [f.asset] ++ P.drop i, y.size ≤ 1000) := by
          refine ⟨hS.out.insert HP.out.1 hin.out, ?_, fun y hy => ?_⟩
          · rw [hnext.out, ← perm_in HP.out.2.1, hin.out]; exact insert_perm HP.out.2.1 _ _
          · rcases List.mem_append.1 hy with hy | hy
            · rcases List.mem_append.1 hy with hy | hy
              · exact HP.out.2.2 y (List.mem_of_mem_take hy)
              · rw [List.mem_singleton.1 hy]; exact hfz.out
            · exact HP.out.2.2 y (List.mem_of_mem_drop hy)
        generalize P.take i ++ [f.asset] ++ P.drop i = P8 at hO8 hP8l hP8
        obtain ⟨ua8, uc8, rfl⟩ := row_slice hO8.out
        rw [hP8l] at hO8 ⊢
        replace hP8l := hide hP8l
        clear hb8
        go_wp2
        go_roundw
        case rel =>
          exact ⟨j + 1, P8, by omega, by go_num, hO8.out, hP8.out, by have := hP8l.out; omega, hst8.out⟩
        case measure => simp [intOf]; omega
    · have j1 : ¬ (j : Int) < (n : Int) := by omega
      have hperm : Hid (P.Perm (assetsL l)) := by have := HP.out.2.1; rw [List.take_of_length_le (by rw [hn.out]; omega)] at this; exact this
      replace hO := hide hO
      go_wp2
      go_ret
      exact ⟨_, rfl, P, hO.out.base hgq, HP.out.1, hperm.out, by omega, HP.out.2.2, hB2.out.trans (hst.mono hgq)⟩

set_option maxRecDepth 10000 in
set_option maxHeartbeats 2000000 in
theorem room_any {w : World} {v : Value} {M : BookM} {k : Nat} (hv : BookV w v M) (hok : BookOk M k) (hk : k ≤ 500) (s : ByteArray) : Calls Try.prog 28 #[v, .string s] w fun e w' => e = .returned (.bool (roomM M s)) ∧ Below w.heap.size w w' := by
  have HS : Hid (∀ W, Below w.heap.size w W → Calls Try.prog 45 #[v] W fun e w' => ∃ u P, e = .returned u ∧ OwnS w' W.heap.size u P ∧ RisingT P ∧ P.Perm (assetsL M.funds) ∧ P.length ≤ 500 ∧ (∀ x ∈ P, x.size ≤ 1000) ∧ Below W.heap.size W w') := fun W hW => assets_any (hv.below hW) hok hk
  obtain ⟨aa, fa, ac, fc, rfl, L⟩ := hv
  obtain ⟨g, hg⟩ : ∃ g, w.heap.size = g := ⟨_, rfl⟩
  rw [hg] at HS ⊢
  obtain ⟨r, hr⟩ : ∃ r, roomM M s = r := ⟨_, rfl⟩
  rw [hr]
  replace hr := hide hr
  clear L hok
  go_enter Try.func28, Try.ntmps28
  go_wp2_with (first
    | ((with_reducible refine wpList_at ?_); refine wpList_boxv (by rfl) 27 (.tmp 0) (by rfl) _ (by rfl) ?_; rw [hg]; intro w1 hu1 hz1 hb1; have hx1 : VAt w1 27 g (bcells aa fa ac fc M) := hu1; clear hu1)
    | ((with_reducible refine wpList_at ?_); refine wpList_loadG (by rfl) 27 (.tmp 2) (by rfl) _ Try.underlying27 g (bcells aa fa ac fc M) (by rfl) hx1 sizeBook ?_))
  refine (HS.out _ hb1).mono ?_
  rintro e w2 ⟨u, P, rfl, hO, hRi, hPe, hPl, hPz, hb2⟩
  have hB2 : Below g w w2 := hb1.trans (hb2.mono (by omega))
  have hs2 : g ≤ w2.heap.size := by have := hB2.size; omega
  obtain ⟨va, vc, rfl, hcap, hcm, hS2⟩ := hO.strs (by omega) (fun i hi => hPz _ (getD_mem _ _ _ hi))
  have HSr : Hid (Calls Try.prog 46 #[.slice va P.length vc, .string s, .func (.func 47) #[] #[]] w2 fun e w' => ∃ i : Nat, e = .returned (.tuple #[.int .i64 (i : Int), .bool (inL s P)]) ∧ StandsT P s i ∧ Drew w2 w') := searchT_any hS2 (by omega) hRi s
  have hfin : Hid (r = (inL s P || decide (P.length < 4))) := by show _ = _; rw [← hr.out]; unfold roomM; rw [perm_in hPe, hPe.length_eq]
  obtain ⟨p, hp⟩ : ∃ p, P.length = p := ⟨_, rfl⟩
  rw [hp] at HSr hfin hPl hcap ⊢
  clear hx1 HS hO hRi hPe hPz hS2 hb1 hb2 hp
  cases hin : inL s P with
  | true =>
    rw [hin] at HSr hfin
    go_wp2_with fail
    refine HSr.out.mono ?_
    rintro e w3 ⟨i, rfl, _, hd⟩
    replace hd := hide hd
    clear HSr
    go_wp2
    go_ret
    exact ⟨ret_bool (by rw [hfin.out]; rfl), hB2.trans (hd.out.on.mono hs2)⟩
  | false =>
    rw [hin] at HSr hfin
    have hd4 : Hid (r = decide ((p : Int) < 4)) := by show _ = _; rw [hfin.out, Bool.false_or, Bool.eq_iff_iff, decide_eq_true_iff, decide_eq_true_iff]; omega
    go_wp2_with fail
    refine HSr.out.mono ?_
    rintro e w3 ⟨i, rfl, _, hd⟩
    replace hd := hide hd
    clear HSr
    go_wp2
    go_ret
    exact ⟨ret_bool (by rw [hd4.out]), hB2.trans (hd.out.on.mono hs2)⟩

set_option maxRecDepth 10000 in
set_option maxHeartbeats 2000000 in
theorem balance_any {w : World} {v : Value} {M : BookM} {k : Nat} (hv : BookV w v M) (hok : BookOk M k) (hk : k ≤ 500) (a s : ByteArray) : Calls Try.prog 11 #[v, .string a, .string s] w fun e w' => e = .returned (.tuple #[.int .i64 (balM M a s), .int .i64 (balE M a s)]) ∧ Below w.heap.size w w' := by
  have hlen := hok.len
  have HA : Hid (∀ W, Below w.heap.size w W → Calls Try.prog 23 #[v, .string a] W fun e w' => e = .returned (.bool (inL a M.accs)) ∧ Below W.heap.size W w') := fun W hW => baccount_any (hv.below hW) a
  have HN : Hid (∀ W, Calls Try.prog 22 #[.string s] W fun e w' => e = .returned (.bool (nameB s)) ∧ w' = W) := fun W => bname_any s W
  obtain ⟨aa, fa, ac, fc, rfl, L⟩ := hv
  obtain ⟨g, hg⟩ : ∃ g, w.heap.size = g := ⟨_, rfl⟩
  rw [hg] at HA ⊢
  have HFi : Hid (∀ W, Below g w W → Calls Try.prog 25 #[.slice fa M.funds.length fc, .string a, .string s] W fun e w' => ∃ i : Nat, e = .returned (.tuple #[.int .i64 (i : Int), .bool (decide (i < M.funds.length ∧ cmpK (M.funds.getD i noFund) a s = 0))]) ∧ Stands M.funds a s i ∧ Below W.heap.size W w') := fun W hW => find_any (L.below (by rw [hg]; exact hW)).funds (by omega) hok.rise a s
  have HF : Hid (∀ W, Below g w W → Funds W fa M.funds) := fun W hW => (L.below (by rw [hg]; exact hW)).funds
  have hrise := hide hok.rise
  obtain ⟨be, hbe⟩ : ∃ be, balE M a s = be := ⟨_, rfl⟩
  obtain ⟨bm, hbm⟩ : ∃ bm, balM M a s = bm := ⟨_, rfl⟩
  rw [hbe, hbm]
  have hbm' : bm = bif decide (be = 0) then amtOf M.funds a s else 0 := by rw [← hbm, ← hbe]; rfl
  have hbe' : be = bif !nameB s then 1 else bif !inL a M.accs then 4 else 0 := by rw [← hbe]; rfl
  replace hbm' := hide hbm'
  replace hbe' := hide hbe'
  clear hok hbe hbm
  go_enter Try.func11, Try.ntmps11
  go_wp2_with ((with_reducible refine wpList_at ?_); refine wpList_boxv (by rfl) 27 (.tmp 0) (by rfl) _ (by rfl) ?_; rw [hg]; intro w1 hu1 hz1 hb1; have hx1 : VAt w1 27 g (bcells aa fa ac fc M) := hu1; clear hu1)
  refine (HN.out _).mono ?_
  rintro e w0 ⟨rfl, hw0⟩
  subst w0
  cases c1 : nameB s with
  | false =>
    rw [c1] at hbe'
    have e1 : Hid (be = 1) := hbe'.out
    have e2 : Hid (bm = 0) := by show _ = _; rw [hbm'.out, e1.out]; rfl
    go_wp2
    go_ret2
    exact ⟨by rw [e1.out, e2.out]; rfl, hb1⟩
  | true =>
    rw [c1] at hbe'
    go_wp2_with ((with_reducible refine wpList_at ?_); refine wpList_loadG (by rfl) 27 (.tmp 3) (by rfl) _ Try.underlying27 g (bcells aa fa ac fc M) (by rfl) hx1 sizeBook ?_)
    refine (HA.out _ hb1).mono ?_
    rintro e w2 ⟨rfl, hb2⟩
    have hB2 : Below g w w2 := hb1.trans (hb2.mono (by omega))
    have hx2 := hx1.on hb2
    have hs2 : g ≤ w2.heap.size := by have := hB2.size; omega
    clear hx1 hb1 hb2 hz1 HA
    cases c2 : inL a M.accs with
    | false =>
      rw [c2] at hbe'
      have e1 : Hid (be = 4) := hbe'.out
      have e2 : Hid (bm = 0) := by show _ = _; rw [hbm'.out, e1.out]; rfl
      go_wp2
      go_ret2
      exact ⟨by rw [e1.out, e2.out]; rfl, hB2⟩
    | true =>
      rw [c2] at hbe'
      have e1 : Hid (be = 0) := hbe'.out
      have e2 : Hid (bm = amtOf M.funds a s) := by show _ = _; rw [hbm'.out, e1.out]; rfl
      obtain ⟨_, _, _, q3, _⟩ := bcells_at hx2
      replace hx2 := hide hx2
      go_wp2_with fail
      refine (HFi.out _ hB2).mono ?_
      rintro e w3 ⟨i, rfl, hS, hb3⟩
      obtain ⟨_, _, _, q3, _⟩ := bcells_at (hx2.out.on hb3)
      have hB3 : Below g w w3 := hB2.trans (hb3.mono hs2)
      have HF3 := HF.out _ hB3
      by_cases c3 : i < M.funds.length ∧ cmpK (M.funds.getD i noFund) a s = 0
      · rw [decide_eq_true c3]
        obtain ⟨b1, o1, rfl, d0, d1, d2⟩ := HF3 i c3.1
        have e3 : Hid (bm = (M.funds.getD i noFund).amt) := by show _ = _; rw [e2.out]; exact (hS.put_old hrise.out c3.1 c3.2 0).1
        obtain ⟨y, hy⟩ : ∃ y, (M.funds.getD i noFund).amt = y := ⟨_, rfl⟩
        rw [hy] at d2 e3
        have hi1 := c3.1
        obtain ⟨n, hn⟩ : ∃ n, M.funds.length = n := ⟨_, rfl⟩
        rw [hn] at q3 hi1 hlen ⊢
        have hi2 : (i : Int) < (n : Int) := by omega
        clear c3 hS hx2 HF HFi HF3 hy hn d0 d1
        go_wp2
        go_ret2
        exact ⟨by rw [e1.out, e3.out]; rfl, hB3⟩
      · rw [decide_eq_false c3]
        have hle := hS.le
        have e3 : Hid (bm = 0) := by show _ = _; rw [e2.out]; exact (hS.put_new hrise.out (by by_cases h : i = M.funds.length; exact .inl h; exact .inr (fun hz => c3 ⟨by omega, hz⟩)) 0).1
        clear c3 hS hx2 HF HFi HF3
        go_wp2
        go_ret2
        exact ⟨by rw [e1.out, e3.out]; rfl, hB3⟩

end Go.Proofs.Ytiepkablapjpmaa
