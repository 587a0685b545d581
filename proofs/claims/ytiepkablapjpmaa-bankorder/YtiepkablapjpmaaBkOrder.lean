/-
  The walk of BankOrder.
-/
import Derived.Test.YtiepkablapjpmaaBkAmt
import Derived.Test.YtiepkablapjpmaaPlace
namespace Go.Proofs.Ytiepkablapjpmaa
open Go.RowKit

def ecadb : ByteArray := ⟨#[101, 99, 97, 100, 98]⟩
def abcde : ByteArray := ⟨#[97, 98, 99, 100, 101]⟩
def gsx : ByteArray := ⟨#[103, 115, 120]⟩
def ec (j : Nat) : ByteArray := ecadb.extract j (j + 1)
def ab (j : Nat) : ByteArray := abcde.extract j (j + 1)
def gs (j : Nat) : ByteArray := gsx.extract j (j + 1)
def orM : Nat → BookM
  | 0 => newM 2
  | j + 1 => openM (orM j) (ec j)
theorem or_ok : ∀ j, BookOk (orM j) 0
  | 0 => new_ok 2
  | j + 1 => open_ok (or_ok j) (ec j)
/-- What is known of the book all the way. -/
structure Orders (M : BookM) (i : Nat) : Prop where
  ok : BookOk M (2 * i)
  number : M.number = 2
  accs : M.accs = [ec 0, ec 1, ec 2, ec 3, ec 4]
  sum : sumL M.funds ≤ 10 * (i : Int)
  ass : ∀ x ∈ assetsL M.funds, x = gs 0 ∨ x = gs 1 ∨ x = gs 2
  nod : (assetsL M.funds).Nodup
theorem assets_mem (l : List FundM) : ∀ x, x ∈ assetsL l ↔ ∃ f ∈ l, f.asset = x := by
  have h : ∀ (l : List FundM) (acc : List ByteArray) x, x ∈ l.foldl (fun acc f => bif inL f.asset acc then acc else acc ++ [f.asset]) acc ↔ x ∈ acc ∨ ∃ f ∈ l, f.asset = x := by
    intro l
    induction l with
    | nil => intro acc x; simp
    | cons f l ih =>
      intro acc x
      rw [List.foldl_cons, ih]
      cases hin : inL f.asset acc with
      | true =>
        have hm := (inL_iff _ _).1 hin
        constructor
        · rintro (h | ⟨f', h1, h2⟩)
          · exact .inl h
          · exact .inr ⟨f', List.mem_cons_of_mem _ h1, h2⟩
        · rintro (h | ⟨f', h1, h2⟩)
          · exact .inl h
          · rcases List.mem_cons.1 h1 with rfl | h1
            · exact .inl (h2 ▸ hm)
            · exact .inr ⟨f', h1, h2⟩
      | false =>
        constructor
        · rintro (h | ⟨f', h1, h2⟩)
          · rcases List.mem_append.1 h with h | h
            · exact .inl h
            · exact .inr ⟨f, List.mem_cons_self .., (List.mem_singleton.1 h).symm⟩
          · exact .inr ⟨f', List.mem_cons_of_mem _ h1, h2⟩
        · rintro (h | ⟨f', h1, h2⟩)
          · exact .inl (List.mem_append.2 (.inl h))
          · rcases List.mem_cons.1 h1 with rfl | h1
            · exact .inl (List.mem_append.2 (.inr (by rw [← h2]; exact List.mem_singleton.2 rfl)))
            · exact .inr ⟨f', h1, h2⟩
  intro x
  unfold assetsL
  rw [h]
  simp
theorem assets_nodup (l : List FundM) : (assetsL l).Nodup := by
  have h : ∀ (l : List FundM) (acc : List ByteArray), acc.Nodup → (l.foldl (fun acc f => bif inL f.asset acc then acc else acc ++ [f.asset]) acc).Nodup := by
    intro l
    induction l with
    | nil => intro acc h; exact h
    | cons f l ih =>
      intro acc ha
      rw [List.foldl_cons]
      refine ih _ ?_
      cases hin : inL f.asset acc with
      | true => exact ha
      | false =>
        have hm : f.asset ∉ acc := fun hm => by rw [(inL_iff _ _).2 hm] at hin; exact Bool.noConfusion hin
        show (acc ++ [f.asset]).Nodup
        rw [List.nodup_append]
        exact ⟨ha, by simp, fun a h1 b h2 e => hm (by rw [List.mem_singleton.1 h2] at e; rw [← e]; exact h1)⟩
  exact h l [] List.nodup_nil
theorem three_len {l : List ByteArray} (hn : l.Nodup) (h : ∀ x ∈ l, x = gs 0 ∨ x = gs 1 ∨ x = gs 2) : l.length ≤ 3 := by
  match l, hn, h with
  | [], _, _ => simp
  | [_], _, _ => simp
  | [_, _], _, _ => simp
  | [_, _, _], _, _ => simp
  | a :: b :: c :: d :: _, hn, h =>
    exfalso
    have ha := h a (by simp)
    have hb := h b (by simp)
    have hc := h c (by simp)
    have hd := h d (by simp)
    simp at hn
    rcases ha with rfl | rfl | rfl <;> rcases hb with rfl | rfl | rfl <;> rcases hc with rfl | rfl | rfl <;> rcases hd with rfl | rfl | rfl <;> simp at hn
theorem orders0 : Orders (orM 5) 0 := ⟨or_ok 5, by kernel_rfl, by kernel_rfl, by decide +kernel, fun x hx => by rw [show assetsL (orM 5).funds = [] by kernel_rfl] at hx; exact absurd hx (by simp), assets_nodup _⟩
theorem ab_in {M : BookM} {i : Nat} (h : Orders M i) {j : Nat} (hj : j < 5) : inL (ab j) M.accs = true := by
  rw [h.accs]
  have : j = 0 ∨ j = 1 ∨ j = 2 ∨ j = 3 ∨ j = 4 := by omega
  rcases this with rfl | rfl | rfl | rfl | rfl <;> decide +kernel
theorem gs_name {j : Nat} (hj : j < 3) : nameB (gs j) = true := by
  have : j = 0 ∨ j = 1 ∨ j = 2 := by omega
  rcases this with rfl | rfl | rfl <;> decide +kernel
theorem gs_three {j : Nat} (hj : j < 3) : gs j = gs 0 ∨ gs j = gs 1 ∨ gs j = gs 2 := by
  have : j = 0 ∨ j = 1 ∨ j = 2 := by omega
  rcases this with rfl | rfl | rfl <;> simp
theorem Orders.bal {M : BookM} {i : Nat} (h : Orders M i) {j k : Nat} (hj : j < 5) (hk : k < 3) : balE M (ab j) (gs k) = 0 ∧ balM M (ab j) (gs k) = amtOf M.funds (ab j) (gs k) := by
  have e : balE M (ab j) (gs k) = 0 := by unfold balE; rw [gs_name hk, ab_in h hj]; rfl
  exact ⟨e, by unfold balM; rw [e]; rfl⟩
theorem Orders.give {M : BookM} {i : Nat} (h : Orders M i) {j k : Nat} (hj : j < 5) (hk : k < 3) {n : Int} (hn : 1 ≤ n ∧ n ≤ 9) (hi : i ≤ 60) : giveE M (ab j) (gs k) n = 0 := by
  have hr : roomM M (gs k) = true := by
    unfold roomM
    rw [decide_eq_true (by have := three_len h.nod h.ass; omega), Bool.or_true]
  have ht := (total_bounds h.ok.pos (gs k)).2.1
  have hs := h.sum
  unfold giveE
  rw [gs_name hk, ab_in h hj, hr, amountB_iff.2 (by omega), decide_eq_false (by omega)]
  rfl
theorem put_asset {M : BookM} {i : Nat} (h : Orders M i) {j k : Nat} (hk : k < 3) (n : Int) : ∀ x ∈ assetsL (putL M.funds (ab j) (gs k) n), x = gs 0 ∨ x = gs 1 ∨ x = gs 2 := by
  intro x hx
  obtain ⟨f, hf, rfl⟩ := (assets_mem _ _).1 hx
  rcases put_mem hf with h1 | ⟨rfl, _⟩
  · exact h.ass _ ((assets_mem _ _).2 ⟨f, h1.1, rfl⟩)
  · exact gs_three hk
theorem Orders.gave {M : BookM} {i : Nat} (h : Orders M i) {j k : Nat} (hj : j < 5) (hk : k < 3) {n : Int} (hn : 1 ≤ n ∧ n ≤ 9) (hi : i ≤ 60) : Orders (giveM M (ab j) (gs k) n) (i + 1) ∧ amtOf (giveM M (ab j) (gs k) n).funds (ab j) (gs k) = amtOf M.funds (ab j) (gs k) + n := by
  have hz := h.give hj hk hn hi
  have hok := give_ok h.ok (ab j) (gs k) n
  have e : giveM M (ab j) (gs k) n = putM M (ab j) (gs k) (amtOf M.funds (ab j) (gs k) + n) := by unfold giveM; rw [hz]; rfl
  rw [e] at hok ⊢
  refine ⟨⟨hok.more (by omega), h.number, h.accs, ?_, put_asset h hk _, assets_nodup _⟩, ?_⟩
  · show sumL (putL M.funds (ab j) (gs k) _) ≤ _
    rw [(put_sums h.ok.rise _ _ _).1]; have := h.sum; omega
  · show amtOf (putL M.funds (ab j) (gs k) _) _ _ = _
    rw [amtOf_put h.ok.rise, if_pos ⟨rfl, rfl⟩]
theorem Orders.took {M : BookM} {i : Nat} (h : Orders M i) {j k : Nat} (hj : j < 5) (hk : k < 3) {n : Int} (hn : n = max (amtOf M.funds (ab j) (gs k)) 1) (hi : i ≤ 60) : Orders (takeM M (ab j) (gs k) n) (i + 1) ∧ amtOf (takeM M (ab j) (gs k) n).funds (ab j) (gs k) = 0 := by
  have hb := amtOf_bounds h.ok.pos (ab j) (gs k)
  have hs := h.sum
  have hok := take_ok h.ok (ab j) (gs k) n
  unfold takeM at *
  by_cases hz : takeE M (ab j) (gs k) n = 0
  · rw [decide_eq_true hz] at hok ⊢
    have hle := (takeE_zero hz).2.2.2
    refine ⟨⟨hok.more (by omega), h.number, h.accs, ?_, put_asset h hk _, assets_nodup _⟩, ?_⟩
    · show sumL (putL M.funds (ab j) (gs k) _) ≤ _
      rw [(put_sums h.ok.rise _ _ _).1]; omega
    · show amtOf (putL M.funds (ab j) (gs k) _) _ _ = _
      rw [amtOf_put h.ok.rise, if_pos ⟨rfl, rfl⟩]; omega
  · rw [decide_eq_false hz]
    have : amtOf M.funds (ab j) (gs k) = 0 := by
      unfold takeE at hz
      rw [gs_name hk, ab_in h hj, amountB_iff.2 (by omega)] at hz
      by_cases hl : amtOf M.funds (ab j) (gs k) < n
      · omega
      · rw [decide_eq_false hl] at hz; exact absurd rfl hz
    exact ⟨⟨h.ok.more (by omega), h.number, h.accs, by show sumL M.funds ≤ _; omega, h.ass, h.nod⟩, this⟩

theorem Orders.gave2 {M : BookM} {i : Nat} (h : Orders M i) {j k : Nat} (hj : j < 5) (hk : k < 3) {n : Int} (hn : 1 ≤ n ∧ n ≤ 9) (hi : i ≤ 60) : Orders (giveM M (ab j) (gs k) n) (i + 1) ∧ balE (giveM M (ab j) (gs k) n) (ab j) (gs k) = 0 ∧ balM (giveM M (ab j) (gs k) n) (ab j) (gs k) = amtOf M.funds (ab j) (gs k) + n := by
  obtain ⟨h1, h2⟩ := h.gave hj hk hn hi
  obtain ⟨h3, h4⟩ := h1.bal hj hk
  exact ⟨h1, h3, h4.trans h2⟩
theorem Orders.took2 {M : BookM} {i : Nat} (h : Orders M i) {j k : Nat} (hj : j < 5) (hk : k < 3) {n : Int} (hn : n = max (amtOf M.funds (ab j) (gs k)) 1) (hi : i ≤ 60) : Orders (takeM M (ab j) (gs k) n) (i + 1) ∧ balE (takeM M (ab j) (gs k) n) (ab j) (gs k) = 0 ∧ balM (takeM M (ab j) (gs k) n) (ab j) (gs k) = 0 := by
  obtain ⟨h1, h2⟩ := h.took hj hk hn hi
  obtain ⟨h3, h4⟩ := h1.bal hj hk
  exact ⟨h1, h3, h4.trans h2⟩
theorem Rising.next {l : List FundM} (h : Rising l) {j : Nat} (hj : j + 1 < l.length) : cmpT (l.getD j noFund).acc (l.getD (j + 1) noFund).acc < 0 ∨ (cmpT (l.getD j noFund).acc (l.getD (j + 1) noFund).acc = 0 ∧ cmpT (l.getD j noFund).asset (l.getD (j + 1) noFund).asset < 0) := by
  have h9 := List.pairwise_iff_getElem.1 h j (j + 1) (by omega) hj (by omega)
  have e1 : l.getD j noFund = l[j] := by rw [List.getD_eq_getElem?_getD, List.getElem?_eq_getElem (by omega)]; rfl
  have e2 : l.getD (j + 1) noFund = l[j + 1] := by rw [List.getD_eq_getElem?_getD, List.getElem?_eq_getElem hj]; rfl
  rw [e1, e2]
  unfold cmpK at h9
  by_cases hz : cmpT l[j].acc l[j + 1].acc = 0
  · rw [if_neg (fun h => h hz)] at h9; exact .inr ⟨hz, h9⟩
  · rw [if_pos hz] at h9; exact .inl h9

set_option maxRecDepth 10000 in
set_option maxHeartbeats 16000000 in
theorem order_any (a : Option Addr) (n c : Nat) (l : List Int) (w : World) (hl : Ints w a n l) : Calls Try.prog 3 #[.slice a n c] w fun e w' => e = .returned (.bool true) ∧ Below w.heap.size w w' := by
  obtain ⟨g, hg⟩ : ∃ g, w.heap.size = g := ⟨_, rfl⟩
  rw [hg]
  have hnm := hl.2.1
  unfold maxLen at hnm
  have HL : Hid (∀ W, Below g w W → Ints W a n l) := fun W hW => hl.below (by rw [hg]; exact hW)
  have HX : ∀ j : Nat, ecadb.extract j (j + 1) = ec j := fun j => rfl
  have HY : ∀ j : Nat, abcde.extract j (j + 1) = ab j := fun j => rfl
  have HZ : ∀ j : Nat, gsx.extract j (j + 1) = gs j := fun j => rfl
  unfold ecadb at HX
  unfold abcde at HY
  unfold gsx at HZ
  clear hl
  go_enter Try.func3, Try.ntmps3
  go_wp2_with fail
  refine (new_any 2 _).mono ?_
  rintro e w1 ⟨u1, rfl, hU1, hb1⟩
  rw [hg] at hb1
  obtain ⟨c1, rfl, f1, hU1⟩ := hU1.five
  obtain ⟨p, hp⟩ : ∃ p, w1.heap.size = p := ⟨_, rfl⟩
  have hgp : g ≤ p := by have := hb1.size; omega
  go_upto_region 2 with (first
    | ((with_reducible refine wpList_at ?_); refine wpList_allocG (by rfl) 27 (by rfl) 5 _ zeroBook ?_; rw [hp]; intro w3 hv3 hz3 hb3)
    | ((with_reducible refine wpList_at ?_); refine wpList_wholeG (by rfl) 27 (.tmp 3) (.tmp 16) (by rfl) p bzero c1 (by rfl) (by rfl) hv3 f1.info f1.size f1.one ?_; intro w4 hv4 hz4 hb4))
  have hU4 : BookV w4 (.agg c1) (newM 2) := (hU1.below (by rw [hp]; exact hb3)).but hv3 noText_z hb4
  have hB4 : Below g w w4 := hb1.trans ((hb3.mono hgp).trans (hb4.below hgp (by omega)))
  clear hU1 hv3 hb3 hb4 hb1 hz3 hz4 hp
  go_wp2
  go_loopw [4] (fun i wr => ∃ (j : Nat) (cs : Array Value), j ≤ 5 ∧ i = .int .i64 j ∧ VAt wr 27 p cs ∧ Five cs ∧ BookV wr (.agg cs) (orM j) ∧ Below g w wr) (fun i _ => 5 - (intOf i).toNat)
  case atStart => exact ⟨0, c1, by omega, rfl, hv4, f1, hU4, hB4⟩
  case round =>
    clear hv4 hU4 hB4 f1
    obtain ⟨j, cs, hj, rfl, hvB, fB, hUB, hBB⟩ := hrel
    by_cases hlt : j < 5
    · have j1 : (j : Int) < 5 := by omega
      have j2 : (0 : Int) ≤ (j : Int) := by omega
      have j3 : (j : Int) + 1 ≤ 5 := by omega
      have j4 : (j : Int) ≤ (j : Int) + 1 := by omega
      have hw1 : IntKind.i64.wrap ((j : Int) + 1) = ((j + 1 : Nat) : Int) := by rw [IntWalk.i64_in _ (by omega)]; omega
      have hXj := HX j
      replace fB := hide fB
      replace hvB := hide hvB
      replace hUB := hide hUB
      replace hBB := hide hBB
      go_upto_region 5 with fail
      replace fB := fB.out
      replace hvB := hvB.out
      replace hUB := hUB.out
      replace hBB := hBB.out
      have hq0 : Below g w wr.drew ∧ VAt wr.drew 27 p cs ∧ BookV wr.drew (.agg cs) (orM j) := ⟨hBB.trans ⟨rfl, rfl, rfl, Nat.le_refl _, fun _ _ => rfl⟩, hvB, hUB.below ⟨rfl, rfl, rfl, Nat.le_refl _, fun _ _ => rfl⟩⟩
      have hRw : Below wr.heap.size wr wr.drew := ⟨rfl, rfl, rfl, Nat.le_refl _, fun _ _ => rfl⟩
      refine wp_region_held_drew (S := fun W => Below g w W) (by kernel_rfl) (hq0.1) (fun hHeld => ?_)
      refine wpAnyH_take (i := 1) (oi := { dst := some 23, op := Op.move (Operand.tmp 4), type := 3, pos := "outright.go:44", after := #[], guard := none }) (v := ?_) rfl (by kernel_rfl) (by kernel_rfl) (by kernel_rfl) (fun _ _ _ h => h) (Or.inl ⟨by rfl, ?_⟩) (by assumption) ?_
      rotate_left
      · intro W hSW; first | (go_simp; done) | (go_simp; with_reducible rfl)
      try simp only [Act.put, List.setIfInBounds_toArray, List.set_cons_zero, List.set_cons_succ]
      refine wpAnyH_take (i := 2) (oi := { dst := some 24, op := Op.move (Operand.tmp 4), type := 3, pos := "outright.go:44", after := #[], guard := none }) (v := ?_) rfl (by kernel_rfl) (by kernel_rfl) (by kernel_rfl) (fun _ _ _ h => h) (Or.inl ⟨by rfl, ?_⟩) (by assumption) ?_
      rotate_left
      · intro W hSW; first | (go_simp; done) | (go_simp; with_reducible rfl)
      try simp only [Act.put, List.setIfInBounds_toArray, List.set_cons_zero, List.set_cons_succ]
      refine wpAnyH_take (i := 3) (oi := { dst := some 25, op := Op.binOp BinOp.add 3 (Operand.tmp 24) (Operand.const (Value.int IntKind.i64 1)) 3, type := 3, pos := "outright.go:44", after := #[{ on := 2, ground := Ground.data }], guard := none }) (v := ?_) rfl (by kernel_rfl) (by kernel_rfl) (by kernel_rfl) (fun _ _ _ h => h) (Or.inl ⟨by rfl, ?_⟩) (by assumption) ?_
      rotate_left
      · intro W hSW; first | (go_simp; done) | (go_simp; with_reducible rfl)
      try simp only [Act.put, List.setIfInBounds_toArray, List.set_cons_zero, List.set_cons_succ]
      refine wpAnyH_take (i := 4) (oi := { dst := some 26, op := Op.slice 9 (Operand.const (Value.string { data := #[101, 99, 97, 100, 98] })) (some (Operand.tmp 23)) (some (Operand.tmp 25)) none, type := 9, pos := "outright.go:44", after := #[{ on := 1, ground := Ground.data }, { on := 3, ground := Ground.data }], guard := none }) (v := .string (ec j)) rfl (by kernel_rfl) (by kernel_rfl) (by kernel_rfl) (fun _ _ _ h => h) (Or.inl ⟨by rfl, ?_⟩) (by assumption) ?_
      · intro W hSW; first | (go_simp; done) | (go_simp; with_reducible rfl)
      try simp only [Act.put, List.setIfInBounds_toArray, List.set_cons_zero, List.set_cons_succ]
      refine wpAnyH_loneE (T := fun u W => u = Value.agg cs ∧ Below g w W ∧ VAt W 27 p cs ∧ BookV W (.agg cs) (orM j)) (i := 0) (oi := { dst := some 22, op := Op.load 27 (Operand.tmp 3), type := 27, pos := "outright.go:44", after := #[], guard := none }) (by kernel_rfl) rfl (fun u W h => h.2.1) ?_ ?_
      · intro K hK
        refine step_loadG (by rfl) 27 (.tmp 3) (by rfl) _ Try.underlying27 p cs (by rfl) hq0.2.1 fB.info ?_
        exact hK.out _ _ ⟨rfl, hq0⟩
      intro ul W9 hql hHeld
      obtain ⟨rfl, hq1⟩ := hql
      clear hq0
      try simp only [Act.put, List.setIfInBounds_toArray, List.set_cons_zero, List.set_cons_succ]
      refine wpAnyH_loneE (T := fun u W => ∃ u1, u = Value.tuple #[u1, .int .i64 (openE (orM j) (ec j))] ∧ Below g w W ∧ VAt W 27 p cs ∧ BookV W u1 (orM (j + 1))) (i := 5) (oi := { dst := some 27, op := Op.call { callee := Callee.value (Operand.func 9), args := #[Operand.tmp 22, Operand.tmp 26], argTypes := #[27, 9] }, type := 30, pos := "outright.go:44", after := #[{ on := 0, ground := Ground.data }, { on := 4, ground := Ground.data }], guard := none }) (by kernel_rfl) rfl (fun u W h => h.choose_spec.2.1) ?_ ?_
      · intro K hK
        go_simp
        refine (open_any hq1.2.2 (or_ok j) (ec j)).mono ?_
        rintro e W2 ⟨u1, rfl, hU1, hb9⟩
        go_wp2_with fail
        exact hK.out _ _ (⟨u1, rfl, hq1.1.trans (hb9.mono (hg ▸ hq1.1.size)), hq1.2.1.on hb9, hU1⟩)
      intro uc W9 hqc hHeld
      clear hq1
      obtain ⟨u1, rfl, hB9, hv9, hU9⟩ := hqc
      obtain ⟨c9, rfl, f9, hU9⟩ := hU9.five
      try simp only [Act.put, List.setIfInBounds_toArray, List.set_cons_zero, List.set_cons_succ]
      refine wpAnyH_take (i := 6) (oi := { dst := some 21, op := Op.move (Operand.tmp 27), type := 30, pos := "outright.go:44", after := #[{ on := 5, ground := Ground.data }], guard := none }) (v := ?_) rfl (by kernel_rfl) (by kernel_rfl) (by kernel_rfl) (fun _ _ _ h => h) (Or.inl ⟨by rfl, ?_⟩) (by assumption) ?_
      rotate_left
      · intro W hSW; first | (go_simp; done) | (go_simp; with_reducible rfl)
      try simp only [Act.put, List.setIfInBounds_toArray, List.set_cons_zero, List.set_cons_succ]
      refine wpAnyH_take (i := 7) (oi := { dst := some 28, op := Op.extract (Operand.tmp 21) 0, type := 27, pos := "outright.go:44", after := #[{ on := 6, ground := Ground.data }], guard := none }) (v := ?_) rfl (by kernel_rfl) (by kernel_rfl) (by kernel_rfl) (fun _ _ _ h => h) (Or.inl ⟨by rfl, ?_⟩) (by assumption) ?_
      rotate_left
      · intro W hSW; first | (go_simp; done) | (go_simp; with_reducible rfl)
      try simp only [Act.put, List.setIfInBounds_toArray, List.set_cons_zero, List.set_cons_succ]
      refine wpAnyH_take (i := 8) (oi := { dst := some 29, op := Op.extract (Operand.tmp 21) 1, type := 29, pos := "outright.go:44", after := #[{ on := 6, ground := Ground.data }, { on := 9, ground := Ground.gcOnly Departure.lateStores }], guard := none }) (v := ?_) rfl (by kernel_rfl) (by kernel_rfl) (by kernel_rfl) (fun _ _ _ h => h) (Or.inl ⟨by rfl, ?_⟩) (by assumption) ?_
      rotate_left
      · intro W hSW; first | (go_simp; done) | (go_simp; with_reducible rfl)
      try simp only [Act.put, List.setIfInBounds_toArray, List.set_cons_zero, List.set_cons_succ]
      refine wpAnyH_loneE (T := fun _ W => Below g w W ∧ VAt W 27 p c9 ∧ BookV W (.agg c9) (orM (j + 1))) (i := 9) (oi := { dst := none, op := Op.store 27 (Operand.tmp 3) (Operand.tmp 28), type := 0, pos := "outright.go:44", after := #[{ on := 7, ground := Ground.data }, { on := 5, ground := Ground.chain }, { on := 0, ground := Ground.phase }, { on := 1, ground := Ground.phase }, { on := 2, ground := Ground.phase }, { on := 3, ground := Ground.phase }, { on := 4, ground := Ground.phase }, { on := 5, ground := Ground.phase }, { on := 6, ground := Ground.phase }, { on := 7, ground := Ground.phase }, { on := 8, ground := Ground.textOnly Departure.lateStores }], guard := none }) (by kernel_rfl) rfl (fun u W h => h.1) ?_ ?_
      · intro K hK
        refine step_wholeG (by rfl) 27 (.tmp 3) (.tmp 28) (by rfl) p cs c9 (by rfl) (by rfl) hv9 f9.info (by rw [f9.size, fB.size]) f9.one ?_
        intro w8 hv8 hz8 hb8
        exact hK.out undef _ ⟨hB9.trans (hb8.below hgp (hg ▸ hB9.size)), hv8, hU9.but hv9 fB.noText hb8⟩
      intro us W9 hqs hHeld
      clear hB9 hv9 hU9
      obtain ⟨hB9, hv9, hU9⟩ := hqs
      try simp only [Act.put]
      refine wpAnyH_done (by kernel_rfl) ?_ _
      clear hvB hUB hBB fB hHeld
      go_wp2
      go_roundw
      case rel => exact ⟨j + 1, c9, by omega, by go_num, hv9, f9, hU9, hB9⟩
      case measure => simp [intOf]; omega
    · have hj5 : j = 5 := by omega
      rw [hj5] at hUB
      have j1 : ¬ (j : Int) < 5 := by omega
      replace hj5 := hide hj5
      have HK := hide orders0
      generalize orM 5 = M at hUB HK
      go_wp2
      go_loopw [5] (fun i wr => ∃ (j : Nat) (cs : Array Value) (M : BookM), j ≤ n ∧ j ≤ 60 ∧ i = .int .i64 j ∧ VAt wr 27 p cs ∧ Five cs ∧ BookV wr (.agg cs) M ∧ Hid (Orders M j) ∧ Below g w wr) (fun i _ => n - (intOf i).toNat)
      case atStart => exact ⟨0, cs, M, by omega, by omega, rfl, hvB, fB, hUB, HK, hBB⟩
      case round =>
        clear hvB fB hUB HK hBB hj hlt hj5 j1
        obtain ⟨j0, hj0⟩ : ∃ j0, j0 = j := ⟨_, rfl⟩
        clear hj0
        obtain ⟨j, cs, M, hj, hj100, rfl, hvB, fB, hUB, HK, hBB⟩ := hrel
        have hend : (j < n ∧ j < 60) ∨ ¬ j < n ∨ (j < n ∧ j = 60) := by omega
        rcases hend with ⟨h1, h2⟩ | h1 | ⟨h1, h2⟩
        · have j1 : (j : Int) < (n : Int) := by omega
          have j2 : (j : Int) < 60 := by omega
          have hd : decide ((j : Int) < (n : Int)) = true := decide_eq_true j1
          obtain ⟨b1, o1, rfl, d1⟩ := (HL.out wr hBB).2.2.2 j h1
          obtain ⟨k, hk, HP⟩ := place_ex (l.getD j 0) 1048576 (by decide) (by decide)
          obtain ⟨v, hv⟩ : ∃ v, l.getD j 0 = v := ⟨_, rfl⟩
          rw [hv] at d1 HP
          replace HP := hide HP
          clear hv
          obtain ⟨r1, hr1, hr1'⟩ : ∃ r1 : Nat, (k : Int) % 5 = (r1 : Int) ∧ r1 < 5 := ⟨k % 5, by omega, by omega⟩
          obtain ⟨k4, hk4⟩ : ∃ k4 : Nat, (k : Int) / 5 = (k4 : Int) := ⟨k / 5, by omega⟩
          obtain ⟨r2, hr2, hr2'⟩ : ∃ r2 : Nat, (k4 : Int) % 3 = (r2 : Int) ∧ r2 < 3 := ⟨k4 % 3, by omega, by omega⟩
          obtain ⟨k16, hk16⟩ : ∃ k16 : Nat, (k : Int) / 15 = (k16 : Int) := ⟨k / 15, by omega⟩
          obtain ⟨r3, hr3, hr3'⟩ : ∃ r3 : Nat, (k16 : Int) % 9 = (r3 : Int) ∧ r3 < 9 := ⟨k16 % 9, by omega, by omega⟩
          obtain ⟨k200, hk200⟩ : ∃ k200 : Nat, (k : Int) / 200 = (k200 : Int) := ⟨k / 200, by omega⟩
          obtain ⟨r4, hr4, hr4'⟩ : ∃ r4 : Nat, (k200 : Int) % 3 = (r4 : Int) ∧ r4 < 3 := ⟨k200 % 3, by omega, by omega⟩
          replace hvB := hide hvB
          replace hUB := hide hUB
          replace hBB := hide hBB
          replace fB := hide fB
          have hX1 := HY r1
          have hX2 := HZ r2
          go_wp2_with fail
          refine (HP.out _).mono ?_
          rintro e w0 ⟨rfl, hw0⟩
          subst w0
          go_wp2
          go_quiet (fail)
          have hdr : Below wr.heap.size wr (wr.drewN nq) := below_drewN (Below.refl _ _) nq
          replace hvB := hvB.out.on hdr
          replace hUB := hUB.out.below hdr
          replace hBB := hBB.out.trans (hdr.mono (hg ▸ hBB.out.size))
          replace fB := fB.out
          generalize wr.drewN nq = w3 at hvB hUB hBB ⊢
          clear hdr hX1 hX2 HP hr1 hr2 hr3 hk4 hk16 d1 hd j1 j2
          obtain ⟨m, hm⟩ : ∃ m : Int, 1 + (r3 : Int) = m := ⟨_, rfl⟩
          rw [hm]
          have hm1 : 1 ≤ m ∧ m ≤ 9 := by omega
          clear hm hr3'
          have hb5 := HK.out.bal hr1' hr2'
          have HBa := hide (balance_any hUB HK.out.ok (by omega) (ab r1) (gs r2))
          have hab := amtOf_bounds HK.out.ok.pos (ab r1) (gs r2)
          have hsm := HK.out.sum
          have hx0 : 0 ≤ amtOf M.funds (ab r1) (gs r2) := hab.1
          have hx1 : amtOf M.funds (ab r1) (gs r2) ≤ 600 := by omega
          rw [hb5.1, hb5.2] at HBa
          have HG := hide (HK.out.gave2 hr1' hr2' hm1 (by omega))
          have HT := hide (fun n hn => HK.out.took2 (n := n) hr1' hr2' hn (by omega))
          have hmok := hide HK.out.ok
          have hgz := hide (HK.out.give hr1' hr2' hm1 (by omega))
          generalize ab r1 = y1 at HBa HG HT hx0 hx1 hgz ⊢
          generalize gs r2 = y2 at HBa HG HT hx0 hx1 hgz ⊢
          clear hb5 hab hsm hr1' hr2' HK
          obtain ⟨x, hx⟩ : ∃ x, amtOf M.funds y1 y2 = x := ⟨_, rfl⟩
          rw [hx] at HBa HG HT hx0 hx1
          clear hx
          go_wp2_with ((with_reducible refine wpList_at ?_); refine wpList_loadG (by rfl) 27 (.tmp 3) (by rfl) _ Try.underlying27 p cs (by rfl) hvB fB.info ?_)
          refine HBa.out.mono ?_
          rintro e w4 ⟨rfl, hb4⟩
          have hv4 := hvB.on hb4
          have hU4 := hUB.below hb4
          have hB4 : Below g w w4 := hBB.trans (hb4.mono (hg ▸ hBB.size))
          clear hvB hUB hBB hb4 HBa
          have hfin : Hid (w.heap.size = g) := hg
          have hcase : (decide (r4 = 0) = true ∧ (r4 : Int) = 0) ∨ (decide (r4 = 0) = false ∧ ¬ (r4 : Int) = 0) := by
            by_cases h : r4 = 0
            · exact .inl ⟨decide_eq_true h, by omega⟩
            · exact .inr ⟨decide_eq_false h, by omega⟩
          obtain ⟨mx, hmx⟩ : ∃ mx, max x 1 = mx := ⟨_, rfl⟩
          have hmx' : (if x < 1 then 1 else x) = mx := by rw [← hmx]; split <;> omega
          have HTk := hide (fun W (hW : BookV W (.agg cs) M) => take_any hW hmok.out (by omega) y1 y2 mx)
          have HGv := hide (fun W (hW : BookV W (.agg cs) M) => give_any hW hmok.out (by omega) y1 y2 m)
          have HT2 := hide (HT.out mx hmx.symm)
          clear HT hmx
          rcases hcase with ⟨_, hc⟩ | ⟨_, hc⟩
          · have t4 : ((r4 : Int) == 0) = true := by rw [hc]; rfl
            have t7 : ((r4 : Int) != 0) = false := by rw [hc]; rfl
            replace hc := hide hc
            go_wp2_with ((with_reducible refine wpList_at ?_); refine wpList_loadG (by rfl) 27 (.tmp 3) (by rfl) _ Try.underlying27 p cs (by rfl) hv4 fB.info ?_)
            refine (HTk.out _ hU4).mono ?_
            rintro e w5 ⟨u5, rfl, hU5, hb5⟩
            have hv5 := hv4.on hb5
            have hB5 : Below g w w5 := hB4.trans (hb5.mono (hg ▸ hB4.size))
            obtain ⟨c5, rfl, f5, hU5⟩ := hU5.five
            have HK2 := hide HT2.out
            clear hv4 hU4 hB4 hb5 HTk HGv
            generalize takeM M y1 y2 mx = M2 at hU5 HK2
            go_upto_region 16 with ((with_reducible refine wpList_at ?_); refine wpList_wholeG (by rfl) 27 (.tmp 3) (.tmp 81) (by rfl) p cs c5 (by rfl) (by rfl) hv5 f5.info (by rw [f5.size, fB.size]) f5.one ?_; intro w6 hv6 hz6 hb6)
            have hU6 : BookV w6 (.agg c5) M2 := hU5.but hv5 fB.noText hb6
            have hB6 : Below g w w6 := hB5.trans (hb6.below hgp (hg ▸ hB5.size))
            clear hU5 hv5 hB5 hb6 hz6 fB
            have HB2 := hide (balance_any hU6 HK2.out.1.ok (by omega) y1 y2)
            rw [HK2.out.2.1, HK2.out.2.2] at HB2
            have HK3 := hide HK2.out.1
            clear HK2
            go_wp2_with ((with_reducible refine wpList_at ?_); refine wpList_loadG (by rfl) 27 (.tmp 3) (by rfl) _ Try.underlying27 p c5 (by rfl) hv6 f5.info ?_)
            refine HB2.out.mono ?_
            rintro e w7 ⟨rfl, hb7⟩
            have hv7 := hv6.on hb7
            have hU7 := hU6.below hb7
            have hB7 : Below g w w7 := hB6.trans (hb7.mono (hg ▸ hB6.size))
            clear hv6 hU6 hB6 hb7 HB2
            have hxx : x = 0 ∨ ((0 : Int) != x) = true := by
              by_cases h : x = 0
              · exact .inl h
              · exact .inr (by rw [bne_iff_ne]; exact fun e => h e.symm)
            clear hmx' HT2 HG hgz hmok
            rcases hxx with rfl | hxx
            all_goals
              obtain ⟨aa, fa, ac, fc, _, _, q3, L⟩ := hU7.reads hv7
              obtain ⟨z, hz⟩ : ∃ z, w7.heap.size = z := ⟨_, rfl⟩
              have hpz : p < z := by rw [← hz]; exact hv7.lt
              have hgz : g ≤ z := by omega
              have HF : Hid (∀ W, Below z w7 W → Funds W fa M2.funds ∧ W.cell? ⟨p, 3, none⟩ = some (.slice fa M2.funds.length fc)) := fun W hW => by
                have hW' : Below w7.heap.size w7 W := by rw [hz]; exact hW
                exact ⟨L.funds.below hW', cell_on hW' q3⟩
              have hpos := hide HK3.out.ok.pos
              have hris := hide HK3.out.ok.rise
              have hlen7 := HK3.out.ok.len
              obtain ⟨fl, hfl⟩ : ∃ fl, M2.funds = fl := ⟨_, rfl⟩
              rw [hfl] at HF hpos hris hlen7 q3
              obtain ⟨nf, hnf⟩ : ∃ nf, fl.length = nf := ⟨_, rfl⟩
              rw [hnf] at HF hlen7 q3
              replace hnf := hide hnf
              replace hz := hide hz
              clear hfl L
              replace hv7 := hide hv7
              replace hU7 := hide hU7
              replace hB7 := hide hB7
              go_wp2
              go_loopw [14] (fun i wr => ∃ t : Nat, t ≤ nf ∧ i = .int .i64 t ∧ Below z w7 wr) (fun i _ => nf - (intOf i).toNat)
              case atStart => exact ⟨0, by omega, rfl, Below.refl _ _⟩
              case round =>
               as_aux_lemma =>
                clear q3
                obtain ⟨t, ht, rfl, hst⟩ := hrel
                have hzr : z ≤ wr.heap.size := by have := hst.size; have := hz.out; omega
                obtain ⟨hFw, q3⟩ := HF.out _ hst
                by_cases hlt : t < nf
                · have i1 : (t : Int) < (nf : Int) := by omega
                  obtain ⟨b2, o2, rfl, d0, d1, d2⟩ := hFw t (by rw [hnf.out]; exact hlt)
                  have hin := getD_in fl noFund (j := t) (by rw [hnf.out]; exact hlt)
                  have hy0 : 1 ≤ (fl.getD t noFund).amt := hpos.out _ hin
                  have hlt1 : decide ((fl.getD t noFund).amt < 1) = false := decide_eq_false (by omega)
                  have hprev : t = 0 ∨ ∃ t1, t = t1 + 1 := by cases t with
                    | zero => exact .inl rfl
                    | succ t1 => exact .inr ⟨t1, rfl⟩
                  have hnext := fun t1 (e : t = t1 + 1) => hris.out.next (j := t1) (by rw [hnf.out]; omega)
                  have hpre : ∀ t1, t = t1 + 1 → FundAt wr b2 (o2 + t1 * 3) (fl.getD t1 noFund) := fun t1 e => hFw.get t1 (by rw [hnf.out]; omega)
                  obtain ⟨f, hf⟩ : ∃ f, fl.getD t noFund = f := ⟨_, rfl⟩
                  rw [hf] at d0 d1 d2 hlt1
                  replace hf := hide hf
                  have hnext := hide hnext
                  have hpre := hide hpre
                  clear hin hy0 hFw
                  have hcell : Hid (∀ W : World, VAt W 37 wr.heap.size #[.string f.acc, .string f.asset, .int .i64 f.amt] → W.cell? ⟨wr.heap.size, 0, none⟩ = some (.string f.acc) ∧ W.cell? ⟨wr.heap.size, 1, none⟩ = some (.string f.asset) ∧ W.cell? ⟨wr.heap.size, 2, none⟩ = some (.int .i64 f.amt)) := fun W hW => ⟨by rw [hW.cell]; rfl, by rw [hW.cell]; rfl, by rw [hW.cell]; rfl⟩
                  go_upto_region 23 with (first
                    | ((with_reducible refine wpList_at ?_); refine wpList_allocG (by rfl) 37 (by rfl) 3 _ zeroFund ?_; intro w8 hv8 hz8 hb8)
                    | ((with_reducible refine wpList_at ?_); refine wpList_wholeG (by rfl) 37 (.tmp 15) (.tmp 131) (by rfl) wr.heap.size _ #[.string f.acc, .string f.asset, .int .i64 f.amt] (by rfl) (by rfl) hv8 sizeFund (by rfl) (by intro u hu; simp at hu; rcases hu with rfl | rfl | rfl <;> rfl) ?_; intro w9 hv9 hz9 hb9))
                  obtain ⟨c0, c1', c2⟩ := hcell.out _ hv9
                  have hbl9 : Below wr.heap.size wr w9 := hb8.trans (hb9.below (Nat.le_refl _) (by omega))
                  have hst9 : Below z w7 w9 := hst.trans (hbl9.mono hzr)
                  have q9 := cell_on hbl9 q3
                  have hpre9 := hide (fun t1 e => (hpre.out t1 e).below hbl9)
                  obtain ⟨v9, hv9e⟩ : ∃ v9, wr.heap.size = v9 := ⟨_, rfl⟩
                  rw [hv9e] at c0 c1' c2 ⊢
                  clear hcell hv8 hv9 hb8 hb9 d0 d1 d2 hst q3 hpre hbl9 hz8 hz9 hv9e
                  replace hst9 := hide hst9
                  rcases hprev with h0 | ⟨t1, h1⟩
                  · subst h0
                    have hRw : Below w9.heap.size w9 w9.drew := ⟨rfl, rfl, rfl, Nat.le_refl _, fun _ _ => rfl⟩
                    refine wp_region_held_drew (S := fun W => Below w9.heap.size w9 W) (by kernel_rfl) hRw (fun hHeld => ?_)
                    refine wpAnyH_take (i := 0) (oi := { dst := some 132, op := Op.fieldAddr 37 (Operand.tmp 15) 2, type := 0, pos := "outright.go:61", after := #[], guard := none }) (v := ?_) rfl (by kernel_rfl) (by kernel_rfl) (by kernel_rfl) (fun _ _ _ h => h) (Or.inl ⟨by rfl, ?_⟩) (by assumption) ?_
                    rotate_left
                    · intro W hSW; first | (go_simp; done) | (go_simp; with_reducible rfl)
                    try simp only [Act.put, List.setIfInBounds_toArray, List.set_cons_zero, List.set_cons_succ]
                    refine wpAnyH_take (i := 1) (oi := { dst := some 133, op := Op.load 3 (Operand.tmp 132), type := 3, pos := "outright.go:61", after := #[{ on := 0, ground := Ground.data }], guard := none }) (v := ?_) rfl (by kernel_rfl) (by kernel_rfl) (by kernel_rfl) (fun _ _ _ h => h) (Or.inl ⟨by rfl, ?_⟩) (by assumption) ?_
                    rotate_left
                    · intro W hSW; have z0 := cell_on hSW c0; have z1 := cell_on hSW c1'; have z2 := cell_on hSW c2; have z3 := cell_on hSW q9; first | (go_simp; done) | (go_simp; with_reducible rfl)
                    try simp only [Act.put, List.setIfInBounds_toArray, List.set_cons_zero, List.set_cons_succ]
                    refine wpAnyH_take (i := 2) (oi := { dst := some 134, op := Op.binOp BinOp.lss 3 (Operand.tmp 133) (Operand.const (Value.int IntKind.i64 1)) 3, type := 4, pos := "outright.go:61", after := #[{ on := 1, ground := Ground.data }], guard := none }) (v := .bool false) rfl (by kernel_rfl) (by kernel_rfl) (by kernel_rfl) (fun _ _ _ h => h) (Or.inl ⟨by rfl, ?_⟩) (by assumption) ?_
                    · intro W hSW; first | (go_simp; done) | (go_simp; with_reducible rfl)
                    try simp only [Act.put, List.setIfInBounds_toArray, List.set_cons_zero, List.set_cons_succ]
                    refine wpAnyH_take (i := 3) (oi := { dst := some 135, op := Op.move (Operand.tmp 134), type := 4, pos := "outright.go:61", after := #[{ on := 2, ground := Ground.data }], guard := none }) (v := ?_) rfl (by kernel_rfl) (by kernel_rfl) (by kernel_rfl) (fun _ _ _ h => h) (Or.inl ⟨by rfl, ?_⟩) (by assumption) ?_
                    rotate_left
                    · intro W hSW; first | (go_simp; done) | (go_simp; with_reducible rfl)
                    try simp only [Act.put, List.setIfInBounds_toArray, List.set_cons_zero, List.set_cons_succ]
                    refine wpAnyH_take (i := 4) (oi := { dst := some 136, op := Op.move (Operand.tmp 14), type := 3, pos := "outright.go:61", after := #[{ on := 3, ground := Ground.guard }], guard := some (3, false) }) (v := ?_) rfl (by kernel_rfl) (by kernel_rfl) (by kernel_rfl) (fun _ _ _ h => h) (Or.inl ⟨by rfl, ?_⟩) (by assumption) ?_
                    rotate_left
                    · intro W hSW; first | (go_simp; done) | (go_simp; with_reducible rfl)
                    try simp only [Act.put, List.setIfInBounds_toArray, List.set_cons_zero, List.set_cons_succ]
                    refine wpAnyH_take (i := 5) (oi := { dst := some 137, op := Op.binOp BinOp.gtr 3 (Operand.tmp 136) (Operand.const (Value.int IntKind.i64 0)) 3, type := 4, pos := "outright.go:61", after := #[{ on := 4, ground := Ground.data }, { on := 3, ground := Ground.guard }], guard := some (3, false) }) (v := .bool false) rfl (by kernel_rfl) (by kernel_rfl) (by kernel_rfl) (fun _ _ _ h => h) (Or.inl ⟨by rfl, ?_⟩) (by assumption) ?_
                    · intro W hSW; first | (go_simp; done) | (go_simp; with_reducible rfl)
                    try simp only [Act.put, List.setIfInBounds_toArray, List.set_cons_zero, List.set_cons_succ]
                    refine wpAnyH_take (i := 6) (oi := { dst := some 138, op := Op.move (Operand.tmp 137), type := 4, pos := "outright.go:61", after := #[{ on := 5, ground := Ground.data }, { on := 3, ground := Ground.chain }, { on := 3, ground := Ground.guard }], guard := some (3, false) }) (v := ?_) rfl (by kernel_rfl) (by kernel_rfl) (by kernel_rfl) (fun _ _ _ h => h) (Or.inl ⟨by rfl, ?_⟩) (by assumption) ?_
                    rotate_left
                    · intro W hSW; first | (go_simp; done) | (go_simp; with_reducible rfl)
                    try simp only [Act.put, List.setIfInBounds_toArray, List.set_cons_zero, List.set_cons_succ]
                    refine wpAnyH_take (i := 7) (oi := { dst := some 139, op := Op.fieldAddr 27 (Operand.tmp 3) 3, type := 0, pos := "outright.go:61", after := #[{ on := 6, ground := Ground.guard }], guard := some (6, true) }) (v := undef) rfl (by kernel_rfl) (by kernel_rfl) (by kernel_rfl) (fun _ _ _ h => h) (Or.inr ⟨by rfl, rfl⟩) (by assumption) ?_
                    try simp only [Act.put, List.setIfInBounds_toArray, List.set_cons_zero, List.set_cons_succ]
                    refine wpAnyH_take (i := 8) (oi := { dst := some 140, op := Op.load 24 (Operand.tmp 139), type := 24, pos := "outright.go:61", after := #[{ on := 7, ground := Ground.data }, { on := 6, ground := Ground.guard }], guard := some (6, true) }) (v := undef) rfl (by kernel_rfl) (by kernel_rfl) (by kernel_rfl) (fun _ _ _ h => h) (Or.inr ⟨by rfl, rfl⟩) (by assumption) ?_
                    try simp only [Act.put, List.setIfInBounds_toArray, List.set_cons_zero, List.set_cons_succ]
                    refine wpAnyH_take (i := 9) (oi := { dst := some 141, op := Op.move (Operand.tmp 14), type := 3, pos := "outright.go:61", after := #[{ on := 6, ground := Ground.guard }], guard := some (6, true) }) (v := undef) rfl (by kernel_rfl) (by kernel_rfl) (by kernel_rfl) (fun _ _ _ h => h) (Or.inr ⟨by rfl, rfl⟩) (by assumption) ?_
                    try simp only [Act.put, List.setIfInBounds_toArray, List.set_cons_zero, List.set_cons_succ]
                    refine wpAnyH_take (i := 10) (oi := { dst := some 142, op := Op.binOp BinOp.sub 3 (Operand.tmp 141) (Operand.const (Value.int IntKind.i64 1)) 3, type := 3, pos := "outright.go:61", after := #[{ on := 9, ground := Ground.data }, { on := 6, ground := Ground.guard }], guard := some (6, true) }) (v := undef) rfl (by kernel_rfl) (by kernel_rfl) (by kernel_rfl) (fun _ _ _ h => h) (Or.inr ⟨by rfl, rfl⟩) (by assumption) ?_
                    try simp only [Act.put, List.setIfInBounds_toArray, List.set_cons_zero, List.set_cons_succ]
                    refine wpAnyH_take (i := 11) (oi := { dst := some 143, op := Op.indexAddr 24 (Operand.tmp 140) (Operand.tmp 142), type := 0, pos := "outright.go:61", after := #[{ on := 8, ground := Ground.data }, { on := 10, ground := Ground.data }, { on := 6, ground := Ground.guard }], guard := some (6, true) }) (v := undef) rfl (by kernel_rfl) (by kernel_rfl) (by kernel_rfl) (fun _ _ _ h => h) (Or.inr ⟨by rfl, rfl⟩) (by assumption) ?_
                    try simp only [Act.put, List.setIfInBounds_toArray, List.set_cons_zero, List.set_cons_succ]
                    refine wpAnyH_take (i := 12) (oi := { dst := some 144, op := Op.fieldAddr 37 (Operand.tmp 143) 0, type := 0, pos := "outright.go:61", after := #[{ on := 11, ground := Ground.data }, { on := 6, ground := Ground.guard }], guard := some (6, true) }) (v := undef) rfl (by kernel_rfl) (by kernel_rfl) (by kernel_rfl) (fun _ _ _ h => h) (Or.inr ⟨by rfl, rfl⟩) (by assumption) ?_
                    try simp only [Act.put, List.setIfInBounds_toArray, List.set_cons_zero, List.set_cons_succ]
                    refine wpAnyH_take (i := 13) (oi := { dst := some 145, op := Op.load 9 (Operand.tmp 144), type := 9, pos := "outright.go:61", after := #[{ on := 12, ground := Ground.data }, { on := 6, ground := Ground.guard }], guard := some (6, true) }) (v := undef) rfl (by kernel_rfl) (by kernel_rfl) (by kernel_rfl) (fun _ _ _ h => h) (Or.inr ⟨by rfl, rfl⟩) (by assumption) ?_
                    try simp only [Act.put, List.setIfInBounds_toArray, List.set_cons_zero, List.set_cons_succ]
                    refine wpAnyH_take (i := 14) (oi := { dst := some 146, op := Op.fieldAddr 37 (Operand.tmp 15) 0, type := 0, pos := "outright.go:61", after := #[{ on := 6, ground := Ground.guard }], guard := some (6, true) }) (v := undef) rfl (by kernel_rfl) (by kernel_rfl) (by kernel_rfl) (fun _ _ _ h => h) (Or.inr ⟨by rfl, rfl⟩) (by assumption) ?_
                    try simp only [Act.put, List.setIfInBounds_toArray, List.set_cons_zero, List.set_cons_succ]
                    refine wpAnyH_take (i := 15) (oi := { dst := some 147, op := Op.load 9 (Operand.tmp 146), type := 9, pos := "outright.go:61", after := #[{ on := 14, ground := Ground.data }, { on := 6, ground := Ground.guard }], guard := some (6, true) }) (v := undef) rfl (by kernel_rfl) (by kernel_rfl) (by kernel_rfl) (fun _ _ _ h => h) (Or.inr ⟨by rfl, rfl⟩) (by assumption) ?_
                    try simp only [Act.put, List.setIfInBounds_toArray, List.set_cons_zero, List.set_cons_succ]
                    refine wpAnyH_take (i := 16) (oi := { dst := some 148, op := Op.binOp BinOp.gtr 9 (Operand.tmp 145) (Operand.tmp 147) 9, type := 4, pos := "outright.go:61", after := #[{ on := 13, ground := Ground.data }, { on := 15, ground := Ground.data }, { on := 6, ground := Ground.guard }], guard := some (6, true) }) (v := undef) rfl (by kernel_rfl) (by kernel_rfl) (by kernel_rfl) (fun _ _ _ h => h) (Or.inr ⟨by rfl, rfl⟩) (by assumption) ?_
                    try simp only [Act.put, List.setIfInBounds_toArray, List.set_cons_zero, List.set_cons_succ]
                    refine wpAnyH_take (i := 17) (oi := { dst := some 149, op := Op.move (Operand.tmp 148), type := 4, pos := "outright.go:61", after := #[{ on := 16, ground := Ground.data }, { on := 6, ground := Ground.chain }, { on := 6, ground := Ground.guard }], guard := some (6, true) }) (v := undef) rfl (by kernel_rfl) (by kernel_rfl) (by kernel_rfl) (fun _ _ _ h => h) (Or.inr ⟨by rfl, rfl⟩) (by assumption) ?_
                    try simp only [Act.put, List.setIfInBounds_toArray, List.set_cons_zero, List.set_cons_succ]
                    refine wpAnyH_take (i := 18) (oi := { dst := some 150, op := Op.fieldAddr 27 (Operand.tmp 3) 3, type := 0, pos := "outright.go:61", after := #[{ on := 17, ground := Ground.guard }], guard := some (17, false) }) (v := undef) rfl (by kernel_rfl) (by kernel_rfl) (by kernel_rfl) (fun _ _ _ h => h) (Or.inr ⟨by rfl, rfl⟩) (by assumption) ?_
                    try simp only [Act.put, List.setIfInBounds_toArray, List.set_cons_zero, List.set_cons_succ]
                    refine wpAnyH_take (i := 19) (oi := { dst := some 151, op := Op.load 24 (Operand.tmp 150), type := 24, pos := "outright.go:61", after := #[{ on := 18, ground := Ground.data }, { on := 17, ground := Ground.guard }], guard := some (17, false) }) (v := undef) rfl (by kernel_rfl) (by kernel_rfl) (by kernel_rfl) (fun _ _ _ h => h) (Or.inr ⟨by rfl, rfl⟩) (by assumption) ?_
                    try simp only [Act.put, List.setIfInBounds_toArray, List.set_cons_zero, List.set_cons_succ]
                    refine wpAnyH_take (i := 20) (oi := { dst := some 152, op := Op.move (Operand.tmp 14), type := 3, pos := "outright.go:61", after := #[{ on := 17, ground := Ground.guard }], guard := some (17, false) }) (v := undef) rfl (by kernel_rfl) (by kernel_rfl) (by kernel_rfl) (fun _ _ _ h => h) (Or.inr ⟨by rfl, rfl⟩) (by assumption) ?_
                    try simp only [Act.put, List.setIfInBounds_toArray, List.set_cons_zero, List.set_cons_succ]
                    refine wpAnyH_take (i := 21) (oi := { dst := some 153, op := Op.binOp BinOp.sub 3 (Operand.tmp 152) (Operand.const (Value.int IntKind.i64 1)) 3, type := 3, pos := "outright.go:61", after := #[{ on := 20, ground := Ground.data }, { on := 17, ground := Ground.guard }], guard := some (17, false) }) (v := undef) rfl (by kernel_rfl) (by kernel_rfl) (by kernel_rfl) (fun _ _ _ h => h) (Or.inr ⟨by rfl, rfl⟩) (by assumption) ?_
                    try simp only [Act.put, List.setIfInBounds_toArray, List.set_cons_zero, List.set_cons_succ]
                    refine wpAnyH_take (i := 22) (oi := { dst := some 154, op := Op.indexAddr 24 (Operand.tmp 151) (Operand.tmp 153), type := 0, pos := "outright.go:61", after := #[{ on := 19, ground := Ground.data }, { on := 21, ground := Ground.data }, { on := 17, ground := Ground.guard }], guard := some (17, false) }) (v := undef) rfl (by kernel_rfl) (by kernel_rfl) (by kernel_rfl) (fun _ _ _ h => h) (Or.inr ⟨by rfl, rfl⟩) (by assumption) ?_
                    try simp only [Act.put, List.setIfInBounds_toArray, List.set_cons_zero, List.set_cons_succ]
                    refine wpAnyH_take (i := 23) (oi := { dst := some 155, op := Op.fieldAddr 37 (Operand.tmp 154) 0, type := 0, pos := "outright.go:61", after := #[{ on := 22, ground := Ground.data }, { on := 17, ground := Ground.guard }], guard := some (17, false) }) (v := undef) rfl (by kernel_rfl) (by kernel_rfl) (by kernel_rfl) (fun _ _ _ h => h) (Or.inr ⟨by rfl, rfl⟩) (by assumption) ?_
                    try simp only [Act.put, List.setIfInBounds_toArray, List.set_cons_zero, List.set_cons_succ]
                    refine wpAnyH_take (i := 24) (oi := { dst := some 156, op := Op.load 9 (Operand.tmp 155), type := 9, pos := "outright.go:61", after := #[{ on := 23, ground := Ground.data }, { on := 17, ground := Ground.guard }], guard := some (17, false) }) (v := undef) rfl (by kernel_rfl) (by kernel_rfl) (by kernel_rfl) (fun _ _ _ h => h) (Or.inr ⟨by rfl, rfl⟩) (by assumption) ?_
                    try simp only [Act.put, List.setIfInBounds_toArray, List.set_cons_zero, List.set_cons_succ]
                    refine wpAnyH_take (i := 25) (oi := { dst := some 157, op := Op.fieldAddr 37 (Operand.tmp 15) 0, type := 0, pos := "outright.go:61", after := #[{ on := 17, ground := Ground.guard }], guard := some (17, false) }) (v := undef) rfl (by kernel_rfl) (by kernel_rfl) (by kernel_rfl) (fun _ _ _ h => h) (Or.inr ⟨by rfl, rfl⟩) (by assumption) ?_
                    try simp only [Act.put, List.setIfInBounds_toArray, List.set_cons_zero, List.set_cons_succ]
                    refine wpAnyH_take (i := 26) (oi := { dst := some 158, op := Op.load 9 (Operand.tmp 157), type := 9, pos := "outright.go:61", after := #[{ on := 25, ground := Ground.data }, { on := 17, ground := Ground.guard }], guard := some (17, false) }) (v := undef) rfl (by kernel_rfl) (by kernel_rfl) (by kernel_rfl) (fun _ _ _ h => h) (Or.inr ⟨by rfl, rfl⟩) (by assumption) ?_
                    try simp only [Act.put, List.setIfInBounds_toArray, List.set_cons_zero, List.set_cons_succ]
                    refine wpAnyH_take (i := 27) (oi := { dst := some 159, op := Op.binOp BinOp.eql 9 (Operand.tmp 156) (Operand.tmp 158) 9, type := 4, pos := "outright.go:61", after := #[{ on := 24, ground := Ground.data }, { on := 26, ground := Ground.data }, { on := 17, ground := Ground.guard }], guard := some (17, false) }) (v := undef) rfl (by kernel_rfl) (by kernel_rfl) (by kernel_rfl) (fun _ _ _ h => h) (Or.inr ⟨by rfl, rfl⟩) (by assumption) ?_
                    try simp only [Act.put, List.setIfInBounds_toArray, List.set_cons_zero, List.set_cons_succ]
                    refine wpAnyH_take (i := 28) (oi := { dst := some 160, op := Op.move (Operand.tmp 159), type := 4, pos := "outright.go:61", after := #[{ on := 27, ground := Ground.data }, { on := 17, ground := Ground.chain }, { on := 17, ground := Ground.guard }], guard := some (17, false) }) (v := undef) rfl (by kernel_rfl) (by kernel_rfl) (by kernel_rfl) (fun _ _ _ h => h) (Or.inr ⟨by rfl, rfl⟩) (by assumption) ?_
                    try simp only [Act.put, List.setIfInBounds_toArray, List.set_cons_zero, List.set_cons_succ]
                    refine wpAnyH_take (i := 29) (oi := { dst := some 161, op := Op.fieldAddr 27 (Operand.tmp 3) 3, type := 0, pos := "outright.go:61", after := #[{ on := 28, ground := Ground.guard }], guard := some (28, true) }) (v := undef) rfl (by kernel_rfl) (by kernel_rfl) (by kernel_rfl) (fun _ _ _ h => h) (Or.inr ⟨by rfl, rfl⟩) (by assumption) ?_
                    try simp only [Act.put, List.setIfInBounds_toArray, List.set_cons_zero, List.set_cons_succ]
                    refine wpAnyH_take (i := 30) (oi := { dst := some 162, op := Op.load 24 (Operand.tmp 161), type := 24, pos := "outright.go:61", after := #[{ on := 29, ground := Ground.data }, { on := 28, ground := Ground.guard }], guard := some (28, true) }) (v := undef) rfl (by kernel_rfl) (by kernel_rfl) (by kernel_rfl) (fun _ _ _ h => h) (Or.inr ⟨by rfl, rfl⟩) (by assumption) ?_
                    try simp only [Act.put, List.setIfInBounds_toArray, List.set_cons_zero, List.set_cons_succ]
                    refine wpAnyH_take (i := 31) (oi := { dst := some 163, op := Op.move (Operand.tmp 14), type := 3, pos := "outright.go:61", after := #[{ on := 28, ground := Ground.guard }], guard := some (28, true) }) (v := undef) rfl (by kernel_rfl) (by kernel_rfl) (by kernel_rfl) (fun _ _ _ h => h) (Or.inr ⟨by rfl, rfl⟩) (by assumption) ?_
                    try simp only [Act.put, List.setIfInBounds_toArray, List.set_cons_zero, List.set_cons_succ]
                    refine wpAnyH_take (i := 32) (oi := { dst := some 164, op := Op.binOp BinOp.sub 3 (Operand.tmp 163) (Operand.const (Value.int IntKind.i64 1)) 3, type := 3, pos := "outright.go:61", after := #[{ on := 31, ground := Ground.data }, { on := 28, ground := Ground.guard }], guard := some (28, true) }) (v := undef) rfl (by kernel_rfl) (by kernel_rfl) (by kernel_rfl) (fun _ _ _ h => h) (Or.inr ⟨by rfl, rfl⟩) (by assumption) ?_
                    try simp only [Act.put, List.setIfInBounds_toArray, List.set_cons_zero, List.set_cons_succ]
                    refine wpAnyH_take (i := 33) (oi := { dst := some 165, op := Op.indexAddr 24 (Operand.tmp 162) (Operand.tmp 164), type := 0, pos := "outright.go:61", after := #[{ on := 30, ground := Ground.data }, { on := 32, ground := Ground.data }, { on := 28, ground := Ground.guard }], guard := some (28, true) }) (v := undef) rfl (by kernel_rfl) (by kernel_rfl) (by kernel_rfl) (fun _ _ _ h => h) (Or.inr ⟨by rfl, rfl⟩) (by assumption) ?_
                    try simp only [Act.put, List.setIfInBounds_toArray, List.set_cons_zero, List.set_cons_succ]
                    refine wpAnyH_take (i := 34) (oi := { dst := some 166, op := Op.fieldAddr 37 (Operand.tmp 165) 1, type := 0, pos := "outright.go:61", after := #[{ on := 33, ground := Ground.data }, { on := 28, ground := Ground.guard }], guard := some (28, true) }) (v := undef) rfl (by kernel_rfl) (by kernel_rfl) (by kernel_rfl) (fun _ _ _ h => h) (Or.inr ⟨by rfl, rfl⟩) (by assumption) ?_
                    try simp only [Act.put, List.setIfInBounds_toArray, List.set_cons_zero, List.set_cons_succ]
                    refine wpAnyH_take (i := 35) (oi := { dst := some 167, op := Op.load 9 (Operand.tmp 166), type := 9, pos := "outright.go:61", after := #[{ on := 34, ground := Ground.data }, { on := 28, ground := Ground.guard }], guard := some (28, true) }) (v := undef) rfl (by kernel_rfl) (by kernel_rfl) (by kernel_rfl) (fun _ _ _ h => h) (Or.inr ⟨by rfl, rfl⟩) (by assumption) ?_
                    try simp only [Act.put, List.setIfInBounds_toArray, List.set_cons_zero, List.set_cons_succ]
                    refine wpAnyH_take (i := 36) (oi := { dst := some 168, op := Op.fieldAddr 37 (Operand.tmp 15) 1, type := 0, pos := "outright.go:61", after := #[{ on := 28, ground := Ground.guard }], guard := some (28, true) }) (v := undef) rfl (by kernel_rfl) (by kernel_rfl) (by kernel_rfl) (fun _ _ _ h => h) (Or.inr ⟨by rfl, rfl⟩) (by assumption) ?_
                    try simp only [Act.put, List.setIfInBounds_toArray, List.set_cons_zero, List.set_cons_succ]
                    refine wpAnyH_take (i := 37) (oi := { dst := some 169, op := Op.load 9 (Operand.tmp 168), type := 9, pos := "outright.go:61", after := #[{ on := 36, ground := Ground.data }, { on := 28, ground := Ground.guard }], guard := some (28, true) }) (v := undef) rfl (by kernel_rfl) (by kernel_rfl) (by kernel_rfl) (fun _ _ _ h => h) (Or.inr ⟨by rfl, rfl⟩) (by assumption) ?_
                    try simp only [Act.put, List.setIfInBounds_toArray, List.set_cons_zero, List.set_cons_succ]
                    refine wpAnyH_take (i := 38) (oi := { dst := some 170, op := Op.binOp BinOp.geq 9 (Operand.tmp 167) (Operand.tmp 169) 9, type := 4, pos := "outright.go:61", after := #[{ on := 35, ground := Ground.data }, { on := 37, ground := Ground.data }, { on := 28, ground := Ground.guard }], guard := some (28, true) }) (v := undef) rfl (by kernel_rfl) (by kernel_rfl) (by kernel_rfl) (fun _ _ _ h => h) (Or.inr ⟨by rfl, rfl⟩) (by assumption) ?_
                    try simp only [Act.put, List.setIfInBounds_toArray, List.set_cons_zero, List.set_cons_succ]
                    refine wpAnyH_take (i := 39) (oi := { dst := some 171, op := Op.pick (Operand.tmp 160) (Operand.tmp 170) (Operand.const (Value.bool false)), type := 4, pos := "outright.go:61", after := #[{ on := 28, ground := Ground.data }, { on := 38, ground := Ground.data }, { on := 17, ground := Ground.guard }], guard := some (17, false) }) (v := undef) rfl (by kernel_rfl) (by kernel_rfl) (by kernel_rfl) (fun _ _ _ h => h) (Or.inr ⟨by rfl, rfl⟩) (by assumption) ?_
                    try simp only [Act.put, List.setIfInBounds_toArray, List.set_cons_zero, List.set_cons_succ]
                    refine wpAnyH_take (i := 40) (oi := { dst := some 172, op := Op.pick (Operand.tmp 149) (Operand.const (Value.bool true)) (Operand.tmp 171), type := 4, pos := "outright.go:61", after := #[{ on := 17, ground := Ground.data }, { on := 39, ground := Ground.data }, { on := 6, ground := Ground.guard }], guard := some (6, true) }) (v := undef) rfl (by kernel_rfl) (by kernel_rfl) (by kernel_rfl) (fun _ _ _ h => h) (Or.inr ⟨by rfl, rfl⟩) (by assumption) ?_
                    try simp only [Act.put, List.setIfInBounds_toArray, List.set_cons_zero, List.set_cons_succ]
                    refine wpAnyH_take (i := 41) (oi := { dst := some 173, op := Op.pick (Operand.tmp 138) (Operand.tmp 172) (Operand.const (Value.bool false)), type := 4, pos := "outright.go:61", after := #[{ on := 6, ground := Ground.data }, { on := 40, ground := Ground.data }, { on := 3, ground := Ground.guard }], guard := some (3, false) }) (v := ?_) rfl (by kernel_rfl) (by kernel_rfl) (by kernel_rfl) (fun _ _ _ h => h) (Or.inl ⟨by rfl, ?_⟩) (by assumption) ?_
                    rotate_left
                    · intro W hSW; first | (go_simp; done) | (go_simp; with_reducible rfl)
                    try simp only [Act.put, List.setIfInBounds_toArray, List.set_cons_zero, List.set_cons_succ]
                    refine wpAnyH_take (i := 42) (oi := { dst := some 174, op := Op.pick (Operand.tmp 135) (Operand.const (Value.bool true)) (Operand.tmp 173), type := 4, pos := "outright.go:61", after := #[{ on := 3, ground := Ground.data }, { on := 41, ground := Ground.data }], guard := none }) (v := ?_) rfl (by kernel_rfl) (by kernel_rfl) (by kernel_rfl) (fun _ _ _ h => h) (Or.inl ⟨by rfl, ?_⟩) (by assumption) ?_
                    rotate_left
                    · intro W hSW; first | (go_simp; done) | (go_simp; with_reducible rfl)
                    try simp only [Act.put, List.setIfInBounds_toArray, List.set_cons_zero, List.set_cons_succ]
                    refine wpAnyH_done (by kernel_rfl) ?_ _
                    have hst10 : Below z w7 w9.drew := hst9.out.trans ⟨rfl, rfl, rfl, Nat.le_refl _, fun _ _ => rfl⟩
                    generalize w9.drew = w10 at hst10 ⊢
                    clear hst9 c0 c1' c2 q9
                    go_wp2
                    go_roundw
                    case rel => exact ⟨1, by omega, by go_num, hst10⟩
                    case measure => simp [intOf]; omega
                  · obtain ⟨e0, e1, _⟩ := hpre9.out t1 h1
                    have hn9 := hnext.out t1 h1
                    rw [← h1, hf.out] at hn9
                    obtain ⟨f', hf'⟩ : ∃ f', fl.getD t1 noFund = f' := ⟨_, rfl⟩
                    rw [hf'] at e0 e1 hn9
                    have hw1 : IntKind.i64.wrap (t1 : Int) = (t1 : Int) := IntWalk.i64_in _ (by omega)
                    have hw2 : (t : Int) - 1 = (t1 : Int) := by omega
                    have ht0 : decide ((0 : Int) < (t : Int)) = true := decide_eq_true (by omega)
                    have ht1 : (t1 : Int) < (nf : Int) := by omega
                    have ht2 : t1 < nf := by omega
                    clear hf' hpre9 hnext
                    generalize f'.acc = pa at e0 hn9
                    generalize f'.asset = pb at e1 hn9
                    generalize f.acc = ka at c0 hn9 ⊢
                    generalize f.asset = kb at c1' hn9 ⊢
                    rcases hn9 with hn9 | ⟨hn8, hn9⟩
                    · have tl : Op.bytesLess pa.toList ka.toList = true := by rw [less_text]; exact decide_eq_true hn9
                      have te : (pa.toList == ka.toList) = false := text_other (fun e => by rw [(cmpT_zero _ _).2 e] at hn9; exact absurd hn9 (by omega))
                      clear hn9
                      have hRw : Below w9.heap.size w9 w9.drew := ⟨rfl, rfl, rfl, Nat.le_refl _, fun _ _ => rfl⟩
                      refine wp_region_held_drew (S := fun W => Below w9.heap.size w9 W) (by kernel_rfl) hRw (fun hHeld => ?_)
                      refine wpAnyH_take (i := 0) (oi := { dst := some 132, op := Op.fieldAddr 37 (Operand.tmp 15) 2, type := 0, pos := "outright.go:61", after := #[], guard := none }) (v := ?_) rfl (by kernel_rfl) (by kernel_rfl) (by kernel_rfl) (fun _ _ _ h => h) (Or.inl ⟨by rfl, ?_⟩) (by assumption) ?_
                      rotate_left
                      · intro W hSW; first | (go_simp; done) | (go_simp; with_reducible rfl)
                      try simp only [Act.put, List.setIfInBounds_toArray, List.set_cons_zero, List.set_cons_succ]
                      refine wpAnyH_take (i := 1) (oi := { dst := some 133, op := Op.load 3 (Operand.tmp 132), type := 3, pos := "outright.go:61", after := #[{ on := 0, ground := Ground.data }], guard := none }) (v := ?_) rfl (by kernel_rfl) (by kernel_rfl) (by kernel_rfl) (fun _ _ _ h => h) (Or.inl ⟨by rfl, ?_⟩) (by assumption) ?_
                      rotate_left
                      · intro W hSW; have z0 := cell_on hSW c0; have z1 := cell_on hSW c1'; have z2 := cell_on hSW c2; have z3 := cell_on hSW q9; have z4 := cell_on hSW e0; have z5 := cell_on hSW e1; first | (go_simp; done) | (go_simp; with_reducible rfl)
                      try simp only [Act.put, List.setIfInBounds_toArray, List.set_cons_zero, List.set_cons_succ]
                      refine wpAnyH_take (i := 2) (oi := { dst := some 134, op := Op.binOp BinOp.lss 3 (Operand.tmp 133) (Operand.const (Value.int IntKind.i64 1)) 3, type := 4, pos := "outright.go:61", after := #[{ on := 1, ground := Ground.data }], guard := none }) (v := .bool false) rfl (by kernel_rfl) (by kernel_rfl) (by kernel_rfl) (fun _ _ _ h => h) (Or.inl ⟨by rfl, ?_⟩) (by assumption) ?_
                      · intro W hSW; first | (go_simp; done) | (go_simp; with_reducible rfl)
                      try simp only [Act.put, List.setIfInBounds_toArray, List.set_cons_zero, List.set_cons_succ]
                      refine wpAnyH_take (i := 3) (oi := { dst := some 135, op := Op.move (Operand.tmp 134), type := 4, pos := "outright.go:61", after := #[{ on := 2, ground := Ground.data }], guard := none }) (v := ?_) rfl (by kernel_rfl) (by kernel_rfl) (by kernel_rfl) (fun _ _ _ h => h) (Or.inl ⟨by rfl, ?_⟩) (by assumption) ?_
                      rotate_left
                      · intro W hSW; first | (go_simp; done) | (go_simp; with_reducible rfl)
                      try simp only [Act.put, List.setIfInBounds_toArray, List.set_cons_zero, List.set_cons_succ]
                      refine wpAnyH_take (i := 4) (oi := { dst := some 136, op := Op.move (Operand.tmp 14), type := 3, pos := "outright.go:61", after := #[{ on := 3, ground := Ground.guard }], guard := some (3, false) }) (v := ?_) rfl (by kernel_rfl) (by kernel_rfl) (by kernel_rfl) (fun _ _ _ h => h) (Or.inl ⟨by rfl, ?_⟩) (by assumption) ?_
                      rotate_left
                      · intro W hSW; first | (go_simp; done) | (go_simp; with_reducible rfl)
                      try simp only [Act.put, List.setIfInBounds_toArray, List.set_cons_zero, List.set_cons_succ]
                      refine wpAnyH_take (i := 5) (oi := { dst := some 137, op := Op.binOp BinOp.gtr 3 (Operand.tmp 136) (Operand.const (Value.int IntKind.i64 0)) 3, type := 4, pos := "outright.go:61", after := #[{ on := 4, ground := Ground.data }, { on := 3, ground := Ground.guard }], guard := some (3, false) }) (v := .bool true) rfl (by kernel_rfl) (by kernel_rfl) (by kernel_rfl) (fun _ _ _ h => h) (Or.inl ⟨by rfl, ?_⟩) (by assumption) ?_
                      · intro W hSW; first | (go_simp; done) | (go_simp; with_reducible rfl)
                      try simp only [Act.put, List.setIfInBounds_toArray, List.set_cons_zero, List.set_cons_succ]
                      refine wpAnyH_take (i := 6) (oi := { dst := some 138, op := Op.move (Operand.tmp 137), type := 4, pos := "outright.go:61", after := #[{ on := 5, ground := Ground.data }, { on := 3, ground := Ground.chain }, { on := 3, ground := Ground.guard }], guard := some (3, false) }) (v := ?_) rfl (by kernel_rfl) (by kernel_rfl) (by kernel_rfl) (fun _ _ _ h => h) (Or.inl ⟨by rfl, ?_⟩) (by assumption) ?_
                      rotate_left
                      · intro W hSW; first | (go_simp; done) | (go_simp; with_reducible rfl)
                      try simp only [Act.put, List.setIfInBounds_toArray, List.set_cons_zero, List.set_cons_succ]
                      refine wpAnyH_take (i := 7) (oi := { dst := some 139, op := Op.fieldAddr 27 (Operand.tmp 3) 3, type := 0, pos := "outright.go:61", after := #[{ on := 6, ground := Ground.guard }], guard := some (6, true) }) (v := ?_) rfl (by kernel_rfl) (by kernel_rfl) (by kernel_rfl) (fun _ _ _ h => h) (Or.inl ⟨by rfl, ?_⟩) (by assumption) ?_
                      rotate_left
                      · intro W hSW; first | (go_simp; done) | (go_simp; with_reducible rfl)
                      try simp only [Act.put, List.setIfInBounds_toArray, List.set_cons_zero, List.set_cons_succ]
                      refine wpAnyH_take (i := 8) (oi := { dst := some 140, op := Op.load 24 (Operand.tmp 139), type := 24, pos := "outright.go:61", after := #[{ on := 7, ground := Ground.data }, { on := 6, ground := Ground.guard }], guard := some (6, true) }) (v := ?_) rfl (by kernel_rfl) (by kernel_rfl) (by kernel_rfl) (fun _ _ _ h => h) (Or.inl ⟨by rfl, ?_⟩) (by assumption) ?_
                      rotate_left
                      · intro W hSW; have z0 := cell_on hSW c0; have z1 := cell_on hSW c1'; have z2 := cell_on hSW c2; have z3 := cell_on hSW q9; have z4 := cell_on hSW e0; have z5 := cell_on hSW e1; first | (go_simp; done) | (go_simp; with_reducible rfl)
                      try simp only [Act.put, List.setIfInBounds_toArray, List.set_cons_zero, List.set_cons_succ]
                      refine wpAnyH_take (i := 9) (oi := { dst := some 141, op := Op.move (Operand.tmp 14), type := 3, pos := "outright.go:61", after := #[{ on := 6, ground := Ground.guard }], guard := some (6, true) }) (v := ?_) rfl (by kernel_rfl) (by kernel_rfl) (by kernel_rfl) (fun _ _ _ h => h) (Or.inl ⟨by rfl, ?_⟩) (by assumption) ?_
                      rotate_left
                      · intro W hSW; first | (go_simp; done) | (go_simp; with_reducible rfl)
                      try simp only [Act.put, List.setIfInBounds_toArray, List.set_cons_zero, List.set_cons_succ]
                      refine wpAnyH_take (i := 10) (oi := { dst := some 142, op := Op.binOp BinOp.sub 3 (Operand.tmp 141) (Operand.const (Value.int IntKind.i64 1)) 3, type := 3, pos := "outright.go:61", after := #[{ on := 9, ground := Ground.data }, { on := 6, ground := Ground.guard }], guard := some (6, true) }) (v := .int .i64 (t1 : Int)) rfl (by kernel_rfl) (by kernel_rfl) (by kernel_rfl) (fun _ _ _ h => h) (Or.inl ⟨by rfl, ?_⟩) (by assumption) ?_
                      · intro W hSW; first | (go_simp; done) | (go_simp; with_reducible rfl)
                      try simp only [Act.put, List.setIfInBounds_toArray, List.set_cons_zero, List.set_cons_succ]
                      refine wpAnyH_take (i := 11) (oi := { dst := some 143, op := Op.indexAddr 24 (Operand.tmp 140) (Operand.tmp 142), type := 0, pos := "outright.go:61", after := #[{ on := 8, ground := Ground.data }, { on := 10, ground := Ground.data }, { on := 6, ground := Ground.guard }], guard := some (6, true) }) (v := ?_) rfl (by kernel_rfl) (by kernel_rfl) (by kernel_rfl) (fun _ _ _ h => h) (Or.inl ⟨by rfl, ?_⟩) (by assumption) ?_
                      rotate_left
                      · intro W hSW; first | (go_simp; done) | (go_simp; with_reducible rfl)
                      try simp only [Act.put, List.setIfInBounds_toArray, List.set_cons_zero, List.set_cons_succ]
                      refine wpAnyH_take (i := 12) (oi := { dst := some 144, op := Op.fieldAddr 37 (Operand.tmp 143) 0, type := 0, pos := "outright.go:61", after := #[{ on := 11, ground := Ground.data }, { on := 6, ground := Ground.guard }], guard := some (6, true) }) (v := ?_) rfl (by kernel_rfl) (by kernel_rfl) (by kernel_rfl) (fun _ _ _ h => h) (Or.inl ⟨by rfl, ?_⟩) (by assumption) ?_
                      rotate_left
                      · intro W hSW; first | (go_simp; done) | (go_simp; with_reducible rfl)
                      try simp only [Act.put, List.setIfInBounds_toArray, List.set_cons_zero, List.set_cons_succ]
                      refine wpAnyH_take (i := 13) (oi := { dst := some 145, op := Op.load 9 (Operand.tmp 144), type := 9, pos := "outright.go:61", after := #[{ on := 12, ground := Ground.data }, { on := 6, ground := Ground.guard }], guard := some (6, true) }) (v := ?_) rfl (by kernel_rfl) (by kernel_rfl) (by kernel_rfl) (fun _ _ _ h => h) (Or.inl ⟨by rfl, ?_⟩) (by assumption) ?_
                      rotate_left
                      · intro W hSW; have z0 := cell_on hSW c0; have z1 := cell_on hSW c1'; have z2 := cell_on hSW c2; have z3 := cell_on hSW q9; have z4 := cell_on hSW e0; have z5 := cell_on hSW e1; first | (go_simp; done) | (go_simp; with_reducible rfl)
                      try simp only [Act.put, List.setIfInBounds_toArray, List.set_cons_zero, List.set_cons_succ]
                      refine wpAnyH_take (i := 14) (oi := { dst := some 146, op := Op.fieldAddr 37 (Operand.tmp 15) 0, type := 0, pos := "outright.go:61", after := #[{ on := 6, ground := Ground.guard }], guard := some (6, true) }) (v := ?_) rfl (by kernel_rfl) (by kernel_rfl) (by kernel_rfl) (fun _ _ _ h => h) (Or.inl ⟨by rfl, ?_⟩) (by assumption) ?_
                      rotate_left
                      · intro W hSW; first | (go_simp; done) | (go_simp; with_reducible rfl)
                      try simp only [Act.put, List.setIfInBounds_toArray, List.set_cons_zero, List.set_cons_succ]
                      refine wpAnyH_take (i := 15) (oi := { dst := some 147, op := Op.load 9 (Operand.tmp 146), type := 9, pos := "outright.go:61", after := #[{ on := 14, ground := Ground.data }, { on := 6, ground := Ground.guard }], guard := some (6, true) }) (v := ?_) rfl (by kernel_rfl) (by kernel_rfl) (by kernel_rfl) (fun _ _ _ h => h) (Or.inl ⟨by rfl, ?_⟩) (by assumption) ?_
                      rotate_left
                      · intro W hSW; have z0 := cell_on hSW c0; have z1 := cell_on hSW c1'; have z2 := cell_on hSW c2; have z3 := cell_on hSW q9; have z4 := cell_on hSW e0; have z5 := cell_on hSW e1; first | (go_simp; done) | (go_simp; with_reducible rfl)
                      try simp only [Act.put, List.setIfInBounds_toArray, List.set_cons_zero, List.set_cons_succ]
                      refine wpAnyH_take (i := 16) (oi := { dst := some 148, op := Op.binOp BinOp.gtr 9 (Operand.tmp 145) (Operand.tmp 147) 9, type := 4, pos := "outright.go:61", after := #[{ on := 13, ground := Ground.data }, { on := 15, ground := Ground.data }, { on := 6, ground := Ground.guard }], guard := some (6, true) }) (v := .bool false) rfl (by kernel_rfl) (by kernel_rfl) (by kernel_rfl) (fun _ _ _ h => h) (Or.inl ⟨by rfl, ?_⟩) (by assumption) ?_
                      · intro W hSW; first | (go_simp; done) | (go_simp; with_reducible rfl)
                      try simp only [Act.put, List.setIfInBounds_toArray, List.set_cons_zero, List.set_cons_succ]
                      refine wpAnyH_take (i := 17) (oi := { dst := some 149, op := Op.move (Operand.tmp 148), type := 4, pos := "outright.go:61", after := #[{ on := 16, ground := Ground.data }, { on := 6, ground := Ground.chain }, { on := 6, ground := Ground.guard }], guard := some (6, true) }) (v := ?_) rfl (by kernel_rfl) (by kernel_rfl) (by kernel_rfl) (fun _ _ _ h => h) (Or.inl ⟨by rfl, ?_⟩) (by assumption) ?_
                      rotate_left
                      · intro W hSW; first | (go_simp; done) | (go_simp; with_reducible rfl)
                      try simp only [Act.put, List.setIfInBounds_toArray, List.set_cons_zero, List.set_cons_succ]
                      refine wpAnyH_take (i := 18) (oi := { dst := some 150, op := Op.fieldAddr 27 (Operand.tmp 3) 3, type := 0, pos := "outright.go:61", after := #[{ on := 17, ground := Ground.guard }], guard := some (17, false) }) (v := ?_) rfl (by kernel_rfl) (by kernel_rfl) (by kernel_rfl) (fun _ _ _ h => h) (Or.inl ⟨by rfl, ?_⟩) (by assumption) ?_
                      rotate_left
                      · intro W hSW; first | (go_simp; done) | (go_simp; with_reducible rfl)
                      try simp only [Act.put, List.setIfInBounds_toArray, List.set_cons_zero, List.set_cons_succ]
                      refine wpAnyH_take (i := 19) (oi := { dst := some 151, op := Op.load 24 (Operand.tmp 150), type := 24, pos := "outright.go:61", after := #[{ on := 18, ground := Ground.data }, { on := 17, ground := Ground.guard }], guard := some (17, false) }) (v := ?_) rfl (by kernel_rfl) (by kernel_rfl) (by kernel_rfl) (fun _ _ _ h => h) (Or.inl ⟨by rfl, ?_⟩) (by assumption) ?_
                      rotate_left
                      · intro W hSW; have z0 := cell_on hSW c0; have z1 := cell_on hSW c1'; have z2 := cell_on hSW c2; have z3 := cell_on hSW q9; have z4 := cell_on hSW e0; have z5 := cell_on hSW e1; first | (go_simp; done) | (go_simp; with_reducible rfl)
                      try simp only [Act.put, List.setIfInBounds_toArray, List.set_cons_zero, List.set_cons_succ]
                      refine wpAnyH_take (i := 20) (oi := { dst := some 152, op := Op.move (Operand.tmp 14), type := 3, pos := "outright.go:61", after := #[{ on := 17, ground := Ground.guard }], guard := some (17, false) }) (v := ?_) rfl (by kernel_rfl) (by kernel_rfl) (by kernel_rfl) (fun _ _ _ h => h) (Or.inl ⟨by rfl, ?_⟩) (by assumption) ?_
                      rotate_left
                      · intro W hSW; first | (go_simp; done) | (go_simp; with_reducible rfl)
                      try simp only [Act.put, List.setIfInBounds_toArray, List.set_cons_zero, List.set_cons_succ]
                      refine wpAnyH_take (i := 21) (oi := { dst := some 153, op := Op.binOp BinOp.sub 3 (Operand.tmp 152) (Operand.const (Value.int IntKind.i64 1)) 3, type := 3, pos := "outright.go:61", after := #[{ on := 20, ground := Ground.data }, { on := 17, ground := Ground.guard }], guard := some (17, false) }) (v := .int .i64 (t1 : Int)) rfl (by kernel_rfl) (by kernel_rfl) (by kernel_rfl) (fun _ _ _ h => h) (Or.inl ⟨by rfl, ?_⟩) (by assumption) ?_
                      · intro W hSW; first | (go_simp; done) | (go_simp; with_reducible rfl)
                      try simp only [Act.put, List.setIfInBounds_toArray, List.set_cons_zero, List.set_cons_succ]
                      refine wpAnyH_take (i := 22) (oi := { dst := some 154, op := Op.indexAddr 24 (Operand.tmp 151) (Operand.tmp 153), type := 0, pos := "outright.go:61", after := #[{ on := 19, ground := Ground.data }, { on := 21, ground := Ground.data }, { on := 17, ground := Ground.guard }], guard := some (17, false) }) (v := ?_) rfl (by kernel_rfl) (by kernel_rfl) (by kernel_rfl) (fun _ _ _ h => h) (Or.inl ⟨by rfl, ?_⟩) (by assumption) ?_
                      rotate_left
                      · intro W hSW; first | (go_simp; done) | (go_simp; with_reducible rfl)
                      try simp only [Act.put, List.setIfInBounds_toArray, List.set_cons_zero, List.set_cons_succ]
                      refine wpAnyH_take (i := 23) (oi := { dst := some 155, op := Op.fieldAddr 37 (Operand.tmp 154) 0, type := 0, pos := "outright.go:61", after := #[{ on := 22, ground := Ground.data }, { on := 17, ground := Ground.guard }], guard := some (17, false) }) (v := ?_) rfl (by kernel_rfl) (by kernel_rfl) (by kernel_rfl) (fun _ _ _ h => h) (Or.inl ⟨by rfl, ?_⟩) (by assumption) ?_
                      rotate_left
                      · intro W hSW; first | (go_simp; done) | (go_simp; with_reducible rfl)
                      try simp only [Act.put, List.setIfInBounds_toArray, List.set_cons_zero, List.set_cons_succ]
                      refine wpAnyH_take (i := 24) (oi := { dst := some 156, op := Op.load 9 (Operand.tmp 155), type := 9, pos := "outright.go:61", after := #[{ on := 23, ground := Ground.data }, { on := 17, ground := Ground.guard }], guard := some (17, false) }) (v := ?_) rfl (by kernel_rfl) (by kernel_rfl) (by kernel_rfl) (fun _ _ _ h => h) (Or.inl ⟨by rfl, ?_⟩) (by assumption) ?_
                      rotate_left
                      · intro W hSW; have z0 := cell_on hSW c0; have z1 := cell_on hSW c1'; have z2 := cell_on hSW c2; have z3 := cell_on hSW q9; have z4 := cell_on hSW e0; have z5 := cell_on hSW e1; first | (go_simp; done) | (go_simp; with_reducible rfl)
                      try simp only [Act.put, List.setIfInBounds_toArray, List.set_cons_zero, List.set_cons_succ]
                      refine wpAnyH_take (i := 25) (oi := { dst := some 157, op := Op.fieldAddr 37 (Operand.tmp 15) 0, type := 0, pos := "outright.go:61", after := #[{ on := 17, ground := Ground.guard }], guard := some (17, false) }) (v := ?_) rfl (by kernel_rfl) (by kernel_rfl) (by kernel_rfl) (fun _ _ _ h => h) (Or.inl ⟨by rfl, ?_⟩) (by assumption) ?_
                      rotate_left
                      · intro W hSW; first | (go_simp; done) | (go_simp; with_reducible rfl)
                      try simp only [Act.put, List.setIfInBounds_toArray, List.set_cons_zero, List.set_cons_succ]
                      refine wpAnyH_take (i := 26) (oi := { dst := some 158, op := Op.load 9 (Operand.tmp 157), type := 9, pos := "outright.go:61", after := #[{ on := 25, ground := Ground.data }, { on := 17, ground := Ground.guard }], guard := some (17, false) }) (v := ?_) rfl (by kernel_rfl) (by kernel_rfl) (by kernel_rfl) (fun _ _ _ h => h) (Or.inl ⟨by rfl, ?_⟩) (by assumption) ?_
                      rotate_left
                      · intro W hSW; have z0 := cell_on hSW c0; have z1 := cell_on hSW c1'; have z2 := cell_on hSW c2; have z3 := cell_on hSW q9; have z4 := cell_on hSW e0; have z5 := cell_on hSW e1; first | (go_simp; done) | (go_simp; with_reducible rfl)
                      try simp only [Act.put, List.setIfInBounds_toArray, List.set_cons_zero, List.set_cons_succ]
                      refine wpAnyH_take (i := 27) (oi := { dst := some 159, op := Op.binOp BinOp.eql 9 (Operand.tmp 156) (Operand.tmp 158) 9, type := 4, pos := "outright.go:61", after := #[{ on := 24, ground := Ground.data }, { on := 26, ground := Ground.data }, { on := 17, ground := Ground.guard }], guard := some (17, false) }) (v := .bool false) rfl (by kernel_rfl) (by kernel_rfl) (by kernel_rfl) (fun _ _ _ h => h) (Or.inl ⟨by rfl, ?_⟩) (by assumption) ?_
                      · intro W hSW; first | (go_simp; done) | (go_simp; with_reducible rfl)
                      try simp only [Act.put, List.setIfInBounds_toArray, List.set_cons_zero, List.set_cons_succ]
                      refine wpAnyH_take (i := 28) (oi := { dst := some 160, op := Op.move (Operand.tmp 159), type := 4, pos := "outright.go:61", after := #[{ on := 27, ground := Ground.data }, { on := 17, ground := Ground.chain }, { on := 17, ground := Ground.guard }], guard := some (17, false) }) (v := ?_) rfl (by kernel_rfl) (by kernel_rfl) (by kernel_rfl) (fun _ _ _ h => h) (Or.inl ⟨by rfl, ?_⟩) (by assumption) ?_
                      rotate_left
                      · intro W hSW; first | (go_simp; done) | (go_simp; with_reducible rfl)
                      try simp only [Act.put, List.setIfInBounds_toArray, List.set_cons_zero, List.set_cons_succ]
                      refine wpAnyH_take (i := 29) (oi := { dst := some 161, op := Op.fieldAddr 27 (Operand.tmp 3) 3, type := 0, pos := "outright.go:61", after := #[{ on := 28, ground := Ground.guard }], guard := some (28, true) }) (v := undef) rfl (by kernel_rfl) (by kernel_rfl) (by kernel_rfl) (fun _ _ _ h => h) (Or.inr ⟨by rfl, rfl⟩) (by assumption) ?_
                      try simp only [Act.put, List.setIfInBounds_toArray, List.set_cons_zero, List.set_cons_succ]
                      refine wpAnyH_take (i := 30) (oi := { dst := some 162, op := Op.load 24 (Operand.tmp 161), type := 24, pos := "outright.go:61", after := #[{ on := 29, ground := Ground.data }, { on := 28, ground := Ground.guard }], guard := some (28, true) }) (v := undef) rfl (by kernel_rfl) (by kernel_rfl) (by kernel_rfl) (fun _ _ _ h => h) (Or.inr ⟨by rfl, rfl⟩) (by assumption) ?_
                      try simp only [Act.put, List.setIfInBounds_toArray, List.set_cons_zero, List.set_cons_succ]
                      refine wpAnyH_take (i := 31) (oi := { dst := some 163, op := Op.move (Operand.tmp 14), type := 3, pos := "outright.go:61", after := #[{ on := 28, ground := Ground.guard }], guard := some (28, true) }) (v := undef) rfl (by kernel_rfl) (by kernel_rfl) (by kernel_rfl) (fun _ _ _ h => h) (Or.inr ⟨by rfl, rfl⟩) (by assumption) ?_
                      try simp only [Act.put, List.setIfInBounds_toArray, List.set_cons_zero, List.set_cons_succ]
                      refine wpAnyH_take (i := 32) (oi := { dst := some 164, op := Op.binOp BinOp.sub 3 (Operand.tmp 163) (Operand.const (Value.int IntKind.i64 1)) 3, type := 3, pos := "outright.go:61", after := #[{ on := 31, ground := Ground.data }, { on := 28, ground := Ground.guard }], guard := some (28, true) }) (v := undef) rfl (by kernel_rfl) (by kernel_rfl) (by kernel_rfl) (fun _ _ _ h => h) (Or.inr ⟨by rfl, rfl⟩) (by assumption) ?_
                      try simp only [Act.put, List.setIfInBounds_toArray, List.set_cons_zero, List.set_cons_succ]
                      refine wpAnyH_take (i := 33) (oi := { dst := some 165, op := Op.indexAddr 24 (Operand.tmp 162) (Operand.tmp 164), type := 0, pos := "outright.go:61", after := #[{ on := 30, ground := Ground.data }, { on := 32, ground := Ground.data }, { on := 28, ground := Ground.guard }], guard := some (28, true) }) (v := undef) rfl (by kernel_rfl) (by kernel_rfl) (by kernel_rfl) (fun _ _ _ h => h) (Or.inr ⟨by rfl, rfl⟩) (by assumption) ?_
                      try simp only [Act.put, List.setIfInBounds_toArray, List.set_cons_zero, List.set_cons_succ]
                      refine wpAnyH_take (i := 34) (oi := { dst := some 166, op := Op.fieldAddr 37 (Operand.tmp 165) 1, type := 0, pos := "outright.go:61", after := #[{ on := 33, ground := Ground.data }, { on := 28, ground := Ground.guard }], guard := some (28, true) }) (v := undef) rfl (by kernel_rfl) (by kernel_rfl) (by kernel_rfl) (fun _ _ _ h => h) (Or.inr ⟨by rfl, rfl⟩) (by assumption) ?_
                      try simp only [Act.put, List.setIfInBounds_toArray, List.set_cons_zero, List.set_cons_succ]
                      refine wpAnyH_take (i := 35) (oi := { dst := some 167, op := Op.load 9 (Operand.tmp 166), type := 9, pos := "outright.go:61", after := #[{ on := 34, ground := Ground.data }, { on := 28, ground := Ground.guard }], guard := some (28, true) }) (v := undef) rfl (by kernel_rfl) (by kernel_rfl) (by kernel_rfl) (fun _ _ _ h => h) (Or.inr ⟨by rfl, rfl⟩) (by assumption) ?_
                      try simp only [Act.put, List.setIfInBounds_toArray, List.set_cons_zero, List.set_cons_succ]
                      refine wpAnyH_take (i := 36) (oi := { dst := some 168, op := Op.fieldAddr 37 (Operand.tmp 15) 1, type := 0, pos := "outright.go:61", after := #[{ on := 28, ground := Ground.guard }], guard := some (28, true) }) (v := undef) rfl (by kernel_rfl) (by kernel_rfl) (by kernel_rfl) (fun _ _ _ h => h) (Or.inr ⟨by rfl, rfl⟩) (by assumption) ?_
                      try simp only [Act.put, List.setIfInBounds_toArray, List.set_cons_zero, List.set_cons_succ]
                      refine wpAnyH_take (i := 37) (oi := { dst := some 169, op := Op.load 9 (Operand.tmp 168), type := 9, pos := "outright.go:61", after := #[{ on := 36, ground := Ground.data }, { on := 28, ground := Ground.guard }], guard := some (28, true) }) (v := undef) rfl (by kernel_rfl) (by kernel_rfl) (by kernel_rfl) (fun _ _ _ h => h) (Or.inr ⟨by rfl, rfl⟩) (by assumption) ?_
                      try simp only [Act.put, List.setIfInBounds_toArray, List.set_cons_zero, List.set_cons_succ]
                      refine wpAnyH_take (i := 38) (oi := { dst := some 170, op := Op.binOp BinOp.geq 9 (Operand.tmp 167) (Operand.tmp 169) 9, type := 4, pos := "outright.go:61", after := #[{ on := 35, ground := Ground.data }, { on := 37, ground := Ground.data }, { on := 28, ground := Ground.guard }], guard := some (28, true) }) (v := undef) rfl (by kernel_rfl) (by kernel_rfl) (by kernel_rfl) (fun _ _ _ h => h) (Or.inr ⟨by rfl, rfl⟩) (by assumption) ?_
                      try simp only [Act.put, List.setIfInBounds_toArray, List.set_cons_zero, List.set_cons_succ]
                      refine wpAnyH_take (i := 39) (oi := { dst := some 171, op := Op.pick (Operand.tmp 160) (Operand.tmp 170) (Operand.const (Value.bool false)), type := 4, pos := "outright.go:61", after := #[{ on := 28, ground := Ground.data }, { on := 38, ground := Ground.data }, { on := 17, ground := Ground.guard }], guard := some (17, false) }) (v := ?_) rfl (by kernel_rfl) (by kernel_rfl) (by kernel_rfl) (fun _ _ _ h => h) (Or.inl ⟨by rfl, ?_⟩) (by assumption) ?_
                      rotate_left
                      · intro W hSW; first | (go_simp; done) | (go_simp; with_reducible rfl)
                      try simp only [Act.put, List.setIfInBounds_toArray, List.set_cons_zero, List.set_cons_succ]
                      refine wpAnyH_take (i := 40) (oi := { dst := some 172, op := Op.pick (Operand.tmp 149) (Operand.const (Value.bool true)) (Operand.tmp 171), type := 4, pos := "outright.go:61", after := #[{ on := 17, ground := Ground.data }, { on := 39, ground := Ground.data }, { on := 6, ground := Ground.guard }], guard := some (6, true) }) (v := ?_) rfl (by kernel_rfl) (by kernel_rfl) (by kernel_rfl) (fun _ _ _ h => h) (Or.inl ⟨by rfl, ?_⟩) (by assumption) ?_
                      rotate_left
                      · intro W hSW; first | (go_simp; done) | (go_simp; with_reducible rfl)
                      try simp only [Act.put, List.setIfInBounds_toArray, List.set_cons_zero, List.set_cons_succ]
                      refine wpAnyH_take (i := 41) (oi := { dst := some 173, op := Op.pick (Operand.tmp 138) (Operand.tmp 172) (Operand.const (Value.bool false)), type := 4, pos := "outright.go:61", after := #[{ on := 6, ground := Ground.data }, { on := 40, ground := Ground.data }, { on := 3, ground := Ground.guard }], guard := some (3, false) }) (v := ?_) rfl (by kernel_rfl) (by kernel_rfl) (by kernel_rfl) (fun _ _ _ h => h) (Or.inl ⟨by rfl, ?_⟩) (by assumption) ?_
                      rotate_left
                      · intro W hSW; first | (go_simp; done) | (go_simp; with_reducible rfl)
                      try simp only [Act.put, List.setIfInBounds_toArray, List.set_cons_zero, List.set_cons_succ]
                      refine wpAnyH_take (i := 42) (oi := { dst := some 174, op := Op.pick (Operand.tmp 135) (Operand.const (Value.bool true)) (Operand.tmp 173), type := 4, pos := "outright.go:61", after := #[{ on := 3, ground := Ground.data }, { on := 41, ground := Ground.data }], guard := none }) (v := ?_) rfl (by kernel_rfl) (by kernel_rfl) (by kernel_rfl) (fun _ _ _ h => h) (Or.inl ⟨by rfl, ?_⟩) (by assumption) ?_
                      rotate_left
                      · intro W hSW; first | (go_simp; done) | (go_simp; with_reducible rfl)
                      try simp only [Act.put, List.setIfInBounds_toArray, List.set_cons_zero, List.set_cons_succ]
                      refine wpAnyH_done (by kernel_rfl) ?_ _
                      have hst10 : Below z w7 w9.drew := hst9.out.trans ⟨rfl, rfl, rfl, Nat.le_refl _, fun _ _ => rfl⟩
                      generalize w9.drew = w10 at hst10 ⊢
                      clear hst9 c0 c1' c2 q9 e0 e1 hw1 hw2
                      go_wp2
                      go_roundw
                      case rel => exact ⟨t + 1, by omega, by go_num, hst10⟩
                      case measure => simp [intOf]; omega
                    · have tl : Op.bytesLess pa.toList ka.toList = false := by rw [less_text]; exact decide_eq_false (by omega)
                      have te : (pa.toList == ka.toList) = true := text_same ((cmpT_zero _ _).1 hn8)
                      have tl2 : Op.bytesLess pb.toList kb.toList = true := by rw [less_text]; exact decide_eq_true hn9
                      clear hn8 hn9
                      have hRw : Below w9.heap.size w9 w9.drew := ⟨rfl, rfl, rfl, Nat.le_refl _, fun _ _ => rfl⟩
                      refine wp_region_held_drew (S := fun W => Below w9.heap.size w9 W) (by kernel_rfl) hRw (fun hHeld => ?_)
                      refine wpAnyH_take (i := 0) (oi := { dst := some 132, op := Op.fieldAddr 37 (Operand.tmp 15) 2, type := 0, pos := "outright.go:61", after := #[], guard := none }) (v := ?_) rfl (by kernel_rfl) (by kernel_rfl) (by kernel_rfl) (fun _ _ _ h => h) (Or.inl ⟨by rfl, ?_⟩) (by assumption) ?_
                      rotate_left
                      · intro W hSW; first | (go_simp; done) | (go_simp; with_reducible rfl)
                      try simp only [Act.put, List.setIfInBounds_toArray, List.set_cons_zero, List.set_cons_succ]
                      refine wpAnyH_take (i := 1) (oi := { dst := some 133, op := Op.load 3 (Operand.tmp 132), type := 3, pos := "outright.go:61", after := #[{ on := 0, ground := Ground.data }], guard := none }) (v := ?_) rfl (by kernel_rfl) (by kernel_rfl) (by kernel_rfl) (fun _ _ _ h => h) (Or.inl ⟨by rfl, ?_⟩) (by assumption) ?_
                      rotate_left
                      · intro W hSW; have z0 := cell_on hSW c0; have z1 := cell_on hSW c1'; have z2 := cell_on hSW c2; have z3 := cell_on hSW q9; have z4 := cell_on hSW e0; have z5 := cell_on hSW e1; first | (go_simp; done) | (go_simp; with_reducible rfl)
                      try simp only [Act.put, List.setIfInBounds_toArray, List.set_cons_zero, List.set_cons_succ]
                      refine wpAnyH_take (i := 2) (oi := { dst := some 134, op := Op.binOp BinOp.lss 3 (Operand.tmp 133) (Operand.const (Value.int IntKind.i64 1)) 3, type := 4, pos := "outright.go:61", after := #[{ on := 1, ground := Ground.data }], guard := none }) (v := .bool false) rfl (by kernel_rfl) (by kernel_rfl) (by kernel_rfl) (fun _ _ _ h => h) (Or.inl ⟨by rfl, ?_⟩) (by assumption) ?_
                      · intro W hSW; first | (go_simp; done) | (go_simp; with_reducible rfl)
                      try simp only [Act.put, List.setIfInBounds_toArray, List.set_cons_zero, List.set_cons_succ]
                      refine wpAnyH_take (i := 3) (oi := { dst := some 135, op := Op.move (Operand.tmp 134), type := 4, pos := "outright.go:61", after := #[{ on := 2, ground := Ground.data }], guard := none }) (v := ?_) rfl (by kernel_rfl) (by kernel_rfl) (by kernel_rfl) (fun _ _ _ h => h) (Or.inl ⟨by rfl, ?_⟩) (by assumption) ?_
                      rotate_left
                      · intro W hSW; first | (go_simp; done) | (go_simp; with_reducible rfl)
                      try simp only [Act.put, List.setIfInBounds_toArray, List.set_cons_zero, List.set_cons_succ]
                      refine wpAnyH_take (i := 4) (oi := { dst := some 136, op := Op.move (Operand.tmp 14), type := 3, pos := "outright.go:61", after := #[{ on := 3, ground := Ground.guard }], guard := some (3, false) }) (v := ?_) rfl (by kernel_rfl) (by kernel_rfl) (by kernel_rfl) (fun _ _ _ h => h) (Or.inl ⟨by rfl, ?_⟩) (by assumption) ?_
                      rotate_left
                      · intro W hSW; first | (go_simp; done) | (go_simp; with_reducible rfl)
                      try simp only [Act.put, List.setIfInBounds_toArray, List.set_cons_zero, List.set_cons_succ]
                      refine wpAnyH_take (i := 5) (oi := { dst := some 137, op := Op.binOp BinOp.gtr 3 (Operand.tmp 136) (Operand.const (Value.int IntKind.i64 0)) 3, type := 4, pos := "outright.go:61", after := #[{ on := 4, ground := Ground.data }, { on := 3, ground := Ground.guard }], guard := some (3, false) }) (v := .bool true) rfl (by kernel_rfl) (by kernel_rfl) (by kernel_rfl) (fun _ _ _ h => h) (Or.inl ⟨by rfl, ?_⟩) (by assumption) ?_
                      · intro W hSW; first | (go_simp; done) | (go_simp; with_reducible rfl)
                      try simp only [Act.put, List.setIfInBounds_toArray, List.set_cons_zero, List.set_cons_succ]
                      refine wpAnyH_take (i := 6) (oi := { dst := some 138, op := Op.move (Operand.tmp 137), type := 4, pos := "outright.go:61", after := #[{ on := 5, ground := Ground.data }, { on := 3, ground := Ground.chain }, { on := 3, ground := Ground.guard }], guard := some (3, false) }) (v := ?_) rfl (by kernel_rfl) (by kernel_rfl) (by kernel_rfl) (fun _ _ _ h => h) (Or.inl ⟨by rfl, ?_⟩) (by assumption) ?_
                      rotate_left
                      · intro W hSW; first | (go_simp; done) | (go_simp; with_reducible rfl)
                      try simp only [Act.put, List.setIfInBounds_toArray, List.set_cons_zero, List.set_cons_succ]
                      refine wpAnyH_take (i := 7) (oi := { dst := some 139, op := Op.fieldAddr 27 (Operand.tmp 3) 3, type := 0, pos := "outright.go:61", after := #[{ on := 6, ground := Ground.guard }], guard := some (6, true) }) (v := ?_) rfl (by kernel_rfl) (by kernel_rfl) (by kernel_rfl) (fun _ _ _ h => h) (Or.inl ⟨by rfl, ?_⟩) (by assumption) ?_
                      rotate_left
                      · intro W hSW; first | (go_simp; done) | (go_simp; with_reducible rfl)
                      try simp only [Act.put, List.setIfInBounds_toArray, List.set_cons_zero, List.set_cons_succ]
                      refine wpAnyH_take (i := 8) (oi := { dst := some 140, op := Op.load 24 (Operand.tmp 139), type := 24, pos := "outright.go:61", after := #[{ on := 7, ground := Ground.data }, { on := 6, ground := Ground.guard }], guard := some (6, true) }) (v := ?_) rfl (by kernel_rfl) (by kernel_rfl) (by kernel_rfl) (fun _ _ _ h => h) (Or.inl ⟨by rfl, ?_⟩) (by assumption) ?_
                      rotate_left
                      · intro W hSW; have z0 := cell_on hSW c0; have z1 := cell_on hSW c1'; have z2 := cell_on hSW c2; have z3 := cell_on hSW q9; have z4 := cell_on hSW e0; have z5 := cell_on hSW e1; first | (go_simp; done) | (go_simp; with_reducible rfl)
                      try simp only [Act.put, List.setIfInBounds_toArray, List.set_cons_zero, List.set_cons_succ]
                      refine wpAnyH_take (i := 9) (oi := { dst := some 141, op := Op.move (Operand.tmp 14), type := 3, pos := "outright.go:61", after := #[{ on := 6, ground := Ground.guard }], guard := some (6, true) }) (v := ?_) rfl (by kernel_rfl) (by kernel_rfl) (by kernel_rfl) (fun _ _ _ h => h) (Or.inl ⟨by rfl, ?_⟩) (by assumption) ?_
                      rotate_left
                      · intro W hSW; first | (go_simp; done) | (go_simp; with_reducible rfl)
                      try simp only [Act.put, List.setIfInBounds_toArray, List.set_cons_zero, List.set_cons_succ]
                      refine wpAnyH_take (i := 10) (oi := { dst := some 142, op := Op.binOp BinOp.sub 3 (Operand.tmp 141) (Operand.const (Value.int IntKind.i64 1)) 3, type := 3, pos := "outright.go:61", after := #[{ on := 9, ground := Ground.data }, { on := 6, ground := Ground.guard }], guard := some (6, true) }) (v := .int .i64 (t1 : Int)) rfl (by kernel_rfl) (by kernel_rfl) (by kernel_rfl) (fun _ _ _ h => h) (Or.inl ⟨by rfl, ?_⟩) (by assumption) ?_
                      · intro W hSW; first | (go_simp; done) | (go_simp; with_reducible rfl)
                      try simp only [Act.put, List.setIfInBounds_toArray, List.set_cons_zero, List.set_cons_succ]
                      refine wpAnyH_take (i := 11) (oi := { dst := some 143, op := Op.indexAddr 24 (Operand.tmp 140) (Operand.tmp 142), type := 0, pos := "outright.go:61", after := #[{ on := 8, ground := Ground.data }, { on := 10, ground := Ground.data }, { on := 6, ground := Ground.guard }], guard := some (6, true) }) (v := ?_) rfl (by kernel_rfl) (by kernel_rfl) (by kernel_rfl) (fun _ _ _ h => h) (Or.inl ⟨by rfl, ?_⟩) (by assumption) ?_
                      rotate_left
                      · intro W hSW; first | (go_simp; done) | (go_simp; with_reducible rfl)
                      try simp only [Act.put, List.setIfInBounds_toArray, List.set_cons_zero, List.set_cons_succ]
                      refine wpAnyH_take (i := 12) (oi := { dst := some 144, op := Op.fieldAddr 37 (Operand.tmp 143) 0, type := 0, pos := "outright.go:61", after := #[{ on := 11, ground := Ground.data }, { on := 6, ground := Ground.guard }], guard := some (6, true) }) (v := ?_) rfl (by kernel_rfl) (by kernel_rfl) (by kernel_rfl) (fun _ _ _ h => h) (Or.inl ⟨by rfl, ?_⟩) (by assumption) ?_
                      rotate_left
                      · intro W hSW; first | (go_simp; done) | (go_simp; with_reducible rfl)
                      try simp only [Act.put, List.setIfInBounds_toArray, List.set_cons_zero, List.set_cons_succ]
                      refine wpAnyH_take (i := 13) (oi := { dst := some 145, op := Op.load 9 (Operand.tmp 144), type := 9, pos := "outright.go:61", after := #[{ on := 12, ground := Ground.data }, { on := 6, ground := Ground.guard }], guard := some (6, true) }) (v := ?_) rfl (by kernel_rfl) (by kernel_rfl) (by kernel_rfl) (fun _ _ _ h => h) (Or.inl ⟨by rfl, ?_⟩) (by assumption) ?_
                      rotate_left
                      · intro W hSW; have z0 := cell_on hSW c0; have z1 := cell_on hSW c1'; have z2 := cell_on hSW c2; have z3 := cell_on hSW q9; have z4 := cell_on hSW e0; have z5 := cell_on hSW e1; first | (go_simp; done) | (go_simp; with_reducible rfl)
                      try simp only [Act.put, List.setIfInBounds_toArray, List.set_cons_zero, List.set_cons_succ]
                      refine wpAnyH_take (i := 14) (oi := { dst := some 146, op := Op.fieldAddr 37 (Operand.tmp 15) 0, type := 0, pos := "outright.go:61", after := #[{ on := 6, ground := Ground.guard }], guard := some (6, true) }) (v := ?_) rfl (by kernel_rfl) (by kernel_rfl) (by kernel_rfl) (fun _ _ _ h => h) (Or.inl ⟨by rfl, ?_⟩) (by assumption) ?_
                      rotate_left
                      · intro W hSW; first | (go_simp; done) | (go_simp; with_reducible rfl)
                      try simp only [Act.put, List.setIfInBounds_toArray, List.set_cons_zero, List.set_cons_succ]
                      refine wpAnyH_take (i := 15) (oi := { dst := some 147, op := Op.load 9 (Operand.tmp 146), type := 9, pos := "outright.go:61", after := #[{ on := 14, ground := Ground.data }, { on := 6, ground := Ground.guard }], guard := some (6, true) }) (v := ?_) rfl (by kernel_rfl) (by kernel_rfl) (by kernel_rfl) (fun _ _ _ h => h) (Or.inl ⟨by rfl, ?_⟩) (by assumption) ?_
                      rotate_left
                      · intro W hSW; have z0 := cell_on hSW c0; have z1 := cell_on hSW c1'; have z2 := cell_on hSW c2; have z3 := cell_on hSW q9; have z4 := cell_on hSW e0; have z5 := cell_on hSW e1; first | (go_simp; done) | (go_simp; with_reducible rfl)
                      try simp only [Act.put, List.setIfInBounds_toArray, List.set_cons_zero, List.set_cons_succ]
                      refine wpAnyH_take (i := 16) (oi := { dst := some 148, op := Op.binOp BinOp.gtr 9 (Operand.tmp 145) (Operand.tmp 147) 9, type := 4, pos := "outright.go:61", after := #[{ on := 13, ground := Ground.data }, { on := 15, ground := Ground.data }, { on := 6, ground := Ground.guard }], guard := some (6, true) }) (v := .bool false) rfl (by kernel_rfl) (by kernel_rfl) (by kernel_rfl) (fun _ _ _ h => h) (Or.inl ⟨by rfl, ?_⟩) (by assumption) ?_
                      · intro W hSW; first | (go_simp; done) | (go_simp; with_reducible rfl)
                      try simp only [Act.put, List.setIfInBounds_toArray, List.set_cons_zero, List.set_cons_succ]
                      refine wpAnyH_take (i := 17) (oi := { dst := some 149, op := Op.move (Operand.tmp 148), type := 4, pos := "outright.go:61", after := #[{ on := 16, ground := Ground.data }, { on := 6, ground := Ground.chain }, { on := 6, ground := Ground.guard }], guard := some (6, true) }) (v := ?_) rfl (by kernel_rfl) (by kernel_rfl) (by kernel_rfl) (fun _ _ _ h => h) (Or.inl ⟨by rfl, ?_⟩) (by assumption) ?_
                      rotate_left
                      · intro W hSW; first | (go_simp; done) | (go_simp; with_reducible rfl)
                      try simp only [Act.put, List.setIfInBounds_toArray, List.set_cons_zero, List.set_cons_succ]
                      refine wpAnyH_take (i := 18) (oi := { dst := some 150, op := Op.fieldAddr 27 (Operand.tmp 3) 3, type := 0, pos := "outright.go:61", after := #[{ on := 17, ground := Ground.guard }], guard := some (17, false) }) (v := ?_) rfl (by kernel_rfl) (by kernel_rfl) (by kernel_rfl) (fun _ _ _ h => h) (Or.inl ⟨by rfl, ?_⟩) (by assumption) ?_
                      rotate_left
                      · intro W hSW; first | (go_simp; done) | (go_simp; with_reducible rfl)
                      try simp only [Act.put, List.setIfInBounds_toArray, List.set_cons_zero, List.set_cons_succ]
                      refine wpAnyH_take (i := 19) (oi := { dst := some 151, op := Op.load 24 (Operand.tmp 150), type := 24, pos := "outright.go:61", after := #[{ on := 18, ground := Ground.data }, { on := 17, ground := Ground.guard }], guard := some (17, false) }) (v := ?_) rfl (by kernel_rfl) (by kernel_rfl) (by kernel_rfl) (fun _ _ _ h => h) (Or.inl ⟨by rfl, ?_⟩) (by assumption) ?_
                      rotate_left
                      · intro W hSW; have z0 := cell_on hSW c0; have z1 := cell_on hSW c1'; have z2 := cell_on hSW c2; have z3 := cell_on hSW q9; have z4 := cell_on hSW e0; have z5 := cell_on hSW e1; first | (go_simp; done) | (go_simp; with_reducible rfl)
                      try simp only [Act.put, List.setIfInBounds_toArray, List.set_cons_zero, List.set_cons_succ]
                      refine wpAnyH_take (i := 20) (oi := { dst := some 152, op := Op.move (Operand.tmp 14), type := 3, pos := "outright.go:61", after := #[{ on := 17, ground := Ground.guard }], guard := some (17, false) }) (v := ?_) rfl (by kernel_rfl) (by kernel_rfl) (by kernel_rfl) (fun _ _ _ h => h) (Or.inl ⟨by rfl, ?_⟩) (by assumption) ?_
                      rotate_left
                      · intro W hSW; first | (go_simp; done) | (go_simp; with_reducible rfl)
                      try simp only [Act.put, List.setIfInBounds_toArray, List.set_cons_zero, List.set_cons_succ]
                      refine wpAnyH_take (i := 21) (oi := { dst := some 153, op := Op.binOp BinOp.sub 3 (Operand.tmp 152) (Operand.const (Value.int IntKind.i64 1)) 3, type := 3, pos := "outright.go:61", after := #[{ on := 20, ground := Ground.data }, { on := 17, ground := Ground.guard }], guard := some (17, false) }) (v := .int .i64 (t1 : Int)) rfl (by kernel_rfl) (by kernel_rfl) (by kernel_rfl) (fun _ _ _ h => h) (Or.inl ⟨by rfl, ?_⟩) (by assumption) ?_
                      · intro W hSW; first | (go_simp; done) | (go_simp; with_reducible rfl)
                      try simp only [Act.put, List.setIfInBounds_toArray, List.set_cons_zero, List.set_cons_succ]
                      refine wpAnyH_take (i := 22) (oi := { dst := some 154, op := Op.indexAddr 24 (Operand.tmp 151) (Operand.tmp 153), type := 0, pos := "outright.go:61", after := #[{ on := 19, ground := Ground.data }, { on := 21, ground := Ground.data }, { on := 17, ground := Ground.guard }], guard := some (17, false) }) (v := ?_) rfl (by kernel_rfl) (by kernel_rfl) (by kernel_rfl) (fun _ _ _ h => h) (Or.inl ⟨by rfl, ?_⟩) (by assumption) ?_
                      rotate_left
                      · intro W hSW; first | (go_simp; done) | (go_simp; with_reducible rfl)
                      try simp only [Act.put, List.setIfInBounds_toArray, List.set_cons_zero, List.set_cons_succ]
                      refine wpAnyH_take (i := 23) (oi := { dst := some 155, op := Op.fieldAddr 37 (Operand.tmp 154) 0, type := 0, pos := "outright.go:61", after := #[{ on := 22, ground := Ground.data }, { on := 17, ground := Ground.guard }], guard := some (17, false) }) (v := ?_) rfl (by kernel_rfl) (by kernel_rfl) (by kernel_rfl) (fun _ _ _ h => h) (Or.inl ⟨by rfl, ?_⟩) (by assumption) ?_
                      rotate_left
                      · intro W hSW; first | (go_simp; done) | (go_simp; with_reducible rfl)
                      try simp only [Act.put, List.setIfInBounds_toArray, List.set_cons_zero, List.set_cons_succ]
                      refine wpAnyH_take (i := 24) (oi := { dst := some 156, op := Op.load 9 (Operand.tmp 155), type := 9, pos := "outright.go:61", after := #[{ on := 23, ground := Ground.data }, { on := 17, ground := Ground.guard }], guard := some (17, false) }) (v := ?_) rfl (by kernel_rfl) (by kernel_rfl) (by kernel_rfl) (fun _ _ _ h => h) (Or.inl ⟨by rfl, ?_⟩) (by assumption) ?_
                      rotate_left
                      · intro W hSW; have z0 := cell_on hSW c0; have z1 := cell_on hSW c1'; have z2 := cell_on hSW c2; have z3 := cell_on hSW q9; have z4 := cell_on hSW e0; have z5 := cell_on hSW e1; first | (go_simp; done) | (go_simp; with_reducible rfl)
                      try simp only [Act.put, List.setIfInBounds_toArray, List.set_cons_zero, List.set_cons_succ]
                      refine wpAnyH_take (i := 25) (oi := { dst := some 157, op := Op.fieldAddr 37 (Operand.tmp 15) 0, type := 0, pos := "outright.go:61", after := #[{ on := 17, ground := Ground.guard }], guard := some (17, false) }) (v := ?_) rfl (by kernel_rfl) (by kernel_rfl) (by kernel_rfl) (fun _ _ _ h => h) (Or.inl ⟨by rfl, ?_⟩) (by assumption) ?_
                      rotate_left
                      · intro W hSW; first | (go_simp; done) | (go_simp; with_reducible rfl)
                      try simp only [Act.put, List.setIfInBounds_toArray, List.set_cons_zero, List.set_cons_succ]
                      refine wpAnyH_take (i := 26) (oi := { dst := some 158, op := Op.load 9 (Operand.tmp 157), type := 9, pos := "outright.go:61", after := #[{ on := 25, ground := Ground.data }, { on := 17, ground := Ground.guard }], guard := some (17, false) }) (v := ?_) rfl (by kernel_rfl) (by kernel_rfl) (by kernel_rfl) (fun _ _ _ h => h) (Or.inl ⟨by rfl, ?_⟩) (by assumption) ?_
                      rotate_left
                      · intro W hSW; have z0 := cell_on hSW c0; have z1 := cell_on hSW c1'; have z2 := cell_on hSW c2; have z3 := cell_on hSW q9; have z4 := cell_on hSW e0; have z5 := cell_on hSW e1; first | (go_simp; done) | (go_simp; with_reducible rfl)
                      try simp only [Act.put, List.setIfInBounds_toArray, List.set_cons_zero, List.set_cons_succ]
                      refine wpAnyH_take (i := 27) (oi := { dst := some 159, op := Op.binOp BinOp.eql 9 (Operand.tmp 156) (Operand.tmp 158) 9, type := 4, pos := "outright.go:61", after := #[{ on := 24, ground := Ground.data }, { on := 26, ground := Ground.data }, { on := 17, ground := Ground.guard }], guard := some (17, false) }) (v := .bool true) rfl (by kernel_rfl) (by kernel_rfl) (by kernel_rfl) (fun _ _ _ h => h) (Or.inl ⟨by rfl, ?_⟩) (by assumption) ?_
                      · intro W hSW; first | (go_simp; done) | (go_simp; with_reducible rfl)
                      try simp only [Act.put, List.setIfInBounds_toArray, List.set_cons_zero, List.set_cons_succ]
                      refine wpAnyH_take (i := 28) (oi := { dst := some 160, op := Op.move (Operand.tmp 159), type := 4, pos := "outright.go:61", after := #[{ on := 27, ground := Ground.data }, { on := 17, ground := Ground.chain }, { on := 17, ground := Ground.guard }], guard := some (17, false) }) (v := ?_) rfl (by kernel_rfl) (by kernel_rfl) (by kernel_rfl) (fun _ _ _ h => h) (Or.inl ⟨by rfl, ?_⟩) (by assumption) ?_
                      rotate_left
                      · intro W hSW; first | (go_simp; done) | (go_simp; with_reducible rfl)
                      try simp only [Act.put, List.setIfInBounds_toArray, List.set_cons_zero, List.set_cons_succ]
                      refine wpAnyH_take (i := 29) (oi := { dst := some 161, op := Op.fieldAddr 27 (Operand.tmp 3) 3, type := 0, pos := "outright.go:61", after := #[{ on := 28, ground := Ground.guard }], guard := some (28, true) }) (v := ?_) rfl (by kernel_rfl) (by kernel_rfl) (by kernel_rfl) (fun _ _ _ h => h) (Or.inl ⟨by rfl, ?_⟩) (by assumption) ?_
                      rotate_left
                      · intro W hSW; first | (go_simp; done) | (go_simp; with_reducible rfl)
                      try simp only [Act.put, List.setIfInBounds_toArray, List.set_cons_zero, List.set_cons_succ]
                      refine wpAnyH_take (i := 30) (oi := { dst := some 162, op := Op.load 24 (Operand.tmp 161), type := 24, pos := "outright.go:61", after := #[{ on := 29, ground := Ground.data }, { on := 28, ground := Ground.guard }], guard := some (28, true) }) (v := ?_) rfl (by kernel_rfl) (by kernel_rfl) (by kernel_rfl) (fun _ _ _ h => h) (Or.inl ⟨by rfl, ?_⟩) (by assumption) ?_
                      rotate_left
                      · intro W hSW; have z0 := cell_on hSW c0; have z1 := cell_on hSW c1'; have z2 := cell_on hSW c2; have z3 := cell_on hSW q9; have z4 := cell_on hSW e0; have z5 := cell_on hSW e1; first | (go_simp; done) | (go_simp; with_reducible rfl)
                      try simp only [Act.put, List.setIfInBounds_toArray, List.set_cons_zero, List.set_cons_succ]
                      refine wpAnyH_take (i := 31) (oi := { dst := some 163, op := Op.move (Operand.tmp 14), type := 3, pos := "outright.go:61", after := #[{ on := 28, ground := Ground.guard }], guard := some (28, true) }) (v := ?_) rfl (by kernel_rfl) (by kernel_rfl) (by kernel_rfl) (fun _ _ _ h => h) (Or.inl ⟨by rfl, ?_⟩) (by assumption) ?_
                      rotate_left
                      · intro W hSW; first | (go_simp; done) | (go_simp; with_reducible rfl)
                      try simp only [Act.put, List.setIfInBounds_toArray, List.set_cons_zero, List.set_cons_succ]
                      refine wpAnyH_take (i := 32) (oi := { dst := some 164, op := Op.binOp BinOp.sub 3 (Operand.tmp 163) (Operand.const (Value.int IntKind.i64 1)) 3, type := 3, pos := "outright.go:61", after := #[{ on := 31, ground := Ground.data }, { on := 28, ground := Ground.guard }], guard := some (28, true) }) (v := .int .i64 (t1 : Int)) rfl (by kernel_rfl) (by kernel_rfl) (by kernel_rfl) (fun _ _ _ h => h) (Or.inl ⟨by rfl, ?_⟩) (by assumption) ?_
                      · intro W hSW; first | (go_simp; done) | (go_simp; with_reducible rfl)
                      try simp only [Act.put, List.setIfInBounds_toArray, List.set_cons_zero, List.set_cons_succ]
                      refine wpAnyH_take (i := 33) (oi := { dst := some 165, op := Op.indexAddr 24 (Operand.tmp 162) (Operand.tmp 164), type := 0, pos := "outright.go:61", after := #[{ on := 30, ground := Ground.data }, { on := 32, ground := Ground.data }, { on := 28, ground := Ground.guard }], guard := some (28, true) }) (v := ?_) rfl (by kernel_rfl) (by kernel_rfl) (by kernel_rfl) (fun _ _ _ h => h) (Or.inl ⟨by rfl, ?_⟩) (by assumption) ?_
                      rotate_left
                      · intro W hSW; first | (go_simp; done) | (go_simp; with_reducible rfl)
                      try simp only [Act.put, List.setIfInBounds_toArray, List.set_cons_zero, List.set_cons_succ]
                      refine wpAnyH_take (i := 34) (oi := { dst := some 166, op := Op.fieldAddr 37 (Operand.tmp 165) 1, type := 0, pos := "outright.go:61", after := #[{ on := 33, ground := Ground.data }, { on := 28, ground := Ground.guard }], guard := some (28, true) }) (v := ?_) rfl (by kernel_rfl) (by kernel_rfl) (by kernel_rfl) (fun _ _ _ h => h) (Or.inl ⟨by rfl, ?_⟩) (by assumption) ?_
                      rotate_left
                      · intro W hSW; first | (go_simp; done) | (go_simp; with_reducible rfl)
                      try simp only [Act.put, List.setIfInBounds_toArray, List.set_cons_zero, List.set_cons_succ]
                      refine wpAnyH_take (i := 35) (oi := { dst := some 167, op := Op.load 9 (Operand.tmp 166), type := 9, pos := "outright.go:61", after := #[{ on := 34, ground := Ground.data }, { on := 28, ground := Ground.guard }], guard := some (28, true) }) (v := ?_) rfl (by kernel_rfl) (by kernel_rfl) (by kernel_rfl) (fun _ _ _ h => h) (Or.inl ⟨by rfl, ?_⟩) (by assumption) ?_
                      rotate_left
                      · intro W hSW; have z0 := cell_on hSW c0; have z1 := cell_on hSW c1'; have z2 := cell_on hSW c2; have z3 := cell_on hSW q9; have z4 := cell_on hSW e0; have z5 := cell_on hSW e1; first | (go_simp; done) | (go_simp; with_reducible rfl)
                      try simp only [Act.put, List.setIfInBounds_toArray, List.set_cons_zero, List.set_cons_succ]
                      refine wpAnyH_take (i := 36) (oi := { dst := some 168, op := Op.fieldAddr 37 (Operand.tmp 15) 1, type := 0, pos := "outright.go:61", after := #[{ on := 28, ground := Ground.guard }], guard := some (28, true) }) (v := ?_) rfl (by kernel_rfl) (by kernel_rfl) (by kernel_rfl) (fun _ _ _ h => h) (Or.inl ⟨by rfl, ?_⟩) (by assumption) ?_
                      rotate_left
                      · intro W hSW; first | (go_simp; done) | (go_simp; with_reducible rfl)
                      try simp only [Act.put, List.setIfInBounds_toArray, List.set_cons_zero, List.set_cons_succ]
                      refine wpAnyH_take (i := 37) (oi := { dst := some 169, op := Op.load 9 (Operand.tmp 168), type := 9, pos := "outright.go:61", after := #[{ on := 36, ground := Ground.data }, { on := 28, ground := Ground.guard }], guard := some (28, true) }) (v := ?_) rfl (by kernel_rfl) (by kernel_rfl) (by kernel_rfl) (fun _ _ _ h => h) (Or.inl ⟨by rfl, ?_⟩) (by assumption) ?_
                      rotate_left
                      · intro W hSW; have z0 := cell_on hSW c0; have z1 := cell_on hSW c1'; have z2 := cell_on hSW c2; have z3 := cell_on hSW q9; have z4 := cell_on hSW e0; have z5 := cell_on hSW e1; first | (go_simp; done) | (go_simp; with_reducible rfl)
                      try simp only [Act.put, List.setIfInBounds_toArray, List.set_cons_zero, List.set_cons_succ]
                      refine wpAnyH_take (i := 38) (oi := { dst := some 170, op := Op.binOp BinOp.geq 9 (Operand.tmp 167) (Operand.tmp 169) 9, type := 4, pos := "outright.go:61", after := #[{ on := 35, ground := Ground.data }, { on := 37, ground := Ground.data }, { on := 28, ground := Ground.guard }], guard := some (28, true) }) (v := .bool false) rfl (by kernel_rfl) (by kernel_rfl) (by kernel_rfl) (fun _ _ _ h => h) (Or.inl ⟨by rfl, ?_⟩) (by assumption) ?_
                      · intro W hSW; first | (go_simp; done) | (go_simp; with_reducible rfl)
                      try simp only [Act.put, List.setIfInBounds_toArray, List.set_cons_zero, List.set_cons_succ]
                      refine wpAnyH_take (i := 39) (oi := { dst := some 171, op := Op.pick (Operand.tmp 160) (Operand.tmp 170) (Operand.const (Value.bool false)), type := 4, pos := "outright.go:61", after := #[{ on := 28, ground := Ground.data }, { on := 38, ground := Ground.data }, { on := 17, ground := Ground.guard }], guard := some (17, false) }) (v := ?_) rfl (by kernel_rfl) (by kernel_rfl) (by kernel_rfl) (fun _ _ _ h => h) (Or.inl ⟨by rfl, ?_⟩) (by assumption) ?_
                      rotate_left
                      · intro W hSW; first | (go_simp; done) | (go_simp; with_reducible rfl)
                      try simp only [Act.put, List.setIfInBounds_toArray, List.set_cons_zero, List.set_cons_succ]
                      refine wpAnyH_take (i := 40) (oi := { dst := some 172, op := Op.pick (Operand.tmp 149) (Operand.const (Value.bool true)) (Operand.tmp 171), type := 4, pos := "outright.go:61", after := #[{ on := 17, ground := Ground.data }, { on := 39, ground := Ground.data }, { on := 6, ground := Ground.guard }], guard := some (6, true) }) (v := ?_) rfl (by kernel_rfl) (by kernel_rfl) (by kernel_rfl) (fun _ _ _ h => h) (Or.inl ⟨by rfl, ?_⟩) (by assumption) ?_
                      rotate_left
                      · intro W hSW; first | (go_simp; done) | (go_simp; with_reducible rfl)
                      try simp only [Act.put, List.setIfInBounds_toArray, List.set_cons_zero, List.set_cons_succ]
                      refine wpAnyH_take (i := 41) (oi := { dst := some 173, op := Op.pick (Operand.tmp 138) (Operand.tmp 172) (Operand.const (Value.bool false)), type := 4, pos := "outright.go:61", after := #[{ on := 6, ground := Ground.data }, { on := 40, ground := Ground.data }, { on := 3, ground := Ground.guard }], guard := some (3, false) }) (v := ?_) rfl (by kernel_rfl) (by kernel_rfl) (by kernel_rfl) (fun _ _ _ h => h) (Or.inl ⟨by rfl, ?_⟩) (by assumption) ?_
                      rotate_left
                      · intro W hSW; first | (go_simp; done) | (go_simp; with_reducible rfl)
                      try simp only [Act.put, List.setIfInBounds_toArray, List.set_cons_zero, List.set_cons_succ]
                      refine wpAnyH_take (i := 42) (oi := { dst := some 174, op := Op.pick (Operand.tmp 135) (Operand.const (Value.bool true)) (Operand.tmp 173), type := 4, pos := "outright.go:61", after := #[{ on := 3, ground := Ground.data }, { on := 41, ground := Ground.data }], guard := none }) (v := ?_) rfl (by kernel_rfl) (by kernel_rfl) (by kernel_rfl) (fun _ _ _ h => h) (Or.inl ⟨by rfl, ?_⟩) (by assumption) ?_
                      rotate_left
                      · intro W hSW; first | (go_simp; done) | (go_simp; with_reducible rfl)
                      try simp only [Act.put, List.setIfInBounds_toArray, List.set_cons_zero, List.set_cons_succ]
                      refine wpAnyH_done (by kernel_rfl) ?_ _
                      have hst10 : Below z w7 w9.drew := hst9.out.trans ⟨rfl, rfl, rfl, Nat.le_refl _, fun _ _ => rfl⟩
                      generalize w9.drew = w10 at hst10 ⊢
                      clear hst9 c0 c1' c2 q9 e0 e1 hw1 hw2
                      go_wp2
                      go_roundw
                      case rel => exact ⟨t + 1, by omega, by go_num, hst10⟩
                      case measure => simp [intOf]; omega
                · have i1 : ¬ (t : Int) < (nf : Int) := by omega
                  have hU9 := hU7.out.below (w' := wr) (by rw [hz.out]; exact hst)
                  have hv9 := hv7.out.below hst hpz
                  have hB9 : Below g w wr := hB7.out.trans (hst.mono hgz)
                  clear hU7 hv7 hB7
                  go_wp2
                  go_roundw
                  case rel => exact ⟨j + 1, c5, M2, by omega, by omega, by go_num, hv9, f5, hU9, HK3, hB9⟩
                  case measure => simp [intOf]; omega
          · have t4 : ((r4 : Int) == 0) = false := by rw [beq_eq_false_iff_ne]; exact hc
            replace hc := hide hc
            go_wp2_with ((with_reducible refine wpList_at ?_); refine wpList_loadG (by rfl) 27 (.tmp 3) (by rfl) _ Try.underlying27 p cs (by rfl) hv4 fB.info ?_)
            refine (HGv.out _ hU4).mono ?_
            rintro e w5 ⟨u5, rfl, hU5, hb5⟩
            have hv5 := hv4.on hb5
            have hB5 : Below g w w5 := hB4.trans (hb5.mono (hg ▸ hB4.size))
            obtain ⟨c5, rfl, f5, hU5⟩ := hU5.five
            have HK2 := hide HG.out
            clear hv4 hU4 hB4 hb5 HTk HGv
            generalize giveM M y1 y2 m = M2 at hU5 HK2
            go_upto_region 16 with ((with_reducible refine wpList_at ?_); refine wpList_wholeG (by rfl) 27 (.tmp 3) (.tmp 89) (by rfl) p cs c5 (by rfl) (by rfl) hv5 f5.info (by rw [f5.size, fB.size]) f5.one ?_; intro w6 hv6 hz6 hb6)
            have hU6 : BookV w6 (.agg c5) M2 := hU5.but hv5 fB.noText hb6
            have hB6 : Below g w w6 := hB5.trans (hb6.below hgp (hg ▸ hB5.size))
            clear hU5 hv5 hB5 hb6 hz6 fB
            have HB2 := hide (balance_any hU6 HK2.out.1.ok (by omega) y1 y2)
            rw [HK2.out.2.1, HK2.out.2.2] at HB2
            have HK3 := hide HK2.out.1
            clear HK2
            go_wp2_with ((with_reducible refine wpList_at ?_); refine wpList_loadG (by rfl) 27 (.tmp 3) (by rfl) _ Try.underlying27 p c5 (by rfl) hv6 f5.info ?_)
            refine HB2.out.mono ?_
            rintro e w7 ⟨rfl, hb7⟩
            have hv7 := hv6.on hb7
            have hU7 := hU6.below hb7
            have hB7 : Below g w w7 := hB6.trans (hb7.mono (hg ▸ hB6.size))
            clear hv6 hU6 hB6 hb7 HB2
            obtain ⟨aa, fa, ac, fc, _, _, q3, L⟩ := hU7.reads hv7
            obtain ⟨z, hz⟩ : ∃ z, w7.heap.size = z := ⟨_, rfl⟩
            have hpz : p < z := by rw [← hz]; exact hv7.lt
            have hgz : g ≤ z := by omega
            have HF : Hid (∀ W, Below z w7 W → Funds W fa M2.funds ∧ W.cell? ⟨p, 3, none⟩ = some (.slice fa M2.funds.length fc)) := fun W hW => by
              have hW' : Below w7.heap.size w7 W := by rw [hz]; exact hW
              exact ⟨L.funds.below hW', cell_on hW' q3⟩
            have hpos := hide HK3.out.ok.pos
            have hris := hide HK3.out.ok.rise
            have hlen7 := HK3.out.ok.len
            obtain ⟨fl, hfl⟩ : ∃ fl, M2.funds = fl := ⟨_, rfl⟩
            rw [hfl] at HF hpos hris hlen7 q3
            obtain ⟨nf, hnf⟩ : ∃ nf, fl.length = nf := ⟨_, rfl⟩
            rw [hnf] at HF hlen7 q3
            replace hnf := hide hnf
            replace hz := hide hz
            clear hfl L
            replace hv7 := hide hv7
            replace hU7 := hide hU7
            replace hB7 := hide hB7
            go_wp2
            go_loopw [14] (fun i wr => ∃ t : Nat, t ≤ nf ∧ i = .int .i64 t ∧ Below z w7 wr) (fun i _ => nf - (intOf i).toNat)
            case atStart => exact ⟨0, by omega, rfl, Below.refl _ _⟩
            case round =>
             as_aux_lemma =>
              clear q3
              obtain ⟨t, ht, rfl, hst⟩ := hrel
              have hzr : z ≤ wr.heap.size := by have := hst.size; have := hz.out; omega
              obtain ⟨hFw, q3⟩ := HF.out _ hst
              by_cases hlt : t < nf
              · have i1 : (t : Int) < (nf : Int) := by omega
                obtain ⟨b2, o2, rfl, d0, d1, d2⟩ := hFw t (by rw [hnf.out]; exact hlt)
                have hin := getD_in fl noFund (j := t) (by rw [hnf.out]; exact hlt)
                have hy0 : 1 ≤ (fl.getD t noFund).amt := hpos.out _ hin
                have hlt1 : decide ((fl.getD t noFund).amt < 1) = false := decide_eq_false (by omega)
                have hprev : t = 0 ∨ ∃ t1, t = t1 + 1 := by cases t with
                  | zero => exact .inl rfl
                  | succ t1 => exact .inr ⟨t1, rfl⟩
                have hnext := fun t1 (e : t = t1 + 1) => hris.out.next (j := t1) (by rw [hnf.out]; omega)
                have hpre : ∀ t1, t = t1 + 1 → FundAt wr b2 (o2 + t1 * 3) (fl.getD t1 noFund) := fun t1 e => hFw.get t1 (by rw [hnf.out]; omega)
                obtain ⟨f, hf⟩ : ∃ f, fl.getD t noFund = f := ⟨_, rfl⟩
                rw [hf] at d0 d1 d2 hlt1
                replace hf := hide hf
                have hnext := hide hnext
                have hpre := hide hpre
                clear hin hy0 hFw
                have hcell : Hid (∀ W : World, VAt W 37 wr.heap.size #[.string f.acc, .string f.asset, .int .i64 f.amt] → W.cell? ⟨wr.heap.size, 0, none⟩ = some (.string f.acc) ∧ W.cell? ⟨wr.heap.size, 1, none⟩ = some (.string f.asset) ∧ W.cell? ⟨wr.heap.size, 2, none⟩ = some (.int .i64 f.amt)) := fun W hW => ⟨by rw [hW.cell]; rfl, by rw [hW.cell]; rfl, by rw [hW.cell]; rfl⟩
                go_upto_region 23 with (first
                  | ((with_reducible refine wpList_at ?_); refine wpList_allocG (by rfl) 37 (by rfl) 3 _ zeroFund ?_; intro w8 hv8 hz8 hb8)
                  | ((with_reducible refine wpList_at ?_); refine wpList_wholeG (by rfl) 37 (.tmp 15) (.tmp 131) (by rfl) wr.heap.size _ #[.string f.acc, .string f.asset, .int .i64 f.amt] (by rfl) (by rfl) hv8 sizeFund (by rfl) (by intro u hu; simp at hu; rcases hu with rfl | rfl | rfl <;> rfl) ?_; intro w9 hv9 hz9 hb9))
                obtain ⟨c0, c1', c2⟩ := hcell.out _ hv9
                have hbl9 : Below wr.heap.size wr w9 := hb8.trans (hb9.below (Nat.le_refl _) (by omega))
                have hst9 : Below z w7 w9 := hst.trans (hbl9.mono hzr)
                have q9 := cell_on hbl9 q3
                have hpre9 := hide (fun t1 e => (hpre.out t1 e).below hbl9)
                obtain ⟨v9, hv9e⟩ : ∃ v9, wr.heap.size = v9 := ⟨_, rfl⟩
                rw [hv9e] at c0 c1' c2 ⊢
                clear hcell hv8 hv9 hb8 hb9 d0 d1 d2 hst q3 hpre hbl9 hz8 hz9 hv9e
                replace hst9 := hide hst9
                rcases hprev with h0 | ⟨t1, h1⟩
                · subst h0
                  have hRw : Below w9.heap.size w9 w9.drew := ⟨rfl, rfl, rfl, Nat.le_refl _, fun _ _ => rfl⟩
                  refine wp_region_held_drew (S := fun W => Below w9.heap.size w9 W) (by kernel_rfl) hRw (fun hHeld => ?_)
                  refine wpAnyH_take (i := 0) (oi := { dst := some 132, op := Op.fieldAddr 37 (Operand.tmp 15) 2, type := 0, pos := "outright.go:61", after := #[], guard := none }) (v := ?_) rfl (by kernel_rfl) (by kernel_rfl) (by kernel_rfl) (fun _ _ _ h => h) (Or.inl ⟨by rfl, ?_⟩) (by assumption) ?_
                  rotate_left
                  · intro W hSW; first | (go_simp; done) | (go_simp; with_reducible rfl)
                  try simp only [Act.put, List.setIfInBounds_toArray, List.set_cons_zero, List.set_cons_succ]
                  refine wpAnyH_take (i := 1) (oi := { dst := some 133, op := Op.load 3 (Operand.tmp 132), type := 3, pos := "outright.go:61", after := #[{ on := 0, ground := Ground.data }], guard := none }) (v := ?_) rfl (by kernel_rfl) (by kernel_rfl) (by kernel_rfl) (fun _ _ _ h => h) (Or.inl ⟨by rfl, ?_⟩) (by assumption) ?_
                  rotate_left
                  · intro W hSW; have z0 := cell_on hSW c0; have z1 := cell_on hSW c1'; have z2 := cell_on hSW c2; have z3 := cell_on hSW q9; first | (go_simp; done) | (go_simp; with_reducible rfl)
                  try simp only [Act.put, List.setIfInBounds_toArray, List.set_cons_zero, List.set_cons_succ]
                  refine wpAnyH_take (i := 2) (oi := { dst := some 134, op := Op.binOp BinOp.lss 3 (Operand.tmp 133) (Operand.const (Value.int IntKind.i64 1)) 3, type := 4, pos := "outright.go:61", after := #[{ on := 1, ground := Ground.data }], guard := none }) (v := .bool false) rfl (by kernel_rfl) (by kernel_rfl) (by kernel_rfl) (fun _ _ _ h => h) (Or.inl ⟨by rfl, ?_⟩) (by assumption) ?_
                  · intro W hSW; first | (go_simp; done) | (go_simp; with_reducible rfl)
                  try simp only [Act.put, List.setIfInBounds_toArray, List.set_cons_zero, List.set_cons_succ]
                  refine wpAnyH_take (i := 3) (oi := { dst := some 135, op := Op.move (Operand.tmp 134), type := 4, pos := "outright.go:61", after := #[{ on := 2, ground := Ground.data }], guard := none }) (v := ?_) rfl (by kernel_rfl) (by kernel_rfl) (by kernel_rfl) (fun _ _ _ h => h) (Or.inl ⟨by rfl, ?_⟩) (by assumption) ?_
                  rotate_left
                  · intro W hSW; first | (go_simp; done) | (go_simp; with_reducible rfl)
                  try simp only [Act.put, List.setIfInBounds_toArray, List.set_cons_zero, List.set_cons_succ]
                  refine wpAnyH_take (i := 4) (oi := { dst := some 136, op := Op.move (Operand.tmp 14), type := 3, pos := "outright.go:61", after := #[{ on := 3, ground := Ground.guard }], guard := some (3, false) }) (v := ?_) rfl (by kernel_rfl) (by kernel_rfl) (by kernel_rfl) (fun _ _ _ h => h) (Or.inl ⟨by rfl, ?_⟩) (by assumption) ?_
                  rotate_left
                  · intro W hSW; first | (go_simp; done) | (go_simp; with_reducible rfl)
                  try simp only [Act.put, List.setIfInBounds_toArray, List.set_cons_zero, List.set_cons_succ]
                  refine wpAnyH_take (i := 5) (oi := { dst := some 137, op := Op.binOp BinOp.gtr 3 (Operand.tmp 136) (Operand.const (Value.int IntKind.i64 0)) 3, type := 4, pos := "outright.go:61", after := #[{ on := 4, ground := Ground.data }, { on := 3, ground := Ground.guard }], guard := some (3, false) }) (v := .bool false) rfl (by kernel_rfl) (by kernel_rfl) (by kernel_rfl) (fun _ _ _ h => h) (Or.inl ⟨by rfl, ?_⟩) (by assumption) ?_
                  · intro W hSW; first | (go_simp; done) | (go_simp; with_reducible rfl)
                  try simp only [Act.put, List.setIfInBounds_toArray, List.set_cons_zero, List.set_cons_succ]
                  refine wpAnyH_take (i := 6) (oi := { dst := some 138, op := Op.move (Operand.tmp 137), type := 4, pos := "outright.go:61", after := #[{ on := 5, ground := Ground.data }, { on := 3, ground := Ground.chain }, { on := 3, ground := Ground.guard }], guard := some (3, false) }) (v := ?_) rfl (by kernel_rfl) (by kernel_rfl) (by kernel_rfl) (fun _ _ _ h => h) (Or.inl ⟨by rfl, ?_⟩) (by assumption) ?_
                  rotate_left
                  · intro W hSW; first | (go_simp; done) | (go_simp; with_reducible rfl)
                  try simp only [Act.put, List.setIfInBounds_toArray, List.set_cons_zero, List.set_cons_succ]
                  refine wpAnyH_take (i := 7) (oi := { dst := some 139, op := Op.fieldAddr 27 (Operand.tmp 3) 3, type := 0, pos := "outright.go:61", after := #[{ on := 6, ground := Ground.guard }], guard := some (6, true) }) (v := undef) rfl (by kernel_rfl) (by kernel_rfl) (by kernel_rfl) (fun _ _ _ h => h) (Or.inr ⟨by rfl, rfl⟩) (by assumption) ?_
                  try simp only [Act.put, List.setIfInBounds_toArray, List.set_cons_zero, List.set_cons_succ]
                  refine wpAnyH_take (i := 8) (oi := { dst := some 140, op := Op.load 24 (Operand.tmp 139), type := 24, pos := "outright.go:61", after := #[{ on := 7, ground := Ground.data }, { on := 6, ground := Ground.guard }], guard := some (6, true) }) (v := undef) rfl (by kernel_rfl) (by kernel_rfl) (by kernel_rfl) (fun _ _ _ h => h) (Or.inr ⟨by rfl, rfl⟩) (by assumption) ?_
                  try simp only [Act.put, List.setIfInBounds_toArray, List.set_cons_zero, List.set_cons_succ]
                  refine wpAnyH_take (i := 9) (oi := { dst := some 141, op := Op.move (Operand.tmp 14), type := 3, pos := "outright.go:61", after := #[{ on := 6, ground := Ground.guard }], guard := some (6, true) }) (v := undef) rfl (by kernel_rfl) (by kernel_rfl) (by kernel_rfl) (fun _ _ _ h => h) (Or.inr ⟨by rfl, rfl⟩) (by assumption) ?_
                  try simp only [Act.put, List.setIfInBounds_toArray, List.set_cons_zero, List.set_cons_succ]
                  refine wpAnyH_take (i := 10) (oi := { dst := some 142, op := Op.binOp BinOp.sub 3 (Operand.tmp 141) (Operand.const (Value.int IntKind.i64 1)) 3, type := 3, pos := "outright.go:61", after := #[{ on := 9, ground := Ground.data }, { on := 6, ground := Ground.guard }], guard := some (6, true) }) (v := undef) rfl (by kernel_rfl) (by kernel_rfl) (by kernel_rfl) (fun _ _ _ h => h) (Or.inr ⟨by rfl, rfl⟩) (by assumption) ?_
                  try simp only [Act.put, List.setIfInBounds_toArray, List.set_cons_zero, List.set_cons_succ]
                  refine wpAnyH_take (i := 11) (oi := { dst := some 143, op := Op.indexAddr 24 (Operand.tmp 140) (Operand.tmp 142), type := 0, pos := "outright.go:61", after := #[{ on := 8, ground := Ground.data }, { on := 10, ground := Ground.data }, { on := 6, ground := Ground.guard }], guard := some (6, true) }) (v := undef) rfl (by kernel_rfl) (by kernel_rfl) (by kernel_rfl) (fun _ _ _ h => h) (Or.inr ⟨by rfl, rfl⟩) (by assumption) ?_
                  try simp only [Act.put, List.setIfInBounds_toArray, List.set_cons_zero, List.set_cons_succ]
                  refine wpAnyH_take (i := 12) (oi := { dst := some 144, op := Op.fieldAddr 37 (Operand.tmp 143) 0, type := 0, pos := "outright.go:61", after := #[{ on := 11, ground := Ground.data }, { on := 6, ground := Ground.guard }], guard := some (6, true) }) (v := undef) rfl (by kernel_rfl) (by kernel_rfl) (by kernel_rfl) (fun _ _ _ h => h) (Or.inr ⟨by rfl, rfl⟩) (by assumption) ?_
                  try simp only [Act.put, List.setIfInBounds_toArray, List.set_cons_zero, List.set_cons_succ]
                  refine wpAnyH_take (i := 13) (oi := { dst := some 145, op := Op.load 9 (Operand.tmp 144), type := 9, pos := "outright.go:61", after := #[{ on := 12, ground := Ground.data }, { on := 6, ground := Ground.guard }], guard := some (6, true) }) (v := undef) rfl (by kernel_rfl) (by kernel_rfl) (by kernel_rfl) (fun _ _ _ h => h) (Or.inr ⟨by rfl, rfl⟩) (by assumption) ?_
                  try simp only [Act.put, List.setIfInBounds_toArray, List.set_cons_zero, List.set_cons_succ]
                  refine wpAnyH_take (i := 14) (oi := { dst := some 146, op := Op.fieldAddr 37 (Operand.tmp 15) 0, type := 0, pos := "outright.go:61", after := #[{ on := 6, ground := Ground.guard }], guard := some (6, true) }) (v := undef) rfl (by kernel_rfl) (by kernel_rfl) (by kernel_rfl) (fun _ _ _ h => h) (Or.inr ⟨by rfl, rfl⟩) (by assumption) ?_
                  try simp only [Act.put, List.setIfInBounds_toArray, List.set_cons_zero, List.set_cons_succ]
                  refine wpAnyH_take (i := 15) (oi := { dst := some 147, op := Op.load 9 (Operand.tmp 146), type := 9, pos := "outright.go:61", after := #[{ on := 14, ground := Ground.data }, { on := 6, ground := Ground.guard }], guard := some (6, true) }) (v := undef) rfl (by kernel_rfl) (by kernel_rfl) (by kernel_rfl) (fun _ _ _ h => h) (Or.inr ⟨by rfl, rfl⟩) (by assumption) ?_
                  try simp only [Act.put, List.setIfInBounds_toArray, List.set_cons_zero, List.set_cons_succ]
                  refine wpAnyH_take (i := 16) (oi := { dst := some 148, op := Op.binOp BinOp.gtr 9 (Operand.tmp 145) (Operand.tmp 147) 9, type := 4, pos := "outright.go:61", after := #[{ on := 13, ground := Ground.data }, { on := 15, ground := Ground.data }, { on := 6, ground := Ground.guard }], guard := some (6, true) }) (v := undef) rfl (by kernel_rfl) (by kernel_rfl) (by kernel_rfl) (fun _ _ _ h => h) (Or.inr ⟨by rfl, rfl⟩) (by assumption) ?_
                  try simp only [Act.put, List.setIfInBounds_toArray, List.set_cons_zero, List.set_cons_succ]
                  refine wpAnyH_take (i := 17) (oi := { dst := some 149, op := Op.move (Operand.tmp 148), type := 4, pos := "outright.go:61", after := #[{ on := 16, ground := Ground.data }, { on := 6, ground := Ground.chain }, { on := 6, ground := Ground.guard }], guard := some (6, true) }) (v := undef) rfl (by kernel_rfl) (by kernel_rfl) (by kernel_rfl) (fun _ _ _ h => h) (Or.inr ⟨by rfl, rfl⟩) (by assumption) ?_
                  try simp only [Act.put, List.setIfInBounds_toArray, List.set_cons_zero, List.set_cons_succ]
                  refine wpAnyH_take (i := 18) (oi := { dst := some 150, op := Op.fieldAddr 27 (Operand.tmp 3) 3, type := 0, pos := "outright.go:61", after := #[{ on := 17, ground := Ground.guard }], guard := some (17, false) }) (v := undef) rfl (by kernel_rfl) (by kernel_rfl) (by kernel_rfl) (fun _ _ _ h => h) (Or.inr ⟨by rfl, rfl⟩) (by assumption) ?_
                  try simp only [Act.put, List.setIfInBounds_toArray, List.set_cons_zero, List.set_cons_succ]
                  refine wpAnyH_take (i := 19) (oi := { dst := some 151, op := Op.load 24 (Operand.tmp 150), type := 24, pos := "outright.go:61", after := #[{ on := 18, ground := Ground.data }, { on := 17, ground := Ground.guard }], guard := some (17, false) }) (v := undef) rfl (by kernel_rfl) (by kernel_rfl) (by kernel_rfl) (fun _ _ _ h => h) (Or.inr ⟨by rfl, rfl⟩) (by assumption) ?_
                  try simp only [Act.put, List.setIfInBounds_toArray, List.set_cons_zero, List.set_cons_succ]
                  refine wpAnyH_take (i := 20) (oi := { dst := some 152, op := Op.move (Operand.tmp 14), type := 3, pos := "outright.go:61", after := #[{ on := 17, ground := Ground.guard }], guard := some (17, false) }) (v := undef) rfl (by kernel_rfl) (by kernel_rfl) (by kernel_rfl) (fun _ _ _ h => h) (Or.inr ⟨by rfl, rfl⟩) (by assumption) ?_
                  try simp only [Act.put, List.setIfInBounds_toArray, List.set_cons_zero, List.set_cons_succ]
                  refine wpAnyH_take (i := 21) (oi := { dst := some 153, op := Op.binOp BinOp.sub 3 (Operand.tmp 152) (Operand.const (Value.int IntKind.i64 1)) 3, type := 3, pos := "outright.go:61", after := #[{ on := 20, ground := Ground.data }, { on := 17, ground := Ground.guard }], guard := some (17, false) }) (v := undef) rfl (by kernel_rfl) (by kernel_rfl) (by kernel_rfl) (fun _ _ _ h => h) (Or.inr ⟨by rfl, rfl⟩) (by assumption) ?_
                  try simp only [Act.put, List.setIfInBounds_toArray, List.set_cons_zero, List.set_cons_succ]
                  refine wpAnyH_take (i := 22) (oi := { dst := some 154, op := Op.indexAddr 24 (Operand.tmp 151) (Operand.tmp 153), type := 0, pos := "outright.go:61", after := #[{ on := 19, ground := Ground.data }, { on := 21, ground := Ground.data }, { on := 17, ground := Ground.guard }], guard := some (17, false) }) (v := undef) rfl (by kernel_rfl) (by kernel_rfl) (by kernel_rfl) (fun _ _ _ h => h) (Or.inr ⟨by rfl, rfl⟩) (by assumption) ?_
                  try simp only [Act.put, List.setIfInBounds_toArray, List.set_cons_zero, List.set_cons_succ]
                  refine wpAnyH_take (i := 23) (oi := { dst := some 155, op := Op.fieldAddr 37 (Operand.tmp 154) 0, type := 0, pos := "outright.go:61", after := #[{ on := 22, ground := Ground.data }, { on := 17, ground := Ground.guard }], guard := some (17, false) }) (v := undef) rfl (by kernel_rfl) (by kernel_rfl) (by kernel_rfl) (fun _ _ _ h => h) (Or.inr ⟨by rfl, rfl⟩) (by assumption) ?_
                  try simp only [Act.put, List.setIfInBounds_toArray, List.set_cons_zero, List.set_cons_succ]
                  refine wpAnyH_take (i := 24) (oi := { dst := some 156, op := Op.load 9 (Operand.tmp 155), type := 9, pos := "outright.go:61", after := #[{ on := 23, ground := Ground.data }, { on := 17, ground := Ground.guard }], guard := some (17, false) }) (v := undef) rfl (by kernel_rfl) (by kernel_rfl) (by kernel_rfl) (fun _ _ _ h => h) (Or.inr ⟨by rfl, rfl⟩) (by assumption) ?_
                  try simp only [Act.put, List.setIfInBounds_toArray, List.set_cons_zero, List.set_cons_succ]
                  refine wpAnyH_take (i := 25) (oi := { dst := some 157, op := Op.fieldAddr 37 (Operand.tmp 15) 0, type := 0, pos := "outright.go:61", after := #[{ on := 17, ground := Ground.guard }], guard := some (17, false) }) (v := undef) rfl (by kernel_rfl) (by kernel_rfl) (by kernel_rfl) (fun _ _ _ h => h) (Or.inr ⟨by rfl, rfl⟩) (by assumption) ?_
                  try simp only [Act.put, List.setIfInBounds_toArray, List.set_cons_zero, List.set_cons_succ]
                  refine wpAnyH_take (i := 26) (oi := { dst := some 158, op := Op.load 9 (Operand.tmp 157), type := 9, pos := "outright.go:61", after := #[{ on := 25, ground := Ground.data }, { on := 17, ground := Ground.guard }], guard := some (17, false) }) (v := undef) rfl (by kernel_rfl) (by kernel_rfl) (by kernel_rfl) (fun _ _ _ h => h) (Or.inr ⟨by rfl, rfl⟩) (by assumption) ?_
                  try simp only [Act.put, List.setIfInBounds_toArray, List.set_cons_zero, List.set_cons_succ]
                  refine wpAnyH_take (i := 27) (oi := { dst := some 159, op := Op.binOp BinOp.eql 9 (Operand.tmp 156) (Operand.tmp 158) 9, type := 4, pos := "outright.go:61", after := #[{ on := 24, ground := Ground.data }, { on := 26, ground := Ground.data }, { on := 17, ground := Ground.guard }], guard := some (17, false) }) (v := undef) rfl (by kernel_rfl) (by kernel_rfl) (by kernel_rfl) (fun _ _ _ h => h) (Or.inr ⟨by rfl, rfl⟩) (by assumption) ?_
                  try simp only [Act.put, List.setIfInBounds_toArray, List.set_cons_zero, List.set_cons_succ]
                  refine wpAnyH_take (i := 28) (oi := { dst := some 160, op := Op.move (Operand.tmp 159), type := 4, pos := "outright.go:61", after := #[{ on := 27, ground := Ground.data }, { on := 17, ground := Ground.chain }, { on := 17, ground := Ground.guard }], guard := some (17, false) }) (v := undef) rfl (by kernel_rfl) (by kernel_rfl) (by kernel_rfl) (fun _ _ _ h => h) (Or.inr ⟨by rfl, rfl⟩) (by assumption) ?_
                  try simp only [Act.put, List.setIfInBounds_toArray, List.set_cons_zero, List.set_cons_succ]
                  refine wpAnyH_take (i := 29) (oi := { dst := some 161, op := Op.fieldAddr 27 (Operand.tmp 3) 3, type := 0, pos := "outright.go:61", after := #[{ on := 28, ground := Ground.guard }], guard := some (28, true) }) (v := undef) rfl (by kernel_rfl) (by kernel_rfl) (by kernel_rfl) (fun _ _ _ h => h) (Or.inr ⟨by rfl, rfl⟩) (by assumption) ?_
                  try simp only [Act.put, List.setIfInBounds_toArray, List.set_cons_zero, List.set_cons_succ]
                  refine wpAnyH_take (i := 30) (oi := { dst := some 162, op := Op.load 24 (Operand.tmp 161), type := 24, pos := "outright.go:61", after := #[{ on := 29, ground := Ground.data }, { on := 28, ground := Ground.guard }], guard := some (28, true) }) (v := undef) rfl (by kernel_rfl) (by kernel_rfl) (by kernel_rfl) (fun _ _ _ h => h) (Or.inr ⟨by rfl, rfl⟩) (by assumption) ?_
                  try simp only [Act.put, List.setIfInBounds_toArray, List.set_cons_zero, List.set_cons_succ]
                  refine wpAnyH_take (i := 31) (oi := { dst := some 163, op := Op.move (Operand.tmp 14), type := 3, pos := "outright.go:61", after := #[{ on := 28, ground := Ground.guard }], guard := some (28, true) }) (v := undef) rfl (by kernel_rfl) (by kernel_rfl) (by kernel_rfl) (fun _ _ _ h => h) (Or.inr ⟨by rfl, rfl⟩) (by assumption) ?_
                  try simp only [Act.put, List.setIfInBounds_toArray, List.set_cons_zero, List.set_cons_succ]
                  refine wpAnyH_take (i := 32) (oi := { dst := some 164, op := Op.binOp BinOp.sub 3 (Operand.tmp 163) (Operand.const (Value.int IntKind.i64 1)) 3, type := 3, pos := "outright.go:61", after := #[{ on := 31, ground := Ground.data }, { on := 28, ground := Ground.guard }], guard := some (28, true) }) (v := undef) rfl (by kernel_rfl) (by kernel_rfl) (by kernel_rfl) (fun _ _ _ h => h) (Or.inr ⟨by rfl, rfl⟩) (by assumption) ?_
                  try simp only [Act.put, List.setIfInBounds_toArray, List.set_cons_zero, List.set_cons_succ]
                  refine wpAnyH_take (i := 33) (oi := { dst := some 165, op := Op.indexAddr 24 (Operand.tmp 162) (Operand.tmp 164), type := 0, pos := "outright.go:61", after := #[{ on := 30, ground := Ground.data }, { on := 32, ground := Ground.data }, { on := 28, ground := Ground.guard }], guard := some (28, true) }) (v := undef) rfl (by kernel_rfl) (by kernel_rfl) (by kernel_rfl) (fun _ _ _ h => h) (Or.inr ⟨by rfl, rfl⟩) (by assumption) ?_
                  try simp only [Act.put, List.setIfInBounds_toArray, List.set_cons_zero, List.set_cons_succ]
                  refine wpAnyH_take (i := 34) (oi := { dst := some 166, op := Op.fieldAddr 37 (Operand.tmp 165) 1, type := 0, pos := "outright.go:61", after := #[{ on := 33, ground := Ground.data }, { on := 28, ground := Ground.guard }], guard := some (28, true) }) (v := undef) rfl (by kernel_rfl) (by kernel_rfl) (by kernel_rfl) (fun _ _ _ h => h) (Or.inr ⟨by rfl, rfl⟩) (by assumption) ?_
                  try simp only [Act.put, List.setIfInBounds_toArray, List.set_cons_zero, List.set_cons_succ]
                  refine wpAnyH_take (i := 35) (oi := { dst := some 167, op := Op.load 9 (Operand.tmp 166), type := 9, pos := "outright.go:61", after := #[{ on := 34, ground := Ground.data }, { on := 28, ground := Ground.guard }], guard := some (28, true) }) (v := undef) rfl (by kernel_rfl) (by kernel_rfl) (by kernel_rfl) (fun _ _ _ h => h) (Or.inr ⟨by rfl, rfl⟩) (by assumption) ?_
                  try simp only [Act.put, List.setIfInBounds_toArray, List.set_cons_zero, List.set_cons_succ]
                  refine wpAnyH_take (i := 36) (oi := { dst := some 168, op := Op.fieldAddr 37 (Operand.tmp 15) 1, type := 0, pos := "outright.go:61", after := #[{ on := 28, ground := Ground.guard }], guard := some (28, true) }) (v := undef) rfl (by kernel_rfl) (by kernel_rfl) (by kernel_rfl) (fun _ _ _ h => h) (Or.inr ⟨by rfl, rfl⟩) (by assumption) ?_
                  try simp only [Act.put, List.setIfInBounds_toArray, List.set_cons_zero, List.set_cons_succ]
                  refine wpAnyH_take (i := 37) (oi := { dst := some 169, op := Op.load 9 (Operand.tmp 168), type := 9, pos := "outright.go:61", after := #[{ on := 36, ground := Ground.data }, { on := 28, ground := Ground.guard }], guard := some (28, true) }) (v := undef) rfl (by kernel_rfl) (by kernel_rfl) (by kernel_rfl) (fun _ _ _ h => h) (Or.inr ⟨by rfl, rfl⟩) (by assumption) ?_
                  try simp only [Act.put, List.setIfInBounds_toArray, List.set_cons_zero, List.set_cons_succ]
                  refine wpAnyH_take (i := 38) (oi := { dst := some 170, op := Op.binOp BinOp.geq 9 (Operand.tmp 167) (Operand.tmp 169) 9, type := 4, pos := "outright.go:61", after := #[{ on := 35, ground := Ground.data }, { on := 37, ground := Ground.data }, { on := 28, ground := Ground.guard }], guard := some (28, true) }) (v := undef) rfl (by kernel_rfl) (by kernel_rfl) (by kernel_rfl) (fun _ _ _ h => h) (Or.inr ⟨by rfl, rfl⟩) (by assumption) ?_
                  try simp only [Act.put, List.setIfInBounds_toArray, List.set_cons_zero, List.set_cons_succ]
                  refine wpAnyH_take (i := 39) (oi := { dst := some 171, op := Op.pick (Operand.tmp 160) (Operand.tmp 170) (Operand.const (Value.bool false)), type := 4, pos := "outright.go:61", after := #[{ on := 28, ground := Ground.data }, { on := 38, ground := Ground.data }, { on := 17, ground := Ground.guard }], guard := some (17, false) }) (v := undef) rfl (by kernel_rfl) (by kernel_rfl) (by kernel_rfl) (fun _ _ _ h => h) (Or.inr ⟨by rfl, rfl⟩) (by assumption) ?_
                  try simp only [Act.put, List.setIfInBounds_toArray, List.set_cons_zero, List.set_cons_succ]
                  refine wpAnyH_take (i := 40) (oi := { dst := some 172, op := Op.pick (Operand.tmp 149) (Operand.const (Value.bool true)) (Operand.tmp 171), type := 4, pos := "outright.go:61", after := #[{ on := 17, ground := Ground.data }, { on := 39, ground := Ground.data }, { on := 6, ground := Ground.guard }], guard := some (6, true) }) (v := undef) rfl (by kernel_rfl) (by kernel_rfl) (by kernel_rfl) (fun _ _ _ h => h) (Or.inr ⟨by rfl, rfl⟩) (by assumption) ?_
                  try simp only [Act.put, List.setIfInBounds_toArray, List.set_cons_zero, List.set_cons_succ]
                  refine wpAnyH_take (i := 41) (oi := { dst := some 173, op := Op.pick (Operand.tmp 138) (Operand.tmp 172) (Operand.const (Value.bool false)), type := 4, pos := "outright.go:61", after := #[{ on := 6, ground := Ground.data }, { on := 40, ground := Ground.data }, { on := 3, ground := Ground.guard }], guard := some (3, false) }) (v := ?_) rfl (by kernel_rfl) (by kernel_rfl) (by kernel_rfl) (fun _ _ _ h => h) (Or.inl ⟨by rfl, ?_⟩) (by assumption) ?_
                  rotate_left
                  · intro W hSW; first | (go_simp; done) | (go_simp; with_reducible rfl)
                  try simp only [Act.put, List.setIfInBounds_toArray, List.set_cons_zero, List.set_cons_succ]
                  refine wpAnyH_take (i := 42) (oi := { dst := some 174, op := Op.pick (Operand.tmp 135) (Operand.const (Value.bool true)) (Operand.tmp 173), type := 4, pos := "outright.go:61", after := #[{ on := 3, ground := Ground.data }, { on := 41, ground := Ground.data }], guard := none }) (v := ?_) rfl (by kernel_rfl) (by kernel_rfl) (by kernel_rfl) (fun _ _ _ h => h) (Or.inl ⟨by rfl, ?_⟩) (by assumption) ?_
                  rotate_left
                  · intro W hSW; first | (go_simp; done) | (go_simp; with_reducible rfl)
                  try simp only [Act.put, List.setIfInBounds_toArray, List.set_cons_zero, List.set_cons_succ]
                  refine wpAnyH_done (by kernel_rfl) ?_ _
                  have hst10 : Below z w7 w9.drew := hst9.out.trans ⟨rfl, rfl, rfl, Nat.le_refl _, fun _ _ => rfl⟩
                  generalize w9.drew = w10 at hst10 ⊢
                  clear hst9 c0 c1' c2 q9
                  go_wp2
                  go_roundw
                  case rel => exact ⟨1, by omega, by go_num, hst10⟩
                  case measure => simp [intOf]; omega
                · obtain ⟨e0, e1, _⟩ := hpre9.out t1 h1
                  have hn9 := hnext.out t1 h1
                  rw [← h1, hf.out] at hn9
                  obtain ⟨f', hf'⟩ : ∃ f', fl.getD t1 noFund = f' := ⟨_, rfl⟩
                  rw [hf'] at e0 e1 hn9
                  have hw1 : IntKind.i64.wrap (t1 : Int) = (t1 : Int) := IntWalk.i64_in _ (by omega)
                  have hw2 : (t : Int) - 1 = (t1 : Int) := by omega
                  have ht0 : decide ((0 : Int) < (t : Int)) = true := decide_eq_true (by omega)
                  have ht1 : (t1 : Int) < (nf : Int) := by omega
                  have ht2 : t1 < nf := by omega
                  clear hf' hpre9 hnext
                  generalize f'.acc = pa at e0 hn9
                  generalize f'.asset = pb at e1 hn9
                  generalize f.acc = ka at c0 hn9 ⊢
                  generalize f.asset = kb at c1' hn9 ⊢
                  rcases hn9 with hn9 | ⟨hn8, hn9⟩
                  · have tl : Op.bytesLess pa.toList ka.toList = true := by rw [less_text]; exact decide_eq_true hn9
                    have te : (pa.toList == ka.toList) = false := text_other (fun e => by rw [(cmpT_zero _ _).2 e] at hn9; exact absurd hn9 (by omega))
                    clear hn9
                    have hRw : Below w9.heap.size w9 w9.drew := ⟨rfl, rfl, rfl, Nat.le_refl _, fun _ _ => rfl⟩
                    refine wp_region_held_drew (S := fun W => Below w9.heap.size w9 W) (by kernel_rfl) hRw (fun hHeld => ?_)
                    refine wpAnyH_take (i := 0) (oi := { dst := some 132, op := Op.fieldAddr 37 (Operand.tmp 15) 2, type := 0, pos := "outright.go:61", after := #[], guard := none }) (v := ?_) rfl (by kernel_rfl) (by kernel_rfl) (by kernel_rfl) (fun _ _ _ h => h) (Or.inl ⟨by rfl, ?_⟩) (by assumption) ?_
                    rotate_left
                    · intro W hSW; first | (go_simp; done) | (go_simp; with_reducible rfl)
                    try simp only [Act.put, List.setIfInBounds_toArray, List.set_cons_zero, List.set_cons_succ]
                    refine wpAnyH_take (i := 1) (oi := { dst := some 133, op := Op.load 3 (Operand.tmp 132), type := 3, pos := "outright.go:61", after := #[{ on := 0, ground := Ground.data }], guard := none }) (v := ?_) rfl (by kernel_rfl) (by kernel_rfl) (by kernel_rfl) (fun _ _ _ h => h) (Or.inl ⟨by rfl, ?_⟩) (by assumption) ?_
                    rotate_left
                    · intro W hSW; have z0 := cell_on hSW c0; have z1 := cell_on hSW c1'; have z2 := cell_on hSW c2; have z3 := cell_on hSW q9; have z4 := cell_on hSW e0; have z5 := cell_on hSW e1; first | (go_simp; done) | (go_simp; with_reducible rfl)
                    try simp only [Act.put, List.setIfInBounds_toArray, List.set_cons_zero, List.set_cons_succ]
                    refine wpAnyH_take (i := 2) (oi := { dst := some 134, op := Op.binOp BinOp.lss 3 (Operand.tmp 133) (Operand.const (Value.int IntKind.i64 1)) 3, type := 4, pos := "outright.go:61", after := #[{ on := 1, ground := Ground.data }], guard := none }) (v := .bool false) rfl (by kernel_rfl) (by kernel_rfl) (by kernel_rfl) (fun _ _ _ h => h) (Or.inl ⟨by rfl, ?_⟩) (by assumption) ?_
                    · intro W hSW; first | (go_simp; done) | (go_simp; with_reducible rfl)
                    try simp only [Act.put, List.setIfInBounds_toArray, List.set_cons_zero, List.set_cons_succ]
                    refine wpAnyH_take (i := 3) (oi := { dst := some 135, op := Op.move (Operand.tmp 134), type := 4, pos := "outright.go:61", after := #[{ on := 2, ground := Ground.data }], guard := none }) (v := ?_) rfl (by kernel_rfl) (by kernel_rfl) (by kernel_rfl) (fun _ _ _ h => h) (Or.inl ⟨by rfl, ?_⟩) (by assumption) ?_
                    rotate_left
                    · intro W hSW; first | (go_simp; done) | (go_simp; with_reducible rfl)
                    try simp only [Act.put, List.setIfInBounds_toArray, List.set_cons_zero, List.set_cons_succ]
                    refine wpAnyH_take (i := 4) (oi := { dst := some 136, op := Op.move (Operand.tmp 14), type := 3, pos := "outright.go:61", after := #[{ on := 3, ground := Ground.guard }], guard := some (3, false) }) (v := ?_) rfl (by kernel_rfl) (by kernel_rfl) (by kernel_rfl) (fun _ _ _ h => h) (Or.inl ⟨by rfl, ?_⟩) (by assumption) ?_
                    rotate_left
                    · intro W hSW; first | (go_simp; done) | (go_simp; with_reducible rfl)
                    try simp only [Act.put, List.setIfInBounds_toArray, List.set_cons_zero, List.set_cons_succ]
                    refine wpAnyH_take (i := 5) (oi := { dst := some 137, op := Op.binOp BinOp.gtr 3 (Operand.tmp 136) (Operand.const (Value.int IntKind.i64 0)) 3, type := 4, pos := "outright.go:61", after := #[{ on := 4, ground := Ground.data }, { on := 3, ground := Ground.guard }], guard := some (3, false) }) (v := .bool true) rfl (by kernel_rfl) (by kernel_rfl) (by kernel_rfl) (fun _ _ _ h => h) (Or.inl ⟨by rfl, ?_⟩) (by assumption) ?_
                    · intro W hSW; first | (go_simp; done) | (go_simp; with_reducible rfl)
                    try simp only [Act.put, List.setIfInBounds_toArray, List.set_cons_zero, List.set_cons_succ]
                    refine wpAnyH_take (i := 6) (oi := { dst := some 138, op := Op.move (Operand.tmp 137), type := 4, pos := "outright.go:61", after := #[{ on := 5, ground := Ground.data }, { on := 3, ground := Ground.chain }, { on := 3, ground := Ground.guard }], guard := some (3, false) }) (v := ?_) rfl (by kernel_rfl) (by kernel_rfl) (by kernel_rfl) (fun _ _ _ h => h) (Or.inl ⟨by rfl, ?_⟩) (by assumption) ?_
                    rotate_left
                    · intro W hSW; first | (go_simp; done) | (go_simp; with_reducible rfl)
                    try simp only [Act.put, List.setIfInBounds_toArray, List.set_cons_zero, List.set_cons_succ]
                    refine wpAnyH_take (i := 7) (oi := { dst := some 139, op := Op.fieldAddr 27 (Operand.tmp 3) 3, type := 0, pos := "outright.go:61", after := #[{ on := 6, ground := Ground.guard }], guard := some (6, true) }) (v := ?_) rfl (by kernel_rfl) (by kernel_rfl) (by kernel_rfl) (fun _ _ _ h => h) (Or.inl ⟨by rfl, ?_⟩) (by assumption) ?_
                    rotate_left
                    · intro W hSW; first | (go_simp; done) | (go_simp; with_reducible rfl)
                    try simp only [Act.put, List.setIfInBounds_toArray, List.set_cons_zero, List.set_cons_succ]
                    refine wpAnyH_take (i := 8) (oi := { dst := some 140, op := Op.load 24 (Operand.tmp 139), type := 24, pos := "outright.go:61", after := #[{ on := 7, ground := Ground.data }, { on := 6, ground := Ground.guard }], guard := some (6, true) }) (v := ?_) rfl (by kernel_rfl) (by kernel_rfl) (by kernel_rfl) (fun _ _ _ h => h) (Or.inl ⟨by rfl, ?_⟩) (by assumption) ?_
                    rotate_left
                    · intro W hSW; have z0 := cell_on hSW c0; have z1 := cell_on hSW c1'; have z2 := cell_on hSW c2; have z3 := cell_on hSW q9; have z4 := cell_on hSW e0; have z5 := cell_on hSW e1; first | (go_simp; done) | (go_simp; with_reducible rfl)
                    try simp only [Act.put, List.setIfInBounds_toArray, List.set_cons_zero, List.set_cons_succ]
                    refine wpAnyH_take (i := 9) (oi := { dst := some 141, op := Op.move (Operand.tmp 14), type := 3, pos := "outright.go:61", after := #[{ on := 6, ground := Ground.guard }], guard := some (6, true) }) (v := ?_) rfl (by kernel_rfl) (by kernel_rfl) (by kernel_rfl) (fun _ _ _ h => h) (Or.inl ⟨by rfl, ?_⟩) (by assumption) ?_
                    rotate_left
                    · intro W hSW; first | (go_simp; done) | (go_simp; with_reducible rfl)
                    try simp only [Act.put, List.setIfInBounds_toArray, List.set_cons_zero, List.set_cons_succ]
                    refine wpAnyH_take (i := 10) (oi := { dst := some 142, op := Op.binOp BinOp.sub 3 (Operand.tmp 141) (Operand.const (Value.int IntKind.i64 1)) 3, type := 3, pos := "outright.go:61", after := #[{ on := 9, ground := Ground.data }, { on := 6, ground := Ground.guard }], guard := some (6, true) }) (v := .int .i64 (t1 : Int)) rfl (by kernel_rfl) (by kernel_rfl) (by kernel_rfl) (fun _ _ _ h => h) (Or.inl ⟨by rfl, ?_⟩) (by assumption) ?_
                    · intro W hSW; first | (go_simp; done) | (go_simp; with_reducible rfl)
                    try simp only [Act.put, List.setIfInBounds_toArray, List.set_cons_zero, List.set_cons_succ]
                    refine wpAnyH_take (i := 11) (oi := { dst := some 143, op := Op.indexAddr 24 (Operand.tmp 140) (Operand.tmp 142), type := 0, pos := "outright.go:61", after := #[{ on := 8, ground := Ground.data }, { on := 10, ground := Ground.data }, { on := 6, ground := Ground.guard }], guard := some (6, true) }) (v := ?_) rfl (by kernel_rfl) (by kernel_rfl) (by kernel_rfl) (fun _ _ _ h => h) (Or.inl ⟨by rfl, ?_⟩) (by assumption) ?_
                    rotate_left
                    · intro W hSW; first | (go_simp; done) | (go_simp; with_reducible rfl)
                    try simp only [Act.put, List.setIfInBounds_toArray, List.set_cons_zero, List.set_cons_succ]
                    refine wpAnyH_take (i := 12) (oi := { dst := some 144, op := Op.fieldAddr 37 (Operand.tmp 143) 0, type := 0, pos := "outright.go:61", after := #[{ on := 11, ground := Ground.data }, { on := 6, ground := Ground.guard }], guard := some (6, true) }) (v := ?_) rfl (by kernel_rfl) (by kernel_rfl) (by kernel_rfl) (fun _ _ _ h => h) (Or.inl ⟨by rfl, ?_⟩) (by assumption) ?_
                    rotate_left
                    · intro W hSW; first | (go_simp; done) | (go_simp; with_reducible rfl)
                    try simp only [Act.put, List.setIfInBounds_toArray, List.set_cons_zero, List.set_cons_succ]
                    refine wpAnyH_take (i := 13) (oi := { dst := some 145, op := Op.load 9 (Operand.tmp 144), type := 9, pos := "outright.go:61", after := #[{ on := 12, ground := Ground.data }, { on := 6, ground := Ground.guard }], guard := some (6, true) }) (v := ?_) rfl (by kernel_rfl) (by kernel_rfl) (by kernel_rfl) (fun _ _ _ h => h) (Or.inl ⟨by rfl, ?_⟩) (by assumption) ?_
                    rotate_left
                    · intro W hSW; have z0 := cell_on hSW c0; have z1 := cell_on hSW c1'; have z2 := cell_on hSW c2; have z3 := cell_on hSW q9; have z4 := cell_on hSW e0; have z5 := cell_on hSW e1; first | (go_simp; done) | (go_simp; with_reducible rfl)
                    try simp only [Act.put, List.setIfInBounds_toArray, List.set_cons_zero, List.set_cons_succ]
                    refine wpAnyH_take (i := 14) (oi := { dst := some 146, op := Op.fieldAddr 37 (Operand.tmp 15) 0, type := 0, pos := "outright.go:61", after := #[{ on := 6, ground := Ground.guard }], guard := some (6, true) }) (v := ?_) rfl (by kernel_rfl) (by kernel_rfl) (by kernel_rfl) (fun _ _ _ h => h) (Or.inl ⟨by rfl, ?_⟩) (by assumption) ?_
                    rotate_left
                    · intro W hSW; first | (go_simp; done) | (go_simp; with_reducible rfl)
                    try simp only [Act.put, List.setIfInBounds_toArray, List.set_cons_zero, List.set_cons_succ]
                    refine wpAnyH_take (i := 15) (oi := { dst := some 147, op := Op.load 9 (Operand.tmp 146), type := 9, pos := "outright.go:61", after := #[{ on := 14, ground := Ground.data }, { on := 6, ground := Ground.guard }], guard := some (6, true) }) (v := ?_) rfl (by kernel_rfl) (by kernel_rfl) (by kernel_rfl) (fun _ _ _ h => h) (Or.inl ⟨by rfl, ?_⟩) (by assumption) ?_
                    rotate_left
                    · intro W hSW; have z0 := cell_on hSW c0; have z1 := cell_on hSW c1'; have z2 := cell_on hSW c2; have z3 := cell_on hSW q9; have z4 := cell_on hSW e0; have z5 := cell_on hSW e1; first | (go_simp; done) | (go_simp; with_reducible rfl)
                    try simp only [Act.put, List.setIfInBounds_toArray, List.set_cons_zero, List.set_cons_succ]
                    refine wpAnyH_take (i := 16) (oi := { dst := some 148, op := Op.binOp BinOp.gtr 9 (Operand.tmp 145) (Operand.tmp 147) 9, type := 4, pos := "outright.go:61", after := #[{ on := 13, ground := Ground.data }, { on := 15, ground := Ground.data }, { on := 6, ground := Ground.guard }], guard := some (6, true) }) (v := .bool false) rfl (by kernel_rfl) (by kernel_rfl) (by kernel_rfl) (fun _ _ _ h => h) (Or.inl ⟨by rfl, ?_⟩) (by assumption) ?_
                    · intro W hSW; first | (go_simp; done) | (go_simp; with_reducible rfl)
                    try simp only [Act.put, List.setIfInBounds_toArray, List.set_cons_zero, List.set_cons_succ]
                    refine wpAnyH_take (i := 17) (oi := { dst := some 149, op := Op.move (Operand.tmp 148), type := 4, pos := "outright.go:61", after := #[{ on := 16, ground := Ground.data }, { on := 6, ground := Ground.chain }, { on := 6, ground := Ground.guard }], guard := some (6, true) }) (v := ?_) rfl (by kernel_rfl) (by kernel_rfl) (by kernel_rfl) (fun _ _ _ h => h) (Or.inl ⟨by rfl, ?_⟩) (by assumption) ?_
                    rotate_left
                    · intro W hSW; first | (go_simp; done) | (go_simp; with_reducible rfl)
                    try simp only [Act.put, List.setIfInBounds_toArray, List.set_cons_zero, List.set_cons_succ]
                    refine wpAnyH_take (i := 18) (oi := { dst := some 150, op := Op.fieldAddr 27 (Operand.tmp 3) 3, type := 0, pos := "outright.go:61", after := #[{ on := 17, ground := Ground.guard }], guard := some (17, false) }) (v := ?_) rfl (by kernel_rfl) (by kernel_rfl) (by kernel_rfl) (fun _ _ _ h => h) (Or.inl ⟨by rfl, ?_⟩) (by assumption) ?_
                    rotate_left
                    · intro W hSW; first | (go_simp; done) | (go_simp; with_reducible rfl)
                    try simp only [Act.put, List.setIfInBounds_toArray, List.set_cons_zero, List.set_cons_succ]
                    refine wpAnyH_take (i := 19) (oi := { dst := some 151, op := Op.load 24 (Operand.tmp 150), type := 24, pos := "outright.go:61", after := #[{ on := 18, ground := Ground.data }, { on := 17, ground := Ground.guard }], guard := some (17, false) }) (v := ?_) rfl (by kernel_rfl) (by kernel_rfl) (by kernel_rfl) (fun _ _ _ h => h) (Or.inl ⟨by rfl, ?_⟩) (by assumption) ?_
                    rotate_left
                    · intro W hSW; have z0 := cell_on hSW c0; have z1 := cell_on hSW c1'; have z2 := cell_on hSW c2; have z3 := cell_on hSW q9; have z4 := cell_on hSW e0; have z5 := cell_on hSW e1; first | (go_simp; done) | (go_simp; with_reducible rfl)
                    try simp only [Act.put, List.setIfInBounds_toArray, List.set_cons_zero, List.set_cons_succ]
                    refine wpAnyH_take (i := 20) (oi := { dst := some 152, op := Op.move (Operand.tmp 14), type := 3, pos := "outright.go:61", after := #[{ on := 17, ground := Ground.guard }], guard := some (17, false) }) (v := ?_) rfl (by kernel_rfl) (by kernel_rfl) (by kernel_rfl) (fun _ _ _ h => h) (Or.inl ⟨by rfl, ?_⟩) (by assumption) ?_
                    rotate_left
                    · intro W hSW; first | (go_simp; done) | (go_simp; with_reducible rfl)
                    try simp only [Act.put, List.setIfInBounds_toArray, List.set_cons_zero, List.set_cons_succ]
                    refine wpAnyH_take (i := 21) (oi := { dst := some 153, op := Op.binOp BinOp.sub 3 (Operand.tmp 152) (Operand.const (Value.int IntKind.i64 1)) 3, type := 3, pos := "outright.go:61", after := #[{ on := 20, ground := Ground.data }, { on := 17, ground := Ground.guard }], guard := some (17, false) }) (v := .int .i64 (t1 : Int)) rfl (by kernel_rfl) (by kernel_rfl) (by kernel_rfl) (fun _ _ _ h => h) (Or.inl ⟨by rfl, ?_⟩) (by assumption) ?_
                    · intro W hSW; first | (go_simp; done) | (go_simp; with_reducible rfl)
                    try simp only [Act.put, List.setIfInBounds_toArray, List.set_cons_zero, List.set_cons_succ]
                    refine wpAnyH_take (i := 22) (oi := { dst := some 154, op := Op.indexAddr 24 (Operand.tmp 151) (Operand.tmp 153), type := 0, pos := "outright.go:61", after := #[{ on := 19, ground := Ground.data }, { on := 21, ground := Ground.data }, { on := 17, ground := Ground.guard }], guard := some (17, false) }) (v := ?_) rfl (by kernel_rfl) (by kernel_rfl) (by kernel_rfl) (fun _ _ _ h => h) (Or.inl ⟨by rfl, ?_⟩) (by assumption) ?_
                    rotate_left
                    · intro W hSW; first | (go_simp; done) | (go_simp; with_reducible rfl)
                    try simp only [Act.put, List.setIfInBounds_toArray, List.set_cons_zero, List.set_cons_succ]
                    refine wpAnyH_take (i := 23) (oi := { dst := some 155, op := Op.fieldAddr 37 (Operand.tmp 154) 0, type := 0, pos := "outright.go:61", after := #[{ on := 22, ground := Ground.data }, { on := 17, ground := Ground.guard }], guard := some (17, false) }) (v := ?_) rfl (by kernel_rfl) (by kernel_rfl) (by kernel_rfl) (fun _ _ _ h => h) (Or.inl ⟨by rfl, ?_⟩) (by assumption) ?_
                    rotate_left
                    · intro W hSW; first | (go_simp; done) | (go_simp; with_reducible rfl)
                    try simp only [Act.put, List.setIfInBounds_toArray, List.set_cons_zero, List.set_cons_succ]
                    refine wpAnyH_take (i := 24) (oi := { dst := some 156, op := Op.load 9 (Operand.tmp 155), type := 9, pos := "outright.go:61", after := #[{ on := 23, ground := Ground.data }, { on := 17, ground := Ground.guard }], guard := some (17, false) }) (v := ?_) rfl (by kernel_rfl) (by kernel_rfl) (by kernel_rfl) (fun _ _ _ h => h) (Or.inl ⟨by rfl, ?_⟩) (by assumption) ?_
                    rotate_left
                    · intro W hSW; have z0 := cell_on hSW c0; have z1 := cell_on hSW c1'; have z2 := cell_on hSW c2; have z3 := cell_on hSW q9; have z4 := cell_on hSW e0; have z5 := cell_on hSW e1; first | (go_simp; done) | (go_simp; with_reducible rfl)
                    try simp only [Act.put, List.setIfInBounds_toArray, List.set_cons_zero, List.set_cons_succ]
                    refine wpAnyH_take (i := 25) (oi := { dst := some 157, op := Op.fieldAddr 37 (Operand.tmp 15) 0, type := 0, pos := "outright.go:61", after := #[{ on := 17, ground := Ground.guard }], guard := some (17, false) }) (v := ?_) rfl (by kernel_rfl) (by kernel_rfl) (by kernel_rfl) (fun _ _ _ h => h) (Or.inl ⟨by rfl, ?_⟩) (by assumption) ?_
                    rotate_left
                    · intro W hSW; first | (go_simp; done) | (go_simp; with_reducible rfl)
                    try simp only [Act.put, List.setIfInBounds_toArray, List.set_cons_zero, List.set_cons_succ]
                    refine wpAnyH_take (i := 26) (oi := { dst := some 158, op := Op.load 9 (Operand.tmp 157), type := 9, pos := "outright.go:61", after := #[{ on := 25, ground := Ground.data }, { on := 17, ground := Ground.guard }], guard := some (17, false) }) (v := ?_) rfl (by kernel_rfl) (by kernel_rfl) (by kernel_rfl) (fun _ _ _ h => h) (Or.inl ⟨by rfl, ?_⟩) (by assumption) ?_
                    rotate_left
                    · intro W hSW; have z0 := cell_on hSW c0; have z1 := cell_on hSW c1'; have z2 := cell_on hSW c2; have z3 := cell_on hSW q9; have z4 := cell_on hSW e0; have z5 := cell_on hSW e1; first | (go_simp; done) | (go_simp; with_reducible rfl)
                    try simp only [Act.put, List.setIfInBounds_toArray, List.set_cons_zero, List.set_cons_succ]
                    refine wpAnyH_take (i := 27) (oi := { dst := some 159, op := Op.binOp BinOp.eql 9 (Operand.tmp 156) (Operand.tmp 158) 9, type := 4, pos := "outright.go:61", after := #[{ on := 24, ground := Ground.data }, { on := 26, ground := Ground.data }, { on := 17, ground := Ground.guard }], guard := some (17, false) }) (v := .bool false) rfl (by kernel_rfl) (by kernel_rfl) (by kernel_rfl) (fun _ _ _ h => h) (Or.inl ⟨by rfl, ?_⟩) (by assumption) ?_
                    · intro W hSW; first | (go_simp; done) | (go_simp; with_reducible rfl)
                    try simp only [Act.put, List.setIfInBounds_toArray, List.set_cons_zero, List.set_cons_succ]
                    refine wpAnyH_take (i := 28) (oi := { dst := some 160, op := Op.move (Operand.tmp 159), type := 4, pos := "outright.go:61", after := #[{ on := 27, ground := Ground.data }, { on := 17, ground := Ground.chain }, { on := 17, ground := Ground.guard }], guard := some (17, false) }) (v := ?_) rfl (by kernel_rfl) (by kernel_rfl) (by kernel_rfl) (fun _ _ _ h => h) (Or.inl ⟨by rfl, ?_⟩) (by assumption) ?_
                    rotate_left
                    · intro W hSW; first | (go_simp; done) | (go_simp; with_reducible rfl)
                    try simp only [Act.put, List.setIfInBounds_toArray, List.set_cons_zero, List.set_cons_succ]
                    refine wpAnyH_take (i := 29) (oi := { dst := some 161, op := Op.fieldAddr 27 (Operand.tmp 3) 3, type := 0, pos := "outright.go:61", after := #[{ on := 28, ground := Ground.guard }], guard := some (28, true) }) (v := undef) rfl (by kernel_rfl) (by kernel_rfl) (by kernel_rfl) (fun _ _ _ h => h) (Or.inr ⟨by rfl, rfl⟩) (by assumption) ?_
                    try simp only [Act.put, List.setIfInBounds_toArray, List.set_cons_zero, List.set_cons_succ]
                    refine wpAnyH_take (i := 30) (oi := { dst := some 162, op := Op.load 24 (Operand.tmp 161), type := 24, pos := "outright.go:61", after := #[{ on := 29, ground := Ground.data }, { on := 28, ground := Ground.guard }], guard := some (28, true) }) (v := undef) rfl (by kernel_rfl) (by kernel_rfl) (by kernel_rfl) (fun _ _ _ h => h) (Or.inr ⟨by rfl, rfl⟩) (by assumption) ?_
                    try simp only [Act.put, List.setIfInBounds_toArray, List.set_cons_zero, List.set_cons_succ]
                    refine wpAnyH_take (i := 31) (oi := { dst := some 163, op := Op.move (Operand.tmp 14), type := 3, pos := "outright.go:61", after := #[{ on := 28, ground := Ground.guard }], guard := some (28, true) }) (v := undef) rfl (by kernel_rfl) (by kernel_rfl) (by kernel_rfl) (fun _ _ _ h => h) (Or.inr ⟨by rfl, rfl⟩) (by assumption) ?_
                    try simp only [Act.put, List.setIfInBounds_toArray, List.set_cons_zero, List.set_cons_succ]
                    refine wpAnyH_take (i := 32) (oi := { dst := some 164, op := Op.binOp BinOp.sub 3 (Operand.tmp 163) (Operand.const (Value.int IntKind.i64 1)) 3, type := 3, pos := "outright.go:61", after := #[{ on := 31, ground := Ground.data }, { on := 28, ground := Ground.guard }], guard := some (28, true) }) (v := undef) rfl (by kernel_rfl) (by kernel_rfl) (by kernel_rfl) (fun _ _ _ h => h) (Or.inr ⟨by rfl, rfl⟩) (by assumption) ?_
                    try simp only [Act.put, List.setIfInBounds_toArray, List.set_cons_zero, List.set_cons_succ]
                    refine wpAnyH_take (i := 33) (oi := { dst := some 165, op := Op.indexAddr 24 (Operand.tmp 162) (Operand.tmp 164), type := 0, pos := "outright.go:61", after := #[{ on := 30, ground := Ground.data }, { on := 32, ground := Ground.data }, { on := 28, ground := Ground.guard }], guard := some (28, true) }) (v := undef) rfl (by kernel_rfl) (by kernel_rfl) (by kernel_rfl) (fun _ _ _ h => h) (Or.inr ⟨by rfl, rfl⟩) (by assumption) ?_
                    try simp only [Act.put, List.setIfInBounds_toArray, List.set_cons_zero, List.set_cons_succ]
                    refine wpAnyH_take (i := 34) (oi := { dst := some 166, op := Op.fieldAddr 37 (Operand.tmp 165) 1, type := 0, pos := "outright.go:61", after := #[{ on := 33, ground := Ground.data }, { on := 28, ground := Ground.guard }], guard := some (28, true) }) (v := undef) rfl (by kernel_rfl) (by kernel_rfl) (by kernel_rfl) (fun _ _ _ h => h) (Or.inr ⟨by rfl, rfl⟩) (by assumption) ?_
                    try simp only [Act.put, List.setIfInBounds_toArray, List.set_cons_zero, List.set_cons_succ]
                    refine wpAnyH_take (i := 35) (oi := { dst := some 167, op := Op.load 9 (Operand.tmp 166), type := 9, pos := "outright.go:61", after := #[{ on := 34, ground := Ground.data }, { on := 28, ground := Ground.guard }], guard := some (28, true) }) (v := undef) rfl (by kernel_rfl) (by kernel_rfl) (by kernel_rfl) (fun _ _ _ h => h) (Or.inr ⟨by rfl, rfl⟩) (by assumption) ?_
                    try simp only [Act.put, List.setIfInBounds_toArray, List.set_cons_zero, List.set_cons_succ]
                    refine wpAnyH_take (i := 36) (oi := { dst := some 168, op := Op.fieldAddr 37 (Operand.tmp 15) 1, type := 0, pos := "outright.go:61", after := #[{ on := 28, ground := Ground.guard }], guard := some (28, true) }) (v := undef) rfl (by kernel_rfl) (by kernel_rfl) (by kernel_rfl) (fun _ _ _ h => h) (Or.inr ⟨by rfl, rfl⟩) (by assumption) ?_
                    try simp only [Act.put, List.setIfInBounds_toArray, List.set_cons_zero, List.set_cons_succ]
                    refine wpAnyH_take (i := 37) (oi := { dst := some 169, op := Op.load 9 (Operand.tmp 168), type := 9, pos := "outright.go:61", after := #[{ on := 36, ground := Ground.data }, { on := 28, ground := Ground.guard }], guard := some (28, true) }) (v := undef) rfl (by kernel_rfl) (by kernel_rfl) (by kernel_rfl) (fun _ _ _ h => h) (Or.inr ⟨by rfl, rfl⟩) (by assumption) ?_
                    try simp only [Act.put, List.setIfInBounds_toArray, List.set_cons_zero, List.set_cons_succ]
                    refine wpAnyH_take (i := 38) (oi := { dst := some 170, op := Op.binOp BinOp.geq 9 (Operand.tmp 167) (Operand.tmp 169) 9, type := 4, pos := "outright.go:61", after := #[{ on := 35, ground := Ground.data }, { on := 37, ground := Ground.data }, { on := 28, ground := Ground.guard }], guard := some (28, true) }) (v := undef) rfl (by kernel_rfl) (by kernel_rfl) (by kernel_rfl) (fun _ _ _ h => h) (Or.inr ⟨by rfl, rfl⟩) (by assumption) ?_
                    try simp only [Act.put, List.setIfInBounds_toArray, List.set_cons_zero, List.set_cons_succ]
                    refine wpAnyH_take (i := 39) (oi := { dst := some 171, op := Op.pick (Operand.tmp 160) (Operand.tmp 170) (Operand.const (Value.bool false)), type := 4, pos := "outright.go:61", after := #[{ on := 28, ground := Ground.data }, { on := 38, ground := Ground.data }, { on := 17, ground := Ground.guard }], guard := some (17, false) }) (v := ?_) rfl (by kernel_rfl) (by kernel_rfl) (by kernel_rfl) (fun _ _ _ h => h) (Or.inl ⟨by rfl, ?_⟩) (by assumption) ?_
                    rotate_left
                    · intro W hSW; first | (go_simp; done) | (go_simp; with_reducible rfl)
                    try simp only [Act.put, List.setIfInBounds_toArray, List.set_cons_zero, List.set_cons_succ]
                    refine wpAnyH_take (i := 40) (oi := { dst := some 172, op := Op.pick (Operand.tmp 149) (Operand.const (Value.bool true)) (Operand.tmp 171), type := 4, pos := "outright.go:61", after := #[{ on := 17, ground := Ground.data }, { on := 39, ground := Ground.data }, { on := 6, ground := Ground.guard }], guard := some (6, true) }) (v := ?_) rfl (by kernel_rfl) (by kernel_rfl) (by kernel_rfl) (fun _ _ _ h => h) (Or.inl ⟨by rfl, ?_⟩) (by assumption) ?_
                    rotate_left
                    · intro W hSW; first | (go_simp; done) | (go_simp; with_reducible rfl)
                    try simp only [Act.put, List.setIfInBounds_toArray, List.set_cons_zero, List.set_cons_succ]
                    refine wpAnyH_take (i := 41) (oi := { dst := some 173, op := Op.pick (Operand.tmp 138) (Operand.tmp 172) (Operand.const (Value.bool false)), type := 4, pos := "outright.go:61", after := #[{ on := 6, ground := Ground.data }, { on := 40, ground := Ground.data }, { on := 3, ground := Ground.guard }], guard := some (3, false) }) (v := ?_) rfl (by kernel_rfl) (by kernel_rfl) (by kernel_rfl) (fun _ _ _ h => h) (Or.inl ⟨by rfl, ?_⟩) (by assumption) ?_
                    rotate_left
                    · intro W hSW; first | (go_simp; done) | (go_simp; with_reducible rfl)
                    try simp only [Act.put, List.setIfInBounds_toArray, List.set_cons_zero, List.set_cons_succ]
                    refine wpAnyH_take (i := 42) (oi := { dst := some 174, op := Op.pick (Operand.tmp 135) (Operand.const (Value.bool true)) (Operand.tmp 173), type := 4, pos := "outright.go:61", after := #[{ on := 3, ground := Ground.data }, { on := 41, ground := Ground.data }], guard := none }) (v := ?_) rfl (by kernel_rfl) (by kernel_rfl) (by kernel_rfl) (fun _ _ _ h => h) (Or.inl ⟨by rfl, ?_⟩) (by assumption) ?_
                    rotate_left
                    · intro W hSW; first | (go_simp; done) | (go_simp; with_reducible rfl)
                    try simp only [Act.put, List.setIfInBounds_toArray, List.set_cons_zero, List.set_cons_succ]
                    refine wpAnyH_done (by kernel_rfl) ?_ _
                    have hst10 : Below z w7 w9.drew := hst9.out.trans ⟨rfl, rfl, rfl, Nat.le_refl _, fun _ _ => rfl⟩
                    generalize w9.drew = w10 at hst10 ⊢
                    clear hst9 c0 c1' c2 q9 e0 e1 hw1 hw2
                    go_wp2
                    go_roundw
                    case rel => exact ⟨t + 1, by omega, by go_num, hst10⟩
                    case measure => simp [intOf]; omega
                  · have tl : Op.bytesLess pa.toList ka.toList = false := by rw [less_text]; exact decide_eq_false (by omega)
                    have te : (pa.toList == ka.toList) = true := text_same ((cmpT_zero _ _).1 hn8)
                    have tl2 : Op.bytesLess pb.toList kb.toList = true := by rw [less_text]; exact decide_eq_true hn9
                    clear hn8 hn9
                    have hRw : Below w9.heap.size w9 w9.drew := ⟨rfl, rfl, rfl, Nat.le_refl _, fun _ _ => rfl⟩
                    refine wp_region_held_drew (S := fun W => Below w9.heap.size w9 W) (by kernel_rfl) hRw (fun hHeld => ?_)
                    refine wpAnyH_take (i := 0) (oi := { dst := some 132, op := Op.fieldAddr 37 (Operand.tmp 15) 2, type := 0, pos := "outright.go:61", after := #[], guard := none }) (v := ?_) rfl (by kernel_rfl) (by kernel_rfl) (by kernel_rfl) (fun _ _ _ h => h) (Or.inl ⟨by rfl, ?_⟩) (by assumption) ?_
                    rotate_left
                    · intro W hSW; first | (go_simp; done) | (go_simp; with_reducible rfl)
                    try simp only [Act.put, List.setIfInBounds_toArray, List.set_cons_zero, List.set_cons_succ]
                    refine wpAnyH_take (i := 1) (oi := { dst := some 133, op := Op.load 3 (Operand.tmp 132), type := 3, pos := "outright.go:61", after := #[{ on := 0, ground := Ground.data }], guard := none }) (v := ?_) rfl (by kernel_rfl) (by kernel_rfl) (by kernel_rfl) (fun _ _ _ h => h) (Or.inl ⟨by rfl, ?_⟩) (by assumption) ?_
                    rotate_left
                    · intro W hSW; have z0 := cell_on hSW c0; have z1 := cell_on hSW c1'; have z2 := cell_on hSW c2; have z3 := cell_on hSW q9; have z4 := cell_on hSW e0; have z5 := cell_on hSW e1; first | (go_simp; done) | (go_simp; with_reducible rfl)
                    try simp only [Act.put, List.setIfInBounds_toArray, List.set_cons_zero, List.set_cons_succ]
                    refine wpAnyH_take (i := 2) (oi := { dst := some 134, op := Op.binOp BinOp.lss 3 (Operand.tmp 133) (Operand.const (Value.int IntKind.i64 1)) 3, type := 4, pos := "outright.go:61", after := #[{ on := 1, ground := Ground.data }], guard := none }) (v := .bool false) rfl (by kernel_rfl) (by kernel_rfl) (by kernel_rfl) (fun _ _ _ h => h) (Or.inl ⟨by rfl, ?_⟩) (by assumption) ?_
                    · intro W hSW; first | (go_simp; done) | (go_simp; with_reducible rfl)
                    try simp only [Act.put, List.setIfInBounds_toArray, List.set_cons_zero, List.set_cons_succ]
                    refine wpAnyH_take (i := 3) (oi := { dst := some 135, op := Op.move (Operand.tmp 134), type := 4, pos := "outright.go:61", after := #[{ on := 2, ground := Ground.data }], guard := none }) (v := ?_) rfl (by kernel_rfl) (by kernel_rfl) (by kernel_rfl) (fun _ _ _ h => h) (Or.inl ⟨by rfl, ?_⟩) (by assumption) ?_
                    rotate_left
                    · intro W hSW; first | (go_simp; done) | (go_simp; with_reducible rfl)
                    try simp only [Act.put, List.setIfInBounds_toArray, List.set_cons_zero, List.set_cons_succ]
                    refine wpAnyH_take (i := 4) (oi := { dst := some 136, op := Op.move (Operand.tmp 14), type := 3, pos := "outright.go:61", after := #[{ on := 3, ground := Ground.guard }], guard := some (3, false) }) (v := ?_) rfl (by kernel_rfl) (by kernel_rfl) (by kernel_rfl) (fun _ _ _ h => h) (Or.inl ⟨by rfl, ?_⟩) (by assumption) ?_
                    rotate_left
                    · intro W hSW; first | (go_simp; done) | (go_simp; with_reducible rfl)
                    try simp only [Act.put, List.setIfInBounds_toArray, List.set_cons_zero, List.set_cons_succ]
                    refine wpAnyH_take (i := 5) (oi := { dst := some 137, op := Op.binOp BinOp.gtr 3 (Operand.tmp 136) (Operand.const (Value.int IntKind.i64 0)) 3, type := 4, pos := "outright.go:61", after := #[{ on := 4, ground := Ground.data }, { on := 3, ground := Ground.guard }], guard := some (3, false) }) (v := .bool true) rfl (by kernel_rfl) (by kernel_rfl) (by kernel_rfl) (fun _ _ _ h => h) (Or.inl ⟨by rfl, ?_⟩) (by assumption) ?_
                    · intro W hSW; first | (go_simp; done) | (go_simp; with_reducible rfl)
                    try simp only [Act.put, List.setIfInBounds_toArray, List.set_cons_zero, List.set_cons_succ]
                    refine wpAnyH_take (i := 6) (oi := { dst := some 138, op := Op.move (Operand.tmp 137), type := 4, pos := "outright.go:61", after := #[{ on := 5, ground := Ground.data }, { on := 3, ground := Ground.chain }, { on := 3, ground := Ground.guard }], guard := some (3, false) }) (v := ?_) rfl (by kernel_rfl) (by kernel_rfl) (by kernel_rfl) (fun _ _ _ h => h) (Or.inl ⟨by rfl, ?_⟩) (by assumption) ?_
                    rotate_left
                    · intro W hSW; first | (go_simp; done) | (go_simp; with_reducible rfl)
                    try simp only [Act.put, List.setIfInBounds_toArray, List.set_cons_zero, List.set_cons_succ]
                    refine wpAnyH_take (i := 7) (oi := { dst := some 139, op := Op.fieldAddr 27 (Operand.tmp 3) 3, type := 0, pos := "outright.go:61", after := #[{ on := 6, ground := Ground.guard }], guard := some (6, true) }) (v := ?_) rfl (by kernel_rfl) (by kernel_rfl) (by kernel_rfl) (fun _ _ _ h => h) (Or.inl ⟨by rfl, ?_⟩) (by assumption) ?_
                    rotate_left
                    · intro W hSW; first | (go_simp; done) | (go_simp; with_reducible rfl)
                    try simp only [Act.put, List.setIfInBounds_toArray, List.set_cons_zero, List.set_cons_succ]
                    refine wpAnyH_take (i := 8) (oi := { dst := some 140, op := Op.load 24 (Operand.tmp 139), type := 24, pos := "outright.go:61", after := #[{ on := 7, ground := Ground.data }, { on := 6, ground := Ground.guard }], guard := some (6, true) }) (v := ?_) rfl (by kernel_rfl) (by kernel_rfl) (by kernel_rfl) (fun _ _ _ h => h) (Or.inl ⟨by rfl, ?_⟩) (by assumption) ?_
                    rotate_left
                    · intro W hSW; have z0 := cell_on hSW c0; have z1 := cell_on hSW c1'; have z2 := cell_on hSW c2; have z3 := cell_on hSW q9; have z4 := cell_on hSW e0; have z5 := cell_on hSW e1; first | (go_simp; done) | (go_simp; with_reducible rfl)
                    try simp only [Act.put, List.setIfInBounds_toArray, List.set_cons_zero, List.set_cons_succ]
                    refine wpAnyH_take (i := 9) (oi := { dst := some 141, op := Op.move (Operand.tmp 14), type := 3, pos := "outright.go:61", after := #[{ on := 6, ground := Ground.guard }], guard := some (6, true) }) (v := ?_) rfl (by kernel_rfl) (by kernel_rfl) (by kernel_rfl) (fun _ _ _ h => h) (Or.inl ⟨by rfl, ?_⟩) (by assumption) ?_
                    rotate_left
                    · intro W hSW; first | (go_simp; done) | (go_simp; with_reducible rfl)
                    try simp only [Act.put, List.setIfInBounds_toArray, List.set_cons_zero, List.set_cons_succ]
                    refine wpAnyH_take (i := 10) (oi := { dst := some 142, op := Op.binOp BinOp.sub 3 (Operand.tmp 141) (Operand.const (Value.int IntKind.i64 1)) 3, type := 3, pos := "outright.go:61", after := #[{ on := 9, ground := Ground.data }, { on := 6, ground := Ground.guard }], guard := some (6, true) }) (v := .int .i64 (t1 : Int)) rfl (by kernel_rfl) (by kernel_rfl) (by kernel_rfl) (fun _ _ _ h => h) (Or.inl ⟨by rfl, ?_⟩) (by assumption) ?_
                    · intro W hSW; first | (go_simp; done) | (go_simp; with_reducible rfl)
                    try simp only [Act.put, List.setIfInBounds_toArray, List.set_cons_zero, List.set_cons_succ]
                    refine wpAnyH_take (i := 11) (oi := { dst := some 143, op := Op.indexAddr 24 (Operand.tmp 140) (Operand.tmp 142), type := 0, pos := "outright.go:61", after := #[{ on := 8, ground := Ground.data }, { on := 10, ground := Ground.data }, { on := 6, ground := Ground.guard }], guard := some (6, true) }) (v := ?_) rfl (by kernel_rfl) (by kernel_rfl) (by kernel_rfl) (fun _ _ _ h => h) (Or.inl ⟨by rfl, ?_⟩) (by assumption) ?_
                    rotate_left
                    · intro W hSW; first | (go_simp; done) | (go_simp; with_reducible rfl)
                    try simp only [Act.put, List.setIfInBounds_toArray, List.set_cons_zero, List.set_cons_succ]
                    refine wpAnyH_take (i := 12) (oi := { dst := some 144, op := Op.fieldAddr 37 (Operand.tmp 143) 0, type := 0, pos := "outright.go:61", after := #[{ on := 11, ground := Ground.data }, { on := 6, ground := Ground.guard }], guard := some (6, true) }) (v := ?_) rfl (by kernel_rfl) (by kernel_rfl) (by kernel_rfl) (fun _ _ _ h => h) (Or.inl ⟨by rfl, ?_⟩) (by assumption) ?_
                    rotate_left
                    · intro W hSW; first | (go_simp; done) | (go_simp; with_reducible rfl)
                    try simp only [Act.put, List.setIfInBounds_toArray, List.set_cons_zero, List.set_cons_succ]
                    refine wpAnyH_take (i := 13) (oi := { dst := some 145, op := Op.load 9 (Operand.tmp 144), type := 9, pos := "outright.go:61", after := #[{ on := 12, ground := Ground.data }, { on := 6, ground := Ground.guard }], guard := some (6, true) }) (v := ?_) rfl (by kernel_rfl) (by kernel_rfl) (by kernel_rfl) (fun _ _ _ h => h) (Or.inl ⟨by rfl, ?_⟩) (by assumption) ?_
                    rotate_left
                    · intro W hSW; have z0 := cell_on hSW c0; have z1 := cell_on hSW c1'; have z2 := cell_on hSW c2; have z3 := cell_on hSW q9; have z4 := cell_on hSW e0; have z5 := cell_on hSW e1; first | (go_simp; done) | (go_simp; with_reducible rfl)
                    try simp only [Act.put, List.setIfInBounds_toArray, List.set_cons_zero, List.set_cons_succ]
                    refine wpAnyH_take (i := 14) (oi := { dst := some 146, op := Op.fieldAddr 37 (Operand.tmp 15) 0, type := 0, pos := "outright.go:61", after := #[{ on := 6, ground := Ground.guard }], guard := some (6, true) }) (v := ?_) rfl (by kernel_rfl) (by kernel_rfl) (by kernel_rfl) (fun _ _ _ h => h) (Or.inl ⟨by rfl, ?_⟩) (by assumption) ?_
                    rotate_left
                    · intro W hSW; first | (go_simp; done) | (go_simp; with_reducible rfl)
                    try simp only [Act.put, List.setIfInBounds_toArray, List.set_cons_zero, List.set_cons_succ]
                    refine wpAnyH_take (i := 15) (oi := { dst := some 147, op := Op.load 9 (Operand.tmp 146), type := 9, pos := "outright.go:61", after := #[{ on := 14, ground := Ground.data }, { on := 6, ground := Ground.guard }], guard := some (6, true) }) (v := ?_) rfl (by kernel_rfl) (by kernel_rfl) (by kernel_rfl) (fun _ _ _ h => h) (Or.inl ⟨by rfl, ?_⟩) (by assumption) ?_
                    rotate_left
                    · intro W hSW; have z0 := cell_on hSW c0; have z1 := cell_on hSW c1'; have z2 := cell_on hSW c2; have z3 := cell_on hSW q9; have z4 := cell_on hSW e0; have z5 := cell_on hSW e1; first | (go_simp; done) | (go_simp; with_reducible rfl)
                    try simp only [Act.put, List.setIfInBounds_toArray, List.set_cons_zero, List.set_cons_succ]
                    refine wpAnyH_take (i := 16) (oi := { dst := some 148, op := Op.binOp BinOp.gtr 9 (Operand.tmp 145) (Operand.tmp 147) 9, type := 4, pos := "outright.go:61", after := #[{ on := 13, ground := Ground.data }, { on := 15, ground := Ground.data }, { on := 6, ground := Ground.guard }], guard := some (6, true) }) (v := .bool false) rfl (by kernel_rfl) (by kernel_rfl) (by kernel_rfl) (fun _ _ _ h => h) (Or.inl ⟨by rfl, ?_⟩) (by assumption) ?_
                    · intro W hSW; first | (go_simp; done) | (go_simp; with_reducible rfl)
                    try simp only [Act.put, List.setIfInBounds_toArray, List.set_cons_zero, List.set_cons_succ]
                    refine wpAnyH_take (i := 17) (oi := { dst := some 149, op := Op.move (Operand.tmp 148), type := 4, pos := "outright.go:61", after := #[{ on := 16, ground := Ground.data }, { on := 6, ground := Ground.chain }, { on := 6, ground := Ground.guard }], guard := some (6, true) }) (v := ?_) rfl (by kernel_rfl) (by kernel_rfl) (by kernel_rfl) (fun _ _ _ h => h) (Or.inl ⟨by rfl, ?_⟩) (by assumption) ?_
                    rotate_left
                    · intro W hSW; first | (go_simp; done) | (go_simp; with_reducible rfl)
                    try simp only [Act.put, List.setIfInBounds_toArray, List.set_cons_zero, List.set_cons_succ]
                    refine wpAnyH_take (i := 18) (oi := { dst := some 150, op := Op.fieldAddr 27 (Operand.tmp 3) 3, type := 0, pos := "outright.go:61", after := #[{ on := 17, ground := Ground.guard }], guard := some (17, false) }) (v := ?_) rfl (by kernel_rfl) (by kernel_rfl) (by kernel_rfl) (fun _ _ _ h => h) (Or.inl ⟨by rfl, ?_⟩) (by assumption) ?_
                    rotate_left
                    · intro W hSW; first | (go_simp; done) | (go_simp; with_reducible rfl)
                    try simp only [Act.put, List.setIfInBounds_toArray, List.set_cons_zero, List.set_cons_succ]
                    refine wpAnyH_take (i := 19) (oi := { dst := some 151, op := Op.load 24 (Operand.tmp 150), type := 24, pos := "outright.go:61", after := #[{ on := 18, ground := Ground.data }, { on := 17, ground := Ground.guard }], guard := some (17, false) }) (v := ?_) rfl (by kernel_rfl) (by kernel_rfl) (by kernel_rfl) (fun _ _ _ h => h) (Or.inl ⟨by rfl, ?_⟩) (by assumption) ?_
                    rotate_left
                    · intro W hSW; have z0 := cell_on hSW c0; have z1 := cell_on hSW c1'; have z2 := cell_on hSW c2; have z3 := cell_on hSW q9; have z4 := cell_on hSW e0; have z5 := cell_on hSW e1; first | (go_simp; done) | (go_simp; with_reducible rfl)
                    try simp only [Act.put, List.setIfInBounds_toArray, List.set_cons_zero, List.set_cons_succ]
                    refine wpAnyH_take (i := 20) (oi := { dst := some 152, op := Op.move (Operand.tmp 14), type := 3, pos := "outright.go:61", after := #[{ on := 17, ground := Ground.guard }], guard := some (17, false) }) (v := ?_) rfl (by kernel_rfl) (by kernel_rfl) (by kernel_rfl) (fun _ _ _ h => h) (Or.inl ⟨by rfl, ?_⟩) (by assumption) ?_
                    rotate_left
                    · intro W hSW; first | (go_simp; done) | (go_simp; with_reducible rfl)
                    try simp only [Act.put, List.setIfInBounds_toArray, List.set_cons_zero, List.set_cons_succ]
                    refine wpAnyH_take (i := 21) (oi := { dst := some 153, op := Op.binOp BinOp.sub 3 (Operand.tmp 152) (Operand.const (Value.int IntKind.i64 1)) 3, type := 3, pos := "outright.go:61", after := #[{ on := 20, ground := Ground.data }, { on := 17, ground := Ground.guard }], guard := some (17, false) }) (v := .int .i64 (t1 : Int)) rfl (by kernel_rfl) (by kernel_rfl) (by kernel_rfl) (fun _ _ _ h => h) (Or.inl ⟨by rfl, ?_⟩) (by assumption) ?_
                    · intro W hSW; first | (go_simp; done) | (go_simp; with_reducible rfl)
                    try simp only [Act.put, List.setIfInBounds_toArray, List.set_cons_zero, List.set_cons_succ]
                    refine wpAnyH_take (i := 22) (oi := { dst := some 154, op := Op.indexAddr 24 (Operand.tmp 151) (Operand.tmp 153), type := 0, pos := "outright.go:61", after := #[{ on := 19, ground := Ground.data }, { on := 21, ground := Ground.data }, { on := 17, ground := Ground.guard }], guard := some (17, false) }) (v := ?_) rfl (by kernel_rfl) (by kernel_rfl) (by kernel_rfl) (fun _ _ _ h => h) (Or.inl ⟨by rfl, ?_⟩) (by assumption) ?_
                    rotate_left
                    · intro W hSW; first | (go_simp; done) | (go_simp; with_reducible rfl)
                    try simp only [Act.put, List.setIfInBounds_toArray, List.set_cons_zero, List.set_cons_succ]
                    refine wpAnyH_take (i := 23) (oi := { dst := some 155, op := Op.fieldAddr 37 (Operand.tmp 154) 0, type := 0, pos := "outright.go:61", after := #[{ on := 22, ground := Ground.data }, { on := 17, ground := Ground.guard }], guard := some (17, false) }) (v := ?_) rfl (by kernel_rfl) (by kernel_rfl) (by kernel_rfl) (fun _ _ _ h => h) (Or.inl ⟨by rfl, ?_⟩) (by assumption) ?_
                    rotate_left
                    · intro W hSW; first | (go_simp; done) | (go_simp; with_reducible rfl)
                    try simp only [Act.put, List.setIfInBounds_toArray, List.set_cons_zero, List.set_cons_succ]
                    refine wpAnyH_take (i := 24) (oi := { dst := some 156, op := Op.load 9 (Operand.tmp 155), type := 9, pos := "outright.go:61", after := #[{ on := 23, ground := Ground.data }, { on := 17, ground := Ground.guard }], guard := some (17, false) }) (v := ?_) rfl (by kernel_rfl) (by kernel_rfl) (by kernel_rfl) (fun _ _ _ h => h) (Or.inl ⟨by rfl, ?_⟩) (by assumption) ?_
                    rotate_left
                    · intro W hSW; have z0 := cell_on hSW c0; have z1 := cell_on hSW c1'; have z2 := cell_on hSW c2; have z3 := cell_on hSW q9; have z4 := cell_on hSW e0; have z5 := cell_on hSW e1; first | (go_simp; done) | (go_simp; with_reducible rfl)
                    try simp only [Act.put, List.setIfInBounds_toArray, List.set_cons_zero, List.set_cons_succ]
                    refine wpAnyH_take (i := 25) (oi := { dst := some 157, op := Op.fieldAddr 37 (Operand.tmp 15) 0, type := 0, pos := "outright.go:61", after := #[{ on := 17, ground := Ground.guard }], guard := some (17, false) }) (v := ?_) rfl (by kernel_rfl) (by kernel_rfl) (by kernel_rfl) (fun _ _ _ h => h) (Or.inl ⟨by rfl, ?_⟩) (by assumption) ?_
                    rotate_left
                    · intro W hSW; first | (go_simp; done) | (go_simp; with_reducible rfl)
                    try simp only [Act.put, List.setIfInBounds_toArray, List.set_cons_zero, List.set_cons_succ]
                    refine wpAnyH_take (i := 26) (oi := { dst := some 158, op := Op.load 9 (Operand.tmp 157), type := 9, pos := "outright.go:61", after := #[{ on := 25, ground := Ground.data }, { on := 17, ground := Ground.guard }], guard := some (17, false) }) (v := ?_) rfl (by kernel_rfl) (by kernel_rfl) (by kernel_rfl) (fun _ _ _ h => h) (Or.inl ⟨by rfl, ?_⟩) (by assumption) ?_
                    rotate_left
                    · intro W hSW; have z0 := cell_on hSW c0; have z1 := cell_on hSW c1'; have z2 := cell_on hSW c2; have z3 := cell_on hSW q9; have z4 := cell_on hSW e0; have z5 := cell_on hSW e1; first | (go_simp; done) | (go_simp; with_reducible rfl)
                    try simp only [Act.put, List.setIfInBounds_toArray, List.set_cons_zero, List.set_cons_succ]
                    refine wpAnyH_take (i := 27) (oi := { dst := some 159, op := Op.binOp BinOp.eql 9 (Operand.tmp 156) (Operand.tmp 158) 9, type := 4, pos := "outright.go:61", after := #[{ on := 24, ground := Ground.data }, { on := 26, ground := Ground.data }, { on := 17, ground := Ground.guard }], guard := some (17, false) }) (v := .bool true) rfl (by kernel_rfl) (by kernel_rfl) (by kernel_rfl) (fun _ _ _ h => h) (Or.inl ⟨by rfl, ?_⟩) (by assumption) ?_
                    · intro W hSW; first | (go_simp; done) | (go_simp; with_reducible rfl)
                    try simp only [Act.put, List.setIfInBounds_toArray, List.set_cons_zero, List.set_cons_succ]
                    refine wpAnyH_take (i := 28) (oi := { dst := some 160, op := Op.move (Operand.tmp 159), type := 4, pos := "outright.go:61", after := #[{ on := 27, ground := Ground.data }, { on := 17, ground := Ground.chain }, { on := 17, ground := Ground.guard }], guard := some (17, false) }) (v := ?_) rfl (by kernel_rfl) (by kernel_rfl) (by kernel_rfl) (fun _ _ _ h => h) (Or.inl ⟨by rfl, ?_⟩) (by assumption) ?_
                    rotate_left
                    · intro W hSW; first | (go_simp; done) | (go_simp; with_reducible rfl)
                    try simp only [Act.put, List.setIfInBounds_toArray, List.set_cons_zero, List.set_cons_succ]
                    refine wpAnyH_take (i := 29) (oi := { dst := some 161, op := Op.fieldAddr 27 (Operand.tmp 3) 3, type := 0, pos := "outright.go:61", after := #[{ on := 28, ground := Ground.guard }], guard := some (28, true) }) (v := ?_) rfl (by kernel_rfl) (by kernel_rfl) (by kernel_rfl) (fun _ _ _ h => h) (Or.inl ⟨by rfl, ?_⟩) (by assumption) ?_
                    rotate_left
                    · intro W hSW; first | (go_simp; done) | (go_simp; with_reducible rfl)
                    try simp only [Act.put, List.setIfInBounds_toArray, List.set_cons_zero, List.set_cons_succ]
                    refine wpAnyH_take (i := 30) (oi := { dst := some 162, op := Op.load 24 (Operand.tmp 161), type := 24, pos := "outright.go:61", after := #[{ on := 29, ground := Ground.data }, { on := 28, ground := Ground.guard }], guard := some (28, true) }) (v := ?_) rfl (by kernel_rfl) (by kernel_rfl) (by kernel_rfl) (fun _ _ _ h => h) (Or.inl ⟨by rfl, ?_⟩) (by assumption) ?_
                    rotate_left
                    · intro W hSW; have z0 := cell_on hSW c0; have z1 := cell_on hSW c1'; have z2 := cell_on hSW c2; have z3 := cell_on hSW q9; have z4 := cell_on hSW e0; have z5 := cell_on hSW e1; first | (go_simp; done) | (go_simp; with_reducible rfl)
                    try simp only [Act.put, List.setIfInBounds_toArray, List.set_cons_zero, List.set_cons_succ]
                    refine wpAnyH_take (i := 31) (oi := { dst := some 163, op := Op.move (Operand.tmp 14), type := 3, pos := "outright.go:61", after := #[{ on := 28, ground := Ground.guard }], guard := some (28, true) }) (v := ?_) rfl (by kernel_rfl) (by kernel_rfl) (by kernel_rfl) (fun _ _ _ h => h) (Or.inl ⟨by rfl, ?_⟩) (by assumption) ?_
                    rotate_left
                    · intro W hSW; first | (go_simp; done) | (go_simp; with_reducible rfl)
                    try simp only [Act.put, List.setIfInBounds_toArray, List.set_cons_zero, List.set_cons_succ]
                    refine wpAnyH_take (i := 32) (oi := { dst := some 164, op := Op.binOp BinOp.sub 3 (Operand.tmp 163) (Operand.const (Value.int IntKind.i64 1)) 3, type := 3, pos := "outright.go:61", after := #[{ on := 31, ground := Ground.data }, { on := 28, ground := Ground.guard }], guard := some (28, true) }) (v := .int .i64 (t1 : Int)) rfl (by kernel_rfl) (by kernel_rfl) (by kernel_rfl) (fun _ _ _ h => h) (Or.inl ⟨by rfl, ?_⟩) (by assumption) ?_
                    · intro W hSW; first | (go_simp; done) | (go_simp; with_reducible rfl)
                    try simp only [Act.put, List.setIfInBounds_toArray, List.set_cons_zero, List.set_cons_succ]
                    refine wpAnyH_take (i := 33) (oi := { dst := some 165, op := Op.indexAddr 24 (Operand.tmp 162) (Operand.tmp 164), type := 0, pos := "outright.go:61", after := #[{ on := 30, ground := Ground.data }, { on := 32, ground := Ground.data }, { on := 28, ground := Ground.guard }], guard := some (28, true) }) (v := ?_) rfl (by kernel_rfl) (by kernel_rfl) (by kernel_rfl) (fun _ _ _ h => h) (Or.inl ⟨by rfl, ?_⟩) (by assumption) ?_
                    rotate_left
                    · intro W hSW; first | (go_simp; done) | (go_simp; with_reducible rfl)
                    try simp only [Act.put, List.setIfInBounds_toArray, List.set_cons_zero, List.set_cons_succ]
                    refine wpAnyH_take (i := 34) (oi := { dst := some 166, op := Op.fieldAddr 37 (Operand.tmp 165) 1, type := 0, pos := "outright.go:61", after := #[{ on := 33, ground := Ground.data }, { on := 28, ground := Ground.guard }], guard := some (28, true) }) (v := ?_) rfl (by kernel_rfl) (by kernel_rfl) (by kernel_rfl) (fun _ _ _ h => h) (Or.inl ⟨by rfl, ?_⟩) (by assumption) ?_
                    rotate_left
                    · intro W hSW; first | (go_simp; done) | (go_simp; with_reducible rfl)
                    try simp only [Act.put, List.setIfInBounds_toArray, List.set_cons_zero, List.set_cons_succ]
                    refine wpAnyH_take (i := 35) (oi := { dst := some 167, op := Op.load 9 (Operand.tmp 166), type := 9, pos := "outright.go:61", after := #[{ on := 34, ground := Ground.data }, { on := 28, ground := Ground.guard }], guard := some (28, true) }) (v := ?_) rfl (by kernel_rfl) (by kernel_rfl) (by kernel_rfl) (fun _ _ _ h => h) (Or.inl ⟨by rfl, ?_⟩) (by assumption) ?_
                    rotate_left
                    · intro W hSW; have z0 := cell_on hSW c0; have z1 := cell_on hSW c1'; have z2 := cell_on hSW c2; have z3 := cell_on hSW q9; have z4 := cell_on hSW e0; have z5 := cell_on hSW e1; first | (go_simp; done) | (go_simp; with_reducible rfl)
                    try simp only [Act.put, List.setIfInBounds_toArray, List.set_cons_zero, List.set_cons_succ]
                    refine wpAnyH_take (i := 36) (oi := { dst := some 168, op := Op.fieldAddr 37 (Operand.tmp 15) 1, type := 0, pos := "outright.go:61", after := #[{ on := 28, ground := Ground.guard }], guard := some (28, true) }) (v := ?_) rfl (by kernel_rfl) (by kernel_rfl) (by kernel_rfl) (fun _ _ _ h => h) (Or.inl ⟨by rfl, ?_⟩) (by assumption) ?_
                    rotate_left
                    · intro W hSW; first | (go_simp; done) | (go_simp; with_reducible rfl)
                    try simp only [Act.put, List.setIfInBounds_toArray, List.set_cons_zero, List.set_cons_succ]
                    refine wpAnyH_take (i := 37) (oi := { dst := some 169, op := Op.load 9 (Operand.tmp 168), type := 9, pos := "outright.go:61", after := #[{ on := 36, ground := Ground.data }, { on := 28, ground := Ground.guard }], guard := some (28, true) }) (v := ?_) rfl (by kernel_rfl) (by kernel_rfl) (by kernel_rfl) (fun _ _ _ h => h) (Or.inl ⟨by rfl, ?_⟩) (by assumption) ?_
                    rotate_left
                    · intro W hSW; have z0 := cell_on hSW c0; have z1 := cell_on hSW c1'; have z2 := cell_on hSW c2; have z3 := cell_on hSW q9; have z4 := cell_on hSW e0; have z5 := cell_on hSW e1; first | (go_simp; done) | (go_simp; with_reducible rfl)
                    try simp only [Act.put, List.setIfInBounds_toArray, List.set_cons_zero, List.set_cons_succ]
                    refine wpAnyH_take (i := 38) (oi := { dst := some 170, op := Op.binOp BinOp.geq 9 (Operand.tmp 167) (Operand.tmp 169) 9, type := 4, pos := "outright.go:61", after := #[{ on := 35, ground := Ground.data }, { on := 37, ground := Ground.data }, { on := 28, ground := Ground.guard }], guard := some (28, true) }) (v := .bool false) rfl (by kernel_rfl) (by kernel_rfl) (by kernel_rfl) (fun _ _ _ h => h) (Or.inl ⟨by rfl, ?_⟩) (by assumption) ?_
                    · intro W hSW; first | (go_simp; done) | (go_simp; with_reducible rfl)
                    try simp only [Act.put, List.setIfInBounds_toArray, List.set_cons_zero, List.set_cons_succ]
                    refine wpAnyH_take (i := 39) (oi := { dst := some 171, op := Op.pick (Operand.tmp 160) (Operand.tmp 170) (Operand.const (Value.bool false)), type := 4, pos := "outright.go:61", after := #[{ on := 28, ground := Ground.data }, { on := 38, ground := Ground.data }, { on := 17, ground := Ground.guard }], guard := some (17, false) }) (v := ?_) rfl (by kernel_rfl) (by kernel_rfl) (by kernel_rfl) (fun _ _ _ h => h) (Or.inl ⟨by rfl, ?_⟩) (by assumption) ?_
                    rotate_left
                    · intro W hSW; first | (go_simp; done) | (go_simp; with_reducible rfl)
                    try simp only [Act.put, List.setIfInBounds_toArray, List.set_cons_zero, List.set_cons_succ]
                    refine wpAnyH_take (i := 40) (oi := { dst := some 172, op := Op.pick (Operand.tmp 149) (Operand.const (Value.bool true)) (Operand.tmp 171), type := 4, pos := "outright.go:61", after := #[{ on := 17, ground := Ground.data }, { on := 39, ground := Ground.data }, { on := 6, ground := Ground.guard }], guard := some (6, true) }) (v := ?_) rfl (by kernel_rfl) (by kernel_rfl) (by kernel_rfl) (fun _ _ _ h => h) (Or.inl ⟨by rfl, ?_⟩) (by assumption) ?_
                    rotate_left
                    · intro W hSW; first | (go_simp; done) | (go_simp; with_reducible rfl)
                    try simp only [Act.put, List.setIfInBounds_toArray, List.set_cons_zero, List.set_cons_succ]
                    refine wpAnyH_take (i := 41) (oi := { dst := some 173, op := Op.pick (Operand.tmp 138) (Operand.tmp 172) (Operand.const (Value.bool false)), type := 4, pos := "outright.go:61", after := #[{ on := 6, ground := Ground.data }, { on := 40, ground := Ground.data }, { on := 3, ground := Ground.guard }], guard := some (3, false) }) (v := ?_) rfl (by kernel_rfl) (by kernel_rfl) (by kernel_rfl) (fun _ _ _ h => h) (Or.inl ⟨by rfl, ?_⟩) (by assumption) ?_
                    rotate_left
                    · intro W hSW; first | (go_simp; done) | (go_simp; with_reducible rfl)
                    try simp only [Act.put, List.setIfInBounds_toArray, List.set_cons_zero, List.set_cons_succ]
                    refine wpAnyH_take (i := 42) (oi := { dst := some 174, op := Op.pick (Operand.tmp 135) (Operand.const (Value.bool true)) (Operand.tmp 173), type := 4, pos := "outright.go:61", after := #[{ on := 3, ground := Ground.data }, { on := 41, ground := Ground.data }], guard := none }) (v := ?_) rfl (by kernel_rfl) (by kernel_rfl) (by kernel_rfl) (fun _ _ _ h => h) (Or.inl ⟨by rfl, ?_⟩) (by assumption) ?_
                    rotate_left
                    · intro W hSW; first | (go_simp; done) | (go_simp; with_reducible rfl)
                    try simp only [Act.put, List.setIfInBounds_toArray, List.set_cons_zero, List.set_cons_succ]
                    refine wpAnyH_done (by kernel_rfl) ?_ _
                    have hst10 : Below z w7 w9.drew := hst9.out.trans ⟨rfl, rfl, rfl, Nat.le_refl _, fun _ _ => rfl⟩
                    generalize w9.drew = w10 at hst10 ⊢
                    clear hst9 c0 c1' c2 q9 e0 e1 hw1 hw2
                    go_wp2
                    go_roundw
                    case rel => exact ⟨t + 1, by omega, by go_num, hst10⟩
                    case measure => simp [intOf]; omega
              · have i1 : ¬ (t : Int) < (nf : Int) := by omega
                have hU9 := hU7.out.below (w' := wr) (by rw [hz.out]; exact hst)
                have hv9 := hv7.out.below hst hpz
                have hB9 : Below g w wr := hB7.out.trans (hst.mono hgz)
                clear hU7 hv7 hB7
                go_wp2
                go_roundw
                case rel => exact ⟨j + 1, c5, M2, by omega, by omega, by go_num, hv9, f5, hU9, HK3, hB9⟩
                case measure => simp [intOf]; omega
        · have j1 : ¬ (j : Int) < (n : Int) := by omega
          have hd : decide ((j : Int) < (n : Int)) = false := decide_eq_false j1
          obtain ⟨aa, fa, ac, fc, k0, k2, _, L⟩ := hUB.reads hvB
          have hna : M.accs.length = 5 := by rw [HK.out.accs]; rfl
          have hnum := HK.out.number
          obtain ⟨b2, o2, rfl, e0⟩ := L.accs.2.2.2 0 (by omega)
          have e0' : wr.cell? ⟨b2, o2, none⟩ = some (.string ⟨#[101]⟩) := by rw [HK.out.accs] at e0; exact e0
          rw [hnum] at k0
          rw [hna] at k2
          clear e0 L hna hnum
          go_wp2_with fail
          refine (awake9_any _).mono ?_
          rintro e w4 ⟨rfl, hb4⟩
          have hB4 : Below g w w4 := hBB.trans (hb4.mono (hg ▸ hBB.size))
          go_wp2
          go_ret
          exact ⟨rfl, hB4⟩
        · have j1 : (j : Int) < (n : Int) := by omega
          have hd : decide ((j : Int) < (n : Int)) = true := decide_eq_true j1
          subst h2
          obtain ⟨aa, fa, ac, fc, k0, k2, _, L⟩ := hUB.reads hvB
          have hna : M.accs.length = 5 := by rw [HK.out.accs]; rfl
          have hnum := HK.out.number
          obtain ⟨b2, o2, rfl, e0⟩ := L.accs.2.2.2 0 (by omega)
          have e0' : wr.cell? ⟨b2, o2, none⟩ = some (.string ⟨#[101]⟩) := by rw [HK.out.accs] at e0; exact e0
          rw [hnum] at k0
          rw [hna] at k2
          clear e0 L hna hnum
          go_wp2_with fail
          refine (awake9_any _).mono ?_
          rintro e w4 ⟨rfl, hb4⟩
          have hB4 : Below g w w4 := hBB.trans (hb4.mono (hg ▸ hBB.size))
          go_wp2
          go_ret
          exact ⟨rfl, hB4⟩

end Go.Proofs.Ytiepkablapjpmaa
