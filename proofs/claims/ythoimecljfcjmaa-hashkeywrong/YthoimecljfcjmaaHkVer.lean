/-
  Package hashkey: verified.
-/
import Derived.Test.YthoimecljfcjmaaZ34
import Derived.Test.YthoimecljfcjmaaOtsOwnV
namespace Go.Proofs.Ythoimecljfcjmaa
open Go.RowKit

theorem verify_all (p m s : ByteArray) (hm : m.size ≤ 1000000) (w : World) :
    Calls Try.prog 49 #[.string p, .string m, .string s] w fun e w' => e = .returned (.bool (verifyOf p.data.toList m.data.toList s.data.toList)) ∧ Below w.heap.size w w' := by
  by_cases hs : s.size = 512
  · exact verify_any p m s hm hs w
  · have h9 := verify_none p m s hs w
    have e : verifyOf p.data.toList m.data.toList s.data.toList = false := by
      unfold verifyOf
      rw [len_list, decide_eq_false hs]; rfl
    rw [e]; exact h9
/-- The public key that a signature is held against. -/
def keyAt (s : SpecM) (K : HkM) (i : Nat) : ByteArray := (s.parties.getD (K.path.getD i 0).toNat noParty).keys.getD K.lock.toNat ByteArray.empty
def verAt (s : SpecM) (K : HkM) (i : Nat) : Bool := verifyOf (keyAt s K i).data.toList (textAt K (i + 1)).data.toList (textAt K i).data.toList

set_option maxRecDepth 10000 in
set_option maxHeartbeats 4000000 in
theorem verified_any {w : World} {v : Value} {s : SpecM} (hv : SpecW w v s) {pa sa : Option Addr} {pc sc : Nat} {K : HkM} (L : HkL w pa sa pc sc K) (hok : specOk s) (hlk : 0 ≤ K.lock ∧ K.lock < (s.leaders.length : Int)) (hpp : ∀ j, j < K.path.length → 0 ≤ K.path.getD j 0 ∧ K.path.getD j 0 < (s.parties.length : Int)) (hp100 : K.path.length ≤ 100) (htx : ∀ i, (textAt K i).size ≤ 1000000) :
    Calls Try.prog 23 #[v, .agg (hcells pa sa pc sc K)] w fun e w' => e = .returned (.bool (told (∀ i, i < K.path.length → verAt s K i = true))) ∧ Below w.heap.size w w' := by
  obtain ⟨cs, rfl, h7⟩ := hv.seven
  obtain ⟨g, hg⟩ : ∃ g, w.heap.size = g := ⟨_, rfl⟩
  rw [hg]
  obtain ⟨r, hr⟩ : ∃ r, told (∀ i, i < K.path.length → verAt s K i = true) = r := ⟨_, rfl⟩
  rw [hr]
  have hno : Hid (∀ i, i < K.path.length → verAt s K i = false → r = false) := fun i hi h => by rw [← hr]; exact told_no (fun k => by rw [k i hi] at h; exact Bool.noConfusion h)
  have hyes : Hid ((∀ i, i < K.path.length → verAt s K i = true) → r = true) := fun h => by rw [← hr]; exact told_yes h
  clear hr
  have HL : Hid (∀ W, Below g w W → HkL W pa sa pc sc K) := fun W hW => L.below (by rw [hg]; exact hW)
  obtain ⟨a1, a2, a3, a4, k1, k2, k3, k4, hcs, LI, hcap⟩ := hv
  injection hcs with hcs
  have HPa : Hid (∀ W, Below g w W → Parties W a1 s.parties) := fun W hW => LI.parties.below (by rw [hg]; exact hW)
  have HX : Hid (∀ W, SvAt W g cs → W.cell? ⟨g, 1, none⟩ = some (.slice a1 s.parties.length k1)) := fun W hW => by
    have h9 : W.heap[g]? = some (.cells (cells7 a1 a2 a3 a4 k1 k2 k3 k4 s) 27 (0, 0)) := by rw [← hcs]; exact hW
    exact (cells7_at h9).2.1
  have hn6 : s.parties.length ≤ 6 := hok.2.2.1.2.1
  have hkl : Hid (∀ i, i < s.parties.length → (s.parties.getD i noParty).keys.length = s.leaders.length) := fun i hi => (hok.2.2.1.2.2 i hi).2.1
  clear hcs LI hcap hok L
  obtain ⟨lk, hlk'⟩ : ∃ n : Nat, K.lock = (n : Int) := ⟨K.lock.toNat, by omega⟩
  have hlkt : K.lock.toNat = lk := by omega
  have hlkl : lk < s.leaders.length := by omega
  have HCh : Hid (∀ W gk (i : Nat), HvAt W gk (hcells pa sa pc sc K) → Below g w W → i ≤ 1000 → Calls Try.prog 70 #[.int .i64 (i : Int), .pointer (some ⟨gk, 0, none⟩)] W fun e w' => e = .returned (.string (textAt K i)) ∧ w' = W) := fun W gk i hx hW hi => chain1_any gk hx (HL.out W hW) i hi
  have HVf : Hid (∀ i W, Calls Try.prog 49 #[.string (keyAt s K i), .string (textAt K (i + 1)), .string (textAt K i)] W fun e w' => e = .returned (.bool (verAt s K i)) ∧ Below W.heap.size W w') := fun i W => verify_all _ _ _ (htx (i + 1)) W
  replace hpp := hide hpp
  clear htx hlk
  go_enter Try.func23, Try.ntmps23
  go_wp2_with (first
    | ((with_reducible refine wpList_at ?_); refine wpList_boxv (by rfl) 27 (.tmp 0) (by rfl) _ (by rfl) ?_; rw [hg]; intro w1 hu1 hz1 hb1; have hx1 : SvAt w1 g cs := hu1; clear hu1)
    | ((with_reducible refine wpList_at ?_); refine wpList_boxv (by rfl) 31 (.tmp 1) (by rfl) _ (by rfl) ?_; rw [hz1]; intro w2 hu2 hz2 hb2; have hy2 : HvAt w2 (g + 1) (hcells pa sa pc sc K) := hu2; clear hu2)
    | ((with_reducible refine wpList_at ?_); refine wpList_loadK (by rfl) (.tmp 3) (by rfl) _ _ (by rfl) hy2 rfl ?_))
  have hx2 := hx1.below (by rw [hz1]; exact hb2)
  have hB2 : Below g w w2 := hb1.trans (hb2.mono (by omega))
  refine chain_any.mono ?_
  rintro e w3 ⟨gk, rfl, hk3, hb3⟩
  have hx3 := hx2.below hb3
  have hy3 := hy2.below hb3 (by omega)
  have hB3 : Below g w w3 := hB2.trans (hb3.mono (by omega))
  obtain ⟨B, hBs⟩ : ∃ B, w3.heap.size = B := ⟨_, rfl⟩
  have hgB : g + 2 ≤ B := by have := hb3.size; omega
  have hkB : gk < B := by rw [← hBs]; exact hk3.lt
  have HS : Hid (∀ W, Below B w3 W → SvAt W g cs ∧ HvAt W (g + 1) (hcells pa sa pc sc K) ∧ HvAt W gk (hcells pa sa pc sc K) ∧ Below g w W) := fun W hW => ⟨hx3.below (by rw [hBs]; exact hW), hy3.below hW (by omega), hk3.below hW hkB, hB3.trans (hW.mono (by omega))⟩
  have q2 := (hcells_at hy3).2.2.1
  clear hx1 hx2 hy2 hx3 hy3 hk3 hb1 hb2 hb3 hB2 hB3 hz1 hz2
  obtain ⟨np, hnp⟩ : ∃ n, K.path.length = n := ⟨_, rfl⟩
  rw [hnp] at q2 hp100 hpp hno hyes
  replace hnp := hide hnp
  replace hBs := hide hBs
  go_wp2_with fail
  clear q2
  go_loopw [13] (fun i wr => ∃ j : Nat, j ≤ np ∧ i = .int .i64 j ∧ Hid (∀ i, i < j → verAt s K i = true) ∧ Below B w3 wr) (fun i _ => np - (intOf i).toNat)
  case atStart => exact ⟨0, by omega, rfl, fun j hj => absurd hj (by omega), Below.refl _ _⟩
  case round =>
    obtain ⟨j, hj, rfl, HO, hB⟩ := hrel
    obtain ⟨hx, hy, hk, hBg⟩ := HS.out wr hB
    by_cases hlt : j < np
    · have j1 : (j : Int) < (np : Int) := by omega
      obtain ⟨b1, o1, hb1, d1⟩ := (HL.out wr hBg).path.2.2.2 j (by rw [hnp.out]; exact hlt)
      subst hb1
      obtain ⟨x, hxp⟩ : ∃ x, K.path.getD j 0 = x := ⟨_, rfl⟩
      rw [hxp] at d1
      obtain ⟨x0, x1⟩ := hpp.out j hlt
      rw [hxp] at x0 x1
      obtain ⟨p, hp⟩ : ∃ p : Nat, x = (p : Int) := ⟨x.toNat, by omega⟩
      subst hp
      have hpn : p < s.parties.length := by omega
      have c1 := HX.out wr hx
      obtain ⟨bp, op, hbp, _, _, ka, kc, e1, hkS⟩ := (HPa.out wr hBg).2 p hpn
      subst hbp
      rw [hkl.out p hpn] at e1 hkS
      obtain ⟨bk, ok, hbk, e2⟩ := hkS.2.2.2 lk hlkl
      subst hbk
      have hkey : (s.parties.getD p noParty).keys.getD lk ByteArray.empty = keyAt s K j := by unfold keyAt; rw [hxp, hlkt]; rfl
      rw [hkey] at e2
      have c0 : wr.cell? ⟨g + 1, 0, none⟩ = some (.int .i64 (lk : Int)) := by rw [← hlk']; exact (hcells_at hy).1
      obtain ⟨nn, hnn⟩ : ∃ n, s.parties.length = n := ⟨_, rfl⟩
      obtain ⟨nl, hnl⟩ : ∃ n, s.leaders.length = n := ⟨_, rfl⟩
      rw [hnn] at c1 hpn
      rw [hnl] at e1
      have hlkl' : lk < nl := by omega
      have hnnm : nn ≤ 6 := by omega
      have hw0 : IntKind.i64.wrap ((j : Int) + 1) = ((j + 1 : Nat) : Int) := by rw [IntWalk.i64_in _ (by omega)]; omega
      have H13 : Hid (∀ W, Below wr.heap.size wr W → Calls Try.prog 70 #[.int .i64 ((j + 1 : Nat) : Int), .pointer (some ⟨gk, 0, none⟩)] W fun e w' => e = .returned (.string (textAt K (j + 1))) ∧ Below W.heap.size W w') := fun W hW => by
        have hWB : Below B w3 W := hB.trans (hW.mono (by have := hB.size; have := hBs.out; omega))
        refine (HCh.out W gk (j + 1) (HS.out W hWB).2.2.1 (HS.out W hWB).2.2.2 (by omega)).mono ?_
        rintro e w' ⟨h1, rfl⟩
        exact ⟨h1, Below.refl _ _⟩
      have H16 : Hid (∀ W, Below wr.heap.size wr W → Calls Try.prog 70 #[.int .i64 (j : Int), .pointer (some ⟨gk, 0, none⟩)] W fun e w' => e = .returned (.string (textAt K j)) ∧ Below W.heap.size W w') := fun W hW => by
        have hWB : Below B w3 W := hB.trans (hW.mono (by have := hB.size; have := hBs.out; omega))
        refine (HCh.out W gk j (HS.out W hWB).2.2.1 (HS.out W hWB).2.2.2 (by omega)).mono ?_
        rintro e w' ⟨h1, rfl⟩
        exact ⟨h1, Below.refl _ _⟩
      have H17 : Hid (∀ W, Below wr.heap.size wr W → Calls Try.prog 49 #[.string (keyAt s K j), .string (textAt K (j + 1)), .string (textAt K j)] W fun e w' => e = .returned (.bool (verAt s K j)) ∧ Below W.heap.size W w') := fun W _ => HVf.out j W
      obtain ⟨t, ht⟩ : ∃ t, verAt s K j = t := ⟨_, rfl⟩
      rw [ht] at H17
      replace ht := hide ht
      generalize hq1 : ((j + 1 : Nat) : Int) = jj at hw0 H13
      generalize textAt K (j + 1) = T1 at H13 H17
      generalize textAt K j = T0 at H16 H17
      generalize keyAt s K j = KK at e2 H17
      replace hxp := hide hxp
      have HQ1 := hide hq1
      clear hkS hkey hx hy hk hBg hnn hnl hq1 x0 x1
      go_upto_region 5 with fail
      have hRw : Below wr.heap.size wr wr.drew := ⟨rfl, rfl, rfl, Nat.le_refl _, fun _ _ => rfl⟩
      refine wp_region_held_drew (S := fun W => Below wr.heap.size wr W) (by kernel_rfl) hRw (fun hHeld => ?_)
      refine wpAnyH_take (i := 0) (oi := { dst := some 18, op := Op.fieldAddr 27 (Operand.tmp 2) 1, type := 0, pos := "hashkey.go:67", after := #[], guard := none }) (v := ?_) rfl (by kernel_rfl) (by kernel_rfl) (by kernel_rfl) (fun _ _ _ h => h) (Or.inl ⟨by rfl, ?_⟩) (by assumption) ?_
      rotate_left
      · intro W hSW; first | (go_simp; done) | (go_simp; with_reducible rfl)
      try simp only [Act.put, List.setIfInBounds_toArray, List.set_cons_zero, List.set_cons_succ]
      refine wpAnyH_take (i := 1) (oi := { dst := some 19, op := Op.load 23 (Operand.tmp 18), type := 23, pos := "hashkey.go:67", after := #[{ on := 0, ground := Ground.data }], guard := none }) (v := ?_) rfl (by kernel_rfl) (by kernel_rfl) (by kernel_rfl) (fun _ _ _ h => h) (Or.inl ⟨by rfl, ?_⟩) (by assumption) ?_
      rotate_left
      · intro W hSW; have z0 := cell_on hSW c1; have z1 := cell_on hSW e1; have z2 := cell_on hSW c0; have z3 := cell_on hSW e2; first | (go_simp; done) | (go_simp; with_reducible rfl)
      try simp only [Act.put, List.setIfInBounds_toArray, List.set_cons_zero, List.set_cons_succ]
      refine wpAnyH_take (i := 2) (oi := { dst := some 20, op := Op.move (Operand.tmp 7), type := 3, pos := "hashkey.go:67", after := #[], guard := none }) (v := ?_) rfl (by kernel_rfl) (by kernel_rfl) (by kernel_rfl) (fun _ _ _ h => h) (Or.inl ⟨by rfl, ?_⟩) (by assumption) ?_
      rotate_left
      · intro W hSW; first | (go_simp; done) | (go_simp; with_reducible rfl)
      try simp only [Act.put, List.setIfInBounds_toArray, List.set_cons_zero, List.set_cons_succ]
      refine wpAnyH_take (i := 3) (oi := { dst := some 21, op := Op.indexAddr 23 (Operand.tmp 19) (Operand.tmp 20), type := 0, pos := "hashkey.go:67", after := #[{ on := 1, ground := Ground.data }, { on := 2, ground := Ground.data }], guard := none }) (v := ?_) rfl (by kernel_rfl) (by kernel_rfl) (by kernel_rfl) (fun _ _ _ h => h) (Or.inl ⟨by rfl, ?_⟩) (by assumption) ?_
      rotate_left
      · intro W hSW; first | (go_simp; done) | (go_simp; with_reducible rfl)
      try simp only [Act.put, List.setIfInBounds_toArray, List.set_cons_zero, List.set_cons_succ]
      refine wpAnyH_take (i := 4) (oi := { dst := some 22, op := Op.fieldAddr 52 (Operand.tmp 21) 1, type := 0, pos := "hashkey.go:67", after := #[{ on := 3, ground := Ground.data }], guard := none }) (v := ?_) rfl (by kernel_rfl) (by kernel_rfl) (by kernel_rfl) (fun _ _ _ h => h) (Or.inl ⟨by rfl, ?_⟩) (by assumption) ?_
      rotate_left
      · intro W hSW; first | (go_simp; done) | (go_simp; with_reducible rfl)
      try simp only [Act.put, List.setIfInBounds_toArray, List.set_cons_zero, List.set_cons_succ]
      refine wpAnyH_take (i := 5) (oi := { dst := some 23, op := Op.load 25 (Operand.tmp 22), type := 25, pos := "hashkey.go:67", after := #[{ on := 4, ground := Ground.data }], guard := none }) (v := ?_) rfl (by kernel_rfl) (by kernel_rfl) (by kernel_rfl) (fun _ _ _ h => h) (Or.inl ⟨by rfl, ?_⟩) (by assumption) ?_
      rotate_left
      · intro W hSW; have z0 := cell_on hSW c1; have z1 := cell_on hSW e1; have z2 := cell_on hSW c0; have z3 := cell_on hSW e2; first | (go_simp; done) | (go_simp; with_reducible rfl)
      try simp only [Act.put, List.setIfInBounds_toArray, List.set_cons_zero, List.set_cons_succ]
      refine wpAnyH_take (i := 6) (oi := { dst := some 24, op := Op.fieldAddr 31 (Operand.tmp 3) 0, type := 0, pos := "hashkey.go:67", after := #[], guard := none }) (v := ?_) rfl (by kernel_rfl) (by kernel_rfl) (by kernel_rfl) (fun _ _ _ h => h) (Or.inl ⟨by rfl, ?_⟩) (by assumption) ?_
      rotate_left
      · intro W hSW; first | (go_simp; done) | (go_simp; with_reducible rfl)
      try simp only [Act.put, List.setIfInBounds_toArray, List.set_cons_zero, List.set_cons_succ]
      refine wpAnyH_take (i := 7) (oi := { dst := some 25, op := Op.load 3 (Operand.tmp 24), type := 3, pos := "hashkey.go:67", after := #[{ on := 6, ground := Ground.data }], guard := none }) (v := ?_) rfl (by kernel_rfl) (by kernel_rfl) (by kernel_rfl) (fun _ _ _ h => h) (Or.inl ⟨by rfl, ?_⟩) (by assumption) ?_
      rotate_left
      · intro W hSW; have z0 := cell_on hSW c1; have z1 := cell_on hSW e1; have z2 := cell_on hSW c0; have z3 := cell_on hSW e2; first | (go_simp; done) | (go_simp; with_reducible rfl)
      try simp only [Act.put, List.setIfInBounds_toArray, List.set_cons_zero, List.set_cons_succ]
      refine wpAnyH_take (i := 8) (oi := { dst := some 26, op := Op.indexAddr 25 (Operand.tmp 23) (Operand.tmp 25), type := 0, pos := "hashkey.go:67", after := #[{ on := 5, ground := Ground.data }, { on := 7, ground := Ground.data }], guard := none }) (v := ?_) rfl (by kernel_rfl) (by kernel_rfl) (by kernel_rfl) (fun _ _ _ h => h) (Or.inl ⟨by rfl, ?_⟩) (by assumption) ?_
      rotate_left
      · intro W hSW; first | (go_simp; done) | (go_simp; with_reducible rfl)
      try simp only [Act.put, List.setIfInBounds_toArray, List.set_cons_zero, List.set_cons_succ]
      refine wpAnyH_take (i := 9) (oi := { dst := some 27, op := Op.load 9 (Operand.tmp 26), type := 9, pos := "hashkey.go:67", after := #[{ on := 8, ground := Ground.data }], guard := none }) (v := ?_) rfl (by kernel_rfl) (by kernel_rfl) (by kernel_rfl) (fun _ _ _ h => h) (Or.inl ⟨by rfl, ?_⟩) (by assumption) ?_
      rotate_left
      · intro W hSW; have z0 := cell_on hSW c1; have z1 := cell_on hSW e1; have z2 := cell_on hSW c0; have z3 := cell_on hSW e2; first | (go_simp; done) | (go_simp; with_reducible rfl)
      try simp only [Act.put, List.setIfInBounds_toArray, List.set_cons_zero, List.set_cons_succ]
      refine wpAnyH_take (i := 10) (oi := { dst := some 28, op := Op.move (Operand.tmp 5), type := 40, pos := "hashkey.go:67", after := #[], guard := none }) (v := ?_) rfl (by kernel_rfl) (by kernel_rfl) (by kernel_rfl) (fun _ _ _ h => h) (Or.inl ⟨by rfl, ?_⟩) (by assumption) ?_
      rotate_left
      · intro W hSW; first | (go_simp; done) | (go_simp; with_reducible rfl)
      try simp only [Act.put, List.setIfInBounds_toArray, List.set_cons_zero, List.set_cons_succ]
      refine wpAnyH_take (i := 11) (oi := { dst := some 29, op := Op.move (Operand.tmp 6), type := 3, pos := "hashkey.go:67", after := #[], guard := none }) (v := ?_) rfl (by kernel_rfl) (by kernel_rfl) (by kernel_rfl) (fun _ _ _ h => h) (Or.inl ⟨by rfl, ?_⟩) (by assumption) ?_
      rotate_left
      · intro W hSW; first | (go_simp; done) | (go_simp; with_reducible rfl)
      try simp only [Act.put, List.setIfInBounds_toArray, List.set_cons_zero, List.set_cons_succ]
      refine wpAnyH_take (i := 12) (oi := { dst := some 30, op := Op.binOp BinOp.add 3 (Operand.tmp 29) (Operand.const (Value.int IntKind.i64 1)) 3, type := 3, pos := "hashkey.go:67", after := #[{ on := 11, ground := Ground.data }], guard := none }) (v := ?_) rfl (by kernel_rfl) (by kernel_rfl) (by kernel_rfl) (fun _ _ _ h => h) (Or.inl ⟨by rfl, ?_⟩) (by assumption) ?_
      rotate_left
      · intro W hSW; first | (go_simp; done) | (go_simp; with_reducible rfl)
      try simp only [Act.put, List.setIfInBounds_toArray, List.set_cons_zero, List.set_cons_succ]
      refine wpAnyH_take (i := 14) (oi := { dst := some 32, op := Op.move (Operand.tmp 5), type := 40, pos := "hashkey.go:67", after := #[], guard := none }) (v := ?_) rfl (by kernel_rfl) (by kernel_rfl) (by kernel_rfl) (fun _ _ _ h => h) (Or.inl ⟨by rfl, ?_⟩) (by assumption) ?_
      rotate_left
      · intro W hSW; first | (go_simp; done) | (go_simp; with_reducible rfl)
      try simp only [Act.put, List.setIfInBounds_toArray, List.set_cons_zero, List.set_cons_succ]
      refine wpAnyH_take (i := 15) (oi := { dst := some 33, op := Op.move (Operand.tmp 6), type := 3, pos := "hashkey.go:67", after := #[], guard := none }) (v := ?_) rfl (by kernel_rfl) (by kernel_rfl) (by kernel_rfl) (fun _ _ _ h => h) (Or.inl ⟨by rfl, ?_⟩) (by assumption) ?_
      rotate_left
      · intro W hSW; first | (go_simp; done) | (go_simp; with_reducible rfl)
      try simp only [Act.put, List.setIfInBounds_toArray, List.set_cons_zero, List.set_cons_succ]
      refine wpAnyH_lone (R := fun W => Below wr.heap.size wr W) (i := 13) (oi := { dst := some 31, op := Op.call { callee := Callee.value (Operand.tmp 28), args := #[Operand.tmp 30], argTypes := #[3] }, type := 9, pos := "hashkey.go:67", after := #[{ on := 10, ground := Ground.data }, { on := 12, ground := Ground.data }], guard := none }) (vi := .string T1) (by kernel_rfl) rfl hRw (fun _ h => h) ?_ ?_
      · intro W hW K hK
        go_simp
        refine (H13.out W hW).mono ?_
        rintro e W2 ⟨rfl, hb⟩
        go_wp2_with fail
        exact hK.out _ (below_then hW hb)
      clear hRw hHeld
      intro W9 hRw hHeld
      try simp only [Act.put, List.setIfInBounds_toArray, List.set_cons_zero, List.set_cons_succ]
      refine wpAnyH_lone (R := fun W => Below wr.heap.size wr W) (i := 16) (oi := { dst := some 34, op := Op.call { callee := Callee.value (Operand.tmp 32), args := #[Operand.tmp 33], argTypes := #[3] }, type := 9, pos := "hashkey.go:67", after := #[{ on := 14, ground := Ground.data }, { on := 15, ground := Ground.data }, { on := 13, ground := Ground.chain }], guard := none }) (vi := .string T0) (by kernel_rfl) rfl hRw (fun _ h => h) ?_ ?_
      · intro W hW K hK
        go_simp
        refine (H16.out W hW).mono ?_
        rintro e W2 ⟨rfl, hb⟩
        go_wp2_with fail
        exact hK.out _ (below_then hW hb)
      clear hRw hHeld
      intro W9 hRw hHeld
      try simp only [Act.put, List.setIfInBounds_toArray, List.set_cons_zero, List.set_cons_succ]
      refine wpAnyH_lone (R := fun W => Below wr.heap.size wr W) (i := 17) (oi := { dst := some 35, op := Op.call { callee := Callee.value (Operand.func 49), args := #[Operand.tmp 27, Operand.tmp 31, Operand.tmp 34], argTypes := #[9, 9, 9] }, type := 4, pos := "hashkey.go:67", after := #[{ on := 9, ground := Ground.data }, { on := 13, ground := Ground.data }, { on := 16, ground := Ground.data }, { on := 16, ground := Ground.chain }], guard := none }) (vi := .bool t) (by kernel_rfl) rfl hRw (fun _ h => h) ?_ ?_
      · intro W hW K hK
        go_simp
        refine (H17.out W hW).mono ?_
        rintro e W2 ⟨rfl, hb⟩
        go_wp2_with fail
        exact hK.out _ (below_then hW hb)
      clear hRw hHeld
      intro W9 hRw hHeld
      try simp only [Act.put, List.setIfInBounds_toArray, List.set_cons_zero, List.set_cons_succ]
      refine wpAnyH_take (i := 18) (oi := { dst := some 36, op := Op.unOp UnOp.not 4 (Operand.tmp 35), type := 4, pos := "hashkey.go:67", after := #[{ on := 17, ground := Ground.data }], guard := none }) (v := ?_) rfl (by kernel_rfl) (by kernel_rfl) (by kernel_rfl) (fun _ _ _ h => h) (Or.inl ⟨by rfl, ?_⟩) (by assumption) ?_
      rotate_left
      · intro W hSW; first | (go_simp; done) | (go_simp; with_reducible rfl)
      try simp only [Act.put, List.setIfInBounds_toArray, List.set_cons_zero, List.set_cons_succ]
      refine wpAnyH_done (by kernel_rfl) ?_ _
      have hB9 : Below B w3 W9 := hB.trans (hRw.mono (by have := hB.size; have := hBs.out; omega))
      clear hB hRw hHeld d1 c1 e1 e2 c0 H13 H16 H17
      cases t with
      | true =>
        go_wp2_with fail
        have hq := HQ1.out
        subst hq
        go_roundw
        case rel => exact ⟨j + 1, by omega, by go_num, fun i hi => by
          by_cases h : i < j
          · exact HO.out i h
          · have : i = j := by omega
            subst this; exact ht.out, hB9⟩
        case measure => simp [intOf]; omega
      | false =>
        have hf : Hid (r = false) := hno.out j hlt ht.out
        have hBg := (HS.out W9 hB9).2.2.2
        go_wp2
        go_ret
        exact ⟨ret_bool hf.out.symm, hBg⟩
    · have j1 : ¬ (j : Int) < (np : Int) := by omega
      have hf : Hid (r = true) := hyes.out (fun i hi => HO.out i (by omega))
      clear hx hy hk
      go_wp2
      go_ret
      exact ⟨ret_bool hf.out.symm, hBg⟩

end Go.Proofs.Ythoimecljfcjmaa
