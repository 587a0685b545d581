/-
  The statements' keyed: a swap's locks and keys.
-/
import Derived.Test.YthoimecljfcjmaaZ20
import Derived.Test.YthoimecljfcjmaaArc
import Derived.Deep.RegionHeld3
import Derived.Deep.RegionWith
import Derived.Deep.RegionLaw
import Derived.Deep.DrawnRows
import Derived.Deep.CutRange
import Derived.Deep.CutBlock
import Derived.Handy
namespace Go.Proofs.Ythoimecljfcjmaa
open Go.RowKit
attribute [local go_sem ↓] Go.wp_at_zero Go.wp_at_succ

set_option maxRecDepth 10000 in
set_option maxHeartbeats 4000000 in
theorem keyed_any (id : ByteArray) (v1 v2 : Value) (a3 : Option Addr) (m c3 : Nat) (v4 : Value) (st de : Int) (B : Nat) (P : List PartyM) (w : World) (hv2 : v2.oneCell' = true) (hm : m ≤ 3) (hP : P.length ≤ 6) (hBw : B ≤ w.heap.size)
    (hrow : w.ownsRow B 52 2 v1 P.length (pcells P (List.replicate P.length (.slice none 0 0)))) :
    Calls Try.prog 11 #[.agg (scells id v1 v2 (.slice a3 m c3) v4 st de)] w fun e w' =>
      ∃ v4', e = .returned (.agg (scells id v1 v2 (.slice a3 m c3) v4' st de)) ∧ PRow w' B v1 (withKeys P m) ∧ OwnS w' w.heap.size v4' (locksL m) ∧ w.grownBy w' v1.ownBlock := by
  obtain ⟨g, hg⟩ : ∃ g, w.heap.size = g := ⟨_, rfl⟩
  go_enter Try.func11, Try.ntmps11
  go_upto_region 1 with ((with_reducible refine wpList_at ?_); refine wpList_boxv (by rfl) 27 (.tmp 0) (by rfl) _ (by rfl) ?_; intro w1 hS1 hz1 hb1)
  rw [hg] at hS1 hz1 hb1
  have hal : Below w1.heap.size w1 (w1.alloc (Obj.cells #[Value.string ⟨#[]⟩, Value.slice none 0 0, Value.slice none 0 0, Value.slice none 0 0, Value.slice none 0 0, Value.int IntKind.i64 0, Value.int IntKind.i64 0] 27)) := (Below.refl _ _).alloc (Nat.le_refl _) _
  have hZ2 : SAt (w1.alloc (Obj.cells #[Value.string ⟨#[]⟩, Value.slice none 0 0, Value.slice none 0 0, Value.slice none 0 0, Value.slice none 0 0, Value.int IntKind.i64 0, Value.int IntKind.i64 0] 27)) (g + 1) ⟨#[]⟩ (.slice none 0 0) (.slice none 0 0) (.slice none 0 0) (.slice none 0 0) 0 0 := by
    unfold SAt; rw [← hz1, heap_alloc_new]; rfl
  have hS2 : SAt (w1.alloc (Obj.cells #[Value.string ⟨#[]⟩, Value.slice none 0 0, Value.slice none 0 0, Value.slice none 0 0, Value.slice none 0 0, Value.int IntKind.i64 0, Value.int IntKind.i64 0] 27)) g id v1 v2 (.slice a3 m c3) v4 st de := SAt.below (w := w1) hS1 hal
  have hz2 : (w1.alloc (Obj.cells #[Value.string ⟨#[]⟩, Value.slice none 0 0, Value.slice none 0 0, Value.slice none 0 0, Value.slice none 0 0, Value.int IntKind.i64 0, Value.int IntKind.i64 0] 27)).heap.size = g + 2 := by simp [hz1]
  have hB2 : Below g w (w1.alloc (Obj.cells #[Value.string ⟨#[]⟩, Value.slice none 0 0, Value.slice none 0 0, Value.slice none 0 0, Value.slice none 0 0, Value.int IntKind.i64 0, Value.int IntKind.i64 0] 27)) := hb1.trans (hal.mono (by omega))
  generalize w1.alloc (Obj.cells #[Value.string ⟨#[]⟩, Value.slice none 0 0, Value.slice none 0 0, Value.slice none 0 0, Value.slice none 0 0, Value.int IntKind.i64 0, Value.int IntKind.i64 0] 27) = w2 at hS2 hZ2 hz2 hB2 ⊢
  clear hal hS1 hz1 hb1
  have c4 := hS2.cells.2.2.2.2.1
  have f4 := hS2.frozen 4
  have hS3 := hS2.set4 (.slice none 0 0)
  have hZ3 := hZ2.but (But.setCell w2 g 4 (.slice none 0 0)) (by omega)
  have hz3 : (w2.setCell ⟨g, 4, none⟩ (.slice none 0 0)).heap.size = g + 2 := by simp [World.setCell, hz2]
  have hB3 := hB2.setCell (p := ⟨g, 4, none⟩) (Nat.le_refl _) (.slice none 0 0)
  replace hS3 := hide hS3
  replace hZ3 := hide hZ3
  replace hz3 := hide hz3
  replace hB3 := hide hB3
  clear hS2 hZ2 hz2 hB2
  replace hrow := hide hrow
  go_upto_region 2 with fail
  clear c4 f4
  generalize w2.setCell ⟨g, 4, none⟩ (.slice none 0 0) = w3 at hS3 hZ3 hz3 hB3 ⊢
  replace hS3 := hS3.out
  replace hZ3 := hZ3.out
  replace hz3 := hz3.out
  replace hB3 := hB3.out
  clear w2 w1
  go_wp2_with fail
  go_loopw [3] (fun i wr => ∃ (k : Nat) (v4 : Value), k ≤ m ∧ i = .int .i64 k ∧ SAt wr g id v1 v2 (.slice a3 m c3) v4 st de ∧ SAt wr (g + 1) ⟨#[]⟩ (.slice none 0 0) (.slice none 0 0) (.slice none 0 0) (.slice none 0 0) 0 0 ∧ OwnS wr (g + 2) v4 (locksL k) ∧ Below g w wr ∧ g + 2 ≤ wr.heap.size) (fun i _ => m - (intOf i).toNat)
  case atStart => exact ⟨0, _, by omega, rfl, hS3, hZ3, World.ownsRow_nil _ _ _ _, hB3, by omega⟩
  case round =>
    clear hS3 hZ3 hz3 hB3 w3
    obtain ⟨k, v4, hk, rfl, hS, hZ, hL, hbel, hsz⟩ := hrel
    have c3' := hS.cells.2.2.2.1
    have c4 := hS.cells.2.2.2.2.1
    by_cases hlt : k < m
    · have k1 : (k : Int) < (m : Int) := by omega
      obtain ⟨d, x, hx, HS, HM⟩ := secret_sum k (by omega)
      have hlen := locksL_len k
      obtain ⟨va, vc, rfl⟩ := row_slice hL
      have hlt1 := World.ownsRow.lt hL
      have f4 := hS.frozen 4
      replace hx := hide hx
      replace HS := hide HS
      replace HM := hide HM
      replace hL := hide hL
      replace hS := hide hS
      replace hZ := hide hZ
      replace hlt1 := hide hlt1
      replace hlen := hide hlen
      go_wp2_with fail
      clear c3'
      go_region_law (first
        | (refine step_put1 (st := 25) Try.underlying25 Try.info9 rfl (by decide) (by decide) w6 _ (by rfl) (.tmp 15) (.tmp 19) (by rfl) (g + 2) _ _ _ (by rfl) own6 (by rfl) rfl (by intro u hu; simp at hu; subst hu; rfl) (by rw [hlen.out]; omega) hz6 ?_; intro v7 w7 hown7 hg7; obtain ⟨v7a, v7c, rfl⟩ := row_slice hown7; have hne7 : some g ≠ Value.ownBlock (.slice va (locksL k).length vc) := (fun e => by have := (hlt1.out g e.symm).1; omega); have c7 := hg7.cell c6 hne7; have f7 := grown_frozen hg7 hne7 c6 f6)
        | (go_simp; go_at_call 14; refine (HS.out _).mono ?_; rintro e w5 ⟨rfl, hw5⟩; subst w5; go_wp2_with fail)
        | (go_simp; go_at_call 25; refine (HM.out _).mono ?_; rintro e w6 ⟨rfl, hb6⟩; have hb6' : Below wr.heap.size wr w6 := (⟨hb6.os, hb6.tape, hb6.output, hb6.size, hb6.block⟩); have c6 := cell_on hb6' c4; have f6 := (SAt.below hS.out hb6').frozen 4; have own6 := hL.out.below hb6'; have hz6 : g + 2 ≤ w6.heap.size := Nat.le_trans hsz hb6'.size; have d6 : ∀ o, (w6.alloc o).cell? ⟨g, 4, none⟩ = some (.slice va (locksL k).length vc) := (fun o => cell_on ((Below.refl _ _).alloc (Nat.le_refl _) o) c6); go_wp2_with fail))
      all_goals
        go_wp2
        go_roundw
        case rel =>
          have hS6 : SAt w6 g id v1 v2 (.slice a3 m c3) (.slice va (locksL k).length vc) st de := SAt.below hS.out hb6'
          have hS7 := hS6.grown hg7 hne7
          have hZ6 := SAt.below hZ.out hb6'
          have hne7' : some (g + 1) ≠ Value.ownBlock (.slice va (locksL k).length vc) := fun e => by have := (hlt1.out (g + 1) e.symm).1; omega
          have hZ7 := hZ6.grown hg7 hne7'
          have hset := But.setCell w7 g 4 (.slice v7a ((locksL k).length + 1) v7c)
          have hL7 : OwnS w7 (g + 2) (.slice v7a ((locksL k).length + 1) v7c) (locksL (k + 1)) := by
            rw [locksL_succ, ← hx.out]; unfold OwnS; rw [List.length_append, List.map_append]; exact hown7
          have hB6 : Below g w w6 := hbel.trans (hb6'.mono (by omega))
          have hB7 : Below g w w7 := hB6.grown hg7 (by omega) (fun k hk => by have := (hlt1.out k hk).1; omega)
          have hS8 := hS7.set4 (.slice v7a ((locksL k).length + 1) v7c)
          rw [hlen.out] at *
          refine ⟨k + 1, _, by omega, by go_num, hS8, hZ7.but hset (by omega), hL7.but hset hS7 (by decide), hB7.setCell (Nat.le_refl _) _, ?_⟩
          have h7 := hg7.size
          have h8 := hset.size
          omega
        case measure => simp [intOf]; omega
    · have k1 : ¬ (k : Int) < (m : Int) := by omega
      have hkm : k = m := by omega
      rw [hkm] at hL
      have hL2 : OwnS wr g v4 (locksL m) := hL.base (by omega)
      have hrow2 : wr.ownsRow B 52 2 v1 P.length (pcells P (List.replicate P.length (.slice none 0 0))) := World.ownsRow.kept hrow.out (below_grown (by rw [hg]; exact hbel)) (by cases v1.ownBlock <;> simp)
      have hgr : w.grownBy wr v1.ownBlock := ⟨hbel.os, hbel.tape, hbel.output, hbel.size, fun k hk _ => hbel.block k (by omega)⟩
      have hown0 : ∀ b, v1.ownBlock = some b → B ≤ b ∧ b < g := fun b hb => by rw [← hg]; exact World.ownsRow.lt hrow.out b hb
      replace hL2 := hide hL2
      replace hrow2 := hide hrow2
      replace hgr := hide hgr
      replace hS := hide hS
      replace hZ := hide hZ
      clear hL hbel
      go_wp2_with fail
      clear c3' c4
      go_loopw [4] (fun i wr => ∃ (i' : Nat) (ks : List Value), i' ≤ P.length ∧ i = .int .i64 i' ∧ ks.length = P.length ∧ wr.ownsRow B 52 2 v1 P.length (pcells P ks) ∧ (∀ j, j < i' → OwnS wr B (ks.getD j undef) (keysL j m)) ∧ (∀ j, i' ≤ j → j < P.length → ks.getD j undef = .slice none 0 0) ∧ SAt wr g id v1 v2 (.slice a3 m c3) v4 st de ∧ SAt wr (g + 1) ⟨#[]⟩ (.slice none 0 0) (.slice none 0 0) (.slice none 0 0) (.slice none 0 0) 0 0 ∧ OwnS wr g v4 (locksL m) ∧ w.grownBy wr v1.ownBlock ∧ g + 2 ≤ wr.heap.size) (fun i _ => P.length - (intOf i).toNat)
      case atStart =>
        exact ⟨0, _, by omega, rfl, by simp, hrow2.out, fun j hj => absurd hj (by omega), fun j _ hj => by simp [List.getD_eq_getElem?_getD, hj], hS.out, hZ.out, hL2.out, hgr.out, hsz⟩
      case round =>
        clear hrow2 hS hZ hL2 hgr hsz
        obtain ⟨i, ks, hi, rfl, hks, hrw, hdone, hnil, hS, hZ, hL, hgr, hsz⟩ := hrel
        have c1 := hS.cells.2.1
        have c3' := hS.cells.2.2.2.1
        obtain ⟨a1, c1', rfl⟩ := row_slice hrw
        by_cases hlt : i < P.length
        · have i1 : (i : Int) < (P.length : Int) := by omega
          obtain ⟨gP, rfl, hgP, hcell⟩ : ∃ gP, a1 = some ⟨gP, 0, none⟩ ∧ B ≤ gP ∧ ∀ j, j < P.length * 2 → wr.cell? ⟨gP, j, none⟩ = (pcells P ks)[j]? := by
            obtain ⟨a', c', hv, _, _, hx⟩ := row_at hrw
            injection hv with hv _ _
            subst hv
            exact hx (by omega)
          have hgPg : gP < g := (hown0 gP rfl).2
          have k1 : wr.cell? ⟨gP, i * 2 + 1, none⟩ = some (.slice none 0 0) := by rw [hcell _ (by omega), (pcells_at P ks hks i hlt).2, hnil i (Nat.le_refl _) hlt]
          have f1 := World.ownsRow.frozenAt hrw (i * 2 + 1)
          obtain ⟨hs1, hg1⟩ := World.ownsRow.stored hrw (i * 2 + 1) (.slice none 0 0)
          rw [pcells_set P ks hks i hlt] at hs1
          have hset := But.setCell wr gP (i * 2 + 1) (.slice none 0 0)
          obtain ⟨cP, hcP⟩ := row_type hrw (g := gP) rfl
          have hdone1 : ∀ j, j < i → OwnS (wr.setCell ⟨gP, i * 2 + 1, none⟩ (.slice none 0 0)) B (ks.getD j undef) (keysL j m) := fun j hj => (hdone j hj).but hset hcP (by decide)
          have hS1 := hS.but hset (by omega)
          have hZ1 := hZ.but hset (by omega)
          have hL1 := hL.but hset hcP (by decide)
          have hgr1 : w.grownBy (wr.setCell ⟨gP, i * 2 + 1, none⟩ (.slice none 0 0)) (some gP) := ⟨hgr.os, hgr.tape, hgr.output, by simpa [World.setCell] using hgr.size, fun k hk hne => (hset.block k (Nat.lt_of_lt_of_le hk hgr.size) (fun e => hne (by rw [e]))).trans (hgr.block k hk hne)⟩
          have hz1 : (wr.setCell ⟨gP, i * 2 + 1, none⟩ (.slice none 0 0)).heap.size = wr.heap.size := by simp [World.setCell]
          replace hs1 := hide hs1
          replace hdone1 := hide hdone1
          replace hS1 := hide hS1
          replace hZ1 := hide hZ1
          replace hL1 := hide hL1
          replace hgr1 := hide hgr1
          replace hz1 := hide hz1
          replace hnil := hide hnil
          clear hrw hdone hS hZ hL hgr hg1 hset hcP hcell
          go_upto_region 10 with fail
          clear c1 c3' k1 f1
          generalize wr.setCell ⟨gP, i * 2 + 1, none⟩ (.slice none 0 0) = w4 at hs1 hdone1 hS1 hZ1 hL1 hgr1 hz1 ⊢
          have hsz4 : g + 2 ≤ w4.heap.size := by rw [hz1.out]; exact hsz
          have c3' := hS1.out.cells.2.2.2.1
          obtain ⟨C, hC⟩ : ∃ C, w4.heap.size = C := ⟨_, rfl⟩
          clear hz1 hsz
          go_wp2_with fail
          go_loopw [5] (fun i' wr => ∃ (k : Nat) (kv : Value), k ≤ m ∧ i' = .int .i64 k ∧ wr.ownsRow B 52 2 (.slice (some ⟨gP, 0, none⟩) P.length c1') P.length (pcells P (ks.set i kv)) ∧ OwnS wr C kv (keysL i k) ∧ But gP w4 wr) (fun i' _ => m - (intOf i').toNat)
          case atStart => exact ⟨0, _, by omega, rfl, hs1.out, World.ownsRow_nil _ _ _ _, But.refl _ _⟩
          case round =>
            clear c3'
            obtain ⟨k, kv, hk, rfl, hrw, hkv, hbut⟩ := hrel
            have hSr := hS1.out.but hbut (by omega)
            have c1 := hSr.cells.2.1
            have c3' := hSr.cells.2.2.2.1
            have hCr : C ≤ wr.heap.size := by have := hbut.size; omega
            by_cases hltk : k < m
            · have k1 : (k : Int) < (m : Int) := by omega
              obtain ⟨d, x, hx, HS, HM⟩ := seed_public i k (by omega) (by omega)
              have hlen := keysL_len i k
              obtain ⟨va, vc, rfl⟩ := row_slice hkv
              have hlt1 := World.ownsRow.lt hkv
              have cK : wr.cell? ⟨gP, i * 2 + 1, none⟩ = some (.slice va (keysL i k).length vc) := by
                rw [World.ownsRow.cellAt hrw _ (by omega), (pcells_at P _ (by simpa using hks) i hlt).2]; simp [List.getD_eq_getElem?_getD, hks, hlt]
              have fK := World.ownsRow.frozenAt hrw (i * 2 + 1)
              replace hx := hide hx
              replace HS := hide HS
              replace HM := hide HM
              replace hrw := hide hrw
              replace hkv := hide hkv
              replace hSr := hide hSr
              replace hlt1 := hide hlt1
              replace hlen := hide hlen
              go_wp2_with fail
              clear c3'
              refine wp_region_held_drew (S := fun W => W.cell? ⟨g, 1, none⟩ = some (.slice (some ⟨gP, 0, none⟩) P.length c1')) (by kernel_rfl) c1 (fun hHeld => ?_)
              refine wpAnyH_take (i := 0) (oi := { dst := some 41, op := Op.fieldAddr 27 (Operand.tmp 1) 1, type := 0, pos := "law.go:80", after := #[], guard := none }) (v := ?_) rfl (by kernel_rfl) (by kernel_rfl) (by kernel_rfl) (fun _ _ _ h => h) (Or.inl ⟨by rfl, ?_⟩) (by assumption) ?_
              rotate_left
              · intro W hSW; first | (go_simp; done) | (go_simp; with_reducible rfl)
              try simp only [Act.put, pA, pB, pC]
              refine wpAnyH_take (i := 1) (oi := { dst := some 42, op := Op.load 23 (Operand.tmp 41), type := 23, pos := "law.go:80", after := #[{ on := 0, ground := Ground.data }], guard := none }) (v := ?_) rfl (by kernel_rfl) (by kernel_rfl) (by kernel_rfl) (fun _ _ _ h => h) (Or.inl ⟨by rfl, ?_⟩) (by assumption) ?_
              rotate_left
              · intro W hSW; first | (go_simp; done) | (go_simp; with_reducible rfl)
              try simp only [Act.put, pA, pB, pC]
              refine wpAnyH_take (i := 2) (oi := { dst := some 43, op := Op.move (Operand.tmp 4), type := 3, pos := "law.go:80", after := #[], guard := none }) (v := ?_) rfl (by kernel_rfl) (by kernel_rfl) (by kernel_rfl) (fun _ _ _ h => h) (Or.inl ⟨by rfl, ?_⟩) (by assumption) ?_
              rotate_left
              · intro W hSW; first | (go_simp; done) | (go_simp; with_reducible rfl)
              try simp only [Act.put, pA, pB, pC]
              refine wpAnyH_take (i := 3) (oi := { dst := some 44, op := Op.fieldAddr 27 (Operand.tmp 1) 1, type := 0, pos := "law.go:80", after := #[], guard := none }) (v := ?_) rfl (by kernel_rfl) (by kernel_rfl) (by kernel_rfl) (fun _ _ _ h => h) (Or.inl ⟨by rfl, ?_⟩) (by assumption) ?_
              rotate_left
              · intro W hSW; first | (go_simp; done) | (go_simp; with_reducible rfl)
              try simp only [Act.put, pA, pB, pC]
              refine wpAnyH_take (i := 4) (oi := { dst := some 45, op := Op.load 23 (Operand.tmp 44), type := 23, pos := "law.go:80", after := #[{ on := 3, ground := Ground.data }], guard := none }) (v := ?_) rfl (by kernel_rfl) (by kernel_rfl) (by kernel_rfl) (fun _ _ _ h => h) (Or.inl ⟨by rfl, ?_⟩) (by assumption) ?_
              rotate_left
              · intro W hSW; first | (go_simp; done) | (go_simp; with_reducible rfl)
              try simp only [Act.put, pA, pB, pC]
              refine wpAnyH_take (i := 5) (oi := { dst := some 46, op := Op.move (Operand.tmp 4), type := 3, pos := "law.go:80", after := #[], guard := none }) (v := ?_) rfl (by kernel_rfl) (by kernel_rfl) (by kernel_rfl) (fun _ _ _ h => h) (Or.inl ⟨by rfl, ?_⟩) (by assumption) ?_
              rotate_left
              · intro W hSW; first | (go_simp; done) | (go_simp; with_reducible rfl)
              try simp only [Act.put, pA, pB, pC]
              refine wpAnyH_take (i := 6) (oi := { dst := some 47, op := Op.indexAddr 23 (Operand.tmp 45) (Operand.tmp 46), type := 0, pos := "law.go:80", after := #[{ on := 4, ground := Ground.data }, { on := 5, ground := Ground.data }], guard := none }) (v := ?_) rfl (by kernel_rfl) (by kernel_rfl) (by kernel_rfl) (fun _ _ _ h => h) (Or.inl ⟨by rfl, ?_⟩) (by assumption) ?_
              rotate_left
              · intro W hSW; first | (go_simp; done) | (go_simp; with_reducible rfl)
              try simp only [Act.put, pA, pB, pC]
              refine wpAnyH_take (i := 7) (oi := { dst := some 48, op := Op.fieldAddr 52 (Operand.tmp 47) 1, type := 0, pos := "law.go:80", after := #[{ on := 6, ground := Ground.data }], guard := none }) (v := ?_) rfl (by kernel_rfl) (by kernel_rfl) (by kernel_rfl) (fun _ _ _ h => h) (Or.inl ⟨by rfl, ?_⟩) (by assumption) ?_
              rotate_left
              · intro W hSW; first | (go_simp; done) | (go_simp; with_reducible rfl)
              try simp only [Act.put, pA, pB, pC]
              refine wpAnyH_take (i := 9) (oi := { dst := some 50, op := Op.move (Operand.tmp 4), type := 3, pos := "law.go:80", after := #[], guard := none }) (v := ?_) rfl (by kernel_rfl) (by kernel_rfl) (by kernel_rfl) (fun _ _ _ h => h) (Or.inl ⟨by rfl, ?_⟩) (by assumption) ?_
              rotate_left
              · intro W hSW; first | (go_simp; done) | (go_simp; with_reducible rfl)
              try simp only [Act.put, pA, pB, pC]
              refine wpAnyH_take (i := 11) (oi := { dst := some 52, op := Op.move (Operand.tmp 5), type := 3, pos := "law.go:80", after := #[], guard := none }) (v := ?_) rfl (by kernel_rfl) (by kernel_rfl) (by kernel_rfl) (fun _ _ _ h => h) (Or.inl ⟨by rfl, ?_⟩) (by assumption) ?_
              rotate_left
              · intro W hSW; first | (go_simp; done) | (go_simp; with_reducible rfl)
              try simp only [Act.put, pA, pB, pC]
              refine wpAnyH_ready (rs := [8, 10]) (by kernel_rfl) (by simp) ?_
              refine AllReadyH.cons (o := { dst := some 49, op := Op.load 25 (Operand.tmp 48), type := 25, pos := "law.go:80", after := #[{ on := 7, ground := Ground.data }], guard := none }) rfl (fun K hK => ?_) (AllReadyH.cons (o := { dst := some 51, op := Op.call { callee := Callee.value (Operand.func 15), args := #[Operand.tmp 50], argTypes := #[3] }, type := 9, pos := "law.go:80", after := #[{ on := 9, ground := Ground.data }], guard := none }) rfl (fun K hK => ?_) AllReadyH.nil)
              · go_simp
                refine hK.out _ _ c1 (fun hHeld => ?_)
                clear hK K
                try simp only [Act.put, pA, pB, pC]
                refine wpAnyH_ready (rs := [10]) (by kernel_rfl) (by simp) ?_
                refine AllReadyH.cons (o := { dst := some 51, op := Op.call { callee := Callee.value (Operand.func 15), args := #[Operand.tmp 50], argTypes := #[3] }, type := 9, pos := "law.go:80", after := #[{ on := 9, ground := Ground.data }], guard := none }) rfl (fun K hK => ?_) AllReadyH.nil
                go_simp
                refine (HS.out _).mono ?_
                rintro e w5 ⟨rfl, hw5⟩
                subst w5
                go_wp2_with fail
                refine hK.out _ _ c1 (fun hHeld => ?_)
                clear hK K
                try simp only [Act.put, pA, pB, pC]
                refine wpAnyH_ready (rs := [12]) (by kernel_rfl) (by simp) ?_
                refine AllReadyH.cons (o := { dst := some 53, op := Op.call { callee := Callee.value (Operand.func 28), args := #[Operand.tmp 51, Operand.tmp 52], argTypes := #[9, 3] }, type := 9, pos := "law.go:80", after := #[{ on := 10, ground := Ground.data }, { on := 11, ground := Ground.data }, { on := 10, ground := Ground.chain }], guard := none }) rfl (fun K hK => ?_) AllReadyH.nil
                go_simp
                refine (HM.out _).mono ?_
                rintro e w6 ⟨rfl, hb6⟩
                have hb6' : Below wr.heap.size wr w6 := ⟨hb6.os, hb6.tape, hb6.output, hb6.size, hb6.block⟩
                have c6 := cell_on hb6' cK
                have e6 := cell_on hb6' c1
                have rw6 := World.ownsRow.kept hrw.out (below_grown hb6') (.inr (by show some gP ≠ none; simp))
                have f6 := World.ownsRow.frozenAt rw6 (i * 2 + 1)
                have own6 := hkv.out.below hb6'
                have hz6 : C ≤ w6.heap.size := Nat.le_trans hCr hb6'.size
                have d6 : ∀ o, (w6.alloc o).cell? ⟨gP, i * 2 + 1, none⟩ = some (.slice va (keysL i k).length vc) := fun o => cell_on ((Below.refl _ _).alloc (Nat.le_refl _) o) c6
                have d6' : ∀ o, (w6.alloc o).cell? ⟨g, 1, none⟩ = some (.slice (some ⟨gP, 0, none⟩) P.length c1') := fun o => cell_on ((Below.refl _ _).alloc (Nat.le_refl _) o) e6
                replace own6 := hide own6
                replace rw6 := hide rw6
                go_wp2_with fail
                refine hK.out _ _ e6 (fun hHeld => ?_)
                clear hK K
                try simp only [Act.put, pA, pB, pC]
                refine wpAnyH_ready (rs := [13]) (by kernel_rfl) (by simp) ?_
                refine AllReadyH.cons (o := { dst := some 54, op := Op.buildSlice 25 1 #[(0, Operand.tmp 53)], type := 25, pos := "law.go:80", after := #[{ on := 12, ground := Ground.data }], guard := none }) rfl (fun K hK => ?_) AllReadyH.nil
                go_simp
                refine hK.out _ _ (d6' _) (fun hHeld => ?_)
                clear hK K
                try simp only [Act.put, pA, pB, pC]
                refine wpAnyH_ready (rs := [14]) (by kernel_rfl) (by simp) ?_
                refine AllReadyH.cons (o := { dst := some 55, op := Op.call { callee := Callee.builtin Builtin.append, args := #[Operand.tmp 49, Operand.tmp 54], argTypes := #[25, 25] }, type := 25, pos := "law.go:80", after := #[{ on := 8, ground := Ground.data }, { on := 13, ground := Ground.data }, { on := 12, ground := Ground.chain }], guard := none }) rfl (fun K hK => ?_) AllReadyH.nil
                refine step_put1 (st := 25) Try.underlying25 Try.info9 rfl (by decide) (by decide) w6 _ (by rfl) (.tmp 49) (.tmp 54) (by rfl) C _ _ _ (by rfl) own6.out (by rfl) rfl (by intro u hu; simp at hu; subst hu; rfl) (by rw [hlen.out]; omega) hz6 ?_
                intro v7 w7 hown7 hg7
                obtain ⟨v7a, v7c, rfl⟩ := row_slice hown7
                have hneP : some gP ≠ Value.ownBlock (.slice va (keysL i k).length vc) := fun e => by have := (hlt1.out gP e.symm).1; omega
                have hneg : some g ≠ Value.ownBlock (.slice va (keysL i k).length vc) := fun e => by have := (hlt1.out g e.symm).1; omega
                have c7 := hg7.cell c6 hneP
                have f7 := grown_frozen hg7 hneP c6 f6
                have e7 := hg7.cell e6 hneg
                replace hown7 := hide hown7
                replace hg7 := hide hg7
                refine hK.out _ _ e7 (fun hHeld => ?_)
                clear hK K
                try simp only [Act.put, pA, pB, pC]
                refine wpAnyH_take (i := 15) (oi := { dst := some 56, op := Op.indexAddr 23 (Operand.tmp 42) (Operand.tmp 43), type := 0, pos := "law.go:80", after := #[{ on := 1, ground := Ground.data }, { on := 2, ground := Ground.data }, { on := 0, ground := Ground.phase }, { on := 1, ground := Ground.phase }, { on := 2, ground := Ground.phase }, { on := 3, ground := Ground.phase }, { on := 4, ground := Ground.phase }, { on := 5, ground := Ground.phase }, { on := 6, ground := Ground.phase }, { on := 7, ground := Ground.phase }, { on := 8, ground := Ground.phase }, { on := 9, ground := Ground.phase }, { on := 10, ground := Ground.phase }, { on := 11, ground := Ground.phase }, { on := 12, ground := Ground.phase }, { on := 13, ground := Ground.phase }, { on := 14, ground := Ground.phase }], guard := none }) (v := ?_) rfl (by kernel_rfl) (by kernel_rfl) (by kernel_rfl) (fun _ _ _ h => h) (Or.inl ⟨by rfl, ?_⟩) (by assumption) ?_
                rotate_left
                · intro W hSW; first | (go_simp; done) | (go_simp; with_reducible rfl)
                try simp only [Act.put, pA, pB, pC]
                refine wpAnyH_take (i := 16) (oi := { dst := some 57, op := Op.fieldAddr 52 (Operand.tmp 56) 1, type := 0, pos := "law.go:80", after := #[{ on := 15, ground := Ground.data }, { on := 0, ground := Ground.phase }, { on := 1, ground := Ground.phase }, { on := 2, ground := Ground.phase }, { on := 3, ground := Ground.phase }, { on := 4, ground := Ground.phase }, { on := 5, ground := Ground.phase }, { on := 6, ground := Ground.phase }, { on := 7, ground := Ground.phase }, { on := 8, ground := Ground.phase }, { on := 9, ground := Ground.phase }, { on := 10, ground := Ground.phase }, { on := 11, ground := Ground.phase }, { on := 12, ground := Ground.phase }, { on := 13, ground := Ground.phase }, { on := 14, ground := Ground.phase }], guard := none }) (v := ?_) rfl (by kernel_rfl) (by kernel_rfl) (by kernel_rfl) (fun _ _ _ h => h) (Or.inl ⟨by rfl, ?_⟩) (by assumption) ?_
                rotate_left
                · intro W hSW; first | (go_simp; done) | (go_simp; with_reducible rfl)
                try simp only [Act.put, pA, pB, pC]
                refine wpAnyH_ready (rs := [17]) (by kernel_rfl) (by simp) ?_
                refine AllReadyH.cons (o := { dst := none, op := Op.store 25 (Operand.tmp 57) (Operand.tmp 55), type := 0, pos := "law.go:80", after := #[{ on := 16, ground := Ground.data }, { on := 14, ground := Ground.data }, { on := 14, ground := Ground.chain }, { on := 0, ground := Ground.phase }, { on := 1, ground := Ground.phase }, { on := 2, ground := Ground.phase }, { on := 3, ground := Ground.phase }, { on := 4, ground := Ground.phase }, { on := 5, ground := Ground.phase }, { on := 6, ground := Ground.phase }, { on := 7, ground := Ground.phase }, { on := 8, ground := Ground.phase }, { on := 9, ground := Ground.phase }, { on := 10, ground := Ground.phase }, { on := 11, ground := Ground.phase }, { on := 12, ground := Ground.phase }, { on := 13, ground := Ground.phase }, { on := 14, ground := Ground.phase }], guard := none }) rfl (fun K hK => ?_) AllReadyH.nil
                go_simp
                refine hK.out _ _ ((But.setCell w7 gP (i * 2 + 1) _).cell (show g ≠ gP by omega) e7) (fun hHeld => ?_)
                clear hK K
                try simp only [Act.put, pA, pB, pC]
                refine wpAnyH_done (by kernel_rfl) ?_ _
                go_wp2_with fail
                go_roundw
                case rel =>
                  have rw7 := World.ownsRow.kept rw6.out hg7.out (rows_apart rw6.out own6.out (by decide))
                  obtain ⟨hs8, hg8⟩ := World.ownsRow.stored rw7 (i * 2 + 1) (.slice v7a ((keysL i k).length + 1) v7c)
                  rw [pcells_set P _ (by simpa using hks) i hlt, List.set_set] at hs8
                  have hset := But.setCell w7 gP (i * 2 + 1) (.slice v7a ((keysL i k).length + 1) v7c)
                  obtain ⟨cP, hcP⟩ := row_type rw7 (g := gP) rfl
                  have hK7 : OwnS w7 C (.slice v7a ((keysL i k).length + 1) v7c) (keysL i (k + 1)) := by
                    rw [keysL_succ, ← hx.out]; unfold OwnS; rw [List.length_append, List.map_append]; exact hown7.out
                  have hb4 : But gP w4 w7 := by
                    have h6 : But gP w4 w6 := hbut.trans (But.of_below hb6')
                    refine ⟨hg7.out.os.trans h6.os, hg7.out.tape.trans h6.tape, hg7.out.output.trans h6.output, Nat.le_trans h6.size hg7.out.size, fun b hb hne => (hg7.out.block b (Nat.lt_of_lt_of_le hb h6.size) (fun e => ?_)).trans (h6.block b hb hne)⟩
                    have := (hlt1.out b e.symm).1; omega
                  exact ⟨k + 1, _, by omega, by go_num, hs8, hK7.but hset hcP (by decide), hb4.trans hset⟩
                case measure => simp [intOf]; omega
              · go_simp
                refine (HS.out _).mono ?_
                rintro e w5 ⟨rfl, hw5⟩
                subst w5
                go_wp2_with fail
                refine hK.out _ _ c1 (fun hHeld => ?_)
                clear hK K
                try simp only [Act.put, pA, pB, pC]
                refine wpAnyH_ready (rs := [8, 12]) (by kernel_rfl) (by simp) ?_
                refine AllReadyH.cons (o := { dst := some 49, op := Op.load 25 (Operand.tmp 48), type := 25, pos := "law.go:80", after := #[{ on := 7, ground := Ground.data }], guard := none }) rfl (fun K hK => ?_) (AllReadyH.cons (o := { dst := some 53, op := Op.call { callee := Callee.value (Operand.func 28), args := #[Operand.tmp 51, Operand.tmp 52], argTypes := #[9, 3] }, type := 9, pos := "law.go:80", after := #[{ on := 10, ground := Ground.data }, { on := 11, ground := Ground.data }, { on := 10, ground := Ground.chain }], guard := none }) rfl (fun K hK => ?_) AllReadyH.nil)
                · go_simp
                  refine hK.out _ _ c1 (fun hHeld => ?_)
                  clear hK K
                  try simp only [Act.put, pA, pB, pC]
                  refine wpAnyH_ready (rs := [12]) (by kernel_rfl) (by simp) ?_
                  refine AllReadyH.cons (o := { dst := some 53, op := Op.call { callee := Callee.value (Operand.func 28), args := #[Operand.tmp 51, Operand.tmp 52], argTypes := #[9, 3] }, type := 9, pos := "law.go:80", after := #[{ on := 10, ground := Ground.data }, { on := 11, ground := Ground.data }, { on := 10, ground := Ground.chain }], guard := none }) rfl (fun K hK => ?_) AllReadyH.nil
                  go_simp
                  refine (HM.out _).mono ?_
                  rintro e w6 ⟨rfl, hb6⟩
                  have hb6' : Below wr.heap.size wr w6 := ⟨hb6.os, hb6.tape, hb6.output, hb6.size, hb6.block⟩
                  have c6 := cell_on hb6' cK
                  have e6 := cell_on hb6' c1
                  have rw6 := World.ownsRow.kept hrw.out (below_grown hb6') (.inr (by show some gP ≠ none; simp))
                  have f6 := World.ownsRow.frozenAt rw6 (i * 2 + 1)
                  have own6 := hkv.out.below hb6'
                  have hz6 : C ≤ w6.heap.size := Nat.le_trans hCr hb6'.size
                  have d6 : ∀ o, (w6.alloc o).cell? ⟨gP, i * 2 + 1, none⟩ = some (.slice va (keysL i k).length vc) := fun o => cell_on ((Below.refl _ _).alloc (Nat.le_refl _) o) c6
                  have d6' : ∀ o, (w6.alloc o).cell? ⟨g, 1, none⟩ = some (.slice (some ⟨gP, 0, none⟩) P.length c1') := fun o => cell_on ((Below.refl _ _).alloc (Nat.le_refl _) o) e6
                  replace own6 := hide own6
                  replace rw6 := hide rw6
                  go_wp2_with fail
                  refine hK.out _ _ e6 (fun hHeld => ?_)
                  clear hK K
                  try simp only [Act.put, pA, pB, pC]
                  refine wpAnyH_ready (rs := [13]) (by kernel_rfl) (by simp) ?_
                  refine AllReadyH.cons (o := { dst := some 54, op := Op.buildSlice 25 1 #[(0, Operand.tmp 53)], type := 25, pos := "law.go:80", after := #[{ on := 12, ground := Ground.data }], guard := none }) rfl (fun K hK => ?_) AllReadyH.nil
                  go_simp
                  refine hK.out _ _ (d6' _) (fun hHeld => ?_)
                  clear hK K
                  try simp only [Act.put, pA, pB, pC]
                  refine wpAnyH_ready (rs := [14]) (by kernel_rfl) (by simp) ?_
                  refine AllReadyH.cons (o := { dst := some 55, op := Op.call { callee := Callee.builtin Builtin.append, args := #[Operand.tmp 49, Operand.tmp 54], argTypes := #[25, 25] }, type := 25, pos := "law.go:80", after := #[{ on := 8, ground := Ground.data }, { on := 13, ground := Ground.data }, { on := 12, ground := Ground.chain }], guard := none }) rfl (fun K hK => ?_) AllReadyH.nil
                  refine step_put1 (st := 25) Try.underlying25 Try.info9 rfl (by decide) (by decide) w6 _ (by rfl) (.tmp 49) (.tmp 54) (by rfl) C _ _ _ (by rfl) own6.out (by rfl) rfl (by intro u hu; simp at hu; subst hu; rfl) (by rw [hlen.out]; omega) hz6 ?_
                  intro v7 w7 hown7 hg7
                  obtain ⟨v7a, v7c, rfl⟩ := row_slice hown7
                  have hneP : some gP ≠ Value.ownBlock (.slice va (keysL i k).length vc) := fun e => by have := (hlt1.out gP e.symm).1; omega
                  have hneg : some g ≠ Value.ownBlock (.slice va (keysL i k).length vc) := fun e => by have := (hlt1.out g e.symm).1; omega
                  have c7 := hg7.cell c6 hneP
                  have f7 := grown_frozen hg7 hneP c6 f6
                  have e7 := hg7.cell e6 hneg
                  replace hown7 := hide hown7
                  replace hg7 := hide hg7
                  refine hK.out _ _ e7 (fun hHeld => ?_)
                  clear hK K
                  try simp only [Act.put, pA, pB, pC]
                  refine wpAnyH_take (i := 15) (oi := { dst := some 56, op := Op.indexAddr 23 (Operand.tmp 42) (Operand.tmp 43), type := 0, pos := "law.go:80", after := #[{ on := 1, ground := Ground.data }, { on := 2, ground := Ground.data }, { on := 0, ground := Ground.phase }, { on := 1, ground := Ground.phase }, { on := 2, ground := Ground.phase }, { on := 3, ground := Ground.phase }, { on := 4, ground := Ground.phase }, { on := 5, ground := Ground.phase }, { on := 6, ground := Ground.phase }, { on := 7, ground := Ground.phase }, { on := 8, ground := Ground.phase }, { on := 9, ground := Ground.phase }, { on := 10, ground := Ground.phase }, { on := 11, ground := Ground.phase }, { on := 12, ground := Ground.phase }, { on := 13, ground := Ground.phase }, { on := 14, ground := Ground.phase }], guard := none }) (v := ?_) rfl (by kernel_rfl) (by kernel_rfl) (by kernel_rfl) (fun _ _ _ h => h) (Or.inl ⟨by rfl, ?_⟩) (by assumption) ?_
                  rotate_left
                  · intro W hSW; first | (go_simp; done) | (go_simp; with_reducible rfl)
                  try simp only [Act.put, pA, pB, pC]
                  refine wpAnyH_take (i := 16) (oi := { dst := some 57, op := Op.fieldAddr 52 (Operand.tmp 56) 1, type := 0, pos := "law.go:80", after := #[{ on := 15, ground := Ground.data }, { on := 0, ground := Ground.phase }, { on := 1, ground := Ground.phase }, { on := 2, ground := Ground.phase }, { on := 3, ground := Ground.phase }, { on := 4, ground := Ground.phase }, { on := 5, ground := Ground.phase }, { on := 6, ground := Ground.phase }, { on := 7, ground := Ground.phase }, { on := 8, ground := Ground.phase }, { on := 9, ground := Ground.phase }, { on := 10, ground := Ground.phase }, { on := 11, ground := Ground.phase }, { on := 12, ground := Ground.phase }, { on := 13, ground := Ground.phase }, { on := 14, ground := Ground.phase }], guard := none }) (v := ?_) rfl (by kernel_rfl) (by kernel_rfl) (by kernel_rfl) (fun _ _ _ h => h) (Or.inl ⟨by rfl, ?_⟩) (by assumption) ?_
                  rotate_left
                  · intro W hSW; first | (go_simp; done) | (go_simp; with_reducible rfl)
                  try simp only [Act.put, pA, pB, pC]
                  refine wpAnyH_ready (rs := [17]) (by kernel_rfl) (by simp) ?_
                  refine AllReadyH.cons (o := { dst := none, op := Op.store 25 (Operand.tmp 57) (Operand.tmp 55), type := 0, pos := "law.go:80", after := #[{ on := 16, ground := Ground.data }, { on := 14, ground := Ground.data }, { on := 14, ground := Ground.chain }, { on := 0, ground := Ground.phase }, { on := 1, ground := Ground.phase }, { on := 2, ground := Ground.phase }, { on := 3, ground := Ground.phase }, { on := 4, ground := Ground.phase }, { on := 5, ground := Ground.phase }, { on := 6, ground := Ground.phase }, { on := 7, ground := Ground.phase }, { on := 8, ground := Ground.phase }, { on := 9, ground := Ground.phase }, { on := 10, ground := Ground.phase }, { on := 11, ground := Ground.phase }, { on := 12, ground := Ground.phase }, { on := 13, ground := Ground.phase }, { on := 14, ground := Ground.phase }], guard := none }) rfl (fun K hK => ?_) AllReadyH.nil
                  go_simp
                  refine hK.out _ _ ((But.setCell w7 gP (i * 2 + 1) _).cell (show g ≠ gP by omega) e7) (fun hHeld => ?_)
                  clear hK K
                  try simp only [Act.put, pA, pB, pC]
                  refine wpAnyH_done (by kernel_rfl) ?_ _
                  go_wp2_with fail
                  go_roundw
                  case rel =>
                    have rw7 := World.ownsRow.kept rw6.out hg7.out (rows_apart rw6.out own6.out (by decide))
                    obtain ⟨hs8, hg8⟩ := World.ownsRow.stored rw7 (i * 2 + 1) (.slice v7a ((keysL i k).length + 1) v7c)
                    rw [pcells_set P _ (by simpa using hks) i hlt, List.set_set] at hs8
                    have hset := But.setCell w7 gP (i * 2 + 1) (.slice v7a ((keysL i k).length + 1) v7c)
                    obtain ⟨cP, hcP⟩ := row_type rw7 (g := gP) rfl
                    have hK7 : OwnS w7 C (.slice v7a ((keysL i k).length + 1) v7c) (keysL i (k + 1)) := by
                      rw [keysL_succ, ← hx.out]; unfold OwnS; rw [List.length_append, List.map_append]; exact hown7.out
                    have hb4 : But gP w4 w7 := by
                      have h6 : But gP w4 w6 := hbut.trans (But.of_below hb6')
                      refine ⟨hg7.out.os.trans h6.os, hg7.out.tape.trans h6.tape, hg7.out.output.trans h6.output, Nat.le_trans h6.size hg7.out.size, fun b hb hne => (hg7.out.block b (Nat.lt_of_lt_of_le hb h6.size) (fun e => ?_)).trans (h6.block b hb hne)⟩
                      have := (hlt1.out b e.symm).1; omega
                    exact ⟨k + 1, _, by omega, by go_num, hs8, hK7.but hset hcP (by decide), hb4.trans hset⟩
                  case measure => simp [intOf]; omega
                · go_simp
                  refine (HM.out _).mono ?_
                  rintro e w6 ⟨rfl, hb6⟩
                  have hb6' : Below wr.heap.size wr w6 := ⟨hb6.os, hb6.tape, hb6.output, hb6.size, hb6.block⟩
                  have c6 := cell_on hb6' cK
                  have e6 := cell_on hb6' c1
                  have rw6 := World.ownsRow.kept hrw.out (below_grown hb6') (.inr (by show some gP ≠ none; simp))
                  have f6 := World.ownsRow.frozenAt rw6 (i * 2 + 1)
                  have own6 := hkv.out.below hb6'
                  have hz6 : C ≤ w6.heap.size := Nat.le_trans hCr hb6'.size
                  have d6 : ∀ o, (w6.alloc o).cell? ⟨gP, i * 2 + 1, none⟩ = some (.slice va (keysL i k).length vc) := fun o => cell_on ((Below.refl _ _).alloc (Nat.le_refl _) o) c6
                  have d6' : ∀ o, (w6.alloc o).cell? ⟨g, 1, none⟩ = some (.slice (some ⟨gP, 0, none⟩) P.length c1') := fun o => cell_on ((Below.refl _ _).alloc (Nat.le_refl _) o) e6
                  replace own6 := hide own6
                  replace rw6 := hide rw6
                  go_wp2_with fail
                  refine hK.out _ _ e6 (fun hHeld => ?_)
                  clear hK K
                  try simp only [Act.put, pA, pB, pC]
                  refine wpAnyH_ready (rs := [8, 13]) (by kernel_rfl) (by simp) ?_
                  refine AllReadyH.cons (o := { dst := some 49, op := Op.load 25 (Operand.tmp 48), type := 25, pos := "law.go:80", after := #[{ on := 7, ground := Ground.data }], guard := none }) rfl (fun K hK => ?_) (AllReadyH.cons (o := { dst := some 54, op := Op.buildSlice 25 1 #[(0, Operand.tmp 53)], type := 25, pos := "law.go:80", after := #[{ on := 12, ground := Ground.data }], guard := none }) rfl (fun K hK => ?_) AllReadyH.nil)
                  · go_simp
                    refine hK.out _ _ e6 (fun hHeld => ?_)
                    clear hK K
                    try simp only [Act.put, pA, pB, pC]
                    refine wpAnyH_ready (rs := [13]) (by kernel_rfl) (by simp) ?_
                    refine AllReadyH.cons (o := { dst := some 54, op := Op.buildSlice 25 1 #[(0, Operand.tmp 53)], type := 25, pos := "law.go:80", after := #[{ on := 12, ground := Ground.data }], guard := none }) rfl (fun K hK => ?_) AllReadyH.nil
                    go_simp
                    refine hK.out _ _ (d6' _) (fun hHeld => ?_)
                    clear hK K
                    try simp only [Act.put, pA, pB, pC]
                    refine wpAnyH_ready (rs := [14]) (by kernel_rfl) (by simp) ?_
                    refine AllReadyH.cons (o := { dst := some 55, op := Op.call { callee := Callee.builtin Builtin.append, args := #[Operand.tmp 49, Operand.tmp 54], argTypes := #[25, 25] }, type := 25, pos := "law.go:80", after := #[{ on := 8, ground := Ground.data }, { on := 13, ground := Ground.data }, { on := 12, ground := Ground.chain }], guard := none }) rfl (fun K hK => ?_) AllReadyH.nil
                    refine step_put1 (st := 25) Try.underlying25 Try.info9 rfl (by decide) (by decide) w6 _ (by rfl) (.tmp 49) (.tmp 54) (by rfl) C _ _ _ (by rfl) own6.out (by rfl) rfl (by intro u hu; simp at hu; subst hu; rfl) (by rw [hlen.out]; omega) hz6 ?_
                    intro v7 w7 hown7 hg7
                    obtain ⟨v7a, v7c, rfl⟩ := row_slice hown7
                    have hneP : some gP ≠ Value.ownBlock (.slice va (keysL i k).length vc) := fun e => by have := (hlt1.out gP e.symm).1; omega
                    have hneg : some g ≠ Value.ownBlock (.slice va (keysL i k).length vc) := fun e => by have := (hlt1.out g e.symm).1; omega
                    have c7 := hg7.cell c6 hneP
                    have f7 := grown_frozen hg7 hneP c6 f6
                    have e7 := hg7.cell e6 hneg
                    replace hown7 := hide hown7
                    replace hg7 := hide hg7
                    refine hK.out _ _ e7 (fun hHeld => ?_)
                    clear hK K
                    try simp only [Act.put, pA, pB, pC]
                    refine wpAnyH_take (i := 15) (oi := { dst := some 56, op := Op.indexAddr 23 (Operand.tmp 42) (Operand.tmp 43), type := 0, pos := "law.go:80", after := #[{ on := 1, ground := Ground.data }, { on := 2, ground := Ground.data }, { on := 0, ground := Ground.phase }, { on := 1, ground := Ground.phase }, { on := 2, ground := Ground.phase }, { on := 3, ground := Ground.phase }, { on := 4, ground := Ground.phase }, { on := 5, ground := Ground.phase }, { on := 6, ground := Ground.phase }, { on := 7, ground := Ground.phase }, { on := 8, ground := Ground.phase }, { on := 9, ground := Ground.phase }, { on := 10, ground := Ground.phase }, { on := 11, ground := Ground.phase }, { on := 12, ground := Ground.phase }, { on := 13, ground := Ground.phase }, { on := 14, ground := Ground.phase }], guard := none }) (v := ?_) rfl (by kernel_rfl) (by kernel_rfl) (by kernel_rfl) (fun _ _ _ h => h) (Or.inl ⟨by rfl, ?_⟩) (by assumption) ?_
                    rotate_left
                    · intro W hSW; first | (go_simp; done) | (go_simp; with_reducible rfl)
                    try simp only [Act.put, pA, pB, pC]
                    refine wpAnyH_take (i := 16) (oi := { dst := some 57, op := Op.fieldAddr 52 (Operand.tmp 56) 1, type := 0, pos := "law.go:80", after := #[{ on := 15, ground := Ground.data }, { on := 0, ground := Ground.phase }, { on := 1, ground := Ground.phase }, { on := 2, ground := Ground.phase }, { on := 3, ground := Ground.phase }, { on := 4, ground := Ground.phase }, { on := 5, ground := Ground.phase }, { on := 6, ground := Ground.phase }, { on := 7, ground := Ground.phase }, { on := 8, ground := Ground.phase }, { on := 9, ground := Ground.phase }, { on := 10, ground := Ground.phase }, { on := 11, ground := Ground.phase }, { on := 12, ground := Ground.phase }, { on := 13, ground := Ground.phase }, { on := 14, ground := Ground.phase }], guard := none }) (v := ?_) rfl (by kernel_rfl) (by kernel_rfl) (by kernel_rfl) (fun _ _ _ h => h) (Or.inl ⟨by rfl, ?_⟩) (by assumption) ?_
                    rotate_left
                    · intro W hSW; first | (go_simp; done) | (go_simp; with_reducible rfl)
                    try simp only [Act.put, pA, pB, pC]
                    refine wpAnyH_ready (rs := [17]) (by kernel_rfl) (by simp) ?_
                    refine AllReadyH.cons (o := { dst := none, op := Op.store 25 (Operand.tmp 57) (Operand.tmp 55), type := 0, pos := "law.go:80", after := #[{ on := 16, ground := Ground.data }, { on := 14, ground := Ground.data }, { on := 14, ground := Ground.chain }, { on := 0, ground := Ground.phase }, { on := 1, ground := Ground.phase }, { on := 2, ground := Ground.phase }, { on := 3, ground := Ground.phase }, { on := 4, ground := Ground.phase }, { on := 5, ground := Ground.phase }, { on := 6, ground := Ground.phase }, { on := 7, ground := Ground.phase }, { on := 8, ground := Ground.phase }, { on := 9, ground := Ground.phase }, { on := 10, ground := Ground.phase }, { on := 11, ground := Ground.phase }, { on := 12, ground := Ground.phase }, { on := 13, ground := Ground.phase }, { on := 14, ground := Ground.phase }], guard := none }) rfl (fun K hK => ?_) AllReadyH.nil
                    go_simp
                    refine hK.out _ _ ((But.setCell w7 gP (i * 2 + 1) _).cell (show g ≠ gP by omega) e7) (fun hHeld => ?_)
                    clear hK K
                    try simp only [Act.put, pA, pB, pC]
                    refine wpAnyH_done (by kernel_rfl) ?_ _
                    go_wp2_with fail
                    go_roundw
                    case rel =>
                      have rw7 := World.ownsRow.kept rw6.out hg7.out (rows_apart rw6.out own6.out (by decide))
                      obtain ⟨hs8, hg8⟩ := World.ownsRow.stored rw7 (i * 2 + 1) (.slice v7a ((keysL i k).length + 1) v7c)
                      rw [pcells_set P _ (by simpa using hks) i hlt, List.set_set] at hs8
                      have hset := But.setCell w7 gP (i * 2 + 1) (.slice v7a ((keysL i k).length + 1) v7c)
                      obtain ⟨cP, hcP⟩ := row_type rw7 (g := gP) rfl
                      have hK7 : OwnS w7 C (.slice v7a ((keysL i k).length + 1) v7c) (keysL i (k + 1)) := by
                        rw [keysL_succ, ← hx.out]; unfold OwnS; rw [List.length_append, List.map_append]; exact hown7.out
                      have hb4 : But gP w4 w7 := by
                        have h6 : But gP w4 w6 := hbut.trans (But.of_below hb6')
                        refine ⟨hg7.out.os.trans h6.os, hg7.out.tape.trans h6.tape, hg7.out.output.trans h6.output, Nat.le_trans h6.size hg7.out.size, fun b hb hne => (hg7.out.block b (Nat.lt_of_lt_of_le hb h6.size) (fun e => ?_)).trans (h6.block b hb hne)⟩
                        have := (hlt1.out b e.symm).1; omega
                      exact ⟨k + 1, _, by omega, by go_num, hs8, hK7.but hset hcP (by decide), hb4.trans hset⟩
                    case measure => simp [intOf]; omega
                  · go_simp
                    refine hK.out _ _ (d6' _) (fun hHeld => ?_)
                    clear hK K
                    try simp only [Act.put, pA, pB, pC]
                    refine wpAnyH_ready (rs := [8]) (by kernel_rfl) (by simp) ?_
                    refine AllReadyH.cons (o := { dst := some 49, op := Op.load 25 (Operand.tmp 48), type := 25, pos := "law.go:80", after := #[{ on := 7, ground := Ground.data }], guard := none }) rfl (fun K hK => ?_) AllReadyH.nil
                    go_simp
                    refine hK.out _ _ (d6' _) (fun hHeld => ?_)
                    clear hK K
                    try simp only [Act.put, pA, pB, pC]
                    refine wpAnyH_ready (rs := [14]) (by kernel_rfl) (by simp) ?_
                    refine AllReadyH.cons (o := { dst := some 55, op := Op.call { callee := Callee.builtin Builtin.append, args := #[Operand.tmp 49, Operand.tmp 54], argTypes := #[25, 25] }, type := 25, pos := "law.go:80", after := #[{ on := 8, ground := Ground.data }, { on := 13, ground := Ground.data }, { on := 12, ground := Ground.chain }], guard := none }) rfl (fun K hK => ?_) AllReadyH.nil
                    refine step_put1 (st := 25) Try.underlying25 Try.info9 rfl (by decide) (by decide) w6 _ (by rfl) (.tmp 49) (.tmp 54) (by rfl) C _ _ _ (by rfl) own6.out (by rfl) rfl (by intro u hu; simp at hu; subst hu; rfl) (by rw [hlen.out]; omega) hz6 ?_
                    intro v7 w7 hown7 hg7
                    obtain ⟨v7a, v7c, rfl⟩ := row_slice hown7
                    have hneP : some gP ≠ Value.ownBlock (.slice va (keysL i k).length vc) := fun e => by have := (hlt1.out gP e.symm).1; omega
                    have hneg : some g ≠ Value.ownBlock (.slice va (keysL i k).length vc) := fun e => by have := (hlt1.out g e.symm).1; omega
                    have c7 := hg7.cell c6 hneP
                    have f7 := grown_frozen hg7 hneP c6 f6
                    have e7 := hg7.cell e6 hneg
                    replace hown7 := hide hown7
                    replace hg7 := hide hg7
                    refine hK.out _ _ e7 (fun hHeld => ?_)
                    clear hK K
                    try simp only [Act.put, pA, pB, pC]
                    refine wpAnyH_take (i := 15) (oi := { dst := some 56, op := Op.indexAddr 23 (Operand.tmp 42) (Operand.tmp 43), type := 0, pos := "law.go:80", after := #[{ on := 1, ground := Ground.data }, { on := 2, ground := Ground.data }, { on := 0, ground := Ground.phase }, { on := 1, ground := Ground.phase }, { on := 2, ground := Ground.phase }, { on := 3, ground := Ground.phase }, { on := 4, ground := Ground.phase }, { on := 5, ground := Ground.phase }, { on := 6, ground := Ground.phase }, { on := 7, ground := Ground.phase }, { on := 8, ground := Ground.phase }, { on := 9, ground := Ground.phase }, { on := 10, ground := Ground.phase }, { on := 11, ground := Ground.phase }, { on := 12, ground := Ground.phase }, { on := 13, ground := Ground.phase }, { on := 14, ground := Ground.phase }], guard := none }) (v := ?_) rfl (by kernel_rfl) (by kernel_rfl) (by kernel_rfl) (fun _ _ _ h => h) (Or.inl ⟨by rfl, ?_⟩) (by assumption) ?_
                    rotate_left
                    · intro W hSW; first | (go_simp; done) | (go_simp; with_reducible rfl)
                    try simp only [Act.put, pA, pB, pC]
                    refine wpAnyH_take (i := 16) (oi := { dst := some 57, op := Op.fieldAddr 52 (Operand.tmp 56) 1, type := 0, pos := "law.go:80", after := #[{ on := 15, ground := Ground.data }, { on := 0, ground := Ground.phase }, { on := 1, ground := Ground.phase }, { on := 2, ground := Ground.phase }, { on := 3, ground := Ground.phase }, { on := 4, ground := Ground.phase }, { on := 5, ground := Ground.phase }, { on := 6, ground := Ground.phase }, { on := 7, ground := Ground.phase }, { on := 8, ground := Ground.phase }, { on := 9, ground := Ground.phase }, { on := 10, ground := Ground.phase }, { on := 11, ground := Ground.phase }, { on := 12, ground := Ground.phase }, { on := 13, ground := Ground.phase }, { on := 14, ground := Ground.phase }], guard := none }) (v := ?_) rfl (by kernel_rfl) (by kernel_rfl) (by kernel_rfl) (fun _ _ _ h => h) (Or.inl ⟨by rfl, ?_⟩) (by assumption) ?_
                    rotate_left
                    · intro W hSW; first | (go_simp; done) | (go_simp; with_reducible rfl)
                    try simp only [Act.put, pA, pB, pC]
                    refine wpAnyH_ready (rs := [17]) (by kernel_rfl) (by simp) ?_
                    refine AllReadyH.cons (o := { dst := none, op := Op.store 25 (Operand.tmp 57) (Operand.tmp 55), type := 0, pos := "law.go:80", after := #[{ on := 16, ground := Ground.data }, { on := 14, ground := Ground.data }, { on := 14, ground := Ground.chain }, { on := 0, ground := Ground.phase }, { on := 1, ground := Ground.phase }, { on := 2, ground := Ground.phase }, { on := 3, ground := Ground.phase }, { on := 4, ground := Ground.phase }, { on := 5, ground := Ground.phase }, { on := 6, ground := Ground.phase }, { on := 7, ground := Ground.phase }, { on := 8, ground := Ground.phase }, { on := 9, ground := Ground.phase }, { on := 10, ground := Ground.phase }, { on := 11, ground := Ground.phase }, { on := 12, ground := Ground.phase }, { on := 13, ground := Ground.phase }, { on := 14, ground := Ground.phase }], guard := none }) rfl (fun K hK => ?_) AllReadyH.nil
                    go_simp
                    refine hK.out _ _ ((But.setCell w7 gP (i * 2 + 1) _).cell (show g ≠ gP by omega) e7) (fun hHeld => ?_)
                    clear hK K
                    try simp only [Act.put, pA, pB, pC]
                    refine wpAnyH_done (by kernel_rfl) ?_ _
                    go_wp2_with fail
                    go_roundw
                    case rel =>
                      have rw7 := World.ownsRow.kept rw6.out hg7.out (rows_apart rw6.out own6.out (by decide))
                      obtain ⟨hs8, hg8⟩ := World.ownsRow.stored rw7 (i * 2 + 1) (.slice v7a ((keysL i k).length + 1) v7c)
                      rw [pcells_set P _ (by simpa using hks) i hlt, List.set_set] at hs8
                      have hset := But.setCell w7 gP (i * 2 + 1) (.slice v7a ((keysL i k).length + 1) v7c)
                      obtain ⟨cP, hcP⟩ := row_type rw7 (g := gP) rfl
                      have hK7 : OwnS w7 C (.slice v7a ((keysL i k).length + 1) v7c) (keysL i (k + 1)) := by
                        rw [keysL_succ, ← hx.out]; unfold OwnS; rw [List.length_append, List.map_append]; exact hown7.out
                      have hb4 : But gP w4 w7 := by
                        have h6 : But gP w4 w6 := hbut.trans (But.of_below hb6')
                        refine ⟨hg7.out.os.trans h6.os, hg7.out.tape.trans h6.tape, hg7.out.output.trans h6.output, Nat.le_trans h6.size hg7.out.size, fun b hb hne => (hg7.out.block b (Nat.lt_of_lt_of_le hb h6.size) (fun e => ?_)).trans (h6.block b hb hne)⟩
                        have := (hlt1.out b e.symm).1; omega
                      exact ⟨k + 1, _, by omega, by go_num, hs8, hK7.but hset hcP (by decide), hb4.trans hset⟩
                    case measure => simp [intOf]; omega
            · have k1 : ¬ (k : Int) < (m : Int) := by omega
              have hkm : k = m := by omega
              rw [hkm] at hkv
              replace hrw := hide hrw
              replace hkv := hide hkv
              replace hSr := hide hSr
              go_wp2_with fail
              go_roundw
              case rel =>
                obtain ⟨cP, hcP⟩ : ∃ cur, w4.heap[gP]? = some (.cells cur 52 (0, 0)) := by
                  obtain ⟨cur, hc⟩ := row_type hs1.out (g := gP) rfl
                  exact ⟨cur, hc⟩
                refine ⟨i + 1, ks.set i kv, by omega, by go_num, by simpa using hks, hrw.out, fun j hj => ?_, fun j hj hjl => ?_, hSr.out, hZ1.out.but hbut (by omega), hL1.out.but hbut hcP (by decide), ?_, by omega⟩
                · by_cases hji : j = i
                  · subst hji
                    rw [show (ks.set j kv).getD j undef = kv by simp [List.getD_eq_getElem?_getD, hks, hlt]]
                    exact hkv.out.base (by omega)
                  · rw [show (ks.set i kv).getD j undef = ks.getD j undef by simp [List.getD_eq_getElem?_getD, List.getElem?_set_ne (fun e => hji e.symm)]]
                    exact (hdone1.out j (by omega)).but hbut hcP (by decide)
                · rw [show (ks.set i kv).getD j undef = ks.getD j undef by simp [List.getD_eq_getElem?_getD, List.getElem?_set_ne (show i ≠ j by omega)]]
                  exact hnil.out j (by omega) hjl
                · have h9 := hgr1.out
                  exact ⟨hbut.os.trans h9.os, hbut.tape.trans h9.tape, hbut.output.trans h9.output, Nat.le_trans h9.size hbut.size, fun b hb hne => (hbut.block b (Nat.lt_of_lt_of_le hb h9.size) (fun e => hne (by rw [e]; rfl))).trans (h9.block b hb hne)⟩
              case measure => simp [intOf]; omega
        · have i1 : ¬ (i : Int) < (P.length : Int) := by omega
          have hi' : i = P.length := by omega
          obtain ⟨va4, vc4, hv4⟩ := row_slice hL
          have hfin : PRow wr B (.slice a1 P.length c1') (withKeys P m) := by
            refine ⟨ks, by rw [withKeys_len]; exact hks, ?_, fun j hj => ?_⟩
            · rw [withKeys_len, pcells_accs _ P _ (withKeys_accs P m)]; exact hrw
            · rw [withKeys_len] at hj
              rw [withKeys_keys P m j hj]; exact hdone j (by omega)
          replace hfin := hide hfin
          replace hgr := hide hgr
          replace hL := hide hL
          have hown9 : ∀ b, (Value.slice a1 P.length c1').ownBlock = some b → b < g := fun b hb => (hown0 b hb).2
          replace hown9 := hide hown9
          subst hv4
          clear hrw hdone hnil c3' hown0
          go_wp2_with (first
            | ((with_reducible refine wpList_at ?_); refine wpList_loadS (by rfl) 27 (.tmp 1) (by rfl) g _ _ _ _ (by rfl) hS Try.underlying27 sizeSpecK ?_)
            | ((with_reducible refine wpList_at ?_); refine wpList_storeS (by rfl) (.tmp 2) (.tmp 58) (by rfl) (g + 1) _ _ _ _ _ _ _ _ _ _ _ _ _ _ (by rfl) (by rfl) hZ rfl hv2 rfl rfl ?_; intro w9 hS9 hz9 hb9))
          refine bodyPost_ret (v := .agg _) (results_one (fn := Try.f11) Try.results11 _ _ (g + 1) 27 _ (0, 0) _ (by rfl) hS9 Try.underlying27 sizeSpecK) rfl ?_
          refine ⟨_, rfl, hfin.out.but hb9 hZ (by decide) (by decide), hL.out.but hb9 hZ (by decide), ?_⟩
          have h9 := hgr.out
          exact ⟨hb9.os.trans h9.os, hb9.tape.trans h9.tape, hb9.output.trans h9.output, Nat.le_trans h9.size hb9.size, fun b hb hne => (hb9.block b (Nat.lt_of_lt_of_le hb h9.size) (by omega)).trans (h9.block b hb hne)⟩

end Go.Proofs.Ythoimecljfcjmaa
