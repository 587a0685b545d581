/-
  The statements' Ring: a swap of so many in a ring.
-/
import Derived.Test.YthoimecljfcjmaaKeyed
import Derived.Test.YthoimecljfcjmaaZ17
import Derived.Deep.RegionWith
import Derived.Deep.CutRange
namespace Go.Proofs.Ythoimecljfcjmaa
open Go.RowKit
attribute [local go_sem ↓] Go.wp_at_zero Go.wp_at_succ

def accB (i : Nat) : ByteArray := ⟨#[112, 97, 114, 116, 121, UInt8.ofNat (48 + i)]⟩
def accs (n : Nat) : List PartyM := (List.range n).map fun i => ⟨accB i, []⟩
def ringId : ByteArray := ⟨#[114, 105, 110, 103]⟩
def ringM (n : Nat) (st de : Int) : SpecM := ⟨ringId, withKeys (accs n) 1, arcsP n 0 2, [0], locksL 1, st, de⟩
theorem accs_len (n : Nat) : (accs n).length = n := by simp [accs]
theorem accs_succ (n : Nat) : accs (n + 1) = accs n ++ [⟨accB n, []⟩] := by unfold accs; rw [List.range_succ, List.map_append]; rfl
theorem account_acc (n : Nat) (hn : n < 10) : ∃ d : ByteArray, d = accB n ∧ ∀ w, Calls Try.prog 30 #[.int .i64 (n : Int)] w fun e w' => e = .returned (.string d) ∧ w' = w := by
  obtain ⟨d, hd, _, H⟩ := account_ex n hn
  exact ⟨d, by apply ByteArray.ext; rw [← Array.toList_inj, hd]; rfl, H⟩
/-- A swap all of whose rows are a call's own. -/
def OwnSpec (w : World) (B : Nat) (v : Value) (s : SpecM) : Prop := ∃ v1 v2 v3 v4, v = .agg (scells s.id v1 v2 v3 v4 s.start s.delta) ∧ PRow w B v1 s.parties ∧ OwnA w B v2 s.arcs ∧ OwnI w B v3 s.leaders ∧ OwnS w B v4 s.locks
theorem OwnI.below {w w' : World} {B : Nat} {v : Value} {l : List Int} (h : OwnI w B v l) (k : Below w.heap.size w w') : OwnI w' B v l :=
  World.ownsRow.kept h (below_grown k) (by cases v.ownBlock <;> simp)
theorem OwnSpec.below {w w' : World} {B : Nat} {v : Value} {s : SpecM} (h : OwnSpec w B v s) (k : Below w.heap.size w w') : OwnSpec w' B v s := by
  obtain ⟨v1, v2, v3, v4, hv, h1, h2, h3, h4⟩ := h
  exact ⟨v1, v2, v3, v4, hv, h1.below k, h2.below k, h3.below k, h4.below k⟩
theorem base_row {w : World} {B C : Nat} {e : TypeId} {size : Nat} {v : Value} {n : Nat} {xs : List Value} (h : w.ownsRow B e size v n xs) (hB : C ≤ B) : w.ownsRow C e size v n xs := by
  obtain ⟨h0, ⟨rfl, h1⟩ | ⟨g, cap, cur, hv, hb, hr⟩⟩ := h
  · exact ⟨h0, .inl ⟨rfl, h1⟩⟩
  · exact ⟨h0, .inr ⟨g, cap, cur, hv, Nat.le_trans hB hb, hr⟩⟩
theorem own_below {w w' : World} {B : Nat} {e : TypeId} {size : Nat} {v : Value} {n : Nat} {xs : List Value} (h : w.ownsRow B e size v n xs) (k : Below w.heap.size w w') : w'.ownsRow B e size v n xs := World.ownsRow.kept h (below_grown k) (by cases v.ownBlock <;> simp)
theorem own_one {w : World} {B : Nat} {e : TypeId} {size : Nat} {v : Value} {n : Nat} {xs : List Value} (h : w.ownsRow B e size v n xs) : v.oneCell' = true := by
  obtain ⟨a, c, rfl⟩ := row_slice h; rfl

set_option maxRecDepth 10000 in
set_option maxHeartbeats 4000000 in
theorem ring_any (n : Nat) (h1 : 1 ≤ n) (h6 : n ≤ 6) (st de : Int) (w : World) :
    Calls Try.prog 27 #[.int .i64 (n : Int), .int .i64 st, .int .i64 de] w fun e w' => ∃ v, e = .returned v ∧ OwnSpec w' w.heap.size v (ringM n st de) ∧ Below w.heap.size w w' := by
  obtain ⟨g, hg⟩ : ∃ g, w.heap.size = g := ⟨_, rfl⟩
  have HA := fun W => arcs_any n 0 2 h1 h6 (by omega) (by omega) W
  replace HA := hide HA
  go_enter Try.func27, Try.ntmps27
  have hz0 : (w.alloc (Obj.cells #[Value.string ⟨#[]⟩, Value.slice none 0 0, Value.slice none 0 0, Value.slice none 0 0, Value.slice none 0 0, Value.int IntKind.i64 0, Value.int IntKind.i64 0] 27)).heap.size = g + 1 := by simp [hg]
  have hZ0 : SAt (w.alloc (Obj.cells #[Value.string ⟨#[]⟩, Value.slice none 0 0, Value.slice none 0 0, Value.slice none 0 0, Value.slice none 0 0, Value.int IntKind.i64 0, Value.int IntKind.i64 0] 27)) g ⟨#[]⟩ (.slice none 0 0) (.slice none 0 0) (.slice none 0 0) (.slice none 0 0) 0 0 := by unfold SAt; rw [← hg, heap_alloc_new]; rfl
  have hB0 : Below g w (w.alloc (Obj.cells #[Value.string ⟨#[]⟩, Value.slice none 0 0, Value.slice none 0 0, Value.slice none 0 0, Value.slice none 0 0, Value.int IntKind.i64 0, Value.int IntKind.i64 0] 27)) := (Below.refl _ _).alloc (by omega) _
  go_wp2_with (go_at_call 29; refine (HA.out _).mono ?_; rintro e w2 ⟨v2, rfl, hA2, hb2⟩; obtain ⟨va2, vc2, rfl⟩ := row_slice hA2)
  rw [hz0] at hA2
  have hB2 := hB0.trans (hb2.mono (by omega))
  have hZ2 := hZ0.below hb2
  have hs2 := hb2.size
  rw [hz0] at hs2
  have ha1 : Below w2.heap.size w2 (w2.alloc (Obj.cells #[Value.int IntKind.i64 0] 3)) := (Below.refl _ _).alloc (Nat.le_refl _) _
  have ha2 : Below w2.heap.size w2 ((w2.alloc (Obj.cells #[Value.int IntKind.i64 0] 3)).alloc (Obj.cells #[Value.string ⟨#[114, 105, 110, 103]⟩, Value.slice none 0 0, Value.slice va2 (arcsP n 0 2).length vc2, Value.slice (some ⟨w2.heap.size, 0, none⟩) 1 1, Value.slice none 0 0, Value.int IntKind.i64 st, Value.int IntKind.i64 de] 27)) := ha1.alloc (by simp) _
  have hB3 := hB2.trans (ha2.mono (by omega))
  have hZ3 := hZ2.below ha2
  have hA3 := hA2.below ha2
  have hI3 : OwnI ((w2.alloc (Obj.cells #[Value.int IntKind.i64 0] 3)).alloc (Obj.cells #[Value.string ⟨#[114, 105, 110, 103]⟩, Value.slice none 0 0, Value.slice va2 (arcsP n 0 2).length vc2, Value.slice (some ⟨w2.heap.size, 0, none⟩) 1 1, Value.slice none 0 0, Value.int IntKind.i64 st, Value.int IntKind.i64 de] 27)) (g + 1) (.slice (some ⟨w2.heap.size, 0, none⟩) 1 1) [0] := by
    have h9 := World.ownsRow_lit (base := g + 1) (e := 3) (size := 1) w2 #[Value.int .i64 0] 1 hs2 (by unfold maxLen; omega) (by simp)
    have h8 : OwnI (w2.alloc (Obj.cells #[Value.int IntKind.i64 0] 3)) (g + 1) (.slice (some ⟨w2.heap.size, 0, none⟩) 1 1) [0] := h9
    exact h8.below ((Below.refl _ _).alloc (Nat.le_refl _) _)
  have hS3 : SAt ((w2.alloc (Obj.cells #[Value.int IntKind.i64 0] 3)).alloc (Obj.cells #[Value.string ⟨#[114, 105, 110, 103]⟩, Value.slice none 0 0, Value.slice va2 (arcsP n 0 2).length vc2, Value.slice (some ⟨w2.heap.size, 0, none⟩) 1 1, Value.slice none 0 0, Value.int IntKind.i64 st, Value.int IntKind.i64 de] 27)) (w2.heap.size + 1) ringId (.slice none 0 0) (.slice va2 (arcsP n 0 2).length vc2) (.slice (some ⟨w2.heap.size, 0, none⟩) 1 1) (.slice none 0 0) st de := by
    unfold SAt; rw [show w2.heap.size + 1 = (w2.alloc (Obj.cells #[Value.int IntKind.i64 0] 3)).heap.size by simp, heap_alloc_new]; rfl
  have hz3 : (((w2.alloc (Obj.cells #[Value.int IntKind.i64 0] 3)).alloc (Obj.cells #[Value.string ⟨#[114, 105, 110, 103]⟩, Value.slice none 0 0, Value.slice va2 (arcsP n 0 2).length vc2, Value.slice (some ⟨w2.heap.size, 0, none⟩) 1 1, Value.slice none 0 0, Value.int IntKind.i64 st, Value.int IntKind.i64 de] 27))).heap.size = w2.heap.size + 2 := by simp
  generalize ((w2.alloc (Obj.cells #[Value.int IntKind.i64 0] 3)).alloc (Obj.cells #[Value.string ⟨#[114, 105, 110, 103]⟩, Value.slice none 0 0, Value.slice va2 (arcsP n 0 2).length vc2, Value.slice (some ⟨w2.heap.size, 0, none⟩) 1 1, Value.slice none 0 0, Value.int IntKind.i64 st, Value.int IntKind.i64 de] 27)) = w3 at hB3 hZ3 hA3 hI3 hS3 hz3 ⊢
  obtain ⟨gS, hgS⟩ : ∃ gS, w2.heap.size + 1 = gS := ⟨_, rfl⟩
  rw [hgS] at hS3 ⊢
  have hgg : g + 1 < gS := by omega
  have hz3' : w3.heap.size = gS + 1 := by omega
  obtain ⟨v3, hv3⟩ : ∃ v3, Value.slice (some ⟨w2.heap.size, 0, none⟩) 1 1 = v3 := ⟨_, rfl⟩
  obtain ⟨a3, ha3⟩ : ∃ a3 : Option Addr, some ⟨w2.heap.size, 0, none⟩ = a3 := ⟨_, rfl⟩
  rw [ha3] at hI3 hS3 ⊢
  clear hv3 v3 ha3 hgS hz3 ha1 ha2 hb2 hA2 hB2 hZ2 hs2 hB0 hZ0 hz0 HA
  clear w2
  go_loopw [8] (fun i wr => ∃ (j : Nat) (v1 : Value), j ≤ n ∧ i = .int .i64 j ∧ wr.ownsRow (gS + 1) 52 2 v1 j (pcells (accs j) (List.replicate j (.slice none 0 0))) ∧ SAt wr gS ringId v1 (.slice va2 (arcsP n 0 2).length vc2) (.slice a3 1 1) (.slice none 0 0) st de ∧ SAt wr g ⟨#[]⟩ (.slice none 0 0) (.slice none 0 0) (.slice none 0 0) (.slice none 0 0) 0 0 ∧ OwnA wr (g + 1) (.slice va2 (arcsP n 0 2).length vc2) (arcsP n 0 2) ∧ OwnI wr (g + 1) (.slice a3 1 1) [0] ∧ Below g w wr ∧ gS + 1 ≤ wr.heap.size) (fun i _ => n - (intOf i).toNat)
  case atStart => exact ⟨0, _, by omega, rfl, World.ownsRow_nil _ _ _ _, hS3, hZ3, hA3, hI3, hB3, by omega⟩
  case round =>
    clear hS3 hZ3 hA3 hI3 hB3 hz3' w3
    obtain ⟨j, v1, hj, rfl, hrow, hS, hZ, hA, hI, hbel, hsz⟩ := hrel
    have c1 := hS.cells.2.1
    have f1 := hS.frozen 1
    by_cases hlt : j < n
    · have j1 : (j : Int) < (n : Int) := by omega
      obtain ⟨d, hd, HD⟩ := account_acc j (by omega)
      obtain ⟨va, vc, rfl⟩ := row_slice hrow
      have hlt1 := World.ownsRow.lt hrow
      replace hd := hide hd
      replace HD := hide HD
      replace hrow := hide hrow
      replace hS := hide hS
      replace hZ := hide hZ
      replace hA := hide hA
      replace hI := hide hI
      replace hlt1 := hide hlt1
      go_wp2_with fail
      go_region_law (first
        | (refine step_put1 (st := 23) Try.underlying23 Try.info52 rfl (by decide) (by decide) w6 _ (by rfl) (.tmp 21) (.tmp 25) (by rfl) (gS + 1) _ _ _ (by rfl) own6 (by rfl) rfl (by intro u hu; simp at hu; rcases hu with rfl | rfl <;> rfl) (by omega) hz6 ?_; intro v7 w7 hown7 hg7; obtain ⟨v7a, v7c, rfl⟩ := row_slice hown7; have hne7 : some gS ≠ Value.ownBlock (.slice va j vc) := (fun e => by have := (hlt1.out gS e.symm).1; omega); have c7 := hg7.cell c6 hne7; have f7 := grown_frozen hg7 hne7 c6 f6)
        | (go_simp; go_at_call 30; refine (HD.out _).mono ?_; rintro e w6 ⟨rfl, hw6⟩; have hb6' : Below wr.heap.size wr w6 := (by rw [hw6]; exact ⟨rfl, rfl, rfl, Nat.le_refl _, fun _ _ => rfl⟩); clear hw6; have c6 := cell_on hb6' c1; have f6 := (SAt.below hS.out hb6').frozen 1; have own6 := own_below hrow.out hb6'; have hz6 : gS + 1 ≤ w6.heap.size := Nat.le_trans hsz hb6'.size; have d6 : ∀ o, (w6.alloc o).cell? ⟨gS, 1, none⟩ = some (.slice va j vc) := (fun o => cell_on ((Below.refl _ _).alloc (Nat.le_refl _) o) c6); go_wp2_with fail))
      all_goals
        go_wp2
        go_roundw
        case rel =>
          have hS6 := SAt.below hS.out hb6'
          have hS7 := hS6.grown hg7 hne7
          have hneg : some g ≠ Value.ownBlock (.slice va j vc) := fun e => by have := (hlt1.out g e.symm).1; omega
          have hZ7 := (SAt.below hZ.out hb6').grown hg7 hneg
          have hA7 := (hA.out.below hb6').grown own6 hg7 (by decide)
          have hI7 : OwnI w7 (g + 1) (.slice a3 1 1) [0] := World.ownsRow.kept (hI.out.below hb6') hg7 (rows_apart (hI.out.below hb6') own6 (by decide))
          have hset := But.setCell w7 gS 1 (.slice v7a (j + 1) v7c)
          have hR7 : w7.ownsRow (gS + 1) 52 2 (.slice v7a (j + 1) v7c) (j + 1) (pcells (accs (j + 1)) (List.replicate (j + 1) (.slice none 0 0))) := by
            rw [accs_succ, List.replicate_succ', pcells_snoc _ _ _ _ (by simp [accs_len]), ← hd.out]; exact hown7
          have hB7 : Below g w w7 := (hbel.trans (hb6'.mono (by omega))).grown hg7 (by omega) (fun k hk => by have := (hlt1.out k hk).1; omega)
          refine ⟨j + 1, _, by omega, by go_num, World.ownsRow.kept hR7 hset.grown (row_apart hR7 hS7 (by decide)), hS7.set1 _, hZ7.but hset (by omega), World.ownsRow.kept hA7 hset.grown (row_apart hA7 hS7 (by decide)), World.ownsRow.kept hI7 hset.grown (row_apart hI7 hS7 (by decide)), hB7.setCell (by show g ≤ gS; omega) _, ?_⟩
          have h7 := hg7.size
          have h8 := hset.size
          omega
        case measure => simp [intOf]; omega
    · have j1 : ¬ (j : Int) < (n : Int) := by omega
      have hjn : j = n := by omega
      rw [hjn] at hrow
      have HK := keyed_any ringId v1 (.slice va2 (arcsP n 0 2).length vc2) a3 1 1 (.slice none 0 0) st de (gS + 1) (accs n) wr rfl (by omega) (by rw [accs_len]; omega) hsz (by rw [accs_len]; exact hrow)
      have hlt1 := World.ownsRow.lt hrow
      obtain ⟨va, vc, rfl⟩ := row_slice hrow
      replace HK := hide HK
      replace hrow := hide hrow
      replace hA := hide hA
      replace hI := hide hI
      replace hlt1 := hide hlt1
      go_wp2_with (first
        | (go_at_call 11; refine HK.out.mono ?_; rintro e w4 ⟨v4, rfl, hP4, hL4, hg4⟩; obtain ⟨va4, vc4, rfl⟩ := row_slice hL4; have hneg : some g ≠ Value.ownBlock (.slice va n vc) := (fun e => by have := (hlt1.out g e.symm).1; omega); have hZ4 := hZ.grown hg4 hneg)
        | ((with_reducible refine wpList_at ?_); refine wpList_loadS (by rfl) 27 (.tmp 7) (by rfl) gS _ _ _ _ (by rfl) hS Try.underlying27 sizeSpecK ?_)
        | ((with_reducible refine wpList_at ?_); refine wpList_storeS (by rfl) (.tmp 6) (.tmp 29) (by rfl) g _ _ _ _ _ _ _ _ _ _ _ _ _ _ (by rfl) (by rfl) hZ4 rfl rfl rfl rfl ?_; intro w9 hS9 hz9 hb9))
      refine bodyPost_ret (v := .agg _) (results_one (fn := Try.f27) Try.results27 _ _ g 27 _ (0, 0) _ (by rfl) hS9 Try.underlying27 sizeSpecK) rfl ?_
      have hA4 := hA.out.grown hrow.out hg4 (by decide)
      have hI4 : OwnI w4 (g + 1) (.slice a3 1 1) [0] := World.ownsRow.kept hI.out hg4 (rows_apart hI.out hrow.out (by decide))
      have hA9 : OwnA w9 (g + 1) _ _ := World.ownsRow.kept hA4 hb9.grown (row_apart hA4 hZ4 (by decide))
      have hI9 : OwnI w9 (g + 1) _ _ := World.ownsRow.kept hI4 hb9.grown (row_apart hI4 hZ4 (by decide))
      have hP9 := hP4.but hb9 hZ4 (by decide) (by decide)
      have hL9 := hL4.but hb9 hZ4 (by decide)
      refine ⟨_, rfl, ⟨_, _, _, _, rfl, ?_, base_row hA9 (by omega), base_row hI9 (by omega), hL9.base (by omega)⟩, ?_⟩
      · obtain ⟨ks, hks, ho, hkk⟩ := hP9
        exact ⟨ks, hks, base_row ho (by omega), fun j hj => (hkk j hj).base (by omega)⟩
      · have h4 : Below g w w4 := hbel.grown hg4 (by omega) (fun k hk => by have := (hlt1.out k hk).1; omega)
        exact ⟨hb9.os.trans h4.os, hb9.tape.trans h4.tape, hb9.output.trans h4.output, Nat.le_trans h4.size hb9.size, fun b hb => (hb9.block b (by have := h4.size; omega) (by omega)).trans (h4.block b (by omega))⟩

end Go.Proofs.Ythoimecljfcjmaa

/-
  The document's Verify.
-/
namespace Go.Proofs.Ythoimecljfcjmaa
open Go.RowKit
attribute [local go_sem ↓] Go.wp_at_zero Go.wp_at_succ

theorem back_length (d sig : List UInt8) (n : Nat) (h : 32 * n ≤ sig.length) : (back d sig n).length = 32 * n := by
  induction n with
  | zero => rfl
  | succ n ih =>
    have hh : (hind sig n).length = 16 := by unfold hind; rw [List.length_take, List.length_drop]; omega
    rw [back, List.length_append, ih (by omega)]
    split <;> rw [List.length_append, short_length, hh] <;> omega
theorem fore_at (s : ByteArray) (n : Nat) : (s.extract (32 * n) (32 * n + 16)).data.toList = fore s.data.toList n := by
  rw [extract_list]; unfold fore; rw [show 32 * n + 16 - 32 * n = 16 by omega]
theorem hind_at (s : ByteArray) (n : Nat) : (s.extract (32 * n + 16) (32 * n + 32)).data.toList = hind s.data.toList n := by
  rw [extract_list]; unfold hind; rw [show 32 * n + 32 - (32 * n + 16) = 16 by omega]

set_option maxRecDepth 10000 in
set_option maxHeartbeats 1000000 in
theorem refverify_long (p m s : ByteArray) (hs : s.size ≠ 512) (w : World) :
    Calls Try.prog 26 #[.string p, .string m, .string s] w fun e w' => e = .returned (.bool false) ∧ w' = w := by
  have h1 : ¬ ((s.size : Int) = 512) := by omega
  go_enter Try.func26, Try.ntmps26
  go_wp2
  go_ret
  trivial

set_option maxRecDepth 10000 in
set_option maxHeartbeats 1000000 in
theorem refverify_any (p m s : ByteArray) (hm : m.size ≤ 1000000) (hs : s.size = 512) (w : World) :
    Calls Try.prog 26 #[.string p, .string m, .string s] w fun e w' => e = .returned (.bool (verifyOf p.data.toList m.data.toList s.data.toList)) ∧ Below w.heap.size w w' := by
  obtain ⟨d, hd⟩ : ∃ d : ByteArray, d = ⟨(digest m.data.toList).toArray⟩ := ⟨_, rfl⟩
  have hd1 : d.size = 32 := by rw [hd, mk_size, digest_length]
  have hd2 : d.data.toList = digest m.data.toList := by rw [hd]
  have HS := refsum_any m (by omega) w
  rw [← hd] at HS
  have HD : Hid (d.data.toList = digest m.data.toList) := hd2
  have hsi : (s.size : Int) = 512 := by omega
  clear hd hd2
  go_enter Try.func26, Try.ntmps26
  go_wp2_with (go_at_call 25; refine HS.mono ?_; rintro e w0 ⟨rfl, hb0⟩)
  go_wp2
  go_loopw [8, 9, 10, 11] (fun v i _ _ wr => ∃ (n : Nat) (x : ByteArray), n ≤ 16 ∧ i = .int .i64 n ∧ v = .string x ∧ x.data.toList = back d.data.toList s.data.toList n ∧ Below w.heap.size w wr) (fun _ i _ _ _ => 16 - (intOf i).toNat)
  case atStart => exact ⟨0, ⟨#[]⟩, by omega, rfl, rfl, rfl, hb0⟩
  case round =>
    obtain ⟨n, x, hn, rfl, rfl, hx, hb⟩ := hrel
    have hxs := size_of x _ _ hx (back_length _ _ _ (by rw [len_list]; omega))
    have HX : Hid (x.data.toList = back d.data.toList s.data.toList n) := hx
    clear hx
    by_cases hlt : n < 16
    · have n1 : (n : Int) < 16 := by omega
      have n0 : (0 : Int) ≤ 32 * (n : Int) := by omega
      have n2 : 32 * (n : Int) + 16 ≤ (s.size : Int) := by omega
      have n3 : 32 * (n : Int) + 32 ≤ (s.size : Int) := by omega
      have n4 : (0 : Int) ≤ 32 * (n : Int) + 16 := by omega
      have n5 : 32 * (n : Int) ≤ 32 * (n : Int) + 16 := by omega
      have n6 : 32 * (n : Int) + 16 ≤ 32 * (n : Int) + 32 := by omega
      have n7 : 32 * (n : Int) + 16 ≤ 512 := by omega
      have n8 : 32 * (n : Int) + 32 ≤ 512 := by omega
      have wz0 : IntKind.i64.wrap (32 * (n : Int)) = 32 * (n : Int) := IntWalk.i64_in _ (by omega)
      have wz1 : IntKind.i64.wrap (32 * (n : Int) + 16) = 32 * (n : Int) + 16 := IntWalk.i64_in _ (by omega)
      have wz2 : IntKind.i64.wrap (32 * (n : Int) + 32) = 32 * (n : Int) + 32 := IntWalk.i64_in _ (by omega)
      have hx := refshort_any (s.extract (32 * n) (32 * n + 16)) (by rw [ByteArray.size_extract]; omega)
      rw [fore_at] at hx
      go_wp2_with fail
      go_cut [10, 11] from 17 to 50 (fun h o wx => ∃ h0 : ByteArray, h = .string h0 ∧ h0.data.toList = short (fore s.data.toList n) ∧ o = .string (s.extract (32 * n + 16) (32 * n + 32)) ∧ Below w.heap.size w wx)
      case first =>
        go_region_with (go_at_call 53; refine (hx _).mono ?_; rintro e w1 ⟨h0, hh0, rfl, hb1⟩)
        all_goals
          go_wp2_with fail
          go_meet
          case rel => exact ⟨h0, rfl, hh0, rfl, below_then hb.drew hb1⟩
      case rest =>
        clear hx hb
        obtain ⟨h0, rfl, hh0, rfl, hb⟩ := hcut
        obtain ⟨o, ho⟩ : ∃ o, o = s.extract (32 * n + 16) (32 * n + 32) := ⟨_, rfl⟩
        have ho1 : o.data.toList = hind s.data.toList n := by rw [ho, hind_at]
        have zo : o.size = 16 := by rw [ho, ByteArray.size_extract]; omega
        rw [← ho]
        clear ho
        have zh := size_of h0 _ _ hh0 (short_length _)
        obtain ⟨b, hbd⟩ : ∃ b, b = bitOf d.data.toList n := ⟨_, rfl⟩
        have hb2 : b < 2 := hbd ▸ bitOf_lt _ _
        have HBt := refbit_any d n hd1 hlt wc
        rw [← hbd] at HBt
        have y0 : (x.size : Int) + (h0.size : Int) ≤ 1000003 := by omega
        have y1 : ((x ++ h0).size : Int) + (o.size : Int) ≤ 1000003 := by rw [ByteArray.size_append]; omega
        have y2 : (x.size : Int) + (o.size : Int) ≤ 1000003 := by omega
        have y3 : ((x ++ o).size : Int) + (h0.size : Int) ≤ 1000003 := by rw [ByteArray.size_append]; omega
        have HN : Hid (back d.data.toList s.data.toList (n + 1) = if b = 0 then (x ++ h0 ++ o).data.toList else (x ++ o ++ h0).data.toList) := by
          show back d.data.toList s.data.toList (n + 1) = _
          rw [back, ← HX.out, ← hh0, ← ho1, ← hbd]
          split <;> rw [add_list, add_list, List.append_assoc]
        clear hbd hh0 ho1
        by_cases hb0' : b = 0
        · subst hb0'
          go_wp2_with (go_at_call 54; refine HBt.mono ?_; rintro e w1 ⟨rfl, rfl⟩)
          go_roundw
          case rel => exact ⟨n + 1, x ++ h0 ++ o, by omega, by go_num, rfl, HN.out.symm, hb⟩
          case measure => simp [intOf]; omega
        · have hb1' : b = 1 := by omega
          subst hb1'
          go_wp2_with (go_at_call 54; refine HBt.mono ?_; rintro e w1 ⟨rfl, rfl⟩)
          go_roundw
          case rel => exact ⟨n + 1, x ++ o ++ h0, by omega, by go_num, rfl, HN.out.symm, hb⟩
          case measure => simp [intOf]; omega
    · have hn8 : n = 16 := by omega
      subst hn8
      go_wp2_with (go_at_call 53; refine (refshort_any x (by omega) _).mono ?_; rintro e w1 ⟨v0, hv0, rfl, hb1⟩)
      go_ret
      refine ⟨?_, below_then hb hb1⟩
      have hv : verifyOf p.data.toList m.data.toList s.data.toList = (v0.toList == p.toList) := by
        rw [same_list, hv0, HX.out, HD.out]
        unfold verifyOf
        rw [len_list, hs]; rfl
      rw [hv]; rfl

end Go.Proofs.Ythoimecljfcjmaa
