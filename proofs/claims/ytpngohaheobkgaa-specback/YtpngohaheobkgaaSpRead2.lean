/-
  The walk of the document's Read.
-/
import Derived.Test.YtpngohaheobkgaaZ24
import Derived.Test.YtpngohaheobkgaaSpPn
import Derived.Test.YtpngohaheobkgaaSpRs
import Derived.Test.YtpngohaheobkgaaZ30
namespace Go.Proofs.Ytpngohaheobkgaa
open Go.RowKit
attribute [local go_sem ↓] Go.wp_at_zero Go.wp_at_succ

theorem OwnSpec.but {w w' : World} {B g : Nat} {v : Value} {s : SpecM} {cs : Array Value} (h : OwnSpec w B v s) (k : But g w w') (hg : SvAt w g cs) : OwnSpec w' B v s := by
  obtain ⟨v1, v2, v3, v4, hv, h1, h2, h3, h4⟩ := h
  exact ⟨v1, v2, v3, v4, hv, h1.but k hg (by decide) (by decide), World.ownsRow.kept h2 k.grown (row_apart h2 hg (by decide)), World.ownsRow.kept h3 k.grown (row_apart h3 hg (by decide)), h4.but k hg (by decide)⟩

set_option maxRecDepth 10000 in
set_option maxHeartbeats 8000000 in
theorem refread_any (b : ByteArray) (w : World) (ok : Bool) (hok : told (refE b.data.toList = ([], false) ∧ specOk (refM b.data.toList)) = ok) : Calls Try.prog 27 #[.string b] w fun e w' => ∃ v, e = .returned (.tuple #[v, .int .i64 (bif ok then 0 else 2)]) ∧ SpecW w' v (bif ok then refM b.data.toList else noSpec) ∧ Below w.heap.size w w' := by
  replace hok := hide hok
  have hf0 : Fine (b.data.toList, false) := fun h => Bool.noConfusion h
  obtain ⟨gO, hgO⟩ : ∃ g, w.heap.size = g := ⟨_, rfl⟩
  go_enter Try.func27, Try.ntmps27
  go_wp2_with fail
  have hO1 : SAt ((w.alloc (Obj.cells #[Value.string ⟨#[]⟩, Value.slice none 0 0, Value.slice none 0 0, Value.slice none 0 0, Value.slice none 0 0, Value.int IntKind.i64 0, Value.int IntKind.i64 0] 27)).alloc (Obj.cells #[Value.string b, Value.bool false] 67)) gO ⟨#[]⟩ (.slice none 0 0) (.slice none 0 0) (.slice none 0 0) (.slice none 0 0) 0 0 := by
    unfold SAt
    rw [Below.heap_alloc _ _ _ (by rw [← hgO]; simp), ← hgO, heap_alloc_new]; rfl
  have hat1 : At 67 ((w.alloc (Obj.cells #[Value.string ⟨#[]⟩, Value.slice none 0 0, Value.slice none 0 0, Value.slice none 0 0, Value.slice none 0 0, Value.int IntKind.i64 0, Value.int IntKind.i64 0] 27)).alloc (Obj.cells #[Value.string b, Value.bool false] 67)) (gO + 1) (b.data.toList, false) := by
    refine ⟨b, rfl, ?_⟩
    have := Rd.new 67 (w.alloc (Obj.cells #[Value.string ⟨#[]⟩, Value.slice none 0 0, Value.slice none 0 0, Value.slice none 0 0, Value.slice none 0 0, Value.int IntKind.i64 0, Value.int IntKind.i64 0] 27)) b false
    rw [show (w.alloc (Obj.cells #[Value.string ⟨#[]⟩, Value.slice none 0 0, Value.slice none 0 0, Value.slice none 0 0, Value.slice none 0 0, Value.int IntKind.i64 0, Value.int IntKind.i64 0] 27)).heap.size = gO + 1 by rw [← hgO]; simp] at this
    exact this
  have hB1 : Below gO w ((w.alloc (Obj.cells #[Value.string ⟨#[]⟩, Value.slice none 0 0, Value.slice none 0 0, Value.slice none 0 0, Value.slice none 0 0, Value.int IntKind.i64 0, Value.int IntKind.i64 0] 27)).alloc (Obj.cells #[Value.string b, Value.bool false] 67)) := ((Below.refl _ _).alloc (by omega) _).alloc (by simp; omega) _
  generalize (w.alloc (Obj.cells #[Value.string ⟨#[]⟩, Value.slice none 0 0, Value.slice none 0 0, Value.slice none 0 0, Value.slice none 0 0, Value.int IntKind.i64 0, Value.int IntKind.i64 0] 27)).alloc (Obj.cells #[Value.string b, Value.bool false] 67) = w1 at hO1 hat1 hB1 ⊢
  obtain ⟨gR, hgR⟩ : ∃ g, gO + 1 = g := ⟨_, rfl⟩
  rw [hgR] at hat1 ⊢
  have HT := reftext_any 16 hf0 hat1
  have hf1 := fine_txt _ 16 hf0
  refine HT.mono ?_
  rintro e w2 ⟨rfl, hat2, hb2⟩
  have hO2 := hO1.but hb2 (by omega)
  have hB2 := hB1.trans (hb2.below (by omega) (Nat.le_trans (by omega) hB1.size))
  have hgs2 : gR < w2.heap.size := hat2.lt
  clear HT hat1 hO1 hB1 hb2
  generalize hid : (⟨(txtV (b.data.toList, false) 16).toArray⟩ : ByteArray) = id
  generalize hr1 : txtS (b.data.toList, false) 16 = r1 at hat2 hf1
  go_wp2_with fail
  have hS3 : SAt (w2.alloc (Obj.cells #[Value.string id, Value.slice none 0 0, Value.slice none 0 0, Value.slice none 0 0, Value.slice none 0 0, Value.int IntKind.i64 0, Value.int IntKind.i64 0] 27)) w2.heap.size id (.slice none 0 0) (.slice none 0 0) (.slice none 0 0) (.slice none 0 0) 0 0 := by
    unfold SAt; rw [heap_alloc_new]; rfl
  have hal : Below w2.heap.size w2 (w2.alloc (Obj.cells #[Value.string id, Value.slice none 0 0, Value.slice none 0 0, Value.slice none 0 0, Value.slice none 0 0, Value.int IntKind.i64 0, Value.int IntKind.i64 0] 27)) := (Below.refl _ _).alloc (Nat.le_refl _) _
  have hO3 : SAt (w2.alloc (Obj.cells #[Value.string id, Value.slice none 0 0, Value.slice none 0 0, Value.slice none 0 0, Value.slice none 0 0, Value.int IntKind.i64 0, Value.int IntKind.i64 0] 27)) gO ⟨#[]⟩ (.slice none 0 0) (.slice none 0 0) (.slice none 0 0) (.slice none 0 0) 0 0 := hO2.but (But.of_below (g := w2.heap.size) hal) (by omega)
  have hat3 := hat2.below hal
  have hz3 : (w2.alloc (Obj.cells #[Value.string id, Value.slice none 0 0, Value.slice none 0 0, Value.slice none 0 0, Value.slice none 0 0, Value.int IntKind.i64 0, Value.int IntKind.i64 0] 27)).heap.size = w2.heap.size + 1 := by simp
  have hB3 : Below gO w (w2.alloc (Obj.cells #[Value.string id, Value.slice none 0 0, Value.slice none 0 0, Value.slice none 0 0, Value.slice none 0 0, Value.int IntKind.i64 0, Value.int IntKind.i64 0] 27)) := hB2.alloc (Nat.le_trans (by omega) hB2.size) _
  clear hO2 hat2 hal hB2
  generalize w2.alloc (Obj.cells #[Value.string id, Value.slice none 0 0, Value.slice none 0 0, Value.slice none 0 0, Value.slice none 0 0, Value.int IntKind.i64 0, Value.int IntKind.i64 0] 27) = w3 at hS3 hO3 hat3 hz3 hB3 ⊢
  generalize hgS : w2.heap.size = gS at hS3 hz3 hgs2 ⊢
  clear hgS w2
  have HC := refcount_any 6 hf1 hat3
  have hf2 := fine_cnt r1 6 hf1
  have hn0 := (cntV_range r1.1 6).1
  have hn6 := cntV_le r1.1 6 (by omega)
  refine HC.mono ?_
  rintro e w4 ⟨rfl, hat4, hb4, hz4⟩
  have hO4 := hO3.but hb4 (by omega)
  have hS4 := hS3.but hb4 (by omega)
  have hB4 := hB3.trans (hb4.below (by omega) (Nat.le_trans (by omega) hB3.size))
  obtain ⟨B, hB⟩ : ∃ B, gS + 1 = B := ⟨_, rfl⟩
  have hz4' : B ≤ w4.heap.size := by omega
  clear HC hO3 hS3 hB3 hat3 hb4 hz3 hz4
  obtain ⟨n, hn⟩ := Int.eq_ofNat_of_zero_le hn0
  rw [hn] at hn6 ⊢
  generalize hr2 : cntS r1 6 = r2 at hat4 hf2
  obtain ⟨PL, hPL⟩ : ∃ q, partiesL n r2 = q := ⟨_, rfl⟩
  have HPL : Hid (partiesL n r2 = PL) := hPL
  have HFP : Hid (fP b.data.toList = PL) := by
    show _ = _
    unfold fP; rw [show rd1 b.data.toList = r1 from hr1, hn, hr2]; simpa using hPL
  replace hn := hide hn
  replace hr2 := hide hr2
  replace hr1 := hide hr1
  replace hid := hide hid
  clear hPL hn0 hf1 hf0
  go_upto_block 0 with fail
  go_cut [7] from 19 to 40 (fun _ wx => ∃ v1, PRow wx B v1 PL.1 ∧ SAt wx gS id v1 (.slice none 0 0) (.slice none 0 0) (.slice none 0 0) 0 0 ∧ SAt wx gO ⟨#[]⟩ (.slice none 0 0) (.slice none 0 0) (.slice none 0 0) (.slice none 0 0) 0 0 ∧ At 67 wx gR PL.2 ∧ Fine PL.2 ∧ PL.1.length ≤ 6 ∧ Below gO w wx ∧ B ≤ wx.heap.size)
  case first =>
    go_wp2_with fail
    go_loopw [7] (fun i wr => ∃ (j : Nat) (v1 : Value) (l : List PartyM) (rc : List UInt8 × Bool), j ≤ n ∧ i = .int .i64 j ∧ l.length ≤ j ∧ PRow wr B v1 l ∧ SAt wr gS id v1 (.slice none 0 0) (.slice none 0 0) (.slice none 0 0) 0 0 ∧ SAt wr gO ⟨#[]⟩ (.slice none 0 0) (.slice none 0 0) (.slice none 0 0) (.slice none 0 0) 0 0 ∧ Hid (PL.1 = l ++ (partiesL (n - j) rc).1 ∧ PL.2 = (partiesL (n - j) rc).2) ∧ At 67 wr gR rc ∧ Fine rc ∧ Below gO w wr ∧ B ≤ wr.heap.size) (fun i _ => n - (intOf i).toNat)
    case atStart => exact ⟨0, _, [], r2, by omega, rfl, by simp, PRow.nil _ _, hS4, hO4, ⟨by rw [Nat.sub_zero, HPL.out]; simp, by rw [Nat.sub_zero, HPL.out]⟩, hat4, hf2, hB4, hz4'⟩
    case round =>
      clear hS4 hO4 hat4 hf2 hB4 hz4' HPL
      obtain ⟨j, v1, l, rc, hj, rfl, hlj, hrow, hS, hO, HI, hat, hfc, hBw, hBz⟩ := hrel
      obtain ⟨s, hs, hrd⟩ := hat
      have r1' := hrd.isbad
      by_cases hlt : j < n
      · have j1 : (j : Int) < (n : Int) := by omega
        by_cases hbad : rc.2 = true
        · have HA : Hid (At 67 wr gR rc) := ⟨s, hs, hrd⟩
          rw [hbad] at r1'
          replace hbad := hide hbad
          clear hs hrd
          go_wp2_with fail
          go_meet
          case rel =>
            have h9 := HI.out
            rw [partiesL_bad _ _ hbad.out, List.append_nil] at h9
            rw [h9.1, h9.2]
            exact ⟨v1, hrow, hS, hO, HA.out, hfc, by omega, hBw, hBz⟩
        · have hbad' : rc.2 = false := by cases e : rc.2; rfl; exact absurd e hbad
          rw [hbad'] at r1'
          have hat : At 67 wr gR rc := ⟨s, hs, hrd⟩
          have c1 : wr.cell? ⟨gS, 1, none⟩ = some v1 := by rw [cell_of_row wr gS 1 _ _ _ hS]; rfl
          have f1 : wr.frozen? ⟨gS, 1, none⟩ = false := frozen_of_row wr gS 1 _ _ hS
          have HT := fun W (h : At 67 W gR rc) => reftext_any 16 hfc h
          have hft := fine_txt rc 16 hfc
          generalize hx : (⟨(txtV rc 16).toArray⟩ : ByteArray) = x at HT
          generalize hrt : txtS rc 16 = rt at HT hft
          have HK := fun W (h : At 67 W gR rt) => refreadtexts_any 3 16 (by omega) (by omega) hft h
          generalize hkk : rdTexts rt 3 16 = kk at HK
          replace hkk := hide hkk
          replace HT := hide HT
          replace HK := hide HK
          replace hat := hide hat
          replace hx := hide hx
          replace hrt := hide hrt
          replace hrow := hide hrow
          replace hS := hide hS
          replace hO := hide hO
          clear hs hrd
          replace hbad' := hide hbad'
          clear hbad
          go_wp2_with fail
          clear r1'
          obtain ⟨ks0, hks0, hown0, hkeys0⟩ := hrow.out
          obtain ⟨va, vc, rfl⟩ := row_slice hown0
          have hlt1 := World.ownsRow.lt hown0
          have HOWN : Hid (wr.ownsRow B 40 2 (.slice va l.length vc) l.length (pcells l ks0)) := hown0
          have HRD : Hid (∃ cs, wr.heap[gR]? = some (.cells cs 67 (0, 0))) := by
            obtain ⟨s9, _, h9⟩ := hat.out; exact ⟨_, h9⟩
          replace hkeys0 := hide hkeys0
          replace hlt1 := hide hlt1
          clear hown0
          go_region_law (first
            | (refine step_put1 (st := 22) Try.underlying22 Try.info40 rfl (by decide) (by decide) w6 _ (by rfl) (.tmp 32) (.tmp 38) (by rfl) B _ _ _ (by rfl) own6 (by rfl) rfl (by intro u hu; simp at hu; rcases hu with rfl | rfl <;> rfl) (by omega) hz6 ?_; intro v7 w7 hown7 hg7; obtain ⟨v7a, v7c, rfl⟩ := row_slice hown7; have hne7 : some gS ≠ Value.ownBlock (.slice va l.length vc) := (fun e => by have := (hlt1.out gS e.symm).1; omega); have c7 := hg7.cell c6 hne7; have f7 := grown_frozen hg7 hne7 c6 f6)
            | (go_simp; go_at_call 50; refine (HT.out _ (hat.out.drew)).mono ?_; rintro e w5 ⟨rfl, hat5, hb5⟩; have c5 := hb5.cell (show (⟨gS, 1, none⟩ : Addr).block ≠ gR by show gS ≠ gR; omega) c1; have f5 := hb5.frozen (show (⟨gS, 1, none⟩ : Addr).block ≠ gR by show gS ≠ gR; omega) c1 f1; go_wp2_with fail)
            | (go_simp; go_at_call 52; refine (HK.out _ hat5).mono ?_; rintro e w6 ⟨kv, kl, rfl, hk6, hkl6, hat6, hf6, hb6⟩; have c6 := hb6.cell (show (⟨gS, 1, none⟩ : Addr).block ≠ gR by show gS ≠ gR; omega) c5; have f6 := hb6.frozen (show (⟨gS, 1, none⟩ : Addr).block ≠ gR by show gS ≠ gR; omega) c5 f5; obtain ⟨ka, kc, rfl⟩ := hk6.slice; have own6 := own_keep (own_keep (World.ownsRow.drew HOWN.out) hat.out.drew hb5) hat5 hb6; have hz6 : B ≤ w6.heap.size := Nat.le_trans (Nat.le_trans hBz hb5.size) hb6.size; have d6 : ∀ o, (w6.alloc o).cell? ⟨gS, 1, none⟩ = some (.slice va l.length vc) := (fun o => cell_on ((Below.refl _ _).alloc (Nat.le_refl _) o) c6); go_wp2_with fail))
          all_goals
            go_wp2
            go_roundw
            case rel =>
              have hb5' : But gR wr w5 := ⟨hb5.os, hb5.tape, hb5.output, hb5.size, hb5.block⟩
              have hkB : OwnS w6 B (.slice ka kl.length kc) kl := hk6.base (Nat.le_trans hBz hb5.size)
              have hP7 := prow_more (p := ⟨x, kl⟩) hks0 own6 (keys_keep (keys_keep hkeys0.out hat.out hb5') hat5 hb6) hkB hown7 hg7
              have hS6 := (hS.out.but hb5' (by omega)).but hb6 (by omega)
              have hS7 : SAt w7 gS id (.slice va l.length vc) (.slice none 0 0) (.slice none 0 0) (.slice none 0 0) 0 0 := by
                unfold SAt at *; rw [hg7.block gS (Array.getElem?_eq_some_iff.1 hS6).1 hne7]; exact hS6
              have hO6 := (hO.out.but hb5' (by omega)).but hb6 (by omega)
              have hneO : some gO ≠ Value.ownBlock (.slice va l.length vc) := fun e => by have := (hlt1.out gO e.symm).1; omega
              have hO7 : SAt w7 gO ⟨#[]⟩ (.slice none 0 0) (.slice none 0 0) (.slice none 0 0) (.slice none 0 0) 0 0 := by
                unfold SAt at *; rw [hg7.block gO (Array.getElem?_eq_some_iff.1 hO6).1 hneO]; exact hO6
              have hneR : some gR ≠ Value.ownBlock (.slice va l.length vc) := fun e => by have := (hlt1.out gR e.symm).1; omega
              have hat7 : At 67 w7 gR kk.2 := by
                obtain ⟨s9, hs9, hr9⟩ := hat6
                exact ⟨s9, hs9, by unfold Rd at *; rw [hg7.block gR (Array.getElem?_eq_some_iff.1 hr9).1 hneR]; exact hr9⟩
              have hset := But.setCell w7 gS 1 (.slice v7a (l.length + 1) v7c)
              refine ⟨j + 1, _, l ++ [⟨x, kl⟩], kk.2, by omega, by go_num, by simp; omega, hP7.but hset hS7 (by decide) (by decide), ?_, hO7.but hset (by omega), ?_, hat7.but hset (by omega), hf6, ?_, ?_⟩
              · unfold SAt at *
                rw [setCell_eq_setRow w7 gS 1 _ _ (0, 0) _ hS7, setRow_heap w7 gS _ _ _ (0, 0) hS7]; rfl
              · have e9 : n - j = (n - (j + 1)) + 1 := by omega
                have h9 := HI.out
                rw [e9, partiesL_go _ _ hbad'.out, hrt.out] at h9
                have hx9 : mk (txtV rc 16) = x := hx.out
                have hk9 : (rdTexts rt 3 16).1.map mk = kl := by
                  rw [hkk.out, ← hkl6, List.map_map]
                  exact (List.map_congr_left (fun y _ => rfl)).trans (List.map_id _)
                rw [hx9, hk9, hkk.out] at h9
                exact ⟨by rw [h9.1, List.append_assoc]; rfl, h9.2⟩
              · have h5 := hBw.trans (hb5'.below (by omega) (by omega))
                have h6 := h5.trans (hb6.below (by omega) (Nat.le_trans (by omega) hb5'.size))
                have h7 : Below gO w w7 := h6.grown hg7 (Nat.le_trans (by omega) hz6) (fun k hk => by have := (hlt1.out k hk).1; omega)
                exact h7.setCell (by show gO ≤ gS; omega) _
              · have h7 := hg7.size
                have h8 := hset.size
                omega
            case measure => simp [intOf]; omega
      · have j1 : ¬ (j : Int) < (n : Int) := by omega
        have HA : Hid (At 67 wr gR rc) := ⟨s, hs, hrd⟩
        have e0 : n - j = 0 := by omega
        rw [e0] at HI
        clear hs hrd
        go_wp2_with fail
        go_meet
        case rel =>
          have h9 := HI.out
          rw [show partiesL 0 rc = ([], rc) from rfl, List.append_nil] at h9
          rw [h9.1, h9.2]
          exact ⟨v1, hrow, hS, hO, HA.out, hfc, by omega, hBw, hBz⟩
  case rest =>
    clear hS4 hO4 hat4 hf2 hB4 hz4' HPL
    obtain ⟨v1, hrow, hS, hO, hat, hfc, hlen, hBw, hBz⟩ := hcut
    have HC2 := refcount_any 12 hfc hat
    have hf3 := fine_cnt PL.2 12 hfc
    have hm0 := (cntV_range PL.2.1 12).1
    have hm12 := cntV_le PL.2.1 12 (by omega)
    replace HC2 := hide HC2
    replace hat := hide hat
    replace hrow := hide hrow
    replace hS := hide hS
    replace hO := hide hO
    go_wp2_with fail
    refine HC2.out.mono ?_
    rintro e w5 ⟨rfl, hat5, hb5, hz5⟩
    have hrow5 := hrow.out.keep hat.out hb5
    have hS5 := hS.out.but hb5 (by omega)
    have hO5 := hO.out.but hb5 (by omega)
    have hBw5 := hBw.trans (hb5.below (by omega) (by omega))
    clear HC2 hat hrow hS hO hb5 hBw
    obtain ⟨C, hC⟩ : ∃ C, w5.heap.size = C := ⟨_, rfl⟩
    have hBC : B ≤ C := by omega
    obtain ⟨m, hm⟩ := Int.eq_ofNat_of_zero_le hm0
    rw [hm] at hm12 ⊢
    generalize hr3 : cntS PL.2 12 = r3 at hat5 hf3
    obtain ⟨AL, hAL⟩ : ∃ q, arcsL m r3 = q := ⟨_, rfl⟩
    have HAL : Hid (arcsL m r3 = AL) := hAL
    have HFA : Hid (fA b.data.toList = AL) := by
      show _ = _
      unfold fA; rw [HFP.out, hm, hr3]; simpa using hAL
    replace hm := hide hm
    replace hr3 := hide hr3
    clear hAL hm0 hfc hz5 hBz
    go_upto_block 2 with fail
    go_cut [8, 9] from 43 to 73 (fun _ _ wx => ∃ v2, OwnA wx C v2 AL.1 ∧ PRow wx B v1 PL.1 ∧ SAt wx gS id v1 v2 (.slice none 0 0) (.slice none 0 0) 0 0 ∧ SAt wx gO ⟨#[]⟩ (.slice none 0 0) (.slice none 0 0) (.slice none 0 0) (.slice none 0 0) 0 0 ∧ At 67 wx gR AL.2 ∧ Fine AL.2 ∧ AL.1.length ≤ 12 ∧ Below gO w wx ∧ C ≤ wx.heap.size)
    case first =>
      go_wp2_with fail
      go_loopw [8] (fun i wr => ∃ (j : Nat) (v2 : Value) (l : List ArcM) (rc : List UInt8 × Bool), j ≤ m ∧ i = .int .i64 j ∧ l.length ≤ j ∧ OwnA wr C v2 l ∧ PRow wr B v1 PL.1 ∧ SAt wr gS id v1 v2 (.slice none 0 0) (.slice none 0 0) 0 0 ∧ SAt wr gO ⟨#[]⟩ (.slice none 0 0) (.slice none 0 0) (.slice none 0 0) (.slice none 0 0) 0 0 ∧ Hid (AL.1 = l ++ (arcsL (m - j) rc).1 ∧ AL.2 = (arcsL (m - j) rc).2) ∧ At 67 wr gR rc ∧ Fine rc ∧ Below gO w wr ∧ C ≤ wr.heap.size) (fun i _ => m - (intOf i).toNat)
      case atStart => exact ⟨0, _, [], r3, by omega, rfl, by simp, World.ownsRow_nil _ _ _ _, hrow5, hS5, hO5, ⟨by rw [Nat.sub_zero, HAL.out]; simp, by rw [Nat.sub_zero, HAL.out]⟩, hat5, hf3, hBw5, by omega⟩
      case round =>
        clear hrow5 hS5 hO5 hat5 hf3 hBw5 HAL hC
        obtain ⟨j, v2, l, rc, hj, rfl, hlj, hrowA, hrow, hS, hO, HI, hat, hfc, hBw, hCz⟩ := hrel
        obtain ⟨s, hs, hrd⟩ := hat
        have r1' := hrd.isbad
        by_cases hlt : j < m
        · have j1 : (j : Int) < (m : Int) := by omega
          by_cases hbad : rc.2 = true
          · have HA : Hid (At 67 wr gR rc) := ⟨s, hs, hrd⟩
            rw [hbad] at r1'
            replace hbad := hide hbad
            clear hs hrd
            go_wp2_with fail
            go_meet
            case rel =>
              have h9 := HI.out
              rw [arcsL_bad _ _ hbad.out, List.append_nil] at h9
              rw [h9.1, h9.2]
              exact ⟨v2, hrowA, hrow, hS, hO, HA.out, hfc, by omega, hBw, hCz⟩
          · have hbad' : rc.2 = false := by cases e : rc.2; rfl; exact absurd e hbad
            rw [hbad'] at r1'
            have HI2 : Hid (AL.1 = (l ++ [arcOf rc]) ++ (arcsL (m - (j + 1)) (arcS rc)).1 ∧ AL.2 = (arcsL (m - (j + 1)) (arcS rc)).2) := by
              have e9 : m - j = (m - (j + 1)) + 1 := by omega
              have h9 := HI.out
              rw [e9, arcsL_go _ _ hbad'] at h9
              exact ⟨by rw [h9.1, List.append_assoc]; rfl, h9.2⟩
            have hA0 : At 67 wr gR rc := ⟨s, hs, hrd⟩
            have hf1 := fine_num rc hfc
            have hf2 := fine_num _ hf1
            have hf3 := fine_num _ hf2
            have hf4 := fine_txt _ 16 hf3
            have hf5 := fine_num _ hf4
            have HEA : Hid (arcOf rc = ⟨numV rc.1, numV (numS rc).1, numV (numS (numS rc)).1, ⟨(txtV (numS (numS (numS rc))) 16).toArray⟩, numV (txtS (numS (numS (numS rc))) 16).1⟩) := (rfl : _ = _)
            have HES : Hid (arcS rc = numS (txtS (numS (numS (numS rc))) 16)) := (rfl : _ = _)
            obtain ⟨va, vc, rfl⟩ := row_slice hrowA
            have hlt2 := World.ownsRow.lt hrowA
            have HT1 := refnum_any hfc hA0
            replace hA0 := hide hA0
            replace hrowA := hide hrowA
            replace hrow := hide hrow
            replace hS := hide hS
            replace hO := hide hO
            replace hlt2 := hide hlt2
            clear hbad hbad' HI hs hrd
            go_wp2_with fail
            refine HT1.mono ?_
            rintro e wa ⟨rfl, ha, hba, hza⟩
            have HT2 := refnum_any hf1 ha
            clear HT1 r1'
            go_wp2_with fail
            refine HT2.mono ?_
            rintro e wb ⟨rfl, hb, hbb, hzb⟩
            have HT3 := refnum_any hf2 hb
            clear HT2
            go_wp2_with fail
            refine HT3.mono ?_
            rintro e wc ⟨rfl, hc, hbc, hzc⟩
            clear HT3
            have hbut := (hba.trans hbb).trans hbc
            have hrowAc := hrowA.out.keep hA0.out hbut
            have hrowc := hrow.out.keep hA0.out hbut
            have hSc := hS.out.but hbut (by omega)
            have hOc := hO.out.but hbut (by omega)
            have hBwc := hBw.trans (hbut.below (by omega) (Nat.le_trans (by omega) hCz))
            have hCzc : C ≤ wc.heap.size := Nat.le_trans hCz hbut.size
            clear ha hb hba hbb hbc hza hzb hzc hbut hrowA hrow hS hO hBw hA0
            generalize numV rc.1 = x1 at HEA ⊢
            generalize numV (numS rc).1 = x2 at HEA ⊢
            generalize numV (numS (numS rc)).1 = x3 at HEA ⊢
            generalize numS (numS (numS rc)) = rd at HEA HES hc hf3 hf4 hf5
            go_wp2_with fail
            have hal : Below wc.heap.size wc (wc.alloc (Obj.cells #[Value.int IntKind.i64 x1, Value.int IntKind.i64 x2, Value.int IntKind.i64 x3, Value.string ⟨#[]⟩, Value.int IntKind.i64 0] 42)) := (Below.refl _ _).alloc (Nat.le_refl _) _
            have hAd : AAt (wc.alloc (Obj.cells #[Value.int IntKind.i64 x1, Value.int IntKind.i64 x2, Value.int IntKind.i64 x3, Value.string ⟨#[]⟩, Value.int IntKind.i64 0] 42)) wc.heap.size ⟨x1, x2, x3, ⟨#[]⟩, 0⟩ := AAt.new wc ⟨x1, x2, x3, ⟨#[]⟩, 0⟩
            have hatd := hc.below hal
            have hrowAd := hrowAc.below hal
            have hrowd := hrowc.below hal
            have hSd := hSc.but (But.of_below (g := wc.heap.size) hal) (by have := (Array.getElem?_eq_some_iff.1 hSc).1; omega)
            have hOd := hOc.but (But.of_below (g := wc.heap.size) hal) (by have := (Array.getElem?_eq_some_iff.1 hOc).1; omega)
            have hBwd : Below gO w (wc.alloc (Obj.cells #[Value.int IntKind.i64 x1, Value.int IntKind.i64 x2, Value.int IntKind.i64 x3, Value.string ⟨#[]⟩, Value.int IntKind.i64 0] 42)) := hBwc.alloc (Nat.le_trans (by omega) hCzc) _
            have hgdS : wc.heap.size ≠ gS := by have := (Array.getElem?_eq_some_iff.1 hSc).1; omega
            have hgdR : wc.heap.size ≠ gR := by have := hc.lt; omega
            have hgdO : gO ≤ wc.heap.size := Nat.le_trans (by omega) hCzc
            have hgdO' : gO ≠ wc.heap.size := by have := (Array.getElem?_eq_some_iff.1 hOc).1; omega
            have hgdA : Value.ownBlock (.slice va l.length vc) ≠ some wc.heap.size := fun e => by have := (World.ownsRow.lt hrowAc _ e).2; omega
            have hCzd : C ≤ (wc.alloc (Obj.cells #[Value.int IntKind.i64 x1, Value.int IntKind.i64 x2, Value.int IntKind.i64 x3, Value.string ⟨#[]⟩, Value.int IntKind.i64 0] 42)).heap.size := by simp; omega
            clear hal hc hrowAc hrowc hSc hOc hBwc hCzc
            generalize wc.alloc (Obj.cells #[Value.int IntKind.i64 x1, Value.int IntKind.i64 x2, Value.int IntKind.i64 x3, Value.string ⟨#[]⟩, Value.int IntKind.i64 0] 42) = wd at hAd hatd hrowAd hrowd hSd hOd hBwd hCzd ⊢
            generalize wc.heap.size = gd at hAd hgdS hgdR hgdO hgdO' hgdA ⊢
            have HTx := reftext_any 16 hf3 hatd
            generalize hx4 : (⟨(txtV rd 16).toArray⟩ : ByteArray) = x4 at HTx HEA
            generalize txtS rd 16 = re at HTx HEA HES hf4 hf5
            refine HTx.mono ?_
            rintro e we ⟨rfl, hate, hbe⟩
            have hAe := hAd.but hbe hgdR
            have hrowAe := hrowAd.keep hatd hbe
            have hrowe := hrowd.keep hatd hbe
            have hSe := hSd.but hbe (by omega)
            have hOe := hOd.but hbe (by omega)
            have hBwe := hBwd.trans (hbe.below (by omega) (Nat.le_trans (by omega) hCzd))
            have hCze : C ≤ we.heap.size := Nat.le_trans hCzd hbe.size
            clear HTx hAd hatd hrowAd hrowd hSd hOd hBwd hCzd hbe hx4
            have k3 := hAe.cells.2.2.2.1
            have g3 : we.frozen? ⟨gd, 3, none⟩ = false := frozen_of_row we gd 3 _ _ hAe
            replace hAe := hide hAe
            replace hrowAe := hide hrowAe
            replace hrowe := hide hrowe
            replace hSe := hide hSe
            replace hOe := hide hOe
            replace hate := hide hate
            go_wp2_with fail
            have hset := But.setCell we gd 3 (.string x4)
            have hAf := hAe.out.asset x4
            have hatf := hate.out.but hset (Ne.symm hgdR)
            have hrowAf : OwnA (we.setCell ⟨gd, 3, none⟩ (.string x4)) C (.slice va l.length vc) l := World.ownsRow.kept hrowAe.out hset.grown (.inr hgdA)
            have hrowf := hrowe.out.but hset hAe.out (by decide) (by decide)
            have hSf := hSe.out.but hset (Ne.symm hgdS)
            have hOf := hOe.out.but hset hgdO'
            have hBwf := hBwe.setCell (p := ⟨gd, 3, none⟩) hgdO (.string x4)
            have hCzf : C ≤ (we.setCell ⟨gd, 3, none⟩ (.string x4)).heap.size := by simp [World.setCell]; exact hCze
            clear k3 g3 hset hAe hate hrowAe hrowe hSe hOe hBwe hCze
            generalize we.setCell ⟨gd, 3, none⟩ (.string x4) = wf at hAf hatf hrowAf hrowf hSf hOf hBwf hCzf ⊢
            have HTn := refnum_any hf4 hatf
            refine HTn.mono ?_
            rintro e wg ⟨rfl, hatg, hbg, hzg⟩
            have hAg := hAf.but hbg hgdR
            have hrowAg := hrowAf.keep hatf hbg
            have hrowg := hrowf.keep hatf hbg
            have hSg := hSf.but hbg (by omega)
            have hOg := hOf.but hbg (by omega)
            have hBwg := hBwf.trans (hbg.below (by omega) (Nat.le_trans (by omega) hCzf))
            have hCzg : C ≤ wg.heap.size := Nat.le_trans hCzf hbg.size
            clear HTn hAf hatf hrowAf hrowf hSf hOf hBwf hCzf hbg hzg
            generalize numV re.1 = x5 at HEA ⊢
            obtain ⟨k0, k1, k2, k3, k4⟩ := hAg.cells
            have g4 : wg.frozen? ⟨gd, 4, none⟩ = false := frozen_of_row wg gd 4 _ _ hAg
            have cS : wg.cell? ⟨gS, 2, none⟩ = some (.slice va l.length vc) := by rw [cell_of_row wg gS 2 _ _ _ hSg]; rfl
            have fS : wg.frozen? ⟨gS, 2, none⟩ = false := frozen_of_row wg gS 2 _ _ hSg
            have hset := But.setCell wg gd 4 (.int .i64 x5)
            have hAh := hAg.amount x5
            have hrowAh : OwnA (wg.setCell ⟨gd, 4, none⟩ (.int .i64 x5)) C (.slice va l.length vc) l := World.ownsRow.kept hrowAg hset.grown (.inr hgdA)
            have hrowh := hrowg.but hset hAg (by decide) (by decide)
            have hSh := hSg.but hset (Ne.symm hgdS)
            have hOh := hOg.but hset hgdO'
            have hath := hatg.but hset (Ne.symm hgdR)
            have hBwh := hBwg.setCell (p := ⟨gd, 4, none⟩) hgdO (.int .i64 x5)
            have hCzh : C ≤ (wg.setCell ⟨gd, 4, none⟩ (.int .i64 x5)).heap.size := by simp [World.setCell]; exact hCzg
            replace hAh := hide hAh
            replace hrowAh := hide hrowAh
            replace hrowh := hide hrowh
            replace hSh := hide hSh
            replace hOh := hide hOh
            replace hath := hide hath
            replace hBwh := hide hBwh
            replace hCzh := hide hCzh
            clear hset hAg hrowAg hrowg hSg hOg hatg hBwg hCzg cS fS
            go_upto_region 15 with fail
            clear k0 k1 k2 k3 k4 g4
            generalize wg.setCell ⟨gd, 4, none⟩ (.int .i64 x5) = wh at hAh hrowAh hrowh hSh hOh hath hBwh hCzh ⊢
            obtain ⟨k0, k1, k2, k3, k4⟩ := hAh.out.cells
            have cS : wh.cell? ⟨gS, 2, none⟩ = some (.slice va l.length vc) := by rw [cell_of_row wh gS 2 _ _ _ hSh.out]; rfl
            have fS : wh.frozen? ⟨gS, 2, none⟩ = false := frozen_of_row wh gS 2 _ _ hSh.out
            have hCzh' := hCzh.out
            go_wp2_with (at_builtin; refine wpList_put1 (st := 23) Try.underlying23 Try.info42 rfl (by decide) (by decide) wh _ (by rfl) (.tmp 69) (.tmp 71) (by rfl) C _ _ _ (by rfl) hrowAh.out (by rfl) rfl (by intro u hu; simp at hu; rcases hu with rfl | rfl | rfl | rfl | rfl <;> rfl) (by omega) hCzh' ?_; intro v7 w7 hown7 hg7; obtain ⟨v7a, v7c, rfl⟩ := row_slice hown7; have hne7 : some gS ≠ Value.ownBlock (.slice va l.length vc) := (fun e => by have := (hlt2.out gS e.symm).1; omega); have c7 := hg7.cell cS hne7; have f7 := grown_frozen hg7 hne7 cS fS)
            go_roundw
            case rel =>
              have hneO : some gO ≠ Value.ownBlock (.slice va l.length vc) := fun e => by have := (hlt2.out gO e.symm).1; omega
              have hneR : some gR ≠ Value.ownBlock (.slice va l.length vc) := fun e => by have := (hlt2.out gR e.symm).1; omega
              have hS7 : SAt w7 gS id v1 (.slice va l.length vc) (.slice none 0 0) (.slice none 0 0) 0 0 := by
                have := hSh.out; unfold SAt at *; rw [hg7.block gS (Array.getElem?_eq_some_iff.1 this).1 hne7]; exact this
              have hO7 : SAt w7 gO ⟨#[]⟩ (.slice none 0 0) (.slice none 0 0) (.slice none 0 0) (.slice none 0 0) 0 0 := by
                have := hOh.out; unfold SAt at *; rw [hg7.block gO (Array.getElem?_eq_some_iff.1 this).1 hneO]; exact this
              have hat7 : At 67 w7 gR (numS re) := by
                obtain ⟨s9, hs9, hr9⟩ := hath.out
                exact ⟨s9, hs9, by unfold Rd at *; rw [hg7.block gR (Array.getElem?_eq_some_iff.1 hr9).1 hneR]; exact hr9⟩
              have hP7 := hrowh.out.grown hrowAh.out hg7 (by decide) (by decide)
              have hset := But.setCell w7 gS 2 (.slice v7a (l.length + 1) v7c)
              have hA7 : OwnA w7 C (.slice v7a (l.length + 1) v7c) (l ++ [arcOf rc]) := by
                unfold OwnA; rw [List.length_append, List.flatMap_append, HEA.out]; exact hown7
              have hA8 : OwnA (w7.setCell ⟨gS, 2, none⟩ (.slice v7a (l.length + 1) v7c)) C (.slice v7a (l.length + 1) v7c) (l ++ [arcOf rc]) := World.ownsRow.kept hA7 hset.grown (row_apart hA7 hS7 (by decide))
              refine ⟨j + 1, _, l ++ [arcOf rc], numS re, by omega, by go_num, by simp; omega, hA8, hP7.but hset hS7 (by decide) (by decide), ?_, hO7.but hset (by omega), ?_, hat7.but hset (by omega), hf5, ?_, ?_⟩
              · unfold SAt at *
                rw [setCell_eq_setRow w7 gS 2 _ _ (0, 0) _ hS7, setRow_heap w7 gS _ _ _ (0, 0) hS7]; rfl
              · have h9 := HI2.out
                rw [HES.out] at h9
                exact h9
              · have h7 : Below gO w w7 := hBwh.out.grown hg7 (Nat.le_trans (by omega) hCzh') (fun k hk => by have := (hlt2.out k hk).1; omega)
                exact h7.setCell (by show gO ≤ gS; omega) _
              · have h7 := hg7.size
                have h8 := hset.size
                omega
            case measure => simp [intOf]; omega
        · have j1 : ¬ (j : Int) < (m : Int) := by omega
          have HA : Hid (At 67 wr gR rc) := ⟨s, hs, hrd⟩
          have e0 : m - j = 0 := by omega
          rw [e0] at HI
          clear hs hrd
          go_wp2_with fail
          go_meet
          case rel =>
            have h9 := HI.out
            rw [show arcsL 0 rc = ([], rc) from rfl, List.append_nil] at h9
            rw [h9.1, h9.2]
            exact ⟨v2, hrowA, hrow, hS, hO, HA.out, hfc, by omega, hBw, hCz⟩
    case rest =>
      clear hrow5 hS5 hO5 hat5 hf3 hBw5 HAL hC
      obtain ⟨v2, hrowA, hrow, hS, hO, hat, hfc, hlen2, hBw, hCz⟩ := hcut
      have HC3 := refcount_any 3 hfc hat
      have hf4 := fine_cnt AL.2 3 hfc
      have hk0 := (cntV_range AL.2.1 3).1
      have hk3 := cntV_le AL.2.1 3 (by omega)
      replace HC3 := hide HC3
      replace hat := hide hat
      replace hrow := hide hrow
      replace hrowA := hide hrowA
      replace hS := hide hS
      replace hO := hide hO
      go_wp2_with fail
      refine HC3.out.mono ?_
      rintro e w6 ⟨rfl, hat6, hb6, hz6⟩
      have hrow6 := hrow.out.keep hat.out hb6
      have hrowA6 := hrowA.out.keep hat.out hb6
      have hS6 := hS.out.but hb6 (by omega)
      have hO6 := hO.out.but hb6 (by omega)
      have hBw6 := hBw.trans (hb6.below (by omega) (Nat.le_trans (by omega) hCz))
      clear HC3 hat hrow hrowA hS hO hb6 hBw
      obtain ⟨D, hD⟩ : ∃ D, w6.heap.size = D := ⟨_, rfl⟩
      have hCD : C ≤ D := by omega
      obtain ⟨k, hk⟩ := Int.eq_ofNat_of_zero_le hk0
      rw [hk] at hk3 ⊢
      generalize hr4 : cntS AL.2 3 = r4 at hat6 hf4
      obtain ⟨NL, hNL⟩ : ∃ q, numsL k r4 = q := ⟨_, rfl⟩
      have HNL : Hid (numsL k r4 = NL) := hNL
      have HFL : Hid (fL b.data.toList = NL) := by
        show _ = _
        unfold fL; rw [HFA.out, hk, hr4]; simpa using hNL
      replace hk := hide hk
      replace hr4 := hide hr4
      clear hNL hk0 hfc hz6 hCz
      go_upto_block 4 with fail
      go_cut [10] from 76 to 94 (fun _ wx => ∃ v3, OwnI wx D v3 NL.1 ∧ OwnA wx C v2 AL.1 ∧ PRow wx B v1 PL.1 ∧ SAt wx gS id v1 v2 v3 (.slice none 0 0) 0 0 ∧ SAt wx gO ⟨#[]⟩ (.slice none 0 0) (.slice none 0 0) (.slice none 0 0) (.slice none 0 0) 0 0 ∧ At 67 wx gR NL.2 ∧ Fine NL.2 ∧ NL.1.length ≤ 3 ∧ Below gO w wx ∧ D ≤ wx.heap.size)
      case first =>
        go_wp2_with fail
        go_loopw [10] (fun i wr => ∃ (j : Nat) (v3 : Value) (l : List Int) (rc : List UInt8 × Bool), j ≤ k ∧ i = .int .i64 j ∧ l.length ≤ j ∧ OwnI wr D v3 l ∧ OwnA wr C v2 AL.1 ∧ PRow wr B v1 PL.1 ∧ SAt wr gS id v1 v2 v3 (.slice none 0 0) 0 0 ∧ SAt wr gO ⟨#[]⟩ (.slice none 0 0) (.slice none 0 0) (.slice none 0 0) (.slice none 0 0) 0 0 ∧ Hid (NL.1 = l ++ (numsL (k - j) rc).1 ∧ NL.2 = (numsL (k - j) rc).2) ∧ At 67 wr gR rc ∧ Fine rc ∧ Below gO w wr ∧ D ≤ wr.heap.size) (fun i _ => k - (intOf i).toNat)
        case atStart => exact ⟨0, _, [], r4, by omega, rfl, by simp, World.ownsRow_nil _ _ _ _, hrowA6, hrow6, hS6, hO6, ⟨by rw [Nat.sub_zero, HNL.out]; simp, by rw [Nat.sub_zero, HNL.out]⟩, hat6, hf4, hBw6, by omega⟩
        case round =>
          clear hrow6 hrowA6 hS6 hO6 hat6 hf4 hBw6 HNL hD
          obtain ⟨j, v3, l, rc, hj, rfl, hlj, hrowI, hrowA, hrow, hS, hO, HI, hat, hfc, hBw, hDz⟩ := hrel
          obtain ⟨s, hs, hrd⟩ := hat
          have r1' := hrd.isbad
          by_cases hlt : j < k
          · have j1 : (j : Int) < (k : Int) := by omega
            by_cases hbad : rc.2 = true
            · have HA : Hid (At 67 wr gR rc) := ⟨s, hs, hrd⟩
              rw [hbad] at r1'
              replace hbad := hide hbad
              clear hs hrd
              go_wp2_with fail
              go_meet
              case rel =>
                have h9 := HI.out
                rw [numsL_bad _ _ hbad.out, List.append_nil] at h9
                rw [h9.1, h9.2]
                exact ⟨v3, hrowI, hrowA, hrow, hS, hO, HA.out, hfc, by omega, hBw, hDz⟩
            · have hbad' : rc.2 = false := by cases e : rc.2; rfl; exact absurd e hbad
              rw [hbad'] at r1'
              have HI2 : Hid (NL.1 = (l ++ [numV rc.1]) ++ (numsL (k - (j + 1)) (numS rc)).1 ∧ NL.2 = (numsL (k - (j + 1)) (numS rc)).2) := by
                have e9 : k - j = (k - (j + 1)) + 1 := by omega
                have h9 := HI.out
                rw [e9, numsL_go _ _ hbad'] at h9
                exact ⟨by rw [h9.1, List.append_assoc]; rfl, h9.2⟩
              have hat : At 67 wr gR rc := ⟨s, hs, hrd⟩
              have hf1 := fine_num rc hfc
              have HT := fun W (h : At 67 W gR rc) => refnum_any hfc h
              obtain ⟨va, vc, rfl⟩ := row_slice hrowI
              have c1 : wr.cell? ⟨gS, 3, none⟩ = some (.slice va l.length vc) := by rw [cell_of_row wr gS 3 _ _ _ hS]; rfl
              have f1 : wr.frozen? ⟨gS, 3, none⟩ = false := frozen_of_row wr gS 3 _ _ hS
              have hlt3 := World.ownsRow.lt hrowI
              replace HT := hide HT
              replace hat := hide hat
              replace hrow := hide hrow
              replace hrowA := hide hrowA
              replace hrowI := hide hrowI
              replace hS := hide hS
              replace hO := hide hO
              replace hlt3 := hide hlt3
              clear hs hrd hbad hbad' HI
              generalize numV rc.1 = x at HT HI2
              generalize numS rc = rt at HT HI2 hf1
              go_wp2_with fail
              clear r1'
              go_region_law (first
                | (go_simp; go_at_call 53; refine (HT.out _ (hat.out.drew)).mono ?_; rintro e w7 ⟨rfl, hat7, hb7, hsz7⟩; clear hsz7; have c7 := hb7.cell (show (⟨gS, 3, none⟩ : Addr).block ≠ gR by show gS ≠ gR; omega) c1; have f7 := hb7.frozen (show (⟨gS, 3, none⟩ : Addr).block ≠ gR by show gS ≠ gR; omega) c1 f1; have hb7' : But gR wr w7 := (⟨hb7.os, hb7.tape, hb7.output, hb7.size, hb7.block⟩); have own7 := hrowI.out.keep hat.out hb7'; have hz7 : D ≤ w7.heap.size := Nat.le_trans hDz hb7.size; have d7 : ∀ o, (w7.alloc o).cell? ⟨gS, 3, none⟩ = some (.slice va l.length vc) := (fun o => cell_on ((Below.refl _ _).alloc (Nat.le_refl _) o) c7); go_wp2_with fail)
                | (refine step_put1 (st := 24) Try.underlying24 Try.info3 rfl (by decide) (by decide) w7 _ (by rfl) (.tmp 89) (.tmp 92) (by rfl) D _ _ _ (by rfl) own7 (by rfl) rfl (by intro u hu; simp at hu; subst hu; rfl) (by omega) hz7 ?_; intro v8 w8 hown8 hg8; obtain ⟨v8a, v8c, rfl⟩ := row_slice hown8; have hne8 : some gS ≠ Value.ownBlock (.slice va l.length vc) := (fun e => by have := (hlt3.out gS e.symm).1; omega); have c8 := hg8.cell c7 hne8; have f8 := grown_frozen hg8 hne8 c7 f7))
              all_goals
                go_wp2
                go_roundw
                case rel =>
                  have hneO : some gO ≠ Value.ownBlock (.slice va l.length vc) := fun e => by have := (hlt3.out gO e.symm).1; omega
                  have hneR : some gR ≠ Value.ownBlock (.slice va l.length vc) := fun e => by have := (hlt3.out gR e.symm).1; omega
                  have hS7 := hS.out.but hb7' (by omega)
                  have hO7 := hO.out.but hb7' (by omega)
                  have hP7 := hrow.out.keep hat.out hb7'
                  have hA7 := hrowA.out.keep hat.out hb7'
                  have hS8 : SAt w8 gS id v1 v2 (.slice va l.length vc) (.slice none 0 0) 0 0 := by
                    unfold SAt at *; rw [hg8.block gS (Array.getElem?_eq_some_iff.1 hS7).1 hne8]; exact hS7
                  have hO8 : SAt w8 gO ⟨#[]⟩ (.slice none 0 0) (.slice none 0 0) (.slice none 0 0) (.slice none 0 0) 0 0 := by
                    unfold SAt at *; rw [hg8.block gO (Array.getElem?_eq_some_iff.1 hO7).1 hneO]; exact hO7
                  have hat8 : At 67 w8 gR rt := by
                    obtain ⟨s9, hs9, hr9⟩ := hat7
                    exact ⟨s9, hs9, by unfold Rd at *; rw [hg8.block gR (Array.getElem?_eq_some_iff.1 hr9).1 hneR]; exact hr9⟩
                  have hP8 := hP7.grown own7 hg8 (by decide) (by decide)
                  have hA8 := hA7.grown own7 hg8 (by decide)
                  have hset := But.setCell w8 gS 3 (.slice v8a (l.length + 1) v8c)
                  have hI8 : OwnI w8 D (.slice v8a (l.length + 1) v8c) (l ++ [x]) := by
                    unfold OwnI; rw [List.length_append, List.map_append]; exact hown8
                  have hI9 : OwnI (w8.setCell ⟨gS, 3, none⟩ (.slice v8a (l.length + 1) v8c)) D (.slice v8a (l.length + 1) v8c) (l ++ [x]) := World.ownsRow.kept hI8 hset.grown (row_apart hI8 hS8 (by decide))
                  have hA9 : OwnA (w8.setCell ⟨gS, 3, none⟩ (.slice v8a (l.length + 1) v8c)) C v2 AL.1 := World.ownsRow.kept hA8 hset.grown (row_apart hA8 hS8 (by decide))
                  refine ⟨j + 1, _, l ++ [x], rt, by omega, by go_num, by simp; omega, hI9, hA9, hP8.but hset hS8 (by decide) (by decide), ?_, hO8.but hset (by omega), HI2, hat8.but hset (by omega), hf1, ?_, ?_⟩
                  · unfold SAt at *
                    rw [setCell_eq_setRow w8 gS 3 _ _ (0, 0) _ hS8, setRow_heap w8 gS _ _ _ (0, 0) hS8]; rfl
                  · have h6 := hBw.trans (hb7'.below (by omega) (Nat.le_trans (by omega) hDz))
                    have h7 : Below gO w w8 := h6.grown hg8 (Nat.le_trans (by omega) hz7) (fun k hk => by have := (hlt3.out k hk).1; omega)
                    exact h7.setCell (by show gO ≤ gS; omega) _
                  · have h7 := hg8.size
                    have h8 := hset.size
                    omega
                case measure => simp [intOf]; omega
          · have j1 : ¬ (j : Int) < (k : Int) := by omega
            have HA : Hid (At 67 wr gR rc) := ⟨s, hs, hrd⟩
            have e0 : k - j = 0 := by omega
            rw [e0] at HI
            clear hs hrd
            go_wp2_with fail
            go_meet
            case rel =>
              have h9 := HI.out
              rw [show numsL 0 rc = ([], rc) from rfl, List.append_nil] at h9
              rw [h9.1, h9.2]
              exact ⟨v3, hrowI, hrowA, hrow, hS, hO, HA.out, hfc, by omega, hBw, hDz⟩
      case rest =>
        clear hrow6 hrowA6 hS6 hO6 hat6 hf4 hBw6 HNL hD
        obtain ⟨v3, hrowI, hrowA, hrow, hS, hO, hat, hfc, hlen3, hBw, hDz⟩ := hcut
        have HT := refreadtexts_any 3 32 (by omega) (by omega) hfc hat
        obtain ⟨kk, hkk⟩ : ∃ kk, rdTexts NL.2 3 32 = kk := ⟨_, rfl⟩
        rw [hkk] at HT
        have HFT : Hid (fT b.data.toList = kk) := by show _ = _; unfold fT; rw [HFL.out]; exact hkk
        clear hkk
        replace HT := hide HT
        replace hat := hide hat
        replace hrow := hide hrow
        replace hrowA := hide hrowA
        replace hrowI := hide hrowI
        replace hS := hide hS
        replace hO := hide hO
        go_wp2_with fail
        refine HT.out.mono ?_
        rintro e w7 ⟨v4, kl, rfl, hk7, hkl, hat7, hf7, hb7⟩
        have hrow7 := hrow.out.keep hat.out hb7
        have hrowA7 := hrowA.out.keep hat.out hb7
        have hrowI7 := hrowI.out.keep hat.out hb7
        have hS7 := hS.out.but hb7 (by omega)
        have hO7 := hO.out.but hb7 (by omega)
        have hBw7 := hBw.trans (hb7.below (by omega) (Nat.le_trans (by omega) hDz))
        have hk7' : OwnS w7 gO v4 kl := hk7.base (by have := hBw.size; omega)
        have hkk1 : Hid (kk.1.map mk = kl) := by
          show _ = _
          rw [← hkl, List.map_map]
          exact (List.map_congr_left (fun y _ => rfl)).trans (List.map_id _)
        clear HT hat hrow hrowA hrowI hS hO hb7 hBw hk7 hkl
        obtain ⟨va4, vc4, rfl⟩ := hk7'.slice
        have c4 := hS7.cells.2.2.2.2.1
        have f4 := hS7.frozen 4
        have hset := But.setCell w7 gS 4 (.slice va4 kl.length vc4)
        have hS8 := hide (hS7.set4 (.slice va4 kl.length vc4))
        have hO8 := hide (hO7.but hset (by omega))
        have hat8 := hide (hat7.but hset (by omega))
        have hrow8 := hide (hrow7.but hset hS7 (by decide) (by decide))
        have hrowA8 : Hid (OwnA (w7.setCell ⟨gS, 4, none⟩ (.slice va4 kl.length vc4)) C v2 AL.1) := World.ownsRow.kept hrowA7 hset.grown (row_apart hrowA7 hS7 (by decide))
        have hrowI8 : Hid (OwnI (w7.setCell ⟨gS, 4, none⟩ (.slice va4 kl.length vc4)) D v3 NL.1) := World.ownsRow.kept hrowI7 hset.grown (row_apart hrowI7 hS7 (by decide))
        have hk8 := hide (hk7'.but hset hS7 (by decide))
        have hBw8 := hide (hBw7.setCell (p := ⟨gS, 4, none⟩) (by show gO ≤ gS; omega) (.slice va4 kl.length vc4))
        clear hset hS7 hO7 hat7 hrow7 hrowA7 hrowI7 hk7' hBw7
        go_upto_region 22 with fail
        clear c4 f4
        generalize w7.setCell ⟨gS, 4, none⟩ (.slice va4 kl.length vc4) = w8 at hS8 hO8 hat8 hrow8 hrowA8 hrowI8 hk8 hBw8 ⊢
        clear w7
        have HN := refnum_any hf7 hat8.out
        have hf8 := fine_num kk.2 hf7
        obtain ⟨st, hst⟩ : ∃ st, numV kk.2.1 = st := ⟨_, rfl⟩
        obtain ⟨r8, hr8⟩ : ∃ r8, numS kk.2 = r8 := ⟨_, rfl⟩
        rw [hst, hr8] at HN
        rw [hr8] at hf8
        replace HN := hide HN
        replace hst := hide hst
        replace hr8 := hide hr8
        go_wp2_with fail
        refine HN.out.mono ?_
        rintro e w9 ⟨rfl, hat9, hb9, hsz9⟩
        clear hsz9
        have hS9 := hS8.out.but hb9 (by omega)
        have hO9 := hO8.out.but hb9 (by omega)
        have hrow9 := hrow8.out.keep hat8.out hb9
        have hrowA9 := hrowA8.out.keep hat8.out hb9
        have hrowI9 := hrowI8.out.keep hat8.out hb9
        have hk9 : OwnS w9 gO (.slice va4 kl.length vc4) kl := by obtain ⟨s9, _, hr9⟩ := hat8.out; exact hk8.out.but hb9 hr9 (by decide)
        have hBw9 := hBw8.out.trans (hb9.below (by omega) (Nat.le_trans (by omega) hBw8.out.size))
        clear HN hat8 hS8 hO8 hrow8 hrowA8 hrowI8 hk8 hBw8 hb9
        have c5 := hS9.cells.2.2.2.2.2.1
        have f5 := hS9.frozen 5
        have hset := But.setCell w9 gS 5 (.int .i64 st)
        have hSa := hide (hS9.set5 st)
        have hOa := hide (hO9.but hset (by omega))
        have hata := hide (hat9.but hset (by omega))
        have hrowa := hide (hrow9.but hset hS9 (by decide) (by decide))
        have hrowAa : Hid (OwnA (w9.setCell ⟨gS, 5, none⟩ (.int .i64 st)) C v2 AL.1) := World.ownsRow.kept hrowA9 hset.grown (row_apart hrowA9 hS9 (by decide))
        have hrowIa : Hid (OwnI (w9.setCell ⟨gS, 5, none⟩ (.int .i64 st)) D v3 NL.1) := World.ownsRow.kept hrowI9 hset.grown (row_apart hrowI9 hS9 (by decide))
        have hka := hide (hk9.but hset hS9 (by decide))
        have hBwa := hide (hBw9.setCell (p := ⟨gS, 5, none⟩) (by show gO ≤ gS; omega) (.int .i64 st))
        clear hset hS9 hO9 hat9 hrow9 hrowA9 hrowI9 hk9 hBw9
        go_upto_region 23 with fail
        clear c5 f5
        generalize w9.setCell ⟨gS, 5, none⟩ (.int .i64 st) = wa at hSa hOa hata hrowa hrowAa hrowIa hka hBwa ⊢
        clear w9
        have HN := refnum_any hf8 hata.out
        obtain ⟨de, hde⟩ : ∃ de, numV r8.1 = de := ⟨_, rfl⟩
        obtain ⟨r9, hr9⟩ : ∃ r9, numS r8 = r9 := ⟨_, rfl⟩
        rw [hde, hr9] at HN
        replace HN := hide HN
        replace hde := hide hde
        replace hr9 := hide hr9
        go_wp2_with fail
        refine HN.out.mono ?_
        rintro e wb ⟨rfl, hatb, hbb, hszb⟩
        clear hszb
        have hSb := hSa.out.but hbb (by omega)
        have hOb := hOa.out.but hbb (by omega)
        have hrowb := hrowa.out.keep hata.out hbb
        have hrowAb := hrowAa.out.keep hata.out hbb
        have hrowIb := hrowIa.out.keep hata.out hbb
        have hkb : OwnS wb gO (.slice va4 kl.length vc4) kl := by obtain ⟨s9, _, hr9⟩ := hata.out; exact hka.out.but hbb hr9 (by decide)
        have hBwb := hBwa.out.trans (hbb.below (by omega) (Nat.le_trans (by omega) hBwa.out.size))
        clear HN hata hSa hOa hrowa hrowAa hrowIa hka hBwa hbb
        have c6 := hSb.cells.2.2.2.2.2.2
        have f6 := hSb.frozen 6
        have hset := But.setCell wb gS 6 (.int .i64 de)
        have hSc := hide (hSb.set6 de)
        have hOc := hide (hOb.but hset (by omega))
        have hatc := hide (hatb.but hset (by omega))
        have hrowc := hide (hrowb.but hset hSb (by decide) (by decide))
        have hrowAc : Hid (OwnA (wb.setCell ⟨gS, 6, none⟩ (.int .i64 de)) C v2 AL.1) := World.ownsRow.kept hrowAb hset.grown (row_apart hrowAb hSb (by decide))
        have hrowIc : Hid (OwnI (wb.setCell ⟨gS, 6, none⟩ (.int .i64 de)) D v3 NL.1) := World.ownsRow.kept hrowIb hset.grown (row_apart hrowIb hSb (by decide))
        have hkc := hide (hkb.but hset hSb (by decide))
        have hBwc := hide (hBwb.setCell (p := ⟨gS, 6, none⟩) (by show gO ≤ gS; omega) (.int .i64 de))
        clear hset hSb hOb hatb hrowb hrowAb hrowIb hkb hBwb
        go_upto_region 24 with fail
        clear c6 f6
        generalize wb.setCell ⟨gS, 6, none⟩ (.int .i64 de) = wc at hSc hOc hatc hrowc hrowAc hrowIc hkc hBwc ⊢
        clear wb
        have HM : Hid (refM b.data.toList = ⟨id, PL.1, AL.1, NL.1, kl, st, de⟩) := by
          show _ = _
          unfold refM
          rw [HFP.out, HFA.out, HFL.out, HFT.out, hkk1.out, hst.out, hr8.out, hde.out]
          rw [show mk (txtV (b.data.toList, false) 16) = id from hid.out]
        have HE : Hid (refE b.data.toList = r9) := by show _ = _; unfold refE; rw [HFT.out, hr8.out, hr9.out]
        have hsane : SaneS ⟨id, PL.1, AL.1, NL.1, kl, st, de⟩ := by rw [← HM.out]; exact refM_sane _
        have hown : OwnSpec wc gO (.agg (scells id v1 v2 v3 (.slice va4 kl.length vc4) st de)) ⟨id, PL.1, AL.1, NL.1, kl, st, de⟩ := by
          refine ⟨_, _, _, _, rfl, ?_, base_row hrowAc.out (by omega), base_row hrowIc.out (by omega), hkc.out⟩
          obtain ⟨ks, hks, ho, hq⟩ := hrowc.out
          exact ⟨ks, hks, base_row ho (by omega), fun j hj => (hq j hj).base (by omega)⟩
        have hW := hown.wide hsane
        rw [← HM.out] at hown
        have h7 : Seven (scells id v1 v2 v3 (.slice va4 kl.length vc4) st de) := by obtain ⟨cs, hcs, h7⟩ := hW.seven; injection hcs with hcs; rw [hcs]; exact h7
        have hvS : SvAt wc gS (scells id v1 v2 v3 (.slice va4 kl.length vc4) st de) := hSc.out
        have hvO : SvAt wc gO (scells ⟨#[]⟩ (.slice none 0 0) (.slice none 0 0) (.slice none 0 0) (.slice none 0 0) 0 0) := hOc.out
        rw [← HM.out] at hW
        have h7z : Seven (scells ⟨#[]⟩ (.slice none 0 0) (.slice none 0 0) (.slice none 0 0) (.slice none 0 0) 0 0) := ⟨rfl, fun u hu => by simp [scells] at hu; rcases hu with rfl | rfl | rfl <;> rfl⟩
        generalize scells id v1 v2 v3 (.slice va4 kl.length vc4) st de = cs at h7 hvS hW hown
        have HDn := refdone_any hatc.out
        have hBw := hBwc.out
        replace hown := hide hown
        clear hrowc hrowAc hrowIc hkc hsane HFP HFA HFL HFT hkk1 hst hr8 hde hid hSc hOc hatc hBwc
        have hlO : gO < wc.heap.size := hvO.lt
        by_cases hd : r9 = ([], false)
        · rw [told_yes hd] at HDn
          have HK := refcheck_any hW.toV
          by_cases hc : specOk (refM b.data.toList)
          · have hok1 : ok = true := by rw [← hok.out]; exact told_yes ⟨by rw [HE.out]; exact hd, hc⟩
            rw [told_yes hc] at HK
            subst hok1
            clear hd hc hok HM HE
            go_wp2_with (first
              | (go_at_call 54; refine HDn.mono ?_; rintro e w0 ⟨rfl, hw0⟩; subst w0)
              | (go_at_call 31; refine HK.mono ?_; rintro e wd ⟨rfl, hbd⟩; have hvS2 := hvS.below hbd; have hvO2 := hvO.below hbd)
              | ((with_reducible refine wpList_at ?_); refine wpList_loadV (by rfl) (.tmp 5) (by rfl) _ cs (by rfl) hvS2 h7 ?_)
              | ((with_reducible refine wpList_at ?_); refine wpList_loadV (by rfl) (.tmp 5) (by rfl) _ cs (by rfl) hvS h7 ?_)
              | ((with_reducible refine wpList_at ?_); refine wpList_storeV (by rfl) (.tmp 2) (.tmp 113) (by rfl) _ cs _ (by rfl) (by rfl) hvO2 h7 h7z ?_; intro we hve hze hbe))
            refine bodyPost_ret (v := .tuple #[.agg cs, .int .i64 0]) (results_two (fn := Try.f27) Try.results27 _ _ gO 27 _ (0, 0) _ _ (by rfl) (by rfl) hve Try.underlying27 (by rw [h7.1]; exact sizeSpecK)) rfl ?_
            have h9 := hown.out.below hbd
            refine ⟨_, rfl, (h9.but hbe hvO2).wide (refM_sane _), ?_⟩
            have h8 : Below gO w wd := hBw.trans (hbd.mono (by omega))
            rw [hgO]; exact h8.trans (hbe.below (Nat.le_refl _) (by have := h8.size; omega))
          · have hok1 : ok = false := by rw [← hok.out]; exact told_no (fun h => hc h.2)
            rw [told_no hc] at HK
            subst hok1
            clear hd hc hok HM HE
            go_wp2_with (first
              | (go_at_call 54; refine HDn.mono ?_; rintro e w0 ⟨rfl, hw0⟩; subst w0)
              | (go_at_call 31; refine HK.mono ?_; rintro e wd ⟨rfl, hbd⟩; have hvO2 := hvO.below hbd)
              | ((with_reducible refine wpList_at ?_); refine wpList_loadV (by rfl) (.tmp 5) (by rfl) _ cs (by rfl) hvS h7 ?_)
              | ((with_reducible refine wpList_at ?_); refine wpList_storeV (by rfl) (.tmp 2) (.tmp 112) (by rfl) _ (scells ⟨#[]⟩ (.slice none 0 0) (.slice none 0 0) (.slice none 0 0) (.slice none 0 0) 0 0) _ (by rfl) (by rfl) hvO2 h7z h7z ?_; intro we hve hze hbe))
            refine bodyPost_ret (v := .tuple #[.agg (scells ⟨#[]⟩ (.slice none 0 0) (.slice none 0 0) (.slice none 0 0) (.slice none 0 0) 0 0), .int .i64 2]) (results_two (fn := Try.f27) Try.results27 _ _ gO 27 _ (0, 0) _ _ (by rfl) (by rfl) hve Try.underlying27 sizeSpecK) rfl ?_
            refine ⟨_, rfl, no_spec _, ?_⟩
            have h8 : Below gO w wd := hBw.trans (hbd.mono (by omega))
            rw [hgO]; exact h8.trans (hbe.below (Nat.le_refl _) (by have := h8.size; omega))
        · rw [told_no hd] at HDn
          have hok1 : ok = false := by rw [← hok.out]; exact told_no (fun h => hd (by rw [← HE.out]; exact h.1))
          subst hok1
          clear hd hok HM HE
          go_wp2_with (first
            | (go_at_call 54; refine HDn.mono ?_; rintro e w0 ⟨rfl, hw0⟩; subst w0)
            | ((with_reducible refine wpList_at ?_); refine wpList_storeV (by rfl) (.tmp 2) (.tmp 112) (by rfl) _ (scells ⟨#[]⟩ (.slice none 0 0) (.slice none 0 0) (.slice none 0 0) (.slice none 0 0) 0 0) _ (by rfl) (by rfl) hvO h7z h7z ?_; intro we hve hze hbe))
          refine bodyPost_ret (v := .tuple #[.agg (scells ⟨#[]⟩ (.slice none 0 0) (.slice none 0 0) (.slice none 0 0) (.slice none 0 0) 0 0), .int .i64 2]) (results_two (fn := Try.f27) Try.results27 _ _ gO 27 _ (0, 0) _ _ (by rfl) (by rfl) hve Try.underlying27 sizeSpecK) rfl ?_
          refine ⟨_, rfl, no_spec _, ?_⟩
          rw [hgO]; exact hBw.trans (hbe.below (Nat.le_refl _) (by have := hBw.size; omega))

end Go.Proofs.Ytpngohaheobkgaa
