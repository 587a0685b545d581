/-
  The document's Sum.
-/
import Derived.Test.YthoimecljfcjmaaZ13
import Derived.Test.YthoimecljfcjmaaHold
import Derived.Test.YthoimecljfcjmaaZ15
import Derived.Deep.DrawnRows
namespace Go.Proofs.Ythoimecljfcjmaa
open Go.RowKit

theorem Hold.slice {w : World} {B : Nat} {v : Value} {l : List UInt8} (h : Hold w B v l) : ∃ a c, v = .slice a l.length c := by
  obtain ⟨g, cap, rfl, _⟩ := h
  exact ⟨_, _, rfl⟩

theorem four_wrap (x : BitVec 32) : #[Value.int IntKind.u8 (IntKind.u8.wrap ((x.toNat : Int) / 16777216)), Value.int IntKind.u8 (IntKind.u8.wrap ((x.toNat : Int) / 65536)), Value.int IntKind.u8 (IntKind.u8.wrap ((x.toNat : Int) / 256)), Value.int IntKind.u8 (IntKind.u8.wrap (x.toNat : Int))] = (cb (four x)).toArray := by
  have h := x.isLt
  rw [← four_row x, IntKind.wrap_u8, IntKind.wrap_u8, IntKind.wrap_u8, IntKind.wrap_u8, show (x.toNat : Int) / 16777216 % 256 = (x.toNat : Int) / 16777216 by omega]
theorem block_ex (H : St) (s : ByteArray) (hs : s.size = 64) (w : World) :
    Calls Try.prog 52 #[.agg #[.int .u32 (H.a.toNat : Int), .int .u32 (H.b.toNat : Int), .int .u32 (H.c.toNat : Int), .int .u32 (H.d.toNat : Int), .int .u32 (H.e.toNat : Int), .int .u32 (H.f.toNat : Int), .int .u32 (H.g.toNat : Int), .int .u32 (H.h.toNat : Int)], .string s] w fun e w' =>
      ∃ X : St, X = comp H (sch s.data.toList 64) ∧ e = .returned (.agg #[.int .u32 (X.a.toNat : Int), .int .u32 (X.b.toNat : Int), .int .u32 (X.c.toNat : Int), .int .u32 (X.d.toNat : Int), .int .u32 (X.e.toNat : Int), .int .u32 (X.f.toNat : Int), .int .u32 (X.g.toNat : Int), .int .u32 (X.h.toNat : Int)]) ∧ Below w.heap.size w w' :=
  (block_any H s hs w).mono fun _ _ ⟨he, hb⟩ => ⟨_, rfl, he, hb⟩
theorem below_set8 {B g : Nat} {a w : World} (h : Below B a w) (hg : B ≤ g) (v0 v1 v2 v3 v4 v5 v6 v7 : Value) :
    Below B a ((((((((w.setCell ⟨g, 0, none⟩ v0).setCell ⟨g, 1, none⟩ v1).setCell ⟨g, 2, none⟩ v2).setCell ⟨g, 3, none⟩ v3).setCell ⟨g, 4, none⟩ v4).setCell ⟨g, 5, none⟩ v5).setCell ⟨g, 6, none⟩ v6).setCell ⟨g, 7, none⟩ v7) :=
  (((((((h.setCell hg _).setCell hg _).setCell hg _).setCell hg _).setCell hg _).setCell hg _).setCell hg _).setCell hg _
theorem row_set8 {w : World} {g : Nat} {t : TypeId} {H : St} (h : Row w g t H.list) (X : St) :
    Row ((((((((w.setCell ⟨g, 0, none⟩ (.int .u32 (X.a.toNat : Int))).setCell ⟨g, 1, none⟩ (.int .u32 (X.b.toNat : Int))).setCell ⟨g, 2, none⟩ (.int .u32 (X.c.toNat : Int))).setCell ⟨g, 3, none⟩ (.int .u32 (X.d.toNat : Int))).setCell ⟨g, 4, none⟩ (.int .u32 (X.e.toNat : Int))).setCell ⟨g, 5, none⟩ (.int .u32 (X.f.toNat : Int))).setCell ⟨g, 6, none⟩ (.int .u32 (X.g.toNat : Int))).setCell ⟨g, 7, none⟩ (.int .u32 (X.h.toNat : Int))) g t X.list :=
  (((((((h.set 0 X.a).set 1 X.b).set 2 X.c).set 3 X.d).set 4 X.e).set 5 X.f).set 6 X.g).set 7 X.h

set_option maxRecDepth 10000 in
set_option maxHeartbeats 2000000 in
theorem refsum_any (s : ByteArray) (hs : s.size ≤ 1099511627) (w : World) :
    Calls Try.prog 25 #[.string s] w fun e w' => e = .returned (.string ⟨(digest s.data.toList).toArray⟩) ∧ Below w.heap.size w w' := by
  go_enter Try.func25, Try.ntmps25
  go_wp2_with (first
    | (at_builtin; refine wpList_on w1 _ (by rfl) (.tmp 12) (.tmp 13) (by rfl) w.heap.size v1 _ (by rfl) hold1 [128] 1 rfl (by decide) (by rfl) rfl (by simp; omega) hb1.size ?_; intro v2 w2 hold2 hb2)
    | ((with_reducible refine wpList_at ?_); refine wpList_bytes (by rfl) (.tmp 11) (by rfl) s (by rfl) ?_; intro v1 w1 hold1 hb1))
  have hB2 : Below w.heap.size w w2 := hb1.trans hb2
  clear hold1 hb1 hb2
  go_loopw [3] (fun v wr => ∃ j : Nat, j ≤ gap s.size ∧ Hold wr w.heap.size v (s.data.toList ++ [128] ++ List.replicate j 0) ∧ Below w.heap.size w wr) (fun v _ => s.size + 100 - lenOf v)
  case atStart => exact ⟨0, by omega, by simpa using hold2, hB2⟩
  case round =>
    clear hold2 hB2
    obtain ⟨j, hj, hown, hb⟩ := hrel
    obtain ⟨L, hL⟩ : ∃ L, L = s.data.toList ++ [128] ++ List.replicate j 0 := ⟨_, rfl⟩
    have hlen : L.length = s.size + 1 + j := by rw [hL]; simp; omega
    rw [← hL] at hown
    have HL : Hid (L = s.data.toList ++ [128] ++ List.replicate j 0) := hL
    clear hL
    obtain ⟨a0, c0, rfl⟩ := hown.slice
    have hgl : gap s.size < 64 := by unfold gap; omega
    have hL1 : L.length ≤ 1099511727 := by omega
    have HLen : Hid (L.length = s.size + 1 + j) := hlen
    by_cases hlt : j < gap s.size
    · have ht : ((L.length : Int) % 64 == 56) = false := by
        rw [hlen]; unfold gap at hlt; simp; omega
      clear hlen
      go_wp2_with (at_builtin; refine wpList_on wr _ (by rfl) (.tmp 19) (.tmp 20) (by rfl) w.heap.size _ L (by rfl) hown [0] 1 rfl (by decide) (by rfl) rfl (by omega) hb.size ?_; intro v4 w4 hown4 hb4)
      go_roundw
      case rel =>
        rw [HL.out, List.append_assoc _ (List.replicate j 0), show List.replicate j (0 : UInt8) ++ [0] = List.replicate (j + 1) 0 by rw [List.replicate_succ']] at hown4
        exact ⟨j + 1, by omega, hown4, hb.trans hb4⟩
      case measure =>
        obtain ⟨a4, c4, rfl⟩ := hown4.slice
        have := HLen.out
        simp [lenOf]; omega
    · have ht : ((L.length : Int) % 64 == 56) = true := by
        have e : j = gap s.size := by omega
        rw [hlen, e]; unfold gap; simp; omega
      have HL' : Hid (L = s.data.toList ++ [128] ++ List.replicate (gap s.size) 0) := by rw [HL.out, show j = gap s.size by omega]; exact (rfl : _ = _)
      clear hlen
      go_wp2
      generalize Value.bool ((L.length : Int) % 64 != 56) = vb
      go_loopw [3, 5] (fun v i wr => ∃ k : Nat, k ≤ 8 ∧ i = .int .i64 k ∧ Hold wr w.heap.size v (L ++ tops (8 * s.size) k) ∧ Below w.heap.size w wr) (fun _ i _ => 8 - (intOf i).toNat)
      case atStart => exact ⟨0, by omega, rfl, by simpa [tops] using hown, hb⟩
      case round =>
        clear hown hb ht hlt hj
        obtain ⟨k, hk, rfl, hown, hb⟩ := hrel
        by_cases hlt : k < 8
        · have hl2 : (L ++ tops (8 * s.size) k).length + 1 ≤ 1099511627776 := by rw [List.length_append, tops_length]; omega
          obtain ⟨L2, hL2⟩ : ∃ L2, L2 = L ++ tops (8 * s.size) k := ⟨_, rfl⟩
          rw [← hL2] at hown hl2
          have HL2 : Hid (L2 = L ++ tops (8 * s.size) k) := hL2
          clear hL2
          go_wp2_with (at_builtin; refine wpList_on wr _ (by rfl) (.tmp 30) (.tmp 38) (by rfl) w.heap.size _ L2 (by rfl) hown [upByte (8 * s.size) (56 - 8 * k)] 1 rfl (by decide) (by rfl) (top_row s.size k) hl2 hb.size ?_; intro v4 w4 hown4 hb4)
          go_roundw
          case rel =>
            rw [HL2.out, List.append_assoc] at hown4
            exact ⟨k + 1, by omega, by go_num, hown4, hb.trans hb4⟩
          case measure => simp [intOf]; omega
        · have hk8 : k = 8 := by omega
          rw [hk8, HL'.out] at hown
          clear hk8
          obtain ⟨P, hP⟩ : ∃ P, P = pad s.data.toList := ⟨_, rfl⟩
          have hP2 : s.data.toList ++ [128] ++ List.replicate (gap s.size) 0 ++ tops (8 * s.size) 8 = P := by rw [hP]; unfold pad; simp
          rw [hP2] at hown
          obtain ⟨q, hq⟩ : ∃ q, P.length = 64 * q := by
            rw [hP, pad_length]
            have := gap_div s.data.toList.length
            exact ⟨(s.data.toList.length + 9 + gap s.data.toList.length) / 64, by omega⟩
          have hq1 : q ≤ 1099511627 := by
            rw [hP, pad_length] at hq
            have h1 : s.data.toList.length = s.size := by simp
            have h2 : gap s.data.toList.length < 64 := by unfold gap; omega
            omega
          have HD : Hid (fours (comps first P q).list = digest s.data.toList) := by
            rw [hP] at hq ⊢
            exact (show _ = _ by unfold digest; rw [hq, show 64 * q / 64 = q by omega])
          obtain ⟨t, ht⟩ : ∃ t : ByteArray, t = ⟨P.toArray⟩ := ⟨_, rfl⟩
          have HT : Hid (t.data.toList = P) := by rw [ht]; exact (show _ = _ by simp)
          have ht1 : t.size = 64 * q := by rw [ht, ← hq]; show P.toArray.size = _; rw [List.size_toArray]
          have t1 : (t.size : Int) ≤ 64 * (q : Int) := by omega
          have t2 : 64 * (q : Int) ≤ (t.size : Int) := by omega
          have HT1 : Hid (t.size = 64 * q) := ht1
          have HTT : Hid (t = ⟨P.toArray⟩) := ht
          clear hP hP2 hq ht ht1 HL HL' HLen hL1 hgl
          go_wp2_with ((with_reducible refine wpList_at ?_); refine wpList_told (by rfl) (.tmp 40) (by rfl) w.heap.size _ _ (by rfl) hown ?_; rw [← HTT.out])
          obtain ⟨g, hg⟩ : ∃ g, g = wr.heap.size := ⟨_, rfl⟩
          have hgB : w.heap.size ≤ g := by rw [hg]; exact hb.size
          have R0 : Row (wr.alloc (Obj.cells #[Value.int IntKind.u32 1779033703, Value.int IntKind.u32 3144134277, Value.int IntKind.u32 1013904242, Value.int IntKind.u32 2773480762, Value.int IntKind.u32 1359893119, Value.int IntKind.u32 2600822924, Value.int IntKind.u32 528734635, Value.int IntKind.u32 1541459225] 61)) g 61 first.list := by rw [hg]; exact heap_alloc_new _ _
          have B0 : Below w.heap.size w (wr.alloc (Obj.cells #[Value.int IntKind.u32 1779033703, Value.int IntKind.u32 3144134277, Value.int IntKind.u32 1013904242, Value.int IntKind.u32 2773480762, Value.int IntKind.u32 1359893119, Value.int IntKind.u32 2600822924, Value.int IntKind.u32 528734635, Value.int IntKind.u32 1541459225] 61)) := hb.alloc (by omega) _
          rw [← hg]
          generalize wr.alloc (Obj.cells #[Value.int IntKind.u32 1779033703, Value.int IntKind.u32 3144134277, Value.int IntKind.u32 1013904242, Value.int IntKind.u32 2773480762, Value.int IntKind.u32 1359893119, Value.int IntKind.u32 2600822924, Value.int IntKind.u32 528734635, Value.int IntKind.u32 1541459225] 61) = w9 at R0 B0 ⊢
          generalize Value.bool (decide ((k : Int) < 8)) = vb4
          clear hown hb hg hlt hk
          go_loopw [8] (fun i wr => ∃ n : Nat, n ≤ q ∧ i = .int .i64 (64 * (n : Int)) ∧ Row wr g 61 (comps first P n).list ∧ Below w.heap.size w wr) (fun i _ => 64 * q - (intOf i).toNat)
          case atStart => exact ⟨0, by omega, rfl, R0, B0⟩
          case round =>
            clear R0 B0
            obtain ⟨n, hn, rfl, hrow, hb⟩ := hrel
            by_cases hlt : n < q
            · obtain ⟨H, hH⟩ : ∃ H, H = comps first P n := ⟨_, rfl⟩
              rw [← hH] at hrow
              have HH : Hid (H = comps first P n) := hH
              clear hH
              have b0 : (0 : Int) ≤ 64 * (n : Int) := by omega
              have b1 : 64 * (n : Int) + 64 ≤ (t.size : Int) := by omega
              have b2 : 64 * (n : Int) ≤ 64 * (n : Int) + 64 := by omega
              have b3 : 64 * (n : Int) < (t.size : Int) := by omega
              have wz : IntKind.i64.wrap (64 * (n : Int) + 64) = 64 * (n : Int) + 64 := IntWalk.i64_in _ (by omega)
              have hz : (t.extract (64 * n) (64 * n + 64)).size = 64 := by rw [extract_size _ _ _ (by omega) (by omega)]; omega
              have HZ : Hid ((t.extract (64 * n) (64 * n + 64)).size = 64) := hz
              clear hz
              have c0 : wr.cell? ⟨g, 0, none⟩ = some (.int .u32 (H.a.toNat : Int)) := hrow.cell 0 _ rfl
              have z0 := hrow.frozen 0
              have c1 : wr.cell? ⟨g, 1, none⟩ = some (.int .u32 (H.b.toNat : Int)) := hrow.cell 1 _ rfl
              have z1 := hrow.frozen 1
              have c2 : wr.cell? ⟨g, 2, none⟩ = some (.int .u32 (H.c.toNat : Int)) := hrow.cell 2 _ rfl
              have z2 := hrow.frozen 2
              have c3 : wr.cell? ⟨g, 3, none⟩ = some (.int .u32 (H.d.toNat : Int)) := hrow.cell 3 _ rfl
              have z3 := hrow.frozen 3
              have c4 : wr.cell? ⟨g, 4, none⟩ = some (.int .u32 (H.e.toNat : Int)) := hrow.cell 4 _ rfl
              have z4 := hrow.frozen 4
              have c5 : wr.cell? ⟨g, 5, none⟩ = some (.int .u32 (H.f.toNat : Int)) := hrow.cell 5 _ rfl
              have z5 := hrow.frozen 5
              have c6 : wr.cell? ⟨g, 6, none⟩ = some (.int .u32 (H.g.toNat : Int)) := hrow.cell 6 _ rfl
              have z6 := hrow.frozen 6
              have c7 : wr.cell? ⟨g, 7, none⟩ = some (.int .u32 (H.h.toNat : Int)) := hrow.cell 7 _ rfl
              have z7 := hrow.frozen 7
              go_wp2
              go_region_with (go_at_call 52; refine (block_ex H _ HZ.out _).mono ?_; rintro e w1' ⟨X, hX, rfl, hb1⟩; have HX' : Hid (X = comp H (sch (t.extract (64 * n) (64 * n + 64)).data.toList 64)) := hX; clear hX; have r1 := hrow.drew.below hb1; have y0 := r1.cell 0 _ rfl; have y1 := r1.cell 1 _ rfl; have y2 := r1.cell 2 _ rfl; have y3 := r1.cell 3 _ rfl; have y4 := r1.cell 4 _ rfl; have y5 := r1.cell 5 _ rfl; have y6 := r1.cell 6 _ rfl; have y7 := r1.cell 7 _ rfl; have x0 := r1.frozen 0; have x1 := r1.frozen 1; have x2 := r1.frozen 2; have x3 := r1.frozen 3; have x4 := r1.frozen 4; have x5 := r1.frozen 5; have x6 := r1.frozen 6; have x7 := r1.frozen 7)
              go_wp2
              go_roundw
              case rel =>
                have hc : X = comps first P (n + 1) := by
                  rw [HX'.out, HH.out, extract_list, HT.out, show 64 * n + 64 - 64 * n = 64 by omega]; rfl
                have hR := row_set8 r1 X
                rw [hc] at hR
                rw [hc]
                exact ⟨n + 1, by omega, by go_num, hR, below_set8 (hb.drew.trans (hb1.mono hb.size)) hgB _ _ _ _ _ _ _ _⟩
              case measure => simp [intOf]; omega
            · have hnq : n = q := by omega
              rw [hnq] at hrow
              clear hnq
              obtain ⟨H, hH⟩ : ∃ H, H = comps first P q := ⟨_, rfl⟩
              rw [← hH] at hrow HD
              clear hH
              go_wp2
              obtain ⟨B', hB'⟩ : ∃ B', B' = wr.heap.size := ⟨_, rfl⟩
              have hgB' : g < B' := by rw [hB']; exact hrow.lt
              generalize Value.bool (decide (64 * (n : Int) < (t.size : Int))) = vb5
              go_loopw [9, 10] (fun v i wr => ∃ k : Nat, k ≤ 8 ∧ i = .int .i64 k ∧ Own wr B' v (fours (H.list.take k)) ∧ B' ≤ wr.heap.size ∧ Row wr g 61 H.list ∧ Below w.heap.size w wr) (fun _ i _ => 8 - (intOf i).toNat)
              case atStart => exact ⟨0, by omega, rfl, Own.nil _ _, by omega, hrow, hb⟩
              case round =>
                clear hrow hb hB'
                obtain ⟨k, hk, rfl, hown, hsz, hrow, hb⟩ := hrel
                by_cases hlt8 : k < 8
                · obtain ⟨x, hx⟩ : ∃ x, H.list[k]? = some x := ⟨_, list_get H k hlt8⟩
                  have cx := hrow.cell k x hx
                  have HX : Hid (H.list[k]? = some x) := hx
                  clear hx
                  obtain ⟨L3, hL3⟩ : ∃ L, L = fours (H.list.take k) := ⟨_, rfl⟩
                  have hl3 : L3.length + 4 ≤ 1099511627776 := by rw [hL3, fours_length]; simp; omega
                  rw [← hL3] at hown
                  have HL3 : Hid (L3 = fours (H.list.take k)) := hL3
                  clear hL3
                  have k0 : (0 : Int) ≤ (k : Int) := by omega
                  have k8 : (k : Int) < 8 := by omega
                  go_wp2
                  go_region_held3 (fun w' => w'.cell? ⟨g, k, none⟩ = some (.int .u32 (x.toNat : Int))) (first | (go_keep; done) | (rw [hb4.cell (by exact hgB')]; assumption))
                    ((refine step_lit wr _ (by rfl) (.tmp 60) (.tmp 80) (by rfl) B' _ L3 (by rfl) hown (four x) 4 rfl (by rfl) (four_wrap x) hl3 hsz ?_; intro v4 w4 hown4 hb4))
                  all_goals
                    go_wp2
                    go_roundw
                    case rel =>
                      rw [HL3.out, ← fours_snoc _ _ _ HX.out] at hown4
                      have hbb : Below B' wr w4 := hb4
                      have hr4 : Row w4 g 61 H.list := by
                        unfold Row at *
                        rw [hbb.block g hgB']; exact hrow
                      exact ⟨k + 1, by omega, by go_num, hown4, Nat.le_trans hsz hbb.size, hr4, hb.trans (hbb.mono (by omega))⟩
                    case measure => simp [intOf]; omega
                · have hk8 : k = 8 := by omega
                  rw [hk8, List.take_of_length_le (by rw [St.list_length]; omega)] at hown
                  clear hk8
                  go_wp2_with ((with_reducible refine wpList_at ?_); refine wpList_said (by rfl) (.tmp 82) (by rfl) B' _ _ (by rfl) hown ?_)
                  go_ret
                  exact ⟨ret_str (by rw [← HD.out]), hb⟩

end Go.Proofs.Ythoimecljfcjmaa
