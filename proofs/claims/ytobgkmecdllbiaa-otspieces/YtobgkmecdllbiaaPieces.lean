/-
  The walk of OtsPieces.
-/
import Derived.Test.YtobgkmecdllbiaaOtsAny
import Derived.Test.YtobgkmecdllbiaaPlace
import Derived.Deep.RegionWith
import Derived.Deep.RegionHeld3
import Derived.Deep.DrawnRows
import Derived.Deep.CutRange
namespace Go.Proofs.Ytobgkmecdllbiaa
open Go.RowKit
attribute [local go_sem ↓] Go.wp_at_zero Go.wp_at_succ

theorem ba_ext (a b : ByteArray) (h : a.data.toList = b.data.toList) : a = b := ByteArray.ext (Array.toList_inj.1 h)

theorem bit_said (d : ByteArray) (i : Nat) (hj : i / 8 < d.size) : bits .and .i64 (wrap64 ((d[i / 8].toNat : Int) / 2 ^ (7 - i % 8))) 1 = ((bitOf d.data.toList i : Nat) : Int) := by
  have hb := d[i / 8].toNat_lt
  have e : (d[i / 8].toNat : Int) / 2 ^ (7 - i % 8) = ((d[i / 8].toNat / 2 ^ (7 - i % 8) : Nat) : Int) := by
    rw [Int.natCast_ediv, Int.natCast_pow]; rfl
  have hl : d[i / 8].toNat / 2 ^ (7 - i % 8) < 256 := Nat.lt_of_le_of_lt (Nat.div_le_self _ _) hb
  have hq : d[i / 8].toNat / 2 ^ (7 - i % 8) % 2 = bitOf d.data.toList i := by rw [byte_get d (i / 8) hj]; rfl
  rw [e, ← hq]
  generalize d[i / 8].toNat / 2 ^ (7 - i % 8) = q at hl ⊢
  rw [IntWalk.wrap64_in _ (by omega), low1 _ hl]

set_option maxRecDepth 10000 in
set_option maxHeartbeats 2000000 in
theorem pieces_in (s : ByteArray) (key : Int) (m : ByteArray) (hs : s.size ≤ 200) (hm : m.size ≤ 500) (w : World) :
    Calls Try.prog 6 #[.string s, .int .i64 key, .string m] w fun e w' => e = .returned (.bool true) ∧ Below w.heap.size w w' := by
  have hsi : ¬ (200 : Int) < (s.size : Int) := by omega
  have hmi : ¬ (500 : Int) < (m.size : Int) := by omega
  go_enter Try.func6, Try.ntmps6
  go_wp2_with (go_at_call 17; refine (place_any key 256 (by decide) (by decide) _).mono ?_; rintro e w0 ⟨k, hk, rfl, hw0⟩; subst w0)
  refine (sign_any s m k (by omega) (by omega) (by omega) _).mono ?_
  rintro e w1 ⟨g, hg, rfl, hb1⟩
  have zg : g.size = 512 := size_of g _ _ hg (signOf_length _ _ _)
  have zgi : (g.size : Int) = 512 := by omega
  have HG : Hid (g.data.toList = signOf s.data.toList k m.data.toList) := hg
  clear hg
  obtain ⟨d, hd⟩ : ∃ d : ByteArray, d = ⟨(digest m.data.toList).toArray⟩ := ⟨_, rfl⟩
  have zd : d.size = 32 := by rw [hd, mk_size, digest_length]
  have zdi : (d.size : Int) = 32 := by omega
  have hd2 : d.data.toList = digest m.data.toList := by rw [hd]
  have HS := sum_any m (by omega)
  rw [← hd] at HS
  have HD : Hid (d.data.toList = digest m.data.toList) := hd2
  clear hd hd2
  go_wp2_with fail
  refine (HS _).mono ?_
  rintro e w2 ⟨rfl, hb2⟩
  clear HS
  have hB2 := below_then hb1 hb2
  clear hb1 hb2
  go_wp2_with fail
  go_loopw [10, 11, 12, 13, 14] (fun v i _ _ _ wr => ∃ (n : Nat) (x : ByteArray), n ≤ 16 ∧ i = .int .i64 n ∧ v = .string x ∧ x.data.toList = parts s.data.toList k n ∧ Below w.heap.size w wr) (fun _ i _ _ _ _ => 16 - (intOf i).toNat)
  case atStart => exact ⟨0, ⟨#[]⟩, by omega, rfl, rfl, rfl, hB2⟩
  case round =>
    clear hB2
    obtain ⟨n, x, hn, rfl, rfl, hx, hb⟩ := hrel
    have hxs := size_of x _ _ hx (parts_length _ _ _)
    have HX : Hid (x.data.toList = parts s.data.toList k n) := hx
    clear hx
    by_cases hlt : n < 16
    · have n1 : (n : Int) < 16 := by omega
      have hj : n / 8 < d.size := by omega
      have q0 : (0 : Int) ≤ (n : Int) / 8 := by omega
      have q1 : (n : Int) / 8 < (d.size : Int) := by omega
      have hbs := bit_said d n hj
      obtain ⟨b, hbd⟩ : ∃ b, b = bitOf d.data.toList n := ⟨_, rfl⟩
      have hb2 : b < 2 := hbd ▸ bitOf_lt _ _
      rw [← hbd] at hbs
      obtain ⟨sp1, sp2⟩ := shown_part s.data.toList k d.data.toList 16 n hlt
      have hgs : g.data.toList = shown s.data.toList k d.data.toList 16 := by rw [HG.out, HD.out]; rfl
      rw [← hgs, ← hbd] at sp1 sp2
      have MV0 := makes_of (fun w => value_any s k n 0 (by omega) (by omega) hlt (by omega) w)
      have MV1 := makes_of (fun w => value_any s k n 1 (by omega) (by omega) hlt (by omega) w)
      obtain ⟨v0, hv0⟩ : ∃ v : ByteArray, v = ⟨(valueOf s.data.toList k n 0).toArray⟩ := ⟨_, rfl⟩
      obtain ⟨v1, hv1⟩ : ∃ v : ByteArray, v = ⟨(valueOf s.data.toList k n 1).toArray⟩ := ⟨_, rfl⟩
      rw [← hv0] at MV0
      rw [← hv1] at MV1
      have hv0l : v0.data.toList = valueOf s.data.toList k n 0 := by rw [hv0]
      have hv1l : v1.data.toList = valueOf s.data.toList k n 1 := by rw [hv1]
      have z0 := size_of v0 _ _ hv0l (valueOf_length _ _ _ _)
      have z1 := size_of v1 _ _ hv1l (valueOf_length _ _ _ _)
      have MH0 := makes_of (fun w => myshort_any v0 (by omega) w)
      have MH1 := makes_of (fun w => myshort_any v1 (by omega) w)
      obtain ⟨h0, hh0⟩ : ∃ v : ByteArray, v = ⟨(short v0.data.toList).toArray⟩ := ⟨_, rfl⟩
      obtain ⟨h1, hh1⟩ : ∃ v : ByteArray, v = ⟨(short v1.data.toList).toArray⟩ := ⟨_, rfl⟩
      rw [← hh0] at MH0
      rw [← hh1] at MH1
      have hh0l : h0.data.toList = short (valueOf s.data.toList k n 0) := by rw [hh0, ← hv0l]
      have hh1l : h1.data.toList = short (valueOf s.data.toList k n 1) := by rw [hh1, ← hv1l]
      have y0 := size_of h0 _ _ hh0l (short_length _)
      have y1 := size_of h1 _ _ hh1l (short_length _)
      have HN : Hid ((x ++ h0 ++ h1).data.toList = parts s.data.toList k (n + 1)) := by
        show (x ++ h0 ++ h1).data.toList = parts s.data.toList k (n + 1)
        rw [add_list, add_list, HX.out, hh0l, hh1l]; rfl
      obtain ⟨t, ht⟩ : ∃ t : ByteArray, t = ⟨[UInt8.ofNat k, UInt8.ofNat n, UInt8.ofNat b].toArray⟩ := ⟨_, rfl⟩
      have hts : t.size = 3 := by rw [ht]; rfl
      have MQ := makes_of (fun w => myshort_any (s ++ t) (by rw [ByteArray.size_append]; omega) w)
      have hq : short (s ++ t).data.toList = valueOf s.data.toList k n b := by rw [add_list, ht]; rfl
      rw [hq] at MQ
      have HCV : ∀ w' : World, Sem.run Try.prog (convert 30 9 (.slice (some ⟨w'.heap.size, 0, none⟩) 3 3)) (w'.alloc (.cells #[.int .u8 (k : Int), .int .u8 (n : Int), .int .u8 (b : Int)] 5)) = .ok (.string t) (w'.alloc (.cells #[.int .u8 (k : Int), .int .u8 (n : Int), .int .u8 (b : Int)] 5)) := by
        intro w'
        rw [ht]
        exact run_said (own_lit w' _ _ 3 rfl (by omega) (three_row k n b (by omega) (by omega) (by omega)))
      clear hq ht hbd hgs hv0 hv1 hh0 hh1
      unfold Makes at MV0 MV1 MH0 MH1 MQ
      have x0 : (x.size : Int) + (h0.size : Int) ≤ 1000003 := by omega
      have x1 : ((x ++ h0).size : Int) + (h1.size : Int) ≤ 1000003 := by rw [ByteArray.size_append]; omega
      have x2 : (s.size : Int) + (t.size : Int) ≤ 1000003 := by omega
      have SP : Hid ((fore g.data.toList n = valueOf s.data.toList k n b ∧ hind g.data.toList n = short (valueOf s.data.toList k n (1 - b))) ∧ v0.data.toList = valueOf s.data.toList k n 0 ∧ v1.data.toList = valueOf s.data.toList k n 1 ∧ h0.data.toList = short (valueOf s.data.toList k n 0) ∧ h1.data.toList = short (valueOf s.data.toList k n 1)) := by
        exact (show _ ∧ _ from ⟨⟨sp1, sp2⟩, hv0l, hv1l, hh0l, hh1l⟩)
      have HCV' : Hid (∀ w' : World, Sem.run Try.prog (convert 30 9 (.slice (some ⟨w'.heap.size, 0, none⟩) 3 3)) (w'.alloc (.cells #[.int .u8 (k : Int), .int .u8 (n : Int), .int .u8 (b : Int)] 5)) = .ok (.string t) (w'.alloc (.cells #[.int .u8 (k : Int), .int .u8 (n : Int), .int .u8 (b : Int)] 5))) := HCV
      clear HCV sp1 sp2 hv0l hv1l hh0l hh1l
      go_wp2_with fail
      refine (MV0 _).mono ?_
      rintro e wa ⟨rfl, ha⟩
      go_wp2_with fail
      refine (MV1 _).mono ?_
      rintro e wb' ⟨rfl, hbb⟩
      go_wp2_with fail
      refine (MH0 _).mono ?_
      rintro e wc ⟨rfl, hbc⟩
      go_wp2_with fail
      refine (MH1 _).mono ?_
      rintro e wd ⟨rfl, hbd⟩
      have hB := below_then (below_then (below_then (below_then hb ha) hbb) hbc) hbd
      clear hb ha hbb hbc hbd MV0 MV1
      by_cases hb0 : b = 0
      · subst hb0
        obtain ⟨⟨sp1, sp2⟩, hv0l, hv1l, hh0l, hh1l⟩ := SP.out
        have E1 : g.extract (32 * n) (32 * n + 16) = v0 := ba_ext _ _ (by rw [fore_at, sp1, hv0l])
        have E2 : g.extract (32 * n + 16) (32 * n + 32) = h1 := ba_ext _ _ (by rw [hind_at, sp2, hh1l])
        have EQ : (ByteArray.mk (valueOf s.data.toList k n 0).toArray) = v0 := ba_ext _ _ hv0l.symm
        rw [EQ] at MQ
        clear EQ sp1 sp2 hv0l hv1l hh0l hh1l SP
        have E1' : Hid (g.extract (32 * n) (32 * n + 16) = v0) := E1
        have E2' : Hid (g.extract (32 * n + 16) (32 * n + 32) = h1) := E2
        clear E1 E2
        go_wp2_with fail
        go_cut [110] from 74 to 109 (fun v wx => v = .bool false ∧ Below w.heap.size w wx)
        case first =>
          have E1 : g.extract (32 * (n : Int)).toNat (32 * (n : Int) + 16).toNat = v0 := by rw [← E1'.out]; congr 1
          have E2 : g.extract (32 * (n : Int) + 16).toNat (32 * (n : Int) + 32).toNat = h1 := by rw [← E2'.out]; congr 1
          have s0 : (v0.toList == v0.toList) = true := beq_self_eq_true _
          have s1 : (h1.toList == h1.toList) = true := beq_self_eq_true _
          have HCV : ∀ w' : World, Sem.run Try.prog (convert 30 9 (.slice (some ⟨w'.heap.size, 0, none⟩) 3 3)) (w'.alloc (.cells #[.int .u8 (k : Int), .int .u8 (n : Int), .int .u8 0] 5)) = .ok (.string t) (w'.alloc (.cells #[.int .u8 (k : Int), .int .u8 (n : Int), .int .u8 0] 5)) := HCV'.out
          have wb : IntKind.u8.wrap (0 : Int) = 0 := rfl
          have n0 : (0 : Int) ≤ 32 * (n : Int) := by omega
          have n2 : 32 * (n : Int) + 16 ≤ (g.size : Int) := by omega
          have n3 : 32 * (n : Int) + 32 ≤ (g.size : Int) := by omega
          have n4 : (0 : Int) ≤ 32 * (n : Int) + 16 := by omega
          have n5 : 32 * (n : Int) ≤ 32 * (n : Int) + 16 := by omega
          have n6 : 32 * (n : Int) + 16 ≤ 32 * (n : Int) + 32 := by omega
          have n7 : 32 * (n : Int) + 16 ≤ 512 := by omega
          have n8 : 32 * (n : Int) + 32 ≤ 512 := by omega
          have wz0 : IntKind.i64.wrap (32 * (n : Int)) = 32 * (n : Int) := IntWalk.i64_in _ (by omega)
          have wz1 : IntKind.i64.wrap (32 * (n : Int) + 16) = 32 * (n : Int) + 16 := IntWalk.i64_in _ (by omega)
          have wz2 : IntKind.i64.wrap (32 * (n : Int) + 32) = 32 * (n : Int) + 32 := IntWalk.i64_in _ (by omega)
          have wk : IntKind.u8.wrap (k : Int) = (k : Int) := by rw [IntKind.wrap_u8]; omega
          have wn : IntKind.u8.wrap (n : Int) = (n : Int) := by rw [IntKind.wrap_u8]; omega
          clear HN HG HD HX hbs zdi hxs x0 x1 MH0 zgi hsi hmi hs hm y0 y1 z0 z1 hts hn E1' E2' HCV'
          have MH := MH1
          clear MH1
          refine wp_region_held_drew (S := fun _ => True) (by kernel_rfl) trivial (fun hHeld => ?_)
          refine wpAnyH_take (i := 0) (oi := { dst := some 74, op := Op.move (Operand.tmp 8), type := 9, pos := "outright.go:27", after := #[], guard := none }) (v := ?_) rfl (by kernel_rfl) (by kernel_rfl) (by kernel_rfl) (fun _ _ _ h => h) (Or.inl ⟨by rfl, ?_⟩) (by assumption) ?_
          rotate_left
          · first | (intro w hSw; go_simp; done) | (intro w hSw; go_simp; with_reducible rfl)
          try simp only [Act.put, List.setIfInBounds_toArray, List.set_cons_zero, List.set_cons_succ]
          refine wpAnyH_take (i := 1) (oi := { dst := some 75, op := Op.move (Operand.tmp 11), type := 3, pos := "outright.go:27", after := #[], guard := none }) (v := ?_) rfl (by kernel_rfl) (by kernel_rfl) (by kernel_rfl) (fun _ _ _ h => h) (Or.inl ⟨by rfl, ?_⟩) (by assumption) ?_
          rotate_left
          · first | (intro w hSw; go_simp; done) | (intro w hSw; go_simp; with_reducible rfl)
          try simp only [Act.put, List.setIfInBounds_toArray, List.set_cons_zero, List.set_cons_succ]
          refine wpAnyH_take (i := 2) (oi := { dst := some 76, op := Op.binOp BinOp.mul 3 (Operand.const (Value.int IntKind.i64 32)) (Operand.tmp 75) 3, type := 3, pos := "outright.go:27", after := #[{ on := 1, ground := Ground.data }], guard := none }) (v := ?_) rfl (by kernel_rfl) (by kernel_rfl) (by kernel_rfl) (fun _ _ _ h => h) (Or.inl ⟨by rfl, ?_⟩) (by assumption) ?_
          rotate_left
          · first | (intro w hSw; go_simp; done) | (intro w hSw; go_simp; with_reducible rfl)
          try simp only [Act.put, List.setIfInBounds_toArray, List.set_cons_zero, List.set_cons_succ]
          refine wpAnyH_take (i := 3) (oi := { dst := some 77, op := Op.move (Operand.tmp 11), type := 3, pos := "outright.go:27", after := #[], guard := none }) (v := ?_) rfl (by kernel_rfl) (by kernel_rfl) (by kernel_rfl) (fun _ _ _ h => h) (Or.inl ⟨by rfl, ?_⟩) (by assumption) ?_
          rotate_left
          · first | (intro w hSw; go_simp; done) | (intro w hSw; go_simp; with_reducible rfl)
          try simp only [Act.put, List.setIfInBounds_toArray, List.set_cons_zero, List.set_cons_succ]
          refine wpAnyH_take (i := 4) (oi := { dst := some 78, op := Op.binOp BinOp.mul 3 (Operand.const (Value.int IntKind.i64 32)) (Operand.tmp 77) 3, type := 3, pos := "outright.go:27", after := #[{ on := 3, ground := Ground.data }], guard := none }) (v := ?_) rfl (by kernel_rfl) (by kernel_rfl) (by kernel_rfl) (fun _ _ _ h => h) (Or.inl ⟨by rfl, ?_⟩) (by assumption) ?_
          rotate_left
          · first | (intro w hSw; go_simp; done) | (intro w hSw; go_simp; with_reducible rfl)
          try simp only [Act.put, List.setIfInBounds_toArray, List.set_cons_zero, List.set_cons_succ]
          refine wpAnyH_take (i := 5) (oi := { dst := some 79, op := Op.binOp BinOp.add 3 (Operand.tmp 78) (Operand.const (Value.int IntKind.i64 16)) 3, type := 3, pos := "outright.go:27", after := #[{ on := 4, ground := Ground.data }], guard := none }) (v := ?_) rfl (by kernel_rfl) (by kernel_rfl) (by kernel_rfl) (fun _ _ _ h => h) (Or.inl ⟨by rfl, ?_⟩) (by assumption) ?_
          rotate_left
          · first | (intro w hSw; go_simp; done) | (intro w hSw; go_simp; with_reducible rfl)
          try simp only [Act.put, List.setIfInBounds_toArray, List.set_cons_zero, List.set_cons_succ]
          refine wpAnyH_take (i := 6) (oi := { dst := some 80, op := Op.slice 9 (Operand.tmp 74) (some (Operand.tmp 76)) (some (Operand.tmp 79)) none, type := 9, pos := "outright.go:27", after := #[{ on := 0, ground := Ground.data }, { on := 2, ground := Ground.data }, { on := 5, ground := Ground.data }], guard := none }) (v := ?_) rfl (by kernel_rfl) (by kernel_rfl) (by kernel_rfl) (fun _ _ _ h => h) (Or.inl ⟨by rfl, ?_⟩) (by assumption) ?_
          rotate_left
          · first | (intro w hSw; go_simp; done) | (intro w hSw; go_simp; with_reducible rfl)
          try simp only [Act.put, List.setIfInBounds_toArray, List.set_cons_zero, List.set_cons_succ]
          refine wpAnyH_take (i := 7) (oi := { dst := some 81, op := Op.move (Operand.tmp 13), type := 9, pos := "outright.go:27", after := #[], guard := none }) (v := ?_) rfl (by kernel_rfl) (by kernel_rfl) (by kernel_rfl) (fun _ _ _ h => h) (Or.inl ⟨by rfl, ?_⟩) (by assumption) ?_
          rotate_left
          · first | (intro w hSw; go_simp; done) | (intro w hSw; go_simp; with_reducible rfl)
          try simp only [Act.put, List.setIfInBounds_toArray, List.set_cons_zero, List.set_cons_succ]
          refine wpAnyH_take (i := 8) (oi := { dst := some 82, op := Op.binOp BinOp.neq 9 (Operand.tmp 80) (Operand.tmp 81) 9, type := 4, pos := "outright.go:27", after := #[{ on := 6, ground := Ground.data }, { on := 7, ground := Ground.data }], guard := none }) (v := ?_) rfl (by kernel_rfl) (by kernel_rfl) (by kernel_rfl) (fun _ _ _ h => h) (Or.inl ⟨by rfl, ?_⟩) (by assumption) ?_
          rotate_left
          · first | (intro w hSw; go_simp; done) | (intro w hSw; go_simp; with_reducible rfl)
          try simp only [Act.put, List.setIfInBounds_toArray, List.set_cons_zero, List.set_cons_succ]
          refine wpAnyH_take (i := 9) (oi := { dst := some 83, op := Op.move (Operand.tmp 82), type := 4, pos := "outright.go:27", after := #[{ on := 8, ground := Ground.data }], guard := none }) (v := ?_) rfl (by kernel_rfl) (by kernel_rfl) (by kernel_rfl) (fun _ _ _ h => h) (Or.inl ⟨by rfl, ?_⟩) (by assumption) ?_
          rotate_left
          · first | (intro w hSw; go_simp; done) | (intro w hSw; go_simp; with_reducible rfl)
          try simp only [Act.put, List.setIfInBounds_toArray, List.set_cons_zero, List.set_cons_succ]
          refine wpAnyH_take (i := 10) (oi := { dst := some 84, op := Op.move (Operand.tmp 8), type := 9, pos := "outright.go:27", after := #[{ on := 9, ground := Ground.guard }], guard := some (9, false) }) (v := ?_) rfl (by kernel_rfl) (by kernel_rfl) (by kernel_rfl) (fun _ _ _ h => h) (Or.inl ⟨by rfl, ?_⟩) (by assumption) ?_
          rotate_left
          · first | (intro w hSw; go_simp; done) | (intro w hSw; go_simp; with_reducible rfl)
          try simp only [Act.put, List.setIfInBounds_toArray, List.set_cons_zero, List.set_cons_succ]
          refine wpAnyH_take (i := 11) (oi := { dst := some 85, op := Op.move (Operand.tmp 11), type := 3, pos := "outright.go:27", after := #[{ on := 9, ground := Ground.guard }], guard := some (9, false) }) (v := ?_) rfl (by kernel_rfl) (by kernel_rfl) (by kernel_rfl) (fun _ _ _ h => h) (Or.inl ⟨by rfl, ?_⟩) (by assumption) ?_
          rotate_left
          · first | (intro w hSw; go_simp; done) | (intro w hSw; go_simp; with_reducible rfl)
          try simp only [Act.put, List.setIfInBounds_toArray, List.set_cons_zero, List.set_cons_succ]
          refine wpAnyH_take (i := 12) (oi := { dst := some 86, op := Op.binOp BinOp.mul 3 (Operand.const (Value.int IntKind.i64 32)) (Operand.tmp 85) 3, type := 3, pos := "outright.go:27", after := #[{ on := 11, ground := Ground.data }, { on := 9, ground := Ground.guard }], guard := some (9, false) }) (v := ?_) rfl (by kernel_rfl) (by kernel_rfl) (by kernel_rfl) (fun _ _ _ h => h) (Or.inl ⟨by rfl, ?_⟩) (by assumption) ?_
          rotate_left
          · first | (intro w hSw; go_simp; done) | (intro w hSw; go_simp; with_reducible rfl)
          try simp only [Act.put, List.setIfInBounds_toArray, List.set_cons_zero, List.set_cons_succ]
          refine wpAnyH_take (i := 13) (oi := { dst := some 87, op := Op.binOp BinOp.add 3 (Operand.tmp 86) (Operand.const (Value.int IntKind.i64 16)) 3, type := 3, pos := "outright.go:27", after := #[{ on := 12, ground := Ground.data }, { on := 9, ground := Ground.guard }], guard := some (9, false) }) (v := ?_) rfl (by kernel_rfl) (by kernel_rfl) (by kernel_rfl) (fun _ _ _ h => h) (Or.inl ⟨by rfl, ?_⟩) (by assumption) ?_
          rotate_left
          · first | (intro w hSw; go_simp; done) | (intro w hSw; go_simp; with_reducible rfl)
          try simp only [Act.put, List.setIfInBounds_toArray, List.set_cons_zero, List.set_cons_succ]
          refine wpAnyH_take (i := 14) (oi := { dst := some 88, op := Op.move (Operand.tmp 11), type := 3, pos := "outright.go:27", after := #[{ on := 9, ground := Ground.guard }], guard := some (9, false) }) (v := ?_) rfl (by kernel_rfl) (by kernel_rfl) (by kernel_rfl) (fun _ _ _ h => h) (Or.inl ⟨by rfl, ?_⟩) (by assumption) ?_
          rotate_left
          · first | (intro w hSw; go_simp; done) | (intro w hSw; go_simp; with_reducible rfl)
          try simp only [Act.put, List.setIfInBounds_toArray, List.set_cons_zero, List.set_cons_succ]
          refine wpAnyH_take (i := 15) (oi := { dst := some 89, op := Op.binOp BinOp.mul 3 (Operand.const (Value.int IntKind.i64 32)) (Operand.tmp 88) 3, type := 3, pos := "outright.go:27", after := #[{ on := 14, ground := Ground.data }, { on := 9, ground := Ground.guard }], guard := some (9, false) }) (v := ?_) rfl (by kernel_rfl) (by kernel_rfl) (by kernel_rfl) (fun _ _ _ h => h) (Or.inl ⟨by rfl, ?_⟩) (by assumption) ?_
          rotate_left
          · first | (intro w hSw; go_simp; done) | (intro w hSw; go_simp; with_reducible rfl)
          try simp only [Act.put, List.setIfInBounds_toArray, List.set_cons_zero, List.set_cons_succ]
          refine wpAnyH_take (i := 16) (oi := { dst := some 90, op := Op.binOp BinOp.add 3 (Operand.tmp 89) (Operand.const (Value.int IntKind.i64 32)) 3, type := 3, pos := "outright.go:27", after := #[{ on := 15, ground := Ground.data }, { on := 9, ground := Ground.guard }], guard := some (9, false) }) (v := ?_) rfl (by kernel_rfl) (by kernel_rfl) (by kernel_rfl) (fun _ _ _ h => h) (Or.inl ⟨by rfl, ?_⟩) (by assumption) ?_
          rotate_left
          · first | (intro w hSw; go_simp; done) | (intro w hSw; go_simp; with_reducible rfl)
          try simp only [Act.put, List.setIfInBounds_toArray, List.set_cons_zero, List.set_cons_succ]
          refine wpAnyH_take (i := 17) (oi := { dst := some 91, op := Op.slice 9 (Operand.tmp 84) (some (Operand.tmp 87)) (some (Operand.tmp 90)) none, type := 9, pos := "outright.go:27", after := #[{ on := 10, ground := Ground.data }, { on := 13, ground := Ground.data }, { on := 16, ground := Ground.data }, { on := 9, ground := Ground.guard }], guard := some (9, false) }) (v := ?_) rfl (by kernel_rfl) (by kernel_rfl) (by kernel_rfl) (fun _ _ _ h => h) (Or.inl ⟨by rfl, ?_⟩) (by assumption) ?_
          rotate_left
          · first | (intro w hSw; go_simp; done) | (intro w hSw; go_simp; with_reducible rfl)
          try simp only [Act.put, List.setIfInBounds_toArray, List.set_cons_zero, List.set_cons_succ]
          refine wpAnyH_take (i := 18) (oi := { dst := some 92, op := Op.move (Operand.tmp 14), type := 9, pos := "outright.go:27", after := #[{ on := 9, ground := Ground.guard }], guard := some (9, false) }) (v := ?_) rfl (by kernel_rfl) (by kernel_rfl) (by kernel_rfl) (fun _ _ _ h => h) (Or.inl ⟨by rfl, ?_⟩) (by assumption) ?_
          rotate_left
          · first | (intro w hSw; go_simp; done) | (intro w hSw; go_simp; with_reducible rfl)
          try simp only [Act.put, List.setIfInBounds_toArray, List.set_cons_zero, List.set_cons_succ]
          refine wpAnyH_ready (rs := [19]) (by kernel_rfl) (by simp) ?_
          refine AllReadyH.cons (o := { dst := some 93, op := Op.call { callee := Callee.value (Operand.func 19), args := #[Operand.tmp 92], argTypes := #[9] }, type := 9, pos := "outright.go:27", after := #[{ on := 18, ground := Ground.data }, { on := 9, ground := Ground.chain }, { on := 9, ground := Ground.guard }], guard := some (9, false) }) rfl (fun K hK => ?_) AllReadyH.nil
          go_simp
          (refine (MH _).mono ?_; rintro e w5 ⟨rfl, hb5⟩)
          go_wp2_with fail
          refine hK.out _ _ trivial (fun hHeld => ?_)
          clear hK K
          try simp only [Act.put, List.setIfInBounds_toArray, List.set_cons_zero, List.set_cons_succ]
          refine wpAnyH_take (i := 20) (oi := { dst := some 94, op := Op.binOp BinOp.neq 9 (Operand.tmp 91) (Operand.tmp 93) 9, type := 4, pos := "outright.go:27", after := #[{ on := 17, ground := Ground.data }, { on := 19, ground := Ground.data }, { on := 9, ground := Ground.guard }], guard := some (9, false) }) (v := ?_) rfl (by kernel_rfl) (by kernel_rfl) (by kernel_rfl) (fun _ _ _ h => h) (Or.inl ⟨by rfl, ?_⟩) (by assumption) ?_
          rotate_left
          · first | (intro w hSw; go_simp; done) | (intro w hSw; go_simp; with_reducible rfl)
          try simp only [Act.put, List.setIfInBounds_toArray, List.set_cons_zero, List.set_cons_succ]
          refine wpAnyH_take (i := 21) (oi := { dst := some 95, op := Op.pick (Operand.tmp 83) (Operand.const (Value.bool true)) (Operand.tmp 94), type := 4, pos := "outright.go:27", after := #[{ on := 9, ground := Ground.data }, { on := 20, ground := Ground.data }], guard := none }) (v := ?_) rfl (by kernel_rfl) (by kernel_rfl) (by kernel_rfl) (fun _ _ _ h => h) (Or.inl ⟨by rfl, ?_⟩) (by assumption) ?_
          rotate_left
          · first | (intro w hSw; go_simp; done) | (intro w hSw; go_simp; with_reducible rfl)
          try simp only [Act.put, List.setIfInBounds_toArray, List.set_cons_zero, List.set_cons_succ]
          refine wpAnyH_take (i := 22) (oi := { dst := some 96, op := Op.move (Operand.tmp 95), type := 4, pos := "outright.go:27", after := #[{ on := 21, ground := Ground.data }, { on := 19, ground := Ground.chain }], guard := none }) (v := ?_) rfl (by kernel_rfl) (by kernel_rfl) (by kernel_rfl) (fun _ _ _ h => h) (Or.inl ⟨by rfl, ?_⟩) (by assumption) ?_
          rotate_left
          · first | (intro w hSw; go_simp; done) | (intro w hSw; go_simp; with_reducible rfl)
          try simp only [Act.put, List.setIfInBounds_toArray, List.set_cons_zero, List.set_cons_succ]
          refine wpAnyH_take (i := 23) (oi := { dst := some 97, op := Op.move (Operand.tmp 13), type := 9, pos := "outright.go:27", after := #[{ on := 22, ground := Ground.guard }], guard := some (22, false) }) (v := ?_) rfl (by kernel_rfl) (by kernel_rfl) (by kernel_rfl) (fun _ _ _ h => h) (Or.inl ⟨by rfl, ?_⟩) (by assumption) ?_
          rotate_left
          · first | (intro w hSw; go_simp; done) | (intro w hSw; go_simp; with_reducible rfl)
          try simp only [Act.put, List.setIfInBounds_toArray, List.set_cons_zero, List.set_cons_succ]
          refine wpAnyH_take (i := 24) (oi := { dst := some 98, op := Op.move (Operand.tmp 0), type := 9, pos := "outright.go:27", after := #[{ on := 22, ground := Ground.guard }], guard := some (22, false) }) (v := ?_) rfl (by kernel_rfl) (by kernel_rfl) (by kernel_rfl) (fun _ _ _ h => h) (Or.inl ⟨by rfl, ?_⟩) (by assumption) ?_
          rotate_left
          · first | (intro w hSw; go_simp; done) | (intro w hSw; go_simp; with_reducible rfl)
          try simp only [Act.put, List.setIfInBounds_toArray, List.set_cons_zero, List.set_cons_succ]
          refine wpAnyH_take (i := 25) (oi := { dst := some 99, op := Op.move (Operand.tmp 7), type := 3, pos := "outright.go:27", after := #[{ on := 22, ground := Ground.guard }], guard := some (22, false) }) (v := ?_) rfl (by kernel_rfl) (by kernel_rfl) (by kernel_rfl) (fun _ _ _ h => h) (Or.inl ⟨by rfl, ?_⟩) (by assumption) ?_
          rotate_left
          · first | (intro w hSw; go_simp; done) | (intro w hSw; go_simp; with_reducible rfl)
          try simp only [Act.put, List.setIfInBounds_toArray, List.set_cons_zero, List.set_cons_succ]
          refine wpAnyH_take (i := 26) (oi := { dst := some 100, op := Op.convert 3 5 (Operand.tmp 99), type := 5, pos := "outright.go:27", after := #[{ on := 25, ground := Ground.data }, { on := 22, ground := Ground.guard }], guard := some (22, false) }) (v := ?_) rfl (by kernel_rfl) (by kernel_rfl) (by kernel_rfl) (fun _ _ _ h => h) (Or.inl ⟨by rfl, ?_⟩) (by assumption) ?_
          rotate_left
          · first | (intro w hSw; go_simp; done) | (intro w hSw; go_simp; with_reducible rfl)
          try simp only [Act.put, List.setIfInBounds_toArray, List.set_cons_zero, List.set_cons_succ]
          refine wpAnyH_take (i := 27) (oi := { dst := some 101, op := Op.move (Operand.tmp 11), type := 3, pos := "outright.go:27", after := #[{ on := 22, ground := Ground.guard }], guard := some (22, false) }) (v := ?_) rfl (by kernel_rfl) (by kernel_rfl) (by kernel_rfl) (fun _ _ _ h => h) (Or.inl ⟨by rfl, ?_⟩) (by assumption) ?_
          rotate_left
          · first | (intro w hSw; go_simp; done) | (intro w hSw; go_simp; with_reducible rfl)
          try simp only [Act.put, List.setIfInBounds_toArray, List.set_cons_zero, List.set_cons_succ]
          refine wpAnyH_take (i := 28) (oi := { dst := some 102, op := Op.convert 3 5 (Operand.tmp 101), type := 5, pos := "outright.go:27", after := #[{ on := 27, ground := Ground.data }, { on := 22, ground := Ground.guard }], guard := some (22, false) }) (v := ?_) rfl (by kernel_rfl) (by kernel_rfl) (by kernel_rfl) (fun _ _ _ h => h) (Or.inl ⟨by rfl, ?_⟩) (by assumption) ?_
          rotate_left
          · first | (intro w hSw; go_simp; done) | (intro w hSw; go_simp; with_reducible rfl)
          try simp only [Act.put, List.setIfInBounds_toArray, List.set_cons_zero, List.set_cons_succ]
          refine wpAnyH_take (i := 29) (oi := { dst := some 103, op := Op.move (Operand.tmp 12), type := 3, pos := "outright.go:27", after := #[{ on := 22, ground := Ground.guard }], guard := some (22, false) }) (v := ?_) rfl (by kernel_rfl) (by kernel_rfl) (by kernel_rfl) (fun _ _ _ h => h) (Or.inl ⟨by rfl, ?_⟩) (by assumption) ?_
          rotate_left
          · first | (intro w hSw; go_simp; done) | (intro w hSw; go_simp; with_reducible rfl)
          try simp only [Act.put, List.setIfInBounds_toArray, List.set_cons_zero, List.set_cons_succ]
          refine wpAnyH_take (i := 30) (oi := { dst := some 104, op := Op.convert 3 5 (Operand.tmp 103), type := 5, pos := "outright.go:27", after := #[{ on := 29, ground := Ground.data }, { on := 22, ground := Ground.guard }], guard := some (22, false) }) (v := ?_) rfl (by kernel_rfl) (by kernel_rfl) (by kernel_rfl) (fun _ _ _ h => h) (Or.inl ⟨by rfl, ?_⟩) (by assumption) ?_
          rotate_left
          · first | (intro w hSw; go_simp; done) | (intro w hSw; go_simp; with_reducible rfl)
          try simp only [Act.put, List.setIfInBounds_toArray, List.set_cons_zero, List.set_cons_succ]
          refine wpAnyH_ready (rs := [31]) (by kernel_rfl) (by simp) ?_
          refine AllReadyH.cons (o := { dst := some 105, op := Op.buildSlice 30 3 #[(0, Operand.tmp 100), (1, Operand.tmp 102), (2, Operand.tmp 104)], type := 30, pos := "outright.go:27", after := #[{ on := 26, ground := Ground.data }, { on := 28, ground := Ground.data }, { on := 30, ground := Ground.data }, { on := 22, ground := Ground.guard }], guard := some (22, false) }) rfl (fun K hK => ?_) AllReadyH.nil
          go_simp
          refine hK.out _ _ trivial (fun hHeld => ?_)
          clear hK K
          try simp only [Act.put, List.setIfInBounds_toArray, List.set_cons_zero, List.set_cons_succ]
          refine wpAnyH_ready (rs := [32]) (by kernel_rfl) (by simp) ?_
          refine AllReadyH.cons (o := { dst := some 106, op := Op.convert 30 9 (Operand.tmp 105), type := 9, pos := "outright.go:27", after := #[{ on := 31, ground := Ground.data }, { on := 22, ground := Ground.guard }], guard := some (22, false) }) rfl (fun K hK => ?_) AllReadyH.nil
          go_simp
          refine hK.out _ _ trivial (fun hHeld => ?_)
          clear hK K
          try simp only [Act.put, List.setIfInBounds_toArray, List.set_cons_zero, List.set_cons_succ]
          refine wpAnyH_ready (rs := [33]) (by kernel_rfl) (by simp) ?_
          refine AllReadyH.cons (o := { dst := some 107, op := Op.binOp BinOp.add 9 (Operand.tmp 98) (Operand.tmp 106) 9, type := 9, pos := "outright.go:27", after := #[{ on := 24, ground := Ground.data }, { on := 32, ground := Ground.data }, { on := 22, ground := Ground.guard }], guard := some (22, false) }) rfl (fun K hK => ?_) AllReadyH.nil
          go_simp
          skip
          go_wp2_with fail
          refine hK.out _ _ trivial (fun hHeld => ?_)
          clear hK K
          try simp only [Act.put, List.setIfInBounds_toArray, List.set_cons_zero, List.set_cons_succ]
          refine wpAnyH_ready (rs := [34]) (by kernel_rfl) (by simp) ?_
          refine AllReadyH.cons (o := { dst := some 108, op := Op.call { callee := Callee.value (Operand.func 19), args := #[Operand.tmp 107], argTypes := #[9] }, type := 9, pos := "outright.go:27", after := #[{ on := 33, ground := Ground.data }, { on := 22, ground := Ground.chain }, { on := 22, ground := Ground.guard }], guard := some (22, false) }) rfl (fun K hK => ?_) AllReadyH.nil
          go_simp
          (refine (MQ _).mono ?_; rintro e w6 ⟨rfl, hb6⟩)
          go_wp2_with fail
          refine hK.out _ _ trivial (fun hHeld => ?_)
          clear hK K
          try simp only [Act.put, List.setIfInBounds_toArray, List.set_cons_zero, List.set_cons_succ]
          refine wpAnyH_take (i := 35) (oi := { dst := some 109, op := Op.binOp BinOp.neq 9 (Operand.tmp 97) (Operand.tmp 108) 9, type := 4, pos := "outright.go:27", after := #[{ on := 23, ground := Ground.data }, { on := 34, ground := Ground.data }, { on := 22, ground := Ground.guard }], guard := some (22, false) }) (v := ?_) rfl (by kernel_rfl) (by kernel_rfl) (by kernel_rfl) (fun _ _ _ h => h) (Or.inl ⟨by rfl, ?_⟩) (by assumption) ?_
          rotate_left
          · first | (intro w hSw; go_simp; done) | (intro w hSw; go_simp; with_reducible rfl)
          try simp only [Act.put, List.setIfInBounds_toArray, List.set_cons_zero, List.set_cons_succ]
          refine wpAnyH_take (i := 36) (oi := { dst := some 110, op := Op.pick (Operand.tmp 96) (Operand.const (Value.bool true)) (Operand.tmp 109), type := 4, pos := "outright.go:27", after := #[{ on := 22, ground := Ground.data }, { on := 35, ground := Ground.data }], guard := none }) (v := ?_) rfl (by kernel_rfl) (by kernel_rfl) (by kernel_rfl) (fun _ _ _ h => h) (Or.inl ⟨by rfl, ?_⟩) (by assumption) ?_
          rotate_left
          · first | (intro w hSw; go_simp; done) | (intro w hSw; go_simp; with_reducible rfl)
          try simp only [Act.put, List.setIfInBounds_toArray, List.set_cons_zero, List.set_cons_succ]
          refine wpAnyH_done (by kernel_rfl) ?_ _
          go_wp2_with fail
          go_meet
          case rel => exact ⟨rfl, below_then ((below_then hB.drew hb5).alloc (Nat.le_trans hB.size (by have := hb5.size; exact this)) _) hb6⟩
        case rest =>
          clear hB
          obtain ⟨rfl, hB⟩ := hcut
          go_wp2
          go_roundw
          case rel => exact ⟨n + 1, x ++ h0 ++ h1, by omega, by go_num, rfl, HN.out, hB⟩
          case measure => simp [intOf]; omega
      · have hb1 : b = 1 := by omega
        subst hb1
        clear hb0
        obtain ⟨⟨sp1, sp2⟩, hv0l, hv1l, hh0l, hh1l⟩ := SP.out
        have E1 : g.extract (32 * n) (32 * n + 16) = v1 := ba_ext _ _ (by rw [fore_at, sp1, hv1l])
        have E2 : g.extract (32 * n + 16) (32 * n + 32) = h0 := ba_ext _ _ (by rw [hind_at, sp2, hh0l])
        have EQ : (ByteArray.mk (valueOf s.data.toList k n 1).toArray) = v1 := ba_ext _ _ hv1l.symm
        rw [EQ] at MQ
        clear EQ sp1 sp2 hv0l hv1l hh0l hh1l SP
        have E1' : Hid (g.extract (32 * n) (32 * n + 16) = v1) := E1
        have E2' : Hid (g.extract (32 * n + 16) (32 * n + 32) = h0) := E2
        clear E1 E2
        go_wp2_with fail
        go_cut [110] from 74 to 109 (fun v wx => v = .bool false ∧ Below w.heap.size w wx)
        case first =>
          have E1 : g.extract (32 * (n : Int)).toNat (32 * (n : Int) + 16).toNat = v1 := by rw [← E1'.out]; congr 1
          have E2 : g.extract (32 * (n : Int) + 16).toNat (32 * (n : Int) + 32).toNat = h0 := by rw [← E2'.out]; congr 1
          have s0 : (v1.toList == v1.toList) = true := beq_self_eq_true _
          have s1 : (h0.toList == h0.toList) = true := beq_self_eq_true _
          have HCV : ∀ w' : World, Sem.run Try.prog (convert 30 9 (.slice (some ⟨w'.heap.size, 0, none⟩) 3 3)) (w'.alloc (.cells #[.int .u8 (k : Int), .int .u8 (n : Int), .int .u8 1] 5)) = .ok (.string t) (w'.alloc (.cells #[.int .u8 (k : Int), .int .u8 (n : Int), .int .u8 1] 5)) := HCV'.out
          have wb : IntKind.u8.wrap (1 : Int) = 1 := rfl
          have n0 : (0 : Int) ≤ 32 * (n : Int) := by omega
          have n2 : 32 * (n : Int) + 16 ≤ (g.size : Int) := by omega
          have n3 : 32 * (n : Int) + 32 ≤ (g.size : Int) := by omega
          have n4 : (0 : Int) ≤ 32 * (n : Int) + 16 := by omega
          have n5 : 32 * (n : Int) ≤ 32 * (n : Int) + 16 := by omega
          have n6 : 32 * (n : Int) + 16 ≤ 32 * (n : Int) + 32 := by omega
          have n7 : 32 * (n : Int) + 16 ≤ 512 := by omega
          have n8 : 32 * (n : Int) + 32 ≤ 512 := by omega
          have wz0 : IntKind.i64.wrap (32 * (n : Int)) = 32 * (n : Int) := IntWalk.i64_in _ (by omega)
          have wz1 : IntKind.i64.wrap (32 * (n : Int) + 16) = 32 * (n : Int) + 16 := IntWalk.i64_in _ (by omega)
          have wz2 : IntKind.i64.wrap (32 * (n : Int) + 32) = 32 * (n : Int) + 32 := IntWalk.i64_in _ (by omega)
          have wk : IntKind.u8.wrap (k : Int) = (k : Int) := by rw [IntKind.wrap_u8]; omega
          have wn : IntKind.u8.wrap (n : Int) = (n : Int) := by rw [IntKind.wrap_u8]; omega
          clear HN HG HD HX hbs zdi hxs x0 x1 MH1 zgi hsi hmi hs hm y0 y1 z0 z1 hts hn E1' E2' HCV'
          have MH := MH0
          clear MH0
          refine wp_region_held_drew (S := fun _ => True) (by kernel_rfl) trivial (fun hHeld => ?_)
          refine wpAnyH_take (i := 0) (oi := { dst := some 74, op := Op.move (Operand.tmp 8), type := 9, pos := "outright.go:27", after := #[], guard := none }) (v := ?_) rfl (by kernel_rfl) (by kernel_rfl) (by kernel_rfl) (fun _ _ _ h => h) (Or.inl ⟨by rfl, ?_⟩) (by assumption) ?_
          rotate_left
          · first | (intro w hSw; go_simp; done) | (intro w hSw; go_simp; with_reducible rfl)
          try simp only [Act.put, List.setIfInBounds_toArray, List.set_cons_zero, List.set_cons_succ]
          refine wpAnyH_take (i := 1) (oi := { dst := some 75, op := Op.move (Operand.tmp 11), type := 3, pos := "outright.go:27", after := #[], guard := none }) (v := ?_) rfl (by kernel_rfl) (by kernel_rfl) (by kernel_rfl) (fun _ _ _ h => h) (Or.inl ⟨by rfl, ?_⟩) (by assumption) ?_
          rotate_left
          · first | (intro w hSw; go_simp; done) | (intro w hSw; go_simp; with_reducible rfl)
          try simp only [Act.put, List.setIfInBounds_toArray, List.set_cons_zero, List.set_cons_succ]
          refine wpAnyH_take (i := 2) (oi := { dst := some 76, op := Op.binOp BinOp.mul 3 (Operand.const (Value.int IntKind.i64 32)) (Operand.tmp 75) 3, type := 3, pos := "outright.go:27", after := #[{ on := 1, ground := Ground.data }], guard := none }) (v := ?_) rfl (by kernel_rfl) (by kernel_rfl) (by kernel_rfl) (fun _ _ _ h => h) (Or.inl ⟨by rfl, ?_⟩) (by assumption) ?_
          rotate_left
          · first | (intro w hSw; go_simp; done) | (intro w hSw; go_simp; with_reducible rfl)
          try simp only [Act.put, List.setIfInBounds_toArray, List.set_cons_zero, List.set_cons_succ]
          refine wpAnyH_take (i := 3) (oi := { dst := some 77, op := Op.move (Operand.tmp 11), type := 3, pos := "outright.go:27", after := #[], guard := none }) (v := ?_) rfl (by kernel_rfl) (by kernel_rfl) (by kernel_rfl) (fun _ _ _ h => h) (Or.inl ⟨by rfl, ?_⟩) (by assumption) ?_
          rotate_left
          · first | (intro w hSw; go_simp; done) | (intro w hSw; go_simp; with_reducible rfl)
          try simp only [Act.put, List.setIfInBounds_toArray, List.set_cons_zero, List.set_cons_succ]
          refine wpAnyH_take (i := 4) (oi := { dst := some 78, op := Op.binOp BinOp.mul 3 (Operand.const (Value.int IntKind.i64 32)) (Operand.tmp 77) 3, type := 3, pos := "outright.go:27", after := #[{ on := 3, ground := Ground.data }], guard := none }) (v := ?_) rfl (by kernel_rfl) (by kernel_rfl) (by kernel_rfl) (fun _ _ _ h => h) (Or.inl ⟨by rfl, ?_⟩) (by assumption) ?_
          rotate_left
          · first | (intro w hSw; go_simp; done) | (intro w hSw; go_simp; with_reducible rfl)
          try simp only [Act.put, List.setIfInBounds_toArray, List.set_cons_zero, List.set_cons_succ]
          refine wpAnyH_take (i := 5) (oi := { dst := some 79, op := Op.binOp BinOp.add 3 (Operand.tmp 78) (Operand.const (Value.int IntKind.i64 16)) 3, type := 3, pos := "outright.go:27", after := #[{ on := 4, ground := Ground.data }], guard := none }) (v := ?_) rfl (by kernel_rfl) (by kernel_rfl) (by kernel_rfl) (fun _ _ _ h => h) (Or.inl ⟨by rfl, ?_⟩) (by assumption) ?_
          rotate_left
          · first | (intro w hSw; go_simp; done) | (intro w hSw; go_simp; with_reducible rfl)
          try simp only [Act.put, List.setIfInBounds_toArray, List.set_cons_zero, List.set_cons_succ]
          refine wpAnyH_take (i := 6) (oi := { dst := some 80, op := Op.slice 9 (Operand.tmp 74) (some (Operand.tmp 76)) (some (Operand.tmp 79)) none, type := 9, pos := "outright.go:27", after := #[{ on := 0, ground := Ground.data }, { on := 2, ground := Ground.data }, { on := 5, ground := Ground.data }], guard := none }) (v := ?_) rfl (by kernel_rfl) (by kernel_rfl) (by kernel_rfl) (fun _ _ _ h => h) (Or.inl ⟨by rfl, ?_⟩) (by assumption) ?_
          rotate_left
          · first | (intro w hSw; go_simp; done) | (intro w hSw; go_simp; with_reducible rfl)
          try simp only [Act.put, List.setIfInBounds_toArray, List.set_cons_zero, List.set_cons_succ]
          refine wpAnyH_take (i := 7) (oi := { dst := some 81, op := Op.move (Operand.tmp 13), type := 9, pos := "outright.go:27", after := #[], guard := none }) (v := ?_) rfl (by kernel_rfl) (by kernel_rfl) (by kernel_rfl) (fun _ _ _ h => h) (Or.inl ⟨by rfl, ?_⟩) (by assumption) ?_
          rotate_left
          · first | (intro w hSw; go_simp; done) | (intro w hSw; go_simp; with_reducible rfl)
          try simp only [Act.put, List.setIfInBounds_toArray, List.set_cons_zero, List.set_cons_succ]
          refine wpAnyH_take (i := 8) (oi := { dst := some 82, op := Op.binOp BinOp.neq 9 (Operand.tmp 80) (Operand.tmp 81) 9, type := 4, pos := "outright.go:27", after := #[{ on := 6, ground := Ground.data }, { on := 7, ground := Ground.data }], guard := none }) (v := ?_) rfl (by kernel_rfl) (by kernel_rfl) (by kernel_rfl) (fun _ _ _ h => h) (Or.inl ⟨by rfl, ?_⟩) (by assumption) ?_
          rotate_left
          · first | (intro w hSw; go_simp; done) | (intro w hSw; go_simp; with_reducible rfl)
          try simp only [Act.put, List.setIfInBounds_toArray, List.set_cons_zero, List.set_cons_succ]
          refine wpAnyH_take (i := 9) (oi := { dst := some 83, op := Op.move (Operand.tmp 82), type := 4, pos := "outright.go:27", after := #[{ on := 8, ground := Ground.data }], guard := none }) (v := ?_) rfl (by kernel_rfl) (by kernel_rfl) (by kernel_rfl) (fun _ _ _ h => h) (Or.inl ⟨by rfl, ?_⟩) (by assumption) ?_
          rotate_left
          · first | (intro w hSw; go_simp; done) | (intro w hSw; go_simp; with_reducible rfl)
          try simp only [Act.put, List.setIfInBounds_toArray, List.set_cons_zero, List.set_cons_succ]
          refine wpAnyH_take (i := 10) (oi := { dst := some 84, op := Op.move (Operand.tmp 8), type := 9, pos := "outright.go:27", after := #[{ on := 9, ground := Ground.guard }], guard := some (9, false) }) (v := ?_) rfl (by kernel_rfl) (by kernel_rfl) (by kernel_rfl) (fun _ _ _ h => h) (Or.inl ⟨by rfl, ?_⟩) (by assumption) ?_
          rotate_left
          · first | (intro w hSw; go_simp; done) | (intro w hSw; go_simp; with_reducible rfl)
          try simp only [Act.put, List.setIfInBounds_toArray, List.set_cons_zero, List.set_cons_succ]
          refine wpAnyH_take (i := 11) (oi := { dst := some 85, op := Op.move (Operand.tmp 11), type := 3, pos := "outright.go:27", after := #[{ on := 9, ground := Ground.guard }], guard := some (9, false) }) (v := ?_) rfl (by kernel_rfl) (by kernel_rfl) (by kernel_rfl) (fun _ _ _ h => h) (Or.inl ⟨by rfl, ?_⟩) (by assumption) ?_
          rotate_left
          · first | (intro w hSw; go_simp; done) | (intro w hSw; go_simp; with_reducible rfl)
          try simp only [Act.put, List.setIfInBounds_toArray, List.set_cons_zero, List.set_cons_succ]
          refine wpAnyH_take (i := 12) (oi := { dst := some 86, op := Op.binOp BinOp.mul 3 (Operand.const (Value.int IntKind.i64 32)) (Operand.tmp 85) 3, type := 3, pos := "outright.go:27", after := #[{ on := 11, ground := Ground.data }, { on := 9, ground := Ground.guard }], guard := some (9, false) }) (v := ?_) rfl (by kernel_rfl) (by kernel_rfl) (by kernel_rfl) (fun _ _ _ h => h) (Or.inl ⟨by rfl, ?_⟩) (by assumption) ?_
          rotate_left
          · first | (intro w hSw; go_simp; done) | (intro w hSw; go_simp; with_reducible rfl)
          try simp only [Act.put, List.setIfInBounds_toArray, List.set_cons_zero, List.set_cons_succ]
          refine wpAnyH_take (i := 13) (oi := { dst := some 87, op := Op.binOp BinOp.add 3 (Operand.tmp 86) (Operand.const (Value.int IntKind.i64 16)) 3, type := 3, pos := "outright.go:27", after := #[{ on := 12, ground := Ground.data }, { on := 9, ground := Ground.guard }], guard := some (9, false) }) (v := ?_) rfl (by kernel_rfl) (by kernel_rfl) (by kernel_rfl) (fun _ _ _ h => h) (Or.inl ⟨by rfl, ?_⟩) (by assumption) ?_
          rotate_left
          · first | (intro w hSw; go_simp; done) | (intro w hSw; go_simp; with_reducible rfl)
          try simp only [Act.put, List.setIfInBounds_toArray, List.set_cons_zero, List.set_cons_succ]
          refine wpAnyH_take (i := 14) (oi := { dst := some 88, op := Op.move (Operand.tmp 11), type := 3, pos := "outright.go:27", after := #[{ on := 9, ground := Ground.guard }], guard := some (9, false) }) (v := ?_) rfl (by kernel_rfl) (by kernel_rfl) (by kernel_rfl) (fun _ _ _ h => h) (Or.inl ⟨by rfl, ?_⟩) (by assumption) ?_
          rotate_left
          · first | (intro w hSw; go_simp; done) | (intro w hSw; go_simp; with_reducible rfl)
          try simp only [Act.put, List.setIfInBounds_toArray, List.set_cons_zero, List.set_cons_succ]
          refine wpAnyH_take (i := 15) (oi := { dst := some 89, op := Op.binOp BinOp.mul 3 (Operand.const (Value.int IntKind.i64 32)) (Operand.tmp 88) 3, type := 3, pos := "outright.go:27", after := #[{ on := 14, ground := Ground.data }, { on := 9, ground := Ground.guard }], guard := some (9, false) }) (v := ?_) rfl (by kernel_rfl) (by kernel_rfl) (by kernel_rfl) (fun _ _ _ h => h) (Or.inl ⟨by rfl, ?_⟩) (by assumption) ?_
          rotate_left
          · first | (intro w hSw; go_simp; done) | (intro w hSw; go_simp; with_reducible rfl)
          try simp only [Act.put, List.setIfInBounds_toArray, List.set_cons_zero, List.set_cons_succ]
          refine wpAnyH_take (i := 16) (oi := { dst := some 90, op := Op.binOp BinOp.add 3 (Operand.tmp 89) (Operand.const (Value.int IntKind.i64 32)) 3, type := 3, pos := "outright.go:27", after := #[{ on := 15, ground := Ground.data }, { on := 9, ground := Ground.guard }], guard := some (9, false) }) (v := ?_) rfl (by kernel_rfl) (by kernel_rfl) (by kernel_rfl) (fun _ _ _ h => h) (Or.inl ⟨by rfl, ?_⟩) (by assumption) ?_
          rotate_left
          · first | (intro w hSw; go_simp; done) | (intro w hSw; go_simp; with_reducible rfl)
          try simp only [Act.put, List.setIfInBounds_toArray, List.set_cons_zero, List.set_cons_succ]
          refine wpAnyH_take (i := 17) (oi := { dst := some 91, op := Op.slice 9 (Operand.tmp 84) (some (Operand.tmp 87)) (some (Operand.tmp 90)) none, type := 9, pos := "outright.go:27", after := #[{ on := 10, ground := Ground.data }, { on := 13, ground := Ground.data }, { on := 16, ground := Ground.data }, { on := 9, ground := Ground.guard }], guard := some (9, false) }) (v := ?_) rfl (by kernel_rfl) (by kernel_rfl) (by kernel_rfl) (fun _ _ _ h => h) (Or.inl ⟨by rfl, ?_⟩) (by assumption) ?_
          rotate_left
          · first | (intro w hSw; go_simp; done) | (intro w hSw; go_simp; with_reducible rfl)
          try simp only [Act.put, List.setIfInBounds_toArray, List.set_cons_zero, List.set_cons_succ]
          refine wpAnyH_take (i := 18) (oi := { dst := some 92, op := Op.move (Operand.tmp 14), type := 9, pos := "outright.go:27", after := #[{ on := 9, ground := Ground.guard }], guard := some (9, false) }) (v := ?_) rfl (by kernel_rfl) (by kernel_rfl) (by kernel_rfl) (fun _ _ _ h => h) (Or.inl ⟨by rfl, ?_⟩) (by assumption) ?_
          rotate_left
          · first | (intro w hSw; go_simp; done) | (intro w hSw; go_simp; with_reducible rfl)
          try simp only [Act.put, List.setIfInBounds_toArray, List.set_cons_zero, List.set_cons_succ]
          refine wpAnyH_ready (rs := [19]) (by kernel_rfl) (by simp) ?_
          refine AllReadyH.cons (o := { dst := some 93, op := Op.call { callee := Callee.value (Operand.func 19), args := #[Operand.tmp 92], argTypes := #[9] }, type := 9, pos := "outright.go:27", after := #[{ on := 18, ground := Ground.data }, { on := 9, ground := Ground.chain }, { on := 9, ground := Ground.guard }], guard := some (9, false) }) rfl (fun K hK => ?_) AllReadyH.nil
          go_simp
          (refine (MH _).mono ?_; rintro e w5 ⟨rfl, hb5⟩)
          go_wp2_with fail
          refine hK.out _ _ trivial (fun hHeld => ?_)
          clear hK K
          try simp only [Act.put, List.setIfInBounds_toArray, List.set_cons_zero, List.set_cons_succ]
          refine wpAnyH_take (i := 20) (oi := { dst := some 94, op := Op.binOp BinOp.neq 9 (Operand.tmp 91) (Operand.tmp 93) 9, type := 4, pos := "outright.go:27", after := #[{ on := 17, ground := Ground.data }, { on := 19, ground := Ground.data }, { on := 9, ground := Ground.guard }], guard := some (9, false) }) (v := ?_) rfl (by kernel_rfl) (by kernel_rfl) (by kernel_rfl) (fun _ _ _ h => h) (Or.inl ⟨by rfl, ?_⟩) (by assumption) ?_
          rotate_left
          · first | (intro w hSw; go_simp; done) | (intro w hSw; go_simp; with_reducible rfl)
          try simp only [Act.put, List.setIfInBounds_toArray, List.set_cons_zero, List.set_cons_succ]
          refine wpAnyH_take (i := 21) (oi := { dst := some 95, op := Op.pick (Operand.tmp 83) (Operand.const (Value.bool true)) (Operand.tmp 94), type := 4, pos := "outright.go:27", after := #[{ on := 9, ground := Ground.data }, { on := 20, ground := Ground.data }], guard := none }) (v := ?_) rfl (by kernel_rfl) (by kernel_rfl) (by kernel_rfl) (fun _ _ _ h => h) (Or.inl ⟨by rfl, ?_⟩) (by assumption) ?_
          rotate_left
          · first | (intro w hSw; go_simp; done) | (intro w hSw; go_simp; with_reducible rfl)
          try simp only [Act.put, List.setIfInBounds_toArray, List.set_cons_zero, List.set_cons_succ]
          refine wpAnyH_take (i := 22) (oi := { dst := some 96, op := Op.move (Operand.tmp 95), type := 4, pos := "outright.go:27", after := #[{ on := 21, ground := Ground.data }, { on := 19, ground := Ground.chain }], guard := none }) (v := ?_) rfl (by kernel_rfl) (by kernel_rfl) (by kernel_rfl) (fun _ _ _ h => h) (Or.inl ⟨by rfl, ?_⟩) (by assumption) ?_
          rotate_left
          · first | (intro w hSw; go_simp; done) | (intro w hSw; go_simp; with_reducible rfl)
          try simp only [Act.put, List.setIfInBounds_toArray, List.set_cons_zero, List.set_cons_succ]
          refine wpAnyH_take (i := 23) (oi := { dst := some 97, op := Op.move (Operand.tmp 13), type := 9, pos := "outright.go:27", after := #[{ on := 22, ground := Ground.guard }], guard := some (22, false) }) (v := ?_) rfl (by kernel_rfl) (by kernel_rfl) (by kernel_rfl) (fun _ _ _ h => h) (Or.inl ⟨by rfl, ?_⟩) (by assumption) ?_
          rotate_left
          · first | (intro w hSw; go_simp; done) | (intro w hSw; go_simp; with_reducible rfl)
          try simp only [Act.put, List.setIfInBounds_toArray, List.set_cons_zero, List.set_cons_succ]
          refine wpAnyH_take (i := 24) (oi := { dst := some 98, op := Op.move (Operand.tmp 0), type := 9, pos := "outright.go:27", after := #[{ on := 22, ground := Ground.guard }], guard := some (22, false) }) (v := ?_) rfl (by kernel_rfl) (by kernel_rfl) (by kernel_rfl) (fun _ _ _ h => h) (Or.inl ⟨by rfl, ?_⟩) (by assumption) ?_
          rotate_left
          · first | (intro w hSw; go_simp; done) | (intro w hSw; go_simp; with_reducible rfl)
          try simp only [Act.put, List.setIfInBounds_toArray, List.set_cons_zero, List.set_cons_succ]
          refine wpAnyH_take (i := 25) (oi := { dst := some 99, op := Op.move (Operand.tmp 7), type := 3, pos := "outright.go:27", after := #[{ on := 22, ground := Ground.guard }], guard := some (22, false) }) (v := ?_) rfl (by kernel_rfl) (by kernel_rfl) (by kernel_rfl) (fun _ _ _ h => h) (Or.inl ⟨by rfl, ?_⟩) (by assumption) ?_
          rotate_left
          · first | (intro w hSw; go_simp; done) | (intro w hSw; go_simp; with_reducible rfl)
          try simp only [Act.put, List.setIfInBounds_toArray, List.set_cons_zero, List.set_cons_succ]
          refine wpAnyH_take (i := 26) (oi := { dst := some 100, op := Op.convert 3 5 (Operand.tmp 99), type := 5, pos := "outright.go:27", after := #[{ on := 25, ground := Ground.data }, { on := 22, ground := Ground.guard }], guard := some (22, false) }) (v := ?_) rfl (by kernel_rfl) (by kernel_rfl) (by kernel_rfl) (fun _ _ _ h => h) (Or.inl ⟨by rfl, ?_⟩) (by assumption) ?_
          rotate_left
          · first | (intro w hSw; go_simp; done) | (intro w hSw; go_simp; with_reducible rfl)
          try simp only [Act.put, List.setIfInBounds_toArray, List.set_cons_zero, List.set_cons_succ]
          refine wpAnyH_take (i := 27) (oi := { dst := some 101, op := Op.move (Operand.tmp 11), type := 3, pos := "outright.go:27", after := #[{ on := 22, ground := Ground.guard }], guard := some (22, false) }) (v := ?_) rfl (by kernel_rfl) (by kernel_rfl) (by kernel_rfl) (fun _ _ _ h => h) (Or.inl ⟨by rfl, ?_⟩) (by assumption) ?_
          rotate_left
          · first | (intro w hSw; go_simp; done) | (intro w hSw; go_simp; with_reducible rfl)
          try simp only [Act.put, List.setIfInBounds_toArray, List.set_cons_zero, List.set_cons_succ]
          refine wpAnyH_take (i := 28) (oi := { dst := some 102, op := Op.convert 3 5 (Operand.tmp 101), type := 5, pos := "outright.go:27", after := #[{ on := 27, ground := Ground.data }, { on := 22, ground := Ground.guard }], guard := some (22, false) }) (v := ?_) rfl (by kernel_rfl) (by kernel_rfl) (by kernel_rfl) (fun _ _ _ h => h) (Or.inl ⟨by rfl, ?_⟩) (by assumption) ?_
          rotate_left
          · first | (intro w hSw; go_simp; done) | (intro w hSw; go_simp; with_reducible rfl)
          try simp only [Act.put, List.setIfInBounds_toArray, List.set_cons_zero, List.set_cons_succ]
          refine wpAnyH_take (i := 29) (oi := { dst := some 103, op := Op.move (Operand.tmp 12), type := 3, pos := "outright.go:27", after := #[{ on := 22, ground := Ground.guard }], guard := some (22, false) }) (v := ?_) rfl (by kernel_rfl) (by kernel_rfl) (by kernel_rfl) (fun _ _ _ h => h) (Or.inl ⟨by rfl, ?_⟩) (by assumption) ?_
          rotate_left
          · first | (intro w hSw; go_simp; done) | (intro w hSw; go_simp; with_reducible rfl)
          try simp only [Act.put, List.setIfInBounds_toArray, List.set_cons_zero, List.set_cons_succ]
          refine wpAnyH_take (i := 30) (oi := { dst := some 104, op := Op.convert 3 5 (Operand.tmp 103), type := 5, pos := "outright.go:27", after := #[{ on := 29, ground := Ground.data }, { on := 22, ground := Ground.guard }], guard := some (22, false) }) (v := ?_) rfl (by kernel_rfl) (by kernel_rfl) (by kernel_rfl) (fun _ _ _ h => h) (Or.inl ⟨by rfl, ?_⟩) (by assumption) ?_
          rotate_left
          · first | (intro w hSw; go_simp; done) | (intro w hSw; go_simp; with_reducible rfl)
          try simp only [Act.put, List.setIfInBounds_toArray, List.set_cons_zero, List.set_cons_succ]
          refine wpAnyH_ready (rs := [31]) (by kernel_rfl) (by simp) ?_
          refine AllReadyH.cons (o := { dst := some 105, op := Op.buildSlice 30 3 #[(0, Operand.tmp 100), (1, Operand.tmp 102), (2, Operand.tmp 104)], type := 30, pos := "outright.go:27", after := #[{ on := 26, ground := Ground.data }, { on := 28, ground := Ground.data }, { on := 30, ground := Ground.data }, { on := 22, ground := Ground.guard }], guard := some (22, false) }) rfl (fun K hK => ?_) AllReadyH.nil
          go_simp
          refine hK.out _ _ trivial (fun hHeld => ?_)
          clear hK K
          try simp only [Act.put, List.setIfInBounds_toArray, List.set_cons_zero, List.set_cons_succ]
          refine wpAnyH_ready (rs := [32]) (by kernel_rfl) (by simp) ?_
          refine AllReadyH.cons (o := { dst := some 106, op := Op.convert 30 9 (Operand.tmp 105), type := 9, pos := "outright.go:27", after := #[{ on := 31, ground := Ground.data }, { on := 22, ground := Ground.guard }], guard := some (22, false) }) rfl (fun K hK => ?_) AllReadyH.nil
          go_simp
          refine hK.out _ _ trivial (fun hHeld => ?_)
          clear hK K
          try simp only [Act.put, List.setIfInBounds_toArray, List.set_cons_zero, List.set_cons_succ]
          refine wpAnyH_ready (rs := [33]) (by kernel_rfl) (by simp) ?_
          refine AllReadyH.cons (o := { dst := some 107, op := Op.binOp BinOp.add 9 (Operand.tmp 98) (Operand.tmp 106) 9, type := 9, pos := "outright.go:27", after := #[{ on := 24, ground := Ground.data }, { on := 32, ground := Ground.data }, { on := 22, ground := Ground.guard }], guard := some (22, false) }) rfl (fun K hK => ?_) AllReadyH.nil
          go_simp
          skip
          go_wp2_with fail
          refine hK.out _ _ trivial (fun hHeld => ?_)
          clear hK K
          try simp only [Act.put, List.setIfInBounds_toArray, List.set_cons_zero, List.set_cons_succ]
          refine wpAnyH_ready (rs := [34]) (by kernel_rfl) (by simp) ?_
          refine AllReadyH.cons (o := { dst := some 108, op := Op.call { callee := Callee.value (Operand.func 19), args := #[Operand.tmp 107], argTypes := #[9] }, type := 9, pos := "outright.go:27", after := #[{ on := 33, ground := Ground.data }, { on := 22, ground := Ground.chain }, { on := 22, ground := Ground.guard }], guard := some (22, false) }) rfl (fun K hK => ?_) AllReadyH.nil
          go_simp
          (refine (MQ _).mono ?_; rintro e w6 ⟨rfl, hb6⟩)
          go_wp2_with fail
          refine hK.out _ _ trivial (fun hHeld => ?_)
          clear hK K
          try simp only [Act.put, List.setIfInBounds_toArray, List.set_cons_zero, List.set_cons_succ]
          refine wpAnyH_take (i := 35) (oi := { dst := some 109, op := Op.binOp BinOp.neq 9 (Operand.tmp 97) (Operand.tmp 108) 9, type := 4, pos := "outright.go:27", after := #[{ on := 23, ground := Ground.data }, { on := 34, ground := Ground.data }, { on := 22, ground := Ground.guard }], guard := some (22, false) }) (v := ?_) rfl (by kernel_rfl) (by kernel_rfl) (by kernel_rfl) (fun _ _ _ h => h) (Or.inl ⟨by rfl, ?_⟩) (by assumption) ?_
          rotate_left
          · first | (intro w hSw; go_simp; done) | (intro w hSw; go_simp; with_reducible rfl)
          try simp only [Act.put, List.setIfInBounds_toArray, List.set_cons_zero, List.set_cons_succ]
          refine wpAnyH_take (i := 36) (oi := { dst := some 110, op := Op.pick (Operand.tmp 96) (Operand.const (Value.bool true)) (Operand.tmp 109), type := 4, pos := "outright.go:27", after := #[{ on := 22, ground := Ground.data }, { on := 35, ground := Ground.data }], guard := none }) (v := ?_) rfl (by kernel_rfl) (by kernel_rfl) (by kernel_rfl) (fun _ _ _ h => h) (Or.inl ⟨by rfl, ?_⟩) (by assumption) ?_
          rotate_left
          · first | (intro w hSw; go_simp; done) | (intro w hSw; go_simp; with_reducible rfl)
          try simp only [Act.put, List.setIfInBounds_toArray, List.set_cons_zero, List.set_cons_succ]
          refine wpAnyH_done (by kernel_rfl) ?_ _
          go_wp2_with fail
          go_meet
          case rel => exact ⟨rfl, below_then ((below_then hB.drew hb5).alloc (Nat.le_trans hB.size (by have := hb5.size; exact this)) _) hb6⟩
        case rest =>
          clear hB
          obtain ⟨rfl, hB⟩ := hcut
          go_wp2
          go_roundw
          case rel => exact ⟨n + 1, x ++ h0 ++ h1, by omega, by go_num, rfl, HN.out, hB⟩
          case measure => simp [intOf]; omega
    · have hn8 : n = 16 := by omega
      subst hn8
      go_wp2_with fail
      refine (public_any s k (by omega) (by omega) _).mono ?_
      rintro e w3 ⟨p, hp, rfl, hb3⟩
      have HP : Hid (p.data.toList = publicOf s.data.toList k) := hp
      clear hp
      go_wp2_with fail
      refine (myshort_any x (by omega) _).mono ?_
      rintro e w4 ⟨y, hy, rfl, hb4⟩
      have hyp : y = p := ba_ext _ _ (by rw [hy, HX.out, HP.out]; rfl)
      subst hyp
      clear hy
      go_wp2_with fail
      refine (awake_any _).mono ?_
      rintro e w5 ⟨rfl, hb5⟩
      go_wp2
      go_ret
      exact ⟨rfl, below_then (below_then (below_then hb hb3) hb4) hb5⟩

set_option maxRecDepth 10000 in
set_option maxHeartbeats 400000 in
theorem pieces_any (s : ByteArray) (key : Int) (m : ByteArray) (hsm : s.size ≤ maxLen) (_ : (Lit.int .i64 key).wf = true) (hmm : m.size ≤ maxLen) (w : World) :
    Calls Try.prog 6 #[.string s, .int .i64 key, .string m] w fun e w' => e = .returned (.bool true) ∧ Below w.heap.size w w' := by
  unfold maxLen at hsm hmm
  by_cases hbig : 200 < s.size
  · have hbig' : (200 : Int) < (s.size : Int) := by omega
    go_enter Try.func6, Try.ntmps6
    go_wp2_with (go_at_call 8; refine (awake_any _).mono ?_; rintro e w1 ⟨rfl, hb1⟩)
    go_ret
    exact ⟨rfl, hb1⟩
  have hsi : ¬ (200 : Int) < (s.size : Int) := by omega
  by_cases hbig2 : 500 < m.size
  · have hbig' : (500 : Int) < (m.size : Int) := by omega
    go_enter Try.func6, Try.ntmps6
    go_wp2_with (go_at_call 8; refine (awake_any _).mono ?_; rintro e w1 ⟨rfl, hb1⟩)
    go_ret
    exact ⟨rfl, hb1⟩
  exact pieces_in s key m (by omega) (by omega) w

end Go.Proofs.Ytobgkmecdllbiaa
