/-
  Chapter 5's own answers: Path.
-/
import Derived.Test.YthoimecljfcjmaaZ40
namespace Go.Proofs.Ythoimecljfcjmaa
open Go.RowKit

abbrev gp1 : Oper := { dst := some 21, op := Op.move (Operand.tmp 1), type := 22, pos := "ref.go:82", after := #[], guard := none }
abbrev gp2 : Oper := { dst := some 22, op := Op.move (Operand.tmp 5), type := 3, pos := "ref.go:82", after := #[], guard := none }
abbrev gp3 : Oper := { dst := some 23, op := Op.indexAddr 22 (Operand.tmp 21) (Operand.tmp 22), type := 0, pos := "ref.go:82", after := #[{ on := 0, ground := Ground.data }, { on := 1, ground := Ground.data }], guard := none }
abbrev gp4 : Oper := { dst := some 24, op := Op.load 3 (Operand.tmp 23), type := 3, pos := "ref.go:82", after := #[{ on := 2, ground := Ground.data }], guard := none }
abbrev gp5 : Oper := { dst := some 25, op := Op.binOp BinOp.lss 3 (Operand.tmp 24) (Operand.const (Value.int IntKind.i64 0)) 3, type := 4, pos := "ref.go:82", after := #[{ on := 3, ground := Ground.data }], guard := none }
abbrev gp6 : Oper := { dst := some 26, op := Op.move (Operand.tmp 25), type := 4, pos := "ref.go:82", after := #[{ on := 4, ground := Ground.data }], guard := none }
abbrev gp7 : Oper := { dst := some 27, op := Op.move (Operand.tmp 1), type := 22, pos := "ref.go:82", after := #[{ on := 5, ground := Ground.guard }], guard := some (5, false) }
abbrev gp8 : Oper := { dst := some 28, op := Op.move (Operand.tmp 5), type := 3, pos := "ref.go:82", after := #[{ on := 5, ground := Ground.guard }], guard := some (5, false) }
abbrev gp9 : Oper := { dst := some 29, op := Op.indexAddr 22 (Operand.tmp 27) (Operand.tmp 28), type := 0, pos := "ref.go:82", after := #[{ on := 6, ground := Ground.data }, { on := 7, ground := Ground.data }, { on := 5, ground := Ground.guard }], guard := some (5, false) }
abbrev gp10 : Oper := { dst := some 30, op := Op.load 3 (Operand.tmp 29), type := 3, pos := "ref.go:82", after := #[{ on := 8, ground := Ground.data }, { on := 5, ground := Ground.guard }], guard := some (5, false) }
abbrev gp11 : Oper := { dst := some 31, op := Op.fieldAddr 27 (Operand.tmp 2) 1, type := 0, pos := "ref.go:82", after := #[{ on := 5, ground := Ground.guard }], guard := some (5, false) }
abbrev gp12 : Oper := { dst := some 32, op := Op.load 23 (Operand.tmp 31), type := 23, pos := "ref.go:82", after := #[{ on := 10, ground := Ground.data }, { on := 5, ground := Ground.guard }], guard := some (5, false) }
abbrev gp13 : Oper := { dst := some 33, op := Op.call { callee := Callee.builtin Builtin.len, args := #[Operand.tmp 32], argTypes := #[23] }, type := 3, pos := "ref.go:82", after := #[{ on := 11, ground := Ground.data }, { on := 5, ground := Ground.guard }], guard := some (5, false) }
abbrev gp14 : Oper := { dst := some 34, op := Op.binOp BinOp.geq 3 (Operand.tmp 30) (Operand.tmp 33) 3, type := 4, pos := "ref.go:82", after := #[{ on := 9, ground := Ground.data }, { on := 12, ground := Ground.data }, { on := 5, ground := Ground.guard }], guard := some (5, false) }
abbrev gp15 : Oper := { dst := some 35, op := Op.pick (Operand.tmp 26) (Operand.const (Value.bool true)) (Operand.tmp 34), type := 4, pos := "ref.go:82", after := #[{ on := 5, ground := Ground.data }, { on := 13, ground := Ground.data }], guard := none }
abbrev gp16 : Oper := { dst := some 36, op := Op.move (Operand.tmp 35), type := 4, pos := "ref.go:82", after := #[{ on := 14, ground := Ground.data }, { on := 5, ground := Ground.chain }], guard := none }
abbrev gp17 : Oper := { dst := some 37, op := Op.move (Operand.tmp 5), type := 3, pos := "ref.go:82", after := #[{ on := 15, ground := Ground.guard }], guard := some (15, false) }
abbrev gp18 : Oper := { dst := some 38, op := Op.binOp BinOp.gtr 3 (Operand.tmp 37) (Operand.const (Value.int IntKind.i64 0)) 3, type := 4, pos := "ref.go:82", after := #[{ on := 16, ground := Ground.data }, { on := 15, ground := Ground.guard }], guard := some (15, false) }
abbrev gp19 : Oper := { dst := some 39, op := Op.move (Operand.tmp 38), type := 4, pos := "ref.go:82", after := #[{ on := 17, ground := Ground.data }, { on := 15, ground := Ground.chain }, { on := 15, ground := Ground.guard }], guard := some (15, false) }
abbrev gp20 : Oper := { dst := some 40, op := Op.load 27 (Operand.tmp 2), type := 27, pos := "ref.go:82", after := #[{ on := 18, ground := Ground.guard }], guard := some (18, true) }
abbrev gp21 : Oper := { dst := some 41, op := Op.move (Operand.tmp 1), type := 22, pos := "ref.go:82", after := #[{ on := 18, ground := Ground.guard }], guard := some (18, true) }
abbrev gp22 : Oper := { dst := some 42, op := Op.move (Operand.tmp 5), type := 3, pos := "ref.go:82", after := #[{ on := 18, ground := Ground.guard }], guard := some (18, true) }
abbrev gp23 : Oper := { dst := some 43, op := Op.binOp BinOp.sub 3 (Operand.tmp 42) (Operand.const (Value.int IntKind.i64 1)) 3, type := 3, pos := "ref.go:82", after := #[{ on := 21, ground := Ground.data }, { on := 18, ground := Ground.guard }], guard := some (18, true) }
abbrev gp24 : Oper := { dst := some 44, op := Op.indexAddr 22 (Operand.tmp 41) (Operand.tmp 43), type := 0, pos := "ref.go:82", after := #[{ on := 20, ground := Ground.data }, { on := 22, ground := Ground.data }, { on := 18, ground := Ground.guard }], guard := some (18, true) }
abbrev gp25 : Oper := { dst := some 45, op := Op.load 3 (Operand.tmp 44), type := 3, pos := "ref.go:82", after := #[{ on := 23, ground := Ground.data }, { on := 18, ground := Ground.guard }], guard := some (18, true) }
abbrev gp26 : Oper := { dst := some 46, op := Op.move (Operand.tmp 1), type := 22, pos := "ref.go:82", after := #[{ on := 18, ground := Ground.guard }], guard := some (18, true) }
abbrev gp27 : Oper := { dst := some 47, op := Op.move (Operand.tmp 5), type := 3, pos := "ref.go:82", after := #[{ on := 18, ground := Ground.guard }], guard := some (18, true) }
abbrev gp28 : Oper := { dst := some 48, op := Op.indexAddr 22 (Operand.tmp 46) (Operand.tmp 47), type := 0, pos := "ref.go:82", after := #[{ on := 25, ground := Ground.data }, { on := 26, ground := Ground.data }, { on := 18, ground := Ground.guard }], guard := some (18, true) }
abbrev gp29 : Oper := { dst := some 49, op := Op.load 3 (Operand.tmp 48), type := 3, pos := "ref.go:82", after := #[{ on := 27, ground := Ground.data }, { on := 18, ground := Ground.guard }], guard := some (18, true) }
abbrev gp30 : Oper := { dst := some 50, op := Op.call { callee := Callee.value (Operand.func 35), args := #[Operand.tmp 40, Operand.tmp 45, Operand.tmp 49], argTypes := #[27, 3, 3] }, type := 4, pos := "ref.go:82", after := #[{ on := 19, ground := Ground.data }, { on := 24, ground := Ground.data }, { on := 28, ground := Ground.data }, { on := 18, ground := Ground.chain }, { on := 18, ground := Ground.guard }], guard := some (18, true) }
abbrev gp31 : Oper := { dst := some 51, op := Op.unOp UnOp.not 4 (Operand.tmp 50), type := 4, pos := "ref.go:82", after := #[{ on := 29, ground := Ground.data }, { on := 18, ground := Ground.guard }], guard := some (18, true) }
abbrev gp32 : Oper := { dst := some 52, op := Op.pick (Operand.tmp 39) (Operand.tmp 51) (Operand.const (Value.bool false)), type := 4, pos := "ref.go:82", after := #[{ on := 18, ground := Ground.data }, { on := 30, ground := Ground.data }, { on := 15, ground := Ground.guard }], guard := some (15, false) }
abbrev gp33 : Oper := { dst := some 53, op := Op.pick (Operand.tmp 36) (Operand.const (Value.bool true)) (Operand.tmp 52), type := 4, pos := "ref.go:82", after := #[{ on := 15, ground := Ground.data }, { on := 31, ground := Ground.data }], guard := none }

set_option maxRecDepth 10000 in
set_option maxHeartbeats 4000000 in
theorem rpath_any {w : World} {v : Value} {s : SpecM} (hv : SpecW w v s) {al : Option Addr} {cl : Nat} {l : List Int} (hl : Ints w al l.length l) :
    Calls Try.prog 16 #[v, .slice al l.length cl] w fun e w' => e = .returned (.bool (told (pathOk s l))) ∧ Below w.heap.size w w' := by
  obtain ⟨cs, rfl, h7⟩ := hv.seven
  obtain ⟨g, hg⟩ : ∃ g, w.heap.size = g := ⟨_, rfl⟩
  obtain ⟨r, hr⟩ : ∃ r, told (pathOk s l) = r := ⟨_, rfl⟩
  rw [hr]
  replace hr := hide hr
  obtain ⟨n, hn⟩ : ∃ n, l.length = n := ⟨_, rfl⟩
  rw [hn] at hl ⊢
  replace hn := hide hn
  have hnm := hl.2.1
  unfold maxLen at hnm
  have HC := fun W (h : Below w.heap.size w W) => refcheck_any (hv.below h).toV
  have HI : Hid (∀ W, Below g w W → ∀ x y, Calls Try.prog 35 #[.agg cs, .int .i64 x, .int .i64 y] W fun e w' => e = .returned (.bool (told (arcM s.arcs x y))) ∧ Below W.heap.size W w') := fun W hW x y => rarc_any (hv.below (by rw [hg]; exact hW)) x y
  have HX : Hid (∀ W, SvAt W g cs → ∃ a1 k1, W.cell? ⟨g, 1, none⟩ = some (.slice a1 s.parties.length k1)) := fun W hW => by
    obtain ⟨a1, a2, a3, a4, k1, k2, k3, k4, hcs, _⟩ := hv
    injection hcs with hcs
    have h9 : W.heap[g]? = some (.cells (cells7 a1 a2 a3 a4 k1 k2 k3 k4 s) 27 (0, 0)) := by rw [← hcs]; exact hW
    exact ⟨_, _, (cells7_at h9).2.1⟩
  replace HC := hide HC
  replace hl := hide hl
  clear hv
  go_enter Try.func16, Try.ntmps16
  go_wp2_with (first
    | ((with_reducible refine wpList_at ?_); refine wpList_boxv (by rfl) 27 (.tmp 0) (by rfl) _ (by rfl) ?_; rw [hg]; intro w1 hu1 hz1 hb1; have hx1 : SvAt w1 g cs := hu1; clear hu1)
    | ((with_reducible refine wpList_at ?_); refine wpList_loadV (by rfl) (.tmp 2) (by rfl) _ cs (by rfl) hx1 h7 ?_))
  refine (HC.out _ (by rw [hg]; exact hb1)).mono ?_
  rintro e w2 ⟨rfl, hb2⟩
  have hx2 := hx1.below hb2
  have hB2 : Below g w w2 := hb1.trans (hb2.mono (by omega))
  clear hz1 hx1 HC hb1 hb2
  by_cases hok : specOk s
  · rw [told_yes hok]
    by_cases h0 : n = 0
    · have h0' : ((n : Int) == 0) = true := by rw [h0]; rfl
      have hf : Hid (r = false) := by show _ = _; rw [← hr.out]; exact told_no (fun k => by have := k.2.1; rw [hn.out] at this; omega)
      clear h0 hok
      go_wp2
      go_ret
      exact ⟨ret_bool hf.out.symm, by rw [hg]; exact hB2⟩
    · have h0' : ((n : Int) == 0) = false := by rw [beq_eq_false_iff_ne]; omega
      have hp6 := (ok_parts hok).2.1
      obtain ⟨np, hnp⟩ : ∃ np, s.parties.length = np := ⟨_, rfl⟩
      rw [hnp] at hp6 HX
      replace hnp := hide hnp
      replace hok := hide hok
      go_wp2_with fail
      go_loopw [5] (fun i wr => ∃ k : Nat, k ≤ n ∧ i = .int .i64 k ∧ Hid (∀ j, j < k → stepOk s l j) ∧ SvAt wr g cs ∧ Below g w wr) (fun i _ => n - (intOf i).toNat)
      case atStart => exact ⟨0, by omega, rfl, fun j hj => absurd hj (by omega), hx2, hB2⟩
      case round =>
        clear hx2 hB2
        obtain ⟨k, hk, rfl, HD, hx, hB⟩ := hrel
        by_cases hlt : k < n
        · have k1' : (k : Int) < (n : Int) := by omega
          obtain ⟨bl, ol, rfl, d1⟩ := (hl.out.below (w' := wr) (by rw [hg]; exact hB)).2.2.2 k hlt
          obtain ⟨x, hxl⟩ : ∃ x, l.getD k 0 = x := ⟨_, rfl⟩
          rw [hxl] at d1
          obtain ⟨pa, pc, c1⟩ := HX.out _ hx
          have hno : Hid (¬ stepOk s l k → r = false) := fun h => by rw [← hr.out]; exact path_no k (by rw [hn.out]; exact hlt) h
          replace hxl := hide hxl
          by_cases hx0 : x < 0
          · have hf : Hid (r = false) := hno.out (fun h => by have := h.1.1; rw [hxl.out] at this; omega)
            go_upto_region 6 with fail
            have hRw : Below wr.heap.size wr wr.drew := ⟨rfl, rfl, rfl, Nat.le_refl _, fun _ _ => rfl⟩
            refine wp_region_held_drew (S := fun W => Below wr.heap.size wr W) (by kernel_rfl) hRw (fun hHeld => ?_)
            refine tkH 0 gp1 ?_ rfl (by kernel_rfl) (fun _ _ _ h => h) (by rfl) ‹_› ?_ ?_
            rotate_left
            · intro W hSW; first | (go_simp; done) | (go_simp; with_reducible rfl)
            try simp only [Act.put, pA, pB, pC]
            refine tkH 1 gp2 ?_ rfl (by kernel_rfl) (fun _ _ _ h => h) (by rfl) ‹_› ?_ ?_
            rotate_left
            · intro W hSW; first | (go_simp; done) | (go_simp; with_reducible rfl)
            try simp only [Act.put, pA, pB, pC]
            refine tkH 2 gp3 ?_ rfl (by kernel_rfl) (fun _ _ _ h => h) (by rfl) ‹_› ?_ ?_
            rotate_left
            · intro W hSW; first | (go_simp; done) | (go_simp; with_reducible rfl)
            try simp only [Act.put, pA, pB, pC]
            refine tkH 3 gp4 ?_ rfl (by kernel_rfl) (fun _ _ _ h => h) (by rfl) ‹_› ?_ ?_
            rotate_left
            · intro W hSW; have z0 := cell_on hSW d1; first | (go_simp; done) | (go_simp; with_reducible rfl)
            try simp only [Act.put, pA, pB, pC]
            refine tkH 4 gp5 (.bool true) rfl (by kernel_rfl) (fun _ _ _ h => h) (by rfl) ‹_› ?_ ?_
            · intro W hSW; first | (go_simp; done) | (go_simp; with_reducible rfl)
            try simp only [Act.put, pA, pB, pC]
            refine tkH 5 gp6 ?_ rfl (by kernel_rfl) (fun _ _ _ h => h) (by rfl) ‹_› ?_ ?_
            rotate_left
            · intro W hSW; first | (go_simp; done) | (go_simp; with_reducible rfl)
            try simp only [Act.put, pA, pB, pC]
            refine tkO 6 gp7 rfl (by kernel_rfl) (fun _ _ _ h => h) (by rfl) ‹_› ?_
            try simp only [Act.put, pA, pB, pC]
            refine tkO 7 gp8 rfl (by kernel_rfl) (fun _ _ _ h => h) (by rfl) ‹_› ?_
            try simp only [Act.put, pA, pB, pC]
            refine tkO 8 gp9 rfl (by kernel_rfl) (fun _ _ _ h => h) (by rfl) ‹_› ?_
            try simp only [Act.put, pA, pB, pC]
            refine tkO 9 gp10 rfl (by kernel_rfl) (fun _ _ _ h => h) (by rfl) ‹_› ?_
            try simp only [Act.put, pA, pB, pC]
            refine tkO 10 gp11 rfl (by kernel_rfl) (fun _ _ _ h => h) (by rfl) ‹_› ?_
            try simp only [Act.put, pA, pB, pC]
            refine tkO 11 gp12 rfl (by kernel_rfl) (fun _ _ _ h => h) (by rfl) ‹_› ?_
            try simp only [Act.put, pA, pB, pC]
            refine tkO 12 gp13 rfl (by kernel_rfl) (fun _ _ _ h => h) (by rfl) ‹_› ?_
            try simp only [Act.put, pA, pB, pC]
            refine tkO 13 gp14 rfl (by kernel_rfl) (fun _ _ _ h => h) (by rfl) ‹_› ?_
            try simp only [Act.put, pA, pB, pC]
            refine tkH 14 gp15 ?_ rfl (by kernel_rfl) (fun _ _ _ h => h) (by rfl) ‹_› ?_ ?_
            rotate_left
            · intro W hSW; first | (go_simp; done) | (go_simp; with_reducible rfl)
            try simp only [Act.put, pA, pB, pC]
            refine tkH 15 gp16 ?_ rfl (by kernel_rfl) (fun _ _ _ h => h) (by rfl) ‹_› ?_ ?_
            rotate_left
            · intro W hSW; first | (go_simp; done) | (go_simp; with_reducible rfl)
            try simp only [Act.put, pA, pB, pC]
            refine tkO 16 gp17 rfl (by kernel_rfl) (fun _ _ _ h => h) (by rfl) ‹_› ?_
            try simp only [Act.put, pA, pB, pC]
            refine tkO 17 gp18 rfl (by kernel_rfl) (fun _ _ _ h => h) (by rfl) ‹_› ?_
            try simp only [Act.put, pA, pB, pC]
            refine tkO 18 gp19 rfl (by kernel_rfl) (fun _ _ _ h => h) (by rfl) ‹_› ?_
            try simp only [Act.put, pA, pB, pC]
            refine tkO 19 gp20 rfl (by kernel_rfl) (fun _ _ _ h => h) (by rfl) ‹_› ?_
            try simp only [Act.put, pA, pB, pC]
            refine tkO 20 gp21 rfl (by kernel_rfl) (fun _ _ _ h => h) (by rfl) ‹_› ?_
            try simp only [Act.put, pA, pB, pC]
            refine tkO 21 gp22 rfl (by kernel_rfl) (fun _ _ _ h => h) (by rfl) ‹_› ?_
            try simp only [Act.put, pA, pB, pC]
            refine tkO 22 gp23 rfl (by kernel_rfl) (fun _ _ _ h => h) (by rfl) ‹_› ?_
            try simp only [Act.put, pA, pB, pC]
            refine tkO 23 gp24 rfl (by kernel_rfl) (fun _ _ _ h => h) (by rfl) ‹_› ?_
            try simp only [Act.put, pA, pB, pC]
            refine tkO 24 gp25 rfl (by kernel_rfl) (fun _ _ _ h => h) (by rfl) ‹_› ?_
            try simp only [Act.put, pA, pB, pC]
            refine tkO 25 gp26 rfl (by kernel_rfl) (fun _ _ _ h => h) (by rfl) ‹_› ?_
            try simp only [Act.put, pA, pB, pC]
            refine tkO 26 gp27 rfl (by kernel_rfl) (fun _ _ _ h => h) (by rfl) ‹_› ?_
            try simp only [Act.put, pA, pB, pC]
            refine tkO 27 gp28 rfl (by kernel_rfl) (fun _ _ _ h => h) (by rfl) ‹_› ?_
            try simp only [Act.put, pA, pB, pC]
            refine tkO 28 gp29 rfl (by kernel_rfl) (fun _ _ _ h => h) (by rfl) ‹_› ?_
            try simp only [Act.put, pA, pB, pC]
            refine tkO 29 gp30 rfl (by kernel_rfl) (fun _ _ _ h => h) (by rfl) ‹_› ?_
            try simp only [Act.put, pA, pB, pC]
            refine tkO 30 gp31 rfl (by kernel_rfl) (fun _ _ _ h => h) (by rfl) ‹_› ?_
            try simp only [Act.put, pA, pB, pC]
            refine tkO 31 gp32 rfl (by kernel_rfl) (fun _ _ _ h => h) (by rfl) ‹_› ?_
            try simp only [Act.put, pA, pB, pC]
            refine tkH 32 gp33 ?_ rfl (by kernel_rfl) (fun _ _ _ h => h) (by rfl) ‹_› ?_ ?_
            rotate_left
            · intro W hSW; first | (go_simp; done) | (go_simp; with_reducible rfl)
            try simp only [Act.put, pA, pB, pC]
            refine wpAnyH_done (by kernel_rfl) ?_ _
            have hB9 : Below g w wr.drew := hB.trans (hRw.mono (by have := hx.lt; omega))
            clear hx hB hRw hHeld d1 c1
            go_wp2
            go_ret
            exact ⟨ret_bool hf.out.symm, by rw [hg]; exact hB9⟩
          · have hx0' : 0 ≤ x := by omega
            have hx0d : decide (x < 0) = false := decide_eq_false hx0
            by_cases hx1 : (np : Int) ≤ x
            · have hf : Hid (r = false) := hno.out (fun h => by have := h.1.2; rw [hxl.out, hnp.out] at this; omega)
              have hx1d : decide ((np : Int) ≤ x) = true := decide_eq_true hx1
              clear hx0
              go_upto_region 6 with fail
              have hRw : Below wr.heap.size wr wr.drew := ⟨rfl, rfl, rfl, Nat.le_refl _, fun _ _ => rfl⟩
              refine wp_region_held_drew (S := fun W => Below wr.heap.size wr W) (by kernel_rfl) hRw (fun hHeld => ?_)
              refine tkH 0 gp1 ?_ rfl (by kernel_rfl) (fun _ _ _ h => h) (by rfl) ‹_› ?_ ?_
              rotate_left
              · intro W hSW; first | (go_simp; done) | (go_simp; with_reducible rfl)
              try simp only [Act.put, pA, pB, pC]
              refine tkH 1 gp2 ?_ rfl (by kernel_rfl) (fun _ _ _ h => h) (by rfl) ‹_› ?_ ?_
              rotate_left
              · intro W hSW; first | (go_simp; done) | (go_simp; with_reducible rfl)
              try simp only [Act.put, pA, pB, pC]
              refine tkH 2 gp3 ?_ rfl (by kernel_rfl) (fun _ _ _ h => h) (by rfl) ‹_› ?_ ?_
              rotate_left
              · intro W hSW; first | (go_simp; done) | (go_simp; with_reducible rfl)
              try simp only [Act.put, pA, pB, pC]
              refine tkH 3 gp4 ?_ rfl (by kernel_rfl) (fun _ _ _ h => h) (by rfl) ‹_› ?_ ?_
              rotate_left
              · intro W hSW; have z0 := cell_on hSW d1; have z1 := cell_on hSW c1; first | (go_simp; done) | (go_simp; with_reducible rfl)
              try simp only [Act.put, pA, pB, pC]
              refine tkH 4 gp5 (.bool false) rfl (by kernel_rfl) (fun _ _ _ h => h) (by rfl) ‹_› ?_ ?_
              · intro W hSW; first | (go_simp; done) | (go_simp; with_reducible rfl)
              try simp only [Act.put, pA, pB, pC]
              refine tkH 5 gp6 ?_ rfl (by kernel_rfl) (fun _ _ _ h => h) (by rfl) ‹_› ?_ ?_
              rotate_left
              · intro W hSW; first | (go_simp; done) | (go_simp; with_reducible rfl)
              try simp only [Act.put, pA, pB, pC]
              refine tkH 6 gp7 ?_ rfl (by kernel_rfl) (fun _ _ _ h => h) (by rfl) ‹_› ?_ ?_
              rotate_left
              · intro W hSW; first | (go_simp; done) | (go_simp; with_reducible rfl)
              try simp only [Act.put, pA, pB, pC]
              refine tkH 7 gp8 ?_ rfl (by kernel_rfl) (fun _ _ _ h => h) (by rfl) ‹_› ?_ ?_
              rotate_left
              · intro W hSW; first | (go_simp; done) | (go_simp; with_reducible rfl)
              try simp only [Act.put, pA, pB, pC]
              refine tkH 8 gp9 ?_ rfl (by kernel_rfl) (fun _ _ _ h => h) (by rfl) ‹_› ?_ ?_
              rotate_left
              · intro W hSW; first | (go_simp; done) | (go_simp; with_reducible rfl)
              try simp only [Act.put, pA, pB, pC]
              refine tkH 9 gp10 ?_ rfl (by kernel_rfl) (fun _ _ _ h => h) (by rfl) ‹_› ?_ ?_
              rotate_left
              · intro W hSW; have z0 := cell_on hSW d1; have z1 := cell_on hSW c1; first | (go_simp; done) | (go_simp; with_reducible rfl)
              try simp only [Act.put, pA, pB, pC]
              refine tkH 10 gp11 ?_ rfl (by kernel_rfl) (fun _ _ _ h => h) (by rfl) ‹_› ?_ ?_
              rotate_left
              · intro W hSW; first | (go_simp; done) | (go_simp; with_reducible rfl)
              try simp only [Act.put, pA, pB, pC]
              refine tkH 11 gp12 ?_ rfl (by kernel_rfl) (fun _ _ _ h => h) (by rfl) ‹_› ?_ ?_
              rotate_left
              · intro W hSW; have z0 := cell_on hSW d1; have z1 := cell_on hSW c1; first | (go_simp; done) | (go_simp; with_reducible rfl)
              try simp only [Act.put, pA, pB, pC]
              refine tkH 12 gp13 ?_ rfl (by kernel_rfl) (fun _ _ _ h => h) (by rfl) ‹_› ?_ ?_
              rotate_left
              · intro W hSW; first | (go_simp; done) | (go_simp; with_reducible rfl)
              try simp only [Act.put, pA, pB, pC]
              refine tkH 13 gp14 (.bool true) rfl (by kernel_rfl) (fun _ _ _ h => h) (by rfl) ‹_› ?_ ?_
              · intro W hSW; first | (go_simp; done) | (go_simp; with_reducible rfl)
              try simp only [Act.put, pA, pB, pC]
              refine tkH 14 gp15 ?_ rfl (by kernel_rfl) (fun _ _ _ h => h) (by rfl) ‹_› ?_ ?_
              rotate_left
              · intro W hSW; first | (go_simp; done) | (go_simp; with_reducible rfl)
              try simp only [Act.put, pA, pB, pC]
              refine tkH 15 gp16 ?_ rfl (by kernel_rfl) (fun _ _ _ h => h) (by rfl) ‹_› ?_ ?_
              rotate_left
              · intro W hSW; first | (go_simp; done) | (go_simp; with_reducible rfl)
              try simp only [Act.put, pA, pB, pC]
              refine tkO 16 gp17 rfl (by kernel_rfl) (fun _ _ _ h => h) (by rfl) ‹_› ?_
              try simp only [Act.put, pA, pB, pC]
              refine tkO 17 gp18 rfl (by kernel_rfl) (fun _ _ _ h => h) (by rfl) ‹_› ?_
              try simp only [Act.put, pA, pB, pC]
              refine tkO 18 gp19 rfl (by kernel_rfl) (fun _ _ _ h => h) (by rfl) ‹_› ?_
              try simp only [Act.put, pA, pB, pC]
              refine tkO 19 gp20 rfl (by kernel_rfl) (fun _ _ _ h => h) (by rfl) ‹_› ?_
              try simp only [Act.put, pA, pB, pC]
              refine tkO 20 gp21 rfl (by kernel_rfl) (fun _ _ _ h => h) (by rfl) ‹_› ?_
              try simp only [Act.put, pA, pB, pC]
              refine tkO 21 gp22 rfl (by kernel_rfl) (fun _ _ _ h => h) (by rfl) ‹_› ?_
              try simp only [Act.put, pA, pB, pC]
              refine tkO 22 gp23 rfl (by kernel_rfl) (fun _ _ _ h => h) (by rfl) ‹_› ?_
              try simp only [Act.put, pA, pB, pC]
              refine tkO 23 gp24 rfl (by kernel_rfl) (fun _ _ _ h => h) (by rfl) ‹_› ?_
              try simp only [Act.put, pA, pB, pC]
              refine tkO 24 gp25 rfl (by kernel_rfl) (fun _ _ _ h => h) (by rfl) ‹_› ?_
              try simp only [Act.put, pA, pB, pC]
              refine tkO 25 gp26 rfl (by kernel_rfl) (fun _ _ _ h => h) (by rfl) ‹_› ?_
              try simp only [Act.put, pA, pB, pC]
              refine tkO 26 gp27 rfl (by kernel_rfl) (fun _ _ _ h => h) (by rfl) ‹_› ?_
              try simp only [Act.put, pA, pB, pC]
              refine tkO 27 gp28 rfl (by kernel_rfl) (fun _ _ _ h => h) (by rfl) ‹_› ?_
              try simp only [Act.put, pA, pB, pC]
              refine tkO 28 gp29 rfl (by kernel_rfl) (fun _ _ _ h => h) (by rfl) ‹_› ?_
              try simp only [Act.put, pA, pB, pC]
              refine tkO 29 gp30 rfl (by kernel_rfl) (fun _ _ _ h => h) (by rfl) ‹_› ?_
              try simp only [Act.put, pA, pB, pC]
              refine tkO 30 gp31 rfl (by kernel_rfl) (fun _ _ _ h => h) (by rfl) ‹_› ?_
              try simp only [Act.put, pA, pB, pC]
              refine tkO 31 gp32 rfl (by kernel_rfl) (fun _ _ _ h => h) (by rfl) ‹_› ?_
              try simp only [Act.put, pA, pB, pC]
              refine tkH 32 gp33 ?_ rfl (by kernel_rfl) (fun _ _ _ h => h) (by rfl) ‹_› ?_ ?_
              rotate_left
              · intro W hSW; first | (go_simp; done) | (go_simp; with_reducible rfl)
              try simp only [Act.put, pA, pB, pC]
              refine wpAnyH_done (by kernel_rfl) ?_ _
              have hB9 : Below g w wr.drew := hB.trans (hRw.mono (by have := hx.lt; omega))
              clear hx hB hRw hHeld d1 c1
              go_wp2
              go_ret
              exact ⟨ret_bool hf.out.symm, by rw [hg]; exact hB9⟩
            · have hx1' : x < (np : Int) := by omega
              have hx1d : decide ((np : Int) ≤ x) = false := decide_eq_false hx1
              have hp : Hid (0 ≤ l.getD k 0 ∧ l.getD k 0 < (s.parties.length : Int)) := by rw [hxl.out, hnp.out]; exact ⟨hx0', hx1'⟩
              clear hx0 hx1
              by_cases hk0 : k = 0
              · subst hk0
                replace d1 : wr.cell? ⟨bl, ol, none⟩ = some (.int .i64 x) := d1
                have hs : Hid (stepOk s l 0) := ⟨hp.out, fun j hj => absurd hj (by omega), fun h => absurd h (by omega)⟩
                go_upto_region 6 with fail
                have hRw : Below wr.heap.size wr wr.drew := ⟨rfl, rfl, rfl, Nat.le_refl _, fun _ _ => rfl⟩
                refine wp_region_held_drew (S := fun W => Below wr.heap.size wr W) (by kernel_rfl) hRw (fun hHeld => ?_)
                refine tkH 0 gp1 ?_ rfl (by kernel_rfl) (fun _ _ _ h => h) (by rfl) ‹_› ?_ ?_
                rotate_left
                · intro W hSW; first | (go_simp; done) | (go_simp; with_reducible rfl)
                try simp only [Act.put, pA, pB, pC]
                refine tkH 1 gp2 ?_ rfl (by kernel_rfl) (fun _ _ _ h => h) (by rfl) ‹_› ?_ ?_
                rotate_left
                · intro W hSW; first | (go_simp; done) | (go_simp; with_reducible rfl)
                try simp only [Act.put, pA, pB, pC]
                refine tkH 2 gp3 ?_ rfl (by kernel_rfl) (fun _ _ _ h => h) (by rfl) ‹_› ?_ ?_
                rotate_left
                · intro W hSW; first | (go_simp; done) | (go_simp; with_reducible rfl)
                try simp only [Act.put, pA, pB, pC]
                refine tkH 3 gp4 ?_ rfl (by kernel_rfl) (fun _ _ _ h => h) (by rfl) ‹_› ?_ ?_
                rotate_left
                · intro W hSW; have z0 := cell_on hSW d1; have z1 := cell_on hSW c1; first | (go_simp; done) | (go_simp; with_reducible rfl)
                try simp only [Act.put, pA, pB, pC]
                refine tkH 4 gp5 (.bool false) rfl (by kernel_rfl) (fun _ _ _ h => h) (by rfl) ‹_› ?_ ?_
                · intro W hSW; first | (go_simp; done) | (go_simp; with_reducible rfl)
                try simp only [Act.put, pA, pB, pC]
                refine tkH 5 gp6 ?_ rfl (by kernel_rfl) (fun _ _ _ h => h) (by rfl) ‹_› ?_ ?_
                rotate_left
                · intro W hSW; first | (go_simp; done) | (go_simp; with_reducible rfl)
                try simp only [Act.put, pA, pB, pC]
                refine tkH 6 gp7 ?_ rfl (by kernel_rfl) (fun _ _ _ h => h) (by rfl) ‹_› ?_ ?_
                rotate_left
                · intro W hSW; first | (go_simp; done) | (go_simp; with_reducible rfl)
                try simp only [Act.put, pA, pB, pC]
                refine tkH 7 gp8 ?_ rfl (by kernel_rfl) (fun _ _ _ h => h) (by rfl) ‹_› ?_ ?_
                rotate_left
                · intro W hSW; first | (go_simp; done) | (go_simp; with_reducible rfl)
                try simp only [Act.put, pA, pB, pC]
                refine tkH 8 gp9 ?_ rfl (by kernel_rfl) (fun _ _ _ h => h) (by rfl) ‹_› ?_ ?_
                rotate_left
                · intro W hSW; first | (go_simp; done) | (go_simp; with_reducible rfl)
                try simp only [Act.put, pA, pB, pC]
                refine tkH 9 gp10 ?_ rfl (by kernel_rfl) (fun _ _ _ h => h) (by rfl) ‹_› ?_ ?_
                rotate_left
                · intro W hSW; have z0 := cell_on hSW d1; have z1 := cell_on hSW c1; first | (go_simp; done) | (go_simp; with_reducible rfl)
                try simp only [Act.put, pA, pB, pC]
                refine tkH 10 gp11 ?_ rfl (by kernel_rfl) (fun _ _ _ h => h) (by rfl) ‹_› ?_ ?_
                rotate_left
                · intro W hSW; first | (go_simp; done) | (go_simp; with_reducible rfl)
                try simp only [Act.put, pA, pB, pC]
                refine tkH 11 gp12 ?_ rfl (by kernel_rfl) (fun _ _ _ h => h) (by rfl) ‹_› ?_ ?_
                rotate_left
                · intro W hSW; have z0 := cell_on hSW d1; have z1 := cell_on hSW c1; first | (go_simp; done) | (go_simp; with_reducible rfl)
                try simp only [Act.put, pA, pB, pC]
                refine tkH 12 gp13 ?_ rfl (by kernel_rfl) (fun _ _ _ h => h) (by rfl) ‹_› ?_ ?_
                rotate_left
                · intro W hSW; first | (go_simp; done) | (go_simp; with_reducible rfl)
                try simp only [Act.put, pA, pB, pC]
                refine tkH 13 gp14 (.bool false) rfl (by kernel_rfl) (fun _ _ _ h => h) (by rfl) ‹_› ?_ ?_
                · intro W hSW; first | (go_simp; done) | (go_simp; with_reducible rfl)
                try simp only [Act.put, pA, pB, pC]
                refine tkH 14 gp15 ?_ rfl (by kernel_rfl) (fun _ _ _ h => h) (by rfl) ‹_› ?_ ?_
                rotate_left
                · intro W hSW; first | (go_simp; done) | (go_simp; with_reducible rfl)
                try simp only [Act.put, pA, pB, pC]
                refine tkH 15 gp16 ?_ rfl (by kernel_rfl) (fun _ _ _ h => h) (by rfl) ‹_› ?_ ?_
                rotate_left
                · intro W hSW; first | (go_simp; done) | (go_simp; with_reducible rfl)
                try simp only [Act.put, pA, pB, pC]
                refine tkH 16 gp17 ?_ rfl (by kernel_rfl) (fun _ _ _ h => h) (by rfl) ‹_› ?_ ?_
                rotate_left
                · intro W hSW; first | (go_simp; done) | (go_simp; with_reducible rfl)
                try simp only [Act.put, pA, pB, pC]
                refine tkH 17 gp18 (.bool false) rfl (by kernel_rfl) (fun _ _ _ h => h) (by rfl) ‹_› ?_ ?_
                · intro W hSW; first | (go_simp; done) | (go_simp; with_reducible rfl)
                try simp only [Act.put, pA, pB, pC]
                refine tkH 18 gp19 ?_ rfl (by kernel_rfl) (fun _ _ _ h => h) (by rfl) ‹_› ?_ ?_
                rotate_left
                · intro W hSW; first | (go_simp; done) | (go_simp; with_reducible rfl)
                try simp only [Act.put, pA, pB, pC]
                refine tkO 19 gp20 rfl (by kernel_rfl) (fun _ _ _ h => h) (by rfl) ‹_› ?_
                try simp only [Act.put, pA, pB, pC]
                refine tkO 20 gp21 rfl (by kernel_rfl) (fun _ _ _ h => h) (by rfl) ‹_› ?_
                try simp only [Act.put, pA, pB, pC]
                refine tkO 21 gp22 rfl (by kernel_rfl) (fun _ _ _ h => h) (by rfl) ‹_› ?_
                try simp only [Act.put, pA, pB, pC]
                refine tkO 22 gp23 rfl (by kernel_rfl) (fun _ _ _ h => h) (by rfl) ‹_› ?_
                try simp only [Act.put, pA, pB, pC]
                refine tkO 23 gp24 rfl (by kernel_rfl) (fun _ _ _ h => h) (by rfl) ‹_› ?_
                try simp only [Act.put, pA, pB, pC]
                refine tkO 24 gp25 rfl (by kernel_rfl) (fun _ _ _ h => h) (by rfl) ‹_› ?_
                try simp only [Act.put, pA, pB, pC]
                refine tkO 25 gp26 rfl (by kernel_rfl) (fun _ _ _ h => h) (by rfl) ‹_› ?_
                try simp only [Act.put, pA, pB, pC]
                refine tkO 26 gp27 rfl (by kernel_rfl) (fun _ _ _ h => h) (by rfl) ‹_› ?_
                try simp only [Act.put, pA, pB, pC]
                refine tkO 27 gp28 rfl (by kernel_rfl) (fun _ _ _ h => h) (by rfl) ‹_› ?_
                try simp only [Act.put, pA, pB, pC]
                refine tkO 28 gp29 rfl (by kernel_rfl) (fun _ _ _ h => h) (by rfl) ‹_› ?_
                try simp only [Act.put, pA, pB, pC]
                refine tkO 29 gp30 rfl (by kernel_rfl) (fun _ _ _ h => h) (by rfl) ‹_› ?_
                try simp only [Act.put, pA, pB, pC]
                refine tkO 30 gp31 rfl (by kernel_rfl) (fun _ _ _ h => h) (by rfl) ‹_› ?_
                try simp only [Act.put, pA, pB, pC]
                refine tkH 31 gp32 ?_ rfl (by kernel_rfl) (fun _ _ _ h => h) (by rfl) ‹_› ?_ ?_
                rotate_left
                · intro W hSW; first | (go_simp; done) | (go_simp; with_reducible rfl)
                try simp only [Act.put, pA, pB, pC]
                refine tkH 32 gp33 ?_ rfl (by kernel_rfl) (fun _ _ _ h => h) (by rfl) ‹_› ?_ ?_
                rotate_left
                · intro W hSW; first | (go_simp; done) | (go_simp; with_reducible rfl)
                try simp only [Act.put, pA, pB, pC]
                refine wpAnyH_done (by kernel_rfl) ?_ _
                have hx9 := hx.below hRw
                have hB9 : Below g w wr.drew := hB.trans (hRw.mono (by have := hx.lt; omega))
                clear hx hB hRw hHeld d1 c1
                generalize wr.drew = w9 at hx9 hB9 ⊢
                go_wp2_with fail
                go_loopw [6] (fun i wr => i = .int .i64 0 ∧ wr = w9) (fun i _ => 0)
                case atStart => exact ⟨rfl, rfl⟩
                case round =>
                  obtain ⟨rfl, rfl⟩ := hrel
                  go_wp2_with fail
                  go_roundw
                  case rel => exact ⟨1, by omega, by go_num, fun j hj => by
                    have : j = 0 := by omega
                    subst this; exact hs.out, hx9, hB9⟩
                  case measure => simp [intOf]; omega
              · obtain ⟨q, hq⟩ : ∃ q, k = q + 1 := ⟨k - 1, by omega⟩
                have g0 : 0 < k := by omega
                have hw0 : IntKind.i64.wrap ((k : Int) - 1) = (q : Int) := by rw [wrap_i64 (by omega) (by omega)]; omega
                have hqn : q < n := by omega
                have d2 := (hl.out.below (w' := wr) (by rw [hg]; exact hB)).get q hqn
                obtain ⟨y, hyl⟩ : ∃ y, l.getD q 0 = y := ⟨_, rfl⟩
                rw [hyl] at d2
                have HI3 : Hid (∀ W, Below wr.heap.size wr W → Calls Try.prog 35 #[.agg cs, .int .i64 y, .int .i64 x] W fun e w' => e = .returned (.bool (told (arcM s.arcs y x))) ∧ Below W.heap.size W w') := fun W hW => HI.out W (hB.trans (hW.mono (by have := hx.lt; omega))) y x
                obtain ⟨t, ht⟩ : ∃ t, told (arcM s.arcs y x) = t := ⟨_, rfl⟩
                rw [ht] at HI3
                replace ht := hide ht
                replace hyl := hide hyl
                replace hq := hide hq
                replace hk0 := hide hk0
                go_upto_region 6 with fail
                have hRw : Below wr.heap.size wr wr.drew := ⟨rfl, rfl, rfl, Nat.le_refl _, fun _ _ => rfl⟩
                refine wp_region_held_drew (S := fun W => Below wr.heap.size wr W) (by kernel_rfl) hRw (fun hHeld => ?_)
                refine tkH 0 gp1 ?_ rfl (by kernel_rfl) (fun _ _ _ h => h) (by rfl) ‹_› ?_ ?_
                rotate_left
                · intro W hSW; first | (go_simp; done) | (go_simp; with_reducible rfl)
                try simp only [Act.put, pA, pB, pC]
                refine tkH 1 gp2 ?_ rfl (by kernel_rfl) (fun _ _ _ h => h) (by rfl) ‹_› ?_ ?_
                rotate_left
                · intro W hSW; first | (go_simp; done) | (go_simp; with_reducible rfl)
                try simp only [Act.put, pA, pB, pC]
                refine tkH 2 gp3 ?_ rfl (by kernel_rfl) (fun _ _ _ h => h) (by rfl) ‹_› ?_ ?_
                rotate_left
                · intro W hSW; first | (go_simp; done) | (go_simp; with_reducible rfl)
                try simp only [Act.put, pA, pB, pC]
                refine tkH 3 gp4 ?_ rfl (by kernel_rfl) (fun _ _ _ h => h) (by rfl) ‹_› ?_ ?_
                rotate_left
                · intro W hSW; have z0 := cell_on hSW d1; have z1 := cell_on hSW c1; have z2 := cell_on hSW d2; first | (go_simp; done) | (go_simp; with_reducible rfl)
                try simp only [Act.put, pA, pB, pC]
                refine tkH 4 gp5 (.bool false) rfl (by kernel_rfl) (fun _ _ _ h => h) (by rfl) ‹_› ?_ ?_
                · intro W hSW; first | (go_simp; done) | (go_simp; with_reducible rfl)
                try simp only [Act.put, pA, pB, pC]
                refine tkH 5 gp6 ?_ rfl (by kernel_rfl) (fun _ _ _ h => h) (by rfl) ‹_› ?_ ?_
                rotate_left
                · intro W hSW; first | (go_simp; done) | (go_simp; with_reducible rfl)
                try simp only [Act.put, pA, pB, pC]
                refine tkH 6 gp7 ?_ rfl (by kernel_rfl) (fun _ _ _ h => h) (by rfl) ‹_› ?_ ?_
                rotate_left
                · intro W hSW; first | (go_simp; done) | (go_simp; with_reducible rfl)
                try simp only [Act.put, pA, pB, pC]
                refine tkH 7 gp8 ?_ rfl (by kernel_rfl) (fun _ _ _ h => h) (by rfl) ‹_› ?_ ?_
                rotate_left
                · intro W hSW; first | (go_simp; done) | (go_simp; with_reducible rfl)
                try simp only [Act.put, pA, pB, pC]
                refine tkH 8 gp9 ?_ rfl (by kernel_rfl) (fun _ _ _ h => h) (by rfl) ‹_› ?_ ?_
                rotate_left
                · intro W hSW; first | (go_simp; done) | (go_simp; with_reducible rfl)
                try simp only [Act.put, pA, pB, pC]
                refine tkH 9 gp10 ?_ rfl (by kernel_rfl) (fun _ _ _ h => h) (by rfl) ‹_› ?_ ?_
                rotate_left
                · intro W hSW; have z0 := cell_on hSW d1; have z1 := cell_on hSW c1; have z2 := cell_on hSW d2; first | (go_simp; done) | (go_simp; with_reducible rfl)
                try simp only [Act.put, pA, pB, pC]
                refine tkH 10 gp11 ?_ rfl (by kernel_rfl) (fun _ _ _ h => h) (by rfl) ‹_› ?_ ?_
                rotate_left
                · intro W hSW; first | (go_simp; done) | (go_simp; with_reducible rfl)
                try simp only [Act.put, pA, pB, pC]
                refine tkH 11 gp12 ?_ rfl (by kernel_rfl) (fun _ _ _ h => h) (by rfl) ‹_› ?_ ?_
                rotate_left
                · intro W hSW; have z0 := cell_on hSW d1; have z1 := cell_on hSW c1; have z2 := cell_on hSW d2; first | (go_simp; done) | (go_simp; with_reducible rfl)
                try simp only [Act.put, pA, pB, pC]
                refine tkH 12 gp13 ?_ rfl (by kernel_rfl) (fun _ _ _ h => h) (by rfl) ‹_› ?_ ?_
                rotate_left
                · intro W hSW; first | (go_simp; done) | (go_simp; with_reducible rfl)
                try simp only [Act.put, pA, pB, pC]
                refine tkH 13 gp14 (.bool false) rfl (by kernel_rfl) (fun _ _ _ h => h) (by rfl) ‹_› ?_ ?_
                · intro W hSW; first | (go_simp; done) | (go_simp; with_reducible rfl)
                try simp only [Act.put, pA, pB, pC]
                refine tkH 14 gp15 ?_ rfl (by kernel_rfl) (fun _ _ _ h => h) (by rfl) ‹_› ?_ ?_
                rotate_left
                · intro W hSW; first | (go_simp; done) | (go_simp; with_reducible rfl)
                try simp only [Act.put, pA, pB, pC]
                refine tkH 15 gp16 ?_ rfl (by kernel_rfl) (fun _ _ _ h => h) (by rfl) ‹_› ?_ ?_
                rotate_left
                · intro W hSW; first | (go_simp; done) | (go_simp; with_reducible rfl)
                try simp only [Act.put, pA, pB, pC]
                refine tkH 16 gp17 ?_ rfl (by kernel_rfl) (fun _ _ _ h => h) (by rfl) ‹_› ?_ ?_
                rotate_left
                · intro W hSW; first | (go_simp; done) | (go_simp; with_reducible rfl)
                try simp only [Act.put, pA, pB, pC]
                refine tkH 17 gp18 (.bool true) rfl (by kernel_rfl) (fun _ _ _ h => h) (by rfl) ‹_› ?_ ?_
                · intro W hSW; first | (go_simp; done) | (go_simp; with_reducible rfl)
                try simp only [Act.put, pA, pB, pC]
                refine tkH 18 gp19 ?_ rfl (by kernel_rfl) (fun _ _ _ h => h) (by rfl) ‹_› ?_ ?_
                rotate_left
                · intro W hSW; first | (go_simp; done) | (go_simp; with_reducible rfl)
                try simp only [Act.put, pA, pB, pC]
                refine wpAnyH_take (i := 19) (oi := gp20) (v := .agg cs) rfl (by kernel_rfl) (by kernel_rfl) (by kernel_rfl) (fun _ _ _ h => h) (yields_loadV (by rfl) (.tmp 2) (by rfl) _ cs (by rfl) h7 (fun W hW => hx.below hW)) (by assumption) ?_
                try simp only [Act.put, pA, pB, pC]
                refine tkH 20 gp21 ?_ rfl (by kernel_rfl) (fun _ _ _ h => h) (by rfl) ‹_› ?_ ?_
                rotate_left
                · intro W hSW; first | (go_simp; done) | (go_simp; with_reducible rfl)
                try simp only [Act.put, pA, pB, pC]
                refine tkH 21 gp22 ?_ rfl (by kernel_rfl) (fun _ _ _ h => h) (by rfl) ‹_› ?_ ?_
                rotate_left
                · intro W hSW; first | (go_simp; done) | (go_simp; with_reducible rfl)
                try simp only [Act.put, pA, pB, pC]
                refine tkH 22 gp23 ?_ rfl (by kernel_rfl) (fun _ _ _ h => h) (by rfl) ‹_› ?_ ?_
                rotate_left
                · intro W hSW; first | (go_simp; done) | (go_simp; with_reducible rfl)
                try simp only [Act.put, pA, pB, pC]
                refine tkH 23 gp24 ?_ rfl (by kernel_rfl) (fun _ _ _ h => h) (by rfl) ‹_› ?_ ?_
                rotate_left
                · intro W hSW; first | (go_simp; done) | (go_simp; with_reducible rfl)
                try simp only [Act.put, pA, pB, pC]
                refine tkH 24 gp25 ?_ rfl (by kernel_rfl) (fun _ _ _ h => h) (by rfl) ‹_› ?_ ?_
                rotate_left
                · intro W hSW; have z0 := cell_on hSW d1; have z1 := cell_on hSW c1; have z2 := cell_on hSW d2; first | (go_simp; done) | (go_simp; with_reducible rfl)
                try simp only [Act.put, pA, pB, pC]
                refine tkH 25 gp26 ?_ rfl (by kernel_rfl) (fun _ _ _ h => h) (by rfl) ‹_› ?_ ?_
                rotate_left
                · intro W hSW; first | (go_simp; done) | (go_simp; with_reducible rfl)
                try simp only [Act.put, pA, pB, pC]
                refine tkH 26 gp27 ?_ rfl (by kernel_rfl) (fun _ _ _ h => h) (by rfl) ‹_› ?_ ?_
                rotate_left
                · intro W hSW; first | (go_simp; done) | (go_simp; with_reducible rfl)
                try simp only [Act.put, pA, pB, pC]
                refine tkH 27 gp28 ?_ rfl (by kernel_rfl) (fun _ _ _ h => h) (by rfl) ‹_› ?_ ?_
                rotate_left
                · intro W hSW; first | (go_simp; done) | (go_simp; with_reducible rfl)
                try simp only [Act.put, pA, pB, pC]
                refine tkH 28 gp29 ?_ rfl (by kernel_rfl) (fun _ _ _ h => h) (by rfl) ‹_› ?_ ?_
                rotate_left
                · intro W hSW; have z0 := cell_on hSW d1; have z1 := cell_on hSW c1; have z2 := cell_on hSW d2; first | (go_simp; done) | (go_simp; with_reducible rfl)
                try simp only [Act.put, pA, pB, pC]
                refine wpAnyH_lone (R := fun W => Below wr.heap.size wr W) (i := 29) (oi := gp30) (vi := .bool t) (by kernel_rfl) rfl hRw (fun _ h => h) ?_ ?_
                · intro W hW K hK
                  go_simp
                  refine (HI3.out W hW).mono ?_
                  rintro e W2 ⟨rfl, hb⟩
                  go_wp2_with fail
                  exact hK.out _ (below_then hW hb)
                clear hRw hHeld
                intro W9 hRw hHeld
                try simp only [Act.put, pA, pB, pC]
                refine tkH 30 gp31 ?_ rfl (by kernel_rfl) (fun _ _ _ h => h) (by rfl) ‹_› ?_ ?_
                rotate_left
                · intro W hSW; first | (go_simp; done) | (go_simp; with_reducible rfl)
                try simp only [Act.put, pA, pB, pC]
                refine tkH 31 gp32 ?_ rfl (by kernel_rfl) (fun _ _ _ h => h) (by rfl) ‹_› ?_ ?_
                rotate_left
                · intro W hSW; first | (go_simp; done) | (go_simp; with_reducible rfl)
                try simp only [Act.put, pA, pB, pC]
                refine tkH 32 gp33 ?_ rfl (by kernel_rfl) (fun _ _ _ h => h) (by rfl) ‹_› ?_ ?_
                rotate_left
                · intro W hSW; first | (go_simp; done) | (go_simp; with_reducible rfl)
                try simp only [Act.put, pA, pB, pC]
                refine wpAnyH_done (by kernel_rfl) ?_ _
                have hx9 := hx.below hRw
                have hB9 : Below g w W9 := hB.trans (hRw.mono (by have := hx.lt; omega))
                clear hx hB hRw hHeld d1 d2 c1 HI3
                cases t with
                | false =>
                  have hf : Hid (r = false) := hno.out (fun h => by
                    have h9 := h.2.2 (by have := hk0.out; omega)
                    rw [show k - 1 = q by have := hq.out; omega, hyl.out, hxl.out] at h9
                    have h8 := ht.out
                    rw [told_yes h9] at h8
                    exact Bool.noConfusion h8)
                  go_wp2
                  go_ret
                  exact ⟨ret_bool hf.out.symm, by rw [hg]; exact hB9⟩
                | true =>
                  have harc : Hid (arcM s.arcs (l.getD (k - 1) 0) (l.getD k 0)) := by
                    rw [show k - 1 = q by have := hq.out; omega, hyl.out, hxl.out]; exact (told_iff _).1 ht.out
                  go_wp2_with fail
                  go_loopw [6] (fun i wr => ∃ j : Nat, j ≤ k ∧ i = .int .i64 j ∧ Hid (∀ i, i < j → l.getD i 0 ≠ l.getD k 0) ∧ SvAt wr g cs ∧ Below g w wr) (fun i _ => k - (intOf i).toNat)
                  case atStart => exact ⟨0, by omega, rfl, fun i hi => absurd hi (by omega), hx9, hB9⟩
                  case round =>
                    clear hx9 hB9
                    obtain ⟨j, hj, rfl, HE, hx, hB⟩ := hrel
                    by_cases hjk : j < k
                    · have j1' : (j : Int) < (k : Int) := by omega
                      have hjn : j < n := by omega
                      have j2' : (j : Int) < (n : Int) := by omega
                      have e1 := (hl.out.below (w' := wr) (by rw [hg]; exact hB)).get k hlt
                      have e2 := (hl.out.below (w' := wr) (by rw [hg]; exact hB)).get j hjn
                      rw [hxl.out] at e1
                      obtain ⟨z, hzl⟩ : ∃ z, l.getD j 0 = z := ⟨_, rfl⟩
                      rw [hzl] at e2
                      replace hzl := hide hzl
                      by_cases hzx : z = x
                      · have t0 : (z == x) = true := by rw [hzx]; exact beq_self_eq_true _
                        have hf : Hid (r = false) := hno.out (fun h => h.2.1 j hjk (by rw [hzl.out, hxl.out, hzx]))
                        clear hzx
                        go_wp2
                        go_quiet (fail)
                        go_wp2
                        go_ret
                        exact ⟨ret_bool hf.out.symm, by rw [hg]; exact below_drewN hB _⟩
                      · have t0 : (z == x) = false := by rw [beq_eq_false_iff_ne]; exact hzx
                        replace hzx := hide hzx
                        go_wp2
                        go_quiet (fail)
                        have hx9 := hide (hx.below ((Still.refl wr).drewN nq).on)
                        have hB9 := hide (below_drewN hB nq)
                        generalize wr.drewN nq = w9 at hx9 hB9 ⊢
                        clear e1 e2 hx hB
                        go_wp2_with fail
                        go_roundw
                        case rel => exact ⟨j + 1, by omega, by go_num, fun i hi => by
                          by_cases h : i < j
                          · exact HE.out i h
                          · have : i = j := by omega
                            subst this; rw [hzl.out, hxl.out]; exact hzx.out, hx9.out, hB9.out⟩
                        case measure => simp [intOf]; omega
                    · have j1' : ¬ (j : Int) < (k : Int) := by omega
                      have hs : Hid (stepOk s l k) := ⟨hp.out, fun i hi => HE.out i (by omega), fun _ => harc.out⟩
                      go_wp2_with fail
                      go_roundw
                      case rel => exact ⟨k + 1, by omega, by go_num, fun j hj => by
                        by_cases h : j < k
                        · exact HD.out j h
                        · have : j = k := by omega
                          subst this; exact hs.out, hx, hB⟩
                      case measure => simp [intOf]; omega
        · have k1' : ¬ (k : Int) < (n : Int) := by omega
          have hf : Hid (r = true) := by show _ = _; rw [← hr.out]; exact path_yes hok.out (by rw [hn.out]; omega) (fun i hi => HD.out i (by rw [hn.out] at hi; omega))
          go_wp2
          go_ret
          exact ⟨ret_bool hf.out.symm, hB⟩
  · rw [told_no hok]
    have hf : Hid (r = false) := by show _ = _; rw [← hr.out]; exact told_no (fun k => hok k.1)
    go_wp2
    go_ret
    exact ⟨ret_bool hf.out.symm, by rw [hg]; exact hB2⟩

end Go.Proofs.Ythoimecljfcjmaa
