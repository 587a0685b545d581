/-
  The keys round a ring (plain data).
-/
import Derived.Test.YtccaaaifhiigcaaGreatHkWake
import Derived.Test.YtccaaaifhiigcaaGreatHkVr
import Derived.Test.YtccaaaifhiigcaaGreatZ42
import Derived.Test.YtccaaaifhiigcaaGreatZ35
import Derived.Test.YtccaaaifhiigcaaGreatZ23
namespace Go.Proofs.YtccaaaifhiigcaaGreat
open Go.RowKit

def mkSeed (i : Nat) : ByteArray := ⟨(seedB i).toArray⟩
theorem seed_call (n : Nat) (hn : n < 10) (w : World) : Calls Tryz.prog 26 #[.int .i64 (n : Int)] w fun e w' => e = .returned (.string (mkSeed n)) ∧ w' = w := by
  obtain ⟨d, hd, hs, H⟩ := seed_ex n hn
  have e : d = mkSeed n := by
    apply ByteArray.ext
    rw [← Array.toList_inj, hd]; rfl
  rw [← e]; exact H w
theorem mkSeed_size (n : Nat) : (mkSeed n).size = 5 := rfl
/-- The path round a ring of k behind i steps. -/
def rp (k : Nat) : Nat → List Int
  | 0 => [0]
  | i + 1 => ((k - 1 - i : Nat) : Int) :: rp k i
def KP (k : Nat) (sec : ByteArray) : Nat → HkM
  | 0 => signedM ⟨0, sec, [], []⟩ 0 (mkSeed 0)
  | i + 1 => signedM (KP k sec i) ((k - 1 - i : Nat) : Int) (mkSeed (k - 1 - i))
theorem KP_path (k : Nat) (sec : ByteArray) (i : Nat) : (KP k sec i).path = rp k i := by
  induction i with
  | zero => rfl
  | succ i ih => show _ :: (KP k sec i).path = _; rw [ih]; rfl
theorem rp_len (k i : Nat) : (rp k i).length = i + 1 := by
  induction i with
  | zero => rfl
  | succ i ih => show (rp k i).length + 1 = _; rw [ih]
theorem KP_lock (k : Nat) (sec : ByteArray) (i : Nat) : (KP k sec i).lock = 0 := by
  induction i with
  | zero => rfl
  | succ i ih => exact ih
theorem KP_grown {s : SpecM} (h : BySeeds s) (k : Nat) (hk : s.parties.length = k) (_hk1 : 1 ≤ k) (hl : s.leaders = [0]) (sec : ByteArray) (hsec : sec.data.toList = secretB 0) (i : Nat) (_hi : i ≤ k) : GrownK s (KP k sec i) := by
  induction i with
  | zero => exact GrownK.made h 0 (by rw [hl]; exact Nat.zero_lt_one) sec (mkSeed 0) hsec 0 (by rw [hl]; rfl) rfl
  | succ i ih => exact GrownK.next h (ih (by omega)) (k - 1 - i) (by omega) (mkSeed (k - 1 - i)) rfl
/-- What the kernel reckons of rings. -/
def rpB (k : Nat) : Bool := strongP k (arcsP k 0 2) && fbP k (arcsP k 0 2) [0] && !pathB k (arcsP k 0 2) (rp k k) && (List.range k).all (fun i => pathB k (arcsP k 0 2) (rp k i) && ((rp k i).getD 0 0 == (((k - i) % k : Nat) : Int)) && (((arcsP k 0 2).getD i noArc).dst == (((i + 1) % k : Nat) : Int)))
theorem rp_reckoned (k : Nat) (h2 : 2 ≤ k) (h6 : k ≤ 6) : rpB k = true := by
  have : k = 2 ∨ k = 3 ∨ k = 4 ∨ k = 5 ∨ k = 6 := by omega
  rcases this with rfl | rfl | rfl | rfl | rfl <;> decide +kernel
/-- A ring's facts. -/
theorem ring_facts {s : SpecM} (hok : specOk s) (k : Nat) (h2 : 2 ≤ k) (h6 : k ≤ 6) (hn : s.parties.length = k) (hA : s.arcs = arcsP k 0 2) (hL : s.leaders = [0]) :
    validM s = true ∧ ¬ pathOk s (rp k k) ∧ ∀ i, i < k → pathOk s (rp k i) ∧ (rp k i).getD 0 0 = (((k - i) % k : Nat) : Int) ∧ (s.arcs.getD i noArc).dst = (((i + 1) % k : Nat) : Int) := by
  have h := rp_reckoned k h2 h6
  unfold rpB at h
  rw [Bool.and_eq_true, Bool.and_eq_true, Bool.and_eq_true, List.all_eq_true] at h
  obtain ⟨⟨⟨h1, h3⟩, h4⟩, h5⟩ := h
  refine ⟨by rw [valid_reckoned hok, hn, hA, hL, h1, h3]; rfl, fun hp => ?_, fun i hi => ?_⟩
  · have h9 := path_reckoned hok (rp k k)
    rw [told_yes hp, hn, hA] at h9
    rw [← h9] at h4
    exact Bool.noConfusion h4
  · have h6 := h5 i (List.mem_range.2 hi)
    rw [Bool.and_eq_true, Bool.and_eq_true, beq_iff_eq, beq_iff_eq] at h6
    obtain ⟨⟨h7, h8⟩, h9⟩ := h6
    exact ⟨(told_iff _).1 (by rw [path_reckoned hok, hn, hA]; exact h7), h8, by rw [hA]; exact h9⟩
theorem gives_loadK {ops : Array Oper} {Q : Exit → Act → World → Prop} {R : World → Prop} {o : Oper} {a : Act} (hw : Region.wanted o (yielded ops a.tmps) = true) (x : Operand) (ho : o.op = .load 29 x)
    (g : Nat) (cs : Array Value) (hx : a.eval x = .pointer (some ⟨g, 0, none⟩)) (h4 : cs.size = 4) (hS : ∀ W, R W → HvAt W g cs) : Gives Tryz.prog ops Q R o (.agg cs) a := fun W hW K hK => by
  rw [if_pos hw]
  unfold Oper.wp execOp
  simp only [ho, hx, Instr.loadAt, Instr.sureAddr, Sem.run_bind, Sem.run_pure, Result.andThen_ok, run_loadVar_row W g 29 29 cs (0, 0) (.struct _) (hS W hW) Tryz.underlying29 rfl (by rw [h4]; exact sizeHk)]
  exact hK.out _ hW

end Go.Proofs.YtccaaaifhiigcaaGreat

/-
  Package hashkey: read.
-/
namespace Go.Proofs.YtccaaaifhiigcaaGreat
open Go.RowKit

/-- A key read of bytes, on plain data: the reader behind its parts, how many, the key, the reader's end. -/
def kR1 (l : List UInt8) : List UInt8 × Bool := numS (l, false)
def kR2 (l : List UInt8) : List UInt8 × Bool := txtS (kR1 l) 64
def kN (l : List UInt8) : Nat := (cntV (kR2 l).1 6).toNat
def kR3 (l : List UInt8) : List UInt8 × Bool := cntS (kR2 l) 6
def sig1 (r : List UInt8 × Bool) : ByteArray := mk (txtV r 512)
def sigS (r : List UInt8 × Bool) : List UInt8 × Bool := txtS r 512
def num1 (r : List UInt8 × Bool) : Int := numV r.1
def kR4 (l : List UInt8) : List UInt8 × Bool := itemsS numS (kN l) (kR3 l)
def rdKE (l : List UInt8) : List UInt8 × Bool := itemsS sigS (kN l) (kR4 l)
def rdK (l : List UInt8) : HkM := ⟨numV l, mk (txtV (kR1 l) 64), itemsL num1 numS (kN l) (kR3 l), itemsL sig1 sigS (kN l) (kR4 l)⟩
theorem hvcells {w : World} {g : Nat} {a b c d : Value} (h : HvAt w g #[a, b, c, d]) : (w.cell? ⟨g, 0, none⟩ = some a ∧ w.cell? ⟨g, 1, none⟩ = some b) ∧ w.cell? ⟨g, 2, none⟩ = some c ∧ w.cell? ⟨g, 3, none⟩ = some d := by
  refine ⟨⟨?_, ?_⟩, ?_, ?_⟩ <;> (rw [cell_of_row w g _ _ 29 (0, 0) h]; rfl)

set_option maxRecDepth 10000 in
set_option maxHeartbeats 1000000 in
theorem hkread0_any (x : ByteArray) (hx : x.size ≤ 1099511627776) (w : World) :
    Calls Tryz.prog 27 #[.string x] w fun e w' => ∃ u, e = .returned (.tuple #[u, .bool (told (rdKE x.data.toList = ([], false)))]) ∧ HkO w' w.heap.size u (rdK x.data.toList) ∧ Below w.heap.size w w' := by
  obtain ⟨ok, hok⟩ : ∃ ok, told (rdKE x.data.toList = ([], false)) = ok := ⟨_, rfl⟩
  rw [hok]
  obtain ⟨l, hlx⟩ : ∃ l, x.data.toList = l := ⟨_, rfl⟩
  rw [hlx] at hok
  rw [hlx]
  have hll : l.length ≤ 1099511627776 := by rw [← hlx, len_list]; exact hx
  have HN := hide (fun W => anew_any x l hlx W)
  obtain ⟨K, hK⟩ : ∃ K, rdK l = K := ⟨_, rfl⟩
  obtain ⟨r1, hr1⟩ : ∃ r, kR1 l = r := ⟨_, rfl⟩
  obtain ⟨r2, hr2⟩ : ∃ r, kR2 l = r := ⟨_, rfl⟩
  obtain ⟨r3, hr3⟩ : ∃ r, kR3 l = r := ⟨_, rfl⟩
  obtain ⟨r4, hr4⟩ : ∃ r, kR4 l = r := ⟨_, rfl⟩
  obtain ⟨r5, hr5⟩ : ∃ r, rdKE l = r := ⟨_, rfl⟩
  obtain ⟨n, hn⟩ : ∃ n, kN l = n := ⟨_, rfl⟩
  have l1 : r1.1.length ≤ 1099511627776 := by rw [← hr1]; exact Nat.le_trans (num_le (l, false)) hll
  have l2 : r2.1.length ≤ 1099511627776 := by rw [← hr2]; unfold kR2; rw [hr1]; exact Nat.le_trans (txt_le _ _) l1
  have l3 : r3.1.length ≤ 1099511627776 := by rw [← hr3]; unfold kR3; rw [hr2]; exact Nat.le_trans (cnt_le _ _) l2
  have l4 : r4.1.length ≤ 1099511627776 := by rw [← hr4]; unfold kR4; rw [hr3]; exact Nat.le_trans (itemsS_le _ num_le _ _) l3
  have t0 : numV l = K.lock := by rw [← hK]; rfl
  have t1 : mk (txtV r1 64) = K.secret := by rw [← hK, ← hr1]; rfl
  have t2 : itemsL num1 numS n r3 = K.path := by rw [← hK, ← hr3, ← hn]; rfl
  have t3 : itemsL sig1 sigS n r4 = K.sigs := by rw [← hK, ← hr4, ← hn]; rfl
  have t4 : itemsS numS n r3 = r4 := by rw [← hr4, ← hn, ← hr3]; rfl
  have t5 : itemsS sigS n r4 = r5 := by rw [← hr5, ← hn, ← hr4]; rfl
  have hnc : cntV r2.1 6 = (n : Int) := by rw [← hn, ← hr2]; unfold kN; exact (Int.toNat_of_nonneg (cntV_range _ _).1).symm
  have hn6 : n ≤ 6 := by have := cntV_le r2.1 6 (by omega); omega
  have H0 : Hid (∀ W b, At 110 W b (l, false) → Calls Tryz.prog 64 #[.pointer (some ⟨b, 0, none⟩)] W fun e w' => e = .returned (.int .i64 K.lock) ∧ At 110 w' b r1 ∧ But b W w') := fun W b h => (rnum_any h).mono (by rintro e w' ⟨h1, h2, h3, _⟩; rw [← t0, ← hr1]; exact ⟨h1, h2, h3⟩)
  have H1 : Hid (∀ W b, At 110 W b r1 → Calls Tryz.prog 65 #[.pointer (some ⟨b, 0, none⟩), .int .i64 64] W fun e w' => e = .returned (.string K.secret) ∧ At 110 w' b r2 ∧ But b W w') := fun W b h => by
    have h9 := rtext_any 64 h l1
    rw [← t1, ← hr2]
    unfold kR2
    rw [hr1]
    exact h9
  have H2 : Hid (∀ W b, At 110 W b r2 → Calls Tryz.prog 66 #[.pointer (some ⟨b, 0, none⟩), .int .i64 6] W fun e w' => e = .returned (.int .i64 (n : Int)) ∧ At 110 w' b r3 ∧ But b W w') := fun W b h => (rcount_any 6 h).mono (by
    rintro e w' ⟨h1, h2, h3, _⟩
    rw [hnc] at h1
    refine ⟨h1, ?_, h3⟩
    rw [← hr3]; unfold kR3; rw [hr2]; exact h2)
  have H3 : Hid (∀ (j : Nat) W b, At 110 W b (itemsS numS j r3) → Calls Tryz.prog 64 #[.pointer (some ⟨b, 0, none⟩)] W fun e w' => e = .returned (.int .i64 (num1 (itemsS numS j r3))) ∧ At 110 w' b (itemsS numS (j + 1) r3) ∧ But b W w') := fun j W b h => (rnum_any h).mono (by rintro e w' ⟨h1, h2, h3, _⟩; rw [itemsS_snoc]; exact ⟨h1, h2, h3⟩)
  have H4 : Hid (∀ (j : Nat) W b, At 110 W b (itemsS sigS j r4) → Calls Tryz.prog 65 #[.pointer (some ⟨b, 0, none⟩), .int .i64 512] W fun e w' => e = .returned (.string (sig1 (itemsS sigS j r4))) ∧ At 110 w' b (itemsS sigS (j + 1) r4) ∧ But b W w') := fun j W b h => (rtext_any 512 h (Nat.le_trans (itemsS_le sigS (fun r => txt_le r 512) j r4) l4)).mono (by rintro e w' ⟨h1, h2, h3⟩; rw [itemsS_snoc]; exact ⟨h1, h2, h3⟩)
  have hok5 : Hid (told (r5 = ([], false)) = ok) := by show _ = _; rw [← hr5]; exact hok
  have T2 := hide t2
  have T3 := hide t3
  have T4 := hide t4
  have T5 := hide t5
  rw [hK]
  clear hK hr1 hr2 hr3 hr4 hr5 hn t0 t1 t2 t3 t4 t5 hnc l1 l2 l3 l4 hll hlx hx hok
  have hB1 := (Below.refl w.heap.size w).alloc (Nat.le_refl _) (Obj.cells #[.int .i64 0, .string ⟨#[]⟩, .slice none 0 0, .slice none 0 0] 29)
  have hc1 : HvAt (w.alloc (Obj.cells #[.int .i64 0, .string ⟨#[]⟩, .slice none 0 0, .slice none 0 0] 29)) w.heap.size Z4 := heap_alloc_new _ _
  have hz1 : (w.alloc (Obj.cells #[.int .i64 0, .string ⟨#[]⟩, .slice none 0 0, .slice none 0 0] 29)).heap.size = w.heap.size + 1 := by simp
  replace hB1 := hide hB1
  replace hc1 := hide hc1
  go_enter Tryz.func27, Tryz.ntmps27
  go_upto_region 1 with fail
  generalize w.alloc (Obj.cells #[.int .i64 0, .string ⟨#[]⟩, .slice none 0 0, .slice none 0 0] 29) = w1 at hB1 hc1 hz1 ⊢
  obtain ⟨g, hgg⟩ : ∃ g, w.heap.size = g := ⟨_, rfl⟩
  rw [hgg] at hB1 hc1 hz1 ⊢
  go_wp2_with fail
  refine (HN.out w1).mono ?_
  rintro e w2 ⟨b, rfl, ha2, hb2, hB2⟩
  have hgb : g < b := by omega
  have hat := hide ha2
  have hcs := hide (hc1.out.below hB2 (by omega))
  have hBg := hide (hB1.out.trans (hB2.mono (by omega)))
  have hz2 := hB2.size
  have hs2 : g < w2.heap.size := by omega
  have hbz : b < w2.heap.size := ha2.lt
  clear HN hc1 hB1 ha2 hB2 hz1 hz2 hb2
  go_wp2_with fail
  refine (H0.out _ _ hat.out).mono ?_
  rintro e w3 ⟨rfl, ha3, hb3⟩
  replace hat := hide ha3
  replace hcs := hide (hcs.out.but hb3 (by omega))
  replace hBg := hide (hBg.out.trans (hb3.below (by omega) (by omega)))
  have hs3 := hb3.size
  clear H0 ha3 hb3
  go_wp2_with fail
  refine (H1.out _ _ hat.out).mono ?_
  rintro e w4 ⟨rfl, ha4, hb4⟩
  replace hat := hide ha4
  replace hcs := hide (hcs.out.but hb4 (by omega))
  replace hBg := hide (hBg.out.trans (hb4.below (by omega) (by omega)))
  have hs4 := hb4.size
  clear H1 ha4 hb4
  go_upto_region 3 with fail
  have hB5 := (Below.refl w4.heap.size w4).alloc (Nat.le_refl _) (Obj.cells #[.int .i64 K.lock, .string K.secret, .slice none 0 0, .slice none 0 0] 29)
  have hc5 : HvAt (w4.alloc (Obj.cells #[.int .i64 K.lock, .string K.secret, .slice none 0 0, .slice none 0 0] 29)) w4.heap.size #[.int .i64 K.lock, .string K.secret, .slice none 0 0, .slice none 0 0] := heap_alloc_new _ _
  have hs5 : (w4.alloc (Obj.cells #[.int .i64 K.lock, .string K.secret, .slice none 0 0, .slice none 0 0] 29)).heap.size = w4.heap.size + 1 := by simp
  replace hat := hide (hat.out.below hB5)
  replace hcs := hide (hcs.out.below hB5 (by omega))
  replace hBg := hide (hBg.out.trans (hB5.mono (by omega)))
  replace hc5 := hide hc5
  clear hB5
  generalize w4.alloc (Obj.cells #[.int .i64 K.lock, .string K.secret, .slice none 0 0, .slice none 0 0] 29) = w5 at hat hcs hBg hc5 hs5 ⊢
  obtain ⟨q, hq⟩ : ∃ q, w4.heap.size = q := ⟨_, rfl⟩
  rw [hq] at hc5 hs5 ⊢
  have hgq : g < q := by omega
  have hbq : b < q := by omega
  clear hq hs2 hs3 hs4 hbz
  go_wp2_with fail
  refine (H2.out _ _ hat.out).mono ?_
  rintro e w6 ⟨rfl, ha6, hb6⟩
  replace hat := hide ha6
  replace hcs := hide (hcs.out.but hb6 (by omega))
  replace hc5 := hide (hc5.out.but hb6 (by omega))
  replace hBg := hide (hBg.out.trans (hb6.below (by omega) (by omega)))
  have hs6 : q + 1 ≤ w6.heap.size := by have := hb6.size; omega
  clear H2 ha6 hb6 hs5
  go_wp2
  go_loopw [17] (fun i wr => ∃ (j : Nat) (u : Value), j ≤ n ∧ i = .int .i64 j ∧ Hid (HvAt wr q #[.int .i64 K.lock, .string K.secret, u, .slice none 0 0]) ∧ Hid (wr.ownsRow (q + 1) 3 1 u j ((itemsL num1 numS j r3).map (Value.int .i64))) ∧ Hid (At 110 wr b (itemsS numS j r3)) ∧ Hid (HvAt wr g Z4) ∧ Hid (Below g w wr) ∧ q + 1 ≤ wr.heap.size) (fun i _ => n - (intOf i).toNat)
  case atStart => exact ⟨0, .slice none 0 0, by omega, rfl, hc5, World.ownsRow_nil _ _ _ _, hat, hcs, hBg, hs6⟩
  case round =>
    clear hat hcs hBg hc5 hs6
    obtain ⟨j, u, hj, rfl, hv, hrow, hat, hcs, hBg, hsz⟩ := hrel
    obtain ⟨va, vc, rfl⟩ := row_slice hrow.out
    by_cases hlt : j < n
    · have j1 : (j : Int) < (n : Int) := by omega
      have c1 : wr.cell? ⟨q, 2, none⟩ = some (.slice va j vc) := (hvcells hv.out).2.1
      have f1 : wr.frozen? ⟨q, 2, none⟩ = false := frozen_of_row wr q 2 _ _ hv.out
      obtain ⟨crd, hrd⟩ : ∃ crd, wr.heap[b]? = some (.cells crd 110 (0, 0)) := by obtain ⟨_, _, h⟩ := hat.out; exact ⟨_, h⟩
      obtain ⟨y, hy⟩ : ∃ y, num1 (itemsS numS j r3) = y := ⟨_, rfl⟩
      have HY := hide hy
      have HG0 := H3.out j
      rw [hy] at HG0
      have HG := hide HG0
      have hlt1 := hide (World.ownsRow.lt hrow.out)
      clear hy HG0
      replace hrd := hide hrd
      go_wp2_with fail
      go_region_law (first
        | (refine step_put1 (st := 24) Tryz.underlying24 Tryz.info3 rfl (by decide) (by decide) w7 _ (by rfl) (.tmp 20) (.tmp 23) (by rfl) (q + 1) _ _ _ (by rfl) own7.out (by rfl) rfl (by intro u hu; simp at hu; subst hu; rfl) (by omega) hz7 ?_; intro v8 w8 hown8 hg8; obtain ⟨v8a, v8c, rfl⟩ := row_slice hown8; have hne8 : some q ≠ Value.ownBlock (.slice va j vc) := (fun e => by have := (hlt1.out q e.symm).1; omega); have c8 := hg8.cell c7 hne8; have f8 := grown_frozen hg8 hne8 c7 f7)
        | (go_simp; go_at_call 64; refine (HG.out wr.drew _ hat.out).mono ?_; rintro e w7 ⟨rfl, ha7, hb7⟩; have hv7 := hide (HvAt.but (w := wr.drew) hv.out hb7 (by omega)); have c7 : w7.cell? ⟨q, 2, none⟩ = some (.slice va j vc) := (hvcells hv7.out).2.1; have f7 : w7.frozen? ⟨q, 2, none⟩ = false := frozen_of_row w7 q 2 _ _ hv7.out; have own7 := hide (World.ownsRow.kept (w := wr.drew) hrow.out hb7.grown (row_apart hrow.out hrd.out (by decide))); have hz7 : q + 1 ≤ w7.heap.size := Nat.le_trans hsz hb7.size; have d7 : ∀ o, (w7.alloc o).cell? ⟨q, 2, none⟩ = some (.slice va j vc) := (fun o => cell_on ((Below.refl _ _).alloc (Nat.le_refl _) o) c7); have ha7' := hide ha7; have hb7' := hide hb7; clear ha7 hb7; go_wp2_with fail))
      all_goals
        go_wp2
        go_roundw
        case rel =>
          have hv8 : HvAt w8 q #[.int .i64 K.lock, .string K.secret, (.slice va j vc), .slice none 0 0] := by have h9 := hv7.out; unfold HvAt at h9 ⊢; rw [hg8.block q (Array.getElem?_eq_some_iff.1 h9).1 hne8]; exact h9
          have hset := But.setCell w8 q 2 (.slice v8a (j + 1) v8c)
          have hvS : HvAt (w8.setCell ⟨q, 2, none⟩ (.slice v8a (j + 1) v8c)) q #[.int .i64 K.lock, .string K.secret, (.slice v8a (j + 1) v8c), .slice none 0 0] := by
            unfold HvAt at *
            rw [setCell_eq_setRow w8 q 2 _ _ (0, 0) _ hv8, setRow_heap w8 q _ _ _ (0, 0) hv8]; rfl
          have hR8 : w8.ownsRow (q + 1) 3 1 (.slice v8a (j + 1) v8c) (j + 1) ((itemsL num1 numS (j + 1) r3).map (Value.int .i64)) := by
            rw [itemsL_snoc, List.map_append, HY.out]; exact hown8
          have hgone : ∀ x, x < q → some x ≠ Value.ownBlock (.slice va j vc) := fun x hx e => by have := (hlt1.out x e.symm).1; omega
          have hcs7 : HvAt w7 g Z4 := HvAt.but (w := wr.drew) hcs.out hb7'.out (by omega)
          have hcs8 : HvAt w8 g Z4 := by unfold HvAt at hcs7 ⊢; rw [hg8.block g (Array.getElem?_eq_some_iff.1 hcs7).1 (hgone g hgq)]; exact hcs7
          have hat8 : At 110 w8 b (itemsS numS (j + 1) r3) := by
            obtain ⟨s, hs, hr⟩ := ha7'.out
            refine ⟨s, hs, ?_⟩
            unfold Rd at hr ⊢
            rw [hg8.block b (Array.getElem?_eq_some_iff.1 hr).1 (hgone b hbq)]; exact hr
          have hgw : g < wr.drew.heap.size := hcs.out.lt
          have hB7 : Below g w w7 := (hBg.out.trans (⟨rfl, rfl, rfl, Nat.le_refl _, fun _ _ => rfl⟩ : Below g wr wr.drew)).trans (hb7'.out.below (by omega) (by omega))
          have hB8 : Below g w w8 := hB7.grown hg8 (by omega) (fun x hx => by have := (hlt1.out x hx).1; omega)
          refine ⟨j + 1, _, by omega, by go_num, hvS, World.ownsRow.kept hR8 hset.grown (row_apart hR8 hv8 (by decide)), hat8.but hset (by omega), hcs8.but hset (by omega), hB8.trans (hset.below (by omega) (by have := hcs8.lt; omega)), ?_⟩
          · have h7 := hg8.size
            have h8 := hset.size
            omega
        case measure => simp [intOf]; omega
    · have j1 : ¬ (j : Int) < (n : Int) := by omega
      have hje : n = j := by omega
      subst hje
      obtain ⟨pa, hpa⟩ : ∃ x, x = va := ⟨_, rfl⟩
      obtain ⟨pc, hpc⟩ : ∃ x, x = vc := ⟨_, rfl⟩
      rw [← hpa, ← hpc] at hrow hv
      have hP : Hid (OwnI wr (q + 1) (.slice pa n pc) K.path) := by
        have h9 := hrow.out
        rw [T2.out] at h9
        have hl : K.path.length = n := by rw [← T2.out, itemsL_length]
        show OwnI _ _ _ _
        unfold OwnI
        rw [hl]; exact h9
      have hc5 := hv
      have hs6 := hsz
      rw [T4.out] at hat
      clear hrow hv hsz hpa hpc j1
      go_wp2
      go_loopw [28] (fun i wr => ∃ (j : Nat) (u : Value), j ≤ n ∧ i = .int .i64 j ∧ Hid (HvAt wr q #[.int .i64 K.lock, .string K.secret, .slice pa n pc, u]) ∧ Hid (wr.ownsRow (q + 1) 9 1 u j ((itemsL sig1 sigS j r4).map Value.string)) ∧ Hid (At 110 wr b (itemsS sigS j r4)) ∧ Hid (HvAt wr g Z4) ∧ Hid (Below g w wr) ∧ q + 1 ≤ wr.heap.size ∧ Hid (OwnI wr (q + 1) (.slice pa n pc) K.path)) (fun i _ => n - (intOf i).toNat)
      case atStart => exact ⟨0, .slice none 0 0, by omega, rfl, hc5, World.ownsRow_nil _ _ _ _, hat, hcs, hBg, hs6, hP⟩
      case round =>
        clear hat hcs hBg hc5 hs6 hP
        obtain ⟨j, u, hj, rfl, hv, hrow, hat, hcs, hBg, hsz, hP⟩ := hrel
        obtain ⟨va, vc, rfl⟩ := row_slice hrow.out
        by_cases hlt : j < n
        · have j1 : (j : Int) < (n : Int) := by omega
          have c1 : wr.cell? ⟨q, 3, none⟩ = some (.slice va j vc) := (hvcells hv.out).2.2
          have f1 : wr.frozen? ⟨q, 3, none⟩ = false := frozen_of_row wr q 3 _ _ hv.out
          obtain ⟨crd, hrd⟩ : ∃ crd, wr.heap[b]? = some (.cells crd 110 (0, 0)) := by obtain ⟨_, _, h⟩ := hat.out; exact ⟨_, h⟩
          obtain ⟨y, hy⟩ : ∃ y, sig1 (itemsS sigS j r4) = y := ⟨_, rfl⟩
          have HY := hide hy
          have HG0 := H4.out j
          rw [hy] at HG0
          have HG := hide HG0
          have hlt1 := hide (World.ownsRow.lt hrow.out)
          clear hy HG0
          replace hrd := hide hrd
          go_wp2_with fail
          go_region_law (first
            | (refine step_put1 (st := 25) Tryz.underlying25 Tryz.info9 rfl (by decide) (by decide) w7 _ (by rfl) (.tmp 31) (.tmp 34) (by rfl) (q + 1) _ _ _ (by rfl) own7.out (by rfl) rfl (by intro u hu; simp at hu; subst hu; rfl) (by omega) hz7 ?_; intro v8 w8 hown8 hg8; obtain ⟨v8a, v8c, rfl⟩ := row_slice hown8; have hne8 : some q ≠ Value.ownBlock (.slice va j vc) := (fun e => by have := (hlt1.out q e.symm).1; omega); have c8 := hg8.cell c7 hne8; have f8 := grown_frozen hg8 hne8 c7 f7)
            | (go_simp; go_at_call 65; refine (HG.out wr.drew _ hat.out).mono ?_; rintro e w7 ⟨rfl, ha7, hb7⟩; have hv7 := hide (HvAt.but (w := wr.drew) hv.out hb7 (by omega)); have c7 : w7.cell? ⟨q, 3, none⟩ = some (.slice va j vc) := (hvcells hv7.out).2.2; have f7 : w7.frozen? ⟨q, 3, none⟩ = false := frozen_of_row w7 q 3 _ _ hv7.out; have own7 := hide (World.ownsRow.kept (w := wr.drew) hrow.out hb7.grown (row_apart hrow.out hrd.out (by decide))); have hz7 : q + 1 ≤ w7.heap.size := Nat.le_trans hsz hb7.size; have d7 : ∀ o, (w7.alloc o).cell? ⟨q, 3, none⟩ = some (.slice va j vc) := (fun o => cell_on ((Below.refl _ _).alloc (Nat.le_refl _) o) c7); have ha7' := hide ha7; have hb7' := hide hb7; clear ha7 hb7; go_wp2_with fail))
          all_goals
            go_wp2
            go_roundw
            case rel =>
              have hv8 : HvAt w8 q #[.int .i64 K.lock, .string K.secret, .slice pa n pc, (.slice va j vc)] := by have h9 := hv7.out; unfold HvAt at h9 ⊢; rw [hg8.block q (Array.getElem?_eq_some_iff.1 h9).1 hne8]; exact h9
              have hset := But.setCell w8 q 3 (.slice v8a (j + 1) v8c)
              have hvS : HvAt (w8.setCell ⟨q, 3, none⟩ (.slice v8a (j + 1) v8c)) q #[.int .i64 K.lock, .string K.secret, .slice pa n pc, (.slice v8a (j + 1) v8c)] := by
                unfold HvAt at *
                rw [setCell_eq_setRow w8 q 3 _ _ (0, 0) _ hv8, setRow_heap w8 q _ _ _ (0, 0) hv8]; rfl
              have hR8 : w8.ownsRow (q + 1) 9 1 (.slice v8a (j + 1) v8c) (j + 1) ((itemsL sig1 sigS (j + 1) r4).map Value.string) := by
                rw [itemsL_snoc, List.map_append, HY.out]; exact hown8
              have hgone : ∀ x, x < q → some x ≠ Value.ownBlock (.slice va j vc) := fun x hx e => by have := (hlt1.out x e.symm).1; omega
              have hcs7 : HvAt w7 g Z4 := HvAt.but (w := wr.drew) hcs.out hb7'.out (by omega)
              have hcs8 : HvAt w8 g Z4 := by unfold HvAt at hcs7 ⊢; rw [hg8.block g (Array.getElem?_eq_some_iff.1 hcs7).1 (hgone g hgq)]; exact hcs7
              have hat8 : At 110 w8 b (itemsS sigS (j + 1) r4) := by
                obtain ⟨s, hs, hr⟩ := ha7'.out
                refine ⟨s, hs, ?_⟩
                unfold Rd at hr ⊢
                rw [hg8.block b (Array.getElem?_eq_some_iff.1 hr).1 (hgone b hbq)]; exact hr
              have hgw : g < wr.drew.heap.size := hcs.out.lt
              have hB7 : Below g w w7 := (hBg.out.trans (⟨rfl, rfl, rfl, Nat.le_refl _, fun _ _ => rfl⟩ : Below g wr wr.drew)).trans (hb7'.out.below (by omega) (by omega))
              have hB8 : Below g w w8 := hB7.grown hg8 (by omega) (fun x hx => by have := (hlt1.out x hx).1; omega)
              refine ⟨j + 1, _, by omega, by go_num, hvS, World.ownsRow.kept hR8 hset.grown (row_apart hR8 hv8 (by decide)), hat8.but hset (by omega), hcs8.but hset (by omega), hB8.trans (hset.below (by omega) (by have := hcs8.lt; omega)), ?_, ?_⟩
              · have h7 := hg8.size
                have h8 := hset.size
                omega
              · have hP7 : OwnI w7 (q + 1) (.slice pa n pc) K.path := World.ownsRow.kept (w := wr.drew) hP.out hb7'.out.grown (row_apart hP.out hrd.out (by decide))
                have hP8 : OwnI w8 (q + 1) (.slice pa n pc) K.path := World.ownsRow.kept hP7 hg8 (rows_apart hP7 own7.out (by decide))
                exact World.ownsRow.kept hP8 hset.grown (row_apart hP8 hv8 (by decide))
            case measure => simp [intOf]; omega
        · have j1 : ¬ (j : Int) < (n : Int) := by omega
          have hje : n = j := by omega
          subst hje
          have hS : Hid (OwnS wr (q + 1) (.slice va n vc) K.sigs) := by
            have h9 := hrow.out
            rw [T3.out] at h9
            have hl : K.sigs.length = n := by rw [← T3.out, itemsL_length]
            show OwnS _ _ _ _
            unfold OwnS
            rw [hl]; exact h9
          rw [T5.out] at hat
          obtain ⟨ck, hck⟩ : ∃ ck : Array Value, ck = #[.int .i64 K.lock, .string K.secret, .slice pa n pc, .slice va n vc] := ⟨_, rfl⟩
          have hv9 : HvAt wr.drew q ck := by rw [hck]; exact hv.out
          have hc4 : ck.size = 4 := by rw [hck]; rfl
          have hc41 : ∀ u ∈ ck.toList, u.oneCell' = true := by
            rw [hck]; intro u hu; simp at hu
            rcases hu with rfl | rfl | rfl | rfl <;> rfl
          have hatd : At 110 wr.drew b r5 := hat.out
          have hcsd : HvAt wr.drew g Z4 := hcs.out
          have hO : Hid (HkO wr.drew (g + 1) (.agg ck) K) := ⟨_, _, by rw [hck], base_rowK (hP.out : OwnI wr.drew (q + 1) _ _) (by omega), base_rowK (hS.out : OwnS wr.drew (q + 1) _ _) (by omega)⟩
          have hBd : Hid (Below g w wr.drew) := hBg.out.trans ⟨rfl, rfl, rfl, Nat.le_refl _, fun _ _ => rfl⟩
          have HBad := hide (abad_any hatd)
          have HLeft := hide (aleft_any hatd)
          clear hrow hv hat hcs hBg hsz hP hS hck j1 H3 H4 T2 T3 T4 T5
          go_wp2_with fail
          by_cases hbad : r5.2 = true
          · have he : ok = false := by rw [← hok5.out]; exact told_no (fun h => by rw [h] at hbad; exact Bool.noConfusion hbad)
            rw [hbad] at HBad
            have HOK := hide he
            clear hbad he HLeft hok5
            have hRw : Below wr.heap.size wr wr.drew := ⟨rfl, rfl, rfl, Nat.le_refl _, fun _ _ => rfl⟩
            refine wp_region_held_drew (S := fun W => HvAt W q ck) (by kernel_rfl) (hv9) (fun hHeld => ?_)
            refine wpAnyH_take (i := 0) (oi := { dst := some 38, op := Op.load 29 (Operand.tmp 5), type := 29, pos := "bytes.go:50", after := #[], guard := none }) (v := .agg ck) rfl (by kernel_rfl) (by kernel_rfl) (by kernel_rfl) (fun _ _ _ h => h) (yields_loadK (by rfl) (.tmp 5) (by rfl) _ ck (by rfl) hc4 (fun W hW => hW)) (by assumption) ?_
            try simp only [Act.put, List.setIfInBounds_toArray, List.set_cons_zero, List.set_cons_succ]
            refine wpAnyH_take (i := 1) (oi := { dst := some 39, op := Op.move (Operand.tmp 4), type := 82, pos := "bytes.go:50", after := #[], guard := none }) (v := ?_) rfl (by kernel_rfl) (by kernel_rfl) (by kernel_rfl) (fun _ _ _ h => h) (Or.inl ⟨by rfl, ?_⟩) (by assumption) ?_
            rotate_left
            · intro W hSW; first | (go_simp; done) | (go_simp; with_reducible rfl)
            try simp only [Act.put, List.setIfInBounds_toArray, List.set_cons_zero, List.set_cons_succ]
            refine wpAnyH_loneE (T := fun u W => u = Value.bool true ∧ W = wr.drew) (i := 2) (oi := { dst := some 40, op := Op.call { callee := Callee.value (Operand.func 67), args := #[Operand.tmp 39], argTypes := #[82] }, type := 4, pos := "bytes.go:50", after := #[{ on := 1, ground := Ground.data }], guard := none }) (by kernel_rfl) rfl (fun u W h => h.2 ▸ hv9) ?_ ?_
            · intro K hK
              go_simp
              refine (HBad.out).mono ?_
              rintro e W2 ⟨rfl, hw0⟩
              go_wp2_with fail
              exact hK.out _ _ (⟨rfl, by first | rfl | exact hw0⟩)
            intro u2 W9 hT2 hHeld
            obtain ⟨rfl, hw9⟩ := hT2
            subst hw9
            try simp only [Act.put, List.setIfInBounds_toArray, List.set_cons_zero, List.set_cons_succ]
            refine wpAnyH_take (i := 3) (oi := { dst := some 41, op := Op.unOp UnOp.not 4 (Operand.tmp 40), type := 4, pos := "bytes.go:50", after := #[{ on := 2, ground := Ground.data }], guard := none }) (v := ?_) rfl (by kernel_rfl) (by kernel_rfl) (by kernel_rfl) (fun _ _ _ h => h) (Or.inl ⟨by rfl, ?_⟩) (by assumption) ?_
            rotate_left
            · intro W hSW; first | (go_simp; done) | (go_simp; with_reducible rfl)
            try simp only [Act.put, List.setIfInBounds_toArray, List.set_cons_zero, List.set_cons_succ]
            refine wpAnyH_take (i := 4) (oi := { dst := some 42, op := Op.move (Operand.tmp 41), type := 4, pos := "bytes.go:50", after := #[{ on := 3, ground := Ground.data }, { on := 2, ground := Ground.chain }], guard := none }) (v := ?_) rfl (by kernel_rfl) (by kernel_rfl) (by kernel_rfl) (fun _ _ _ h => h) (Or.inl ⟨by rfl, ?_⟩) (by assumption) ?_
            rotate_left
            · intro W hSW; first | (go_simp; done) | (go_simp; with_reducible rfl)
            try simp only [Act.put, List.setIfInBounds_toArray, List.set_cons_zero, List.set_cons_succ]
            refine wpAnyH_take (i := 5) (oi := { dst := some 43, op := Op.move (Operand.tmp 4), type := 82, pos := "bytes.go:50", after := #[{ on := 4, ground := Ground.guard }], guard := some (4, true) }) (v := undef) rfl (by kernel_rfl) (by kernel_rfl) (by kernel_rfl) (fun _ _ _ h => h) (Or.inr ⟨by rfl, rfl⟩) (by assumption) ?_
            try simp only [Act.put, List.setIfInBounds_toArray, List.set_cons_zero, List.set_cons_succ]
            refine wpAnyH_take (i := 6) (oi := { dst := some 44, op := Op.call { callee := Callee.value (Operand.func 68), args := #[Operand.tmp 43], argTypes := #[82] }, type := 3, pos := "bytes.go:50", after := #[{ on := 5, ground := Ground.data }, { on := 4, ground := Ground.chain }, { on := 4, ground := Ground.guard }], guard := some (4, true) }) (v := undef) rfl (by kernel_rfl) (by kernel_rfl) (by kernel_rfl) (fun _ _ _ h => h) (Or.inr ⟨by rfl, rfl⟩) (by assumption) ?_
            try simp only [Act.put, List.setIfInBounds_toArray, List.set_cons_zero, List.set_cons_succ]
            refine wpAnyH_take (i := 7) (oi := { dst := some 45, op := Op.binOp BinOp.eql 3 (Operand.tmp 44) (Operand.const (Value.int IntKind.i64 0)) 3, type := 4, pos := "bytes.go:50", after := #[{ on := 6, ground := Ground.data }, { on := 4, ground := Ground.guard }, { on := 9, ground := Ground.gcOnly Departure.lateStores }], guard := some (4, true) }) (v := undef) rfl (by kernel_rfl) (by kernel_rfl) (by kernel_rfl) (fun _ _ _ h => h) (Or.inr ⟨by rfl, rfl⟩) (by assumption) ?_
            try simp only [Act.put, List.setIfInBounds_toArray, List.set_cons_zero, List.set_cons_succ]
            refine wpAnyH_take (i := 8) (oi := { dst := some 46, op := Op.pick (Operand.tmp 42) (Operand.tmp 45) (Operand.const (Value.bool false)), type := 4, pos := "bytes.go:50", after := #[{ on := 4, ground := Ground.data }, { on := 7, ground := Ground.data }, { on := 9, ground := Ground.gcOnly Departure.lateStores }], guard := none }) (v := ?_) rfl (by kernel_rfl) (by kernel_rfl) (by kernel_rfl) (fun _ _ _ h => h) (Or.inl ⟨by rfl, ?_⟩) (by assumption) ?_
            rotate_left
            · intro W hSW; first | (go_simp; done) | (go_simp; with_reducible rfl)
            try simp only [Act.put, List.setIfInBounds_toArray, List.set_cons_zero, List.set_cons_succ]
            refine wpAnyH_loneE (T := fun _ W => HvAt W g ck ∧ But g wr.drew W) (i := 9) (oi := { dst := none, op := Op.store 29 (Operand.tmp 2) (Operand.tmp 38), type := 0, pos := "bytes.go:50", after := #[{ on := 0, ground := Ground.data }, { on := 6, ground := Ground.chain }, { on := 0, ground := Ground.phase }, { on := 1, ground := Ground.textOnly Departure.lateStores }, { on := 2, ground := Ground.textOnly Departure.lateStoresUnsure }, { on := 3, ground := Ground.textOnly Departure.lateStores }, { on := 4, ground := Ground.textOnly Departure.lateStores }, { on := 5, ground := Ground.textOnly Departure.lateStores }, { on := 6, ground := Ground.textOnly Departure.lateStoresUnsure }, { on := 7, ground := Ground.textOnly Departure.lateStores }, { on := 8, ground := Ground.textOnly Departure.lateStores }], guard := none }) (by kernel_rfl) rfl (fun u W h => HvAt.but hv9 h.2 (by omega)) ?_ ?_
            · intro K hK
              refine step_storeH _ (by rfl) (.tmp 2) (.tmp 38) (by rfl) g ck _ (by rfl) (by rfl) hcsd hc4 rfl hc41 ?_
              intro w8 hv8 hbt8
              exact hK.out undef _ ⟨hv8, hbt8⟩
            intro u9 W9 hT9 hHeld
            obtain ⟨hvg, hbg⟩ := hT9
            try simp only [Act.put]
            refine wpAnyH_take (i := 10) (oi := { dst := some 3, op := Op.assign (Operand.tmp 46), type := 4, pos := "bytes.go:50", after := #[{ on := 8, ground := Ground.data }, { on := 9, ground := Ground.chain }, { on := 0, ground := Ground.phase }, { on := 1, ground := Ground.phase }, { on := 2, ground := Ground.phase }, { on := 3, ground := Ground.phase }, { on := 4, ground := Ground.phase }, { on := 5, ground := Ground.phase }, { on := 6, ground := Ground.phase }, { on := 7, ground := Ground.phase }, { on := 8, ground := Ground.phase }, { on := 9, ground := Ground.phase }], guard := none }) (v := ?_) rfl (by kernel_rfl) (by kernel_rfl) (by kernel_rfl) (fun _ _ _ h => h) (Or.inl ⟨by rfl, ?_⟩) (by assumption) ?_
            rotate_left
            · intro W hSW; first | (go_simp; done) | (go_simp; with_reducible rfl)
            try simp only [Act.put, List.setIfInBounds_toArray, List.set_cons_zero, List.set_cons_succ]
            refine wpAnyH_done (by kernel_rfl) ?_ _
            clear hHeld
            go_wp2
            refine bodyPost_ret (v := .tuple #[.agg ck, .bool false]) (results_two (fn := Tryz.f27) Tryz.results27 _ _ g 29 _ (0, 0) _ _ (by rfl) (by rfl) hvg Tryz.underlying29 (by rw [hc4]; exact sizeHk)) rfl ?_
            exact ⟨_, by rw [HOK.out], by rw [hgg]; exact (hO.out.but hbg hcsd).base (by omega), by rw [hgg]; exact hBd.out.trans (hbg.below (by omega) (by have := hcsd.lt; omega))⟩
          · have hb' : r5.2 = false := by cases e : r5.2; rfl; exact absurd e hbad
            rw [hb'] at HBad
            obtain ⟨m, hm⟩ : ∃ m, r5.1.length = m := ⟨_, rfl⟩
            obtain ⟨z, hz⟩ : ∃ z, ((m : Int) == 0) = z := ⟨_, rfl⟩
            have he : ok = z := by
              rw [← hok5.out, ← hz, ← hm]
              by_cases h0 : r5.1 = []
              · rw [told_yes (Prod.ext h0 hb'), h0]; rfl
              · rw [told_no (fun h => h0 (by rw [h]))]
                have : r5.1.length ≠ 0 := fun e => h0 (List.eq_nil_of_length_eq_zero e)
                exact (beq_eq_false_iff_ne.2 (by omega)).symm
            rw [hm] at HLeft
            have HOK := hide he
            clear hbad he hok5 hb' hm
            have hRw : Below wr.heap.size wr wr.drew := ⟨rfl, rfl, rfl, Nat.le_refl _, fun _ _ => rfl⟩
            refine wp_region_held_drew (S := fun W => HvAt W q ck) (by kernel_rfl) (hv9) (fun hHeld => ?_)
            refine wpAnyH_take (i := 0) (oi := { dst := some 38, op := Op.load 29 (Operand.tmp 5), type := 29, pos := "bytes.go:50", after := #[], guard := none }) (v := .agg ck) rfl (by kernel_rfl) (by kernel_rfl) (by kernel_rfl) (fun _ _ _ h => h) (yields_loadK (by rfl) (.tmp 5) (by rfl) _ ck (by rfl) hc4 (fun W hW => hW)) (by assumption) ?_
            try simp only [Act.put, List.setIfInBounds_toArray, List.set_cons_zero, List.set_cons_succ]
            refine wpAnyH_take (i := 1) (oi := { dst := some 39, op := Op.move (Operand.tmp 4), type := 82, pos := "bytes.go:50", after := #[], guard := none }) (v := ?_) rfl (by kernel_rfl) (by kernel_rfl) (by kernel_rfl) (fun _ _ _ h => h) (Or.inl ⟨by rfl, ?_⟩) (by assumption) ?_
            rotate_left
            · intro W hSW; first | (go_simp; done) | (go_simp; with_reducible rfl)
            try simp only [Act.put, List.setIfInBounds_toArray, List.set_cons_zero, List.set_cons_succ]
            refine wpAnyH_loneE (T := fun u W => u = Value.bool false ∧ W = wr.drew) (i := 2) (oi := { dst := some 40, op := Op.call { callee := Callee.value (Operand.func 67), args := #[Operand.tmp 39], argTypes := #[82] }, type := 4, pos := "bytes.go:50", after := #[{ on := 1, ground := Ground.data }], guard := none }) (by kernel_rfl) rfl (fun u W h => h.2 ▸ hv9) ?_ ?_
            · intro K hK
              go_simp
              refine (HBad.out).mono ?_
              rintro e W2 ⟨rfl, hw0⟩
              go_wp2_with fail
              exact hK.out _ _ (⟨rfl, by first | rfl | exact hw0⟩)
            intro u2 W9 hT2 hHeld
            obtain ⟨rfl, hw9⟩ := hT2
            subst hw9
            try simp only [Act.put, List.setIfInBounds_toArray, List.set_cons_zero, List.set_cons_succ]
            refine wpAnyH_take (i := 3) (oi := { dst := some 41, op := Op.unOp UnOp.not 4 (Operand.tmp 40), type := 4, pos := "bytes.go:50", after := #[{ on := 2, ground := Ground.data }], guard := none }) (v := ?_) rfl (by kernel_rfl) (by kernel_rfl) (by kernel_rfl) (fun _ _ _ h => h) (Or.inl ⟨by rfl, ?_⟩) (by assumption) ?_
            rotate_left
            · intro W hSW; first | (go_simp; done) | (go_simp; with_reducible rfl)
            try simp only [Act.put, List.setIfInBounds_toArray, List.set_cons_zero, List.set_cons_succ]
            refine wpAnyH_take (i := 4) (oi := { dst := some 42, op := Op.move (Operand.tmp 41), type := 4, pos := "bytes.go:50", after := #[{ on := 3, ground := Ground.data }, { on := 2, ground := Ground.chain }], guard := none }) (v := ?_) rfl (by kernel_rfl) (by kernel_rfl) (by kernel_rfl) (fun _ _ _ h => h) (Or.inl ⟨by rfl, ?_⟩) (by assumption) ?_
            rotate_left
            · intro W hSW; first | (go_simp; done) | (go_simp; with_reducible rfl)
            try simp only [Act.put, List.setIfInBounds_toArray, List.set_cons_zero, List.set_cons_succ]
            refine wpAnyH_take (i := 5) (oi := { dst := some 43, op := Op.move (Operand.tmp 4), type := 82, pos := "bytes.go:50", after := #[{ on := 4, ground := Ground.guard }], guard := some (4, true) }) (v := ?_) rfl (by kernel_rfl) (by kernel_rfl) (by kernel_rfl) (fun _ _ _ h => h) (Or.inl ⟨by rfl, ?_⟩) (by assumption) ?_
            rotate_left
            · intro W hSW; first | (go_simp; done) | (go_simp; with_reducible rfl)
            try simp only [Act.put, List.setIfInBounds_toArray, List.set_cons_zero, List.set_cons_succ]
            refine wpAnyH_loneE (T := fun u W => u = Value.int .i64 (m : Int) ∧ W = wr.drew) (i := 6) (oi := { dst := some 44, op := Op.call { callee := Callee.value (Operand.func 68), args := #[Operand.tmp 43], argTypes := #[82] }, type := 3, pos := "bytes.go:50", after := #[{ on := 5, ground := Ground.data }, { on := 4, ground := Ground.chain }, { on := 4, ground := Ground.guard }], guard := some (4, true) }) (by kernel_rfl) rfl (fun u W h => h.2 ▸ hv9) ?_ ?_
            · intro K hK
              go_simp
              refine (HLeft.out).mono ?_
              rintro e W2 ⟨rfl, hw0⟩
              go_wp2_with fail
              exact hK.out _ _ (⟨rfl, by first | rfl | exact hw0⟩)
            intro u6 W9 hT6 hHeld
            obtain ⟨rfl, hw9⟩ := hT6
            subst hw9
            try simp only [Act.put, List.setIfInBounds_toArray, List.set_cons_zero, List.set_cons_succ]
            refine wpAnyH_take (i := 7) (oi := { dst := some 45, op := Op.binOp BinOp.eql 3 (Operand.tmp 44) (Operand.const (Value.int IntKind.i64 0)) 3, type := 4, pos := "bytes.go:50", after := #[{ on := 6, ground := Ground.data }, { on := 4, ground := Ground.guard }, { on := 9, ground := Ground.gcOnly Departure.lateStores }], guard := some (4, true) }) (v := .bool z) rfl (by kernel_rfl) (by kernel_rfl) (by kernel_rfl) (fun _ _ _ h => h) (Or.inl ⟨by rfl, ?_⟩) (by assumption) ?_
            · intro W hSW; first | (go_simp; done) | (go_simp; with_reducible rfl)
            try simp only [Act.put, List.setIfInBounds_toArray, List.set_cons_zero, List.set_cons_succ]
            refine wpAnyH_take (i := 8) (oi := { dst := some 46, op := Op.pick (Operand.tmp 42) (Operand.tmp 45) (Operand.const (Value.bool false)), type := 4, pos := "bytes.go:50", after := #[{ on := 4, ground := Ground.data }, { on := 7, ground := Ground.data }, { on := 9, ground := Ground.gcOnly Departure.lateStores }], guard := none }) (v := .bool z) rfl (by kernel_rfl) (by kernel_rfl) (by kernel_rfl) (fun _ _ _ h => h) (Or.inl ⟨by rfl, ?_⟩) (by assumption) ?_
            · intro W hSW; first | (go_simp; done) | (go_simp; with_reducible rfl)
            try simp only [Act.put, List.setIfInBounds_toArray, List.set_cons_zero, List.set_cons_succ]
            refine wpAnyH_loneE (T := fun _ W => HvAt W g ck ∧ But g wr.drew W) (i := 9) (oi := { dst := none, op := Op.store 29 (Operand.tmp 2) (Operand.tmp 38), type := 0, pos := "bytes.go:50", after := #[{ on := 0, ground := Ground.data }, { on := 6, ground := Ground.chain }, { on := 0, ground := Ground.phase }, { on := 1, ground := Ground.textOnly Departure.lateStores }, { on := 2, ground := Ground.textOnly Departure.lateStoresUnsure }, { on := 3, ground := Ground.textOnly Departure.lateStores }, { on := 4, ground := Ground.textOnly Departure.lateStores }, { on := 5, ground := Ground.textOnly Departure.lateStores }, { on := 6, ground := Ground.textOnly Departure.lateStoresUnsure }, { on := 7, ground := Ground.textOnly Departure.lateStores }, { on := 8, ground := Ground.textOnly Departure.lateStores }], guard := none }) (by kernel_rfl) rfl (fun u W h => HvAt.but hv9 h.2 (by omega)) ?_ ?_
            · intro K hK
              refine step_storeH _ (by rfl) (.tmp 2) (.tmp 38) (by rfl) g ck _ (by rfl) (by rfl) hcsd hc4 rfl hc41 ?_
              intro w8 hv8 hbt8
              exact hK.out undef _ ⟨hv8, hbt8⟩
            intro u9 W9 hT9 hHeld
            obtain ⟨hvg, hbg⟩ := hT9
            try simp only [Act.put]
            refine wpAnyH_take (i := 10) (oi := { dst := some 3, op := Op.assign (Operand.tmp 46), type := 4, pos := "bytes.go:50", after := #[{ on := 8, ground := Ground.data }, { on := 9, ground := Ground.chain }, { on := 0, ground := Ground.phase }, { on := 1, ground := Ground.phase }, { on := 2, ground := Ground.phase }, { on := 3, ground := Ground.phase }, { on := 4, ground := Ground.phase }, { on := 5, ground := Ground.phase }, { on := 6, ground := Ground.phase }, { on := 7, ground := Ground.phase }, { on := 8, ground := Ground.phase }, { on := 9, ground := Ground.phase }], guard := none }) (v := ?_) rfl (by kernel_rfl) (by kernel_rfl) (by kernel_rfl) (fun _ _ _ h => h) (Or.inl ⟨by rfl, ?_⟩) (by assumption) ?_
            rotate_left
            · intro W hSW; first | (go_simp; done) | (go_simp; with_reducible rfl)
            try simp only [Act.put, List.setIfInBounds_toArray, List.set_cons_zero, List.set_cons_succ]
            refine wpAnyH_done (by kernel_rfl) ?_ _
            clear hHeld
            go_wp2
            refine bodyPost_ret (v := .tuple #[.agg ck, .bool z]) (results_two (fn := Tryz.f27) Tryz.results27 _ _ g 29 _ (0, 0) _ _ (by rfl) (by rfl) hvg Tryz.underlying29 (by rw [hc4]; exact sizeHk)) rfl ?_
            exact ⟨_, by rw [HOK.out], by rw [hgg]; exact (hO.out.but hbg hcsd).base (by omega), by rw [hgg]; exact hBd.out.trans (hbg.below (by omega) (by have := hcsd.lt; omega))⟩

end Go.Proofs.YtccaaaifhiigcaaGreat
