/-
  The keys round a ring (plain data).
-/
import Derived.Test.YthoimecljfcjmaaHkWake
namespace Go.Proofs.Ythoimecljfcjmaa
open Go.RowKit

def mkSeed (i : Nat) : ByteArray := ⟨(seedB i).toArray⟩
theorem seed_call (n : Nat) (hn : n < 10) (w : World) : Calls Try.prog 15 #[.int .i64 (n : Int)] w fun e w' => e = .returned (.string (mkSeed n)) ∧ w' = w := by
  obtain ⟨d, hd, hs, H⟩ := seed_ex n hn
  have e : d = mkSeed n := by
    apply ByteArray.ext
    rw [← Array.toList_inj, hd]; rfl
  rw [← e]; exact H w
theorem mkSeed_size (n : Nat) : (mkSeed n).size = 5 := rfl
/-- The path round a ring of k behind i steps. -/
def rp (k : Nat) : Nat → List Int
  | 0 => [0]
  | i + 1 => ((k - 1 - i : Nat) : Int) :: rp k i
def KP (k : Nat) (sec : ByteArray) : Nat → HkM
  | 0 => signedM ⟨0, sec, [], []⟩ 0 (mkSeed 0)
  | i + 1 => signedM (KP k sec i) ((k - 1 - i : Nat) : Int) (mkSeed (k - 1 - i))
theorem KP_path (k : Nat) (sec : ByteArray) (i : Nat) : (KP k sec i).path = rp k i := by
  induction i with
  | zero => rfl
  | succ i ih => show _ :: (KP k sec i).path = _; rw [ih]; rfl
theorem rp_len (k i : Nat) : (rp k i).length = i + 1 := by
  induction i with
  | zero => rfl
  | succ i ih => show (rp k i).length + 1 = _; rw [ih]
theorem KP_lock (k : Nat) (sec : ByteArray) (i : Nat) : (KP k sec i).lock = 0 := by
  induction i with
  | zero => rfl
  | succ i ih => exact ih
theorem KP_grown {s : SpecM} (h : BySeeds s) (k : Nat) (hk : s.parties.length = k) (_hk1 : 1 ≤ k) (hl : s.leaders = [0]) (sec : ByteArray) (hsec : sec.data.toList = secretB 0) (i : Nat) (_hi : i ≤ k) : GrownK s (KP k sec i) := by
  induction i with
  | zero => exact GrownK.made h 0 (by rw [hl]; exact Nat.zero_lt_one) sec (mkSeed 0) hsec 0 (by rw [hl]; rfl) rfl
  | succ i ih => exact GrownK.next h (ih (by omega)) (k - 1 - i) (by omega) (mkSeed (k - 1 - i)) rfl
/-- What the kernel reckons of rings. -/
def rpB (k : Nat) : Bool := strongP k (arcsP k 0 2) && fbP k (arcsP k 0 2) [0] && !pathB k (arcsP k 0 2) (rp k k) && (List.range k).all (fun i => pathB k (arcsP k 0 2) (rp k i) && ((rp k i).getD 0 0 == (((k - i) % k : Nat) : Int)) && (((arcsP k 0 2).getD i noArc).dst == (((i + 1) % k : Nat) : Int)))
theorem rp_reckoned (k : Nat) (h2 : 2 ≤ k) (h6 : k ≤ 6) : rpB k = true := by
  have : k = 2 ∨ k = 3 ∨ k = 4 ∨ k = 5 ∨ k = 6 := by omega
  rcases this with rfl | rfl | rfl | rfl | rfl <;> decide +kernel
/-- A ring's facts. -/
theorem ring_facts {s : SpecM} (hok : specOk s) (k : Nat) (h2 : 2 ≤ k) (h6 : k ≤ 6) (hn : s.parties.length = k) (hA : s.arcs = arcsP k 0 2) (hL : s.leaders = [0]) :
    validM s = true ∧ ¬ pathOk s (rp k k) ∧ ∀ i, i < k → pathOk s (rp k i) ∧ (rp k i).getD 0 0 = (((k - i) % k : Nat) : Int) ∧ (s.arcs.getD i noArc).dst = (((i + 1) % k : Nat) : Int) := by
  have h := rp_reckoned k h2 h6
  unfold rpB at h
  rw [Bool.and_eq_true, Bool.and_eq_true, Bool.and_eq_true, List.all_eq_true] at h
  obtain ⟨⟨⟨h1, h3⟩, h4⟩, h5⟩ := h
  refine ⟨by rw [valid_reckoned hok, hn, hA, hL, h1, h3]; rfl, fun hp => ?_, fun i hi => ?_⟩
  · have h9 := path_reckoned hok (rp k k)
    rw [told_yes hp, hn, hA] at h9
    rw [← h9] at h4
    exact Bool.noConfusion h4
  · have h6 := h5 i (List.mem_range.2 hi)
    rw [Bool.and_eq_true, Bool.and_eq_true, beq_iff_eq, beq_iff_eq] at h6
    obtain ⟨⟨h7, h8⟩, h9⟩ := h6
    exact ⟨(told_iff _).1 (by rw [path_reckoned hok, hn, hA]; exact h7), h8, by rw [hA]; exact h9⟩
theorem gives_loadK {ops : Array Oper} {Q : Exit → Act → World → Prop} {R : World → Prop} {o : Oper} {a : Act} (hw : Region.wanted o (yielded ops a.tmps) = true) (x : Operand) (ho : o.op = .load 31 x)
    (g : Nat) (cs : Array Value) (hx : a.eval x = .pointer (some ⟨g, 0, none⟩)) (h4 : cs.size = 4) (hS : ∀ W, R W → HvAt W g cs) : Gives Try.prog ops Q R o (.agg cs) a := fun W hW K hK => by
  rw [if_pos hw]
  unfold Oper.wp execOp
  simp only [ho, hx, Instr.loadAt, Instr.sureAddr, Sem.run_bind, Sem.run_pure, Result.andThen_ok, run_loadVar_row W g 31 31 cs (0, 0) (.struct _) (hS W hW) Try.underlying31 rfl (by rw [h4]; exact sizeHk)]
  exact hK.out _ hW

end Go.Proofs.Ythoimecljfcjmaa
