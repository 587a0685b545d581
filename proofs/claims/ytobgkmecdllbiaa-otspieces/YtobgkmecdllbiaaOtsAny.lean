/-
  The walk of OtsAll.
-/
import Derived.Test.YtobgkmecdllbiaaOtsWake
import Derived.Test.YtobgkmecdllbiaaOtsOut
namespace Go.Proofs.Ytobgkmecdllbiaa
open Go.RowKit

/-- A call that makes this text. -/
def Makes (f : Nat) (args : Array Value) (x : ByteArray) : Prop := ∀ w, Calls Try.prog f args w fun e w' => e = .returned (.string x) ∧ Below w.heap.size w w'
def Tells (f : Nat) (args : Array Value) (b : Bool) : Prop := ∀ w, Calls Try.prog f args w fun e w' => e = .returned (.bool b) ∧ Below w.heap.size w w'
theorem makes_of {f : Nat} {args : Array Value} {l : List UInt8} (h : ∀ w, Calls Try.prog f args w fun e w' => ∃ x : ByteArray, x.data.toList = l ∧ e = .returned (.string x) ∧ Below w.heap.size w w') : Makes f args ⟨l.toArray⟩ :=
  fun w => (h w).mono fun _ _ ⟨x, hx, he, hb⟩ => ⟨by rw [he, ← hx], hb⟩
theorem makes_none {f : Nat} {args : Array Value} (h : ∀ w, Calls Try.prog f args w fun e w' => e = .returned (.string ⟨#[]⟩) ∧ w' = w) : Makes f args ⟨#[]⟩ :=
  fun w => (h w).mono fun _ _ ⟨he, hw⟩ => ⟨he, hw ▸ Below.refl _ _⟩

theorem two_values (s : ByteArray) (k i b : Int) (hs : s.size ≤ 1000000) : ∃ x, Makes 9 #[.string s, .int .i64 k, .int .i64 i, .int .i64 b] x ∧ Makes 10 #[.string s, .int .i64 k, .int .i64 i, .int .i64 b] x := by
  by_cases h : 0 ≤ k ∧ k ≤ 255 ∧ 0 ≤ i ∧ i < 16 ∧ 0 ≤ b ∧ b ≤ 1
  · obtain ⟨k', rfl⟩ : ∃ n : Nat, k = n := ⟨k.toNat, by omega⟩
    obtain ⟨i', rfl⟩ : ∃ n : Nat, i = n := ⟨i.toNat, by omega⟩
    obtain ⟨b', rfl⟩ : ∃ n : Nat, b = n := ⟨b.toNat, by omega⟩
    exact ⟨_, makes_of (value_any s k' i' b' hs (by omega) (by omega) (by omega)), makes_of (refvalue_any s k' i' b' hs (by omega) (by omega) (by omega))⟩
  · exact ⟨_, makes_none (value_out s k i b h), makes_none (refvalue_out s k i b h)⟩
theorem two_publics (s : ByteArray) (k : Int) (hs : s.size ≤ 1000000) : ∃ x, Makes 11 #[.string s, .int .i64 k] x ∧ Makes 12 #[.string s, .int .i64 k] x := by
  by_cases h : 0 ≤ k ∧ k ≤ 255
  · obtain ⟨k', rfl⟩ : ∃ n : Nat, k = n := ⟨k.toNat, by omega⟩
    exact ⟨_, makes_of (public_any s k' hs (by omega)), makes_of (refpublic_any s k' hs (by omega))⟩
  · exact ⟨_, public_out s k (by omega), makes_none (refpublic_out s k (by omega))⟩
theorem two_signs (s m : ByteArray) (k : Int) (hs : s.size ≤ 1000000) (hm : m.size ≤ 1000000) : ∃ x, Makes 13 #[.string s, .int .i64 k, .string m] x ∧ Makes 14 #[.string s, .int .i64 k, .string m] x := by
  by_cases h : 0 ≤ k ∧ k ≤ 255
  · obtain ⟨k', rfl⟩ : ∃ n : Nat, k = n := ⟨k.toNat, by omega⟩
    exact ⟨_, makes_of (sign_any s m k' hs hm (by omega)), makes_of (refsign_any s m k' hs hm (by omega))⟩
  · exact ⟨_, makes_none (sign_out s m k (by omega)), makes_none (refsign_out s m k (by omega))⟩
theorem two_verifies (p m s : ByteArray) (hm : m.size ≤ 1000000) : ∃ b, Tells 15 #[.string p, .string m, .string s] b ∧ Tells 16 #[.string p, .string m, .string s] b := by
  by_cases h : s.size = 512
  · exact ⟨_, verify_any p m s hm h, refverify_any p m s hm h⟩
  · exact ⟨_, verify_none p m s h, fun w => (refverify_long p m s h w).mono fun _ _ ⟨he, hw⟩ => ⟨he, hw ▸ Below.refl _ _⟩⟩

set_option maxRecDepth 10000 in
set_option maxHeartbeats 400000 in
theorem otsall_in (s : ByteArray) (k i b : Int) (m g p : ByteArray) (hs : s.size ≤ 200) (hm : m.size ≤ 500) (hg : g.size ≤ 600) (hp : p.size ≤ 40) (w : World) :
    Calls Try.prog 3 #[.string s, .int .i64 k, .int .i64 i, .int .i64 b, .string m, .string g, .string p] w fun e w' => e = .returned (.bool true) ∧ Below w.heap.size w w' := by
  obtain ⟨v, hv1, hv2⟩ := two_values s k i b (by omega)
  obtain ⟨u, hu1, hu2⟩ := two_publics s k (by omega)
  obtain ⟨x, hx1, hx2⟩ := two_signs s m k (by omega) (by omega)
  obtain ⟨t, ht1, ht2⟩ := two_verifies p m g (by omega)
  have h1 : ¬ (200 : Int) < (s.size : Int) := by omega
  have h2 : ¬ (500 : Int) < (m.size : Int) := by omega
  have h3 : ¬ (600 : Int) < (g.size : Int) := by omega
  have h4 : ¬ (40 : Int) < (p.size : Int) := by omega
  go_enter Try.func3, Try.ntmps3
  go_wp2_with fail
  refine (hv1 _).mono ?_
  rintro e w1 ⟨rfl, hb1⟩
  go_wp2_with fail
  refine (hv2 _).mono ?_
  rintro e w2 ⟨rfl, hb2⟩
  go_wp2_with fail
  refine (hu1 _).mono ?_
  rintro e w3 ⟨rfl, hb3⟩
  go_wp2_with fail
  refine (hu2 _).mono ?_
  rintro e w4 ⟨rfl, hb4⟩
  go_wp2_with fail
  refine (hx1 _).mono ?_
  rintro e w5 ⟨rfl, hb5⟩
  go_wp2_with fail
  refine (hx2 _).mono ?_
  rintro e w6 ⟨rfl, hb6⟩
  go_wp2_with fail
  refine (ht1 _).mono ?_
  rintro e w7 ⟨rfl, hb7⟩
  go_wp2_with fail
  refine (ht2 _).mono ?_
  rintro e w8 ⟨rfl, hb8⟩
  go_wp2_with fail
  refine (awake_any _).mono ?_
  rintro e w9 ⟨rfl, hb9⟩
  go_wp2
  go_ret
  exact ⟨rfl, below_then (below_then (below_then (below_then (below_then (below_then (below_then (below_then hb1 hb2) hb3) hb4) hb5) hb6) hb7) hb8) hb9⟩

set_option maxRecDepth 10000 in
set_option maxHeartbeats 400000 in
theorem otsall_any (s : ByteArray) (k i b : Int) (m g p : ByteArray) (hsm : s.size ≤ maxLen) (_ : (Lit.int .i64 k).wf = true) (_ : (Lit.int .i64 i).wf = true) (_ : (Lit.int .i64 b).wf = true) (hmm : m.size ≤ maxLen) (hgm : g.size ≤ maxLen) (hpm : p.size ≤ maxLen) (w : World) :
    Calls Try.prog 3 #[.string s, .int .i64 k, .int .i64 i, .int .i64 b, .string m, .string g, .string p] w fun e w' => e = .returned (.bool true) ∧ Below w.heap.size w w' := by
  unfold maxLen at hsm hmm hgm hpm
  by_cases h1 : 200 < s.size
  · have h1' : (200 : Int) < (s.size : Int) := by omega
    go_enter Try.func3, Try.ntmps3
    go_wp2_with (go_at_call 8; refine (awake_any _).mono ?_; rintro e w1 ⟨rfl, hb1⟩)
    go_ret
    exact ⟨rfl, hb1⟩
  have h1i : ¬ (200 : Int) < (s.size : Int) := by omega
  by_cases h2 : 500 < m.size
  · have h2' : (500 : Int) < (m.size : Int) := by omega
    go_enter Try.func3, Try.ntmps3
    go_wp2_with (go_at_call 8; refine (awake_any _).mono ?_; rintro e w1 ⟨rfl, hb1⟩)
    go_ret
    exact ⟨rfl, hb1⟩
  have h2i : ¬ (500 : Int) < (m.size : Int) := by omega
  by_cases h3 : 600 < g.size
  · have h3' : (600 : Int) < (g.size : Int) := by omega
    go_enter Try.func3, Try.ntmps3
    go_wp2_with (go_at_call 8; refine (awake_any _).mono ?_; rintro e w1 ⟨rfl, hb1⟩)
    go_ret
    exact ⟨rfl, hb1⟩
  have h3i : ¬ (600 : Int) < (g.size : Int) := by omega
  by_cases h4 : 40 < p.size
  · have h4' : (40 : Int) < (p.size : Int) := by omega
    go_enter Try.func3, Try.ntmps3
    go_wp2_with (go_at_call 8; refine (awake_any _).mono ?_; rintro e w1 ⟨rfl, hb1⟩)
    go_ret
    exact ⟨rfl, hb1⟩
  exact otsall_in s k i b m g p (by omega) (by omega) (by omega) (by omega) w

end Go.Proofs.Ytobgkmecdllbiaa
