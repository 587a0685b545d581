/-
  The rounds over plain numbers are the rounds over words.
-/
import Derived.Test.YtnnnhdacknecoaaFast
import Derived.Test.YtnnnhdacknecoaaDig
namespace Go.Proofs.Ytnnnhdacknecoaa

theorem force_eq {R : Type} (n : Nat) (k : Nat → R) : forceN n k = k n := by cases n <;> rfl

theorem rot_nat (x : BitVec 32) (n : Nat) (h : n ≤ 32) : ((x.toNat * 4294967297) >>> n) % 4294967296 = (rotr x n).toNat := by
  have hx := x.isLt
  have hp : (2 : Nat) ^ n * 2 ^ (32 - n) = 4294967296 := by rw [← Nat.pow_add, show n + (32 - n) = 32 by omega]
  have hpos : 0 < (2 : Nat) ^ n := Nat.two_pow_pos n
  have hsm : x.toNat / 2 ^ n < 2 ^ (32 - n) := by
    rw [Nat.div_lt_iff_lt_mul hpos, Nat.mul_comm, hp]; exact hx
  have e1 : (x.toNat * 4294967297) / 2 ^ n = 2 ^ (32 - n) * x.toNat + x.toNat / 2 ^ n := by
    rw [show x.toNat * 4294967297 = 2 ^ n * (2 ^ (32 - n) * x.toNat) + x.toNat by rw [← Nat.mul_assoc, hp]; omega, Nat.mul_add_div hpos]
  have e2 : (2 ^ (32 - n) * x.toNat) % 4294967296 = 2 ^ (32 - n) * (x.toNat % 2 ^ n) := by
    rw [← hp, Nat.mul_comm (2 ^ n), Nat.mul_mod_mul_left]
  have hlt : 2 ^ (32 - n) * (x.toNat % 2 ^ n) + x.toNat / 2 ^ n < 4294967296 := by
    have hm : x.toNat % 2 ^ n + 1 ≤ 2 ^ n := Nat.mod_lt _ hpos
    have := Nat.mul_le_mul_left (2 ^ (32 - n)) hm
    rw [Nat.mul_add, Nat.mul_comm (2 ^ (32 - n)) (2 ^ n), hp] at this
    omega
  rw [Nat.shiftRight_eq_div_pow, e1, Nat.add_mod, e2, Nat.mod_eq_of_lt (show x.toNat / 2 ^ n < 4294967296 by omega), Nat.mod_eq_of_lt hlt]
  unfold rotr
  rw [BitVec.toNat_or, BitVec.toNat_ushiftRight, BitVec.toNat_shiftLeft, Nat.shiftRight_eq_div_pow, Nat.shiftLeft_eq, Nat.mul_comm x.toNat, show (2 : Nat) ^ 32 = 4294967296 from rfl, e2, Nat.or_comm, Nat.two_pow_add_eq_or_of_lt hsm]

theorem xor3_mod (a b c : Nat) : (a ^^^ b ^^^ c) % 4294967296 = (a % 4294967296) ^^^ (b % 4294967296) ^^^ (c % 4294967296) := by
  rw [show (4294967296 : Nat) = 2 ^ 32 from rfl, Nat.xor_mod_two_pow, Nat.xor_mod_two_pow]
theorem s1_nat (x : BitVec 32) : s1N x.toNat % 4294967296 = (bsig1 x).toNat := by
  show (((x.toNat * 4294967297) >>> 6) ^^^ ((x.toNat * 4294967297) >>> 11) ^^^ ((x.toNat * 4294967297) >>> 25)) % 4294967296 = _
  rw [xor3_mod, rot_nat x 6 (by omega), rot_nat x 11 (by omega), rot_nat x 25 (by omega), bsig1, BitVec.toNat_xor, BitVec.toNat_xor]
theorem s0_nat (x : BitVec 32) : s0N x.toNat % 4294967296 = (bsig0 x).toNat := by
  show (((x.toNat * 4294967297) >>> 2) ^^^ ((x.toNat * 4294967297) >>> 13) ^^^ ((x.toNat * 4294967297) >>> 22)) % 4294967296 = _
  rw [xor3_mod, rot_nat x 2 (by omega), rot_nat x 13 (by omega), rot_nat x 22 (by omega), bsig0, BitVec.toNat_xor, BitVec.toNat_xor]
theorem chs_alt (x y z : BitVec 32) : chs x y z = z ^^^ (x &&& (y ^^^ z)) := by
  unfold chs
  ext i hi
  simp only [BitVec.getElem_xor, BitVec.getElem_and, BitVec.getElem_not]
  cases x[i] <;> cases y[i] <;> cases z[i] <;> rfl
theorem maj_alt (x y z : BitVec 32) : maj x y z = (x &&& (y ^^^ z)) ^^^ (y &&& z) := by
  unfold maj
  ext i hi
  simp only [BitVec.getElem_xor, BitVec.getElem_and]
  cases x[i] <;> cases y[i] <;> cases z[i] <;> rfl
theorem ch_nat (x y z : BitVec 32) : chN x.toNat y.toNat z.toNat = (chs x y z).toNat := by
  rw [chs_alt, BitVec.toNat_xor, BitVec.toNat_and, BitVec.toNat_xor]; rfl
theorem mj_nat (x y z : BitVec 32) : mjN x.toNat y.toNat z.toNat = (maj x y z).toNat := by
  rw [maj_alt, BitVec.toNat_xor, BitVec.toNat_and, BitVec.toNat_xor, BitVec.toNat_and]; rfl

/-- A round with the sum of constant and word. -/
def teeW (S : St) (kw : BitVec 32) : BitVec 32 := S.h + bsig1 S.e + chs S.e S.f S.g + kw
def rndW (S : St) (kw : BitVec 32) : St := ⟨teeW S kw + (bsig0 S.a + maj S.a S.b S.c), S.a, S.b, S.c, S.d + teeW S kw, S.e, S.f, S.g⟩
theorem rnd_eq (S : St) (k w : BitVec 32) : rnd S k w = rndW S (k + w) := by
  have e : tee S k w = teeW S (k + w) := BitVec.add_assoc _ k w
  unfold rnd rndW; rw [e]
theorem round_a (S : St) (kw : BitVec 32) : modN (Nat.add (t1N S.e.toNat S.f.toNat S.g.toNat S.h.toNat kw.toNat) (Nat.add (s0N S.a.toNat) (mjN S.a.toNat S.b.toNat S.c.toNat))) = (rndW S kw).a.toNat := by
  have h1 := s1_nat S.e
  have h0 := s0_nat S.a
  unfold t1N modN
  rw [ch_nat, mj_nat]
  show (S.h.toNat + s1N S.e.toNat + ((chs S.e S.f S.g).toNat + kw.toNat) + (s0N S.a.toNat + (maj S.a S.b S.c).toNat)) % 4294967296 = _
  simp only [rndW, teeW, BitVec.toNat_add]
  omega
theorem round_e (S : St) (kw : BitVec 32) : modN (Nat.add S.d.toNat (t1N S.e.toNat S.f.toNat S.g.toNat S.h.toNat kw.toNat)) = (rndW S kw).e.toNat := by
  have h1 := s1_nat S.e
  unfold t1N modN
  rw [ch_nat]
  show (S.d.toNat + (S.h.toNat + s1N S.e.toNat + ((chs S.e S.f S.g).toNat + kw.toNat))) % 4294967296 = _
  simp only [rndW, teeW, BitVec.toNat_add]
  omega
theorem go_nil {R : Type} (k : Nat → Nat → Nat → Nat → Nat → Nat → Nat → Nat → R) (a b c d e f g h : Nat) : goN k [] a b c d e f g h = k a b c d e f g h := by
  unfold goN; rw [List.foldr_nil]
theorem go_cons {R : Type} (k : Nat → Nat → Nat → Nat → Nat → Nat → Nat → Nat → R) (kw : Nat) (kws : List Nat) (a b c d e f g h : Nat) :
    goN k (kw :: kws) a b c d e f g h = forceN (modN (Nat.add (t1N e f g h kw) (Nat.add (s0N a) (mjN a b c)))) (fun x => forceN (modN (Nat.add d (t1N e f g h kw))) fun y => goN k kws x a b c y e f g) := by
  unfold goN; rw [List.foldr_cons]
theorem go_eq {R : Type} (k : Nat → Nat → Nat → Nat → Nat → Nat → Nat → Nat → R) (ws : List (BitVec 32)) (S : St) :
    goN k (ws.map (·.toNat)) S.a.toNat S.b.toNat S.c.toNat S.d.toNat S.e.toNat S.f.toNat S.g.toNat S.h.toNat
      = (fun T : St => k T.a.toNat T.b.toNat T.c.toNat T.d.toNat T.e.toNat T.f.toNat T.g.toNat T.h.toNat) (ws.foldl rndW S) := by
  induction ws generalizing S with
  | nil => rw [List.map_nil, go_nil, List.foldl_nil]
  | cons kw ws ih => rw [List.map_cons, go_cons, force_eq, force_eq, round_a, round_e, List.foldl_cons, ← ih (rndW S kw)]; rfl

/-- So many times. -/
def rep (F : St → St) : Nat → St → St
  | 0, S => S
  | n + 1, S => rep F n (F S)
theorem rep_last (F : St → St) (n : Nat) (S : St) : rep F (n + 1) S = F (rep F n S) := by
  induction n generalizing S with
  | zero => rfl
  | succ n ih => rw [rep, ih (F S)]; rfl
theorem rep_add (F : St → St) (n k : Nat) (S : St) : rep F (n + k) S = rep F k (rep F n S) := by
  induction n generalizing S with
  | zero => rw [Nat.zero_add]; rfl
  | succ n ih => rw [Nat.succ_add_eq_add_succ]; exact ih (F S)
def sums (m : List (BitVec 32)) : List (BitVec 32) := List.zipWith (· + ·) KK m
theorem rounds_fold (m : List (BitVec 32)) (hm : m.length = 64) (S : St) (n : Nat) (hn : n ≤ 64) : rounds m S n = ((sums m).take n).foldl rndW S := by
  induction n with
  | zero => rfl
  | succ n ih =>
    have hK : n < KK.length := by rw [KK_length]; omega
    have hM : n < m.length := by omega
    have e : (sums m)[n]? = some (KK.getD n 0 + m.getD n 0) := by
      simp [sums, List.getElem?_zipWith, List.getElem?_eq_getElem hK, List.getElem?_eq_getElem hM, List.getD_eq_getElem?_getD]
    rw [List.take_add_one, e]
    simp only [rounds, Option.toList_some, List.foldl_append, List.foldl_cons, List.foldl_nil]
    rw [ih (by omega), rnd_eq]
theorem sums_length (m : List (BitVec 32)) (hm : m.length = 64) : (sums m).length = 64 := by simp [sums, KK_length, hm]
theorem comp_fold (m : List (BitVec 32)) (hm : m.length = 64) (S : St) : comp S m = plus S ((sums m).foldl rndW S) := by
  unfold comp
  rw [rounds_fold m hm S 64 (by omega), List.take_of_length_le (by rw [sums_length m hm]; omega)]
theorem add_nat (x y : BitVec 32) : modN (Nat.add x.toNat y.toNat) = (x + y).toNat := by
  rw [BitVec.toNat_add]; rfl
theorem repeat_out {A : Type} (F : A → A) (n : Nat) (x : A) : Nat.repeat F (n + 1) x = F (Nat.repeat F n x) := rfl
theorem iter_succ {R : Type} (k : Nat → Nat → Nat → Nat → Nat → Nat → Nat → Nat → R) (kws : List Nat) (n a b c d e f g h : Nat) :
    iterN k kws (n + 1) a b c d e f g h = goN (fun a' b' c' d' e' f' g' h' => forceN (modN (Nat.add a a')) fun a => forceN (modN (Nat.add b b')) fun b => forceN (modN (Nat.add c c')) fun c => forceN (modN (Nat.add d d')) fun d =>
      forceN (modN (Nat.add e e')) fun e => forceN (modN (Nat.add f f')) fun f => forceN (modN (Nat.add g g')) fun g => forceN (modN (Nat.add h h')) fun h => iterN k kws n a b c d e f g h) kws a b c d e f g h := by
  unfold iterN; rw [repeat_out]
theorem iter_zero {R : Type} (k : Nat → Nat → Nat → Nat → Nat → Nat → Nat → Nat → R) (kws : List Nat) (a b c d e f g h : Nat) : iterN k kws 0 a b c d e f g h = k a b c d e f g h := rfl
theorem iter_eq {R : Type} (k : Nat → Nat → Nat → Nat → Nat → Nat → Nat → Nat → R) (F : St → St) (ws : List (BitVec 32)) (hF : ∀ S, F S = plus S (ws.foldl rndW S)) (n : Nat) (S : St) :
    iterN k (ws.map (·.toNat)) n S.a.toNat S.b.toNat S.c.toNat S.d.toNat S.e.toNat S.f.toNat S.g.toNat S.h.toNat
      = k (rep F n S).a.toNat (rep F n S).b.toNat (rep F n S).c.toNat (rep F n S).d.toNat (rep F n S).e.toNat (rep F n S).f.toNat (rep F n S).g.toNat (rep F n S).h.toNat := by
  induction n generalizing S with
  | zero => rw [iter_zero, rep]
  | succ n ih =>
    rw [iter_succ, go_eq]
    simp only [force_eq, add_nat]
    rw [rep, hF S]
    exact ih (plus S (ws.foldl rndW S))

/-- The eight numbers, side by side. -/
def eight (a b c d e f g h : Nat) : List Nat := [a, b, c, d, e, f, g, h]
theorem st_ext {S T : St} (h : eight S.a.toNat S.b.toNat S.c.toNat S.d.toNat S.e.toNat S.f.toNat S.g.toNat S.h.toNat = eight T.a.toNat T.b.toNat T.c.toNat T.d.toNat T.e.toNat T.f.toNat T.g.toNat T.h.toNat) : S = T := by
  obtain ⟨a, b, c, d, e, f, g, h'⟩ := S
  obtain ⟨a2, b2, c2, d2, e2, f2, g2, h2⟩ := T
  simp only [eight, List.cons.injEq, and_true] at h
  obtain ⟨x1, x2, x3, x4, x5, x6, x7, x8⟩ := h
  simp only [BitVec.eq_of_toNat_eq x1, BitVec.eq_of_toNat_eq x2, BitVec.eq_of_toNat_eq x3, BitVec.eq_of_toNat_eq x4, BitVec.eq_of_toNat_eq x5, BitVec.eq_of_toNat_eq x6, BitVec.eq_of_toNat_eq x7, BitVec.eq_of_toNat_eq x8]
theorem rep_of (F : St → St) (ws : List (BitVec 32)) (kws : List Nat) (hk : ws.map (·.toNat) = kws) (hF : ∀ S, F S = plus S (ws.foldl rndW S)) (n : Nat) (S T : St)
    (h : iterN eight kws n S.a.toNat S.b.toNat S.c.toNat S.d.toNat S.e.toNat S.f.toNat S.g.toNat S.h.toNat = eight T.a.toNat T.b.toNat T.c.toNat T.d.toNat T.e.toNat T.f.toNat T.g.toNat T.h.toNat) : rep F n S = T := by
  subst hk
  rw [iter_eq eight F ws hF n S] at h
  exact st_ext h

end Go.Proofs.Ytnnnhdacknecoaa
