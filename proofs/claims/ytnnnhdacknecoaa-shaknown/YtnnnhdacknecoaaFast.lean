/-
  The rounds over plain numbers, laid so that the kernel reckons them fast.
-/
import Derived.Test.YtnnnhdacknecoaaRounds
namespace Go.Proofs.Ytnnnhdacknecoaa

/-- A number is reckoned before it is handed on. -/
def forceN {R : Type} (n : Nat) (k : Nat → R) : R := Nat.rec (k (nat_lit 0)) (fun m _ => k (Nat.succ m)) n
def s1N (e : Nat) : Nat := (fun y => Nat.xor (Nat.xor (Nat.shiftRight y (nat_lit 6)) (Nat.shiftRight y (nat_lit 11))) (Nat.shiftRight y (nat_lit 25))) (Nat.mul e (nat_lit 4294967297))
def s0N (e : Nat) : Nat := (fun y => Nat.xor (Nat.xor (Nat.shiftRight y (nat_lit 2)) (Nat.shiftRight y (nat_lit 13))) (Nat.shiftRight y (nat_lit 22))) (Nat.mul e (nat_lit 4294967297))
def chN (e f g : Nat) : Nat := Nat.xor g (Nat.land e (Nat.xor f g))
def mjN (a b c : Nat) : Nat := Nat.xor (Nat.land a (Nat.xor b c)) (Nat.land b c)
def t1N (e f g h kw : Nat) : Nat := Nat.add (Nat.add h (s1N e)) (Nat.add (chN e f g) kw)
def modN (x : Nat) : Nat := Nat.mod x (nat_lit 4294967296)
/-- The rounds of a block, with the sums of its words and the constants. -/
def goN {R : Type} (k : Nat → Nat → Nat → Nat → Nat → Nat → Nat → Nat → R) (kws : List Nat) : Nat → Nat → Nat → Nat → Nat → Nat → Nat → Nat → R :=
  List.foldr (fun kw ih a b c d e f g h => (fun t => forceN (modN (Nat.add t (Nat.add (s0N a) (mjN a b c)))) fun x => forceN (modN (Nat.add d t)) fun y => ih x a b c y e f g) (t1N e f g h kw)) k kws
/-- So many blocks of one kind. -/
def iterN {R : Type} (k : Nat → Nat → Nat → Nat → Nat → Nat → Nat → Nat → R) (kws : List Nat) (n : Nat) : Nat → Nat → Nat → Nat → Nat → Nat → Nat → Nat → R :=
  Nat.repeat (fun ih a b c d e f g h => goN (fun a' b' c' d' e' f' g' h' => forceN (modN (Nat.add a a')) fun a => forceN (modN (Nat.add b b')) fun b => forceN (modN (Nat.add c c')) fun c => forceN (modN (Nat.add d d')) fun d =>
      forceN (modN (Nat.add e e')) fun e => forceN (modN (Nat.add f f')) fun f => forceN (modN (Nat.add g g')) fun g => forceN (modN (Nat.add h h')) fun h => ih a b c d e f g h) kws a b c d e f g h) n k
end Go.Proofs.Ytnnnhdacknecoaa
