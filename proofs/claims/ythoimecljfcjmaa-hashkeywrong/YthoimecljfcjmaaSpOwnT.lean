/-
  Arrays of two numbers held against each other.
-/
import Derived.Test.YthoimecljfcjmaaZ01
import Derived.Laws.StructEq
namespace Go.Proofs.Ythoimecljfcjmaa
open Go.RowKit

theorem part_int (cs : Array Value) (i : Nat) (v : Value) (h : cs[i]? = some v) (w : World) : (part 3 cs i).run Try.prog w = .ok v w := by
  unfold part
  simp [Sem.run_bind, Try.isAgg3, h]

theorem run_eql2 (a b c d : Int) (w : World) : (Op.equalIn 10000 96 (.agg #[.int .i64 a, .int .i64 b]) (.agg #[.int .i64 c, .int .i64 d])).run Try.prog w = .ok (a == c && b == d) w := by
  show (Op.equalIn (9999 + 1) 96 (.agg #[.int .i64 a, .int .i64 b]) (.agg #[.int .i64 c, .int .i64 d])).run Try.prog w = _
  have p0 := part_int #[.int .i64 a, .int .i64 b] 0 _ rfl
  have p1 := part_int #[.int .i64 a, .int .i64 b] 1 _ rfl
  have q0 := part_int #[.int .i64 c, .int .i64 d] 0 _ rfl
  have q1 := part_int #[.int .i64 c, .int .i64 d] 1 _ rfl
  have e1 : ∀ x y : Int, ∀ w, (Op.equalIn 9999 3 (.int .i64 x) (.int .i64 y)).run Try.prog w = .ok (x == y) w := fun x y w => run_equalIn_int w 9998 3 .i64 .i64 x y Try.underlying3
  have hu := run_underlying Try.underlying96
  rw [Op.equalIn]
  simp only [Sem.run_bind, hu, Result.andThen_ok]
  cases h1 : (a == c) <;> cases h2 : (b == d) <;> simp [Std.Legacy.Range.forIn_eq_forIn_range', Std.Legacy.Range.size, List.range', Try.sizeOf3, p0, p1, q0, q1, e1, h1, h2]

end Go.Proofs.Ythoimecljfcjmaa
