/- What may come, held against another. -/
import Derived.Test.YtopokicdgdjgkaaBits
import Derived.Test.YtopokicdgdjgkaaRows
namespace Go.Proofs.Ytopokicdgdjgkaa
open Go.RowKit
theorem Try.eqBytes9 (a b c d a' b' c' d' : Int) (w : World) : (Op.equalIn 9999 39 (.agg #[.int .u64 a, .int .u64 b, .int .u64 c, .int .u64 d]) (.agg #[.int .u64 a', .int .u64 b', .int .u64 c', .int .u64 d'])).run Try.prog w = .ok (a == a' && b == b' && c == c' && d == d') w := by
  have u3 := Try.underlying37
  have a3 := Try.isAgg37
  have z3 := Try.sizeOf37
  rw [show (9999 : Nat) = 9998 + 1 from rfl, Op.equalIn]
  simp only [Sem.run_bind, run_underlying Try.underlying39, Result.andThen_ok]
  simp only [Std.Legacy.Range.forIn_eq_forIn_range', Std.Legacy.Range.size, Nat.sub_zero, Nat.add_sub_cancel, Nat.div_one, List.range'_succ, List.range'_zero, List.forIn_cons, List.forIn_nil]
  go_simp
  by_cases h1 : a = a' <;> by_cases h2 : b = b' <;> by_cases h3 : c = c' <;> by_cases h4 : d = d' <;> simp [h1, h2, h3, h4]
theorem Try.eqFollow (a b c d a' b' c' d' : Int) (e e' : Bool) (w : World) : (Op.equalIn 10000 55 (.agg #[.int .u64 a, .int .u64 b, .int .u64 c, .int .u64 d, .bool e]) (.agg #[.int .u64 a', .int .u64 b', .int .u64 c', .int .u64 d', .bool e'])).run Try.prog w = .ok (a == a' && b == b' && c == c' && d == d' && e == e') w := by
  have u3 := Try.underlying37
  have a3 := Try.isAgg37
  have z3 := Try.sizeOf37
  have u9 := Try.underlying4
  have a9 := Try.isAgg4
  have z9 := Try.sizeOf4
  have a5 := Try.isAgg39
  have z5 := Try.sizeOf39
  have E9 := Try.eqBytes9 a b c d a' b' c' d'
  have F : (Try.prog.fieldsOf 55).toList.map (fun f => (f.name, f.type, f.offset)) = [("Bytes", 39, 0), ("End", 4, 4)] := by kernel_rfl
  rw [show (10000 : Nat) = 9999 + 1 from rfl, run_equalIn_agg w 9999 _ _ _ (by kernel_rfl) (by kernel_rfl)]
  generalize (Try.prog.fieldsOf 55).toList = fs at F
  have hl : fs.length = 2 := by simpa using congrArg List.length F
  match fs, hl, F with
  | [f0, f1], _, F =>
    simp at F
    obtain ⟨⟨n0, t0, o0⟩, ⟨n1, t1, o1⟩⟩ := F
    simp only [Op.eqFields, n0, t0, o0, n1, t1, o1]
    go_simp
    by_cases h1 : a = a' <;> by_cases h2 : b = b' <;> by_cases h3 : c = c' <;> by_cases h4 : d = d' <;> by_cases h5 : e = e' <;> simp [h1, h2, h3, h4, h5]
end Go.Proofs.Ytopokicdgdjgkaa
