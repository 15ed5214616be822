/- The builtins min and max of two whole numbers. -/
import Derived.Test.YtaoipbndmfjmhaaBase
namespace Go.Proofs.Ytaoipbndmfjmhaa
namespace Fm
theorem min_two (a m b : Int) (hm : m = min a b) (t : Array TypeId) (ty : TypeId) (W : World) : (Builtin.min_ t ty #[.int .i64 a, .int .i64 b]).run Try.prog W = .ok (.int .i64 m) W := by
  simp only [Builtin.min_, Builtin.min2, List.foldlM, bind_pure]
  simp only [Sem.run_pure, Result.ok.injEq, Value.int.injEq, true_and, and_true]
  omega
theorem max_two (a m b : Int) (hm : m = max a b) (t : Array TypeId) (ty : TypeId) (W : World) : (Builtin.max_ t ty #[.int .i64 a, .int .i64 b]).run Try.prog W = .ok (.int .i64 m) W := by
  simp only [Builtin.max_, Builtin.max2, List.foldlM, bind_pure]
  simp only [Sem.run_pure, Result.ok.injEq, Value.int.injEq, true_and, and_true]
  omega
end Fm
end Go.Proofs.Ytaoipbndmfjmhaa
