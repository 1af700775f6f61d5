/- Pieces: arrays of bools as values. -/
import Derived.Test.YtgnlcehpajbnoaaA
import Derived.Deep.RegionWith
namespace Go.Proofs.Ytgnlcehpajbnoaa
open Go.RowKit
theorem eq11 (a0 a1 a2 a3 a4 a5 a6 a7 a8 a9 a10 : Bool) (w : World) : (Op.equal 101 (.agg #[.bool a0, .bool a1, .bool a2, .bool a3, .bool a4, .bool a5, .bool a6, .bool a7, .bool a8, .bool a9, .bool a10]) (.agg #[.bool false, .bool false, .bool false, .bool false, .bool false, .bool false, .bool false, .bool false, .bool false, .bool false, .bool false])).run Try.prog w = .ok (!(a0 || a1 || a2 || a3 || a4 || a5 || a6 || a7 || a8 || a9 || a10)) w := by
  cases a0 with
  | true => kernel_rfl
  | false =>
    cases a1 with
    | true => kernel_rfl
    | false =>
      cases a2 with
      | true => kernel_rfl
      | false =>
        cases a3 with
        | true => kernel_rfl
        | false =>
          cases a4 with
          | true => kernel_rfl
          | false =>
            cases a5 with
            | true => kernel_rfl
            | false =>
              cases a6 with
              | true => kernel_rfl
              | false =>
                cases a7 with
                | true => kernel_rfl
                | false =>
                  cases a8 with
                  | true => kernel_rfl
                  | false =>
                    cases a9 with
                    | true => kernel_rfl
                    | false =>
                      cases a10 with
                      | true => kernel_rfl
                      | false =>
                        kernel_rfl
end Go.Proofs.Ytgnlcehpajbnoaa
