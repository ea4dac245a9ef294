/- What the card of CalWrite lists: the library's tables and its variable for the type of errors, as the door's own run lays them. -/
import Derived.Test.YtdanfekodmncmaaDoorDO1
import Derived.Test.YtdanfekodmncmaaDoorNW
import Derived.Lib.LaidTab
import Derived.Stop.LaidErr
namespace Go.Proofs.YtdanfekodmncmaaDoor
set_option linter.unusedVariables false
set_option linter.unusedSimpArgs false
open Go.RowKit Go

theorem errT_of_laid2 {W : World} (h : laidMetH Tryd.prog Rows.fnExactCalWriteRow.laid W) : ErrT W := by
  have h' : laidMet Tryd.prog [("math/bits.deBruijn32tab", Rows.laid_math_bits_deBruijn32tab), ("math/bits.deBruijn64tab", Rows.laid_math_bits_deBruijn64tab), ("internal/strconv.uint64pow10", Rows.laid_internal_strconv_uint64pow10)] W ∧ handlesMet Tryd.prog [("errors.errorType", Rows.laid_errors_errorType)] W := h
  exact errT_of_handles h'.2
theorem tab_of_laid2 {W : World} (h : laidMetH Tryd.prog Rows.fnExactCalWriteRow.laid W) : Tab W := by
  have h' : laidMet Tryd.prog [("math/bits.deBruijn32tab", Rows.laid_math_bits_deBruijn32tab), ("math/bits.deBruijn64tab", Rows.laid_math_bits_deBruijn64tab), ("internal/strconv.uint64pow10", Rows.laid_internal_strconv_uint64pow10)] W ∧ handlesMet Tryd.prog [("errors.errorType", Rows.laid_errors_errorType)] W := h
  exact Lib.tabIs_of_head (k := .u64) (zs := Lib.pow10Tab) (t := 129) (e := 122) (n := 20) (g := 1) (by kernel_rfl) (by kernel_rfl) Tryd.underlying129 Tryd.underlying122 (by kernel_rfl) (by kernel_rfl) (show laidMet Tryd.prog (("internal/strconv.uint64pow10", Lib.tabData .u64 Lib.pow10Tab) :: _) W from h'.1.tail.tail)
theorem door_met2 (os : Os) (args : Array Value) : laidMetH Tryd.prog Rows.fnExactCalWriteRow.laid ((World.doorLaid Tryd.prog 40 os).forCall (fun _ _ => 0) ⟨#[], args, []⟩).memory :=
  laidMetH_of_parts3 (fuel := 8) (laidMet_of_run' 8 (by kernel_rfl) (by kernel_rfl)) (by kernel_rfl) (by kernel_rfl)
end Go.Proofs.YtdanfekodmncmaaDoor
