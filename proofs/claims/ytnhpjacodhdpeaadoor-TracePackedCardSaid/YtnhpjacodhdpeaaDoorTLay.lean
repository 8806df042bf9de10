/-
  What a row's condition says of the table of trailing zeros; a world that meets it.
-/
import Derived.Test.YtnhpjacodhdpeaaDoorRows
import Derived.Test.YtnhpjacodhdpeaaDoorTrF
import Derived.LaidSub
import Derived.LaidMore
import Derived.LaidLaws
import Derived.LaidHandle
import Derived.Lib.LaidTab
import Derived.Stop.Joined
import Derived.ProofKit
namespace Go.Proofs.YtnhpjacodhdpeaaDoor
open Go.ChangeShapes Go.WideShapes Go.ChangeAt Go.RowKit
set_option maxRecDepth 100000

abbrev laid3 : List (String × DataW Unit) := [("math/bits.deBruijn32tab", Rows.laid_math_bits_deBruijn32tab), ("math/bits.deBruijn64tab", Rows.laid_math_bits_deBruijn64tab), ("internal/strconv.uint64pow10", Rows.laid_internal_strconv_uint64pow10)]
def tab64 : List Int := [0, 1, 56, 2, 57, 49, 28, 3, 61, 58, 42, 50, 38, 29, 17, 4, 62, 47, 59, 36, 45, 43, 51, 22, 53, 39, 33, 30, 24, 18, 12, 5, 63, 55, 48, 27, 60, 41, 37, 16, 46, 35, 44, 21, 52, 32, 23, 11, 54, 26, 40, 15, 34, 20, 31, 10, 25, 14, 19, 9, 13, 8, 7, 6]
theorem gT64 : Tryd.prog.globalNamed "math/bits.deBruijn64tab" = some 3 := by kernel_rfl
theorem tT64 : (Tryd.prog.globals[3]?).map (·.type) = some 253 := by kernel_rfl
theorem tz_of_laid {W : World} (h : laidMetH Tryd.prog laid3 W) : TZ W := by
  have h2 : laidMet Tryd.prog laid3 W := by
    have e := MakeChecks.laidMetH_plain Tryd.prog laid3 W (by kernel_rfl)
    rw [e] at h; exact h
  have h3 := h2.filter (fun x => x.1 == "math/bits.deBruijn64tab")
  have e : (laid3.filter fun x => x.1 == "math/bits.deBruijn64tab") = [("math/bits.deBruijn64tab", Lib.tabData .u8 tab64)] := by kernel_rfl
  rw [e] at h3
  have h4 := Lib.tabIs_of_head gT64 tT64 Tryd.underlying253 Tryd.underlying5 (by kernel_rfl) (by kernel_rfl) h3
  exact h4.cell gT64 15 (by decide)
/-- The door's own heap meets the condition. -/
theorem door_met (os : Os) (args : Array Value) : laidMetH Tryd.prog laid3 ((World.doorLaid Tryd.prog 4000 os).forCall (fun _ _ => 0) ⟨#[], args, []⟩).memory :=
  laidMetH_of_parts3 (fuel := 8) (laidMet_of_run' 8 (by kernel_rfl) (by kernel_rfl)) (by kernel_rfl) (by kernel_rfl)
end Go.Proofs.YtnhpjacodhdpeaaDoor
