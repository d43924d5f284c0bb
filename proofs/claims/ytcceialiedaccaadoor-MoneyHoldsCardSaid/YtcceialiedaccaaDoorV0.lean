/- What the rows' list of variables gives. -/
import Derived.Test.YtcceialiedaccaaDoorRows
import Derived.Test.YtcceialiedaccaaDoorA6
import Derived.Lib.LaidTab
import Derived.Stop.LaidErr
namespace Go.Proofs.YtcceialiedaccaaDoor
open Go.ChangeShapes Go.RowKit

theorem g2 : Tryd.prog.globalNamed "internal/strconv.uint64pow10" = some 2 := by kernel_rfl
theorem g2Type : (Tryd.prog.globals[2]?).map (·.type) = some 115 := by kernel_rfl
theorem g4 : Tryd.prog.globalNamed "strconv.ErrSyntax" = some 4 := by kernel_rfl
theorem g4Type : (Tryd.prog.globals[4]?).map (·.type) = some 75 := by kernel_rfl
theorem g5 : Tryd.prog.globalNamed "strconv.ErrRange" = some 5 := by kernel_rfl
theorem g5Type : (Tryd.prog.globals[5]?).map (·.type) = some 75 := by kernel_rfl
theorem cells115 : Tryd.prog.cellsOf 115 = 20 := by kernel_rfl
theorem cells89 : Tryd.prog.cellsOf 89 = 1 := by kernel_rfl
theorem cells135 : Tryd.prog.cellsOf 135 = 1 := by kernel_rfl
theorem cells9 : Tryd.prog.cellsOf 9 = 1 := by kernel_rfl
theorem star : "*" ++ "errors.errorString" = "*errors.errorString" := by decide
theorem row133 (u : TypeId) (h : Tryd.prog.typeName? 3 u = some "*errors.errorString") : u = 133 :=
  typeName_ptr_named (nm := "errors.errorString") (by rw [star]; kernel_rfl) (by kernel_rfl) (by decide) u (by rw [star]; exact h)
theorem vs_of_laid {W : World} (h : laidMetH Tryd.prog Rows.moneyMidsRow.laid W) : Vs W := by
  have h0 : laidMet Tryd.prog Rows.moneyMidsRow.laid W := h
  have h2 := laidMet.tail (laidMet.tail h0)
  have h4 := laidMet.tail (laidMet.tail h2)
  have h5 := laidMet.tail h4
  have t2 : Lib.TabIs Tryd.prog W "internal/strconv.uint64pow10" .u64 Lib.pow10Tab :=
    Lib.tabIs_of_head (e := 89) g2 g2Type Tryd.underlying115 Tryd.underlying89 cells89 cells115 h2
  obtain ⟨a4, s4, hv4, _, _, _⟩ := laid_sentinel h4 g5 g5Type Tryd.underlying75 row133 Tryd.underlying133 Tryd.underlying135 rfl rfl Tryd.underlying9 cells135 cells9
  obtain ⟨a5, s5, hv5, _, _, _⟩ := laid_sentinel h5 g4 g4Type Tryd.underlying75 row133 Tryd.underlying133 Tryd.underlying135 rfl rfl Tryd.underlying9 cells135 cells9
  exact ⟨t2, ⟨_, _, hv5⟩, ⟨_, _, hv4⟩⟩
end Go.Proofs.YtcceialiedaccaaDoor
