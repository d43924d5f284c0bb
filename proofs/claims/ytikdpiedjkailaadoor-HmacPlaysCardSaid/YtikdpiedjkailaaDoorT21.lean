import Derived.Test.YtikdpiedjkailaaDoorRows
import Derived.Test.YtikdpiedjkailaaDoorT6
import Derived.Lib.LaidTab
namespace Go.Proofs.YtikdpiedjkailaaDoor
open Go.ChangeShapes Go.RowKit

theorem gTab : Tryd.prog.globalNamed "tallystick/sha.constants" = some 0 := by kernel_rfl
theorem gTabType : (Tryd.prog.globals[0]?).map (·.type) = some 100 := by kernel_rfl
theorem cells69 : Tryd.prog.cellsOf 100 = 64 := by kernel_rfl
theorem cells24 : Tryd.prog.cellsOf 79 = 1 := by kernel_rfl
theorem table {W : World} (h : laidMetH Tryd.prog Rows.hmacTagsRow.laid W) : Lib.TabIs Tryd.prog W "tallystick/sha.constants" .u32 (kts.map Int.ofNat) :=
  Lib.tabIs_of_head (rest := []) gTab gTabType Tryd.underlying100 Tryd.underlying79 cells24 cells69 h
theorem kts_lt (t : Nat) (ht : t < 64) : kts.getD t 0 < 4294967296 := by
  revert t; decide
theorem kat_of_laid {W : World} (h : laidMetH Tryd.prog Rows.hmacTagsRow.laid W) : KAt W := fun t ht => by
  have hc := (table h).cell gTab t (by rw [List.length_map]; exact ht)
  rw [hc]
  unfold kt wv
  rw [un_ofNat _ (kts_lt t ht)]
  simp [List.getD, ht, show kts.length = 64 from rfl]
end Go.Proofs.YtikdpiedjkailaaDoor
