import Derived.Test.YtdmeeghgbiffmaaDoorT14
import Derived.KernelRfl
namespace Go.Proofs.YtdmeeghgbiffmaaDoor
def abcF : Nat → UInt8 := fun i => if i = 0 then 97 else if i = 1 then 98 else 99
def noF : Nat → UInt8 := fun _ => 0
set_option maxRecDepth 100000
theorem pre_abc : (hexL (hashB abcF 3)).take 8 = [98, 97, 55, 56, 49, 54, 98, 102] := by kernel_rfl
theorem pre_no : (hexL (hashB noF 0)).take 8 = [101, 51, 98, 48, 99, 52, 52, 50] := by kernel_rfl
theorem pre_no2 : (hexL (hashB (hashB noF 0) 32)).take 8 = [53, 100, 102, 54, 101, 48, 101, 50] := by kernel_rfl
end Go.Proofs.YtdmeeghgbiffmaaDoor
