/- Bytes of one's own: what is known of the type. -/
import Derived.Test.YtikdpiedjkailaaDoorT9
import Derived.Laws.AppendOwn
namespace Go.Proofs.YtikdpiedjkailaaDoor
open Go.RowKit

theorem info5 : (Tryd.prog.info? 5).map (fun i => (i.zero, i.size, i.bytes)) = some (some (.int .u8 0), 1, 1) := by kernel_rfl
theorem one_at (wr : World) (v : Value) (t : TypeId) : ∀ j u, [v][j]? = some u → (wr.alloc (.cells #[v] t)).cell? ((⟨wr.heap.size, 0, none⟩ : Addr).add j) = some u := fun j u h => by
  match j, h with
  | 0, h =>
    have := cell_fresh wr #[v] t 0
    rw [show (⟨wr.heap.size, 0, none⟩ : Addr).add 0 = ⟨wr.heap.size, 0, none⟩ by simp [Addr.add], this]
    exact h
end Go.Proofs.YtikdpiedjkailaaDoor
