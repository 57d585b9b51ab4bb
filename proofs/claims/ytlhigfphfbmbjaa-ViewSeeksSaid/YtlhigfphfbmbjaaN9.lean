/- run.gather; pair's methods; run.cut; Firsts, Seconds, Turn. -/
import Derived.Test.YtlhigfphfbmbjaaN6
import Derived.Test.YtlhigfphfbmbjaaN7
import Derived.Test.YtlhigfphfbmbjaaN8
namespace Go.Proofs.Kit
open Go.RowKit
theorem SegP.one {w : World} {t : TypeId} (a b : Int) : SegP (w.alloc (.cells #[.int .u64 a, .int .u64 b] t)) (.slice (some ⟨w.heap.size, 0, none⟩) 1 1) [(a, b)] :=
  SegP.of_blk (Blk.new _ _ _) (by simp) (by omega) (by simp [flat])
end Go.Proofs.Kit
namespace Go.Proofs.Ytlhigfphfbmbjaa
open Go.RowKit Go.Proofs.Kit

theorem infou : ∃ i, Try.prog.info? 51 = some i ∧ i.zero = some (.int .u64 0) ∧ i.size = 1 ∧ i.bytes = 8 := info_parts (by kernel_rfl)
/-! ### cut -/
end Go.Proofs.Ytlhigfphfbmbjaa

