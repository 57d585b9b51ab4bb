/- few of stage 11's laws; tiers.copyOf; the tier's type. -/
import Derived.Test.YtlhigfphfbmbjaaW1
import Derived.Test.YtlhigfphfbmbjaaN4
import Derived.Test.YtlhigfphfbmbjaaKitB
namespace Go.Proofs.Ytlhigfphfbmbjaa
open Go.RowKit Go.Proofs.Kit
theorem infoT : ∃ i, Try.prog.info? 24 = some i ∧ i.zero = some (.agg #[.slice none 0 0, .slice none 0 0]) ∧ i.size = 2 ∧ i.bytes = 48 := info_parts (by kernel_rfl)
theorem tPT : (53 : Nat) ≠ 24 := by decide
end Go.Proofs.Ytlhigfphfbmbjaa

