/- tiers.copied. -/
import Derived.Test.YtlhigfphfbmbjaaW3
namespace Go.Proofs.Ytlhigfphfbmbjaa
open Go.RowKit Go.Proofs.Kit
end Go.Proofs.Ytlhigfphfbmbjaa

