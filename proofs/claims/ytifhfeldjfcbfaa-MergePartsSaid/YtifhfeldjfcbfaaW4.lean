/- tiers.copied. -/
import Derived.Test.YtifhfeldjfcbfaaW3
namespace Go.Proofs.Ytifhfeldjfcbfaa
open Go.RowKit Go.Proofs.Kit
end Go.Proofs.Ytifhfeldjfcbfaa

