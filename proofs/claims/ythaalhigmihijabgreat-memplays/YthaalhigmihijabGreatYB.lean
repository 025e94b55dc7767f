/- The statements' alive. -/
import Derived.Test.YthaalhigmihijabGreatYA
namespace Go.Proofs.YthaalhigmihijabGreat
open Go.RowKit

end Go.Proofs.YthaalhigmihijabGreat
