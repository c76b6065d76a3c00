/- The document's own test of bounds. -/
import Derived.Test.YtpfihhilgeihoaaBase
import Derived.WalkKit
import Derived.WalkSpells
import Derived.WalkLawsBesides
namespace Go.Proofs.Ytpfihhilgeihoaa
open Go.RowKit
end Go.Proofs.Ytpfihhilgeihoaa
