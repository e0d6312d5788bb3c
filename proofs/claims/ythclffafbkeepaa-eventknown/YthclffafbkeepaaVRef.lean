/- What the reference answers of versions: the same, said plainly. -/
import Derived.Test.YthclffafbkeepaaVer
namespace Go.Proofs.Ythclffafbkeepaa
open Go.RowKit

end Go.Proofs.Ythclffafbkeepaa
