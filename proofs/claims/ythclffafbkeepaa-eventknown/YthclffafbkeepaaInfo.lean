/- What the program's types of bytes are. -/
import Derived.Test.YthclffafbkeepaaRows
import Derived.Test.YthclffafbkeepaaBase
namespace Go.Proofs.Ythclffafbkeepaa

theorem Try.infoU8 : (Try.prog.info? 5).map (fun i => (i.zero, i.size, i.bytes)) = some (some (.int .u8 0), 1, 1) := by kernel_rfl

end Go.Proofs.Ythclffafbkeepaa
