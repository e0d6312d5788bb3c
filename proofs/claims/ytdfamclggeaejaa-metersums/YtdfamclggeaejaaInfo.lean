/- What the program's types of bytes are. -/
import Derived.Test.YtdfamclggeaejaaRows
import Derived.Test.YtdfamclggeaejaaBase
namespace Go.Proofs.Ytdfamclggeaejaa

theorem Try.infoU8 : (Try.prog.info? 5).map (fun i => (i.zero, i.size, i.bytes)) = some (some (.int .u8 0), 1, 1) := by kernel_rfl

end Go.Proofs.Ytdfamclggeaejaa
