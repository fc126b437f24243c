/- What Same comes to over two slices of bytes: are the lists the same. Conditions: each lies in memory, its length has room. -/
import Derived.Test.YtpngcocmjbkfgaaRows
import Derived.Test.YtpngcocmjbkfgaaMem
import Derived.LoopTactic
import Derived.BigQuiet
import Derived.Deep.QuietTactic
namespace Go.Proofs.Ytpngcocmjbkfgaa
open Go.RowKit
theorem Try.info5 : (Try.prog.info? 5).map (fun i => (i.zero, i.size, i.bytes)) = some (some (.int .u8 0), 1, 1) := by kernel_rfl
end Go.Proofs.Ytpngcocmjbkfgaa
