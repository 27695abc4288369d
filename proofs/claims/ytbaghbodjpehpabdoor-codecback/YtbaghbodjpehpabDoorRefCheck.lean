/- The document's Check. -/
import Derived.Test.YtbaghbodjpehpabDoorRefHas
namespace Go.Proofs.YtbaghbodjpehpabDoor
open Go.RowKit Go.Maps
attribute [local go_sem ↓] Go.wp_at_zero Go.wp_at_succ

end Go.Proofs.YtbaghbodjpehpabDoor
