/- Written and Pictured (chapter 17): what the program's own functions answer, given what the row's list says. -/
import Derived.Test.YtiokfhdkbpoadabGreatDoorDkw
import Derived.Test.YtiokfhdkbpoadabGreatDoorDkp
import Derived.Test.YtiokfhdkbpoadabGreatDoorW1
import Derived.Test.YtiokfhdkbpoadabGreatDoorQH
import Derived.Test.YtiokfhdkbpoadabGreatDoorX2
import Derived.Test.YtiokfhdkbpoadabGreatDoorQS
import Derived.Test.YtiokfhdkbpoadabGreatDoorQP
namespace Go.Proofs.YtiokfhdkbpoadabGreatDoor
open Go.RowKit

/-- Function 6. -/
theorem implWritten_all {W : World} {aN aM aG : Addr} (hG : GlE W aN aM aG) : WrittenC W :=
  implWritten_any implTable_any implFirstEntry_any implEntryAt_any implFirst_any (implSound_any implClaims_any implLoose_all implCounts_all implStored_all implTable_any hG) (implCounted_all W) (implOwned_all W)
/-- Function 8. -/
theorem implPictured_all {W : World} {aN aM aG : Addr} (hG : GlE W aN aM aG) : PicturedC W :=
  implPictured_any implTable_any (implSound_any implClaims_any implLoose_all implCounts_all implStored_all implTable_any hG) (implCounted_all W) (implOwned_all W)

end Go.Proofs.YtiokfhdkbpoadabGreatDoor