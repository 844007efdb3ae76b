/- Owned (chapter 15): what the program's own function answers. -/
import Derived.Test.YtieknpkbmccimaaOwi
import Derived.Test.YtieknpkbmccimaaX2
namespace Go.Proofs.Ytieknpkbmccimaa
open Go.RowKit

/-- Function 6. -/
theorem implOwned_all (W : World) : OwnedC W := implOwned_any implClaims_any implLoose_all implCounts_all implTable_any W

end Go.Proofs.Ytieknpkbmccimaa
