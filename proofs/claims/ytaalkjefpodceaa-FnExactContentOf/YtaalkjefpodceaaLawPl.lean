/- The exact laws of chapter 5, walked, given what the program's own functions answer. -/
import Derived.Test.YtaalkjefpodceaaPl
import Derived.Test.YtaalkjefpodceaaUtil
namespace Go.Proofs.Ytaalkjefpodceaa
open Go.RowKit

end Go.Proofs.Ytaalkjefpodceaa