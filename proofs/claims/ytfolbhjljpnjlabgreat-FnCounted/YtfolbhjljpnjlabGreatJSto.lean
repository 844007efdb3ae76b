/- What is stored (chapter 9): what the program's own function answers. -/
import Derived.Test.YtfolbhjljpnjlabGreatX1
import Derived.Test.YtfolbhjljpnjlabGreatTbi
import Derived.Test.YtfolbhjljpnjlabGreatSti
namespace Go.Proofs.YtfolbhjljpnjlabGreat
open Go.RowKit

theorem implStored_all : StoredC := implStored_any implClaims_any implTable_any
end Go.Proofs.YtfolbhjljpnjlabGreat
