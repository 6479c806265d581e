/- A field's table, made (build). -/
import Derived.Test.YtbfkacnpbelmlaaZA1
import Derived.Laws.Tables
namespace Go.Proofs.Ytbfkacnpbelmlaa
open Go.RowKit

end Go.Proofs.Ytbfkacnpbelmlaa
