/- Numbers to the base 64: a digit set, the others stay. No Go text here. -/
import Derived.Test.YtppggchhkckobaaGreatZM4
namespace Go.Proofs.YtppggchhkckobaaGreat

end Go.Proofs.YtppggchhkckobaaGreat
