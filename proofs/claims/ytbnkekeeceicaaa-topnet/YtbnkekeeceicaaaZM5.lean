/- Numbers to the base 64: a digit set, the others stay. No Go text here. -/
import Derived.Test.YtbnkekeeceicaaaZM4
namespace Go.Proofs.Ytbnkekeeceicaaa

end Go.Proofs.Ytbnkekeeceicaaa
