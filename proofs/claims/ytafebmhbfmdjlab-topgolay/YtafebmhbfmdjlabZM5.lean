/- Numbers to the base 64: a digit set, the others stay. No Go text here. -/
import Derived.Test.YtafebmhbfmdjlabZM4
namespace Go.Proofs.Ytafebmhbfmdjlab

end Go.Proofs.Ytafebmhbfmdjlab
