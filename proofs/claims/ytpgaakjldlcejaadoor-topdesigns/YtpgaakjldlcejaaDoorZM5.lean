/- Numbers to the base 64: a digit set, the others stay. No Go text here. -/
import Derived.Test.YtpgaakjldlcejaaDoorZM4
namespace Go.Proofs.YtpgaakjldlcejaaDoor

end Go.Proofs.YtpgaakjldlcejaaDoor
