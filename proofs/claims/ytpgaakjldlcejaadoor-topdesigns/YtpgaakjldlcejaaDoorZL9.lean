/- PolySays: where both may be. -/
import Derived.Test.YtpgaakjldlcejaaDoorZL1
namespace Go.Proofs.YtpgaakjldlcejaaDoor
open Go.RowKit Go.Sort

end Go.Proofs.YtpgaakjldlcejaaDoor
