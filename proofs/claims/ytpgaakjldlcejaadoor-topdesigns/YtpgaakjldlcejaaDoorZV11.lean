/- The reference's polynomials: parts (Factors), the walk. -/
import Derived.Test.YtpgaakjldlcejaaDoorZV7
namespace Go.Proofs.YtpgaakjldlcejaaDoor
open Go.RowKit Go.Sort

end Go.Proofs.YtpgaakjldlcejaaDoor
