/- The reference's polynomials: quotients and rests (PDiv). -/
import Derived.Test.YtpgaakjldlcejaaDoorZU10
namespace Go.Proofs.YtpgaakjldlcejaaDoor
open Go.RowKit Go.Sort

end Go.Proofs.YtpgaakjldlcejaaDoor
