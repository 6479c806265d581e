/- Texts of ours, one behind the other: KF6 KF7 KF8 KF9 KF10 KF11 KF12 KF13 KF14 KF15. -/
import Derived.Test.YtbnkekeeceicaaaZKF5
import Derived.Test.YtbnkekeeceicaaaZX19
import Derived.Test.YtbnkekeeceicaaaZI24
import Derived.Test.YtbnkekeeceicaaaZL10
/- NetSends: ways through it, over what its calls tell (printed by make/kf6.py). -/
namespace Go.Proofs.Ytbnkekeeceicaaa
open Go.RowKit Go.Sort
set_option linter.unusedVariables false

end Go.Proofs.Ytbnkekeeceicaaa

/- NetSends: ways through it, over what its calls tell (printed by make/kf6.py). -/
namespace Go.Proofs.Ytbnkekeeceicaaa
open Go.RowKit Go.Sort
set_option linter.unusedVariables false

end Go.Proofs.Ytbnkekeeceicaaa

/- NetSends: ways through it, over what its calls tell (printed by make/kf6.py). -/
namespace Go.Proofs.Ytbnkekeeceicaaa
open Go.RowKit Go.Sort
set_option linter.unusedVariables false

end Go.Proofs.Ytbnkekeeceicaaa

/- NetSends: ways through it, over what its calls tell (printed by make/kf6.py). -/
namespace Go.Proofs.Ytbnkekeeceicaaa
open Go.RowKit Go.Sort
set_option linter.unusedVariables false

end Go.Proofs.Ytbnkekeeceicaaa

/- NetSends: ways through it, over what its calls tell (printed by make/kf6.py). -/
namespace Go.Proofs.Ytbnkekeeceicaaa
open Go.RowKit Go.Sort
set_option linter.unusedVariables false

end Go.Proofs.Ytbnkekeeceicaaa

/- NetSends: ways through it, over what its calls tell (printed by make/kf6.py). -/
namespace Go.Proofs.Ytbnkekeeceicaaa
open Go.RowKit Go.Sort
set_option linter.unusedVariables false

end Go.Proofs.Ytbnkekeeceicaaa

/- NetSends: whatever it is given. -/
namespace Go.Proofs.Ytbnkekeeceicaaa
open Go.RowKit Go.Sort

end Go.Proofs.Ytbnkekeeceicaaa

/- NetSends over a field: its ways joined (printed by make/kf13.py). -/
namespace Go.Proofs.Ytbnkekeeceicaaa
open Go.RowKit Go.Sort

end Go.Proofs.Ytbnkekeeceicaaa

/- NetSends: whatever it is given. -/
namespace Go.Proofs.Ytbnkekeeceicaaa
open Go.RowKit Go.Sort

end Go.Proofs.Ytbnkekeeceicaaa

/- NetSends: whatever it is given (the walk). -/
namespace Go.Proofs.Ytbnkekeeceicaaa
open Go.RowKit Go.Sort

end Go.Proofs.Ytbnkekeeceicaaa
