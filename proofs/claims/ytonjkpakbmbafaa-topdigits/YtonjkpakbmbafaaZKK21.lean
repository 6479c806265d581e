/- DigitsSign's walk. -/
import Derived.Test.YtonjkpakbmbafaaZKK12
import Derived.Test.YtonjkpakbmbafaaZKK20
namespace Go.Proofs.Ytonjkpakbmbafaa
open Go.RowKit Go.Maps

theorem below_two {a b c : World} (h : Below a.heap.size a b) (h2 : Below b.heap.size b c) : Below a.heap.size a c :=
  h.trans ⟨h2.os, h2.tape, h2.output, h2.size, fun k hk => h2.block k (by have := h.size; omega)⟩

end Go.Proofs.Ytonjkpakbmbafaa
