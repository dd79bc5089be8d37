/-
  Imports of tactics that cut a walk. Nothing is proved here.
-/
import Derived.Test.YtnjpehgmlfenbaaMem
import Derived.Deep.DeepCutAuto
import Derived.Deep.Cut
import Derived.Deep.RegionLaw
import Derived.Deep.AppendLies
import Derived.Deep.RegionWith
namespace Go.Proofs.Ytnjpehgmlfenbaa
end Go.Proofs.Ytnjpehgmlfenbaa
