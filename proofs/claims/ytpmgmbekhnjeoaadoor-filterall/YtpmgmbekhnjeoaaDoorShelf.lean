/- No contract of the library is wanted here. -/
import Derived.Test.YtpmgmbekhnjeoaaDoorRows
namespace Go.Proofs.YtpmgmbekhnjeoaaDoor
end Go.Proofs.YtpmgmbekhnjeoaaDoor
