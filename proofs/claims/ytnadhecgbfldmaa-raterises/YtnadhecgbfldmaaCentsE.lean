import Derived.Test.YtnadhecgbfldmaaCentsD
import Derived.Test.YtnadhecgbfldmaaCentsMul
namespace Go.Proofs.Ytnadhecgbfldmaa
open Go.RowKit
end Go.Proofs.Ytnadhecgbfldmaa
