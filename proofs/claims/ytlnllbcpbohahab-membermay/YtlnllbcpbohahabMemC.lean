/- Contracts of layer 11: Check of one member, of all; the reference's Check. -/
import Derived.Test.YtlnllbcpbohahabMemB
import Derived.Deep.QuietTactic
namespace Go.Proofs.Ytlnllbcpbohahab
open Go.RowKit Go.Recs
set_option linter.unusedVariables false
set_option linter.unusedSimpArgs false

def accsE (l : List MM.Ac) : Int := if 16 < l.length then 8 else MM.accE MM.nil l

end Go.Proofs.Ytlnllbcpbohahab
