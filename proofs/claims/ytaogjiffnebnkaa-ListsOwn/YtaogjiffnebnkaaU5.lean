import Derived.Test.YtaogjiffnebnkaaU3
set_option linter.unusedVariables false
set_option linter.unusedSimpArgs false
namespace Go.Proofs.Ytaogjiffnebnkaa
open Go.RowKit Go.Shelf Go.Maps
end Go.Proofs.Ytaogjiffnebnkaa
