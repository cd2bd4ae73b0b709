import Derived.Test.YtaogjiffnebnkaaU2
set_option linter.unusedVariables false
set_option linter.unusedSimpArgs false
namespace Go.Proofs.Ytaogjiffnebnkaa
open Go.RowKit Go.Shelf Go.Maps
attribute [local go_sem] run_store_float
end Go.Proofs.Ytaogjiffnebnkaa
