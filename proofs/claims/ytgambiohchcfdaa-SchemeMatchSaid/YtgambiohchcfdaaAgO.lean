/- agree.both's closure, walked. -/
import Derived.Test.YtgambiohchcfdaaAgN
import Derived.Deep.QuietTactic
import Derived.BigQuiet
namespace Go.Proofs.Ytgambiohchcfdaa
open Go Go.RowKit Go.Shelf
open Tp (T)

attribute [local go_sem] Oper.semAt_some

end Go.Proofs.Ytgambiohchcfdaa
