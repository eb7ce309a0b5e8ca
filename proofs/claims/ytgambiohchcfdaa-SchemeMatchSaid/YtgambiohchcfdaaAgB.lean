/- agree.Agree, walked. -/
import Derived.Test.YtgambiohchcfdaaAgA
namespace Go.Proofs.Ytgambiohchcfdaa
open Go Go.RowKit Go.Shelf
open Tp (T)

attribute [local go_sem] Oper.semAt_some

end Go.Proofs.Ytgambiohchcfdaa
