/- agree.both's closure, walked. -/
import Derived.Test.YtncdbbjkafgphaaAgR
import Derived.Deep.QuietTactic
import Derived.BigQuiet
namespace Go.Proofs.Ytncdbbjkafgphaa
open Go Go.RowKit Go.Shelf
open Tp (T)

attribute [local go_sem] Oper.semAt_some

end Go.Proofs.Ytncdbbjkafgphaa
