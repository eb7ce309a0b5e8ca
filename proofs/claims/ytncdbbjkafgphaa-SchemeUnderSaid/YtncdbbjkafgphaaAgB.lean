/- agree.Agree, walked. -/
import Derived.Test.YtncdbbjkafgphaaAgA
namespace Go.Proofs.Ytncdbbjkafgphaa
open Go Go.RowKit Go.Shelf
open Tp (T)

attribute [local go_sem] Oper.semAt_some

end Go.Proofs.Ytncdbbjkafgphaa
