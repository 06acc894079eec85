import Derived.Test.YtgodmfjcccakbaaDoorVec
namespace Go.Proofs.YtgodmfjcccakbaaDoor
open Go.RowKit

end Go.Proofs.YtgodmfjcccakbaaDoor
