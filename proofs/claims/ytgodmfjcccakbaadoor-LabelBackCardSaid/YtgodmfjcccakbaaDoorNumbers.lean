import Derived.Test.YtgodmfjcccakbaaDoorLabBase
namespace Go.Proofs.YtgodmfjcccakbaaDoor
open Go.RowKit

end Go.Proofs.YtgodmfjcccakbaaDoor
