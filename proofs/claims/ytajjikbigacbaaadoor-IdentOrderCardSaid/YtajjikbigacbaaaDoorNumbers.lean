import Derived.Test.YtajjikbigacbaaaDoorLabBase
namespace Go.Proofs.YtajjikbigacbaaaDoor
open Go.RowKit

end Go.Proofs.YtajjikbigacbaaaDoor
