/- What the walks of the label layer share. -/
import Derived.Test.YtgodmfjcccakbaaDoorBase
import Derived.Deep.RegionHeld3
import Derived.RegionTactic
import Derived.Outline
import Derived.OneCell
import Derived.Laws.CopyOwn
import Derived.Deep.Draws
