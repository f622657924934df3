/- What a statement's own device is asked by the statement's helpers; conditions as DevOwn's. -/
import Derived.Test.YtcpapdpnnlnemaaDevOwn
import Derived.Test.YtcpapdpnnlnemaaDevFull
import Derived.Test.YtcpapdpnnlnemaaDevPower
namespace Go.Proofs.Ytcpapdpnnlnemaa
open Go.RowKit Go.Maps

section
variable {w0 w : World} {b : Nat} {D : Dv} {v : Value} {l : Bytes}

end
end Go.Proofs.Ytcpapdpnnlnemaa
