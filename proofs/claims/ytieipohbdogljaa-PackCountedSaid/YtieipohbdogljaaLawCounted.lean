/- PackCounted, for every input. -/
import Derived.Test.YtieipohbdogljaaCounted
import Derived.Test.YtieipohbdogljaaFrame
namespace Go.Proofs.Ytieipohbdogljaa
end Go.Proofs.Ytieipohbdogljaa
