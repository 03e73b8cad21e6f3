/- pieces -/
import Derived.Test.YtehainbhoflpnaaGreatDoorK0
namespace Go.Proofs
open Go.Shelf
end Go.Proofs
