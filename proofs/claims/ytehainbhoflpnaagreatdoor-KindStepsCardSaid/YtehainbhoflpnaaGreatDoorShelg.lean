/-
  The library's functions that this seat's walks meet, by the contracts of the kit's shelf, at this translation's numbers. No condition of its own.
-/
import Derived.Shelf.Strings.Trim
import Derived.Shelf.Small.Utf8
import Derived.Shelf.Small.Strs
import Derived.Shelf.Small.Wraps
import Derived.Shelf.Strings.Search1
import Derived.Shelf.Strings.Prefix
import Derived.Shelf.Strings.Runes
import Derived.Shelf.Strings.AsciiSet
import Derived.Shelf.Unicode.DecodeSlow
import Derived.Shelf.Slices.Turned
import Derived.Ground.Names2Prog
import Derived.Shelf.Slices.Clone
import Derived.Test.YtehainbhoflpnaaGreatDoorProg
import Derived.Test.YtehainbhoflpnaaGreatDoorShelf
namespace Go.Proofs
open Go.Shelf

end Go.Proofs
