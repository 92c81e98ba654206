/- Plain: entries, logs. -/
import Derived.Test.YtapnjgmihfmapaaStay
namespace Go.Proofs.Ytapnjgmihfmapaa.Lgg
set_option linter.unusedVariables false

/-- An entry: its number, its text. -/
structure En where
  tx : Int
  d : ByteArray
deriving DecidableEq
structure Lg where
  ep : Int
  es : List En
end Go.Proofs.Ytapnjgmihfmapaa.Lgg
