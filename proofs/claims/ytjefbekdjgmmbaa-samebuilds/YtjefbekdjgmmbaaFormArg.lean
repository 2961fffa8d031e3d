/-
  A form as it comes in: a slice of descriptions and a slice of numbers.
-/
import Derived.Test.YtjefbekdjgmmbaaSameN
import Derived.Test.YtjefbekdjgmmbaaObjArg
import Derived.Test.YtjefbekdjgmmbaaArgZ
