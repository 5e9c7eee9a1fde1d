/-
  A door. No condition.
-/
import Derived.Test.YtnlkipgjacgddaaDoorEntPut
import Derived.Test.YtnlkipgjacgddaaDoorDec

