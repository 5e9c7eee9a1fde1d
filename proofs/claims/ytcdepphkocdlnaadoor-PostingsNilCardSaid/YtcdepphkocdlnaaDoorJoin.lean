/-
  Where the writer's facts lie at this program. No condition.
-/
import Derived.Test.YtcdepphkocdlnaaDoorEntPut
import Derived.Test.YtcdepphkocdlnaaDoorDec
