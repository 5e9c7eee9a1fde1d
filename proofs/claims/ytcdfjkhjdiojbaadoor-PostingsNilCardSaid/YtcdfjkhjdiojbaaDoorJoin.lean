/-
  What stage 5 imports of the writer. No condition.
-/
import Derived.Test.YtcdfjkhjdiojbaaDoorEntPut
import Derived.Test.YtcdfjkhjdiojbaaDoorDec
