/-
  The program, function by function: Int, Text, TakeInt, TakeText, Join, Compare, Split, After.
-/
import Derived.Test.YthbnaomhgmokkaaSpafter
