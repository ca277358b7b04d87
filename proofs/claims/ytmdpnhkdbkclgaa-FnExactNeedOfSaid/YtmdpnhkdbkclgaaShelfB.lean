/-
  Empty here: the shelf's own text holds it.
-/
import Derived.Test.YtmdpnhkdbkclgaaShelf
