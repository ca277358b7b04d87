/-
  Nothing of its own: the contract of strings.Clone stands in the Shelf text of this seat.
-/
import Derived.Test.YtgpaplhbjhbfjaaShelf
