/-
  THE PROGRAM's CONTRACTS, in the shape that the laws want.
-/
import Derived.Test.YthpipbkbldlfjaaRC
import Derived.Test.YthpipbkbldlfjaaRAns
