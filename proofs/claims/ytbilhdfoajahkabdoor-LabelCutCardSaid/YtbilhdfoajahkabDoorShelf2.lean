/-
  Nothing more than the text that it brings.
-/
import Derived.Test.YtbilhdfoajahkabDoorShelf
