/-
  What is proved here: nothing new: the library's contracts at this program, by another name; no condition.
-/
import Derived.Test.YtjbmghfgbdnjjaaDoorKShelf
