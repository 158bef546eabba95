/- free's functions by name: New, Check, Take, Give, Count, Is, Same (Fg1 to Fg7). -/
import Derived.Test.YtfbimocgcnaogaaFg7
