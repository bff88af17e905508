/- The cells' small functions, all of them. -/
import Derived.Test.YtkjoonmnedofiaaCell
