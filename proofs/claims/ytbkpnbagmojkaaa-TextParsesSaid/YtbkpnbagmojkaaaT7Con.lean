/- The contracts of the program's text (Decimal, Number, Path) that the laws share. -/
import Derived.Test.YtbkpnbagmojkaaaP7Path
