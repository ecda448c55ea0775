/- What the closing texts import. -/
import Derived.Test.YtebmmpepniokjaaDoorLawBlanks
import Derived.Test.YtebmmpepniokjaaDoorCard
