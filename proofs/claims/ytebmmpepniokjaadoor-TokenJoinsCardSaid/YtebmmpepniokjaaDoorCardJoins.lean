/- What the closing texts import. -/
import Derived.Test.YtebmmpepniokjaaDoorLawJoins
import Derived.Test.YtebmmpepniokjaaDoorCard
