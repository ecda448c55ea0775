/- What the closing texts import. -/
import Derived.Test.YtebmmpepniokjaaDoorLawGaps
import Derived.Test.YtebmmpepniokjaaDoorCard
