/- What the closing texts import. -/
import Derived.Test.YtebmmpepniokjaaDoorLawReads
import Derived.Test.YtebmmpepniokjaaDoorCard
