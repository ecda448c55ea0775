/- What the closing texts import. -/
import Derived.Test.YtebmmpepniokjaaDoorLawPlaces
import Derived.Test.YtebmmpepniokjaaDoorCard
