/- What the closing text of TriviaEnds imports. -/
import Derived.Test.YtceoleddijnieaaDoorLawEnds
import Derived.Test.YtceoleddijnieaaDoorCard
