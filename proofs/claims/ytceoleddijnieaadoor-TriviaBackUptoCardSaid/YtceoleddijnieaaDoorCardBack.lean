/- What the closing text of TriviaBack imports. -/
import Derived.Test.YtceoleddijnieaaDoorLawBack
import Derived.Test.YtceoleddijnieaaDoorCard
import Derived.Test.YtceoleddijnieaaDoorBulk
