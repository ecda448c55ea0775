/- What the closing text of TriviaJoin imports. -/
import Derived.Test.YtceoleddijnieaaDoorLawJoin
import Derived.Test.YtceoleddijnieaaDoorCard
import Derived.Test.YtceoleddijnieaaDoorBulk
