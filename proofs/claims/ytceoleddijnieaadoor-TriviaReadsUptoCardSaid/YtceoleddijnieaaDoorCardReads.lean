/- What the closing text of TriviaReads imports. -/
import Derived.Test.YtceoleddijnieaaDoorLawReads
import Derived.Test.YtceoleddijnieaaDoorCard
import Derived.Test.YtceoleddijnieaaDoorBulk
