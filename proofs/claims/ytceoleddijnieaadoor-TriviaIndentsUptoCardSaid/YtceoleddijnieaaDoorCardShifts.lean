/- What the closing texts of TriviaShifts and TriviaIndents import. -/
import Derived.Test.YtceoleddijnieaaDoorLawShifts
import Derived.Test.YtceoleddijnieaaDoorCard
import Derived.Test.YtceoleddijnieaaDoorBulk
