/- The card's facts beside the walk of the law. -/
import Derived.Test.YtjfmanflkcaohaaDoorCard
import Derived.Test.YtjfmanflkcaohaaDoorLawGrows
