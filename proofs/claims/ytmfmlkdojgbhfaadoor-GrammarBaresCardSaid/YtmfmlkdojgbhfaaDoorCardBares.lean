/- What the closing text of this law imports. -/
import Derived.Test.YtmfmlkdojgbhfaaDoorCard
import Derived.Test.YtmfmlkdojgbhfaaDoorLawBares
