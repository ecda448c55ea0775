/- What the closing texts of these laws import. -/
import Derived.Test.YtmfmlkdojgbhfaaDoorCard
import Derived.Test.YtmfmlkdojgbhfaaDoorLawParts
