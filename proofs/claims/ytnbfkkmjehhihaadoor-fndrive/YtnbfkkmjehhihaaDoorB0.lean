/- Slices of whole numbers. -/
import Derived.Test.YtnbfkkmjehhihaaDoorB
