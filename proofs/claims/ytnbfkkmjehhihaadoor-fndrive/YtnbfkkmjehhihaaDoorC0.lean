/- Slices of bools. -/
import Derived.Test.YtnbfkkmjehhihaaDoorC
