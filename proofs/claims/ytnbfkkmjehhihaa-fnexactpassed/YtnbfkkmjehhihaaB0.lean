/- Slices of whole numbers. -/
import Derived.Test.YtnbfkkmjehhihaaB
