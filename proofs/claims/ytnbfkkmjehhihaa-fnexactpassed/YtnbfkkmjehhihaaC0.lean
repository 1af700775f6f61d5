/- Slices of bools. -/
import Derived.Test.YtnbfkkmjehhihaaC
