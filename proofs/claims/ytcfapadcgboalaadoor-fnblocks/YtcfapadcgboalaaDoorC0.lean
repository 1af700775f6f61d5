/- Slices of bools. -/
import Derived.Test.YtcfapadcgboalaaDoorC
