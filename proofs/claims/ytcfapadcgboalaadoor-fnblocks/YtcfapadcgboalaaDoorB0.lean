/- Slices of whole numbers. -/
import Derived.Test.YtcfapadcgboalaaDoorB
