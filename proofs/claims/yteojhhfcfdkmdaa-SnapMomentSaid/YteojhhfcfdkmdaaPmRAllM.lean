/- All that SnapMoment's row needs; no conditions. -/
import Derived.Test.YteojhhfcfdkmdaaPm48
