/- All of PmemPlays, PmemLasts, PmemFronts. -/
import Derived.Test.YtkeajfedlhgejaaPc48
