/- SiteWhole with its argument opened. -/
import Derived.Test.YtedefebdfcgjeaaSiL
import Derived.Test.YtedefebdfcgjeaaSiO
