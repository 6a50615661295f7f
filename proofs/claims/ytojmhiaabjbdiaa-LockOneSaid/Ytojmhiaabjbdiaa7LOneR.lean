/- What LockOne's row imports. -/
import Derived.Test.Ytojmhiaabjbdiaa7LOne
import Derived.Test.Ytojmhiaabjbdiaa7Open
