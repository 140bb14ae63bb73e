/- Beside the reader's Fixed. -/
import Derived.Test.YtjpbcjjleflffaaDoorW7
import Derived.Test.YtjpbcjjleflffaaDoorW8F
