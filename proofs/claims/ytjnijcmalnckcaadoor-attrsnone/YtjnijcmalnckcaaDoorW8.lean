/- Beside the reader's Fixed. -/
import Derived.Test.YtjnijcmalnckcaaDoorW7
import Derived.Test.YtjnijcmalnckcaaDoorW8F
