/- The contracts of the program's tls. -/
import Derived.Test.YtjlhnggilmbeaaaT8Parse
import Derived.Test.YtjlhnggilmbeaaaT8Join
import Derived.Test.YtjlhnggilmbeaaaT8Split
import Derived.Test.YtjlhnggilmbeaaaT8Same
import Derived.Test.YtjlhnggilmbeaaaT8Post
import Derived.Test.YtjlhnggilmbeaaaT8ParseP
import Derived.Test.YtjlhnggilmbeaaaT8HeadP
import Derived.Test.YtjlhnggilmbeaaaT8JoinP
import Derived.Test.YtjlhnggilmbeaaaT8SplitP
