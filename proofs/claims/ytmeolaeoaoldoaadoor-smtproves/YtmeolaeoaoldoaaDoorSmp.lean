/- SmtProves of the landed tree. -/
import Derived.Test.YtmeolaeoaoldoaaDoorSin
import Derived.Test.YtmeolaeoaoldoaaDoorSpn
