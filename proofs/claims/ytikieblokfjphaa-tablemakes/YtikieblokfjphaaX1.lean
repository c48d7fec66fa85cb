/- What the program's Check, Fits and Same of cells do. -/
import Derived.Test.YtikieblokfjphaaBV
import Derived.Test.YtikieblokfjphaaBQ
import Derived.Test.YtikieblokfjphaaXC
import Derived.Laws.BytesArg
import Derived.Laws.BytesString
namespace Go.Proofs.Ytikieblokfjphaa
open Go.RowKit

theorem csameC : CSameC := fun f a n c bs p f' a' n' c' bs' p' w _ _ hr hr' => csame_any f a n c bs p f' a' n' c' bs' p' w hr hr'

theorem ccheckC : CCheckC := ccheck_any
end Go.Proofs.Ytikieblokfjphaa
