/- What the program's Check, Fits and Same of cells do. -/
import Derived.Test.YtikieblokfjphaaGreatBV
import Derived.Test.YtikieblokfjphaaGreatBQ
import Derived.Test.YtikieblokfjphaaGreatXC
import Derived.Laws.BytesArg
import Derived.Laws.BytesString
namespace Go.Proofs.YtikieblokfjphaaGreat
open Go.RowKit

theorem csameC : CSameC := fun f a n c bs p f' a' n' c' bs' p' w _ _ hr hr' => csame_any f a n c bs p f' a' n' c' bs' p' w hr hr'

theorem ccheckC : CCheckC := ccheck_any
end Go.Proofs.YtikieblokfjphaaGreat
