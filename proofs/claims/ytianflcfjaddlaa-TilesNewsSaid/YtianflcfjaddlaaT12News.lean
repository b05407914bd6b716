/- TilesNews, for its card. -/
import Derived.Test.YtianflcfjaddlaaT12All
namespace Go.Proofs.Ytianflcfjaddlaa
open Go.RowKit

theorem news_walk (m n : Int) (w : World) (hm : I63 m) (hn : I63 n) : Calls Try.prog 4 #[.int .i64 m, .int .i64 n] w fun e w' => e = .returned (.bool true) ∧ Below w.heap.size w w' := news_law m n hm hn
end Go.Proofs.Ytianflcfjaddlaa
