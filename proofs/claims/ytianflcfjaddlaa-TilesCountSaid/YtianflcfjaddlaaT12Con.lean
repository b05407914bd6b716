/- The contracts of the program's tiles. -/
import Derived.Test.YtianflcfjaddlaaP12News
import Derived.Test.YtianflcfjaddlaaP12Place
namespace Go.Proofs.Ytianflcfjaddlaa
open Go.RowKit

theorem width_p (n lv i : Int) (w : World) (hn : I63 n) (hl : I63 lv) (hi : I63 i) : Calls Try.prog 12 #[.int .i64 n, .int .i64 lv, .int .i64 i] w (fun e w' => e = .returned (.int .i64 (widthT n lv i : Int)) ∧ Below w.heap.size w w') :=
  (widthS_p n lv i w hn hl hi).mono fun _ _ h => ⟨h.1, h.2 ▸ Below.refl _ _⟩
theorem news_p (m n : Int) (w : World) (hn : badN12 n ∨ n ≤ 131072) (_ : badN12 m ∨ m ≤ 131072) (hi : I63 n) (hj : I63 m) : Calls Try.prog 15 #[.int .i64 m, .int .i64 n] w (TilesP w (newsT m n)) := newsS_p m n w hn hi hj
theorem place_p (lv i : Int) (w : World) (hl : I63 lv) (hi : I63 i) : Calls Try.prog 17 #[.int .i64 lv, .int .i64 i] w (fun e w' => e = .returned (.tuple #[tlV (placeT lv i), .int .i64 (placeF lv i), .int .i64 (placeE lv i)]) ∧ Below w.heap.size w w') := placeS_p lv i w hl hi
end Go.Proofs.Ytianflcfjaddlaa
