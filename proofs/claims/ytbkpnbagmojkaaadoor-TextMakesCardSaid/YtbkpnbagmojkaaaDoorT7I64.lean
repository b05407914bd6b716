/- An int. -/
import Derived.Test.YtbkpnbagmojkaaaDoorWords
namespace Go.Proofs.YtbkpnbagmojkaaaDoor
def I64 (n : Int) : Prop := -9223372036854775808 ≤ n ∧ n ≤ 9223372036854775807
end Go.Proofs.YtbkpnbagmojkaaaDoor
