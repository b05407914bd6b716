/- The contracts of the program's b64, in the words of its answers. -/
import Derived.Test.YtjeagjmjlkkheaaB5Dec
namespace Go.Proofs.Ytjeagjmjlkkheaa
open Go.RowKit

theorem hex_any (X : Option Addr) (c : Nat) (us : List Int) (w : World) (hX : InS w w.heap.size X us) (hus : ∀ e ∈ us, 0 ≤ e ∧ e < 256) (hm : us.length ≤ 1000) (_hc : us.length ≤ c) (_hcm : c ≤ maxLen) (_hnil : X = none → c = 0) :
    Calls Try.prog 12 #[.slice X us.length c] w (TextPost w (hexL us)) := hexp_any X c us w hX hus hm
end Go.Proofs.Ytjeagjmjlkkheaa
