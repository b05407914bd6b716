/- The reference's Is: is a value one? -/
import Derived.Test.YtibmlaimbapfjaaDoorJ6IsC
import Derived.Test.YtibmlaimbapfjaaDoorJ6IsE
namespace Go.Proofs.YtibmlaimbapfjaaDoor
open Go.RowKit

theorem ris_n : ∀ (N : Nat) (J : Js) (v : Value) (d : Int) (w : World), J.size ≤ N → JsAt w J v → smallJ J → 0 ≤ d → d ≤ 1000 → Calls Tryd.prog 9 #[v, .int .i64 d] w (SaysP w (isJ J d)) := by
  intro N
  induction N with
  | zero =>
    intro J v d w h
    have := J.size_pos
    omega
  | succ N ih =>
    intro J v d w hN h1 hsm hd0 hd9
    obtain ⟨k, t, n, ns, ks⟩ := J
    by_cases hk1 : k = 1
    · subst hk1
      rw [JsAt] at h1
      rw [smallJ] at hsm
      obtain ⟨A1, cA, K1, cK, rfl, -, -, -, -, -⟩ := h1
      exact ris_text t n _ _ A1 K1 cA cK d w _ (isW_iff.trans isW_1) hsm.1
    · by_cases hk2 : k = 2
      · subst hk2
        rw [JsAt] at h1
        obtain ⟨A1, cA, K1, cK, rfl, -, hin, -, -, -⟩ := h1
        exact ris_int t n _ _ A1 K1 cA cK d w _ (isW_iff.trans isW_2) hin.1 hin.2
      · exact ris_step N ih k t n ns ks v d w hN h1 hsm hd0 hd9 hk1 hk2
theorem ris_any {J : Js} {v : Value} {d : Int} {w : World} (h1 : JsAt w J v) (hs : smallJ J) (hd0 : 0 ≤ d) (hd9 : d ≤ 1000) : Calls Tryd.prog 9 #[v, .int .i64 d] w (SaysP w (isJ J d)) := ris_n J.size J v d w (Nat.le_refl _) h1 hs hd0 hd9
end Go.Proofs.YtibmlaimbapfjaaDoor
