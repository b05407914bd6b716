/- The reference reads its own digits back; there are no others that it reads. -/
import Derived.Test.YtjeagjmjlkkheaaRbUnhex
namespace Go.Proofs.Ytjeagjmjlkkheaa
open Go.RowKit

theorem hex_facts : ∀ k, k < 16 → atP (txt hexS) (hexD k) = (k : Int) ∧ (txt hexS)[k]? = some (hexD k) ∧ 0 ≤ hexD k ∧ hexD k < 256 := by decide +kernel
theorem atP_get : ∀ (l : List Int) (c : Int), 0 ≤ atP l c → l[(atP l c).toNat]? = some c
  | [], _, h => by exact absurd h (by rw [atP]; decide)
  | a :: r, c, h => by
    rw [atP] at h ⊢
    by_cases e : a = c
    · rw [if_pos e, e]; rfl
    · rw [if_neg e] at h ⊢
      by_cases h2 : atP r c < 0
      · rw [if_pos h2] at h; exact absurd h (by decide)
      · rw [if_neg h2] at h ⊢
        have ih := atP_get r c (by omega)
        rw [show (atP r c + 1).toNat = (atP r c).toNat + 1 by omega, List.getElem?_cons_succ]
        exact ih
theorem hex_of {c : Int} (h : 0 ≤ atP (txt hexS) c) : c = hexD (atP (txt hexS) c).toNat ∧ atP (txt hexS) c < 16 := by
  have hr := (atP_range (txt hexS) c).2
  rw [show (txt hexS).length = 16 from by rw [txt_length]; rfl] at hr
  have h1 := atP_get _ _ h
  rw [(hex_facts (atP (txt hexS) c).toNat (by omega)).2.1] at h1
  exact ⟨(Option.some.inj h1).symm, by omega⟩
theorem unhexL_hex : ∀ (us : List Int), (∀ e ∈ us, 0 ≤ e ∧ e < 256) → unhexL (hexL us) = some us
  | [], _ => rfl
  | a :: r, h => by
    have ha := h a (by simp)
    have h1 := (hex_facts (a / 16).toNat (by omega)).1
    have h2 := (hex_facts (a % 16).toNat (by omega)).1
    have e : hexL (a :: r) = hexD (a / 16).toNat :: hexD (a % 16).toNat :: hexL r := by simp [hexL]
    rw [e, unhexL, h1, h2, if_neg (by omega), unhexL_hex r (fun e he => h e (by simp [he]))]
    show some ((16 * (((a / 16).toNat : Nat) : Int) + (((a % 16).toNat : Nat) : Int)) :: r) = some (a :: r)
    congr 2
    omega
theorem unhexL_some : ∀ (l ds : List Int), unhexL l = some ds → (∀ e ∈ ds, 0 ≤ e ∧ e < 256) ∧ l = hexL ds
  | [], ds, h => by
    have e : ds = [] := (Option.some.inj h).symm
    subst e
    exact ⟨by simp, rfl⟩
  | [_], _, h => by cases h
  | a :: b :: r, ds, h => by
    rw [unhexL] at h
    by_cases hb : atP (txt hexS) a < 0 ∨ atP (txt hexS) b < 0
    · rw [if_pos hb] at h; cases h
    · rw [if_neg hb] at h
      obtain ⟨t, ht, rfl⟩ := Option.map_eq_some_iff.1 h
      obtain ⟨h1, h2⟩ := unhexL_some r t ht
      obtain ⟨ea, ra⟩ := hex_of (c := a) (by omega)
      obtain ⟨eb, rb⟩ := hex_of (c := b) (by omega)
      refine ⟨fun e he => ?_, ?_⟩
      · rcases List.mem_cons.1 he with rfl | he
        · omega
        · exact h1 e he
      · have e : hexL ((16 * atP (txt hexS) a + atP (txt hexS) b) :: t) = hexD ((16 * atP (txt hexS) a + atP (txt hexS) b) / 16).toNat :: hexD ((16 * atP (txt hexS) a + atP (txt hexS) b) % 16).toNat :: hexL t := by simp [hexL]
        rw [e, show (16 * atP (txt hexS) a + atP (txt hexS) b) / 16 = atP (txt hexS) a by omega, show (16 * atP (txt hexS) a + atP (txt hexS) b) % 16 = atP (txt hexS) b by omega, ← ea, ← eb, ← h2]
end Go.Proofs.Ytjeagjmjlkkheaa
