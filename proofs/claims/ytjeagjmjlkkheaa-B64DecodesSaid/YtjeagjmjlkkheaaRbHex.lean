/- Contracts of the reference's Hex and of the place of a byte in a text. -/
import Derived.Test.YtjeagjmjlkkheaaWords
namespace Go.Proofs.Ytjeagjmjlkkheaa
open Go.RowKit

/-- A digit of sixteen. -/
def hexD (k : Nat) : Int := if k < 10 then 48 + k else 87 + k
def hexL (us : List Int) : List Int := us.flatMap fun b => [hexD (b / 16).toNat, hexD (b % 16).toNat]
theorem hexL_next (us : List Int) (b : Int) : hexL (us ++ [b]) = hexL us ++ [hexD (b / 16).toNat, hexD (b % 16).toNat] := by simp [hexL]
theorem hexL_length (us : List Int) : (hexL us).length = 2 * us.length := by
  induction us with
  | nil => rfl
  | cons a l ih => simp only [hexL, List.flatMap_cons, List.length_append, List.length_cons, List.length_nil] at ih ⊢; omega
/-- The digits as a text. -/
def hexS : ByteArray := ⟨#[48, 49, 50, 51, 52, 53, 54, 55, 56, 57, 97, 98, 99, 100, 101, 102]⟩
theorem hexS_size : hexS.size = 16 := rfl
theorem hexS_at (k : Nat) (h : k < 16) (h' : k < hexS.size) : ((hexS[k].toNat : Nat) : Int) = hexD k := by
  have h1 : ∀ k : Fin 16, ((hexS[k.val]'(by have := k.isLt; rw [hexS_size]; exact this)).toNat : Int) = hexD k.val := by decide
  exact h1 ⟨k, h⟩
/-- What Hex hands out: a text of these bytes. -/
def TextPost (w : World) (ds : List Int) (e : Ending) (w' : World) : Prop := e = .returned (.string (strOfNums ds)) ∧ Below w.heap.size w w'

set_option maxHeartbeats 2000000 in
theorem rhex_any (X : Option Addr) (c : Nat) (us : List Int) (w : World) (hX : InS w w.heap.size X us) (hus : ∀ e ∈ us, 0 ≤ e ∧ e < 256) (hm : us.length ≤ 1000) :
    Calls Try.prog 13 #[.slice X us.length c] w (TextPost w (hexL us)) := by
  obtain ⟨ul, hul⟩ : ∃ ul, ul = us.length := ⟨_, rfl⟩
  rw [← hul]
  have H0 := Lib.hid (And.intro hX (And.intro hus hul))
  have hm' : ul ≤ 1000 := by omega
  clear hX hus hm hul
  go_enter Try.func13, Try.ntmps13
  go_upto_region 2 with (fail)
  obtain ⟨S, hS⟩ : ∃ S, S = hexS := ⟨_, rfl⟩
  rw [show (⟨#[48, 49, 50, 51, 52, 53, 54, 55, 56, 57, 97, 98, 99, 100, 101, 102]⟩ : ByteArray) = S from by rw [hS]; rfl]
  have HS := Lib.hid (show ∀ (k : Nat), k < 16 → ∀ (h : k < S.size), ((S[k].toNat : Nat) : Int) = hexD k from fun k hk h => by subst hS; exact hexS_at k hk h)
  have hSz : 16 ≤ S.size := by rw [hS]; exact Nat.le_refl 16
  clear hS
  go_wp2_with fail
  go_loopg [4, 5] ul (fun g v i wr => ∃ k m : Nat, k ≤ ul ∧ g = ul - k ∧ i = .int .i64 k ∧ Hid (m = 2 * k) ∧ Below w.heap.size w wr ∧ wr.ownsRow w.heap.size 5 1 v m ((hexL (us.take k)).map (Value.int .u8)))
  case atStart => exact ⟨0, 0, by omega, rfl, rfl, Lib.hid rfl, Below.refl _ _, World.ownsRow_nil _ _ _ _⟩
  case round =>
    obtain ⟨k, m, hk, rfl, rfl, hm, hb, hown⟩ := hrel
    by_cases hlt : k < ul
    · have hki : (k : Int) < (ul : Int) := by omega
      obtain ⟨hX, hus, hul⟩ := H0.out
      have hmm : m ≤ 2000 := by have := hm.out; omega
      obtain ⟨ad, rfl, hadb, hadc⟩ := hX (by omega)
      have hget : us[k]? = some (us.getD k 0) := by rw [List.getElem?_eq_getElem (by omega), List.getD_eq_getElem?_getD, List.getElem?_eq_getElem (by omega)]; rfl
      have eb : wr.cell? (ad.add k) = some (.int .u8 (us.getD k 0)) := (hb.cell (by rw [addr_add_block]; exact hadb)).trans (hadc k _ hget)
      have hyb := hus _ (List.mem_of_getElem? hget)
      obtain ⟨y, hy⟩ : ∃ y, y = us.getD k 0 := ⟨_, rfl⟩
      rw [← hy] at eb hyb hget
      obtain ⟨hy0, hy1⟩ := hyb
      obtain ⟨hi, hhi⟩ : ∃ q, q = (y / 16).toNat := ⟨_, rfl⟩
      obtain ⟨lo, hlo⟩ : ∃ q, q = (y % 16).toNat := ⟨_, rfl⟩
      have q1 : y / 16 = (hi : Int) := by omega
      have q2 : y % 16 = (lo : Int) := by omega
      have hi1 : hi < S.size := by omega
      have lo1 : lo < S.size := by omega
      have ehi := HS.out hi (by omega)
      have elo := HS.out lo (by omega)
      have HY := Lib.hid (And.intro hget (And.intro hhi hlo))
      clear hX hus hul hadb hadc hget hy hhi hlo
      go_wp2_with fail
      refine wp_region_noPanic ?_
      refine wp_region_held_drew (S := fun _ => True) (by kernel_rfl) trivial (fun hS => ?_)
      refine wpAnyH_take (i := 0) (v := ?_) (ops_at rfl) (by kernel_rfl) (by kernel_rfl) (by kernel_rfl) (fun _ _ _ h => h) (Or.inl ⟨by rfl, ?_⟩) hS ?_
      rotate_left
      · intro _ _; first | (go_simp; done) | (go_simp; with_reducible rfl)
      simp only [Act.put, List.setIfInBounds_toArray, List.set_cons_zero, List.set_cons_succ]
      refine wpAnyH_take (i := 1) (v := ?_) (ops_at rfl) (by kernel_rfl) (by kernel_rfl) (by kernel_rfl) (fun _ _ _ h => h) (Or.inl ⟨by rfl, ?_⟩) hS ?_
      rotate_left
      · intro _ _; first | (go_simp; done) | (go_simp; with_reducible rfl)
      simp only [Act.put, List.setIfInBounds_toArray, List.set_cons_zero, List.set_cons_succ]
      refine wpAnyH_take (i := 2) (v := ?_) (ops_at rfl) (by kernel_rfl) (by kernel_rfl) (by kernel_rfl) (fun _ _ _ h => h) (Or.inl ⟨by rfl, ?_⟩) hS ?_
      rotate_left
      · intro _ _; first | (go_simp; done) | (go_simp; with_reducible rfl)
      simp only [Act.put, List.setIfInBounds_toArray, List.set_cons_zero, List.set_cons_succ]
      refine wpAnyH_take (i := 3) (v := ?_) (ops_at rfl) (by kernel_rfl) (by kernel_rfl) (by kernel_rfl) (fun _ _ _ h => h) (Or.inl ⟨by rfl, ?_⟩) hS ?_
      rotate_left
      · intro _ _; first | (go_simp; done) | (go_simp; with_reducible rfl)
      simp only [Act.put, List.setIfInBounds_toArray, List.set_cons_zero, List.set_cons_succ]
      refine wpAnyH_take (i := 4) (v := ?_) (ops_at rfl) (by kernel_rfl) (by kernel_rfl) (by kernel_rfl) (fun _ _ _ h => h) (Or.inl ⟨by rfl, ?_⟩) hS ?_
      rotate_left
      · intro _ _; first | (go_simp; done) | (go_simp; with_reducible rfl)
      simp only [Act.put, List.setIfInBounds_toArray, List.set_cons_zero, List.set_cons_succ]
      refine wpAnyH_take (i := 5) (v := ?_) (ops_at rfl) (by kernel_rfl) (by kernel_rfl) (by kernel_rfl) (fun _ _ _ h => h) (Or.inl ⟨by rfl, ?_⟩) hS ?_
      rotate_left
      · intro _ _; first | (go_simp; done) | (go_simp; with_reducible rfl)
      simp only [Act.put, List.setIfInBounds_toArray, List.set_cons_zero, List.set_cons_succ]
      refine wpAnyH_take (i := 6) (v := ?_) (ops_at rfl) (by kernel_rfl) (by kernel_rfl) (by kernel_rfl) (fun _ _ _ h => h) (Or.inl ⟨by rfl, ?_⟩) hS ?_
      rotate_left
      · intro _ _; first | (go_simp; done) | (go_simp; with_reducible rfl)
      simp only [Act.put, List.setIfInBounds_toArray, List.set_cons_zero, List.set_cons_succ]
      refine wpAnyH_ready (rs := [7]) (by kernel_rfl) (by simp) (AllReadyH.cons (ops_at rfl) (fun K hK => ?_) AllReadyH.nil)
      go_simp
      refine hK.out _ _ trivial (fun hS => ?_)
      clear hK K
      have hown2 := hown.kept (row := none) (w' := wr.drew) ⟨rfl, rfl, rfl, Nat.le_refl _, fun _ _ _ => rfl⟩ (by cases h : u4.ownBlock <;> simp)
      obtain ⟨v7, w7, hap, hown7, hg7⟩ := append_two w.heap.size m u4 _ (hexD hi) (hexD lo) wr.drew hown2 (by omega) hb.size
      refine wpAnyH_ready (rs := [8]) (by kernel_rfl) (by simp) (AllReadyH.cons (ops_at rfl) (fun K hK => ?_) AllReadyH.nil)
      rw [if_pos (by rfl)]
      refine wp_append_run _ _ 22 rfl rfl rfl hap ?_
      simp only [Act.put, List.setIfInBounds_toArray, List.set_cons_zero, List.set_cons_succ]
      refine hK.out _ _ trivial (fun hS => ?_)
      clear hK K
      refine wpAnyH_take (i := 9) (v := ?_) (ops_at rfl) (by kernel_rfl) (by kernel_rfl) (by kernel_rfl) (fun _ _ _ h => h) (Or.inl ⟨by rfl, ?_⟩) hS ?_
      rotate_left
      · intro _ _; first | (go_simp; done) | (go_simp; with_reducible rfl)
      simp only [Act.put, List.setIfInBounds_toArray, List.set_cons_zero, List.set_cons_succ]
      refine wpAnyH_done (by kernel_rfl) ?_ _
      refine NoPanic.normal ?_
      obtain ⟨Y7, cy7, rfl, -, -, -⟩ := own_slice hown7
      have HQ := Lib.hid (And.intro hown7 (((hb.drew).alloc hb.size (.cells #[.int .u8 (hexD hi), .int .u8 (hexD lo)] 5)).grown hg7 (by have := hb.size; simp [World.size_alloc]; exact Nat.le_succ_of_le this) (fun g hg => own_ge hown hg)))
      clear hown2 hap hown7 hg7 hb hown hS ehi elo
      go_wp2
      go_roundg (ul - (k + 1))
      case measure => omega
      case rel =>
        obtain ⟨hget, hhi, hlo⟩ := HY.out
        refine ⟨k + 1, m + 2, by omega, rfl, by go_num, Lib.hid (by have := hm.out; omega), HQ.out.2, ?_⟩
        have ht : us.take (k + 1) = us.take k ++ [y] := by rw [List.take_add_one, hget]; rfl
        rw [ht, hexL_next, ← hhi, ← hlo, List.map_append]
        exact HQ.out.1
    · have hki : ¬ (k : Int) < (ul : Int) := by omega
      obtain ⟨Y, cy, rfl, -, -, -⟩ := own_slice hown
      have hcv := conv_own hown
      have hfin : us.take k = us := List.take_of_length_le (by have := H0.out.2.2; omega)
      rw [hfin] at hcv
      have HQ := Lib.hid hb
      have HC := Lib.hid hcv
      clear hb hown hfin hcv
      go_wp2_with fail
      rw [HC.out]
      go_wp2_with fail
      go_ret
      exact ⟨rfl, HQ.out⟩
end Go.Proofs.Ytjeagjmjlkkheaa
