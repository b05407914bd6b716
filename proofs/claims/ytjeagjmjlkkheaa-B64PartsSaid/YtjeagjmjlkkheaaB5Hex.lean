/- The program's Hex. -/
import Derived.Test.YtjeagjmjlkkheaaRbHexRound
import Derived.Laws.BitsLemmas
import Derived.Laws.BitsAllLaws
namespace Go.Proofs.Ytjeagjmjlkkheaa
open Go.RowKit

/-- 'make([]byte, 0, c)'. -/
theorem make0 (c : Nat) (hc : c ≤ 100000) (w : World) : (Instr.makeSlice 22 (.int .i64 0) (.int .i64 (c : Int))).run Try.prog w = .ok (.slice (some ⟨w.heap.size, 0, none⟩) 0 c) (w.alloc (.cells (madeCells #[.int .u8 0] c) 5)) := by
  obtain ⟨i, hi, hzz⟩ := Option.map_eq_some_iff.1 infoU8
  simp only [Prod.mk.injEq] at hzz
  obtain ⟨hz, hs, hb⟩ := hzz
  have hr := run_make (P := Try.prog) w 22 5 i (.int .u8 0) Try.underlying22 hi hz .i64 .i64 0 (c : Int) (by omega) (by omega) (by rw [hb]; omega) (by omega)
  simp only [Int.toNat_natCast, hs, Nat.mul_one, Int.toNat_zero] at hr
  exact hr
theorem own0 (c B : Nat) (hc : c ≤ 100000) (w : World) (hB : B ≤ w.heap.size) : (w.alloc (.cells (madeCells #[.int .u8 0] c) 5)).ownsRow B 5 1 (.slice (some ⟨w.heap.size, 0, none⟩) 0 c) 0 [] :=
  ⟨rfl, .inr ⟨w.heap.size, c, _, rfl, hB, heap_alloc_new w _, Nat.zero_le _, by unfold maxLen; omega, by rw [size_madeCells, Nat.mul_one], by simp⟩⟩
theorem w7 (n : Int) (h₀ : 0 ≤ n) (h₁ : n < 2 ^ 8) : IntKind.u8.wrap n = n := by rw [IntKind.wrap_u8']; omega
theorem and_u8_15 {n : Int} (h : 0 ≤ n ∧ n < 256) : bits BinOp.and IntKind.u8 n 15 = n % 16 := bits_mask .u8 8 (by decide) w7 4 (by decide) n (by omega) (by omega)

set_option maxHeartbeats 2000000 in
theorem hexp_any (X : Option Addr) (c : Nat) (us : List Int) (w : World) (hX : InS w w.heap.size X us) (hus : ∀ e ∈ us, 0 ≤ e ∧ e < 256) (hm : us.length ≤ 1000) :
    Calls Try.prog 12 #[.slice X us.length c] w (TextPost w (hexL us)) := by
  obtain ⟨ul, hul⟩ : ∃ ul, ul = us.length := ⟨_, rfl⟩
  rw [← hul]
  have H0 := Lib.hid (And.intro hX (And.intro hus hul))
  have hm' : ul ≤ 1000 := by omega
  clear hX hus hm hul
  have hmk := make0 (ul * 2) (by omega)
  rw [show ((ul * 2 : Nat) : Int) = (ul : Int) * 2 by omega] at hmk
  go_enter Try.func12, Try.ntmps12
  go_upto_region 3 with (fail)
  obtain ⟨S, hS⟩ : ∃ S, S = hexS := ⟨_, rfl⟩
  rw [show (⟨#[48, 49, 50, 51, 52, 53, 54, 55, 56, 57, 97, 98, 99, 100, 101, 102]⟩ : ByteArray) = S from by rw [hS]; rfl]
  have HS := Lib.hid (show ∀ (k : Nat), k < 16 → ∀ (h : k < S.size), ((S[k].toNat : Nat) : Int) = hexD k from fun k hk h => by subst hS; exact hexS_at k hk h)
  have hSz : 16 ≤ S.size := by rw [hS]; exact Nat.le_refl 16
  clear hS hmk
  go_wp2_with fail
  go_loopg [3, 12] ul (fun g v i wr => ∃ k m : Nat, k ≤ ul ∧ g = ul - k ∧ i = .int .i64 k ∧ Hid (m = 2 * k) ∧ Below w.heap.size w wr ∧ wr.ownsRow w.heap.size 5 1 v m ((hexL (us.take k)).map (Value.int .u8)))
  case atStart => exact ⟨0, 0, by omega, rfl, rfl, Lib.hid rfl, (Below.refl _ _).alloc (Nat.le_refl _) _, own0 _ _ (by omega) _ (Nat.le_refl _)⟩
  case round =>
    obtain ⟨k, m, hk, rfl, rfl, hm, hb, hown⟩ := hrel
    by_cases hlt : k < ul
    · have hki : (k : Int) < (ul : Int) := by omega
      obtain ⟨hX, hus, hul⟩ := H0.out
      have hmm : m ≤ 2000 := by have := hm.out; omega
      obtain ⟨ad, rfl, hadb, hadc⟩ := hX (by omega)
      have hget : us[k]? = some (us.getD k 0) := by rw [List.getElem?_eq_getElem (by omega), List.getD_eq_getElem?_getD, List.getElem?_eq_getElem (by omega)]; rfl
      have eb : wr.cell? (ad.add k) = some (.int .u8 (us.getD k 0)) := (hb.cell (by rw [addr_add_block]; exact hadb)).trans (hadc k _ hget)
      have hyb := hus _ (List.mem_of_getElem? hget)
      obtain ⟨y, hy⟩ : ∃ y, y = us.getD k 0 := ⟨_, rfl⟩
      rw [← hy] at eb hyb hget
      have hand := and_u8_15 hyb
      obtain ⟨hy0, hy1⟩ := hyb
      obtain ⟨hi, hhi⟩ : ∃ q, q = (y / 16).toNat := ⟨_, rfl⟩
      obtain ⟨lo, hlo⟩ : ∃ q, q = (y % 16).toNat := ⟨_, rfl⟩
      have q1 : y / 16 = (hi : Int) := by omega
      have q2 : bits BinOp.and IntKind.u8 y 15 = (lo : Int) := by rw [hand]; omega
      have hi1 : hi < S.size := by omega
      have lo1 : lo < S.size := by omega
      have ehi := HS.out hi (by omega)
      have elo := HS.out lo (by omega)
      have HY := Lib.hid (And.intro hget (And.intro hhi hlo))
      clear hX hus hul hadb hadc hget hy hhi hlo hand
      go_wp2_with fail
      refine wp_region_noPanic ?_
      refine wp_region_held_drew (S := fun _ => True) (by kernel_rfl) trivial (fun hS => ?_)
      refine wpAnyH_take (i := 0) (v := ?_) (ops_at rfl) (by kernel_rfl) (by kernel_rfl) (by kernel_rfl) (fun _ _ _ h => h) (Or.inl ⟨by rfl, ?_⟩) hS ?_
      rotate_left
      · intro _ _; first | (go_simp; done) | (go_simp; with_reducible rfl)
      simp only [Act.put, List.setIfInBounds_toArray, List.set_cons_zero, List.set_cons_succ]
      refine wpAnyH_take (i := 1) (v := ?_) (ops_at rfl) (by kernel_rfl) (by kernel_rfl) (by kernel_rfl) (fun _ _ _ h => h) (Or.inl ⟨by rfl, ?_⟩) hS ?_
      rotate_left
      · intro _ _; first | (go_simp; done) | (go_simp; with_reducible rfl)
      simp only [Act.put, List.setIfInBounds_toArray, List.set_cons_zero, List.set_cons_succ]
      refine wpAnyH_take (i := 2) (v := ?_) (ops_at rfl) (by kernel_rfl) (by kernel_rfl) (by kernel_rfl) (fun _ _ _ h => h) (Or.inl ⟨by rfl, ?_⟩) hS ?_
      rotate_left
      · intro _ _; first | (go_simp; done) | (go_simp; with_reducible rfl)
      simp only [Act.put, List.setIfInBounds_toArray, List.set_cons_zero, List.set_cons_succ]
      refine wpAnyH_take (i := 3) (v := ?_) (ops_at rfl) (by kernel_rfl) (by kernel_rfl) (by kernel_rfl) (fun _ _ _ h => h) (Or.inl ⟨by rfl, ?_⟩) hS ?_
      rotate_left
      · intro _ _; first | (go_simp; done) | (go_simp; with_reducible rfl)
      simp only [Act.put, List.setIfInBounds_toArray, List.set_cons_zero, List.set_cons_succ]
      refine wpAnyH_take (i := 4) (v := ?_) (ops_at rfl) (by kernel_rfl) (by kernel_rfl) (by kernel_rfl) (fun _ _ _ h => h) (Or.inl ⟨by rfl, ?_⟩) hS ?_
      rotate_left
      · intro _ _; first | (go_simp; done) | (go_simp; with_reducible rfl)
      simp only [Act.put, List.setIfInBounds_toArray, List.set_cons_zero, List.set_cons_succ]
      refine wpAnyH_take (i := 5) (v := ?_) (ops_at rfl) (by kernel_rfl) (by kernel_rfl) (by kernel_rfl) (fun _ _ _ h => h) (Or.inl ⟨by rfl, ?_⟩) hS ?_
      rotate_left
      · intro _ _; first | (go_simp; done) | (go_simp; with_reducible rfl)
      simp only [Act.put, List.setIfInBounds_toArray, List.set_cons_zero, List.set_cons_succ]
      refine wpAnyH_take (i := 6) (v := ?_) (ops_at rfl) (by kernel_rfl) (by kernel_rfl) (by kernel_rfl) (fun _ _ _ h => h) (Or.inl ⟨by rfl, ?_⟩) hS ?_
      rotate_left
      · intro _ _; first | (go_simp; done) | (go_simp; with_reducible rfl)
      simp only [Act.put, List.setIfInBounds_toArray, List.set_cons_zero, List.set_cons_succ]
      refine wpAnyH_ready (rs := [7]) (by kernel_rfl) (by simp) (AllReadyH.cons (ops_at rfl) (fun K hK => ?_) AllReadyH.nil)
      go_simp
      refine hK.out _ _ trivial (fun hS => ?_)
      clear hK K
      have hown2 := hown.kept (row := none) (w' := wr.drew) ⟨rfl, rfl, rfl, Nat.le_refl _, fun _ _ _ => rfl⟩ (by cases h : u3.ownBlock <;> simp)
      obtain ⟨v7, w7, hap, hown7, hg7⟩ := append_two w.heap.size m u3 _ (hexD hi) (hexD lo) wr.drew hown2 (by omega) hb.size
      refine wpAnyH_ready (rs := [8]) (by kernel_rfl) (by simp) (AllReadyH.cons (ops_at rfl) (fun K hK => ?_) AllReadyH.nil)
      rw [if_pos (by rfl)]
      refine wp_append_run _ _ 22 rfl rfl rfl hap ?_
      simp only [Act.put, List.setIfInBounds_toArray, List.set_cons_zero, List.set_cons_succ]
      refine hK.out _ _ trivial (fun hS => ?_)
      clear hK K
      refine wpAnyH_take (i := 9) (v := ?_) (ops_at rfl) (by kernel_rfl) (by kernel_rfl) (by kernel_rfl) (fun _ _ _ h => h) (Or.inl ⟨by rfl, ?_⟩) hS ?_
      rotate_left
      · intro _ _; first | (go_simp; done) | (go_simp; with_reducible rfl)
      simp only [Act.put, List.setIfInBounds_toArray, List.set_cons_zero, List.set_cons_succ]
      refine wpAnyH_done (by kernel_rfl) ?_ _
      refine NoPanic.normal ?_
      obtain ⟨Y7, cy7, rfl, -, -, -⟩ := own_slice hown7
      have HQ := Lib.hid (And.intro hown7 (((hb.drew).alloc hb.size (.cells #[.int .u8 (hexD hi), .int .u8 (hexD lo)] 5)).grown hg7 (by have := hb.size; simp [World.size_alloc]; exact Nat.le_succ_of_le this) (fun g hg => own_ge hown hg)))
      clear hown2 hap hown7 hg7 hb hown hS ehi elo
      go_wp2
      go_roundg (ul - (k + 1))
      case measure => omega
      case rel =>
        obtain ⟨hget, hhi, hlo⟩ := HY.out
        refine ⟨k + 1, m + 2, by omega, rfl, by go_num, Lib.hid (by have := hm.out; omega), HQ.out.2, ?_⟩
        have ht : us.take (k + 1) = us.take k ++ [y] := by rw [List.take_add_one, hget]; rfl
        rw [ht, hexL_next, ← hhi, ← hlo, List.map_append]
        exact HQ.out.1
    · have hki : ¬ (k : Int) < (ul : Int) := by omega
      obtain ⟨Y, cy, rfl, -, -, -⟩ := own_slice hown
      have hcv := conv_own hown
      have hfin : us.take k = us := List.take_of_length_le (by have := H0.out.2.2; omega)
      rw [hfin] at hcv
      have HQ := Lib.hid hb
      have HC := Lib.hid hcv
      clear hb hown hfin hcv
      go_wp2_with fail
      rw [HC.out]
      go_wp2_with fail
      go_ret
      exact ⟨rfl, HQ.out⟩
end Go.Proofs.Ytjeagjmjlkkheaa
