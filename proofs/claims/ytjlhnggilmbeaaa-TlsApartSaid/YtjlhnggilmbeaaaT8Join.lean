/- Contracts of the reference's Join and Same. -/
import Derived.Test.YtjlhnggilmbeaaaT8Leaf
namespace Go.Proofs.Ytjlhnggilmbeaaa
open Go.RowKit

/-- Texts, one behind the other, each behind its length. -/
def joinL (ps : List (List Int)) : List Int := ps.flatMap fun p => bigL 2 p.length ++ p
theorem joinL_next (ps : List (List Int)) (p : List Int) : joinL (ps ++ [p]) = joinL ps ++ bigL 2 p.length ++ p := by simp [joinL]
theorem joinL_length (ps : List (List Int)) (h : ∀ p ∈ ps, p.length ≤ 1000) : (joinL ps).length ≤ 1002 * ps.length := by
  induction ps with
  | nil => simp [joinL]
  | cons p r ih =>
    have h1 := ih (fun q hq => h q (by simp [hq]))
    have h2 := h p (by simp)
    simp only [joinL, List.flatMap_cons, List.length_append, bigL_length, List.length_cons] at h1 ⊢
    omega

set_option maxRecDepth 100000 in
set_option maxHeartbeats 1000000 in
theorem rjoin_any (A : Option Addr) (c : Nat) (ps : List (List Int)) (w : World) (hp : PartsIn w A ps) (hl : ps.length ≤ 50) (hq : ∀ p ∈ ps, p.length ≤ 1000) :
    Calls Try.prog 26 #[.slice A ps.length c] w (MadePost w (joinL ps)) := by
  obtain ⟨n, hn⟩ : ∃ n, n = ps.length := ⟨_, rfl⟩
  rw [← hn]
  have hnl : n ≤ 50 := by omega
  have HP := Lib.hid (And.intro hp (And.intro hq hn))
  clear hp hl hq hn
  go_enter Try.func26, Try.ntmps26
  go_wp2_with fail
  go_loopg [3, 4] n (fun g v i wr => ∃ (k m cc : Nat) (Y : Option Addr), k ≤ n ∧ g = n - k ∧ i = .int .i64 (k : Int) ∧ v = .slice Y m cc ∧ Hid (m = (joinL (ps.take k)).length) ∧ Acc w wr (.slice Y m cc) (joinL (ps.take k)))
  case atStart => exact ⟨0, 0, 0, none, by omega, rfl, rfl, rfl, Lib.hid rfl, Acc.nil (Below.refl _ _)⟩
  case round =>
    obtain ⟨k, m, cc, Y, hk, rfl, rfl, rfl, hm, hA⟩ := hrel
    by_cases hlt : k < n
    · obtain ⟨hp, hq, hn⟩ := HP.out
      obtain ⟨p, hpk⟩ : ∃ p, ps[k]? = some p := ⟨ps[k]'(by omega), List.getElem?_eq_getElem _⟩
      obtain ⟨ad, X, c1, rfl, -, hcell, hbin⟩ := hp k p hpk
      have hpl : p.length ≤ 1000 := hq p (List.mem_of_getElem? hpk)
      have hjl := joinL_length (ps.take k) (fun q hq' => hq q (List.mem_of_mem_take hq'))
      have hjl2 : (joinL (ps.take k)).length ≤ 1002 * k := by simp at hjl; omega
      obtain ⟨pl, hple⟩ : ∃ pl, pl = p.length := ⟨_, rfl⟩
      rw [← hple] at hcell
      have ck : ∀ W, Below wr.heap.size wr W → W.cell? (ad.add k) = some (.slice X pl c1) := fun W hb => by
        obtain ⟨ad', _, _, e, hlt', _⟩ := hp k p hpk
        cases e
        exact ((hb.cell (by rw [addr_add_block]; exact Nat.lt_of_lt_of_le hlt' hA.2.size)).trans (hA.2.cell (by rw [addr_add_block]; exact hlt'))).trans hcell
      have hki : (k : Int) < (n : Int) := by omega
      have hplz : pl ≤ 1000 := by omega
      have ht : ps.take (k + 1) = ps.take k ++ [p] := by rw [List.take_add_one, hpk]; rfl
      have cw := ck wr (Below.refl _ _)
      have CK := Lib.hid ck
      have HQ := Lib.hid (And.intro hA (And.intro hbin (And.intro hple (And.intro ht (And.intro hjl2 hpl)))))
      clear hp hq hn hcell hbin hple ht hA hjl hjl2 hpl hpk ck
      go_wp2_with fail
      go_at_call 32
      refine (big_any 2 (pl : Int) wr (by decide) (by omega) (by omega)).mono ?_
      rintro e W2 ⟨rfl, hb2, hm2⟩
      obtain ⟨hA, hbin, hple, ht, hjl2, hpl⟩ := HQ.out
      obtain ⟨Y3, n3, c3, W3, hr3, hn3, a3, -⟩ := (hA.on hb2).bytes (some ⟨wr.heap.size, 0, none⟩) 2 2 (bigL 2 (pl : Int)) (made_ins hm2) (bigL_length _ _).symm (fun h => by cases h) (by rw [bigL_length]; omega)
      have hbw : Below w.heap.size w W3 := a3.2
      obtain ⟨Y4, n4, c4, W4, hr4, hn4, a4, -⟩ := a3.bytes X pl c1 p ((hbin.on hbw).1) hple hbin.2.2.2.2 (by rw [List.length_append, bigL_length]; omega)
      have c3k : W3.cell? (ad.add k) = some (.slice X pl c1) := by
        obtain ⟨hp, _, _⟩ := HP.out
        have hpk : ps[k]? = some p := by
          have h : (ps.take (k + 1))[k]? = some p := by rw [ht, List.getElem?_append_right (by simp; omega)]; simp [show min k ps.length = k by have := HP.out.2.2; omega]
          rwa [List.getElem?_take_of_lt (by omega)] at h
        obtain ⟨ad', X', c', e, hlt', hc', _⟩ := hp k p hpk
        cases e
        have h1 := (hA.2.cell (p := ad.add k) (by rw [addr_add_block]; exact hlt')).trans hc'
        rw [cw] at h1
        cases h1
        exact (hbw.cell (by rw [addr_add_block]; exact hlt')).trans (by rw [hc', hple])
      have P3 := Lib.hid (show (Builtin.append_ #[24, 24] 24 #[.slice Y m cc, .slice (some ⟨wr.heap.size, 0, none⟩) 2 2]).run Try.prog W2 = .ok (.slice Y3 n3 c3) W3 from hr3)
      have P4 := Lib.hid hr4
      have C3 := Lib.hid c3k
      have HF := Lib.hid (And.intro a4 hn4)
      clear hA hbin hple ht hjl2 hpl hr3 hn3 a3 hbw hr4 hn4 a4 c3k hb2 hm2 cw
      go_upto_region 6 with (at_builtin; refine wpList_append_run rfl _ _ 24 rfl rfl rfl P3.out ?_)
      have c3k := C3.out
      go_wp2_with (at_builtin; refine wpList_append_run rfl _ _ 24 rfl rfl rfl P4.out ?_)
      go_roundg (n - (k + 1))
      case measure => omega
      case rel =>
        obtain ⟨hA, hbin, hple, ht, hjl2, hpl⟩ := HQ.out
        obtain ⟨a4, hn4⟩ := HF.out
        have e : joinL (ps.take (k + 1)) = joinL (ps.take k) ++ bigL 2 (pl : Int) ++ p := by rw [ht, joinL_next, hple]
        refine ⟨k + 1, n4, c4, Y4, by omega, rfl, by go_num, rfl, Lib.hid (by rw [hn4, e, hple]; simp [Nat.add_assoc]), by rw [e]; exact a4⟩
    · have HQ := Lib.hid hA
      have hki : ¬ (k : Int) < (n : Int) := by omega
      clear hA
      go_wp2_with fail
      go_ret
      have e : ps.take k = ps := List.take_of_length_le (by have := HP.out.2.2; omega)
      have h := HQ.out
      have hm' := hm.out
      rw [e] at h hm'
      exact ⟨Y, m, cc, rfl, hm', h⟩
end Go.Proofs.Ytjlhnggilmbeaaa
