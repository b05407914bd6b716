/- The program's appendLetters: the letters of a group behind others. -/
import Derived.Test.YtddalcledaiajaaB5Bytes
import Derived.Laws.CopyRow
namespace Go.Proofs.Ytddalcledaiajaa
open Go.RowKit

theorem setRow_alloc (w : World) (c c' : Array Value) (T : TypeId) : (w.alloc (.cells c T)).setRow w.heap.size c' = w.alloc (.cells c' T) := by
  have h : ((w.alloc (.cells c T)).setRow w.heap.size c').heap = (w.alloc (.cells c' T)).heap := by
    apply Array.ext_getElem?
    intro i
    by_cases e : i = w.heap.size
    · subst e
      rw [setRow_heap _ _ _ _ _ _ (heap_alloc_new w (.cells c T)), heap_alloc_new]
    · rw [setRow_other _ _ _ _ e]
      by_cases hi : i < w.heap.size
      · rw [Below.heap_alloc _ _ _ hi, Below.heap_alloc _ _ _ hi]
      · rw [Array.getElem?_eq_none (by simp; omega), Array.getElem?_eq_none (by simp; omega)]
  show ({ w.alloc (.cells c T) with heap := ((w.alloc (.cells c T)).setRow w.heap.size c').heap } : World) = _
  rw [h]
  rfl
theorem letS_in (k : Nat) (h : k < 64) (h' : k < letS.size) : ((letS[k].toNat : Nat) : Int) = letD k := by
  have h1 := txt_at letS k h'
  have h2 := (let_facts k h).1
  have h3 := atP_get (txt letS) (letD k) (by omega)
  rw [h2, Int.toNat_natCast, h1] at h3
  exact Option.some.inj h3
theorem or_three {a b d : Int} (ha : 0 ≤ a ∧ a < 256) (hb : 0 ≤ b ∧ b < 256) (hd : 0 ≤ d ∧ d < 256) : bits BinOp.or IntKind.u64 (bits BinOp.or IntKind.u64 (a * 65536) (b * 256)) d = a * 65536 + b * 256 + d := by
  have h1 : bits BinOp.or IntKind.u64 (a * 65536) (b * 256) = a * 65536 + b * 256 := by
    rw [u64_or _ _ (by omega) (by omega) (by omega) (by omega), nat_join 16 _ _ (by rw [show (2 : Nat) ^ 16 = 65536 by decide]; omega) (by rw [show (2 : Nat) ^ 16 = 65536 by decide]; omega)]
    omega
  rw [h1, u64_or _ _ (by omega) (by omega) (by omega) (by omega), nat_join 8 _ _ (by rw [show (2 : Nat) ^ 8 = 256 by decide]; omega) (by rw [show (2 : Nat) ^ 8 = 256 by decide]; omega)]
  omega
theorem and_63 {n : Int} (h : 0 ≤ n ∧ n < 4294967296) : bits BinOp.and IntKind.u64 n 63 = n % 64 := bits_mask .u64 63 (by decide) w63 6 (by decide) n (by omega) (by omega)
theorem enc3_length : ∀ us : List Int, (enc3 us).length = (us.length + 2) / 3 * 4
  | [] => rfl
  | [_] => by simp [enc3]
  | [_, _] => by simp [enc3]
  | a :: b :: c :: r => by
    have ih := enc3_length r
    simp only [enc3, List.length_cons, ih]
    omega
theorem enc3_app : ∀ (a b : List Int), a.length % 3 = 0 → enc3 (a ++ b) = enc3 a ++ enc3 b
  | [], _, _ => rfl
  | [_], _, h => by simp at h
  | [_, _], _, h => by simp at h
  | x :: y :: z :: r, b, h => by
    have ih := enc3_app r b (by simp at h; omega)
    simp only [List.cons_append, enc3, ih]

/-- The four letters of three bytes, with fillers behind m + 1 of them. -/
def fourL (a b d : Int) (m k : Nat) : Nat → Int := fun j => if m + 1 ≤ j ∧ j < k then 61 else [ltr (a / 4), ltr (a % 4 * 16 + b / 16), ltr (b % 16 * 4 + d / 64), ltr (d % 64)].getD j 0

set_option maxHeartbeats 2000000 in
theorem quad_three (Y0 : Option Addr) (c0 n0 B : Nat) (xs gs : List Int) (ad : Addr) (c : Nat) (a b d : Int) (w : World) (m : Nat) (h1 : 1 ≤ m) (h3 : m ≤ 3)
    (ha : 0 ≤ a ∧ a < 256) (hb : 0 ≤ b ∧ b < 256) (hd : 0 ≤ d ∧ d < 256) (ho : w.ownsRow B 5 1 (.slice Y0 n0 c0) n0 (xs.map (Value.int .u8))) (hB : B ≤ w.heap.size) (hn0 : n0 ≤ 90000)
    (hgs : gs = [fourL a b d m 4 0, fourL a b d m 4 1, fourL a b d m 4 2, fourL a b d m 4 3])
    (hcp : ∀ ty, (Builtin.copy_ #[32, 32] ty #[.slice (some ⟨w.heap.size, 0, none⟩) 3 3, .slice (some ad) m c]).run Try.prog (w.alloc (.cells #[.int .u8 0, .int .u8 0, .int .u8 0] 76)) = .ok (.int .i64 (m : Int)) (w.alloc (.cells #[.int .u8 a, .int .u8 b, .int .u8 d] 76))) :
    Calls Try.prog 34 #[.slice Y0 n0 c0, .slice (some ad) m c] w fun e w' => ∃ Y n c', e = .returned (.slice Y n c') ∧ n = (xs ++ gs).length ∧ w'.ownsRow B 5 1 (.slice Y n c') n ((xs ++ gs).map (Value.int .u8)) ∧ Grow w w' (.slice Y0 n0 c0) (.slice Y n c') := by
  have HO := Lib.hid (And.intro ho (And.intro hB (And.intro hn0 hgs)))
  clear ho hB hn0 hgs
  go_enter Try.func34, Try.ntmps34
  go_upto_region 4 with (fail)
  rw [or_three ha hb hd]
  obtain ⟨S, hS⟩ : ∃ S, S = letS := ⟨_, rfl⟩
  rw [show (⟨#[65, 66, 67, 68, 69, 70, 71, 72, 73, 74, 75, 76, 77, 78, 79, 80, 81, 82, 83, 84, 85, 86, 87, 88, 89, 90, 97, 98, 99, 100, 101, 102, 103, 104, 105, 106, 107, 108, 109, 110, 111, 112, 113, 114, 115, 116, 117, 118, 119, 120, 121, 122, 48, 49, 50, 51, 52, 53, 54, 55, 56, 57, 43, 47]⟩ : ByteArray) = S from by rw [hS]; rfl]
  have hSz : 64 ≤ S.size := by rw [hS]; exact Nat.le_refl 64
  have HS := Lib.hid (show ∀ (k : Nat), k < 64 → ∀ (h : k < S.size), ((S[k].toNat : Nat) : Int) = letD k from fun k hk h => by subst hS; exact letS_in k hk h)
  clear hS
  obtain ⟨n, hn⟩ : ∃ n, n = a * 65536 + b * 256 + d := ⟨_, rfl⟩
  rw [← hn]
  obtain ⟨k0, hk0⟩ : ∃ k, k = (a / 4).toNat := ⟨_, rfl⟩
  obtain ⟨k1, hk1⟩ : ∃ k, k = (a % 4 * 16 + b / 16).toNat := ⟨_, rfl⟩
  obtain ⟨k2, hk2⟩ : ∃ k, k = (b % 16 * 4 + d / 64).toNat := ⟨_, rfl⟩
  obtain ⟨k3, hk3⟩ : ∃ k, k = (d % 64).toNat := ⟨_, rfl⟩
  have q0 : n / 262144 = (k0 : Int) := by omega
  have q1 : bits BinOp.and IntKind.u64 (n / 4096) 63 = (k1 : Int) := by rw [and_63 (by omega)]; omega
  have q2 : bits BinOp.and IntKind.u64 (n / 64) 63 = (k2 : Int) := by rw [and_63 (by omega)]; omega
  have q3 : bits BinOp.and IntKind.u64 n 63 = (k3 : Int) := by rw [and_63 (by omega)]; omega
  have z0 : k0 < S.size := by omega
  have z1 : k1 < S.size := by omega
  have z2 : k2 < S.size := by omega
  have z3 : k3 < S.size := by omega
  obtain ⟨l0, hl0⟩ : ∃ l, l = letD k0 := ⟨_, rfl⟩
  obtain ⟨l1, hl1⟩ : ∃ l, l = letD k1 := ⟨_, rfl⟩
  obtain ⟨l2, hl2⟩ : ∃ l, l = letD k2 := ⟨_, rfl⟩
  obtain ⟨l3, hl3⟩ : ∃ l, l = letD k3 := ⟨_, rfl⟩
  have e0 : ((S[k0].toNat : Nat) : Int) = l0 := by rw [hl0]; exact HS.out k0 (by omega) z0
  have e1 : ((S[k1].toNat : Nat) : Int) = l1 := by rw [hl1]; exact HS.out k1 (by omega) z1
  have e2 : ((S[k2].toNat : Nat) : Int) = l2 := by rw [hl2]; exact HS.out k2 (by omega) z2
  have e3 : ((S[k3].toNat : Nat) : Int) = l3 := by rw [hl3]; exact HS.out k3 (by omega) z3
  have HL := Lib.hid (show l0 = ltr (a / 4) ∧ l1 = ltr (a % 4 * 16 + b / 16) ∧ l2 = ltr (b % 16 * 4 + d / 64) ∧ l3 = ltr (d % 64) from by
    rw [hl0, hl1, hl2, hl3, hk0, hk1, hk2, hk3]
    exact ⟨rfl, rfl, rfl, rfl⟩)
  clear hl0 hl1 hl2 hl3 hk0 hk1 hk2 hk3 hn HS
  refine wp_region_noPanic ?_
  refine wp_region_held_drew (S := fun _ => True) (by kernel_rfl) trivial (fun hS => ?_)
  refine wpAnyH_take (i := 0) (v := ?_) (ops_at rfl) (by kernel_rfl) (by kernel_rfl) (by kernel_rfl) (fun _ _ _ h => h) (Or.inl ⟨by rfl, ?_⟩) hS ?_
  rotate_left
  · intro _ _; first | (go_simp; done) | (go_simp; with_reducible rfl)
  simp only [Act.put, List.setIfInBounds_toArray, List.set_cons_zero, List.set_cons_succ]
  refine wpAnyH_take (i := 1) (v := ?_) (ops_at rfl) (by kernel_rfl) (by kernel_rfl) (by kernel_rfl) (fun _ _ _ h => h) (Or.inl ⟨by rfl, ?_⟩) hS ?_
  rotate_left
  · intro _ _; first | (go_simp; done) | (go_simp; with_reducible rfl)
  simp only [Act.put, List.setIfInBounds_toArray, List.set_cons_zero, List.set_cons_succ]
  refine wpAnyH_take (i := 2) (v := ?_) (ops_at rfl) (by kernel_rfl) (by kernel_rfl) (by kernel_rfl) (fun _ _ _ h => h) (Or.inl ⟨by rfl, ?_⟩) hS ?_
  rotate_left
  · intro _ _; first | (go_simp; done) | (go_simp; with_reducible rfl)
  simp only [Act.put, List.setIfInBounds_toArray, List.set_cons_zero, List.set_cons_succ]
  refine wpAnyH_take (i := 3) (v := ?_) (ops_at rfl) (by kernel_rfl) (by kernel_rfl) (by kernel_rfl) (fun _ _ _ h => h) (Or.inl ⟨by rfl, ?_⟩) hS ?_
  rotate_left
  · intro _ _; first | (go_simp; done) | (go_simp; with_reducible rfl)
  simp only [Act.put, List.setIfInBounds_toArray, List.set_cons_zero, List.set_cons_succ]
  refine wpAnyH_take (i := 4) (v := ?_) (ops_at rfl) (by kernel_rfl) (by kernel_rfl) (by kernel_rfl) (fun _ _ _ h => h) (Or.inl ⟨by rfl, ?_⟩) hS ?_
  rotate_left
  · intro _ _; first | (go_simp; done) | (go_simp; with_reducible rfl)
  simp only [Act.put, List.setIfInBounds_toArray, List.set_cons_zero, List.set_cons_succ]
  refine wpAnyH_take (i := 5) (v := ?_) (ops_at rfl) (by kernel_rfl) (by kernel_rfl) (by kernel_rfl) (fun _ _ _ h => h) (Or.inl ⟨by rfl, ?_⟩) hS ?_
  rotate_left
  · intro _ _; first | (go_simp; done) | (go_simp; with_reducible rfl)
  simp only [Act.put, List.setIfInBounds_toArray, List.set_cons_zero, List.set_cons_succ]
  refine wpAnyH_take (i := 6) (v := ?_) (ops_at rfl) (by kernel_rfl) (by kernel_rfl) (by kernel_rfl) (fun _ _ _ h => h) (Or.inl ⟨by rfl, ?_⟩) hS ?_
  rotate_left
  · intro _ _; first | (go_simp; done) | (go_simp; with_reducible rfl)
  simp only [Act.put, List.setIfInBounds_toArray, List.set_cons_zero, List.set_cons_succ]
  refine wpAnyH_take (i := 7) (v := ?_) (ops_at rfl) (by kernel_rfl) (by kernel_rfl) (by kernel_rfl) (fun _ _ _ h => h) (Or.inl ⟨by rfl, ?_⟩) hS ?_
  rotate_left
  · intro _ _; first | (go_simp; done) | (go_simp; with_reducible rfl)
  simp only [Act.put, List.setIfInBounds_toArray, List.set_cons_zero, List.set_cons_succ]
  refine wpAnyH_take (i := 8) (v := ?_) (ops_at rfl) (by kernel_rfl) (by kernel_rfl) (by kernel_rfl) (fun _ _ _ h => h) (Or.inl ⟨by rfl, ?_⟩) hS ?_
  rotate_left
  · intro _ _; first | (go_simp; done) | (go_simp; with_reducible rfl)
  simp only [Act.put, List.setIfInBounds_toArray, List.set_cons_zero, List.set_cons_succ]
  refine wpAnyH_take (i := 9) (v := ?_) (ops_at rfl) (by kernel_rfl) (by kernel_rfl) (by kernel_rfl) (fun _ _ _ h => h) (Or.inl ⟨by rfl, ?_⟩) hS ?_
  rotate_left
  · intro _ _; first | (go_simp; done) | (go_simp; with_reducible rfl)
  simp only [Act.put, List.setIfInBounds_toArray, List.set_cons_zero, List.set_cons_succ]
  refine wpAnyH_take (i := 10) (v := ?_) (ops_at rfl) (by kernel_rfl) (by kernel_rfl) (by kernel_rfl) (fun _ _ _ h => h) (Or.inl ⟨by rfl, ?_⟩) hS ?_
  rotate_left
  · intro _ _; first | (go_simp; done) | (go_simp; with_reducible rfl)
  simp only [Act.put, List.setIfInBounds_toArray, List.set_cons_zero, List.set_cons_succ]
  refine wpAnyH_take (i := 11) (v := ?_) (ops_at rfl) (by kernel_rfl) (by kernel_rfl) (by kernel_rfl) (fun _ _ _ h => h) (Or.inl ⟨by rfl, ?_⟩) hS ?_
  rotate_left
  · intro _ _; first | (go_simp; done) | (go_simp; with_reducible rfl)
  simp only [Act.put, List.setIfInBounds_toArray, List.set_cons_zero, List.set_cons_succ]
  refine wpAnyH_take (i := 12) (v := ?_) (ops_at rfl) (by kernel_rfl) (by kernel_rfl) (by kernel_rfl) (fun _ _ _ h => h) (Or.inl ⟨by rfl, ?_⟩) hS ?_
  rotate_left
  · intro _ _; first | (go_simp; done) | (go_simp; with_reducible rfl)
  simp only [Act.put, List.setIfInBounds_toArray, List.set_cons_zero, List.set_cons_succ]
  refine wpAnyH_take (i := 13) (v := ?_) (ops_at rfl) (by kernel_rfl) (by kernel_rfl) (by kernel_rfl) (fun _ _ _ h => h) (Or.inl ⟨by rfl, ?_⟩) hS ?_
  rotate_left
  · intro _ _; first | (go_simp; done) | (go_simp; with_reducible rfl)
  simp only [Act.put, List.setIfInBounds_toArray, List.set_cons_zero, List.set_cons_succ]
  refine wpAnyH_take (i := 14) (v := ?_) (ops_at rfl) (by kernel_rfl) (by kernel_rfl) (by kernel_rfl) (fun _ _ _ h => h) (Or.inl ⟨by rfl, ?_⟩) hS ?_
  rotate_left
  · intro _ _; first | (go_simp; done) | (go_simp; with_reducible rfl)
  simp only [Act.put, List.setIfInBounds_toArray, List.set_cons_zero, List.set_cons_succ]
  refine wpAnyH_ready (rs := [15]) (by kernel_rfl) (by simp) (AllReadyH.cons (ops_at rfl) (fun K hK => ?_) AllReadyH.nil)
  go_simp
  refine hK.out _ _ trivial (fun hS => ?_)
  clear hK K
  refine wpAnyH_ready (rs := [16]) (by kernel_rfl) (by simp) (AllReadyH.cons (ops_at rfl) (fun K hK => ?_) AllReadyH.nil)
  go_simp
  refine hK.out _ _ trivial (fun hS => ?_)
  clear hK K
  refine wpAnyH_done (by kernel_rfl) ?_ _
  refine NoPanic.normal ?_
  clear q0 q1 q2 q3 z0 z1 z2 z3 e0 e1 e2 e3 hS hcp
  go_wp2_with fail
  go_loopg [8] (4 - (m + 1)) (fun g i wr => ∃ k : Nat, m + 1 ≤ k ∧ k ≤ 4 ∧ g = 4 - k ∧ i = .int .i64 (k : Int) ∧ wr.rowIs (w.heap.size + 1) 77 4 (fun j => .int .u8 (fourL a b d m k j)) ∧ Below w.heap.size w wr)
  case atStart =>
    refine ⟨m + 1, by omega, by omega, rfl, by go_num, ?_, (((Below.refl _ _).alloc (Nat.le_refl _) _).alloc (by simp) _).drew⟩
    obtain ⟨rfl, rfl, rfl, rfl⟩ := HL.out
    refine ⟨_, by rw [← World.size_alloc w (.cells #[.int .u8 a, .int .u8 b, .int .u8 d] 76)]; exact heap_alloc_new _ _, rfl, fun i hi => ?_⟩
    have hi4 : i = 0 ∨ i = 1 ∨ i = 2 ∨ i = 3 := by omega
    rcases hi4 with rfl | rfl | rfl | rfl <;> (show _ = some (Value.int .u8 (fourL a b d m (m + 1) _)); unfold fourL; rw [if_neg (by omega)]; rfl)
  case round =>
    obtain ⟨k, hk1, hk4, rfl, rfl, hrow, hbl⟩ := hrel
    by_cases hlt : k < 4
    · have hki : (k : Int) < 4 := by omega
      have hf := hrow.frozen k
      have hc := hrow.cell hlt
      have HQ := Lib.hid (And.intro hrow hbl)
      clear hrow hbl
      go_wp2_with fail
      go_roundg (4 - (k + 1))
      case measure => omega
      case rel =>
        refine ⟨k + 1, by omega, by omega, rfl, by go_num, (HQ.out.1.set k (.int .u8 61)).congr (fun i hi => ?_), HQ.out.2.setCell (p := ⟨w.heap.size + 1, k, none⟩) (by show w.heap.size ≤ w.heap.size + 1; omega) _⟩
        unfold fourL
        by_cases e : i = k
        · rw [if_pos e, if_pos (by omega)]
        · rw [if_neg e]
          by_cases h : m + 1 ≤ i ∧ i < k
          · rw [if_pos h, if_pos (by omega)]
          · rw [if_neg h, if_neg (by omega)]
    · obtain rfl : k = 4 := by omega
      obtain ⟨ho, hB, hn0, hgs⟩ := HO.out
      have hb4s : w.heap.size + 1 < wr.heap.size := hrow.lt
      have hown := own_below ho (hbl.mono (Nat.le_refl _))
      have hxl : xs.length = n0 := by have := ho.1; simpa using this
      have hgl : gs.length = 4 := by rw [hgs]; rfl
      obtain ⟨v', W', hap, hown', hg, hbk⟩ := append_all wr.heap.size B n0 (.slice Y0 n0 c0) _ (some ⟨w.heap.size + 1, 0, none⟩) 4 gs wr hown (fun _ => ⟨_, rfl, hb4s, fun i e he => by
        have hi : i < 4 := by have := (List.getElem?_eq_some_iff.1 he).1; omega
        rw [Addr.add_lit, Nat.zero_add, hrow.cell hi]
        rw [hgs] at he
        have hi4 : i = 0 ∨ i = 1 ∨ i = 2 ∨ i = 3 := by omega
        rcases hi4 with rfl | rfl | rfl | rfl <;> (cases he; rfl)⟩) (fun h => by cases h) (by omega) (by have := hbl.size; omega)
      rw [hgl] at hap hown'
      obtain ⟨Y, c', rfl, -⟩ := own_slice hown'
      have HP := Lib.hid hap
      have HQ := Lib.hid (show n0 + 4 = (xs ++ gs).length ∧ W'.ownsRow B 5 1 (.slice Y (n0 + 4) c') (n0 + 4) ((xs ++ gs).map (Value.int .u8)) ∧ Grow w W' (.slice Y0 n0 c0) (.slice Y (n0 + 4) c') from by
        refine ⟨by rw [List.length_append, hgl, hxl], by rw [List.map_append]; exact hown', ?_⟩
        refine Grow.trans (b := wr) (v := .slice Y0 n0 c0) ⟨only_of_below hbl _, .inl rfl⟩ ⟨hg, ?_⟩
        rcases hbk with h | h
        · exact .inl h
        · exact .inr ⟨_, h, Nat.le_refl _⟩)
      clear ho hB hn0 hgs hown hxl hgl hap hown' hg hbk hrow hbl hb4s
      go_wp2_with (at_builtin; refine wpList_append_run rfl _ _ 32 rfl rfl rfl HP.out ?_)
      go_ret
      exact ⟨Y, n0 + 4, c', rfl, HQ.out⟩

set_option maxHeartbeats 1000000 in
/-- A group of one, two, three bytes. -/
theorem quad_any (Y0 : Option Addr) (c0 n0 B : Nat) (xs : List Int) (X : Option Addr) (c N : Nat) (us : List Int) (w : World) (hX : InS w N X us) (hus : ∀ e ∈ us, 0 ≤ e ∧ e < 256) (h1 : 1 ≤ us.length) (h3 : us.length ≤ 3) (ho : w.ownsRow B 5 1 (.slice Y0 n0 c0) n0 (xs.map (Value.int .u8))) (hB : B ≤ w.heap.size) (hn0 : n0 ≤ 90000) :
    Calls Try.prog 34 #[.slice Y0 n0 c0, .slice X us.length c] w fun e w' => ∃ Y n c', e = .returned (.slice Y n c') ∧ n = (xs ++ enc3 us).length ∧ w'.ownsRow B 5 1 (.slice Y n c') n ((xs ++ enc3 us).map (Value.int .u8)) ∧ Grow w w' (.slice Y0 n0 c0) (.slice Y n c') := by
  obtain ⟨ad, rfl, hadb, hadc⟩ := hX (by omega)
  have hadN : ad.block < w.heap.size := World.block_lt_of_cell? _ _ (hadc 0 _ (List.getElem?_eq_getElem (by omega)))
  have hcp : ∀ ty, (Builtin.copy_ #[32, 32] ty #[.slice (some ⟨w.heap.size, 0, none⟩) 3 3, .slice (some ad) us.length c]).run Try.prog (w.alloc (.cells #[.int .u8 0, .int .u8 0, .int .u8 0] 76)) = .ok (.int .i64 (us.length : Int)) (w.alloc (.cells ((us.map (Value.int .u8) ++ [Value.int .u8 0, .int .u8 0, .int .u8 0].drop us.length).toArray) 76)) := fun ty => by
    have h := run_copy_row (P := Try.prog) (w.alloc (.cells #[.int .u8 0, .int .u8 0, .int .u8 0] 76)) 32 32 ty 5 w.heap.size 0 3 3 ad us.length c _ _ (us.map (Value.int .u8)) Try.underlying32 (by kernel_rfl) (heap_alloc_new w _) (by rw [List.length_map]; exact (Nat.min_eq_left h3).symm) (fun j v hv => by
      rw [List.getElem?_map] at hv
      obtain ⟨e, he, rfl⟩ := Option.map_eq_some_iff.1 hv
      exact (((Below.refl w.heap.size w).alloc (Nat.le_refl _) _).cell (by rw [addr_add_block]; exact hadN)).trans (hadc j e he)) (by simp; omega) (fun v hv => by obtain ⟨e, _, rfl⟩ := List.mem_map.1 hv; rfl)
    rw [h, setRow_alloc]
    simp [goInt]
  match us, h1, h3, hus, hcp with
  | [a], _, _, hus, hcp =>
    exact quad_three Y0 c0 n0 B xs (enc3 [a]) ad c a 0 0 w 1 (by decide) (by decide) (hus a (by simp)) (by decide) (by decide) ho hB hn0 (by simp [enc3, fourL]) hcp
  | [a, b], _, _, hus, hcp =>
    exact quad_three Y0 c0 n0 B xs (enc3 [a, b]) ad c a b 0 w 2 (by decide) (by decide) (hus a (by simp)) (hus b (by simp)) (by decide) ho hB hn0 (by simp [enc3, fourL]) hcp
  | [a, b, d], _, _, hus, hcp =>
    exact quad_three Y0 c0 n0 B xs (enc3 [a, b, d]) ad c a b d w 3 (by decide) (by decide) (hus a (by simp)) (hus b (by simp)) (hus d (by simp)) ho hB hn0 (by simp [enc3, fourL]) hcp
end Go.Proofs.Ytddalcledaiajaa
