/- Rows of texts that a call makes. Contract of the reference's Decimal. Contracts of the reference's Hex and of the place of a byte in a text. -/
import Derived.Test.YtmbmkmigcmlodaaDoorMT9Half
import Derived.Maps.AppendAt
import Derived.Test.YtmbmkmigcmlodaaDoorWords
namespace Go.Proofs.YtmbmkmigcmlodaaDoor
open Go.RowKit

theorem infoStr : (Tryd.prog.info? 9).map (fun i => (i.zero, i.size, i.bytes)) = some (some (.string ⟨#[]⟩), 1, 16) := by kernel_rfl
/-- 'append(l, s)' of texts: the one lies in a block of its own. -/
theorem append_text (B n : Nat) (v : Value) (xs : List Value) (s : ByteArray) (W : World) (hown : W.ownsRow B 9 1 v n xs) (hm : n ≤ 100000) (hB : B ≤ W.heap.size) :
    ∃ v' W', (Builtin.append_ #[29, 29] 29 #[v, .slice (some ⟨W.heap.size, 0, none⟩) 1 1]).run Tryd.prog (W.alloc (.cells #[.string s] 9)) = .ok v' W' ∧ W'.ownsRow B 9 1 v' (n + 1) (xs ++ [.string s]) ∧ (W.alloc (.cells #[.string s] 9)).grownBy W' v.ownBlock ∧ (v'.ownBlock = v.ownBlock ∨ v'.ownBlock = some (W.heap.size + 1)) := by
  obtain ⟨i0, hi, hz0, hz1, hz2⟩ := info_parts infoStr
  obtain ⟨v', w', hr, hown', hg, _, hb⟩ := run_append_own_at (P := Tryd.prog) (W.alloc (.cells #[.string s] 9)) B 29 29 9 i0 (.string ⟨#[]⟩) 1 16 Tryd.underlying29 hi hz0 hz1 hz2 rfl (by decide) v n xs (hown.alloc _) ⟨W.heap.size, 0, none⟩ 1 1 [.string s] rfl (cell_one_new W _ _) (fun y h => by rw [List.mem_singleton.1 h]; rfl) (by unfold maxLen; omega) (by omega) (by simp; omega)
  exact ⟨v', w', hr, hown', hg, by simpa using hb⟩
/-- Texts in a row of the call's own, in a world that is w but for what was made. -/
def AccS (w W : World) (v : Value) (ps : List ByteArray) : Prop := W.ownsRow w.heap.size 9 1 v ps.length (ps.map Value.string) ∧ Below w.heap.size w W
theorem AccS.on {w W W' : World} {v : Value} {ps : List ByteArray} (h : AccS w W v ps) (hb : Below W.heap.size W W') : AccS w W' v ps := ⟨own_below h.1 hb, h.2.trans (hb.mono h.2.size)⟩
theorem AccS.nil {w W : World} (hb : Below w.heap.size w W) : AccS w W (.slice none 0 0) [] := ⟨World.ownsRow_nil _ _ _ _, hb⟩
theorem AccS.one {w W : World} {Y : Option Addr} {m c : Nat} {ps : List ByteArray} (h : AccS w W (.slice Y m c) ps) (s : ByteArray) (hm : ps.length ≤ 100000) :
    ∃ Y' c' W', (Builtin.append_ #[29, 29] 29 #[.slice Y m c, .slice (some ⟨W.heap.size, 0, none⟩) 1 1]).run Tryd.prog (W.alloc (.cells #[.string s] 9)) = .ok (.slice Y' (ps.length + 1) c') W' ∧ AccS w W' (.slice Y' (ps.length + 1) c') (ps ++ [s]) := by
  obtain ⟨v', W', hr, ho, hg, hb⟩ := append_text w.heap.size ps.length _ _ s W h.1 hm h.2.size
  obtain ⟨Y', c', rfl, -⟩ := own_slice ho
  refine ⟨Y', c', W', hr, ?_, ?_⟩
  · rw [List.length_append, List.map_append]; exact ho
  · exact (h.2.alloc h.2.size _).grown hg (by have := h.2.size; simp; omega) (fun g e => own_ge h.1 e)
theorem AccS.ins {w W : World} {Y : Option Addr} {m c : Nat} {ps : List ByteArray} (h : AccS w W (.slice Y m c) ps) : m = ps.length ∧ m ≤ c ∧ c ≤ maxLen ∧ StrsIn W Y ps := by
  obtain ⟨Y', cap, hv, hc, h2, h3⟩ := own_slice h.1
  cases hv
  have hcm : c ≤ maxLen := by
    obtain ⟨_, ⟨h1, _⟩ | ⟨g, c', cur, hv, _, _, _, hm, _⟩⟩ := h.1
    · injection h1 with _ _ e3
      omega
    · injection hv with _ _ e3
      omega
  refine ⟨rfl, hc, hcm, fun i s hs => ?_⟩
  cases Y with
  | none =>
    have := (h2 rfl).1
    have := (List.getElem?_eq_some_iff.1 hs).1
    omega
  | some a =>
    obtain ⟨g, rfl, _, hg, hcl⟩ := h3 a rfl
    exact ⟨_, rfl, hg, hcl i _ (by rw [List.getElem?_map, hs]; rfl)⟩
end Go.Proofs.YtmbmkmigcmlodaaDoor
namespace Go.Proofs.YtmbmkmigcmlodaaDoor
open Go.RowKit

/-- A number's digits, by ten. -/
def decL (n : Nat) : List Int := if h : n < 10 then [48 + (n : Int)] else decL (n / 10) ++ [48 + ((n % 10 : Nat) : Int)]
termination_by n
decreasing_by omega
theorem decL_small {n : Nat} (h : n < 10) : decL n = [48 + (n : Int)] := by rw [decL, dif_pos h]
theorem decL_big {n : Nat} (h : ¬ n < 10) : decL n = decL (n / 10) ++ [48 + ((n % 10 : Nat) : Int)] := by rw [decL, dif_neg h]
theorem decL_length (n : Nat) : 1 ≤ (decL n).length ∧ (decL n).length ≤ n + 1 := by
  induction n using Nat.strongRecOn with
  | ind n ih =>
    by_cases h : n < 10
    · rw [decL_small h]; simp
    · rw [decL_big h]
      have := ih (n / 10) (by omega)
      simp only [List.length_append, List.length_cons, List.length_nil]
      omega
theorem decL_len : ∀ (m n : Nat), 1 ≤ m → n < 10 ^ m → (decL n).length ≤ m
  | 0, _, h, _ => by omega
  | m + 1, n, _, hn => by
    by_cases h : n < 10
    · rw [decL_small h]; simp
    · rw [decL_big h]
      have hm : 1 ≤ m := by
        rcases Nat.eq_zero_or_pos m with rfl | hm
        · simp at hn; omega
        · exact hm
      have ih := decL_len m (n / 10) hm (by rw [Nat.pow_succ] at hn; omega)
      simp only [List.length_append, List.length_cons, List.length_nil]
      omega
theorem ret_str {a b : ByteArray} (h : b = a) : Ending.returned (.string a) = .returned (.string b) := by rw [h]
/-- A number's decimal. -/
def decZ (n : Int) : List Int := if n < 0 then 45 :: decL (-n).toNat else decL n.toNat
theorem conv_new (w : World) (x : Int) : (convert 44 9 (.slice (some ⟨w.heap.size, 0, none⟩) 1 1)).run Tryd.prog (w.alloc (.cells #[.int .u8 x] 5)) = .ok (.string (strOfNums [x])) (w.alloc (.cells #[.int .u8 x] 5)) :=
  run_convert_bytes_arg _ 44 5 Tryd.underlying44 Tryd.underlying5 w.heap.size 0 1 1 [x] rfl (fun i hi => by
    obtain rfl : i = 0 := by omega
    simp) 9 Tryd.underlying9

set_option maxRecDepth 100000 in
set_option maxHeartbeats 1000000 in
theorem rdec_nat (n : Nat) (hn : n ≤ 9223372036854775807) (w : World) :
    Calls Tryd.prog 36 #[.int .i64 (n : Int)] w (fun e w' => e = .returned (.string (strOfNums (decL n))) ∧ Below w.heap.size w w') := by
  induction n using Nat.strongRecOn generalizing w with
  | ind n ih =>
    have hn0 : (0 : Int) ≤ (n : Int) := by omega
    have hnz : (n : Int) ≤ 9223372036854775807 := by omega
    obtain ⟨D, hD⟩ : ∃ D, D = strOfNums (decL n) := ⟨_, rfl⟩
    rw [← hD]
    have HD := Lib.hid hD
    clear hD
    obtain ⟨x, hx⟩ : ∃ x, x = 48 + (n : Int) % 10 := ⟨_, rfl⟩
    have hcv := conv_new w x
    rw [hx] at hcv
    have H0 := Lib.hid (show Below w.heap.size w (w.alloc (.cells #[.int .u8 (48 + (n : Int) % 10)] 5)) from (Below.refl _ _).alloc (Nat.le_refl _) _)
    by_cases h9 : n < 10
    · have hz9 : (n : Int) ≤ 9 := by omega
      have HE := Lib.hid (show D = strOfNums [48 + (n : Int) % 10] by rw [HD.out, decL_small h9, show (n : Int) % 10 = (n : Int) by omega])
      clear ih hx
      go_enter Tryd.func36, Tryd.ntmps36
      go_wp2_with fail
      go_ret
      exact ⟨ret_str HE.out, H0.out⟩
    · have hz9 : ¬ (n : Int) ≤ 9 := by omega
      have hlen := decL_length (n / 10)
      have HE := Lib.hid (show strOfNums (decL (n / 10)) ++ strOfNums [48 + (n : Int) % 10] = D by rw [HD.out, decL_big h9, str_append, show (n : Int) % 10 = ((n % 10 : Nat) : Int) by omega])
      have HI := Lib.hid (fun W => ih (n / 10) (by omega) (by omega) W)
      have hdv : (n : Int) / 10 = ((n / 10 : Nat) : Int) := by omega
      have HDV := Lib.hid hdv
      have hq : ¬ 9223372036854775807 < (strOfNums (decL (n / 10))).size + (strOfNums [48 + (n : Int) % 10]).size := by
        rw [size_str, size_str]
        simp only [List.length_cons, List.length_nil]
        omega
      have HQ := Lib.hid hq
      clear ih hx hdv hq hlen
      go_enter Tryd.func36, Tryd.ntmps36
      go_wp2_with fail
      rw [HDV.out]
      go_at_call 36
      refine (HI.out _).mono ?_
      rintro e w2 ⟨rfl, hb2⟩
      have H2 := Lib.hid (H0.out.trans (hb2.mono H0.out.size))
      clear hb2 hcv
      have hq := HQ.out
      have he := HE.out
      go_wp2_with fail
      go_ret
      exact ⟨rfl, H2.out⟩
theorem decZ_nat (n : Nat) : decZ (n : Int) = decL n := by
  unfold decZ
  rw [if_neg (by omega), Int.toNat_natCast]
theorem str_min : strOfNums (decZ (-9223372036854775808)) = ⟨#[45, 57, 50, 50, 51, 51, 55, 50, 48, 51, 54, 56, 53, 52, 55, 55, 53, 56, 48, 56]⟩ := by
  unfold decZ
  rw [if_pos (by decide), show (-(-9223372036854775808 : Int)).toNat = 9223372036854775808 from rfl]
  repeat rw [decL_big (by decide)]
  rw [decL_small (by decide)]
  decide +kernel

set_option maxRecDepth 100000 in
set_option maxHeartbeats 1000000 in
theorem rdec_any (n : Int) (h1 : -9223372036854775808 ≤ n) (h2 : n ≤ 9223372036854775807) (w : World) :
    Calls Tryd.prog 36 #[.int .i64 n] w (fun e w' => e = .returned (.string (strOfNums (decZ n))) ∧ Below w.heap.size w w') := by
  by_cases h0 : 0 ≤ n
  · obtain ⟨k, rfl⟩ : ∃ k : Nat, n = (k : Int) := ⟨n.toNat, by omega⟩
    rw [decZ_nat]
    exact rdec_nat k (by omega) w
  · by_cases hm : n = -9223372036854775808
    · subst hm
      obtain ⟨D, hD⟩ : ∃ D, D = strOfNums (decZ (-9223372036854775808)) := ⟨_, rfl⟩
      rw [← hD]
      have HD := Lib.hid (show (⟨#[45, 57, 50, 50, 51, 51, 55, 50, 48, 51, 54, 56, 53, 52, 55, 55, 53, 56, 48, 56]⟩ : ByteArray) = D by rw [hD, str_min])
      clear hD
      go_enter Tryd.func36, Tryd.ntmps36
      go_wp2_with fail
      go_ret
      exact ⟨congrArg (fun s => Ending.returned (.string s)) HD.out, Below.refl _ _⟩
    · obtain ⟨k, hk⟩ : ∃ k : Nat, -n = (k : Int) := ⟨(-n).toNat, by omega⟩
      have HK := Lib.hid hk
      obtain ⟨D, hD⟩ : ∃ D, D = strOfNums (decZ n) := ⟨_, rfl⟩
      rw [← hD]
      have hlen := decL_len 19 k (by decide) (by omega)
      have HE := Lib.hid (show (⟨#[45]⟩ : ByteArray) ++ strOfNums (decL k) = D by
        rw [hD, show decZ n = [45] ++ decL k from by unfold decZ; rw [if_pos (by omega), hk, Int.toNat_natCast]; rfl, ← str_append]
        rfl)
      have hne : (n == -9223372036854775808) = false := beq_eq_false_iff_ne.2 hm
      have hlt : n < 0 := by omega
      have hw : IntKind.i64.wrap (-n) = -n := IntWalk.i64_in _ (by omega)
      have HI := Lib.hid (fun W => rdec_nat k (by omega) W)
      have HQ := Lib.hid (show ¬ 9223372036854775807 < (⟨#[45]⟩ : ByteArray).size + (strOfNums (decL k)).size by rw [size_str]; show ¬ 9223372036854775807 < 1 + _; omega)
      clear hD hm hk hlen h0
      go_enter Tryd.func36, Tryd.ntmps36
      go_wp2_with fail
      rw [HK.out]
      go_at_call 36
      refine (HI.out _).mono ?_
      rintro e w2 ⟨rfl, hb2⟩
      have H2 := Lib.hid hb2
      clear hb2
      have hq := HQ.out
      have he := HE.out
      go_wp2_with fail
      go_ret
      exact ⟨rfl, H2.out⟩
end Go.Proofs.YtmbmkmigcmlodaaDoor
namespace Go.Proofs.YtmbmkmigcmlodaaDoor
open Go.RowKit

/-- A digit of sixteen. -/
def hexD (k : Nat) : Int := if k < 10 then 48 + k else 87 + k
def hexL (us : List Int) : List Int := us.flatMap fun b => [hexD (b / 16).toNat, hexD (b % 16).toNat]
theorem hexL_next (us : List Int) (b : Int) : hexL (us ++ [b]) = hexL us ++ [hexD (b / 16).toNat, hexD (b % 16).toNat] := by simp [hexL]
theorem hexL_length (us : List Int) : (hexL us).length = 2 * us.length := by
  induction us with
  | nil => rfl
  | cons a l ih => simp only [hexL, List.flatMap_cons, List.length_append, List.length_cons, List.length_nil] at ih ⊢; omega
/-- The digits as a text. -/
def hexS : ByteArray := ⟨#[48, 49, 50, 51, 52, 53, 54, 55, 56, 57, 97, 98, 99, 100, 101, 102]⟩
theorem hexS_size : hexS.size = 16 := rfl
theorem hexS_at (k : Nat) (h : k < 16) (h' : k < hexS.size) : ((hexS[k].toNat : Nat) : Int) = hexD k := by
  have h1 : ∀ k : Fin 16, ((hexS[k.val]'(by have := k.isLt; rw [hexS_size]; exact this)).toNat : Int) = hexD k.val := by decide
  exact h1 ⟨k, h⟩
/-- What Hex hands out: a text of these bytes. -/
def TextPost (w : World) (ds : List Int) (e : Ending) (w' : World) : Prop := e = .returned (.string (strOfNums ds)) ∧ Below w.heap.size w w'

set_option maxHeartbeats 2000000 in
set_option maxRecDepth 100000 in
theorem rhex_any (X : Option Addr) (c : Nat) (us : List Int) (w : World) (hX : InS w w.heap.size X us) (hus : ∀ e ∈ us, 0 ≤ e ∧ e < 256) (hm : us.length ≤ 1000) :
    Calls Tryd.prog 29 #[.slice X us.length c] w (TextPost w (hexL us)) := by
  obtain ⟨ul, hul⟩ : ∃ ul, ul = us.length := ⟨_, rfl⟩
  rw [← hul]
  have H0 := Lib.hid (And.intro hX (And.intro hus hul))
  have hm' : ul ≤ 1000 := by omega
  clear hX hus hm hul
  go_enter Tryd.func29, Tryd.ntmps29
  go_upto_region 2 with (fail)
  obtain ⟨S, hS⟩ : ∃ S, S = hexS := ⟨_, rfl⟩
  rw [show (⟨#[48, 49, 50, 51, 52, 53, 54, 55, 56, 57, 97, 98, 99, 100, 101, 102]⟩ : ByteArray) = S from by rw [hS]; rfl]
  have HS := Lib.hid (show ∀ (k : Nat), k < 16 → ∀ (h : k < S.size), ((S[k].toNat : Nat) : Int) = hexD k from fun k hk h => by subst hS; exact hexS_at k hk h)
  have hSz : 16 ≤ S.size := by rw [hS]; exact Nat.le_refl 16
  clear hS
  go_wp2_with fail
  go_loopg [4, 5] ul (fun g v i wr => ∃ k m : Nat, k ≤ ul ∧ g = ul - k ∧ i = .int .i64 k ∧ Hid (m = 2 * k) ∧ Below w.heap.size w wr ∧ wr.ownsRow w.heap.size 5 1 v m ((hexL (us.take k)).map (Value.int .u8)))
  case atStart => exact ⟨0, 0, by omega, rfl, rfl, Lib.hid rfl, Below.refl _ _, World.ownsRow_nil _ _ _ _⟩
  case round =>
    obtain ⟨k, m, hk, rfl, rfl, hm, hb, hown⟩ := hrel
    by_cases hlt : k < ul
    · have hki : (k : Int) < (ul : Int) := by omega
      obtain ⟨hX, hus, hul⟩ := H0.out
      have hmm : m ≤ 2000 := by have := hm.out; omega
      obtain ⟨ad, rfl, hadb, hadc⟩ := hX (by omega)
      have hget : us[k]? = some (us.getD k 0) := by rw [List.getElem?_eq_getElem (by omega), List.getD_eq_getElem?_getD, List.getElem?_eq_getElem (by omega)]; rfl
      have eb : wr.cell? (ad.add k) = some (.int .u8 (us.getD k 0)) := (hb.cell (by rw [addr_add_block]; exact hadb)).trans (hadc k _ hget)
      have hyb := hus _ (List.mem_of_getElem? hget)
      obtain ⟨y, hy⟩ : ∃ y, y = us.getD k 0 := ⟨_, rfl⟩
      rw [← hy] at eb hyb hget
      obtain ⟨hy0, hy1⟩ := hyb
      obtain ⟨hi, hhi⟩ : ∃ q, q = (y / 16).toNat := ⟨_, rfl⟩
      obtain ⟨lo, hlo⟩ : ∃ q, q = (y % 16).toNat := ⟨_, rfl⟩
      have q1 : y / 16 = (hi : Int) := by omega
      have q2 : y % 16 = (lo : Int) := by omega
      have hi1 : hi < S.size := by omega
      have lo1 : lo < S.size := by omega
      have ehi := HS.out hi (by omega)
      have elo := HS.out lo (by omega)
      have HY := Lib.hid (And.intro hget (And.intro hhi hlo))
      clear hX hus hul hadb hadc hget hy hhi hlo
      go_wp2_with fail
      refine wp_region_noPanic ?_
      refine wp_region_held_drew (S := fun _ => True) (by kernel_rfl) trivial (fun hS => ?_)
      refine wpAnyH_take (i := 0) (v := ?_) (ops_at rfl) (by kernel_rfl) (by kernel_rfl) (by kernel_rfl) (fun _ _ _ h => h) (Or.inl ⟨by rfl, ?_⟩) hS ?_
      rotate_left
      · intro _ _; first | (go_simp; done) | (go_simp; with_reducible rfl)
      simp only [Act.put, List.setIfInBounds_toArray, List.set_cons_zero, List.set_cons_succ]
      refine wpAnyH_take (i := 1) (v := ?_) (ops_at rfl) (by kernel_rfl) (by kernel_rfl) (by kernel_rfl) (fun _ _ _ h => h) (Or.inl ⟨by rfl, ?_⟩) hS ?_
      rotate_left
      · intro _ _; first | (go_simp; done) | (go_simp; with_reducible rfl)
      simp only [Act.put, List.setIfInBounds_toArray, List.set_cons_zero, List.set_cons_succ]
      refine wpAnyH_take (i := 2) (v := ?_) (ops_at rfl) (by kernel_rfl) (by kernel_rfl) (by kernel_rfl) (fun _ _ _ h => h) (Or.inl ⟨by rfl, ?_⟩) hS ?_
      rotate_left
      · intro _ _; first | (go_simp; done) | (go_simp; with_reducible rfl)
      simp only [Act.put, List.setIfInBounds_toArray, List.set_cons_zero, List.set_cons_succ]
      refine wpAnyH_take (i := 3) (v := ?_) (ops_at rfl) (by kernel_rfl) (by kernel_rfl) (by kernel_rfl) (fun _ _ _ h => h) (Or.inl ⟨by rfl, ?_⟩) hS ?_
      rotate_left
      · intro _ _; first | (go_simp; done) | (go_simp; with_reducible rfl)
      simp only [Act.put, List.setIfInBounds_toArray, List.set_cons_zero, List.set_cons_succ]
      refine wpAnyH_take (i := 4) (v := ?_) (ops_at rfl) (by kernel_rfl) (by kernel_rfl) (by kernel_rfl) (fun _ _ _ h => h) (Or.inl ⟨by rfl, ?_⟩) hS ?_
      rotate_left
      · intro _ _; first | (go_simp; done) | (go_simp; with_reducible rfl)
      simp only [Act.put, List.setIfInBounds_toArray, List.set_cons_zero, List.set_cons_succ]
      refine wpAnyH_take (i := 5) (v := ?_) (ops_at rfl) (by kernel_rfl) (by kernel_rfl) (by kernel_rfl) (fun _ _ _ h => h) (Or.inl ⟨by rfl, ?_⟩) hS ?_
      rotate_left
      · intro _ _; first | (go_simp; done) | (go_simp; with_reducible rfl)
      simp only [Act.put, List.setIfInBounds_toArray, List.set_cons_zero, List.set_cons_succ]
      refine wpAnyH_take (i := 6) (v := ?_) (ops_at rfl) (by kernel_rfl) (by kernel_rfl) (by kernel_rfl) (fun _ _ _ h => h) (Or.inl ⟨by rfl, ?_⟩) hS ?_
      rotate_left
      · intro _ _; first | (go_simp; done) | (go_simp; with_reducible rfl)
      simp only [Act.put, List.setIfInBounds_toArray, List.set_cons_zero, List.set_cons_succ]
      refine wpAnyH_ready (rs := [7]) (by kernel_rfl) (by simp) (AllReadyH.cons (ops_at rfl) (fun K hK => ?_) AllReadyH.nil)
      go_simp
      refine hK.out _ _ trivial (fun hS => ?_)
      clear hK K
      have hown2 := hown.kept (row := none) (w' := wr.drew) ⟨rfl, rfl, rfl, Nat.le_refl _, fun _ _ _ => rfl⟩ (by cases h : u4.ownBlock <;> simp)
      obtain ⟨v7, w7, hap, hown7, hg7⟩ := append_two w.heap.size m u4 _ (hexD hi) (hexD lo) wr.drew hown2 (by omega) hb.size
      refine wpAnyH_ready (rs := [8]) (by kernel_rfl) (by simp) (AllReadyH.cons (ops_at rfl) (fun K hK => ?_) AllReadyH.nil)
      rw [if_pos (by rfl)]
      refine wp_append_run _ _ 44 rfl rfl rfl hap ?_
      simp only [Act.put, List.setIfInBounds_toArray, List.set_cons_zero, List.set_cons_succ]
      refine hK.out _ _ trivial (fun hS => ?_)
      clear hK K
      refine wpAnyH_take (i := 9) (v := ?_) (ops_at rfl) (by kernel_rfl) (by kernel_rfl) (by kernel_rfl) (fun _ _ _ h => h) (Or.inl ⟨by rfl, ?_⟩) hS ?_
      rotate_left
      · intro _ _; first | (go_simp; done) | (go_simp; with_reducible rfl)
      simp only [Act.put, List.setIfInBounds_toArray, List.set_cons_zero, List.set_cons_succ]
      refine wpAnyH_done (by kernel_rfl) ?_ _
      refine NoPanic.normal ?_
      obtain ⟨Y7, cy7, rfl, -, -, -⟩ := own_slice hown7
      have HQ := Lib.hid (And.intro hown7 (((hb.drew).alloc hb.size (.cells #[.int .u8 (hexD hi), .int .u8 (hexD lo)] 5)).grown hg7 (by have := hb.size; simp [World.size_alloc]; exact Nat.le_succ_of_le this) (fun g hg => own_ge hown hg)))
      clear hown2 hap hown7 hg7 hb hown hS ehi elo
      go_wp2
      go_roundg (ul - (k + 1))
      case measure => omega
      case rel =>
        obtain ⟨hget, hhi, hlo⟩ := HY.out
        refine ⟨k + 1, m + 2, by omega, rfl, by go_num, Lib.hid (by have := hm.out; omega), HQ.out.2, ?_⟩
        have ht : us.take (k + 1) = us.take k ++ [y] := by rw [List.take_add_one, hget]; rfl
        rw [ht, hexL_next, ← hhi, ← hlo, List.map_append]
        exact HQ.out.1
    · have hki : ¬ (k : Int) < (ul : Int) := by omega
      obtain ⟨Y, cy, rfl, -, -, -⟩ := own_slice hown
      have hcv := conv_own hown
      have hfin : us.take k = us := List.take_of_length_le (by have := H0.out.2.2; omega)
      rw [hfin] at hcv
      have HQ := Lib.hid hb
      have HC := Lib.hid hcv
      clear hb hown hfin hcv
      go_wp2_with fail
      rw [HC.out]
      go_wp2_with fail
      go_ret
      exact ⟨rfl, HQ.out⟩
end Go.Proofs.YtmbmkmigcmlodaaDoor
