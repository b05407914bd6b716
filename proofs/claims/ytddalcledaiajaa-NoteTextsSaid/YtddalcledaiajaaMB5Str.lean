/- The reference reads its own digits back; there are no others that it reads. strings.IndexByte and strings.TrimSuffix, in the words of this stage. -/
import Derived.Test.YtddalcledaiajaaRbUnhex
import Derived.Test.YtddalcledaiajaaMT7DecM
import Derived.Lib.Strings
import Derived.Lib.Slices
import Derived.Lib.Walk
import Derived.Lib.Bytealg
namespace Go.Proofs.Ytddalcledaiajaa
open Go.RowKit

theorem hex_facts : ∀ k, k < 16 → atP (txt hexS) (hexD k) = (k : Int) ∧ (txt hexS)[k]? = some (hexD k) ∧ 0 ≤ hexD k ∧ hexD k < 256 := by decide +kernel
theorem atP_get : ∀ (l : List Int) (c : Int), 0 ≤ atP l c → l[(atP l c).toNat]? = some c
  | [], _, h => by exact absurd h (by rw [atP]; decide)
  | a :: r, c, h => by
    rw [atP] at h ⊢
    by_cases e : a = c
    · rw [if_pos e, e]; rfl
    · rw [if_neg e] at h ⊢
      by_cases h2 : atP r c < 0
      · rw [if_pos h2] at h; exact absurd h (by decide)
      · rw [if_neg h2] at h ⊢
        have ih := atP_get r c (by omega)
        rw [show (atP r c + 1).toNat = (atP r c).toNat + 1 by omega, List.getElem?_cons_succ]
        exact ih
theorem hex_of {c : Int} (h : 0 ≤ atP (txt hexS) c) : c = hexD (atP (txt hexS) c).toNat ∧ atP (txt hexS) c < 16 := by
  have hr := (atP_range (txt hexS) c).2
  rw [show (txt hexS).length = 16 from by rw [txt_length]; rfl] at hr
  have h1 := atP_get _ _ h
  rw [(hex_facts (atP (txt hexS) c).toNat (by omega)).2.1] at h1
  exact ⟨(Option.some.inj h1).symm, by omega⟩
theorem unhexL_hex : ∀ (us : List Int), (∀ e ∈ us, 0 ≤ e ∧ e < 256) → unhexL (hexL us) = some us
  | [], _ => rfl
  | a :: r, h => by
    have ha := h a (by simp)
    have h1 := (hex_facts (a / 16).toNat (by omega)).1
    have h2 := (hex_facts (a % 16).toNat (by omega)).1
    have e : hexL (a :: r) = hexD (a / 16).toNat :: hexD (a % 16).toNat :: hexL r := by simp [hexL]
    rw [e, unhexL, h1, h2, if_neg (by omega), unhexL_hex r (fun e he => h e (by simp [he]))]
    show some ((16 * (((a / 16).toNat : Nat) : Int) + (((a % 16).toNat : Nat) : Int)) :: r) = some (a :: r)
    congr 2
    omega
theorem unhexL_some : ∀ (l ds : List Int), unhexL l = some ds → (∀ e ∈ ds, 0 ≤ e ∧ e < 256) ∧ l = hexL ds
  | [], ds, h => by
    have e : ds = [] := (Option.some.inj h).symm
    subst e
    exact ⟨by simp, rfl⟩
  | [_], _, h => by cases h
  | a :: b :: r, ds, h => by
    rw [unhexL] at h
    by_cases hb : atP (txt hexS) a < 0 ∨ atP (txt hexS) b < 0
    · rw [if_pos hb] at h; cases h
    · rw [if_neg hb] at h
      obtain ⟨t, ht, rfl⟩ := Option.map_eq_some_iff.1 h
      obtain ⟨h1, h2⟩ := unhexL_some r t ht
      obtain ⟨ea, ra⟩ := hex_of (c := a) (by omega)
      obtain ⟨eb, rb⟩ := hex_of (c := b) (by omega)
      refine ⟨fun e he => ?_, ?_⟩
      · rcases List.mem_cons.1 he with rfl | he
        · omega
        · exact h1 e he
      · have e : hexL ((16 * atP (txt hexS) a + atP (txt hexS) b) :: t) = hexD ((16 * atP (txt hexS) a + atP (txt hexS) b) / 16).toNat :: hexD ((16 * atP (txt hexS) a + atP (txt hexS) b) % 16).toNat :: hexL t := by simp [hexL]
        rw [e, show (16 * atP (txt hexS) a + atP (txt hexS) b) / 16 = atP (txt hexS) a by omega, show (16 * atP (txt hexS) a + atP (txt hexS) b) % 16 = atP (txt hexS) b by omega, ← ea, ← eb, ← h2]
end Go.Proofs.Ytddalcledaiajaa
namespace Go.Proofs.Ytddalcledaiajaa
open Go.RowKit

theorem index_at : ∀ (l : List UInt8) (c : Int), 0 ≤ c ∧ c < 256 → Lib.indexByte l c.toNat.toUInt8 = atP (l.map fun b => ((b.toNat : Nat) : Int)) c
  | [], _, _ => rfl
  | b :: l, c, h => by
    have ih := index_at l c h
    have hb := b.toNat_lt
    have e : (b == c.toNat.toUInt8) = decide (((b.toNat : Nat) : Int) = c) := by
      by_cases h1 : ((b.toNat : Nat) : Int) = c
      · rw [decide_eq_true h1, beq_iff_eq, ← h1, Int.toNat_natCast]
        exact (UInt8.ofNat_toNat).symm
      · rw [decide_eq_false h1, beq_eq_false_iff_ne]
        intro h2
        apply h1
        rw [h2]
        show (((UInt8.ofNat c.toNat).toNat : Nat) : Int) = c
        rw [UInt8.toNat_ofNat']
        omega
    unfold Lib.indexByte
    rw [List.map_cons, atP, e, ih]
    have hr := (atP_range (l.map fun b => ((b.toNat : Nat) : Int)) c).1
    by_cases h1 : ((b.toNat : Nat) : Int) = c
    · rw [if_pos (by simp [h1]), if_pos h1]
    · rw [if_neg (by simp [h1]), if_neg h1]
      by_cases h2 : atP (l.map fun b => ((b.toNat : Nat) : Int)) c < 0
      · rw [if_pos h2, if_pos (by rw [beq_iff_eq]; omega)]
      · rw [if_neg h2, if_neg (by rw [beq_iff_eq]; omega)]

set_option maxHeartbeats 1000000 in
set_option maxRecDepth 100000 in
theorem lite_index (s : ByteArray) (c : Int) (w : World) :
    Calls Try.prog 59 #[.string s, .int .u8 c] w fun e w' => e = .returned (.int .i64 (Lib.indexByte s.data.toList c.toNat.toUInt8)) ∧ w = w' := by
  go_enter Try.func59, Try.ntmps59
  go_wp2
  rw [run_callFunc_extern Try.func62 (by kernel_rfl) (by kernel_rfl) (by kernel_rfl) (e := Extern.BytealgIndexByte.indexByte) (by kernel_rfl), Lib.run_indexByteString]
  simp only [Result.andThen]
  rw [Oper.upon_value]
  go_wp2
  go_ret
  exact ⟨rfl, rfl⟩

set_option maxHeartbeats 1000000 in
theorem index_any (s : ByteArray) (c : Int) (w : World) (hc : 0 ≤ c ∧ c < 256) :
    Calls Try.prog 50 #[.string s, .int .u8 c] w fun e w' => e = .returned (.int .i64 (atP (txt s) c)) ∧ w = w' := by
  rw [show atP (txt s) c = Lib.indexByte s.data.toList c.toNat.toUInt8 from (index_at s.data.toList c hc).symm]
  go_enter Try.func50, Try.ntmps50
  go_wp2_with (go_at_call 59; refine (lite_index _ _ _).mono ?_; rintro e w' ⟨rfl, rfl⟩)
  go_ret
  exact ⟨rfl, rfl⟩

/-- A text without one sign at its end. -/
def trim1 (l : List Int) : List Int := if l.getLast? = some 61 then l.dropLast else l
theorem trim1_str (s : ByteArray) : (⟨(Lib.trimSuffix s.data.toList [61]).toArray⟩ : ByteArray) = strOfNums (trim1 (txt s)) := by
  have hsuf : Lib.hasSuffix s.data.toList [61] = decide ((txt s).getLast? = some 61) := by
    unfold Lib.hasSuffix txt
    rw [List.getLast?_map]
    cases hl : s.data.toList.getLast? with
    | none =>
      rw [List.getLast?_eq_none_iff] at hl
      rw [hl]
      rfl
    | some b =>
      obtain ⟨r, hr⟩ := List.getLast?_eq_some_iff.1 hl
      rw [hr, Bool.eq_iff_iff]
      simp only [Option.map_some, decide_eq_true_eq, Option.some.injEq]
      rw [List.isSuffixOf_iff_suffix]
      constructor
      · intro h
        have h2 : b = 61 := by
          have h3 := List.suffix_concat_iff.1 h
          rcases h3 with h3 | ⟨t, h3, h4⟩
          · cases h3
          · have h5 := List.append_inj' (s₁ := t) (t₁ := [b]) (s₂ := []) (t₂ := [61]) (by simpa using h3.symm) rfl
            simpa using h5.2
        rw [h2]; rfl
      · intro h
        have h2 : b = 61 := by
          apply UInt8.toNat_inj.1
          have : (61 : UInt8).toNat = 61 := rfl
          omega
        rw [h2]
        exact List.suffix_append r [61]
  unfold Lib.trimSuffix trim1
  rw [hsuf]
  by_cases h : (txt s).getLast? = some 61
  · rw [if_pos (decide_eq_true h), if_pos h]
    apply ByteArray.ext
    show (List.take _ _).toArray = _
    unfold strOfNums txt
    rw [← List.map_dropLast, List.map_map, List.dropLast_eq_take]
    congr 1
    conv => lhs; rw [← List.map_id (List.take _ _)]
    refine List.map_congr_left fun b _ => ?_
    show b = UInt8.ofNat ((b.toNat : Int)).toNat
    rw [Int.toNat_natCast, UInt8.ofNat_toNat]
  · rw [if_neg (by rw [decide_eq_true_eq]; exact h), if_neg h, str_txt]

set_option maxHeartbeats 1000000 in
theorem trim_any (s : ByteArray) (w : World) (hs : s.size ≤ 1000) :
    Calls Try.prog 44 #[.string s, .string ⟨#[61]⟩] w fun e w' => e = .returned (.string (strOfNums (trim1 (txt s)))) ∧ w = w' := by
  rw [← trim1_str]
  obtain ⟨p, hp⟩ : ∃ p : ByteArray, p = ⟨#[61]⟩ := ⟨_, rfl⟩
  rw [← hp, show ([61] : List UInt8) = p.data.toList by rw [hp]]
  clear hp
  have hlo : p.size ≤ s.size → ((s.size : Int) - (p.size : Int) + 9223372036854775808) % 18446744073709551616 - 9223372036854775808 = ((s.size - p.size : Nat) : Int) := fun _ => by omega
  go_enter Try.func44, Try.ntmps44
  go_wp2
  · have h1 : p.size ≤ s.size := by assumption
    have h2 : ((s.extract (s.size - p.size) s.size).toList == p.toList) = true := by assumption
    go_ret
    refine ⟨?_, rfl⟩
    rw [Lib.trimSuffix_hit s p h1 h2]
    rfl
  · have h2 : ((s.extract (s.size - p.size) s.size).toList == p.toList) = false := by assumption
    go_ret
    refine ⟨?_, rfl⟩
    rw [Lib.trimSuffix_miss s p (by rw [h2]; simp)]
    rfl
  · have h1 : ¬ p.size ≤ s.size := by assumption
    go_ret
    refine ⟨?_, rfl⟩
    rw [Lib.trimSuffix_miss s p (by simp [h1])]
    rfl
end Go.Proofs.Ytddalcledaiajaa
