/- Contracts of the program's isName, sixteen, and of strings.Clone. -/
import Derived.Test.YtbkpnbagmojkaaaDoorP7Num
import Derived.Test.YtbkpnbagmojkaaaDoorP7Shelf
import Derived.Test.YtbkpnbagmojkaaaDoorT7PairM
import Derived.Lib.DecodeN
namespace Go.Proofs.YtbkpnbagmojkaaaDoor
open Go.RowKit

theorem clone_any (s : ByteArray) (w : World) (hs : s.size ≤ 281474976710656) : Calls Tryd.prog 18 #[.string s] w (fun e w' => e = .returned (.string s) ∧ Below w.heap.size w w') := by
  have HC := Lib.hid (Tryd.stringslite_Clone s w hs)
  go_enter Tryd.func18, Tryd.ntmps18
  go_wp2_with fail
  go_at_call 27
  refine HC.out.mono ?_
  rintro e w1 ⟨rfl, hb⟩
  have H1 := Lib.hid hb
  clear hb
  go_wp2_with fail
  go_ret
  exact ⟨rfl, H1.out⟩

/-- A sign that no name has. -/
def otherB (x : Nat) : Bool := decide (x ≠ 95 ∧ (x < 97 ∨ 122 < x))
set_option maxHeartbeats 400000 in
theorem other_any (x : Nat) (hx : x ≤ 1114111) (w : World) : Calls Tryd.prog 33 #[.int .i32 (x : Int)] w (fun e w' => e = .returned (.bool (otherB x)) ∧ Below w.heap.size w w') := by
  by_cases h1 : x = 95
  · have HE := Lib.hid (show otherB x = false from decide_eq_false fun h => h.1 h1)
    generalize otherB x = d at *
    subst h1
    go_enter Tryd.func33, Tryd.ntmps33
    go_wp2_with fail
    go_ret
    exact ⟨by rw [HE.out]; rfl, Below.refl _ _⟩
  · have e1 : ((x : Int) == 95) = false := beq_eq_false_iff_ne.2 (by omega)
    have e2 : ((x : Int) != 95) = true := by rw [bne_iff_ne]; omega
    by_cases h2 : x < 97
    · have hz : (x : Int) < 97 := by omega
      have HE := Lib.hid (show otherB x = true from decide_eq_true ⟨h1, .inl h2⟩)
      generalize otherB x = d at *
      go_enter Tryd.func33, Tryd.ntmps33
      go_wp2_with fail
      go_ret
      exact ⟨by rw [HE.out]; rfl, Below.refl _ _⟩
    · have hz : ¬ (x : Int) < 97 := by omega
      by_cases h3 : 122 < x
      · have hy : (122 : Int) < (x : Int) := by omega
        have HE := Lib.hid (show otherB x = true from decide_eq_true ⟨h1, .inr h3⟩)
        generalize otherB x = d at *
        go_enter Tryd.func33, Tryd.ntmps33
        go_wp2_with fail
        go_ret
        exact ⟨by rw [HE.out]; rfl, Below.refl _ _⟩
      · have hy : ¬ (122 : Int) < (x : Int) := by omega
        have HE := Lib.hid (show otherB x = false from decide_eq_false fun h => by omega)
        generalize otherB x = d at *
        go_enter Tryd.func33, Tryd.ntmps33
        go_wp2_with fail
        go_ret
        exact ⟨by rw [HE.out]; rfl, Below.refl _ _⟩

theorem decodeN_high (n b0 b1 b2 b3 : Nat) (h : 128 ≤ b0) : 128 ≤ (Go.Lib.decodeN n b0 b1 b2 b3).1 := by
  unfold Go.Lib.decodeN
  rw [if_neg (by omega)]
  split
  · split <;> simp <;> omega
  · split
    · split <;> simp <;> omega
    · split
      · split <;> simp <;> omega
      · simp
theorem get_at (s : ByteArray) (i : Nat) (h : i < s.size) : s.get! i = s[i] := by
  cases s with
  | mk d => exact getElem!_pos d i h
theorem idx_other (s : ByteArray) : ∀ (f pos : Nat), s.size ≤ pos + f → (0 ≤ Go.Lib.idxFuncFrom otherB true s f pos ↔ ∃ i c, pos ≤ i ∧ (txt s)[i]? = some c ∧ ¬ nameC c)
  | 0, pos, h => by
    constructor
    · intro h0; simp [Go.Lib.idxFuncFrom] at h0
    · rintro ⟨i, c, h1, h2, -⟩
      have := (List.getElem?_eq_some_iff.1 h2).1
      rw [txt_length] at this
      omega
  | f + 1, pos, h => by
    unfold Go.Lib.idxFuncFrom
    by_cases hp : pos < s.size
    · rw [if_pos hp, Go.Lib.decode_at, get_at s pos hp]
      have ha := txt_at s pos hp
      generalize (s[pos]).toNat = b0 at ha ⊢
      by_cases hn : nameC (b0 : Int)
      · have hb : b0 < 128 := by unfold nameC at hn; omega
        have e : ∀ n b1 b2 b3, Go.Lib.decodeN n b0 b1 b2 b3 = (b0, 1) := fun n b1 b2 b3 => by unfold Go.Lib.decodeN; rw [if_pos hb]
        rw [e, if_neg (by
          have : otherB b0 = false := decide_eq_false fun h => by unfold nameC at hn; omega
          rw [this]; decide)]
        rw [idx_other s f (pos + 1) (by omega)]
        constructor
        · rintro ⟨i, c, h1, h2, h3⟩
          exact ⟨i, c, by omega, h2, h3⟩
        · rintro ⟨i, c, h1, h2, h3⟩
          refine ⟨i, c, ?_, h2, h3⟩
          rcases Nat.lt_or_ge pos i with h4 | h4
          · omega
          · obtain rfl : i = pos := by omega
            rw [ha] at h2
            cases h2
            exact absurd hn h3
      · rw [if_pos]
        · exact ⟨fun _ => ⟨pos, _, Nat.le_refl _, ha, hn⟩, fun _ => by omega⟩
        · by_cases hb : b0 < 128
          · have e : ∀ n b1 b2 b3, Go.Lib.decodeN n b0 b1 b2 b3 = (b0, 1) := fun n b1 b2 b3 => by unfold Go.Lib.decodeN; rw [if_pos hb]
            rw [e]
            exact decide_eq_true (by unfold nameC at hn; omega)
          · refine decide_eq_true ?_
            have := decodeN_high (s.size - pos) b0 (s.get! (pos + 1)).toNat (s.get! (pos + 2)).toNat (s.get! (pos + 3)).toNat (by omega)
            omega
    · rw [if_neg hp]
      constructor
      · intro h0; omega
      · rintro ⟨i, c, h1, h2, -⟩
        have := (List.getElem?_eq_some_iff.1 h2).1
        rw [txt_length] at this
        omega
/-- A text that may be a name. -/
def nameB (l : List Int) : Bool := decide (1 ≤ l.length ∧ l.length ≤ 20 ∧ ∀ c ∈ l, nameC c)
theorem idx_name (s : ByteArray) : decide (0 ≤ Go.Lib.idxFunc otherB true s) = !decide (∀ c ∈ txt s, nameC c) := by
  have h := idx_other s s.size 0 (by omega)
  unfold Go.Lib.idxFunc
  by_cases hn : ∀ c ∈ txt s, nameC c
  · rw [decide_eq_true hn]
    refine decide_eq_false fun h0 => ?_
    obtain ⟨i, c, -, h2, h3⟩ := h.1 h0
    exact h3 (hn c (List.mem_of_getElem? h2))
  · rw [decide_eq_false hn]
    refine decide_eq_true (h.2 ?_)
    simp only [Classical.not_forall] at hn
    obtain ⟨c, hc, hx⟩ := hn
    obtain ⟨i, hi, rfl⟩ := List.getElem_of_mem hc
    exact ⟨i, _, Nat.zero_le _, List.getElem?_eq_getElem hi, hx⟩
theorem enters_other : ∀ args w, (callFunc 33 args).run Tryd.prog w = .ok (.enter 33 args) w := enters_of Tryd.func33 (by kernel_rfl) rfl
theorem contains_any (s : ByteArray) (w : World) : Calls Tryd.prog 34 #[.string s, .func (.func 33) #[] #[]] w (fun e w' => e = .returned (.bool (!decide (∀ c ∈ txt s, nameC c))) ∧ Below w.heap.size w w') := by
  have h := Tryd.strings_ContainsFunc_grows 33 #[] enters_other otherB s w (fun W x hx hb => other_any x hx W)
  rw [idx_name] at h
  exact h

set_option maxRecDepth 100000 in
set_option maxHeartbeats 1000000 in
theorem isname_any (s : ByteArray) (w : World) : Calls Tryd.prog 24 #[.string s] w (fun e w' => e = .returned (.bool (nameB (txt s))) ∧ Below w.heap.size w w') := by
  have p1 := fun W => contains_any s W
  have p2 := fun W => within_any (s.size : Int) 1 20 W
  obtain ⟨b, hb⟩ : ∃ b, b = decide (1 ≤ (s.size : Int) ∧ (s.size : Int) ≤ 20) := ⟨_, rfl⟩
  obtain ⟨d, hd⟩ : ∃ d, d = decide (∀ c ∈ txt s, nameC c) := ⟨_, rfl⟩
  have hE : nameB (txt s) = (b && d) := by
    unfold nameB
    rw [hb, hd, ← Bool.decide_and, txt_length]
    congr 1
    apply propext
    constructor
    · rintro ⟨h1, h2, h3⟩; exact ⟨⟨by omega, by omega⟩, h3⟩
    · rintro ⟨⟨h1, h2⟩, h3⟩; exact ⟨by omega, by omega, h3⟩
  rw [← hd] at p1
  rw [← hb] at p2
  rw [hE]
  have P1 := Lib.hid p1
  have P2 := Lib.hid p2
  clear p1 p2 hb hd hE
  go_enter Tryd.func24, Tryd.ntmps24
  go_wp2_with fail
  go_at_call 21
  refine (P2.out _).mono ?_
  rintro e w' ⟨rfl, rfl⟩
  cases b with
  | false =>
    go_wp2_with fail
    go_ret
    exact ⟨rfl, Below.refl _ _⟩
  | true =>
    go_wp2_with fail
    go_at_call 34
    refine (P1.out _).mono ?_
    rintro e w2 ⟨rfl, hb2⟩
    have H2 := Lib.hid hb2
    clear hb2
    cases d <;> (go_wp2_with fail; go_ret; exact ⟨rfl, H2.out⟩)
end Go.Proofs.YtbkpnbagmojkaaaDoor
