/- Contract of the reference's Unhex. -/
import Derived.Test.YtjeagjmjlkkheaaRbAt
namespace Go.Proofs.Ytjeagjmjlkkheaa
open Go.RowKit

/-- The bytes of digits of sixteen, two by two. -/
def unhexL : List Int → Option (List Int)
  | [] => some []
  | [_] => none
  | a :: b :: r => if atP (txt hexS) a < 0 ∨ atP (txt hexS) b < 0 then none else (unhexL r).map fun t => (16 * atP (txt hexS) a + atP (txt hexS) b) :: t
theorem unhexL_odd : ∀ (l : List Int), l.length % 2 = 1 → unhexL l = none
  | [], h => by simp at h
  | [_], _ => rfl
  | a :: b :: r, h => by
    have ih := unhexL_odd r (by simp at h; omega)
    rw [unhexL, ih]
    by_cases e : atP (txt hexS) a < 0 ∨ atP (txt hexS) b < 0
    · rw [if_pos e]
    · rw [if_neg e]; rfl
/-- Bytes, and that they are some; or none. -/
def BytesPost (w : World) (r : Option (List Int)) (e : Ending) (w' : World) : Prop :=
  Below w.heap.size w w' ∧ match r with
    | none => e = .returned (.tuple #[.slice none 0 0, .bool false])
    | some ds => ∃ v, e = .returned (.tuple #[v, .bool true]) ∧ w'.ownsRow w.heap.size 5 1 v ds.length (ds.map (Value.int .u8))
theorem bytesPost_none {w w' : World} {r : Option (List Int)} (h : r = none) (hb : Below w.heap.size w w') : BytesPost w r (.returned (.tuple #[.slice none 0 0, .bool false])) w' := by subst h; exact ⟨hb, rfl⟩
theorem bytesPost_some {w w' : World} {r : Option (List Int)} {ds : List Int} {v : Value} {n : Nat} (h : r = some ds) (hn : n = ds.length) (hb : Below w.heap.size w w') (ho : w'.ownsRow w.heap.size 5 1 v n (ds.map (Value.int .u8))) : BytesPost w r (.returned (.tuple #[v, .bool true])) w' := by
  subst h
  subst hn
  exact ⟨hb, v, rfl, ho⟩
theorem drop_two {l : List Int} {j : Nat} {a b : Int} (ha : l[j]? = some a) (hb : l[j + 1]? = some b) : l.drop j = a :: b :: l.drop (j + 2) := by
  have h1 := (List.getElem?_eq_some_iff.1 ha)
  have h2 := (List.getElem?_eq_some_iff.1 hb)
  obtain ⟨h1, rfl⟩ := h1
  obtain ⟨h2, rfl⟩ := h2
  rw [List.drop_eq_getElem_cons h1, List.drop_eq_getElem_cons h2]

set_option maxHeartbeats 1000000 in
theorem runhex_any (s : ByteArray) (w : World) (hs : s.size ≤ 1000) : Calls Try.prog 18 #[.string s] w (BytesPost w (unhexL (txt s))) := by
  obtain ⟨R, hR⟩ : ∃ R, R = unhexL (txt s) := ⟨_, rfl⟩
  rw [← hR]
  have HR := Lib.hid hR
  clear hR
  by_cases hodd : s.size % 2 = 1
  · have e1 : ((s.size : Int) % 2 == 0) = false := by rw [beq_eq_false_iff_ne]; omega
    have e2 : ((s.size : Int) % 2 != 0) = true := by rw [bne_iff_ne]; omega
    have HN := Lib.hid (show R = none by rw [HR.out]; exact unhexL_odd _ (by rw [txt_length]; exact hodd))
    clear hodd
    go_enter Try.func18, Try.ntmps18
    go_wp2_with fail
    go_ret2
    exact bytesPost_none HN.out (Below.refl _ _)
  · have e1 : ((s.size : Int) % 2 == 0) = true := by rw [beq_iff_eq]; omega
    have e2 : ((s.size : Int) % 2 != 0) = false := by rw [← Bool.not_eq_true, bne_iff_ne]; omega
    have HE := Lib.hid (show s.size % 2 = 0 by omega)
    clear hodd
    go_enter Try.func18, Try.ntmps18
    go_wp2_with fail
    go_loopg [4, 5] s.size (fun g v i wr => ∃ (j m : Nat) (ds : List Int), j ≤ s.size ∧ g = s.size - j ∧ i = .int .i64 j ∧ Hid (j % 2 = 0 ∧ m = ds.length ∧ m ≤ j ∧ R = (unhexL ((txt s).drop j)).map (ds ++ ·)) ∧ Below w.heap.size w wr ∧ wr.ownsRow w.heap.size 5 1 v m (ds.map (Value.int .u8)))
    case atStart => exact ⟨0, 0, [], by omega, rfl, rfl, Lib.hid ⟨rfl, rfl, Nat.le_refl _, by rw [HR.out, List.drop_zero]; cases unhexL (txt s) <;> rfl⟩, Below.refl _ _, World.ownsRow_nil _ _ _ _⟩
    case round =>
      obtain ⟨j, m, ds, hj, rfl, rfl, hd, hb, hown⟩ := hrel
      have hev := HE.out
      have hev2 := hd.out.1
      have hmj := hd.out.2.2.1
      by_cases hlt : j < s.size
      · have hj1 : j + 1 < s.size := by omega
        have hj2 : (j : Int) + 1 < (s.size : Int) := by omega
        have hj3 : ((j : Int) + 1).toNat = j + 1 := by omega
        have hj4 : (0 : Int) ≤ (j : Int) + 1 := by omega
        have hw1 : IntKind.i64.wrap ((j : Int) + 1) = (j : Int) + 1 := IntWalk.i64_in _ (by omega)
        obtain ⟨hi, hhi⟩ : ∃ q, q = atP (txt hexS) ((s[j].toNat : Nat) : Int) := ⟨_, rfl⟩
        obtain ⟨lo, hlo⟩ : ∃ q, q = atP (txt hexS) ((s[j + 1].toNat : Nat) : Int) := ⟨_, rfl⟩
        have HA := Lib.hid (fun (W : World) => (show Calls Try.prog 26 #[.string ⟨#[48, 49, 50, 51, 52, 53, 54, 55, 56, 57, 97, 98, 99, 100, 101, 102]⟩, .int .u8 ((s[j].toNat : Nat) : Int)] W (fun e w' => e = .returned (.int .i64 hi) ∧ W = w') from by rw [hhi]; exact at_any hexS _ W (by decide)))
        have HB := Lib.hid (fun (W : World) => (show Calls Try.prog 26 #[.string ⟨#[48, 49, 50, 51, 52, 53, 54, 55, 56, 57, 97, 98, 99, 100, 101, 102]⟩, .int .u8 ((s[j + 1].toNat : Nat) : Int)] W (fun e w' => e = .returned (.int .i64 lo) ∧ W = w') from by rw [hlo]; exact at_any hexS _ W (by decide)))
        have h16 : (txt hexS).length = 16 := by rw [txt_length]; rfl
        have rh := atP_range (txt hexS) ((s[j].toNat : Nat) : Int)
        have rl := atP_range (txt hexS) ((s[j + 1].toNat : Nat) : Int)
        rw [h16, ← hhi] at rh
        rw [h16, ← hlo] at rl
        have hstep : unhexL ((txt s).drop j) = if hi < 0 ∨ lo < 0 then none else (unhexL ((txt s).drop (j + 2))).map fun t => (16 * hi + lo) :: t := by
          rw [drop_two (txt_at s j hlt) (txt_at s (j + 1) hj1), unhexL, hhi, hlo]
        obtain ⟨rh1, rh2⟩ := rh
        obtain ⟨rl1, rl2⟩ := rl
        have rh3 : hi ≤ 15 := by omega
        have rl3 : lo ≤ 15 := by omega
        clear hhi hlo h16 rh2 rl2
        by_cases hbad : hi < 0 ∨ lo < 0
        · have HN := Lib.hid (show R = none by rw [hd.out.2.2.2, hstep, if_pos hbad]; rfl)
          have HQ := Lib.hid hb
          clear hstep hb hown hev hev2
          rcases Int.lt_or_le hi 0 with h1 | h1
          · have t1 : decide (hi < 0) = true := decide_eq_true h1
            clear hbad
            go_wp2_with fail
            go_at_call 26
            refine (HA.out _).mono ?_
            rintro e w' ⟨rfl, rfl⟩
            go_wp2_with fail
            go_at_call 26
            refine (HB.out _).mono ?_
            rintro e w' ⟨rfl, rfl⟩
            go_wp2_with fail
            go_ret2
            exact bytesPost_none HN.out HQ.out
          · have h2 : lo < 0 := by omega
            have t1 : decide (hi < 0) = false := decide_eq_false (by omega)
            have t2 : decide (lo < 0) = true := decide_eq_true h2
            clear hbad
            go_wp2_with fail
            go_at_call 26
            refine (HA.out _).mono ?_
            rintro e w' ⟨rfl, rfl⟩
            go_wp2_with fail
            go_at_call 26
            refine (HB.out _).mono ?_
            rintro e w' ⟨rfl, rfl⟩
            go_wp2_with fail
            go_ret2
            exact bytesPost_none HN.out HQ.out
        · have h1 : 0 ≤ hi := by omega
          have h2 : 0 ≤ lo := by omega
          have t1 : decide (hi < 0) = false := decide_eq_false (by omega)
          have t2 : decide (lo < 0) = false := decide_eq_false (by omega)
          rw [if_neg hbad] at hstep
          obtain ⟨v4, w4, hap, hown4, hg4, -⟩ := append_byte w.heap.size m _ _ (16 * hi + lo) wr hown (by omega) hb.size
          have HP := Lib.hid hap
          have HQ := Lib.hid (And.intro hown4 (And.intro ((hb.alloc hb.size (.cells #[.int .u8 (16 * hi + lo)] 5)).grown hg4 (by have := hb.size; simp; omega) (fun g hg => own_ge hown hg)) hstep))
          clear hstep hb hown hev hev2 hap hown4 hg4 hbad
          go_wp2_with fail
          go_at_call 26
          refine (HA.out _).mono ?_
          rintro e w' ⟨rfl, rfl⟩
          go_wp2_with fail
          go_at_call 26
          refine (HB.out _).mono ?_
          rintro e w' ⟨rfl, rfl⟩
          go_wp2_with (at_builtin; refine wpList_append_run rfl _ _ 22 rfl rfl rfl HP.out ?_)
          go_roundg (s.size - (j + 2))
          case measure => omega
          case rel =>
            obtain ⟨hown4, hb4, hstep⟩ := HQ.out
            obtain ⟨h1, h2, h3, h4⟩ := hd.out
            refine ⟨j + 2, m + 1, ds ++ [16 * hi + lo], by omega, rfl, by go_num, Lib.hid ⟨by omega, by simp [h2], by omega, ?_⟩, hb4, by rw [List.map_append]; exact hown4⟩
            rw [h4, hstep]
            cases unhexL ((txt s).drop (j + 2)) with
            | none => rfl
            | some t => simp
      · have hfin : R = some ds := by
          rw [hd.out.2.2.2, List.drop_eq_nil_of_le (by rw [txt_length]; omega), unhexL]
          simp
        have HQ := Lib.hid (And.intro hfin (And.intro hd.out.2.1 (And.intro hb hown)))
        clear hfin hb hown hev hev2
        go_wp2_with fail
        go_ret2
        obtain ⟨hfin, hm, hb, hown⟩ := HQ.out
        exact bytesPost_some hfin hm hb hown
end Go.Proofs.Ytjeagjmjlkkheaa
