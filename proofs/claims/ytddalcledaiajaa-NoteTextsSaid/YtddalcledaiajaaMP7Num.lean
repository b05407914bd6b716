/- What the program's calls of stage 7 hand out. Contracts of the program's within, ofDigits, Number. -/
import Derived.Test.YtddalcledaiajaaT7Inj
import Derived.Test.YtddalcledaiajaaMP7NumM
import Derived.Test.YtddalcledaiajaaP7Dec
namespace Go.Proofs.Ytddalcledaiajaa
open Go.RowKit

/-- A number and no error; or an error and 0. -/
def NumErr (w : World) (r : Option Int) (e : Ending) (w' : World) : Prop := e = .returned (.tuple #[.int .i64 (r.getD 0), .int .i64 (if r.isSome then 0 else 2)]) ∧ Below w.heap.size w w'
/-- A text and no error; or an error and no text. -/
def StrErr (w : World) (code : Int) (r : Option (List Int)) (e : Ending) (w' : World) : Prop := e = .returned (.tuple #[.string (strOfNums (r.getD [])), .int .i64 (if r.isSome then 0 else code)]) ∧ Below w.heap.size w w'
/-- A path is a tile's. -/
def IsPath (l : List Int) (a b c : Int) : Prop := tileB a b c = true ∧ pathL a b c = l
theorem isPath_one {l : List Int} {a b c a' b' c' : Int} (h : IsPath l a b c) (h' : IsPath l a' b' c') : a = a' ∧ b = b' ∧ c = c' := pathL_inj h.1 h'.1 (h.2.trans h'.2.symm)
/-- A tile and no error; or an error and no tile. -/
def TileErr (w : World) (l : List Int) (e : Ending) (w' : World) : Prop :=
  Below w.heap.size w w' ∧ ((∃ a b c, IsPath l a b c ∧ e = .returned (.tuple #[.agg #[.int .i64 a, .int .i64 b, .int .i64 c], .int .i64 0])) ∨ ((∀ a b c, ¬ IsPath l a b c) ∧ e = .returned (.tuple #[.agg #[.int .i64 0, .int .i64 0, .int .i64 0], .int .i64 2])))
end Go.Proofs.Ytddalcledaiajaa
namespace Go.Proofs.Ytddalcledaiajaa
open Go.RowKit

set_option maxHeartbeats 400000 in
theorem within_any (n a b : Int) (w : World) : Calls Try.prog 43 #[.int .i64 n, .int .i64 a, .int .i64 b] w (fun e w' => e = .returned (.bool (decide (a ≤ n ∧ n ≤ b))) ∧ w' = w) := by
  by_cases h1 : a ≤ n
  · by_cases h2 : n ≤ b
    · have HE := Lib.hid (show decide (a ≤ n ∧ n ≤ b) = true from decide_eq_true ⟨h1, h2⟩)
      generalize decide (a ≤ n ∧ n ≤ b) = d at *
      go_enter Try.func43, Try.ntmps43
      go_wp2_with fail
      go_ret
      exact ⟨by rw [HE.out]; rfl, rfl⟩
    · have HE := Lib.hid (show decide (a ≤ n ∧ n ≤ b) = false from decide_eq_false fun h => h2 h.2)
      generalize decide (a ≤ n ∧ n ≤ b) = d at *
      go_enter Try.func43, Try.ntmps43
      go_wp2_with fail
      go_ret
      exact ⟨by rw [HE.out]; rfl, rfl⟩
  · have HE := Lib.hid (show decide (a ≤ n ∧ n ≤ b) = false from decide_eq_false fun h => h1 h.1)
    generalize decide (a ≤ n ∧ n ≤ b) = d at *
    go_enter Try.func43, Try.ntmps43
    go_wp2_with fail
    go_ret
    exact ⟨by rw [HE.out]; rfl, rfl⟩

set_option maxRecDepth 100000 in
set_option maxHeartbeats 2000000 in
theorem ofdigits_any (s : ByteArray) (w : World) (hs : s.size ≤ maxLen) : Calls Try.prog 42 #[.string s] w (fun e w' => e = .returned (.int .i64 (ofdL (txt s))) ∧ Below w.heap.size w w') := by
  unfold maxLen at hs
  obtain ⟨cap, W1, hcv, hb1, hlt1, hcap, hc1⟩ := bytes_back (txt s) (txt_bytes s) w
  rw [str_txt, txt_length] at hcv
  obtain ⟨V, hV⟩ : ∃ V, V = ofdL (txt s) := ⟨_, rfl⟩
  rw [← hV]
  have htl := txt_length s
  have htb := txt_bytes s
  generalize txt s = us at *
  obtain ⟨n, hn⟩ : ∃ n, n = s.size := ⟨_, rfl⟩
  rw [← hn] at hcv htl hs
  clear hn
  have HV := Lib.hid (And.intro hV (And.intro htl htb))
  clear hV htb
  have H1 := Lib.hid (And.intro hb1 hc1)
  clear hb1 hc1 hlt1 hcap
  go_enter Try.func42, Try.ntmps42
  go_wp2_with fail
  clear hcv
  go_loopg [3, 5, 9] n (fun g v _ i wr => ∃ (k : Nat) (x : Int), k ≤ n ∧ g = n - k ∧ i = .int .i64 (k : Int) ∧ v = .int .i64 x ∧ Hid (x = ofdL (us.take k)) ∧ wr = W1)
  case atStart => exact ⟨0, 0, by omega, rfl, rfl, rfl, Lib.hid rfl, rfl⟩
  case round =>
    obtain ⟨k, x, hk, rfl, rfl, rfl, hx, rfl⟩ := hrel
    by_cases hlt : k < n
    · have hkz : (k : Int) < (n : Int) := by omega
      obtain ⟨c, hc⟩ : ∃ c, c = us.getD k 0 := ⟨_, rfl⟩
      have hul : k < us.length := by have := HV.out.2.1; omega
      have hce : wr.cell? ⟨w.heap.size, k, none⟩ = some (.int .u8 c) := by rw [hc]; exact H1.out.2 k hul
      have hcb : 0 ≤ c ∧ c < 256 := by
        rw [hc, List.getD_eq_getElem?_getD, List.getElem?_eq_getElem hul]
        exact HV.out.2.2 _ (List.getElem_mem _)
      have htk : us.take (k + 1) = us.take k ++ [c] := by rw [List.take_add_one, List.getElem?_eq_getElem hul, hc, List.getD_eq_getElem?_getD, List.getElem?_eq_getElem hul]; rfl
      have HC := Lib.hid htk
      obtain ⟨hc0, hc1⟩ := hcb
      clear hc htk
      by_cases hd1 : 48 ≤ c
      · by_cases hd2 : c ≤ 57
        · have hw8 : IntKind.u8.wrap (c - 48) = c - 48 := by rw [IntKind.wrap_u8]; omega
          go_wp2_with fail
          go_roundg (n - (k + 1))
          case measure => omega
          case rel =>
            refine ⟨k + 1, stepD x c, by omega, rfl, by go_num, ?_, Lib.hid ?_, rfl⟩
            · unfold stepD; rw [if_pos ⟨hd1, hd2⟩, IntWalk.i64_left, IntWalk.i64_left]
            · rw [HC.out, ofdL_next, hx.out]
        · go_wp2_with fail
          go_roundg (n - (k + 1))
          case measure => omega
          case rel =>
            refine ⟨k + 1, x, by omega, rfl, by go_num, rfl, Lib.hid ?_, rfl⟩
            rw [HC.out, ofdL_next, ← hx.out]
            unfold stepD
            rw [if_neg (fun h => by have := h.2; omega)]
      · go_wp2_with fail
        go_roundg (n - (k + 1))
        case measure => omega
        case rel =>
          refine ⟨k + 1, x, by omega, rfl, by go_num, rfl, Lib.hid ?_, rfl⟩
          rw [HC.out, ofdL_next, ← hx.out]
          unfold stepD
          rw [if_neg (fun h => by have := h.1; omega)]
    · obtain rfl : k = n := by omega
      have hkz : ¬ (k : Int) < (k : Int) := by omega
      have HE := Lib.hid (show V = x by rw [HV.out.1, hx.out, List.take_of_length_le (by have := HV.out.2.1; omega)])
      clear hx
      go_wp2_with fail
      go_ret
      exact ⟨ret_int HE.out.symm, H1.out.1⟩

set_option maxRecDepth 100000 in
set_option maxHeartbeats 2000000 in
theorem pnum_any (s : ByteArray) (w : World) (hs : s.size ≤ maxLen) : Calls Try.prog 23 #[.string s] w (NumErr w (numR (txt s))) := by
  obtain ⟨R, hR⟩ : ∃ R, R = numR (txt s) := ⟨_, rfl⟩
  rw [← hR]
  rw [numR_guess] at hR
  have hrg := ofdL_range _ (txt s) rfl
  have p1 := fun W => ofdigits_any s W hs
  obtain ⟨x, hx⟩ : ∃ x, x = ofdL (txt s) := ⟨_, rfl⟩
  rw [← hx] at hR hrg p1
  have p2 := fun W => pdec_any x hrg.1 hrg.2 W
  have p3 := fun W => within_any x 0 9007199254740992 W
  have hse : (strOfNums (decZ x) = s) ↔ decZ x = txt s := ⟨fun h => by rw [← h, txt_str _ (decZ_bytes x)], fun h => by rw [h, str_txt]⟩
  obtain ⟨S, hS⟩ : ∃ S, S = strOfNums (decZ x) := ⟨_, rfl⟩
  rw [← hS] at p2 hse
  have P1 := Lib.hid p1
  have P2 := Lib.hid p2
  have P3 := Lib.hid p3
  have HE := Lib.hid (And.intro hR hse)
  clear p1 p2 p3 hR hse hS hx hrg hs
  obtain ⟨d, hd⟩ : ∃ d, d = decide (0 ≤ x ∧ x ≤ 9007199254740992) := ⟨_, rfl⟩
  rw [← hd] at P3
  have HD := Lib.hid hd
  clear hd
  go_enter Try.func23, Try.ntmps23
  go_wp2_with fail
  go_at_call 42
  refine (P1.out _).mono ?_
  rintro e w1 ⟨rfl, hb1⟩
  have H1 := Lib.hid hb1
  clear hb1
  go_wp2_with fail
  go_at_call 43
  refine (P3.out _).mono ?_
  rintro e w2 ⟨rfl, rfl⟩
  cases d with
  | false =>
    have hz : R = none := by rw [HE.out.1, if_neg (fun h => of_decide_eq_false HD.out.symm h.1)]
    subst hz
    go_wp2_with fail
    go_ret2
    exact ⟨rfl, H1.out⟩
  | true =>
    have hin : 0 ≤ x ∧ x ≤ 9007199254740992 := of_decide_eq_true HD.out.symm
    go_wp2_with fail
    go_at_call 15
    refine (P2.out _).mono ?_
    rintro e w3 ⟨rfl, hb3⟩
    have H3 := Lib.hid (H1.out.trans (hb3.mono H1.out.size))
    clear hb3
    by_cases hq : S = s
    · have hz : R = some x := by rw [HE.out.1, if_pos ⟨hin, HE.out.2.1 hq⟩]
      subst hz
      subst hq
      go_wp2_with fail
      go_ret2
      exact ⟨rfl, H3.out⟩
    · have hz : R = none := by rw [HE.out.1, if_neg (fun h => hq (HE.out.2.2 h.2))]
      subst hz
      have hq2 : (S.toList == s.toList) = false := beq_eq_false_iff_ne.2 fun h => hq (toList_inj h)
      have hq3 : ¬ S.toList = s.toList := fun h => hq (toList_inj h)
      go_wp2_with fail
      go_ret2
      exact ⟨rfl, H3.out⟩
end Go.Proofs.Ytddalcledaiajaa
