/- Contract of the reference's Decimal. Contracts of the reference's Text and Line. -/
import Derived.Test.YtddalcledaiajaaMT7DecM
import Derived.Test.YtddalcledaiajaaT11Def
import Derived.Test.YtddalcledaiajaaRbDecode
namespace Go.Proofs.Ytddalcledaiajaa
open Go.RowKit

set_option maxRecDepth 100000 in
set_option maxHeartbeats 1000000 in
theorem rdec_nat (n : Nat) (hn : n ≤ 9223372036854775807) (w : World) :
    Calls Try.prog 20 #[.int .i64 (n : Int)] w (fun e w' => e = .returned (.string (strOfNums (decL n))) ∧ Below w.heap.size w w') := by
  induction n using Nat.strongRecOn generalizing w with
  | ind n ih =>
    have hn0 : (0 : Int) ≤ (n : Int) := by omega
    have hnz : (n : Int) ≤ 9223372036854775807 := by omega
    obtain ⟨D, hD⟩ : ∃ D, D = strOfNums (decL n) := ⟨_, rfl⟩
    rw [← hD]
    have HD := Lib.hid hD
    clear hD
    obtain ⟨x, hx⟩ : ∃ x, x = 48 + (n : Int) % 10 := ⟨_, rfl⟩
    have hcv := conv_new w x
    rw [hx] at hcv
    have H0 := Lib.hid (show Below w.heap.size w (w.alloc (.cells #[.int .u8 (48 + (n : Int) % 10)] 5)) from (Below.refl _ _).alloc (Nat.le_refl _) _)
    by_cases h9 : n < 10
    · have hz9 : (n : Int) ≤ 9 := by omega
      have HE := Lib.hid (show D = strOfNums [48 + (n : Int) % 10] by rw [HD.out, decL_small h9, show (n : Int) % 10 = (n : Int) by omega])
      clear ih hx
      go_enter Try.func20, Try.ntmps20
      go_wp2_with fail
      go_ret
      exact ⟨ret_str HE.out, H0.out⟩
    · have hz9 : ¬ (n : Int) ≤ 9 := by omega
      have hlen := decL_length (n / 10)
      have HE := Lib.hid (show strOfNums (decL (n / 10)) ++ strOfNums [48 + (n : Int) % 10] = D by rw [HD.out, decL_big h9, str_append, show (n : Int) % 10 = ((n % 10 : Nat) : Int) by omega])
      have HI := Lib.hid (fun W => ih (n / 10) (by omega) (by omega) W)
      have hdv : (n : Int) / 10 = ((n / 10 : Nat) : Int) := by omega
      have HDV := Lib.hid hdv
      have hq : ¬ 9223372036854775807 < (strOfNums (decL (n / 10))).size + (strOfNums [48 + (n : Int) % 10]).size := by
        rw [size_str, size_str]
        simp only [List.length_cons, List.length_nil]
        omega
      have HQ := Lib.hid hq
      clear ih hx hdv hq hlen
      go_enter Try.func20, Try.ntmps20
      go_wp2_with fail
      rw [HDV.out]
      go_at_call 20
      refine (HI.out _).mono ?_
      rintro e w2 ⟨rfl, hb2⟩
      have H2 := Lib.hid (H0.out.trans (hb2.mono H0.out.size))
      clear hb2 hcv
      have hq := HQ.out
      have he := HE.out
      go_wp2_with fail
      go_ret
      exact ⟨rfl, H2.out⟩
set_option maxRecDepth 100000 in
set_option maxHeartbeats 1000000 in
theorem rdec_any (n : Int) (h1 : -9223372036854775808 ≤ n) (h2 : n ≤ 9223372036854775807) (w : World) :
    Calls Try.prog 20 #[.int .i64 n] w (fun e w' => e = .returned (.string (strOfNums (decZ n))) ∧ Below w.heap.size w w') := by
  by_cases h0 : 0 ≤ n
  · obtain ⟨k, rfl⟩ : ∃ k : Nat, n = (k : Int) := ⟨n.toNat, by omega⟩
    rw [decZ_nat]
    exact rdec_nat k (by omega) w
  · by_cases hm : n = -9223372036854775808
    · subst hm
      obtain ⟨D, hD⟩ : ∃ D, D = strOfNums (decZ (-9223372036854775808)) := ⟨_, rfl⟩
      rw [← hD]
      have HD := Lib.hid (show (⟨#[45, 57, 50, 50, 51, 51, 55, 50, 48, 51, 54, 56, 53, 52, 55, 55, 53, 56, 48, 56]⟩ : ByteArray) = D by rw [hD, str_min])
      clear hD
      go_enter Try.func20, Try.ntmps20
      go_wp2_with fail
      go_ret
      exact ⟨congrArg (fun s => Ending.returned (.string s)) HD.out, Below.refl _ _⟩
    · obtain ⟨k, hk⟩ : ∃ k : Nat, -n = (k : Int) := ⟨(-n).toNat, by omega⟩
      have HK := Lib.hid hk
      obtain ⟨D, hD⟩ : ∃ D, D = strOfNums (decZ n) := ⟨_, rfl⟩
      rw [← hD]
      have hlen := decL_len 19 k (by decide) (by omega)
      have HE := Lib.hid (show (⟨#[45]⟩ : ByteArray) ++ strOfNums (decL k) = D by
        rw [hD, show decZ n = [45] ++ decL k from by unfold decZ; rw [if_pos (by omega), hk, Int.toNat_natCast]; rfl, ← str_append]
        rfl)
      have hne : (n == -9223372036854775808) = false := beq_eq_false_iff_ne.2 hm
      have hlt : n < 0 := by omega
      have hw : IntKind.i64.wrap (-n) = -n := IntWalk.i64_in _ (by omega)
      have HI := Lib.hid (fun W => rdec_nat k (by omega) W)
      have HQ := Lib.hid (show ¬ 9223372036854775807 < (⟨#[45]⟩ : ByteArray).size + (strOfNums (decL k)).size by rw [size_str]; show ¬ 9223372036854775807 < 1 + _; omega)
      clear hD hm hk hlen h0
      go_enter Try.func20, Try.ntmps20
      go_wp2_with fail
      rw [HK.out]
      go_at_call 20
      refine (HI.out _).mono ?_
      rintro e w2 ⟨rfl, hb2⟩
      have H2 := Lib.hid hb2
      clear hb2
      have hq := HQ.out
      have he := HE.out
      go_wp2_with fail
      go_ret
      exact ⟨rfl, H2.out⟩
end Go.Proofs.Ytddalcledaiajaa
namespace Go.Proofs.Ytddalcledaiajaa
open Go.RowKit

/-- '[]byte(s)': one new block. -/
theorem bytes_of11 (s : ByteArray) (W : World) : ∃ cap W', (convert 9 32 (.string s)).run Try.prog W = .ok (.slice (some ⟨W.heap.size, 0, none⟩) s.size cap) W' ∧ Below W.heap.size W W' ∧ s.size ≤ cap ∧ InS W' W'.heap.size (some ⟨W.heap.size, 0, none⟩) (txt s) := by
  obtain ⟨cap, W', h1, h2, h3, h4, h5⟩ := bytes_back (txt s) (txt_bytes s) W
  rw [str_txt, txt_length] at h1
  refine ⟨cap, W', h1, h2, by rw [← txt_length]; exact h4, fun _ => ⟨_, rfl, h3, fun i e he => ?_⟩⟩
  rw [Addr.add_lit, Nat.zero_add, h5 i (List.getElem?_eq_some_iff.1 he).1, List.getD_eq_getElem?_getD, he]
  rfl
/-- A call that answers a text, and may make memory. -/
def SaysB (w : World) (s : ByteArray) (e : Ending) (w' : World) : Prop := e = .returned (.string s) ∧ Below w.heap.size w w'

set_option maxHeartbeats 1000000 in
theorem rtext_any (o : ByteArray) (n : Nat) (r : ByteArray) (w : World) (hn : n ≤ 1048576) (ho : o.size ≤ 1000) (hr : r.size ≤ 1000) :
    Calls Try.prog 11 #[.string o, .int .i64 (n : Int), .string r] w (SaysB w (textB o n r)) := by
  have HD := Lib.hid (fun W => rdec_nat n (by omega) W)
  have hdl : (strOfNums (decL n)).size ≤ 7 := by rw [size_str]; exact dec_len hn
  have hel : (strOfNums (encR (txt r))).size ≤ 2002 := by
    have := enc3_len (txt r)
    rw [txt_length] at this
    rw [size_str, encR_enc3 _ (txt_bytes r)]
    omega
  have HE := Lib.hid (fun (W : World) => show ∃ cap W', (convert 9 32 (.string r)).run Try.prog W = .ok (.slice (some ⟨W.heap.size, 0, none⟩) r.size cap) W' ∧ Hid (Below W.heap.size W W') ∧ Hid (Calls Try.prog 21 #[.slice (some ⟨W.heap.size, 0, none⟩) r.size cap] W' (TextPost W' (encR (txt r)))) by
    obtain ⟨cap, W', h1, h2, -, h4⟩ := bytes_of11 r W
    have h5 := renc_any _ cap (txt r) W' h4 (txt_bytes r) (by rw [txt_length]; exact hr)
    rw [txt_length] at h5
    exact ⟨cap, W', h1, Lib.hid h2, Lib.hid h5⟩)
  obtain ⟨T, hT⟩ : ∃ T, T = textB o n r := ⟨_, rfl⟩
  rw [← hT]
  unfold textB at hT
  generalize strOfNums (decL n) = dn at *
  unfold TextPost at HE
  generalize strOfNums (encR (txt r)) = en at *
  have HT := Lib.hid hT
  clear hn hr hT
  generalize (n : Int) = nz at *
  go_enter Try.func11, Try.ntmps11
  go_wp2_with (first
    | (go_at_call 20
       refine (HD.out _).mono ?_
       rintro e w1 ⟨rfl, hb1⟩
       have B1 := Lib.hid hb1
       clear hb1
       obtain ⟨cap, W2, hr2, B2, HC⟩ := HE.out w1)
    | (go_at_call 21
       refine HC.out.mono ?_
       rintro e w3 ⟨rfl, hb3⟩
       have B3 := Lib.hid hb3
       clear hb3))
  go_ret
  exact ⟨by rw [HT.out]; rfl, (B1.out.trans (B2.out.mono B1.out.size)).trans (B3.out.mono (Nat.le_trans B1.out.size B2.out.size))⟩

set_option maxHeartbeats 1000000 in
theorem rline_any (o : ByteArray) (X : Option Addr) (c m : Nat) (sg : List Int) (w : World) (hX : InS w w.heap.size X sg) (hm : m = sg.length) (hb : ∀ e ∈ sg, 0 ≤ e ∧ e < 256) (hl : sg.length ≤ 1000) (ho : o.size ≤ 1000) :
    Calls Try.prog 32 #[.string o, .slice X m c] w (SaysB w (lineB o sg)) := by
  subst hm
  have HE := Lib.hid (renc_any X c sg w hX hb hl)
  have hel : (strOfNums (encR sg)).size ≤ 2002 := by
    have := enc3_len sg
    rw [size_str, encR_enc3 _ hb]
    omega
  obtain ⟨T, hT⟩ : ∃ T, T = lineB o sg := ⟨_, rfl⟩
  rw [← hT]
  unfold lineB at hT
  unfold TextPost at HE
  generalize strOfNums (encR sg) = en at *
  have HT := Lib.hid hT
  clear hX hb hl hT
  generalize sg.length = m at *
  go_enter Try.func32, Try.ntmps32
  go_wp2_with (
    (go_at_call 21
     refine HE.out.mono ?_
     rintro e w3 ⟨rfl, hb3⟩
     have B3 := Lib.hid hb3
     clear hb3))
  go_ret
  exact ⟨by rw [HT.out]; rfl, B3.out⟩
end Go.Proofs.Ytddalcledaiajaa
