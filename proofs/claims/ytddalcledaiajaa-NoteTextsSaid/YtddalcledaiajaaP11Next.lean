/- Contracts of ahead, signed, the closure that takes lines; what Decode answers, in one form. -/
import Derived.Test.YtddalcledaiajaaMP11OriginM
import Derived.Test.YtddalcledaiajaaP11Text
import Derived.Test.YtddalcledaiajaaB5Dec
namespace Go.Proofs.Ytddalcledaiajaa
open Go.RowKit Go.Shelf

theorem ahead_any (o : ByteArray) (w : World) (ho : o.size ≤ 100000) : Calls Try.prog 26 #[.string o] w (fun e w' => e = .returned (.string (headB o)) ∧ w' = w) := by
  obtain ⟨T, hT⟩ : ∃ T, T = headB o := ⟨_, rfl⟩
  rw [← hT]
  unfold headB at hT
  have HT := Lib.hid hT
  clear hT
  go_enter Try.func26, Try.ntmps26
  go_wp2_with fail
  go_ret
  exact ⟨by rw [HT.out]; rfl, rfl⟩
set_option maxHeartbeats 1000000 in
theorem signed_any (t o : ByteArray) (X : Option Addr) (c m : Nat) (sg : List Int) (w : World) (hX : BytesIn w X c sg) (hm : m = sg.length) (hl : sg.length ≤ 1000) (ho : o.size ≤ 1000) (ht : t.size ≤ 10000) :
    Calls Try.prog 27 #[.string t, .string o, .slice X m c] w (SaysB w (t ++ lineB o sg)) := by
  subst hm
  have HA := Lib.hid (fun W => ahead_any o W (by omega))
  have hen := enc_any X c sg w hX.1 hX.2.1 hl hX.2.2.1 hX.2.2.2.1 hX.2.2.2.2
  rw [← encR_enc3 _ hX.2.1] at hen
  have HE := Lib.hid hen
  have hel : (strOfNums (encR sg)).size ≤ 2002 := by
    have := enc3_len sg
    rw [size_str, encR_enc3 _ hX.2.1]
    omega
  have hh := headB_size o
  obtain ⟨T, hT⟩ : ∃ T, T = t ++ lineB o sg := ⟨_, rfl⟩
  rw [← hT]
  have hT2 : T = t ++ ⟨#[10]⟩ ++ headB o ++ strOfNums (encR sg) ++ ⟨#[10]⟩ := by
    rw [hT]
    unfold lineB headB
    have e1 : (⟨#[10, 226, 128, 148, 32]⟩ : ByteArray) = ⟨#[10]⟩ ++ ⟨#[226, 128, 148, 32]⟩ := by decide +kernel
    rw [e1]
    simp only [ByteArray.append_assoc]
  unfold TextPost at HE
  generalize strOfNums (encR sg) = en at *
  generalize headB o = hb at *
  have HT := Lib.hid hT2
  clear hX hl hT hT2 hen
  generalize sg.length = m at *
  go_enter Try.func27, Try.ntmps27
  go_wp2_with (first
    | (go_at_call 26; refine (HA.out _).mono ?_; rintro e w1 ⟨rfl, rfl⟩)
    | (go_at_call 16
       refine HE.out.mono ?_
       rintro e w3 ⟨rfl, hb3⟩
       have B3 := Lib.hid hb3
       clear hb3))
  go_ret
  exact ⟨by rw [HT.out]; rfl, B3.out⟩
/-- A line is taken: what is left stands in block g. -/
def NextP (g : Nat) (s : ByteArray) (w : World) (e : Ending) (w' : World) : Prop := e = .returned (.string (fstB s)) ∧ w.grownBy w' (some g) ∧ Box w' g 9 (.string (rstB s))
set_option maxHeartbeats 1000000 in
theorem next_any (g : Nat) (s : ByteArray) (w : World) (hs : s.size ≤ 100000) (hb : Box w g 9 (.string s)) : Calls Try.prog 40 #[.pointer (some ⟨g, 0, none⟩)] w (NextP g s w) := by
  have HC := Lib.hid (fun W => cut_any s W hs)
  have c0 := hb.cell
  have HK := Lib.hid (show ∀ n, ((w.drewN n).cell? ⟨g, 0, none⟩ = some (.string s) ∧ (w.drewN n).frozen? ⟨g, 0, none⟩ = false) ∧ (w.grownBy ((w.drewN n).setCell ⟨g, 0, none⟩ (.string (rstB s))) (some g)) ∧ Box ((w.drewN n).setCell ⟨g, 0, none⟩ (.string (rstB s))) g 9 (.string (rstB s)) from fun n => by
    have h1 : w.grownBy (w.drewN n) (some g) := only_drewN (only_of_below (Below.refl _ _) _) n
    have h2 : Box (w.drewN n) g 9 (.string s) := hb.kept (row := none) (only_drewN (only_of_below (Below.refl _ _) _) n) (by simp)
    exact ⟨⟨h2.cell, h2.frozen⟩, only_trans h1 (grownBy_setCell' _ g _), h2.set _⟩)
  unfold NextP
  obtain ⟨f, hf⟩ : ∃ f, f = fstB s := ⟨_, rfl⟩
  rw [← hf]
  have HP := Lib.hid (show ∀ e w1 w', CutP w1 s e w' → ∃ b n, e = .returned (.tuple #[.string f, .string (rstB s), .bool b]) ∧ w' = w1.drewN n from fun _ _ _ h => by rw [hf]; exact h)
  generalize rstB s = r at *
  clear hf hb
  go_enter Try.func40, Try.ntmps40
  go_upto_region 2 with (go_at_call 41; refine (HC.out _).mono ?_; rintro e w1 h1; obtain ⟨b, n, rfl, rfl⟩ := HP.out _ _ _ h1; clear h1)
  obtain ⟨⟨k1, k2⟩, k3, k4⟩ := HK.out n
  have H3 := Lib.hid (And.intro k3 k4)
  clear k3 k4 HK
  generalize w.drewN n = W at *
  go_wp2_with fail
  go_ret
  exact ⟨rfl, H3.out.1, H3.out.2⟩
theorem liner_any (s : ByteArray) (w : World) : Calls Try.prog 22 #[.string s] w (fun e w' => e = .returned (.func (.func 40) #[] #[.pointer (some ⟨w.heap.size, 0, none⟩)]) ∧ Below w.heap.size w w' ∧ w'.heap.size = w.heap.size + 1 ∧ Box w' w.heap.size 9 (.string s)) := by
  have HB := Lib.hid (And.intro ((Below.refl w.heap.size w).alloc (Nat.le_refl _) (.cells #[.string s] 9)) (And.intro (show (w.alloc (.cells #[.string s] 9)).heap.size = w.heap.size + 1 by simp) (show Box (w.alloc (.cells #[.string s] 9)) w.heap.size 9 (.string s) from heap_alloc_new w _)))
  go_enter Try.func22, Try.ntmps22
  go_wp2_with fail
  go_ret
  exact ⟨rfl, HB.out⟩
/-- What Decode answers: bytes, none if it refuses; they lie in new memory. -/
structure DecU (w : World) (R : List Int) (w' : World) (X : Option Addr) (c : Nat) : Prop where
  below : Below w.heap.size w w'
  conv : ∀ W : World, (∀ b, w.heap.size ≤ b → b < w'.heap.size → W.heap[b]? = w'.heap[b]?) → (convert 32 9 (.slice X R.length c)).run Try.prog W = .ok (.string (strOfNums R)) W
  acc : R.length ≠ 0 → Acc w w' (.slice X R.length c) R
theorem conv_zero (X : Option Addr) (c : Nat) (W : World) : (convert 32 9 (.slice X 0 c)).run Try.prog W = .ok (.string (strOfNums [])) W := by
  cases X with
  | none => exact conv_in (us := []) (N := 0) (X := none) (c := 0) (fun h => absurd h (by simp)) (fun _ => rfl) ▸ (run_convert_bytes_nil W 32 5 Try.underlying32 Try.underlying5 0 c 9 Try.underlying9)
  | some a => exact conv_in (us := []) (N := 0) (X := some a) (c := c) (fun h => absurd h (by simp)) (fun h => by cases h)
theorem dec_u (s : ByteArray) (w : World) (hs : s.size ≤ 1000) : Calls Try.prog 24 #[.string s] w (fun e w' => ∃ X c k, e = .returned (.tuple #[.slice X ((decR s).getD []).length c, .int .i64 k]) ∧ DecU w ((decR s).getD []) w' X c) := by
  refine (dec_any s w hs).mono ?_
  rintro e w' ⟨hb, h⟩
  cases hd : decR s with
  | none =>
    rw [hd] at h
    obtain ⟨X, c, rfl⟩ := h
    exact ⟨X, c, 2, rfl, hb, fun W _ => conv_zero X c W, fun h => absurd rfl h⟩
  | some ds =>
    rw [hd] at h
    obtain ⟨v, rfl, ho⟩ := h
    obtain ⟨X, c, rfl, h1, h2, -⟩ := own_slice ho
    refine ⟨X, c, 0, rfl, hb, fun W hW => ?_, fun _ => ⟨ho, hb⟩⟩
    show (convert 32 9 (.slice X ds.length c)).run Try.prog W = .ok (.string (strOfNums ds)) W
    by_cases hz : ds.length = 0
    · have e : ds = [] := List.eq_nil_of_length_eq_zero hz
      subst e
      exact conv_zero X c W
    · obtain ⟨g, c', hv, hc, hm⟩ := made_of_own (by omega) ho
      injection hv with e1 e2 e3
      subst e1
      exact conv_made (hm.keeps (hW g hm.1 hm.2.1)) c
end Go.Proofs.Ytddalcledaiajaa
