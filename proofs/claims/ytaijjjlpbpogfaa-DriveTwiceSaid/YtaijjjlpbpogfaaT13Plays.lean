/- The walk of DrivePlays. -/
import Derived.Test.YtaijjjlpbpogfaaT13Like
import Derived.Test.YtaijjjlpbpogfaaT13Lives
import Derived.Test.YtaijjjlpbpogfaaT13Open
namespace Go.Proofs.Ytaijjjlpbpogfaa
open Go.RowKit

/-- Both are new. -/
theorem has_init {w W1 W2 : World} {rb pb : Nat} {P R : Dr} (hp : PD W1 pb P (fun k => w.heap.size ≤ k ∧ k < W1.heap.size)) (hb1 : Below w.heap.size w W1) (hr : RD W2 rb R (fun k => W1.heap.size ≤ k ∧ k < W2.heap.size)) (hb2 : Below W1.heap.size W1 W2) : HasD w W2 [] rb R pb P :=
  ⟨_, _, hr, hp.keep (fun _ h => h) (fun k _ hk => hb2.block k hk), fun k h1 h2 => by have := h1.1; have := h2.2; omega, fun k hk => ⟨Nat.le_trans hb1.size hk.1, hk.2⟩, fun k hk => ⟨hk.1, Nat.lt_of_lt_of_le hk.2 hb2.size⟩, hb1.trans (hb2.mono hb1.size), fun p hp => by cases hp⟩
/-- What is no name is no file. -/
theorem read_none {D : Dr} {n : Nat} {s : ByteArray} (h : AllD D n) (hs : ¬ nameOk s) : readT D s = ⟨#[]⟩ ∧ (readE D s = 10 ∨ readE D s = 13) := by
  cases hd : D.down with
  | true => exact ⟨(readT_down hd).1, .inr (readT_down hd).2⟩
  | false =>
    have ha : atD D.fs s = none := atD_none.2 fun f hf e => hs (e ▸ h.ok.names f hf)
    exact ⟨(readT_none hd ha).1, .inl (readT_none hd ha).2⟩
def sNone : ByteArray := ⟨#[110, 111, 110, 101, 32, 111, 102, 32, 116, 104, 101, 115, 101]⟩
theorem sNone_no : ¬ nameOk sNone := by decide +kernel
/-- The cells of a deed, in a world that is the first one but for what was made. -/
theorem FiveC.load {w W : World} {ad : Addr} {i : Nat} {v : Value} (h : FiveC w (ad.add (i * 5)) v) (hb : ad.block < w.heap.size) (hB : Below w.heap.size w W) :
    ∃ c0 c1 c2 c3 c4, v = .agg #[c0, c1, c2, c3, c4] ∧ W.cell? (ad.add (i * 5)) = some c0 ∧ W.cell? ⟨(ad.add (i * 5)).block, (ad.add (i * 5)).off + 1, none⟩ = some c1 ∧ W.cell? ⟨(ad.add (i * 5)).block, (ad.add (i * 5)).off + 2, none⟩ = some c2 ∧ W.cell? ⟨(ad.add (i * 5)).block, (ad.add (i * 5)).off + 3, none⟩ = some c3 ∧ W.cell? ⟨(ad.add (i * 5)).block, (ad.add (i * 5)).off + 4, none⟩ = some c4 := by
  obtain ⟨c0, c1, c2, c3, c4, hv, h0, h1, h2, h3, h4⟩ := h
  have hl : (ad.add (i * 5)).block < w.heap.size := by rw [addr_add_block]; exact hb
  have hsp : (ad.add (i * 5)).spot = none := by
    rcases hsp : (ad.add (i * 5)).spot with _ | x
    · rfl
    · exfalso
      unfold World.cell? at h0
      rw [hsp] at h0
      split at h0 <;> simp at h0
  have e : ∀ k, (ad.add (i * 5)).add k = ⟨(ad.add (i * 5)).block, (ad.add (i * 5)).off + k, none⟩ := fun k => by
    generalize ad.add (i * 5) = a at hsp
    obtain ⟨b, o, s⟩ := a
    have : s = none := hsp
    subst this
    exact Addr.add_lit _ _ _
  rw [e] at h1 h2 h3 h4
  exact ⟨c0, c1, c2, c3, c4, hv, (hB.cell hl).trans h0, (hB.cell (p := ⟨(ad.add (i * 5)).block, _, none⟩) hl).trans h1, (hB.cell (p := ⟨(ad.add (i * 5)).block, _, none⟩) hl).trans h2, (hB.cell (p := ⟨(ad.add (i * 5)).block, _, none⟩) hl).trans h3, (hB.cell (p := ⟨(ad.add (i * 5)).block, _, none⟩) hl).trans h4⟩
set_option maxRecDepth 100000 in
set_option maxHeartbeats 4000000 in
theorem plays_law (q : Int) (A : Option Addr) (c : Nat) (xs : List Ask) (w : World) (hq : M63 q) (_ : xs.length ≤ c) (hcm : c ≤ maxLen) (hx : DeedsAt w A xs) :
    Calls Try.prog 3 #[.int .i64 q, .slice A xs.length c] w (fun e w' => e = .returned (.bool true) ∧ Below w.heap.size w w') := by
  have hcm' : c ≤ 9223372036854775807 := hcm
  obtain ⟨n, hn⟩ : ∃ n, n = xs.length := ⟨_, rfl⟩
  rw [← hn]
  have HX := Lib.hid (And.intro hx hn)
  clear hx hn hcm
  by_cases h : newOk q
  · have HN := Lib.hid (pnew_any q w h)
    have HR := Lib.hid (fun W => rnew_any q W h)
    have HI := Lib.hid (all_new h)
    clear h
    generalize newD q = D0 at *
    go_enter Try.func3, Try.ntmps3
    go_upto_region 2 with (go_at_call 10; refine HN.out.mono ?_; rintro e w1 ⟨pb, rfl, hp, hb⟩; have HP := Lib.hid (And.intro hp hb); clear hp hb)
    go_upto_region 3 with (go_at_call 11; refine (HR.out _).mono ?_; rintro e w2 ⟨rfl, hr, hb⟩; have HH := Lib.hid (has_init HP.out.1 HP.out.2 hr hb); clear hr hb)
    clear HP HR HN
    go_upto_block 0 with fail
    go_wp2_with fail
    generalize w1.heap.size = rb at *
    go_loopg [7] 40 (fun g i wr => ∃ k : Nat, k ≤ 40 ∧ k ≤ n ∧ g = 40 - k ∧ i = .int .i64 (k : Int) ∧ Hid (∃ D, AllD D k ∧ HasD w wr [] rb D pb D))
    case atStart => exact ⟨0, by omega, by omega, rfl, rfl, Lib.hid ⟨D0, HI.out, HH.out⟩⟩
    case round =>
      obtain ⟨k, hk, hkn, rfl, rfl, hH⟩ := hrel
      by_cases hlt : k < n ∧ k < 40
      · obtain ⟨l1, l2⟩ := hlt
        have hi1 : (k : Int) < (n : Int) := by omega
        have hi2 : (k : Int) < 40 := by omega
        obtain ⟨D, hD, hH⟩ := hH.out
        obtain ⟨x, hxk⟩ : ∃ x, xs[k]? = some x := ⟨xs[k]'(by have := HX.out.2; omega), List.getElem?_eq_getElem _⟩
        obtain ⟨ad, v, rfl, hab, hv, hA⟩ := HX.out.1 k x hxk
        obtain ⟨c0, c1, c2, c3, c4, rfl, x0, x1, x2, x3, x4⟩ := hv.load hab hH.below
        have HDo := Lib.hid (does_any hA hH hD hD (by omega) (by omega))
        have HAn := Lib.hid (all_ans hA hD)
        rw [decide_eq_true rfl] at HDo
        generalize (ansD D x).2 = D2 at *
        clear hA hH hD hxk hv hab
        go_upto_region 11 with (go_at_call 13; refine HDo.out.mono ?_; rintro e w3 ⟨rfl, h3⟩; have H3 := Lib.hid h3; clear h3)
        go_upto_region 12 with (go_at_call 14; refine (like_any H3.out (HAn.out.go (by omega))).mono ?_; rintro e w4 ⟨rfl, h4⟩; have H4 := Lib.hid h4; clear h4)
        go_wp2_with fail
        go_roundg (40 - (k + 1))
        case measure => omega
        case rel => exact ⟨k + 1, by omega, by omega, rfl, by go_num, Lib.hid ⟨D2, HAn.out, H4.out⟩⟩
      · have HR := Lib.hid hH.out
        obtain ⟨D, hD, hH⟩ := hH.out
        obtain ⟨r1, r2⟩ := read_none hD sNone_no
        have HRd := hp_read hH sNone (hD.go (by omega)) (by decide)
        rw [r1] at HRd
        have HRd := Lib.hid HRd
        have HE := Lib.hid r2
        generalize readE D sNone = E at *
        clear hD hH r1 r2
        by_cases hkn2 : k < n
        · have hi1 : (k : Int) < (n : Int) := by omega
          have hi2 : ¬ (k : Int) < 40 := by omega
          clear hlt
          go_upto_region 15 with (go_at_call 15; refine HRd.out.mono ?_; rintro e w3 ⟨S, cS, Y, rfl, -, h3, -⟩; have H3 := Lib.hid h3.below; clear h3)
          try rw [show (ByteArray.size ⟨#[]⟩) = 0 from rfl]
          rcases HE.out with rfl | rfl
          · go_wp2_with (go_at_call 12; refine (lives13 _).mono ?_; rintro e w4 ⟨rfl, h4⟩; have H4 := Lib.hid h4; clear h4)
            go_ret
            exact ⟨by first | rfl | simp, H3.out.trans (H4.out.mono H3.out.size)⟩
          · go_wp2_with (go_at_call 12; refine (lives13 _).mono ?_; rintro e w4 ⟨rfl, h4⟩; have H4 := Lib.hid h4; clear h4)
            go_ret
            exact ⟨by first | rfl | simp, H3.out.trans (H4.out.mono H3.out.size)⟩
        · have hi1 : ¬ (k : Int) < (n : Int) := by omega
          clear hlt
          go_upto_region 15 with (go_at_call 15; refine HRd.out.mono ?_; rintro e w3 ⟨S, cS, Y, rfl, -, h3, -⟩; have H3 := Lib.hid h3.below; clear h3)
          try rw [show (ByteArray.size ⟨#[]⟩) = 0 from rfl]
          rcases HE.out with rfl | rfl
          · go_wp2_with (go_at_call 12; refine (lives13 _).mono ?_; rintro e w4 ⟨rfl, h4⟩; have H4 := Lib.hid h4; clear h4)
            go_ret
            exact ⟨by first | rfl | simp, H3.out.trans (H4.out.mono H3.out.size)⟩
          · go_wp2_with (go_at_call 12; refine (lives13 _).mono ?_; rintro e w4 ⟨rfl, h4⟩; have H4 := Lib.hid h4; clear h4)
            go_ret
            exact ⟨by first | rfl | simp, H3.out.trans (H4.out.mono H3.out.size)⟩
  · have HN := Lib.hid (pnew_bad q w h hq)
    have HR := Lib.hid (fun W => rnew_bad q W h)
    clear h hq
    go_enter Try.func3, Try.ntmps3
    go_wp2_with (first
      | (go_at_call 10; refine HN.out.mono ?_; rintro e w1 ⟨rfl, hb⟩; have HB := Lib.hid hb; clear hb)
      | (go_at_call 11; refine (HR.out _).mono ?_; rintro e w2 ⟨rfl, hw⟩; rw [hw]; clear hw w2)
      | (go_at_call 12; refine (lives13 _).mono ?_; rintro e w3 ⟨rfl, h3⟩; have H3 := Lib.hid h3; clear h3))
    go_ret
    exact ⟨rfl, HB.out.trans (H3.out.mono HB.out.size)⟩
end Go.Proofs.Ytaijjjlpbpogfaa
