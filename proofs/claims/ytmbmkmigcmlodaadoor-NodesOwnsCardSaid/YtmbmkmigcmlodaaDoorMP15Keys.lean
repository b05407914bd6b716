/- Contracts of the reference's LeafHash and NodeHash: a text of 32 bytes. Contract of the reference's Hex: a key of a kind and a hash. The program's keys. -/
import Derived.Test.YtmbmkmigcmlodaaDoorRfWhole
import Derived.Test.YtmbmkmigcmlodaaDoorMRfOfMem
import Derived.Test.YtmbmkmigcmlodaaDoorMDgZero
namespace Go.Proofs.YtmbmkmigcmlodaaDoor
open Go.RowKit

/-- What a call hands out that makes a text. -/
def SaysS (w : World) (s : ByteArray) (e : Ending) (w' : World) : Prop := e = .returned (.string s) ∧ Below w.heap.size w w'
theorem dig_conv {w W : World} {v : Value} {n : Nat} {ds : List Int} (hn : 0 < n) (h : W.ownsRow w.heap.size 5 1 v n (ds.map (Value.int .u8))) :
    (convert 44 9 v).run Tryd.prog W = .ok (.string (strOfNums ds)) W := by
  obtain ⟨g, cap, rfl, -, hm⟩ := made_of_own hn h
  exact conv_made hm cap
theorem dig_slice {w W : World} {v : Value} {n : Nat} {ds : List Int} (hn : 0 < n) (h : W.ownsRow w.heap.size 5 1 v n (ds.map (Value.int .u8))) :
    ∃ g cap, v = .slice (some ⟨g, 0, none⟩) n cap := by
  obtain ⟨g, cap, rfl, -, hm⟩ := made_of_own hn h
  exact ⟨g, cap, rfl⟩

set_option maxRecDepth 100000 in
set_option maxHeartbeats 1000000 in
theorem rleafhash_any (X : Option Addr) (c : Nat) (us : List Int) (w : World) (hX : BytesIn w X c us) (hl : us.length ≤ 999) :
    Calls Tryd.prog 30 #[.slice X us.length c] w (SaysS w (digS (0 :: us))) := by
  have HX := Lib.hid hX
  clear hX
  go_enter Tryd.func30, Tryd.ntmps30
  have a1 := Acc.built (Below.refl w.heap.size w) [0] (by decide) 1 rfl
  have A1 := Lib.hid a1
  clear a1
  go_upto_region 2 with (fail)
  obtain ⟨W1, hW1⟩ : ∃ W1, W1 = w.alloc (.cells #[.int .u8 0] 5) := ⟨_, rfl⟩
  have A2 := Lib.hid (show Acc w W1 (.slice (some ⟨w.heap.size, 0, none⟩) 1 1) [0] by rw [hW1]; exact A1.out)
  rw [← hW1]
  clear hW1 A1
  obtain ⟨Y3, n3, c3, W3, hr3, hn3, a3, -⟩ := A2.out.bytes X us.length c us ((HX.out.1.on A2.out.2).more A2.out.2.size) rfl HX.out.2.2.2.2 (by simp; omega)
  have P3 := Lib.hid hr3
  have A3 := Lib.hid (And.intro a3 hn3)
  clear hr3 a3 hn3
  go_upto_region 3 with (at_builtin; refine wpList_append_run rfl _ _ 44 rfl rfl rfl P3.out ?_)
  clear P3 A2
  obtain ⟨a3, hn3⟩ := A3.out
  have hn : n3 = (0 :: us).length := by rw [hn3]; simp; omega
  have HS := Lib.hid (rsum256_any Y3 c3 (0 :: us) W3 (a3.ins hn) (fun e => (by obtain ⟨_, _, _, hv, _, _, _, h6⟩ := a3.form; cases hv; exact h6 e)) (by simp; omega) (fun e he => by
    rcases List.mem_cons.1 he with rfl | h
    · decide
    · exact HX.out.2.1 e h))
  rw [hn]
  clear a3 hn3 hn HX
  go_wp2_with (first | (go_at_call 37; refine HS.out.mono ?_; rintro e w4 ⟨v, rfl, hb4, ho4⟩; have C4 := dig_conv (by decide) ho4; obtain ⟨g4, cap4, rfl⟩ := dig_slice (by decide) ho4; have B4 := Lib.hid hb4; clear ho4 hb4))
  go_ret
  exact ⟨rfl, (A3.out.1.on B4.out).2⟩
set_option maxRecDepth 100000 in
set_option maxHeartbeats 1000000 in
theorem rnodehash_any (a b : ByteArray) (w : World) (hl : a.size + b.size ≤ 999) :
    Calls Tryd.prog 39 #[.string a, .string b] w (SaysS w (digS (1 :: (txt a ++ txt b)))) := by
  go_enter Tryd.func39, Tryd.ntmps39
  have a1 := Acc.built (Below.refl w.heap.size w) [1] (by decide) 1 rfl
  have A1 := Lib.hid a1
  clear a1
  go_upto_region 2 with (fail)
  obtain ⟨W1, hW1⟩ : ∃ W1, W1 = w.alloc (.cells #[.int .u8 1] 5) := ⟨_, rfl⟩
  have A2 := Lib.hid (show Acc w W1 (.slice (some ⟨w.heap.size, 0, none⟩) 1 1) [1] by rw [hW1]; exact A1.out)
  rw [← hW1]
  clear hW1 A1
  obtain ⟨Y3, n3, c3, W3, hr3, hn3, a3, -⟩ := A2.out.str a (by simp; omega)
  have P3 := Lib.hid hr3
  have A3 := Lib.hid (And.intro a3 hn3)
  clear hr3 a3 hn3
  go_upto_region 3 with (at_builtin; refine wpList_append_run2 rfl _ _ 44 9 rfl rfl rfl P3.out ?_)
  clear P3 A2
  obtain ⟨Y5, n5, c5, W5, hr5, hn5, a5, -⟩ := A3.out.1.str b (by simp [txt_length]; omega)
  have P5 := Lib.hid hr5
  have A5 := Lib.hid (And.intro a5 hn5)
  clear hr5 a5 hn5
  go_upto_region 4 with (at_builtin; refine wpList_append_run2 rfl _ _ 44 9 rfl rfl rfl P5.out ?_)
  clear P5 A3
  obtain ⟨a5, hn5⟩ := A5.out
  have hn : n5 = (1 :: (txt a ++ txt b)).length := by rw [hn5]; simp [txt_length]; omega
  have e : [1] ++ txt a ++ txt b = 1 :: (txt a ++ txt b) := by simp
  rw [e] at a5
  have hbl : (1 :: (txt a ++ txt b)).length ≤ 1000 := by simp [txt_length]; omega
  have hbb : ∀ e ∈ (1 :: (txt a ++ txt b)), 0 ≤ e ∧ e < 256 := fun e he => by
    rcases List.mem_cons.1 he with rfl | h
    · decide
    · rcases List.mem_append.1 h with h | h
      · exact txt_bytes a e h
      · exact txt_bytes b e h
  clear e
  generalize hL : (1 :: (txt a ++ txt b) : List Int) = L at a5 hn hbl hbb
  have HL := Lib.hid hL
  clear hL
  have HS := Lib.hid (rsum256_any Y5 c5 L W5 (a5.ins hn) (fun e => (by obtain ⟨_, _, _, hv, _, _, _, h6⟩ := a5.form; cases hv; exact h6 e)) hbl hbb)
  have hB := Lib.hid a5.2
  rw [hn]
  clear a5 hn5 hn A5 hbl hbb
  go_wp2_with (first | (go_at_call 37; refine HS.out.mono ?_; rintro e w4 ⟨v, rfl, hb4, ho4⟩; have C4 := dig_conv (by decide) ho4; obtain ⟨g4, cap4, rfl⟩ := dig_slice (by decide) ho4; have B4 := Lib.hid hb4; clear ho4 hb4))
  go_ret
  exact ⟨by rw [HL.out]; rfl, hB.out.trans (B4.out.mono hB.out.size)⟩
end Go.Proofs.YtmbmkmigcmlodaaDoor
namespace Go.Proofs.YtmbmkmigcmlodaaDoor
open Go.RowKit

/-- '[]byte(s)': one new block. -/
theorem bytes_of15 (s : ByteArray) (W : World) : ∃ cap W', (convert 9 44 (.string s)).run Tryd.prog W = .ok (.slice (some ⟨W.heap.size, 0, none⟩) s.size cap) W' ∧ Below W.heap.size W W' ∧ s.size ≤ cap ∧ InS W' W'.heap.size (some ⟨W.heap.size, 0, none⟩) (txt s) := by
  obtain ⟨cap, W', h1, h2, h3, h4, h5⟩ := bytes_back (txt s) (txt_bytes s) W
  rw [str_txt, txt_length] at h1
  refine ⟨cap, W', h1, h2, by rw [← txt_length]; exact h4, fun _ => ⟨_, rfl, h3, fun i e he => ?_⟩⟩
  rw [Addr.add_lit, Nat.zero_add, h5 i (List.getElem?_eq_some_iff.1 he).1, List.getD_eq_getElem?_getD, he]
  rfl
/-- The key of a hash, of the kind of hashes. -/
def hashKeyB (h : ByteArray) : ByteArray := (⟨#[105]⟩ ++ ⟨#[47]⟩) ++ strOfNums (hexL (txt h))

set_option maxRecDepth 100000 in
set_option maxHeartbeats 1000000 in
theorem rhashkey_any (h : ByteArray) (hs : h.size ≤ 1000) (w : World) :
    Calls Tryd.prog 16 #[.string ⟨#[105]⟩, .string h] w (StrP w (hashKeyB h)) := by
  have HE := Lib.hid (fun (W : World) => show ∃ cap W', (convert 9 44 (.string h)).run Tryd.prog W = .ok (.slice (some ⟨W.heap.size, 0, none⟩) h.size cap) W' ∧ Hid (Below W.heap.size W W') ∧ Hid (Calls Tryd.prog 29 #[.slice (some ⟨W.heap.size, 0, none⟩) h.size cap] W' (TextPost W' (hexL (txt h)))) by
    obtain ⟨cap, W', h1, h2, -, h4⟩ := bytes_of15 h W
    have h5 := rhex_any _ cap (txt h) W' h4 (txt_bytes h) (by rw [txt_length]; exact hs)
    rw [txt_length] at h5
    exact ⟨cap, W', h1, Lib.hid h2, Lib.hid h5⟩)
  obtain ⟨R, hR⟩ : ∃ R, R = hashKeyB h := ⟨_, rfl⟩
  rw [← hR]
  unfold hashKeyB at hR
  unfold TextPost at HE
  have hxs : (strOfNums (hexL (txt h))).size ≤ 2000 := by rw [size_str, hexL_length, txt_length]; omega
  generalize strOfNums (hexL (txt h)) = X at *
  obtain ⟨U1, hU1⟩ : ∃ U1, (⟨#[105]⟩ : ByteArray) ++ (⟨#[47]⟩ : ByteArray) = U1 := ⟨_, rfl⟩
  obtain ⟨U2, hU2⟩ : ∃ U2, U1 ++ X = U2 := ⟨_, rfl⟩
  have s1 : U1.size ≤ 2 := by rw [← hU1]; exact Nat.le_refl _
  have HR := Lib.hid (show U2 = R by rw [hR, ← hU2, ← hU1])
  have n0 : ¬ 9223372036854775807 < (⟨#[105]⟩ : ByteArray).size + (⟨#[47]⟩ : ByteArray).size := by decide
  have n1 : ¬ 9223372036854775807 < U1.size + X.size := by omega
  obtain ⟨cap, W1, hcv, hb, hx⟩ := HE.out w
  clear hR hxs s1 hs HE
  go_enter Tryd.func16, Tryd.ntmps16
  go_wp2_with fail
  go_at_call 29
  refine hx.out.mono ?_
  rintro e w2 ⟨rfl, hb2⟩
  have HB2 := Lib.hid hb2
  clear hb2 hx
  go_wp2_with fail
  go_ret
  refine ⟨?_, hb.out.trans (HB2.out.mono hb.out.size)⟩
  rw [← HR.out]
  rfl
end Go.Proofs.YtmbmkmigcmlodaaDoor
namespace Go.Proofs.YtmbmkmigcmlodaaDoor
open Go.RowKit

/-- The tables that the program reads. -/
def TabsP (w : World) : Prop := Tables w ∧ Tab10 w
theorem TabsP.on {w w' : World} (h : TabsP w) (hb : Below w.heap.size w w') : TabsP w' := ⟨h.1.below hb h.1.1, h.2.on hb⟩
def leafB (z : Int) : ByteArray := ⟨#[108, 47]⟩ ++ padB z 7
def stagedB (z : Int) : ByteArray := ⟨#[112, 47]⟩ ++ padB z 7
def headB (z : Int) : ByteArray := ⟨#[104, 47]⟩ ++ padB z 7

set_option maxHeartbeats 400000 in
theorem nought_any (z : Int) (h1 : -9223372036854775808 ≤ z) (h2 : z ≤ 9223372036854775807) (w : World) :
    Calls Tryd.prog 25 #[.int .i64 z] w (fun e w' => e = .returned (.int .u64 (z.toNat : Int)) ∧ w = w') := by
  obtain ⟨u, hu⟩ : ∃ u : Int, u = (z.toNat : Int) := ⟨_, rfl⟩
  have hm : max 0 z = u := by omega
  have hw : IntKind.u64.wrap u = u := by rw [IntKind.wrap_u64]; omega
  rw [← hu]
  clear hu
  go_enter Tryd.func25, Tryd.ntmps25
  go_wp2_with fail
  go_ret
  exact ⟨rfl, rfl⟩
set_option maxHeartbeats 400000 in
theorem numberkey_any (u : Nat) (hu : u ≤ 18446744073709551615) (w : World) (hT : Tab10 w) :
    Calls Tryd.prog 24 #[.int .u64 (u : Int)] w (StrP w (padB (u : Int) 7)) := by
  have H := Lib.hid (padded_any u 7 hu (by omega) w hT)
  have HE := Lib.hid (show strOfNums (padN u 7) = padB (u : Int) 7 from rfl)
  rw [HE.out] at H
  clear hT
  go_enter Tryd.func24, Tryd.ntmps24
  go_wp2_with (go_at_call 35; refine H.out.mono ?_; rintro e w1 ⟨rfl, hb⟩; have HB := Lib.hid hb; clear hb)
  go_ret
  exact ⟨rfl, HB.out⟩
set_option maxHeartbeats 400000 in
theorem number_any (z : Int) (h1 : -9223372036854775808 ≤ z) (h2 : z ≤ 9223372036854775807) (w : World) (hT : TabsP w) :
    Calls Tryd.prog 8 #[.int .i64 z] w (StrP w (padB z 7)) := by
  have H1 := Lib.hid (nought_any z h1 h2 w)
  have H2 := Lib.hid (numberkey_any z.toNat (by omega) w hT.2)
  have HE := Lib.hid (show padB (z.toNat : Int) 7 = padB z 7 by unfold padB; rw [Int.toNat_natCast])
  rw [HE.out] at H2
  obtain ⟨u, hu⟩ : ∃ u : Int, u = (z.toNat : Int) := ⟨_, rfl⟩
  rw [← hu] at H1 H2
  clear hT hu
  go_enter Tryd.func8, Tryd.ntmps8
  go_wp2_with (first
    | (go_at_call 25; refine H1.out.mono ?_; rintro e w1 ⟨rfl, rfl⟩)
    | (go_at_call 24; refine H2.out.mono ?_; rintro e w1 ⟨rfl, hb⟩; have HB := Lib.hid hb; clear hb))
  go_ret
  exact ⟨rfl, HB.out⟩
set_option maxHeartbeats 400000 in
theorem leaf_any (z : Int) (h1 : -9223372036854775808 ≤ z) (h2 : z ≤ 9223372036854775807) (w : World) (hT : TabsP w) :
    Calls Tryd.prog 12 #[.int .i64 z] w (StrP w (leafB z)) := by
  have H := Lib.hid (number_any z h1 h2 w hT)
  obtain ⟨U, hU⟩ : ∃ U, U = padB z 7 := ⟨_, rfl⟩
  have hUs : U.size ≤ 100 := by rw [hU]; exact padB_size z 7 (by omega) h2
  obtain ⟨R, hR⟩ : ∃ R, R = leafB z := ⟨_, rfl⟩
  have HE := Lib.hid (show (⟨#[108, 47]⟩ : ByteArray) ++ U = R by rw [hR, hU]; rfl)
  rw [← hU] at H
  rw [← hR]
  have hl : ¬ 9223372036854775807 < (⟨#[108, 47]⟩ : ByteArray).size + U.size := by show ¬ _ < 2 + U.size; omega
  clear hT hU hR
  go_enter Tryd.func12, Tryd.ntmps12
  go_wp2_with (go_at_call 8; refine H.out.mono ?_; rintro e w1 ⟨rfl, hb⟩; have HB := Lib.hid hb; clear hb)
  go_ret
  exact ⟨by rw [← HE.out]; rfl, HB.out⟩
set_option maxHeartbeats 400000 in
theorem staged_any (z : Int) (h1 : -9223372036854775808 ≤ z) (h2 : z ≤ 9223372036854775807) (w : World) (hT : TabsP w) :
    Calls Tryd.prog 13 #[.int .i64 z] w (StrP w (stagedB z)) := by
  have H := Lib.hid (number_any z h1 h2 w hT)
  obtain ⟨U, hU⟩ : ∃ U, U = padB z 7 := ⟨_, rfl⟩
  have hUs : U.size ≤ 100 := by rw [hU]; exact padB_size z 7 (by omega) h2
  obtain ⟨R, hR⟩ : ∃ R, R = stagedB z := ⟨_, rfl⟩
  have HE := Lib.hid (show (⟨#[112, 47]⟩ : ByteArray) ++ U = R by rw [hR, hU]; rfl)
  rw [← hU] at H
  rw [← hR]
  have hl : ¬ 9223372036854775807 < (⟨#[112, 47]⟩ : ByteArray).size + U.size := by show ¬ _ < 2 + U.size; omega
  clear hT hU hR
  go_enter Tryd.func13, Tryd.ntmps13
  go_wp2_with (go_at_call 8; refine H.out.mono ?_; rintro e w1 ⟨rfl, hb⟩; have HB := Lib.hid hb; clear hb)
  go_ret
  exact ⟨by rw [← HE.out]; rfl, HB.out⟩
set_option maxHeartbeats 400000 in
theorem head_any (z : Int) (h1 : -9223372036854775808 ≤ z) (h2 : z ≤ 9223372036854775807) (w : World) (hT : TabsP w) :
    Calls Tryd.prog 14 #[.int .i64 z] w (StrP w (headB z)) := by
  have H := Lib.hid (number_any z h1 h2 w hT)
  obtain ⟨U, hU⟩ : ∃ U, U = padB z 7 := ⟨_, rfl⟩
  have hUs : U.size ≤ 100 := by rw [hU]; exact padB_size z 7 (by omega) h2
  obtain ⟨R, hR⟩ : ∃ R, R = headB z := ⟨_, rfl⟩
  have HE := Lib.hid (show (⟨#[104, 47]⟩ : ByteArray) ++ U = R by rw [hR, hU]; rfl)
  rw [← hU] at H
  rw [← hR]
  have hl : ¬ 9223372036854775807 < (⟨#[104, 47]⟩ : ByteArray).size + U.size := by show ¬ _ < 2 + U.size; omega
  clear hT hU hR
  go_enter Tryd.func14, Tryd.ntmps14
  go_wp2_with (go_at_call 8; refine H.out.mono ?_; rintro e w1 ⟨rfl, hb⟩; have HB := Lib.hid hb; clear hb)
  go_ret
  exact ⟨by rw [← HE.out]; rfl, HB.out⟩
set_option maxHeartbeats 1000000 in
theorem nodekey_any (a : Int) (b : Nat) (h1 : -9223372036854775808 ≤ a) (h2 : a ≤ 9223372036854775807) (h4 : b ≤ 9223372036854775807) (w : World) (hT : Tab10 w) :
    Calls Tryd.prog 27 #[.int .i64 a, .int .u64 (b : Int)] w (StrP w (nodeKeyB a (b : Int))) := by
  have H1 := Lib.hid (nought_any a h1 h2 w)
  have HP := Lib.hid (padded_any a.toNat 2 (by omega) (by omega) w hT)
  have HQ := Lib.hid (fun W (hb : Below w.heap.size w W) => numberkey_any b (by omega) W (hT.on hb))
  have ea : strOfNums (padN a.toNat 2) = padB a 2 := rfl
  rw [ea] at HP
  obtain ⟨u, hu⟩ : ∃ u : Int, u = (a.toNat : Int) := ⟨_, rfl⟩
  rw [← hu] at H1 HP
  clear hu ea
  obtain ⟨A, hA⟩ : ∃ A, A = padB a 2 := ⟨_, rfl⟩
  obtain ⟨B, hB⟩ : ∃ B, B = padB (b : Int) 7 := ⟨_, rfl⟩
  have hAs : A.size ≤ 100 := by rw [hA]; exact padB_size a 2 (by omega) h2
  have hBs : B.size ≤ 100 := by rw [hB]; exact padB_size (b : Int) 7 (by omega) (by omega)
  obtain ⟨R, hR⟩ : ∃ R, R = nodeKeyB a (b : Int) := ⟨_, rfl⟩
  rw [← hR]
  obtain ⟨U1, hU1⟩ : ∃ U1, (⟨#[110, 47]⟩ : ByteArray) ++ A = U1 := ⟨_, rfl⟩
  obtain ⟨U2, hU2⟩ : ∃ U2, U1 ++ (⟨#[47]⟩ : ByteArray) = U2 := ⟨_, rfl⟩
  obtain ⟨U3, hU3⟩ : ∃ U3, U2 ++ B = U3 := ⟨_, rfl⟩
  have s1 : U1.size ≤ 102 := by rw [← hU1, ByteArray.size_append]; show 2 + A.size ≤ 102; omega
  have s2 : U2.size ≤ 103 := by rw [← hU2, ByteArray.size_append]; show U1.size + 1 ≤ 103; omega
  have HR := Lib.hid (show U3 = R by rw [hR, ← hU3, ← hU2, ← hU1, hA, hB]; rfl)
  rw [← hA] at HP
  rw [← hB] at HQ
  clear hR hA hB hT
  have n1 : ¬ 9223372036854775807 < (⟨#[110, 47]⟩ : ByteArray).size + A.size := by show ¬ 9223372036854775807 < 2 + A.size; omega
  have n2 : ¬ 9223372036854775807 < U1.size + (⟨#[47]⟩ : ByteArray).size := by show ¬ 9223372036854775807 < U1.size + 1; omega
  have n3 : ¬ 9223372036854775807 < U2.size + B.size := by omega
  go_enter Tryd.func27, Tryd.ntmps27
  go_wp2_with (first
    | (go_at_call 25; refine H1.out.mono ?_; rintro e wq ⟨rfl, hw⟩; rw [← hw]; clear hw wq)
    | (go_at_call 35; refine HP.out.mono ?_; rintro e w1 ⟨rfl, hb⟩; have HB := Lib.hid hb; clear hb)
    | (go_at_call 24; refine (HQ.out _ HB.out).mono ?_; rintro e w2 ⟨rfl, hb⟩; have HB2 := Lib.hid hb; clear hb))
  go_ret
  exact ⟨by rw [← HR.out]; rfl, HB.out.trans (HB2.out.mono HB.out.size)⟩
set_option maxHeartbeats 1000000 in
theorem node_any (a b : Int) (h1 : -9223372036854775808 ≤ a) (h2 : a ≤ 9223372036854775807) (h3 : -9223372036854775808 ≤ b) (h4 : b ≤ 9223372036854775807) (w : World) (hT : TabsP w) :
    Calls Tryd.prog 10 #[.int .i64 a, .int .i64 b] w (StrP w (nodeKeyB a b)) := by
  have H1 := Lib.hid (nought_any b h3 h4 w)
  have H2 := Lib.hid (nodekey_any a b.toNat h1 h2 (by omega) w hT.2)
  have HE := Lib.hid (show nodeKeyB a (b.toNat : Int) = nodeKeyB a b by unfold nodeKeyB padB; rw [Int.toNat_natCast])
  rw [HE.out] at H2
  obtain ⟨u, hu⟩ : ∃ u : Int, u = (b.toNat : Int) := ⟨_, rfl⟩
  rw [← hu] at H1 H2
  clear hT hu
  go_enter Tryd.func10, Tryd.ntmps10
  go_wp2_with (first
    | (go_at_call 25; refine H1.out.mono ?_; rintro e w1 ⟨rfl, rfl⟩)
    | (go_at_call 27; refine H2.out.mono ?_; rintro e w1 ⟨rfl, hb⟩; have HB := Lib.hid hb; clear hb))
  go_ret
  exact ⟨rfl, HB.out⟩
end Go.Proofs.YtmbmkmigcmlodaaDoor
