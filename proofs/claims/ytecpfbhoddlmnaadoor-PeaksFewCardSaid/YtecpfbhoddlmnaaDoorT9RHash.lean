/- Contracts of the reference's LeafHash and NodeHash: a text of 32 bytes. -/
import Derived.Test.YtecpfbhoddlmnaaDoorRfWhole
import Derived.Test.YtecpfbhoddlmnaaDoorDgTab
namespace Go.Proofs.YtecpfbhoddlmnaaDoor
open Go.RowKit

/-- What a call hands out that makes a text. -/
def SaysS (w : World) (s : ByteArray) (e : Ending) (w' : World) : Prop := e = .returned (.string s) ∧ Below w.heap.size w w'
theorem dig_conv {w W : World} {v : Value} {n : Nat} {ds : List Int} (hn : 0 < n) (h : W.ownsRow w.heap.size 5 1 v n (ds.map (Value.int .u8))) :
    (convert 38 9 v).run Tryd.prog W = .ok (.string (strOfNums ds)) W := by
  obtain ⟨g, cap, rfl, -, hm⟩ := made_of_own hn h
  exact conv_made hm cap
theorem dig_slice {w W : World} {v : Value} {n : Nat} {ds : List Int} (hn : 0 < n) (h : W.ownsRow w.heap.size 5 1 v n (ds.map (Value.int .u8))) :
    ∃ g cap, v = .slice (some ⟨g, 0, none⟩) n cap := by
  obtain ⟨g, cap, rfl, -, hm⟩ := made_of_own hn h
  exact ⟨g, cap, rfl⟩

set_option maxRecDepth 100000 in
set_option maxHeartbeats 1000000 in
theorem rleafhash_any (X : Option Addr) (c : Nat) (us : List Int) (w : World) (hX : BytesIn w X c us) (hl : us.length ≤ 999) :
    Calls Tryd.prog 20 #[.slice X us.length c] w (SaysS w (digS (0 :: us))) := by
  have HX := Lib.hid hX
  clear hX
  go_enter Tryd.func20, Tryd.ntmps20
  have a1 := Acc.built (Below.refl w.heap.size w) [0] (by decide) 1 rfl
  have A1 := Lib.hid a1
  clear a1
  go_upto_region 2 with (fail)
  obtain ⟨W1, hW1⟩ : ∃ W1, W1 = w.alloc (.cells #[.int .u8 0] 5) := ⟨_, rfl⟩
  have A2 := Lib.hid (show Acc w W1 (.slice (some ⟨w.heap.size, 0, none⟩) 1 1) [0] by rw [hW1]; exact A1.out)
  rw [← hW1]
  clear hW1 A1
  obtain ⟨Y3, n3, c3, W3, hr3, hn3, a3, -⟩ := A2.out.bytes X us.length c us ((HX.out.1.on A2.out.2).more A2.out.2.size) rfl HX.out.2.2.2.2 (by simp; omega)
  have P3 := Lib.hid hr3
  have A3 := Lib.hid (And.intro a3 hn3)
  clear hr3 a3 hn3
  go_upto_region 3 with (at_builtin; refine wpList_append_run rfl _ _ 38 rfl rfl rfl P3.out ?_)
  clear P3 A2
  obtain ⟨a3, hn3⟩ := A3.out
  have hn : n3 = (0 :: us).length := by rw [hn3]; simp; omega
  have HS := Lib.hid (rsum256_any Y3 c3 (0 :: us) W3 (a3.ins hn) (fun e => (by obtain ⟨_, _, _, hv, _, _, _, h6⟩ := a3.form; cases hv; exact h6 e)) (by simp; omega) (fun e he => by
    rcases List.mem_cons.1 he with rfl | h
    · decide
    · exact HX.out.2.1 e h))
  rw [hn]
  clear a3 hn3 hn HX
  go_wp2_with (first | (go_at_call 36; refine HS.out.mono ?_; rintro e w4 ⟨v, rfl, hb4, ho4⟩; have C4 := dig_conv (by decide) ho4; obtain ⟨g4, cap4, rfl⟩ := dig_slice (by decide) ho4; have B4 := Lib.hid hb4; clear ho4 hb4))
  go_ret
  exact ⟨rfl, (A3.out.1.on B4.out).2⟩
set_option maxRecDepth 100000 in
set_option maxHeartbeats 1000000 in
theorem rnodehash_any (a b : ByteArray) (w : World) (hl : a.size + b.size ≤ 999) :
    Calls Tryd.prog 24 #[.string a, .string b] w (SaysS w (digS (1 :: (txt a ++ txt b)))) := by
  go_enter Tryd.func24, Tryd.ntmps24
  have a1 := Acc.built (Below.refl w.heap.size w) [1] (by decide) 1 rfl
  have A1 := Lib.hid a1
  clear a1
  go_upto_region 2 with (fail)
  obtain ⟨W1, hW1⟩ : ∃ W1, W1 = w.alloc (.cells #[.int .u8 1] 5) := ⟨_, rfl⟩
  have A2 := Lib.hid (show Acc w W1 (.slice (some ⟨w.heap.size, 0, none⟩) 1 1) [1] by rw [hW1]; exact A1.out)
  rw [← hW1]
  clear hW1 A1
  obtain ⟨Y3, n3, c3, W3, hr3, hn3, a3, -⟩ := A2.out.str a (by simp; omega)
  have P3 := Lib.hid hr3
  have A3 := Lib.hid (And.intro a3 hn3)
  clear hr3 a3 hn3
  go_upto_region 3 with (at_builtin; refine wpList_append_run2 rfl _ _ 38 9 rfl rfl rfl P3.out ?_)
  clear P3 A2
  obtain ⟨Y5, n5, c5, W5, hr5, hn5, a5, -⟩ := A3.out.1.str b (by simp [txt_length]; omega)
  have P5 := Lib.hid hr5
  have A5 := Lib.hid (And.intro a5 hn5)
  clear hr5 a5 hn5
  go_upto_region 4 with (at_builtin; refine wpList_append_run2 rfl _ _ 38 9 rfl rfl rfl P5.out ?_)
  clear P5 A3
  obtain ⟨a5, hn5⟩ := A5.out
  have hn : n5 = (1 :: (txt a ++ txt b)).length := by rw [hn5]; simp [txt_length]; omega
  have e : [1] ++ txt a ++ txt b = 1 :: (txt a ++ txt b) := by simp
  rw [e] at a5
  have hbl : (1 :: (txt a ++ txt b)).length ≤ 1000 := by simp [txt_length]; omega
  have hbb : ∀ e ∈ (1 :: (txt a ++ txt b)), 0 ≤ e ∧ e < 256 := fun e he => by
    rcases List.mem_cons.1 he with rfl | h
    · decide
    · rcases List.mem_append.1 h with h | h
      · exact txt_bytes a e h
      · exact txt_bytes b e h
  clear e
  generalize hL : (1 :: (txt a ++ txt b) : List Int) = L at a5 hn hbl hbb
  have HL := Lib.hid hL
  clear hL
  have HS := Lib.hid (rsum256_any Y5 c5 L W5 (a5.ins hn) (fun e => (by obtain ⟨_, _, _, hv, _, _, _, h6⟩ := a5.form; cases hv; exact h6 e)) hbl hbb)
  have hB := Lib.hid a5.2
  rw [hn]
  clear a5 hn5 hn A5 hbl hbb
  go_wp2_with (first | (go_at_call 36; refine HS.out.mono ?_; rintro e w4 ⟨v, rfl, hb4, ho4⟩; have C4 := dig_conv (by decide) ho4; obtain ⟨g4, cap4, rfl⟩ := dig_slice (by decide) ho4; have B4 := Lib.hid hb4; clear ho4 hb4))
  go_ret
  exact ⟨by rw [HL.out]; rfl, hB.out.trans (B4.out.mono hB.out.size)⟩
end Go.Proofs.YtecpfbhoddlmnaaDoor
