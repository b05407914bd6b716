/- The program's Hex. The program's key of a hash; strings.Clone; how many ones a number has. Rows of writes that a call makes, or that came. -/
import Derived.Test.YtmbmkmigcmlodaaDoorMRbHex
import Derived.Laws.BitsLemmas
import Derived.Laws.BitsAllLaws
import Derived.Test.YtmbmkmigcmlodaaDoorMP15Keys
import Derived.Test.YtmbmkmigcmlodaaDoorMDgZero
import Derived.Maps.AppendAt
namespace Go.Proofs.YtmbmkmigcmlodaaDoor
open Go.RowKit

/-- 'make([]byte, 0, c)'. -/
theorem make0 (c : Nat) (hc : c ≤ 100000) (w : World) : (Instr.makeSlice 44 (.int .i64 0) (.int .i64 (c : Int))).run Tryd.prog w = .ok (.slice (some ⟨w.heap.size, 0, none⟩) 0 c) (w.alloc (.cells (madeCells #[.int .u8 0] c) 5)) := by
  obtain ⟨i, hi, hzz⟩ := Option.map_eq_some_iff.1 infoU8
  simp only [Prod.mk.injEq] at hzz
  obtain ⟨hz, hs, hb⟩ := hzz
  have hr := run_make (P := Tryd.prog) w 44 5 i (.int .u8 0) Tryd.underlying44 hi hz .i64 .i64 0 (c : Int) (by omega) (by omega) (by rw [hb]; omega) (by omega)
  simp only [Int.toNat_natCast, hs, Nat.mul_one, Int.toNat_zero] at hr
  exact hr
theorem own0 (c B : Nat) (hc : c ≤ 100000) (w : World) (hB : B ≤ w.heap.size) : (w.alloc (.cells (madeCells #[.int .u8 0] c) 5)).ownsRow B 5 1 (.slice (some ⟨w.heap.size, 0, none⟩) 0 c) 0 [] :=
  ⟨rfl, .inr ⟨w.heap.size, c, _, rfl, hB, heap_alloc_new w _, Nat.zero_le _, by unfold maxLen; omega, by rw [size_madeCells, Nat.mul_one], by simp⟩⟩
theorem w7 (n : Int) (h₀ : 0 ≤ n) (h₁ : n < 2 ^ 8) : IntKind.u8.wrap n = n := by rw [IntKind.wrap_u8']; omega
theorem and_u8_15 {n : Int} (h : 0 ≤ n ∧ n < 256) : bits BinOp.and IntKind.u8 n 15 = n % 16 := bits_mask .u8 8 (by decide) w7 4 (by decide) n (by omega) (by omega)

set_option maxHeartbeats 2000000 in
set_option maxRecDepth 100000 in
theorem hexp_any (X : Option Addr) (c : Nat) (us : List Int) (w : World) (hX : InS w w.heap.size X us) (hus : ∀ e ∈ us, 0 ≤ e ∧ e < 256) (hm : us.length ≤ 1000) :
    Calls Tryd.prog 28 #[.slice X us.length c] w (TextPost w (hexL us)) := by
  obtain ⟨ul, hul⟩ : ∃ ul, ul = us.length := ⟨_, rfl⟩
  rw [← hul]
  have H0 := Lib.hid (And.intro hX (And.intro hus hul))
  have hm' : ul ≤ 1000 := by omega
  clear hX hus hm hul
  have hmk := make0 (ul * 2) (by omega)
  rw [show ((ul * 2 : Nat) : Int) = (ul : Int) * 2 by omega] at hmk
  go_enter Tryd.func28, Tryd.ntmps28
  go_upto_region 3 with (fail)
  obtain ⟨S, hS⟩ : ∃ S, S = hexS := ⟨_, rfl⟩
  rw [show (⟨#[48, 49, 50, 51, 52, 53, 54, 55, 56, 57, 97, 98, 99, 100, 101, 102]⟩ : ByteArray) = S from by rw [hS]; rfl]
  have HS := Lib.hid (show ∀ (k : Nat), k < 16 → ∀ (h : k < S.size), ((S[k].toNat : Nat) : Int) = hexD k from fun k hk h => by subst hS; exact hexS_at k hk h)
  have hSz : 16 ≤ S.size := by rw [hS]; exact Nat.le_refl 16
  clear hS hmk
  go_wp2_with fail
  go_loopg [3, 12] ul (fun g v i wr => ∃ k m : Nat, k ≤ ul ∧ g = ul - k ∧ i = .int .i64 k ∧ Hid (m = 2 * k) ∧ Below w.heap.size w wr ∧ wr.ownsRow w.heap.size 5 1 v m ((hexL (us.take k)).map (Value.int .u8)))
  case atStart => exact ⟨0, 0, by omega, rfl, rfl, Lib.hid rfl, (Below.refl _ _).alloc (Nat.le_refl _) _, own0 _ _ (by omega) _ (Nat.le_refl _)⟩
  case round =>
    obtain ⟨k, m, hk, rfl, rfl, hm, hb, hown⟩ := hrel
    by_cases hlt : k < ul
    · have hki : (k : Int) < (ul : Int) := by omega
      obtain ⟨hX, hus, hul⟩ := H0.out
      have hmm : m ≤ 2000 := by have := hm.out; omega
      obtain ⟨ad, rfl, hadb, hadc⟩ := hX (by omega)
      have hget : us[k]? = some (us.getD k 0) := by rw [List.getElem?_eq_getElem (by omega), List.getD_eq_getElem?_getD, List.getElem?_eq_getElem (by omega)]; rfl
      have eb : wr.cell? (ad.add k) = some (.int .u8 (us.getD k 0)) := (hb.cell (by rw [addr_add_block]; exact hadb)).trans (hadc k _ hget)
      have hyb := hus _ (List.mem_of_getElem? hget)
      obtain ⟨y, hy⟩ : ∃ y, y = us.getD k 0 := ⟨_, rfl⟩
      rw [← hy] at eb hyb hget
      have hand := and_u8_15 hyb
      obtain ⟨hy0, hy1⟩ := hyb
      obtain ⟨hi, hhi⟩ : ∃ q, q = (y / 16).toNat := ⟨_, rfl⟩
      obtain ⟨lo, hlo⟩ : ∃ q, q = (y % 16).toNat := ⟨_, rfl⟩
      have q1 : y / 16 = (hi : Int) := by omega
      have q2 : bits BinOp.and IntKind.u8 y 15 = (lo : Int) := by rw [hand]; omega
      have hi1 : hi < S.size := by omega
      have lo1 : lo < S.size := by omega
      have ehi := HS.out hi (by omega)
      have elo := HS.out lo (by omega)
      have HY := Lib.hid (And.intro hget (And.intro hhi hlo))
      clear hX hus hul hadb hadc hget hy hhi hlo hand
      go_wp2_with fail
      refine wp_region_noPanic ?_
      refine wp_region_held_drew (S := fun _ => True) (by kernel_rfl) trivial (fun hS => ?_)
      refine wpAnyH_take (i := 0) (v := ?_) (ops_at rfl) (by kernel_rfl) (by kernel_rfl) (by kernel_rfl) (fun _ _ _ h => h) (Or.inl ⟨by rfl, ?_⟩) hS ?_
      rotate_left
      · intro _ _; first | (go_simp; done) | (go_simp; with_reducible rfl)
      simp only [Act.put, List.setIfInBounds_toArray, List.set_cons_zero, List.set_cons_succ]
      refine wpAnyH_take (i := 1) (v := ?_) (ops_at rfl) (by kernel_rfl) (by kernel_rfl) (by kernel_rfl) (fun _ _ _ h => h) (Or.inl ⟨by rfl, ?_⟩) hS ?_
      rotate_left
      · intro _ _; first | (go_simp; done) | (go_simp; with_reducible rfl)
      simp only [Act.put, List.setIfInBounds_toArray, List.set_cons_zero, List.set_cons_succ]
      refine wpAnyH_take (i := 2) (v := ?_) (ops_at rfl) (by kernel_rfl) (by kernel_rfl) (by kernel_rfl) (fun _ _ _ h => h) (Or.inl ⟨by rfl, ?_⟩) hS ?_
      rotate_left
      · intro _ _; first | (go_simp; done) | (go_simp; with_reducible rfl)
      simp only [Act.put, List.setIfInBounds_toArray, List.set_cons_zero, List.set_cons_succ]
      refine wpAnyH_take (i := 3) (v := ?_) (ops_at rfl) (by kernel_rfl) (by kernel_rfl) (by kernel_rfl) (fun _ _ _ h => h) (Or.inl ⟨by rfl, ?_⟩) hS ?_
      rotate_left
      · intro _ _; first | (go_simp; done) | (go_simp; with_reducible rfl)
      simp only [Act.put, List.setIfInBounds_toArray, List.set_cons_zero, List.set_cons_succ]
      refine wpAnyH_take (i := 4) (v := ?_) (ops_at rfl) (by kernel_rfl) (by kernel_rfl) (by kernel_rfl) (fun _ _ _ h => h) (Or.inl ⟨by rfl, ?_⟩) hS ?_
      rotate_left
      · intro _ _; first | (go_simp; done) | (go_simp; with_reducible rfl)
      simp only [Act.put, List.setIfInBounds_toArray, List.set_cons_zero, List.set_cons_succ]
      refine wpAnyH_take (i := 5) (v := ?_) (ops_at rfl) (by kernel_rfl) (by kernel_rfl) (by kernel_rfl) (fun _ _ _ h => h) (Or.inl ⟨by rfl, ?_⟩) hS ?_
      rotate_left
      · intro _ _; first | (go_simp; done) | (go_simp; with_reducible rfl)
      simp only [Act.put, List.setIfInBounds_toArray, List.set_cons_zero, List.set_cons_succ]
      refine wpAnyH_take (i := 6) (v := ?_) (ops_at rfl) (by kernel_rfl) (by kernel_rfl) (by kernel_rfl) (fun _ _ _ h => h) (Or.inl ⟨by rfl, ?_⟩) hS ?_
      rotate_left
      · intro _ _; first | (go_simp; done) | (go_simp; with_reducible rfl)
      simp only [Act.put, List.setIfInBounds_toArray, List.set_cons_zero, List.set_cons_succ]
      refine wpAnyH_ready (rs := [7]) (by kernel_rfl) (by simp) (AllReadyH.cons (ops_at rfl) (fun K hK => ?_) AllReadyH.nil)
      go_simp
      refine hK.out _ _ trivial (fun hS => ?_)
      clear hK K
      have hown2 := hown.kept (row := none) (w' := wr.drew) ⟨rfl, rfl, rfl, Nat.le_refl _, fun _ _ _ => rfl⟩ (by cases h : u3.ownBlock <;> simp)
      obtain ⟨v7, w7, hap, hown7, hg7⟩ := append_two w.heap.size m u3 _ (hexD hi) (hexD lo) wr.drew hown2 (by omega) hb.size
      refine wpAnyH_ready (rs := [8]) (by kernel_rfl) (by simp) (AllReadyH.cons (ops_at rfl) (fun K hK => ?_) AllReadyH.nil)
      rw [if_pos (by rfl)]
      refine wp_append_run _ _ 44 rfl rfl rfl hap ?_
      simp only [Act.put, List.setIfInBounds_toArray, List.set_cons_zero, List.set_cons_succ]
      refine hK.out _ _ trivial (fun hS => ?_)
      clear hK K
      refine wpAnyH_take (i := 9) (v := ?_) (ops_at rfl) (by kernel_rfl) (by kernel_rfl) (by kernel_rfl) (fun _ _ _ h => h) (Or.inl ⟨by rfl, ?_⟩) hS ?_
      rotate_left
      · intro _ _; first | (go_simp; done) | (go_simp; with_reducible rfl)
      simp only [Act.put, List.setIfInBounds_toArray, List.set_cons_zero, List.set_cons_succ]
      refine wpAnyH_done (by kernel_rfl) ?_ _
      refine NoPanic.normal ?_
      obtain ⟨Y7, cy7, rfl, -, -, -⟩ := own_slice hown7
      have HQ := Lib.hid (And.intro hown7 (((hb.drew).alloc hb.size (.cells #[.int .u8 (hexD hi), .int .u8 (hexD lo)] 5)).grown hg7 (by have := hb.size; simp [World.size_alloc]; exact Nat.le_succ_of_le this) (fun g hg => own_ge hown hg)))
      clear hown2 hap hown7 hg7 hb hown hS ehi elo
      go_wp2
      go_roundg (ul - (k + 1))
      case measure => omega
      case rel =>
        obtain ⟨hget, hhi, hlo⟩ := HY.out
        refine ⟨k + 1, m + 2, by omega, rfl, by go_num, Lib.hid (by have := hm.out; omega), HQ.out.2, ?_⟩
        have ht : us.take (k + 1) = us.take k ++ [y] := by rw [List.take_add_one, hget]; rfl
        rw [ht, hexL_next, ← hhi, ← hlo, List.map_append]
        exact HQ.out.1
    · have hki : ¬ (k : Int) < (ul : Int) := by omega
      obtain ⟨Y, cy, rfl, -, -, -⟩ := own_slice hown
      have hcv := conv_own hown
      have hfin : us.take k = us := List.take_of_length_le (by have := H0.out.2.2; omega)
      rw [hfin] at hcv
      have HQ := Lib.hid hb
      have HC := Lib.hid hcv
      clear hb hown hfin hcv
      go_wp2_with fail
      rw [HC.out]
      go_wp2_with fail
      go_ret
      exact ⟨rfl, HQ.out⟩
end Go.Proofs.YtmbmkmigcmlodaaDoor
namespace Go.Proofs.YtmbmkmigcmlodaaDoor
open Go.RowKit

set_option maxRecDepth 100000 in
set_option maxHeartbeats 1000000 in
theorem hash_any (h : ByteArray) (hs : h.size ≤ 1000) (w : World) :
    Calls Tryd.prog 15 #[.string h] w (StrP w (hashKeyB h)) := by
  have HE := Lib.hid (fun (W : World) => show ∃ cap W', (convert 9 44 (.string h)).run Tryd.prog W = .ok (.slice (some ⟨W.heap.size, 0, none⟩) h.size cap) W' ∧ Hid (Below W.heap.size W W') ∧ Hid (Calls Tryd.prog 28 #[.slice (some ⟨W.heap.size, 0, none⟩) h.size cap] W' (TextPost W' (hexL (txt h)))) by
    obtain ⟨cap, W', h1, h2, -, h4⟩ := bytes_of15 h W
    have h5 := hexp_any _ cap (txt h) W' h4 (txt_bytes h) (by rw [txt_length]; exact hs)
    rw [txt_length] at h5
    exact ⟨cap, W', h1, Lib.hid h2, Lib.hid h5⟩)
  obtain ⟨R, hR⟩ : ∃ R, R = hashKeyB h := ⟨_, rfl⟩
  rw [← hR]
  unfold hashKeyB at hR
  unfold TextPost at HE
  have hxs : (strOfNums (hexL (txt h))).size ≤ 2000 := by rw [size_str, hexL_length, txt_length]; omega
  generalize strOfNums (hexL (txt h)) = X at *
  obtain ⟨U1, hU1⟩ : ∃ U1, (⟨#[105, 47]⟩ : ByteArray) = U1 := ⟨_, rfl⟩
  obtain ⟨U2, hU2⟩ : ∃ U2, (⟨#[105, 47]⟩ : ByteArray) ++ X = U2 := ⟨_, rfl⟩
  have HR := Lib.hid (show U2 = R by rw [hR, ← hU2]; rfl)
  have n1 : ¬ 9223372036854775807 < (⟨#[105, 47]⟩ : ByteArray).size + X.size := by show ¬ _ < 2 + X.size; omega
  obtain ⟨cap, W1, hcv, hb, hx⟩ := HE.out w
  clear hR hxs hs HE hU1 U1
  go_enter Tryd.func15, Tryd.ntmps15
  go_wp2_with fail
  go_at_call 28
  refine hx.out.mono ?_
  rintro e w2 ⟨rfl, hb2⟩
  have HB2 := Lib.hid hb2
  clear hb2 hx
  go_wp2_with fail
  go_ret
  refine ⟨?_, hb.out.trans (HB2.out.mono hb.out.size)⟩
  rw [← HR.out]
  rfl
set_option maxHeartbeats 400000 in
theorem clone_any (s : ByteArray) (hs : s.size ≤ 100000) (w : World) :
    Calls Tryd.prog 33 #[.string s] w (fun e w' => e = .returned (.string s) ∧ Below w.heap.size w w') := by
  have H := Lib.hid (Tryd.stringslite_Clone s w (by omega))
  go_enter Tryd.func33, Tryd.ntmps33
  go_wp2_with (go_at_call 42; refine H.out.mono ?_; rintro e w1 ⟨rfl, hb⟩; have HB := Lib.hid hb; clear hb)
  go_ret
  exact ⟨rfl, HB.out⟩
/-- How many ones a number has. -/
def onesN : Nat → Nat → Nat
  | 0, _ => 0
  | k + 1, n => n % 2 + onesN k (n / 2)
set_option maxHeartbeats 1000000 in
set_option maxRecDepth 100000 in
theorem ones64_any (x : Nat) (hx : x ≤ 1000) (w : World) : Calls Tryd.prog 41 #[.int .u64 (x : Int)] w fun e w' => (∃ k : Int, e = .returned (.int .i64 k) ∧ k = (onesN 10 x : Int)) ∧ w = w' := by
  go_enter Tryd.func41, Tryd.ntmps41
  go_wp2_with fail
  go_ret
  refine ⟨⟨_, rfl, ?_⟩, rfl⟩
  clear w
  revert x
  decide +kernel
set_option maxHeartbeats 400000 in
theorem ones_any (x : Nat) (hx : x ≤ 1000) (w : World) : Calls Tryd.prog 32 #[.int .u64 (x : Int)] w fun e w' => e = .returned (.int .i64 (onesN 10 x : Int)) ∧ w = w' := by
  have H := Lib.hid ((ones64_any x hx w).mono (fun e w' (h : (∃ k : Int, e = .returned (.int .i64 k) ∧ k = (onesN 10 x : Int)) ∧ w = w') => show e = .returned (.int .i64 (onesN 10 x : Int)) ∧ w = w' by
    obtain ⟨⟨k, he, hk⟩, hw⟩ := h
    exact ⟨by rw [he, hk], hw⟩))
  obtain ⟨k, hk⟩ : ∃ k : Int, k = (onesN 10 x : Int) := ⟨_, rfl⟩
  rw [← hk] at H ⊢
  clear hk
  go_enter Tryd.func32, Tryd.ntmps32
  go_wp2_with (go_at_call 41; refine H.out.mono ?_; rintro e w1 ⟨rfl, rfl⟩)
  go_ret
  exact ⟨rfl, rfl⟩
end Go.Proofs.YtmbmkmigcmlodaaDoor
namespace Go.Proofs.YtmbmkmigcmlodaaDoor
open Go.RowKit

/-- A write. -/
structure Wr where
  key : ByteArray
  val : ByteArray
  gone : Bool
  deriving DecidableEq
def cellsWr (t : Wr) : List Value := [.string t.key, .string t.val, .bool t.gone]
/-- A write as a value. -/
def wrV (t : Wr) : Value := .agg #[.string t.key, .string t.val, .bool t.gone]
def flatWr (ts : List Wr) : List Value := ts.flatMap cellsWr
theorem flatWr_append (a b : List Wr) : flatWr (a ++ b) = flatWr a ++ flatWr b := by simp [flatWr]
theorem flatWr_at : ∀ (ts : List Wr) (i : Nat) (t : Wr), ts[i]? = some t → (flatWr ts)[i * 3]? = some (.string t.key) ∧ (flatWr ts)[i * 3 + 1]? = some (.string t.val) ∧ (flatWr ts)[i * 3 + 2]? = some (.bool t.gone)
  | [], i, t, h => by simp at h
  | q :: ts, 0, t, h => by simp at h; subst h; exact ⟨rfl, rfl, rfl⟩
  | q :: ts, i + 1, t, h => by
    have := flatWr_at ts i t (by simpa using h)
    rw [Nat.succ_mul]
    exact this
theorem infoWr : (Tryd.prog.info? 46).map (fun i => (i.zero, i.size, i.bytes)) = some (some (.agg #[.string ⟨#[]⟩, .string ⟨#[]⟩, .bool false]), 3, 40) := by kernel_rfl
theorem append_write (B n : Nat) (v : Value) (xs : List Value) (x y : ByteArray) (z : Bool) (W : World) (hown : W.ownsRow B 46 3 v n xs) (hm : n ≤ 100000) (hB : B ≤ W.heap.size) :
    ∃ v' W', (Builtin.append_ #[32, 32] 32 #[v, .slice (some ⟨W.heap.size, 0, none⟩) 1 1]).run Tryd.prog (W.alloc (.cells #[.string x, .string y, .bool z] 46)) = .ok v' W' ∧ W'.ownsRow B 46 3 v' (n + 1) (xs ++ [.string x, .string y, .bool z]) ∧ (W.alloc (.cells #[.string x, .string y, .bool z] 46)).grownBy W' v.ownBlock := by
  obtain ⟨i0, hi, hz0, hz1, hz2⟩ := info_parts infoWr
  have hb := heap_alloc_new W (.cells #[.string x, .string y, .bool z] 46)
  obtain ⟨v', w', hr, hown', hg, _, _⟩ := run_append_own_at (P := Tryd.prog) (W.alloc (.cells #[.string x, .string y, .bool z] 46)) B 32 32 46 i0 (.agg #[.string ⟨#[]⟩, .string ⟨#[]⟩, .bool false]) 3 40 Tryd.underlying32 hi hz0 hz1 hz2 rfl (by decide) v n xs (hown.alloc _) ⟨W.heap.size, 0, none⟩ 1 1 [.string x, .string y, .bool z] rfl (fun j u h => by
      rw [Addr.add_lit, Nat.zero_add, cell_of_row _ _ j _ _ (0, 0) hb, List.getElem?_toArray]; exact h) (fun u h => by
      simp only [List.mem_cons, List.not_mem_nil, or_false] at h
      rcases h with rfl | rfl | rfl <;> rfl) (by unfold maxLen; omega) (by omega) (by simp; omega)
  exact ⟨v', w', hr, hown', hg⟩
/-- Three cells that are a write. -/
def Three (W : World) (a : Addr) (t : Wr) : Prop := W.cell? a = some (.string t.key) ∧ W.cell? (a.add 1) = some (.string t.val) ∧ W.cell? (a.add 2) = some (.bool t.gone)
theorem Three.load {w W : World} {a : Addr} {t : Wr} (h : Three w a t) (hb : a.block < w.heap.size) (hB : Below w.heap.size w W) :
    W.cell? a = some (.string t.key) ∧ W.cell? ⟨a.block, a.off + 1, none⟩ = some (.string t.val) ∧ W.cell? ⟨a.block, a.off + 2, none⟩ = some (.bool t.gone) := by
  obtain ⟨h0, h1, h2⟩ := h
  have hsp : a.spot = none := by
    rcases hsp : a.spot with _ | x
    · rfl
    · exfalso
      unfold World.cell? at h0
      rw [hsp] at h0
      split at h0 <;> simp at h0
  have e : ∀ k, a.add k = ⟨a.block, a.off + k, none⟩ := fun k => by
    obtain ⟨b, o, s⟩ := a
    have : s = none := hsp
    subst this
    exact Addr.add_lit _ _ _
  rw [e] at h1 h2
  exact ⟨(hB.cell hb).trans h0, (hB.cell (p := ⟨a.block, _, none⟩) hb).trans h1, (hB.cell (p := ⟨a.block, _, none⟩) hb).trans h2⟩
/-- Writes in a row, in a world. -/
def WrIn (W : World) (X : Option Addr) (ts : List Wr) : Prop := ∀ i t, ts[i]? = some t → ∃ ad, X = some ad ∧ ad.block < W.heap.size ∧ Three W (ad.add (i * 3)) t
theorem WrIn.on {W W' : World} {X : Option Addr} {ts : List Wr} (h : WrIn W X ts) (hb : Below W.heap.size W W') : WrIn W' X ts := fun i t ht => by
  obtain ⟨ad, h1, h2, h3, h4, h5⟩ := h i t ht
  have hl : ∀ k, (ad.add k).block < W.heap.size := fun k => by rw [addr_add_block]; exact h2
  exact ⟨ad, h1, Nat.lt_of_lt_of_le h2 hb.size, (hb.cell (hl _)).trans h3, (hb.cell (by rw [addr_add_block]; exact hl _)).trans h4, (hb.cell (by rw [addr_add_block]; exact hl _)).trans h5⟩
theorem WrIn.take {W : World} {X : Option Addr} {ts : List Wr} (h : WrIn W X ts) (k : Nat) : WrIn W X (ts.take k) := fun i t ht => by
  have hi := (List.getElem?_eq_some_iff.1 ht).1
  rw [List.length_take] at hi
  rw [List.getElem?_take_of_lt (by omega)] at ht
  exact h i t ht
/-- Writes in a row of the call's own, in a world that is w but for what was made. -/
def AccWr (w W : World) (v : Value) (ts : List Wr) : Prop := W.ownsRow w.heap.size 46 3 v ts.length (flatWr ts) ∧ Below w.heap.size w W
theorem AccWr.on {w W W' : World} {v : Value} {ts : List Wr} (h : AccWr w W v ts) (hb : Below W.heap.size W W') : AccWr w W' v ts := ⟨own_below h.1 hb, h.2.trans (hb.mono h.2.size)⟩
theorem AccWr.nil {w W : World} (hb : Below w.heap.size w W) : AccWr w W (.slice none 0 0) [] := ⟨World.ownsRow_nil _ _ _ _, hb⟩
theorem AccWr.base {w W W' : World} {v : Value} {ts : List Wr} (h : AccWr W W' v ts) (hb : Below w.heap.size w W) : AccWr w W' v ts := ⟨own_mono hb.size h.1, hb.trans (h.2.mono hb.size)⟩
theorem AccWr.form {w W : World} {v : Value} {ts : List Wr} (h : AccWr w W v ts) : ∃ Y c, v = .slice Y ts.length c ∧ ts.length ≤ c ∧ c ≤ maxLen ∧ WrIn W Y ts := by
  have hc := fun g hg => World.ownsRow.cells h.1 (g := g) hg
  obtain ⟨_, ⟨rfl, hn⟩ | ⟨g, cap, cur, rfl, hB, hb, hc', hm, _⟩⟩ := h.1
  · refine ⟨none, 0, by rw [hn], by omega, by unfold maxLen; omega, fun i t ht => ?_⟩
    have := (List.getElem?_eq_some_iff.1 ht).1
    omega
  · refine ⟨some ⟨g, 0, none⟩, cap, rfl, hc', hm, fun i t ht => ?_⟩
    obtain ⟨h1, h2, h3⟩ := flatWr_at ts i t ht
    have k1 := hc g rfl _ _ h1
    have k2 := hc g rfl _ _ h2
    have k3 := hc g rfl _ _ h3
    exact ⟨_, rfl, (Array.getElem?_eq_some_iff.1 hb).1, k1, by rw [addr_add_add]; exact k2, by rw [addr_add_add]; exact k3⟩
theorem AccWr.one {w W : World} {Y : Option Addr} {m c : Nat} {ts : List Wr} (h : AccWr w W (.slice Y m c) ts) (t : Wr) (hlen : ts.length ≤ 100000) :
    ∃ Y' c' W', (Builtin.append_ #[32, 32] 32 #[.slice Y m c, .slice (some ⟨W.heap.size, 0, none⟩) 1 1]).run Tryd.prog (W.alloc (.cells #[.string t.key, .string t.val, .bool t.gone] 46)) = .ok (.slice Y' (ts.length + 1) c') W' ∧ AccWr w W' (.slice Y' (ts.length + 1) c') (ts ++ [t]) := by
  obtain ⟨v', W', hr, ho, hg⟩ := append_write w.heap.size ts.length _ _ t.key t.val t.gone W h.1 hlen h.2.size
  have e : flatWr ts ++ [.string t.key, .string t.val, .bool t.gone] = flatWr (ts ++ [t]) := by rw [flatWr_append]; rfl
  rw [e] at ho
  have ha : AccWr w W' v' (ts ++ [t]) := ⟨by rw [List.length_append]; exact ho, (h.2.alloc h.2.size _).grown hg (by have := h.2.size; simp; omega) (fun _ hk => own_ge h.1 hk)⟩
  obtain ⟨Y', c', hv, -⟩ := ha.form
  rw [List.length_append] at hv
  have hv' : v' = .slice Y' (ts.length + 1) c' := hv
  subst hv'
  exact ⟨Y', c', W', hr, ha⟩
theorem AccWr.at {w W : World} {Y : Option Addr} {m c : Nat} {ts : List Wr} (h : AccWr w W (.slice Y m c) ts) : ∀ a, Y = some a → w.heap.size ≤ a.block ∧ a.block < W.heap.size := fun a ha => by
  subst ha
  obtain ⟨_, ⟨hv, -⟩ | ⟨g, cap, cur, hv, hB, hb, -⟩⟩ := h.1
  · cases hv
  · cases hv
    exact ⟨hB, (Array.getElem?_eq_some_iff.1 hb).1⟩
theorem AccWr.cap {w W : World} {Y : Option Addr} {m c : Nat} {ts : List Wr} (h : AccWr w W (.slice Y m c) ts) (hn : Y = none) : c = 0 := by
  subst hn
  obtain ⟨_, ⟨hv, -⟩ | ⟨g, cap, cur, hv, -⟩⟩ := h.1
  · cases hv; rfl
  · cases hv
/-- What a call that makes writes answers. -/
def WritesP (w : World) (ts : List Wr) (e : Ending) (w' : World) : Prop := ∃ v, e = .returned v ∧ AccWr w w' v ts
end Go.Proofs.YtmbmkmigcmlodaaDoor
