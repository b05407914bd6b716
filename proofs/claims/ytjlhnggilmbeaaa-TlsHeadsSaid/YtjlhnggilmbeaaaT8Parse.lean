/- Contract of the reference's Parse. -/
import Derived.Test.YtjlhnggilmbeaaaT8Leaf
namespace Go.Proofs.Ytjlhnggilmbeaaa
open Go.RowKit

/-- How long a leaf's text is, by its bytes. -/
def lenOfL (us : List Int) : Int := us.getD 12 0 * 65536 + us.getD 13 0 * 256 + us.getD 14 0
/-- The time that k of its bytes say, from the one with number 3 on. -/
def timeL (us : List Int) : Nat → Int
  | 0 => 0
  | k + 1 => 256 * timeL us k + us.getD (3 + k) 0
theorem timeL_range (us : List Int) (h : ∀ i, 0 ≤ us.getD i 0 ∧ us.getD i 0 < 256) : ∀ k, 0 ≤ timeL us k ∧ timeL us k < ((256 ^ k : Nat) : Int)
  | 0 => by unfold timeL; decide
  | k + 1 => by
    have ih := timeL_range us h k
    have h1 := h (3 + k)
    rw [timeL, Nat.pow_succ, Int.natCast_mul]
    generalize ((256 ^ k : Nat) : Int) = p at *
    omega
theorem timeL_six (us : List Int) (h : ∀ i, 0 ≤ us.getD i 0 ∧ us.getD i 0 < 256) (n k : Nat) (hk : k ≤ n) : 0 ≤ timeL us k ∧ timeL us k < ((256 ^ n : Nat) : Int) := by
  have h1 := timeL_range us h k
  have h2 := Int.ofNat_le.2 (Nat.pow_le_pow_right (show 0 < 256 by decide) hk)
  omega
theorem leafL_bytes (t : Int) (s : ByteArray) : ∀ e ∈ leafL t s, 0 ≤ e ∧ e < 256 := by
  unfold leafL
  refine u8_append (u8_append (u8_append (u8_append (u8_append ?_ (bigL_bytes _ _)) ?_) (bigL_bytes _ _)) (txt_bytes _)) ?_
  all_goals
    intro e he
    have : e = 0 := by simpa using he
    omega
/-- The leaf's text. -/
def textL (us : List Int) : ByteArray := strOfNums ((us.drop 15).take (lenOfL us).toNat)
def parseR (us : List Int) : Int × ByteArray × Int :=
  if us.length < 15 then (0, ⟨#[]⟩, 3) else if (us.length : Int) < 17 + lenOfL us then (0, ⟨#[]⟩, 3) else if 0 < us.getD 2 0 then (0, ⟨#[]⟩, 4)
  else if mayB (timeL us 7) (textL us).size = true ∧ leafL (timeL us 7) (textL us) = us then (timeL us 7, textL us, 0) else (0, ⟨#[]⟩, 4)
def ParsePost (w : World) (r : Int × ByteArray × Int) (e : Ending) (w' : World) : Prop := e = .returned (.tuple #[.agg #[.int .i64 r.1, .string r.2.1], .int .i64 r.2.2]) ∧ Below w.heap.size w w'
theorem parsePost_of {w w' : World} {r : Int × ByteArray × Int} {t c : Int} {s : ByteArray} (h : r = (t, s, c)) (hb : Below w.heap.size w w') : ParsePost w r (.returned (.tuple #[.agg #[.int .i64 t, .string s], .int .i64 c])) w' := by
  subst h
  exact ⟨rfl, hb⟩

set_option maxRecDepth 100000 in
set_option maxHeartbeats 1000000 in
theorem rparse_any (X : Option Addr) (c : Nat) (us : List Int) (w : World) (hx : BytesIn w X c us) (hl : us.length ≤ 1000) :
    Calls Try.prog 17 #[.slice X us.length c] w (ParsePost w (parseR us)) := by
  obtain ⟨ul, hul⟩ : ∃ ul, ul = us.length := ⟨_, rfl⟩
  have hm : ul ≤ 1000 := by omega
  have huc : ul ≤ c := by have := hx.2.2.1; omega
  obtain ⟨R, hR⟩ : ∃ R, R = parseR us := ⟨_, rfl⟩
  rw [← hul, ← hR]
  have HR := Lib.hid hR
  have HX := Lib.hid (And.intro hx hul)
  clear hx hul hl hR
  have hb0 : Below w.heap.size w (w.alloc (.cells #[.int .i64 0, .string ⟨#[]⟩] 23)) := (Below.refl _ _).alloc (Nat.le_refl _) _
  have H0 := Lib.hid hb0
  clear hb0
  by_cases h1 : ul < 15
  · have HE := Lib.hid (show R = (0, ⟨#[]⟩, 3) by rw [HR.out]; unfold parseR; rw [if_pos (by have := HX.out.2; omega)])
    go_enter Try.func17, Try.ntmps17
    go_wp2
    exact bodyPost_ret (v := .tuple #[.agg #[.int .i64 0, .string ⟨#[]⟩], .int .i64 3]) (by simp [results, Try.results17, go_sem]) rfl (parsePost_of HE.out H0.out)
  obtain ⟨ad, rfl⟩ : ∃ ad, X = some ad := by
    obtain ⟨a, ha, _⟩ := HX.out.1.1 (by have := HX.out.2; omega)
    exact ⟨a, ha⟩
  have hcell : ∀ W, Below w.heap.size w W → ∀ i, i < ul → W.cell? (ad.add i) = some (.int .u8 (us.getD i 0)) := fun W hb i hi => by
    obtain ⟨a, ha, hlt, hcs⟩ := HX.out.1.1 (by have := HX.out.2; omega)
    cases ha
    refine (hb.cell (by rw [addr_add_block]; exact hlt)).trans (hcs i _ ?_)
    have := HX.out.2
    rw [List.getD_eq_getElem?_getD, List.getElem?_eq_getElem (by omega)]
    rfl
  have hrng : ∀ i, 0 ≤ us.getD i 0 ∧ us.getD i 0 < 256 := fun i => by
    rw [List.getD_eq_getElem?_getD]
    cases h : us[i]? with
    | none => simp
    | some e => simpa using HX.out.1.2.1 e (List.mem_of_getElem? h)
  have HC := Lib.hid hcell
  have HG := Lib.hid hrng
  clear hcell hrng
  obtain ⟨B2, hB2⟩ : ∃ x, x = us.getD 2 0 := ⟨_, rfl⟩
  obtain ⟨b12, h12⟩ : ∃ x, x = us.getD 12 0 := ⟨_, rfl⟩
  obtain ⟨b13, h13⟩ : ∃ x, x = us.getD 13 0 := ⟨_, rfl⟩
  obtain ⟨b14, h14⟩ : ∃ x, x = us.getD 14 0 := ⟨_, rfl⟩
  have r12 := HG.out 12
  have r13 := HG.out 13
  have r14 := HG.out 14
  rw [← h12] at r12
  rw [← h13] at r13
  rw [← h14] at r14
  have hbD : Below w.heap.size w (w.alloc (.cells #[.int .i64 0, .string ⟨#[]⟩] 23)).drew := H0.out.drew
  have HC12 := Lib.hid (show ∀ W, Below w.heap.size w W → W.cell? ⟨ad.block, ad.off + 12, none⟩ = some (.int .u8 b12) from fun W hb => by rw [show (⟨ad.block, ad.off + 12, none⟩ : Addr) = ad.add 12 from rfl, h12]; exact HC.out W hb 12 (by omega))
  have HC13 := Lib.hid (show ∀ W, Below w.heap.size w W → W.cell? ⟨ad.block, ad.off + 13, none⟩ = some (.int .u8 b13) from fun W hb => by rw [show (⟨ad.block, ad.off + 13, none⟩ : Addr) = ad.add 13 from rfl, h13]; exact HC.out W hb 13 (by omega))
  have HC14 := Lib.hid (show ∀ W, Below w.heap.size w W → W.cell? ⟨ad.block, ad.off + 14, none⟩ = some (.int .u8 b14) from fun W hb => by rw [show (⟨ad.block, ad.off + 14, none⟩ : Addr) = ad.add 14 from rfl, h14]; exact HC.out W hb 14 (by omega))
  have HC2 := Lib.hid (show ∀ W, Below w.heap.size w W → W.cell? ⟨ad.block, ad.off + 2, none⟩ = some (.int .u8 B2) from fun W hb => by rw [show (⟨ad.block, ad.off + 2, none⟩ : Addr) = ad.add 2 from rfl, hB2]; exact HC.out W hb 2 (by omega))
  obtain ⟨k, hk⟩ : ∃ k : Nat, (k : Int) = lenOfL us := ⟨(lenOfL us).toNat, by unfold lenOfL; rw [← h12, ← h13, ← h14]; omega⟩
  have hk2 : b12 * 65536 + b13 * 256 + b14 = (k : Int) := by rw [hk]; unfold lenOfL; rw [← h12, ← h13, ← h14]
  have HK := Lib.hid (And.intro hk hk2)
  have HB := Lib.hid (And.intro hB2 (And.intro h12 (And.intro h13 h14)))
  clear hk hk2 hB2 h12 h13 h14
  have i12 : (12 : Int) < (ul : Int) := by omega
  have i13 : (13 : Int) < (ul : Int) := by omega
  have i14 : (14 : Int) < (ul : Int) := by omega
  obtain ⟨p0, p1⟩ := r12
  obtain ⟨p2, p3⟩ := r13
  obtain ⟨p4, p5⟩ := r14
  go_enter Try.func17, Try.ntmps17
  go_upto_region 3 with (fail)
  have u1 : IntKind.i64.wrap b12 = b12 := IntWalk.i64_in _ (by omega)
  have u2 : IntKind.i64.wrap b13 = b13 := IntWalk.i64_in _ (by omega)
  have u3 : IntKind.i64.wrap b14 = b14 := IntWalk.i64_in _ (by omega)
  have v1 : IntKind.i64.wrap (b12 * 65536) = b12 * 65536 := IntWalk.i64_in _ (by omega)
  have v2 : IntKind.i64.wrap (b13 * 256) = b13 * 256 := IntWalk.i64_in _ (by omega)
  have v3 : IntKind.i64.wrap (b12 * 65536 + b13 * 256) = b12 * 65536 + b13 * 256 := IntWalk.i64_in _ (by omega)
  have v4 : IntKind.i64.wrap (b12 * 65536 + b13 * 256 + b14) = b12 * 65536 + b13 * 256 + b14 := IntWalk.i64_in _ (by omega)
  refine wp_region_noPanic ?_
  refine wp_region_held_drew (S := fun W' => Below w.heap.size w W') (by kernel_rfl) hbD (fun hS => ?_)
  refine wpAnyH_take (i := 0) (v := ?_) (ops_at rfl) (by kernel_rfl) (by kernel_rfl) (by kernel_rfl) (fun _ _ _ h => h) (Or.inl ⟨by rfl, ?_⟩) hS ?_
  rotate_left
  · intro _ _; first | (go_simp; done) | (go_simp; with_reducible rfl)
  simp only [Act.put, List.setIfInBounds_toArray, List.set_cons_zero, List.set_cons_succ]
  refine wpAnyH_take (i := 1) (v := ?_) (ops_at rfl) (by kernel_rfl) (by kernel_rfl) (by kernel_rfl) (fun _ _ _ h => h) (Or.inl ⟨by rfl, ?_⟩) hS ?_
  rotate_left
  · intro _ _; first | (go_simp; done) | (go_simp; with_reducible rfl)
  simp only [Act.put, List.setIfInBounds_toArray, List.set_cons_zero, List.set_cons_succ]
  refine wpAnyH_take (i := 2) (v := ?_) (ops_at rfl) (by kernel_rfl) (by kernel_rfl) (by kernel_rfl) (fun _ _ _ h => h) (Or.inl ⟨by rfl, ?_⟩) hS ?_
  rotate_left
  · intro _ hk; have hf0 := HC12.out _ hk; first | (go_simp; done) | (go_simp; with_reducible rfl)
  simp only [Act.put, List.setIfInBounds_toArray, List.set_cons_zero, List.set_cons_succ]
  refine wpAnyH_take (i := 3) (v := ?_) (ops_at rfl) (by kernel_rfl) (by kernel_rfl) (by kernel_rfl) (fun _ _ _ h => h) (Or.inl ⟨by rfl, ?_⟩) hS ?_
  rotate_left
  · intro _ _; first | (go_simp; done) | (go_simp; with_reducible rfl)
  simp only [Act.put, List.setIfInBounds_toArray, List.set_cons_zero, List.set_cons_succ]
  refine wpAnyH_take (i := 4) (v := ?_) (ops_at rfl) (by kernel_rfl) (by kernel_rfl) (by kernel_rfl) (fun _ _ _ h => h) (Or.inl ⟨by rfl, ?_⟩) hS ?_
  rotate_left
  · intro _ _; first | (go_simp; done) | (go_simp; with_reducible rfl)
  simp only [Act.put, List.setIfInBounds_toArray, List.set_cons_zero, List.set_cons_succ]
  refine wpAnyH_take (i := 5) (v := ?_) (ops_at rfl) (by kernel_rfl) (by kernel_rfl) (by kernel_rfl) (fun _ _ _ h => h) (Or.inl ⟨by rfl, ?_⟩) hS ?_
  rotate_left
  · intro _ _; first | (go_simp; done) | (go_simp; with_reducible rfl)
  simp only [Act.put, List.setIfInBounds_toArray, List.set_cons_zero, List.set_cons_succ]
  refine wpAnyH_take (i := 6) (v := ?_) (ops_at rfl) (by kernel_rfl) (by kernel_rfl) (by kernel_rfl) (fun _ _ _ h => h) (Or.inl ⟨by rfl, ?_⟩) hS ?_
  rotate_left
  · intro _ _; first | (go_simp; done) | (go_simp; with_reducible rfl)
  simp only [Act.put, List.setIfInBounds_toArray, List.set_cons_zero, List.set_cons_succ]
  refine wpAnyH_take (i := 7) (v := ?_) (ops_at rfl) (by kernel_rfl) (by kernel_rfl) (by kernel_rfl) (fun _ _ _ h => h) (Or.inl ⟨by rfl, ?_⟩) hS ?_
  rotate_left
  · intro _ hk; have hf0 := HC13.out _ hk; first | (go_simp; done) | (go_simp; with_reducible rfl)
  simp only [Act.put, List.setIfInBounds_toArray, List.set_cons_zero, List.set_cons_succ]
  refine wpAnyH_take (i := 8) (v := ?_) (ops_at rfl) (by kernel_rfl) (by kernel_rfl) (by kernel_rfl) (fun _ _ _ h => h) (Or.inl ⟨by rfl, ?_⟩) hS ?_
  rotate_left
  · intro _ _; first | (go_simp; done) | (go_simp; with_reducible rfl)
  simp only [Act.put, List.setIfInBounds_toArray, List.set_cons_zero, List.set_cons_succ]
  refine wpAnyH_take (i := 9) (v := ?_) (ops_at rfl) (by kernel_rfl) (by kernel_rfl) (by kernel_rfl) (fun _ _ _ h => h) (Or.inl ⟨by rfl, ?_⟩) hS ?_
  rotate_left
  · intro _ _; first | (go_simp; done) | (go_simp; with_reducible rfl)
  simp only [Act.put, List.setIfInBounds_toArray, List.set_cons_zero, List.set_cons_succ]
  refine wpAnyH_take (i := 10) (v := ?_) (ops_at rfl) (by kernel_rfl) (by kernel_rfl) (by kernel_rfl) (fun _ _ _ h => h) (Or.inl ⟨by rfl, ?_⟩) hS ?_
  rotate_left
  · intro _ _; first | (go_simp; done) | (go_simp; with_reducible rfl)
  simp only [Act.put, List.setIfInBounds_toArray, List.set_cons_zero, List.set_cons_succ]
  refine wpAnyH_take (i := 11) (v := ?_) (ops_at rfl) (by kernel_rfl) (by kernel_rfl) (by kernel_rfl) (fun _ _ _ h => h) (Or.inl ⟨by rfl, ?_⟩) hS ?_
  rotate_left
  · intro _ _; first | (go_simp; done) | (go_simp; with_reducible rfl)
  simp only [Act.put, List.setIfInBounds_toArray, List.set_cons_zero, List.set_cons_succ]
  refine wpAnyH_take (i := 12) (v := ?_) (ops_at rfl) (by kernel_rfl) (by kernel_rfl) (by kernel_rfl) (fun _ _ _ h => h) (Or.inl ⟨by rfl, ?_⟩) hS ?_
  rotate_left
  · intro _ _; first | (go_simp; done) | (go_simp; with_reducible rfl)
  simp only [Act.put, List.setIfInBounds_toArray, List.set_cons_zero, List.set_cons_succ]
  refine wpAnyH_take (i := 13) (v := ?_) (ops_at rfl) (by kernel_rfl) (by kernel_rfl) (by kernel_rfl) (fun _ _ _ h => h) (Or.inl ⟨by rfl, ?_⟩) hS ?_
  rotate_left
  · intro _ hk; have hf0 := HC14.out _ hk; first | (go_simp; done) | (go_simp; with_reducible rfl)
  simp only [Act.put, List.setIfInBounds_toArray, List.set_cons_zero, List.set_cons_succ]
  refine wpAnyH_take (i := 14) (v := ?_) (ops_at rfl) (by kernel_rfl) (by kernel_rfl) (by kernel_rfl) (fun _ _ _ h => h) (Or.inl ⟨by rfl, ?_⟩) hS ?_
  rotate_left
  · intro _ _; first | (go_simp; done) | (go_simp; with_reducible rfl)
  simp only [Act.put, List.setIfInBounds_toArray, List.set_cons_zero, List.set_cons_succ]
  refine wpAnyH_take (i := 15) (v := ?_) (ops_at rfl) (by kernel_rfl) (by kernel_rfl) (by kernel_rfl) (fun _ _ _ h => h) (Or.inl ⟨by rfl, ?_⟩) hS ?_
  rotate_left
  · intro _ _; first | (go_simp; done) | (go_simp; with_reducible rfl)
  simp only [Act.put, List.setIfInBounds_toArray, List.set_cons_zero, List.set_cons_succ]
  refine wpAnyH_take (i := 16) (v := ?_) (ops_at rfl) (by kernel_rfl) (by kernel_rfl) (by kernel_rfl) (fun _ _ _ h => h) (Or.inl ⟨by rfl, ?_⟩) hS ?_
  rotate_left
  · intro _ _; first | (go_simp; done) | (go_simp; with_reducible rfl)
  simp only [Act.put, List.setIfInBounds_toArray, List.set_cons_zero, List.set_cons_succ]
  refine wpAnyH_done (by kernel_rfl) ?_ _
  refine NoPanic.normal ?_
  clear u1 u2 u3 v1 v2 v3 v4 hS
  rw [HK.out.2]
  have hk9 : k ≤ 16777215 := by have := HK.out.2; omega
  obtain ⟨w2, hw2⟩ : ∃ w2, w2 = (w.alloc (.cells #[.int .i64 0, .string ⟨#[]⟩] 23)).drew := ⟨_, rfl⟩
  have hr2 : w2.heap[w.heap.size]? = some (.cells #[.int .i64 0, .string ⟨#[]⟩] 23 (0, 0)) := by rw [hw2]; exact heap_alloc_new _ _
  have hs2 : w2.heap.size = w.heap.size + 1 := by rw [hw2]; show (w.heap.push _).size = _; simp
  rw [← hw2] at hbD ⊢
  have H2 := Lib.hid (And.intro hbD (And.intro hr2 hs2))
  clear hw2 hbD
  have hz0 : w2.cell? ⟨w.heap.size, 0, none⟩ = some (.int .i64 0) := by rw [cell_of_row w2 _ 0 _ _ (0, 0) hr2]; rfl
  have hz1 : w2.cell? ⟨w.heap.size, 1, none⟩ = some (.string ⟨#[]⟩) := by rw [cell_of_row w2 _ 1 _ _ (0, 0) hr2]; rfl
  have hf0 : w2.frozen? ⟨w.heap.size, 0, none⟩ = false := frozen_of_row w2 _ 0 _ _ hr2
  have hf1 : w2.frozen? ⟨w.heap.size, 1, none⟩ = false := frozen_of_row w2 _ 1 _ _ hr2
  clear hr2 i12 i13 i14 p0 p1 p2 p3 p4 p5
  by_cases h2 : ul < 17 + k
  · have HE := Lib.hid (show R = (0, ⟨#[]⟩, 3) by rw [HR.out]; unfold parseR; rw [if_neg (by have := HX.out.2; omega), if_pos (by have := HX.out.2; have := HK.out.1; omega)])
    have h2' : (ul : Int) < 17 + (k : Int) := by omega
    go_wp2
    exact bodyPost_ret (v := .tuple #[.agg #[.int .i64 0, .string ⟨#[]⟩], .int .i64 3]) (by simp [results, Try.results17, go_sem, hz0, hz1]) rfl (parsePost_of HE.out ((H2.out.1.setCell (p := ⟨w.heap.size, 0, none⟩) (Nat.le_refl _) _).setCell (p := ⟨w.heap.size, 1, none⟩) (Nat.le_refl _) _))
  · have h2' : ¬ (ul : Int) < 17 + (k : Int) := by omega
    obtain ⟨S, hS⟩ : ∃ S, S = textL us := ⟨_, rfl⟩
    have hcv : ∀ W, Below w.heap.size w W → (convert 24 9 (.slice (some ⟨ad.block, ad.off + 15, none⟩) k (c - 15))).run Try.prog W = .ok (.string S) W := fun W hb => by
      have hp := (((HX.out.1.on hb).1.piece (ad := ad) 15 k))
      have hl : ((us.drop 15).take k).length = k := by have := HX.out.2; simp; omega
      have h := conv_in (c := c - 15) hp (fun h => by cases h)
      rw [hl] at h
      rw [hS]
      unfold textL
      rw [← HK.out.1, Int.toNat_natCast]
      exact h
    have hcv2 := hcv w2 H2.out.1
    have HS := Lib.hid hS
    clear hS hcv
    go_upto_region 7 with (fail)
    clear hcv2 h2'
    obtain ⟨w3, hw3⟩ : ∃ w3, w3 = w2.alloc (.cells #[.int .i64 0, .string S] 23) := ⟨_, rfl⟩
    have hr3 : w3.heap[w.heap.size + 1]? = some (.cells #[.int .i64 0, .string S] 23 (0, 0)) := by rw [hw3, ← H2.out.2.2]; exact heap_alloc_new _ _
    have hb3 : Below w.heap.size w w3 := by rw [hw3]; exact H2.out.1.alloc H2.out.1.size _
    have hq3 : w3.heap[w.heap.size]? = some (.cells #[.int .i64 0, .string ⟨#[]⟩] 23 (0, 0)) := by rw [hw3, Below.heap_alloc _ _ _ (by rw [H2.out.2.2]; omega)]; exact H2.out.2.1
    rw [← hw3]
    clear hw3 hz0 hz1 hf0 hf1
    have g2 := HC2.out _ hb3
    have i2 : (2 : Int) < (ul : Int) := by omega
    by_cases h3 : 0 < B2
    · have HE := Lib.hid (show R = (0, ⟨#[]⟩, 4) by
        have e1 := HX.out.2
        have e2 := HK.out.1
        have e3 := HB.out.1
        rw [HR.out]; unfold parseR; rw [if_neg (by omega), if_neg (by omega), if_pos (by rw [← e3]; exact h3)])
      have hz0 : w3.cell? ⟨w.heap.size, 0, none⟩ = some (.int .i64 0) := by rw [cell_of_row w3 _ 0 _ _ (0, 0) hq3]; rfl
      have hz1 : w3.cell? ⟨w.heap.size, 1, none⟩ = some (.string ⟨#[]⟩) := by rw [cell_of_row w3 _ 1 _ _ (0, 0) hq3]; rfl
      have hf0 : w3.frozen? ⟨w.heap.size, 0, none⟩ = false := frozen_of_row w3 _ 0 _ _ hq3
      have hf1 : w3.frozen? ⟨w.heap.size, 1, none⟩ = false := frozen_of_row w3 _ 1 _ _ hq3
      have H3 := Lib.hid hb3
      clear hb3 hr3 hq3
      go_wp2
      exact bodyPost_ret (v := .tuple #[.agg #[.int .i64 0, .string ⟨#[]⟩], .int .i64 4]) (by simp [results, Try.results17, go_sem, hz0, hz1]) rfl (parsePost_of HE.out ((H3.out.setCell (p := ⟨w.heap.size, 0, none⟩) (Nat.le_refl _) _).setCell (p := ⟨w.heap.size, 1, none⟩) (Nat.le_refl _) _))
    · have HN := Lib.hid (show ¬ 0 < us.getD 2 0 by rw [← HB.out.1]; exact h3)
      have H3 := Lib.hid (And.intro hb3 (And.intro hr3 hq3))
      clear hb3 hr3 hq3
      go_wp2_with fail
      clear g2 i2 h3
      go_loopg [6] 7 (fun g i wr => ∃ (m : Nat) (T : Int), m ≤ 7 ∧ g = 7 - m ∧ i = .int .i64 (3 + (m : Int)) ∧ Hid (T = timeL us m) ∧ Below w.heap.size w wr ∧ wr.heap[w.heap.size + 1]? = some (.cells #[.int .i64 T, .string S] 23 (0, 0)) ∧ wr.heap[w.heap.size]? = some (.cells #[.int .i64 0, .string ⟨#[]⟩] 23 (0, 0)))
      case atStart => exact ⟨0, 0, by omega, rfl, rfl, Lib.hid rfl, H3.out.1, H3.out.2.1, H3.out.2.2⟩
      case round =>
        obtain ⟨m, T, hm7, rfl, rfl, hT, hb, hr, hq⟩ := hrel
        by_cases hmi : m < 7
        · have hmz : 3 + (m : Int) < 10 := by omega
          have hbd := timeL_six us HG.out 6 m (by omega)
          rw [← hT.out, show ((256 ^ 6 : Nat) : Int) = 281474976710656 from by decide] at hbd
          obtain ⟨b, hbe⟩ : ∃ b, b = us.getD (3 + m) 0 := ⟨_, rfl⟩
          have hbr := HG.out (3 + m)
          have hbc := HC.out _ hb.drew (3 + m) (by omega)
          rw [← hbe] at hbr hbc
          have hc0 : wr.drew.cell? ⟨w.heap.size + 1, 0, none⟩ = some (.int .i64 T) := by rw [cell_of_row wr.drew _ 0 _ _ (0, 0) hr]; rfl
          have hf0 : wr.drew.frozen? ⟨w.heap.size + 1, 0, none⟩ = false := frozen_of_row wr.drew _ 0 _ _ hr
          obtain ⟨t0, t1⟩ := hbd
          obtain ⟨b0, b1⟩ := hbr
          have e1 : (3 + (m : Int)).toNat = 3 + m := by omega
          have e2 : (0 : Int) ≤ 3 + (m : Int) := by omega
          have e3 : 3 + (m : Int) < (ul : Int) := by omega
          have e4 : IntKind.i64.wrap b = b := IntWalk.i64_in _ (by omega)
          have e5 : IntKind.i64.wrap (256 * T) = 256 * T := IntWalk.i64_in _ (by omega)
          have e6 : IntKind.i64.wrap (256 * T + b) = 256 * T + b := IntWalk.i64_in _ (by omega)
          have hTn : 256 * T + b = timeL us (m + 1) := by rw [timeL, ← hT.out, ← hbe]
          have HQ := Lib.hid (And.intro hb.drew (And.intro (show wr.drew.heap[w.heap.size + 1]? = _ from hr) (And.intro (show wr.drew.heap[w.heap.size]? = _ from hq) hTn)))
          clear hT hb hr hq hTn hbe
          go_wp2_with fail
          go_still_tail 10, (by kernel_rfl)
          change wpList _ _ _ _ _ wr.drew
          generalize wr.drew = w4 at *
          go_wp2
          go_roundg (7 - (m + 1))
          case measure => omega
          case rel =>
            obtain ⟨hb, hr, hq, hTn⟩ := HQ.out
            exact ⟨m + 1, 256 * T + b, by omega, rfl, congrArg (Value.int .i64) (by omega), Lib.hid hTn, hb.setCell (p := ⟨w.heap.size + 1, 0, none⟩) (by show w.heap.size ≤ w.heap.size + 1; omega) _, heap_setCell_same w4 _ 0 _ _ _ hr, (heap_setCell_other w4 _ _ _ (by show w.heap.size ≠ w.heap.size + 1; omega)).trans hq⟩
        · have hmz : ¬ 3 + (m : Int) < 10 := by omega
          obtain rfl : m = 7 := by omega
          have hbd := timeL_six us HG.out 7 7 (by omega)
          rw [← hT.out, show ((256 ^ 7 : Nat) : Int) = 72057594037927936 from by decide] at hbd
          obtain ⟨t0, t1⟩ := hbd
          have hc0 : wr.cell? ⟨w.heap.size + 1, 0, none⟩ = some (.int .i64 T) := by rw [cell_of_row wr _ 0 _ _ (0, 0) hr]; rfl
          have hc1 : wr.cell? ⟨w.heap.size + 1, 1, none⟩ = some (.string S) := by rw [cell_of_row wr _ 1 _ _ (0, 0) hr]; rfl
          have HQ := Lib.hid (And.intro hb (And.intro hr hq))
          clear hb hr hq
          go_wp2_with fail
          go_at_call 12
          refine (may_any T S wr).mono ?_
          rintro e w4 ⟨rfl, hb4⟩
          obtain ⟨hb, hr, hq⟩ := HQ.out
          have hbw : Below w.heap.size w w4 := hb.trans (hb4.mono hb.size)
          have hlt1 : w.heap.size + 1 < wr.heap.size := (Array.getElem?_eq_some_iff.1 hr).1
          have hr4 : w4.heap[w.heap.size + 1]? = some (.cells #[.int .i64 T, .string S] 23 (0, 0)) := (hb4.block _ hlt1).trans hr
          have hq4 : w4.heap[w.heap.size]? = some (.cells #[.int .i64 0, .string ⟨#[]⟩] 23 (0, 0)) := (hb4.block _ (by omega)).trans hq
          clear hb4 hc0 hc1 HQ hb hr hq hlt1
          have hkl : S.size = k := by
            have := HX.out.2
            rw [HS.out]; unfold textL; rw [size_str, ← HK.out.1]; simp; omega
          have HS2 := Lib.hid hkl
          clear hkl
          have hz0 : ∀ W, Below w4.heap.size w4 W → W.cell? ⟨w.heap.size, 0, none⟩ = some (.int .i64 0) := fun W hb => by rw [cell_of_row W _ 0 _ _ (0, 0) ((hb.block _ (Array.getElem?_eq_some_iff.1 hq4).1).trans hq4)]; rfl
          have hz1 : ∀ W, Below w4.heap.size w4 W → W.cell? ⟨w.heap.size, 1, none⟩ = some (.string ⟨#[]⟩) := fun W hb => by rw [cell_of_row W _ 1 _ _ (0, 0) ((hb.block _ (Array.getElem?_eq_some_iff.1 hq4).1).trans hq4)]; rfl
          have hf0 : ∀ W, Below w4.heap.size w4 W → W.frozen? ⟨w.heap.size, 0, none⟩ = false := fun W hb => frozen_of_row W _ 0 _ _ ((hb.block _ (Array.getElem?_eq_some_iff.1 hq4).1).trans hq4)
          have hf1 : ∀ W, Below w4.heap.size w4 W → W.frozen? ⟨w.heap.size, 1, none⟩ = false := fun W hb => frozen_of_row W _ 1 _ _ ((hb.block _ (Array.getElem?_eq_some_iff.1 hq4).1).trans hq4)
          have hl0 : ∀ W, Below w4.heap.size w4 W → W.cell? ⟨w.heap.size + 1, 0, none⟩ = some (.int .i64 T) := fun W hb => by rw [cell_of_row W _ 0 _ _ (0, 0) ((hb.block _ (Array.getElem?_eq_some_iff.1 hr4).1).trans hr4)]; rfl
          have hl1 : ∀ W, Below w4.heap.size w4 W → W.cell? ⟨w.heap.size + 1, 1, none⟩ = some (.string S) := fun W hb => by rw [cell_of_row W _ 1 _ _ (0, 0) ((hb.block _ (Array.getElem?_eq_some_iff.1 hr4).1).trans hr4)]; rfl
          have HZ := Lib.hid (And.intro hz0 (And.intro hz1 (And.intro hf0 hf1)))
          have HL0 := Lib.hid hl0
          have HL1 := Lib.hid hl1
          have HW := Lib.hid hbw
          clear hz0 hz1 hf0 hf1 hl0 hl1 hr4 hq4 hbw
          have hun : parseR us = if mayB T S.size = true ∧ leafL T S = us then (T, S, 0) else (0, ⟨#[]⟩, 4) := by
            have e1 := HX.out.2
            have e2 := HK.out.1
            unfold parseR
            rw [if_neg (by omega), if_neg (by omega), if_neg (by have := HN.out; omega), ← hT.out, ← HS.out]
          cases hMB : mayB T S.size with
          | false =>
            have HE := Lib.hid (show R = (0, ⟨#[]⟩, 4) by rw [HR.out, hun, if_neg (fun h => by rw [hMB] at h; cases h.1)])
            clear hMB hun
            go_wp2_with fail
            go_quiet (fail)
            obtain ⟨w6, hw6⟩ : ∃ w6, w6 = w4.drewN nq := ⟨_, rfl⟩
            rw [← hw6]
            obtain ⟨hz0', hz1', hf0', hf1'⟩ := HZ.out
            have hb6 : Below w4.heap.size w4 w6 := by rw [hw6]; exact below_drewN (Below.refl _ _) _
            have z0 := hz0' _ hb6
            have z1 := hz1' _ hb6
            have f0 := hf0' _ hb6
            have f1 := hf1' _ hb6
            have HF := Lib.hid (HW.out.trans (hb6.mono HW.out.size))
            clear hz0' hz1' hf0' hf1' hb6 hw6
            go_wp2
            exact bodyPost_ret (v := .tuple #[.agg #[.int .i64 0, .string ⟨#[]⟩], .int .i64 4]) (by simp [results, Try.results17, go_sem, z0, z1]) rfl (parsePost_of HE.out ((HF.out.setCell (p := ⟨w.heap.size, 0, none⟩) (Nat.le_refl _) _).setCell (p := ⟨w.heap.size, 1, none⟩) (Nat.le_refl _) _))
          | true =>
            have hmay : 0 ≤ T ∧ T ≤ 1125899906842624 ∧ 1 ≤ S.size ∧ S.size ≤ 1000 := of_decide_eq_true hMB
            obtain ⟨b, hbdef⟩ : ∃ b : Bool, ((strOfNums (leafL T S)).toList == (strOfNums us).toList) = b := ⟨_, rfl⟩
            have hbe : b = true ↔ leafL T S = us := by
              rw [← hbdef, beq_iff_eq]
              exact ⟨fun h => strOfNums_inj (leafL_bytes _ _) HX.out.1.2.1 (toList_inj h), fun h => by rw [h]⟩
            have HBE := Lib.hid hbe
            have hcu : ∀ W, Below w4.heap.size w4 W → (convert 24 9 (.slice (some ad) ul c)).run Try.prog W = .ok (.string (strOfNums us)) W := fun W hb => by
              have h := (HX.out.1.on (HW.out.trans (hb.mono HW.out.size))).conv
              rwa [← HX.out.2] at h
            have HCU := Lib.hid hcu
            have HRL := Lib.hid (fun W => rleaf_any T S W hmay.1 (by omega) (by omega))
            have HD := Lib.hid hbdef
            have HUN := Lib.hid hun
            have HMB := Lib.hid hMB
            clear hMB hun hbe hcu hbdef hmay
            go_wp2_with fail
            refine wp_region_noPanic ?_
            refine wp_region_held_drew (S := fun W' => Below w4.heap.size w4 W') (by kernel_rfl) ((Below.refl _ _).drew) (fun hS => ?_)
            refine wpAnyH_take (i := 0) (v := ?_) (ops_at rfl) (by kernel_rfl) (by kernel_rfl) (by kernel_rfl) (fun _ _ _ h => h) (Or.inl ⟨by rfl, ?_⟩) hS ?_
            rotate_left
            · intro _ _; first | (go_simp; done) | (go_simp; with_reducible rfl)
            simp only [Act.put, List.setIfInBounds_toArray, List.set_cons_zero, List.set_cons_succ]
            refine wpAnyH_take (i := 1) (v := ?_) (ops_at rfl) (by kernel_rfl) (by kernel_rfl) (by kernel_rfl) (fun _ _ _ h => h) (Or.inl ⟨by rfl, ?_⟩) hS ?_
            rotate_left
            · intro _ _; first | (go_simp; done) | (go_simp; with_reducible rfl)
            simp only [Act.put, List.setIfInBounds_toArray, List.set_cons_zero, List.set_cons_succ]
            refine wpAnyH_take (i := 2) (v := ?_) (ops_at rfl) (by kernel_rfl) (by kernel_rfl) (by kernel_rfl) (fun _ _ _ h => h) (Or.inl ⟨by rfl, ?_⟩) hS ?_
            rotate_left
            · intro _ _; first | (go_simp; done) | (go_simp; with_reducible rfl)
            simp only [Act.put, List.setIfInBounds_toArray, List.set_cons_zero, List.set_cons_succ]
            refine wpAnyH_take (i := 3) (v := ?_) (ops_at rfl) (by kernel_rfl) (by kernel_rfl) (by kernel_rfl) (fun _ _ _ h => h) (Or.inl ⟨by rfl, ?_⟩) hS ?_
            rotate_left
            · intro _ hk; have hf0 := HL0.out _ hk; have hf1 := HL1.out _ hk; first | (go_simp; done) | (go_simp; with_reducible rfl)
            simp only [Act.put, List.setIfInBounds_toArray, List.set_cons_zero, List.set_cons_succ]
            refine wpAnyH_take (i := 6) (v := ?_) (ops_at rfl) (by kernel_rfl) (by kernel_rfl) (by kernel_rfl) (fun _ _ _ h => h) (Or.inl ⟨by rfl, ?_⟩) hS ?_
            rotate_left
            · intro _ _; first | (go_simp; done) | (go_simp; with_reducible rfl)
            simp only [Act.put, List.setIfInBounds_toArray, List.set_cons_zero, List.set_cons_succ]
            refine wpAnyH_take (i := 7) (v := ?_) (ops_at rfl) (by kernel_rfl) (by kernel_rfl) (by kernel_rfl) (fun _ _ _ h => h) (Or.inl ⟨by rfl, ?_⟩) hS ?_
            rotate_left
            · intro _ hk; have hf0 := HCU.out _ hk; first | (go_simp; done) | (go_simp; with_reducible rfl)
            simp only [Act.put, List.setIfInBounds_toArray, List.set_cons_zero, List.set_cons_succ]
            refine wpAnyH_ready (rs := [4]) (by kernel_rfl) (by simp) (AllReadyH.cons (ops_at rfl) (fun K hK => ?_) AllReadyH.nil)
            go_simp
            go_at_call 15
            refine (HRL.out _).mono ?_
            rintro e w6 ⟨Y, n6, c6, rfl, hn6, a6⟩
            have N6 := Lib.hid hn6
            clear hn6
            go_wp2_with fail
            refine hK.out _ _ (hS.trans (a6.2.mono hS.size)) (fun hS => ?_)
            clear hK K
            refine held_mono (S' := fun W' => Below w6.heap.size w6 W') (fun _ hk => hS.trans (hk.mono hS.size)) _ _ _ _ ?_
            have hS6 := hS
            clear hS
            have hS := Below.refl w6.heap.size w6
            have HA6 := Lib.hid (show ∀ W, Below w6.heap.size w6 W → (convert 24 9 (.slice Y n6 c6)).run Try.prog W = .ok (.string (strOfNums (leafL T S))) W from fun W hb => (a6.on hb).conv N6.out)
            refine wpAnyH_take (i := 5) (v := ?_) (ops_at rfl) (by kernel_rfl) (by kernel_rfl) (by kernel_rfl) (fun _ _ _ h => h) (Or.inl ⟨by rfl, ?_⟩) hS ?_
            rotate_left
            · intro _ hk; have hf0 := HA6.out _ hk; first | (go_simp; done) | (go_simp; with_reducible rfl)
            simp only [Act.put, List.setIfInBounds_toArray, List.set_cons_zero, List.set_cons_succ]
            refine wpAnyH_take (i := 8) (v := ?_) (ops_at rfl) (by kernel_rfl) (by kernel_rfl) (by kernel_rfl) (fun _ _ _ h => h) (Or.inl ⟨by rfl, ?_⟩) hS ?_
            rotate_left
            · intro _ hk; have hf0 := HD.out; first | (go_simp; done) | (go_simp; with_reducible rfl)
            simp only [Act.put, List.setIfInBounds_toArray, List.set_cons_zero, List.set_cons_succ]
            refine wpAnyH_take (i := 9) (v := ?_) (ops_at rfl) (by kernel_rfl) (by kernel_rfl) (by kernel_rfl) (fun _ _ _ h => h) (Or.inl ⟨by rfl, ?_⟩) hS ?_
            rotate_left
            · intro _ _; first | (go_simp; done) | (go_simp; with_reducible rfl)
            simp only [Act.put, List.setIfInBounds_toArray, List.set_cons_zero, List.set_cons_succ]
            refine wpAnyH_done (by kernel_rfl) ?_ _
            refine NoPanic.normal ?_
            obtain ⟨hz0', hz1', hf0', hf1'⟩ := HZ.out
            have hb6 : Below w4.heap.size w4 w6 := hS6
            have z0 := hz0' _ hb6
            have z1 := hz1' _ hb6
            have f0 := hf0' _ hb6
            have f1 := hf1' _ hb6
            have l0 := HL0.out _ hb6
            have l1 := HL1.out _ hb6
            have HF := Lib.hid (HW.out.trans (hb6.mono HW.out.size))
            clear hz0' hz1' hf0' hf1' hS hS6 a6 hb6
            cases b with
            | true =>
              have HE := Lib.hid (show R = (T, S, 0) by rw [HR.out, HUN.out, if_pos ⟨HMB.out, HBE.out.1 rfl⟩])
              go_wp2
              exact bodyPost_ret (v := .tuple #[.agg #[.int .i64 T, .string S], .int .i64 0]) (by simp [results, Try.results17, go_sem, z0, z1]) rfl (parsePost_of HE.out ((HF.out.setCell (p := ⟨w.heap.size, 0, none⟩) (Nat.le_refl _) _).setCell (p := ⟨w.heap.size, 1, none⟩) (Nat.le_refl _) _))
            | false =>
              have HE := Lib.hid (show R = (0, ⟨#[]⟩, 4) by rw [HR.out, HUN.out, if_neg (fun h => by have := HBE.out.2 h.2; cases this)])
              go_wp2
              exact bodyPost_ret (v := .tuple #[.agg #[.int .i64 0, .string ⟨#[]⟩], .int .i64 4]) (by simp [results, Try.results17, go_sem, z0, z1]) rfl (parsePost_of HE.out ((HF.out.setCell (p := ⟨w.heap.size, 0, none⟩) (Nat.le_refl _) _).setCell (p := ⟨w.heap.size, 1, none⟩) (Nat.le_refl _) _))
end Go.Proofs.Ytjlhnggilmbeaaa
