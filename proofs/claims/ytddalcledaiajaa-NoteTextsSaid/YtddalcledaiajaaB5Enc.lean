/- The program's Encode. -/
import Derived.Test.YtddalcledaiajaaB5Quad
import Derived.Test.YtddalcledaiajaaMRangeLaw
import Derived.Test.YtddalcledaiajaaMChunkStop
import Derived.Test.YtddalcledaiajaaMRound
namespace Go.Proofs.Ytddalcledaiajaa
open Go.RowKit Go.Shelf
attribute [local go_sem] Oper.semAt_some

/-- A row of the call's own lies behind the boxes, or in the block ahead of them. -/
def RowAt (b n : Nat) (v : Value) : Prop := ∀ r, v.ownBlock = some r → r = b ∨ b + n ≤ r
theorem RowAt.grow {b n : Nat} {W W' : World} {v v' : Value} (h : RowAt b n v) (hg : Grow W W' v v') (hs : b + n ≤ W.heap.size) : RowAt b n v' := fun r hr => by
  rcases hg.2 with h2 | ⟨g, h2, h3⟩
  · exact h r (h2 ▸ hr)
  · rw [h2] at hr; cases hr; exact .inr (by omega)
/-- A box holds v. -/
def Box (W : World) (b : Nat) (t : TypeId) (v : Value) : Prop := W.heap[b]? = some (.cells #[v] t (0, 0))
theorem Box.cell {W : World} {b : Nat} {t : TypeId} {v : Value} (h : Box W b t v) : W.cell? ⟨b, 0, none⟩ = some v := by rw [cell_of_row W _ 0 _ _ (0, 0) h]; rfl
theorem Box.frozen {W : World} {b : Nat} {t : TypeId} {v : Value} (h : Box W b t v) : W.frozen? ⟨b, 0, none⟩ = false := frozen_of_row W _ 0 _ _ h
theorem Box.lt {W : World} {b : Nat} {t : TypeId} {v : Value} (h : Box W b t v) : b < W.heap.size := (Array.getElem?_eq_some_iff.1 h).1
theorem Box.kept {W W' : World} {b : Nat} {t : TypeId} {v : Value} {row : Option Nat} (h : Box W b t v) (hg : W.grownBy W' row) (hr : row ≠ some b) : Box W' b t v := (hg.block b h.lt (fun e => hr e.symm)).trans h
theorem Box.set {W : World} {b : Nat} {t : TypeId} {v : Value} (h : Box W b t v) (u : Value) : Box (W.setCell ⟨b, 0, none⟩ u) b t u := heap_setCell_same W b 0 _ _ u h
theorem Box.other {W : World} {b b' : Nat} {t : TypeId} {v : Value} (h : Box W b t v) (hne : b ≠ b') (u : Value) : Box (W.setCell ⟨b', 0, none⟩ u) b t v := (heap_setCell_other _ _ b _ hne).trans h
theorem Box.putObj {W : World} {b D : Nat} {t : TypeId} {v : Value} {o : Obj} (h : Box W b t v) (hne : b ≠ D) : Box (W.putObj D o) b t v := (World.putObj_heap_other hne).trans h
/-- A row of bytes grows, the rest is kept. -/
theorem Grow.others {W W' : World} {B n : Nat} {v v' : Value} {xs : List Value} (h : Grow W W' v v') (ho : W.ownsRow B 5 1 v n xs) : KeepsOthers W W' := KeepsOthers.of_grownBy h.1 (fun r o e hc => by
  obtain ⟨_, ⟨hv, _⟩ | ⟨g', cap', cur, hv, _, hb', _⟩⟩ := ho
  · rw [hv] at e; simp [Value.ownBlock] at e
  · rw [hv] at e
    simp [Value.ownBlock] at e
    subst e
    rw [hb'] at hc
    cases hc
    rfl)
theorem own_kept {W W' : World} {B n : Nat} {v : Value} {xs : List Value} {row : Option Nat} (h : W.ownsRow B 5 1 v n xs) (hg : W.grownBy W' row) (hr : ∀ r, row = some r → ∃ o : Obj, W.heap[r]? = some o ∧ o.isCells = false) : W'.ownsRow B 5 1 v n xs := by
  refine h.kept hg ?_
  cases hv : v.ownBlock with
  | none => exact .inl rfl
  | some g =>
    refine .inr fun e => ?_
    obtain ⟨o, ho, hc⟩ := hr g e.symm
    obtain ⟨_, ⟨rfl, _⟩ | ⟨g', cap, cur, rfl, _, hb, _⟩⟩ := h
    · simp [Value.ownBlock] at hv
    · simp [Value.ownBlock] at hv
      subst hv
      rw [hb] at ho
      cases ho
      cases hc
/-- The bytes of a chunk. -/
theorem chunk_in {w W : World} {ad : Addr} {us : List Int} (hX : InS w w.heap.size (some ad) us) (hb : Below w.heap.size w W) (j t : Nat) : InS W w.heap.size (some (ad.add j)) ((us.drop j).take t) :=
  (hX.piece j t).on hb

/-- Between two rounds: j bytes are told. -/
def EncI (w : World) (X : Option Addr) (c : Nat) (us : List Int) (j : Nat) (W : World) : Prop :=
  ∃ v m, Box W (w.heap.size + 1) 32 v ∧ m = (enc3 (us.take j)).length ∧ W.ownsRow w.heap.size 5 1 v m ((enc3 (us.take j)).map (Value.int .u8)) ∧ RowAt w.heap.size 4 v ∧
    Box W (w.heap.size + 2) 32 (.slice X us.length c) ∧ Box W (w.heap.size + 3) 3 (.int .i64 3) ∧ Below w.heap.size w W ∧ w.heap.size + 4 ≤ W.heap.size
theorem EncI.drew {w W : World} {X : Option Addr} {c j : Nat} {us : List Int} (h : EncI w X c us j W) : EncI w X c us j W.drew := by
  obtain ⟨v, m, h1, h2, h3, h4, h5, h6, h7, h8⟩ := h
  exact ⟨v, m, h1, h2, h3, h4, h5, h6, h7.drew, h8⟩
theorem EncI.kept {w W W' : World} {X : Option Addr} {c j : Nat} {us : List Int} {row : Option Nat} (h : EncI w X c us j W) (hg : W.grownBy W' row) (hr : ∀ r, row = some r → w.heap.size + 4 ≤ r ∧ ∃ o : Obj, W.heap[r]? = some o ∧ o.isCells = false) : EncI w X c us j W' := by
  obtain ⟨v, m, h1, h2, h3, h4, h5, h6, h7, h8⟩ := h
  refine ⟨v, m, h1.kept hg (fun e => by have := (hr _ e).1; omega), h2, own_kept h3 hg (fun r e => (hr r e).2), h4, h5.kept hg (fun e => by have := (hr _ e).1; omega), h6.kept hg (fun e => by have := (hr _ e).1; omega), h7.grown hg (by omega) (fun k e => by have := (hr k e).1; omega), Nat.le_trans h8 hg.size⟩

set_option maxHeartbeats 1000000 in
set_option maxRecDepth 100000 in
theorem enc_any (X : Option Addr) (c : Nat) (us : List Int) (w : World) (hX : InS w w.heap.size X us) (hus : ∀ e ∈ us, 0 ≤ e ∧ e < 256) (hm : us.length ≤ 1000) (hc : us.length ≤ c) (hcm : c ≤ maxLen) (hnil : X = none → c = 0) :
    Calls Try.prog 16 #[.slice X us.length c] w (TextPost w (enc3 us)) := by
  refine (callsIn_wide (n := 7)).1 ?_
  refine callsIn_of_wp_marks Try.func16 rfl trivial ?_ rfl
  simp only [Try.ntmps16, List.size_toArray, List.length_cons, List.length_nil, Nat.reduceAdd, Nat.reduceSub, Array.replicate_succ, Array.replicate_zero, List.push_toArray, List.append_toArray, List.nil_append, List.cons_append]
  obtain ⟨K, hK⟩ : ∃ K, K = (us.length + 2) / 3 * 4 := ⟨_, rfl⟩
  have hmk := make0 K (by omega)
  rw [show (K : Int) = ((us.length : Nat) + 3 - 1 : Int) / 3 * 4 by omega] at hmk
  have HH := Lib.hid (And.intro hX (And.intro hus (And.intro hm (And.intro hc (And.intro hcm (And.intro hnil hK))))))
  have hm' := hm
  clear hX hus hm hc hcm hnil hK
  gi_wp2_with (first | (refine ⟨trivial, ?_⟩; gi_at_call 33; refine (callsIn_wide.2 (chunk_any _ _ _ 3 (by decide) (by decide) _)).mono ?_; rintro e w' ⟨rfl, rfl⟩) | (gi_at_call 33; refine (callsIn_wide.2 (chunk_any _ _ _ 3 (by decide) (by decide) _)).mono ?_; rintro e w' ⟨rfl, rfl⟩))
  obtain ⟨Ws, hWs⟩ : ∃ Ws, Ws = ((((w.alloc (.cells (madeCells #[.int .u8 0] K) 5)).alloc (.cells #[.slice (some ⟨w.heap.size, 0, none⟩) 0 K] 32)).alloc (.cells #[.slice X us.length c] 32)).alloc (.cells #[.int .i64 3] 3)) := ⟨_, rfl⟩
  have hsz : Ws.heap.size = w.heap.size + 4 := by rw [hWs]; simp
  have h0 : EncI w X c us 0 Ws := by
    rw [hWs]
    have hK := HH.out.2.2.2.2.2.2
    obtain ⟨W1, hW1⟩ : ∃ W1, W1 = w.alloc (.cells (madeCells #[.int .u8 0] K) 5) := ⟨_, rfl⟩
    have s1 : W1.heap.size = w.heap.size + 1 := by rw [hW1]; simp
    have o1 : W1.ownsRow w.heap.size 5 1 (.slice (some ⟨w.heap.size, 0, none⟩) 0 K) 0 [] := by rw [hW1]; exact own0 K w.heap.size (by omega) w (Nat.le_refl _)
    have b1 : Below w.heap.size w W1 := by rw [hW1]; exact (Below.refl _ _).alloc (Nat.le_refl _) _
    rw [← hW1]
    obtain ⟨W2, hW2⟩ : ∃ W2, W2 = W1.alloc (.cells #[.slice (some ⟨w.heap.size, 0, none⟩) 0 K] 32) := ⟨_, rfl⟩
    have s2 : W2.heap.size = w.heap.size + 2 := by rw [hW2]; simp; omega
    obtain ⟨W3, hW3⟩ : ∃ W3, W3 = W2.alloc (.cells #[.slice X us.length c] 32) := ⟨_, rfl⟩
    have s3 : W3.heap.size = w.heap.size + 3 := by rw [hW3]; simp; omega
    have b2 : Below w.heap.size w W2 := by rw [hW2]; exact b1.alloc (by omega) _
    have b3 : Below w.heap.size w W3 := by rw [hW3]; exact b2.alloc (by omega) _
    rw [← hW2, ← hW3]
    refine ⟨.slice (some ⟨w.heap.size, 0, none⟩) 0 K, 0, ?_, by simp [enc3], ?_, fun r hr => .inl (by cases hr; rfl), ?_, ?_, b3.alloc (by omega) _, by simp; omega⟩
    · show (W3.alloc _).heap[_]? = _
      rw [Below.heap_alloc _ _ _ (by omega), hW3, Below.heap_alloc _ _ _ (by omega), hW2, ← s1]; exact heap_alloc_new _ _
    · rw [hW3, hW2]; exact ((o1.alloc _).alloc _).alloc _
    · show (W3.alloc _).heap[_]? = _
      rw [Below.heap_alloc _ _ _ (by omega), hW3, ← s2]; exact heap_alloc_new _ _
    · show (W3.alloc _).heap[_]? = _
      rw [← s3]; exact heap_alloc_new _ _
  rw [← hWs]
  clear hWs hmk
  have kept : ∀ j W W' row, EncI w X c us j W → W.grownBy W' row → (∀ r, row = some r → Ws.heap.size ≤ r ∧ ∃ o : Obj, W.heap[r]? = some o ∧ o.isCells = false) → EncI w X c us j W' := fun j W W' row h hg hr => h.kept hg (fun r e => by have := hr r e; rw [hsz] at this; exact this)
  refine wpIn_rangeFunc_cells (β := Nat) rfl (by omega) (gf := 49) (lb := #[.pointer (some ⟨w.heap.size + 1 + 1, 0, none⟩), .pointer (some ⟨w.heap.size + 1 + 1 + 1, 0, none⟩)]) rfl trivial (enters_of Try.func49 (by kernel_rfl) rfl)
    (encs := fun j => #[.slice (some ((X.getD ⟨0, 0, none⟩).add j)) (min 3 (us.length - j)) (min 3 (us.length - j))])
    (I0 := fun W => EncI w X c us 0 W)
    (I := fun j W => EncI w X c us j W ∧ j < us.length ∧ j % 3 = 0)
    (I' := fun j W => EncI w X c us (j + min 3 (us.length - j)) W)
    (Fin := fun W => EncI w X c us us.length W)
    (fun l B W hB hY hi hb => (chunk_iter l (w.heap.size + 1 + 1) (w.heap.size + 1 + 1 + 1) 3 us.length c X (by omega) (by omega) (by have := HH.out.2.2.1; omega) HH.out.2.2.2.1 (fun hp => by obtain ⟨a, ha, _⟩ := HH.out.1 hp; exact ⟨a, ha⟩)
      (fun j W => EncI w X c us j W ∧ (j % 3 = 0 ∨ j = us.length)) (fun j W h => by obtain ⟨⟨v, m, h1, h2, h3, h4, h5, h6, h7, h8⟩, _⟩ := h; exact h5.cell) (fun j W h => by obtain ⟨⟨v, m, h1, h2, h3, h4, h5, h6, h7, h8⟩, _⟩ := h; exact h6.cell) (fun j W h => ⟨h.1.drew, h.2⟩) B hB
      (fun ad j W1 hX hj h1 h2 => by
        obtain ⟨fn, tmps, assign, body, hy, hR⟩ := hY j W1 ⟨h1.1, hj, by omega⟩ h2
        rw [hX] at hy
        exact ⟨fn, tmps, assign, body, hy, hR.mono (fun e W' h => ⟨h.1, ⟨h.2.1, by omega⟩, h.2.2⟩)⟩) W ⟨hi, .inl rfl⟩ hb).mono fun e W' h => ⟨h.1, h.2.1.1, h.2.2⟩)
    (fun _ => rfl) (fun _ W W' row h hg hr => kept _ _ _ _ h hg hr) (fun s W W' row h hg hr => ⟨kept _ _ _ _ h.1 hg hr, h.2⟩) (fun s W W' row h hg hr => kept _ _ _ _ h hg hr) (fun _ W W' row h hg hr => kept _ _ _ _ h hg hr) h0
    (fun j => { tmps := #[.slice X us.length c, undef, .string ⟨#[]⟩, .pointer (some ⟨w.heap.size + 1, 0, none⟩), .slice (some ((X.getD ⟨0, 0, none⟩).add j)) (min 3 (us.length - j)) (min 3 (us.length - j)), .slice X us.length c,
      .int .i64 (us.length : Int), .int .i64 ((us.length : Int) + 3), .int .i64 ((us.length : Int) + 3 - 1), .int .i64 (((us.length : Int) + 3 - 1) / 3), .int .i64 (((us.length : Int) + 3 - 1) / 3 * 4), .slice (some ⟨w.heap.size, 0, none⟩) 0 K, .slice X us.length c,
      .func (.func 49) #[] #[.pointer (some ⟨w.heap.size + 1 + 1, 0, none⟩), .pointer (some ⟨w.heap.size + 1 + 1 + 1, 0, none⟩)], .slice (some ((X.getD ⟨0, 0, none⟩).add j)) (min 3 (us.length - j)) (min 3 (us.length - j)), undef, undef, undef, undef, undef], defers := [] }) ?assign ?body ?done
  case assign =>
    intro l x W K hK
    gi_wp2
    exact hK
  case body =>
    rintro l j W ⟨hI, hj, hj3⟩
    obtain ⟨hX, hus, hm, hc, hcm, hnil, hK⟩ := HH.out
    obtain ⟨ad, rfl, hadb, hadc⟩ := hX (by omega)
    obtain ⟨v, m, h1, h2, h3, h4, h5, h6, h7, h8⟩ := hI
    obtain ⟨t, ht⟩ : ∃ t, t = min 3 (us.length - j) := ⟨_, rfl⟩
    obtain ⟨gs, hgs⟩ : ∃ gs, gs = (us.drop j).take t := ⟨_, rfl⟩
    have hgl : gs.length = t := by rw [hgs]; simp; omega
    have hcA := h1.cell
    obtain ⟨Y, cy, rfl, -, -, -⟩ := own_slice h3
    have hQ := quad_any Y cy m w.heap.size (enc3 (us.take j)) (some (ad.add j)) t w.heap.size gs W (by rw [hgs]; exact chunk_in HH.out.1 h7 j t) (fun e he => hus e (by rw [hgs] at he; exact List.mem_of_mem_drop (List.mem_of_mem_take he))) (by omega) (by omega) h3 (by omega) (by rw [h2, enc3_length]; simp; omega)
    rw [hgl] at hQ
    have HQ := Lib.hid hQ
    have HE := Lib.hid (show ∀ W2 Y' n' c', n' = (enc3 (us.take j) ++ enc3 gs).length → W2.ownsRow w.heap.size 5 1 (.slice Y' n' c') n' ((enc3 (us.take j) ++ enc3 gs).map (Value.int .u8)) → Grow W W2 (.slice Y m cy) (.slice Y' n' c') →
        Box W2 (w.heap.size + 1) 32 (.slice Y m cy) ∧ KeepsOthers W (W2.setCell ⟨w.heap.size + 1, 0, none⟩ (.slice Y' n' c')) ∧ EncI w (some ad) c us (j + min 3 (us.length - j)) (W2.setCell ⟨w.heap.size + 1, 0, none⟩ (.slice Y' n' c')) from fun W2 Y' n' c' hn ho hg => by
      rw [← ht]
      have hne : ∀ k, 1 ≤ k → k < 4 → (Value.slice Y m cy).ownBlock ≠ some (w.heap.size + k) := fun k hk hk4 e => by rcases h4 _ e with h | h <;> omega
      have h4' := h4.grow hg h8
      have hs := hg.size
      have hb1 := h1.kept hg.1 (hne 1 (by omega) (by omega))
      have ht3 : us.take (j + t) = us.take j ++ gs := by rw [hgs, List.take_add]
      have he3 : enc3 (us.take (j + t)) = enc3 (us.take j) ++ enc3 gs := by rw [ht3]; exact enc3_app _ _ (by simp; omega)
      refine ⟨hb1, (hg.others h3).trans (KeepsOthers.setCell _ _ _), .slice Y' n' c', n', hb1.set _, by rw [he3]; exact hn, ?_, h4', (h5.kept hg.1 (hne 2 (by omega) (by omega))).other (by omega) _, (h6.kept hg.1 (hne 3 (by omega) (by omega))).other (by omega) _, ?_, by rw [size_setCell']; omega⟩
      · rw [he3]
        refine ho.kept (row := some (w.heap.size + 1)) (grownBy_setCell' W2 (w.heap.size + 1) _) ?_
        cases hv : (Value.slice Y' n' c').ownBlock with
        | none => exact .inl rfl
        | some g => exact .inr fun e => by cases e; rcases h4' _ hv with h | h <;> omega
      · refine Below.setCell (p := ⟨w.heap.size + 1, 0, none⟩) ?_ (by show w.heap.size ≤ w.heap.size + 1; omega) _
        exact h7.grown hg.1 (by omega) (fun k hk => by rcases h4 _ hk with h | h <;> omega))
    clear kept h0 h1 h2 h3 h4 h5 h6 h7 h8 hX hus hadb hadc hnil hcm hc hgs hgl hQ hK
    gi_wp2_with (first | (refine ⟨trivial, ?_⟩; gi_at_call 34; rw [← ht]; refine (callsIn_wide.2 HQ.out).mono ?_; rintro e W2 ⟨Y', n', c', rfl, hn, ho, hg⟩; obtain ⟨hE1, hE2, hE3⟩ := HE.out W2 Y' n' c' hn ho hg; have hE1c := hE1.cell; have hE1f := hE1.frozen; have HF := Lib.hid (And.intro hE2 hE3); clear hE1 hE2 hE3 hn ho hg) | (gi_at_call 34; rw [← ht]; refine (callsIn_wide.2 HQ.out).mono ?_; rintro e W2 ⟨Y', n', c', rfl, hn, ho, hg⟩; obtain ⟨hE1, hE2, hE3⟩ := HE.out W2 Y' n' c' hn ho hg; have hE1c := hE1.cell; have hE1f := hE1.frozen; have HF := Lib.hid (And.intro hE2 hE3); clear hE1 hE2 hE3 hn ho hg))
    exact HF.out
  case done =>
    rintro D' W hD hI hdef
    have HI := Lib.hid hI
    obtain ⟨v, m, h1, h2, h3, h4, h5, h6, h7, h8⟩ := hI
    have hc := h1.cell
    obtain ⟨Y, cy, rfl, -, -, -⟩ := own_slice h3
    have hcv := conv_own h3
    rw [List.take_of_length_le (Nat.le_refl _)] at hcv
    clear h1 h2 h3 h4 h5 h6 h7 h8 kept h0
    gi_wp2
    refine ⟨by simp, .inl ⟨_, _, rfl, run_takeDeferred hdef, ?_⟩⟩
    obtain ⟨v, m, h1, h2, h3, h4, h5, h6, h7, h8⟩ := HI.out
    exact ⟨_, results_tmp rfl _ _ _, rfl, h7.trans (belowK_b (w := w) (Nat.le_refl _) W D' _ _ (by omega) hdef rfl rfl)⟩
end Go.Proofs.Ytddalcledaiajaa
