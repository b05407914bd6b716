/- The program's Node. The program's Node. -/
import Derived.Test.YtianflcfjaddlaaDoorMP9Bits
import Derived.Test.YtianflcfjaddlaaDoorMRangeLawB
import Derived.RangeFuncBox
namespace Go.Proofs.YtianflcfjaddlaaDoor
open Go.RowKit Go.Shelf
attribute [local go_sem] Oper.semAt_some

theorem conv_piece {W : World} {X : Option Addr} {c : Nat} {ad : Addr} {ds : List Int} (h : BytesIn W X c ds) (hX : X = some ad) (k n c' : Nat) (hk : k + n ≤ ds.length) :
    (convert 22 9 (.slice (some (ad.add k)) n c')).run Tryd.prog W = .ok (.string (strOfNums ((ds.drop k).take n))) W := by
  subst hX
  have h1 := conv_in (c := c') (h.1.piece k n) (fun e => by cases e)
  rwa [show ((ds.drop k).take n).length = n by rw [List.length_take, List.length_drop]; omega] at h1
theorem BytesIn.piece {W : World} {ad : Addr} {c : Nat} {ds : List Int} (h : BytesIn W (some ad) c ds) (k n : Nat) (hk : k + n ≤ ds.length) : BytesIn W (some (ad.add k)) (c - k) ((ds.drop k).take n) :=
  ⟨h.1.piece k n, u8_take (u8_drop h.2.1), by have := h.2.2.1; rw [List.length_take, List.length_drop]; omega, by have := h.2.2.2.1; omega, fun e => by cases e⟩
/-- A range that holds something needs two blocks of cells. -/
theorem RangeJ.few {J : JSpec} {W : World} {B : Nat → Prop} {r : Addr} {l : List ByteArray} (h : RangeJ J W B r l) (h0 : J.peaks l ≠ []) : ∃ B', RangeJ J W B' r l ∧ ∀ q, B' q → B q ∧ ∃ cs t fr, W.heap[q]? = some (.cells cs t fr) := by
  obtain ⟨g, Y, n, c, h1, h2, h3, h4, h5, h6, h7, h8, h9⟩ := h
  refine ⟨fun q => q = g ∨ ∃ a, Y = some a ∧ q = a.block, ⟨g, Y, n, c, h1, .inl rfl, h3, h4, h5, h6, h7, h8, fun a ha => ⟨.inr ⟨a, ha, rfl⟩, (h9 a ha).2⟩⟩, ?_⟩
  rintro q (rfl | ⟨a, ha, rfl⟩)
  · exact ⟨h2, _, _, _, h3⟩
  · refine ⟨(h9 a ha).1, ?_⟩
    obtain ⟨x, xs, hx⟩ := List.exists_cons_of_ne_nil h0
    obtain ⟨ad, had, hlt, hc⟩ := h8 0 x (by rw [hx]; rfl)
    rw [ha] at had
    cases had
    unfold World.cell? at hc
    have e : (a.add 0).block = a.block := addr_add_block _ _
    rw [e] at hc
    split at hc
    · rename_i cs t fr hh
      exact ⟨_, _, _, hh⟩
    · cases hc
theorem peaks_some (l : List ByteArray) (h : l ≠ []) : hashJ.peaks l ≠ [] := by
  cases l with
  | nil => exact absurd rfl h
  | cons a t =>
    obtain ⟨k, hk⟩ := top_exists (a :: t).length (by simp)
    unfold JSpec.peaks
    rw [peaksOf_cons _ _ hk]
    simp
/-- Between two rounds: i hashes are in the range. -/
def NodeI (w0 : World) (N b D E : Nat) (X : Option Addr) (n c : Nat) (r : Addr) (L : List ByteArray) (i : Nat) (W : World) : Prop :=
  ∃ B, RangeJ hashJ W B r (L.take i) ∧ (∀ q, B q → w0.heap.size ≤ q ∧ q < W.heap.size ∧ q ≠ b ∧ q ≠ D ∧ q ≠ E ∧ (N ≤ q → ∃ cs t fr, W.heap[q]? = some (.cells cs t fr))) ∧ Below w0.heap.size w0 W ∧ N ≤ W.heap.size ∧
    Boxed W b 43 (.pointer (some r)) ∧ Boxed W D 22 (.slice X n c) ∧ Boxed W E 3 (.int .i64 32)
section
variable {w0 W W' : World} {N b D E n c i : Nat} {X : Option Addr} {r : Addr} {L : List ByteArray}
theorem NodeI.drew (h : NodeI w0 N b D E X n c r L i W) : NodeI w0 N b D E X n c r L i W.drew := by
  obtain ⟨B, h1, h2, h3, h4, h5, h6, h7⟩ := h
  exact ⟨B, h1.kept fun q k => ⟨k, rfl⟩, h2, h3.drew, h4, h5, h6, h7⟩
theorem NodeI.kept {row : Option Nat} (hN : w0.heap.size ≤ N) (hb : b < N) (hD : D < N) (hE : E < N) (h : NodeI w0 N b D E X n c r L i W) (hg : W.grownBy W' row) (hr : ∀ q, row = some q → N ≤ q ∧ ∃ o : Obj, W.heap[q]? = some o ∧ o.isCells = false) : NodeI w0 N b D E X n c r L i W' := by
  obtain ⟨B, h1, h2, h3, h4, h5, h6, h7⟩ := h
  have hne : ∀ q, B q → some q ≠ row := fun q hq e => by
    obtain ⟨k1, o, k2, k3⟩ := hr q e.symm
    obtain ⟨cs, t, fr, k4⟩ := (h2 q hq).2.2.2.2.2 k1
    rw [k4] at k2
    cases k2
    cases k3
  have hbl : ∀ q, B q → W'.heap[q]? = W.heap[q]? := fun q hq => hg.block q (h2 q hq).2.1 (hne q hq)
  refine ⟨B, h1.kept fun q k => ⟨k, hbl q k⟩, fun q hq => ?_, h3.grown hg (by omega) (fun k e => by have := (hr k e).1; omega), Nat.le_trans h4 hg.size, h5.kept hg (fun e => by have := (hr _ e.symm).1; omega), h6.kept hg (fun e => by have := (hr _ e.symm).1; omega), h7.kept hg (fun e => by have := (hr _ e.symm).1; omega)⟩
  obtain ⟨k1, k2, k3, k4, k5, k6⟩ := h2 q hq
  exact ⟨k1, Nat.lt_of_lt_of_le k2 hg.size, k3, k4, k5, fun h => by rw [hbl q hq]; exact k6 h⟩
theorem NodeI.add (hT : TabsH w0) (_ : w0.heap.size ≤ N) (hb : b < N) (hD : D < N) (hE : E < N) (h : NodeI w0 N b D E X n c r L i W) (s : ByteArray) (hs : L[i]? = some s) (hl : ∀ x ∈ L, x.size ≤ 400) (hi : i ≤ 1000) :
    Calls Tryd.prog 17 #[.pointer (some r), .string s] W (fun e w' => e = .returned (.tuple #[]) ∧ KeepsFrom N W w' ∧ NodeI w0 N b D E X n c r L (i + 1) w') := by
  obtain ⟨B, h1, h2, h3, h4, h5, h6, h7⟩ := h
  have hlen : (L.take i).length ≤ 1000 := by rw [List.length_take]; omega
  have ht : L.take (i + 1) = L.take i ++ [s] := by rw [List.take_add_one, hs]; rfl
  refine (addJ_any hashJ r (L.take i) s B W (hT.on h3) h1 (fun q hq => (h2 q hq).2.1) hlen (okAdd_hash (fun x hx => hl x (List.mem_of_mem_take hx)) (hl s (List.mem_of_getElem? hs)))).mono ?_
  rintro e w' ⟨he, hr, hu⟩
  have hsz : W.heap.size ≤ w'.heap.size := hu.2.2.2.1
  have hout : ∀ q, q < W.heap.size → ¬ B q → w'.heap[q]? = W.heap[q]? := hu.2.2.2.2
  obtain ⟨B', hr', hB'⟩ := hr.few (by exact peaks_some _ (by simp))
  rw [← ht] at hr'
  have box : ∀ {q : Nat} {t : TypeId} {v : Value}, q < N → ¬ B q → Boxed W q t v → Boxed w' q t v := fun hq hn hx => (hout _ (by omega) hn).trans hx
  refine ⟨he, ⟨hsz, fun k o hk ho hc => ?_⟩, B', hr', fun q hq => ?_, hu.below h3 (fun q hq => (h2 q hq).1), by omega, box hb (fun k => (h2 _ k).2.2.1 rfl) h5, box hD (fun k => (h2 _ k).2.2.2.1 rfl) h6, box hE (fun k => (h2 _ k).2.2.2.2.1 rfl) h7⟩
  · refine (hout k (Array.getElem?_eq_some_iff.1 ho).1 fun hq => ?_).trans ho
    obtain ⟨cs, t, fr, k4⟩ := (h2 k hq).2.2.2.2.2 hk
    rw [k4] at ho
    cases ho
    cases hc
  · obtain ⟨hq1, hq2⟩ := hB' q hq
    obtain ⟨cs, t, fr, hq3⟩ := hq2
    have hlt : q < w'.heap.size := (Array.getElem?_eq_some_iff.1 hq3).1
    rcases hq1 with k | k
    · obtain ⟨k1, k2, k3, k4, k5, k6⟩ := h2 q k
      exact ⟨k1, hlt, k3, k4, k5, fun _ => ⟨cs, t, fr, hq3⟩⟩
    · have k1 := k.1
      have := h3.size
      exact ⟨by omega, hlt, by omega, by omega, by omega, fun _ => ⟨cs, t, fr, hq3⟩⟩
theorem NodeI.top (hT : TabsH w0) (h : NodeI w0 N b D E X n c r L i W) (hi : L.length ≤ i) (hl : ∀ x ∈ L, x.size ≤ 400) (h0 : L ≠ []) (hlen : L.length ≤ 1001) :
    Calls Tryd.prog 18 #[.pointer (some r)] W (fun e w' => e = .returned (.tuple #[.string (rootB L), .bool true]) ∧ Below w0.heap.size w0 w' ∧ Below W.heap.size W w') := by
  obtain ⟨B, h1, h2, h3, h4, h5, h6, h7⟩ := h
  rw [List.take_of_length_le hi] at h1
  have hne : L.length ≠ 0 := fun e => h0 (List.length_eq_zero_iff.1 e)
  refine (topJ_any hashJ r L B W (hT.on h3) h1 (by omega) (okTop_hash hl)).mono ?_
  rintro e w' ⟨he, hb⟩
  rw [decide_eq_true hne, hashJ_tree hne] at he
  exact ⟨he, h3.trans (hb.mono h3.size), hb⟩
end
end Go.Proofs.YtianflcfjaddlaaDoor
namespace Go.Proofs.YtianflcfjaddlaaDoor
open Go.RowKit Go.Shelf
attribute [local go_sem] Oper.semAt_some

set_option maxHeartbeats 2000000 in
set_option maxRecDepth 100000 in
theorem node_short (X : Option Addr) (c n : Nat) (f m : Int) (w : World) (hn : n ≤ 1280) (hf : I63 f) (h : okH f m) (hs : ¬ f + m ≤ ((n / 32 : Nat) : Int)) :
    Calls Tryd.prog 5 #[.slice X n c, .int .i64 f, .int .i64 m] w (fun e w' => e = .returned (.tuple #[.string ⟨#[]⟩, .int .i64 3]) ∧ w = w') := by
  obtain ⟨hf1, hf2⟩ := hf
  obtain ⟨h1, h2, h3⟩ := h
  obtain ⟨r1, r2⟩ := powH_range h1
  have Q1 := Lib.hid (decide_eq_true (show 1 ≤ m ∧ m ≤ 256 from ⟨r1, r2⟩))
  obtain ⟨M, rfl⟩ : ∃ M : Nat, m = (M : Int) := ⟨m.toNat, by omega⟩
  have hM1 : 1 ≤ M := by omega
  have hM2 : M ≤ 256 := by omega
  have HO := Lib.hid (fun W => ones_any M hM2 W)
  have hr : (f % (M : Int) != 0) = false := by rw [h3]; rfl
  have hd : (n : Int) / 32 - (M : Int) < f := by omega
  have Q2 := Lib.hid h1
  clear h1 h3 hs
  go_enter Tryd.func5, Tryd.ntmps5
  go_wp2_with (first | (go_at_call 13; refine (within_p _ _ _ _).mono ?_; rintro e w1 ⟨rfl, rfl⟩; rw [Q1.out]) | (go_at_call 14; refine (HO.out _).mono ?_; rintro e w1 ⟨⟨k, rfl, hk⟩, rfl⟩; obtain rfl := hk.2 Q2.out; clear hk))
  go_ret2
  exact ⟨rfl, rfl⟩

set_option maxHeartbeats 2000000 in
set_option maxRecDepth 100000 in
theorem node_ok (ad : Addr) (c n : Nat) (ds : List Int) (f m : Int) (w : World) (hT : TabsH w) (hX : BytesIn w (some ad) c ds) (hn : n = ds.length) (hl : n ≤ 1280) (h : okH f m) (hs : f + m ≤ ((n / 32 : Nat) : Int)) :
    Calls Tryd.prog 5 #[.slice (some ad) n c, .int .i64 f, .int .i64 m] w (fun e w' => e = .returned (.tuple #[.string (rootB (((rowD ds).drop f.toNat).take m.toNat)), .int .i64 0]) ∧ Below w.heap.size w w') := by
  obtain ⟨h1, h2, h3⟩ := h
  obtain ⟨r1, r2⟩ := powH_range h1
  have Q1 := Lib.hid (decide_eq_true (show 1 ≤ m ∧ m ≤ 256 from ⟨r1, r2⟩))
  obtain ⟨M, rfl⟩ : ∃ M : Nat, m = (M : Int) := ⟨m.toNat, by omega⟩
  obtain ⟨F, rfl⟩ : ∃ F : Nat, f = (F : Int) := ⟨f.toNat, by omega⟩
  have hM1 : 1 ≤ M := by omega
  have hM2 : M ≤ 256 := by omega
  have HO := Lib.hid (fun W => ones_any M hM2 W)
  have hr : ((F : Int) % (M : Int) != 0) = false := by rw [h3]; rfl
  have hd : ¬ (n : Int) / 32 - (M : Int) < (F : Int) := by omega
  have Q2 := Lib.hid h1
  have hfm : F + M ≤ n / 32 := by omega
  obtain ⟨L, hL⟩ : ∃ L, L = ((rowD ds).drop F).take M := ⟨_, rfl⟩
  have hLl : L.length = M := by rw [hL, List.length_take, List.length_drop, rowD_len, ← hn]; omega
  have hL32 : ∀ s ∈ L, s.size = 32 := fun s hs => by rw [hL] at hs; exact rowD_32 ds s (List.mem_of_mem_drop (List.mem_of_mem_take hs))
  obtain ⟨us, hus⟩ : ∃ us, us = (ds.drop (32 * F)).take (32 * M) := ⟨_, rfl⟩
  have hul : us.length = M * 32 := by rw [hus, List.length_take, List.length_drop]; omega
  have hLu : L = rowD us := by rw [hL, hus]; exact (rowD_piece (by rw [← hn]; exact hfm)).symm
  have hin : BytesIn w (some (ad.add (F * 32))) (c - F * 32) us := by rw [hus, Nat.mul_comm F 32]; exact hX.piece (32 * F) (32 * M) (by omega)
  have hnc : n ≤ c := by rw [hn]; exact hX.2.2.1
  have hcm : c ≤ 9223372036854775807 := hX.2.2.2.1
  rw [Int.toNat_natCast, Int.toNat_natCast, ← hL]
  have HH := Lib.hid (And.intro hT (And.intro hin (And.intro hul (And.intro hLu (And.intro hLl hL32)))))
  have HN := Lib.hid (hashes_any w w hT (Below.refl _ _))
  have hnc2 : (n : Int) ≤ (c : Int) := by omega
  clear h1 h3 hs hT hX hn hL hLl hL32 hus hul hLu hin r1 r2
  refine (callsIn_wide (n := 7)).1 ?_
  refine callsIn_of_wp_marks Tryd.func5 rfl trivial ?_ rfl
  simp only [Tryd.ntmps5, List.size_toArray, List.length_cons, List.length_nil, Nat.reduceAdd, Nat.reduceSub, Array.replicate_succ, Array.replicate_zero, List.push_toArray, List.append_toArray, List.nil_append, List.cons_append]
  gi_wp2_with (first
    | (refine ⟨trivial, ?_⟩; gi_at_call 13; refine (callsIn_wide.2 (within_p _ _ _ _)).mono ?_; rintro e w1 ⟨rfl, rfl⟩; rw [Q1.out])
    | (gi_at_call 13; refine (callsIn_wide.2 (within_p _ _ _ _)).mono ?_; rintro e w1 ⟨rfl, rfl⟩; rw [Q1.out])
    | (refine ⟨trivial, ?_⟩; gi_at_call 14; refine (callsIn_wide.2 (HO.out _)).mono ?_; rintro e w1 ⟨⟨k, rfl, hk⟩, rfl⟩; obtain rfl := hk.2 Q2.out; clear hk)
    | (gi_at_call 14; refine (callsIn_wide.2 (HO.out _)).mono ?_; rintro e w1 ⟨⟨k, rfl, hk⟩, rfl⟩; obtain rfl := hk.2 Q2.out; clear hk)
    | (refine ⟨trivial, ?_⟩; gi_at_call 15; refine (callsIn_wide.2 HN.out).mono ?_; rintro e w1 ⟨r, rfl, h1⟩; have H1 := Lib.hid h1; clear h1)
    | (gi_at_call 15; refine (callsIn_wide.2 HN.out).mono ?_; rintro e w1 ⟨r, rfl, h1⟩; have H1 := Lib.hid h1; clear h1)
    | (refine ⟨trivial, ?_⟩; gi_at_call 16; refine (callsIn_wide.2 (chunk_any _ _ _ 32 (by decide) (by decide) _)).mono ?_; rintro e w' ⟨rfl, rfl⟩)
    | (gi_at_call 16; refine (callsIn_wide.2 (chunk_any _ _ _ 32 (by decide) (by decide) _)).mono ?_; rintro e w' ⟨rfl, rfl⟩))
  obtain ⟨A2, hA2⟩ : ∃ A2, A2 = ad.add (F * 32) := ⟨_, rfl⟩
  obtain ⟨c2, hc2⟩ : ∃ c2, c2 = c - F * 32 := ⟨_, rfl⟩
  obtain ⟨n2, hn2⟩ : ∃ n2, n2 = M * 32 := ⟨_, rfl⟩
  rw [← hA2, ← hc2, ← hn2] at HH ⊢
  have HN2 := Lib.hid hn2
  clear hA2 hc2 hn2 HN
  obtain ⟨Ws, hWs⟩ : ∃ Ws, Ws = (((w1.alloc (.cells #[.pointer (some r)] 43)).alloc (.cells #[.slice (some A2) n2 c2] 22)).alloc (.cells #[.int .i64 32] 3)) := ⟨_, rfl⟩
  have hsz : Ws.heap.size = w1.heap.size + 3 := by rw [hWs]; simp
  have hbw : Below w.heap.size w w1 := H1.out.acc.2
  have h0 : NodeI w Ws.heap.size w1.heap.size (w1.heap.size + 1) (w1.heap.size + 1 + 1) (some A2) n2 c2 r L 0 Ws := by
    obtain ⟨B, k1, k2, k3, -, -⟩ := H1.out
    have hb3 : Below w1.heap.size w1 Ws := by rw [hWs]; exact (((Below.refl _ _).alloc (Nat.le_refl _) _).alloc (by simp <;> omega) _).alloc (by simp <;> omega) _
    refine ⟨B, k1.kept fun q k => ⟨k, hb3.block q (k2 q k).2⟩, fun q k => ?_, hbw.trans (hb3.mono hbw.size), Nat.le_refl _, ?_, ?_, ?_⟩
    · have h1 := (k2 q k).1
      have h2 := (k2 q k).2
      exact ⟨h1, by omega, by omega, by omega, by omega, fun h => by omega⟩
    · rw [hWs]; exact ((Boxed.new w1 43 (.pointer (some r))).alloc _).alloc _
    · rw [hWs]
      have h := (Boxed.new (w1.alloc (.cells #[.pointer (some r)] 43)) 22 (.slice (some A2) n2 c2)).alloc (.cells #[.int .i64 32] 3)
      simpa using h
    · rw [hWs]
      have h := Boxed.new ((w1.alloc (.cells #[.pointer (some r)] 43)).alloc (.cells #[.slice (some A2) n2 c2] 22)) 3 (.int .i64 32)
      simpa using h
  rw [← hWs]
  clear hWs
  have kept : ∀ j W W' row, NodeI w Ws.heap.size w1.heap.size (w1.heap.size + 1) (w1.heap.size + 1 + 1) (some A2) n2 c2 r L j W → W.grownBy W' row → (∀ r, row = some r → Ws.heap.size ≤ r ∧ ∃ o : Obj, W.heap[r]? = some o ∧ o.isCells = false) → NodeI w Ws.heap.size w1.heap.size (w1.heap.size + 1) (w1.heap.size + 1 + 1) (some A2) n2 c2 r L j W' := fun j W W' row h hg hr => h.kept (by have := hbw.size; omega) (by omega) (by omega) (by omega) hg hr
  have en : n2 / 32 = M := by have := HN2.out; omega
  refine wpIn_rangeFunc_cellsB (β := Nat) rfl (by omega) (gf := 31) (lb := #[.pointer (some ⟨w1.heap.size + 1, 0, none⟩), .pointer (some ⟨w1.heap.size + 1 + 1, 0, none⟩)]) rfl trivial (enters_of Tryd.func31 (by kernel_rfl) rfl)
    (encs := fun j => #[.slice (some (A2.add j)) (min 32 (n2 - j)) (min 32 (n2 - j))])
    (I0 := fun W => NodeI w Ws.heap.size w1.heap.size (w1.heap.size + 1) (w1.heap.size + 1 + 1) (some A2) n2 c2 r L 0 W)
    (I := fun j W => NodeI w Ws.heap.size w1.heap.size (w1.heap.size + 1) (w1.heap.size + 1 + 1) (some A2) n2 c2 r L (j / 32) W ∧ j < n2 ∧ j % 32 = 0)
    (I' := fun j W => NodeI w Ws.heap.size w1.heap.size (w1.heap.size + 1) (w1.heap.size + 1 + 1) (some A2) n2 c2 r L (j / 32 + 1) W)
    (Fin := fun W => NodeI w Ws.heap.size w1.heap.size (w1.heap.size + 1) (w1.heap.size + 1 + 1) (some A2) n2 c2 r L M W)
    (fun l B W hB hY hi hb => (chunk_iter l (w1.heap.size + 1) (w1.heap.size + 1 + 1) 32 n2 c2 (some A2) (by omega) (by omega) (by have := HN2.out; omega) (by have h1 := HH.out.2.1.2.2.1; rw [HH.out.2.2.1] at h1; exact h1) (fun _ => ⟨_, rfl⟩)
      (fun j W => NodeI w Ws.heap.size w1.heap.size (w1.heap.size + 1) (w1.heap.size + 1 + 1) (some A2) n2 c2 r L (j / 32) W ∧ j % 32 = 0) (fun j W h => by obtain ⟨⟨B, k1, k2, k3, k4, k5, k6, k7⟩, _⟩ := h; exact k6.cell) (fun j W h => by obtain ⟨⟨B, k1, k2, k3, k4, k5, k6, k7⟩, _⟩ := h; exact k7.cell) (fun j W h => ⟨h.1.drew, h.2⟩) B hB
      (fun ad j W1 hX hj h1 h2 => by
        obtain ⟨fn, tmps, assign, body, hy, hR⟩ := hY j W1 ⟨h1.1, hj, h1.2⟩ h2
        cases hX
        have hN2 := HN2.out
        have hm := h1.2
        refine ⟨fn, tmps, assign, body, hy, hR.mono (fun e W' h => ⟨h.1, ?_, h.2.2⟩)⟩
        have e1 : (j + min 32 (n2 - j)) / 32 = j / 32 + 1 := by omega
        have e2 : (j + min 32 (n2 - j)) % 32 = 0 := by omega
        rw [e1]
        exact ⟨h.2.1, e2⟩) W ⟨hi, rfl⟩ hb).mono (fun e W' h => ⟨h.1, (by rw [← en]; exact h.2.1.1), h.2.2⟩))
    (fun _ => rfl) (fun _ W W' row h hg hr => kept _ _ _ _ h hg hr) (fun s W W' row h hg hr => ⟨kept _ _ _ _ h.1 hg hr, h.2⟩) (fun s W W' row h hg hr => kept _ _ _ _ h hg hr) (fun _ W W' row h hg hr => kept _ _ _ _ h hg hr) h0
    (fun j => { tmps := #[.slice (some ad) n c, .int .i64 (F : Int), .int .i64 (M : Int), undef, undef, undef, .string ⟨#[]⟩, .int .i64 0, .pointer (some ⟨w1.heap.size, 0, none⟩), .slice (some (A2.add j)) (min 32 (n2 - j)) (min 32 (n2 - j)), undef, undef, .int .i64 (M : Int), .bool true, .bool false, .bool false, .int .i64 (M : Int), .int .u64 (M : Int), .int .i64 1, .bool false, .bool false, .bool false, .int .i64 (F : Int), .bool (decide ((F : Int) < 0)), .bool (decide ((F : Int) < 0)), .bool (decide ((F : Int) < 0)), .int .i64 (F : Int), .int .i64 (M : Int), .int .i64 ((F : Int) % (M : Int)), .bool false, .bool (decide ((F : Int) < 0)), .int .i64 (F : Int), .slice (some ad) n c, .int .i64 (n : Int), .int .i64 ((n : Int) / 32), .int .i64 (M : Int), .int .i64 ((n : Int) / 32 - (M : Int)), .bool (decide ((n : Int) / 32 - (M : Int) < (F : Int))), .pointer (some r), .slice (some ad) n c, .int .i64 (F : Int), .int .i64 ((F : Int) * 32), .slice (some A2) (n - F * 32) c2, .int .i64 (M : Int), .int .i64 ((M : Int) * 32), .slice (some A2) n2 c2, .func (.func 31) #[] #[.pointer (some ⟨w1.heap.size + 1, 0, none⟩), .pointer (some ⟨w1.heap.size + 1 + 1, 0, none⟩)], .slice (some (A2.add j)) (min 32 (n2 - j)) (min 32 (n2 - j)), undef, undef, undef, undef, undef, undef, undef, undef, undef, undef], defers := [] }) ?assign ?body ?done
  case assign =>
    intro l x W K hK
    clear kept h0
    gi_wp2
    exact hK
  case body =>
    rintro l j W ⟨hI, hj, hj3⟩
    obtain ⟨i, hi⟩ : ∃ i, i = j / 32 := ⟨_, rfl⟩
    rw [← hi] at hI
    have hN2 := HN2.out
    have hji : j = 32 * i := by omega
    obtain ⟨hT, hin, hul, hLu, hLl, hL32⟩ := HH.out
    obtain ⟨s, hs⟩ : ∃ s, L[i]? = some s := ⟨L[i]'(by omega), List.getElem?_eq_getElem _⟩
    have hse : s = strOfNums ((us.drop j).take 32) := by
      rw [hLu] at hs
      unfold rowD at hs
      rw [List.getElem?_map, List.getElem?_range (by omega)] at hs
      rw [hji]
      exact (Option.some.inj hs).symm
    have hA := hI.add hT (by have := hbw.size; omega) (by omega) (by omega) (by omega) s hs (fun x hx => by have := hL32 x hx; omega) (by omega)
    rw [hi] at hA
    have HA := Lib.hid hA
    have hb1 : Below w.heap.size w W := by
      obtain ⟨B, k1, k2, k3, k4, k5, k6, k7⟩ := hI
      exact k3
    have hcb : W.cell? ⟨w1.heap.size, 0, none⟩ = some (.pointer (some r)) := by
      obtain ⟨B, k1, k2, k3, k4, k5, k6, k7⟩ := hI
      exact k5.cell
    have hmin : min 32 (n2 - j) = 32 := by omega
    have hcv := conv_piece (hin.on hb1) rfl j 32 32 (by omega)
    rw [← hse] at hcv
    rw [hmin]
    dsimp only
    clear hI hi hji hj3 hT hin hul hLu hLl hL32 hs hse hA hb1 hmin kept h0 hbw
    gi_wp2_with (first | (refine ⟨trivial, ?_⟩; gi_at_call 17; refine (callsIn_wide.2 HA.out).mono ?_; rintro e W2 ⟨rfl, k1, k2⟩; have HK := Lib.hid (And.intro k1 k2); clear k1 k2) | (gi_at_call 17; refine (callsIn_wide.2 HA.out).mono ?_; rintro e W2 ⟨rfl, k1, k2⟩; have HK := Lib.hid (And.intro k1 k2); clear k1 k2))
    exact HK.out
  case done =>
    rintro D' W hD hI hdef
    obtain ⟨hT, hin, hul, hLu, hLl, hL32⟩ := HH.out
    have HA := Lib.hid (hI.top hT (by omega) (fun x hx => by have := hL32 x hx; omega) (fun e => by rw [e] at hLl; simp at hLl; omega) (by omega))
    have hcb : W.cell? ⟨w1.heap.size, 0, none⟩ = some (.pointer (some r)) := by
      obtain ⟨B, k1, k2, k3, k4, k5, k6, k7⟩ := hI
      exact k5.cell
    clear hI hT hin hul hLu hLl hL32 kept h0
    gi_wp2_with (first | (refine ⟨trivial, ?_⟩; gi_at_call 18; refine (callsIn_wide.2 HA.out).mono ?_; rintro e W2 ⟨rfl, k1, k2⟩; have HK := Lib.hid (And.intro k1 k2); clear k1 k2) | (gi_at_call 18; refine (callsIn_wide.2 HA.out).mono ?_; rintro e W2 ⟨rfl, k1, k2⟩; have HK := Lib.hid (And.intro k1 k2); clear k1 k2))
    obtain ⟨k1, k2⟩ := HK.out
    have hdef2 : W2.heap[D']? = some (.deferred (some [])) := (k2.block D' (Array.getElem?_eq_some_iff.1 hdef).1).trans hdef
    refine ⟨by simp, .inl ⟨_, _, rfl, run_takeDeferred hdef2, ?_⟩⟩
    exact ⟨_, results_tmp2 rfl _ _ _, rfl, k1.trans (belowK_b (w := w) (Nat.le_refl _) W2 D' _ _ (by have := hbw.size; omega) hdef2 rfl rfl)⟩
end Go.Proofs.YtianflcfjaddlaaDoor
