/- Contract of the program's Up (made by genup13p.py). -/
import Derived.Test.YtaijjjlpbpogfaaP13Del
import Derived.Test.YtaijjjlpbpogfaaP13ListM
namespace Go.Proofs.Ytaijjjlpbpogfaa
open Go.RowKit

theorem Box.set2 {W : World} {x b : Nat} {v : Value} (h : Box W x v) (u : Value) (hn : x ≠ b) : Box (W.setCell ⟨b, 2, none⟩ u) x v := h.keep (O := fun k => k = b) ((KeepO.refl _ _).set rfl) hn
section
variable {W : World} {b : Nat} {D : Dr} {O : Nat → Prop} {m : Nat} {q u : Int} {T : DataW Unit} {pl : ByteArray → Plc}
set_option maxHeartbeats 1000000 in
theorem whole_p (h : PF W b D O m q u T pl) {x1 : Nat} {f : Fl} (h1 : Box W x1 (.pointer (some ⟨b, 0, none⟩))) (hf : f ∈ D.fs) (hn : f.name.size ≤ 1000) (hp : f.pcs.length ≤ 1000000) :
    Calls Try.prog 55 #[.string f.name, .pointer (some ⟨x1, 0, none⟩)] W (fun e w' => e = .returned (.bool (wholeB D.fs f.name)) ∧ w' = W) := by
  rw [wholeB_at h.srt hf]
  have HP := Lib.hid (pieces_p (h.files f hf).1 hp)
  have hl := h.look_some hf hn
  obtain ⟨c0, -⟩ := h.cells
  obtain ⟨-, c1⟩ := h1
  have HL := Lib.hid (show (((f.pcs.length : Int) == 0) : Bool) = decide (f.pcs.length = 0) by rw [Bool.eq_iff_iff]; simp)
  obtain ⟨d, hd⟩ : ∃ d, d = decide (f.pcs.length = 0) := ⟨_, rfl⟩
  rw [← hd] at HL ⊢
  generalize f.pcs.length = L at *
  generalize f.name = n at *
  generalize (pl n).g = g at *
  clear h hf hn hp hd
  go_enter Try.func55, Try.ntmps55
  go_wp2_with (go_at_call 54; refine HP.out.mono ?_; rintro e w9 ⟨rfl, hw⟩; rw [hw]; clear hw w9)
  go_ret
  exact ⟨by rw [← HL.out]; rfl, rfl⟩
end
/-- Of no slice at all. -/
theorem dfunc_nil (w : World) (fv : Value) : Calls Try.prog 56 #[.slice none 0 0, fv] w (fun e w' => e = .returned (.slice none 0 0) ∧ w' = w) := by
  have HI := Lib.hid (fun w => Try.slices_IndexFunc_empty (α := Nat) none 0 fv w)
  go_enter Try.func56, Try.ntmps56
  go_wp2_with (go_at_call 72; refine (HI.out _).mono ?_; rintro e w9 ⟨rfl, hw⟩; rw [hw]; clear hw w9)
  go_ret
  exact ⟨rfl, rfl⟩
/-- The names of the files that have pieces, in a row of their own. -/
def LeftN (wr : World) (O : Nat → Prop) (X : Option Addr) (ns : List ByteArray) : Prop := ∀ t s, ns[t]? = some s → ∃ gl, X = some ⟨gl, 0, none⟩ ∧ ¬ O gl ∧ gl < wr.heap.size ∧ wr.cell? ⟨gl, t, none⟩ = some (.string s)
theorem LeftN.keep {w1 w2 : World} {O : Nat → Prop} {X : Option Addr} {ns : List ByteArray} (h : LeftN w1 O X ns) (hk : KeepO O w1 w2) : LeftN w2 O X ns := fun t s hs => by
  obtain ⟨gl, h1, h2, h3, h4⟩ := h t s hs
  exact ⟨gl, h1, h2, Nat.lt_of_lt_of_le h3 hk.size, (World.cell?_of_block (a := (⟨gl, t, none⟩ : Addr)) (hk.block gl h3 h2)).trans h4⟩
/-- Behind List: the files without pieces are struck from its answer. -/
theorem names_p {W w4 : World} {b : Nat} {D : Dr} {O4 : Nat → Prop} {m4 : Nat} {q4 u4 : Int} {T4 : DataW Unit} {pl4 : ByteArray → Plc} (h : PF w4 b D O4 m4 q4 u4 T4 pl4) (hd : D.down = false) (hnm : ∀ f ∈ D.fs, f.name.size ≤ 1000 ∧ f.pcs.length ≤ 1000000) (hl5 : D.fs.length ≤ 1000000) {x1 : Nat} (h1 : Box w4 x1 (.pointer (some ⟨b, 0, none⟩)))
    {X : Option Addr} {c : Nat} (ho : w4.ownsRow W.heap.size 9 1 (.slice X (listD D ⟨#[]⟩).length c) (listD D ⟨#[]⟩).length ((listD D ⟨#[]⟩).map Value.string)) (hx1 : x1 < W.heap.size) (hnO : ∀ k, O4 k → (Value.slice X (listD D ⟨#[]⟩).length c).ownBlock ≠ some k) :
    Calls Try.prog 56 #[.slice X (listD D ⟨#[]⟩).length c, .func (.func 55) #[] #[.pointer (some ⟨x1, 0, none⟩)]] w4 (fun e w5 => ∃ X5 c5, e = .returned (.slice X5 (eligF D.fs).length c5) ∧ PF w5 b D O4 m4 q4 u4 T4 pl4 ∧ Box w5 x1 (.pointer (some ⟨b, 0, none⟩)) ∧ LeftN w5 O4 X5 ((eligF D.fs).map Fl.name) ∧ KeepO (fun k => W.heap.size ≤ k) w4 w5) := by
  have hall := list_all hd
  have hln := left_names h.srt
  rcases ho.2 with ⟨hnil, hn0⟩ | ⟨gl, cap, cur, hv, hbase, hb, h2, h3, h4, h5⟩
  · injection hnil with e1 e2 e3
    subst e1 e3
    have hfs : D.fs = [] := by
      rw [hall, List.length_map] at hn0
      exact List.eq_nil_of_length_eq_zero hn0
    have hel : eligF D.fs = [] := by rw [hfs]; rfl
    rw [hn0, hel]
    refine (dfunc_nil w4 _).mono ?_
    rintro e w5 ⟨rfl, rfl⟩
    exact ⟨none, 0, rfl, h, h1, fun t s hs => by simp at hs, KeepO.refl _ _⟩
  · injection hv with e1 e2 e3
    subst e1 e3
    have hgO : ¬ O4 gl := fun hh => hnO gl hh rfl
    have hlen : (listD D ⟨#[]⟩).length = (D.fs.map Fl.name).length := by rw [hall]
    have hgx : x1 ≠ gl := by omega
    have hd2 := dfunc_p (w := w4) (g := 55) (lb := #[.pointer (some ⟨x1, 0, none⟩)]) (enters_of Try.func55 (by kernel_rfl) rfl) (p := wholeB D.fs) (d := D.fs.map Fl.name) (gl := gl) (n := (listD D ⟨#[]⟩).length) (c := c) hlen (by rw [hlen, List.length_map]; exact hl5) h2 ⟨cur, hb, by simpa using h4⟩ (fun t s hs => by
      rw [cell_of_row w4 gl t _ _ (0, 0) hb, ← Array.getElem?_toList]
      have htl := (List.getElem?_eq_some_iff.1 hs).1
      have h6 : (cur.toList.take ((listD D ⟨#[]⟩).length * 1))[t]? = some (.string s) := by rw [h5, hall, List.getElem?_map, hs]; rfl
      rw [List.getElem?_take_of_lt (by rw [hlen]; omega)] at h6
      exact h6) h3 (fun W2 hk x hx => by
      obtain ⟨f, hf, rfl⟩ := List.mem_map.1 hx
      have hP : PF W2 b D O4 m4 q4 u4 T4 pl4 := h.keep (fun _ h => h) fun k hk2 hk3 => hk.block k hk3 (fun e => hgO (e ▸ hk2))
      exact whole_p hP (h1.keep hk hgx) hf (hnm f hf).1 (hnm f hf).2)
    refine hd2.mono ?_
    rintro e w5 ⟨rfl, hk, hc⟩
    rw [hln] at hc ⊢
    refine ⟨some ⟨gl, 0, none⟩, c, by rw [List.length_map], h.keep (fun _ h => h) fun k hk2 hk3 => hk.block k hk3 (fun e => hgO (e ▸ hk2)), h1.keep hk hgx, fun t s hs => ⟨gl, rfl, hgO, Nat.lt_of_lt_of_le (Array.getElem?_eq_some_iff.1 hb).1 hk.size, hc t s hs⟩, hk.mono fun k e => e ▸ hbase⟩
/-- What a file's settling does to the drive. -/
theorem up_next {w5 wr : World} {b : Nat} {D : Dr} {O4 : Nat → Prop} {m4 : Nat} {q4 : Int} {T4 : DataW Unit} {pl : ByteArray → Plc} (keep : List Int) (i : Nat) {fs : List Fl} (h : PF wr b { D with fs := upK keep fs 0 i } (NewO O4 w5 wr) m4 q4 (usedD (upK keep fs 0 i) : Int) T4 pl) (hs : Srt fs) {f : Fl} (hf : (eligF fs)[i]? = some f) (hk5 : KeepO O4 w5 wr)
    {w2 : World} (hh : ∃ p' : Plc, p'.g = (pl f.name).g ∧ FileAt w2 p' (joinP f.safe (f.pcs.take (keepN keep i f.pcs.length))) [] ∧ (∀ k, p'.has k → (pl f.name).has k ∨ (wr.heap.size ≤ k ∧ k < w2.heap.size)) ∧ KeepO (pl f.name).has wr w2) :
    w2.cell? ⟨b, 2, none⟩ = some (.int .i64 (usedD (upK keep fs 0 i) : Int)) ∧ w2.frozen? ⟨b, 2, none⟩ = false ∧ (∃ pl', PF (w2.setCell ⟨b, 2, none⟩ (.int .i64 ((usedD (upK keep fs 0 i) : Int) - ((f.all.size : Int) - ((joinP f.safe (f.pcs.take (keepN keep i f.pcs.length))).size : Int))))) b { D with fs := upK keep fs 0 (i + 1) } (NewO O4 w5 (w2.setCell ⟨b, 2, none⟩ (.int .i64 ((usedD (upK keep fs 0 i) : Int) - ((f.all.size : Int) - ((joinP f.safe (f.pcs.take (keepN keep i f.pcs.length))).size : Int)))))) m4 q4 (usedD (upK keep fs 0 (i + 1)) : Int) T4 pl') ∧ KeepO O4 w5 (w2.setCell ⟨b, 2, none⟩ (.int .i64 ((usedD (upK keep fs 0 i) : Int) - ((f.all.size : Int) - ((joinP f.safe (f.pcs.take (keepN keep i f.pcs.length))).size : Int))))) := by
  obtain ⟨p', e1, e2, e3, e4⟩ := hh
  obtain ⟨hm, hst⟩ := upK_step keep fs 0 i f hs hf
  rw [Nat.zero_add] at hst
  have hfo := (h.files f hm).2
  have hbO : NewO O4 w5 wr b := h.bo
  have ht := h.turn (O' := NewO (NewO O4 w5 wr) wr w2) hm (keptF keep i) rfl p' e1 e2 (fun _ h => .inl h) (fun k hk2 => (e3 k hk2).imp id fun h5 => ⟨.inr h5, h5.1⟩) (fun k _ hk2 hk3 => e4.block k hk2 hk3)
  have hsr : Srt (upK keep fs 0 i) := h.srt
  have e5 : turnD (upK keep fs 0 i) (atD (upK keep fs 0 i) f.name) (keptF keep i) = upK keep fs 0 (i + 1) := by rw [hst, turn_map hsr]
  have hw := wS_turn (fun f => f.all.size) hsr f hm (keptF keep i)
  rw [wS_used, wS_used] at hw
  rw [e5] at hw
  have e6 : (keptF keep i f).all.size = (joinP f.safe (f.pcs.take (keepN keep i f.pcs.length))).size := rfl
  have e7 : (usedD (upK keep fs 0 i) : Int) - ((f.all.size : Int) - ((joinP f.safe (f.pcs.take (keepN keep i f.pcs.length))).size : Int)) = (usedD (upK keep fs 0 (i + 1)) : Int) := by
    rw [e6] at hw
    omega
  have ht2 : PF w2 b { D with fs := upK keep fs 0 (i + 1) } (NewO (NewO O4 w5 wr) wr w2) m4 q4 (usedD (upK keep fs 0 i) : Int) T4 (fun x => if x = f.name then p' else pl x) := by rw [← e5]; exact ht
  rw [e7]
  have hse := ht2.set (D' := { D with fs := upK keep fs 0 (i + 1) }) (q' := q4) (u' := (usedD (upK keep fs 0 (i + 1)) : Int)) 2 (.int .i64 (usedD (upK keep fs 0 (i + 1)) : Int)) rfl rfl ht2.left
  have hk2 : KeepO O4 w5 w2 := hk5.trans (e4.mono fun k hk => (hfo k hk).1)
  have hsz : (w2.setCell ⟨b, 2, none⟩ (.int .i64 (usedD (upK keep fs 0 (i + 1)) : Int))).heap.size = w2.heap.size := size_setCell' _ _ _
  refine ⟨ht2.cells.2.2.1, ht2.unfrozen 2, ⟨_, hse.keep (fun k hk => ?_) fun _ _ _ => rfl⟩, ?_⟩
  · have := NewO.next (O := O4) hk5.size e4.size hk
    unfold NewO at this ⊢
    rw [hsz]
    exact this
  · refine ⟨hk2.os, hk2.tape, hk2.output, by rw [hsz]; exact hk2.size, fun k hk hnO => ?_⟩
    have hne : k ≠ b := fun e => by
      subst e
      rcases hbO with hb | hb
      · exact hnO hb
      · omega
    rw [heap_setCell_other _ _ _ _ hne]
    exact hk2.block k hk hnO
set_option maxRecDepth 100000 in
set_option maxHeartbeats 4000000 in
theorem pup {W : World} {b : Nat} {D : Dr} {O : Nat → Prop} (h : PD W b D O) (hg : GoD D) (hO : ∀ k, O k → k < W.heap.size) (A : Option Addr) (ka kc : Nat) (keep : List Int) (hK : KeepIn W O A keep) (hka : ka = keep.length) (hkc : ka ≤ kc) (hkm : kc ≤ maxLen) :
    Calls Try.prog 21 #[.pointer (some ⟨b, 0, none⟩), .slice A ka kc] W (PSays O W b (upD D keep) (.tuple #[])) := by
  obtain ⟨m, q, T, pl, h⟩ := h
  have hS : wtL D.fs ≤ 100000 := hg.2.1
  have hlen := wt_len D.fs
  have hus := used_wt D.fs
  have hb1 : Below W.heap.size W (W.alloc (.cells #[.pointer (some ⟨b, 0, none⟩)] 23)) := (Below.refl _ _).alloc (Nat.le_refl _) _
  have hB1 := box_new W (.pointer (some ⟨b, 0, none⟩)) 23
  have hsz1 : (W.alloc (.cells #[.pointer (some ⟨b, 0, none⟩)] 23)).heap.size = W.heap.size + 1 := by simp
  have h1 := h.on hb1
  have hbl := h.lt
  have hbo := h.bo
  obtain ⟨w1, hw1⟩ : ∃ w1, w1 = W.alloc (.cells #[.pointer (some ⟨b, 0, none⟩)] 23) := ⟨_, rfl⟩
  rw [← hw1] at hb1 hB1 h1 hsz1
  have h2 := h1.set (D' := { D with left := -1 }) (q' := -1) (u' := (usedD D.fs : Int)) 4 (.int .i64 (-1)) rfl rfl ⟨.inr (.inl rfl), ⟨by decide, by decide⟩⟩
  have f4 := h1.unfrozen 4
  have c4 := h1.cells.2.2.2.2.1
  have c1 := hB1.2
  have hX : ∀ u : Value, ∀ j, Box (w1.setCell ⟨b, j, none⟩ u) W.heap.size (.pointer (some ⟨b, 0, none⟩)) := fun u j => hB1.keep (O := fun k => k = b) ((KeepO.refl _ _).set rfl) (by omega)
  have hk2 : KeepO O W (w1.setCell ⟨b, 4, none⟩ (.int .i64 (-1))) := (KeepO.of hb1).set hbo
  have d1 := (hX (.int .i64 (-1)) 4).2
  have d5 := h2.cells.2.2.2.2.2
  have g5 := h2.unfrozen 5
  have hsz2 : (w1.setCell ⟨b, 4, none⟩ (.int .i64 (-1))).heap.size = W.heap.size + 1 := (size_setCell' _ _ _).trans hsz1
  have HW1 := Lib.hid hw1
  obtain ⟨w2, hw2⟩ : ∃ w2, w2 = w1.setCell ⟨b, 4, none⟩ (.int .i64 (-1)) := ⟨_, rfl⟩
  have hX2 := hX (.int .i64 (-1)) 4
  rw [← hw2] at h2 hk2 d1 d5 g5 hsz2 hX2
  have HW2 := Lib.hid hw2
  cases hd : D.down with
  | false =>
    have hu : upD D keep = { D with left := -1 } := by unfold upD; rw [hd]; rfl
    rw [hu]
    replace d5 : w2.cell? ⟨b, 5, none⟩ = some (.bool false) := by rw [← hd]; exact d5
    have HE := Lib.hid (show PSays O W b { D with left := -1 } (.tuple #[]) (.returned (.tuple #[])) w2 from ⟨rfl, ⟨m, -1, T, pl, h2.own_new⟩, hk2⟩)
    clear hu hd h h1 h2 hg hS hlen hus hb1 hB1 hX hX2 hk2 hO hK hw1 hw2 hsz1 hsz2 hbo hbl hka hkc hkm g5
    go_enter Try.func21, Try.ntmps21
    go_upto_region 1 with fail
    rw [← HW1.out]
    go_upto_region 2 with fail
    rw [← HW2.out]
    go_wp2_with fail
    refine bodyPost_ret (results_none rfl _ _ _) rfl ?_
    exact HE.out
  | true =>
  have hu : upD D keep = { D with left := -1, down := false, fs := upL keep D.fs 0 } := by unfold upD; rw [hd]; rfl
  rw [hu]
  replace d5 : w2.cell? ⟨b, 5, none⟩ = some (.bool true) := by rw [← hd]; exact d5
  have h3 := h2.set (D' := { D with left := -1, down := false }) (q' := -1) (u' := (usedD D.fs : Int)) 5 (.bool false) rfl rfl ⟨.inr (.inl rfl), ⟨by decide, by decide⟩⟩
  have hX3 : Box (w2.setCell ⟨b, 5, none⟩ (.bool false)) W.heap.size (.pointer (some ⟨b, 0, none⟩)) := hX2.keep (O := fun k => k = b) ((KeepO.refl _ _).set rfl) (by omega)
  have hk3 : KeepO O W (w2.setCell ⟨b, 5, none⟩ (.bool false)) := hk2.set hbo
  have hsz3 : (w2.setCell ⟨b, 5, none⟩ (.bool false)).heap.size = W.heap.size + 1 := (size_setCell' _ _ _).trans hsz2
  obtain ⟨w3, hw3⟩ : ∃ w3, w3 = w2.setCell ⟨b, 5, none⟩ (.bool false) := ⟨_, rfl⟩
  rw [← hw3] at h3 hX3 hk3 hsz3
  have HW3 := Lib.hid hw3
  have e1 := hX3.2
  obtain ⟨D1, hD1⟩ : ∃ D1 : Dr, D1 = { D with left := -1, down := false } := ⟨_, rfl⟩
  have hD1f : D1.fs = D.fs := by rw [hD1]
  have hD1d : D1.down = false := by rw [hD1]
  have hD1u : ({ D with left := -1, down := false, fs := upL keep D.fs 0 } : Dr) = { D1 with fs := upL keep D.fs 0 } := by rw [hD1]
  have hgo : GoD D1 := by
    obtain ⟨k1, k2, k3⟩ := hg
    rw [hD1]
    exact ⟨⟨k1.srt, k1.names, k1.max, neg1⟩, k2, ⟨k3.1, neg1⟩⟩
  rw [← hD1] at h3
  rw [hD1u]
  rw [← hD1f] at h3 hS hlen hus ⊢
  have HL := Lib.hid (plist (W := w3) ⟨m, -1, T, pl, h3⟩ hgo (fun k hk => by have := hO k hk; omega) ⟨#[]⟩)
  have hnm : ∀ f ∈ D1.fs, f.name.size ≤ 1000 ∧ f.pcs.length ≤ 1000000 := fun f hf => by
    have k1 := hgo.1.names f hf
    have k2 := wt_mem hf
    unfold wtF at k2
    unfold nameOk at k1
    exact ⟨by omega, by omega⟩
  have HNm := Lib.hid hnm
  have hsr : Srt D1.fs := h3.srt
  -- behind List
  have HN := Lib.hid (fun w4 X c (hh : w4.ownsRow w3.heap.size 9 1 (.slice X (listD D1 ⟨#[]⟩).length c) (listD D1 ⟨#[]⟩).length ((listD D1 ⟨#[]⟩).map Value.string) ∧ PTold O w3 b D1 (.slice X (listD D1 ⟨#[]⟩).length c) w4) => show Calls Try.prog 56 #[.slice X (listD D1 ⟨#[]⟩).length c, .func (.func 55) #[] #[.pointer (some ⟨W.heap.size, 0, none⟩)]] w4 (fun e w5 => ∃ X5 c5, e = .returned (.slice X5 (eligF D1.fs).length c5) ∧ ∃ O4 m4 q4 T4 pl4, PF w5 b D1 O4 m4 q4 (usedD D1.fs : Int) T4 pl4 ∧ Box w5 W.heap.size (.pointer (some ⟨b, 0, none⟩)) ∧ LeftN w5 O4 X5 ((eligF D1.fs).map Fl.name) ∧ KeepO O W w5 ∧ ∀ k, O4 k → O k ∨ (W.heap.size + 1 ≤ k ∧ k < w5.heap.size)) from by
    obtain ⟨g1, ⟨m4, q4, T4, pl4, g2⟩, g3⟩ := hh
    refine (names_p (W := w3) g2 hD1d hnm (by omega) (hX3.keep g3 fun ho => by have := hO _ ho; omega) g1 (by omega) (fun k hk => hk.2)).mono ?_
    rintro e w5 ⟨X5, c5, rfl, k1, k2, k3, k4⟩
    have k6 : KeepO O W w4 := hk3.trans (g3.mono fun k hk => .inl hk)
    refine ⟨X5, c5, rfl, _, m4, q4, T4, pl4, k1, k2, k3, ⟨k4.os.trans k6.os, k4.tape.trans k6.tape, k4.output.trans k6.output, Nat.le_trans k6.size k4.size, fun k hk hn => (k4.block k (Nat.lt_of_lt_of_le hk k6.size) (by omega)).trans (k6.block k hk hn)⟩, fun k hk => ?_⟩
    have := k4.size
    rcases hk.1 with hk | hk
    · exact .inl hk
    · exact .inr ⟨by omega, by omega⟩)
  have HC := Lib.hid (And.intro hK (And.intro hka (And.intro hkc (And.intro hkm (And.intro hS (And.intro hO hsr))))))
  obtain ⟨x1, hx1⟩ : ∃ x1, x1 = W.heap.size := ⟨_, rfl⟩
  have HXN := Lib.hid (show x1 ≠ b by omega)
  have HX1 := Lib.hid hx1
  rw [← hx1] at d1 e1 c1 HN
  obtain ⟨L, hL⟩ : ∃ L, L = (eligF D1.fs).length := ⟨_, rfl⟩
  have HLn := Lib.hid hL
  have hL5 : L ≤ 100000 := by
    have h6 : (eligF D1.fs).length ≤ D1.fs.length := List.length_filter_le _ _
    omega
  rw [← hL] at HN
  have HXO := Lib.hid (show ¬ O x1 from fun ho => by have := hO _ ho; omega)
  clear hu hd h h1 h2 h3 hg hS hlen hus hb1 hB1 hX hX2 hX3 hk2 hk3 hO hK hw1 hw2 hw3 hsz1 hsz2 hsz3 hbo hbl hka hkc hkm hD1 hD1f hD1d hD1u hgo hnm hsr hL hx1
  go_enter Try.func21, Try.ntmps21
  go_upto_region 1 with fail
  rw [← HW1.out, ← HX1.out]
  go_upto_region 2 with fail
  rw [← HW2.out]
  go_upto_region 4 with fail
  rw [← HW3.out]
  clear d1 d5 g5 c1 c4 f4
  go_upto_block 0 with (first
    | (go_at_call 25; refine HL.out.mono ?_; rintro e w4 ⟨X, c, rfl, hp⟩; have HP4 := Lib.hid hp; clear hp)
    | (go_at_call 56; refine (HN.out _ _ _ HP4.out).mono ?_; rintro e w5 ⟨X5, c5, rfl, hp⟩; have HP5 := Lib.hid hp; clear hp))
  obtain ⟨O4, m4, q4, T4, pl4, h5⟩ := HP5.out
  have H5 := Lib.hid h5
  clear h5 HP5
  go_wp2_with fail
  go_loopg [25] L (fun gg iv wr => ∃ i : Nat, i ≤ L ∧ gg = L - i ∧ iv = .int .i64 (i : Int) ∧ Hid ((∃ pl', PF wr b { D1 with fs := upK keep D1.fs 0 i } (NewO O4 w5 wr) m4 q4 (usedD (upK keep D1.fs 0 i) : Int) T4 pl') ∧ KeepO O4 w5 wr))
  case atStart =>
    refine ⟨0, Nat.zero_le _, rfl, rfl, Lib.hid ⟨⟨pl4, ?_⟩, KeepO.refl _ _⟩⟩
    rw [upK_zero]
    exact H5.out.1.own_new
  case round =>
    obtain ⟨i, hi, rfl, rfl, hH⟩ := hrel
    obtain ⟨⟨pl', hP⟩, hk5⟩ := hH.out
    obtain ⟨hPF5, hBx5, hLN5, hKO5, hO5⟩ := H5.out
    have hx1O : ¬ O4 x1 := fun ho => by
      rcases hO5 x1 ho with ho | ho
      · exact HXO.out ho
      · have := HX1.out; omega
    by_cases hlt : i < L
    · have hki : (i : Int) < (L : Int) := by omega
      obtain ⟨f, hf⟩ : ∃ f, (eligF D1.fs)[i]? = some f := ⟨(eligF D1.fs)[i]'(by have := HLn.out; omega), List.getElem?_eq_getElem _⟩
      obtain ⟨gl, rfl, hgl, hgl2, hcl⟩ := (hLN5.keep hk5) i f.name (by rw [List.getElem?_map, hf]; rfl)
      obtain ⟨hm, -⟩ := upK_step keep D1.fs 0 i f HC.out.2.2.2.2.2.2 hf
      have hfD : f ∈ D1.fs := (List.mem_filter.1 (List.mem_of_getElem? hf)).1
      have hnm := HNm.out f hfD
      have hwt := wt_mem hfD
      unfold wtF at hwt
      have hS := HC.out.2.2.2.2.1
      have hal : f.all = joinP f.safe f.pcs := rfl
      have hlk := hP.look_some hm hnm.1
      have c0 := hP.cells.1
      have hBr := hBx5.keep hk5 hx1O
      have c1 := hBr.2
      have hFA : FileAt wr.drew (pl' f.name) f.safe f.pcs := (hP.files f hm).1.keep fun _ _ => rfl
      have hkn : keepN keep i f.pcs.length ≤ f.pcs.length := by
        unfold keepN
        split
        · omega
        · have := Nat.mod_lt (if keep.getD (i % keep.length) 0 < 0 then -(keep.getD (i % keep.length) 0 + 1) else keep.getD (i % keep.length) 0).toNat (show f.pcs.length + 1 > 0 by omega)
          simp only
          omega
      have HPc := Lib.hid (pieces_p hFA hnm.2)
      have HSt := Lib.hid (settle_p hFA _ hkn (by rw [← hal]; omega) hnm.2)
      have hKr : KeepO O W wr.drew := by
        have k1 : KeepO O4 w5 wr.drew := ⟨hk5.os, hk5.tape, hk5.output, hk5.size, hk5.block⟩
        refine ⟨k1.os.trans hKO5.os, k1.tape.trans hKO5.tape, k1.output.trans hKO5.output, Nat.le_trans hKO5.size k1.size, fun k hk hn => (k1.block k (Nat.lt_of_lt_of_le hk hKO5.size) fun ho => ?_).trans (hKO5.block k hk hn)⟩
        rcases hO5 k ho with ho | ho
        · exact hn ho
        · have := HX1.out; omega
      have HKe := Lib.hid (kept_p wr.drew A ka kc keep i f.pcs.length (HC.out.1.on hKr) HC.out.2.1 HC.out.2.2.1 HC.out.2.2.2.1 (by omega) hnm.2)
      have hd2 : wr.cell? ⟨b, 2, none⟩ = some (.int .i64 (usedD (upK keep D1.fs 0 i) : Int)) := hP.cells.2.2.1
      have HD2 := Lib.hid hd2
      have HS8 := Lib.hid (show Box wr.drew x1 (.pointer (some ⟨b, 0, none⟩)) from hBr)
      have HE := Lib.hid (fun w2 (hh : ∃ p' : Plc, p'.g = (pl' f.name).g ∧ FileAt w2 p' (joinP f.safe (f.pcs.take (keepN keep i f.pcs.length))) [] ∧ (∀ k, p'.has k → (pl' f.name).has k ∨ (wr.drew.heap.size ≤ k ∧ k < w2.heap.size)) ∧ KeepO (pl' f.name).has wr.drew w2) => show Box w2 x1 (.pointer (some ⟨b, 0, none⟩)) ∧ w2.cell? ⟨b, 2, none⟩ = some (.int .i64 (usedD (upK keep D1.fs 0 i) : Int)) ∧ w2.frozen? ⟨b, 2, none⟩ = false ∧ (∃ pl', PF (w2.setCell ⟨b, 2, none⟩ (.int .i64 ((usedD (upK keep D1.fs 0 i) : Int) - ((f.all.size : Int) - ((joinP f.safe (f.pcs.take (keepN keep i f.pcs.length))).size : Int))))) b { D1 with fs := upK keep D1.fs 0 (i + 1) } (NewO O4 w5 (w2.setCell ⟨b, 2, none⟩ (.int .i64 ((usedD (upK keep D1.fs 0 i) : Int) - ((f.all.size : Int) - ((joinP f.safe (f.pcs.take (keepN keep i f.pcs.length))).size : Int)))))) m4 q4 (usedD (upK keep D1.fs 0 (i + 1)) : Int) T4 pl') ∧ KeepO O4 w5 (w2.setCell ⟨b, 2, none⟩ (.int .i64 ((usedD (upK keep D1.fs 0 i) : Int) - ((f.all.size : Int) - ((joinP f.safe (f.pcs.take (keepN keep i f.pcs.length))).size : Int))))) from by
        obtain ⟨p', e1, e2, e3, e4⟩ := hh
        have e5 : KeepO (pl' f.name).has wr w2 := ⟨e4.os, e4.tape, e4.output, e4.size, e4.block⟩
        have hno : ¬ (pl' f.name).has x1 := fun hh => by
          rcases ((hP.files f hm).2 x1 hh).1 with ho | ho
          · exact hx1O ho
          · have := hBx5.1; omega
        exact ⟨hBr.keep e5 hno, up_next keep i hP HC.out.2.2.2.2.2.2 hf hk5 ⟨p', e1, e2, e3, e5⟩⟩)
      rw [← hal] at HSt
      have hle : (joinP f.safe (f.pcs.take (keepN keep i f.pcs.length))).size ≤ f.all.size := take_le f.safe f.pcs _
      have hu5 : f.all.size ≤ usedD (upK keep D1.fs 0 i) ∧ usedD (upK keep D1.fs 0 i) ≤ 1000000 := by
        have k1 := used_mem hm
        have k2 := upK_le keep D1.fs 0 i
        have k3 := used_wt D1.fs
        exact ⟨k1, by omega⟩
      generalize hJ : (joinP f.safe (f.pcs.take (keepN keep i f.pcs.length))).size = J at *
      generalize hF5 : f.all.size = F5 at *
      generalize hU : usedD (upK keep D1.fs 0 i) = U at *
      generalize hPn : f.pcs.length = pn at *
      generalize hKn : keepN keep i pn = kn at *
      have hs1 : IntKind.i64.wrap ((U : Int) - ((F5 : Int) - (J : Int))) = (U : Int) - ((F5 : Int) - (J : Int)) := IntWalk.i64_in _ (by omega)
      obtain ⟨g, hg⟩ : ∃ g, g = (pl' f.name).g := ⟨_, rfl⟩
      rw [← hg] at hlk HPc HSt HE
      have HG := Lib.hid (And.intro hg (And.intro hJ (And.intro hF5 (And.intro hU (And.intro hPn hKn)))))
      generalize hNn : f.name = nm at *
      clear hPF5 hBx5 hLN5 hKO5 hO5 hx1O hf hm hfD hnm hwt hS hal hBr hFA hkn hKr hd2 hH hP hk5 hle hu5 hg hJ hF5 hU hPn hKn hNn
      go_upto_region 9 with fail
      refine wp_region_noPanic ?_
      refine wp_region_held_drew (S := fun W' => Box W' x1 (.pointer (some ⟨b, 0, none⟩))) (by kernel_rfl) HS8.out (fun hS => ?_)
      refine wpAnyH_take (i := 0) (v := ?_) (ops_at rfl) (by kernel_rfl) (by kernel_rfl) (by kernel_rfl) (fun _ _ _ h => h) (Or.inl ⟨by rfl, ?_⟩) hS ?_
      rotate_left
      · intro _ hk; have hf0 := hk.2; first | (go_simp; done) | (go_simp; with_reducible rfl)
      simp only [Act.put, List.setIfInBounds_toArray, List.set_cons_zero, List.set_cons_succ]
      refine wpAnyH_take (i := 1) (v := ?_) (ops_at rfl) (by kernel_rfl) (by kernel_rfl) (by kernel_rfl) (fun _ _ _ h => h) (Or.inl ⟨by rfl, ?_⟩) hS ?_
      rotate_left
      · intro _ _; first | (go_simp; done) | (go_simp; with_reducible rfl)
      simp only [Act.put, List.setIfInBounds_toArray, List.set_cons_zero, List.set_cons_succ]
      refine wpAnyH_take (i := 2) (v := ?_) (ops_at rfl) (by kernel_rfl) (by kernel_rfl) (by kernel_rfl) (fun _ _ _ h => h) (Or.inl ⟨by rfl, ?_⟩) hS ?_
      rotate_left
      · intro _ _; first | (go_simp; done) | (go_simp; with_reducible rfl)
      simp only [Act.put, List.setIfInBounds_toArray, List.set_cons_zero, List.set_cons_succ]
      refine wpAnyH_take (i := 4) (v := ?_) (ops_at rfl) (by kernel_rfl) (by kernel_rfl) (by kernel_rfl) (fun _ _ _ h => h) (Or.inl ⟨by rfl, ?_⟩) hS ?_
      rotate_left
      · intro _ _; first | (go_simp; done) | (go_simp; with_reducible rfl)
      simp only [Act.put, List.setIfInBounds_toArray, List.set_cons_zero, List.set_cons_succ]
      refine wpAnyH_take (i := 5) (v := ?_) (ops_at rfl) (by kernel_rfl) (by kernel_rfl) (by kernel_rfl) (fun _ _ _ h => h) (Or.inl ⟨by rfl, ?_⟩) hS ?_
      rotate_left
      · intro _ _; first | (go_simp; done) | (go_simp; with_reducible rfl)
      simp only [Act.put, List.setIfInBounds_toArray, List.set_cons_zero, List.set_cons_succ]
      refine wpAnyH_take (i := 6) (v := ?_) (ops_at rfl) (by kernel_rfl) (by kernel_rfl) (by kernel_rfl) (fun _ _ _ h => h) (Or.inl ⟨by rfl, ?_⟩) hS ?_
      rotate_left
      · intro _ _; first | (go_simp; done) | (go_simp; with_reducible rfl)
      simp only [Act.put, List.setIfInBounds_toArray, List.set_cons_zero, List.set_cons_succ]
      refine wpAnyH_take (i := 7) (v := ?_) (ops_at rfl) (by kernel_rfl) (by kernel_rfl) (by kernel_rfl) (fun _ _ _ h => h) (Or.inl ⟨by rfl, ?_⟩) hS ?_
      rotate_left
      · intro _ _; first | (go_simp; done) | (go_simp; with_reducible rfl)
      simp only [Act.put, List.setIfInBounds_toArray, List.set_cons_zero, List.set_cons_succ]
      refine wpAnyH_ready (rs := [3, 8]) (by kernel_rfl) (by simp) ?_
      refine AllReadyH.cons (ops_at rfl) (fun K hK => ?_) ?_
      · skip
        have d2 := HD2.out
        go_simp
        refine hK.out _ _ HS8.out (fun hS => ?_)
        clear hK K
        clear d2
        refine wpAnyH_ready (rs := [8]) (by kernel_rfl) (by simp) (AllReadyH.cons (ops_at rfl) (fun K hK => ?_) AllReadyH.nil)
        go_simp
        go_at_call 54
        refine HPc.out.mono ?_
        rintro e w9 ⟨rfl, hw⟩
        rw [hw]
        clear hw w9
        go_wp2_with fail
        refine hK.out _ _ HS8.out (fun hS => ?_)
        clear hK K
        refine wpAnyH_ready (rs := [9]) (by kernel_rfl) (by simp) (AllReadyH.cons (ops_at rfl) (fun K hK => ?_) AllReadyH.nil)
        go_simp
        go_at_call 57
        refine HKe.out.mono ?_
        rintro e w9 ⟨rfl, hw⟩
        rw [hw]
        clear hw w9
        go_wp2_with fail
        refine hK.out _ _ HS8.out (fun hS => ?_)
        clear hK K
        refine wpAnyH_ready (rs := [10]) (by kernel_rfl) (by simp) (AllReadyH.cons (ops_at rfl) (fun K hK => ?_) AllReadyH.nil)
        go_simp
        go_at_call 53
        refine HSt.out.mono ?_
        rintro e w2 ⟨rfl, hp⟩
        have HP2 := Lib.hid hp
        clear hp
        go_wp2_with fail
        refine hK.out _ _ (HE.out _ HP2.out).1 (fun hS => ?_)
        clear hK K
        refine wpAnyH_take (i := 11) (v := ?_) (ops_at rfl) (by kernel_rfl) (by kernel_rfl) (by kernel_rfl) (fun _ _ _ h => h) (Or.inl ⟨by rfl, ?_⟩) hS ?_
        rotate_left
        · intro _ _; first | (go_simp; done) | (go_simp; with_reducible rfl)
        simp only [Act.put, List.setIfInBounds_toArray, List.set_cons_zero, List.set_cons_succ]
        refine wpAnyH_take (i := 12) (v := ?_) (ops_at rfl) (by kernel_rfl) (by kernel_rfl) (by kernel_rfl) (fun _ _ _ h => h) (Or.inl ⟨by rfl, ?_⟩) hS ?_
        rotate_left
        · intro _ _; first | (go_simp; done) | (go_simp; with_reducible rfl)
        simp only [Act.put, List.setIfInBounds_toArray, List.set_cons_zero, List.set_cons_succ]
        refine wpAnyH_take (i := 13) (v := ?_) (ops_at rfl) (by kernel_rfl) (by kernel_rfl) (by kernel_rfl) (fun _ _ _ h => h) (Or.inl ⟨by rfl, ?_⟩) hS ?_
        rotate_left
        · intro _ _; first | (go_simp; done) | (go_simp; with_reducible rfl)
        simp only [Act.put, List.setIfInBounds_toArray, List.set_cons_zero, List.set_cons_succ]
        have hq := HE.out _ HP2.out
        have d2 := hq.2.1
        have f2 := hq.2.2.1
        have H9 := Lib.hid hq.2.2.2
        clear hq
        refine wpAnyH_ready (rs := [14]) (by kernel_rfl) (by simp) (AllReadyH.cons (ops_at rfl) (fun K hK => ?_) AllReadyH.nil)
        go_simp
        refine hK.out _ _ ((HE.out _ HP2.out).1.set2 _ HXN.out) (fun hS => ?_)
        clear hK K
        refine wpAnyH_done (by kernel_rfl) ?_ _
        refine NoPanic.normal ?_
        clear hS d2 f2
        go_wp2_with fail
        go_roundg (L - (i + 1))
        case measure => omega
        case rel => exact ⟨i + 1, by omega, rfl, by go_num, Lib.hid H9.out⟩
      refine AllReadyH.cons (ops_at rfl) (fun K hK => ?_) ?_
      · skip
        go_simp
        go_at_call 54
        refine HPc.out.mono ?_
        rintro e w9 ⟨rfl, hw⟩
        rw [hw]
        clear hw w9
        go_wp2_with fail
        refine hK.out _ _ HS8.out (fun hS => ?_)
        clear hK K
        refine wpAnyH_ready (rs := [3, 9]) (by kernel_rfl) (by simp) ?_
        refine AllReadyH.cons (ops_at rfl) (fun K hK => ?_) ?_
        · skip
          have d2 := HD2.out
          go_simp
          refine hK.out _ _ HS8.out (fun hS => ?_)
          clear hK K
          clear d2
          refine wpAnyH_ready (rs := [9]) (by kernel_rfl) (by simp) (AllReadyH.cons (ops_at rfl) (fun K hK => ?_) AllReadyH.nil)
          go_simp
          go_at_call 57
          refine HKe.out.mono ?_
          rintro e w9 ⟨rfl, hw⟩
          rw [hw]
          clear hw w9
          go_wp2_with fail
          refine hK.out _ _ HS8.out (fun hS => ?_)
          clear hK K
          refine wpAnyH_ready (rs := [10]) (by kernel_rfl) (by simp) (AllReadyH.cons (ops_at rfl) (fun K hK => ?_) AllReadyH.nil)
          go_simp
          go_at_call 53
          refine HSt.out.mono ?_
          rintro e w2 ⟨rfl, hp⟩
          have HP2 := Lib.hid hp
          clear hp
          go_wp2_with fail
          refine hK.out _ _ (HE.out _ HP2.out).1 (fun hS => ?_)
          clear hK K
          refine wpAnyH_take (i := 11) (v := ?_) (ops_at rfl) (by kernel_rfl) (by kernel_rfl) (by kernel_rfl) (fun _ _ _ h => h) (Or.inl ⟨by rfl, ?_⟩) hS ?_
          rotate_left
          · intro _ _; first | (go_simp; done) | (go_simp; with_reducible rfl)
          simp only [Act.put, List.setIfInBounds_toArray, List.set_cons_zero, List.set_cons_succ]
          refine wpAnyH_take (i := 12) (v := ?_) (ops_at rfl) (by kernel_rfl) (by kernel_rfl) (by kernel_rfl) (fun _ _ _ h => h) (Or.inl ⟨by rfl, ?_⟩) hS ?_
          rotate_left
          · intro _ _; first | (go_simp; done) | (go_simp; with_reducible rfl)
          simp only [Act.put, List.setIfInBounds_toArray, List.set_cons_zero, List.set_cons_succ]
          refine wpAnyH_take (i := 13) (v := ?_) (ops_at rfl) (by kernel_rfl) (by kernel_rfl) (by kernel_rfl) (fun _ _ _ h => h) (Or.inl ⟨by rfl, ?_⟩) hS ?_
          rotate_left
          · intro _ _; first | (go_simp; done) | (go_simp; with_reducible rfl)
          simp only [Act.put, List.setIfInBounds_toArray, List.set_cons_zero, List.set_cons_succ]
          have hq := HE.out _ HP2.out
          have d2 := hq.2.1
          have f2 := hq.2.2.1
          have H9 := Lib.hid hq.2.2.2
          clear hq
          refine wpAnyH_ready (rs := [14]) (by kernel_rfl) (by simp) (AllReadyH.cons (ops_at rfl) (fun K hK => ?_) AllReadyH.nil)
          go_simp
          refine hK.out _ _ ((HE.out _ HP2.out).1.set2 _ HXN.out) (fun hS => ?_)
          clear hK K
          refine wpAnyH_done (by kernel_rfl) ?_ _
          refine NoPanic.normal ?_
          clear hS d2 f2
          go_wp2_with fail
          go_roundg (L - (i + 1))
          case measure => omega
          case rel => exact ⟨i + 1, by omega, rfl, by go_num, Lib.hid H9.out⟩
        refine AllReadyH.cons (ops_at rfl) (fun K hK => ?_) ?_
        · skip
          go_simp
          go_at_call 57
          refine HKe.out.mono ?_
          rintro e w9 ⟨rfl, hw⟩
          rw [hw]
          clear hw w9
          go_wp2_with fail
          refine hK.out _ _ HS8.out (fun hS => ?_)
          clear hK K
          refine wpAnyH_ready (rs := [3, 10]) (by kernel_rfl) (by simp) ?_
          refine AllReadyH.cons (ops_at rfl) (fun K hK => ?_) ?_
          · skip
            have d2 := HD2.out
            go_simp
            refine hK.out _ _ HS8.out (fun hS => ?_)
            clear hK K
            clear d2
            refine wpAnyH_ready (rs := [10]) (by kernel_rfl) (by simp) (AllReadyH.cons (ops_at rfl) (fun K hK => ?_) AllReadyH.nil)
            go_simp
            go_at_call 53
            refine HSt.out.mono ?_
            rintro e w2 ⟨rfl, hp⟩
            have HP2 := Lib.hid hp
            clear hp
            go_wp2_with fail
            refine hK.out _ _ (HE.out _ HP2.out).1 (fun hS => ?_)
            clear hK K
            refine wpAnyH_take (i := 11) (v := ?_) (ops_at rfl) (by kernel_rfl) (by kernel_rfl) (by kernel_rfl) (fun _ _ _ h => h) (Or.inl ⟨by rfl, ?_⟩) hS ?_
            rotate_left
            · intro _ _; first | (go_simp; done) | (go_simp; with_reducible rfl)
            simp only [Act.put, List.setIfInBounds_toArray, List.set_cons_zero, List.set_cons_succ]
            refine wpAnyH_take (i := 12) (v := ?_) (ops_at rfl) (by kernel_rfl) (by kernel_rfl) (by kernel_rfl) (fun _ _ _ h => h) (Or.inl ⟨by rfl, ?_⟩) hS ?_
            rotate_left
            · intro _ _; first | (go_simp; done) | (go_simp; with_reducible rfl)
            simp only [Act.put, List.setIfInBounds_toArray, List.set_cons_zero, List.set_cons_succ]
            refine wpAnyH_take (i := 13) (v := ?_) (ops_at rfl) (by kernel_rfl) (by kernel_rfl) (by kernel_rfl) (fun _ _ _ h => h) (Or.inl ⟨by rfl, ?_⟩) hS ?_
            rotate_left
            · intro _ _; first | (go_simp; done) | (go_simp; with_reducible rfl)
            simp only [Act.put, List.setIfInBounds_toArray, List.set_cons_zero, List.set_cons_succ]
            have hq := HE.out _ HP2.out
            have d2 := hq.2.1
            have f2 := hq.2.2.1
            have H9 := Lib.hid hq.2.2.2
            clear hq
            refine wpAnyH_ready (rs := [14]) (by kernel_rfl) (by simp) (AllReadyH.cons (ops_at rfl) (fun K hK => ?_) AllReadyH.nil)
            go_simp
            refine hK.out _ _ ((HE.out _ HP2.out).1.set2 _ HXN.out) (fun hS => ?_)
            clear hK K
            refine wpAnyH_done (by kernel_rfl) ?_ _
            refine NoPanic.normal ?_
            clear hS d2 f2
            go_wp2_with fail
            go_roundg (L - (i + 1))
            case measure => omega
            case rel => exact ⟨i + 1, by omega, rfl, by go_num, Lib.hid H9.out⟩
          refine AllReadyH.cons (ops_at rfl) (fun K hK => ?_) ?_
          · skip
            go_simp
            go_at_call 53
            refine HSt.out.mono ?_
            rintro e w2 ⟨rfl, hp⟩
            have HP2 := Lib.hid hp
            clear hp
            go_wp2_with fail
            refine hK.out _ _ (HE.out _ HP2.out).1 (fun hS => ?_)
            clear hK K
            have d2 := (HE.out _ HP2.out).2.1
            refine wpAnyH_ready (rs := [3]) (by kernel_rfl) (by simp) (AllReadyH.cons (ops_at rfl) (fun K hK => ?_) AllReadyH.nil)
            go_simp
            refine hK.out _ _ (HE.out _ HP2.out).1 (fun hS => ?_)
            clear hK K
            clear d2
            refine wpAnyH_take (i := 11) (v := ?_) (ops_at rfl) (by kernel_rfl) (by kernel_rfl) (by kernel_rfl) (fun _ _ _ h => h) (Or.inl ⟨by rfl, ?_⟩) hS ?_
            rotate_left
            · intro _ _; first | (go_simp; done) | (go_simp; with_reducible rfl)
            simp only [Act.put, List.setIfInBounds_toArray, List.set_cons_zero, List.set_cons_succ]
            refine wpAnyH_take (i := 12) (v := ?_) (ops_at rfl) (by kernel_rfl) (by kernel_rfl) (by kernel_rfl) (fun _ _ _ h => h) (Or.inl ⟨by rfl, ?_⟩) hS ?_
            rotate_left
            · intro _ _; first | (go_simp; done) | (go_simp; with_reducible rfl)
            simp only [Act.put, List.setIfInBounds_toArray, List.set_cons_zero, List.set_cons_succ]
            refine wpAnyH_take (i := 13) (v := ?_) (ops_at rfl) (by kernel_rfl) (by kernel_rfl) (by kernel_rfl) (fun _ _ _ h => h) (Or.inl ⟨by rfl, ?_⟩) hS ?_
            rotate_left
            · intro _ _; first | (go_simp; done) | (go_simp; with_reducible rfl)
            simp only [Act.put, List.setIfInBounds_toArray, List.set_cons_zero, List.set_cons_succ]
            have hq := HE.out _ HP2.out
            have d2 := hq.2.1
            have f2 := hq.2.2.1
            have H9 := Lib.hid hq.2.2.2
            clear hq
            refine wpAnyH_ready (rs := [14]) (by kernel_rfl) (by simp) (AllReadyH.cons (ops_at rfl) (fun K hK => ?_) AllReadyH.nil)
            go_simp
            refine hK.out _ _ ((HE.out _ HP2.out).1.set2 _ HXN.out) (fun hS => ?_)
            clear hK K
            refine wpAnyH_done (by kernel_rfl) ?_ _
            refine NoPanic.normal ?_
            clear hS d2 f2
            go_wp2_with fail
            go_roundg (L - (i + 1))
            case measure => omega
            case rel => exact ⟨i + 1, by omega, rfl, by go_num, Lib.hid H9.out⟩
          exact AllReadyH.nil
        exact AllReadyH.nil
      exact AllReadyH.nil
    · have hki : ¬ (i : Int) < (L : Int) := by omega
      obtain rfl : i = L := by omega
      have HEnd := Lib.hid (show PSays O W b { D1 with fs := upL keep D1.fs 0 } (.tuple #[]) (.returned (.tuple #[])) wr from by
        have hk : KeepO O W wr := ⟨hk5.os.trans hKO5.os, hk5.tape.trans hKO5.tape, hk5.output.trans hKO5.output, Nat.le_trans hKO5.size hk5.size, fun k hk hn => (hk5.block k (Nat.lt_of_lt_of_le hk hKO5.size) fun ho => by
          rcases hO5 k ho with ho | ho
          · exact hn ho
          · have := HX1.out; omega).trans (hKO5.block k hk hn)⟩
        have e : upK keep D1.fs 0 i = upL keep D1.fs 0 := by rw [HLn.out]; exact upK_all keep D1.fs 0
        rw [e] at hP
        refine ⟨rfl, ⟨m4, q4, T4, pl', hP.keep (fun k hk2 => ?_) fun _ _ _ => rfl⟩, hk⟩
        have h6 := hk5.size
        have h7 := hKO5.size
        have h8 := HX1.out
        rcases hk2 with hk2 | hk2
        · rcases hO5 k hk2 with ho | ho
          · exact .inl ho
          · exact .inr ⟨by omega, by omega⟩
        · exact .inr ⟨by omega, hk2.2⟩)
      clear hPF5 hBx5 hLN5 hKO5 hO5 hx1O hH hP hk5
      go_wp2_with fail
      refine bodyPost_end (results_none rfl _ _ _) rfl ?_
      exact HEnd.out
end Go.Proofs.Ytaijjjlpbpogfaa
