/- Contracts of the program's New, Used, Deeds, Alive, Arm, Quota, Read. Names in a row, sorted; the power there again, file by file: mathematics. -/
import Derived.Test.YtmblbogpkdkncaaGreatMP13Create
import Derived.Lib.SliceRun
import Derived.Test.YtmblbogpkdkncaaGreatP13Rep
import Derived.Sort.KeysCollected
import Derived.Lib.Strings
namespace Go.Proofs.YtmblbogpkdkncaaGreat
open Go.RowKit

/-- What is told is new, and not the drive's. -/
def PTold (O : Nat → Prop) (W : World) (b : Nat) (D : Dr) (v : Value) (w' : World) : Prop := PD w' b D (fun k => NewO O W w' k ∧ v.ownBlock ≠ some k) ∧ KeepO O W w'
theorem pnew_bad (q : Int) (W : World) (h : ¬ newOk q) (_ : M63 q) : Calls Tryz.prog 7 #[.int .i64 q] W (fun e w' => e = .returned (.pointer none) ∧ Below W.heap.size W w') := by
  have HB := Lib.hid (fun W => mayBe_p q W)
  rw [decide_eq_false h] at HB
  clear h
  go_enter Tryz.func7, Tryz.ntmps7
  go_wp2_with (go_at_call 19; refine (HB.out _).mono ?_; rintro e w1 ⟨rfl, rfl⟩)
  go_ret
  exact ⟨rfl, Below.refl _ _⟩
set_option maxHeartbeats 1000000 in
theorem pnew_any (q : Int) (W : World) (h : newOk q) : Calls Tryz.prog 7 #[.int .i64 q] W (fun e w' => ∃ b, e = .returned (.pointer (some ⟨b, 0, none⟩)) ∧ PD w' b (newD q) (fun k => W.heap.size ≤ k ∧ k < w'.heap.size) ∧ Below W.heap.size W w') := by
  have HB := Lib.hid (fun W => mayBe_p q W)
  rw [decide_eq_true h] at HB
  have hmm := @run_makeMap Tryz.prog
  have HE := Lib.hid (show PD ((W.alloc (.map #[] 0)).alloc (.cells #[.map (some W.heap.size), .int .i64 q, .int .i64 0, .int .i64 0, .int .i64 (-1), .bool false] 51)) (W.heap.size + 1) (newD q) (fun k => W.heap.size ≤ k ∧ k < W.heap.size + 2) from by
    have h0 := World.ownsMap_made W Tryz.prog 9 ptrElem
    have h1 := heap_alloc_new (W.alloc (.map #[] 0)) (.cells #[.map (some W.heap.size), .int .i64 q, .int .i64 0, .int .i64 0, .int .i64 (-1), .bool false] 51)
    have e1 : (W.alloc (.map #[] 0)).heap.size = W.heap.size + 1 := by simp
    rw [e1] at h1
    exact ⟨W.heap.size, -1, .map [], fun _ => ⟨0, .slice none 0 0, .slice none 0 0⟩, ⟨h1, ⟨by omega, by omega⟩, ⟨by omega, by omega⟩, by omega, ⟨.inr (.inl rfl), ⟨by decide, by decide⟩⟩, List.Pairwise.nil, h0.alloc _, rfl, fun n => rfl, fun f hf => absurd hf List.not_mem_nil, fun f hf => absurd hf List.not_mem_nil, fun f hf => absurd hf List.not_mem_nil⟩⟩)
  have HBl := Lib.hid (show Below W.heap.size W ((W.alloc (.map #[] 0)).alloc (.cells #[.map (some W.heap.size), .int .i64 q, .int .i64 0, .int .i64 0, .int .i64 (-1), .bool false] 51)) from ((Below.refl _ _).alloc (Nat.le_refl _) _).alloc (by simp) _)
  clear h
  go_enter Tryz.func7, Tryz.ntmps7
  go_wp2_with (go_at_call 19; refine (HB.out _).mono ?_; rintro e w1 ⟨rfl, rfl⟩)
  go_ret
  refine ⟨_, rfl, ?_, HBl.out⟩
  simpa using HE.out
section
variable {W : World} {b : Nat} {D : Dr} {O : Nat → Prop}
theorem qused (h : PD W b D O) : Calls Tryz.prog 15 #[.pointer (some ⟨b, 0, none⟩)] W (PSays O W b D (.int .i64 (usedD D.fs : Int))) := by
  have HE := Lib.hid (show PSays O W b D (.int .i64 (usedD D.fs : Int)) (.returned (.int .i64 (usedD D.fs : Int))) W from ⟨rfl, h.keep (fun _ h => .inl h) fun _ _ _ => rfl, KeepO.refl _ _⟩)
  obtain ⟨m, q, T, pl, h⟩ := h
  obtain ⟨-, -, c2, -⟩ := h.cells
  clear h
  go_enter Tryz.func15, Tryz.ntmps15
  go_wp2_with fail
  go_ret
  exact HE.out
theorem qalive (h : PD W b D O) : Calls Tryz.prog 21 #[.pointer (some ⟨b, 0, none⟩)] W (PSays O W b D (.bool (!D.down))) := by
  have HE := Lib.hid (show PSays O W b D (.bool (!D.down)) (.returned (.bool (!D.down))) W from ⟨rfl, h.keep (fun _ h => .inl h) fun _ _ _ => rfl, KeepO.refl _ _⟩)
  obtain ⟨m, q, T, pl, h⟩ := h
  obtain ⟨-, -, -, -, -, c5⟩ := h.cells
  clear h
  go_enter Tryz.func21, Tryz.ntmps21
  go_wp2_with fail
  go_ret
  exact HE.out
end
set_option maxRecDepth 100000 in
/-- slices.Clone at bytes. -/
theorem bclone_p (W : World) (X : Option Addr) (n c : Nat) (xs : List Value) (hx : W.ownsRow 0 5 1 (.slice X n c) n xs) (h1 : ∀ u ∈ xs, u.oneCell' = true) (hn : n ≤ 8589934592) :
    Calls Tryz.prog 59 #[.slice X n c] W (fun e w' => ∃ Y k, e = .returned (.slice Y n k) ∧ w'.ownsRow W.heap.size 5 1 (.slice Y n k) n xs ∧ Below W.heap.size W w') := by
  have q33 : ∀ (w : World) (a : Option Addr) (n c n' c' : Nat), (binOp .eql 69 (.slice a n c) (.slice none n' c')).run Tryz.prog w = .ok (.bool a.isNone) w := fun w a n c n' c' => Lib.run_eql_slice_nil w _ _ a n c n' c' Tryz.underlying69
  cases X with
  | none =>
    obtain ⟨X', c', hv, -, hn0, -⟩ := own_slice hx
    injection hv with e1 e2 e3
    obtain ⟨h0, h00⟩ := hn0 e1.symm
    subst h0
    rw [h00] at e3
    subst e3
    have hxs : xs = [] := List.eq_nil_of_length_eq_zero (by simpa using hx.1)
    subst hxs
    clear hx h1 hn e1 h00 hn0
    go_enter Tryz.func59, Tryz.ntmps59
    go_wp2_with fail
    go_ret
    exact ⟨none, 0, rfl, World.ownsRow_nil _ _ _ _, Below.refl _ _⟩
  | some a =>
    obtain ⟨X', c', hv, -, -, hs⟩ := own_slice hx
    injection hv with e1 e2 e3
    obtain ⟨g, rfl, -, hg, hcl⟩ := hs a e1.symm
    obtain ⟨i0, hi, hz0, hz1, hz2⟩ := info_parts infoU8
    have hmade : (W.alloc (.cells #[] 5)).ownsRow W.heap.size 5 1 (.slice (some ⟨W.heap.size, 0, none⟩) 0 0) 0 [] := World.ownsRow_made W #[] 0 (Nat.le_refl _) (Nat.zero_le _) rfl
    have hlen : xs.length = n := by have := hx.1; omega
    obtain ⟨v', w', hr, ho, hgr, _, _⟩ := run_append_own_at (P := Tryz.prog) (W.alloc (.cells #[] 5)) W.heap.size 69 69 5 i0 (.int .u8 0) 1 1 Tryz.underlying69 hi hz0 hz1 hz2 rfl (by decide) _ _ _ hmade ⟨g, 0, none⟩ n c xs (by omega) (fun j u hu => by
      have h3 := hcl j u hu
      have hb := (Below.refl W.heap.size W).alloc (Nat.le_refl _) (.cells #[] 5)
      exact (hb.cell (p := (⟨g, 0, none⟩ : Addr).add j) (by rw [addr_add_block]; exact hg)).trans h3) h1 (by unfold maxLen; omega) (by omega) (by simp)
    rw [Nat.zero_add, List.nil_append] at ho
    obtain ⟨Y, k, rfl, -⟩ := own_slice ho
    have HR := Lib.hid hr
    have HO := Lib.hid (And.intro ho (((Below.refl W.heap.size W).alloc (Nat.le_refl _) (.cells #[] 5)).grown hgr (by simp) (fun k hk => by cases hk; exact Nat.le_refl _)))
    clear hx h1 hn hr ho hgr hmade hlen hcl hs hi hz0 hz1 hz2 e1 e3
    go_enter Tryz.func59, Tryz.ntmps59
    go_wp2_with (at_builtin; refine wpList_append_run rfl _ _ 69 rfl rfl rfl HR.out ?_)
    go_ret
    exact ⟨Y, k, rfl, HO.out⟩
set_option maxHeartbeats 1000000 in
theorem qread {W : World} {b : Nat} {D : Dr} {O : Nat → Prop} (h : PD W b D O) (hg : GoP D) (hO : ∀ k, O k → k < W.heap.size) (n : ByteArray) (hn : n.size ≤ 1000) : Calls Tryz.prog 41 #[.pointer (some ⟨b, 0, none⟩), .string n] W (fun e w' => ∃ X c, e = .returned (.tuple #[.slice X (readT D n).size c, .int .i64 (readE D n)]) ∧ w'.ownsRow W.heap.size 5 1 (.slice X (readT D n).size c) (readT D n).size ((txt (readT D n)).map (Value.int .u8)) ∧ PTold O W b D (.slice X (readT D n).size c) w') := by
  have hS : wtL D.fs ≤ 4294967296 := hg.2
  have hT : ∀ e, Below W.heap.size W e → ∀ Y k N, e.ownsRow W.heap.size 5 1 (.slice Y N k) N ((txt (readT D n)).map (Value.int .u8)) → PTold O W b D (.slice Y N k) e := fun e hb Y k N ho =>
    ⟨h.keep (fun j hj => ⟨.inl hj, fun hown => by have := own_ge ho hown; have := hO j hj; omega⟩) fun j _ hj => hb.block j hj, KeepO.of hb⟩
  obtain ⟨m, q, T, pl, h⟩ := h
  obtain ⟨c0, -, -, -, -, c5⟩ := h.cells
  cases hd : D.down with
  | true =>
    rw [hd] at c5
    obtain ⟨e1, e2⟩ := readT_down (n := n) hd
    have HT := Lib.hid (hT W (Below.refl _ _) none 0 0 (by rw [e1]; exact World.ownsRow_nil _ _ _ _))
    rw [e1, e2]
    clear h hg hT hd e1 e2 hS c0
    go_enter Tryz.func41, Tryz.ntmps41
    go_wp2_with fail
    go_ret2
    exact ⟨none, 0, rfl, World.ownsRow_nil _ _ _ _, HT.out⟩
  | false =>
    rw [hd] at c5
    have HTh := Lib.hid (there_p h n hn)
    cases ha : atD D.fs n with
    | none =>
      obtain ⟨e1, e2⟩ := readT_none hd ha
      have hE : thereE D n = 10 := by unfold thereE; rw [ha]; rfl
      have HT := Lib.hid (hT W (Below.refl _ _) none 0 0 (by rw [e1]; exact World.ownsRow_nil _ _ _ _))
      rw [hE] at HTh
      rw [e1, e2]
      clear h hg hT hd e1 e2 hS c0 hE ha
      go_enter Tryz.func41, Tryz.ntmps41
      go_wp2_with (go_at_call 58; refine HTh.out.mono ?_; rintro e w1 ⟨rfl, rfl⟩)
      go_ret2
      exact ⟨none, 0, rfl, World.ownsRow_nil _ _ _ _, HT.out⟩
    | some k =>
      obtain ⟨f, h1, h2, -⟩ := atD_some ha
      have hf := List.mem_of_getElem? h1
      obtain ⟨e1, e2⟩ := readT_some hd ha h1
      have hE : thereE D n = 0 := by unfold thereE; rw [ha]; rfl
      rw [hE] at HTh
      have hl := h.look_some hf (by rw [h2]; exact hn)
      rw [h2] at hl
      have hff := (h.files f hf).1
      rw [h2] at hff
      obtain ⟨g0, -, -⟩ := hff.cells
      obtain ⟨X, c, hX, -⟩ := own_slice hff.x
      have hx := hff.x
      rw [hX] at hx g0
      have hwt := wt_mem hf
      unfold wtF at hwt
      have hal : f.all = joinP f.safe f.pcs := rfl
      have HC := Lib.hid (bclone_p W X _ c _ hx (fun u hu => by obtain ⟨e, _, rfl⟩ := List.mem_map.1 hu; rfl) (by rw [← hal]; omega))
      rw [← hal] at HC g0
      have hdv : dataV f.safe f.pcs = (txt (readT D n)).map (Value.int .u8) := by rw [e1]; rfl
      rw [hdv] at HC
      rw [e2]
      have hsz : f.all.size = (readT D n).size := by rw [e1]
      rw [hsz] at HC g0
      have HT := Lib.hid hT
      obtain ⟨N, hN⟩ : ∃ N, N = (readT D n).size := ⟨_, rfl⟩
      rw [← hN] at HC g0 ⊢
      clear h hg hT hd e1 e2 hS hE ha h1 h2 hf hff hX hx hwt hal hdv hsz hN
      generalize (pl n).g = g at *
      go_enter Tryz.func41, Tryz.ntmps41
      go_wp2_with (first
        | (go_at_call 58; refine HTh.out.mono ?_; rintro e w1 ⟨rfl, hw⟩; rw [hw]; clear hw w1)
        | (go_at_call 59; refine HC.out.mono ?_; rintro e w2 ⟨Y, j, rfl, hp⟩; have HP := Lib.hid hp; clear hp))
      go_ret2
      exact ⟨Y, j, rfl, HP.out.1, HT.out _ HP.out.2 _ _ _ HP.out.1⟩
end Go.Proofs.YtmblbogpkdkncaaGreat
namespace Go.Proofs.YtmblbogpkdkncaaGreat
open Go.RowKit

def bytesL (s : ByteArray) : List UInt8 := s.data.toList
theorem encStr_bytes (s : ByteArray) : encStr (bytesL s) = .string s := by simp [encStr, bytesL]
theorem preB_has (s p : ByteArray) : preB s p = Lib.hasPrefix (bytesL s) (bytesL p) := by
  unfold preB Lib.hasPrefix bytesL
  rw [Bool.eq_iff_iff, decide_eq_true_iff, List.isPrefixOf_iff_prefix, List.prefix_iff_eq_take]
  have e1 : p.data.toList.length = p.size := by simp
  rw [e1]
  have e2 : (s.extract 0 p.size).data.toList = s.data.toList.take p.size := by
    rw [ByteArray.data_extract, Array.toList_extract, List.extract_eq_take_drop]
    simp
  constructor
  · rintro ⟨h1, h2⟩
    rw [← e2, h2]
  · intro h
    have h2 : s.extract 0 p.size = p := ByteArray.ext (Array.toList_inj.1 (e2.trans h.symm))
    refine ⟨?_, h2⟩
    have h3 := congrArg ByteArray.size h2
    rw [ByteArray.size_extract] at h3
    omega
/-- What was collected, of that what begins so, sorted: the drive's list. -/
theorem list_sorted {D : Dr} {T : DataW Unit} (hs : Srt D.fs) (hd : D.down = false) (hhas : ∀ n, Go.Maps.has T (keyB n) = (atD D.fs n).isSome) (p : ByteArray) {ss : List (List UInt8)} (hnd : ss.Nodup) (hss : ∀ x, x ∈ ss ↔ Go.Maps.has T (.string x) = true) :
    (ss.filter fun x => Lib.hasPrefix x (bytesL p)).mergeSort (fun x y => decide (x ≤ y)) = (listD D p).map bytesL := by
  have hl : listD D p = (D.fs.map Fl.name).filter fun s => preB s p := by unfold listD; rw [hd]; rfl
  have hsr : (listD D p).Pairwise fun a b => ltB a b = true := by
    rw [hl]
    exact List.Pairwise.sublist List.filter_sublist (List.pairwise_map.2 hs)
  have hsr2 : ((listD D p).map bytesL).Pairwise fun a b => a < b := by
    refine List.pairwise_map.2 (hsr.imp fun {a b} h => ?_)
    rw [ltB_lt] at h
    exact of_decide_eq_true h
  have hnd2 : ((listD D p).map bytesL).Nodup := hsr2.imp fun {a b} h e => by
    subst e
    exact List.lt_irrefl _ h
  have hperm : (ss.filter fun x => Lib.hasPrefix x (bytesL p)).Perm ((listD D p).map bytesL) := by
    refine (List.perm_ext_iff_of_nodup (List.Pairwise.sublist List.filter_sublist hnd) hnd2).2 fun x => ?_
    rw [List.mem_filter, hss x, List.mem_map, hl]
    have hx : (.string x : Lit) = keyB ⟨x.toArray⟩ := by simp [keyB]
    rw [hx, hhas, at_isSome]
    constructor
    · rintro ⟨⟨f, h1, h2⟩, h3⟩
      refine ⟨f.name, List.mem_filter.2 ⟨List.mem_map_of_mem h1, ?_⟩, by rw [h2]; simp [bytesL]⟩
      rw [preB_has, h2]
      simpa [bytesL] using h3
    · rintro ⟨n, h1, rfl⟩
      obtain ⟨h2, h3⟩ := List.mem_filter.1 h1
      obtain ⟨f, h4, h5⟩ := List.mem_map.1 h2
      refine ⟨⟨f, h4, by rw [h5]; simp [bytesL]⟩, ?_⟩
      rw [← preB_has]
      exact h3
  have tr : ∀ a b c : List UInt8, leB a b = true → leB b c = true → leB a c = true := fun a b c h1 h2 => by simp only [leB, decide_eq_true_eq] at *; exact List.le_trans h1 h2
  have tot : ∀ a b : List UInt8, (leB a b || leB b a) = true := fun a b => by simp only [leB, Bool.or_eq_true, decide_eq_true_eq]; exact List.le_total a b
  refine List.Perm.eq_of_pairwise (le := fun a b => leB a b = true) (fun a b _ _ h1 h2 => ?_) (List.pairwise_mergeSort tr tot _) (hsr2.imp fun {a b} h => ?_) ((List.mergeSort_perm _ leB).trans hperm)
  · simp only [leB, decide_eq_true_eq] at h1 h2
    exact List.le_antisymm h1 h2
  · simp only [leB, decide_eq_true_eq]
    exact List.le_of_lt h
theorem map_enc (l : List ByteArray) : (l.map bytesL).map encStr = l.map Value.string := by
  rw [List.map_map]
  exact List.map_congr_left fun s _ => encStr_bytes s
open Go.RowKit

/-- A file keeps the first of its pieces. -/
def keptF (keep : List Int) (i : Nat) (f : Fl) : Fl := ⟨f.name, joinP f.safe (f.pcs.take (keepN keep i f.pcs.length)), []⟩
/-- The files with pieces. -/
def eligF (fs : List Fl) : List Fl := fs.filter fun f => decide (f.pcs.length ≠ 0)
/-- The first n files that have pieces keep theirs. -/
def upK (keep : List Int) : List Fl → Nat → Nat → List Fl
  | [], _, _ => []
  | f :: r, i, n => if f.pcs.length = 0 then f :: upK keep r i n else match n with
    | 0 => f :: r
    | n + 1 => keptF keep i f :: upK keep r (i + 1) n
theorem upK_zero (keep : List Int) : ∀ (fs : List Fl) (i : Nat), upK keep fs i 0 = fs
  | [], _ => rfl
  | f :: r, i => by
    unfold upK
    split
    · rw [upK_zero keep r i]
    · rfl
theorem upK_all (keep : List Int) : ∀ (fs : List Fl) (i : Nat), upK keep fs i (eligF fs).length = upL keep fs i
  | [], _ => rfl
  | f :: r, i => by
    unfold upK upL eligF
    by_cases h : f.pcs.length = 0
    · rw [if_pos h, if_pos h, List.filter_cons_of_neg (by simp [h])]
      exact congrArg _ (upK_all keep r i)
    · rw [if_neg h, if_neg h, List.filter_cons_of_pos (by simp [h]), List.length_cons]
      exact congrArg _ (upK_all keep r (i + 1))
theorem upK_names (keep : List Int) : ∀ (fs : List Fl) (i n : Nat), (upK keep fs i n).map Fl.name = fs.map Fl.name
  | [], _, _ => rfl
  | f :: r, i, n => by
    unfold upK
    split
    · rw [List.map_cons, List.map_cons, upK_names keep r i n]
    · cases n with
      | zero => rfl
      | succ n =>
        show (keptF keep i f).name :: (upK keep r (i + 1) n).map Fl.name = _
        rw [upK_names keep r (i + 1) n]
        rfl
theorem upK_step (keep : List Int) : ∀ (fs : List Fl) (i n : Nat) (f : Fl), Srt fs → (eligF fs)[n]? = some f → f ∈ upK keep fs i n ∧ upK keep fs i (n + 1) = (upK keep fs i n).map fun x => if x.name = f.name then keptF keep (i + n) x else x
  | [], _, _, _, _, h => by simp [eligF] at h
  | g :: r, i, n, f, hs, h => by
    obtain ⟨h1, h2⟩ := List.pairwise_cons.1 hs
    by_cases hg : g.pcs.length = 0
    · have he : eligF (g :: r) = eligF r := by unfold eligF; rw [List.filter_cons_of_neg (by simp [hg])]
      rw [he] at h
      have hfr : f ∈ r := (List.mem_filter.1 (List.mem_of_getElem? h)).1
      obtain ⟨k1, k2⟩ := upK_step keep r i n f h2 h
      have hne := ltB_ne (h1 f hfr)
      have e : ∀ n, upK keep (g :: r) i n = g :: upK keep r i n := fun n => by
        conv => lhs; unfold upK
        rw [if_pos hg]
      rw [e, e, k2, List.map_cons, if_neg hne]
      exact ⟨List.mem_cons_of_mem _ k1, rfl⟩
    · have he : eligF (g :: r) = g :: eligF r := by unfold eligF; rw [List.filter_cons_of_pos (by simp [hg])]
      rw [he] at h
      cases n with
      | zero =>
        rw [List.getElem?_cons_zero] at h
        injection h with h
        subst h
        have e0 : upK keep (g :: r) i 0 = g :: r := upK_zero keep _ _
        have e1 : upK keep (g :: r) i 1 = keptF keep i g :: r := by
          conv => lhs; unfold upK
          rw [if_neg hg]
          show keptF keep i g :: upK keep r (i + 1) 0 = _
          rw [upK_zero]
        rw [e0, e1, List.map_cons, if_pos rfl]
        refine ⟨List.mem_cons_self, congrArg _ ?_⟩
        conv => lhs; rw [← List.map_id r]
        refine List.map_congr_left fun x hx => ?_
        rw [if_neg fun e => ltB_ne (h1 x hx) e.symm]
        rfl
      | succ n =>
        rw [List.getElem?_cons_succ] at h
        have hfr : f ∈ r := (List.mem_filter.1 (List.mem_of_getElem? h)).1
        obtain ⟨k1, k2⟩ := upK_step keep r (i + 1) n f h2 h
        have hne := ltB_ne (h1 f hfr)
        have e : ∀ n, upK keep (g :: r) i (n + 1) = keptF keep i g :: upK keep r (i + 1) n := fun n => by
          conv => lhs; unfold upK
          rw [if_neg hg]
        rw [e, e, k2, List.map_cons, if_neg (show (keptF keep i g).name ≠ f.name from hne), show i + 1 + n = i + (n + 1) by omega]
        exact ⟨List.mem_cons_of_mem _ k1, rfl⟩
/-- Has a file of this name no pieces? -/
def wholeB (fs : List Fl) (n : ByteArray) : Bool := decide (∀ f ∈ fs, f.name = n → f.pcs.length = 0)
theorem wholeB_at {fs : List Fl} (hs : Srt fs) {f : Fl} (hf : f ∈ fs) : wholeB fs f.name = decide (f.pcs.length = 0) := by
  unfold wholeB
  rw [decide_eq_decide]
  constructor
  · intro h; exact h f hf rfl
  · intro h g hg e
    rw [srt_uniq hs g hg f hf e]
    exact h
theorem list_all {D : Dr} (hd : D.down = false) : listD D ⟨#[]⟩ = D.fs.map Fl.name := by
  unfold listD
  rw [hd]
  refine List.filter_eq_self.2 fun s _ => ?_
  rw [preB_has]
  rfl
theorem left_names {fs : List Fl} (hs : Srt fs) : ((fs.map Fl.name).filter fun n => !wholeB fs n) = (eligF fs).map Fl.name := by
  unfold eligF
  rw [List.filter_map]
  refine congrArg _ (List.filter_congr fun f hf => ?_)
  show (!wholeB fs f.name) = decide (f.pcs.length ≠ 0)
  rw [wholeB_at hs hf]
  by_cases h : f.pcs.length = 0 <;> simp [h]
theorem used_mem : ∀ {fs : List Fl} {f : Fl}, f ∈ fs → f.all.size ≤ usedD fs
  | [], _, h => absurd h List.not_mem_nil
  | g :: r, f, h => by
    have e : usedD (g :: r) = g.all.size + usedD r := by simp [usedD]
    rcases List.mem_cons.1 h with rfl | h
    · omega
    · have := used_mem h
      omega
theorem upK_le (keep : List Int) : ∀ (fs : List Fl) (i n : Nat), usedD (upK keep fs i n) ≤ usedD fs
  | [], _, _ => Nat.le_refl _
  | f :: r, i, n => by
    have e : ∀ (a : Fl) (l : List Fl), usedD (a :: l) = a.all.size + usedD l := fun a l => by simp [usedD]
    unfold upK
    split
    · have := upK_le keep r i n
      rw [e, e]
      omega
    · cases n with
      | zero => exact Nat.le_refl _
      | succ n =>
        have h1 := upK_le keep r (i + 1) n
        have h2 : (keptF keep i f).all.size ≤ f.all.size := take_le f.safe f.pcs _
        show usedD (keptF keep i f :: upK keep r (i + 1) n) ≤ _
        rw [e, e]
        omega
end Go.Proofs.YtmblbogpkdkncaaGreat
