/- Names in a row, sorted; the power there again, file by file: mathematics. -/
import Derived.Test.YtaijjjlpbpogfaaP13Rep
import Derived.Sort.KeysCollected
import Derived.Lib.Strings
namespace Go.Proofs.Ytaijjjlpbpogfaa
open Go.RowKit

def bytesL (s : ByteArray) : List UInt8 := s.data.toList
theorem encStr_bytes (s : ByteArray) : encStr (bytesL s) = .string s := by simp [encStr, bytesL]
theorem preB_has (s p : ByteArray) : preB s p = Lib.hasPrefix (bytesL s) (bytesL p) := by
  unfold preB Lib.hasPrefix bytesL
  rw [Bool.eq_iff_iff, decide_eq_true_iff, List.isPrefixOf_iff_prefix, List.prefix_iff_eq_take]
  have e1 : p.data.toList.length = p.size := by simp
  rw [e1]
  have e2 : (s.extract 0 p.size).data.toList = s.data.toList.take p.size := by
    rw [ByteArray.data_extract, Array.toList_extract, List.extract_eq_take_drop]
    simp
  constructor
  · rintro ⟨h1, h2⟩
    rw [← e2, h2]
  · intro h
    have h2 : s.extract 0 p.size = p := ByteArray.ext (Array.toList_inj.1 (e2.trans h.symm))
    refine ⟨?_, h2⟩
    have h3 := congrArg ByteArray.size h2
    rw [ByteArray.size_extract] at h3
    omega
/-- What was collected, of that what begins so, sorted: the drive's list. -/
theorem list_sorted {D : Dr} {T : DataW Unit} (hs : Srt D.fs) (hd : D.down = false) (hhas : ∀ n, Go.Maps.has T (keyB n) = (atD D.fs n).isSome) (p : ByteArray) {ss : List (List UInt8)} (hnd : ss.Nodup) (hss : ∀ x, x ∈ ss ↔ Go.Maps.has T (.string x) = true) :
    (ss.filter fun x => Lib.hasPrefix x (bytesL p)).mergeSort (fun x y => decide (x ≤ y)) = (listD D p).map bytesL := by
  have hl : listD D p = (D.fs.map Fl.name).filter fun s => preB s p := by unfold listD; rw [hd]; rfl
  have hsr : (listD D p).Pairwise fun a b => ltB a b = true := by
    rw [hl]
    exact List.Pairwise.sublist List.filter_sublist (List.pairwise_map.2 hs)
  have hsr2 : ((listD D p).map bytesL).Pairwise fun a b => a < b := by
    refine List.pairwise_map.2 (hsr.imp fun {a b} h => ?_)
    rw [ltB_lt] at h
    exact of_decide_eq_true h
  have hnd2 : ((listD D p).map bytesL).Nodup := hsr2.imp fun {a b} h e => by
    subst e
    exact List.lt_irrefl _ h
  have hperm : (ss.filter fun x => Lib.hasPrefix x (bytesL p)).Perm ((listD D p).map bytesL) := by
    refine (List.perm_ext_iff_of_nodup (List.Pairwise.sublist List.filter_sublist hnd) hnd2).2 fun x => ?_
    rw [List.mem_filter, hss x, List.mem_map, hl]
    have hx : (.string x : Lit) = keyB ⟨x.toArray⟩ := by simp [keyB]
    rw [hx, hhas, at_isSome]
    constructor
    · rintro ⟨⟨f, h1, h2⟩, h3⟩
      refine ⟨f.name, List.mem_filter.2 ⟨List.mem_map_of_mem h1, ?_⟩, by rw [h2]; simp [bytesL]⟩
      rw [preB_has, h2]
      simpa [bytesL] using h3
    · rintro ⟨n, h1, rfl⟩
      obtain ⟨h2, h3⟩ := List.mem_filter.1 h1
      obtain ⟨f, h4, h5⟩ := List.mem_map.1 h2
      refine ⟨⟨f, h4, by rw [h5]; simp [bytesL]⟩, ?_⟩
      rw [← preB_has]
      exact h3
  have tr : ∀ a b c : List UInt8, leB a b = true → leB b c = true → leB a c = true := fun a b c h1 h2 => by simp only [leB, decide_eq_true_eq] at *; exact List.le_trans h1 h2
  have tot : ∀ a b : List UInt8, (leB a b || leB b a) = true := fun a b => by simp only [leB, Bool.or_eq_true, decide_eq_true_eq]; exact List.le_total a b
  refine List.Perm.eq_of_pairwise (le := fun a b => leB a b = true) (fun a b _ _ h1 h2 => ?_) (List.pairwise_mergeSort tr tot _) (hsr2.imp fun {a b} h => ?_) ((List.mergeSort_perm _ leB).trans hperm)
  · simp only [leB, decide_eq_true_eq] at h1 h2
    exact List.le_antisymm h1 h2
  · simp only [leB, decide_eq_true_eq]
    exact List.le_of_lt h
theorem map_enc (l : List ByteArray) : (l.map bytesL).map encStr = l.map Value.string := by
  rw [List.map_map]
  exact List.map_congr_left fun s _ => encStr_bytes s
open Go.RowKit

/-- A file keeps the first of its pieces. -/
def keptF (keep : List Int) (i : Nat) (f : Fl) : Fl := ⟨f.name, joinP f.safe (f.pcs.take (keepN keep i f.pcs.length)), []⟩
/-- The files with pieces. -/
def eligF (fs : List Fl) : List Fl := fs.filter fun f => decide (f.pcs.length ≠ 0)
/-- The first n files that have pieces keep theirs. -/
def upK (keep : List Int) : List Fl → Nat → Nat → List Fl
  | [], _, _ => []
  | f :: r, i, n => if f.pcs.length = 0 then f :: upK keep r i n else match n with
    | 0 => f :: r
    | n + 1 => keptF keep i f :: upK keep r (i + 1) n
theorem upK_zero (keep : List Int) : ∀ (fs : List Fl) (i : Nat), upK keep fs i 0 = fs
  | [], _ => rfl
  | f :: r, i => by
    unfold upK
    split
    · rw [upK_zero keep r i]
    · rfl
theorem upK_all (keep : List Int) : ∀ (fs : List Fl) (i : Nat), upK keep fs i (eligF fs).length = upL keep fs i
  | [], _ => rfl
  | f :: r, i => by
    unfold upK upL eligF
    by_cases h : f.pcs.length = 0
    · rw [if_pos h, if_pos h, List.filter_cons_of_neg (by simp [h])]
      exact congrArg _ (upK_all keep r i)
    · rw [if_neg h, if_neg h, List.filter_cons_of_pos (by simp [h]), List.length_cons]
      exact congrArg _ (upK_all keep r (i + 1))
theorem upK_names (keep : List Int) : ∀ (fs : List Fl) (i n : Nat), (upK keep fs i n).map Fl.name = fs.map Fl.name
  | [], _, _ => rfl
  | f :: r, i, n => by
    unfold upK
    split
    · rw [List.map_cons, List.map_cons, upK_names keep r i n]
    · cases n with
      | zero => rfl
      | succ n =>
        show (keptF keep i f).name :: (upK keep r (i + 1) n).map Fl.name = _
        rw [upK_names keep r (i + 1) n]
        rfl
theorem upK_step (keep : List Int) : ∀ (fs : List Fl) (i n : Nat) (f : Fl), Srt fs → (eligF fs)[n]? = some f → f ∈ upK keep fs i n ∧ upK keep fs i (n + 1) = (upK keep fs i n).map fun x => if x.name = f.name then keptF keep (i + n) x else x
  | [], _, _, _, _, h => by simp [eligF] at h
  | g :: r, i, n, f, hs, h => by
    obtain ⟨h1, h2⟩ := List.pairwise_cons.1 hs
    by_cases hg : g.pcs.length = 0
    · have he : eligF (g :: r) = eligF r := by unfold eligF; rw [List.filter_cons_of_neg (by simp [hg])]
      rw [he] at h
      have hfr : f ∈ r := (List.mem_filter.1 (List.mem_of_getElem? h)).1
      obtain ⟨k1, k2⟩ := upK_step keep r i n f h2 h
      have hne := ltB_ne (h1 f hfr)
      have e : ∀ n, upK keep (g :: r) i n = g :: upK keep r i n := fun n => by
        conv => lhs; unfold upK
        rw [if_pos hg]
      rw [e, e, k2, List.map_cons, if_neg hne]
      exact ⟨List.mem_cons_of_mem _ k1, rfl⟩
    · have he : eligF (g :: r) = g :: eligF r := by unfold eligF; rw [List.filter_cons_of_pos (by simp [hg])]
      rw [he] at h
      cases n with
      | zero =>
        rw [List.getElem?_cons_zero] at h
        injection h with h
        subst h
        have e0 : upK keep (g :: r) i 0 = g :: r := upK_zero keep _ _
        have e1 : upK keep (g :: r) i 1 = keptF keep i g :: r := by
          conv => lhs; unfold upK
          rw [if_neg hg]
          show keptF keep i g :: upK keep r (i + 1) 0 = _
          rw [upK_zero]
        rw [e0, e1, List.map_cons, if_pos rfl]
        refine ⟨List.mem_cons_self, congrArg _ ?_⟩
        conv => lhs; rw [← List.map_id r]
        refine List.map_congr_left fun x hx => ?_
        rw [if_neg fun e => ltB_ne (h1 x hx) e.symm]
        rfl
      | succ n =>
        rw [List.getElem?_cons_succ] at h
        have hfr : f ∈ r := (List.mem_filter.1 (List.mem_of_getElem? h)).1
        obtain ⟨k1, k2⟩ := upK_step keep r (i + 1) n f h2 h
        have hne := ltB_ne (h1 f hfr)
        have e : ∀ n, upK keep (g :: r) i (n + 1) = keptF keep i g :: upK keep r (i + 1) n := fun n => by
          conv => lhs; unfold upK
          rw [if_neg hg]
        rw [e, e, k2, List.map_cons, if_neg (show (keptF keep i g).name ≠ f.name from hne), show i + 1 + n = i + (n + 1) by omega]
        exact ⟨List.mem_cons_of_mem _ k1, rfl⟩
/-- Has a file of this name no pieces? -/
def wholeB (fs : List Fl) (n : ByteArray) : Bool := decide (∀ f ∈ fs, f.name = n → f.pcs.length = 0)
theorem wholeB_at {fs : List Fl} (hs : Srt fs) {f : Fl} (hf : f ∈ fs) : wholeB fs f.name = decide (f.pcs.length = 0) := by
  unfold wholeB
  rw [decide_eq_decide]
  constructor
  · intro h; exact h f hf rfl
  · intro h g hg e
    rw [srt_uniq hs g hg f hf e]
    exact h
theorem list_all {D : Dr} (hd : D.down = false) : listD D ⟨#[]⟩ = D.fs.map Fl.name := by
  unfold listD
  rw [hd]
  refine List.filter_eq_self.2 fun s _ => ?_
  rw [preB_has]
  rfl
theorem left_names {fs : List Fl} (hs : Srt fs) : ((fs.map Fl.name).filter fun n => !wholeB fs n) = (eligF fs).map Fl.name := by
  unfold eligF
  rw [List.filter_map]
  refine congrArg _ (List.filter_congr fun f hf => ?_)
  show (!wholeB fs f.name) = decide (f.pcs.length ≠ 0)
  rw [wholeB_at hs hf]
  by_cases h : f.pcs.length = 0 <;> simp [h]
theorem used_mem : ∀ {fs : List Fl} {f : Fl}, f ∈ fs → f.all.size ≤ usedD fs
  | [], _, h => absurd h List.not_mem_nil
  | g :: r, f, h => by
    have e : usedD (g :: r) = g.all.size + usedD r := by simp [usedD]
    rcases List.mem_cons.1 h with rfl | h
    · omega
    · have := used_mem h
      omega
theorem upK_le (keep : List Int) : ∀ (fs : List Fl) (i n : Nat), usedD (upK keep fs i n) ≤ usedD fs
  | [], _, _ => Nat.le_refl _
  | f :: r, i, n => by
    have e : ∀ (a : Fl) (l : List Fl), usedD (a :: l) = a.all.size + usedD l := fun a l => by simp [usedD]
    unfold upK
    split
    · have := upK_le keep r i n
      rw [e, e]
      omega
    · cases n with
      | zero => exact Nat.le_refl _
      | succ n =>
        have h1 := upK_le keep r (i + 1) n
        have h2 : (keptF keep i f).all.size ≤ f.all.size := take_le f.safe f.pcs _
        show usedD (keptF keep i f :: upK keep r (i + 1) n) ≤ _
        rw [e, e]
        omega
end Go.Proofs.Ytaijjjlpbpogfaa
