/- General words, for any program with bytes and texts: texts as numbers, bytes that came in, a row of bytes that grows. Drives: what is asked of one, and what it has then; mathematics. -/
import Derived.Test.YtmblbogpkdkncaaGreatBase
import Derived.Lib.SlBytesConst
import Derived.Lib.AppendStr
import Derived.Sort.Walk0
namespace Go.Proofs.YtmblbogpkdkncaaGreat
open Go.ChangeShapes Go.WideShapes Go.ChangeAt Go.RowKit

/-- A text's bytes as numbers. -/
def txt (s : ByteArray) : List Int := s.data.toList.map fun b => ((b.toNat : Nat) : Int)
theorem txt_length (s : ByteArray) : (txt s).length = s.size := by simp [txt]
theorem txt_at (s : ByteArray) (i : Nat) (h : i < s.size) : (txt s)[i]? = some ((s[i].toNat : Nat) : Int) := by
  unfold txt
  rw [List.getElem?_map, Array.getElem?_toList, Array.getElem?_eq_getElem (show i < s.data.size from h)]
  rfl
theorem txt_str : ∀ (l : List Int), (∀ e ∈ l, 0 ≤ e ∧ e < 256) → txt (strOfNums l) = l := fun l h => by
  unfold txt strOfNums
  rw [List.map_map]
  conv => rhs; rw [← List.map_id l]
  refine List.map_congr_left fun e he => ?_
  have hb := h e he
  show (((UInt8.ofNat e.toNat).toNat : Nat) : Int) = e
  rw [UInt8.toNat_ofNat']
  omega
theorem str_txt (s : ByteArray) : strOfNums (txt s) = s := by
  apply ByteArray.ext
  apply Array.toList_inj.1
  unfold strOfNums txt
  rw [List.map_map]
  show (List.map _ s.data.toList) = _
  conv => rhs; rw [← List.map_id s.data.toList]
  refine List.map_congr_left fun b _ => ?_
  show UInt8.ofNat ((b.toNat : Int)).toNat = b
  rw [Int.toNat_natCast, UInt8.ofNat_toNat]
theorem toList_inj {a b : ByteArray} (h : a.toList = b.toList) : a = b := by
  rw [ByteArray.toList_eq, ByteArray.toList_eq] at h
  exact ByteArray.ext (Array.toList_inj.1 h)
theorem txt_bytes (s : ByteArray) : ∀ e ∈ txt s, 0 ≤ e ∧ e < 256 := fun e he => by
  obtain ⟨b, _, rfl⟩ := List.mem_map.1 he
  have := b.toNat_lt
  omega
theorem size_str (l : List Int) : (strOfNums l).size = l.length := strOfNums_size l
theorem str_append (a b : List Int) : strOfNums a ++ strOfNums b = strOfNums (a ++ b) := by
  apply ByteArray.ext
  simp [strOfNums]
theorem strOfNums_inj {a b : List Int} (ha : ∀ e ∈ a, 0 ≤ e ∧ e < 256) (hb : ∀ e ∈ b, 0 ≤ e ∧ e < 256) (h : strOfNums a = strOfNums b) : a = b := by
  rw [← txt_str a ha, h, txt_str b hb]
theorem txt_inj {a b : ByteArray} (h : txt a = txt b) : a = b := by rw [← str_txt a, h, str_txt b]
theorem u8_take {ds : List Int} {k : Nat} (h : ∀ e ∈ ds, 0 ≤ e ∧ e < 256) : ∀ e ∈ ds.take k, 0 ≤ e ∧ e < 256 := fun e he => h e (List.mem_of_mem_take he)
theorem u8_drop {ds : List Int} {k : Nat} (h : ∀ e ∈ ds, 0 ≤ e ∧ e < 256) : ∀ e ∈ ds.drop k, 0 ≤ e ∧ e < 256 := fun e he => h e (List.mem_of_mem_drop he)
theorem u8_append {a b : List Int} (ha : ∀ e ∈ a, 0 ≤ e ∧ e < 256) (hb : ∀ e ∈ b, 0 ≤ e ∧ e < 256) : ∀ e ∈ a ++ b, 0 ≤ e ∧ e < 256 := fun e he => by
  rcases List.mem_append.1 he with h | h
  · exact ha e h
  · exact hb e h

theorem own_below {W W' : World} {B n z : Nat} {e : TypeId} {v : Value} {xs : List Value} (h : W.ownsRow B e z v n xs) (hb : Below W.heap.size W W') : W'.ownsRow B e z v n xs :=
  h.kept (row := none) (only_of_below hb none) (by cases v.ownBlock <;> simp)
theorem own_cap {W : World} {B n cap : Nat} {X : Option Addr} {xs : List Value} (h : W.ownsRow B 5 1 (.slice X n cap) n xs) : cap ≤ maxLen := by
  obtain ⟨_, ⟨h1, _⟩ | ⟨g, c', cur, hv, _, _, _, hm, _⟩⟩ := h
  · cases h1; exact Nat.zero_le _
  · cases hv; exact hm
/-- A slice of bytes that came in. -/
def BytesIn (w : World) (X : Option Addr) (c : Nat) (us : List Int) : Prop := InS w w.heap.size X us ∧ (∀ e ∈ us, 0 ≤ e ∧ e < 256) ∧ us.length ≤ c ∧ c ≤ maxLen ∧ (X = none → c = 0)
theorem BytesIn.take {w : World} {X : Option Addr} {c : Nat} {us : List Int} (h : BytesIn w X c us) (k : Nat) : BytesIn w X c (us.take k) := ⟨h.1.take k, u8_take h.2.1, by have := h.2.2.1; simp; omega, h.2.2.2.1, h.2.2.2.2⟩
theorem BytesIn.on {w W : World} {X : Option Addr} {c : Nat} {us : List Int} (h : BytesIn w X c us) (hb : Below w.heap.size w W) : BytesIn W X c us := ⟨(h.1.on hb).more hb.size, h.2⟩
/-- 'string(b)' of bytes that came in. -/
theorem conv_in {W : World} {N c : Nat} {X : Option Addr} {us : List Int} (h : InS W N X us) (hnil : X = none → c = 0) :
    (convert 69 9 (.slice X us.length c)).run Tryz.prog W = .ok (.string (strOfNums us)) W := by
  cases X with
  | none =>
    have e : us = [] := by
      cases us with
      | nil => rfl
      | cons a l => obtain ⟨ad, h, _⟩ := h (by simp); cases h
    subst e
    exact run_convert_bytes_nil W 69 5 Tryz.underlying69 Tryz.underlying5 0 c 9 Tryz.underlying9
  | some ad =>
    have hl : (loadCells ad us.length).run Tryz.prog W = .ok (us.map (Value.int .u8)).toArray W := by
      have := run_loadCells_list (P := Tryz.prog) W ad (us.map (Value.int .u8)) (fun j v hj => by
        rw [List.getElem?_map] at hj
        obtain ⟨e, he, rfl⟩ := Option.map_eq_some_iff.1 hj
        obtain ⟨ad', h1, _, h3⟩ := h (by have := (List.getElem?_eq_some_iff.1 he).1; omega)
        cases h1
        exact h3 j e he)
      simpa using this
    rw [run_convert_bytes_string W 69 9 5 _ us.length c Tryz.underlying69 Tryz.underlying5 Tryz.underlying9, run_bytesToString W _ us.length c us hl, foldl_push_bytes]
    simp [strOfNums, ByteArray.empty, ByteArray.emptyWithCapacity]
    rfl
theorem BytesIn.conv {W : World} {c : Nat} {X : Option Addr} {us : List Int} (h : BytesIn W X c us) : (convert 69 9 (.slice X us.length c)).run Tryz.prog W = .ok (.string (strOfNums us)) W := conv_in h.1 h.2.2.2.2
/-- A piece of bytes that came in. -/
theorem InS.piece {w : World} {N : Nat} {ad : Addr} {ds : List Int} (h : InS w N (some ad) ds) (k n : Nat) : InS w N (some (ad.add k)) ((ds.drop k).take n) := fun hp => by
  obtain ⟨ad', h1, h2, h3⟩ := h (by simp at hp; omega)
  cases h1
  refine ⟨_, rfl, by rw [addr_add_block]; exact h2, fun i e he => ?_⟩
  rw [List.getElem?_take] at he
  split at he
  · rw [List.getElem?_drop] at he
    rw [addr_add_add]
    exact h3 _ e he
  · cases he

/-- A slice of slices of bytes that came in. -/
def PartsIn (w : World) (A : Option Addr) (ps : List (List Int)) : Prop :=
  ∀ i p, ps[i]? = some p → ∃ ad X c, A = some ad ∧ ad.block < w.heap.size ∧ w.cell? (ad.add i) = some (.slice X p.length c) ∧ BytesIn w X c p
theorem PartsIn.on {w W : World} {A : Option Addr} {ps : List (List Int)} (h : PartsIn w A ps) (hb : Below w.heap.size w W) : PartsIn W A ps := fun i p hp => by
  obtain ⟨ad, X, c, h1, h2, h3, h4⟩ := h i p hp
  exact ⟨ad, X, c, h1, Nat.lt_of_lt_of_le h2 hb.size, (hb.cell (by rw [addr_add_block]; exact h2)).trans h3, h4.on hb⟩
theorem PartsIn.take {w : World} {A : Option Addr} {ps : List (List Int)} (h : PartsIn w A ps) (k : Nat) : PartsIn w A (ps.take k) := fun i p hp => by
  rw [List.getElem?_take] at hp
  split at hp
  · exact h i p hp
  · cases hp
/-- An append whose run is known, of whatever types. -/
theorem wpList_append_run2 {P : Program} {ops : Array Oper} {rest : List Oper} {o : Oper} {a : Act} {w w' : World} {Q : Exit → Act → World → Prop} (hgd : o.guard = none) (s x : Operand) (t t2 : TypeId) {v u v' : Value}
    (ho : o.op = .call { callee := .builtin .append, args := #[s, x], argTypes := #[t, t2] }) (hs : a.eval s = v) (hx : a.eval x = u) (hr : (Builtin.append_ #[t, t2] o.type #[v, u]).run P w = .ok v' w')
    (h : wpList P ops Q rest (a.put o.dst v') w') : wpList P ops Q (o :: rest) a w := by
  refine wpList_plain hgd fun K hK => ?_
  unfold Oper.wp execOp
  simp only [ho, resolve, invoke, builtin, Sem.run_bind, Sem.run_pure, Result.andThen_ok, List.map_toArray, List.map_cons, List.map_nil, hs, hx, hr]
  exact hK _ _ h

/-- A row of bytes that a call makes, in a world that is w but for what was made. -/
def Acc (w W : World) (v : Value) (us : List Int) : Prop := W.ownsRow w.heap.size 5 1 v us.length (us.map (Value.int .u8)) ∧ Below w.heap.size w W
theorem Acc.on {w W W' : World} {v : Value} {us : List Int} (h : Acc w W v us) (hb : Below W.heap.size W W') : Acc w W' v us := ⟨own_below h.1 hb, h.2.trans (hb.mono h.2.size)⟩
theorem Acc.nil {w W : World} (hb : Below w.heap.size w W) : Acc w W (.slice none 0 0) [] := ⟨World.ownsRow_nil _ _ _ _, hb⟩
theorem own_built {W : World} {B : Nat} (cs : List Value) (hB : B ≤ W.heap.size) (hc : cs.length ≤ 1000) (n : Nat) (hn : n = cs.length) : (W.alloc (.cells cs.toArray 5)).ownsRow B 5 1 (.slice (some ⟨W.heap.size, 0, none⟩) n n) n cs := by
  subst hn
  exact ⟨by simp, .inr ⟨W.heap.size, _, _, rfl, hB, heap_alloc_new W _, Nat.le_refl _, by unfold maxLen; omega, by simp, by simp⟩⟩
theorem Acc.built {w W : World} (hb : Below w.heap.size w W) (us : List Int) (hu : us.length ≤ 1000) (n : Nat) (hn : n = us.length) : Acc w (W.alloc (.cells (us.map (Value.int .u8)).toArray 5)) (.slice (some ⟨W.heap.size, 0, none⟩) n n) us := by
  subst hn
  exact ⟨own_built _ hb.size (by simpa using hu) _ (by simp), hb.alloc hb.size _⟩
theorem Acc.grown {w W W' : World} {v v' : Value} {us ds : List Int} (h : Acc w W v us) (ho : W'.ownsRow w.heap.size 5 1 v' (us ++ ds).length ((us ++ ds).map (Value.int .u8))) (hg : W.grownBy W' v.ownBlock) : Acc w W' v' (us ++ ds) :=
  ⟨ho, h.2.grown hg h.2.size (fun _ hk => own_ge h.1 hk)⟩
theorem Acc.form {w W : World} {v : Value} {us : List Int} (h : Acc w W v us) : ∃ Y n c, v = .slice Y n c ∧ n = us.length ∧ n ≤ c ∧ c ≤ maxLen ∧ (Y = none → c = 0) := by
  obtain ⟨Y, c, rfl, h1, h2, -⟩ := own_slice h.1
  exact ⟨Y, _, c, rfl, rfl, h1, own_cap h.1, fun e => (h2 e).2⟩
theorem Acc.conv {w W : World} {Y : Option Addr} {n c : Nat} {us : List Int} (h : Acc w W (.slice Y n c) us) (hn : n = us.length) : (convert 69 9 (.slice Y n c)).run Tryz.prog W = .ok (.string (strOfNums us)) W := by
  subst hn
  exact conv_own h.1
theorem Acc.ins {w W : World} {Y : Option Addr} {n c : Nat} {us : List Int} (h : Acc w W (.slice Y n c) us) (hn : n = us.length) : InS W W.heap.size Y us := by
  subst hn
  exact own_in h.1
theorem Acc.bytesIn {w W : World} {Y : Option Addr} {n c : Nat} {us : List Int} (h : Acc w W (.slice Y n c) us) (hn : n = us.length) (hu : ∀ e ∈ us, 0 ≤ e ∧ e < 256) : BytesIn W Y c us := by
  have h1 := h.ins hn
  subst hn
  obtain ⟨Y', n', c', hv, _, h4, h5, h6⟩ := h.form
  cases hv
  exact ⟨h1, hu, h4, h5, h6⟩
/-- 'append(b, p...)' of bytes. -/
theorem Acc.bytes {w W : World} {v : Value} {us : List Int} (h : Acc w W v us) (X : Option Addr) (m c : Nat) (ds : List Int) (hX : InS W W.heap.size X ds) (hm : m = ds.length) (hnil : X = none → c = 0) (hlen : us.length + ds.length ≤ 100000) :
    ∃ Y n c' W', (Builtin.append_ #[69, 69] 69 #[v, .slice X m c]).run Tryz.prog W = .ok (.slice Y n c') W' ∧ n = us.length + ds.length ∧ Acc w W' (.slice Y n c') (us ++ ds) ∧ W.grownBy W' v.ownBlock := by
  subst hm
  obtain ⟨v', W', hr, ho, hg, _⟩ := append_all W.heap.size w.heap.size us.length v _ X c ds W h.1 hX hnil hlen h.2.size
  obtain ⟨Y, c', rfl, -⟩ := own_slice ho
  refine ⟨Y, _, c', W', hr, rfl, h.grown ?_ hg, hg⟩
  rw [List.map_append, List.length_append]
  exact ho
/-- 'append(b, x, y)': the two lie in a block of their own. -/
theorem Acc.two {w W : World} {v : Value} {us : List Int} (h : Acc w W v us) (x y : Int) (hlen : us.length ≤ 100000) :
    ∃ Y n c' W', (Builtin.append_ #[69, 69] 69 #[v, .slice (some ⟨W.heap.size, 0, none⟩) 2 2]).run Tryz.prog (W.alloc (.cells #[.int .u8 x, .int .u8 y] 5)) = .ok (.slice Y n c') W' ∧ n = us.length + 2 ∧ Acc w W' (.slice Y n c') (us ++ [x, y]) ∧ (W.alloc (.cells #[.int .u8 x, .int .u8 y] 5)).grownBy W' v.ownBlock := by
  obtain ⟨v', W', hr, ho, hg⟩ := append_two w.heap.size us.length v _ x y W h.1 hlen h.2.size
  obtain ⟨Y, c', rfl, -⟩ := own_slice ho
  refine ⟨Y, _, c', W', hr, rfl, (h.on ((Below.refl _ _).alloc (Nat.le_refl _) _)).grown ?_ hg, hg⟩
  rw [List.map_append, List.length_append]
  exact ho
/-- 'append(b, x)'. -/
theorem Acc.one {w W : World} {v : Value} {us : List Int} (h : Acc w W v us) (x : Int) (hlen : us.length ≤ 100000) :
    ∃ Y n c' W', (Builtin.append_ #[69, 69] 69 #[v, .slice (some ⟨W.heap.size, 0, none⟩) 1 1]).run Tryz.prog (W.alloc (.cells #[.int .u8 x] 5)) = .ok (.slice Y n c') W' ∧ n = us.length + 1 ∧ Acc w W' (.slice Y n c') (us ++ [x]) ∧ (W.alloc (.cells #[.int .u8 x] 5)).grownBy W' v.ownBlock := by
  obtain ⟨v', W', hr, ho, hg, _⟩ := append_byte w.heap.size us.length v _ x W h.1 hlen h.2.size
  obtain ⟨Y, c', rfl, -⟩ := own_slice ho
  refine ⟨Y, _, c', W', hr, rfl, (h.on ((Below.refl _ _).alloc (Nat.le_refl _) _)).grown ?_ hg, hg⟩
  rw [List.map_append, List.length_append]
  exact ho
theorem strCells_txt (s : ByteArray) : Go.Lib.strCells s = (txt s).map (Value.int .u8) := by
  unfold Go.Lib.strCells txt
  rw [List.map_map]
  rfl
/-- 'append(b, s...)' of a text. -/
theorem Acc.str {w W : World} {v : Value} {us : List Int} (h : Acc w W v us) (s : ByteArray) (hlen : us.length + s.size ≤ 100000) :
    ∃ Y n c' W', (Builtin.append_ #[69, 9] 69 #[v, .string s]).run Tryz.prog W = .ok (.slice Y n c') W' ∧ n = us.length + s.size ∧ Acc w W' (.slice Y n c') (us ++ txt s) ∧ W.grownBy W' v.ownBlock := by
  obtain ⟨i0, hi, hz0, hz1, hz2⟩ := info_parts infoU8
  obtain ⟨v', W', hr, ho, hg, _⟩ := Go.Lib.run_append_own_string (P := Tryz.prog) W w.heap.size 69 9 69 5 i0 Tryz.underlying69 Tryz.underlying9 hi hz0 hz1 hz2 v us.length _ h.1 s (by unfold maxLen; omega) (by omega) h.2.size
  obtain ⟨Y, c', rfl, -⟩ := own_slice ho
  refine ⟨Y, _, c', W', hr, rfl, h.grown ?_ hg, hg⟩
  rw [List.map_append, List.length_append, txt_length, ← strCells_txt]
  exact ho
end Go.Proofs.YtmblbogpkdkncaaGreat
namespace Go.Proofs.YtmblbogpkdkncaaGreat
open Go.RowKit

/-- A file: its name, its safe bytes, its pieces. -/
structure Fl where
  name : ByteArray
  safe : ByteArray
  pcs : List ByteArray
def joinP (s : ByteArray) (l : List ByteArray) : ByteArray := l.foldl (· ++ ·) s
def Fl.all (f : Fl) : ByteArray := joinP f.safe f.pcs
theorem joinP_append (s : ByteArray) (a b : List ByteArray) : joinP s (a ++ b) = joinP (joinP s a) b := by simp [joinP]
theorem joinP_one (s : ByteArray) (a : List ByteArray) (x : ByteArray) : joinP s (a ++ [x]) = joinP s a ++ x := by simp [joinP]
def sumP (l : List ByteArray) : Nat := (l.map ByteArray.size).sum
theorem joinP_size : ∀ (l : List ByteArray) (s : ByteArray), (joinP s l).size = s.size + sumP l
  | [], s => by simp [joinP, sumP]
  | x :: l, s => by
    have h := joinP_size l (s ++ x)
    have e : joinP s (x :: l) = joinP (s ++ x) l := rfl
    rw [e, h, ByteArray.size_append]
    simp [sumP]
    omega
theorem sumP_append (a b : List ByteArray) : sumP (a ++ b) = sumP a + sumP b := by simp [sumP]
theorem sumP_take (l : List ByteArray) (n : Nat) : sumP (l.take n) ≤ sumP l := by
  conv => rhs; rw [← List.take_append_drop n l, sumP_append]
  omega
/-- A drive: files, the quota, deeds, is the power gone, how many more deeds there are. -/
structure Dr where
  fs : List Fl
  max : Int
  done : Nat
  down : Bool
  left : Int
/-- Is a text less than another one? -/
def ltB (a b : ByteArray) : Bool := Op.bytesLess a.toList b.toList
theorem ltB_lt (a b : ByteArray) : ltB a b = decide (a.data.toList < b.data.toList) := by
  unfold ltB
  rw [bytesLess_eq, Lib.toList_data, Lib.toList_data]
def nameC (c : Int) : Prop := (97 ≤ c ∧ c ≤ 122) ∨ (48 ≤ c ∧ c ≤ 57) ∨ c = 46 ∨ c = 47 ∨ c = 45 ∨ c = 95
instance (c : Int) : Decidable (nameC c) := by unfold nameC; infer_instance
/-- A file's name. -/
def nameOk (s : ByteArray) : Prop := (∀ c ∈ txt s, nameC c) ∧ 1 ≤ s.size ∧ s.size ≤ 60
instance (s : ByteArray) : Decidable (nameOk s) := by unfold nameOk; infer_instance
/-- The place of a file. -/
def atD : List Fl → ByteArray → Option Nat
  | [], _ => none
  | f :: r, n => if f.name = n then some 0 else (atD r n).map (· + 1)
def usedD (fs : List Fl) : Nat := (fs.map fun f => f.all.size).sum
/-- A file is put where it belongs; a file is no more. -/
def putL (f : Fl) : List Fl → Bool → List Fl
  | [], d => if d then [] else [f]
  | g :: r, d => (if !d && !ltB g.name f.name then [f] else []) ++ (if g.name = f.name then [] else [g]) ++ putL f r (d || !ltB g.name f.name)
def putD (fs : List Fl) (f : Fl) : List Fl := putL f fs false
def cutD (fs : List Fl) (k : Nat) : List Fl := fs.take k ++ fs.drop (k + 1)
/-- May a deed be done that tells an error, or none? -/
def mayD (D : Dr) (e : Int) : Int × Dr :=
  if D.down then (13, D) else if e ≠ 0 then (e, D) else if D.left = 0 then (13, { D with down := true, left := -1 }) else (0, { D with done := D.done + 1, left := if 0 < D.left then D.left - 1 else D.left })
def newOk (q : Int) : Prop := 0 ≤ q ∧ q ≤ 16777216
instance (q : Int) : Decidable (newOk q) := by unfold newOk; infer_instance
def newD (q : Int) : Dr := ⟨[], q, 0, false, -1⟩
def createE (D : Dr) (n : ByteArray) : Int := if nameOk n then (if (atD D.fs n).isSome then 11 else if 65536 ≤ D.fs.length then 12 else 0) else 1
def createD (D : Dr) (n : ByteArray) : Int × Dr :=
  let r := mayD D (createE D n)
  (r.1, if r.1 = 0 then { r.2 with fs := putD r.2.fs ⟨n, ⟨#[]⟩, []⟩ } else r.2)
def appendE (D : Dr) (n : ByteArray) (m : Nat) : Int := if (atD D.fs n).isSome then (if D.max < ((usedD D.fs + m : Nat) : Int) then 12 else 0) else 10
/-- The file at a place turned. -/
def turnD (fs : List Fl) (k : Option Nat) (t : Fl → Fl) : List Fl :=
  match k with
  | none => fs
  | some k => fs.modify k t
def appendD (D : Dr) (n x : ByteArray) : Int × Dr :=
  let r := mayD D (appendE D n x.size)
  (r.1, if r.1 = 0 then { r.2 with fs := turnD r.2.fs (atD D.fs n) fun f => { f with pcs := f.pcs ++ [x] } } else r.2)
def thereE (D : Dr) (n : ByteArray) : Int := if (atD D.fs n).isSome then 0 else 10
def syncD (D : Dr) (n : ByteArray) : Int × Dr :=
  let r := mayD D (thereE D n)
  (r.1, if r.1 = 0 then { r.2 with fs := turnD r.2.fs (atD D.fs n) fun f => ⟨n, f.all, []⟩ } else r.2)
def dropD (fs : List Fl) (k : Option Nat) : List Fl :=
  match k with
  | none => fs
  | some k => cutD fs k
def removeD (D : Dr) (n : ByteArray) : Int × Dr :=
  let r := mayD D (thereE D n)
  (r.1, if r.1 = 0 then { r.2 with fs := dropD r.2.fs (atD D.fs n) } else r.2)
def renameE (D : Dr) (a b : ByteArray) : Int := if (atD D.fs a).isSome then (if nameOk b then 0 else 1) else 10
def moveD (fs : List Fl) (a b : ByteArray) : List Fl :=
  match atD fs a with
  | none => fs
  | some k => match fs[k]? with
    | none => fs
    | some f => putD (cutD fs k) { f with name := b }
def renameD (D : Dr) (a b : ByteArray) : Int × Dr :=
  let r := mayD D (renameE D a b)
  (r.1, if r.1 = 0 then { r.2 with fs := moveD r.2.fs a b } else r.2)
def readE (D : Dr) (n : ByteArray) : Int := if D.down then 13 else if (atD D.fs n).isSome then 0 else 10
def readT (D : Dr) (n : ByteArray) : ByteArray :=
  if D.down then ⟨#[]⟩ else match atD D.fs n with
    | none => ⟨#[]⟩
    | some k => match D.fs[k]? with
      | none => ⟨#[]⟩
      | some f => f.all
/-- Does a text begin with another one? -/
def preB (s p : ByteArray) : Bool := decide (p.size ≤ s.size ∧ s.extract 0 p.size = p)
def listD (D : Dr) (p : ByteArray) : List ByteArray := if D.down then [] else (D.fs.map Fl.name).filter fun s => preB s p
def quotaD (D : Dr) (n : Int) : Int × Dr := if D.down then (13, D) else if newOk n then (0, { D with max := n }) else (1, D)
def armD (D : Dr) (n : Int) : Dr := { D with left := if n < 0 then -1 else n }
/-- How many pieces are kept. -/
def keepN (keep : List Int) (i m : Nat) : Nat :=
  if keep.length = 0 then 0 else
    let x := keep.getD (i % keep.length) 0
    (if x < 0 then -(x + 1) else x).toNat % (m + 1)
def upL (keep : List Int) : List Fl → Nat → List Fl
  | [], _ => []
  | f :: r, i => if f.pcs.length = 0 then f :: upL keep r i else ⟨f.name, joinP f.safe (f.pcs.take (keepN keep i f.pcs.length)), []⟩ :: upL keep r (i + 1)
def upD (D : Dr) (keep : List Int) : Dr := if D.down then { D with down := false, left := -1, fs := upL keep D.fs 0 } else { D with left := -1 }

/-! What stays so. -/
/-- How much there is in files, all told. -/
def wtF (f : Fl) : Nat := 1 + f.all.size + f.pcs.length
def wtL (fs : List Fl) : Nat := (fs.map wtF).sum
/-- Files' names rise, and are names. -/
def Srt (fs : List Fl) : Prop := fs.Pairwise fun a b => ltB a.name b.name = true
structure DOk (D : Dr) : Prop where
  srt : Srt D.fs
  names : ∀ f ∈ D.fs, nameOk f.name
  max : newOk D.max
  left : -1 ≤ D.left ∧ D.left ≤ 9223372036854775807
theorem ltB_irrefl (a : ByteArray) : ltB a a = false := by
  rw [ltB_lt]
  exact decide_eq_false (List.lt_irrefl _)
theorem ltB_trans {a b c : ByteArray} (h : ltB a b = true) (k : ltB b c = true) : ltB a c = true := by
  rw [ltB_lt] at *
  exact decide_eq_true (List.lt_trans (of_decide_eq_true h) (of_decide_eq_true k))
theorem ltB_ne {a b : ByteArray} (h : ltB a b = true) : a ≠ b := fun e => by
  subst e
  rw [ltB_irrefl] at h
  cases h
theorem ltB_total {a b : ByteArray} (h : ltB a b = false) (hne : a ≠ b) : ltB b a = true := by
  rw [ltB_lt] at *
  have h1 := of_decide_eq_false h
  refine decide_eq_true ?_
  have h2 : b.data.toList ≤ a.data.toList := List.not_lt.1 h1
  refine Classical.byContradiction fun h3 => hne ?_
  exact ByteArray.ext (Array.toList_inj.1 (List.le_antisymm (List.not_lt.1 h3) h2))
theorem atD_none {fs : List Fl} {n : ByteArray} : atD fs n = none ↔ ∀ f ∈ fs, f.name ≠ n := by
  induction fs with
  | nil => simp [atD]
  | cons f r ih =>
    unfold atD
    by_cases h : f.name = n
    · simp [h]
    · simp [h, ih]
theorem atD_some {fs : List Fl} {n : ByteArray} {k : Nat} (h : atD fs n = some k) : ∃ f, fs[k]? = some f ∧ f.name = n ∧ ∀ j g, j < k → fs[j]? = some g → g.name ≠ n := by
  induction fs generalizing k with
  | nil => cases h
  | cons f r ih =>
    unfold atD at h
    by_cases hn : f.name = n
    · rw [if_pos hn] at h
      cases h
      exact ⟨f, rfl, hn, fun j g hj => by omega⟩
    · rw [if_neg hn] at h
      obtain ⟨m, hm, rfl⟩ := Option.map_eq_some_iff.1 h
      obtain ⟨g, h1, h2, h3⟩ := ih hm
      refine ⟨g, by rw [List.getElem?_cons_succ]; exact h1, h2, fun j x hj hx => ?_⟩
      cases j with
      | zero => simp at hx; rw [← hx]; exact hn
      | succ j => rw [List.getElem?_cons_succ] at hx; exact h3 j x (by omega) hx
end Go.Proofs.YtmblbogpkdkncaaGreat
