/- General words, for any program with bytes and texts: texts as numbers, bytes that came in, a row of bytes that grows. -/
import Derived.Test.YtmbmkmigcmlodaaDoorBase
import Derived.Lib.SlBytesConst
import Derived.Lib.AppendStr
namespace Go.Proofs.YtmbmkmigcmlodaaDoor
open Go.ChangeShapes Go.WideShapes Go.ChangeAt Go.RowKit

/-- A text's bytes as numbers. -/
def txt (s : ByteArray) : List Int := s.data.toList.map fun b => ((b.toNat : Nat) : Int)
theorem txt_length (s : ByteArray) : (txt s).length = s.size := by simp [txt]
theorem txt_at (s : ByteArray) (i : Nat) (h : i < s.size) : (txt s)[i]? = some ((s[i].toNat : Nat) : Int) := by
  unfold txt
  rw [List.getElem?_map, Array.getElem?_toList, Array.getElem?_eq_getElem (show i < s.data.size from h)]
  rfl
theorem txt_str : ∀ (l : List Int), (∀ e ∈ l, 0 ≤ e ∧ e < 256) → txt (strOfNums l) = l := fun l h => by
  unfold txt strOfNums
  rw [List.map_map]
  conv => rhs; rw [← List.map_id l]
  refine List.map_congr_left fun e he => ?_
  have hb := h e he
  show (((UInt8.ofNat e.toNat).toNat : Nat) : Int) = e
  rw [UInt8.toNat_ofNat']
  omega
theorem str_txt (s : ByteArray) : strOfNums (txt s) = s := by
  apply ByteArray.ext
  apply Array.toList_inj.1
  unfold strOfNums txt
  rw [List.map_map]
  show (List.map _ s.data.toList) = _
  conv => rhs; rw [← List.map_id s.data.toList]
  refine List.map_congr_left fun b _ => ?_
  show UInt8.ofNat ((b.toNat : Int)).toNat = b
  rw [Int.toNat_natCast, UInt8.ofNat_toNat]
theorem toList_inj {a b : ByteArray} (h : a.toList = b.toList) : a = b := by
  rw [ByteArray.toList_eq, ByteArray.toList_eq] at h
  exact ByteArray.ext (Array.toList_inj.1 h)
theorem txt_bytes (s : ByteArray) : ∀ e ∈ txt s, 0 ≤ e ∧ e < 256 := fun e he => by
  obtain ⟨b, _, rfl⟩ := List.mem_map.1 he
  have := b.toNat_lt
  omega
theorem size_str (l : List Int) : (strOfNums l).size = l.length := strOfNums_size l
theorem str_append (a b : List Int) : strOfNums a ++ strOfNums b = strOfNums (a ++ b) := by
  apply ByteArray.ext
  simp [strOfNums]
theorem strOfNums_inj {a b : List Int} (ha : ∀ e ∈ a, 0 ≤ e ∧ e < 256) (hb : ∀ e ∈ b, 0 ≤ e ∧ e < 256) (h : strOfNums a = strOfNums b) : a = b := by
  rw [← txt_str a ha, h, txt_str b hb]
theorem txt_inj {a b : ByteArray} (h : txt a = txt b) : a = b := by rw [← str_txt a, h, str_txt b]
theorem u8_take {ds : List Int} {k : Nat} (h : ∀ e ∈ ds, 0 ≤ e ∧ e < 256) : ∀ e ∈ ds.take k, 0 ≤ e ∧ e < 256 := fun e he => h e (List.mem_of_mem_take he)
theorem u8_drop {ds : List Int} {k : Nat} (h : ∀ e ∈ ds, 0 ≤ e ∧ e < 256) : ∀ e ∈ ds.drop k, 0 ≤ e ∧ e < 256 := fun e he => h e (List.mem_of_mem_drop he)
theorem u8_append {a b : List Int} (ha : ∀ e ∈ a, 0 ≤ e ∧ e < 256) (hb : ∀ e ∈ b, 0 ≤ e ∧ e < 256) : ∀ e ∈ a ++ b, 0 ≤ e ∧ e < 256 := fun e he => by
  rcases List.mem_append.1 he with h | h
  · exact ha e h
  · exact hb e h

theorem own_below {W W' : World} {B n z : Nat} {e : TypeId} {v : Value} {xs : List Value} (h : W.ownsRow B e z v n xs) (hb : Below W.heap.size W W') : W'.ownsRow B e z v n xs :=
  h.kept (row := none) (only_of_below hb none) (by cases v.ownBlock <;> simp)
theorem own_cap {W : World} {B n cap : Nat} {X : Option Addr} {xs : List Value} (h : W.ownsRow B 5 1 (.slice X n cap) n xs) : cap ≤ maxLen := by
  obtain ⟨_, ⟨h1, _⟩ | ⟨g, c', cur, hv, _, _, _, hm, _⟩⟩ := h
  · cases h1; exact Nat.zero_le _
  · cases hv; exact hm
/-- A slice of bytes that came in. -/
def BytesIn (w : World) (X : Option Addr) (c : Nat) (us : List Int) : Prop := InS w w.heap.size X us ∧ (∀ e ∈ us, 0 ≤ e ∧ e < 256) ∧ us.length ≤ c ∧ c ≤ maxLen ∧ (X = none → c = 0)
theorem BytesIn.take {w : World} {X : Option Addr} {c : Nat} {us : List Int} (h : BytesIn w X c us) (k : Nat) : BytesIn w X c (us.take k) := ⟨h.1.take k, u8_take h.2.1, by have := h.2.2.1; simp; omega, h.2.2.2.1, h.2.2.2.2⟩
theorem BytesIn.on {w W : World} {X : Option Addr} {c : Nat} {us : List Int} (h : BytesIn w X c us) (hb : Below w.heap.size w W) : BytesIn W X c us := ⟨(h.1.on hb).more hb.size, h.2⟩
/-- 'string(b)' of bytes that came in. -/
theorem conv_in {W : World} {N c : Nat} {X : Option Addr} {us : List Int} (h : InS W N X us) (hnil : X = none → c = 0) :
    (convert 44 9 (.slice X us.length c)).run Tryd.prog W = .ok (.string (strOfNums us)) W := by
  cases X with
  | none =>
    have e : us = [] := by
      cases us with
      | nil => rfl
      | cons a l => obtain ⟨ad, h, _⟩ := h (by simp); cases h
    subst e
    exact run_convert_bytes_nil W 44 5 Tryd.underlying44 Tryd.underlying5 0 c 9 Tryd.underlying9
  | some ad =>
    have hl : (loadCells ad us.length).run Tryd.prog W = .ok (us.map (Value.int .u8)).toArray W := by
      have := run_loadCells_list (P := Tryd.prog) W ad (us.map (Value.int .u8)) (fun j v hj => by
        rw [List.getElem?_map] at hj
        obtain ⟨e, he, rfl⟩ := Option.map_eq_some_iff.1 hj
        obtain ⟨ad', h1, _, h3⟩ := h (by have := (List.getElem?_eq_some_iff.1 he).1; omega)
        cases h1
        exact h3 j e he)
      simpa using this
    rw [run_convert_bytes_string W 44 9 5 _ us.length c Tryd.underlying44 Tryd.underlying5 Tryd.underlying9, run_bytesToString W _ us.length c us hl, foldl_push_bytes]
    simp [strOfNums, ByteArray.empty, ByteArray.emptyWithCapacity]
    rfl
theorem BytesIn.conv {W : World} {c : Nat} {X : Option Addr} {us : List Int} (h : BytesIn W X c us) : (convert 44 9 (.slice X us.length c)).run Tryd.prog W = .ok (.string (strOfNums us)) W := conv_in h.1 h.2.2.2.2
/-- A piece of bytes that came in. -/
theorem InS.piece {w : World} {N : Nat} {ad : Addr} {ds : List Int} (h : InS w N (some ad) ds) (k n : Nat) : InS w N (some (ad.add k)) ((ds.drop k).take n) := fun hp => by
  obtain ⟨ad', h1, h2, h3⟩ := h (by simp at hp; omega)
  cases h1
  refine ⟨_, rfl, by rw [addr_add_block]; exact h2, fun i e he => ?_⟩
  rw [List.getElem?_take] at he
  split at he
  · rw [List.getElem?_drop] at he
    rw [addr_add_add]
    exact h3 _ e he
  · cases he

/-- A slice of slices of bytes that came in. -/
def PartsIn (w : World) (A : Option Addr) (ps : List (List Int)) : Prop :=
  ∀ i p, ps[i]? = some p → ∃ ad X c, A = some ad ∧ ad.block < w.heap.size ∧ w.cell? (ad.add i) = some (.slice X p.length c) ∧ BytesIn w X c p
theorem PartsIn.on {w W : World} {A : Option Addr} {ps : List (List Int)} (h : PartsIn w A ps) (hb : Below w.heap.size w W) : PartsIn W A ps := fun i p hp => by
  obtain ⟨ad, X, c, h1, h2, h3, h4⟩ := h i p hp
  exact ⟨ad, X, c, h1, Nat.lt_of_lt_of_le h2 hb.size, (hb.cell (by rw [addr_add_block]; exact h2)).trans h3, h4.on hb⟩
theorem PartsIn.take {w : World} {A : Option Addr} {ps : List (List Int)} (h : PartsIn w A ps) (k : Nat) : PartsIn w A (ps.take k) := fun i p hp => by
  rw [List.getElem?_take] at hp
  split at hp
  · exact h i p hp
  · cases hp
/-- An append whose run is known, of whatever types. -/
theorem wpList_append_run2 {P : Program} {ops : Array Oper} {rest : List Oper} {o : Oper} {a : Act} {w w' : World} {Q : Exit → Act → World → Prop} (hgd : o.guard = none) (s x : Operand) (t t2 : TypeId) {v u v' : Value}
    (ho : o.op = .call { callee := .builtin .append, args := #[s, x], argTypes := #[t, t2] }) (hs : a.eval s = v) (hx : a.eval x = u) (hr : (Builtin.append_ #[t, t2] o.type #[v, u]).run P w = .ok v' w')
    (h : wpList P ops Q rest (a.put o.dst v') w') : wpList P ops Q (o :: rest) a w := by
  refine wpList_plain hgd fun K hK => ?_
  unfold Oper.wp execOp
  simp only [ho, resolve, invoke, builtin, Sem.run_bind, Sem.run_pure, Result.andThen_ok, List.map_toArray, List.map_cons, List.map_nil, hs, hx, hr]
  exact hK _ _ h

/-- A row of bytes that a call makes, in a world that is w but for what was made. -/
def Acc (w W : World) (v : Value) (us : List Int) : Prop := W.ownsRow w.heap.size 5 1 v us.length (us.map (Value.int .u8)) ∧ Below w.heap.size w W
theorem Acc.on {w W W' : World} {v : Value} {us : List Int} (h : Acc w W v us) (hb : Below W.heap.size W W') : Acc w W' v us := ⟨own_below h.1 hb, h.2.trans (hb.mono h.2.size)⟩
theorem Acc.nil {w W : World} (hb : Below w.heap.size w W) : Acc w W (.slice none 0 0) [] := ⟨World.ownsRow_nil _ _ _ _, hb⟩
theorem own_built {W : World} {B : Nat} (cs : List Value) (hB : B ≤ W.heap.size) (hc : cs.length ≤ 1000) (n : Nat) (hn : n = cs.length) : (W.alloc (.cells cs.toArray 5)).ownsRow B 5 1 (.slice (some ⟨W.heap.size, 0, none⟩) n n) n cs := by
  subst hn
  exact ⟨by simp, .inr ⟨W.heap.size, _, _, rfl, hB, heap_alloc_new W _, Nat.le_refl _, by unfold maxLen; omega, by simp, by simp⟩⟩
theorem Acc.built {w W : World} (hb : Below w.heap.size w W) (us : List Int) (hu : us.length ≤ 1000) (n : Nat) (hn : n = us.length) : Acc w (W.alloc (.cells (us.map (Value.int .u8)).toArray 5)) (.slice (some ⟨W.heap.size, 0, none⟩) n n) us := by
  subst hn
  exact ⟨own_built _ hb.size (by simpa using hu) _ (by simp), hb.alloc hb.size _⟩
theorem Acc.grown {w W W' : World} {v v' : Value} {us ds : List Int} (h : Acc w W v us) (ho : W'.ownsRow w.heap.size 5 1 v' (us ++ ds).length ((us ++ ds).map (Value.int .u8))) (hg : W.grownBy W' v.ownBlock) : Acc w W' v' (us ++ ds) :=
  ⟨ho, h.2.grown hg h.2.size (fun _ hk => own_ge h.1 hk)⟩
theorem Acc.form {w W : World} {v : Value} {us : List Int} (h : Acc w W v us) : ∃ Y n c, v = .slice Y n c ∧ n = us.length ∧ n ≤ c ∧ c ≤ maxLen ∧ (Y = none → c = 0) := by
  obtain ⟨Y, c, rfl, h1, h2, -⟩ := own_slice h.1
  exact ⟨Y, _, c, rfl, rfl, h1, own_cap h.1, fun e => (h2 e).2⟩
theorem Acc.conv {w W : World} {Y : Option Addr} {n c : Nat} {us : List Int} (h : Acc w W (.slice Y n c) us) (hn : n = us.length) : (convert 44 9 (.slice Y n c)).run Tryd.prog W = .ok (.string (strOfNums us)) W := by
  subst hn
  exact conv_own h.1
theorem Acc.ins {w W : World} {Y : Option Addr} {n c : Nat} {us : List Int} (h : Acc w W (.slice Y n c) us) (hn : n = us.length) : InS W W.heap.size Y us := by
  subst hn
  exact own_in h.1
theorem Acc.bytesIn {w W : World} {Y : Option Addr} {n c : Nat} {us : List Int} (h : Acc w W (.slice Y n c) us) (hn : n = us.length) (hu : ∀ e ∈ us, 0 ≤ e ∧ e < 256) : BytesIn W Y c us := by
  have h1 := h.ins hn
  subst hn
  obtain ⟨Y', n', c', hv, _, h4, h5, h6⟩ := h.form
  cases hv
  exact ⟨h1, hu, h4, h5, h6⟩
/-- 'append(b, p...)' of bytes. -/
theorem Acc.bytes {w W : World} {v : Value} {us : List Int} (h : Acc w W v us) (X : Option Addr) (m c : Nat) (ds : List Int) (hX : InS W W.heap.size X ds) (hm : m = ds.length) (hnil : X = none → c = 0) (hlen : us.length + ds.length ≤ 100000) :
    ∃ Y n c' W', (Builtin.append_ #[44, 44] 44 #[v, .slice X m c]).run Tryd.prog W = .ok (.slice Y n c') W' ∧ n = us.length + ds.length ∧ Acc w W' (.slice Y n c') (us ++ ds) ∧ W.grownBy W' v.ownBlock := by
  subst hm
  obtain ⟨v', W', hr, ho, hg, _⟩ := append_all W.heap.size w.heap.size us.length v _ X c ds W h.1 hX hnil hlen h.2.size
  obtain ⟨Y, c', rfl, -⟩ := own_slice ho
  refine ⟨Y, _, c', W', hr, rfl, h.grown ?_ hg, hg⟩
  rw [List.map_append, List.length_append]
  exact ho
/-- 'append(b, x, y)': the two lie in a block of their own. -/
theorem Acc.two {w W : World} {v : Value} {us : List Int} (h : Acc w W v us) (x y : Int) (hlen : us.length ≤ 100000) :
    ∃ Y n c' W', (Builtin.append_ #[44, 44] 44 #[v, .slice (some ⟨W.heap.size, 0, none⟩) 2 2]).run Tryd.prog (W.alloc (.cells #[.int .u8 x, .int .u8 y] 5)) = .ok (.slice Y n c') W' ∧ n = us.length + 2 ∧ Acc w W' (.slice Y n c') (us ++ [x, y]) ∧ (W.alloc (.cells #[.int .u8 x, .int .u8 y] 5)).grownBy W' v.ownBlock := by
  obtain ⟨v', W', hr, ho, hg⟩ := append_two w.heap.size us.length v _ x y W h.1 hlen h.2.size
  obtain ⟨Y, c', rfl, -⟩ := own_slice ho
  refine ⟨Y, _, c', W', hr, rfl, (h.on ((Below.refl _ _).alloc (Nat.le_refl _) _)).grown ?_ hg, hg⟩
  rw [List.map_append, List.length_append]
  exact ho
/-- 'append(b, x)'. -/
theorem Acc.one {w W : World} {v : Value} {us : List Int} (h : Acc w W v us) (x : Int) (hlen : us.length ≤ 100000) :
    ∃ Y n c' W', (Builtin.append_ #[44, 44] 44 #[v, .slice (some ⟨W.heap.size, 0, none⟩) 1 1]).run Tryd.prog (W.alloc (.cells #[.int .u8 x] 5)) = .ok (.slice Y n c') W' ∧ n = us.length + 1 ∧ Acc w W' (.slice Y n c') (us ++ [x]) ∧ (W.alloc (.cells #[.int .u8 x] 5)).grownBy W' v.ownBlock := by
  obtain ⟨v', W', hr, ho, hg, _⟩ := append_byte w.heap.size us.length v _ x W h.1 hlen h.2.size
  obtain ⟨Y, c', rfl, -⟩ := own_slice ho
  refine ⟨Y, _, c', W', hr, rfl, (h.on ((Below.refl _ _).alloc (Nat.le_refl _) _)).grown ?_ hg, hg⟩
  rw [List.map_append, List.length_append]
  exact ho
theorem strCells_txt (s : ByteArray) : Go.Lib.strCells s = (txt s).map (Value.int .u8) := by
  unfold Go.Lib.strCells txt
  rw [List.map_map]
  rfl
/-- 'append(b, s...)' of a text. -/
theorem Acc.str {w W : World} {v : Value} {us : List Int} (h : Acc w W v us) (s : ByteArray) (hlen : us.length + s.size ≤ 100000) :
    ∃ Y n c' W', (Builtin.append_ #[44, 9] 44 #[v, .string s]).run Tryd.prog W = .ok (.slice Y n c') W' ∧ n = us.length + s.size ∧ Acc w W' (.slice Y n c') (us ++ txt s) ∧ W.grownBy W' v.ownBlock := by
  obtain ⟨i0, hi, hz0, hz1, hz2⟩ := info_parts infoU8
  obtain ⟨v', W', hr, ho, hg, _⟩ := Go.Lib.run_append_own_string (P := Tryd.prog) W w.heap.size 44 9 44 5 i0 Tryd.underlying44 Tryd.underlying9 hi hz0 hz1 hz2 v us.length _ h.1 s (by unfold maxLen; omega) (by omega) h.2.size
  obtain ⟨Y, c', rfl, -⟩ := own_slice ho
  refine ⟨Y, _, c', W', hr, rfl, h.grown ?_ hg, hg⟩
  rw [List.map_append, List.length_append, txt_length, ← strCells_txt]
  exact ho
end Go.Proofs.YtmbmkmigcmlodaaDoor
