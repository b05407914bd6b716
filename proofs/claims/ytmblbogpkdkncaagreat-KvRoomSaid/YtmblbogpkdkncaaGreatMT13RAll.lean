/- What stands at keys, in memory: a map of writes. Numbers as bytes, writes as bytes, frames, and a log of frames: mathematics. The reference's drive in memory. Contracts of the reference's at, All, Used, Read: they only read. Contracts of the reference's All, Used, Read. -/
import Derived.Test.YtmblbogpkdkncaaGreatMP14M
import Derived.Test.YtmblbogpkdkncaaGreatMT14K
import Derived.Maps.OwnSet
import Derived.Lib.QuoteBits
import Derived.Test.YtmblbogpkdkncaaGreatMT13M
import Derived.Deep.LoopGhost
import Derived.IntWalk
import Derived.Deep.CutBlock
namespace Go.Proofs.YtmblbogpkdkncaaGreat
open Go.RowKit

/-! How a write reads in a map. -/
def wrD (t : Wr) : DataW Unit := .agg [.lit (.string t.key.data.toList), .lit (.string t.val.data.toList), .lit (.bool t.gone)]
def wrElem : Value → Option (DataW Unit × List MemPlace)
  | .agg ⟨[.string a, .string b, .bool c]⟩ => some (wrD ⟨a, b, c⟩, [])
  | _ => none
theorem wrElem_inv {v : Value} {y : DataW Unit × List MemPlace} (h : wrElem v = some y) : ∃ t, v = wrV t ∧ y.1 = wrD t := by
  unfold wrElem at h
  split at h
  · cases h; exact ⟨_, rfl, rfl⟩
  · cases h
theorem wrD_inj {a b : Wr} (h : wrD a = wrD b) : a = b := by
  unfold wrD at h
  injection h with h
  injection h with h1 h
  injection h with h2 h
  injection h with h3 _
  injection h1 with h1
  injection h1 with h1
  injection h2 with h2
  injection h2 with h2
  injection h3 with h3
  injection h3 with h3
  obtain ⟨k, v, g⟩ := a
  obtain ⟨k', v', g'⟩ := b
  have e1 : k = k' := ByteArray.ext (Array.toList_inj.1 h1)
  have e2 : v = v' := ByteArray.ext (Array.toList_inj.1 h2)
  subst e1 e2
  cases h3
  rfl
theorem keyM : Go.Maps.Keyed Tryz.prog 9 := Go.Maps.string_keyed Tryz.underlying9
theorem zeroWr (w : World) : (zeroValue 40).run Tryz.prog w = .ok (wrV ⟨⟨#[]⟩, ⟨#[]⟩, false⟩) w := by kernel_rfl
def keyW (n : ByteArray) : Lit := .string n.data.toList
theorem keyW_inj {a b : ByteArray} (h : keyW a = keyW b) : a = b := by
  unfold keyW at h
  injection h with h
  exact ByteArray.ext (Array.toList_inj.1 h)
theorem keyW_ne {a b : ByteArray} (h : a ≠ b) : keyW a ≠ keyW b := fun e => h (keyW_inj e)
theorem keyW_of {n : ByteArray} (h : n.size ≤ 1000) : keyOf Tryz.prog 9 (.string n) = some (keyW n) := Go.WideMaps.keyOf_string_mk Tryz.underlying9 (by unfold maxLen; omega)
theorem keyW_is (n : ByteArray) : WideAt.IsKeyLit (keyW n) := trivial
/-- The map in block m has the writes l. -/
structure MapT (W : World) (m : Nat) (l : List Wr) (T : DataW Unit) : Prop where
  rise : RiseW l
  few : ∀ x ∈ l, x.key.size ≤ 1000
  map : W.ownsMap Tryz.prog 9 wrElem m l.length T
  sz : Go.Maps.size T = l.length
  has : ∀ k, Go.Maps.has T (keyW k) = (lkW l k).isSome
  at_ : ∀ x ∈ l, ∀ z, T.atKey (keyW x.key) z = wrD x
def MapW (W : World) (m : Nat) (l : List Wr) : Prop := ∃ T, MapT W m l T
theorem ownsW_keep {W W' : World} {m n : Nat} {T : DataW Unit} (h : W.ownsMap Tryz.prog 9 wrElem m n T) (hk : W'.heap[m]? = W.heap[m]?) : W'.ownsMap Tryz.prog 9 wrElem m n T := by
  obtain ⟨es, clock, hb, F, hs, hD⟩ := h
  exact ⟨es, clock, hk.trans hb, F, hs, hD⟩
theorem ownsW_tight {W : World} {m n k : Nat} {T : DataW Unit} (h : W.ownsMap Tryz.prog 9 wrElem m n T) (hk : Go.Maps.size T ≤ k) : W.ownsMap Tryz.prog 9 wrElem m k T := by
  obtain ⟨es, clock, hb, F, hs, rfl⟩ := h
  refine ⟨es, clock, hb, F, ?_, rfl⟩
  simpa [Go.Maps.size, length_sorted] using hk
theorem turnedW_other {W W' : World} {m : Nat} (h : W.mapTurned W' m) {k : Nat} (hk : k ≠ m) : W'.heap[k]? = W.heap[k]? := by
  obtain ⟨es, clock, es', clock', hb, rfl⟩ := h
  exact Go.ChangeMaps.heap_setBlock_other hb _ hk
theorem turnedW_size {W W' : World} {m : Nat} (h : W.mapTurned W' m) : W'.heap.size = W.heap.size := by
  obtain ⟨es, clock, es', clock', hb, rfl⟩ := h
  simp [Go.ChangeMaps.setBlock]
theorem turnedW_keep {W W' : World} {m : Nat} (h : W.mapTurned W' m) : KeepO (fun k => k = m) W W' := by
  have h1 := turnedW_size h
  have h2 := fun k hk => turnedW_other h (k := k) hk
  obtain ⟨es, clock, es', clock', hb, rfl⟩ := h
  exact ⟨rfl, rfl, rfl, by omega, fun k _ hk => h2 k hk⟩
section
variable {W : World} {m : Nat} {l : List Wr} {T : DataW Unit}
theorem MapT.lt (h : MapT W m l T) : m < W.heap.size := h.map.lt
theorem MapT.keep {W' : World} (h : MapT W m l T) (hk : W'.heap[m]? = W.heap[m]?) : MapT W' m l T := ⟨h.rise, h.few, ownsW_keep h.map hk, h.sz, h.has, h.at_⟩
theorem MapW.lt (h : MapW W m l) : m < W.heap.size := by obtain ⟨T, h⟩ := h; exact h.lt
theorem MapW.keep {W' : World} (h : MapW W m l) (hk : W'.heap[m]? = W.heap[m]?) : MapW W' m l := by obtain ⟨T, h⟩ := h; exact ⟨T, h.keep hk⟩
theorem MapW.rise (h : MapW W m l) : RiseW l := by obtain ⟨T, h⟩ := h; exact h.rise
theorem MapW.few (h : MapW W m l) : ∀ x ∈ l, x.key.size ≤ 1000 := by obtain ⟨T, h⟩ := h; exact h.few
theorem MapT.none (h : MapT W m l T) {k : ByteArray} (hk : lkW l k = none) (z : DataW Unit) : T.atKey (keyW k) z = z := Go.Maps.atKey_of_not_has (by rw [h.has, hk]; rfl) z
/-- A key is looked up. -/
theorem MapW.look (h : MapW W m l) (k : ByteArray) (hk : k.size ≤ 1000) :
    (Instr.lookup 53 (.map (some m)) (.string k) true).run Tryz.prog W = .ok (.tuple #[wrV ((lkW l k).getD ⟨⟨#[]⟩, ⟨#[]⟩, false⟩), .bool (lkW l k).isSome]) W := by
  obtain ⟨T, h⟩ := h
  obtain ⟨v, ps, hr, hv⟩ := h.map.look_ok keyM Tryz.underlying53 (zeroWr W) (zd := wrD ⟨⟨#[]⟩, ⟨#[]⟩, false⟩) (zp := []) rfl (keyW_of hk)
  obtain ⟨t, rfl, ht⟩ := wrElem_inv hv
  rw [h.has] at hr
  cases e : lkW l k with
  | none =>
    rw [h.none e] at ht
    rw [e] at hr
    rw [hr, ← wrD_inj ht]
    rfl
  | some x =>
    obtain ⟨hx, rfl⟩ := lk_mem e
    rw [h.at_ x hx] at ht
    rw [e] at hr
    rw [hr, ← wrD_inj ht]
    rfl
theorem MapW.len (h : MapW W m l) (ty : TypeId) : (Builtin.len_ #[53] ty #[.map (some m)]).run Tryz.prog W = .ok (.int .i64 (l.length : Int)) W := by
  obtain ⟨T, h⟩ := h
  rw [h.map.len Tryz.underlying53 ty, h.sz]
theorem length_del (h : RiseW l) (k : ByteArray) : (l.filter fun x => decide (x.key ≠ k)).length + (if (lkW l k).isSome then 1 else 0) = l.length := by
  induction l with
  | nil => rfl
  | cons y l ih =>
    obtain ⟨h1, h2⟩ := List.pairwise_cons.1 h
    by_cases e : y.key = k
    · subst e
      rw [lk_cons_eq, List.filter_cons_of_neg (by simp), List.filter_eq_self.2 (fun x hx => by
        have := ltB_ne (h1 x hx)
        simpa using this.symm)]
      rfl
    · rw [lk_cons_ne e, List.filter_cons_of_pos (by simp [e]), List.length_cons, List.length_cons, ← ih h2]
      omega
theorem length_ins (h : RiseW l) (w : Wr) : (insW l w).length = l.length + (if (lkW l w.key).isSome then 0 else 1) := by
  have e : (insW l w).filter (fun x => decide (x.key ≠ w.key)) = l.filter fun x => decide (x.key ≠ w.key) :=
    rise_ext ((rise_ins h w).sublist List.filter_sublist) (h.sublist List.filter_sublist) fun k => Option.ext fun x => by
      rw [lk_iff (l := (insW l w).filter _) ((rise_ins h w).sublist List.filter_sublist), lk_iff (l := l.filter _) (h.sublist List.filter_sublist), List.mem_filter, List.mem_filter, mem_ins, decide_eq_true_eq]
      constructor
      · rintro ⟨⟨rfl | ⟨h1, h2⟩, h3⟩, h4⟩
        · exact absurd rfl h3
        · exact ⟨⟨h1, h2⟩, h4⟩
      · rintro ⟨⟨h1, h2⟩, h4⟩
        exact ⟨⟨.inr ⟨h1, h2⟩, h2⟩, h4⟩
  have h1 := length_del (rise_ins h w) w.key
  have h2 := length_del h w.key
  rw [lk_ins h, if_pos rfl, e] at h1
  simp only [Option.isSome_some, if_true] at h1
  cases h3 : (lkW l w.key).isSome <;> rw [h3] at h2 <;> simp only [if_true, Bool.false_eq_true, if_false] at h2 ⊢ <;> omega
/-- A write is put at its key. -/
theorem MapW.put (h : MapW W m l) (w : Wr) (hk : w.key.size ≤ 1000) (hlen : l.length ≤ 8589934592) :
    ∃ W', (Instr.mapUpdate 53 (.map (some m)) (.string w.key) (wrV w)).run Tryz.prog W = .ok () W' ∧ MapW W' m (insW l w) ∧ W.mapTurned W' m := by
  obtain ⟨T, h⟩ := h
  obtain ⟨W', hr, ho, ht⟩ := h.map.store keyM Tryz.underlying53 (by unfold maxLen; omega) (keyW_of hk) (val := wrV w) (d := wrD w) (ps := []) rfl
  have hsz : Go.Maps.size (T.put (keyW w.key) (wrD w)) = (insW l w).length := by
    rw [Go.Maps.size_put (h.map.tidy keyM), h.has, h.sz, length_ins h.rise]
    cases (lkW l w.key).isSome <;> rfl
  refine ⟨W', hr, ⟨_, rise_ins h.rise w, fun x hx => ?_, ownsW_tight ho (Nat.le_of_eq hsz), hsz, fun k => ?_, fun x hx z => ?_⟩, ht⟩
  · rcases mem_ins.1 hx with rfl | ⟨hx, -⟩
    · exact hk
    · exact h.few x hx
  · rw [lk_ins h.rise]
    by_cases e : w.key = k
    · subst e
      rw [Go.Maps.has_put_same h.map.isMap (keyW_is _), if_pos rfl]
      rfl
    · rw [Go.Maps.has_put_other (keyW_ne (Ne.symm e)), h.has, if_neg e]
  · rcases mem_ins.1 hx with rfl | ⟨hx, hne⟩
    · exact Go.Maps.atKey_put_same h.map.isMap (keyW_is _) _ _
    · rw [Go.Maps.atKey_put_other (keyW_ne hne)]
      exact h.at_ x hx z
/-- A key is struck. -/
theorem MapW.del (h : MapW W m l) (k : ByteArray) (hk : k.size ≤ 1000) (ty : TypeId) :
    ∃ W', (Builtin.delete_ #[53, 9] ty #[.map (some m), .string k]).run Tryz.prog W = .ok (.tuple #[]) W' ∧ MapW W' m (l.filter fun x => decide (x.key ≠ k)) ∧ W.mapTurned W' m := by
  obtain ⟨T, h⟩ := h
  obtain ⟨W', hr, ho, ht⟩ := h.map.drop keyM Tryz.underlying53 (keyW_of hk) ty
  have hlen := length_del h.rise k
  have hsz : Go.Maps.size (T.del (keyW k)) = (l.filter fun x => decide (x.key ≠ k)).length := by
    have h1 := Go.Maps.size_del (k := keyW k) (h.map.tidy keyM)
    rw [h.has, h.sz] at h1
    cases e : (lkW l k).isSome with
    | true => rw [e] at h1 hlen; simp only [if_true] at h1 hlen; omega
    | false => rw [e] at h1 hlen; simp only [Bool.false_eq_true, if_false] at h1 hlen; omega
  have hr2 : RiseW (l.filter fun x => decide (x.key ≠ k)) := h.rise.sublist List.filter_sublist
  refine ⟨W', hr, ⟨_, hr2, fun x hx => h.few x (List.mem_filter.1 hx).1, ownsW_tight ho (Nat.le_of_eq hsz), hsz, fun n => ?_, fun x hx z => ?_⟩, ht⟩
  · by_cases e : n = k
    · subst e
      rw [Go.Maps.has_del_same, lk_none.2 fun x hx => by simpa using (List.mem_filter.1 hx).2]
      rfl
    · rw [Go.Maps.has_del_other (keyW_ne e), h.has]
      refine congrArg Option.isSome (Option.ext fun x => ?_)
      rw [lk_iff h.rise, lk_iff hr2, List.mem_filter, decide_eq_true_eq]
      constructor
      · rintro ⟨h1, h2⟩
        exact ⟨⟨h1, by rw [h2]; exact e⟩, h2⟩
      · rintro ⟨⟨h1, -⟩, h2⟩
        exact ⟨h1, h2⟩
  · obtain ⟨h1, h2⟩ := List.mem_filter.1 hx
    rw [Go.Maps.atKey_del_other (keyW_ne (by simpa using h2))]
    exact h.at_ x h1 z
/-- A new map. -/
theorem map_new (W : World) : MapW (W.alloc (.map #[] 0)) W.heap.size [] := by
  exact ⟨.map [], List.Pairwise.nil, (fun x hx => by cases hx), World.ownsMap_made W Tryz.prog 9 wrElem, rfl, fun _ => rfl, fun x hx => by cases hx⟩
end
end Go.Proofs.YtmblbogpkdkncaaGreat
namespace Go.Proofs.YtmblbogpkdkncaaGreat
open Go.RowKit

/-- A number in k bytes, the highest first. -/
def numL : Nat → Nat → List Int
  | 0, _ => []
  | k + 1, n => numL k (n / 256) ++ [((n % 256 : Nat) : Int)]
def valL (us : List Int) : Nat := us.foldl (fun n u => n * 256 + u.toNat) 0
def U8 (us : List Int) : Prop := ∀ e ∈ us, 0 ≤ e ∧ e < 256
theorem numL_length : ∀ k n, (numL k n).length = k
  | 0, _ => rfl
  | k + 1, n => by unfold numL; rw [List.length_append, numL_length k]; rfl
theorem numL_bytes : ∀ k n, U8 (numL k n)
  | 0, _, e, h => by cases h
  | k + 1, n, e, h => by
    unfold numL at h
    rcases List.mem_append.1 h with h | h
    · exact numL_bytes k _ e h
    · rw [List.mem_singleton.1 h]; omega
theorem valL_snoc (us : List Int) (u : Int) : valL (us ++ [u]) = valL us * 256 + u.toNat := by unfold valL; rw [List.foldl_append]; rfl
theorem valL_num : ∀ k n, n < 256 ^ k → valL (numL k n) = n
  | 0, n, h => by have : n = 0 := by omega
                  subst this; rfl
  | k + 1, n, h => by
    unfold numL
    rw [valL_snoc, valL_num k (n / 256) (by rw [Nat.pow_succ] at h; omega)]
    omega
theorem valL_lt (us : List Int) (h : U8 us) : valL us < 256 ^ us.length := by
  have k : ∀ (us : List Int) (n m : Nat), n < m → U8 us → us.foldl (fun n u => n * 256 + u.toNat) n < m * 256 ^ us.length := fun us => by
    induction us with
    | nil => intro n m h _; simpa using h
    | cons u us ih =>
      intro n m h hu
      have h1 := hu u List.mem_cons_self
      have h2 := ih (n * 256 + u.toNat) (m * 256) (by omega) fun e he => hu e (List.mem_cons_of_mem _ he)
      rw [List.foldl_cons, List.length_cons, Nat.pow_succ, Nat.mul_comm (256 ^ us.length), ← Nat.mul_assoc]
      exact h2
  have := k us 0 1 (by decide) h
  unfold valL
  omega
theorem toNat_ofInt (i : Nat) (h : i < 18446744073709551616) : (BitVec.ofInt 64 (i : Int)).toNat = i := by
  rw [BitVec.toNat_ofInt]
  omega
theorem or8_i64 (x y : Nat) (hx : x < 18014398509481984) (hy : y < 256) : bits .or .i64 ((x : Int) * 256) (y : Int) = ((x * 256 + y : Nat) : Int) := by
  have e : (x : Int) * 256 = ((x * 256 : Nat) : Int) := by simp
  rw [e]
  show IntKind.i64.wrap ((BitVec.ofInt 64 ((x * 256 : Nat) : Int) ||| BitVec.ofInt 64 (y : Int)).toNat : Int) = _
  rw [BitVec.toNat_or, toNat_ofInt _ (by omega), toNat_ofInt _ (by omega)]
  have h1 := Nat.shiftLeft_add_eq_or_of_lt (a := x) (b := y) (i := 8) hy
  rw [Nat.shiftLeft_eq] at h1
  rw [← h1]
  exact Go.Lib.wrap_i64_small _ (by omega)
/-- What stands for a write's value ahead of it. -/
def aftW (w : Wr) : Nat := if w.gone then 0 else w.val.size + 1
def wrL (w : Wr) : List Int := numL 1 w.key.size ++ (numL 3 (aftW w) ++ (txt w.key ++ txt w.val))
def bodyL (ws : List Wr) : List Int := ws.flatMap wrL
/-- One round of the sum. -/
def sumR (n u : Int) : Int := IntKind.u32.wrap (bits .xor .u32 n u * 16777619)
def sumF (us : List Int) : Int := us.foldl sumR 2166136261
theorem sumF_range (us : List Int) : 0 ≤ sumF us ∧ sumF us < 4294967296 := by
  have h : ∀ (us : List Int) (n : Int), 0 ≤ n ∧ n < 4294967296 → 0 ≤ us.foldl sumR n ∧ us.foldl sumR n < 4294967296 := fun us => by
    induction us with
    | nil => intro n h; exact h
    | cons u us ih =>
      intro n _
      exact ih _ (by unfold sumR; rw [IntKind.wrap_u32]; omega)
  exact h us _ (by decide)
def frameL (ws : List Wr) : List Int := numL 4 (bodyL ws).length ++ (numL 4 (sumF (bodyL ws)).toNat ++ bodyL ws)
def logL (bs : List (List Wr)) : List Int := bs.flatMap frameL
theorem u8_app {a b : List Int} (ha : U8 a) (hb : U8 b) : U8 (a ++ b) := u8_append ha hb
theorem wrL_bytes (w : Wr) : U8 (wrL w) := u8_app (numL_bytes _ _) (u8_app (numL_bytes _ _) (u8_app (txt_bytes _) (txt_bytes _)))
theorem bodyL_bytes (ws : List Wr) : U8 (bodyL ws) := fun e he => by
  obtain ⟨w, -, h⟩ := List.mem_flatMap.1 he
  exact wrL_bytes w e h
theorem frameL_bytes (ws : List Wr) : U8 (frameL ws) := u8_app (numL_bytes _ _) (u8_app (numL_bytes _ _) (bodyL_bytes _))
theorem logL_bytes (bs : List (List Wr)) : U8 (logL bs) := fun e he => by
  obtain ⟨w, -, h⟩ := List.mem_flatMap.1 he
  exact frameL_bytes w e h
theorem wrL_length (w : Wr) : (wrL w).length = 4 + w.key.size + w.val.size := by
  unfold wrL
  rw [List.length_append, List.length_append, List.length_append, numL_length, numL_length, txt_length, txt_length]
  omega
theorem bodyL_cons (w : Wr) (ws : List Wr) : bodyL (w :: ws) = wrL w ++ bodyL ws := rfl
theorem bodyL_append (a b : List Wr) : bodyL (a ++ b) = bodyL a ++ bodyL b := List.flatMap_append
theorem logL_cons (b : List Wr) (bs : List (List Wr)) : logL (b :: bs) = frameL b ++ logL bs := rfl
theorem logL_append (a b : List (List Wr)) : logL (a ++ b) = logL a ++ logL b := List.flatMap_append
theorem frameL_length (ws : List Wr) : (frameL ws).length = 8 + (bodyL ws).length := by
  unfold frameL
  rw [List.length_append, List.length_append, numL_length, numL_length]
  omega
theorem bodyL_cost : ∀ ws : List Wr, (bodyL ws).length + 64 + 60 * ws.length = costW ws
  | [] => rfl
  | w :: ws => by
    have h := bodyL_cost ws
    unfold costW at h ⊢
    rw [bodyL_cons, List.length_append, wrL_length, List.map_cons, List.sum_cons, List.length_cons]
    omega
theorem frame_cost (ws : List Wr) : (frameL ws).length ≤ costW ws := by
  have h := bodyL_cost ws
  rw [frameL_length]
  omega
theorem many_body (ws : List Wr) : 4 * ws.length ≤ (bodyL ws).length := by
  induction ws with
  | nil => exact Nat.le_refl _
  | cons w ws ih =>
    rw [bodyL_cons, List.length_append, wrL_length, List.length_cons]
    omega
theorem body_pos {ws : List Wr} (h : ws ≠ []) : 0 < (bodyL ws).length := by
  have := many_body ws
  have := List.length_pos_iff.2 h
  omega
/-- How many bytes a store takes up behind a Compact. -/
def sizeK (l : List Wr) : Nat := if l = [] then 0 else (frameL l).length
/-- What a log says. -/
def LogOf (us : List Int) (l : List Wr) : Prop := ∃ bs : List (List Wr), (∀ b ∈ bs, b ≠ [] ∧ b.all mayW = true) ∧ us = logL bs ∧ doW [] bs.flatten = l
theorem LogOf.nil : LogOf [] [] := ⟨[], (fun b h => by cases h), rfl, rfl⟩
theorem LogOf.bytes {us : List Int} {l : List Wr} (h : LogOf us l) : U8 us := by obtain ⟨bs, -, rfl, -⟩ := h; exact logL_bytes bs
theorem LogOf.rise {us : List Int} {l : List Wr} (h : LogOf us l) : RiseW l := by obtain ⟨bs, -, -, rfl⟩ := h; exact rise_do _ List.Pairwise.nil
theorem LogOf.more {us : List Int} {l : List Wr} (h : LogOf us l) {b : List Wr} (h0 : b ≠ []) (hb : b.all mayW = true) : LogOf (us ++ frameL b) (doW l b) := by
  obtain ⟨bs, h1, rfl, rfl⟩ := h
  refine ⟨bs ++ [b], fun c hc => ?_, by rw [logL_append]; simp [logL], by rw [List.flatten_append]; unfold doW; rw [List.foldl_append]; simp⟩
  rcases List.mem_append.1 hc with hc | hc
  · exact h1 c hc
  · rw [List.mem_singleton.1 hc]; exact ⟨h0, hb⟩
theorem LogOf.one {l : List Wr} (h0 : l ≠ []) (hr : RiseW l) (hm : l.all mayW = true) (hg : ∀ x ∈ l, x.gone = false) : LogOf (frameL l) l :=
  ⟨[l], (fun c hc => by rw [List.mem_singleton.1 hc]; exact ⟨h0, hm⟩), by simp [logL], by simp [do_self hr hg]⟩
theorem LogOf.may {us : List Int} {l : List Wr} (h : LogOf us l) : l.all mayW = true := by
  obtain ⟨bs, h1, -, rfl⟩ := h
  refine may_do rfl (List.all_eq_true.2 fun x hx => ?_)
  obtain ⟨b, hb, hx⟩ := List.mem_flatten.1 hx
  exact List.all_eq_true.1 (h1 b hb).2 x hx
theorem LogOf.stays {us : List Int} {l : List Wr} (h : LogOf us l) : ∀ x ∈ l, x.gone = false := by
  obtain ⟨bs, -, -, rfl⟩ := h
  exact do_gone (l := []) (fun x h => by cases h)
/-- A text's pieces as numbers. -/
theorem str_take (us : List Int) (k : Nat) : (strOfNums us).extract 0 k = strOfNums (us.take k) := by
  apply ByteArray.ext
  apply Array.toList_inj.1
  simp [strOfNums, List.map_take]
theorem str_drop (us : List Int) (k : Nat) : (strOfNums us).extract k us.length = strOfNums (us.drop k) := by
  apply ByteArray.ext
  apply Array.toList_inj.1
  simp [strOfNums, List.map_drop]
  rw [List.take_of_length_le (by simp)]
theorem may_facts {w : Wr} (h : mayW w = true) : 1 ≤ w.key.size ∧ w.key.size ≤ 200 ∧ w.val.size ≤ 1048576 ∧ (w.gone = true → w.val.size = 0) := by
  unfold mayW at h
  simp only [Bool.and_eq_true, decide_eq_true_eq, Bool.or_eq_true, Bool.not_eq_true'] at h
  obtain ⟨⟨⟨h1, h2⟩, h3⟩, h4⟩ := h
  refine ⟨h1, h2, h3, fun h => ?_⟩
  rcases h4 with h4 | h4
  · rw [h] at h4; cases h4
  · exact h4
end Go.Proofs.YtmblbogpkdkncaaGreat
namespace Go.Proofs.YtmblbogpkdkncaaGreat
open Go.RowKit

/-- A file and its pieces' value; its cells. -/
abbrev FV := Fl × Value
def cellsFl (p : FV) : List Value := [.string p.1.name, .string p.1.safe, p.2]
def flatFl (l : List FV) : List Value := l.flatMap cellsFl
theorem flatFl_length (l : List FV) : (flatFl l).length = l.length * 3 := by
  induction l with
  | nil => rfl
  | cons p l ih => simp [flatFl, cellsFl] at ih ⊢; omega
theorem flatFl_append (a b : List FV) : flatFl (a ++ b) = flatFl a ++ flatFl b := by simp [flatFl]
theorem flatFl_at : ∀ (l : List FV) (i : Nat) (p : FV), l[i]? = some p → (flatFl l)[i * 3]? = some (.string p.1.name) ∧ (flatFl l)[i * 3 + 1]? = some (.string p.1.safe) ∧ (flatFl l)[i * 3 + 2]? = some p.2
  | [], i, p, h => by simp at h
  | q :: l, 0, p, h => by simp at h; subst h; exact ⟨rfl, rfl, rfl⟩
  | q :: l, i + 1, p, h => by
    have := flatFl_at l i p (by simpa using h)
    rw [Nat.succ_mul]
    exact this
theorem flatFl_take (l : List FV) (k : Nat) : flatFl (l.take k) = (flatFl l).take (k * 3) := by
  induction l generalizing k with
  | nil => simp [flatFl]
  | cons p l ih =>
    cases k with
    | zero => simp [flatFl]
    | succ k =>
      rw [List.take_succ_cons, Nat.succ_mul]
      show cellsFl p ++ flatFl (l.take k) = (cellsFl p ++ flatFl l).take (k * 3 + 3)
      rw [ih, List.take_append, List.take_of_length_le (l := cellsFl p) (show 3 ≤ k * 3 + 3 by omega), show (cellsFl p).length = 3 from rfl, Nat.add_sub_cancel]
theorem flatFl_drop (l : List FV) (k : Nat) : flatFl (l.drop k) = (flatFl l).drop (k * 3) := by
  induction l generalizing k with
  | nil => simp [flatFl]
  | cons p l ih =>
    cases k with
    | zero => simp [flatFl]
    | succ k =>
      rw [List.drop_succ_cons, Nat.succ_mul]
      show flatFl (l.drop k) = (cellsFl p ++ flatFl l).drop (k * 3 + 3)
      rw [ih, List.drop_append, List.drop_eq_nil_of_le (show (cellsFl p).length ≤ k * 3 + 3 from Nat.le_add_left 3 _), show (cellsFl p).length = 3 from rfl, Nat.add_sub_cancel, List.nil_append]
/-- Texts in a row of which S holds. -/
def PcsIn (W : World) (S : Nat → Prop) (v : Value) (ps : List ByteArray) : Prop :=
  ∃ P c, v = .slice P ps.length c ∧ ps.length ≤ c ∧ c ≤ maxLen ∧ (P = none → c = 0) ∧ ∀ i s, ps[i]? = some s → ∃ ad, P = some ad ∧ S ad.block ∧ ad.block < W.heap.size ∧ W.cell? (ad.add i) = some (.string s)
theorem PcsIn.strs {W : World} {S : Nat → Prop} {P : Option Addr} {m c : Nat} {ps : List ByteArray} (h : PcsIn W S (.slice P m c) ps) : m = ps.length ∧ ps.length ≤ c ∧ c ≤ maxLen ∧ (P = none → c = 0) ∧ StrsIn W P ps := by
  obtain ⟨P', c', hv, h1, h2, h3, h4⟩ := h
  cases hv
  exact ⟨rfl, h1, h2, h3, fun i s hs => by obtain ⟨ad, k1, _, k2, k3⟩ := h4 i s hs; exact ⟨ad, k1, k2, k3⟩⟩
theorem PcsIn.keep {W W' : World} {S S' : Nat → Prop} {v : Value} {ps : List ByteArray} (h : PcsIn W S v ps) (hk : ∀ k, S k → k < W.heap.size → S' k ∧ W'.heap[k]? = W.heap[k]?) : PcsIn W' S' v ps := by
  obtain ⟨P, c, rfl, h1, h2, h3, h4⟩ := h
  refine ⟨P, c, rfl, h1, h2, h3, fun i s hs => ?_⟩
  obtain ⟨ad, k1, k2, k3, k4⟩ := h4 i s hs
  obtain ⟨j1, j2⟩ := hk _ k2 k3
  have hlt : ad.block < W'.heap.size := by
    rw [Array.getElem?_eq_getElem k3] at j2
    exact (Array.getElem?_eq_some_iff.1 j2).1
  exact ⟨ad, k1, j1, hlt, (World.cell?_of_block (a := ad.add i) (by rw [addr_add_block]; exact j2)).trans k4⟩
theorem PcsIn.nil (W : World) (S : Nat → Prop) : PcsIn W S (.slice none 0 0) [] := ⟨none, 0, rfl, Nat.le_refl _, by unfold maxLen; omega, fun _ => rfl, fun i s hs => by simp at hs⟩
end Go.Proofs.YtmblbogpkdkncaaGreat
namespace Go.Proofs.YtmblbogpkdkncaaGreat
open Go.RowKit

/-- A place as a number. -/
def placeV : Option Nat → Int
  | none => -1
  | some k => (k : Int)
theorem atD_skip : ∀ (k : Nat) (fs : List Fl) (n : ByteArray), (∀ j f, j < k → fs[j]? = some f → f.name ≠ n) → k ≤ fs.length → (∀ f, fs[k]? = some f → f.name = n → atD fs n = some k) ∧ (k = fs.length → atD fs n = none)
  | 0, [], n, _, _ => ⟨fun f h => by simp at h, fun _ => rfl⟩
  | 0, g :: r, n, _, _ => ⟨fun f h e => by simp at h; subst h; unfold atD; rw [if_pos e], fun h => by simp at h⟩
  | k + 1, [], n, _, hk => by simp at hk
  | k + 1, g :: r, n, h, hk => by
    have h0 : g.name ≠ n := h 0 g (by omega) rfl
    obtain ⟨h1, h2⟩ := atD_skip k r n (fun j f hj hf => h (j + 1) f (by omega) (by rw [List.getElem?_cons_succ]; exact hf)) (by simpa using hk)
    refine ⟨fun f hf e => ?_, fun e => ?_⟩
    · rw [List.getElem?_cons_succ] at hf
      unfold atD
      rw [if_neg h0, h1 f hf e]
      rfl
    · unfold atD
      rw [if_neg h0, h2 (by simpa using e)]
      rfl
end Go.Proofs.YtmblbogpkdkncaaGreat
namespace Go.Proofs.YtmblbogpkdkncaaGreat
open Go.RowKit

/-- What stands at a place. -/
structure PlaceF (W : World) (Y : Option Addr) (k : Nat) (p : FV) (g : Nat) (P : Option Addr) (c : Nat) : Prop where
  at_ : Y = some ⟨g, 0, none⟩
  lt : g < W.heap.size
  n : W.cell? ⟨g, k * 3, none⟩ = some (.string p.1.name)
  s : W.cell? ⟨g, k * 3 + 1, none⟩ = some (.string p.1.safe)
  v : W.cell? ⟨g, k * 3 + 2, none⟩ = some (.slice P p.1.pcs.length c)
  val : p.2 = .slice P p.1.pcs.length c
  strs : StrsIn W P p.1.pcs
  hc : p.1.pcs.length ≤ c
  hcm : c ≤ maxLen
/-- How much there is. -/
def SmallD (D : Dr) : Prop := wtL D.fs ≤ 100000
theorem wt_mem {fs : List Fl} {f : Fl} (h : f ∈ fs) : wtF f ≤ wtL fs := by
  induction fs with
  | nil => cases h
  | cons g r ih =>
    have e : wtL (g :: r) = wtF g + wtL r := rfl
    rw [e]
    rcases List.mem_cons.1 h with rfl | h
    · omega
    · have := ih h
      omega
theorem wt_len (fs : List Fl) : fs.length ≤ wtL fs := by
  induction fs with
  | nil => simp [wtL]
  | cons f r ih => simp [wtL, wtF] at ih ⊢; omega
theorem used_wt (fs : List Fl) : usedD fs ≤ wtL fs := by
  induction fs with
  | nil => simp [wtL, usedD]
  | cons f r ih => simp [wtL, wtF, usedD] at ih ⊢; omega
theorem usedD_append (a b : List Fl) : usedD (a ++ b) = usedD a + usedD b := by simp [usedD]
theorem small_all {D : Dr} (h : SmallD D) {f : Fl} (hf : f ∈ D.fs) : f.safe.size + sumP f.pcs ≤ 1000000 := by
  have h1 := wt_mem hf
  unfold wtF at h1
  have h2 : f.all.size = f.safe.size + sumP f.pcs := joinP_size _ _
  unfold SmallD at h
  omega
end Go.Proofs.YtmblbogpkdkncaaGreat
