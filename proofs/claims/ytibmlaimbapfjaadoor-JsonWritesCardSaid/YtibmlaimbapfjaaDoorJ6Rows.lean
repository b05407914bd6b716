/- Rows of texts, rows of values of JSON, that a call makes: appends whose run is known. -/
import Derived.Test.YtibmlaimbapfjaaDoorJ6Data
namespace Go.Proofs.YtibmlaimbapfjaaDoor
open Go.RowKit

theorem infoStr : (Tryd.prog.info? 9).map (fun i => (i.zero, i.size, i.bytes)) = some (some (.string ⟨#[]⟩), 1, 16) := by kernel_rfl
def zeroJ : Value := .agg #[.int .i64 0, .string ⟨#[]⟩, .int .i64 0, .slice none 0 0, .slice none 0 0]
theorem infoJson : (Tryd.prog.info? 25).map (fun i => (i.zero, i.size, i.bytes)) = some (some zeroJ, 5, 80) := by kernel_rfl

/-- 'append(l, s)' of texts: the one lies in a block of its own. -/
theorem append_text (B n : Nat) (v : Value) (xs : List Value) (s : ByteArray) (W : World) (hown : W.ownsRow B 9 1 v n xs) (hm : n ≤ 100000) (hB : B ≤ W.heap.size) :
    ∃ v' W', (Builtin.append_ #[22, 22] 22 #[v, .slice (some ⟨W.heap.size, 0, none⟩) 1 1]).run Tryd.prog (W.alloc (.cells #[.string s] 9)) = .ok v' W' ∧ W'.ownsRow B 9 1 v' (n + 1) (xs ++ [.string s]) ∧ (W.alloc (.cells #[.string s] 9)).grownBy W' v.ownBlock ∧ (v'.ownBlock = v.ownBlock ∨ v'.ownBlock = some (W.heap.size + 1)) := by
  obtain ⟨i0, hi, hz0, hz1, hz2⟩ := info_parts infoStr
  obtain ⟨v', w', hr, hown', hg, _, hb⟩ := run_append_own_at (P := Tryd.prog) (W.alloc (.cells #[.string s] 9)) B 22 22 9 i0 (.string ⟨#[]⟩) 1 16 Tryd.underlying22 hi hz0 hz1 hz2 rfl (by decide) v n xs (hown.alloc _) ⟨W.heap.size, 0, none⟩ 1 1 [.string s] rfl (cell_one_new W _ _) (fun y h => by rw [List.mem_singleton.1 h]; rfl) (by unfold maxLen; omega) (by omega) (by simp; omega)
  exact ⟨v', w', hr, hown', hg, by simpa using hb⟩
/-- 'append(l, ns...)' of texts. -/
theorem append_texts (B n : Nat) (v : Value) (xs : List Value) (X : Option Addr) (c : Nat) (ns : List ByteArray) (W : World) (hown : W.ownsRow B 9 1 v n xs) (hX : StrsAt W X ns) (hnil : X = none → c = 0) (hm : n + ns.length ≤ 100000) (hB : B ≤ W.heap.size) :
    ∃ v' W', (Builtin.append_ #[22, 22] 22 #[v, .slice X ns.length c]).run Tryd.prog W = .ok v' W' ∧ W'.ownsRow B 9 1 v' (n + ns.length) (xs ++ ns.map Value.string) ∧ W.grownBy W' v.ownBlock ∧ (v'.ownBlock = v.ownBlock ∨ v'.ownBlock = some W.heap.size) := by
  obtain ⟨i0, hi, hz0, hz1, hz2⟩ := info_parts infoStr
  cases X with
  | none =>
    obtain rfl := hnil rfl
    have h0 : ns = [] := by
      cases ns with
      | nil => rfl
      | cons a l => obtain ⟨ad, h, _⟩ := hX 0 a rfl; cases h
    subst h0
    refine ⟨v, W, ?_, by simpa using hown, ⟨rfl, rfl, rfl, Nat.le_refl _, fun _ _ _ => rfl⟩, .inl rfl⟩
    obtain ⟨X', cap, rfl, hcap, -⟩ := own_slice hown
    cases X' <;> simp [Builtin.append_, go_sem, run_underlying Tryd.underlying22] <;> intro h <;> omega
  | some ad =>
    obtain ⟨v', w', hr, hown', hg, _, hb⟩ := run_append_own_at (P := Tryd.prog) W B 22 22 9 i0 (.string ⟨#[]⟩) 1 16 Tryd.underlying22 hi hz0 hz1 hz2 rfl (by decide) v n xs hown ad ns.length c (ns.map Value.string) (by simp) (fun j u h => by
        rw [List.getElem?_map] at h
        obtain ⟨e, he, rfl⟩ := Option.map_eq_some_iff.1 h
        obtain ⟨ad', h1, _, h3⟩ := hX j e he
        cases h1
        exact h3) (fun u h => by obtain ⟨e, _, rfl⟩ := List.mem_map.1 h; rfl) (by unfold maxLen; omega) (by omega) hB
    exact ⟨v', w', hr, hown', hg, hb⟩
/-- The five cells of a value of JSON. -/
def fiveV (k : Int) (t : ByteArray) (n : Int) (A : Option Addr) (nl cA : Nat) (K : Option Addr) (kl cK : Nat) : List Value := [.int .i64 k, .string t, .int .i64 n, .slice A nl cA, .slice K kl cK]
/-- 'append(l, v)' of values: the one lies in a block of its own. -/
theorem append_json (B n : Nat) (v : Value) (xs : List Value) (k : Int) (t : ByteArray) (m : Int) (A : Option Addr) (nl cA : Nat) (K : Option Addr) (kl cK : Nat) (W : World) (hown : W.ownsRow B 25 5 v n xs) (hm : n ≤ 100000) (hB : B ≤ W.heap.size) :
    ∃ v' W', (Builtin.append_ #[23, 23] 23 #[v, .slice (some ⟨W.heap.size, 0, none⟩) 1 1]).run Tryd.prog (W.alloc (.cells #[.int .i64 k, .string t, .int .i64 m, .slice A nl cA, .slice K kl cK] 25)) = .ok v' W' ∧ W'.ownsRow B 25 5 v' (n + 1) (xs ++ fiveV k t m A nl cA K kl cK) ∧ (W.alloc (.cells #[.int .i64 k, .string t, .int .i64 m, .slice A nl cA, .slice K kl cK] 25)).grownBy W' v.ownBlock ∧ (v'.ownBlock = v.ownBlock ∨ v'.ownBlock = some (W.heap.size + 1)) := by
  obtain ⟨i0, hi, hz0, hz1, hz2⟩ := info_parts infoJson
  have hb := heap_alloc_new W (.cells #[.int .i64 k, .string t, .int .i64 m, .slice A nl cA, .slice K kl cK] 25)
  obtain ⟨v', w', hr, hown', hg, _, hbk⟩ := run_append_own_at (P := Tryd.prog) (W.alloc (.cells #[.int .i64 k, .string t, .int .i64 m, .slice A nl cA, .slice K kl cK] 25)) B 23 23 25 i0 zeroJ 5 80 Tryd.underlying23 hi hz0 hz1 hz2 rfl (by decide) v n xs (hown.alloc _) ⟨W.heap.size, 0, none⟩ 1 1 (fiveV k t m A nl cA K kl cK) rfl (fun j u h => by
      rw [Addr.add_lit, Nat.zero_add, cell_of_row _ _ j _ _ (0, 0) hb, List.getElem?_toArray]; exact h) (fun u h => by
      simp only [fiveV, List.mem_cons, List.not_mem_nil, or_false] at h
      rcases h with rfl | rfl | rfl | rfl | rfl <;> rfl) (by unfold maxLen; omega) (by omega) (by simp; omega)
  exact ⟨v', w', hr, hown', hg, by simpa using hbk⟩
/-- 'append(l, vs...)' of values that lie in memory cell by cell. -/
theorem append_jsons (B n m c : Nat) (v : Value) (xs news : List Value) (ad : Addr) (W : World) (hown : W.ownsRow B 25 5 v n xs) (hl : news.length = m * 5) (hX : ∀ j u, news[j]? = some u → W.cell? (ad.add j) = some u) (h1 : ∀ u ∈ news, u.oneCell' = true) (hm : n + m ≤ 100000) (hB : B ≤ W.heap.size) :
    ∃ v' W', (Builtin.append_ #[23, 23] 23 #[v, .slice (some ad) m c]).run Tryd.prog W = .ok v' W' ∧ W'.ownsRow B 25 5 v' (n + m) (xs ++ news) ∧ W.grownBy W' v.ownBlock ∧ (v'.ownBlock = v.ownBlock ∨ v'.ownBlock = some W.heap.size) := by
  obtain ⟨i0, hi, hz0, hz1, hz2⟩ := info_parts infoJson
  obtain ⟨v', w', hr, hown', hg, _, hb⟩ := run_append_own_at (P := Tryd.prog) W B 23 23 25 i0 zeroJ 5 80 Tryd.underlying23 hi hz0 hz1 hz2 rfl (by decide) v n xs hown ad m c news hl hX h1 (by unfold maxLen; omega) (by omega) hB
  exact ⟨v', w', hr, hown', hg, hb⟩
end Go.Proofs.YtibmlaimbapfjaaDoor
