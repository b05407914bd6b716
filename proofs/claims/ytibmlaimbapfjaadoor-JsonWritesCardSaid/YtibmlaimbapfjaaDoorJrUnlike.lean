/- Are names unlike one another? -/
import Derived.Test.YtibmlaimbapfjaaDoorJ6Data
import Derived.Maps.OwnSet
import Derived.StringKeys
namespace Go.Proofs.YtibmlaimbapfjaaDoor
open Go.RowKit Go.Maps Go.WideMaps

def keysOf (ns : List ByteArray) : List Lit := ns.map fun s => .string s.data.toList
theorem same_string (a b : List UInt8) : (Lit.string a).sameKey (.string b) = decide (a = b) := by
  show (a == b) = decide (a = b)
  by_cases h : a = b <;> simp [h]
theorem addKey_string (acc : List (List UInt8)) (x : List UInt8) : addKey (acc.map Lit.string) (.string x) = (if x ∈ acc then acc else acc ++ [x]).map Lit.string := by
  unfold addKey
  have e : (acc.map Lit.string).any (fun y => y.sameKey (.string x)) = decide (x ∈ acc) := by
    induction acc with
    | nil => rfl
    | cons a r ih =>
      rw [List.map_cons, List.any_cons, ih, same_string]
      by_cases h : a = x
      · simp [h]
      · have h' : ¬ x = a := fun e => h e.symm
        simp [h, h']
  rw [e]
  by_cases h : x ∈ acc
  · simp [h]
  · simp [h]
theorem fold_count : ∀ (xs acc : List (List UInt8)), ∃ zs : List (List UInt8), (xs.map Lit.string).foldl addKey (acc.map Lit.string) = zs.map Lit.string ∧ zs.length ≤ acc.length + xs.length ∧ (zs.length = acc.length + xs.length ↔ xs.Nodup ∧ ∀ x ∈ xs, x ∉ acc)
  | [], acc => ⟨acc, rfl, by simp, by simp⟩
  | x :: r, acc => by
    rw [List.map_cons, List.foldl_cons, addKey_string]
    by_cases h : x ∈ acc
    · rw [if_pos h]
      obtain ⟨zs, h1, h2, h3⟩ := fold_count r acc
      refine ⟨zs, h1, by simp; omega, ⟨fun e => ?_, fun e => absurd h (e.2 x (by simp))⟩⟩
      rw [List.length_cons] at e
      omega
    · rw [if_neg h]
      obtain ⟨zs, h1, h2, h3⟩ := fold_count r (acc ++ [x])
      rw [List.length_append, List.length_singleton] at h2 h3
      refine ⟨zs, h1, by simp; omega, ?_⟩
      rw [List.length_cons, show acc.length + (r.length + 1) = acc.length + 1 + r.length by omega, h3, List.nodup_cons]
      constructor
      · rintro ⟨k1, k2⟩
        refine ⟨⟨fun hx => (k2 x hx) (by simp), k1⟩, fun y hy hm => ?_⟩
        rcases List.mem_cons.1 hy with rfl | hy
        · exact h hm
        · exact (k2 y hy) (by simp [hm])
      · rintro ⟨⟨k1, k2⟩, k3⟩
        refine ⟨k2, fun y hy hm => ?_⟩
        rcases List.mem_append.1 hm with hm | hm
        · exact k3 y (by simp [hy]) hm
        · rw [List.mem_singleton.1 hm] at hy
          exact k1 hy
theorem keys_lit (ns : List ByteArray) (k : Nat) : ∀ x ∈ (keysOf ns).take k, WideAt.IsKeyLit x := fun x hx => by
  obtain ⟨s, -, rfl⟩ := List.mem_map.1 (List.mem_of_mem_take hx)
  trivial
def Sn {H : Type} (ns : List ByteArray) (k : Nat) : DataW H := setOf (.agg []) ((keysOf ns).take k)
theorem Sn_zero {H : Type} (ns : List ByteArray) : Sn (H := H) ns 0 = .map [] := by simp [Sn, setOf]
theorem Sn_succ {H : Type} {ns : List ByteArray} {k : Nat} {s : ByteArray} (h : ns[k]? = some s) : Sn (H := H) ns (k + 1) = (Sn (H := H) ns k).put (.string s.data.toList) (.agg []) := by
  unfold Sn
  rw [List.take_add_one, show (keysOf ns)[k]? = some (.string s.data.toList) by unfold keysOf; rw [List.getElem?_map, h]; rfl]
  exact setOf_snoc _ _ _
theorem nodup_bytes (ns : List ByteArray) : (ns.map fun s => s.data.toList).Nodup ↔ ns.Nodup := by
  constructor
  · intro h
    rw [List.Nodup, List.pairwise_map] at h
    exact h.imp fun hne e => hne (by rw [e])
  · intro h
    rw [List.Nodup, List.pairwise_map]
    exact h.imp fun hne e => hne (ByteArray.ext (Array.toList_inj.1 e))
theorem Sn_size {H : Type} (ns : List ByteArray) : Maps.size (Sn (H := H) ns ns.length) ≤ ns.length ∧ (Maps.size (Sn (H := H) ns ns.length) = ns.length ↔ ns.Nodup) := by
  unfold Sn
  rw [size_setOf _ _ (keys_lit ns _), List.take_of_length_le (by simp [keysOf])]
  obtain ⟨zs, h1, h2, h3⟩ := fold_count (ns.map fun s => s.data.toList) []
  rw [show keysOf ns = (ns.map fun s => s.data.toList).map Lit.string by unfold keysOf; rw [List.map_map]; rfl]
  rw [show ((ns.map fun s => s.data.toList).map Lit.string).foldl addKey [] = zs.map Lit.string from h1, List.length_map]
  rw [List.length_map, List.length_nil] at h2 h3
  refine ⟨by omega, ?_⟩
  rw [← nodup_bytes]
  constructor
  · intro e
    exact (h3.1 (by omega)).1
  · intro e
    have := h3.2 ⟨e, by simp⟩
    omega
theorem lawStr : Keyed Tryd.prog 9 := string_keyed Tryd.underlying9

def UnlikeP (w : World) (ns : List ByteArray) (e : Ending) (w' : World) : Prop := ∃ b : Bool, e = .returned (.bool b) ∧ (b = true ↔ ns.Nodup) ∧ Below w.heap.size w w'
set_option maxHeartbeats 1000000 in
set_option maxRecDepth 100000 in
theorem unlike_any (A : Option Addr) (cA : Nat) (ns : List ByteArray) (w : World) (h : StrsAt w A ns) (hz : ∀ s ∈ ns, s.size ≤ maxLen) (hm : ns.length ≤ 1000000) :
    Calls Tryd.prog 49 #[.slice A ns.length cA] w (UnlikeP w ns) := by
  have hmm := @run_makeMap Tryd.prog
  have HS := Lib.hid h
  have HZ := Lib.hid hz
  have HE := Lib.hid (Sn_size (H := Unit) ns)
  obtain ⟨n, hn⟩ : ∃ n, n = ns.length := ⟨_, rfl⟩
  rw [← hn]
  have HN := Lib.hid hn
  have hn1 : n ≤ 1000000 := by omega
  clear h hz hm hn
  go_enter Tryd.func49, Tryd.ntmps49
  go_wp2_with fail
  go_loopw [9] (fun i wr => ∃ k : Nat, k ≤ n ∧ i = .int .i64 (k : Int) ∧ wr.ownsMap Tryd.prog 9 (unitElem (H := Unit)) w.heap.size k (Sn (H := Unit) ns k) ∧ Below w.heap.size w wr) (fun i _ => n - (intOf i).toNat)
  case atStart => exact ⟨0, Nat.zero_le _, rfl, by rw [Sn_zero]; exact World.ownsMap_made _ _ _ _, (Below.refl _ _).alloc (Nat.le_refl _) _⟩
  case round =>
    obtain ⟨k, hk, rfl, hown, hnx⟩ := hrel
    by_cases hlt : k < n
    · have hki : (k : Int) < (n : Int) := by omega
      obtain ⟨s, hs⟩ : ∃ s, ns[k]? = some s := ⟨_, List.getElem?_eq_getElem (by rw [← HN.out]; exact hlt)⟩
      obtain ⟨ad, rfl, hab, hc⟩ := HS.out k s hs
      have hcx : wr.cell? (ad.add k) = some (.string s) := (hnx.cell (by rw [addr_add_block]; exact hab)).trans hc
      have hkey := keyOf_string_mk Tryd.underlying9 (HZ.out s (List.mem_of_getElem? hs))
      have HSu := Lib.hid (Sn_succ (H := Unit) hs)
      clear hs hc hab
      go_wp2_with (first
        | (at_mapUpdate; refine wpList_mapUpdate_own _ rfl _ _ _ 110 rfl 9 111 lawStr Tryd.underlying110 (unitElem (H := Unit)) w.heap.size k _ rfl hown (by unfold maxLen; omega) _ _ _ rfl rfl hkey _ [] unitElem_mk ?_; intro w1 hown1 hgrow1)
        | go_in)
      go_roundw
      case rel => exact ⟨k + 1, by omega, by go_num, by rw [HSu.out]; exact hown1, hnx.grown hgrow1 hnx.size (fun j hj => by cases hj; exact Nat.le_refl _)⟩
      case measure => simp [intOf]; omega
    · have hki : ¬ (k : Int) < (n : Int) := by omega
      have hkn : k = ns.length := by have := HN.out; omega
      have HK := Lib.hid hkn
      clear hkn
      have HF := Lib.hid (show UnlikeP w ns (.returned (.bool (((Maps.size (Sn (H := Unit) ns k) : Nat) : Int) == (n : Int)))) wr from ⟨_, rfl, by
        rw [HK.out, beq_iff_eq, HN.out]
        have := HE.out.2
        rw [← this]
        omega, hnx⟩)
      go_wp2_with (first
        | (at_len; refine wpList_len_own _ rfl _ 110 rfl 9 111 Tryd.underlying110 _ w.heap.size k _ rfl hown ?_)
        | go_in)
      go_ret
      exact HF.out
end Go.Proofs.YtibmlaimbapfjaaDoor
