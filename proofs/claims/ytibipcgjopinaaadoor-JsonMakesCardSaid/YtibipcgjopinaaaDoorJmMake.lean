/- Making: json.Map. -/
import Derived.Test.YtibipcgjopinaaaDoorJmKids
namespace Go.Proofs.YtibipcgjopinaaaDoor
open Go.RowKit

set_option maxHeartbeats 2000000 in
set_option maxRecDepth 100000 in
theorem map_any (A : Option Addr) (cA : Nat) (ns : List ByteArray) (ad : Addr) (n cK : Nat) (cs : List Value) (w : World) (hA : StrsAt w A ns) (hz : ∀ s ∈ ns, s.size ≤ 281474976710656) (hns : ns.length ≤ 100000) (hl : cs.length = n * 5) (hc : ∀ j u, cs[j]? = some u → w.cell? (ad.add j) = some u) (ho : ∀ u ∈ cs, u.oneCell' = true) (hn : n ≤ 100000) (hn0 : 0 < n) (hlv : Leaves n cs) :
    Calls Tryd.prog 14 #[.slice A ns.length cA, .slice (some ad) n cK] w fun e w' => ∃ v X, e = .returned (.agg #[.int .i64 4, .string ⟨#[]⟩, .int .i64 0, v, X]) ∧ Below w.heap.size w w' ∧ w'.ownsRow w.heap.size 9 1 v ns.length (ns.map Value.string) ∧ w'.ownsRow w.heap.size 25 5 X n cs := by
  obtain ⟨w1, hw1⟩ : ∃ W, W = w.alloc (.cells #[.int .i64 0, .string ⟨#[]⟩, .int .i64 0, .slice none 0 0, .slice none 0 0] 25) := ⟨_, rfl⟩
  have b1 : Below w.heap.size w w1 := hw1 ▸ (Below.refl _ _).alloc (Nat.le_refl _) _
  have hv1 : w1.heap[w.heap.size]? = some (.cells #[.int .i64 0, .string ⟨#[]⟩, .int .i64 0, .slice none 0 0, .slice none 0 0] 25 (0, 0)) := hw1 ▸ heap_alloc_new _ _
  have hl1 := (Array.getElem?_eq_some_iff.1 hv1).1
  have HC := Lib.hid (names_any A cA ns w1 (hA.on b1) hz hns)
  have HK := Lib.hid (fun (w2 : World) (hb : Below w1.heap.size w1 w2) => kids_any ad n cK cs w2 hl (fun j u h => ((b1.trans (hb.mono (by omega))).cell (World.block_lt_of_cell? _ _ (hc j u h))).trans (hc j u h)) ho hn hn0 hlv)
  have HW1 := Lib.hid hw1
  have H1 := Lib.hid (And.intro b1 (And.intro hv1 hl1))
  clear hw1 b1 hv1 hl1 hl hc ho hlv hz hA
  go_enter Tryd.func14, Tryd.ntmps14
  go_wp2_with fail
  rw [← HW1.out]
  go_at_call 24
  refine HC.out.mono ?_
  rintro e1 w2 ⟨v, rfl, hb, hown⟩
  have HB2 := Lib.hid (And.intro hb hown)
  have HK2 := Lib.hid (HK.out w2 hb)
  clear hb hown HC HK
  obtain ⟨X1, c1, rfl, -, -⟩ := row_slice HB2.out.2
  go_wp2_with fail
  go_at_call 25
  refine HK2.out.mono ?_
  rintro e3 w3 ⟨X, rfl, hb3, hown3⟩
  obtain ⟨X2, c2, rfl, -, -⟩ := row_slice hown3
  obtain ⟨b1, hv1, hl1⟩ := H1.out
  have hs2 := HB2.out.1.size
  have hv3 : w3.heap[w.heap.size]? = some (.cells #[.int .i64 0, .string ⟨#[]⟩, .int .i64 0, .slice none 0 0, .slice none 0 0] 25 (0, 0)) := (hb3.block _ (by omega)).trans ((HB2.out.1.block _ hl1).trans hv1)
  have b3 : Below w.heap.size w w3 := b1.trans ((HB2.out.1.mono (by omega)).trans (hb3.mono (by omega)))
  have hg := setF_grown w3 w.heap.size (.int .i64 4) (.string ⟨#[]⟩) (.int .i64 0) (.slice X1 ns.length c1) (.slice X2 n c2)
  have own1 : w3.ownsRow w1.heap.size 9 1 (.slice X1 ns.length c1) ns.length (ns.map Value.string) := own_below HB2.out.2 hb3
  have hne1 : (Value.slice X1 ns.length c1).ownBlock ≠ some w.heap.size := fun e => by have := own1.lt _ e; omega
  have hne2 : (Value.slice X2 n c2).ownBlock ≠ some w.heap.size := fun e => by have := hown3.lt _ e; omega
  have HX := Lib.hid (And.intro (b3.trans (only_below hg (Nat.le_refl _) b3.size)) (And.intro (own_lower (own1.kept hg (.inr hne1)) (show w.heap.size ≤ w1.heap.size by omega)) (And.intro (own_lower (hown3.kept hg (.inr hne2)) (show w.heap.size ≤ w2.heap.size by omega)) (setF_block hv3 (.int .i64 4) (.string ⟨#[]⟩) (.int .i64 0) (.slice X1 ns.length c1) (.slice X2 n c2)))))
  have f0 := frozen_of_row w3 _ 0 _ _ hv3
  have f1 := frozen_of_row w3 _ 1 _ _ hv3
  have f2 := frozen_of_row w3 _ 2 _ _ hv3
  have f3 := frozen_of_row w3 _ 3 _ _ hv3
  have f4 := frozen_of_row w3 _ 4 _ _ hv3
  have c0 : w3.cell? ⟨w.heap.size, 0, none⟩ = some (.int .i64 0) := cells_of hv3 0 (by show _ < 5; decide)
  have c1' : w3.cell? ⟨w.heap.size, 1, none⟩ = some (.string ⟨#[]⟩) := cells_of hv3 1 (by show _ < 5; decide)
  have c2' : w3.cell? ⟨w.heap.size, 2, none⟩ = some (.int .i64 0) := cells_of hv3 2 (by show _ < 5; decide)
  have c3 : w3.cell? ⟨w.heap.size, 3, none⟩ = some (.slice none 0 0) := cells_of hv3 3 (by show _ < 5; decide)
  have c4 : w3.cell? ⟨w.heap.size, 4, none⟩ = some (.slice none 0 0) := cells_of hv3 4 (by show _ < 5; decide)
  clear b1 hv1 hl1 hs2 hv3 b3 hg own1 hne1 hne2 hb3 hown3 HB2 HK2 H1 HW1
  go_wp2_with fail
  refine bodyPost_ret (v := .agg #[.int .i64 4, .string ⟨#[]⟩, .int .i64 0, .slice X1 ns.length c1, .slice X2 n c2]) (results_cell_row rfl _ _ w.heap.size _ _ _ _ rfl HX.out.2.2.2 Tryd.underlying25 rfl szJson) rfl ?_
  exact ⟨_, _, rfl, HX.out.1, HX.out.2.1, HX.out.2.2.1⟩
end Go.Proofs.YtibipcgjopinaaaDoor
