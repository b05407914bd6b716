/- The chapter's example, as the laws of stage 10 ask it. -/
import Derived.Test.YtggjofhhaokpcaaDoorMT10Has
import Derived.Lib.SlBytesConst
import Derived.Deep.RegionHeld3
namespace Go.Proofs.YtggjofhhaokpcaaDoor
open Go.RowKit

theorem has_leaf {w W : World} {ss rs : List (Value × List ByteArray)} (h : Has w W ss rs) (x : Int) (hx : 0 ≤ x ∧ x < 256) :
    Calls Tryd.prog 28 #[.slice (some ⟨W.heap.size, 0, none⟩) 1 1] (W.alloc (.cells #[.int .u8 x] 5 (1, 2))) (HasP w ss rs (.string (digS [0, x]))) := by
  have hb : Below W.heap.size W (W.alloc (.cells #[.int .u8 x] 5 (1, 2))) := (Below.refl _ _).alloc (Nat.le_refl _) _
  exact (rleafhash_any (some ⟨W.heap.size, 0, none⟩) 1 [x] _ (bytes_one x hx W) (by simp)).mono fun _ _ k => ⟨k.1, (h.on hb).on k.2⟩
set_option maxRecDepth 100000 in
set_option maxHeartbeats 2000000 in
theorem lives_any (w : World) (hT : TabsP w) : Calls Tryd.prog 13 #[] w fun e w' => e = .returned (.bool true) ∧ Below w.heap.size w w' := by
  have H0 := Lib.hid (Has.start hT)
  obtain ⟨a, ha⟩ : ∃ a, a = digS [0, 97] := ⟨_, rfl⟩
  obtain ⟨b, hb⟩ : ∃ b, b = digS [0, 98] := ⟨_, rfl⟩
  obtain ⟨c, hc⟩ : ∃ c, c = digS [0, 99] := ⟨_, rfl⟩
  have HA := Lib.hid ha
  have HB := Lib.hid hb
  have HC := Lib.hid hc
  have HS := Lib.hid (show a.size = 32 ∧ b.size = 32 ∧ c.size = 32 from ⟨by rw [ha, digS_size], by rw [hb, digS_size], by rw [hc, digS_size]⟩)
  clear ha hb hc hT
  have kc := fun (w : World) (C : Array Value) (n c : Nat) => Lib.run_convert_bytes_const (P := Tryd.prog) w 51 5 C n c Tryd.underlying51 Tryd.underlying5
  go_enter Tryd.func13, Tryd.ntmps13
  go_wp2_with fail
  go_at_call 28
  refine (has_leaf H0.out 97 (by decide)).mono ?_
  rintro e w1 ⟨rfl, h1⟩
  rw [← HA.out]
  have H1 := Lib.hid h1
  clear h1
  go_wp2_with fail
  go_at_call 28
  refine (has_leaf H1.out 98 (by decide)).mono ?_
  rintro e w2 ⟨rfl, h2⟩
  rw [← HB.out]
  have H2 := Lib.hid h2
  clear h2
  go_wp2_with fail
  go_at_call 28
  refine (has_leaf H2.out 99 (by decide)).mono ?_
  rintro e w3 ⟨rfl, h3⟩
  rw [← HC.out]
  have H3 := Lib.hid h3
  clear h3
  go_wp2_with fail
  have h3 : Has w (w3.alloc (.cells #[.string a, .string b, .string c] 9)) [] [(.slice (some ⟨w3.heap.size, 0, none⟩) 3 3, [a, b, c])] := H3.out.row (AccS.builtL (Below.refl _ _) [a, b, c] 3 rfl (by decide))
  obtain ⟨-, i2, i3, i4⟩ := (h3.2.2.2 _ (List.mem_singleton.2 rfl)).ins
  go_at_call 11
  refine (has_of h3 (some ⟨w3.heap.size, 0, none⟩) 3 3 [a, b, c] i4 rfl (by decide) (by decide) (by unfold maxLen; omega) (fun s hs => by
    have := HS.out
    simp only [List.mem_cons, List.not_mem_nil, or_false] at hs
    rcases hs with rfl | rfl | rfl <;> omega)).mono ?_
  rintro e w4 ⟨t, u, rfl, h4⟩
  have H4 := Lib.hid h4
  clear h3 h4 i2 i3 i4 H0 H1 H2 H3
  go_wp2_with fail
  go_at_call 26
  refine (has_incl H4.out _ _ (List.mem_singleton.2 rfl) 2 3 (.inr (by show (3 : Int) ≤ 3; decide)) (by unfold M63; omega) (by unfold M63; omega)).mono ?_
  rw [path_three, inclE_ok (by unfold badI; omega)]
  rintro e w5 ⟨Y5, k5, q5, rfl, hk5, hq5, hm5, h5⟩
  obtain ⟨g5, rfl⟩ := h5.form (List.mem_cons_self ..) (by simp)
  have hk5' : k5 = 1 := hk5
  subst hk5'
  have H5 := Lib.hid h5
  clear h5 hk5 H4
  go_wp2_with fail
  go_at_call 12
  refine (has_cons H5.out _ _ (List.mem_singleton.2 rfl) 2 3 (.inr (by show (3 : Int) ≤ 3; decide)) (by unfold M63; omega) (by unfold M63; omega)).mono ?_
  rw [proof_three, consE_ok (by unfold badC; omega)]
  rintro e w6 ⟨Y6, k6, q6, rfl, hk6, hq6, hm6, h6⟩
  obtain ⟨g6, rfl⟩ := h6.form (List.mem_cons_self ..) (by simp)
  have hk6' : k6 = 1 := hk6
  subst hk6'
  have H6 := Lib.hid h6
  clear h6 hk6 H5
  have HN := Lib.hid (show a.size + b.size ≤ 999 by have := HS.out; omega)
  obtain ⟨p, hp⟩ : ∃ p, p = nodeB a b := ⟨_, rfl⟩
  rw [← hp] at H6
  obtain ⟨SS, hSS⟩ : ∃ SS, SS = [(Value.iface t u, [a, b, c])] := ⟨_, rfl⟩
  obtain ⟨RS, hRS⟩ : ∃ RS, RS = [(Value.slice (some ⟨g6, 0, none⟩) 1 q6, [c]), (Value.slice (some ⟨g5, 0, none⟩) 1 q5, [p]), (Value.slice (some ⟨w3.heap.size, 0, none⟩) 3 3, [a, b, c])] := ⟨_, rfl⟩
  rw [← hSS, ← hRS] at H6
  have hl : ∀ W, Has w W SS RS → Has w W SS RS ∧ W.cell? ⟨g5, 0, none⟩ = some (.string p) ∧ W.cell? ⟨w3.heap.size, 0, none⟩ = some (.string a) ∧ W.cell? ⟨w3.heap.size, 1, none⟩ = some (.string b) ∧ W.cell? ⟨w3.heap.size, 2, none⟩ = some (.string c) ∧ W.cell? ⟨g6, 0, none⟩ = some (.string c) := fun W h => by
    subst hRS
    exact ⟨h, h.cell (.tail _ (.head _)) 0 rfl, h.cell (.tail _ (.tail _ (.head _))) 0 rfl, h.cell (.tail _ (.tail _ (.head _))) 1 rfl, h.cell (.tail _ (.tail _ (.head _))) 2 rfl, h.cell (.head _) 0 rfl⟩
  have h6 := H6.out
  have h6d : Has w w6.drew SS RS := h6.on ((Below.refl _ _).drew)
  have HNd := Lib.hid (show Calls Tryd.prog 34 #[.string a, .string b] w6.drew (HasP w SS RS (.string p)) from by rw [hp]; exact has_node h6d a b HN.out)
  clear hSS hRS H6 h6 hp
  have hpp : (p.toList == p.toList) = true := beq_self_eq_true _
  have hcc : (c.toList == c.toList) = true := beq_self_eq_true _
  go_upto_region 7 with (fail)
  go_region_held3 (fun W => Has w W SS RS ∧ W.cell? ⟨g5, 0, none⟩ = some (.string p) ∧ W.cell? ⟨w3.heap.size, 0, none⟩ = some (.string a) ∧ W.cell? ⟨w3.heap.size, 1, none⟩ = some (.string b) ∧ W.cell? ⟨w3.heap.size, 2, none⟩ = some (.string c) ∧ W.cell? ⟨g6, 0, none⟩ = some (.string c)) (first | exact hl _ h7 | exact hl _ h6d)
    (first | (go_at_call 34; refine HNd.out.mono ?_; rintro e w7 ⟨rfl, h7⟩))
  rename_i hh
  go_wp2_with fail
  go_ret
  exact ⟨by first | rfl | simp, hh.1.1⟩
end Go.Proofs.YtggjofhhaokpcaaDoor
