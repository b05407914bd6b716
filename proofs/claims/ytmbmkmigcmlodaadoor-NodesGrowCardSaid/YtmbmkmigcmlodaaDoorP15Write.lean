/- The program's write of one node. -/
import Derived.Test.YtmbmkmigcmlodaaDoorMP15GrowM
import Derived.Deep.RegionHeld
namespace Go.Proofs.YtmbmkmigcmlodaaDoor
open Go.RowKit

theorem own_form {W : World} {B z n : Nat} {e : TypeId} {v : Value} {xs : List Value} (h : W.ownsRow B e z v n xs) : ∃ Y c, v = .slice Y n c := by
  rcases h.2 with ⟨rfl, rfl⟩ | ⟨g, cap, cur, rfl, _⟩
  · exact ⟨none, 0, rfl⟩
  · exact ⟨_, _, rfl⟩
set_option maxHeartbeats 4000000 in
set_option maxRecDepth 100000 in
theorem write_p (w0 w : World) (G n lev i : Nat) (h : ByteArray) (vp vw : Value) (ps : List ByteArray) (ws : List Wr) (hG : GrowB w0 w G n vp vw ps ws) (hT : Tab10 w) (h1 : lev ≤ 100) (h2 : i ≤ 100000) (hl : ws.length ≤ 100000) :
    Calls Tryd.prog 43 #[.pointer (some ⟨G, 0, none⟩), .int .i64 (lev : Int), .int .u64 (i : Int), .string h] w (fun e w' => e = .returned (.tuple #[]) ∧ ∃ vw', GrowB w0 w' G n vp vw' ps (ws ++ [⟨nodeKeyB (lev : Int) (i : Int), h, false⟩])) := by
  obtain ⟨key, hk⟩ : ∃ k, k = nodeKeyB (lev : Int) (i : Int) := ⟨_, rfl⟩
  have HK := Lib.hid (fun W (hb : Below w.heap.size w W) => nodekey_any (lev : Int) i (by omega) (by omega) (by omega) W (hT.on hb))
  rw [← hk] at HK ⊢
  have HL := Lib.hid hl
  obtain ⟨Y, c, rfl⟩ := own_form hG.writes
  obtain ⟨m, hm⟩ : ∃ m, m = ws.length := ⟨_, rfl⟩
  rw [← hm] at hG
  have HG := Lib.hid hG
  clear hk hT h1 h2 hl hG hm
  go_enter Tryd.func43, Tryd.ntmps43
  refine wp_region_noPanic ?_
  refine wp_region_held_drew (S := fun _ => True) (by kernel_rfl) trivial (fun hS => ?_)
  refine wpAnyH_take (i := 0) (v := ?_) (ops_at rfl) (by kernel_rfl) (by kernel_rfl) (by kernel_rfl) (fun _ _ _ h => h) (Or.inl ⟨by rfl, ?_⟩) hS ?_
  rotate_left
  · intro _ _; first | (go_simp; done) | (go_simp; with_reducible rfl)
  simp only [Act.put, List.setIfInBounds_toArray, List.set_cons_zero, List.set_cons_succ]
  refine wpAnyH_take (i := 1) (v := ?_) (ops_at rfl) (by kernel_rfl) (by kernel_rfl) (by kernel_rfl) (fun _ _ _ h => h) (Or.inl ⟨by rfl, ?_⟩) hS ?_
  rotate_left
  · intro _ _; first | (go_simp; done) | (go_simp; with_reducible rfl)
  simp only [Act.put, List.setIfInBounds_toArray, List.set_cons_zero, List.set_cons_succ]
  refine wpAnyH_take (i := 2) (v := ?_) (ops_at rfl) (by kernel_rfl) (by kernel_rfl) (by kernel_rfl) (fun _ _ _ h => h) (Or.inl ⟨by rfl, ?_⟩) hS ?_
  rotate_left
  · intro _ _; first | (go_simp; done) | (go_simp; with_reducible rfl)
  simp only [Act.put, List.setIfInBounds_toArray, List.set_cons_zero, List.set_cons_succ]
  refine wpAnyH_take (i := 3) (v := ?_) (ops_at rfl) (by kernel_rfl) (by kernel_rfl) (by kernel_rfl) (fun _ _ _ h => h) (Or.inl ⟨by rfl, ?_⟩) hS ?_
  rotate_left
  · intro _ _; first | (go_simp; done) | (go_simp; with_reducible rfl)
  simp only [Act.put, List.setIfInBounds_toArray, List.set_cons_zero, List.set_cons_succ]
  refine wpAnyH_take (i := 5) (v := ?_) (ops_at rfl) (by kernel_rfl) (by kernel_rfl) (by kernel_rfl) (fun _ _ _ h => h) (Or.inl ⟨by rfl, ?_⟩) hS ?_
  rotate_left
  · intro _ _; first | (go_simp; done) | (go_simp; with_reducible rfl)
  simp only [Act.put, List.setIfInBounds_toArray, List.set_cons_zero, List.set_cons_succ]
  refine wpAnyH_take (i := 6) (v := ?_) (ops_at rfl) (by kernel_rfl) (by kernel_rfl) (by kernel_rfl) (fun _ _ _ h => h) (Or.inl ⟨by rfl, ?_⟩) hS ?_
  rotate_left
  · intro _ _; first | (go_simp; done) | (go_simp; with_reducible rfl)
  simp only [Act.put, List.setIfInBounds_toArray, List.set_cons_zero, List.set_cons_succ]
  refine wpAnyH_take (i := 8) (v := ?_) (ops_at rfl) (by kernel_rfl) (by kernel_rfl) (by kernel_rfl) (fun _ _ _ h => h) (Or.inl ⟨by rfl, ?_⟩) hS ?_
  rotate_left
  · intro _ _; first | (go_simp; done) | (go_simp; with_reducible rfl)
  simp only [Act.put, List.setIfInBounds_toArray, List.set_cons_zero, List.set_cons_succ]
  refine wpAnyH_ready (rs := [4, 7]) (by kernel_rfl) (by simp) ?_
  refine AllReadyH.cons (ops_at rfl) (fun K hK => ?_) ?_
  · skip
    have d2 := (HG.out.on (Below.refl _ _).drew).cells.2.2.1
    go_simp
    refine hK.out _ _ trivial (fun hS => ?_)
    clear hK K
    clear d2
    refine wpAnyH_ready (rs := [7]) (by kernel_rfl) (by simp) (AllReadyH.cons (ops_at rfl) (fun K hK => ?_) AllReadyH.nil)
    go_simp
    go_at_call 27
    refine (HK.out _ (Below.refl _ _).drew).mono ?_
    rintro e w4 ⟨rfl, hb4⟩
    have HG4 := Lib.hid ((HG.out.on (Below.refl _ _).drew).on hb4)
    clear hb4
    go_wp2_with fail
    refine hK.out _ _ trivial (fun hS => ?_)
    clear hK K
    refine wpAnyH_take (i := 9) (v := ?_) (ops_at rfl) (by kernel_rfl) (by kernel_rfl) (by kernel_rfl) (fun _ _ _ h => h) (Or.inl ⟨by rfl, ?_⟩) hS ?_
    rotate_left
    · intro _ _; first | (go_simp; done) | (go_simp; with_reducible rfl)
    simp only [Act.put, List.setIfInBounds_toArray, List.set_cons_zero, List.set_cons_succ]
    refine wpAnyH_ready (rs := [10]) (by kernel_rfl) (by simp) (AllReadyH.cons (ops_at rfl) (fun K hK => ?_) AllReadyH.nil)
    go_simp
    refine hK.out _ _ trivial (fun hS => ?_)
    clear hK K
    obtain ⟨v6, W6, hap, d6, f6, g6⟩ := HG4.out.write ⟨key, h, false⟩ HL.out
    obtain ⟨Y6, c6, rfl⟩ := own_form g6.writes
    obtain ⟨m6, hm6⟩ : ∃ m6, m6 = (ws ++ [(⟨key, h, false⟩ : Wr)]).length := ⟨_, rfl⟩
    rw [← hm6] at g6 hap
    clear hm6
    have HG6 := Lib.hid g6
    clear g6
    have hap : (Builtin.append_ #[32, 32] 32 #[.slice Y m c, .slice (some ⟨w4.heap.size, 0, none⟩) 1 1]).run Tryd.prog (w4.alloc (.cells #[.string key, .string h, .bool false] 46)) = .ok (.slice Y6 m6 c6) W6 := hap
    refine wpAnyH_ready (rs := [11]) (by kernel_rfl) (by simp) (AllReadyH.cons (ops_at rfl) (fun K hK => ?_) AllReadyH.nil)
    rw [if_pos (by rfl)]
    refine wp_append_run _ _ 32 rfl rfl rfl hap ?_
    simp only [Act.put, List.setIfInBounds_toArray, List.set_cons_zero, List.set_cons_succ]
    refine hK.out _ _ trivial (fun hS => ?_)
    clear hK K
    clear hap
    refine wpAnyH_take (i := 12) (v := ?_) (ops_at rfl) (by kernel_rfl) (by kernel_rfl) (by kernel_rfl) (fun _ _ _ h => h) (Or.inl ⟨by rfl, ?_⟩) hS ?_
    rotate_left
    · intro _ _; first | (go_simp; done) | (go_simp; with_reducible rfl)
    simp only [Act.put, List.setIfInBounds_toArray, List.set_cons_zero, List.set_cons_succ]
    refine wpAnyH_take (i := 13) (v := ?_) (ops_at rfl) (by kernel_rfl) (by kernel_rfl) (by kernel_rfl) (fun _ _ _ h => h) (Or.inl ⟨by rfl, ?_⟩) hS ?_
    rotate_left
    · intro _ _; first | (go_simp; done) | (go_simp; with_reducible rfl)
    simp only [Act.put, List.setIfInBounds_toArray, List.set_cons_zero, List.set_cons_succ]
    refine wpAnyH_ready (rs := [14]) (by kernel_rfl) (by simp) (AllReadyH.cons (ops_at rfl) (fun K hK => ?_) AllReadyH.nil)
    go_simp
    refine hK.out _ _ trivial (fun hS => ?_)
    clear hK K
    refine wpAnyH_done (by kernel_rfl) ?_ _
    refine NoPanic.normal ?_
    clear hS d6 f6
    go_wp2_with fail
    go_end0
    exact ⟨rfl, _, HG6.out⟩
  refine AllReadyH.cons (ops_at rfl) (fun K hK => ?_) ?_
  · skip
    go_simp
    go_at_call 27
    refine (HK.out _ (Below.refl _ _).drew).mono ?_
    rintro e w4 ⟨rfl, hb4⟩
    have HG4 := Lib.hid ((HG.out.on (Below.refl _ _).drew).on hb4)
    clear hb4
    go_wp2_with fail
    refine hK.out _ _ trivial (fun hS => ?_)
    clear hK K
    refine wpAnyH_take (i := 9) (v := ?_) (ops_at rfl) (by kernel_rfl) (by kernel_rfl) (by kernel_rfl) (fun _ _ _ h => h) (Or.inl ⟨by rfl, ?_⟩) hS ?_
    rotate_left
    · intro _ _; first | (go_simp; done) | (go_simp; with_reducible rfl)
    simp only [Act.put, List.setIfInBounds_toArray, List.set_cons_zero, List.set_cons_succ]
    refine wpAnyH_ready (rs := [4, 10]) (by kernel_rfl) (by simp) ?_
    refine AllReadyH.cons (ops_at rfl) (fun K hK => ?_) ?_
    · skip
      have d2 := HG4.out.cells.2.2.1
      go_simp
      refine hK.out _ _ trivial (fun hS => ?_)
      clear hK K
      clear d2
      refine wpAnyH_ready (rs := [10]) (by kernel_rfl) (by simp) (AllReadyH.cons (ops_at rfl) (fun K hK => ?_) AllReadyH.nil)
      go_simp
      refine hK.out _ _ trivial (fun hS => ?_)
      clear hK K
      obtain ⟨v6, W6, hap, d6, f6, g6⟩ := HG4.out.write ⟨key, h, false⟩ HL.out
      obtain ⟨Y6, c6, rfl⟩ := own_form g6.writes
      obtain ⟨m6, hm6⟩ : ∃ m6, m6 = (ws ++ [(⟨key, h, false⟩ : Wr)]).length := ⟨_, rfl⟩
      rw [← hm6] at g6 hap
      clear hm6
      have HG6 := Lib.hid g6
      clear g6
      have hap : (Builtin.append_ #[32, 32] 32 #[.slice Y m c, .slice (some ⟨w4.heap.size, 0, none⟩) 1 1]).run Tryd.prog (w4.alloc (.cells #[.string key, .string h, .bool false] 46)) = .ok (.slice Y6 m6 c6) W6 := hap
      refine wpAnyH_ready (rs := [11]) (by kernel_rfl) (by simp) (AllReadyH.cons (ops_at rfl) (fun K hK => ?_) AllReadyH.nil)
      rw [if_pos (by rfl)]
      refine wp_append_run _ _ 32 rfl rfl rfl hap ?_
      simp only [Act.put, List.setIfInBounds_toArray, List.set_cons_zero, List.set_cons_succ]
      refine hK.out _ _ trivial (fun hS => ?_)
      clear hK K
      clear hap
      refine wpAnyH_take (i := 12) (v := ?_) (ops_at rfl) (by kernel_rfl) (by kernel_rfl) (by kernel_rfl) (fun _ _ _ h => h) (Or.inl ⟨by rfl, ?_⟩) hS ?_
      rotate_left
      · intro _ _; first | (go_simp; done) | (go_simp; with_reducible rfl)
      simp only [Act.put, List.setIfInBounds_toArray, List.set_cons_zero, List.set_cons_succ]
      refine wpAnyH_take (i := 13) (v := ?_) (ops_at rfl) (by kernel_rfl) (by kernel_rfl) (by kernel_rfl) (fun _ _ _ h => h) (Or.inl ⟨by rfl, ?_⟩) hS ?_
      rotate_left
      · intro _ _; first | (go_simp; done) | (go_simp; with_reducible rfl)
      simp only [Act.put, List.setIfInBounds_toArray, List.set_cons_zero, List.set_cons_succ]
      refine wpAnyH_ready (rs := [14]) (by kernel_rfl) (by simp) (AllReadyH.cons (ops_at rfl) (fun K hK => ?_) AllReadyH.nil)
      go_simp
      refine hK.out _ _ trivial (fun hS => ?_)
      clear hK K
      refine wpAnyH_done (by kernel_rfl) ?_ _
      refine NoPanic.normal ?_
      clear hS d6 f6
      go_wp2_with fail
      go_end0
      exact ⟨rfl, _, HG6.out⟩
    refine AllReadyH.cons (ops_at rfl) (fun K hK => ?_) ?_
    · skip
      go_simp
      refine hK.out _ _ trivial (fun hS => ?_)
      clear hK K
      have d2 := (HG4.out.on ((Below.refl _ _).alloc (Nat.le_refl _) (.cells #[.string key, .string h, .bool false] 46))).cells.2.2.1
      refine wpAnyH_ready (rs := [4]) (by kernel_rfl) (by simp) (AllReadyH.cons (ops_at rfl) (fun K hK => ?_) AllReadyH.nil)
      go_simp
      refine hK.out _ _ trivial (fun hS => ?_)
      clear hK K
      clear d2
      obtain ⟨v6, W6, hap, d6, f6, g6⟩ := HG4.out.write ⟨key, h, false⟩ HL.out
      obtain ⟨Y6, c6, rfl⟩ := own_form g6.writes
      obtain ⟨m6, hm6⟩ : ∃ m6, m6 = (ws ++ [(⟨key, h, false⟩ : Wr)]).length := ⟨_, rfl⟩
      rw [← hm6] at g6 hap
      clear hm6
      have HG6 := Lib.hid g6
      clear g6
      have hap : (Builtin.append_ #[32, 32] 32 #[.slice Y m c, .slice (some ⟨w4.heap.size, 0, none⟩) 1 1]).run Tryd.prog (w4.alloc (.cells #[.string key, .string h, .bool false] 46)) = .ok (.slice Y6 m6 c6) W6 := hap
      refine wpAnyH_ready (rs := [11]) (by kernel_rfl) (by simp) (AllReadyH.cons (ops_at rfl) (fun K hK => ?_) AllReadyH.nil)
      rw [if_pos (by rfl)]
      refine wp_append_run _ _ 32 rfl rfl rfl hap ?_
      simp only [Act.put, List.setIfInBounds_toArray, List.set_cons_zero, List.set_cons_succ]
      refine hK.out _ _ trivial (fun hS => ?_)
      clear hK K
      clear hap
      refine wpAnyH_take (i := 12) (v := ?_) (ops_at rfl) (by kernel_rfl) (by kernel_rfl) (by kernel_rfl) (fun _ _ _ h => h) (Or.inl ⟨by rfl, ?_⟩) hS ?_
      rotate_left
      · intro _ _; first | (go_simp; done) | (go_simp; with_reducible rfl)
      simp only [Act.put, List.setIfInBounds_toArray, List.set_cons_zero, List.set_cons_succ]
      refine wpAnyH_take (i := 13) (v := ?_) (ops_at rfl) (by kernel_rfl) (by kernel_rfl) (by kernel_rfl) (fun _ _ _ h => h) (Or.inl ⟨by rfl, ?_⟩) hS ?_
      rotate_left
      · intro _ _; first | (go_simp; done) | (go_simp; with_reducible rfl)
      simp only [Act.put, List.setIfInBounds_toArray, List.set_cons_zero, List.set_cons_succ]
      refine wpAnyH_ready (rs := [14]) (by kernel_rfl) (by simp) (AllReadyH.cons (ops_at rfl) (fun K hK => ?_) AllReadyH.nil)
      go_simp
      refine hK.out _ _ trivial (fun hS => ?_)
      clear hK K
      refine wpAnyH_done (by kernel_rfl) ?_ _
      refine NoPanic.normal ?_
      clear hS d6 f6
      go_wp2_with fail
      go_end0
      exact ⟨rfl, _, HG6.out⟩
    exact AllReadyH.nil
  exact AllReadyH.nil
end Go.Proofs.YtmbmkmigcmlodaaDoor
