/- Contract of the reference's Split. -/
import Derived.Test.YtjlhnggilmbeaaaT8Join
namespace Go.Proofs.Ytjlhnggilmbeaaa
open Go.RowKit

/-- The texts of joined bytes; or none. fuel: no more of them than bytes. -/
def splitL : Nat → List Int → Option (List (List Int))
  | 0, l => if l = [] then some [] else none
  | f + 1, l => match l with
    | [] => some []
    | [_] => none
    | a :: b :: r => if r.length < (a * 256 + b).toNat then none else (splitL f (r.drop (a * 256 + b).toNat)).map (r.take (a * 256 + b).toNat :: ·)
/-- One step of it. -/
theorem splitL_step (f : Nat) (us : List Int) (j : Nat) (a b : Int) (n : Nat) (ha : us[j]? = some a) (hb : us[j + 1]? = some b) (hn : a * 256 + b = (n : Int)) :
    splitL (f + 1) (us.drop j) = if us.length < j + 2 + n then none else (splitL f (us.drop (j + 2 + n))).map ((us.drop (j + 2)).take n :: ·) := by
  obtain ⟨h1, rfl⟩ := List.getElem?_eq_some_iff.1 ha
  obtain ⟨h2, rfl⟩ := List.getElem?_eq_some_iff.1 hb
  rw [List.drop_eq_getElem_cons h1, List.drop_eq_getElem_cons h2, splitL, hn, Int.toNat_natCast, List.length_drop, List.drop_drop]
  by_cases h : us.length < j + 2 + n
  · rw [if_pos h, if_pos (by omega)]
  · rw [if_neg h, if_neg (by omega)]
theorem splitL_end (f : Nat) (us : List Int) (j : Nat) (h : us.length ≤ j) : splitL f (us.drop j) = some [] := by
  rw [List.drop_eq_nil_of_le h]
  cases f <;> rfl
theorem splitL_short (f : Nat) (us : List Int) (j : Nat) (h : us.length = j + 1) : splitL (f + 1) (us.drop j) = none := by
  rw [List.drop_eq_getElem_cons (by omega), List.drop_eq_nil_of_le (by omega)]
  rfl
/-- Values that are slices of bytes that came in. -/
def PartVals (w : World) (vs : List Value) (ps : List (List Int)) : Prop := vs.length = ps.length ∧ ∀ (i : Nat) (p : List Int), ps[i]? = some p → ∃ X c, vs[i]? = some (Value.slice X p.length c) ∧ BytesIn w X c p
theorem PartVals.nil (w : World) : PartVals w [] [] := ⟨rfl, fun i p h => by simp at h⟩
theorem PartVals.on {w W : World} {vs : List Value} {ps : List (List Int)} (h : PartVals w vs ps) (hb : Below w.heap.size w W) : PartVals W vs ps := ⟨h.1, fun i p hp => by
  obtain ⟨X, c, h1, h2⟩ := h.2 i p hp
  exact ⟨X, c, h1, h2.on hb⟩⟩
theorem PartVals.next {w : World} {vs : List Value} {ps : List (List Int)} (h : PartVals w vs ps) {X : Option Addr} {n c : Nat} {p : List Int} (hn : n = p.length) (hb : BytesIn w X c p) : PartVals w (vs ++ [Value.slice X n c]) (ps ++ [p]) := by
  subst hn
  refine ⟨by simp [h.1], fun i q hq => ?_⟩
  by_cases hi : i < ps.length
  · rw [List.getElem?_append_left hi] at hq
    rw [List.getElem?_append_left (by rw [h.1]; exact hi)]
    exact h.2 i q hq
  · rw [List.getElem?_append_right (by omega)] at hq
    obtain rfl : i = ps.length := by
      have := (List.getElem?_eq_some_iff.1 hq).1
      simp at this
      omega
    rw [Nat.sub_self] at hq
    cases hq
    exact ⟨X, c, by rw [← h.1, List.getElem?_append_right (Nat.le_refl _), Nat.sub_self]; rfl, hb⟩
theorem infoSl : (Try.prog.info? 24).map (fun i => (i.zero, i.size, i.bytes)) = some (some (.slice none 0 0), 1, 24) := by kernel_rfl
/-- Texts, and that they are some; or none. -/
def SplitPost (w : World) (r : Option (List (List Int))) (e : Ending) (w' : World) : Prop :=
  Below w.heap.size w w' ∧ match r with
    | none => e = .returned (.tuple #[.slice none 0 0, .bool false])
    | some ps => ∃ Y n c, e = .returned (.tuple #[.slice Y n c, .bool true]) ∧ n = ps.length ∧ PartsIn w' Y ps
theorem splitPost_none {w w' : World} {r : Option (List (List Int))} (h : r = none) (hb : Below w.heap.size w w') : SplitPost w r (.returned (.tuple #[.slice none 0 0, .bool false])) w' := by subst h; exact ⟨hb, rfl⟩
theorem splitPost_some {w w' : World} {r : Option (List (List Int))} {ps : List (List Int)} {Y : Option Addr} {n c : Nat} (h : r = some ps) (hn : n = ps.length) (hb : Below w.heap.size w w') (hp : PartsIn w' Y ps) : SplitPost w r (.returned (.tuple #[.slice Y n c, .bool true])) w' := by
  subst h
  exact ⟨hb, Y, n, c, rfl, hn, hp⟩
/-- A row of slices of the call's own, as a slice of slices. -/
theorem parts_of_own {w W : World} {Y : Option Addr} {n c : Nat} {vs : List Value} {ps : List (List Int)} (h : W.ownsRow w.heap.size 24 1 (.slice Y n c) n vs) (hb : Below w.heap.size w W) (hp : PartVals w vs ps) : PartsIn W Y ps := fun i p hi => by
  obtain ⟨X, c1, h1, h2⟩ := hp.2 i p hi
  obtain ⟨Y', cap, hv, _, h3, h4⟩ := own_slice h
  cases hv
  cases Y with
  | none =>
    have hl := h.1
    have := (List.getElem?_eq_some_iff.1 h1).1
    have := (h3 rfl).1
    omega
  | some a =>
    obtain ⟨g, rfl, _, hg, hc⟩ := h4 a rfl
    exact ⟨_, X, c1, rfl, hg, hc i _ h1, h2.on hb⟩

set_option maxRecDepth 100000 in
set_option maxHeartbeats 1000000 in
theorem rsplit_any (X : Option Addr) (c : Nat) (us : List Int) (w : World) (hx : BytesIn w X c us) (hl : us.length ≤ 1000) :
    Calls Try.prog 27 #[.slice X us.length c] w (SplitPost w (splitL us.length us)) := by
  obtain ⟨ul, hul⟩ : ∃ ul, ul = us.length := ⟨_, rfl⟩
  obtain ⟨R, hR⟩ : ∃ R, R = splitL ul us := ⟨_, rfl⟩
  have hm : ul ≤ 1000 := by omega
  have huc : ul ≤ c := by have := hx.2.2.1; omega
  have hcm : c ≤ 9223372036854775807 := by have := hx.2.2.2.1; unfold maxLen at this; omega
  rw [← hul, ← hR]
  have HR := Lib.hid hR
  have HX := Lib.hid (And.intro hx hul)
  clear hx hul hl hR
  go_enter Try.func27, Try.ntmps27
  go_wp2_with fail
  go_loopg [4, 5] ul (fun g v i wr => ∃ (j m cc f : Nat) (Y : Option Addr) (vs : List Value) (ps : List (List Int)), j ≤ ul ∧ g = ul - j ∧ i = .int .i64 (j : Int) ∧ v = .slice Y m cc ∧ Hid (ul ≤ j + f ∧ m = ps.length ∧ m ≤ j ∧ R = (splitL f (us.drop j)).map (ps ++ ·)) ∧ Below w.heap.size w wr ∧ wr.ownsRow w.heap.size 24 1 (.slice Y m cc) m vs ∧ PartVals w vs ps)
  case atStart => exact ⟨0, 0, 0, ul, none, [], [], by omega, rfl, rfl, rfl, Lib.hid ⟨by omega, rfl, Nat.le_refl _, by rw [HR.out, List.drop_zero]; cases splitL ul us <;> simp⟩, Below.refl _ _, World.ownsRow_nil _ _ _ _, PartVals.nil _⟩
  case round =>
    obtain ⟨j, m, cc, f, Y, vs, ps, hj, rfl, rfl, rfl, hd, hb, hown, hpv⟩ := hrel
    by_cases hlt : j < ul
    · have hki : (j : Int) < (ul : Int) := by omega
      by_cases hlt2 : ul < j + 2
      · have hk2 : (ul : Int) < (j : Int) + 2 := by omega
        have HN := Lib.hid (show R = none by
          have hu := HX.out.2
          obtain ⟨h1, _, _, h4⟩ := hd.out
          obtain ⟨f', rfl⟩ : ∃ f', f = f' + 1 := ⟨f - 1, by omega⟩
          rw [h4, splitL_short f' us j (by omega)]
          rfl)
        have HQ := Lib.hid hb
        clear hb hown hpv
        go_wp2
        go_ret2
        exact splitPost_none HN.out HQ.out
      · have hk2 : ¬ (ul : Int) < (j : Int) + 2 := by omega
        have hu := HX.out.2
        obtain ⟨ad, rfl, hadb, hadc⟩ := HX.out.1.1 (by omega)
        obtain ⟨a, ha⟩ : ∃ a, us[j]? = some a := ⟨us[j]'(by omega), List.getElem?_eq_getElem _⟩
        obtain ⟨b, hbb⟩ : ∃ b, us[j + 1]? = some b := ⟨us[j + 1]'(by omega), List.getElem?_eq_getElem _⟩
        obtain ⟨a0, a1⟩ := HX.out.1.2.1 a (List.mem_of_getElem? ha)
        obtain ⟨b0, b1⟩ := HX.out.1.2.1 b (List.mem_of_getElem? hbb)
        obtain ⟨n, hn⟩ : ∃ n : Nat, a * 256 + b = (n : Int) := ⟨(a * 256 + b).toNat, by omega⟩
        have hn9 : n ≤ 65535 := by omega
        have HA := Lib.hid (show ∀ W, Below wr.heap.size wr W → W.cell? (ad.add j) = some (.int .u8 a) from fun W h => ((h.cell (by rw [addr_add_block]; exact Nat.lt_of_lt_of_le hadb hb.size)).trans (hb.cell (by rw [addr_add_block]; exact hadb))).trans (hadc j a ha))
        have HB := Lib.hid (show ∀ W, Below wr.heap.size wr W → W.cell? ⟨ad.block, ad.off + (j + 1), none⟩ = some (.int .u8 b) from fun W h => by
          rw [show (⟨ad.block, ad.off + (j + 1), none⟩ : Addr) = ad.add (j + 1) from by unfold Addr.add; rw [if_neg (by omega)]]
          exact ((h.cell (by rw [addr_add_block]; exact Nat.lt_of_lt_of_le hadb hb.size)).trans (hb.cell (by rw [addr_add_block]; exact hadb))).trans (hadc (j + 1) b hbb))
        have hstep : ∀ f, splitL (f + 1) (us.drop j) = if us.length < j + 2 + n then none else (splitL f (us.drop (j + 2 + n))).map ((us.drop (j + 2)).take n :: ·) := fun f => splitL_step f us j a b n ha hbb hn
        have HS := Lib.hid hstep
        have HN := Lib.hid hn
        have HO := Lib.hid (And.intro hb (And.intro hown hpv))
        have hsd : Below wr.heap.size wr wr.drew := (Below.refl _ _).drew
        clear ha hbb hadb hadc hstep hn hu hb hown hpv
        go_upto_region 6 with (fail)
        have e1 : IntKind.i64.wrap ((j : Int) + 1) = (j : Int) + 1 := IntWalk.i64_in _ (by omega)
        have e2 : ((j : Int) + 1).toNat = j + 1 := by omega
        have e3 : (0 : Int) ≤ (j : Int) + 1 := by omega
        have e4 : (j : Int) + 1 < (ul : Int) := by omega
        have e5 : IntKind.i64.wrap a = a := IntWalk.i64_in _ (by omega)
        have e6 : IntKind.i64.wrap b = b := IntWalk.i64_in _ (by omega)
        have e7 : IntKind.i64.wrap (a * 256) = a * 256 := IntWalk.i64_in _ (by omega)
        have e8 : IntKind.i64.wrap (a * 256 + b) = a * 256 + b := IntWalk.i64_in _ (by omega)
        refine wp_region_noPanic ?_
        refine wp_region_held_drew (S := fun W' => Below wr.heap.size wr W') (by kernel_rfl) hsd (fun hS => ?_)
        refine wpAnyH_take (i := 0) (v := ?_) (ops_at rfl) (by kernel_rfl) (by kernel_rfl) (by kernel_rfl) (fun _ _ _ h => h) (Or.inl ⟨by rfl, ?_⟩) hS ?_
        rotate_left
        · intro _ _; first | (go_simp; done) | (go_simp; with_reducible rfl)
        simp only [Act.put, List.setIfInBounds_toArray, List.set_cons_zero, List.set_cons_succ]
        refine wpAnyH_take (i := 1) (v := ?_) (ops_at rfl) (by kernel_rfl) (by kernel_rfl) (by kernel_rfl) (fun _ _ _ h => h) (Or.inl ⟨by rfl, ?_⟩) hS ?_
        rotate_left
        · intro _ _; first | (go_simp; done) | (go_simp; with_reducible rfl)
        simp only [Act.put, List.setIfInBounds_toArray, List.set_cons_zero, List.set_cons_succ]
        refine wpAnyH_take (i := 2) (v := ?_) (ops_at rfl) (by kernel_rfl) (by kernel_rfl) (by kernel_rfl) (fun _ _ _ h => h) (Or.inl ⟨by rfl, ?_⟩) hS ?_
        rotate_left
        · intro _ _; first | (go_simp; done) | (go_simp; with_reducible rfl)
        simp only [Act.put, List.setIfInBounds_toArray, List.set_cons_zero, List.set_cons_succ]
        refine wpAnyH_take (i := 3) (v := ?_) (ops_at rfl) (by kernel_rfl) (by kernel_rfl) (by kernel_rfl) (fun _ _ _ h => h) (Or.inl ⟨by rfl, ?_⟩) hS ?_
        rotate_left
        · intro _ hk; have hf0 := HA.out _ hk; first | (go_simp; done) | (go_simp; with_reducible rfl)
        simp only [Act.put, List.setIfInBounds_toArray, List.set_cons_zero, List.set_cons_succ]
        refine wpAnyH_take (i := 4) (v := ?_) (ops_at rfl) (by kernel_rfl) (by kernel_rfl) (by kernel_rfl) (fun _ _ _ h => h) (Or.inl ⟨by rfl, ?_⟩) hS ?_
        rotate_left
        · intro _ _; first | (go_simp; done) | (go_simp; with_reducible rfl)
        simp only [Act.put, List.setIfInBounds_toArray, List.set_cons_zero, List.set_cons_succ]
        refine wpAnyH_take (i := 5) (v := ?_) (ops_at rfl) (by kernel_rfl) (by kernel_rfl) (by kernel_rfl) (fun _ _ _ h => h) (Or.inl ⟨by rfl, ?_⟩) hS ?_
        rotate_left
        · intro _ _; first | (go_simp; done) | (go_simp; with_reducible rfl)
        simp only [Act.put, List.setIfInBounds_toArray, List.set_cons_zero, List.set_cons_succ]
        refine wpAnyH_take (i := 6) (v := ?_) (ops_at rfl) (by kernel_rfl) (by kernel_rfl) (by kernel_rfl) (fun _ _ _ h => h) (Or.inl ⟨by rfl, ?_⟩) hS ?_
        rotate_left
        · intro _ _; first | (go_simp; done) | (go_simp; with_reducible rfl)
        simp only [Act.put, List.setIfInBounds_toArray, List.set_cons_zero, List.set_cons_succ]
        refine wpAnyH_take (i := 7) (v := ?_) (ops_at rfl) (by kernel_rfl) (by kernel_rfl) (by kernel_rfl) (fun _ _ _ h => h) (Or.inl ⟨by rfl, ?_⟩) hS ?_
        rotate_left
        · intro _ _; first | (go_simp; done) | (go_simp; with_reducible rfl)
        simp only [Act.put, List.setIfInBounds_toArray, List.set_cons_zero, List.set_cons_succ]
        refine wpAnyH_take (i := 8) (v := ?_) (ops_at rfl) (by kernel_rfl) (by kernel_rfl) (by kernel_rfl) (fun _ _ _ h => h) (Or.inl ⟨by rfl, ?_⟩) hS ?_
        rotate_left
        · intro _ _; first | (go_simp; done) | (go_simp; with_reducible rfl)
        simp only [Act.put, List.setIfInBounds_toArray, List.set_cons_zero, List.set_cons_succ]
        refine wpAnyH_take (i := 9) (v := ?_) (ops_at rfl) (by kernel_rfl) (by kernel_rfl) (by kernel_rfl) (fun _ _ _ h => h) (Or.inl ⟨by rfl, ?_⟩) hS ?_
        rotate_left
        · intro _ _; first | (go_simp; done) | (go_simp; with_reducible rfl)
        simp only [Act.put, List.setIfInBounds_toArray, List.set_cons_zero, List.set_cons_succ]
        refine wpAnyH_take (i := 10) (v := ?_) (ops_at rfl) (by kernel_rfl) (by kernel_rfl) (by kernel_rfl) (fun _ _ _ h => h) (Or.inl ⟨by rfl, ?_⟩) hS ?_
        rotate_left
        · intro _ hk; have hf0 := HB.out _ hk; first | (go_simp; done) | (go_simp; with_reducible rfl)
        simp only [Act.put, List.setIfInBounds_toArray, List.set_cons_zero, List.set_cons_succ]
        refine wpAnyH_take (i := 11) (v := ?_) (ops_at rfl) (by kernel_rfl) (by kernel_rfl) (by kernel_rfl) (fun _ _ _ h => h) (Or.inl ⟨by rfl, ?_⟩) hS ?_
        rotate_left
        · intro _ _; first | (go_simp; done) | (go_simp; with_reducible rfl)
        simp only [Act.put, List.setIfInBounds_toArray, List.set_cons_zero, List.set_cons_succ]
        refine wpAnyH_take (i := 12) (v := ?_) (ops_at rfl) (by kernel_rfl) (by kernel_rfl) (by kernel_rfl) (fun _ _ _ h => h) (Or.inl ⟨by rfl, ?_⟩) hS ?_
        rotate_left
        · intro _ _; first | (go_simp; done) | (go_simp; with_reducible rfl)
        simp only [Act.put, List.setIfInBounds_toArray, List.set_cons_zero, List.set_cons_succ]
        refine wpAnyH_take (i := 13) (v := ?_) (ops_at rfl) (by kernel_rfl) (by kernel_rfl) (by kernel_rfl) (fun _ _ _ h => h) (Or.inl ⟨by rfl, ?_⟩) hS ?_
        rotate_left
        · intro _ _; first | (go_simp; done) | (go_simp; with_reducible rfl)
        simp only [Act.put, List.setIfInBounds_toArray, List.set_cons_zero, List.set_cons_succ]
        refine wpAnyH_done (by kernel_rfl) ?_ _
        refine NoPanic.normal ?_
        rw [HN.out]
        have H2 := Lib.hid hS
        clear hS e1 e2 e3 e4 e5 e6 e7 e8
        obtain ⟨w2, hw2⟩ : ∃ w2, w2 = wr.drew := ⟨_, rfl⟩
        rw [← hw2] at H2 ⊢
        clear hw2
        by_cases hsh : ul < j + 2 + n
        · have hsz : (ul : Int) < (j : Int) + 2 + (n : Int) := by omega
          have HE := Lib.hid (show R = none by
            have hu := HX.out.2
            obtain ⟨h1, _, _, h4⟩ := hd.out
            obtain ⟨f', rfl⟩ : ∃ f', f = f' + 1 := ⟨f - 1, by omega⟩
            rw [h4, HS.out, if_pos (by omega)]
            rfl)
          go_wp2
          go_ret2
          exact splitPost_none HE.out (HO.out.1.trans (H2.out.mono HO.out.1.size))
        · have hsz : ¬ (ul : Int) < (j : Int) + 2 + (n : Int) := by omega
          obtain ⟨hb, hown, hpv⟩ := HO.out
          have hb2 := hb.trans (H2.out.mono hb.size)
          obtain ⟨Z, hZ⟩ : ∃ Z : Option Addr, Z = if c = j + 2 then some ad else some (ad.add (j + 2)) := ⟨_, rfl⟩
          have hZin : BytesIn w Z (c - (j + 2)) ((us.drop (j + 2)).take n) := by
            have hxx := HX.out.1
            refine ⟨?_, u8_take (u8_drop hxx.2.1), by have := HX.out.2; simp; omega, by unfold maxLen; omega, fun h => by rw [hZ] at h; split at h <;> cases h⟩
            by_cases hcj : c = j + 2
            · intro hp
              have := HX.out.2
              simp at hp
              omega
            · rw [hZ, if_neg hcj]
              exact hxx.1.piece _ _
          have hown2 := own_below hown H2.out
          obtain ⟨i0, hi, hz0, hz1, hz2⟩ := info_parts infoSl
          obtain ⟨v5, w5, hap, hown5, hg5, -⟩ := run_append_own_at (P := Try.prog) (w2.alloc (.cells #[.slice Z n (c - (j + 2))] 24)) w.heap.size 41 41 24 i0 (.slice none 0 0) 1 24 Try.underlying41 hi hz0 hz1 hz2 rfl (by decide) (.slice Y m cc) m vs (hown2.alloc _) ⟨w2.heap.size, 0, none⟩ 1 1 [.slice Z n (c - (j + 2))] rfl (cell_one_new w2 _ _) (fun y h => by rw [List.mem_singleton.1 h]; rfl) (by have := hd.out.2.2.1; unfold maxLen; omega) (by have := hd.out.2.2.1; omega) (by have := hb2.size; simp; omega)
          obtain ⟨Y5, c5, rfl, -⟩ := own_slice hown5
          have hb5 := (hb2.alloc hb2.size (.cells #[.slice Z n (c - (j + 2))] 24)).grown hg5 (by have := hb2.size; simp; omega) (fun g hg => own_ge hown hg)
          have HP := Lib.hid hap
          have hpvF := Lib.hid hpv
          have HF := Lib.hid (And.intro hb5 (And.intro hown5 hZin))
          clear hb hown hpv hb2 hZin hown2 hap hown5 hg5 hb5 hi hz0 hz1 hz2
          by_cases hcj : c = j + 2
          · rw [if_pos hcj] at hZ
            subst hZ
            subst hcj
            obtain rfl : n = 0 := by omega
            have HP0 := Lib.hid (show (Builtin.append_ #[41, 41] 41 #[.slice Y m cc, .slice (some ⟨w2.heap.size, 0, none⟩) 1 1]).run Try.prog (w2.alloc (.cells #[.slice (some ad) 0 0] 24)) = .ok (.slice Y5 (m + 1) c5) w5 from by
              have h := HP.out
              rw [Nat.sub_self] at h
              exact h)
            clear HP
            go_wp2_with (at_builtin; refine wpList_append_run rfl _ _ 41 rfl rfl rfl HP0.out ?_)
            go_roundg (ul - (j + 2 + 0))
            case measure => omega
            case rel =>
              obtain ⟨hb5, hown5, hZin⟩ := HF.out
              obtain ⟨h1, h2, h3, h4⟩ := hd.out
              have hu := HX.out.2
              obtain ⟨f', rfl⟩ : ∃ f', f = f' + 1 := ⟨f - 1, by omega⟩
              refine ⟨j + 2 + 0, m + 1, c5, f', Y5, vs ++ [Value.slice (some ad) 0 (j + 2 - (j + 2))], ps ++ [(us.drop (j + 2)).take 0], by omega, rfl, congrArg (Value.int .i64) (by omega), rfl, Lib.hid ⟨by omega, by simp [h2], by omega, ?_⟩, hb5, hown5, hpvF.out.next (by simp) hZin⟩
              rw [h4, HS.out, if_neg (by omega)]
              cases splitL f' (us.drop (j + 2 + 0)) with
              | none => rfl
              | some t => simp
          · rw [if_neg hcj] at hZ
            subst hZ
            have hc2 : ¬ c = j + 2 := hcj
            go_wp2_with (at_builtin; refine wpList_append_run rfl _ _ 41 rfl rfl rfl HP.out ?_)
            go_roundg (ul - (j + 2 + n))
            case measure => omega
            case rel =>
              obtain ⟨hb5, hown5, hZin⟩ := HF.out
              obtain ⟨h1, h2, h3, h4⟩ := hd.out
              have hu := HX.out.2
              obtain ⟨f', rfl⟩ : ∃ f', f = f' + 1 := ⟨f - 1, by omega⟩
              refine ⟨j + 2 + n, m + 1, c5, f', Y5, vs ++ [Value.slice (some (ad.add (j + 2))) n (c - (j + 2))], ps ++ [(us.drop (j + 2)).take n], by omega, rfl, congrArg (Value.int .i64) (by omega), rfl, Lib.hid ⟨by omega, by simp [h2], by omega, ?_⟩, hb5, hown5, hpvF.out.next (by simp; omega) hZin⟩
              rw [h4, HS.out, if_neg (by omega)]
              cases splitL f' (us.drop (j + 2 + n)) with
              | none => rfl
              | some t => simp
    · have hki : ¬ (j : Int) < (ul : Int) := by omega
      have HQ := Lib.hid (And.intro hb (And.intro hown hpv))
      have HE := Lib.hid (show R = some ps by
        have hu := HX.out.2
        rw [hd.out.2.2.2, splitL_end f us j (by omega)]
        simp)
      clear hb hown hpv
      go_wp2
      go_ret2
      obtain ⟨hb, hown, hpv⟩ := HQ.out
      exact splitPost_some HE.out hd.out.2.1 hb (parts_of_own hown hb hpv)
end Go.Proofs.Ytjlhnggilmbeaaa
