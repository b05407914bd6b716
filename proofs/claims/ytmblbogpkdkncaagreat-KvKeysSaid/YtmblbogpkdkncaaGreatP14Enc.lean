/- The program's frame: a batch as bytes. -/
import Derived.Test.YtmblbogpkdkncaaGreatP14Num
import Derived.Shelf.Spec.SlicesGrow
namespace Go.Proofs.YtmblbogpkdkncaaGreat
open Go.RowKit Go.Shelf Go.Lib

/-- 'append(all, p...)' of long rows. -/
theorem append_allL (N B n : Nat) (v : Value) (xs : List Value) (X : Option Addr) (c : Nat) (us : List Int) (W : World) (hown : W.ownsRow B 5 1 v n xs) (hX : InS W N X us) (hnil : X = none → c = 0) (hm : n + us.length ≤ 8589934592) (hB : B ≤ W.heap.size) :
    ∃ v' W', (Builtin.append_ #[69, 69] 69 #[v, .slice X us.length c]).run Tryz.prog W = .ok v' W' ∧ W'.ownsRow B 5 1 v' (n + us.length) (xs ++ us.map (Value.int .u8)) ∧ W.grownBy W' v.ownBlock := by
  obtain ⟨i0, hi, hz0, hz1, hz2⟩ := info_parts infoU8
  cases X with
  | none =>
    obtain rfl := hnil rfl
    have h0 : us = [] := by
      cases us with
      | nil => rfl
      | cons a l => obtain ⟨ad, h, _⟩ := hX (by simp); cases h
    subst h0
    refine ⟨v, W, ?_, by simpa using hown, ⟨rfl, rfl, rfl, Nat.le_refl _, fun _ _ _ => rfl⟩⟩
    obtain ⟨X', cap, rfl, hcap, -⟩ := own_slice hown
    cases X' <;> simp [Builtin.append_, go_sem, run_underlying Tryz.underlying69] <;> intro h <;> omega
  | some ad =>
    obtain ⟨v', w', hr, hown', hg, _, -⟩ := run_append_own_at (P := Tryz.prog) W B 69 69 5 i0 (.int .u8 0) 1 1 Tryz.underlying69 hi hz0 hz1 hz2 rfl (by decide) v n xs hown ad us.length c (us.map (Value.int .u8)) (by simp) (fun j u h => by
        rw [List.getElem?_map] at h
        obtain ⟨e, he, rfl⟩ := Option.map_eq_some_iff.1 h
        obtain ⟨ad', h1, _, h3⟩ := hX (by have := (List.getElem?_eq_some_iff.1 he).1; omega)
        cases h1
        exact h3 j e he) (fun u h => by obtain ⟨e, _, rfl⟩ := List.mem_map.1 h; rfl) (by unfold maxLen; omega) (by omega) hB
    exact ⟨v', w', hr, hown', hg⟩
theorem Acc.bytesL {w W : World} {v : Value} {us : List Int} (h : Acc w W v us) (X : Option Addr) (m c : Nat) (ds : List Int) (hX : InS W W.heap.size X ds) (hm : m = ds.length) (hnil : X = none → c = 0) (hlen : us.length + ds.length ≤ 8589934592) :
    ∃ Y n c' W', (Builtin.append_ #[69, 69] 69 #[v, .slice X m c]).run Tryz.prog W = .ok (.slice Y n c') W' ∧ n = us.length + ds.length ∧ Acc w W' (.slice Y n c') (us ++ ds) ∧ W.grownBy W' v.ownBlock := by
  subst hm
  obtain ⟨v', W', hr, ho, hg⟩ := append_allL W.heap.size w.heap.size us.length v _ X c ds W h.1 hX hnil hlen h.2.size
  obtain ⟨Y, c', rfl, -⟩ := own_slice ho
  refine ⟨Y, _, c', W', hr, rfl, h.grown ?_ hg, hg⟩
  rw [List.map_append, List.length_append]
  exact ho
theorem Acc.strL {w W : World} {v : Value} {us : List Int} (h : Acc w W v us) (s : ByteArray) (hlen : us.length + s.size ≤ 8589934592) :
    ∃ Y n c' W', (Builtin.append_ #[69, 9] 69 #[v, .string s]).run Tryz.prog W = .ok (.slice Y n c') W' ∧ n = us.length + s.size ∧ Acc w W' (.slice Y n c') (us ++ txt s) ∧ W.grownBy W' v.ownBlock := by
  obtain ⟨i0, hi, hz0, hz1, hz2⟩ := info_parts infoU8
  obtain ⟨v', W', hr, ho, hg, _⟩ := Go.Lib.run_append_own_string (P := Tryz.prog) W w.heap.size 69 9 69 5 i0 Tryz.underlying69 Tryz.underlying9 hi hz0 hz1 hz2 v us.length _ h.1 s (by unfold maxLen; omega) (by omega) h.2.size
  obtain ⟨Y, c', rfl, -⟩ := own_slice ho
  refine ⟨Y, _, c', W', hr, rfl, h.grown ?_ hg, hg⟩
  rw [List.map_append, List.length_append, txt_length, ← strCells_txt]
  exact ho
set_option maxHeartbeats 1000000 in
theorem after_p (t : Wr) (hv : t.val.size ≤ 17179869184) (W : World) :
    Calls Tryz.prog 98 #[wrV t] W (fun e w' => e = .returned (.int .i64 (aftW t : Int)) ∧ Below W.heap.size W w') := by
  have HB := Lib.hid (box_wr W t)
  have HW := Lib.hid (show Below W.heap.size W (W.alloc (.cells #[.string t.key, .string t.val, .bool t.gone] 40)) from (Below.refl _ _).alloc (Nat.le_refl _) _)
  obtain ⟨xk, xv, xg⟩ := t
  unfold wrV
  simp only at HB HW hv
  obtain ⟨-, c0, c1, c2⟩ := HB.out
  cases xg with
  | true =>
    go_enter Tryz.func98, Tryz.ntmps98
    go_wp2_with fail
    go_ret
    exact ⟨rfl, HW.out⟩
  | false =>
    have hw : IntKind.i64.wrap ((xv.size : Int) + 1) = (xv.size : Int) + 1 := IntWalk.i64_in _ (by omega)
    go_enter Tryz.func98, Tryz.ntmps98
    go_wp2_with fail
    go_ret
    exact ⟨by unfold aftW; simp, HW.out⟩
/-- A row of bytes in a world. -/
structure BytesPart (W : World) (g i : Nat) (us : List Int) : Prop where
  lt : g < W.heap.size
  cell : ∃ Y c, W.cell? ⟨g, i, none⟩ = some (.slice Y us.length c) ∧ BytesIn W Y c us
theorem BytesPart.on {W W' : World} {g i : Nat} {us : List Int} (h : BytesPart W g i us) (hb : Below W.heap.size W W') : BytesPart W' g i us := by
  obtain ⟨Y, c, h1, h2⟩ := h.cell
  exact ⟨Nat.lt_of_lt_of_le h.lt hb.size, Y, c, (hb.cell (p := ⟨g, i, none⟩) h.lt).trans h1, h2.on hb⟩
def growRen14 : Ren := ⟨fun | 4 => 119 | n => n, fun | 0 => 0 | 3 => 3 | 4 => 4 | 9 => 9 | 20 => 20 | 22 => 69 | 25 => 5 | n => n, fun | n => n⟩
theorem growLays14 : Lays8.n4 Tryz.prog growRen14 := {
  mixed := by kernel_rfl
  f4 := ⟨ "slices.Grow[[]byte,byte]", by decide, Tryz.func119.trans (congrArg some (by kernel_rfl))⟩
  t0 := Tryz.underlying0
  a0 := Tryz.isAgg0
  z0 := Tryz.sizeOf0
  v0 := Tryz.zeroValue0
  t3 := Tryz.underlying3
  a3 := Tryz.isAgg3
  z3 := Tryz.sizeOf3
  v3 := Tryz.zeroValue3
  t4 := Tryz.underlying4
  a4 := Tryz.isAgg4
  z4 := Tryz.sizeOf4
  v4 := Tryz.zeroValue4
  t9 := Tryz.underlying9
  a9 := Tryz.isAgg9
  z9 := Tryz.sizeOf9
  v9 := Tryz.zeroValue9
  t20 := Tryz.underlying20
  a20 := Tryz.isAgg20
  z20 := Tryz.sizeOf20
  v20 := Tryz.zeroValue20
  t22 := Tryz.underlying69
  a22 := Tryz.isAgg69
  z22 := Tryz.sizeOf69
  v22 := Tryz.zeroValue69 }
theorem growB_nil (n : Nat) (w : World) (h0 : 0 < n) (hn : n ≤ 8589934592) :
    Calls Tryz.prog 119 #[.slice none 0 0, .int .i64 (n : Int)] w fun e w' => ∃ Y c, e = .returned (.slice Y 0 c) ∧ Acc w w' (.slice Y 0 c) [] := by
  obtain ⟨i0, hi, hz0, hz1, hz2⟩ := info_parts infoU8
  refine (Any8.slices_Grow_grow growLays14 i0 _ hi hz0 (by omega) none 0 0 n [] w (Nat.le_refl _) (by omega) (by rw [hz2]; omega) (by omega) (by simp) (fun _ => rfl) (fun a h => by cases h)).mono fun e w' k => ?_
  obtain ⟨he, hw⟩ := k
  have hcm : grownCap w (0 + n) 0 5 ≤ maxLen := grownCap_le_maxLen w (0 + n) 0 _ (by unfold maxLen; omega)
  have hge : 0 + n ≤ grownCap w (0 + n) 0 5 := grownCap_ge w _ _ _
  have hz : (Value.int .u8 0).cells.size = 1 := rfl
  obtain ⟨cs, hw, hcs⟩ : ∃ cs : Array Value, w' = w.drew.alloc (.cells cs 5) ∧ cs.size = grownCap w (0 + n) 0 5 * 1 := by
    refine ⟨_, hw, ?_⟩
    change (([] : List Value).toArray ++ Builtin.zeroCells _ (0 + n - 0) ++ Builtin.zeroCells _ (grownCap w (0 + n) 0 5 - (0 + n))).size = _
    generalize grownCap w (0 + n) 0 5 = G at *
    simp only [Array.size_append, size_zeroCells, hz]
    simp
    omega
  refine ⟨_, _, he, ⟨rfl, .inr ⟨w.heap.size, _, cs, rfl, Nat.le_refl _, ?_, Nat.zero_le _, hcm, hcs, by simp⟩⟩, ?_⟩
  · rw [hw]
    exact heap_alloc_new w.drew _
  · rw [hw]
    exact (below_drewN (Below.refl w.heap.size w) 1).alloc (Nat.le_refl _) _
theorem flat_next (ps : List (List Int)) (k : Nat) (p : List Int) (h : ps[k]? = some p) : (ps.take (k + 1)).flatten = (ps.take k).flatten ++ p := by
  rw [List.take_add_one, h, List.flatten_append]
  simp
theorem flat_le (ps : List (List Int)) (k : Nat) : (ps.take k).flatten.length ≤ ps.flatten.length := by
  conv => rhs; rw [← List.take_append_drop k ps, List.flatten_append, List.length_append]
  omega
set_option maxHeartbeats 2000000 in
set_option maxRecDepth 100000 in
theorem concatB_p (g N c : Nat) (ps : List (List Int)) (w : World) (h : ∀ i p, ps[i]? = some p → BytesPart w g i p) (hN : N = ps.length) (hc : N ≤ c) (hc5 : c ≤ 100000) (hl : ps.flatten.length ≤ 4294967296) (h0 : 0 < ps.flatten.length) :
    Calls Tryz.prog 99 #[.slice (some ⟨g, 0, none⟩) N c] w (fun e w' => ∃ Y n k, e = .returned (.slice Y n k) ∧ n = ps.flatten.length ∧ Acc w w' (.slice Y n k) ps.flatten) := by
  have HP := Lib.hid (And.intro h (And.intro hN (And.intro hl h0)))
  obtain ⟨M, hM⟩ : ∃ M, M = ps.flatten.length := ⟨_, rfl⟩
  have hM5 : M ≤ 4294967296 := by omega
  have hM0 : 0 < M := by omega
  have HM := Lib.hid hM
  rw [← hM]
  clear h hN hl h0 hM
  go_enter Tryz.func99, Tryz.ntmps99
  go_upto_block 0 with fail
  go_cut [3] (fun v wx => v = .int .i64 (M : Int) ∧ w = wx)
  case first =>
    go_wp2_with fail
    go_loopg [3, 11] N (fun g s i wr => w = wr ∧ ∃ (k x : Nat), k ≤ N ∧ g = N - k ∧ s = .int .i64 (x : Int) ∧ i = .int .i64 (k : Int) ∧ Hid (x = (ps.take k).flatten.length) ∧ x ≤ M)
    case atStart => exact ⟨rfl, 0, 0, by omega, rfl, rfl, rfl, Lib.hid rfl, by omega⟩
    case round =>
      obtain ⟨rfl, k, x, hk, rfl, rfl, rfl, HX, hx⟩ := hrel
      by_cases hlt : k < N
      · have hki : (k : Int) < (N : Int) := by omega
        obtain ⟨p, hp⟩ : ∃ p, ps[k]? = some p := ⟨ps[k]'(by have := HP.out.2.1; omega), List.getElem?_eq_getElem _⟩
        obtain ⟨Y, c1, h1, -⟩ := (HP.out.1 k p hp).cell
        have hfl := flat_next ps k p hp
        have hle := flat_le ps (k + 1)
        obtain ⟨y, hy⟩ : ∃ y, y = p.length := ⟨_, rfl⟩
        rw [← hy] at h1
        have HN := Lib.hid (show x + y = (ps.take (k + 1)).flatten.length ∧ x + y ≤ M from by
          have := HX.out
          have := HM.out
          rw [hfl, List.length_append] at hle ⊢
          omega)
        have hxy := HN.out.2
        have hw : IntKind.i64.wrap ((x : Int) + (y : Int)) = ((x + y : Nat) : Int) := by rw [IntWalk.i64_in _ (by omega)]; rfl
        have hneg : ¬ (((x + y : Nat) : Int) < 0) := by omega
        clear hp hfl hle hy
        go_wp2_with fail
        go_roundg (N - (k + 1))
        case measure => omega
        case rel => exact ⟨rfl, k + 1, x + y, by omega, rfl, by simp, by go_num, Lib.hid HN.out.1, hxy⟩
      · have hki : ¬ (k : Int) < (N : Int) := by omega
        have HE := Lib.hid (show x = M from by
          have h1 := HX.out
          rw [List.take_of_length_le (by have := HP.out.2.1; omega)] at h1
          have := HM.out
          omega)
        go_wp2_with fail
        go_meet
        case rel => exact ⟨by rw [HE.out], rfl⟩
  case rest =>
    obtain ⟨rfl, rfl⟩ := hcut
    go_upto_block 2 with (go_at_call 119; refine (growB_nil M _ (by omega) (by omega)).mono ?_; rintro e w1 ⟨Y, c1, rfl, hg⟩; have HG := Lib.hid hg; clear hg)
    go_wp2_with fail
    go_loopg [6, 27] N (fun g' s i wr => ∃ k Y' n c', k ≤ N ∧ g' = N - k ∧ s = .slice Y' n c' ∧ i = .int .i64 (k : Int) ∧ Hid (n = (ps.take k).flatten.length ∧ Acc w wr (.slice Y' n c') (ps.take k).flatten))
    case atStart => exact ⟨0, Y, 0, c1, by omega, rfl, rfl, rfl, Lib.hid ⟨rfl, HG.out⟩⟩
    case round =>
      obtain ⟨k, Y', n, c', hk, rfl, rfl, rfl, HA⟩ := hrel
      by_cases hlt : k < N
      · have hki : (k : Int) < (N : Int) := by omega
        obtain ⟨p, hp⟩ : ∃ p, ps[k]? = some p := ⟨ps[k]'(by have := HP.out.2.1; omega), List.getElem?_eq_getElem _⟩
        have hpart := HP.out.1 k p hp
        obtain ⟨Z, c2, h1, h2⟩ := hpart.cell
        have hc1 := (HA.out.2.2.cell (p := ⟨g, k, none⟩) hpart.lt).trans h1
        have hfl := flat_next ps k p hp
        have hle := flat_le ps (k + 1)
        have hin := h2.on HA.out.2.2
        obtain ⟨Y2, n2, c3, W2, hr, hn2, ha, -⟩ := HA.out.2.bytesL Z p.length c2 p hin.1 rfl hin.2.2.2.2 (by
          rw [hfl, List.length_append] at hle
          have := HP.out.2.2.1
          omega)
        have HR := Lib.hid hr
        have HN := Lib.hid (show n2 = (ps.take (k + 1)).flatten.length ∧ Acc w W2 (.slice Y2 n2 c3) (ps.take (k + 1)).flatten from by
          rw [hfl]
          exact ⟨by rw [List.length_append]; exact hn2, ha⟩)
        have hg5 : k < c := by omega
        clear hp hpart h1 h2 hfl hle hin hr hn2 ha
        go_wp2_with (at_builtin; refine wpList_append_run rfl _ _ 69 rfl rfl rfl HR.out ?_)
        go_roundg (N - (k + 1))
        case measure => omega
        case rel => exact ⟨k + 1, Y2, n2, c3, by omega, rfl, rfl, by go_num, HN⟩
      · have hki : ¬ (k : Int) < (N : Int) := by omega
        have HE := Lib.hid (show n = ps.flatten.length ∧ Acc w wr (.slice Y' n c') ps.flatten from by
          have h1 := HA.out
          rwa [List.take_of_length_le (by have := HP.out.2.1; omega)] at h1)
        go_wp2_with fail
        go_ret
        exact ⟨Y', n, c', rfl, HE.out.1.trans HM.out.symm, HE.out.2⟩
end Go.Proofs.YtmblbogpkdkncaaGreat
