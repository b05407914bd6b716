/- The program's number: bytes, the highest first. -/
import Derived.Test.YtmblbogpkdkncaaGreatP14Seq
namespace Go.Proofs.YtmblbogpkdkncaaGreat
open Go.RowKit Go.Shelf
attribute [local go_sem] Oper.semAt_some

theorem numL_front : ∀ (t n : Nat), numL (t + 1) n = ((n / 256 ^ t % 256 : Nat) : Int) :: numL t n
  | 0, n => by simp [numL]
  | t + 1, n => by
    have h := numL_front t (n / 256)
    have e : numL (t + 2) n = numL (t + 1) (n / 256) ++ [((n % 256 : Nat) : Int)] := rfl
    have e2 : numL (t + 1) n = numL t (n / 256) ++ [((n % 256 : Nat) : Int)] := rfl
    rw [e, h, e2, List.cons_append, Nat.div_div_eq_div_mul, Nat.pow_succ, Nat.mul_comm 256]
set_option maxHeartbeats 400000 in
theorem backB_any (X : Option Addr) (len cap : Nat) (w : World) :
    Calls Tryz.prog 118 #[.slice X len cap] w fun e w' =>
      e = .returned (.func (.func 125) #[] #[.pointer (some ⟨w.heap.size, 0, none⟩)]) ∧ w' = w.alloc (.cells #[.slice X len cap] 69) := by
  go_enter Tryz.func118, Tryz.ntmps118
  go_wp2
  go_ret
  exact ⟨rfl, rfl⟩
set_option maxHeartbeats 1000000 in
set_option maxRecDepth 100000 in
theorem backB_iter (l D n g : Nat) (hlen : n ≤ 100000) (I : Nat → World → Prop)
    (hD : ∀ j W, I j W → W.cell? ⟨D, 0, none⟩ = some (.slice (some ⟨g, 0, none⟩) n n)) (hE : ∀ j W, I (j + 1) W → j < n → W.cell? ⟨g, j, none⟩ = some (.int .u8 0))
    (BB : World → Prop)
    (hY : ∀ j W1, j < n → I (j + 1) W1 → BB W1 → YieldAt Fence.wide 5 Tryz.prog l #[.int .i64 (j : Int), .int .u8 0] W1 fun e W' => e = .returned (.bool true) ∧ I j W' ∧ BB W')
    (W : World) (h0 : I n W) (hB0 : BB W) :
    CallsIn Fence.wide 6 Tryz.prog 125 #[.func (.yield l) #[] #[], .pointer (some ⟨D, 0, none⟩)] W fun e W' => (∃ v, e = .returned v) ∧ I 0 W' ∧ BB W' := by
  refine callsIn_of_wp Tryz.func125 rfl trivial ?_ rfl
  simp only [Tryz.ntmps125, List.size_toArray, List.length_cons, List.length_nil, Nat.reduceAdd, Nat.reduceSub, Array.replicate_succ, Array.replicate_zero, List.push_toArray, List.append_toArray, List.nil_append, List.cons_append]
  have cD := hD _ _ h0
  have HH := Lib.hid (And.intro hD (And.intro hE (And.intro hY (And.intro h0 hB0))))
  clear hD hE hY h0 hB0
  gi_wp2_with (fail)
  clear cD
  gi_loopw [3] (fun i wr => ∃ k : Nat, k ≤ n ∧ i = .int .i64 ((k : Int) - 1) ∧ I k wr ∧ BB wr) (fun i _ => (intOf i + 1).toNat)
  case atStart => exact ⟨n, Nat.le_refl _, by go_num, HH.out.2.2.2.1, HH.out.2.2.2.2⟩
  case round =>
    obtain ⟨k, hk, rfl, hI, hB⟩ := hrel
    rcases Nat.eq_zero_or_pos k with rfl | hp
    · have HI := Lib.hid (And.intro hI hB)
      clear hI hB
      gi_wp2
      go_end0
      exact ⟨⟨_, rfl⟩, HI.out⟩
    · obtain ⟨j, rfl⟩ : ∃ j, k = j + 1 := ⟨k - 1, by omega⟩
      obtain ⟨hD, hE, hY, -, -⟩ := HH.out
      have cD := hD _ _ hI
      have hc := hE _ _ hI (by omega)
      obtain ⟨fn, tmps, assign, body, hy, hR⟩ := hY j wr (by omega) hI hB
      have HR := Lib.hid hR
      have hj0 : (0 : Int) ≤ (j : Int) := by omega
      have hjn : (j : Int) < (n : Int) := by omega
      have ej : ((j + 1 : Nat) : Int) - 1 = (j : Int) := by omega
      rw [ej]
      clear hD hE hY hI hB hR ej
      gi_wp2
      refine HR.out.mono ?_
      rintro e W4 ⟨rfl, hI4, hB4⟩
      have H4 := Lib.hid (And.intro hI4 hB4)
      clear hI4 hB4 hy
      gi_wp2
      exact ⟨⟨j, by omega, by go_num, H4.out.1, H4.out.2⟩, by simp [intOf]⟩
theorem mkB (s : Nat) (hs : s ≤ 1000) (w : World) : (Instr.makeSlice 69 (.int .i64 (s : Int)) (.int .i64 (s : Int))).run Tryz.prog w = .ok (.slice (some ⟨w.heap.size, 0, none⟩) s s) (w.alloc (.cells (Array.replicate s (Value.int .u8 0)) 5)) := by
  have h := run_make_row' (P := Tryz.prog) 69 5 (.int .u8 0) 1 Tryz.underlying69 infoU8 rfl .i64 .i64 s (by omega) (by omega) w
  have e : madeCells #[Value.int .u8 0] s = Array.replicate s (Value.int .u8 0) := by
    refine Array.ext (by simp [size_madeCells]) fun i h1 h2 => ?_
    simp [madeCells, Nat.mod_one]
  rw [← e]
  exact h
/-- What stands when k bytes are still to be written. -/
structure NumI (w : World) (n M k : Nat) (W : World) : Prop where
  nb : W.heap[w.heap.size]? = some (.cells #[.int .i64 ((n / 256 ^ (M - k) : Nat) : Int)] 3 (0, 0))
  row : W.heap[w.heap.size + 1]? = some (.cells ((List.replicate k (0 : Int) ++ numL (M - k) n).map (Value.int .u8)).toArray 5 (0, 0))
  ob : W.heap[w.heap.size + 2]? = some (.cells #[.slice (some ⟨w.heap.size + 1, 0, none⟩) M M] 69 (0, 0))
  sb : W.heap[w.heap.size + 3]? = some (.cells #[.slice (some ⟨w.heap.size + 1, 0, none⟩) M M] 69 (0, 0))
  below : Below w.heap.size w W
  size : w.heap.size + 4 ≤ W.heap.size
theorem NumI.kept {w W W' : World} {n M k : Nat} {row : Option Nat} (h : NumI w n M k W) (hg : W.grownBy W' row) (hr : ∀ r, row = some r → w.heap.size + 4 ≤ r ∧ ∃ o : Obj, W.heap[r]? = some o ∧ o.isCells = false) : NumI w n M k W' := by
  have hk : ∀ i, i < 4 → W'.heap[w.heap.size + i]? = W.heap[w.heap.size + i]? := fun i hi => hg.block _ (by have := h.size; omega) (fun e => by have := (hr _ e.symm).1; omega)
  exact ⟨(hk 0 (by omega)).trans h.nb, (hk 1 (by omega)).trans h.row, (hk 2 (by omega)).trans h.ob, (hk 3 (by omega)).trans h.sb, h.below.grown hg h.below.size (fun k e => by have := (hr k e).1; omega), Nat.le_trans h.size hg.size⟩
set_option maxHeartbeats 1000000 in
set_option maxRecDepth 100000 in
theorem numB_p (n M : Nat) (w : World) (hM : M ≤ 8) (hn : n ≤ 4611686018427387904) :
    Calls Tryz.prog 97 #[.int .i64 (n : Int), .int .i64 (M : Int)] w (fun e w' => ∃ Y c, e = .returned (.slice Y M c) ∧ Acc w w' (.slice Y M c) (numL M n)) := by
  refine (callsIn_wide (n := 7)).1 ?_
  refine callsIn_of_wp_marks Tryz.func97 rfl trivial ?_ rfl
  simp only [Tryz.ntmps97, List.size_toArray, List.length_cons, List.length_nil, Nat.reduceAdd, Nat.reduceSub, Array.replicate_succ, Array.replicate_zero, List.push_toArray, List.append_toArray, List.nil_append, List.cons_append]
  have hmk := fun w => mkB M (by omega) w
  gi_wp2_with (refine ⟨trivial, ?_⟩; gi_at_call 118; refine (callsIn_wide.2 (backB_any _ _ _ _)).mono ?_; rintro e w1 ⟨rfl, rfl⟩)
  clear hmk
  obtain ⟨Ws, hWs⟩ : ∃ Ws, Ws = ((((w.alloc (.cells #[.int .i64 (n : Int)] 3)).alloc (.cells (Array.replicate M (Value.int .u8 0)) 5)).alloc (.cells #[.slice (some ⟨w.heap.size + 1, 0, none⟩) M M] 69)).alloc (.cells #[.slice (some ⟨w.heap.size + 1, 0, none⟩) M M] 69)) := ⟨_, rfl⟩
  have hsz : Ws.heap.size = w.heap.size + 4 := by rw [hWs]; simp
  have h0 : NumI w n M M Ws := by
    have hb : Below w.heap.size w Ws := by rw [hWs]; exact ((((Below.refl _ _).alloc (Nat.le_refl _) _).alloc (by simp) _).alloc (by simp <;> omega) _).alloc (by simp <;> omega) _
    refine ⟨?_, ?_, ?_, ?_, hb, by omega⟩
    · rw [hWs, heap_alloc_old _ _ (by simp <;> omega), heap_alloc_old _ _ (by simp <;> omega), heap_alloc_old _ _ (by simp), heap_alloc_new, Nat.sub_self, Nat.pow_zero, Nat.div_one]
    · rw [hWs, heap_alloc_old _ _ (by simp <;> omega), heap_alloc_old _ _ (by simp)]
      have h := heap_alloc_new (w.alloc (.cells #[.int .i64 (n : Int)] 3)) (.cells (Array.replicate M (Value.int .u8 0)) 5)
      rw [World.size_alloc] at h
      rw [h, Nat.sub_self]
      simp [numL]
    · rw [hWs, heap_alloc_old _ _ (by simp)]
      have h := heap_alloc_new ((w.alloc (.cells #[.int .i64 (n : Int)] 3)).alloc (.cells (Array.replicate M (Value.int .u8 0)) 5)) (.cells #[.slice (some ⟨w.heap.size + 1, 0, none⟩) M M] 69)
      rw [World.size_alloc, World.size_alloc] at h
      exact h
    · rw [hWs]
      have h := heap_alloc_new (((w.alloc (.cells #[.int .i64 (n : Int)] 3)).alloc (.cells (Array.replicate M (Value.int .u8 0)) 5)).alloc (.cells #[.slice (some ⟨w.heap.size + 1, 0, none⟩) M M] 69)) (.cells #[.slice (some ⟨w.heap.size + 1, 0, none⟩) M M] 69)
      rw [World.size_alloc, World.size_alloc, World.size_alloc] at h
      exact h
  rw [← hWs]
  clear hWs
  have kept : ∀ k W W' row, NumI w n M k W → W.grownBy W' row → (∀ r, row = some r → Ws.heap.size ≤ r ∧ ∃ o : Obj, W.heap[r]? = some o ∧ o.isCells = false) → NumI w n M k W' := fun j W W' row h hg hr => h.kept hg (fun r e => by have := hr r e; rw [hsz] at this; exact this)
  refine wpIn_rangeFunc_cellsK (β := Nat) rfl (by omega) (gf := 125) (lb := #[.pointer (some ⟨w.heap.size + 1 + 1 + 1, 0, none⟩)]) rfl trivial (enters_of Tryz.func125 (by kernel_rfl) rfl)
    (encs := fun j => #[.int .i64 (j : Int), .int .u8 0]) (Kp := fun _ _ => True)
    (I0 := fun W => NumI w n M M W)
    (I := fun j W => NumI w n M (j + 1) W ∧ j < M)
    (I' := fun j W => NumI w n M j W)
    (Fin := fun W => NumI w n M 0 W)
    (fun l B W hB hY hi hb => backB_iter l (w.heap.size + 1 + 1 + 1) M (w.heap.size + 1) (by omega) (fun k W => NumI w n M k W)
      (fun j W h => by rw [cell_of_row W (w.heap.size + 3) 0 _ _ (0, 0) h.sb]; rfl)
      (fun j W h hj => by
        rw [cell_of_row W (w.heap.size + 1) j _ _ (0, 0) h.row, List.getElem?_toArray, List.map_append, List.map_replicate, List.getElem?_append_left (by simp), List.getElem?_replicate, if_pos (by omega)])
      B (fun j W1 hj h1 h2 => by
        obtain ⟨fn, tmps, assign, body, hy, hR⟩ := hY j W1 ⟨h1, hj⟩ h2
        exact ⟨fn, tmps, assign, body, hy, hR.mono fun e W' h => ⟨h.1, h.2.1, h.2.2.1⟩⟩) W hi hb)
    (fun _ _ => trivial) (fun _ _ _ _ _ _ _ _ => trivial)
    (fun _ => rfl) (fun _ W W' row h hg hr => kept _ _ _ _ h hg hr) (fun s W W' row h hg hr => kept _ _ _ _ h hg hr) (fun _ W W' row h hg hr => kept _ _ _ _ h hg hr) h0
    (fun j a' W => a' = { tmps := #[.int .i64 (n : Int), .int .i64 (M : Int), .pointer (some ⟨w.heap.size, 0, none⟩), undef, .slice none 0 0, .pointer (some ⟨w.heap.size + 1 + 1, 0, none⟩), .int .i64 (j : Int), .int .i64 (M : Int), .slice (some ⟨w.heap.size + 1, 0, none⟩) M M, .slice (some ⟨w.heap.size + 1, 0, none⟩) M M, .func (.func 125) #[] #[.pointer (some ⟨w.heap.size + 1 + 1 + 1, 0, none⟩)], .int .i64 (j : Int), .int .u8 0, undef, undef, undef, undef, undef, undef, undef, undef], defers := [] } ∧ NumI w n M (j + 1) W ∧ j < M)
    (fun s a' _ W W' row h hg hr => ⟨h.1, kept _ _ _ _ h.2.1 hg hr, h.2.2⟩) ?assign ?body ?done
  case assign =>
    rintro l j W K ⟨hI, hj⟩ hK
    have HK := Lib.hid (hK _ W (KeepsFrom.refl _ _) trivial ⟨rfl, hI, hj⟩)
    clear hK kept h0 hI
    gi_wp2_with fail
    exact HK.out
  case body =>
    rintro l j a' W ⟨rfl, hI, hj⟩
    obtain ⟨x, hx⟩ : ∃ x, x = n / 256 ^ (M - (j + 1)) := ⟨_, rfl⟩
    have HX := Lib.hid hx
    have c0 := cell_of_row W w.heap.size 0 _ _ (0, 0) hI.nb
    have c1 := cell_of_row W (w.heap.size + 2) 0 _ _ (0, 0) hI.ob
    have c2 := cell_of_row W (w.heap.size + 1) j _ _ (0, 0) hI.row
    have f2 := frozen_of_row W (w.heap.size + 1) j _ _ hI.row
    have f0 := frozen_of_row W w.heap.size 0 _ _ hI.nb
    rw [← hx] at c0
    rw [List.getElem?_toArray, List.map_append, List.map_replicate, List.getElem?_append_left (by simp), List.getElem?_replicate, if_pos (by omega)] at c2
    have hz := hI.size
    have HF := Lib.hid (show KeepsFrom Ws.heap.size W ((W.setCell ⟨w.heap.size + 1, j, none⟩ (.int .u8 ((x : Int) % 256))).setCell ⟨w.heap.size, 0, none⟩ (.int .i64 ((x : Int) / 256))) ∧ True ∧ NumI w n M j ((W.setCell ⟨w.heap.size + 1, j, none⟩ (.int .u8 ((x : Int) % 256))).setCell ⟨w.heap.size, 0, none⟩ (.int .i64 ((x : Int) / 256))) from by
      obtain ⟨W1, hW1⟩ : ∃ W1, W1 = W.setCell ⟨w.heap.size + 1, j, none⟩ (.int .u8 ((x : Int) % 256)) := ⟨_, rfl⟩
      obtain ⟨W2, hW2⟩ : ∃ W2, W2 = W1.setCell ⟨w.heap.size, 0, none⟩ (.int .i64 ((x : Int) / 256)) := ⟨_, rfl⟩
      have k1 : KeepO (fun x => x = w.heap.size + 1) W W1 := by rw [hW1]; exact keepO_set _ _ _ _
      have k2 : KeepO (fun x => x = w.heap.size) W1 W2 := by rw [hW2]; exact keepO_set _ _ _ _
      have z1 := k1.size
      have r1 := heap_setCell_same W (w.heap.size + 1) j _ _ (.int .u8 ((x : Int) % 256)) hI.row
      rw [← hW1] at r1
      have r0 := (k1.block w.heap.size (by omega) (by omega)).trans hI.nb
      have r2 := heap_setCell_same W1 w.heap.size 0 _ _ (.int .i64 ((x : Int) / 256)) r0
      rw [← hW2] at r2
      have hK : ∀ i, w.heap.size + 2 ≤ i → i < W.heap.size → W2.heap[i]? = W.heap[i]? := fun i h1 h2 => (k2.block i (by omega) (by omega)).trans (k1.block i (by omega) (by omega))
      have e1 : M - j = (M - (j + 1)) + 1 := by omega
      have e2 : ((List.replicate (j + 1) (0 : Int) ++ numL (M - (j + 1)) n).map (Value.int .u8)).toArray.setIfInBounds j (.int .u8 ((x : Int) % 256)) = ((List.replicate j (0 : Int) ++ numL (M - j) n).map (Value.int .u8)).toArray := by
        rw [e1, numL_front, ← hx]
        simp only [List.setIfInBounds_toArray]
        congr 1
        rw [List.replicate_succ', List.append_assoc, List.map_append, List.map_append, List.set_append_right _ _ (by simp)]
        simp
      rw [e2] at r1
      refine ⟨⟨by rw [← hW1, ← hW2]; exact Nat.le_trans z1 k2.size, fun k o hB hk hc => ?_⟩, trivial, ?_⟩
      · rw [← hW1, ← hW2]
        exact (hK k (by omega) (Array.getElem?_eq_some_iff.1 hk).1).trans hk
      · rw [← hW1, ← hW2]
        refine ⟨?_, (k2.block _ (by omega) (by omega)).trans r1, (hK _ (by omega) (by omega)).trans hI.ob, (hK _ (by omega) (by omega)).trans hI.sb, ?_, by have := k2.size; omega⟩
        · rw [r2, e1, Nat.pow_succ, ← Nat.div_div_eq_div_mul, ← hx]
          rfl
        · exact ⟨k2.os.trans (k1.os.trans hI.below.os), k2.tape.trans (k1.tape.trans hI.below.tape), k2.output.trans (k1.output.trans hI.below.output), Nat.le_trans hI.below.size (Nat.le_trans z1 k2.size), fun k hk => by rw [k2.block k (by omega) (by omega), k1.block k (by omega) (by omega), hI.below.block k hk]⟩)
    have hxn : x ≤ 4611686018427387904 := Nat.le_trans (by rw [hx]; exact Nat.div_le_self _ _) hn
    clear hI hx hz kept h0
    gi_wp2_with fail
    exact HF.out
  case done =>
    rintro D' W hD hI hdef
    have c1 := cell_of_row W (w.heap.size + 2) 0 _ _ (0, 0) hI.ob
    have HI := Lib.hid hI
    clear hI kept h0
    gi_wp2
    refine ⟨by simp, .inl ⟨_, _, rfl, run_takeDeferred hdef, ?_⟩⟩
    have hb := belowK_b (w := w) (Nat.le_refl _) W D' _ (Obj.deferred none) (by omega) hdef rfl rfl
    have hr := HI.out.row
    rw [Nat.sub_zero, List.replicate_zero, List.nil_append] at hr
    refine ⟨_, results_tmp rfl _ _ _, _, _, rfl, ?_, HI.out.below.trans hb⟩
    have hl := numL_length M n
    have hown : W.ownsRow w.heap.size 5 1 (.slice (some ⟨w.heap.size + 1, 0, none⟩) M M) M ((numL M n).map (Value.int .u8)) := by
      refine ⟨by simp [hl], .inr ⟨w.heap.size + 1, M, _, rfl, by omega, hr, by omega, by unfold maxLen; omega, by simp [hl], ?_⟩⟩
      rw [List.take_of_length_le (by simp [hl])]
    rw [hl]
    exact ownsRow_putObj hown _ hdef rfl
end Go.Proofs.YtmblbogpkdkncaaGreat
