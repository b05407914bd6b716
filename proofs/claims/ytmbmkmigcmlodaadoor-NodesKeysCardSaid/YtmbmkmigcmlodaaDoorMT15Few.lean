/- The program's Grow. The reference's Same of equal lists of writes. The contracts of the program's nodes, in one place. The laws' few. -/
import Derived.Test.YtmbmkmigcmlodaaDoorP15Add
import Derived.Test.YtmbmkmigcmlodaaDoorMT15Rows
import Derived.IntWalk
import Derived.StillTactics
namespace Go.Proofs.YtmbmkmigcmlodaaDoor
open Go.RowKit

/-- What Grow answers. -/
def GrowP (w : World) (ws : List Wr) (ps : List ByteArray) (e : Ending) (w' : World) : Prop := ∃ X m c Y k d, e = .returned (.tuple #[.slice X m c, .slice Y k d]) ∧ AccWr w w' (.slice X m c) ws ∧ AccS w w' (.slice Y k d) ps
theorem peaksH_400' : ∀ (n : Nat) (l : List ByteArray), l.length ≤ n → (∀ s ∈ l, s.size ≤ 400) → ∀ s ∈ peaksH l, s.size ≤ 400
  | 0, l, h, _, s, hs => by
    have e : l = [] := List.length_eq_zero_iff.1 (Nat.le_zero.1 h)
    subst e
    cases hs
  | n + 1, l, h, hl, s, hs => by
    rcases Nat.eq_zero_or_pos l.length with h0 | h0
    · have e : l = [] := List.length_eq_zero_iff.1 h0
      subst e
      cases hs
    · obtain ⟨k, hk⟩ := top_exists l.length h0
      rw [peaksH_next hk] at hs
      rcases List.mem_cons.1 hs with rfl | hs
      · exact rootB_400 _ fun x hx => hl x (List.mem_of_mem_take hx)
      · exact peaksH_400' n _ (by rw [List.length_drop]; have := hk.pos; omega) (fun x hx => hl x (List.mem_of_mem_drop hx)) s hs

set_option maxHeartbeats 8000000 in
set_option maxRecDepth 100000 in
theorem grow_p (l0 hs ts : List ByteArray) (A B : Option Addr) (n k m c d : Nat) (w : World) (hT : TabsP w) (hn : n = l0.length) (hts : ts = peaksH l0) (hk : k = ts.length) (hm : m = hs.length) (hA : StrsIn w A ts) (hB : StrsIn w B hs) (_ : k ≤ c) (_ : c ≤ maxLen) (_ : m ≤ d) (_ : d ≤ maxLen) (hz : (∀ s ∈ l0, s.size ≤ 400) ∧ ∀ s ∈ hs, s.size ≤ 400) (hl : n + m ≤ 100) :
    Calls Tryd.prog 20 #[.int .i64 (n : Int), .slice A k c, .slice B m d] w (GrowP w (growW n (l0 ++ hs)) (peaksH (l0 ++ hs))) := by
  have h1 : k = onesN 10 n := by rw [hk, hts, hn]; exact peaksH_ones l0 (by omega)
  have HO := Lib.hid (fun W => ones_any n (by omega) W)
  have hk10 : k ≤ 10 := by rw [h1]; exact onesN_le 10 n
  rw [← h1] at HO
  clear h1
  have hnw : IntKind.u64.wrap (n : Int) = (n : Int) := by rw [IntKind.wrap_u64]; omega
  obtain ⟨all, hall⟩ : ∃ a, a = l0 ++ hs := ⟨_, rfl⟩
  have hlen : all.length = n + m := by rw [hall, List.length_append, hn, hm]
  have hat : ∀ i s, hs[i]? = some s → all[n + i]? = some s := fun i s h => by rw [hall, hn, List.getElem?_append_right (by omega), Nat.add_sub_cancel_left]; exact h
  have htn : all.take n = l0 := by rw [hall, hn, List.take_left]
  have hs4 : ∀ x ∈ all, x.size ≤ 400 := fun x hx => by
    rw [hall] at hx
    rcases List.mem_append.1 hx with h | h
    · exact hz.1 x h
    · exact hz.2 x h
  have ht4 : ∀ x ∈ ts, x.size ≤ 400 := by rw [hts]; exact peaksH_400' _ l0 (Nat.le_refl _) hz.1
  rw [← hall]
  have HA := Lib.hid (And.intro hA (And.intro hk ht4))
  have HB := Lib.hid (And.intro hB (And.intro hm (And.intro hat (And.intro hs4 (And.intro hlen (And.intro hT hz.2))))))
  have HTS := Lib.hid (show ts = peaksH (all.take n) by rw [htn, hts])
  clear hall hlen hat htn hs4 ht4 hA hB hk hm hts hn hz hT
  go_enter Tryd.func20, Tryd.ntmps20
  go_wp2_with (go_at_call 32; refine (HO.out _).mono ?_; rintro e wq ⟨rfl, hw⟩; rw [← hw]; clear hw wq)
  have HG0 := Lib.hid (show GrowB w (w.alloc (.cells #[.int .u64 (n : Int), .slice none 0 0, .slice none 0 0] 50)) w.heap.size n (.slice none 0 0) (.slice none 0 0) [] [] from
    ⟨Nat.le_refl _, (Below.refl _ _).alloc (Nat.le_refl _) _, heap_alloc_new w _, World.ownsRow_nil _ _ _ _, World.ownsRow_nil _ _ _ _⟩)
  obtain ⟨G, hG⟩ : ∃ G, G = w.heap.size := ⟨_, rfl⟩
  rw [← hG]
  have hG0 := HG0.out
  rw [← hG] at hG0
  clear HG0
  have HG0 := Lib.hid hG0
  clear hG0 hG HO
  go_loopg [28] k (fun g x wr => ∃ (j : Nat), j ≤ k ∧ g = k - j ∧ x = .int .i64 (j : Int) ∧ Hid (∃ vp, GrowB w wr G n vp (.slice none 0 0) (ts.take j) []))
  case atStart => exact ⟨0, by omega, by omega, rfl, Lib.hid ⟨_, HG0.out⟩⟩
  case round =>
    obtain ⟨j, hj, rfl, rfl, hH⟩ := hrel
    by_cases hlt : j < k
    · have hjk : (j : Int) < (k : Int) := by omega
      obtain ⟨vp, hg⟩ := hH.out
      obtain ⟨hA, hkt, ht4⟩ := HA.out
      obtain ⟨s, hs⟩ : ∃ s, ts[j]? = some s := ⟨ts[j]'(by omega), List.getElem?_eq_getElem _⟩
      obtain ⟨ad, rfl, hab, hac⟩ := hA j s hs
      have cs : wr.cell? (ad.add j) = some (.string s) := (hg.below.cell (by rw [addr_add_block]; exact hab)).trans hac
      have hss : s.size ≤ 400 := ht4 s (List.mem_of_getElem? hs)
      have HC := Lib.hid (fun W => clone_any s (by omega) W)
      obtain ⟨Y, cc, rfl⟩ := own_form hg.peaks
      obtain ⟨T1, hT1⟩ : ∃ T, T = ts.take j := ⟨_, rfl⟩
      have HN := Lib.hid (show T1 ++ [s] = ts.take (j + 1) by rw [hT1, List.take_add_one, hs]; rfl)
      have HL := Lib.hid (show T1.length ≤ 100000 by rw [hT1, List.length_take]; omega)
      rw [← hT1] at hg
      obtain ⟨q, hq⟩ : ∃ q, q = T1.length := ⟨_, rfl⟩
      rw [← hq] at hg
      have HG := Lib.hid hg
      clear hg hA hkt ht4 hs hab hac hss hT1 hq hH
      go_upto_region 7 with fail
      refine wp_region_noPanic ?_
      refine wp_region_held_drew (S := fun _ => True) (by kernel_rfl) trivial (fun hS => ?_)
      refine wpAnyH_take (i := 0) (v := ?_) (ops_at rfl) (by kernel_rfl) (by kernel_rfl) (by kernel_rfl) (fun _ _ _ h => h) (Or.inl ⟨by rfl, ?_⟩) hS ?_
      rotate_left
      · intro _ _; first | (go_simp; done) | (go_simp; with_reducible rfl)
      simp only [Act.put, List.setIfInBounds_toArray, List.set_cons_zero, List.set_cons_succ]
      refine wpAnyH_take (i := 2) (v := ?_) (ops_at rfl) (by kernel_rfl) (by kernel_rfl) (by kernel_rfl) (fun _ _ _ h => h) (Or.inl ⟨by rfl, ?_⟩) hS ?_
      rotate_left
      · intro _ _; first | (go_simp; done) | (go_simp; with_reducible rfl)
      simp only [Act.put, List.setIfInBounds_toArray, List.set_cons_zero, List.set_cons_succ]
      refine wpAnyH_ready (rs := [1, 3]) (by kernel_rfl) (by simp) ?_
      refine AllReadyH.cons (ops_at rfl) (fun K hK => ?_) ?_
      · skip
        have d2 := (HG.out.on (Below.refl _ _).drew).cells.2.1
        go_simp
        refine hK.out _ _ trivial (fun hS => ?_)
        clear hK K
        clear d2
        refine wpAnyH_ready (rs := [3]) (by kernel_rfl) (by simp) (AllReadyH.cons (ops_at rfl) (fun K hK => ?_) AllReadyH.nil)
        go_simp
        go_at_call 33
        refine (HC.out wr.drew).mono ?_
        rintro e w4 ⟨rfl, hb4⟩
        have HG4 := Lib.hid ((HG.out.on (Below.refl _ _).drew).on hb4)
        clear hb4
        go_wp2_with fail
        refine hK.out _ _ trivial (fun hS => ?_)
        clear hK K
        refine wpAnyH_ready (rs := [4]) (by kernel_rfl) (by simp) (AllReadyH.cons (ops_at rfl) (fun K hK => ?_) AllReadyH.nil)
        go_simp
        refine hK.out _ _ trivial (fun hS => ?_)
        clear hK K
        obtain ⟨v6, W6, hap, d6, f6, g6⟩ := HG4.out.peak s HL.out
        obtain ⟨Y6, c6, rfl⟩ := own_form g6.peaks
        obtain ⟨m6, hm6⟩ : ∃ m6, m6 = (T1 ++ [s]).length := ⟨_, rfl⟩
        rw [← hm6] at g6 hap
        rw [HN.out] at g6
        clear hm6
        have HG6 := Lib.hid g6
        clear g6
        have hap : (Builtin.append_ #[29, 29] 29 #[.slice Y q cc, .slice (some ⟨w4.heap.size, 0, none⟩) 1 1]).run Tryd.prog (w4.alloc (.cells #[.string s] 9)) = .ok (.slice Y6 m6 c6) W6 := hap
        refine wpAnyH_ready (rs := [5]) (by kernel_rfl) (by simp) (AllReadyH.cons (ops_at rfl) (fun K hK => ?_) AllReadyH.nil)
        rw [if_pos (by rfl)]
        refine wp_append_run _ _ 29 rfl rfl rfl hap ?_
        simp only [Act.put, List.setIfInBounds_toArray, List.set_cons_zero, List.set_cons_succ]
        refine hK.out _ _ trivial (fun hS => ?_)
        clear hK K
        clear hap
        refine wpAnyH_take (i := 6) (v := ?_) (ops_at rfl) (by kernel_rfl) (by kernel_rfl) (by kernel_rfl) (fun _ _ _ h => h) (Or.inl ⟨by rfl, ?_⟩) hS ?_
        rotate_left
        · intro _ _; first | (go_simp; done) | (go_simp; with_reducible rfl)
        simp only [Act.put, List.setIfInBounds_toArray, List.set_cons_zero, List.set_cons_succ]
        refine wpAnyH_ready (rs := [7]) (by kernel_rfl) (by simp) (AllReadyH.cons (ops_at rfl) (fun K hK => ?_) AllReadyH.nil)
        go_simp
        refine hK.out _ _ trivial (fun hS => ?_)
        clear hK K
        refine wpAnyH_done (by kernel_rfl) ?_ _
        refine NoPanic.normal ?_
        clear hS d6 f6
        go_wp2_with fail
        go_roundg (k - (j + 1))
        case measure => omega
        case rel => exact ⟨j + 1, by omega, rfl, by go_num, Lib.hid ⟨_, HG6.out⟩⟩
      refine AllReadyH.cons (ops_at rfl) (fun K hK => ?_) ?_
      · skip
        go_simp
        go_at_call 33
        refine (HC.out wr.drew).mono ?_
        rintro e w4 ⟨rfl, hb4⟩
        have HG4 := Lib.hid ((HG.out.on (Below.refl _ _).drew).on hb4)
        clear hb4
        go_wp2_with fail
        refine hK.out _ _ trivial (fun hS => ?_)
        clear hK K
        refine wpAnyH_ready (rs := [1, 4]) (by kernel_rfl) (by simp) ?_
        refine AllReadyH.cons (ops_at rfl) (fun K hK => ?_) ?_
        · skip
          have d2 := HG4.out.cells.2.1
          go_simp
          refine hK.out _ _ trivial (fun hS => ?_)
          clear hK K
          clear d2
          refine wpAnyH_ready (rs := [4]) (by kernel_rfl) (by simp) (AllReadyH.cons (ops_at rfl) (fun K hK => ?_) AllReadyH.nil)
          go_simp
          refine hK.out _ _ trivial (fun hS => ?_)
          clear hK K
          obtain ⟨v6, W6, hap, d6, f6, g6⟩ := HG4.out.peak s HL.out
          obtain ⟨Y6, c6, rfl⟩ := own_form g6.peaks
          obtain ⟨m6, hm6⟩ : ∃ m6, m6 = (T1 ++ [s]).length := ⟨_, rfl⟩
          rw [← hm6] at g6 hap
          rw [HN.out] at g6
          clear hm6
          have HG6 := Lib.hid g6
          clear g6
          have hap : (Builtin.append_ #[29, 29] 29 #[.slice Y q cc, .slice (some ⟨w4.heap.size, 0, none⟩) 1 1]).run Tryd.prog (w4.alloc (.cells #[.string s] 9)) = .ok (.slice Y6 m6 c6) W6 := hap
          refine wpAnyH_ready (rs := [5]) (by kernel_rfl) (by simp) (AllReadyH.cons (ops_at rfl) (fun K hK => ?_) AllReadyH.nil)
          rw [if_pos (by rfl)]
          refine wp_append_run _ _ 29 rfl rfl rfl hap ?_
          simp only [Act.put, List.setIfInBounds_toArray, List.set_cons_zero, List.set_cons_succ]
          refine hK.out _ _ trivial (fun hS => ?_)
          clear hK K
          clear hap
          refine wpAnyH_take (i := 6) (v := ?_) (ops_at rfl) (by kernel_rfl) (by kernel_rfl) (by kernel_rfl) (fun _ _ _ h => h) (Or.inl ⟨by rfl, ?_⟩) hS ?_
          rotate_left
          · intro _ _; first | (go_simp; done) | (go_simp; with_reducible rfl)
          simp only [Act.put, List.setIfInBounds_toArray, List.set_cons_zero, List.set_cons_succ]
          refine wpAnyH_ready (rs := [7]) (by kernel_rfl) (by simp) (AllReadyH.cons (ops_at rfl) (fun K hK => ?_) AllReadyH.nil)
          go_simp
          refine hK.out _ _ trivial (fun hS => ?_)
          clear hK K
          refine wpAnyH_done (by kernel_rfl) ?_ _
          refine NoPanic.normal ?_
          clear hS d6 f6
          go_wp2_with fail
          go_roundg (k - (j + 1))
          case measure => omega
          case rel => exact ⟨j + 1, by omega, rfl, by go_num, Lib.hid ⟨_, HG6.out⟩⟩
        refine AllReadyH.cons (ops_at rfl) (fun K hK => ?_) ?_
        · skip
          go_simp
          refine hK.out _ _ trivial (fun hS => ?_)
          clear hK K
          have d2 := (HG4.out.on ((Below.refl _ _).alloc (Nat.le_refl _) (.cells #[.string s] 9))).cells.2.1
          refine wpAnyH_ready (rs := [1]) (by kernel_rfl) (by simp) (AllReadyH.cons (ops_at rfl) (fun K hK => ?_) AllReadyH.nil)
          go_simp
          refine hK.out _ _ trivial (fun hS => ?_)
          clear hK K
          clear d2
          obtain ⟨v6, W6, hap, d6, f6, g6⟩ := HG4.out.peak s HL.out
          obtain ⟨Y6, c6, rfl⟩ := own_form g6.peaks
          obtain ⟨m6, hm6⟩ : ∃ m6, m6 = (T1 ++ [s]).length := ⟨_, rfl⟩
          rw [← hm6] at g6 hap
          rw [HN.out] at g6
          clear hm6
          have HG6 := Lib.hid g6
          clear g6
          have hap : (Builtin.append_ #[29, 29] 29 #[.slice Y q cc, .slice (some ⟨w4.heap.size, 0, none⟩) 1 1]).run Tryd.prog (w4.alloc (.cells #[.string s] 9)) = .ok (.slice Y6 m6 c6) W6 := hap
          refine wpAnyH_ready (rs := [5]) (by kernel_rfl) (by simp) (AllReadyH.cons (ops_at rfl) (fun K hK => ?_) AllReadyH.nil)
          rw [if_pos (by rfl)]
          refine wp_append_run _ _ 29 rfl rfl rfl hap ?_
          simp only [Act.put, List.setIfInBounds_toArray, List.set_cons_zero, List.set_cons_succ]
          refine hK.out _ _ trivial (fun hS => ?_)
          clear hK K
          clear hap
          refine wpAnyH_take (i := 6) (v := ?_) (ops_at rfl) (by kernel_rfl) (by kernel_rfl) (by kernel_rfl) (fun _ _ _ h => h) (Or.inl ⟨by rfl, ?_⟩) hS ?_
          rotate_left
          · intro _ _; first | (go_simp; done) | (go_simp; with_reducible rfl)
          simp only [Act.put, List.setIfInBounds_toArray, List.set_cons_zero, List.set_cons_succ]
          refine wpAnyH_ready (rs := [7]) (by kernel_rfl) (by simp) (AllReadyH.cons (ops_at rfl) (fun K hK => ?_) AllReadyH.nil)
          go_simp
          refine hK.out _ _ trivial (fun hS => ?_)
          clear hK K
          refine wpAnyH_done (by kernel_rfl) ?_ _
          refine NoPanic.normal ?_
          clear hS d6 f6
          go_wp2_with fail
          go_roundg (k - (j + 1))
          case measure => omega
          case rel => exact ⟨j + 1, by omega, rfl, by go_num, Lib.hid ⟨_, HG6.out⟩⟩
        exact AllReadyH.nil
      exact AllReadyH.nil
    · have hjk : ¬ (j : Int) < (k : Int) := by omega
      obtain rfl : j = k := by omega
      have hG1 := hH.out
      rw [List.take_of_length_le (by have := HA.out.2.1; omega), HTS.out] at hG1
      have HG1 := Lib.hid hG1
      clear hG1 hH HG0 HA
      go_wp2_with fail
      go_loopg [42] m (fun g x wr => ∃ (i : Nat), i ≤ m ∧ g = m - i ∧ x = .int .i64 (i : Int) ∧ Hid (∃ vp vw, GrowB w wr G (n + i) vp vw (peaksH (all.take (n + i))) (growTo n (n + i) all)))
      case atStart => exact ⟨0, by omega, by omega, rfl, Lib.hid ⟨_, _, by rw [Nat.add_zero, growTo_start]; exact HG1.out.choose_spec⟩⟩
      case round =>
        obtain ⟨i, hi, rfl, rfl, hH⟩ := hrel
        by_cases hlt : i < m
        · have him : (i : Int) < (m : Int) := by omega
          obtain ⟨hB, hmt, hat, hs4, hlen, hT, hz⟩ := HB.out
          obtain ⟨s, hs⟩ : ∃ s, hs[i]? = some s := ⟨hs[i]'(by omega), List.getElem?_eq_getElem _⟩
          obtain ⟨ad, rfl, hab, hac⟩ := hB i s hs
          obtain ⟨vp, vw, hg⟩ := hH.out
          have cs : wr.cell? (ad.add i) = some (.string s) := (hg.below.cell (by rw [addr_add_block]; exact hab)).trans hac
          have HC := Lib.hid (clone_any s (by have := hz s (List.mem_of_getElem? hs); omega) wr)
          have HAd := Lib.hid (show ∀ W, Below wr.heap.size wr W → Calls Tryd.prog 34 #[.pointer (some ⟨G, 0, none⟩), .string s] W (fun e w' => e = .returned (.tuple #[]) ∧ Hid (∃ vp vw, GrowB w w' G (n + (i + 1)) vp vw (peaksH (all.take (n + (i + 1)))) (growTo n (n + (i + 1)) all))) from fun W hb =>
            (add_p w W G (n + i) all s vp vw _ (hg.on hb) hT (hat i s hs) (by omega) hs4 (by have := growTo_length n (n + i) all (by omega); omega)).mono fun e w' k => ⟨k.1, Lib.hid (by
              rw [show n + (i + 1) = n + i + 1 by omega, growTo_next n (n + i) all (by omega)]
              exact k.2)⟩)
          clear hB hmt hat hs4 hlen hT hz hs hab hac hg hH
          go_wp2_with (first
            | (go_at_call 33; refine HC.out.mono ?_; rintro e w4 ⟨rfl, hb4⟩; have HB4 := Lib.hid hb4; clear hb4)
            | (go_at_call 34; refine (HAd.out _ HB4.out).mono ?_; rintro e w5 ⟨rfl, HG5⟩))
          go_roundg (m - (i + 1))
          case measure => omega
          case rel => exact ⟨i + 1, by omega, rfl, by go_num, HG5⟩
        · have him : ¬ (i : Int) < (m : Int) := by omega
          obtain rfl : i = m := by omega
          obtain ⟨hB, hmt, hat, hs4, hlen, hT, hz⟩ := HB.out
          obtain ⟨vp, vw, hg⟩ := hH.out
          rw [← hlen, List.take_length] at hg
          obtain ⟨Y, cc, rfl⟩ := own_form hg.peaks
          obtain ⟨X, c2, rfl⟩ := own_form hg.writes
          obtain ⟨-, d1, d2, -⟩ := (hg.on (Below.refl _ _).drew).cells
          have HF := Lib.hid (show AccWr w wr.drew (.slice X (growTo n all.length all).length c2) (growTo n all.length all) ∧ AccS w wr.drew (.slice Y (peaksH all).length cc) (peaksH all) from
            ⟨⟨(hg.on (Below.refl _ _).drew).writes, (hg.on (Below.refl _ _).drew).below⟩, ⟨(hg.on (Below.refl _ _).drew).peaks, (hg.on (Below.refl _ _).drew).below⟩⟩)
          generalize (growTo n all.length all).length = mx at d2 HF
          generalize (peaksH all).length = my at d1 HF
          clear hB hmt hat hs4 hlen hT hz hg hH
          go_upto_region 14 with fail
          go_still (by kernel_rfl)
          go_wp2_with fail
          exact bodyPost_ret (v := .tuple #[.slice X mx c2, .slice Y my cc]) (by simp [results, Tryd.results20, go_sem]) rfl ⟨X, mx, c2, Y, my, cc, rfl, HF.out⟩
set_option maxHeartbeats 1000000 in
set_option maxRecDepth 100000 in
theorem grow_none (l0 : List ByteArray) (A B : Option Addr) (n k m c d : Nat) (w : World) (hn : n = l0.length) (hk : k = (peaksH l0).length + 1) (hl : n ≤ 1000) :
    Calls Tryd.prog 20 #[.int .i64 (n : Int), .slice A k c, .slice B m d] w (fun e w' => ∃ X c1 Y c2, e = .returned (.tuple #[.slice X 0 c1, .slice Y 0 c2]) ∧ Below w.heap.size w w') := by
  obtain ⟨q, hq⟩ : ∃ q, q = onesN 10 n := ⟨_, rfl⟩
  have h1 : k = q + 1 := by rw [hk, hq, hn]; rw [peaksH_ones l0 (by omega)]
  have HO := Lib.hid (fun W => ones_any n hl W)
  rw [← hq] at HO
  have hkq : ((k : Int) != (q : Int)) = true := by rw [bne_iff_ne]; omega
  have hnw : IntKind.u64.wrap (n : Int) = (n : Int) := by rw [IntKind.wrap_u64]; omega
  clear hn hk hq h1
  go_enter Tryd.func20, Tryd.ntmps20
  go_wp2_with (go_at_call 32; refine (HO.out _).mono ?_; rintro e wq ⟨rfl, hw⟩; rw [← hw]; clear hw wq)
  exact bodyPost_ret (v := .tuple #[.slice none 0 0, .slice none 0 0]) (by simp [results, Tryd.results20, go_sem]) rfl ⟨_, _, _, _, rfl, Below.refl _ _⟩
end Go.Proofs.YtmbmkmigcmlodaaDoor
namespace Go.Proofs.YtmbmkmigcmlodaaDoor
open Go.RowKit

set_option maxHeartbeats 1000000 in
set_option maxRecDepth 100000 in
theorem rsameW_any (A B : Option Addr) (c d n : Nat) (ts : List Wr) (w : World) (ha : WrIn w A ts) (hb : WrIn w B ts) (hn : n = ts.length) (hn2 : n ≤ 100000) :
    Calls Tryd.prog 21 #[.slice A n c, .slice B n d] w (fun e w' => e = .returned (.bool true) ∧ ∃ q, w' = w.drewN q) := by
  have H0 := Lib.hid (And.intro ha (And.intro hb hn))
  clear ha hb hn
  have hne : ((n : Int) != (n : Int)) = false := by simp
  go_enter Tryd.func21, Tryd.ntmps21
  go_wp2_with fail
  go_loopg [5] n (fun g i wr => ∃ k : Nat, k ≤ n ∧ g = n - k ∧ i = .int .i64 (k : Int) ∧ Hid (∃ q, wr = w.drewN q))
  case atStart => exact ⟨0, by omega, rfl, rfl, Lib.hid ⟨0, rfl⟩⟩
  case round =>
    obtain ⟨k, hk, rfl, rfl, hH⟩ := hrel
    by_cases hlt : k < n
    · have hki : (k : Int) < (n : Int) := by omega
      obtain ⟨ha, hb, hn⟩ := H0.out
      obtain ⟨⟨x, y, z⟩, hs⟩ : ∃ t, ts[k]? = some t := ⟨ts[k]'(by omega), List.getElem?_eq_getElem _⟩
      obtain ⟨q, hq⟩ := hH.out
      have HQ := Lib.hid hq
      have hB : Below w.heap.size w wr.drew := by rw [hq]; exact below_drewN (Below.refl _ _) (q + 1)
      obtain ⟨g, rfl, ga, g3⟩ := ha k _ hs
      obtain ⟨g', rfl, ga', g3'⟩ := hb k _ hs
      obtain ⟨e1, e2, e3⟩ := g3.load (by rw [addr_add_block]; exact ga) hB
      obtain ⟨f1, f2, f3⟩ := g3'.load (by rw [addr_add_block]; exact ga') hB
      simp only at e1 e2 e3 f1 f2 f3
      clear ha hb hn hs ga g3 ga' g3' hq hB
      go_upto_region 6 with (fail)
      go_still (by kernel_rfl)
      change Exit.then _ _ _ _ wr.drew
      go_wp2_with fail
      go_roundg (n - (k + 1))
      case measure => omega
      case rel => exact ⟨k + 1, by omega, rfl, by go_num, Lib.hid ⟨q + 1, by rw [HQ.out]; rfl⟩⟩
    · have hki : ¬ (k : Int) < (n : Int) := by omega
      go_wp2_with fail
      go_ret
      exact ⟨rfl, hH.out⟩
end Go.Proofs.YtmbmkmigcmlodaaDoor
namespace Go.Proofs.YtmbmkmigcmlodaaDoor
open Go.RowKit

/-- The first 60 bytes. -/
def cut60 (s : ByteArray) : ByteArray := if 60 < s.size then s.extract 0 60 else s
theorem cut60_size (s : ByteArray) : (cut60 s).size ≤ 60 := by
  unfold cut60
  split
  · rw [ByteArray.size_extract]; omega
  · omega
set_option maxHeartbeats 1000000 in
set_option maxRecDepth 100000 in
theorem few_any (s : ByteArray) (hs : s.size ≤ 9223372036854775807) (w : World) : Calls Tryd.prog 7 #[.string s] w (StrP w (cut60 s)) := by
  by_cases h : 60 < s.size
  · have hi : (60 : Int) < (s.size : Int) := by omega
    have h2 : 60 ≤ s.size := by omega
    have HE := Lib.hid (show s.extract 0 60 = cut60 s by unfold cut60; rw [if_pos h])
    go_enter Tryd.func7, Tryd.ntmps7
    go_wp2_with fail
    go_ret
    exact ⟨by rw [← HE.out]; rfl, Below.refl _ _⟩
  · have hi : ¬ (60 : Int) < (s.size : Int) := by omega
    have HE := Lib.hid (show s = cut60 s by unfold cut60; rw [if_neg h])
    go_enter Tryd.func7, Tryd.ntmps7
    go_wp2_with fail
    go_ret
    exact ⟨by rw [← HE.out]; rfl, Below.refl _ _⟩
end Go.Proofs.YtmbmkmigcmlodaaDoor
