/- Contract of sum. -/
import Derived.Test.YtmbmkmigcmlodaaDoorDgWrite
import Derived.Test.YtmbmkmigcmlodaaDoorDgEnd
import Derived.Test.YtmbmkmigcmlodaaDoorDgStart
import Derived.StillTailTactics
import Derived.Deep.RegionHeld3
import Derived.Deep.DeepCutAuto
import Derived.Deep.RegionWith
import Derived.Maps.AppendAt
import Derived.RangeFuncBox
namespace Go.Proofs.YtmbmkmigcmlodaaDoor
open Go.RowKit

/-- A word's bytes, the highest first. -/
def beL (x : Int) : List Int := [x / 16777216 % 256, x / 65536 % 256, x / 256 % 256, x % 256]
/-- The bytes of the first j words. -/
def outL (st : List Int) (j : Nat) : List Int := (List.range j).flatMap fun i => beL (st.getD i 0)
theorem outL_succ (st : List Int) (j : Nat) : outL st (j + 1) = outL st j ++ beL (st.getD j 0) := by simp [outL, List.range_succ]
theorem outL_length (st : List Int) : ∀ j, (outL st j).length = 4 * j
  | 0 => rfl
  | j + 1 => by rw [outL_succ, List.length_append, outL_length st j]; rfl

/-- An ending's bytes. -/
def padL (s many : Nat) : List Int := (List.range s).map (endF s many 8)
theorem endF_bytes (s many k i : Nat) : 0 ≤ endF s many k i ∧ endF s many k i < 256 := by
  unfold endF
  split
  · exact ⟨Int.emod_nonneg _ (by omega), Int.emod_lt_of_pos _ (by omega)⟩
  · split <;> omega
theorem padL_bytes (s many : Nat) : ∀ e ∈ padL s many, 0 ≤ e ∧ e < 256 := fun e he => by
  simp only [padL, List.mem_map] at he
  obtain ⟨i, _, rfl⟩ := he
  exact endF_bytes s many 8 i

theorem run_index8 (st : List Int) (j : Nat) (hj : j < 8) (w : World) : (Instr.index 96 (.agg #[.int .u32 (st[0]?.getD 0), .int .u32 (st[1]?.getD 0), .int .u32 (st[2]?.getD 0), .int .u32 (st[3]?.getD 0), .int .u32 (st[4]?.getD 0), .int .u32 (st[5]?.getD 0), .int .u32 (st[6]?.getD 0), .int .u32 (st[7]?.getD 0)]) (.int .i64 (j : Int))).run Tryd.prog w = .ok (.int .u32 (st.getD j 0)) w := by
  obtain ⟨i0, hi, hs⟩ := Option.map_eq_some_iff.1 infoU32
  refine run_index_arr Tryd.underlying96 Tryd.underlying56 hi hs ?_ hj w
  obtain h | h | h | h | h | h | h | h : j = 0 ∨ j = 1 ∨ j = 2 ∨ j = 3 ∨ j = 4 ∨ j = 5 ∨ j = 6 ∨ j = 7 := by omega
  all_goals subst h; simp

set_option maxHeartbeats 1000000 in
set_option maxRecDepth 100000 in
theorem sum32_any (C : Array Value) (Ks ini msg : List Int) (n s : Nat) (w : World) (h2 : 3 + 1 ≤ w.heap.size) (hrun : RunC .u32 C (stB (foldL32 Ks) ini 64 msg n) 64 n msg) (hlt : msg.length < 64 * (n + 1)) (hmsg : Bytes msg) (hlen : msg.length ≤ 100000000)
    (hs : Hid (s = endSize 64 8 msg.length)) (hK : ∀ i, i < 80 → w.cell? ⟨3, i, none⟩ = some (.int .u64 (Ks.getD i 0))) :
    Calls Tryd.prog 76 #[.agg C] w fun e w' => ∃ v st, e = .returned v ∧ Hid (∃ n', stB (foldL32 Ks) ini 64 (msg ++ padL s msg.length) n' = st ∧ 64 * n' ≤ (msg ++ padL s msg.length).length ∧ (msg ++ padL s msg.length).length < 64 * (n' + 1)) ∧
      Below w.heap.size w w' ∧ w'.ownsRow (w.heap.size + 1) 5 1 v 32 ((outL st 8).map (Value.int .u8)) := by
  have hsz := hrun.size
  have hone : C.all (·.oneCell') = true := by
    rw [Array.all_eq_true_iff_forall_mem]
    intro v hv
    rw [Array.mem_iff_getElem] at hv
    obtain ⟨i, hi, rfl⟩ := hv
    exact hrun.one i _ (Array.getElem?_eq_getElem hi)
  have hCb := heap_alloc_new w (.cells C 99)
  have hmany : (w.alloc (.cells C 99)).cell? ⟨w.heap.size, 136, none⟩ = some (.int .i64 msg.length) := by
    rw [cell_of_row _ _ 136 C _ (0, 0) hCb]; exact hrun.many
  have hs1 : (w.alloc (.cells C 99)).heap.size = w.heap.size + 1 := by simp
  have hK1 : ∀ i, i < 80 → (w.alloc (.cells C 99)).cell? ⟨3, i, none⟩ = some (.int .u64 (Ks.getD i 0)) := fun i hi => (World.cell?_of_block (Below.heap_alloc _ _ 3 (by omega))).trans (hK i hi)
  have hB0 : Below w.heap.size w (w.alloc (.cells C 99)) := (Below.refl _ _).alloc (Nat.le_refl _) _
  obtain ⟨w1, hw1⟩ : ∃ w1, w1 = w.alloc (.cells C 99) := ⟨_, rfl⟩
  rw [← hw1] at hCb hmany hs1 hK1 hB0
  have HW := Lib.hid hw1
  clear hw1
  have h31 : ∀ w2 : World, w1.heap.size ≤ w2.heap.size → (∀ k, k < w1.heap.size → w2.heap[k]? = w1.heap[k]?) → w2.rowIs w1.heap.size 5 s (fun i => .int .u8 (endF s msg.length 8 i)) →
      Calls Tryd.prog 75 #[.pointer (some ⟨w.heap.size, 0, none⟩), .slice (some ⟨w1.heap.size, 0, none⟩) s s] w2 fun e w' => e = .returned (.tuple #[]) ∧ w2.grownBy w' (some w.heap.size) ∧
        ∃ C' n', w'.heap[w.heap.size]? = some (.cells C' 99 (0, 0)) ∧ RunC .u32 C' (stB (foldL32 Ks) ini 64 (msg ++ padL s msg.length) n') 64 n' (msg ++ padL s msg.length) ∧ (msg ++ padL s msg.length).length < 64 * (n' + 1) := fun w2 hsz2 hk2 hrow => by
    have hl : (padL s msg.length).length = s := by simp [padL]
    have hs73 : s ≤ 73 := by have := hs.out; unfold endSize at this; split at this <;> omega
    have h := write32_any 99 w.heap.size C Ks ini msg (padL s msg.length) n (some ⟨w1.heap.size, 0, none⟩) s w2 h2 ((hk2 _ (by omega)).trans hCb) hrun hlt hmsg (padL_bytes s msg.length) (by rw [hl]; omega)
      (fun _ => ⟨_, rfl, ⟨World.rowIs.lt hrow, by show w1.heap.size ≠ w.heap.size; omega⟩, fun i e he => by
        have hi : i < s := by have := (List.getElem?_eq_some_iff.1 he).1; omega
        have := World.rowIs.cell hrow hi
        rw [Addr.add_mid, Nat.zero_add, this]
        simp [padL, hi] at he
        rw [he]⟩) (by omega) (fun i hi => (World.cell?_of_block (hk2 3 (by omega))).trans (hK1 i hi))
    rw [hl] at h
    exact h
  have H31 := Lib.hid h31
  have HH := Lib.hid (And.intro hK (And.intro hCb (And.intro hsz (And.intro hone (And.intro hB0 hs1)))))
  clear hrun hlt hmsg hK hCb hsz hone hs1 hK1 hB0 h31
  go_enter Tryd.func76, Tryd.ntmps76
  go_wp2_with fail
  rw [← HW.out]
  go_cut [2] (fun v w' => v = .slice none 0 0 ∧ Below w.heap.size w w' ∧ ∃ C' n', w'.heap[w.heap.size]? = some (.cells C' 99 (0, 0)) ∧ RunC .u32 C' (stB (foldL32 Ks) ini 64 (msg ++ padL s msg.length) n') 64 n' (msg ++ padL s msg.length) ∧ (msg ++ padL s msg.length).length < 64 * (n' + 1))
  case first =>
    go_region_with (first | (go_at_call 90; refine (bs32_any _).mono ?_; rintro e w' ⟨rfl, rfl⟩) | (go_at_call 91; refine (width32_any _).mono ?_; rintro e w' ⟨rfl, rfl⟩) | (go_at_call 89; refine (end32_any msg.length s (by omega) hs _).mono ?_; rintro e w2 ⟨rfl, hB2⟩) | (go_at_call 75; refine (H31.out _ hB2.1.size hB2.1.block hB2.2).mono ?_; rintro e w3 ⟨rfl, hw3⟩))
    all_goals go_wp2
    all_goals
      go_meet
      case rel =>
        obtain ⟨hg, C', n', h1, h2', h3⟩ := hw3
        obtain ⟨_, _, _, _, hB0, hs1⟩ := HH.out
        have hb : Below w.heap.size w1 w2 := ⟨hB2.1.os, hB2.1.tape, hB2.1.output, hB2.1.size, fun k hk => hB2.1.block k (by show k < w1.heap.size; omega)⟩
        exact ⟨rfl, (hB0.trans hb).grown hg (by have := hB2.1.size; have : w1.heap.size ≤ w2.heap.size := this; omega) (fun k e => by cases e; exact Nat.le_refl _), C', n', h1, h2', h3⟩
  case rest =>
    obtain ⟨rfl, hBc, C', n', hC', hr', hl'⟩ := hcut
    obtain ⟨hK, _, _, _, _, hs1⟩ := HH.out
    have hst := hr'.st
    have hwc : w.heap.size < wc.heap.size := (Array.getElem?_eq_some_iff.1 hC').1
    have HQ := Lib.hid (And.intro hBc (And.intro hC' (And.intro hr' (And.intro hl' hst))))
    have f : ∀ i, i < 8 → wc.cell? ⟨w.heap.size, i, none⟩ = some (.int .u32 ((stB (foldL32 Ks) ini 64 (msg ++ padL s msg.length) n').getD i 0)) := fun i hi => by rw [cell_of_row wc _ i C' _ (0, 0) hC']; exact hst i hi
    have hlo' := hr'.lo
    generalize hSt : stB (foldL32 Ks) ini 64 (msg ++ padL s msg.length) n' = st at *
    have HS := Lib.hid (Exists.intro (p := fun n' => stB (foldL32 Ks) ini 64 (msg ++ padL s msg.length) n' = st ∧ 64 * n' ≤ (msg ++ padL s msg.length).length ∧ (msg ++ padL s msg.length).length < 64 * (n' + 1)) n' ⟨hSt, hlo', hl'⟩)
    clear hSt hlo'
    have f0 := f 0 (by omega)
    have f1 := f 1 (by omega)
    have f2 := f 2 (by omega)
    have f3 := f 3 (by omega)
    have f4 := f 4 (by omega)
    have f5 := f 5 (by omega)
    have f6 := f 6 (by omega)
    have f7 := f 7 (by omega)
    clear f hBc hC' hr' hl' hst hK hs1 hmany HH H31 HW
    go_wp2_with fail
    clear f0 f1 f2 f3 f4 f5 f6 f7
    obtain ⟨i0, hi, hz0, hz1, hz2⟩ := info_parts infoU8
    go_loopg [3, 16] 8 (fun g v i wr => ∃ j : Nat, j ≤ 8 ∧ g = 8 - j ∧ i = .int .i64 j ∧ Below w.heap.size w wr ∧ wc.heap.size ≤ wr.heap.size ∧ wr.ownsRow wc.heap.size 5 1 v (4 * j) ((outL st j).map (Value.int .u8)))
    case atStart => exact ⟨0, by omega, rfl, rfl, HQ.out.1, Nat.le_refl _, World.ownsRow_nil _ _ _ _⟩
    case round =>
      obtain ⟨j, hj, rfl, rfl, hB, hsz, hown⟩ := hrel
      by_cases hjl : j < 8
      · have hjz : (j : Int) < 8 := by omega
        have hidx := run_index8 st j hjl
        have HO := Lib.hid (And.intro hB (And.intro hsz hown))
        clear hB hsz hown
        go_wp2_with (go_at_call 91; refine (width32_any _).mono ?_; rintro e w' ⟨rfl, rfl⟩)
        go_loopg [3, 6] 4 (fun g v i wi => ∃ k : Nat, k ≤ 4 ∧ g = 4 - k ∧ i = .int .i64 (24 - 8 * (k : Int)) ∧ Below w.heap.size w wi ∧ wc.heap.size ≤ wi.heap.size ∧ wi.ownsRow wc.heap.size 5 1 v (4 * j + k) ((outL st j ++ (beL (st.getD j 0)).take k).map (Value.int .u8)))
        case atStart =>
          obtain ⟨hB, hsz, hown⟩ := HO.out
          exact ⟨0, by omega, rfl, rfl, hB, hsz, by simpa using hown⟩
        case round =>
          obtain ⟨k, hk, rfl, rfl, hB, hsz, hown⟩ := hrel
          clear HO
          by_cases hkl : k < 4
          · have hk4 : k = 0 ∨ k = 1 ∨ k = 2 ∨ k = 3 := by omega
            have HO := Lib.hid (And.intro hB (And.intro hsz hown))
            clear hB hown hidx
            rcases hk4 with rfl | rfl | rfl | rfl
            all_goals
              go_wp2_with (at_builtin; refine wpList_append_own _ rfl _ _ 44 rfl wc.heap.size 5 i0 (.int .u8 0) 1 1 Tryd.underlying44 hi hz0 hz1 hz2 rfl (by decide) _ _ _ rfl (HO.out.2.2.alloc _) ⟨wr.heap.size, 0, none⟩ 1 1 [_] rfl rfl (cell_one_new _ _ _) (fun u hu => by rw [List.mem_singleton] at hu; subst hu; rfl) (by unfold maxLen; omega) (by omega) (by simp; omega) ?_; intro v' w4 hown4 hgrow4 _; have H4 := Lib.hid (And.intro hown4 hgrow4); clear hown4 hgrow4)
            · go_roundg 3
              case measure => omega
              case rel =>
                obtain ⟨hB, _, hown⟩ := HO.out
                obtain ⟨h4, hg4⟩ := H4.out
                exact ⟨1, by omega, rfl, rfl, (hB.alloc (by omega) _).grown hg4 (by simp; omega) (fun k e => by have := own_ge hown e; omega), by have := hg4.size; simp at this; omega, by simpa [beL] using h4⟩
            · go_roundg 2
              case measure => omega
              case rel =>
                obtain ⟨hB, _, hown⟩ := HO.out
                obtain ⟨h4, hg4⟩ := H4.out
                exact ⟨2, by omega, rfl, rfl, (hB.alloc (by omega) _).grown hg4 (by simp; omega) (fun k e => by have := own_ge hown e; omega), by have := hg4.size; simp at this; omega, by simpa [beL] using h4⟩
            · go_roundg 1
              case measure => omega
              case rel =>
                obtain ⟨hB, _, hown⟩ := HO.out
                obtain ⟨h4, hg4⟩ := H4.out
                exact ⟨3, by omega, rfl, rfl, (hB.alloc (by omega) _).grown hg4 (by simp; omega) (fun k e => by have := own_ge hown e; omega), by have := hg4.size; simp at this; omega, by simpa [beL] using h4⟩
            · go_roundg 0
              case measure => omega
              case rel =>
                obtain ⟨hB, _, hown⟩ := HO.out
                obtain ⟨h4, hg4⟩ := H4.out
                exact ⟨4, by omega, rfl, rfl, (hB.alloc (by omega) _).grown hg4 (by simp; omega) (fun k e => by have := own_ge hown e; omega), by have := hg4.size; simp at this; omega, by simpa [beL] using h4⟩
          · obtain rfl : k = 4 := by omega
            have HO := Lib.hid (And.intro hB (And.intro hsz hown))
            clear hB hsz hown
            go_wp2
            go_roundg (8 - (j + 1))
            case measure => omega
            case rel =>
              obtain ⟨hB, hsz, hown⟩ := HO.out
              refine ⟨j + 1, by omega, rfl, by go_num, hB, hsz, ?_⟩
              rw [outL_succ]
              exact hown
      · obtain rfl : j = 8 := by omega
        have HO := Lib.hid (And.intro hB (own_mono (show w.heap.size + 1 ≤ wc.heap.size by omega) hown))
        clear hB hsz hown
        go_wp2
        go_ret
        exact ⟨_, st, rfl, HS, HO.out.1, HO.out.2⟩
end Go.Proofs.YtmbmkmigcmlodaaDoor
