/- slices.Chunk over bytes: its iterator's contract. slices.Chunk over bytes, where a round may say 'no more'. -/
import Derived.Test.YtddalcledaiajaaBase
import Derived.Test.YtddalcledaiajaaMRangeLaw
import Derived.Shelf.RegionOpen
import Derived.OwnWalkIn
import Derived.TacticsInMore
import Derived.LoopNIn
import Derived.LoopIn
import Derived.Sort.CutIn
namespace Go.Proofs.Ytddalcledaiajaa
open Go.RowKit Go.Shelf
attribute [local go_sem] Oper.semAt_some

theorem keepsOthers_drewN (W : World) (q : Nat) : KeepsOthers W (W.drewN q) := ⟨Nat.le_refl _, fun _ _ h _ => h⟩

set_option maxHeartbeats 1000000 in
set_option maxRecDepth 100000 in
theorem chunk_iter (l D E n len cap : Nat) (X : Option Addr) (hn : 1 ≤ n) (hn2 : n ≤ 1000) (hlen : len ≤ 100000) (hcap : len ≤ cap) (hX : 0 < len → ∃ ad, X = some ad) (I : Nat → World → Prop)
    (hD : ∀ j W, I j W → W.cell? ⟨D, 0, none⟩ = some (.slice X len cap)) (hE : ∀ j W, I j W → W.cell? ⟨E, 0, none⟩ = some (.int .i64 (n : Int))) (hdr : ∀ j W, I j W → I j W.drew)
    (BB : World → Prop) (hBB : ∀ A A', BB A → KeepsOthers A A' → BB A')
    (hY : ∀ ad j W1, X = some ad → j < len → I j W1 → BB W1 → YieldAt Fence.wide 5 Try.prog l #[.slice (some (ad.add j)) (min n (len - j)) (min n (len - j))] W1 fun e W' => e = .returned (.bool true) ∧ I (j + min n (len - j)) W' ∧ BB W')
    (W : World) (h0 : I 0 W) (hB0 : BB W) :
    CallsIn Fence.wide 6 Try.prog 49 #[.func (.yield l) #[] #[], .pointer (some ⟨D, 0, none⟩), .pointer (some ⟨E, 0, none⟩)] W fun e W' => (∃ v, e = .returned v) ∧ I len W' ∧ BB W' := by
  refine callsIn_of_wp Try.func49 rfl trivial ?_ rfl
  simp only [Try.ntmps49, List.size_toArray, List.length_cons, List.length_nil, Nat.reduceAdd, Nat.reduceSub, Array.replicate_succ, Array.replicate_zero, List.push_toArray, List.append_toArray, List.nil_append, List.cons_append]
  have HH := Lib.hid (And.intro hX (And.intro hD (And.intro hE (And.intro hdr (And.intro hBB (And.intro hY (And.intro h0 hB0)))))))
  clear hX hD hE hdr hBB hY h0 hB0
  gi_wp2_with (fail)
  gi_loopw [4] (fun i wr => ∃ k : Nat, k ≤ len + n ∧ i = .int .i64 (k : Int) ∧ I (min k len) wr ∧ BB wr) (fun i _ => len + n - (intOf i).toNat)
  case atStart =>
    obtain ⟨hX, hD, hE, hdr, hBB, hY, h0, hB0⟩ := HH.out
    exact ⟨0, by omega, rfl, by rw [Nat.zero_min]; exact h0, hB0⟩
  case round =>
    obtain ⟨j, hj, rfl, hI, hB⟩ := hrel
    have cD := HH.out.2.1 _ _ hI
    have cE := HH.out.2.2.1 _ _ hI
    by_cases hlt : j < len
    · obtain ⟨ad, rfl⟩ := HH.out.1 (by omega)
      obtain ⟨t, ht⟩ : ∃ t, t = min n (len - j) := ⟨_, rfl⟩
      have ht1 : 1 ≤ t := by omega
      have ht2 : t ≤ len - j := by omega
      rw [show min j len = j by omega] at hI
      have HT := Lib.hid ht
      have HI := Lib.hid (And.intro hI hB)
      clear hI hB ht
      gi_upto_region 3 with (fail)
      have hc : (j : Int) ≤ (cap : Int) := by omega
      have hmix : Try.prog.follows .mixedOrders = true := by kernel_rfl
      gi_cut [5] from 13 (fun v w' => v = .int .i64 (t : Int) ∧ w' = wr.drew)
      case first =>
        gi_region_with_o (fail)
        all_goals gi_wp2
        all_goals (gi_meet; case rel => exact ⟨by have := HT.out; congr 2; omega, rfl⟩)
      case rest =>
        obtain ⟨rfl, rfl⟩ := hcut
        obtain ⟨hI, hB⟩ := HI.out
        obtain ⟨fn, tmps, assign, body, hy, hR⟩ := HH.out.2.2.2.2.2.1 ad j wr.drew rfl hlt (HH.out.2.2.2.1 _ _ hI) (HH.out.2.2.2.2.1 _ _ hB (keepsOthers_drewN wr 1))
        rw [← HT.out] at hy hR
        have HR := Lib.hid hR
        clear hI hB hR hmix hc
        gi_wp2
        refine HR.out.mono ?_
        rintro e W4 ⟨rfl, hI4, hB4⟩
        have cE4 := HH.out.2.2.1 _ _ hI4
        have H4 := Lib.hid (And.intro hI4 hB4)
        clear hI4 hB4 hy cD cE
        gi_wp2
        obtain ⟨hI4, hB4⟩ := H4.out
        rw [show j + t = min (j + n) len by have := HT.out; omega] at hI4
        exact ⟨⟨j + n, by omega, by go_num, hI4, hB4⟩, by simp [intOf]; omega⟩
    · have HI := Lib.hid (And.intro hI hB)
      clear hI hB
      gi_wp2
      go_end0
      obtain ⟨hI, hB⟩ := HI.out
      rw [show min j len = len by omega] at hI
      exact ⟨⟨_, rfl⟩, hI, hB⟩

set_option maxHeartbeats 400000 in
theorem chunk_any (X : Option Addr) (len cap n : Nat) (hn : 1 ≤ n) (hn2 : n ≤ 1000) (w : World) :
    Calls Try.prog 33 #[.slice X len cap, .int .i64 (n : Int)] w fun e w' =>
      e = .returned (.func (.func 49) #[] #[.pointer (some ⟨w.heap.size, 0, none⟩), .pointer (some ⟨w.heap.size + 1, 0, none⟩)]) ∧ w' = (w.alloc (.cells #[.slice X len cap] 32)).alloc (.cells #[.int .i64 (n : Int)] 3) := by
  go_enter Try.func33, Try.ntmps33
  go_wp2
  go_ret
  exact ⟨rfl, rfl⟩
end Go.Proofs.Ytddalcledaiajaa
namespace Go.Proofs.Ytddalcledaiajaa
open Go.RowKit Go.Shelf
attribute [local go_sem] Oper.semAt_some

set_option maxHeartbeats 1000000 in
set_option maxRecDepth 100000 in
theorem chunk_stop (l D E n len cap : Nat) (X : Option Addr) (hn : 1 ≤ n) (hn2 : n ≤ 1000) (hlen : len ≤ 100000) (hcap : len ≤ cap) (hX : 0 < len → ∃ ad, X = some ad) (I : Nat → World → Prop)
    (hD : ∀ j W, I j W → W.cell? ⟨D, 0, none⟩ = some (.slice X len cap)) (hE : ∀ j W, I j W → W.cell? ⟨E, 0, none⟩ = some (.int .i64 (n : Int))) (hdr : ∀ j W, I j W → I j W.drew)
    (Ix Bx BB : World → Prop) (hBB : ∀ A A', BB A → KeepsOthers A A' → BB A')
    (hY : ∀ ad j W1, X = some ad → j < len → I j W1 → BB W1 → YieldAt Fence.wide 5 Try.prog l #[.slice (some (ad.add j)) (min n (len - j)) (min n (len - j))] W1 fun e W' => (e = .returned (.bool true) ∧ I (j + min n (len - j)) W' ∧ BB W') ∨ (e = .returned (.bool false) ∧ Ix W' ∧ Bx W'))
    (W : World) (h0 : I 0 W) (hB0 : BB W) :
    CallsIn Fence.wide 6 Try.prog 49 #[.func (.yield l) #[] #[], .pointer (some ⟨D, 0, none⟩), .pointer (some ⟨E, 0, none⟩)] W fun e W' => (∃ v, e = .returned v) ∧ ((I len W' ∧ BB W') ∨ (Ix W' ∧ Bx W')) := by
  refine callsIn_of_wp Try.func49 rfl trivial ?_ rfl
  simp only [Try.ntmps49, List.size_toArray, List.length_cons, List.length_nil, Nat.reduceAdd, Nat.reduceSub, Array.replicate_succ, Array.replicate_zero, List.push_toArray, List.append_toArray, List.nil_append, List.cons_append]
  have HH := Lib.hid (And.intro hX (And.intro hD (And.intro hE (And.intro hdr (And.intro hBB (And.intro hY (And.intro h0 hB0)))))))
  clear hX hD hE hdr hBB hY h0 hB0
  gi_wp2_with (fail)
  gi_loopw [4] (fun i wr => ∃ k : Nat, k ≤ len + n ∧ i = .int .i64 (k : Int) ∧ I (min k len) wr ∧ BB wr) (fun i _ => len + n - (intOf i).toNat)
  case atStart =>
    obtain ⟨hX, hD, hE, hdr, hBB, hY, h0, hB0⟩ := HH.out
    exact ⟨0, by omega, rfl, by rw [Nat.zero_min]; exact h0, hB0⟩
  case round =>
    obtain ⟨j, hj, rfl, hI, hB⟩ := hrel
    have cD := HH.out.2.1 _ _ hI
    have cE := HH.out.2.2.1 _ _ hI
    by_cases hlt : j < len
    · obtain ⟨ad, rfl⟩ := HH.out.1 (by omega)
      obtain ⟨t, ht⟩ : ∃ t, t = min n (len - j) := ⟨_, rfl⟩
      have ht1 : 1 ≤ t := by omega
      have ht2 : t ≤ len - j := by omega
      rw [show min j len = j by omega] at hI
      have HT := Lib.hid ht
      have HI := Lib.hid (And.intro hI hB)
      clear hI hB ht
      gi_upto_region 3 with (fail)
      have hc : (j : Int) ≤ (cap : Int) := by omega
      have hmix : Try.prog.follows .mixedOrders = true := by kernel_rfl
      gi_cut [5] from 13 (fun v w' => v = .int .i64 (t : Int) ∧ w' = wr.drew)
      case first =>
        gi_region_with_o (fail)
        all_goals gi_wp2
        all_goals (gi_meet; case rel => exact ⟨by have := HT.out; congr 2; omega, rfl⟩)
      case rest =>
        obtain ⟨rfl, rfl⟩ := hcut
        obtain ⟨hI, hB⟩ := HI.out
        obtain ⟨fn, tmps, assign, body, hy, hR⟩ := HH.out.2.2.2.2.2.1 ad j wr.drew rfl hlt (HH.out.2.2.2.1 _ _ hI) (HH.out.2.2.2.2.1 _ _ hB (keepsOthers_drewN wr 1))
        rw [← HT.out] at hy hR
        have HR := Lib.hid hR
        clear hI hB hR hmix hc
        gi_wp2
        refine HR.out.mono ?_
        rintro e W4 (⟨rfl, hI4, hB4⟩ | ⟨rfl, hI4, hB4⟩)
        · have cE4 := HH.out.2.2.1 _ _ hI4
          have H4 := Lib.hid (And.intro hI4 hB4)
          clear hI4 hB4 hy cD cE
          gi_wp2
          obtain ⟨hI4, hB4⟩ := H4.out
          rw [show j + t = min (j + n) len by have := HT.out; omega] at hI4
          exact ⟨⟨j + n, by omega, by go_num, hI4, hB4⟩, by simp [intOf]; omega⟩
        · have H4 := Lib.hid (And.intro hI4 hB4)
          clear hI4 hB4 hy cD cE
          gi_wp2
          (try simp only [Exit.inBlock, Exit.then])
          refine bodyPost_ret (results_none rfl _ _ _) rfl ?_
          exact ⟨⟨_, rfl⟩, .inr H4.out⟩
    · have HI := Lib.hid (And.intro hI hB)
      clear hI hB
      gi_wp2
      go_end0
      obtain ⟨hI, hB⟩ := HI.out
      rw [show min j len = len by omega] at hI
      exact ⟨⟨_, rfl⟩, .inl ⟨hI, hB⟩⟩
end Go.Proofs.Ytddalcledaiajaa
