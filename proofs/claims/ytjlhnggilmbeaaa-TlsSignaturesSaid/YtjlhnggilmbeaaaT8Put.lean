/- The program's put: numbers behind bytes, each in so many bytes, the highest first. -/
import Derived.Test.YtjlhnggilmbeaaaT8Grow
import Derived.Test.YtjlhnggilmbeaaaT8Big
namespace Go.Proofs.Ytjlhnggilmbeaaa
open Go.RowKit

/-- The first k bytes of a number of so many. -/
def bigT (ns : Nat) (x : Int) (k : Nat) : List Int := (bigL ns x).take k
theorem bigT_zero (ns : Nat) (x : Int) : bigT ns x 0 = [] := rfl
theorem bigT_all (ns : Nat) (x : Int) : bigT ns x ns = bigL ns x := List.take_of_length_le (by rw [bigL_length]; exact Nat.le_refl _)
theorem bigT_length (ns : Nat) (x : Int) (k : Nat) (h : k ≤ ns) : (bigT ns x k).length = k := by simp [bigT, bigL_length]; omega
theorem bigT_next (ns : Nat) (x : Int) (k : Nat) (h : k < ns) : bigT ns x (k + 1) = bigT ns x k ++ [x / 256 ^ (ns - 1 - k) % 256] := by
  unfold bigT
  rw [List.take_add_one]
  congr 1
  simp [bigL, h, bigB]
  omega
theorem pow_at (x : Int) (t : Nat) : x / 2 ^ (8 * t) = x / 256 ^ t := by rw [show (2 : Int) ^ (8 * t) = (2 ^ 8) ^ t from Int.pow_mul]; rfl
/-- Numbers that came in, in a block that is not the row's own. -/
def NumsIn (w : World) (v : Value) (H : Nat) (ns : List Int) : Prop := H < w.heap.size ∧ v.ownBlock ≠ some H ∧ ∀ i n, ns[i]? = some n → w.cell? ⟨H, i, none⟩ = some (.int .i64 n)
theorem NumsIn.grow {w w' : World} {v v' : Value} {H : Nat} {ns : List Int} (h : NumsIn w v H ns) (hg : Grow w w' v v') : NumsIn w' v' H ns :=
  ⟨Nat.lt_of_lt_of_le h.1 hg.size, hg.far h.1 h.2.1, fun i n hn => (hg.cell (p := ⟨H, i, none⟩) h.1 h.2.1).trans (h.2.2 i n hn)⟩
def putL (wd : Nat) (ns : List Int) : List Int := ns.flatMap (bigL wd)
theorem putL_next (wd : Nat) (ns : List Int) (n : Int) : putL wd (ns ++ [n]) = putL wd ns ++ bigL wd n := by simp [putL]
theorem putL_length (wd : Nat) (ns : List Int) : (putL wd ns).length = wd * ns.length := by
  induction ns with
  | nil => rfl
  | cons n r ih => simp [putL, bigL_length] at ih ⊢; rw [ih, Nat.mul_succ]; omega
def PutPost (w0 w : World) (v : Value) (us : List Int) (e : Ending) (w' : World) : Prop := ∃ Y n c, e = .returned (.slice Y n c) ∧ n = us.length ∧ Acc w0 w' (.slice Y n c) us ∧ Grow w w' v (.slice Y n c)

set_option maxRecDepth 100000 in
set_option maxHeartbeats 1000000 in
theorem put_any (Y0 : Option Addr) (n0 c0 wd : Nat) (us : List Int) (H c : Nat) (ns : List Int) (w0 w : World) (hv : Acc w0 w (.slice Y0 n0 c0) us) (hn0 : n0 = us.length) (hH : NumsIn w (.slice Y0 n0 c0) H ns) (hw : wd ≤ 8) (hns : ns.length ≤ 4)
    (hr : ∀ n ∈ ns, -9223372036854775808 ≤ n ∧ n ≤ 9223372036854775807) (hl : us.length ≤ 90000) :
    Calls Try.prog 34 #[.slice Y0 n0 c0, .int .i64 (wd : Int), .slice (some ⟨H, 0, none⟩) ns.length c] w (PutPost w0 w (.slice Y0 n0 c0) (us ++ putL wd ns)) := by
  obtain ⟨N, hN⟩ : ∃ N, N = ns.length := ⟨_, rfl⟩
  rw [← hN]
  have hN4 : N ≤ 4 := by omega
  have HV := Lib.hid (And.intro hv (And.intro hn0 (And.intro hH (And.intro hr (And.intro hl hN)))))
  clear hv hn0 hH hr hl hN hns
  go_enter Try.func34, Try.ntmps34
  go_wp2_with fail
  go_loopg [0, 12] N (fun g v i wr => ∃ (k m cc : Nat) (Y : Option Addr), k ≤ N ∧ g = N - k ∧ i = .int .i64 (k : Int) ∧ v = .slice Y m cc ∧ Hid (m = (us ++ putL wd (ns.take k)).length) ∧ Hid (Acc w0 wr (.slice Y m cc) (us ++ putL wd (ns.take k)) ∧ Grow w wr (.slice Y0 n0 c0) (.slice Y m cc)))
  case atStart => exact ⟨0, n0, c0, Y0, by omega, rfl, rfl, rfl, Lib.hid (by simp [putL]; exact HV.out.2.1), Lib.hid ⟨by simpa [putL] using HV.out.1, Grow.refl _ _⟩⟩
  case round =>
    obtain ⟨k, m, cc, Y, hk, rfl, rfl, rfl, hm, hA⟩ := hrel
    by_cases hlt : k < N
    · obtain ⟨x, hx⟩ : ∃ x, ns[k]? = some x := ⟨ns[k]'(by have := HV.out.2.2.2.2.2; omega), List.getElem?_eq_getElem _⟩
      have hki : (k : Int) < (N : Int) := by omega
      have hc := (HV.out.2.2.1.grow hA.out.2).2.2 k x hx
      have hxr := HV.out.2.2.2.1 x (List.mem_of_getElem? hx)
      have ht : ns.take (k + 1) = ns.take k ++ [x] := by rw [List.take_add_one, hx]; rfl
      have HT := Lib.hid (And.intro ht hxr)
      obtain ⟨hx0, hx1⟩ := hxr
      clear ht hx
      go_upto_region 4 with (fail)
      clear hc
      go_wp2_with fail
      go_loopg [0, 9] wd (fun g v i wr2 => ∃ (j m cc : Nat) (Y2 : Option Addr), j ≤ wd ∧ g = wd - j ∧ i = .int .i64 (8 * ((wd : Int) - 1 - (j : Int))) ∧ v = .slice Y2 m cc ∧ Hid (m = (us ++ putL wd (ns.take k) ++ bigT wd x j).length) ∧ Hid (Acc w0 wr2 (.slice Y2 m cc) (us ++ putL wd (ns.take k) ++ bigT wd x j) ∧ Grow w wr2 (.slice Y0 n0 c0) (.slice Y2 m cc)))
      case atStart => exact ⟨0, m, cc, Y, by omega, rfl, congrArg (Value.int .i64) (by omega), rfl, Lib.hid (by simpa [bigT] using hm.out), Lib.hid ⟨by simpa [bigT] using hA.out.1, hA.out.2⟩⟩
      case round =>
        obtain ⟨j, m2, c2, Y2, hj, rfl, rfl, rfl, hm2, hA2⟩ := hrel
        by_cases hjl : j < wd
        · have hz : (0 : Int) ≤ 8 * ((wd : Int) - 1 - (j : Int)) := by omega
          have hwi : (wd : Int) ≤ 8 := by omega
          obtain ⟨Y3, n3, c3, W3, hr3, hn3, a3, g3⟩ := hA2.out.1.one' (x / 2 ^ (8 * (wd - 1 - j)) % 256) (by
            have h1 := bigT_length wd x j hj
            have h2 := putL_length wd (ns.take k)
            have h3 : wd * (ns.take k).length ≤ 8 * 4 := Nat.mul_le_mul hw (by have := HV.out.2.2.2.2.2; simp; omega)
            have := HV.out.2.2.2.2.1
            simp only [List.length_append]
            omega)
          have P3 := Lib.hid hr3
          have A3 := Lib.hid (And.intro a3 (And.intro g3 hn3))
          clear hr3 a3 g3 hn3
          go_wp2_with (at_builtin; refine wpList_append_run rfl _ _ 24 rfl rfl rfl P3.out ?_)
          go_roundg (wd - (j + 1))
          case measure => omega
          case rel =>
            obtain ⟨a3, g3, hn3⟩ := A3.out
            have e : us ++ putL wd (ns.take k) ++ bigT wd x (j + 1) = us ++ putL wd (ns.take k) ++ bigT wd x j ++ [x / 2 ^ (8 * (wd - 1 - j)) % 256] := by rw [bigT_next wd x j hjl, pow_at]; simp only [List.append_assoc]
            exact ⟨j + 1, n3, c3, Y3, by omega, rfl, by go_num, rfl, Lib.hid (by rw [hn3, e]; simp only [List.length_append, List.length_cons, List.length_nil]), Lib.hid ⟨by rw [e]; exact a3, hA2.out.2.trans g3⟩⟩
        · have hz : ¬ (0 : Int) ≤ 8 * ((wd : Int) - 1 - (j : Int)) := by omega
          obtain rfl : j = wd := by omega
          go_wp2_with fail
          go_roundg (N - (k + 1))
          case measure => omega
          case rel =>
            have h := hA2.out
            have h1 := hm2.out
            rw [bigT_all, List.append_assoc, ← putL_next, ← HT.out.1] at h h1
            exact ⟨k + 1, m2, c2, Y2, by omega, rfl, by go_num, rfl, Lib.hid h1, Lib.hid h⟩
    · obtain rfl : k = N := by omega
      have hki : ¬ (k : Int) < (k : Int) := by omega
      have h := hA.out
      have h1 := hm.out
      rw [List.take_of_length_le (by have := HV.out.2.2.2.2.2; omega)] at h h1
      have HQ := Lib.hid (And.intro h h1)
      clear h h1
      go_wp2_with fail
      go_ret
      exact ⟨Y, m, cc, rfl, HQ.out.2, HQ.out.1.1, HQ.out.1.2⟩
end Go.Proofs.Ytjlhnggilmbeaaa
